/- The law LssStores returns true whatever address and acts come. -/
import Derived.Test.YthbmbabndhpdkaaLawLTak
namespace Go.Proofs.Ythbmbabndhpdkaa
open Go.RowKit
open Classical
set_option linter.unusedVariables false
set_option maxRecDepth 1000000
set_option linter.unusedSimpArgs false
def q41s : F8 := ⟨4, 1, 0, 0, 0, 0, 0, 0⟩
def q23s : F8 := ⟨23, 0, 0, 0, 0, 0, 0, 0⟩
/-- A slave in memory, whatever else there is. -/
structure LJ (g B : Nat) (w x : World) (s : Ls) : Prop where
  sz : B ≤ w.heap.size
  a : ∃ p n, n < x.heap.size ∧ Sa g n p s x
  below : Below B w x
  ok : s.Ok
section
variable {g B : Nat} {w x y : World} {s : Ls}
theorem LJ.take (h : LJ g B w x s) (hg : B ≤ g) (q : F8) : Calls Try.prog 15 #[.pointer (some ⟨g, 0, none⟩), .agg q.arr] x fun e y => e = .returned (.tuple #[.agg (s.takeA q).1.arr, .bool (s.takeA q).2]) ∧ LJ g B w y (s.takeS q) := by
  obtain ⟨hB, ⟨p, n, hn, S⟩, b, o⟩ := h
  refine (take_any S hn o q).mono ?_
  rintro e y ⟨h1, ⟨p', S'⟩, t⟩
  exact ⟨h1, hB, ⟨p', n, Nat.lt_of_lt_of_le hn t.size, S'⟩, b.trans (t.below (Nat.le_trans hB b.size) hg hg), o.takeS q⟩
theorem LJ.drawn (h : LJ g B w x s) (m : Nat) : LJ g B w (x.drewN m) s := by
  obtain ⟨hB, ⟨p, n, hn, S⟩, b, o⟩ := h
  exact ⟨hB, ⟨p, n, hn, S.drawn m⟩, below_drawn b m, o⟩
theorem LJ.id (h : LJ g B w x s) : Calls Try.prog 17 #[.pointer (some ⟨g, 0, none⟩)] x fun e y => e = .returned (.tuple #[.int .i64 s.ip, .int .i64 s.iu]) ∧ LJ g B w y s := by
  obtain ⟨p, n, hn, S⟩ := h.a
  refine (lid_any S).mono ?_
  rintro e y ⟨h1, m, rfl⟩
  exact ⟨h1, h.drawn m⟩
theorem LJ.rate (h : LJ g B w x s) : Calls Try.prog 21 #[.pointer (some ⟨g, 0, none⟩)] x fun e y => e = .returned (.tuple #[.int .i64 s.rp, .int .i64 s.ru]) ∧ LJ g B w y s := by
  obtain ⟨p, n, hn, S⟩ := h.a
  refine (lrate_any S).mono ?_
  rintro e y ⟨h1, m, rfl⟩
  exact ⟨h1, h.drawn m⟩
/-- What was stored, as three values. -/
def Ls.so (s : Ls) : Int × Int × Bool := match s.st with
  | none => (0, 0, false)
  | some (x, y) => (x, y, true)
theorem so_eq (s : Ls) : s.sto = .tuple #[.int .i64 s.so.1, .int .i64 s.so.2.1, .bool s.so.2.2] := by
  unfold Ls.sto Ls.so
  cases s.st with
  | none => rfl
  | some z => rfl
theorem LJ.stored (h : LJ g B w x s) : Calls Try.prog 18 #[.pointer (some ⟨g, 0, none⟩)] x fun e y => e = .returned (.tuple #[.int .i64 s.so.1, .int .i64 s.so.2.1, .bool s.so.2.2]) ∧ LJ g B w y s := by
  obtain ⟨p, n, hn, S⟩ := h.a
  refine (lstored_any S).mono ?_
  rintro e y ⟨h1, m, rfl⟩
  exact ⟨by rw [h1, so_eq], h.drawn m⟩
theorem LJ.store (h : LJ g B w x s) (hg : B ≤ g) (f : Bool) : Calls Try.prog 19 #[.pointer (some ⟨g, 0, none⟩), .bool f] x fun e y => e = .returned (.tuple #[]) ∧ LJ g B w y { s with fails := f } := by
  obtain ⟨hB, ⟨p, n, hn, S⟩, b, o⟩ := h
  refine (lsto_any S f).mono ?_
  rintro e y ⟨h1, S', t⟩
  exact ⟨h1, hB, ⟨p, n, Nat.lt_of_lt_of_le hn t.size, S'⟩, b.trans (t.below (Nat.le_trans hB b.size) hg hg), o.fails f⟩
theorem LJ.re (h : LJ g B w x s) (hg : B ≤ g) : Calls Try.prog 20 #[.pointer (some ⟨g, 0, none⟩)] x fun e y => e = .returned (.tuple #[]) ∧ LJ g B w y s.re := by
  obtain ⟨hB, ⟨p, n, hn, S⟩, b, o⟩ := h
  refine (lre_any S).mono ?_
  rintro e y ⟨h1, S', t⟩
  exact ⟨h1, hB, ⟨p, n, Nat.lt_of_lt_of_le hn t.size, S'⟩, b.trans (t.below (Nat.le_trans hB b.size) hg hg), o.re⟩
theorem LJ.mode (h : LJ g B w x s) : Calls Try.prog 16 #[.pointer (some ⟨g, 0, none⟩)] x fun e y => e = .returned (.int .i64 s.mode) ∧ y = x := by
  obtain ⟨p, n, hn, S⟩ := h.a
  exact lmode_any S
/-- A box for a document's slave that knows nothing, and an act by both. -/
theorem LJ.does (h : LJ g B w x s) (hg : B ≤ g) (a : A19) : Calls Try.prog 11 #[.pointer (some ⟨g, 0, none⟩), .pointer (some ⟨x.heap.size, 0, none⟩), .agg a.arr] (x.alloc (.cells (Ld.new A4.nul 0).arr 51)) fun e y => (∃ b, e = .returned (.bool b)) ∧ LJ g B w y (s.act a) := by
  obtain ⟨hB, ⟨p, n, hn, S⟩, b, o⟩ := h
  have S1 : Sa g x.heap.size p s (x.alloc (.cells (Ld.new A4.nul 0).arr 51)) := (S.leave (Nat.le_refl _)).alloc _
  have D1 : Da x.heap.size (Ld.new A4.nul 0) (x.alloc (.cells (Ld.new A4.nul 0).arr 51)) := heap_alloc_new x _
  have hgx := S.lt
  refine (does_any S1 o D1 Ld.nul_ok (by omega) a).mono ?_
  rintro e y ⟨h1, ⟨p', S'⟩, _, t⟩
  have sx := (Nat.le_trans hB b.size)
  have ba : Below B w (x.alloc (.cells (Ld.new A4.nul 0).arr 51)) := b.alloc sx _
  have bs : B ≤ (x.alloc (.cells (Ld.new A4.nul 0).arr 51)).heap.size := by simp; omega
  exact ⟨⟨_, h1⟩, hB, ⟨p', x.heap.size, Nat.lt_of_lt_of_le (by simp) t.size, S'⟩, ba.trans (t.below bs hg sx), o.act a⟩
end
theorem zD_eq : (Ld.new A4.nul 0).arr = #[.int .u32 0, .int .u32 0, .int .u32 0, .int .u32 0, .int .i64 0, .int .i64 0, .int .i64 0, .int .i64 0, .int .i64 0, .int .i64 0, .bool false, .bool false, .int .i64 0, .int .i64 0, .int .i64 0] := rfl
theorem q41_take (s : Ls) : s.takeS q41s = { s with mode := 1 } := rfl
theorem q23_take (s : Ls) (h : s.mode = 1) : s.takeS q23s = if s.fails then s else { s with st := some (s.ip, s.rp) } := by
  unfold Ls.takeS
  rw [if_neg (by decide), if_neg (by decide), if_pos h]
  rfl
theorem q41_arr : q41s.arr = #[.int .u8 4, .int .u8 1, .int .u8 0, .int .u8 0, .int .u8 0, .int .u8 0, .int .u8 0, .int .u8 0] := rfl
theorem q23_arr : q23s.arr = #[.int .u8 23, .int .u8 0, .int .u8 0, .int .u8 0, .int .u8 0, .int .u8 0, .int .u8 0, .int .u8 0] := rfl
set_option maxHeartbeats 8000000 in
theorem lsto_walk (a : A4k) (v : Value) (l : List A19) (fl : Bool) (hl : l.length ≤ 140737488351232) (w : World) (hW : Wide 10 A19.c w v l) : Calls Try.prog 6 #[.agg a.a.arr, v, .bool fl] w fun r w' => r = .returned (.bool true) ∧ Below w.heap.size w w' := by
  obtain ⟨ao, cap, rfl, _, hc⟩ := hW
  obtain ⟨X, B, hX, hq, bX, B0, sX⟩ := boxA w a.a
  have HC : Hid (∀ (wr : World), Below B w wr → ∀ k (hk : k < l.length), ∃ b off, ao = some ⟨b, off, none⟩ ∧ b < w.heap.size ∧ wr.rangeAt b (off + k * 10) (A19.c l[k])) := fun wr hb k hk => Wide.at hc (by rw [hq]; exact hb) k hk
  have lX := load_a4 bX
  have hN := lnew_ok a.a 0 ⟨by omega, by omega⟩ X
  have HL : Hid (∀ y, Calls Try.prog 10 #[] y fun e w' => e = .returned (.bool true) ∧ Below y.heap.size y w') := fun y => lives19_any y
  have o0 := Ls.new_ok a.ok (id := 0) ⟨by omega, by omega⟩
  obtain ⟨g, hg⟩ : ∃ g, X.heap.size + 1 = g := ⟨_, rfl⟩
  rw [hg] at hN
  have HX : Hid (X.heap.size = B + 1 ∧ g = B + 2 ∧ w.heap.size = B) := ⟨sX, by omega, hq⟩
  have HB0 := hidOf2 B0
  clear bX B0 hc sX hg
  rw [hq]
  go_enter Try.func6, Try.ntmps6
  go_wp2_with (refine ldG lX rfl _ rfl rfl ?_)
  refine hN.mono ?_
  rintro e w1 ⟨rfl, N1, B1⟩
  have HI : Hid (LJ g B w w1 (Ls.new a.a 0)) := by
    have K := HX.out
    have N := N1 B (by omega)
    exact ⟨by omega, ⟨none, B, by have := B1.size; omega, N⟩, (by have b := HB0.out; rw [K.2.2] at b; exact b.trans (B1.mono (by omega))), o0⟩
  have HG : Hid (B ≤ g) := by have K := HX.out; show B ≤ g; omega
  have HSZ : Hid (B ≤ w.heap.size) := HI.out.sz
  clear N1 B1 hN lX hX o0 HB0 HX
  go_wp2_with fail
  go_loopw [9] (fun s9 x => ∃ k s, k ≤ l.length ∧ s9 = .int .i64 (k : Nat) ∧ LJ g B w x s) (fun s9 _ => l.length - (intOf s9).toNat)
  case atStart => exact ⟨0, _, by omega, rfl, HI.out⟩
  case round =>
    clear HI
    obtain ⟨k, s, hk, rfl, J⟩ := hrel
    by_cases hkl : k < l.length
    · have hd : decide ((k : Int) < (l.length : Int)) = true := by simp; omega
      obtain ⟨b, off, rfl, hb, hR⟩ := HC.out wr J.below k hkl
      have hD := J.does HG.out l[k]
      have BX1 : Below B w (wr.alloc (.cells (Ld.new A4.nul 0).arr 51)) := J.below.alloc (Nat.le_trans J.sz J.below.size) _
      have lA : (loadVar 36 ⟨b, off + k * 10, none⟩).run Try.prog (wr.alloc (.cells (Ld.new A4.nul 0).arr 51)) = .ok (.agg l[k].arr) (wr.alloc (.cells (Ld.new A4.nul 0).arr 51)) := by
        obtain ⟨b', off', e, _, h9⟩ := HC.out _ BX1 k hkl
        injection e with e; injection e with e1 e2; subst e1; subst e2
        exact A19.load h9
      rw [zD_eq] at hD lA
      generalize s.act l[k] = s6 at *
      generalize l[k] = A at *
      clear hR J BX1
      go_wp2_with (refine ldG lA rfl _ rfl rfl ?_)
      refine hD.mono ?_
      rintro e w4 ⟨⟨bb, rfl⟩, J4⟩
      have HJ4 := hidOf2 J4
      clear J4 hD lA
      go_wp2
      go_roundw
      case rel => exact ⟨k + 1, _, by omega, by go_num, HJ4.out⟩
      case measure => simp [intOf]; omega
    · have hd : decide ((k : Int) < (l.length : Int)) = false := by simp; omega
      have h1 := J.take HG.out q41s
      rw [q41_take, q41_arr] at h1
      clear J
      go_wp2_with fail
      refine h1.mono ?_
      rintro e w1 ⟨rfl, J1⟩
      have h2 := J1.id
      go_wp2_with fail
      refine h2.mono ?_
      rintro e w2 ⟨rfl, J2⟩
      have h3 := J2.rate
      clear h1 J1
      go_wp2_with fail
      refine h3.mono ?_
      rintro e w3 ⟨rfl, J3⟩
      have h4 := J3.stored
      have es : ({ s with mode := 1 } : Ls).so = s.so := rfl
      rw [es] at h4
      clear h2 J2 es
      go_wp2_with fail
      refine h4.mono ?_
      rintro e w4 ⟨rfl, J4⟩
      have h5 := J4.store HG.out fl
      clear h3 J3
      go_wp2_with fail
      refine h5.mono ?_
      rintro e w5 ⟨rfl, J5⟩
      have h6 := J5.take HG.out q23s
      rw [q23_take _ rfl, q23_arr] at h6
      clear h4 J4
      go_wp2_with fail
      refine h6.mono ?_
      rintro e w6 ⟨rfl, J6⟩
      have h7 := J6.stored
      clear h5 J5 h6
      cases fl
      · have J6' : LJ g B w w6 { s with mode := 1, fails := false, st := some (s.ip, s.rp) } := J6
        have h7' : Calls Try.prog 18 #[.pointer (some ⟨g, 0, none⟩)] w6 fun e y => e = .returned (.tuple #[.int .i64 s.ip, .int .i64 s.rp, .bool true]) ∧ LJ g B w y { s with mode := 1, fails := false, st := some (s.ip, s.rp) } := J6'.stored
        obtain ⟨o1, ho1⟩ : ∃ o, s.so.1 = o := ⟨_, rfl⟩
        obtain ⟨o2, ho2⟩ : ∃ o, s.so.2.1 = o := ⟨_, rfl⟩
        obtain ⟨o3, ho3⟩ : ∃ o, s.so.2.2 = o := ⟨_, rfl⟩
        rw [ho1, ho2, ho3]
        have HJR : Hid (∀ y, LJ g B w y { s with mode := 1, fails := false, st := some (s.ip, s.rp) } → Calls Try.prog 20 #[.pointer (some ⟨g, 0, none⟩)] y fun e z => e = .returned (.tuple #[]) ∧ LJ g B w z { s with mode := 0, fails := false, st := some (s.ip, s.rp), pk := 0, lk := 0, ip := s.ip, iu := s.ip, rp := s.rp, ru := s.rp }) := fun y hy => hy.re HG.out
        clear h7 J6 J6' ho1 ho2 ho3
        go_wp2_with fail
        refine h7'.mono ?_
        rintro e w7 ⟨rfl, J7⟩
        have h8 := HJR.out w7 J7
        clear h7' J7
        go_wp2_with fail
        refine h8.mono ?_
        rintro e w8 ⟨rfl, J8⟩
        have h9 : Calls Try.prog 17 #[.pointer (some ⟨g, 0, none⟩)] w8 fun e y => e = .returned (.tuple #[.int .i64 s.ip, .int .i64 s.ip]) ∧ LJ g B w y { s with mode := 0, fails := false, st := some (s.ip, s.rp), pk := 0, lk := 0, ip := s.ip, iu := s.ip, rp := s.rp, ru := s.rp } := J8.id
        clear h8 J8
        go_wp2_with fail
        refine h9.mono ?_
        rintro e w9 ⟨rfl, J9⟩
        have h10 : Calls Try.prog 21 #[.pointer (some ⟨g, 0, none⟩)] w9 fun e y => e = .returned (.tuple #[.int .i64 s.rp, .int .i64 s.rp]) ∧ LJ g B w y { s with mode := 0, fails := false, st := some (s.ip, s.rp), pk := 0, lk := 0, ip := s.ip, iu := s.ip, rp := s.rp, ru := s.rp } := J9.rate
        clear h9 J9
        go_wp2_with fail
        refine h10.mono ?_
        rintro e w10 ⟨rfl, J10⟩
        have h11 : Calls Try.prog 16 #[.pointer (some ⟨g, 0, none⟩)] w10 fun e y => e = .returned (.int .i64 0) ∧ y = w10 := J10.mode
        have HB10 := hidOf2 J10.below
        clear h10 J10
        go_wp2_with fail
        refine h11.mono ?_
        rintro e w11 ⟨rfl, hw11⟩
        subst hw11
        go_wp2_with fail
        refine (HL.out _).mono ?_
        rintro e w12 ⟨rfl, B12⟩
        have J12 := HB10.out
        go_wp2
        go_ret
        exact ⟨rfl, J12.trans (B12.mono (Nat.le_trans HSZ.out J12.size))⟩
      · have J6' : LJ g B w w6 { s with mode := 1, fails := true } := J6
        have es6 : ({ s with mode := 1, fails := true } : Ls).so = s.so := rfl
        have h7' := J6'.stored
        rw [es6] at h7'
        have HJR : Hid (∀ y, LJ g B w y { s with mode := 1, fails := true } → Calls Try.prog 20 #[.pointer (some ⟨g, 0, none⟩)] y fun e z => e = .returned (.tuple #[]) ∧ LJ g B w z ({ s with mode := 1, fails := true } : Ls).re) := fun y hy => hy.re HG.out
        have hre : ({ s with mode := 1, fails := true } : Ls).re.mode = 0 ∧ (s.so.2.2 = true → ({ s with mode := 1, fails := true } : Ls).re.ip = s.so.1 ∧ ({ s with mode := 1, fails := true } : Ls).re.iu = s.so.1 ∧ ({ s with mode := 1, fails := true } : Ls).re.rp = s.so.2.1 ∧ ({ s with mode := 1, fails := true } : Ls).re.ru = s.so.2.1) := by
          unfold Ls.re Ls.so
          cases s.st with
          | none => exact ⟨rfl, fun h => by cases h⟩
          | some z => exact ⟨rfl, fun _ => ⟨rfl, rfl, rfl, rfl⟩⟩
        generalize ({ s with mode := 1, fails := true } : Ls).re = s8 at *
        obtain ⟨o1, ho1⟩ : ∃ o, s.so.1 = o := ⟨_, rfl⟩
        obtain ⟨o2, ho2⟩ : ∃ o, s.so.2.1 = o := ⟨_, rfl⟩
        obtain ⟨o3, ho3⟩ : ∃ o, s.so.2.2 = o := ⟨_, rfl⟩
        rw [ho1, ho2, ho3] at h7' hre
        rw [ho1, ho2, ho3]
        have HRE := hidOf2 hre
        clear h7 J6 J6' es6 ho1 ho2 ho3 hre
        go_wp2_with fail
        refine h7'.mono ?_
        rintro e w7 ⟨rfl, J7⟩
        have h8 := HJR.out w7 J7
        clear h7' J7
        cases o3
        · skip
          go_wp2_with fail
          refine h8.mono ?_
          rintro e w8 ⟨rfl, J8⟩
          have h9 := J8.id
          clear h8 J8
          go_wp2_with fail
          refine h9.mono ?_
          rintro e w9 ⟨rfl, J9⟩
          have h10 := J9.rate
          clear h9 J9
          go_wp2_with fail
          refine h10.mono ?_
          rintro e w10 ⟨rfl, J10⟩
          have h11 := J10.mode
          rw [HRE.out.1] at h11
          have HB10 := hidOf2 J10.below
          clear h10 J10
          go_wp2_with fail
          refine h11.mono ?_
          rintro e w11 ⟨rfl, hw11⟩
          subst hw11
          go_wp2_with fail
          refine (HL.out _).mono ?_
          rintro e w12 ⟨rfl, B12⟩
          have J12 := HB10.out
          go_wp2
          go_ret
          exact ⟨rfl, J12.trans (B12.mono (Nat.le_trans HSZ.out J12.size))⟩
        · skip
          go_wp2_with fail
          refine h8.mono ?_
          rintro e w8 ⟨rfl, J8⟩
          have h9 := J8.id
          rw [(HRE.out.2 (by trivial)).1, (HRE.out.2 (by trivial)).2.1] at h9
          clear h8 J8
          go_wp2_with fail
          refine h9.mono ?_
          rintro e w9 ⟨rfl, J9⟩
          have h10 := J9.rate
          rw [(HRE.out.2 (by trivial)).2.2.1, (HRE.out.2 (by trivial)).2.2.2] at h10
          clear h9 J9
          go_wp2_with fail
          refine h10.mono ?_
          rintro e w10 ⟨rfl, J10⟩
          have h11 := J10.mode
          rw [HRE.out.1] at h11
          have HB10 := hidOf2 J10.below
          clear h10 J10
          go_wp2_with fail
          refine h11.mono ?_
          rintro e w11 ⟨rfl, hw11⟩
          subst hw11
          go_wp2_with fail
          refine (HL.out _).mono ?_
          rintro e w12 ⟨rfl, B12⟩
          have J12 := HB10.out
          go_wp2
          go_ret
          exact ⟨rfl, J12.trans (B12.mono (Nat.le_trans HSZ.out J12.size))⟩
end Go.Proofs.Ythbmbabndhpdkaa
