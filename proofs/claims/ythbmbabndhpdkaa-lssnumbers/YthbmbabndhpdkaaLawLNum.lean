/- The law LssNumbers returns true whatever address, number and acts come. -/
import Derived.Test.YthbmbabndhpdkaaLawLSto
namespace Go.Proofs.Ythbmbabndhpdkaa
open Go.RowKit
open Classical
set_option linter.unusedVariables false
set_option maxRecDepth 1000000
set_option linter.unusedSimpArgs false
def zA10 : Array Value := #[.int .i64 0, .int .u8 0, .int .u8 0, .int .u8 0, .int .u8 0, .int .u8 0, .int .u8 0, .int .u8 0, .int .u8 0, .bool false]
theorem A19.one (a : A19) : (a.arr.all fun x => x.oneCell') = true := by simp [A19.arr, A19.c, Value.oneCell']
theorem sdA {b : Nat} {w : World} {ops : Array Oper} {rest : List Oper} {p : Oper} {a : Act} {Q : Exit → Act → World → Prop} {A : A19} (h : Bc 36 b zA10 w) (hgd : p.guard = none) (x y : Operand) (ho : p.op = .store 36 x y) (hx : a.eval x = .pointer (some ⟨b, 0, none⟩)) (hy : a.eval y = .agg A.arr)
    (hh : wpList Try.prog ops Q rest (a.put p.dst undef) (w.setRow b A.arr)) : wpList Try.prog ops Q (p :: rest) a w :=
  wpList_store_row hgd 36 x y ho b A.arr hx hy 36 _ h info_A19 rfl A.one hh
theorem layA (w : World) (A : A19) : ∃ V r, (w.alloc (.cells zA10 36)).setRow r A.arr = V ∧ w.heap.size = r ∧ Bc 36 r zA10 (w.alloc (.cells zA10 36)) ∧ Bc 36 r A.arr V ∧ Two r r w V ∧ r < V.heap.size := by
  have z : Bc 36 w.heap.size zA10 (w.alloc (.cells zA10 36)) := heap_alloc_new w _
  have z2 : Bc 36 w.heap.size A.arr ((w.alloc (.cells zA10 36)).setRow w.heap.size A.arr) := setRow_heap _ _ _ _ _ _ z
  exact ⟨_, _, rfl, rfl, z, z2, two_row ((Two.refl _ _ _).alloc _) _ (Nat.le_refl _) _, Bc.lt z2⟩
section
variable {g B : Nat} {w x y : World} {s : Ls}
theorem LJ.layA {V : World} {k : Nat} {A : A19} (h : LJ g B w x s) (hV : (x.alloc (.cells zA10 36)).setRow k A.arr = V) (hk : x.heap.size = k) (z : Bc 36 k zA10 (x.alloc (.cells zA10 36))) (t : Two k k x V) : LJ g B w V s := by
  obtain ⟨hB, ⟨p, n, hn, S⟩, b, o⟩ := h
  have hs := Nat.le_trans hB b.size
  have lg := S.lt
  have S1 : Sa g n p s (x.alloc (.cells zA10 36)) := S.alloc _
  have S2 : Sa g n p s ((x.alloc (.cells zA10 36)).setRow k A.arr) := by
    refine ⟨(setRow_other _ _ _ _ (by omega)).trans S1.hd, ?_⟩
    rcases S1.kt with h | ⟨j, a, b, e1, e2, e3, e4, e5⟩
    · exact .inl h
    · exact .inr ⟨j, a, b, e1, e2, e3, e4, (setRow_other _ _ _ _ (bc_ne e5 z (by decide))).trans e5⟩
  exact ⟨hB, ⟨p, n, Nat.lt_of_lt_of_le hn t.size, by rw [← hV]; exact S2⟩, b.trans (t.below hs (by omega) (by omega)), o⟩
theorem LJ.take2 (h : LJ g B w x s) (hg : B ≤ g) (q : F8) : Calls Try.prog 15 #[.pointer (some ⟨g, 0, none⟩), .agg q.arr] x fun e y => (∃ r, e = .returned r) ∧ LJ g B w y (s.takeS q) ∧ Two g g x y := by
  obtain ⟨hB, ⟨p, n, hn, S⟩, b, o⟩ := h
  refine (take_any S hn o q).mono ?_
  rintro e y ⟨h1, ⟨p', S'⟩, t⟩
  exact ⟨⟨_, h1⟩, ⟨hB, ⟨p', n, Nat.lt_of_lt_of_le hn t.size, S'⟩, b.trans (t.below (Nat.le_trans hB b.size) hg hg), o.takeS q⟩, t⟩
theorem LJ.store2 (h : LJ g B w x s) (hg : B ≤ g) (f : Bool) : Calls Try.prog 19 #[.pointer (some ⟨g, 0, none⟩), .bool f] x fun e y => e = .returned (.tuple #[]) ∧ LJ g B w y { s with fails := f } ∧ Two g g x y := by
  obtain ⟨hB, ⟨p, n, hn, S⟩, b, o⟩ := h
  refine (lsto_any S f).mono ?_
  rintro e y ⟨h1, S', t⟩
  exact ⟨h1, ⟨hB, ⟨p, n, Nat.lt_of_lt_of_le hn t.size, S'⟩, b.trans (t.below (Nat.le_trans hB b.size) hg hg), o.fails f⟩, t⟩
theorem LJ.re2 (h : LJ g B w x s) (hg : B ≤ g) : Calls Try.prog 20 #[.pointer (some ⟨g, 0, none⟩)] x fun e y => e = .returned (.tuple #[]) ∧ LJ g B w y s.re ∧ Two g g x y := by
  obtain ⟨hB, ⟨p, n, hn, S⟩, b, o⟩ := h
  refine (lre_any S).mono ?_
  rintro e y ⟨h1, S', t⟩
  exact ⟨h1, ⟨hB, ⟨p, n, Nat.lt_of_lt_of_le hn t.size, S'⟩, b.trans (t.below (Nat.le_trans hB b.size) hg hg), o.re⟩, t⟩
theorem LJ.lt (h : LJ g B w x s) : g < x.heap.size := by
  obtain ⟨p, n, hn, S⟩ := h.a
  exact S.lt
theorem conf_iu (s : Ls) (q : F8) : (s.confS q).iu = s.iu := by unfold Ls.confS; (repeat' split) <;> rfl
theorem scan_iu (s : Ls) (q : F8) : (s.scanS q).iu = s.iu := by unfold Ls.scanS; (repeat' split) <;> rfl
theorem pick_iu (s : Ls) (i : Int) (n : Nat) : (s.pickS i n).iu = s.iu := by unfold Ls.pickS; (repeat' split) <;> rfl
theorem take_iu (s : Ls) (q : F8) (h : q.b0.toNat ≠ 4) : (s.takeS q).iu = s.iu := by
  unfold Ls.takeS Ls.waitS
  rw [if_neg h]
  repeat' split
  · rfl
  · exact conf_iu s q
  · exact pick_iu _ _ _
  · exact scan_iu s q
  · rfl
  · rfl
end
theorem lnum_bad (a : A4k) (id : Int) (h : ¬ (0 ≤ id ∧ id ≤ 127)) (v : Value) (w : World) : Calls Try.prog 5 #[.agg a.a.arr, .int .i64 id, v] w fun r w' => r = .returned (.bool true) ∧ Below w.heap.size w w' := by
  obtain ⟨X, B, hX, hq, bX, B0, sX⟩ := boxA w a.a
  have lX := load_a4 bX
  have hN := lnew_bad a.a id h X
  have HL : Hid (∀ y, Calls Try.prog 10 #[] y fun e w' => e = .returned (.bool true) ∧ Below y.heap.size y w') := fun y => lives19_any y
  have HB0 := hidOf2 B0
  have HX : Hid (X.heap.size = B + 1 ∧ w.heap.size = B) := ⟨sX, hq⟩
  rw [hq]
  rw [hq] at HB0
  clear bX B0 h sX
  go_enter Try.func5, Try.ntmps5
  go_wp2_with (refine ldG lX rfl _ rfl rfl ?_)
  refine hN.mono ?_
  rintro e w1 ⟨rfl, B1⟩
  go_wp2_with fail
  refine (HL.out w1).mono ?_
  rintro e w3 ⟨rfl, B3⟩
  have K := HX.out
  go_wp2
  go_ret
  exact ⟨rfl, (HB0.out.trans (B1.mono (by omega))).trans (B3.mono (by have := B1.size; omega))⟩
set_option maxHeartbeats 8000000 in
theorem lnum_ok (a : A4k) (id : Int) (h : 0 ≤ id ∧ id ≤ 127) (v : Value) (l : List A19) (hl : l.length ≤ 140737488351232) (w : World) (hW : Wide 10 A19.c w v l) : Calls Try.prog 5 #[.agg a.a.arr, .int .i64 id, v] w fun r w' => r = .returned (.bool true) ∧ Below w.heap.size w w' := by
  obtain ⟨ao, cap, rfl, _, hc⟩ := hW
  obtain ⟨X, B, hX, hq, bX, B0, sX⟩ := boxA w a.a
  have HC : Hid (∀ (wr : World), Below B w wr → ∀ k (hk : k < l.length), ∃ b off, ao = some ⟨b, off, none⟩ ∧ b < w.heap.size ∧ wr.rangeAt b (off + k * 10) (A19.c l[k])) := fun wr hb k hk => Wide.at hc (by rw [hq]; exact hb) k hk
  have lX := load_a4 bX
  have hN := lnew_ok a.a id h X
  have HL : Hid (∀ y, Calls Try.prog 10 #[] y fun e w' => e = .returned (.bool true) ∧ Below y.heap.size y w') := fun y => lives19_any y
  have o0 := Ls.new_ok a.ok h
  obtain ⟨g, hg⟩ : ∃ g, X.heap.size + 1 = g := ⟨_, rfl⟩
  rw [hg] at hN
  have HX : Hid (X.heap.size = B + 1 ∧ g = B + 2 ∧ w.heap.size = B) := ⟨sX, by omega, hq⟩
  have HB0 := hidOf2 B0
  clear bX B0 hc sX hg h
  rw [hq]
  go_enter Try.func5, Try.ntmps5
  go_wp2_with (refine ldG lX rfl _ rfl rfl ?_)
  refine hN.mono ?_
  rintro e w1 ⟨rfl, N1, B1⟩
  have HI : Hid (LJ g B w w1 (Ls.new a.a id)) := by
    have K := HX.out
    have N := N1 B (by omega)
    exact ⟨by omega, ⟨none, B, by have := B1.size; omega, N⟩, (by have b := HB0.out; rw [K.2.2] at b; exact b.trans (B1.mono (by omega))), o0⟩
  have HG : Hid (B ≤ g) := by have K := HX.out; show B ≤ g; omega
  have HSZ : Hid (B ≤ w.heap.size) := HI.out.sz
  clear N1 B1 hN lX hX o0 HB0 HX
  go_wp2_with fail
  go_loopw [9] (fun s9 x => ∃ k s, k ≤ l.length ∧ s9 = .int .i64 (k : Nat) ∧ LJ g B w x s) (fun s9 _ => l.length - (intOf s9).toNat)
  case atStart => exact ⟨0, _, by omega, rfl, HI.out⟩
  case round =>
    clear HI
    obtain ⟨k, s, hk, rfl, J⟩ := hrel
    by_cases hkl : k < l.length
    · have hd : decide ((k : Int) < (l.length : Int)) = true := by simp; omega
      obtain ⟨b, off, rfl, hb, hR⟩ := HC.out wr J.below k hkl
      have h1 := J.id
      have HR : Hid (∀ y, Below B w y → (loadVar 36 ⟨b, off + k * 10, none⟩).run Try.prog y = .ok (.agg l[k].arr) y) := fun y hy => by
        obtain ⟨b', off', e, _, h9⟩ := HC.out y hy k hkl
        injection e with e; injection e with e1 e2; subst e1; subst e2
        exact A19.load h9
      generalize l[k] = A at *
      clear hR J
      go_wp2_with fail
      refine h1.mono ?_
      rintro e w2 ⟨rfl, J2⟩
      have h2 := J2.stored
      clear h1 J2
      go_wp2_with fail
      refine h2.mono ?_
      rintro e w3 ⟨rfl, J3⟩
      have lA := HR.out w3 J3.below
      obtain ⟨V, r, hV, hr, zr, bV, tV, lV⟩ := layA w3 A
      have JV := J3.layA hV hr zr tV
      have hgr : g < r := by rw [← hr]; exact J3.lt
      have rV : V.rangeAt r 0 A.c := fun j v hj => by rw [Nat.zero_add, Bc.cell bV j]; simpa [A19.arr] using hj
      obtain ⟨kV, fV, mV⟩ := A19.cells rV
      simp only [Nat.zero_add] at fV
      have lM := F8.mid mV
      simp only [Nat.zero_add] at lM
      have HCells : Hid (∀ y, Two g g V y → y.cell? ⟨r, 0, none⟩ = some (.int .i64 A.kind) ∧ y.cell? ⟨r, 1, none⟩ = some (.int .u8 (A.q.b0.toNat : Int)) ∧ y.cell? ⟨r, 2, none⟩ = some (.int .u8 (A.q.b1.toNat : Int))) := fun y t => by
        have by' := Bc.two bV t (by omega) (by omega)
        exact ⟨Bc.cell by' 0, Bc.cell by' 1, Bc.cell by' 2⟩
      have hV' := hV
      unfold zA10 at hV'
      have HV := hidOf2 hV'
      have HJV := hidOf2 JV
      clear h2 J3 hV hV' bV tV lV JV rV mV hgr
      go_upto_region 10 with (first | (refine ldG lA rfl _ rfl rfl ?_) | (refine sdA (A := A) zr rfl _ _ rfl rfl rfl ?_))
      rw [HV.out]
      clear HV zr lA HR
      obtain ⟨o1, ho1⟩ : ∃ o, s.so.1 = o := ⟨_, rfl⟩
      obtain ⟨o2, ho2⟩ : ∃ o, s.so.2.1 = o := ⟨_, rfl⟩
      obtain ⟨o3, ho3⟩ : ∃ o, s.so.2.2 = o := ⟨_, rfl⟩
      rw [ho1, ho2, ho3]
      have HSO : Hid (s.so.1 = o1 ∧ s.so.2.1 = o2 ∧ s.so.2.2 = o3) := ⟨ho1, ho2, ho3⟩
      clear ho1 ho2 ho3
      by_cases h0 : A.kind = 0
      · rw [h0] at kV
        by_cases c0 : A.q.b0.toNat = 4
        · by_cases c1 : A.q.b1.toNat = 0
          · by_cases cu : s.iu = 0
            · skip
              have hT := HJV.out.take2 HG.out A.q
              obtain ⟨S', hS'⟩ : ∃ S', s.takeS A.q = S' := ⟨_, rfl⟩
              rw [hS'] at hT
              have HNow : Hid (S'.iu = s.ip) := by rw [← hS']; show (s.takeS A.q).iu = _; unfold Ls.takeS; rw [if_pos c0]; unfold Ls.set; rw [c1]; simp [cu]
              clear hS'
              have HC4 : Hid (A.kind = 0 ∧ A.q.b0.toNat = 4 ∧ A.q.b1.toNat = 0 ∧ s.iu = 0) := ⟨h0, c0, c1, cu⟩
              clear h0 c0 c1 cu
              go_wp2_with (refine ldG lM rfl _ rfl rfl ?_)
              refine hT.mono ?_
              rintro e w4 ⟨⟨rr, rfl⟩, J4, T4⟩
              clear hT
              obtain ⟨d0, d1, d2⟩ := HCells.out _ T4
              have hI : Calls Try.prog 17 #[.pointer (some ⟨g, 0, none⟩)] w4 fun e y => e = .returned (.tuple #[.int .i64 S'.ip, .int .i64 s.ip]) ∧ LJ g B w y S' ∧ ∃ m, y = (w4).drewN m := by
                obtain ⟨p, n, hn, SS⟩ := J4.a
                refine (lid_any SS).mono ?_
                rintro e y ⟨h1, m, rfl⟩
                exact ⟨by rw [h1, HNow.out], J4.drawn m, m, rfl⟩
              clear J4 T4 HCells HJV HNow lM
              rw [HC4.out.1] at d0
              rw [HC4.out.2.1] at d1
              rw [HC4.out.2.2.1] at d2
              rw [HC4.out.2.2.2]
              obtain ⟨bb, hbb⟩ : ∃ bb, (s.ip != 0) = bb := ⟨_, rfl⟩
              cases bb
              all_goals
                go_wp2_with fail
                refine hI.mono ?_
                rintro e w5 ⟨rfl, J5, m, hw5⟩
                have HJ5 := hidOf2 J5
                rw [hw5] at HJ5
                rw [hw5]
                clear J5 hw5 hI
                go_wp2_with fail
                go_roundw
                case rel => exact ⟨k + 1, _, by omega, by go_num, HJ5.out⟩
                case measure => simp [intOf]; omega
            · skip
              have hT := HJV.out.take2 HG.out A.q
              obtain ⟨S', hS'⟩ : ∃ S', s.takeS A.q = S' := ⟨_, rfl⟩
              rw [hS'] at hT
              have HNow : Hid (S'.iu = s.iu) := by rw [← hS']; show (s.takeS A.q).iu = _; unfold Ls.takeS; rw [if_pos c0]; unfold Ls.set; rw [c1]; simp [cu]
              clear hS'
              have HC4 : Hid (A.kind = 0 ∧ A.q.b0.toNat = 4 ∧ A.q.b1.toNat = 0) := ⟨h0, c0, c1⟩
              have du : (s.iu == 0) = false := by simp [cu]
              clear h0 c0 c1 cu
              go_wp2_with (refine ldG lM rfl _ rfl rfl ?_)
              refine hT.mono ?_
              rintro e w4 ⟨⟨rr, rfl⟩, J4, T4⟩
              clear hT
              obtain ⟨d0, d1, d2⟩ := HCells.out _ T4
              have hI : Calls Try.prog 17 #[.pointer (some ⟨g, 0, none⟩)] w4 fun e y => e = .returned (.tuple #[.int .i64 S'.ip, .int .i64 s.iu]) ∧ LJ g B w y S' ∧ ∃ m, y = (w4).drewN m := by
                obtain ⟨p, n, hn, SS⟩ := J4.a
                refine (lid_any SS).mono ?_
                rintro e y ⟨h1, m, rfl⟩
                exact ⟨by rw [h1, HNow.out], J4.drawn m, m, rfl⟩
              clear J4 T4 HCells HJV HNow lM
              rw [HC4.out.1] at d0
              rw [HC4.out.2.1] at d1
              rw [HC4.out.2.2] at d2
              all_goals
                go_wp2_with fail
                refine hI.mono ?_
                rintro e w5 ⟨rfl, J5, m, hw5⟩
                have HJ5 := hidOf2 J5
                rw [hw5] at HJ5
                rw [hw5]
                clear J5 hw5 hI
                go_wp2_with fail
                go_roundw
                case rel => exact ⟨k + 1, _, by omega, by go_num, HJ5.out⟩
                case measure => simp [intOf]; omega
          · skip
            have hT := HJV.out.take2 HG.out A.q
            obtain ⟨S', hS'⟩ : ∃ S', s.takeS A.q = S' := ⟨_, rfl⟩
            rw [hS'] at hT
            have HNow : Hid (S'.iu = s.iu) := by rw [← hS']; show (s.takeS A.q).iu = _; unfold Ls.takeS; rw [if_pos c0]; unfold Ls.set; simp only [if_neg c1]; split <;> rfl
            clear hS'
            have HC4 : Hid (A.kind = 0 ∧ A.q.b0.toNat = 4) := ⟨h0, c0⟩
            have dq : ((A.q.b1.toNat : Int) == 0) = false := by simp; omega
            clear h0 c0 c1
            go_wp2_with (refine ldG lM rfl _ rfl rfl ?_)
            refine hT.mono ?_
            rintro e w4 ⟨⟨rr, rfl⟩, J4, T4⟩
            clear hT
            obtain ⟨d0, d1, d2⟩ := HCells.out _ T4
            have hI : Calls Try.prog 17 #[.pointer (some ⟨g, 0, none⟩)] w4 fun e y => e = .returned (.tuple #[.int .i64 S'.ip, .int .i64 s.iu]) ∧ LJ g B w y S' ∧ ∃ m, y = (w4).drewN m := by
              obtain ⟨p, n, hn, SS⟩ := J4.a
              refine (lid_any SS).mono ?_
              rintro e y ⟨h1, m, rfl⟩
              exact ⟨by rw [h1, HNow.out], J4.drawn m, m, rfl⟩
            clear J4 T4 HCells HJV HNow lM
            rw [HC4.out.1] at d0
            rw [HC4.out.2] at d1
            all_goals
              go_wp2_with fail
              refine hI.mono ?_
              rintro e w5 ⟨rfl, J5, m, hw5⟩
              have HJ5 := hidOf2 J5
              rw [hw5] at HJ5
              rw [hw5]
              clear J5 hw5 hI
              go_wp2_with fail
              go_roundw
              case rel => exact ⟨k + 1, _, by omega, by go_num, HJ5.out⟩
              case measure => simp [intOf]; omega
        · skip
          have hT := HJV.out.take2 HG.out A.q
          obtain ⟨S', hS'⟩ : ∃ S', s.takeS A.q = S' := ⟨_, rfl⟩
          rw [hS'] at hT
          have HNow : Hid (S'.iu = s.iu) := by rw [← hS']; exact take_iu s A.q c0
          clear hS'
          have HC4 : Hid (A.kind = 0) := h0
          have dq : ((A.q.b0.toNat : Int) == 4) = false := by simp; omega
          clear h0 c0
          go_wp2_with (refine ldG lM rfl _ rfl rfl ?_)
          refine hT.mono ?_
          rintro e w4 ⟨⟨rr, rfl⟩, J4, T4⟩
          clear hT
          obtain ⟨d0, d1, d2⟩ := HCells.out _ T4
          have hI : Calls Try.prog 17 #[.pointer (some ⟨g, 0, none⟩)] w4 fun e y => e = .returned (.tuple #[.int .i64 S'.ip, .int .i64 s.iu]) ∧ LJ g B w y S' ∧ ∃ m, y = (w4).drewN m := by
            obtain ⟨p, n, hn, SS⟩ := J4.a
            refine (lid_any SS).mono ?_
            rintro e y ⟨h1, m, rfl⟩
            exact ⟨by rw [h1, HNow.out], J4.drawn m, m, rfl⟩
          clear J4 T4 HCells HJV HNow lM
          rw [HC4.out] at d0
          all_goals
            go_wp2_with fail
            refine hI.mono ?_
            rintro e w5 ⟨rfl, J5, m, hw5⟩
            have HJ5 := hidOf2 J5
            rw [hw5] at HJ5
            rw [hw5]
            clear J5 hw5 hI
            go_wp2_with fail
            go_roundw
            case rel => exact ⟨k + 1, _, by omega, by go_num, HJ5.out⟩
            case measure => simp [intOf]; omega
      · have e0 : (A.kind == 0) = false := by simp [h0]
        by_cases h1 : A.kind = 1
        · rw [h1] at kV
          have hT := HJV.out.store2 HG.out A.fails
          obtain ⟨S', hS'⟩ : ∃ S', ({ s with fails := A.fails } : Ls) = S' := ⟨_, rfl⟩
          rw [hS'] at hT
          have HNow : Hid (S'.iu = s.iu) := by rw [← hS']; rfl
          clear hS'
          have HC4 : Hid (A.kind = 1) := h1
          clear h0 h1 e0
          go_wp2_with fail
          refine hT.mono ?_
          rintro e w4 ⟨rfl, J4, T4⟩
          clear hT
          obtain ⟨d0, d1, d2⟩ := HCells.out _ T4
          have hI : Calls Try.prog 17 #[.pointer (some ⟨g, 0, none⟩)] w4 fun e y => e = .returned (.tuple #[.int .i64 S'.ip, .int .i64 s.iu]) ∧ LJ g B w y S' ∧ ∃ m, y = (w4).drewN m := by
            obtain ⟨p, n, hn, SS⟩ := J4.a
            refine (lid_any SS).mono ?_
            rintro e y ⟨h1, m, rfl⟩
            exact ⟨by rw [h1, HNow.out], J4.drawn m, m, rfl⟩
          clear J4 T4 HCells HJV HNow lM
          rw [HC4.out] at d0
          all_goals
            go_wp2_with fail
            refine hI.mono ?_
            rintro e w5 ⟨rfl, J5, m, hw5⟩
            have HJ5 := hidOf2 J5
            rw [hw5] at HJ5
            rw [hw5]
            clear J5 hw5 hI
            go_wp2_with fail
            go_roundw
            case rel => exact ⟨k + 1, _, by omega, by go_num, HJ5.out⟩
            case measure => simp [intOf]; omega
        · have e1 : (A.kind == 1) = false := by simp [h1]
          by_cases h2 : A.kind = 2
          · rw [h2] at kV
            cases o3
            · skip
              have hT := HJV.out.re2 HG.out
              obtain ⟨S', hS'⟩ : ∃ S', s.re = S' := ⟨_, rfl⟩
              rw [hS'] at hT
              have HNow : Hid (S'.iu = s.ip) := by rw [← hS']; have h := HSO.out.2.2; unfold Ls.so at h; unfold Ls.re; split; rfl; rename_i hz; rw [hz] at h; cases h
              clear hS'
              have HC4 : Hid (A.kind = 2) := h2
              clear h0 h1 h2 e0 e1
              go_wp2_with fail
              refine hT.mono ?_
              rintro e w4 ⟨rfl, J4, T4⟩
              clear hT
              obtain ⟨d0, d1, d2⟩ := HCells.out _ T4
              have hI : Calls Try.prog 17 #[.pointer (some ⟨g, 0, none⟩)] w4 fun e y => e = .returned (.tuple #[.int .i64 S'.ip, .int .i64 s.ip]) ∧ LJ g B w y S' ∧ ∃ m, y = (w4).drewN m := by
                obtain ⟨p, n, hn, SS⟩ := J4.a
                refine (lid_any SS).mono ?_
                rintro e y ⟨h1, m, rfl⟩
                exact ⟨by rw [h1, HNow.out], J4.drawn m, m, rfl⟩
              clear J4 T4 HCells HJV HNow lM
              rw [HC4.out] at d0
              obtain ⟨bb, hbb⟩ : ∃ bb, (s.ip != s.iu) = bb := ⟨_, rfl⟩
              cases bb
              all_goals
                go_wp2_with fail
                refine hI.mono ?_
                rintro e w5 ⟨rfl, J5, m, hw5⟩
                have HJ5 := hidOf2 J5
                rw [hw5] at HJ5
                rw [hw5]
                clear J5 hw5 hI
                go_wp2_with fail
                go_roundw
                case rel => exact ⟨k + 1, _, by omega, by go_num, HJ5.out⟩
                case measure => simp [intOf]; omega
            · skip
              have hT := HJV.out.re2 HG.out
              obtain ⟨S', hS'⟩ : ∃ S', s.re = S' := ⟨_, rfl⟩
              rw [hS'] at hT
              have HNow : Hid (S'.iu = o1) := by rw [← hS']; have h := HSO.out; unfold Ls.so at h; unfold Ls.re; split; rename_i hz; rw [hz] at h; cases h.2.2; rename_i hz; rw [hz] at h; exact h.1
              clear hS'
              have HC4 : Hid (A.kind = 2) := h2
              clear h0 h1 h2 e0 e1
              go_wp2_with fail
              refine hT.mono ?_
              rintro e w4 ⟨rfl, J4, T4⟩
              clear hT
              obtain ⟨d0, d1, d2⟩ := HCells.out _ T4
              have hI : Calls Try.prog 17 #[.pointer (some ⟨g, 0, none⟩)] w4 fun e y => e = .returned (.tuple #[.int .i64 S'.ip, .int .i64 o1]) ∧ LJ g B w y S' ∧ ∃ m, y = (w4).drewN m := by
                obtain ⟨p, n, hn, SS⟩ := J4.a
                refine (lid_any SS).mono ?_
                rintro e y ⟨h1, m, rfl⟩
                exact ⟨by rw [h1, HNow.out], J4.drawn m, m, rfl⟩
              clear J4 T4 HCells HJV HNow lM
              rw [HC4.out] at d0
              obtain ⟨bb, hbb⟩ : ∃ bb, (o1 != s.iu) = bb := ⟨_, rfl⟩
              cases bb
              all_goals
                go_wp2_with fail
                refine hI.mono ?_
                rintro e w5 ⟨rfl, J5, m, hw5⟩
                have HJ5 := hidOf2 J5
                rw [hw5] at HJ5
                rw [hw5]
                clear J5 hw5 hI
                go_wp2_with fail
                go_roundw
                case rel => exact ⟨k + 1, _, by omega, by go_num, HJ5.out⟩
                case measure => simp [intOf]; omega
          · have e2 : (A.kind == 2) = false := by simp [h2]
            clear h0 h1 h2
            obtain ⟨w4, hw4⟩ : ∃ y, V = y := ⟨_, rfl⟩
            subst hw4
            have J4 := HJV.out
            have T4 : Two g g V V := Two.refl _ _ _
            have S'eq : s.iu = s.iu := rfl
            obtain ⟨d0, d1, d2⟩ := HCells.out _ T4
            have hI : Calls Try.prog 17 #[.pointer (some ⟨g, 0, none⟩)] V fun e y => e = .returned (.tuple #[.int .i64 s.ip, .int .i64 s.iu]) ∧ LJ g B w y s ∧ ∃ m, y = (V).drewN m := by
              obtain ⟨p, n, hn, SS⟩ := J4.a
              refine (lid_any SS).mono ?_
              rintro e y ⟨h1, m, rfl⟩
              exact ⟨by rw [h1], J4.drawn m, m, rfl⟩
            clear J4 T4 HCells HJV lM
            all_goals
              go_wp2_with fail
              refine hI.mono ?_
              rintro e w5 ⟨rfl, J5, m, hw5⟩
              have HJ5 := hidOf2 J5
              rw [hw5] at HJ5
              rw [hw5]
              clear J5 hw5 hI
              go_wp2_with fail
              go_roundw
              case rel => exact ⟨k + 1, _, by omega, by go_num, HJ5.out⟩
              case measure => simp [intOf]; omega
    · have hd : decide ((k : Int) < (l.length : Int)) = false := by simp; omega
      have HBJ := hidOf2 J.below
      clear J
      go_wp2_with fail
      refine (HL.out wr).mono ?_
      rintro e w8 ⟨rfl, B8⟩
      go_wp2
      go_ret
      exact ⟨rfl, HBJ.out.trans (B8.mono (Nat.le_trans HSZ.out HBJ.out.size))⟩
theorem lnum_walk (a : A4k) (id : Int) (v : Value) (l : List A19) (hl : l.length ≤ 140737488351232) (w : World) (hW : Wide 10 A19.c w v l) : Calls Try.prog 5 #[.agg a.a.arr, .int .i64 id, v] w fun r w' => r = .returned (.bool true) ∧ Below w.heap.size w w' := by
  by_cases h : 0 ≤ id ∧ id ≤ 127
  · exact lnum_ok a id h v l hl w hW
  · exact lnum_bad a id h v w
end Go.Proofs.Ythbmbabndhpdkaa
