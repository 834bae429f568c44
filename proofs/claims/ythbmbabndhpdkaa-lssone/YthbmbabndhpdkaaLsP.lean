/- Something happens by the program and by the document. -/
import Derived.Test.YthbmbabndhpdkaaLsL
import Derived.Test.YthbmbabndhpdkaaLsN
import Derived.Test.YthbmbabndhpdkaaLsO
import Derived.Test.YthbmbabndhpdkaaLsOp
namespace Go.Proofs.Ythbmbabndhpdkaa
open Go.RowKit
open Classical
set_option linter.unusedVariables false
set_option maxRecDepth 1000000
set_option linter.unusedSimpArgs false
noncomputable def Ls.act (s : Ls) (a : A19) : Ls := if a.kind = 0 then s.takeS a.q else if a.kind = 1 then { s with fails := a.fails } else if a.kind = 2 then s.re else s
def Ld.act (s : Ld) (a : A19) : Ld := if a.kind = 0 then s.takeS a.q else if a.kind = 1 then { s with fails := a.fails } else if a.kind = 2 then s.re else s
noncomputable def actB (s : Ls) (d : Ld) (a : A19) : Bool := if a.kind = 0 then decide ((s.takeA a.q).1 = (d.takeA a.q).1) && ((s.takeA a.q).2 == (d.takeA a.q).2) else true
theorem Ls.Ok.act {s : Ls} (h : s.Ok) (a : A19) : (s.act a).Ok := by
  unfold Ls.act
  repeat' split
  · exact h.takeS _
  · exact h.fails _
  · exact h.re
  · exact h
theorem R.act {s : Ls} {d : Ld} (h : R s d) (ho : s.Ok) (a : A19) : R (s.act a) (d.act a) ∧ actB s d a = true := by
  unfold Ls.act Ld.act actB
  by_cases h0 : a.kind = 0
  · rw [if_pos h0, if_pos h0, if_pos h0]
    have := h.take ho a.q
    refine ⟨this.1, ?_⟩
    rw [this.2]
    simp
  · rw [if_neg h0, if_neg h0, if_neg h0]
    by_cases h1 : a.kind = 1
    · rw [if_pos h1, if_pos h1]
      exact ⟨h.store _, rfl⟩
    · rw [if_neg h1, if_neg h1]
      by_cases h2 : a.kind = 2
      · rw [if_pos h2, if_pos h2]
        exact ⟨h.re, rfl⟩
      · rw [if_neg h2, if_neg h2]
        exact ⟨h, rfl⟩
section
variable {g n : Nat} {p : Option Nat} {s : Ls} {d : Ld} {w x : World}
/-- What a call leaves. -/
def PostA (g n : Nat) (s' : Ls) (d' : Ld) (b : Bool) (w : World) (e : Ending) (w' : World) : Prop := e = .returned (.bool b) ∧ (∃ p', Sa g n p' s' w') ∧ Da n d' w' ∧ Two g n w w'
theorem qb_other {q k : Nat} {f : F8} {w : World} (h : Qb q f w) (hk : q ≠ k) (A : Array Value) : Qb q f (w.setRow k A) := (setRow_other _ _ _ _ hk).trans h
theorem bc_row {T : TypeId} {q k : Nat} {A : Array Value} {w : World} (h : Bc T q A w) (hk : q ≠ k) (B : Array Value) : Bc T q B = Bc T q B ∧ Bc T q A (w.setRow k B) := ⟨rfl, (setRow_other _ _ _ _ hk).trans h⟩
/-- A frame laid into a fresh block. -/
theorem lay8 (w : World) (F : F8) : ∃ V k, (w.alloc (.cells zA8 34)).setRow k F.arr = V ∧ w.heap.size = k ∧ Qb k F8.nul (w.alloc (.cells zA8 34)) ∧ Qb k F V ∧ Two k k w V ∧ k < V.heap.size := by
  have z := heap_alloc_new w (.cells zA8 34)
  have z' : Qb w.heap.size F8.nul (w.alloc (.cells zA8 34)) := z
  refine ⟨_, _, rfl, rfl, z', z'.row F, two_row ((Two.refl _ _ _).alloc _) _ (Nat.le_refl _) _, (z'.row F).lt⟩
set_option maxHeartbeats 8000000 in
theorem does_take (hS : Sa g n p s w) (ho : s.Ok) (hD : Da n d w) (hdo : d.Ok) (hgn : g ≠ n) (a : A19) (h0 : a.kind = 0) : Calls Try.prog 11 #[.pointer (some ⟨g, 0, none⟩), .pointer (some ⟨n, 0, none⟩), .agg a.arr] w (PostA g n (s.act a) (d.act a) (actB s d a) w) := by
  have eS : s.act a = s.takeS a.q := by unfold Ls.act; rw [if_pos h0]
  have eD : d.act a = d.takeS a.q := by unfold Ld.act; rw [if_pos h0]
  have eB : actB s d a = (decide ((s.takeA a.q).1 = (d.takeA a.q).1) && ((s.takeA a.q).2 == (d.takeA a.q).2)) := by unfold actB; rw [if_pos h0]
  rw [eS, eD, eB]
  obtain ⟨r, hr⟩ : ∃ r, w.heap.size = r := ⟨_, rfl⟩
  have hgr : g < r := by rw [← hr]; exact hS.lt
  have hnr : n < r := by rw [← hr]; exact hD.lt
  obtain ⟨X, hX⟩ : ∃ x, w.alloc (.cells a.arr 36) = x := ⟨_, rfl⟩
  have bX : Bc 36 r a.arr X := by rw [← hX, ← hr]; exact heap_alloc_new w _
  have rX : X.rangeAt r 0 a.c := fun j v hj => by rw [Nat.zero_add, Bc.cell bX j]; simpa [A19.arr] using hj
  obtain ⟨kX, _, mX⟩ := A19.cells rX
  rw [h0] at kX
  have lX := F8.mid mX
  simp only [Nat.zero_add] at lX
  have SX : Sa g n p s X := by rw [← hX]; exact hS.alloc _
  have DX : Da n d X := by rw [← hX]; exact Bc.alloc hD _
  have TX : Two g n w X := by rw [← hX]; exact (Two.refl _ _ _).alloc _
  have sX : X.heap.size = r + 1 := by rw [← hX, ← hr]; simp
  have hT := take_any SX (by omega) ho a.q
  obtain ⟨⟨F, fb⟩, hF⟩ : ∃ f, s.takeA a.q = f := ⟨_, rfl⟩
  obtain ⟨⟨G, gb⟩, hG⟩ : ∃ f, d.takeA a.q = f := ⟨_, rfl⟩
  rw [hF] at hT ⊢
  rw [hG]
  have HQ : Hid (∀ y, Da n d y → Calls Try.prog 22 #[.pointer (some ⟨n, 0, none⟩), .agg a.q.arr] y (PostD n (d.takeS a.q) (G, gb) y)) := fun y hy => by
    have := dtake_any hy hdo a.q
    rw [hG] at this
    exact this
  have HK : Hid (g < r ∧ n < r ∧ w.heap.size = r ∧ X.heap.size = r + 1 ∧ g ≠ n) := ⟨hgr, hnr, hr, sX, hgn⟩
  have HB := hidOf2 bX
  have HD := hidOf2 DX
  have HTX := hidOf2 TX
  generalize s.takeS a.q = S' at *
  generalize d.takeS a.q = D' at *
  clear hS ho hD hdo eS eD eB SX DX TX sX bX rX mX hgr hnr hgn hF hG h0
  go_enter Try.func11, Try.ntmps11
  go_wp2_with (first | (refine ldG lX rfl _ rfl rfl ?_))
  refine hT.mono ?_
  rintro e w1 ⟨rfl, ⟨p1, S1⟩, T1⟩
  have K := HK.out
  obtain ⟨V1, k1, hV1, hk1, z1, q1, t1, l1⟩ := lay8 w1 F
  have s1 := T1.size
  have b1 : Bc 36 r a.arr V1 := Bc.two (Bc.two HB.out T1 (by omega) (by omega)) t1 (by omega) (by omega)
  have r1 : V1.rangeAt r 0 a.c := fun j v hj => by rw [Nat.zero_add, Bc.cell b1 j]; simpa [A19.arr] using hj
  have lV := F8.mid (A19.cells r1).2.2
  simp only [Nat.zero_add] at lV
  have SV : Sa g n p1 S' V1 := by rw [← hV1]; exact (S1.alloc _).row z1 _
  have DV : Da n d V1 := (HD.out.two T1 (by omega) (by omega)).two t1 (by omega) (by omega)
  have TV : Two g n w V1 := by
    refine (HTX.out.trans (T1.left n)).trans ?_
    rw [← hV1]
    exact two_row ((Two.refl _ _ _).alloc _) k1 (by omega) _
  have hQ := HQ.out V1 DV
  have hV1' := hV1
  unfold zA8 at hV1'
  have HV1 := hidOf2 hV1'
  have HSV := hidOf2 SV
  have HTV := hidOf2 TV
  have Hq1 := hidOf2 q1
  have HK1 : Hid (r + 1 ≤ k1 ∧ k1 < V1.heap.size) := ⟨by omega, l1⟩
  clear hT S1 T1 s1 b1 r1 SV DV TV hV1 hV1' q1 t1 l1 lX kX
  go_wp2_with (first | (refine sdF (g := F) z1 rfl _ _ rfl rfl rfl ?_) | (rw [HV1.out]; refine ldG lV rfl _ rfl rfl ?_))
  refine hQ.mono ?_
  rintro e w2 ⟨rfl, D2, T2⟩
  have K1 := HK1.out
  obtain ⟨V2, k2, hV2, hk2, z2, q2, t2, l2⟩ := lay8 w2 G
  have s2 := T2.size
  have SV2 : Sa g n p1 S' V2 := by rw [← hV2]; exact ((HSV.out.two T2 rfl rfl K.2.2.2.2).alloc _).row z2 _
  have DV2 : Da n D' V2 := by rw [← hV2]; exact Da.row (Bc.alloc D2 _) z2 _
  have TV2 : Two g n w V2 := by
    refine (HTV.out.trans (T2.right g)).trans ?_
    rw [← hV2]
    exact two_row ((Two.refl _ _ _).alloc _) k2 (by omega) _
  have q12 : Qb k1 F V2 := (Hq1.out.two T2 (by omega) (by omega)).two t2 (by omega) (by omega)
  have L1 := q12.load
  have L2 := q2.load
  have HP : Hid ((∃ p', Sa g n p' S' V2) ∧ Da n D' V2 ∧ Two g n w V2) := ⟨⟨_, SV2⟩, DV2, TV2⟩
  have hV2' := hV2
  unfold zA8 at hV2'
  have HV2 := hidOf2 hV2'
  clear SV2 DV2 TV2 hV2 hV2' t2 l2 s2 D2 T2 K K1 lV
  obtain ⟨e, he⟩ : ∃ e, decide (F = G) = e := ⟨_, rfl⟩
  rw [he]
  cases e
  all_goals
    go_wp2_with (first | (refine sdF (g := G) z2 rfl _ _ rfl rfl rfl ?_) | (rw [HV2.out]; refine ldG L1 rfl _ rfl rfl ?_) | (refine ldG L2 rfl _ rfl rfl ?_) | (refine eqF F G rfl _ _ rfl rfl rfl ?_; rw [he]))
    go_ret
    exact ⟨ret_bool (by rw [he]; simp), HP.out⟩
set_option maxHeartbeats 4000000 in
theorem does_rest (hS : Sa g n p s w) (hD : Da n d w) (hgn : g ≠ n) (a : A19) (h0 : a.kind ≠ 0) : Calls Try.prog 11 #[.pointer (some ⟨g, 0, none⟩), .pointer (some ⟨n, 0, none⟩), .agg a.arr] w (PostA g n (s.act a) (d.act a) (actB s d a) w) := by
  have eB : actB s d a = true := by unfold actB; rw [if_neg h0]
  rw [eB]
  obtain ⟨r, hr⟩ : ∃ r, w.heap.size = r := ⟨_, rfl⟩
  have hgr : g < r := by rw [← hr]; exact hS.lt
  have hnr : n < r := by rw [← hr]; exact hD.lt
  obtain ⟨X, hX⟩ : ∃ x, w.alloc (.cells a.arr 36) = x := ⟨_, rfl⟩
  have bX : Bc 36 r a.arr X := by rw [← hX, ← hr]; exact heap_alloc_new w _
  have rX : X.rangeAt r 0 a.c := fun j v hj => by rw [Nat.zero_add, Bc.cell bX j]; simpa [A19.arr] using hj
  obtain ⟨kX, fX, _⟩ := A19.cells rX
  simp only [Nat.zero_add] at fX
  have SX : Sa g n p s X := by rw [← hX]; exact hS.alloc _
  have DX : Da n d X := by rw [← hX]; exact Bc.alloc hD _
  have TX : Two g n w X := by rw [← hX]; exact (Two.refl _ _ _).alloc _
  have HTX := hidOf2 TX
  have d0 : (a.kind == 0) = false := by simp [h0]
  by_cases h1 : a.kind = 1
  · have eS : s.act a = { s with fails := a.fails } := by unfold Ls.act; rw [if_neg h0, if_pos h1]
    have eD : d.act a = { d with fails := a.fails } := by unfold Ld.act; rw [if_neg h0, if_pos h1]
    rw [eS, eD]
    have hT := lsto_any SX a.fails
    rw [h1] at kX
    have HQ : Hid (∀ y, Da n d y → y.cell? ⟨n, 11, none⟩ = some (.bool d.fails) ∧ y.frozen? ⟨n, 11, none⟩ = false ∧ Da n { d with fails := a.fails } (y.setCell ⟨n, 11, none⟩ (.bool a.fails))) := fun y hy => by
      obtain ⟨_, _, _, _, _, _, _, _, _, _, _, c11, _, _, _, hf⟩ := hy.cells
      exact ⟨c11, hf 11, Da.set hy rfl⟩
    have HD := hidOf2 DX
    have HB := hidOf2 bX
    have HK : Hid (g < r ∧ n < r ∧ g ≠ n) := ⟨hgr, hnr, hgn⟩
    clear hS hD SX DX TX bX rX hgr hnr hgn eS eD eB h0 h1 d0
    go_enter Try.func11, Try.ntmps11
    go_wp2_with fail
    refine hT.mono ?_
    rintro e w1 ⟨rfl, S1, T1⟩
    have K := HK.out
    have D1 : Da n d w1 := HD.out.two T1 (by omega) (by omega)
    obtain ⟨c11, f11, D2⟩ := HQ.out w1 D1
    have b1 : Bc 36 r a.arr w1 := Bc.two HB.out T1 (by omega) (by omega)
    have r1 : w1.rangeAt r 0 a.c := fun j v hj => by rw [Nat.zero_add, Bc.cell b1 j]; simpa [A19.arr] using hj
    have f1 := (A19.cells r1).2.1
    simp only [Nat.zero_add] at f1
    have HP : Hid ((∃ p', Sa g n p' { s with fails := a.fails } (w1.setCell ⟨n, 11, none⟩ (.bool a.fails))) ∧ Da n { d with fails := a.fails } (w1.setCell ⟨n, 11, none⟩ (.bool a.fails)) ∧ Two g n w (w1.setCell ⟨n, 11, none⟩ (.bool a.fails))) :=
      ⟨⟨_, S1.two ((Two.refl n n w1).at0 11 _) rfl rfl K.2.2⟩, D2, (HTX.out.trans (T1.left n)).at1 11 _⟩
    clear S1 T1 D1 D2 b1 r1 hT K
    go_wp2
    go_ret
    exact ⟨rfl, HP.out⟩
  · have d1 : (a.kind == 1) = false := by simp [h1]
    by_cases h2 : a.kind = 2
    · have eS : s.act a = s.re := by unfold Ls.act; rw [if_neg h0, if_neg h1, if_pos h2]
      have eD : d.act a = d.re := by unfold Ld.act; rw [if_neg h0, if_neg h1, if_pos h2]
      rw [eS, eD]
      have hT := lre_any SX
      rw [h2] at kX
      have HD := hidOf2 DX
      have HK : Hid (g < r ∧ n < r ∧ g ≠ n) := ⟨hgr, hnr, hgn⟩
      have HQ : Hid (∀ y, Da n d y → Calls Try.prog 23 #[.pointer (some ⟨n, 0, none⟩)] y fun e w' => e = .returned (.tuple #[]) ∧ Da n d.re w' ∧ Two n n y w') := fun y hy => dre_any hy
      generalize s.re = S' at *
      generalize d.re = D' at *
      clear hS hD SX DX TX bX rX hgr hnr hgn eS eD eB h0 h1 h2 d0 d1
      go_enter Try.func11, Try.ntmps11
      go_wp2_with fail
      refine hT.mono ?_
      rintro e w1 ⟨rfl, S1, T1⟩
      have K := HK.out
      have D1 : Da n d w1 := HD.out.two T1 (by omega) (by omega)
      have hQ := HQ.out w1 D1
      have HS1 := hidOf2 S1
      clear S1 D1
      go_wp2_with fail
      refine hQ.mono ?_
      rintro e w2 ⟨rfl, D2, T2⟩
      have HP : Hid ((∃ p', Sa g n p' S' w2) ∧ Da n D' w2 ∧ Two g n w w2) := ⟨⟨_, HS1.out.two T2 rfl rfl K.2.2⟩, D2, (HTX.out.trans (T1.left n)).trans (T2.right g)⟩
      clear D2 T2 T1 K
      go_wp2
      go_ret
      exact ⟨rfl, HP.out⟩
    · have d2 : (a.kind == 2) = false := by simp [h2]
      have eS : s.act a = s := by unfold Ls.act; rw [if_neg h0, if_neg h1, if_neg h2]
      have eD : d.act a = d := by unfold Ld.act; rw [if_neg h0, if_neg h1, if_neg h2]
      rw [eS, eD]
      have HP : Hid ((∃ p', Sa g n p' s X) ∧ Da n d X ∧ Two g n w X) := ⟨⟨_, SX⟩, DX, TX⟩
      clear hS hD SX DX TX bX rX hgr hnr hgn eS eD eB h0 h1 h2
      go_enter Try.func11, Try.ntmps11
      go_wp2
      go_ret
      exact ⟨rfl, HP.out⟩
theorem does_any (hS : Sa g n p s w) (ho : s.Ok) (hD : Da n d w) (hdo : d.Ok) (hgn : g ≠ n) (a : A19) : Calls Try.prog 11 #[.pointer (some ⟨g, 0, none⟩), .pointer (some ⟨n, 0, none⟩), .agg a.arr] w (PostA g n (s.act a) (d.act a) (actB s d a) w) := by
  by_cases h0 : a.kind = 0
  · exact does_take hS ho hD hdo hgn a h0
  · exact does_rest hS hD hgn a h0
end
end Go.Proofs.Ythbmbabndhpdkaa
