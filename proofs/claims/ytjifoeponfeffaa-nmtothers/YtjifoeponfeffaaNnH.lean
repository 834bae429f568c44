/- A call by a node, the program's and the document's. -/
import Derived.Test.YtjifoeponfeffaaNnG
import Derived.Test.YtjifoeponfeffaaNnD
import Derived.Deep.DeepCutAuto
namespace Go.Proofs.Ytjifoeponfeffaa
open Go.RowKit
set_option linter.unusedVariables false
set_option maxRecDepth 1000000
set_option linter.unusedSimpArgs false
/-- A call of that kind. -/
def Nd.act (s : Nd) (k n : Int) (b : List UInt8) : Nd := if k = 0 then s.take b else if k = 1 then s.step else if k = 2 then s.set n else s
theorem Nd.few.act {s : Nd} {j : Nat} (h : s.few j) (k n : Int) (b : List UInt8) : (s.act k n b).few (j + 1) := by
  unfold Nd.act
  repeat' split
  · exact h.take b
  · exact h.step
  · exact h.set n
  · exact h.more
theorem Nd.act_ok {s : Nd} (h : s.Ok) (k n : Int) (b : List UInt8) : (s.act k n b).Ok := by
  unfold Nd.act
  repeat' split
  · exact Nd.take_ok h b
  · exact Nd.step_ok h
  · exact Nd.set_ok h n
  · exact h
section
variable {p q : Nat} {s t : Nd} {w : World}
theorem does_any {j P0 : Nat} (hN : Na p s w) (hD : Nb q t w) (hpq : p ≠ q) (hp0 : P0 ≤ p) (hq0 : P0 ≤ q) (hs : s.few j) (ht : t.few j) (hj : j ≤ 140737488351300) (ho : t.Ok) (kd n : Int) (bv : Value) (bl : List UInt8) (hB : ∀ x, Below P0 w x → Bytes x bv bl) (hbl : bl.length ≤ 140737488351232) :
    Calls Try.prog 23 #[.pointer (some ⟨p, 0, none⟩), .pointer (some ⟨q, 0, none⟩), .agg #[.int .i64 kd, .int .i64 n, bv]] w fun e w' => e = .returned (.tuple #[]) ∧ Na p (s.act kd n bl) w' ∧ Nb q (t.act kd n bl) w' ∧ Two p q w w' := by
  have lp := Bc.lt hN
  have lq := Bc.lt hD
  have hB0 := hB w (Below.refl _ _)
  obtain ⟨ab, cb, hbv2, _⟩ := id hB0
  subst hbv2
  obtain ⟨r, hr⟩ : ∃ r, w.heap.size = r := ⟨_, rfl⟩
  obtain ⟨X, hX⟩ : ∃ x, w.alloc (.cells #[.int .i64 kd, .int .i64 n, .slice ab bl.length cb] 33) = x := ⟨_, rfl⟩
  have TX : Two p q w X := by rw [← hX]; exact (Two.refl _ _ _).alloc _
  have CX : Bc 33 r #[.int .i64 kd, .int .i64 n, .slice ab bl.length cb] X := by rw [← hX, ← hr]; exact heap_alloc_new w _
  have NX : Na p s X := by rw [← hX]; exact Bc.alloc hN _
  have DX : Nb q t X := by rw [← hX]; exact Bc.alloc hD _
  have lr := Bc.lt CX
  have bs : (-4611686018427387904 ≤ s.boots ∧ s.boots < 4611686018427387904) ∧ (-4611686018427387904 ≤ s.talks ∧ s.talks < 4611686018427387904) := by obtain ⟨a1, a2, a3, a4⟩ := hs; omega
  have bt : (-4611686018427387904 ≤ t.boots ∧ t.boots < 4611686018427387904) ∧ (-4611686018427387904 ≤ t.talks ∧ t.talks < 4611686018427387904) := by obtain ⟨a1, a2, a3, a4⟩ := ht; omega
  clear hN hD hs ht
  by_cases h0 : kd = 0
  · subst h0
    have e1 : s.act 0 n bl = s.take bl := rfl
    have e2 : t.act 0 n bl = t.take bl := rfl
    rw [e1, e2]
    obtain ⟨e0, he0⟩ : ∃ x, X.heap.size = x := ⟨_, rfl⟩
    obtain ⟨X1, hX1⟩ : ∃ x, X.alloc (.cells #[] 5) = x := ⟨_, rfl⟩
    have HT := hidOf2 (took_any hX1 he0 NX bl bs.1 bs.2)
    have HO : Hid (X1.ownsRow e0 5 1 (.slice (some ⟨e0, 0, none⟩) 0 0) 0 []) := by
      show World.ownsRow _ _ _ _ _ _ _
      rw [← hX1, ← he0]
      exact own_empty X
    have BX1 : Below X.heap.size X X1 := by rw [← hX1]; exact (Below.refl _ _).alloc (Nat.le_refl _) _
    have hs1 : X1.heap.size = e0 + 1 := by rw [← hX1, ← he0]; simp
    have BwX : Below P0 w X := TX.below (by omega) hp0 hq0
    have HB2 : Hid (Bytes X1 (.slice ab bl.length cb) bl) := hB X1 (BwX.trans (BX1.mono (by omega)))
    have C1 : Bc 33 r #[.int .i64 0, .int .i64 n, .slice ab bl.length cb] X1 := Bc.below CX BX1
    have x0 : X.cell? ⟨r, 0, none⟩ = some (.int .i64 0) := Bc.cell CX 0
    have y2 : X1.cell? ⟨r, 2, none⟩ = some (.slice ab bl.length cb) := Bc.cell C1 2
    have H2 : Hid (∀ y, Na p (s.take bl) y → Two p p X y → y.cell? ⟨r, 2, none⟩ = some (.slice ab bl.length cb) ∧ Two p q w y ∧ Calls Try.prog 11 #[.pointer (some ⟨q, 0, none⟩), .slice ab bl.length cb] y fun e w' => e = .returned (.int .i64 (t.told bl)) ∧ Na p (s.take bl) w' ∧ Nb q (t.take bl) w' ∧ Two q q y w') := by
      intro y hy hT
      have C9 := Bc.two CX hT (by omega) (by omega)
      have T9 : Two p q w y := TX.trans ⟨hT.os, hT.tape, hT.output, hT.size, fun k hk h1 h2 => hT.block k hk h1 h1⟩
      have D9 : Nb q t y := Bc.two DX hT (by omega) (by omega)
      refine ⟨Bc.cell C9 2, T9, ?_⟩
      refine (dtake_any _ bl D9 (hB y (T9.below (by omega) hp0 hq0)) ho bt.1 bt.2).mono ?_
      rintro e w' ⟨h1, h2, h3⟩
      exact ⟨h1, Bc.two hy h3 (by omega) (by omega), h2, h3⟩
    clear BX1 C1 BwX NX DX CX hB hB0 bs bt
    go_enter Try.func23, Try.ntmps23
    go_upto_region 3 with fail
    clear hX
    go_upto_region 4 with (first | (at_builtin; refine append_bytes rfl _ _ rfl e0 _ [] rfl (by exact HO.out) _ bl rfl (by exact HB2.out) (by simp; omega) (by omega) ?_; intro v1 w2 ho2 hgr; have hT2 := HT.out v1 w2 ho2 hgr; clear ho2 hgr) | (go_at_call 10; refine hT2.mono ?_; rintro e w3 ⟨rfl, N3, T3⟩))
    obtain ⟨z2, T4, hD4⟩ := H2.out w3 N3 T3
    clear N3 T3 HT HO HB2 hX1 hT2 y2 x0 H2
    go_wp2_with (go_at_call 11; refine hD4.mono ?_; rintro e w4 ⟨rfl, N4, D4, T5⟩)
    go_end0
    exact ⟨rfl, N4, D4, T4.trans ⟨T5.os, T5.tape, T5.output, T5.size, fun k hk h1 h2 => T5.block k hk h2 h2⟩⟩
  · have d0 : (kd == 0) = false := by simp [h0]
    by_cases h1 : kd = 1
    · subst h1
      have e1 : s.act 1 n bl = s.step := rfl
      have e2 : t.act 1 n bl = t.step := rfl
      rw [e1, e2]
      have x0 : X.cell? ⟨r, 0, none⟩ = some (.int .i64 1) := Bc.cell CX 0
      have hS := step_any NX
      have H2 : Hid (∀ y, Na p s.step y → Two p p X y → Two p q w y ∧ Calls Try.prog 13 #[.pointer (some ⟨q, 0, none⟩)] y fun e w' => e = .returned (.bool t.goes) ∧ Na p s.step w' ∧ Nb q t.step w' ∧ Two q q y w') := by
        intro y hy hT
        have T9 : Two p q w y := TX.trans ⟨hT.os, hT.tape, hT.output, hT.size, fun k hk h1 h2 => hT.block k hk h1 h1⟩
        have D9 : Nb q t y := Bc.two DX hT (by omega) (by omega)
        refine ⟨T9, ?_⟩
        refine (dstep_any D9).mono ?_
        rintro e w' ⟨h1, h2, h3⟩
        exact ⟨h1, Bc.two hy h3 (by omega) (by omega), h2, h3⟩
      clear NX DX CX hB hB0 bs bt h0
      go_enter Try.func23, Try.ntmps23
      go_upto_region 6 with fail
      clear hX
      go_upto_region 7 with (go_at_call 12; refine hS.mono ?_; rintro e w3 ⟨r3, rfl, _, N3, T3⟩)
      obtain ⟨T4, hD4⟩ := H2.out w3 N3 T3
      clear N3 T3 x0 H2 hS
      go_wp2_with (go_at_call 13; refine hD4.mono ?_; rintro e w4 ⟨rfl, N4, D4, T5⟩)
      go_end0
      exact ⟨rfl, N4, D4, T4.trans ⟨T5.os, T5.tape, T5.output, T5.size, fun k hk h1 h2 => T5.block k hk h2 h2⟩⟩
    · have d1 : (kd == 1) = false := by simp [h1]
      by_cases h2 : kd = 2
      · subst h2
        have e1 : s.act 2 n bl = s.set n := rfl
        have e2 : t.act 2 n bl = t.set n := rfl
        rw [e1, e2]
        have x0 : X.cell? ⟨r, 0, none⟩ = some (.int .i64 2) := Bc.cell CX 0
        have x1 : X.cell? ⟨r, 1, none⟩ = some (.int .i64 n) := Bc.cell CX 1
        have hS := set_any NX n
        have H2 : Hid (∀ y, Na p (s.set n) y → Two p p X y → y.cell? ⟨r, 1, none⟩ = some (.int .i64 n) ∧ Two p q w y ∧ Calls Try.prog 15 #[.pointer (some ⟨q, 0, none⟩), .int .i64 n] y fun e w' => e = .returned (.int .i64 (if isN n then 0 else 1)) ∧ Na p (s.set n) w' ∧ Nb q (t.set n) w' ∧ Two q q y w') := by
          intro y hy hT
          have C9 := Bc.two CX hT (by omega) (by omega)
          have T9 : Two p q w y := TX.trans ⟨hT.os, hT.tape, hT.output, hT.size, fun k hk h1 h2 => hT.block k hk h1 h1⟩
          have D9 : Nb q t y := Bc.two DX hT (by omega) (by omega)
          refine ⟨Bc.cell C9 1, T9, ?_⟩
          refine (dset_any D9 n).mono ?_
          rintro e w' ⟨h1, h2, h3⟩
          exact ⟨h1, Bc.two hy h3 (by omega) (by omega), h2, h3⟩
        clear NX DX CX hB hB0 bs bt h0 h1
        generalize (if isN n = true then (0 : Int) else 1) = zz at *
        go_enter Try.func23, Try.ntmps23
        go_upto_region 9 with fail
        clear hX
        go_upto_region 10 with (go_at_call 14; refine hS.mono ?_; rintro e w3 ⟨rfl, N3, T3⟩)
        obtain ⟨z1, T4, hD4⟩ := H2.out w3 N3 T3
        clear N3 T3 x0 x1 H2 hS
        go_wp2_with (go_at_call 15; refine hD4.mono ?_; rintro e w4 ⟨rfl, N4, D4, T5⟩)
        go_end0
        exact ⟨rfl, N4, D4, T4.trans ⟨T5.os, T5.tape, T5.output, T5.size, fun k hk h1 h2 => T5.block k hk h2 h2⟩⟩
      · have d2 : (kd == 2) = false := by simp [h2]
        have e1 : s.act kd n bl = s := by simp [Nd.act, h0, h1, h2]
        have e2 : t.act kd n bl = t := by simp [Nd.act, h0, h1, h2]
        rw [e1, e2]
        have x0 : X.cell? ⟨r, 0, none⟩ = some (.int .i64 kd) := Bc.cell CX 0
        clear CX hB hB0 bs bt h0 h1 h2
        go_enter Try.func23, Try.ntmps23
        go_wp2
        go_end0
        exact ⟨rfl, NX, DX, TX⟩
end
end Go.Proofs.Ytjifoeponfeffaa
