/- The document's sender in memory; All, number, gives. -/
import Derived.Test.YtebjofkblfmkmaaBkF1
namespace Go.Proofs.Ytebjofkblfmkmaa
open Go.RowKit Go.Proofs.Ty Go.Proofs.Bits
set_option linter.unusedVariables false
set_option maxRecDepth 1000000
set_option linter.unusedSimpArgs false
/-- Its cells: the bytes, how many came, how many the block has, what it waits for, its code. -/
def dsA (bs : List UInt8) (ao : Option Addr) (cp at0 many wt cd : Nat) : Array Value := #[.slice ao bs.length cp, .int .i64 (at0 : Int), .int .i64 (many : Int), .int .i64 (wt : Int), .int .u32 (cd : Int)]
theorem dsA_no (bs : List UInt8) (ao : Option Addr) (cp at0 many wt cd : Nat) : NoU8 (dsA bs ao cp at0 many wt cd) := by
  intro o x
  match o with
  | 0 => simp [dsA]
  | 1 => simp [dsA]
  | 2 => simp [dsA]
  | 3 => simp [dsA]
  | 4 => simp [dsA]
  | n + 5 => simp [dsA]
/-- The document's sender in block D. -/
structure Dd (D : Nat) (bs : List UInt8) (ao : Option Addr) (cp at0 many wt cd : Nat) (w : World) : Prop where
  hd : w.heap[D]? = some (.cells (dsA bs ao cp at0 many wt cd) 34 (0, 0))
  bt : Bytes w (.slice ao bs.length cp) bs
  bl : bs.length ≤ 65536
section
variable {D : Nat} {bs : List UInt8} {ao : Option Addr} {cp at0 many wt cd at1 many1 wt1 cd1 : Nat} {w x : World}
theorem Dd.lt (h : Dd D bs ao cp at0 many wt cd w) : D < w.heap.size := (Array.getElem?_eq_some_iff.1 h.hd).1
theorem Dd.c0 (h : Dd D bs ao cp at0 many wt cd w) : w.cell? ⟨D, 0, none⟩ = some (.slice ao bs.length cp) := Lib.cell_of_heap h.hd 0
theorem Dd.c1 (h : Dd D bs ao cp at0 many wt cd w) : w.cell? ⟨D, 1, none⟩ = some (.int .i64 (at0 : Int)) := Lib.cell_of_heap h.hd 1
theorem Dd.c2 (h : Dd D bs ao cp at0 many wt cd w) : w.cell? ⟨D, 2, none⟩ = some (.int .i64 (many : Int)) := Lib.cell_of_heap h.hd 2
theorem Dd.c3 (h : Dd D bs ao cp at0 many wt cd w) : w.cell? ⟨D, 3, none⟩ = some (.int .i64 (wt : Int)) := Lib.cell_of_heap h.hd 3
theorem Dd.c4 (h : Dd D bs ao cp at0 many wt cd w) : w.cell? ⟨D, 4, none⟩ = some (.int .u32 (cd : Int)) := Lib.cell_of_heap h.hd 4
theorem Dd.fr (h : Dd D bs ao cp at0 many wt cd w) (k : Nat) : w.frozen? ⟨D, k, none⟩ = false := Lib.frozen_of_heap h.hd k
theorem Dd.below (h : Dd D bs ao cp at0 many wt cd w) (hb : Below w.heap.size w x) : Dd D bs ao cp at0 many wt cd x := ⟨(hb.block D h.lt).trans h.hd, h.bt.below hb, h.bl⟩
theorem Dd.drawn (h : Dd D bs ao cp at0 many wt cd w) (n : Nat) : Dd D bs ao cp at0 many wt cd (w.drewN n) := ⟨h.hd, h.bt, h.bl⟩
theorem Dd.set (h : Dd D bs ao cp at0 many wt cd w) (k : Nat) (v : Value) (hA : (dsA bs ao cp at0 many wt cd).setIfInBounds k v = dsA bs ao cp at1 many1 wt1 cd1) : Dd D bs ao cp at1 many1 wt1 cd1 (w.setCell ⟨D, k, none⟩ v) := by
  refine ⟨?_, h.bt.kp1 h.hd (dsA_no _ _ _ _ _ _ _) (Kp.cell1 _ _ _ _), h.bl⟩
  simp only [World.setCell, Array.getElem?_modify, h.hd]
  simp [hA]
theorem All_any (h : Dd D bs ao cp at0 many wt cd w) : Calls Try.prog 31 #[.pointer (some ⟨D, 0, none⟩)] w fun e w' => e = .returned (.int .i64 ((segs bs.length : Nat) : Int)) ∧ w' = w := by
  have c0 := h.c0
  have hb := h.bl
  have HS : Hid (segs bs.length = max 1 ((bs.length + 6) / 7)) := rfl
  generalize segs bs.length = m at *
  generalize bs.length = n at *
  by_cases h0 : n = 0
  · have d0 : (((n : Int) + 6) / 7 == 0) = true := by simp; omega
    go_enter Try.func31, Try.ntmps31
    go_wp2
    go_ret
    exact ⟨ret_int (by rw [HS.out]; omega), rfl⟩
  · have d0 : (((n : Int) + 6) / 7 == 0) = false := by simp; omega
    go_enter Try.func31, Try.ntmps31
    go_wp2
    go_ret
    exact ⟨ret_int (by rw [HS.out]; omega), rfl⟩
theorem dnumber_any (f : F8) (w : World) : Calls Try.prog 29 #[.agg f.arr] w fun e w' => e = .returned (.int .u32 (num4 f : Nat)) ∧ Below w.heap.size w w' := by
  have B0 : Below w.heap.size w (w.alloc (.cells f.arr 30)) := (Below.refl _ _).alloc (Nat.le_refl _) _
  have q0 := Qb.new w f
  have c4 := q0.c4
  have c5 := q0.c5
  have c6 := q0.c6
  have c7 := q0.c7
  have l4 := f.b4.toNat_lt
  have l5 := f.b5.toNat_lt
  have l6 := f.b6.toNat_lt
  have l7 := f.b7.toNat_lt
  have HN : Hid (num4 f = f.b4.toNat + 256 * f.b5.toNat + 65536 * f.b6.toNat + 16777216 * f.b7.toNat) := rfl
  have HB := hidOf2 B0
  clear q0 B0
  generalize num4 f = N at *
  generalize f.b4.toNat = x4 at *
  generalize f.b5.toNat = x5 at *
  generalize f.b6.toNat = x6 at *
  generalize f.b7.toNat = x7 at *
  generalize f.arr = A at *
  go_enter Try.func29, Try.ntmps29
  go_wp2
  go_ret
  exact ⟨ret_int (by rw [HN.out]; omega), HB.out⟩
set_option maxHeartbeats 2000000 in
theorem dgives_any (h : Dd D bs ao cp at0 many wt cd w) (c : Nat) (hc : c < 4294967296) : Calls Try.prog 30 #[.pointer (some ⟨D, 0, none⟩), .int .u32 (c : Int)] w fun e w' => ∃ v, e = .returned v ∧ Lf w.heap.size w' v [frm 128 0 0 c] ∧ Dd D bs ao cp at0 many 3 c w' ∧ Kp [D] w w' := by
  have c3 := h.c3
  have c4 := h.c4
  have f3 := h.fr 3
  have f4 := h.fr 4
  have HX : Hid (∀ Z, Z = (w.setCell ⟨D, 3, none⟩ (.int .i64 3)).setCell ⟨D, 4, none⟩ (.int .u32 (c : Int)) → Dd D bs ao cp at0 many 3 c Z ∧ Kp [D] w Z) := fun Z hZ => by
    subst hZ
    have h1 := h.set (at1 := at0) (many1 := many) (wt1 := 3) (cd1 := cd) 3 (.int .i64 3) (by simp [dsA])
    exact ⟨h1.set 4 _ (by simp [dsA]), (Kp.cell1 w D 3 _).trans (Kp.cell1 _ D 4 _)⟩
  have hF := fun y => r10Frame_any 128 0 0 c y (by decide) (by decide) (by decide) hc
  obtain ⟨ff, hff⟩ : ∃ f, frm 128 0 0 c = f := ⟨_, rfl⟩
  rw [hff] at hF ⊢
  clear hff
  go_enter Try.func30, Try.ntmps30
  go_upto_region 2 with fail
  obtain ⟨X, hX⟩ : ∃ Z, (w.setCell ⟨D, 3, none⟩ (.int .i64 3)).setCell ⟨D, 4, none⟩ (.int .u32 (c : Int)) = Z := ⟨_, rfl⟩
  rw [hX]
  obtain ⟨dX, kX⟩ := HX.out X hX.symm
  have HD := hidOf2 dX
  have HK := hidOf2 kX
  have hF := hF X
  clear HX hX dX kX c3 c4 f3 f4
  go_wp2_with fail
  refine hF.mono ?_
  rintro e w2 ⟨rfl, b2⟩
  have b3 : Below w2.heap.size w2 (w2.alloc (.cells ff.arr 30)) := (Below.refl _ _).alloc (Nat.le_refl _) _
  have HS := hidOf2 ((HD.out.below b2).below b3)
  have HK2 := hidOf2 ((HK.out.trans (Kp.of_below b2)).trans (Kp.of_below b3))
  have HL := hidOf2 ((Lf.new w2 ff).low (Nat.le_trans HK.out.size b2.size))
  clear hF b2 b3 HD HK
  go_wp2_with (first | (refine bs1 ff rfl _ rfl rfl ?_))
  go_ret
  exact ⟨.slice (some ⟨w2.heap.size, 0, none⟩) 1 1, rfl, HL.out, HS.out, HK2.out⟩
end
end Go.Proofs.Ytebjofkblfmkmaa
