/- Contract of the document's own Plain. -/
import Derived.Test.YtpjddhihokgffaaPla
namespace Go.Proofs.Ytpjddhihokgffaa
open Go.RowKit Go.Proofs.Bits
set_option linter.unusedVariables false
set_option maxRecDepth 1000000

/-- A frame whose bytes from n on up to k are 0. -/
def Fr.hole (f : Fr) (n k : Nat) (hk : n ≤ k ∧ k ≤ 8) : Fr := { f with data := f.data.take n ++ List.replicate (k - n) 0 ++ f.data.drop k, hdata := by simp [f.hdata]; omega }
theorem hole_full (f : Fr) (n : Nat) (hn : n ≤ 8) : f.hole n 8 ⟨hn, Nat.le_refl _⟩ = f.cut n hn := by
  simp only [Fr.hole, Fr.cut, Fr.mk.injEq, true_and]
  rw [List.drop_eq_nil_of_le (by rw [f.hdata]; omega), List.append_nil]
theorem hole_none (f : Fr) (n : Nat) (hn : n ≤ 8) : f.hole n n ⟨Nat.le_refl _, hn⟩ = f := by
  obtain ⟨id, ext, rem, len, data, h1, h2, h3⟩ := f
  simp [Fr.hole]
theorem hole_arr (f : Fr) (n k : Nat) (hk : n ≤ k ∧ k ≤ 8) (h8 : k < 8) : (f.hole n k hk).arr.setIfInBounds (4 + k) (.int .u8 0) = (f.hole n (k + 1) ⟨by omega, by omega⟩).arr := by
  obtain ⟨id, ext, rem, len, data, h1, h2, h3⟩ := f
  simp only [Fr.hole, Fr.arr, Fr.cells, List.setIfInBounds_toArray]
  congr 1
  rw [show 4 + k = k + 1 + 1 + 1 + 1 by omega]
  simp only [List.cons_append, List.nil_append, List.set_cons_succ]
  congr 4
  have hd : data.drop k = data[k]'(by omega) :: data.drop (k + 1) := List.drop_eq_getElem_cons (by omega)
  have e0 : (Value.int IntKind.u8 0) = (fun c : UInt8 => Value.int .u8 (c.toNat : Int)) 0 := rfl
  rw [hd, show k + 1 - n = (k - n) + 1 by omega, List.replicate_succ', e0, ← List.map_set]
  congr 1
  rw [List.set_append_right _ _ (by simp; omega)]
  simp [h3]
  rw [show k - (min n 8 + (k - n)) = 0 by omega, hd]
  rfl
theorem Fa.holes {q : Nat} {f : Fr} {w : World} {n k : Nat} {hk : n ≤ k ∧ k ≤ 8} (h : Fa q (f.hole n k hk) w) (h8 : k < 8) : Fa q (f.hole n (k + 1) ⟨by omega, by omega⟩) (w.setCell ⟨q, 4 + k, none⟩ (.int .u8 0)) := by
  unfold Fa
  rw [h.set, hole_arr f n k hk h8]

set_option maxHeartbeats 4000000 in
theorem r2Plain_any (f : Fr) (w : World) :
    Calls Try.prog 16 #[f.val] w fun e w' => e = .returned f.plain.val ∧ Below w.heap.size w w' := by
  have fA : Fa w.heap.size f ((w.alloc (.cells f.arr 25)).alloc (.cells Fr.nul.arr 25)) := (Fa.new w f).alloc _
  have fB : Fa (w.heap.size + 1) Fr.nul ((w.alloc (.cells f.arr 25)).alloc (.cells Fr.nul.arr 25)) := by
    have := Fa.new (w.alloc (.cells f.arr 25)) Fr.nul
    rw [size_alloc] at this
    exact this
  have bA : Below w.heap.size w ((w.alloc (.cells f.arr 25)).alloc (.cells Fr.nul.arr 25)) := ((Below.refl _ _).alloc (Nat.le_refl _) _).alloc (by rw [size_alloc]; omega) _
  have sA : ((w.alloc (.cells f.arr 25)).alloc (.cells Fr.nul.arr 25)).heap.size = w.heap.size + 2 := by rw [size_alloc, size_alloc]
  have hbl := f.bytes_le
  have HP : Hid (∀ h, f.plain = f.cut f.bytes h) := fun _ => rfl
  unfold Fr.val
  go_enter Try.func16, Try.ntmps16
  go_wp2_with (refine fA.ld rfl _ rfl rfl ?_)
  change Calls Try.prog 20 _ ((w.alloc (.cells f.arr 25)).alloc (.cells Fr.nul.arr 25)) _
  generalize ((w.alloc (.cells f.arr 25)).alloc (.cells Fr.nul.arr 25)) = A at *
  refine (r2Bytes_any f _).mono ?_
  rintro e w1 ⟨rfl, b1⟩
  have f1 : Fa w.heap.size f w1 := (b1.block _ (by omega)).trans fA
  have g1 : Fa (w.heap.size + 1) Fr.nul w1 := (b1.block _ (by omega)).trans fB
  have B1 := bA.trans (b1.mono (by omega))
  have s1 := b1.size
  generalize hn : f.bytes = n at *
  generalize hq : w.heap.size = q at *
  clear fA fB bA b1
  go_wp2_with fail
  go_loopw [3] (fun i wr => ∃ (k : Nat) (hk : n ≤ k ∧ k ≤ 8), i = .int .i64 k ∧ Fa q (f.hole n k hk) wr ∧ Fa (q + 1) Fr.nul wr ∧ Below q w wr ∧ q + 1 < wr.heap.size) (fun i _ => 8 - (intOf i).toNat)
  case atStart => exact ⟨n, ⟨Nat.le_refl _, hbl⟩, rfl, by rw [hole_none f n hbl]; exact f1, g1, B1, by omega⟩
  case round =>
    obtain ⟨k, hk, rfl, f2, g2, B2, l2⟩ := hrel
    clear f1 g1 B1
    by_cases hk8 : k < 8
    · have f3 := f2.holes hk8
      have cD : wr.cell? ⟨q, 4 + k, none⟩ = some _ := (Lib.cell_of_heap f2 (4 + k)).trans ((f.hole n k hk).arrD k hk8)
      have zD := f2.frozen (4 + k)
      have g3 := g2.other (p := ⟨q, 4 + k, none⟩) (by simp) (.int .u8 0)
      have B3 := B2.setCell (p := ⟨q, 4 + k, none⟩) (Nat.le_refl q) (.int .u8 0)
      have l3 : q + 1 < (wr.setCell ⟨q, 4 + k, none⟩ (.int .u8 0)).heap.size := g3.lt
      clear f2 g2 B2
      go_wp2
      go_roundw
      case rel => exact ⟨k + 1, ⟨by omega, by omega⟩, by go_num, f3, g3, B3, l3⟩
      case measure => simp [intOf]; omega
    · obtain rfl : k = 8 := by omega
      rw [hole_full f n hbl] at f2
      have D3 := g2.row (f.cut n hbl)
      have B3 := below_row (q := q + 1) B2 (by omega) (by omega) (f.cut n hbl).arr
      go_wp2_with (first | refine f2.ld rfl _ rfl rfl ?_ | refine g2.sd (f.cut n hbl) rfl _ _ rfl rfl rfl ?_)
      refine bodyPost_ret (v := .agg (f.cut n hbl).arr) (results_cell_row rfl _ _ (q + 1) 25 (f.cut n hbl).arr (0, 0) _ rfl D3 Try.underlying25 rfl (by rw [(f.cut n hbl).arr_size]; exact infoF)) rfl ⟨by rw [HP.out hbl], by rw [hq]; exact B3⟩
end Go.Proofs.Ytpjddhihokgffaa
