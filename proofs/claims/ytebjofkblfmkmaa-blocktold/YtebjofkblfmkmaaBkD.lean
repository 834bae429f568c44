/- Contracts: the end's frame, a block. -/
import Derived.Test.YtebjofkblfmkmaaBkC
import Derived.Deep.Upon
namespace Go.Proofs.Ytebjofkblfmkmaa
open Go.RowKit Go.Proofs.Ty Go.Proofs.Bits
set_option linter.unusedVariables false
set_option maxRecDepth 1000000
set_option linter.unusedSimpArgs false
theorem or193 : ∀ k ≤ 7, bits .or .u8 193 (((k : Nat) : Int) * 4) = ((193 + 4 * k : Nat) : Int) := by decide +kernel
theorem ending_results {Q : Nat} {f : F8} {w : World} (h : Qb Q f w) (tmps : Array Value) (h2 : tmps[2]?.getD undef = .pointer (some ⟨Q, 0, none⟩)) :
    (results Try.f40 tmps).run Try.prog w = .ok (.agg f.arr) w := by
  have l0 := h.load
  simp [Go.results, Try.results40, h2, asAddr, l0]
theorem endF_arr (bs : List UInt8) (sp : Nat) (h : 7 * segs bs.length - bs.length = sp) (h7 : sp ≤ 7) : (endF bs).arr = #[.int .u8 ((193 + 4 * sp : Nat) : Int), .int .u8 ((crc16 bs : Int) % 256), .int .u8 ((crc16 bs : Int) / 256), .int .u8 0, .int .u8 0, .int .u8 0, .int .u8 0, .int .u8 0] := by
  have := crc16_lt bs
  unfold endF F8.arr F8.c
  rw [h]
  simp only [un (193 + 4 * sp) (by omega), un (crc16 bs % 256) (by omega), un (crc16 bs / 256) (by omega)]
  simp
section
variable {S : Nat} {s t : Sn} {ao ap : Option Addr} {cp cq : Nat} {w x : World}
set_option maxHeartbeats 2000000 in
theorem ending_any (h : Sd S s ao cp w) : Calls Try.prog 40 #[.pointer (some ⟨S, 0, none⟩)] w fun e w' => e = .returned (.agg (endF s.bs).arr) ∧ Below w.heap.size w w' := by
  have hbs := h.ok.bs
  have hsl := segs_le s.bs.length
  have hge := segs_ge s.bs.length
  have hsp := segs_sp s.bs.length
  obtain ⟨q, hq⟩ : ∃ q, w.heap.size = q := ⟨_, rfl⟩
  obtain ⟨V, hV⟩ : ∃ V, w.alloc (.cells zA8 30) = V := ⟨_, rfl⟩
  have B0 : Below w.heap.size w V := by rw [← hV]; exact (Below.refl _ _).alloc (Nat.le_refl _) _
  have Z0 : Qb q F8.nul V := by rw [← hV, ← hq]; exact heap_alloc_new w _
  have s1 := h.below B0
  have c1 := s1.c1
  have hSg : ∀ n, Calls Try.prog 39 #[.pointer (some ⟨S, 0, none⟩)] (V.drewN n) (fun e w' => e = .returned (.int .i64 ((segs s.bs.length : Nat) : Int)) ∧ w' = V.drewN n) := fun n => segments_any (s1.drawn n)
  have hCr : ∀ n, Calls Try.prog 45 #[.slice ao s.bs.length cp] (V.drewN n) fun e w' => e = .returned (.int .u16 (crc16 s.bs)) ∧ w' = V.drewN n := fun n => CRC16_bytes _ _ _ (by unfold maxLen; omega) (s1.drawn n).bt
  have hcl := crc16_lt s.bs
  obtain ⟨sp, hsp0⟩ : ∃ k, 7 * segs s.bs.length - s.bs.length = k := ⟨_, rfl⟩
  have HA := hidOf2 (endF_arr s.bs sp hsp0 (by omega))
  have hor := or193 sp (by omega)
  have hspI : ((segs s.bs.length : Nat) : Int) * 7 - (s.bs.length : Int) = (sp : Int) := by omega
  have hs7 : sp ≤ 7 := by omega
  have hG : segs s.bs.length ≤ 100000 := by omega
  obtain ⟨ff, hff⟩ : ∃ f, endF s.bs = f := ⟨_, rfl⟩
  rw [hff] at HA ⊢
  have HQ : Hid (∀ n, Qb q F8.nul (V.drewN n)) := fun n => Z0
  have HR : Hid (∀ n, Qb q ff ((V.drewN n).setRow q ff.arr) ∧ Below w.heap.size w ((V.drewN n).setRow q ff.arr)) := fun n => ⟨(HQ.out n).row ff, below_row (bdr B0 n) (by omega) B0.size _⟩
  clear hff hsp0 s1 Z0 B0 hge hsp h hsl
  generalize segs s.bs.length = G at *
  generalize crc16 s.bs = cr at *
  generalize s.bs.length = n at *
  go_enter Try.func40, Try.ntmps40
  go_upto_region 1 with fail
  change Code.wp Try.prog _ _ _ (w.alloc (.cells zA8 30))
  rw [hV]
  go_quiet (first | (go_at_call 39; refine Calls.quiet_of_same (hSg _)))
  have z1 := HQ.out nq
  have hCr := hCr nq
  go_wp2_with (first | (go_at_call 45; refine hCr.mono ?_; rintro e w1 ⟨rfl, hw1⟩; rw [hw1]; clear hw1 w1) | (refine sdF (g := ff) z1 rfl _ _ rfl rfl (by rw [HA.out]; first | rfl | (simp [Act.eval]; done)) ?_))
  exact bodyPost_ret (ending_results (HR.out nq).1 _ rfl) rfl ⟨rfl, (HR.out nq).2⟩
end
theorem setCells_heap (w : World) (b o : Nat) (vs : List Value) (k : Nat) (h : k ≠ b) : (w.setCells b o vs).heap[k]? = w.heap[k]? := by
  induction vs generalizing o w with
  | nil => rfl
  | cons x r ih => exact (ih (w.setCell ⟨b, o, none⟩ x) (o + 1)).trans (Below.heap_setCell w ⟨b, o, none⟩ x k h)
theorem setCells_size (w : World) (b o : Nat) (vs : List Value) : (w.setCells b o vs).heap.size = w.heap.size := by
  induction vs generalizing o w with
  | nil => rfl
  | cons x r ih => exact (ih (w.setCell ⟨b, o, none⟩ x) (o + 1)).trans (by simp [World.setCell])
theorem setCells_kept (w : World) (q o : Nat) (c : List Value) : w.grownBy (w.setCells q o c) (some q) := by
  induction c generalizing o w with
  | nil => exact ⟨rfl, rfl, rfl, Nat.le_refl _, fun _ _ _ => rfl⟩
  | cons x r ih =>
    have h1 := ih (w.setCell ⟨q, o, none⟩ x) (o + 1)
    refine ⟨h1.os, h1.tape, h1.output, ?_, fun k hk hne => setCells_heap w q o (x :: r) k (fun e => hne (by rw [e]))⟩
    rw [setCells_size]; exact Nat.le_refl _
theorem Kp.cells (w : World) (b o : Nat) (cs : List Value) : Kp [b] w (w.setCells b o cs) := by
  have h := setCells_kept w b o cs
  exact ⟨h.os, h.tape, h.output, h.size, fun k hk hn => setCells_heap w b o cs k (by simpa using hn)⟩
theorem flat_set8 (V : List F8) (k : Nat) (hk : k < V.length) (f : F8) : flatW D8 (V.set k f) = (((((((((flatW D8 V).set (k * 8) (.int .u8 (f.b0.toNat : Int))).set (k * 8 + 1) (.int .u8 (f.b1.toNat : Int))).set (k * 8 + 2) (.int .u8 (f.b2.toNat : Int))).set (k * 8 + 3) (.int .u8 (f.b3.toNat : Int))).set (k * 8 + 4) (.int .u8 (f.b4.toNat : Int))).set (k * 8 + 5) (.int .u8 (f.b5.toNat : Int))).set (k * 8 + 6) (.int .u8 (f.b6.toNat : Int))).set (k * 8 + 7) (.int .u8 (f.b7.toNat : Int))) := by
  have step : ∀ (u : F8) (r : List F8), flatW D8 (u :: r) = .int .u8 (u.b0.toNat : Int) :: .int .u8 (u.b1.toNat : Int) :: .int .u8 (u.b2.toNat : Int) :: .int .u8 (u.b3.toNat : Int) :: .int .u8 (u.b4.toNat : Int) :: .int .u8 (u.b5.toNat : Int) :: .int .u8 (u.b6.toNat : Int) :: .int .u8 (u.b7.toNat : Int) :: flatW D8 r := fun u r => rfl
  induction V generalizing k with
  | nil => simp at hk
  | cons u r ih =>
    match k, hk with
    | 0, _ => simp [step]
    | k + 1, hk =>
      rw [List.set_cons_succ, step, step, ih k (by simpa using hk), show (k + 1) * 8 = k * 8 + 1 + 1 + 1 + 1 + 1 + 1 + 1 + 1 by omega]
      simp only [List.set_cons_succ]
theorem own_set8 {x : World} {B g n c k : Nat} {V : List F8} (h : x.ownsRow B 30 8 (.slice (some ⟨g, 0, none⟩) n c) V.length (flatW D8 V)) (hk : k < V.length) (u : F8) : (x.setCells g (k * 8) u.c).ownsRow B 30 8 (.slice (some ⟨g, 0, none⟩) n c) (V.set k u).length (flatW D8 (V.set k u)) := by
  obtain ⟨h1, h2⟩ := h
  rcases h2 with ⟨h2, _⟩ | ⟨g', cap, cur, e1, e2, e3, e4, e5, e6, e7⟩
  · cases h2
  · injection e1 with e1 en ec
    injection e1 with e1
    injection e1 with e1 _ _
    subst e1
    refine ⟨by rw [flatW_len]; rfl, .inr ⟨g, cap, ((((((((cur.setIfInBounds (k * 8) (.int .u8 (u.b0.toNat : Int))).setIfInBounds (k * 8 + 1) (.int .u8 (u.b1.toNat : Int))).setIfInBounds (k * 8 + 2) (.int .u8 (u.b2.toNat : Int))).setIfInBounds (k * 8 + 3) (.int .u8 (u.b3.toNat : Int))).setIfInBounds (k * 8 + 4) (.int .u8 (u.b4.toNat : Int))).setIfInBounds (k * 8 + 5) (.int .u8 (u.b5.toNat : Int))).setIfInBounds (k * 8 + 6) (.int .u8 (u.b6.toNat : Int))).setIfInBounds (k * 8 + 7) (.int .u8 (u.b7.toNat : Int))), by rw [List.length_set, en, ec], e2, ?_, by rw [List.length_set]; exact e4, e5, by simpa using e6, ?_⟩⟩
    · show ((((((((x.setCell ⟨g, k * 8, none⟩ (.int .u8 (u.b0.toNat : Int))).setCell ⟨g, k * 8 + 1, none⟩ (.int .u8 (u.b1.toNat : Int))).setCell ⟨g, k * 8 + 2, none⟩ (.int .u8 (u.b2.toNat : Int))).setCell ⟨g, k * 8 + 3, none⟩ (.int .u8 (u.b3.toNat : Int))).setCell ⟨g, k * 8 + 4, none⟩ (.int .u8 (u.b4.toNat : Int))).setCell ⟨g, k * 8 + 5, none⟩ (.int .u8 (u.b5.toNat : Int))).setCell ⟨g, k * 8 + 6, none⟩ (.int .u8 (u.b6.toNat : Int))).setCell ⟨g, k * 8 + 7, none⟩ (.int .u8 (u.b7.toNat : Int))).heap[g]? = _
      simp only [World.setCell, Array.getElem?_modify, e3]
      simp
    · rw [flat_set8 V k hk u, ← e7, List.length_set]
      simp only [Array.toList_setIfInBounds, List.take_set]
theorem own_there8 {x : World} {B g n c k : Nat} {V : List F8} (h : x.ownsRow B 30 8 (.slice (some ⟨g, 0, none⟩) n c) V.length (flatW D8 V)) (hk : k < V.length) : x.there g (k * 8) 8 := by
  obtain ⟨h1, h2⟩ := h
  rcases h2 with ⟨h2, _⟩ | ⟨g', cap, cur, e1, e2, e3, e4, e5, e6, e7⟩
  · cases h2
  · injection e1 with e1 en ec
    injection e1 with e1
    injection e1 with e1 _ _
    subst e1
    intro j hj
    refine ⟨?_, Lib.frozen_of_heap e3 _⟩
    rw [Lib.cell_of_heap e3, Array.getElem?_eq_getElem (by omega)]
    rfl
/-- The block as far as it is laid. -/
def fill (bs : List UInt8) (c m k : Nat) : List F8 := (List.range m).map (fun j => if j < k then segF bs c j else F8.nul)
theorem fill_len (bs : List UInt8) (c m k : Nat) : (fill bs c m k).length = m := by simp [fill]
theorem fill_set (bs : List UInt8) (c m k : Nat) (h : k < m) : (fill bs c m k).set k (segF bs c k) = fill bs c m (k + 1) := by
  apply List.ext_getElem
  · simp [fill]
  · intro i h1 h2
    simp only [fill, List.getElem_set, List.getElem_map, List.getElem_range]
    by_cases e : k = i
    · subst e; simp
    · rw [if_neg e]
      by_cases hi : i < k
      · rw [if_pos hi, if_pos (by omega)]
      · rw [if_neg hi, if_neg (by omega)]
theorem fill_all (bs : List UInt8) (c m : Nat) : fill bs c m m = (List.range m).map (segF bs c) := by
  apply List.map_congr_left
  intro j hj
  rw [if_pos (by simpa using hj)]
theorem made8 (w : World) (m : Nat) (bs : List UInt8) (c : Nat) (hm : m ≤ 127) : (w.alloc (.cells (madeCells zA8 (m * 8)) 30)).ownsRow w.heap.size 30 8 (.slice (some ⟨w.heap.size, 0, none⟩) m m) (fill bs c m 0).length (flatW D8 (fill bs c m 0)) := by
  rw [fill_len]
  refine ⟨by rw [flatW_len, fill_len]; rfl, .inr ⟨w.heap.size, m, madeCells zA8 (m * 8), rfl, Nat.le_refl _, heap_alloc_new w _, Nat.le_refl _, by unfold maxLen; omega, by simp [size_madeCells], ?_⟩⟩
  rw [List.take_of_length_le (by simp [size_madeCells])]
  have hfl : ∀ k j, k < m → j < 8 → (flatW D8 (fill bs c m 0))[k * 8 + j]? = some (.int .u8 0) := fun k j hk hj => by
    have e := flatW_get D8 (fill bs c m 0) k j (by rw [fill_len]; exact hk) hj
    rw [show D8.c = 8 from rfl] at e
    rw [e]
    have hg : (fill bs c m 0)[k]'(by rw [fill_len]; exact hk) = F8.nul := by simp [fill]
    rw [hg]
    match j, hj with
    | 0, _ => rfl
    | 1, _ => rfl
    | 2, _ => rfl
    | 3, _ => rfl
    | 4, _ => rfl
    | 5, _ => rfl
    | 6, _ => rfl
    | 7, _ => rfl
  apply List.ext_getElem?
  intro i
  by_cases hi : i < m * 8
  · have e := hfl (i / 8) (i % 8) (by omega) (by omega)
    rw [show i / 8 * 8 + i % 8 = i by omega] at e
    rw [e, Array.getElem?_toList]
    have h8 : i % 8 < 8 := Nat.mod_lt _ (by decide)
    rw [Array.getElem?_eq_getElem (by simp [size_madeCells]; omega)]
    simp only [madeCells, Array.getElem_map, Array.getElem_range]
    have hz : ∀ j < 8, zA8[j]! = .int .u8 0 := by
      intro j hj
      match j, hj with
      | 0, _ => rfl
      | 1, _ => rfl
      | 2, _ => rfl
      | 3, _ => rfl
      | 4, _ => rfl
      | 5, _ => rfl
      | 6, _ => rfl
      | 7, _ => rfl
    rw [show zA8.size = 8 from rfl, hz _ h8]
  · rw [List.getElem?_eq_none (by simp [size_madeCells]; omega), List.getElem?_eq_none (by rw [flatW_len, fill_len]; show m * 8 ≤ i; omega)]
end Go.Proofs.Ytebjofkblfmkmaa
