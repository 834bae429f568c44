/- Contracts: a runner in memory; alone, the tests of firstOf, firstOf. -/
import Derived.Test.YtjblekemmcmblaaRnd1
namespace Go.Proofs.Ytjblekemmcmblaa
open Go.RowKit Go.Proofs.Bits
set_option linter.unusedVariables false
set_option maxRecDepth 1000000

def Senders (w : World) (v : Value) (l : List Se) : Prop := Wide 14 Se.cells w v l
theorem infoSe : (Try.prog.info? 40).map (·.size) = some 14 := by kernel_rfl
theorem Se.len (s : Se) : s.cells.length = 14 := by simp [Se.cells, Fr.cells, s.f.hdata]
theorem Se.one (s : Se) : s.arr.all (·.oneCell') = true := by
  have h := s.f.one
  rw [Array.all_eq_true_iff_forall_mem] at h ⊢
  intro u hu
  simp only [Se.arr, Se.cells, List.mem_toArray, List.mem_append, List.mem_cons, List.not_mem_nil, or_false] at hu
  rcases hu with (rfl | rfl) | hu
  · rfl
  · rfl
  · exact h u (by simpa [Fr.arr] using hu)
theorem Se.a0 (s : Se) : s.arr[0]? = some (.bool s.up) := rfl
theorem Se.a1 (s : Se) : s.arr[1]? = some (.bool s.sends) := rfl
theorem se_ld {w : World} {ops : Array Oper} {rest : List Oper} {p : Oper} {a : Act} {Q : Exit → Act → World → Prop} {b o : Nat} {s : Se} (h : w.rangeAt b o s.cells) (hgd : p.guard = none) (x : Operand) (ho : p.op = .load 40 x) (hx : a.eval x = .pointer (some ⟨b, o, none⟩))
    (hh : wpList Try.prog ops Q rest (a.put p.dst (.agg s.arr)) w) : wpList Try.prog ops Q (p :: rest) a w :=
  wpList_load_mid hgd 40 x ho b o hx s.cells _ h Try.underlying40 rfl (by rw [infoSe, s.len]) hh
/-- A copy of a sender in a block of its own. -/
def Sa (q : Nat) (s : Se) (w : World) : Prop := w.heap[q]? = some (.cells s.arr 40 (0, 0))
theorem Sa.new (w : World) (s : Se) : Sa w.heap.size s (w.alloc (.cells s.arr 40)) := heap_alloc_new w _
theorem Sa.row {w : World} {q : Nat} {s : Se} (h : Sa q s w) (s' : Se) : Sa q s' (w.setRow q s'.arr) := setRow_heap w q _ _ 40 _ h
theorem Sa.c0 {w : World} {q : Nat} {s : Se} (h : Sa q s w) : w.cell? ⟨q, 0, none⟩ = some (.bool s.up) := (Lib.cell_of_heap h 0).trans s.a0
theorem Sa.c1 {w : World} {q : Nat} {s : Se} (h : Sa q s w) : w.cell? ⟨q, 1, none⟩ = some (.bool s.sends) := (Lib.cell_of_heap h 1).trans s.a1
theorem Sa.sd {w : World} {q : Nat} {s : Se} {ops : Array Oper} {rest : List Oper} {o : Oper} {a : Act} {Q : Exit → Act → World → Prop} (h : Sa q s w) (s' : Se) (hgd : o.guard = none) (x y : Operand) (ho : o.op = .store 40 x y) (hx : a.eval x = .pointer (some ⟨q, 0, none⟩)) (hy : a.eval y = .agg s'.arr)
    (hh : wpList Try.prog ops Q rest (a.put o.dst undef) (w.setRow q s'.arr)) : wpList Try.prog ops Q (o :: rest) a w :=
  wpList_store_row hgd 40 x y ho q s'.arr hx hy 40 _ h (by rw [infoSe]; simp [Se.arr, s'.len]) (by simp [Se.arr, Se.len]) s'.one hh
theorem Senders.below {w w' : World} {v : Value} {l : List Se} (h : Senders w v l) (hb : Below w.heap.size w w') : Senders w' v l := by
  obtain ⟨ao, cap, hv, h0, hc⟩ := h
  refine ⟨ao, cap, hv, h0, fun k hk => ?_⟩
  obtain ⟨b, off, ha, hlt, hR⟩ := Wide.at hc hb k hk
  exact ⟨b, off, ha, Nat.lt_of_lt_of_le hlt hb.size, hR⟩

/-- A runner in block q. -/
def Rn.arr (r : Rn) (ve vg v : Value) : Array Value := #[.int .i64 r.win, .int .i64 r.bits, .bool r.sent, ve, vg, v, .int .i64 r.len, .int .i64 r.late]
def Ru (q : Nat) (r : Rn) (ve vg v : Value) (w : World) : Prop := w.heap[q]? = some (.cells (r.arr ve vg v) 67 (0, 0))
section
variable {q : Nat} {r : Rn} {ve vg v : Value} {w : World}
theorem Ru.lt (h : Ru q r ve vg v w) : q < w.heap.size := (Array.getElem?_eq_some_iff.1 h).1
theorem Ru.cells (h : Ru q r ve vg v w) : w.cell? ⟨q, 0, none⟩ = some (.int .i64 r.win) ∧ w.cell? ⟨q, 1, none⟩ = some (.int .i64 r.bits) ∧ w.cell? ⟨q, 2, none⟩ = some (.bool r.sent) ∧ w.cell? ⟨q, 3, none⟩ = some ve ∧ w.cell? ⟨q, 4, none⟩ = some vg ∧ w.cell? ⟨q, 5, none⟩ = some v ∧ w.cell? ⟨q, 6, none⟩ = some (.int .i64 r.len) ∧ w.cell? ⟨q, 7, none⟩ = some (.int .i64 r.late) ∧ ∀ k, w.frozen? ⟨q, k, none⟩ = false :=
  ⟨Lib.cell_of_heap h 0, Lib.cell_of_heap h 1, Lib.cell_of_heap h 2, Lib.cell_of_heap h 3, Lib.cell_of_heap h 4, Lib.cell_of_heap h 5, Lib.cell_of_heap h 6, Lib.cell_of_heap h 7, fun k => Lib.frozen_of_heap h k⟩
theorem Ru.kept (h : Ru q r ve vg v w) {w' : World} (hk : w'.heap[q]? = w.heap[q]?) : Ru q r ve vg v w' := hk.trans h
theorem Ru.below (h : Ru q r ve vg v w) {w' : World} (hb : Below w.heap.size w w') : Ru q r ve vg v w' := h.kept (hb.block q h.lt)
theorem Ru.set0 (h : Ru q r ve vg v w) (z : Int) : Ru q { r with win := z } ve vg v (w.setCell ⟨q, 0, none⟩ (.int .i64 z)) := by
  unfold Ru Rn.arr at *; simp [World.setCell, Array.getElem?_modify, h]
theorem Ru.set1 (h : Ru q r ve vg v w) (z : Int) : Ru q { r with bits := z } ve vg v (w.setCell ⟨q, 1, none⟩ (.int .i64 z)) := by
  unfold Ru Rn.arr at *; simp [World.setCell, Array.getElem?_modify, h]
theorem Ru.set2 (h : Ru q r ve vg v w) (z : Bool) : Ru q { r with sent := z } ve vg v (w.setCell ⟨q, 2, none⟩ (.bool z)) := by
  unfold Ru Rn.arr at *; simp [World.setCell, Array.getElem?_modify, h]
theorem Ru.set6 (h : Ru q r ve vg v w) (z : Nat) : Ru q { r with len := z } ve vg v (w.setCell ⟨q, 6, none⟩ (.int .i64 z)) := by
  unfold Ru Rn.arr at *; simp [World.setCell, Array.getElem?_modify, h]
theorem Ru.set7 (h : Ru q r ve vg v w) (z : Int) : Ru q { r with late := z } ve vg v (w.setCell ⟨q, 7, none⟩ (.int .i64 z)) := by
  unfold Ru Rn.arr at *; simp [World.setCell, Array.getElem?_modify, h]
end

set_option maxHeartbeats 1000000 in
theorem alone_any {q : Nat} {r : Rn} {ve vg v : Value} {l : List Se} {w : World} (hl : l.length ≤ 127) (hS : Senders w v l) (hq : w.cell? ⟨q, 5, none⟩ = some v) :
    Calls Try.prog 73 #[.pointer (some ⟨q, 0, none⟩)] w fun e w' => e = .returned (.bool (alone l)) ∧ Below w.heap.size w w' := by
  obtain ⟨ao, cap, rfl, _, hc⟩ := hS
  have HC : Hid (∀ (wr : World), Below w.heap.size w wr → ∀ k (hk : k < l.length), ∃ b off, ao = some ⟨b, off, none⟩ ∧ b < w.heap.size ∧ wr.rangeAt b (off + k * 14) l[k].cells) := fun wr hb k hk => Wide.at hc hb k hk
  have HA : Hid (alone l = decide (upK l l.length < 2)) := rfl
  generalize alone l = A at *
  clear hc
  go_enter Try.func73, Try.ntmps73
  go_wp2
  go_loopw [3, 11] (fun n i x => ∃ k : Nat, k ≤ l.length ∧ i = .int .i64 k ∧ n = .int .i64 (upK l k) ∧ Below w.heap.size w x) (fun _ i _ => l.length - (intOf i).toNat)
  case atStart => exact ⟨0, Nat.zero_le _, rfl, rfl, Below.refl _ _⟩
  case round =>
    obtain ⟨k, hk, rfl, rfl, B1⟩ := hrel
    have s1 := B1.size
    have hle := upK_le l k
    by_cases hkl : k < l.length
    · obtain ⟨b, off, rfl, hb, hR⟩ := HC.out wr B1 k hkl
      have HS : Hid (upK l (k + 1) = upK l k + if l[k].up then 1 else 0) := by
        have := upK_succ l k; unfold upAt at this; rw [seAt_eq hkl] at this; exact this
      have gn := Sa.new wr Se.nul
      have g3 := gn.row l[k]
      have c3 := g3.c0
      have B3 : Below w.heap.size w ((wr.alloc (.cells Se.nul.arr 40)).setRow wr.heap.size l[k].arr) := below_row (B1.alloc s1 _) s1 (by rw [size_alloc]; omega) _
      generalize upK l k = n at *
      generalize l[k] = s at *
      clear HC B1
      generalize s.up = up at *
      cases up
      · have H1 : Hid (upK l (k + 1) = n) := HS.out
        clear HS
        go_wp2_with (first | refine se_ld hR rfl _ rfl rfl ?_ | refine gn.sd s rfl _ _ rfl rfl rfl ?_)
        go_roundw
        case rel => exact ⟨k + 1, by omega, by go_num, by rw [H1.out], B3⟩
        case measure => simp [intOf]; omega
      · have H1 : Hid (upK l (k + 1) = n + 1) := HS.out
        clear HS
        go_wp2_with (first | refine se_ld hR rfl _ rfl rfl ?_ | refine gn.sd s rfl _ _ rfl rfl rfl ?_)
        go_roundw
        case rel => exact ⟨k + 1, by omega, by go_num, by rw [H1.out]; go_num, B3⟩
        case measure => simp [intOf]; omega
    · obtain rfl : k = l.length := by omega
      generalize upK l l.length = n at *
      go_wp2
      go_ret
      exact ⟨ret_bool (by rw [HA.out, Bool.eq_iff_iff]; simp only [decide_eq_true_eq]; omega), B1⟩
theorem before_any (f g : Fl) (w : World) : Calls Try.prog 91 #[f.val, g.val] w fun e y => e = .returned (.bool (befB f g)) ∧ Below w.heap.size w y := by
  have B1 : Below w.heap.size w ((w.alloc (.cells #[.int .i64 f.nd, .int .i64 f.bit] 57)).alloc (.cells #[.int .i64 g.nd, .int .i64 g.bit] 57)) := ((Below.refl _ _).alloc (Nat.le_refl _) _).alloc (by rw [size_alloc]; omega) _
  unfold Fl.val
  have HV : Hid (befB f g = (decide (f.bit < g.bit) || (decide (f.bit = g.bit) && decide (f.nd < g.nd)))) := rfl
  generalize befB f g = V at *
  have e2 : (f.bit == g.bit) = decide (f.bit = g.bit) := by rw [Bool.eq_iff_iff]; simp
  by_cases h1 : f.bit < g.bit
  · have d1 : decide (f.bit < g.bit) = true := by simpa using h1
    have HE : Hid (V = true) := by show _ = _; rw [HV.out, d1]; rfl
    clear HV h1
    go_enter Try.func91, Try.ntmps91
    go_wp2
    go_ret
    exact ⟨ret_bool HE.out.symm, B1⟩
  · have d1 : decide (f.bit < g.bit) = false := by simpa using h1
    by_cases h2 : f.bit = g.bit
    · have d2 : (f.bit == g.bit) = true := by simpa using h2
      have HE : Hid (V = decide (f.nd < g.nd)) := by show _ = _; rw [HV.out, d1, ← e2, d2]; simp
      clear HV h1 e2
      have H2 : Hid (f.bit = g.bit) := h2
      clear h2
      go_enter Try.func91, Try.ntmps91
      go_wp2
      go_ret
      exact ⟨ret_bool HE.out.symm, B1⟩
    · have d2 : (f.bit == g.bit) = false := by simpa using h2
      have HE : Hid (V = false) := by show _ = _; rw [HV.out, d1, ← e2, d2]; rfl
      clear HV h1 e2
      go_enter Try.func91, Try.ntmps91
      go_wp2
      go_ret
      exact ⟨ret_bool HE.out.symm, B1⟩
end Go.Proofs.Ytjblekemmcmblaa
