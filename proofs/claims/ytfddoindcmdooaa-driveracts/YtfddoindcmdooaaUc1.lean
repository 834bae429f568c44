/- Mails, mailboxes in memory; Len and Less. Swap. The heap's up and Push. Push of the mailboxes, Push of the heap. Push of the heap. -/
import Derived.Test.YtfddoindcmdooaaApp
import Derived.Test.YtfddoindcmdooaaEnc
import Derived.Test.YtfddoindcmdooaaPla
import Derived.OrdersHeld
import Derived.Deep.Upon
import Derived.Great.BuildSlice
namespace Go.Proofs.Ytfddoindcmdooaa
open Go.RowKit Go.Proofs.Bits
set_option linter.unusedVariables false
set_option maxRecDepth 1000000

structure Ml where
  f : Fr
  fld : List UInt8
  tk : Int
def Ml.cells (m : Ml) : List Value := m.f.cells ++ [.string ⟨m.fld.toArray⟩, .int .i64 m.tk]
def Ml.arr (m : Ml) : Array Value := m.cells.toArray
theorem Ml.len (m : Ml) : m.cells.length = 14 := by simp [Ml.cells, Fr.cells, m.f.hdata]
theorem Ml.one (m : Ml) : ∀ u ∈ m.cells, u.oneCell' = true := by
  intro u hu
  unfold Ml.cells at hu
  rcases List.mem_append.1 hu with h | h
  · have := m.f.one
    rw [Array.all_eq_true_iff_forall_mem] at this
    exact this u (by simpa [Fr.arr] using h)
  · simp at h; rcases h with rfl | rfl <;> rfl
def DM : Dec Ml := ⟨Ml.cells, 14, by decide, Ml.len, Ml.one⟩
def lessM (a b : Ml) : Bool := if a.fld = b.fld then decide (a.tk < b.tk) else decide (a.fld < b.fld)
/-- Mailboxes: a row of the call's own. -/
abbrev Mb (w : World) (B : Nat) (v : Value) (ms : List Ml) : Prop := w.ownsRow B 73 14 v ms.length (flatW DM ms)
theorem Mb.at {w : World} {B : Nat} {v : Value} {ms : List Ml} (h : Mb w B v ms) : ∃ ao cap, v = .slice ao ms.length cap ∧ ∀ k (hk : k < ms.length), ∃ b, ao = some ⟨b, 0, none⟩ ∧ b < w.heap.size ∧ w.rangeAt b (k * 14) ms[k].cells ∧ w.cell? ⟨b, k * 14 + 12, none⟩ = some (.string ⟨ms[k].fld.toArray⟩) ∧ w.cell? ⟨b, k * 14 + 13, none⟩ = some (.int .i64 ms[k].tk) := by
  have hW : Wide 14 Ml.cells w v ms := wide_of_own DM h
  have hlen : ∀ m : Ml, m.f.cells.length = 12 := fun m => by simp [Fr.cells, m.f.hdata]
  rcases h.2 with ⟨rfl, h0⟩ | ⟨g, cap, cur, rfl, hg, hcur, _⟩
  · exact ⟨none, 0, by rw [h0], fun k hk => by omega⟩
  · refine ⟨some ⟨g, 0, none⟩, cap, rfl, fun k hk => ?_⟩
    obtain ⟨ao, cap', hv, _, hc⟩ := hW
    obtain ⟨b, off, hao, hb, hR⟩ := hc k hk
    injection hv with e1
    rw [hao] at e1
    injection e1 with e2
    injection e2 with e3 e4
    subst e3 e4
    rw [Nat.zero_add] at hR
    refine ⟨_, rfl, hb, hR, hR 12 _ ?_, hR 13 _ ?_⟩
    · unfold Ml.cells; rw [List.getElem?_append_right (by rw [hlen]; omega), hlen]; rfl
    · unfold Ml.cells; rw [List.getElem?_append_right (by rw [hlen]; omega), hlen]; rfl
theorem mLen_any (v : Value) (n : Nat) (hv : ∃ ao cap, v = .slice ao n cap) (w : World) :
    Calls Try.prog 81 #[v] w fun e w' => e = .returned (.int .i64 n) ∧ w' = w := by
  obtain ⟨ao, cap, rfl⟩ := hv
  go_enter Try.func81, Try.ntmps81
  go_wp2
  go_ret
  exact ⟨rfl, rfl⟩
theorem less_l5 (a b : List UInt8) : Op.bytesLess (⟨a.toArray⟩ : ByteArray).toList (⟨b.toArray⟩ : ByteArray).toList = decide (a < b) := by
  rw [Go.Proofs.bytesLess_eq, Lib.toList_data, Lib.toList_data]
theorem beq_l5 (a b : List UInt8) : ((⟨a.toArray⟩ : ByteArray).toList == (⟨b.toArray⟩ : ByteArray).toList) = decide (a = b) := by
  rw [Lib.toList_data, Lib.toList_data, Bool.eq_iff_iff]; simp
set_option maxHeartbeats 1000000 in
theorem mLess_any {w : World} {B : Nat} {v : Value} {ms : List Ml} (h : Mb w B v ms) (i j : Nat) (hi : i < ms.length) (hj : j < ms.length) :
    Calls Try.prog 82 #[v, .int .i64 i, .int .i64 j] w fun e w' => e = .returned (.bool (lessM ms[i] ms[j])) ∧ Below w.heap.size w w' := by
  obtain ⟨ao, cap, rfl, hc⟩ := h.at
  obtain ⟨b, rfl, hb, _, c1, c2⟩ := hc i hi
  obtain ⟨b', e, _, _, d1, d2⟩ := hc j hj
  injection e with e1
  injection e1 with e2
  subst e2
  have HV : Hid (lessM ms[i] ms[j] = if ms[i].fld = ms[j].fld then decide (ms[i].tk < ms[j].tk) else decide (ms[i].fld < ms[j].fld)) := rfl
  have HB : Hid (∀ m, Below w.heap.size w (w.drewN m)) := fun m => below_drawn (Below.refl _ _) m
  generalize lessM ms[i] ms[j] = V at *
  generalize ms[i] = x at *
  generalize ms[j] = y at *
  clear hc h
  have hbn : (x.fld != y.fld) = !decide (x.fld = y.fld) := by rw [bne]; congr 1; rw [Bool.eq_iff_iff]; simp
  have hb2 : (x.fld == y.fld) = decide (x.fld = y.fld) := by rw [Bool.eq_iff_iff]; simp
  by_cases he : x.fld = y.fld
  · rw [decide_eq_true he] at hbn hb2
    have HE : Hid (V = decide (x.tk < y.tk)) := by show _ = _; rw [HV.out, if_pos he]
    clear HV he
    go_enter Try.func82, Try.ntmps82
    go_wp2_with fail
    go_quiet (fail)
    go_wp2_with fail
    go_quiet (fail)
    go_wp2
    go_ret
    exact ⟨ret_bool HE.out.symm, below_drawn (below_drawn (Below.refl _ _) _) _⟩
  · rw [decide_eq_false he] at hbn hb2
    have HE : Hid (V = Op.bytesLess x.fld y.fld) := by show _ = _; rw [HV.out, if_neg he, Go.Proofs.bytesLess_eq]
    clear HV he
    go_enter Try.func82, Try.ntmps82
    go_wp2_with fail
    go_quiet (fail)
    go_wp2_with fail
    go_quiet (fail)
    go_wp2
    go_ret
    exact ⟨ret_bool HE.out.symm, below_drawn (below_drawn (Below.refl _ _) _) _⟩
end Go.Proofs.Ytfddoindcmdooaa
namespace Go.Proofs.Ytfddoindcmdooaa
open Go.RowKit Go.Proofs.Bits
set_option linter.unusedVariables false
set_option maxRecDepth 1000000
set_option linter.unusedSimpArgs false

theorem infoMl : (Try.prog.info? 73).map (·.size) = some 14 := by kernel_rfl
theorem wpOp_run {ops : Array Oper} {Q : Exit → Act → World → Prop} {K : Act → World → Prop} {a : Act} {w : World} {i : Nat} {o : Oper} (hi : ops[i]? = some o) (hg : o.guard = none) (h : o.wp Try.prog a w K Q) : wpOp Try.prog ops Q i K a w := by
  unfold Go.wpOp
  simp only [hi]
  rw [if_pos (by simp [Region.wanted, hg])]
  exact .inl h
theorem Mb.there {w : World} {B : Nat} {ms : List Ml} {b cap : Nat} (h : Mb w B (.slice (some ⟨b, 0, none⟩) ms.length cap) ms) {k : Nat} (hk : k < ms.length) (hR : w.rangeAt b (k * 14) ms[k].cells) : w.there b (k * 14) 14 := by
  intro j hj
  refine ⟨hR.isSome j (by rw [Ml.len]; exact hj), ?_⟩
  rcases h.2 with ⟨h1, _⟩ | ⟨g, cap', cur, e, _, hcur, _⟩
  · cases h1
  · injection e with e1
    injection e1 with e2
    injection e2 with e3
    subst e3
    simp [World.frozen?, hcur]
theorem setMany_size : ∀ (vs : List Value) (o : Nat) (A : Array Value), (setMany A o vs).size = A.size
  | [], _, _ => rfl
  | v :: r, o, A => by rw [setMany, setMany_size r, Array.size_setIfInBounds]
theorem setMany_get : ∀ (vs : List Value) (o : Nat) (A : Array Value) (k : Nat), (setMany A o vs)[k]? = if o ≤ k ∧ k < o + vs.length ∧ k < A.size then vs[k - o]? else A[k]?
  | [], o, A, k => by rw [setMany, if_neg (by simp; omega)]
  | v :: r, o, A, k => by
    rw [setMany, setMany_get r, Array.size_setIfInBounds]
    by_cases h1 : o + 1 ≤ k ∧ k < o + 1 + r.length ∧ k < A.size
    · rw [if_pos h1, if_pos (by simp; omega)]
      rw [show k - o = (k - (o + 1)) + 1 by omega, List.getElem?_cons_succ]
    · rw [if_neg h1, Array.getElem?_setIfInBounds]
      by_cases h2 : o = k
      · subst h2
        by_cases h3 : o < A.size
        · rw [if_pos rfl, if_pos h3, if_pos (by simp; omega)]; simp
        · rw [if_pos rfl, if_neg h3, if_neg (by omega)]
          symm; rw [Array.getElem?_eq_none (by omega)]
      · rw [if_neg h2, if_neg (by simp; omega)]
theorem cells_same (b : Nat) : ∀ (vs : List Value) (o : Nat) (w : World), (w.setCells b o vs).os = w.os ∧ (w.setCells b o vs).tape = w.tape ∧ (w.setCells b o vs).output = w.output ∧ (w.setCells b o vs).heap.size = w.heap.size
  | [], _, _ => ⟨rfl, rfl, rfl, rfl⟩
  | v :: r, o, w => by
    rw [World.setCells]
    obtain ⟨h1, h2, h3, h4⟩ := cells_same b r (o + 1) (w.setCell ⟨b, o, none⟩ v)
    exact ⟨h1, h2, h3, h4.trans (by simp [World.setCell])⟩
theorem grown_trans {w x y : World} {r : Option Nat} (h1 : w.grownBy x r) (h2 : x.grownBy y r) : w.grownBy y r :=
  ⟨h2.os.trans h1.os, h2.tape.trans h1.tape, h2.output.trans h1.output, Nat.le_trans h1.size h2.size, fun k hk hne => (h2.block k (Nat.lt_of_lt_of_le hk h1.size) hne).trans (h1.block k hk hne)⟩
theorem grown_drawn (w : World) (k : Nat) (r : Option Nat) : w.grownBy { w with drawn := k } r := ⟨rfl, rfl, rfl, Nat.le_refl _, fun _ _ _ => rfl⟩
theorem Mb.setM {w : World} {B : Nat} {ms : List Ml} {b cap : Nat} (h : Mb w B (.slice (some ⟨b, 0, none⟩) ms.length cap) ms) (k : Nat) (hk : k < ms.length) (m : Ml) :
    Mb (w.setCells b (k * 14) m.cells) B (.slice (some ⟨b, 0, none⟩) ms.length cap) (ms.set k m) ∧ w.grownBy (w.setCells b (k * 14) m.cells) (some b) := by
  obtain ⟨hl, h⟩ := h
  rcases h with ⟨h1, _⟩ | ⟨g, cap', cur, e, hB, hcur, h1, h2, h3, h4⟩
  · cases h1
  · injection e with e1 _ e5
    injection e1 with e2
    injection e2 with e3
    subst e3 e5
    have hc' := heap_setCells b _ _ m.cells (k * 14) cur w hcur
    refine ⟨⟨by rw [flatW_len, List.length_set]; rfl, .inr ⟨b, cap, _, by rw [List.length_set], hB, hc', by rw [List.length_set]; exact h1, h2, by rw [setMany_size]; exact h3, ?_⟩⟩, ⟨?_, ?_, ?_, ?_, fun i hi hne => heap_cells_other (fun h => hne (by rw [h])) _ _ _⟩⟩
    · rw [List.length_set]
      apply List.ext_getElem?
      intro x
      rw [List.getElem?_take]
      by_cases hx : x < ms.length * 14
      · rw [if_pos hx]
        have hq : x / 14 < ms.length := by omega
        have hr : x % 14 < 14 := by omega
        have e1 := flatW_get DM (ms.set k m) (x / 14) (x % 14) (by rw [List.length_set]; exact hq) hr
        have e2 := flatW_get DM ms (x / 14) (x % 14) hq hr
        have e0 : x / 14 * DM.c + x % 14 = x := by show x / 14 * 14 + x % 14 = x; omega
        rw [e0] at e1 e2
        rw [e1, Array.getElem?_toList, setMany_get, Ml.len]
        have e3 : cur[x]? = (flatW DM ms)[x]? := by
          rw [← h4, List.getElem?_take]
          show _ = if x < ms.length * 14 then _ else _
          rw [if_pos hx]; simp
        by_cases hkq : x / 14 = k
        · rw [if_pos (by rw [h3]; refine ⟨by omega, by omega, ?_⟩; have : ms.length * 14 ≤ cap * 14 := Nat.mul_le_mul_right _ h1; omega)]
          rw [List.getElem_set, if_pos hkq.symm, show x - k * 14 = x % 14 by omega]
          rfl
        · rw [if_neg (by omega), e3, e2, List.getElem_set, if_neg (fun h => hkq h.symm)]
      · rw [if_neg hx, List.getElem?_eq_none (by rw [flatW_len, List.length_set]; show ms.length * 14 ≤ x; omega)]
    · exact (cells_same b _ _ w).1
    · exact (cells_same b _ _ w).2.1
    · exact (cells_same b _ _ w).2.2.1
    · exact Nat.le_of_eq (cells_same b _ _ w).2.2.2.symm
def swapM (ms : List Ml) (i j : Nat) (hi : i < ms.length) (hj : j < ms.length) : List Ml := (ms.set i ms[j]).set j ms[i]
theorem swapM_length (ms : List Ml) (i j : Nat) (hi : i < ms.length) (hj : j < ms.length) : (swapM ms i j hi hj).length = ms.length := by simp [swapM]
set_option maxHeartbeats 1000000 in
theorem mSwap_any {w : World} {B : Nat} {v : Value} {ms : List Ml} (h : Mb w B v ms) (i j : Nat) (hi : i < ms.length) (hj : j < ms.length) :
    Calls Try.prog 83 #[v, .int .i64 i, .int .i64 j] w fun e w' => e = .returned (.tuple #[]) ∧ Mb w' B v (swapM ms i j hi hj) ∧ w.grownBy w' v.ownBlock := by
  obtain ⟨ao, cap, rfl, hc⟩ := h.at
  obtain ⟨b, rfl, hb, R1, _, _⟩ := hc i hi
  obtain ⟨b', e, _, R2, _, _⟩ := hc j hj
  injection e with e1
  injection e1 with e2
  subst e2
  go_enter Try.func83, Try.ntmps83
  go_wp2_with fail
  refine wp_region_any (by kernel_rfl) ?_
  have T1 := h.there hi R1
  have T2 := h.there hj R2
  obtain ⟨w0, hw0⟩ : ∃ x : World, { w with drawn := w.drawn + 1 } = x := ⟨_, rfl⟩
  rw [hw0]
  have HX : Hid (Mb ((w0.setCells b (i * 14) ms[j].cells).setCells b (j * 14) ms[i].cells) B (.slice (some ⟨b, 0, none⟩) ms.length cap) (swapM ms i j hi hj) ∧ w.grownBy ((w0.setCells b (i * 14) ms[j].cells).setCells b (j * 14) ms[i].cells) (some b)) := by
    have h0 : Mb w0 B (.slice (some ⟨b, 0, none⟩) ms.length cap) ms := by rw [← hw0]; exact h
    obtain ⟨a1, a2⟩ := h0.setM i hi ms[j]
    have a1' : Mb (w0.setCells b (i * 14) ms[j].cells) B (.slice (some ⟨b, 0, none⟩) (ms.set i ms[j]).length cap) (ms.set i ms[j]) := by rw [List.length_set]; exact a1
    obtain ⟨b1, b2⟩ := Mb.setM a1' j (by rw [List.length_set]; exact hj) ms[i]
    rw [List.length_set] at b1
    exact ⟨b1, grown_trans (by rw [← hw0]; exact grown_drawn w _ _) (grown_trans a2 b2)⟩
  have R1 : w0.rangeAt b (i * 14) ms[i].cells := by rw [← hw0]; exact R1
  have R2 : w0.rangeAt b (j * 14) ms[j].cells := by rw [← hw0]; exact R2
  have T1 : w0.there b (i * 14) 14 := by rw [← hw0]; exact T1
  have T2 : w0.there b (j * 14) 14 := by rw [← hw0]; exact T2
  refine wpAny_take (i := 0) (v := (.slice (some ⟨b, 0, none⟩) ms.length cap)) rfl (by kernel_rfl) (by kernel_rfl) (by kernel_rfl) (fun _ _ _ h => h) (.inl ⟨rfl, fun _ => rfl⟩) ?_
  simp only [List.getElem_toArray, List.getElem_cons_succ, List.getElem_cons_zero, Act.put, List.setIfInBounds_toArray, List.set_cons_succ, List.set_cons_zero]
  refine wpAny_take (i := 1) (v := (.int .i64 i)) rfl (by kernel_rfl) (by kernel_rfl) (by kernel_rfl) (fun _ _ _ h => h) (.inl ⟨rfl, fun _ => rfl⟩) ?_
  simp only [List.getElem_toArray, List.getElem_cons_succ, List.getElem_cons_zero, Act.put, List.setIfInBounds_toArray, List.set_cons_succ, List.set_cons_zero]
  refine wpAny_take (i := 2) (v := (.slice (some ⟨b, 0, none⟩) ms.length cap)) rfl (by kernel_rfl) (by kernel_rfl) (by kernel_rfl) (fun _ _ _ h => h) (.inl ⟨rfl, fun _ => rfl⟩) ?_
  simp only [List.getElem_toArray, List.getElem_cons_succ, List.getElem_cons_zero, Act.put, List.setIfInBounds_toArray, List.set_cons_succ, List.set_cons_zero]
  refine wpAny_take (i := 3) (v := (.int .i64 j)) rfl (by kernel_rfl) (by kernel_rfl) (by kernel_rfl) (fun _ _ _ h => h) (.inl ⟨rfl, fun _ => rfl⟩) ?_
  simp only [List.getElem_toArray, List.getElem_cons_succ, List.getElem_cons_zero, Act.put, List.setIfInBounds_toArray, List.set_cons_succ, List.set_cons_zero]
  refine wpAny_take (i := 4) (v := (.slice (some ⟨b, 0, none⟩) ms.length cap)) rfl (by kernel_rfl) (by kernel_rfl) (by kernel_rfl) (fun _ _ _ h => h) (.inl ⟨rfl, fun _ => rfl⟩) ?_
  simp only [List.getElem_toArray, List.getElem_cons_succ, List.getElem_cons_zero, Act.put, List.setIfInBounds_toArray, List.set_cons_succ, List.set_cons_zero]
  refine wpAny_take (i := 5) (v := (.int .i64 j)) rfl (by kernel_rfl) (by kernel_rfl) (by kernel_rfl) (fun _ _ _ h => h) (.inl ⟨rfl, fun _ => rfl⟩) ?_
  simp only [List.getElem_toArray, List.getElem_cons_succ, List.getElem_cons_zero, Act.put, List.setIfInBounds_toArray, List.set_cons_succ, List.set_cons_zero]
  refine wpAny_take (i := 8) (v := (.slice (some ⟨b, 0, none⟩) ms.length cap)) rfl (by kernel_rfl) (by kernel_rfl) (by kernel_rfl) (fun _ _ _ h => h) (.inl ⟨rfl, fun _ => rfl⟩) ?_
  simp only [List.getElem_toArray, List.getElem_cons_succ, List.getElem_cons_zero, Act.put, List.setIfInBounds_toArray, List.set_cons_succ, List.set_cons_zero]
  refine wpAny_take (i := 9) (v := (.int .i64 i)) rfl (by kernel_rfl) (by kernel_rfl) (by kernel_rfl) (fun _ _ _ h => h) (.inl ⟨rfl, fun _ => rfl⟩) ?_
  simp only [List.getElem_toArray, List.getElem_cons_succ, List.getElem_cons_zero, Act.put, List.setIfInBounds_toArray, List.set_cons_succ, List.set_cons_zero]
  refine wpAny_take (i := 6) (v := .pointer (some ⟨b, j * 14, none⟩)) rfl (by kernel_rfl) (by kernel_rfl) (by kernel_rfl) (fun _ _ _ h => h) (.inl ⟨rfl, fun _ => by simp [execOp, go_sem, Act.eval, hj]⟩) ?_
  simp only [List.getElem_toArray, List.getElem_cons_succ, List.getElem_cons_zero, Act.put, List.setIfInBounds_toArray, List.set_cons_succ, List.set_cons_zero]
  refine wpAny_take (i := 10) (v := .pointer (some ⟨b, i * 14, none⟩)) rfl (by kernel_rfl) (by kernel_rfl) (by kernel_rfl) (fun _ _ _ h => h) (.inl ⟨rfl, fun _ => by simp [execOp, go_sem, Act.eval, hi]⟩) ?_
  simp only [List.getElem_toArray, List.getElem_cons_succ, List.getElem_cons_zero, Act.put, List.setIfInBounds_toArray, List.set_cons_succ, List.set_cons_zero]
  refine wpAny_all (rs := [7, 11]) (by kernel_rfl) (by simp) ?_
  intro k hk
  simp only [List.mem_cons, List.mem_nil_iff, or_false] at hk
  rcases hk with rfl | rfl
  · refine wpOp_run rfl rfl (wp_load_mid 73 (.tmp 12) rfl b (j * 14) rfl ms[j].cells _ R2 Try.underlying73 rfl (by rw [infoMl, Ml.len]) ?_)
    simp only [List.getElem_toArray, List.getElem_cons_succ, List.getElem_cons_zero, Act.put, List.setIfInBounds_toArray, List.set_cons_succ, List.set_cons_zero]
    refine wpAny_all (rs := [11]) (by kernel_rfl) (by simp) ?_
    intro k hk
    simp only [List.mem_cons, List.mem_nil_iff, or_false] at hk
    subst hk
    refine wpOp_run rfl rfl (wp_load_mid 73 (.tmp 16) rfl b (i * 14) rfl ms[i].cells _ R1 Try.underlying73 rfl (by rw [infoMl, Ml.len]) ?_)
    simp only [List.getElem_toArray, List.getElem_cons_succ, List.getElem_cons_zero, Act.put, List.setIfInBounds_toArray, List.set_cons_succ, List.set_cons_zero]
    refine wpAny_take (i := 12) (v := .pointer (some ⟨b, i * 14, none⟩)) rfl (by kernel_rfl) (by kernel_rfl) (by kernel_rfl) (fun _ _ _ h => h) (.inl ⟨rfl, fun _ => by simp [execOp, go_sem, Act.eval, hi]⟩) ?_
    simp only [List.getElem_toArray, List.getElem_cons_succ, List.getElem_cons_zero, Act.put, List.setIfInBounds_toArray, List.set_cons_succ, List.set_cons_zero]
    refine wpAny_all (rs := [13]) (by kernel_rfl) (by simp) ?_
    intro k hk
    simp only [List.mem_cons, List.mem_nil_iff, or_false] at hk
    subst hk
    refine wpOp_run rfl rfl (wp_store_mid 73 (.tmp 18) (.tmp 13) rfl b (i * 14) ms[j].cells.toArray rfl rfl (by rw [show (ms[j].cells.toArray).size = 14 by simp [Ml.len]]; exact T1) (by rw [infoMl]; simp [Ml.len]) (all_oneCell_toArray (Ml.one _)) ?_)
    simp only [List.getElem_toArray, List.getElem_cons_succ, List.getElem_cons_zero, Act.put, List.setIfInBounds_toArray, List.set_cons_succ, List.set_cons_zero]
    refine wpAny_take (i := 14) (v := .pointer (some ⟨b, j * 14, none⟩)) rfl (by kernel_rfl) (by kernel_rfl) (by kernel_rfl) (fun _ _ _ h => h) (.inl ⟨rfl, fun _ => by simp [execOp, go_sem, Act.eval, hj]⟩) ?_
    simp only [List.getElem_toArray, List.getElem_cons_succ, List.getElem_cons_zero, Act.put, List.setIfInBounds_toArray, List.set_cons_succ, List.set_cons_zero]
    refine wpAny_all (rs := [15]) (by kernel_rfl) (by simp) ?_
    intro k hk
    simp only [List.mem_cons, List.mem_nil_iff, or_false] at hk
    subst hk
    refine wpOp_run rfl rfl (wp_store_mid 73 (.tmp 19) (.tmp 17) rfl b (j * 14) ms[i].cells.toArray rfl rfl (by rw [show (ms[i].cells.toArray).size = 14 by simp [Ml.len]]; exact World.there_setCells T2 _ _ _) (by rw [infoMl]; simp [Ml.len]) (all_oneCell_toArray (Ml.one _)) ?_)
    simp only [List.getElem_toArray, List.getElem_cons_succ, List.getElem_cons_zero, Act.put, List.setIfInBounds_toArray, List.set_cons_succ, List.set_cons_zero]
    refine wpAny_done (by kernel_rfl) ?_ _
    go_end0
    exact ⟨rfl, HX.out⟩
  · refine wpOp_run rfl rfl (wp_load_mid 73 (.tmp 16) rfl b (i * 14) rfl ms[i].cells _ R1 Try.underlying73 rfl (by rw [infoMl, Ml.len]) ?_)
    simp only [List.getElem_toArray, List.getElem_cons_succ, List.getElem_cons_zero, Act.put, List.setIfInBounds_toArray, List.set_cons_succ, List.set_cons_zero]
    refine wpAny_all (rs := [7]) (by kernel_rfl) (by simp) ?_
    intro k hk
    simp only [List.mem_cons, List.mem_nil_iff, or_false] at hk
    subst hk
    refine wpOp_run rfl rfl (wp_load_mid 73 (.tmp 12) rfl b (j * 14) rfl ms[j].cells _ R2 Try.underlying73 rfl (by rw [infoMl, Ml.len]) ?_)
    simp only [List.getElem_toArray, List.getElem_cons_succ, List.getElem_cons_zero, Act.put, List.setIfInBounds_toArray, List.set_cons_succ, List.set_cons_zero]
    refine wpAny_take (i := 12) (v := .pointer (some ⟨b, i * 14, none⟩)) rfl (by kernel_rfl) (by kernel_rfl) (by kernel_rfl) (fun _ _ _ h => h) (.inl ⟨rfl, fun _ => by simp [execOp, go_sem, Act.eval, hi]⟩) ?_
    simp only [List.getElem_toArray, List.getElem_cons_succ, List.getElem_cons_zero, Act.put, List.setIfInBounds_toArray, List.set_cons_succ, List.set_cons_zero]
    refine wpAny_all (rs := [13]) (by kernel_rfl) (by simp) ?_
    intro k hk
    simp only [List.mem_cons, List.mem_nil_iff, or_false] at hk
    subst hk
    refine wpOp_run rfl rfl (wp_store_mid 73 (.tmp 18) (.tmp 13) rfl b (i * 14) ms[j].cells.toArray rfl rfl (by rw [show (ms[j].cells.toArray).size = 14 by simp [Ml.len]]; exact T1) (by rw [infoMl]; simp [Ml.len]) (all_oneCell_toArray (Ml.one _)) ?_)
    simp only [List.getElem_toArray, List.getElem_cons_succ, List.getElem_cons_zero, Act.put, List.setIfInBounds_toArray, List.set_cons_succ, List.set_cons_zero]
    refine wpAny_take (i := 14) (v := .pointer (some ⟨b, j * 14, none⟩)) rfl (by kernel_rfl) (by kernel_rfl) (by kernel_rfl) (fun _ _ _ h => h) (.inl ⟨rfl, fun _ => by simp [execOp, go_sem, Act.eval, hj]⟩) ?_
    simp only [List.getElem_toArray, List.getElem_cons_succ, List.getElem_cons_zero, Act.put, List.setIfInBounds_toArray, List.set_cons_succ, List.set_cons_zero]
    refine wpAny_all (rs := [15]) (by kernel_rfl) (by simp) ?_
    intro k hk
    simp only [List.mem_cons, List.mem_nil_iff, or_false] at hk
    subst hk
    refine wpOp_run rfl rfl (wp_store_mid 73 (.tmp 19) (.tmp 17) rfl b (j * 14) ms[i].cells.toArray rfl rfl (by rw [show (ms[i].cells.toArray).size = 14 by simp [Ml.len]]; exact World.there_setCells T2 _ _ _) (by rw [infoMl]; simp [Ml.len]) (all_oneCell_toArray (Ml.one _)) ?_)
    simp only [List.getElem_toArray, List.getElem_cons_succ, List.getElem_cons_zero, Act.put, List.setIfInBounds_toArray, List.set_cons_succ, List.set_cons_zero]
    refine wpAny_done (by kernel_rfl) ?_ _
    go_end0
    exact ⟨rfl, HX.out⟩
end Go.Proofs.Ytfddoindcmdooaa
namespace Go.Proofs.Ytfddoindcmdooaa
open Go.RowKit Go.Proofs.Bits
set_option linter.unusedVariables false
set_option maxRecDepth 1000000

/-- What the heap's up does to its row. -/
def upF (ms : List Ml) (k : Nat) : List Ml :=
  if h : 0 < k ∧ k < ms.length then
    if lessM (ms[k]'h.2) (ms[(k - 1) / 2]'(by omega)) then upF (swapM ms ((k - 1) / 2) k (by omega) h.2) ((k - 1) / 2) else ms
  else ms
termination_by k
theorem upF_zero (ms : List Ml) : upF ms 0 = ms := by rw [upF, dif_neg (by omega)]
theorem upF_stop {ms : List Ml} {k : Nat} (h0 : 0 < k) (h : k < ms.length) (hl : lessM ms[k] (ms[(k - 1) / 2]'(by omega)) = false) : upF ms k = ms := by rw [upF, dif_pos ⟨h0, h⟩, if_neg (by rw [hl]; simp)]
theorem upF_go {ms : List Ml} {k : Nat} (h0 : 0 < k) (h : k < ms.length) (hl : lessM ms[k] (ms[(k - 1) / 2]'(by omega)) = true) : upF ms k = upF (swapM ms ((k - 1) / 2) k (by omega) h) ((k - 1) / 2) := by rw [upF, dif_pos ⟨h0, h⟩, if_pos hl]
theorem run_program5 (x : World) : program.run Try.prog x = .ok Try.prog x := rfl
theorem nilchk5 (t : TypeId) (a : Addr) (s n : String) (x : World) : (Builtin.ssaWrapNilChk_ #[t] t #[.pointer (some a), strVal s, strVal n]).run Try.prog x = .ok (.pointer (some a)) x := by rfl
theorem meth_at {name : String} {f : Nat} (hm : ((Try.prog.info? 71).bind fun i => (i.methods.find? (·.name == name)).map fun m => (m.path, m.func)) = some (#[], some (f, false))) (n D : Nat) (ao : Option Addr) (l c : Nat) (x : World) (hc : x.cell? ⟨D, 1, none⟩ = some (.slice ao l c)) :
    (method (n + 1) 71 (.pointer (some ⟨D, 1, none⟩)) name).run Try.prog x = .ok (f, .slice ao l c) x := by
  cases hi : Try.prog.info? 71 with
  | none => rw [hi] at hm; cases hm
  | some i =>
    rw [hi] at hm
    obtain ⟨m, h1, h2⟩ := Option.map_eq_some_iff.1 hm
    injection h2 with h2 h3
    simp [method, typeInfo, hi, h1, h2, h3, follow, receiverAt, Place.get, run_underlying Try.underlying71, nilchk5, asAddr, go_sem, hc]
theorem own_shape5 {w : World} {B : Nat} {e : TypeId} {c : Nat} {v : Value} {n : Nat} {xs : List Value} (h : w.ownsRow B e c v n xs) : ∃ ao cap, v = .slice ao n cap := by
  rcases h.2 with ⟨rfl, rfl⟩ | ⟨g', cap, cur, rfl, hB, hcur, _⟩
  · exact ⟨_, _, rfl⟩
  · exact ⟨_, _, rfl⟩
theorem own_below5 {w w' : World} {B : Nat} {e : TypeId} {c : Nat} {v : Value} {n : Nat} {xs : List Value} (h : w.ownsRow B e c v n xs) (hb : Below w.heap.size w w') : w'.ownsRow B e c v n xs := by
  obtain ⟨hl, h⟩ := h
  refine ⟨hl, ?_⟩
  rcases h with h | ⟨g, cap, cur, rfl, hg, hcur, rest⟩
  · exact .inl h
  · exact .inr ⟨g, cap, cur, rfl, hg, (hb.block g (Array.getElem?_eq_some_iff.1 hcur).1).trans hcur, rest⟩
theorem grown_below {w w' : World} (hb : Below w.heap.size w w') (r : Option Nat) : w.grownBy w' r := ⟨hb.os, hb.tape, hb.output, hb.size, fun k hk _ => hb.block k hk⟩
set_option maxHeartbeats 1000000 in
theorem hup_any {w : World} {B D : Nat} {v : Value} {ms : List Ml} (hD : w.cell? ⟨D, 1, none⟩ = some v) (hne : v.ownBlock ≠ some D) (h : Mb w B v ms) (j : Nat) (hj : j < ms.length) (hl : ms.length ≤ 64) :
    Calls Try.prog 46 #[.iface 71 (.pointer (some ⟨D, 1, none⟩)), .int .i64 j] w fun e w' => e = .returned (.tuple #[]) ∧ Mb w' B v (upF ms j) ∧ w.grownBy w' v.ownBlock := by
  have HD : Hid (∀ x, w.grownBy x v.ownBlock → x.cell? ⟨D, 1, none⟩ = some v) := fun x hx =>
    (World.cell?_of_block (a := ⟨D, 1, none⟩) (hx.block D (World.block_lt_of_cell? w _ hD) (fun e => hne e.symm))).trans hD
  have h0 : Mb w B v ms ∧ w.grownBy w v.ownBlock := ⟨h, grown_refl _ _⟩
  have H0 : Hid (Mb w B v ms ∧ w.grownBy w v.ownBlock) := h0
  have hv : ∃ ao cap, v = .slice ao ms.length cap := own_shape5 h
  obtain ⟨ao, cap, rfl⟩ := hv
  clear h h0 hD
  go_enter Try.func46, Try.ntmps46
  go_wp2
  go_loopw [1] (fun jv x => ∃ (k : Nat) (ls : List Ml), k < ls.length ∧ ls.length = ms.length ∧ jv = .int .i64 k ∧ upF ls k = upF ms j ∧ Mb x B (.slice ao ms.length cap) ls ∧ w.grownBy x (Value.slice ao ms.length cap).ownBlock) (fun jv _ => (intOf jv).toNat)
  case atStart => exact ⟨j, ms, hj, rfl, rfl, rfl, H0.out⟩
  case round =>
    obtain ⟨k, ls, hk, hls, rfl, hu, hM, hG⟩ := hrel
    have hD := HD.out _ hG
    by_cases hk0 : 0 < k
    · have hp : (k - 1) / 2 < ls.length := by omega
      have hLs0 := mLess_any hM k ((k - 1) / 2) hk hp
      obtain ⟨p, hpe⟩ : ∃ p, (k - 1) / 2 = p := ⟨_, rfl⟩
      have hq : (((k : Int) - 1).tdiv 2) = (p : Int) := by rw [show (k : Int) - 1 = ((k - 1 : Nat) : Int) by omega, ← hpe]; rfl
      have hpk : ((p : Int) == (k : Int)) = false := by rw [beq_eq_false_iff_ne]; omega
      have hme : (method 234 71 (.pointer (some ⟨D, 1, none⟩)) "Less").run Try.prog wr = .ok (82, .slice ao ms.length cap) wr := meth_at (by kernel_rfl) _ D ao _ cap wr hD
      have enter1 : ∀ args x, (callFunc 82 args).run Try.prog x = .ok (.enter 82 args) x := fun _ _ => by rfl
      have enter2 : ∀ args x, (callFunc 83 args).run Try.prog x = .ok (.enter 83 args) x := fun _ _ => by rfl
      have hp2 : p < ls.length := hpe ▸ hp
      have HS : Hid (lessM ls[k] (ls[p]'hp2) = false → ls = upF ms j) := fun h => by
        subst hpe; rw [← hu, upF_stop hk0 hk h]
      have HG : Hid (lessM ls[k] (ls[p]'hp2) = true → upF (swapM ls p k hp2 hk) p = upF ms j) := fun h => by
        subst hpe; rw [← hu, upF_go hk0 hk h]
      have hLs : Calls Try.prog 82 #[.slice ao ms.length cap, .int .i64 k, .int .i64 p] wr fun e w' => e = .returned (.bool (lessM ls[k] (ls[p]'hp2))) ∧ Below wr.heap.size wr w' := by subst hpe; exact hLs0
      have hpk2 : p < k := by omega
      clear hpe hp hLs0
      generalize lessM ls[k] (ls[p]'hp2) = lb at *
      go_wp2_with fail
      refine hLs.mono ?_
      rintro e w4 ⟨rfl, b4⟩
      have hM4 : Mb w4 B (.slice ao ms.length cap) ls := own_below5 hM b4
      have hG4 := grown_trans hG (grown_below b4 _)
      have hD4 := HD.out _ hG4
      cases lb
      · have HE : Hid (Mb w4 B (.slice ao ms.length cap) (upF ms j) ∧ w.grownBy w4 (Value.slice ao ms.length cap).ownBlock) := ⟨by rw [← HS.out rfl]; exact hM4, hG4⟩
        clear hLs hM hG hM4 hG4 HS HG
        go_wp2
        go_end0
        exact ⟨rfl, HE.out⟩
      · have hme4 : (method 234 71 (.pointer (some ⟨D, 1, none⟩)) "Swap").run Try.prog w4 = .ok (83, .slice ao ms.length cap) w4 := meth_at (by kernel_rfl) _ D ao _ cap w4 hD4
        have hSw := mSwap_any hM4 p k hp2 hk
        clear hLs hM
        go_wp2_with fail
        refine hSw.mono ?_
        rintro e w5 ⟨rfl, hM5, hG5⟩
        have hG6 := grown_trans hG4 hG5
        clear hSw hM4 hG4 hme4 hme hD4
        go_wp2
        go_roundw
        case rel => exact ⟨p, swapM ls p k hp2 hk, by rw [swapM_length]; exact hp2, by rw [swapM_length]; exact hls, rfl, HG.out (by first | rfl | trivial), hM5, hG6⟩
        case measure => simp [intOf]; omega
    · obtain rfl : k = 0 := by omega
      have hq : (((0 : Nat) : Int) - 1).tdiv 2 = 0 := by decide
      have HE : Hid (Mb wr B (.slice ao ms.length cap) (upF ms j) ∧ w.grownBy wr (Value.slice ao ms.length cap).ownBlock) := ⟨by rw [← hu, upF_zero]; exact hM, hG⟩
      clear hM hG hu
      go_wp2
      go_end0
      exact ⟨rfl, HE.out⟩
end Go.Proofs.Ytfddoindcmdooaa
namespace Go.Proofs.Ytfddoindcmdooaa
open Go.RowKit Go.Proofs.Bits
set_option linter.unusedVariables false
set_option maxRecDepth 1000000
set_option linter.unusedSimpArgs false

def Ml.nul : Ml := ⟨Fr.nul, [], 0⟩
theorem infoMlZ : (Try.prog.info? 73).map (fun i => (i.zero, i.size, i.bytes)) = some (some (.agg Ml.nul.arr), 14, 48) := by kernel_rfl
theorem wp_load_cell {o : Oper} {a : Act} {w : World} {K : Act → World → Prop} {Q : Exit → Act → World → Prop} (ty : TypeId) (x : Operand) (ho : o.op = .load ty x) (b k : Nat) (hx : a.eval x = .pointer (some ⟨b, k, none⟩)) (v : Value)
    (hr : (loadVar ty ⟨b, k, none⟩).run Try.prog w = .ok v w) (h : K (a.put o.dst v) w) : o.wp Try.prog a w K Q := by
  unfold Oper.wp execOp
  simp only [ho, hx, Instr.loadAt, Instr.sureAddr, Sem.run_bind, Sem.run_pure, Result.andThen_ok, hr]
  exact h
theorem wp_store_cell {o : Oper} {a : Act} {w : World} {K : Act → World → Prop} {Q : Exit → Act → World → Prop} (ty : TypeId) (x y : Operand) (ho : o.op = .store ty x y) (b k : Nat) (hx : a.eval x = .pointer (some ⟨b, k, none⟩)) (v : Value) (hy : a.eval y = v)
    (hr : (storeVar ty ⟨b, k, none⟩ v).run Try.prog w = .ok () (w.setCell ⟨b, k, none⟩ v)) (h : K (a.put o.dst undef) (w.setCell ⟨b, k, none⟩ v)) : o.wp Try.prog a w K Q := by
  unfold Oper.wp execOp
  simp only [ho, hx, hy, Instr.storeAt, Instr.sureAddr, Sem.run_bind, Sem.run_pure, Result.andThen_ok, hr]
  exact h
theorem load_mb (x : World) (D k : Nat) (ao : Option Addr) (l c : Nat) (hc : x.cell? ⟨D, k, none⟩ = some (.slice ao l c)) : (loadVar 66 ⟨D, k, none⟩).run Try.prog x = .ok (.slice ao l c) x := by
  simp [go_sem, run_underlying Try.underlying66, hc]
theorem store_mb (x : World) (D k : Nat) (u : Value) (ao : Option Addr) (l c : Nat) (hc : x.cell? ⟨D, k, none⟩ = some u) (hf : x.frozen? ⟨D, k, none⟩ = false) : (storeVar 66 ⟨D, k, none⟩ (.slice ao l c)).run Try.prog x = .ok () (x.setCell ⟨D, k, none⟩ (.slice ao l c)) := by
  simp [go_sem, run_underlying Try.underlying66, hc, hf]
theorem fill_ml (m : Ml) : Instr.fill (fun i => some (i * 14, 14)) ((Array.range (1 * 14)).map ((Value.agg Ml.nul.arr).cells[· % (Value.agg Ml.nul.arr).cells.size]!)) [(0, .agg m.arr)] = some m.arr := by
  have hsz : (Value.agg m.arr).cells.size = 14 := by simp [Value.cells, Ml.arr, Ml.len]
  have := Go.Great.fill_whole (by decide : 0 < 14) [Value.agg m.arr] ((Array.range (1 * 14)).map ((Value.agg Ml.nul.arr).cells[· % (Value.agg Ml.nul.arr).cells.size]!)) (by intro v hv; simp at hv; subst hv; exact hsz) (by simp)
  simpa [Value.cells] using this
theorem assert_ml (A : Array Value) (x : World) : (Instr.typeAssert (.iface 73 (.agg A)) 20 73 false).run Try.prog x = .ok (.agg A) x := by
  simp [Instr.typeAssert, go_sem, run_underlying Try.underlying73]
set_option maxHeartbeats 1000000 in
theorem mPush_any {w : World} {B D : Nat} {v : Value} {ms : List Ml} (m : Ml) (hD : w.cell? ⟨D, 1, none⟩ = some v) (hDf : w.frozen? ⟨D, 1, none⟩ = false) (hne : v.ownBlock ≠ some D) (h : Mb w B v ms) (hB : B ≤ w.heap.size) (hl : ms.length ≤ 64) :
    Calls Try.prog 85 #[.pointer (some ⟨D, 1, none⟩), .iface 73 (.agg m.arr)] w fun e w' => e = .returned (.tuple #[]) ∧ ∃ v' w1, w' = w1.setCell ⟨D, 1, none⟩ v' ∧ Mb w1 B v' (ms ++ [m]) ∧ w.grownBy w1 v.ownBlock := by
  obtain ⟨ao, cap, rfl⟩ := own_shape5 h
  go_enter Try.func85, Try.ntmps85
  go_wp2_with fail
  refine wp_region_any (by kernel_rfl) ?_
  obtain ⟨w0, hw0⟩ : ∃ x : World, { w with drawn := w.drawn + 1 } = x := ⟨_, rfl⟩
  rw [hw0]
  refine wpAny_take (i := 0) (v := (.pointer (some ⟨D, 1, none⟩))) rfl (by kernel_rfl) (by kernel_rfl) (by kernel_rfl) (fun _ _ _ h => h) (.inl ⟨rfl, fun _ => rfl⟩) ?_
  simp only [List.getElem_toArray, List.getElem_cons_succ, List.getElem_cons_zero, Act.put, List.setIfInBounds_toArray, List.set_cons_succ, List.set_cons_zero]
  refine wpAny_take (i := 1) (v := (.pointer (some ⟨D, 1, none⟩))) rfl (by kernel_rfl) (by kernel_rfl) (by kernel_rfl) (fun _ _ _ h => h) (.inl ⟨rfl, fun _ => rfl⟩) ?_
  simp only [List.getElem_toArray, List.getElem_cons_succ, List.getElem_cons_zero, Act.put, List.setIfInBounds_toArray, List.set_cons_succ, List.set_cons_zero]
  refine wpAny_take (i := 4) (v := (.iface 73 (.agg m.arr))) rfl (by kernel_rfl) (by kernel_rfl) (by kernel_rfl) (fun _ _ _ h => h) (.inl ⟨rfl, fun _ => rfl⟩) ?_
  simp only [List.getElem_toArray, List.getElem_cons_succ, List.getElem_cons_zero, Act.put, List.setIfInBounds_toArray, List.set_cons_succ, List.set_cons_zero]
  refine wpAny_take (i := 2) (v := (.pointer (some ⟨D, 1, none⟩))) rfl (by kernel_rfl) (by kernel_rfl) (by kernel_rfl) (fun _ _ _ h => h) (.inl ⟨rfl, fun _ => by simp [execOp, go_sem, Act.eval]⟩) ?_
  simp only [List.getElem_toArray, List.getElem_cons_succ, List.getElem_cons_zero, Act.put, List.setIfInBounds_toArray, List.set_cons_succ, List.set_cons_zero]
  refine wpAny_take (i := 5) (v := (.agg m.arr)) rfl (by kernel_rfl) (by kernel_rfl) (by kernel_rfl) (fun _ _ _ h => h) (.inl ⟨rfl, fun _ => by simp [execOp, go_sem, Act.eval, assert_ml]⟩) ?_
  simp only [List.getElem_toArray, List.getElem_cons_succ, List.getElem_cons_zero, Act.put, List.setIfInBounds_toArray, List.set_cons_succ, List.set_cons_zero]
  refine wpAny_all (rs := [3, 6]) (by kernel_rfl) (by simp) ?_
  obtain ⟨i0, hi0, hz0, hz1, hz2⟩ := info_parts infoMlZ
  have lD := World.block_lt_of_cell? w _ hD
  have hD0 : w0.cell? ⟨D, 1, none⟩ = some (.slice ao ms.length cap) := by rw [← hw0]; exact hD
  have s0 : w0.heap.size = w.heap.size := by rw [← hw0]
  have bA : Below w0.heap.size w0 (w0.alloc (.cells m.arr 73)) := (Below.refl _ _).alloc (Nat.le_refl _) _
  have hD1 : (w0.alloc (.cells m.arr 73)).cell? ⟨D, 1, none⟩ = some (.slice ao ms.length cap) := (bA.cell (p := ⟨D, 1, none⟩) (by rw [s0]; exact lD)).trans hD0
  have own1 : Mb (w0.alloc (.cells m.arr 73)) B (.slice ao ms.length cap) ms := own_below5 (by rw [← hw0]; exact h : Mb w0 B (.slice ao ms.length cap) ms) bA
  have news1 : ∀ j u, m.cells[j]? = some u → (w0.alloc (.cells m.arr 73)).cell? ((⟨w0.heap.size, 0, none⟩ : Addr).add j) = some u := fun j u hj => by
    rw [Addr.add_mid, Nat.zero_add, Lib.cell_of_heap (heap_alloc_new w0 _)]
    simpa [Ml.arr] using hj
  have HF : Hid (∀ v' w1, w1.ownsRow B 73 14 v' (ms.length + 1) (flatW DM ms ++ m.cells) → (w0.alloc (.cells m.arr 73)).grownBy w1 (Value.slice ao ms.length cap).ownBlock → w1.cell? ⟨D, 1, none⟩ = some (.slice ao ms.length cap) ∧ w1.frozen? ⟨D, 1, none⟩ = false ∧ Mb w1 B v' (ms ++ [m]) ∧ w.grownBy w1 (Value.slice ao ms.length cap).ownBlock) := by
    intro v' w1 o1 g1
    have hb := g1.block D (Nat.lt_of_lt_of_le (by rw [s0]; exact lD) bA.size) (fun e => hne e.symm)
    refine ⟨(World.cell?_of_block (a := ⟨D, 1, none⟩) hb).trans hD1, ?_, ?_, grown_trans (grown_trans (by rw [← hw0]; exact grown_drawn w _ _) (grown_below bA _)) g1⟩
    · rw [World.frozen?_of_block (a := ⟨D, 1, none⟩) hb, World.frozen?_of_block (a := ⟨D, 1, none⟩) (bA.block D (by rw [s0]; exact lD)), ← hw0]; exact hDf
    · show World.ownsRow _ _ _ _ _ _ _
      rw [List.length_append, flatW_append]
      simpa [flatW, DM] using o1
  intro k hk
  simp only [List.mem_cons, List.mem_nil_iff, or_false] at hk
  rcases hk with rfl | rfl
  · refine wpOp_run rfl rfl (wp_load_cell 66 _ rfl D 1 rfl (.slice ao ms.length cap) (load_mb w0 D 1 ao _ _ hD0) ?_)
    simp only [List.getElem_toArray, List.getElem_cons_succ, List.getElem_cons_zero, Act.put, List.setIfInBounds_toArray, List.set_cons_succ, List.set_cons_zero]
    refine wpAny_all (rs := [6]) (by kernel_rfl) (by simp) ?_
    intro k hk
    simp only [List.mem_cons, List.mem_nil_iff, or_false] at hk
    subst hk
    refine wpOp_run rfl rfl (wp_buildSlice 66 73 1 _ rfl m.arr i0 _ Try.underlying66 hi0 hz0 (by rw [hz1]; omega) (by rw [hz1]; omega) (by rw [hz1]; simp only [List.map_toArray, List.map_cons, List.map_nil]; exact fill_ml m) ?_)
    simp only [List.getElem_toArray, List.getElem_cons_succ, List.getElem_cons_zero, Act.put, List.setIfInBounds_toArray, List.set_cons_succ, List.set_cons_zero]
    refine wpAny_all (rs := [7]) (by kernel_rfl) (by simp) ?_
    intro k hk
    simp only [List.mem_cons, List.mem_nil_iff, or_false] at hk
    subst hk
    refine wpOp_run rfl rfl (wp_append_own _ _ _ 66 rfl B 73 i0 _ 14 48 Try.underlying66 hi0 hz0 hz1 hz2 rfl (by omega) _ ms.length (flatW DM ms) rfl own1 ⟨w0.heap.size, 0, none⟩ 1 1 m.cells rfl (by rw [Ml.len]) news1 (Ml.one m) (by unfold maxLen; omega) (by omega) (by rw [size_alloc, ← hw0]; exact Nat.le_succ_of_le hB) ?_)
    intro v' w1 o1 g1 _
    simp only [List.getElem_toArray, List.getElem_cons_succ, List.getElem_cons_zero, Act.put, List.setIfInBounds_toArray, List.set_cons_succ, List.set_cons_zero]
    have HX := HF.out v' w1 o1 g1
    obtain ⟨ao', cap', rfl⟩ := own_shape5 o1
    refine wpAny_take (i := 8) (v := (.pointer (some ⟨D, 1, none⟩))) rfl (by kernel_rfl) (by kernel_rfl) (by kernel_rfl) (fun _ _ _ h => h) (.inl ⟨rfl, fun _ => by simp [execOp, go_sem, Act.eval]⟩) ?_
    simp only [List.getElem_toArray, List.getElem_cons_succ, List.getElem_cons_zero, Act.put, List.setIfInBounds_toArray, List.set_cons_succ, List.set_cons_zero]
    refine wpAny_all (rs := [9]) (by kernel_rfl) (by simp) ?_
    intro k hk
    simp only [List.mem_cons, List.mem_nil_iff, or_false] at hk
    subst hk
    refine wpOp_run rfl rfl (wp_store_cell 66 _ _ rfl D 1 rfl _ rfl (store_mb w1 D 1 _ ao' _ cap' HX.1 HX.2.1) ?_)
    simp only [List.getElem_toArray, List.getElem_cons_succ, List.getElem_cons_zero, Act.put, List.setIfInBounds_toArray, List.set_cons_succ, List.set_cons_zero]
    refine wpAny_done (by kernel_rfl) ?_ _
    go_end0
    exact ⟨rfl, _, w1, rfl, HX.2.2⟩
  · refine wpOp_run rfl rfl (wp_buildSlice 66 73 1 _ rfl m.arr i0 _ Try.underlying66 hi0 hz0 (by rw [hz1]; omega) (by rw [hz1]; omega) (by rw [hz1]; simp only [List.map_toArray, List.map_cons, List.map_nil]; exact fill_ml m) ?_)
    simp only [List.getElem_toArray, List.getElem_cons_succ, List.getElem_cons_zero, Act.put, List.setIfInBounds_toArray, List.set_cons_succ, List.set_cons_zero]
    refine wpAny_all (rs := [3]) (by kernel_rfl) (by simp) ?_
    intro k hk
    simp only [List.mem_cons, List.mem_nil_iff, or_false] at hk
    subst hk
    refine wpOp_run rfl rfl (wp_load_cell 66 _ rfl D 1 rfl (.slice ao ms.length cap) (load_mb _ D 1 ao _ _ hD1) ?_)
    simp only [List.getElem_toArray, List.getElem_cons_succ, List.getElem_cons_zero, Act.put, List.setIfInBounds_toArray, List.set_cons_succ, List.set_cons_zero]
    refine wpAny_all (rs := [7]) (by kernel_rfl) (by simp) ?_
    intro k hk
    simp only [List.mem_cons, List.mem_nil_iff, or_false] at hk
    subst hk
    refine wpOp_run rfl rfl (wp_append_own _ _ _ 66 rfl B 73 i0 _ 14 48 Try.underlying66 hi0 hz0 hz1 hz2 rfl (by omega) _ ms.length (flatW DM ms) rfl own1 ⟨w0.heap.size, 0, none⟩ 1 1 m.cells rfl (by rw [Ml.len]) news1 (Ml.one m) (by unfold maxLen; omega) (by omega) (by rw [size_alloc, ← hw0]; exact Nat.le_succ_of_le hB) ?_)
    intro v' w1 o1 g1 _
    simp only [List.getElem_toArray, List.getElem_cons_succ, List.getElem_cons_zero, Act.put, List.setIfInBounds_toArray, List.set_cons_succ, List.set_cons_zero]
    have HX := HF.out v' w1 o1 g1
    obtain ⟨ao', cap', rfl⟩ := own_shape5 o1
    refine wpAny_take (i := 8) (v := (.pointer (some ⟨D, 1, none⟩))) rfl (by kernel_rfl) (by kernel_rfl) (by kernel_rfl) (fun _ _ _ h => h) (.inl ⟨rfl, fun _ => by simp [execOp, go_sem, Act.eval]⟩) ?_
    simp only [List.getElem_toArray, List.getElem_cons_succ, List.getElem_cons_zero, Act.put, List.setIfInBounds_toArray, List.set_cons_succ, List.set_cons_zero]
    refine wpAny_all (rs := [9]) (by kernel_rfl) (by simp) ?_
    intro k hk
    simp only [List.mem_cons, List.mem_nil_iff, or_false] at hk
    subst hk
    refine wpOp_run rfl rfl (wp_store_cell 66 _ _ rfl D 1 rfl _ rfl (store_mb w1 D 1 _ ao' _ cap' HX.1 HX.2.1) ?_)
    simp only [List.getElem_toArray, List.getElem_cons_succ, List.getElem_cons_zero, Act.put, List.setIfInBounds_toArray, List.set_cons_succ, List.set_cons_zero]
    refine wpAny_done (by kernel_rfl) ?_ _
    go_end0
    exact ⟨rfl, _, w1, rfl, HX.2.2⟩
end Go.Proofs.Ytfddoindcmdooaa
namespace Go.Proofs.Ytfddoindcmdooaa
open Go.RowKit Go.Proofs.Bits
set_option linter.unusedVariables false
set_option maxRecDepth 1000000

/-- Nothing below B changes but block D, nor any block of other cells than mails. -/
structure Kd (D B : Nat) (w w' : World) : Prop where
  os : w'.os = w.os
  tape : w'.tape = w.tape
  output : w'.output = w.output
  size : w.heap.size ≤ w'.heap.size
  low : ∀ k, k < B → k ≠ D → k < w.heap.size → w'.heap[k]? = w.heap[k]?
  typ : ∀ k A T fr, T ≠ 73 → k ≠ D → w.heap[k]? = some (.cells A T fr) → w'.heap[k]? = some (.cells A T fr)
theorem Kd.refl (D B : Nat) (w : World) : Kd D B w w := ⟨rfl, rfl, rfl, Nat.le_refl _, fun _ _ _ _ => rfl, fun _ _ _ _ _ _ h => h⟩
theorem Kd.trans {D B : Nat} {w x y : World} (h1 : Kd D B w x) (h2 : Kd D B x y) : Kd D B w y :=
  ⟨h2.os.trans h1.os, h2.tape.trans h1.tape, h2.output.trans h1.output, Nat.le_trans h1.size h2.size, fun k hk hd hs => (h2.low k hk hd (Nat.lt_of_lt_of_le hs h1.size)).trans (h1.low k hk hd hs), fun k A T fr ht hd h => h2.typ k A T fr ht hd (h1.typ k A T fr ht hd h)⟩
theorem Kd.below {D B : Nat} {w x : World} (hb : Below w.heap.size w x) : Kd D B w x :=
  ⟨hb.os, hb.tape, hb.output, hb.size, fun k _ _ hs => hb.block k hs, fun k A T fr _ _ h => (hb.block k (Array.getElem?_eq_some_iff.1 h).1).trans h⟩
theorem mb_block {w : World} {B : Nat} {v : Value} {ms : List Ml} (h : Mb w B v ms) {g : Nat} (hg : v.ownBlock = some g) : B ≤ g ∧ g < w.heap.size ∧ ∃ cur, w.heap[g]? = some (.cells cur 73 (0, 0)) := by
  rcases h.2 with ⟨rfl, _⟩ | ⟨g', cap, cur, rfl, hB, hcur, _⟩
  · cases hg
  · cases hg; exact ⟨hB, (Array.getElem?_eq_some_iff.1 hcur).1, cur, hcur⟩
theorem Kd.grown {D B : Nat} {w x : World} {v : Value} {ms : List Ml} (h : Mb w B v ms) (hg : w.grownBy x v.ownBlock) : Kd D B w x :=
  ⟨hg.os, hg.tape, hg.output, hg.size, fun k hk _ hs => hg.block k hs (fun e => by have := (mb_block h e.symm).1; omega), fun k A T fr ht _ hc => (hg.block k (Array.getElem?_eq_some_iff.1 hc).1 (fun e => by
    obtain ⟨_, _, cur, h2⟩ := mb_block h e.symm
    rw [hc] at h2
    simp at h2
    exact ht h2.2.1)).trans hc⟩
/-- The driver's own block. -/
abbrev Dr (D : Nat) (A : Array Value) (w : World) : Prop := w.heap[D]? = some (.cells A 68 (0, 0))
theorem Dr.cell {D : Nat} {A : Array Value} {w : World} (h : Dr D A w) {k : Nat} {v : Value} (hv : A[k]? = some v) : w.cell? ⟨D, k, none⟩ = some v := (Lib.cell_of_heap h k).trans hv
theorem Dr.free {D : Nat} {A : Array Value} {w : World} (h : Dr D A w) (k : Nat) : w.frozen? ⟨D, k, none⟩ = false := by simp [World.frozen?, h]
theorem Dr.ne {D : Nat} {A : Array Value} {w : World} {B : Nat} {v : Value} {ms : List Ml} (h : Dr D A w) (hM : Mb w B v ms) : v.ownBlock ≠ some D := fun e => by
  obtain ⟨_, _, cur, h2⟩ := mb_block hM e
  rw [h] at h2
  simp at h2
theorem Dr.grown {D : Nat} {A : Array Value} {w x : World} {B : Nat} {v : Value} {ms : List Ml} (h : Dr D A w) (hM : Mb w B v ms) (hg : w.grownBy x v.ownBlock) : Dr D A x :=
  (hg.block D (Array.getElem?_eq_some_iff.1 h).1 (fun e => (h.ne hM) e.symm)).trans h
theorem Dr.set {D : Nat} {A : Array Value} {w : World} (h : Dr D A w) (k : Nat) (u : Value) : Dr D (A.setIfInBounds k u) (w.setCell ⟨D, k, none⟩ u) := by
  unfold Dr at *; simp [World.setCell, Array.getElem?_modify, h]
theorem Kd.set {D B : Nat} (w : World) (k : Nat) (u : Value) : Kd D B w (w.setCell ⟨D, k, none⟩ u) :=
  ⟨rfl, rfl, rfl, by simp [World.setCell], fun j _ hd _ => Below.heap_setCell w ⟨D, k, none⟩ u j hd, fun j A T fr _ hd h => (Below.heap_setCell w ⟨D, k, none⟩ u j hd).trans h⟩
theorem Mb.setD {D : Nat} {A : Array Value} {w : World} {B : Nat} {v : Value} {ms : List Ml} (hM : Mb w B v ms) (h : Dr D A w) (k : Nat) (u : Value) : Mb (w.setCell ⟨D, k, none⟩ u) B v ms := by
  have hne := h.ne hM
  obtain ⟨hl, hM⟩ := hM
  refine ⟨hl, ?_⟩
  rcases hM with hM | ⟨g, cap, cur, rfl, hg, hcur, rest⟩
  · exact .inl hM
  · exact .inr ⟨g, cap, cur, rfl, hg, (Below.heap_setCell w ⟨D, k, none⟩ u g (fun e => hne (by rw [show D = g from e.symm]; rfl))).trans hcur, rest⟩
theorem meth_ptr {name : String} {f : Nat} (hm : ((Try.prog.info? 71).bind fun i => (i.methods.find? (·.name == name)).map fun m => (m.path, m.func)) = some (#[], some (f, true))) (n D : Nat) (x : World) :
    (method (n + 1) 71 (.pointer (some ⟨D, 1, none⟩)) name).run Try.prog x = .ok (f, .pointer (some ⟨D, 1, none⟩)) x := by
  cases hi : Try.prog.info? 71 with
  | none => rw [hi] at hm; cases hm
  | some i =>
    rw [hi] at hm
    obtain ⟨m, h1, h2⟩ := Option.map_eq_some_iff.1 hm
    injection h2 with h2 h3
    simp [method, typeInfo, hi, h1, h2, h3, follow, receiverAt, Place.get, run_underlying Try.underlying71, go_sem]
set_option maxHeartbeats 1000000 in
theorem hPush_any {w : World} {B D : Nat} {A : Array Value} {v : Value} {ms : List Ml} (m : Ml) (hA : Dr D A w) (hA1 : A[1]? = some v) (h : Mb w B v ms) (hB : B ≤ w.heap.size) (hl : ms.length < 64) :
    Calls Try.prog 30 #[.iface 71 (.pointer (some ⟨D, 1, none⟩)), .iface 73 (.agg m.arr)] w fun e w' => e = .returned (.tuple #[]) ∧ ∃ v', Dr D (A.setIfInBounds 1 v') w' ∧ Mb w' B v' (upF (ms ++ [m]) ms.length) ∧ Kd D B w w' := by
  have hP := mPush_any m (hA.cell hA1) (hA.free 1) (hA.ne h) h hB (by omega)
  have hme : (method 234 71 (.pointer (some ⟨D, 1, none⟩)) "Push").run Try.prog w = .ok (85, .pointer (some ⟨D, 1, none⟩)) w := meth_ptr (by kernel_rfl) _ D w
  have enter1 : ∀ args x, (callFunc 85 args).run Try.prog x = .ok (.enter 85 args) x := fun _ _ => by rfl
  have enter2 : ∀ args x, (callFunc 81 args).run Try.prog x = .ok (.enter 81 args) x := fun _ _ => by rfl
  have s1 : 1 < A.size := (Array.getElem?_eq_some_iff.1 hA1).1
  go_enter Try.func30, Try.ntmps30
  go_wp2_with fail
  refine hP.mono ?_
  rintro e w2 ⟨rfl, v', w1, rfl, M1, g1⟩
  have A1 := hA.grown h g1
  have A2 := A1.set 1 v'
  have M2 := M1.setD A1 1 v'
  have K2 : Kd D B w (w1.setCell ⟨D, 1, none⟩ v') := (Kd.grown h g1).trans (Kd.set w1 1 v')
  have c2 : (w1.setCell ⟨D, 1, none⟩ v').cell? ⟨D, 1, none⟩ = some v' := A2.cell (by simp [s1])
  generalize w1.setCell ⟨D, 1, none⟩ v' = w2 at *
  obtain ⟨ao, cap, hv⟩ := own_shape5 M2
  have hU := hup_any c2 (A2.ne M2) M2 ms.length (by simp) (by simp; omega)
  subst hv
  have hLn := mLen_any (.slice ao (ms ++ [m]).length cap) _ ⟨ao, cap, rfl⟩ w2
  have hme2 : (method 234 71 (.pointer (some ⟨D, 1, none⟩)) "Len").run Try.prog w2 = .ok (81, .slice ao (ms ++ [m]).length cap) w2 := meth_at (by kernel_rfl) _ D ao _ cap w2 c2
  have hle : (((ms ++ [m]).length : Nat) : Int) - 1 = (ms.length : Int) := by simp
  have hl2 : (ms ++ [m]).length ≤ 64 := by simp; omega
  have HF : Hid (∀ x, Mb x B (.slice ao (ms ++ [m]).length cap) (upF (ms ++ [m]) ms.length) → w2.grownBy x (Value.slice ao (ms ++ [m]).length cap).ownBlock → Dr D (A.setIfInBounds 1 (.slice ao (ms ++ [m]).length cap)) x ∧ Mb x B (.slice ao (ms ++ [m]).length cap) (upF (ms ++ [m]) ms.length) ∧ Kd D B w x) := fun x h1 h2 => ⟨A2.grown M2 h2, h1, K2.trans (Kd.grown M2 h2)⟩
  generalize hLL : (ms ++ [m]).length = L at *
  clear hP M1 g1 A1 A2 M2 K2 c2 hme hA hA1 h hLL
  go_wp2_with fail
  refine hLn.mono ?_
  rintro e w3 ⟨rfl, rfl⟩
  clear hLn hme2
  go_wp2_with fail
  refine hU.mono ?_
  rintro e w4 ⟨rfl, M4, g4⟩
  have HX : Hid _ := HF.out w4 M4 g4
  clear hU M4 g4 HF
  go_wp2
  go_end0
  exact ⟨rfl, _, HX.out⟩
end Go.Proofs.Ytfddoindcmdooaa
