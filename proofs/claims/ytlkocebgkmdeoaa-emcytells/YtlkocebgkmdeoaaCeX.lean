/- Cells set one behind the other; a row of structs out of which one is taken, or into which one is put. -/
import Derived.Test.YtlkocebgkmdeoaaWrX
import Derived.Lib.AppendZerosOnto
import Derived.Laws.IdiomCopy
import Derived.Lib.Overlaps
namespace Go.Proofs.Ytlkocebgkmdeoaa
open Go.RowKit
set_option linter.unusedVariables false
set_option maxRecDepth 1000000
set_option linter.unusedSimpArgs false
def setMany (A : Array Value) : Nat → List Value → Array Value
  | _, [] => A
  | o, v :: r => setMany (A.setIfInBounds o v) (o + 1) r
theorem heap_setCells (q : Nat) (T : TypeId) (z : Nat × Nat) : ∀ (vs : List Value) (o : Nat) (A : Array Value) (w : World), w.heap[q]? = some (.cells A T z) → (w.setCells q o vs).heap[q]? = some (.cells (setMany A o vs) T z)
  | [], _, _, _, h => h
  | v :: r, o, A, w, h => heap_setCells q T z r (o + 1) _ _ (by simp [World.setCell, Array.getElem?_modify, h])
theorem heap_cells_other {q k : Nat} (hk : k ≠ q) : ∀ (vs : List Value) (o : Nat) (w : World), (w.setCells q o vs).heap[k]? = w.heap[k]?
  | [], _, _ => rfl
  | v :: r, o, w => (heap_cells_other hk r (o + 1) _).trans (Below.heap_setCell w ⟨q, o, none⟩ v k hk)
theorem setMany_size : ∀ (vs : List Value) (o : Nat) (A : Array Value), (setMany A o vs).size = A.size
  | [], _, _ => rfl
  | v :: r, o, A => by rw [setMany, setMany_size r, Array.size_setIfInBounds]
theorem setMany_get : ∀ (vs : List Value) (o : Nat) (A : Array Value) (k : Nat), (setMany A o vs)[k]? = if o ≤ k ∧ k < o + vs.length ∧ k < A.size then vs[k - o]? else A[k]?
  | [], o, A, k => by rw [setMany, if_neg (by simp; omega)]
  | v :: r, o, A, k => by
    rw [setMany, setMany_get r, Array.size_setIfInBounds]
    by_cases h1 : o + 1 ≤ k ∧ k < o + 1 + r.length ∧ k < A.size
    · rw [if_pos h1, if_pos (by simp; omega)]
      rw [show k - o = (k - (o + 1)) + 1 by omega, List.getElem?_cons_succ]
    · rw [if_neg h1, Array.getElem?_setIfInBounds]
      by_cases h2 : o = k
      · subst h2
        by_cases h3 : o < A.size
        · rw [if_pos rfl, if_pos h3, if_pos (by simp; omega)]; simp
        · rw [if_pos rfl, if_neg h3, if_neg (by omega)]
          symm; rw [Array.getElem?_eq_none (by omega)]
      · rw [if_neg h2, if_neg (by simp; omega)]
theorem cells_same (b : Nat) : ∀ (vs : List Value) (o : Nat) (w : World), (w.setCells b o vs).os = w.os ∧ (w.setCells b o vs).tape = w.tape ∧ (w.setCells b o vs).output = w.output ∧ (w.setCells b o vs).heap.size = w.heap.size
  | [], _, _ => ⟨rfl, rfl, rfl, rfl⟩
  | v :: r, o, w => by
    rw [World.setCells]
    obtain ⟨h1, h2, h3, h4⟩ := cells_same b r (o + 1) (w.setCell ⟨b, o, none⟩ v)
    exact ⟨h1, h2, h3, h4.trans (by simp [World.setCell])⟩
theorem grown_setCells {w x : World} {b : Nat} (h : w.grownBy x (some b)) (o : Nat) (vs : List Value) : w.grownBy (x.setCells b o vs) (some b) := by
  obtain ⟨a1, a2, a3, a4⟩ := cells_same b vs o x
  refine ⟨a1.trans h.os, a2.trans h.tape, a3.trans h.output, by rw [a4]; exact h.size, fun k hk hn => ?_⟩
  rw [heap_cells_other (fun e => hn (by rw [e]))]
  exact h.block k hk hn
theorem grown_setRow {w x : World} {b : Nat} (h : w.grownBy x (some b)) (A : Array Value) : w.grownBy (x.setRow b A) (some b) :=
  ⟨h.os, h.tape, h.output, by have := h.size; simpa [World.setRow] using this, fun k hk hn => (setRow_other x b k A (fun e => hn (by rw [e]))).trans (h.block k hk hn)⟩
theorem grown_drawn2 (w : World) (k : Nat) (r : Option Nat) : w.grownBy { w with drawn := k } r := ⟨rfl, rfl, rfl, Nat.le_refl _, fun _ _ _ => rfl⟩
theorem clear_one {T e : TypeId} {z : Value} {c y : Nat} (hu : Try.prog.underlying T = some (.slice e)) (hinfo : (Try.prog.info? e).map (fun i => (i.zero, i.size, i.bytes)) = some (some z, c, y)) (zs : List Value) (hz : (Builtin.zeroCells z.cells 1).toList = zs) (h1 : ∀ v ∈ zs, v.oneCell' = true)
    (W : World) (b o cp : Nat) (ht : W.there b o zs.length) (ty : TypeId) : (Builtin.clear_ #[T] ty #[.slice (some ⟨b, o, none⟩) 1 cp]).run Try.prog W = .ok (.tuple #[]) (W.setCells b o zs) := by
  obtain ⟨i0, hi, hz0, hz1, hz2⟩ := info_parts hinfo
  have hst := run_storeCells_cells (P := Try.prog) b o zs 0 W (fun j hj => by simpa using (ht j hj).1) (fun j hj => by simpa using (ht j hj).2) h1
  simp only [Nat.add_zero] at hst
  simp [Builtin.clear_, run_underlying hu, zeroValue, typeInfo, hi, hz0, hz, hst]
theorem wp_app_run {o : Oper} {a : Act} {w w' : World} {K : Act → World → Prop} {Q : Exit → Act → World → Prop} (s x : Operand) (t : TypeId) (ho : o.op = .call { callee := .builtin .append, args := #[s, x], argTypes := #[t, t] }) (v u v' : Value) (hs : a.eval s = v) (hx : a.eval x = u)
    (hr : ∀ ty, (Builtin.append_ #[t, t] ty #[v, u]).run Try.prog w = .ok v' w') (h : K (a.put o.dst v') w') : o.wp Try.prog a w K Q := by
  unfold Oper.wp execOp
  simp only [ho, resolve, invoke, builtin, Sem.run_bind, Sem.run_pure, Result.andThen_ok, List.map_toArray, List.map_cons, List.map_nil, hs, hx, hr]
  exact h
theorem wpList_app_run (w : World) {ops : Array Oper} {rest : List Oper} {o : Oper} {a : Act} {Q : Exit → Act → World → Prop} (hgd : o.guard = none) (s x : Operand) (t t' : TypeId)
    (ho : o.op = .call { callee := .builtin .append, args := #[s, x], argTypes := #[t, t'] }) (v u : Value) (hs : a.eval s = v) (hx : a.eval x = u) {v' : Value} {w' : World}
    (hr : (Builtin.append_ #[t, t'] o.type #[v, u]).run Try.prog w = .ok v' w') (h : wpList Try.prog ops Q rest (a.put o.dst v') w') : wpList Try.prog ops Q (o :: rest) a w := by
  refine wpList_plain hgd fun _ hK => ?_
  unfold Oper.wp execOp
  simp only [ho, resolve, invoke, builtin, Sem.run_bind, Sem.run_pure, Result.andThen_ok, List.map_toArray, List.map_cons, List.map_nil, hs, hx, hr]
  exact hK _ _ h
theorem wp_cp_run {w : World} {o : Oper} {a : Act} {K : Act → World → Prop} {Q : Exit → Act → World → Prop} (d s : Operand) (t t' : TypeId)
    (ho : o.op = .call { callee := .builtin .copy, args := #[d, s], argTypes := #[t, t'] }) (v u : Value) (hd : a.eval d = v) (hs : a.eval s = u) {v' : Value} {w' : World}
    (hr : (Builtin.copy_ #[t, t'] o.type #[v, u]).run Try.prog w = .ok v' w') (h : K (a.put o.dst v') w') : o.wp Try.prog a w K Q := by
  unfold Oper.wp execOp
  simp only [ho, resolve, invoke, builtin, Sem.run_bind, Sem.run_pure, Result.andThen_ok, List.map_toArray, List.map_cons, List.map_nil, hd, hs, hr]
  exact h
theorem wpList_cp_run (w : World) {ops : Array Oper} {rest : List Oper} {o : Oper} {a : Act} {Q : Exit → Act → World → Prop} (hgd : o.guard = none) (d s : Operand) (t t' : TypeId)
    (ho : o.op = .call { callee := .builtin .copy, args := #[d, s], argTypes := #[t, t'] }) (v u : Value) (hd : a.eval d = v) (hs : a.eval s = u) {v' : Value} {w' : World}
    (hr : (Builtin.copy_ #[t, t'] o.type #[v, u]).run Try.prog w = .ok v' w') (h : wpList Try.prog ops Q rest (a.put o.dst v') w') : wpList Try.prog ops Q (o :: rest) a w :=
  wpList_plain hgd fun _ hK => wp_cp_run d s t t' ho v u hd hs hr (hK _ _ h)
/-- What a row's block is. -/
theorem own_row {w : World} {B : Nat} {e : TypeId} {c n : Nat} {v : Value} {xs : List Value} (h : w.ownsRow B e c v n xs) (hn : 0 < n) : ∃ g cap cur, v = .slice (some ⟨g, 0, none⟩) n cap ∧ B ≤ g ∧ w.heap[g]? = some (.cells cur e (0, 0)) ∧ n ≤ cap ∧ cap ≤ maxLen ∧ cur.size = cap * c ∧ cur.toList.take (n * c) = xs := by
  rcases h.2 with ⟨_, h1⟩ | h
  · omega
  · exact h
section
variable {α : Type} (D : Dec α)
def delR (cur : Array Value) (cs : List α) (i : Nat) : Array Value := (cur.toList.take (i * D.c) ++ flatW D (cs.drop (i + 1)) ++ cur.toList.drop (i * D.c + (flatW D (cs.drop (i + 1))).length)).toArray
theorem flatW_take (cs : List α) (i : Nat) : (flatW D cs).take (i * D.c) = flatW D (cs.take i) := by
  induction cs generalizing i with
  | nil => simp [flatW]
  | cons x r ih =>
    cases i with
    | zero => simp [flatW]
    | succ i =>
      have e1 : flatW D (x :: r) = D.dec x ++ flatW D r := by simp [flatW]
      have e2 : flatW D (x :: r.take i) = D.dec x ++ flatW D (r.take i) := by simp [flatW]
      rw [List.take_succ_cons, e1, e2, ← ih, List.take_append, D.len, List.take_of_length_le (by rw [D.len, Nat.succ_mul]; omega)]
      congr 2
      rw [Nat.succ_mul]; omega
theorem take_take {A : List Value} {l : List Value} {m n : Nat} (h : A.take n = l) (hm : m ≤ n) : A.take m = l.take m := by
  rw [← h, List.take_take, Nat.min_eq_left hm]
theorem delR_take {cur : Array Value} {cs : List α} {i : Nat} (hi : i < cs.length) (h : cur.toList.take (cs.length * D.c) = flatW D cs) : (delR D cur cs i).toList.take ((cs.length - 1) * D.c) = flatW D (cs.eraseIdx i) := by
  have h1 : cur.toList.take (i * D.c) = flatW D (cs.take i) := by rw [take_take h (Nat.mul_le_mul_right _ (by omega)), flatW_take]
  have h2 : (flatW D (cs.take i) ++ flatW D (cs.drop (i + 1))).length = (cs.length - 1) * D.c := by
    rw [← flatW_append, flatW_len]
    congr 1
    simp
    omega
  rw [delR, List.toList_toArray, h1, List.take_append_of_le_length (by omega), List.take_of_length_le (by omega), ← flatW_append, ← List.eraseIdx_eq_take_drop_succ]
theorem delR_size {cur : Array Value} {cs : List α} {i cap : Nat} (hi : i < cs.length) (hc : cs.length ≤ cap) (hs : cur.size = cap * D.c) : (delR D cur cs i).size = cap * D.c := by
  have h3 : i * D.c ≤ cap * D.c := Nat.mul_le_mul_right _ (by omega)
  have h4 : i * D.c + (cs.length - (i + 1)) * D.c ≤ cap * D.c := by rw [← Nat.add_mul]; exact Nat.mul_le_mul_right _ (by omega)
  have h5 : min i cap = i := by omega
  rw [delR]
  simp [flatW_len, hs, Nat.min_eq_left h3]
  omega
theorem del_row {W : World} {B g cap i : Nat} {e : TypeId} {cur : Array Value} {cs : List α} (hB : B ≤ g) (hg : W.heap[g]? = some (.cells cur e (0, 0))) (h1 : cs.length ≤ cap) (h2 : cap ≤ maxLen) (h3 : cur.size = cap * D.c) (h4 : cur.toList.take (cs.length * D.c) = flatW D cs) (hi : i < cs.length) (zs : List Value) :
    ((W.setRow g (delR D cur cs i)).setCells g ((cs.length - 1) * D.c) zs).ownsRow B e D.c (.slice (some ⟨g, 0, none⟩) (cs.length - 1) cap) (cs.eraseIdx i).length (flatW D (cs.eraseIdx i)) := by
  have hr := setRow_heap W g cur (delR D cur cs i) e _ hg
  have hc' := heap_setCells g _ _ zs ((cs.length - 1) * D.c) _ _ hr
  have hl : (cs.eraseIdx i).length = cs.length - 1 := by rw [List.length_eraseIdx, if_pos hi]
  rw [hl]
  refine ⟨by rw [flatW_len, hl], .inr ⟨g, cap, _, rfl, hB, hc', by omega, h2, by rw [setMany_size]; exact delR_size D hi h1 h3, ?_⟩⟩
  rw [← delR_take D hi h4]
  apply List.ext_getElem?
  intro x
  rw [List.getElem?_take, List.getElem?_take]
  by_cases hx : x < (cs.length - 1) * D.c
  · rw [if_pos hx, if_pos hx, Array.getElem?_toList, setMany_get, if_neg (by omega)]
    simp
  · rw [if_neg hx, if_neg hx]
/-- What append lays where one is taken out. -/
theorem del_app {T e : TypeId} {z : Value} {y : Nat} (hu : Try.prog.underlying T = some (.slice e)) (hinfo : (Try.prog.info? e).map (fun i => (i.zero, i.size, i.bytes)) = some (some z, D.c, y)) {W : World} {g cap i o : Nat} {cur : Array Value} {cs : List α} (hg : W.heap[g]? = some (.cells cur e (0, 0))) (h1 : cs.length ≤ cap) (h3 : cur.size = cap * D.c) (h4 : cur.toList.take (cs.length * D.c) = flatW D cs) (hi : i < cs.length) (ho : i + 1 < cs.length → o = (i + 1) * D.c) (ty : TypeId) (m : Nat) (cp : Nat) (hm : m = cs.length - (i + 1)) :
    (Builtin.append_ #[T, T] ty #[.slice (some ⟨g, 0, none⟩) i cap, .slice (some ⟨g, o, none⟩) m cp]).run Try.prog W = .ok (.slice (some ⟨g, 0, none⟩) (cs.length - 1) cap) (W.setRow g (delR D cur cs i)) := by
  subst hm
  obtain ⟨i0, hi0, hz0, hz1, hz2⟩ := info_parts hinfo
  have hfl : (flatW D (cs.drop (i + 1))).length = (cs.length - (i + 1)) * D.c := by rw [flatW_len, List.length_drop]
  have h5 : i * D.c + (cs.length - (i + 1)) * D.c ≤ cap * D.c := by rw [← Nat.add_mul]; exact Nat.mul_le_mul_right _ (by omega)
  have := run_append_room (P := Try.prog) W T ty e i0 hu hi0 g i cap cur hg ⟨g, o, none⟩ (cs.length - (i + 1)) cp (flatW D (cs.drop (i + 1))) (by rw [hz1, hfl]) (fun j u hj => by
      have hjl : j < (cs.length - (i + 1)) * D.c := by rw [← hfl]; exact (List.getElem?_eq_some_iff.1 hj).1
      have hne : i + 1 < cs.length := by
        rcases Nat.lt_or_ge (i + 1) cs.length with h | h
        · exact h
        · rw [show cs.length - (i + 1) = 0 by omega] at hjl; simp at hjl
      have hlt : (i + 1) * D.c + j < cs.length * D.c := by
        have : (i + 1) * D.c + (cs.length - (i + 1)) * D.c = cs.length * D.c := by rw [← Nat.add_mul]; congr 1; omega
        omega
      rw [ho hne, Addr.add_mid, Lib.cell_of_heap hg]
      have e1 : cur[(i + 1) * D.c + j]? = (flatW D cs)[(i + 1) * D.c + j]? := by
        rw [← h4, List.getElem?_take, if_pos hlt]; simp
      rw [e1]
      have e2 : flatW D cs = flatW D (cs.take (i + 1)) ++ flatW D (cs.drop (i + 1)) := by rw [← flatW_append, List.take_append_drop]
      have e3 : (flatW D (cs.take (i + 1))).length = (i + 1) * D.c := by rw [flatW_len, List.length_take, Nat.min_eq_left (by omega)]
      rw [e2, List.getElem?_append_right (by rw [e3]; omega), e3, Nat.add_sub_cancel_left]
      exact hj) (flatW_one D _) (by omega) (by rw [hz1, h3, hfl]; exact h5)
  rw [this, hz1]
  have e4 : i + (cs.length - (i + 1)) = cs.length - 1 := by omega
  rw [e4]
  rfl
end
theorem there_of_heap {W : World} {g o n : Nat} {cur : Array Value} {e : TypeId} (h : W.heap[g]? = some (.cells cur e (0, 0))) (hn : o + n ≤ cur.size) : W.there g o n := by
  intro j hj
  refine ⟨?_, Lib.frozen_of_heap h _⟩
  rw [Lib.cell_of_heap h, Array.getElem?_eq_getElem (by omega)]
  rfl
section
variable {T e : TypeId} {z : Value} {c y : Nat}
theorem cut_to (hu : Try.prog.underlying T = some (.slice e)) (hinfo : (Try.prog.info? e).map (fun i => (i.zero, i.size, i.bytes)) = some (some z, c, y)) (g n cap i : Nat) (h : i ≤ cap) (W : World) : (Instr.sliceAt T (.slice (some ⟨g, 0, none⟩) n cap) none (some (.int .i64 i)) none).run Try.prog W = .ok (.slice (some ⟨g, 0, none⟩) i cap) W := by
  obtain ⟨i0, hi, hz0, hz1, hz2⟩ := info_parts hinfo
  have h1 : (i : Int) ≤ (cap : Int) := by omega
  simp [Instr.sliceAt, Instr.slice, Instr.sliceBounds, run_underlying hu, go_sem, sizeOf, typeInfo, hi, hz1, Addr.add, h1, h]
theorem cut_from (hu : Try.prog.underlying T = some (.slice e)) (hinfo : (Try.prog.info? e).map (fun i => (i.zero, i.size, i.bytes)) = some (some z, c, y)) (g n cap i : Nat) (h : i ≤ n) (hc : n ≤ cap) (W : World) : (Instr.sliceAt T (.slice (some ⟨g, 0, none⟩) n cap) (some (.int .i64 i)) none none).run Try.prog W = .ok (.slice (some ⟨g, if cap = i then 0 else i * c, none⟩) (n - i) (cap - i)) W := by
  obtain ⟨i0, hi, hz0, hz1, hz2⟩ := info_parts hinfo
  have h1 : (i : Int) ≤ (n : Int) := by omega
  have h2 : (n : Int) ≤ (cap : Int) := by omega
  simp [Instr.sliceAt, Instr.slice, Instr.sliceBounds, run_underlying hu, go_sem, sizeOf, typeInfo, hi, hz1, Addr.add, h1, h2]
  by_cases h3 : cap = i
  · simp [h3]
  · simp only [h3, if_false]
    by_cases h0 : i * c = 0
    · rw [if_pos h0, h0]
    · rw [if_neg h0]
theorem cut_one (hu : Try.prog.underlying T = some (.slice e)) (hinfo : (Try.prog.info? e).map (fun i => (i.zero, i.size, i.bytes)) = some (some z, c, y)) (g n m cap : Nat) (h : n < cap) (W : World) : (Instr.sliceAt T (.slice (some ⟨g, 0, none⟩) m cap) (some (.int .i64 n)) (some (.int .i64 (n + 1))) none).run Try.prog W = .ok (.slice (some ⟨g, n * c, none⟩) 1 (cap - n)) W := by
  obtain ⟨i0, hi, hz0, hz1, hz2⟩ := info_parts hinfo
  have h2 : (n : Int) + 1 ≤ (cap : Int) := by omega
  have h3 : (0 : Int) ≤ (n : Int) := by omega
  simp [Instr.sliceAt, Instr.slice, Instr.sliceBounds, run_underlying hu, go_sem, sizeOf, typeInfo, hi, hz1, Addr.add, h2, h3]
  rw [if_pos (by omega), if_neg (by omega)]
  by_cases h0 : n * c = 0
  · rw [if_pos h0, h0]
  · rw [if_neg h0]
theorem cut_mid (hu : Try.prog.underlying T = some (.slice e)) (hinfo : (Try.prog.info? e).map (fun i => (i.zero, i.size, i.bytes)) = some (some z, c, y)) (g n cap i : Nat) (h : i < n) (hc : n ≤ cap) : ∃ v, ∀ W : World, (Instr.sliceAt T (.slice (some ⟨g, 0, none⟩) n cap) (some (.int .i64 i)) (some (.int .i64 (i + 1))) (some (.int .i64 n))).run Try.prog W = .ok v W := by
  obtain ⟨i0, hi, hz0, hz1, hz2⟩ := info_parts hinfo
  have h1 : (i : Int) + 1 ≤ (n : Int) := by omega
  have h2 : (n : Int) ≤ (cap : Int) := by omega
  have h3 : (0 : Int) ≤ (i : Int) := by omega
  have h4 : (i : Int) ≤ (i : Int) + 1 := by omega
  refine ⟨.slice (some ((⟨g, 0, none⟩ : Addr).add (if n - i = 0 then 0 else i * c))) 1 (n - i), fun W => ?_⟩
  simp [Instr.sliceAt, Instr.slice, Instr.sliceBounds, run_underlying hu, go_sem, sizeOf, typeInfo, hi, hz1, h1, h2, h3, h4]
  rw [if_pos (by omega), if_neg (by omega), if_neg (by omega)]
end
end Go.Proofs.Ytlkocebgkmdeoaa
