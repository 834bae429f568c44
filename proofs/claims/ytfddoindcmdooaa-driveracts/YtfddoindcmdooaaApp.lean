/- append to rows of the call's own whose elements are structs; slices of one struct. -/
import Derived.Test.YtfddoindcmdooaaTwo
import Derived.Great.FillDense
namespace Go.Proofs.Ytfddoindcmdooaa
open Go.RowKit Go.Proofs.Bits
set_option linter.unusedVariables false
set_option maxRecDepth 1000000

theorem infoI : (Try.prog.info? 3).map (fun i => (i.zero, i.size, i.bytes)) = some (some (.int .i64 0), 1, 8) := by kernel_rfl
def natV (j : Nat) : Value := .int .i64 j
theorem slots_new (w : World) (u : Value) (T : TypeId) : Slots (w.alloc (.cells #[u] T)) (.slice (some ⟨w.heap.size, 0, none⟩) 1 1) [u] := by
  refine ⟨some ⟨w.heap.size, 0, none⟩, 1, rfl, (fun h => by cases h), fun k hk => ⟨w.heap.size, 0, rfl, by rw [size_alloc]; omega, ?_⟩⟩
  rw [Lib.cell_of_heap (heap_alloc_new w _)]
  match k, hk with
  | 0, _ => rfl
  | k + 1, hk => simp at hk
/-- How a struct's cells lie. -/
structure Dec (α : Type) where
  dec : α → List Value
  c : Nat
  pos : 0 < c
  len : ∀ a, (dec a).length = c
  one : ∀ a, ∀ u ∈ dec a, u.oneCell' = true
def flatW {α : Type} (D : Dec α) (l : List α) : List Value := l.flatMap D.dec
section
variable {α : Type} (D : Dec α)
theorem flatW_len (l : List α) : (flatW D l).length = l.length * D.c := by
  induction l with
  | nil => simp [flatW]
  | cons f r ih => rw [flatW, List.flatMap_cons, List.length_append, D.len, ← flatW, ih, List.length_cons, Nat.succ_mul]; omega
theorem flatW_get (l : List α) (k j : Nat) (hk : k < l.length) (hj : j < D.c) : (flatW D l)[k * D.c + j]? = (D.dec l[k])[j]? := by
  induction l generalizing k with
  | nil => simp at hk
  | cons f r ih =>
    rw [flatW, List.flatMap_cons, ← flatW]
    match k, hk with
    | 0, _ => rw [List.getElem?_append_left (by rw [D.len]; omega)]; simp
    | k + 1, hk =>
      rw [List.getElem?_append_right (by rw [D.len, Nat.succ_mul]; omega), D.len, show (k + 1) * D.c + j - D.c = k * D.c + j by rw [Nat.succ_mul]; omega, ih k (by simpa using hk)]
      simp
theorem flatW_one (l : List α) : ∀ u ∈ flatW D l, u.oneCell' = true := by
  intro u hu
  obtain ⟨f, _, hf⟩ := List.mem_flatMap.1 hu
  exact D.one f u hf
theorem flatW_append (l m : List α) : flatW D (l ++ m) = flatW D l ++ flatW D m := by simp [flatW]
theorem wide_of_own {w : World} {B : Nat} {e : TypeId} {v : Value} {l : List α} (h : w.ownsRow B e D.c v l.length (flatW D l)) : Wide D.c D.dec w v l := by
  rcases h.2 with ⟨rfl, h0⟩ | ⟨g, cap, cur, rfl, hg, hcur, h1, h2, h3, h4⟩
  · obtain rfl := List.length_eq_zero_iff.1 h0
    exact ⟨none, 0, rfl, fun _ => ⟨rfl, rfl⟩, fun k hk => by simp at hk⟩
  · refine ⟨some ⟨g, 0, none⟩, cap, rfl, (fun h => by cases h), fun k hk => ⟨g, 0, rfl, (Array.getElem?_eq_some_iff.1 hcur).1, ?_⟩⟩
    intro j u hj
    have hjl : j < D.c := by have := (List.getElem?_eq_some_iff.1 hj).1; rw [D.len] at this; exact this
    have hlt : k * D.c + j < l.length * D.c := by
      have : (k + 1) * D.c ≤ l.length * D.c := Nat.mul_le_mul_right _ hk
      rw [Nat.succ_mul] at this; omega
    rw [Lib.cell_of_heap hcur, Nat.zero_add, ← hj, ← flatW_get D l k j hk hjl, ← h4, List.getElem?_take, if_pos hlt]
    simp
theorem own_empty_e (w : World) (e : TypeId) (c : Nat) : (w.alloc (.cells #[] e)).ownsRow w.heap.size e c (.slice (some ⟨w.heap.size, 0, none⟩) 0 0) 0 [] := by
  refine ⟨by simp, .inr ⟨w.heap.size, 0, #[], rfl, Nat.le_refl _, heap_alloc_new w _, Nat.le_refl _, by decide, by simp, by simp⟩⟩
/-- append of a slice that came in to a row of the call's own. -/
theorem append_wide {w : World} {ops : Array Oper} {rest : List Oper} {o : Oper} {a : Act} {Q : Exit → Act → World → Prop} (hgd : Region.wanted o (yielded ops a.tmps) = true) (s x : Operand) (t e : TypeId) (z : Value) (bytes : Nat)
    (ht : Try.prog.underlying t = some (.slice e)) (hinfo : (Try.prog.info? e).map (fun i => (i.zero, i.size, i.bytes)) = some (some z, D.c, bytes)) (hzs : z.cells.size = D.c)
    (ho : o.op = .call { callee := .builtin .append, args := #[s, x], argTypes := #[t, t] })
    (base : Nat) (v : Value) (xs : List α) (hs : a.eval s = v) (hown : w.ownsRow base e D.c v xs.length (flatW D xs))
    (vx : Value) (l : List α) (hx : a.eval x = vx) (hB : Wide D.c D.dec w vx l) (h63 : xs.length + l.length ≤ maxLen) (hbytes : (xs.length + l.length) * bytes ≤ 140737488355328) (hbase : base ≤ w.heap.size)
    (h : ∀ v' w', w'.ownsRow base e D.c v' (xs ++ l).length (flatW D (xs ++ l)) → w.grownBy w' v.ownBlock → wpList Try.prog ops Q rest (a.put o.dst v') w') : wpList Try.prog ops Q (o :: rest) a w := by
  obtain ⟨i0, hi, hz0, hz1, hz2⟩ := info_parts hinfo
  obtain ⟨ao, cap, rfl, h0, hc⟩ := hB
  cases ao with
  | none =>
    obtain ⟨rfl, rfl⟩ := h0 rfl
    refine BigFrame.wpList_want hgd fun K hK => ?_
    have hrun := run_append_owned_none (P := Try.prog) (w := w) base t o.type e i0 D.c ht hi v xs.length (flatW D xs) hown
    unfold Oper.wp
    simp only [List.length_nil] at hx
    simp [execOp, ho, resolve, invoke, builtin, hs, hx, hrun, Result.andThen]
    refine hK _ _ (h _ _ ?_ (grown_refl _ _))
    simpa using hown
  | some ad =>
    refine BigFrame.wpList_want hgd fun _ hK => wp_append_own w s x t ho base e i0 z D.c bytes ht hi hz0 hz1 hz2 hzs D.pos v xs.length (flatW D xs) hs hown ad l.length cap (flatW D l) hx (flatW_len D l) ?_ (flatW_one D l) h63 hbytes hbase ?_
    · intro j u hj
      have hlt : j < l.length * D.c := by have := (List.getElem?_eq_some_iff.1 hj).1; rw [flatW_len] at this; exact this
      have hdm := Nat.div_add_mod j D.c
      rw [Nat.mul_comm] at hdm
      have hk : j / D.c < l.length := Nat.div_lt_of_lt_mul (by rw [Nat.mul_comm]; exact hlt)
      have hm : j % D.c < D.c := Nat.mod_lt _ D.pos
      obtain ⟨b, off, ha, _, hR⟩ := hc (j / D.c) hk
      simp only [Option.some.injEq] at ha
      subst ha
      have e := flatW_get D l (j / D.c) (j % D.c) hk hm
      rw [hdm, hj] at e
      have := hR (j % D.c) u e.symm
      rw [Addr.add_mid]
      rw [Nat.add_assoc, hdm] at this
      exact this
    · intro v' w' h1 h2 h3
      refine hK _ _ (h v' w' ?_ h2)
      rw [List.length_append, flatW_append]
      exact h1
theorem wide_new (w : World) (x : α) (e : TypeId) : Wide D.c D.dec (w.alloc (.cells (D.dec x).toArray e)) (.slice (some ⟨w.heap.size, 0, none⟩) 1 1) [x] := by
  refine ⟨some ⟨w.heap.size, 0, none⟩, 1, rfl, (fun h => by cases h), fun k hk => ⟨w.heap.size, 0, rfl, by rw [size_alloc]; omega, ?_⟩⟩
  obtain rfl : k = 0 := by simp at hk; exact hk
  intro j v hj
  rw [Lib.cell_of_heap (heap_alloc_new w _)]
  simpa using hj
theorem one_bs {w : World} {ops : Array Oper} {rest : List Oper} {o : Oper} {a : Act} {Q : Exit → Act → World → Prop} (s : α) (t e : TypeId) (z : Value) (bytes : Nat) (hgd : o.guard = none) (x : Operand) (ho : o.op = .buildSlice t 1 #[(0, x)]) (hx : a.eval x = .agg (D.dec s).toArray)
    (ht : Try.prog.underlying t = some (.slice e)) (hinfo : (Try.prog.info? e).map (fun i => (i.zero, i.size, i.bytes)) = some (some z, D.c, bytes)) (hsmall : D.c ≤ 1000)
    (h : wpList Try.prog ops Q rest (a.put o.dst (.slice (some ⟨w.heap.size, 0, none⟩) 1 1)) (w.alloc (.cells (D.dec s).toArray e))) : wpList Try.prog ops Q (o :: rest) a w := by
  obtain ⟨i0, hi, hz0, hz1, hz2⟩ := info_parts hinfo
  refine wpList_buildSlice hgd t e 1 _ ho (D.dec s).toArray i0 z ht hi hz0 (by rw [hz1]; omega) (by rw [hz1]; have := D.pos; omega) ?_ h
  rw [hz1]
  have hsz : (Value.agg (D.dec s).toArray).cells.size = D.c := by simp [Value.cells, D.len]
  have := Go.Great.fill_whole D.pos [Value.agg (D.dec s).toArray] ((Array.range (1 * D.c)).map (z.cells[· % z.cells.size]!)) (by intro v hv; simp at hv; subst hv; exact hsz) (by simp)
  simpa [hx, Value.cells] using this
end
def DF : Dec Fr := ⟨Fr.cells, 12, by decide, fun f => by simp [Fr.cells, f.hdata], fun f u hu => by
  have := f.one
  rw [Array.all_eq_true_iff_forall_mem] at this
  exact this u (by simpa [Fr.arr] using hu)⟩
end Go.Proofs.Ytfddoindcmdooaa
