/- The document's wheel in memory. -/
import Derived.Test.YtjkkclojidhgdaaWActs
import Derived.Test.YtjkkclojidhgdaaW26
import Derived.Great.FillDense
import Derived.Great.BuildSlice
namespace Go.Proofs.Ytjkkclojidhgdaa
open Go.RowKit Go.Maps Go.WideMaps
set_option linter.unusedVariables false
set_option maxRecDepth 1000000
set_option linter.unusedSimpArgs false
theorem grown_refl (w : World) (row : Option Nat) : w.grownBy w row := ⟨rfl, rfl, rfl, Nat.le_refl _, fun _ _ _ => rfl⟩
theorem grown_trans {w x y : World} {r : Option Nat} (h1 : w.grownBy x r) (h2 : x.grownBy y r) : w.grownBy y r :=
  ⟨h2.os.trans h1.os, h2.tape.trans h1.tape, h2.output.trans h1.output, Nat.le_trans h1.size h2.size, fun k hk hne => (h2.block k (Nat.lt_of_lt_of_le hk h1.size) hne).trans (h1.block k hk hne)⟩
theorem gb_any {w w' : World} (hb : Below w.heap.size w w') (r : Option Nat) : w.grownBy w' r := ⟨hb.os, hb.tape, hb.output, hb.size, fun k hk _ => hb.block k hk⟩
theorem own_shape5 {w : World} {B : Nat} {e : TypeId} {c : Nat} {v : Value} {n : Nat} {xs : List Value} (h : w.ownsRow B e c v n xs) : ∃ ao cap, v = .slice ao n cap := by
  rcases h.2 with ⟨rfl, rfl⟩ | ⟨g', cap, cur, rfl, hB, hcur, _⟩
  · exact ⟨_, _, rfl⟩
  · exact ⟨_, _, rfl⟩
theorem own_of {w : World} {B : Nat} {e : TypeId} {c n : Nat} {v : Value} {xs : List Value} (h : w.ownsRow B e c v n xs) {g : Nat} (hg : v.ownBlock = some g) : B ≤ g ∧ ∃ cur, w.heap[g]? = some (.cells cur e (0, 0)) := by
  rcases h.2 with ⟨rfl, _⟩ | ⟨g', cap, cur, rfl, hB, hcur, _⟩
  · cases hg
  · cases hg; exact ⟨hB, cur, hcur⟩
/-- How a struct's cells lie. -/
structure Dec (α : Type) where
  dec : α → List Value
  c : Nat
  pos : 0 < c
  len : ∀ a, (dec a).length = c
  one : ∀ a, ∀ u ∈ dec a, u.oneCell' = true
def flatW {α : Type} (D : Dec α) (l : List α) : List Value := l.flatMap D.dec
section
variable {α : Type} (D : Dec α)
theorem flatW_len (l : List α) : (flatW D l).length = l.length * D.c := by
  induction l with
  | nil => simp [flatW]
  | cons f r ih => rw [flatW, List.flatMap_cons, List.length_append, D.len, ← flatW, ih, List.length_cons, Nat.succ_mul]; omega
theorem flatW_get (l : List α) (k j : Nat) (hk : k < l.length) (hj : j < D.c) : (flatW D l)[k * D.c + j]? = (D.dec l[k])[j]? := by
  induction l generalizing k with
  | nil => simp at hk
  | cons f r ih =>
    rw [flatW, List.flatMap_cons, ← flatW]
    match k, hk with
    | 0, _ => rw [List.getElem?_append_left (by rw [D.len]; omega)]; simp
    | k + 1, hk =>
      rw [List.getElem?_append_right (by rw [D.len, Nat.succ_mul]; omega), D.len, show (k + 1) * D.c + j - D.c = k * D.c + j by rw [Nat.succ_mul]; omega, ih k (by simpa using hk)]
      simp
theorem flatW_one (l : List α) : ∀ u ∈ flatW D l, u.oneCell' = true := by
  intro u hu
  obtain ⟨f, _, hf⟩ := List.mem_flatMap.1 hu
  exact D.one f u hf
theorem flatW_append (l m : List α) : flatW D (l ++ m) = flatW D l ++ flatW D m := by simp [flatW]
theorem wide_of_own {w : World} {B : Nat} {e : TypeId} {v : Value} {l : List α} (h : w.ownsRow B e D.c v l.length (flatW D l)) : Wide D.c D.dec w v l := by
  rcases h.2 with ⟨rfl, h0⟩ | ⟨g, cap, cur, rfl, hg, hcur, h1, h2, h3, h4⟩
  · obtain rfl := List.length_eq_zero_iff.1 h0
    exact ⟨none, 0, rfl, fun _ => ⟨rfl, rfl⟩, fun k hk => by simp at hk⟩
  · refine ⟨some ⟨g, 0, none⟩, cap, rfl, (fun h => by cases h), fun k hk => ⟨g, 0, rfl, (Array.getElem?_eq_some_iff.1 hcur).1, ?_⟩⟩
    intro j u hj
    have hjl : j < D.c := by have := (List.getElem?_eq_some_iff.1 hj).1; rw [D.len] at this; exact this
    have hlt : k * D.c + j < l.length * D.c := by
      have : (k + 1) * D.c ≤ l.length * D.c := Nat.mul_le_mul_right _ hk
      rw [Nat.succ_mul] at this; omega
    rw [Lib.cell_of_heap hcur, Nat.zero_add, ← hj, ← flatW_get D l k j hk hjl, ← h4, List.getElem?_take, if_pos hlt]
    simp
theorem own_empty_e (w : World) (e : TypeId) (c : Nat) : (w.alloc (.cells #[] e)).ownsRow w.heap.size e c (.slice (some ⟨w.heap.size, 0, none⟩) 0 0) 0 [] := by
  refine ⟨by simp, .inr ⟨w.heap.size, 0, #[], rfl, Nat.le_refl _, heap_alloc_new w _, Nat.le_refl _, by decide, by simp, by simp⟩⟩
theorem wide_new (w : World) (x : α) (e : TypeId) : Wide D.c D.dec (w.alloc (.cells (D.dec x).toArray e)) (.slice (some ⟨w.heap.size, 0, none⟩) 1 1) [x] := by
  refine ⟨some ⟨w.heap.size, 0, none⟩, 1, rfl, (fun h => by cases h), fun k hk => ⟨w.heap.size, 0, rfl, by rw [size_alloc]; omega, ?_⟩⟩
  obtain rfl : k = 0 := by simp at hk; exact hk
  intro j v hj
  rw [Lib.cell_of_heap (heap_alloc_new w _)]
  simpa using hj
theorem one_bs {w : World} {ops : Array Oper} {rest : List Oper} {o : Oper} {a : Act} {Q : Exit → Act → World → Prop} (s : α) (t e : TypeId) (z : Value) (bytes : Nat) (hgd : o.guard = none) (x : Operand) (ho : o.op = .buildSlice t 1 #[(0, x)]) (hx : a.eval x = .agg (D.dec s).toArray)
    (ht : Try.prog.underlying t = some (.slice e)) (hinfo : (Try.prog.info? e).map (fun i => (i.zero, i.size, i.bytes)) = some (some z, D.c, bytes)) (hsmall : D.c ≤ 1000)
    (h : wpList Try.prog ops Q rest (a.put o.dst (.slice (some ⟨w.heap.size, 0, none⟩) 1 1)) (w.alloc (.cells (D.dec s).toArray e))) : wpList Try.prog ops Q (o :: rest) a w := by
  obtain ⟨i0, hi, hz0, hz1, hz2⟩ := info_parts hinfo
  refine wpList_buildSlice hgd t e 1 _ ho (D.dec s).toArray i0 z ht hi hz0 (by rw [hz1]; omega) (by rw [hz1]; have := D.pos; omega) ?_ h
  rw [hz1]
  have hsz : (Value.agg (D.dec s).toArray).cells.size = D.c := by simp [Value.cells, D.len]
  have := Go.Great.fill_whole D.pos [Value.agg (D.dec s).toArray] ((Array.range (1 * D.c)).map (z.cells[· % z.cells.size]!)) (by intro v hv; simp at hv; subst hv; exact hsz) (by simp)
  simpa [hx, Value.cells] using this
end
theorem wp_append_wide {α : Type} (D : Dec α) {w : World} {o : Oper} {a : Act} {K : Act → World → Prop} {Q : Exit → Act → World → Prop} (s x : Operand) (t e : TypeId) (z : Value) (bytes : Nat)
    (ht : Try.prog.underlying t = some (.slice e)) (hinfo : (Try.prog.info? e).map (fun i => (i.zero, i.size, i.bytes)) = some (some z, D.c, bytes)) (hzs : z.cells.size = D.c)
    (ho : o.op = .call { callee := .builtin .append, args := #[s, x], argTypes := #[t, t] })
    (base : Nat) (v : Value) (xs : List α) (hs : a.eval s = v) (hown : w.ownsRow base e D.c v xs.length (flatW D xs))
    (vx : Value) (l : List α) (hx : a.eval x = vx) (hB : Wide D.c D.dec w vx l) (h63 : xs.length + l.length ≤ maxLen) (hbytes : (xs.length + l.length) * bytes ≤ 140737488355328) (hbase : base ≤ w.heap.size)
    (h : ∀ v' w', w'.ownsRow base e D.c v' (xs ++ l).length (flatW D (xs ++ l)) → w.grownBy w' v.ownBlock → K (a.put o.dst v') w') : o.wp Try.prog a w K Q := by
  obtain ⟨i0, hi, hz0, hz1, hz2⟩ := info_parts hinfo
  obtain ⟨ao, cap, rfl, h0, hc⟩ := hB
  cases ao with
  | none =>
    obtain ⟨rfl, rfl⟩ := h0 rfl
    have hrun := run_append_owned_none (P := Try.prog) (w := w) base t o.type e i0 D.c ht hi v xs.length (flatW D xs) hown
    unfold Oper.wp
    simp only [List.length_nil] at hx
    simp [execOp, ho, resolve, invoke, builtin, hs, hx, hrun, Result.andThen]
    refine h _ _ ?_ (grown_refl _ _)
    simpa using hown
  | some ad =>
    refine wp_append_own w s x t ho base e i0 z D.c bytes ht hi hz0 hz1 hz2 hzs D.pos v xs.length (flatW D xs) hs hown ad l.length cap (flatW D l) hx (flatW_len D l) ?_ (flatW_one D l) h63 hbytes hbase ?_
    · intro j u hj
      have hlt : j < l.length * D.c := by have := (List.getElem?_eq_some_iff.1 hj).1; rw [flatW_len] at this; exact this
      have hdm := Nat.div_add_mod j D.c
      rw [Nat.mul_comm] at hdm
      have hk : j / D.c < l.length := Nat.div_lt_of_lt_mul (by rw [Nat.mul_comm]; exact hlt)
      have hm : j % D.c < D.c := Nat.mod_lt _ D.pos
      obtain ⟨b, off, ha, _, hR⟩ := hc (j / D.c) hk
      simp only [Option.some.injEq] at ha
      subst ha
      have hg := flatW_get D l (j / D.c) (j % D.c) hk hm
      rw [hdm] at hg
      rw [hj] at hg
      have := hR (j % D.c) u hg.symm
      rw [Addr.add_mid]
      rw [Nat.add_assoc, hdm] at this
      exact this
    · intro v' w' h1 h2 _
      refine h v' w' ?_ h2
      rw [flatW_append, List.length_append]
      exact h1
/-- A row that is only read, its block's type, its room. -/
structure RT (T c : Nat) {α : Type} (dec : α → List Value) (w : World) (v : Value) (l : List α) : Prop where
  wide : Wide c dec w v l
  typ : ∀ b, v.ownBlock = some b → ∃ A fr, w.heap[b]? = some (.cells A T fr)
  cap : ∀ ao n k, v = .slice ao n k → n ≤ k
theorem Wide.same {c : Nat} {α : Type} {dec : α → List Value} {w w' : World} {v : Value} {l : List α} (h : Wide c dec w v l) (hs : w.heap.size ≤ w'.heap.size) (hb : ∀ b, v.ownBlock = some b → b < w.heap.size → w'.heap[b]? = w.heap[b]?) : Wide c dec w' v l := by
  obtain ⟨ao, cap, rfl, h0, hc⟩ := h
  refine ⟨ao, cap, rfl, h0, fun k hk => ?_⟩
  obtain ⟨b, off, ha, hlt, hr⟩ := hc k hk
  refine ⟨b, off, ha, by omega, fun j u hj => ?_⟩
  have := hb b (by rw [ha]; rfl) hlt
  exact (World.cell?_of_block (a := ⟨b, off + k * c + j, none⟩) this).trans (hr j u hj)
theorem RT.same {T c : Nat} {α : Type} {dec : α → List Value} {w w' : World} {v : Value} {l : List α} (h : RT T c dec w v l) (hs : w.heap.size ≤ w'.heap.size) (hb : ∀ b A fr, v.ownBlock = some b → w.heap[b]? = some (.cells A T fr) → w'.heap[b]? = w.heap[b]?) : RT T c dec w' v l := by
  have hb' : ∀ b, v.ownBlock = some b → b < w.heap.size → w'.heap[b]? = w.heap[b]? := fun b e _ => by
    obtain ⟨A, fr, h1⟩ := h.typ b e
    exact hb b A fr e h1
  refine ⟨h.wide.same hs hb', fun b e => ?_, h.cap⟩
  obtain ⟨A, fr, h1⟩ := h.typ b e
  exact ⟨A, fr, (hb b A fr e h1).trans h1⟩
theorem RT.below {T c : Nat} {α : Type} {dec : α → List Value} {w w' : World} {v : Value} {l : List α} (h : RT T c dec w v l) (hb : Below w.heap.size w w') : RT T c dec w' v l :=
  h.same hb.size (fun b A fr _ h1 => hb.block b (Array.getElem?_eq_some_iff.1 h1).1)
theorem RT.grown {T c q : Nat} {α : Type} {dec : α → List Value} {w w' : World} {v : Value} {l : List α} (h : RT T c dec w v l) (hg : w.grownBy w' (some q)) (hq : v.ownBlock ≠ some q) : RT T c dec w' v l :=
  h.same hg.size (fun b A fr e h1 => hg.block b (Array.getElem?_eq_some_iff.1 h1).1 (fun e' => hq (e.trans e')))
theorem RT.ne {T c q : Nat} {α : Type} {dec : α → List Value} {w : World} {v : Value} {l : List α} (h : RT T c dec w v l) {A : Array Value} {T' : Nat} {fr : Nat × Nat} (hq : w.heap[q]? = some (.cells A T' fr)) (ht : T ≠ T') : v.ownBlock ≠ some q := fun e => by
  obtain ⟨A', fr', h1⟩ := h.typ q e
  rw [hq] at h1
  simp at h1
  exact ht h1.2.1.symm
theorem RT.nil (T c : Nat) {α : Type} (dec : α → List Value) (w : World) : RT T c dec w (.slice none 0 0) [] :=
  ⟨⟨none, 0, rfl, fun _ => ⟨rfl, rfl⟩, fun k hk => by simp at hk⟩, (fun b e => by cases e), (fun ao n k e => by cases e; omega)⟩
theorem RT.own {α : Type} (D : Dec α) {T B : Nat} {w : World} {v : Value} {l : List α} (h : w.ownsRow B T D.c v l.length (flatW D l)) : RT T D.c D.dec w v l := by
  refine ⟨wide_of_own D h, fun b e => ?_, fun ao n k e => ?_⟩
  · obtain ⟨_, cur, hc⟩ := own_of h e
    exact ⟨cur, _, hc⟩
  · rcases h.2 with ⟨rfl, _⟩ | ⟨g, cap, cur, rfl, hB, hcur, h1, _⟩
    · cases e; omega
    · cases e; exact h1
theorem Wide.at0 {c : Nat} {α : Type} {dec : α → List Value} {w : World} {v : Value} {l : List α} (h : Wide c dec w v l) (k : Nat) (hk : k < l.length) : ∃ b off cap, v = .slice (some ⟨b, off, none⟩) l.length cap ∧ b < w.heap.size ∧ w.rangeAt b (off + k * c) (dec l[k]) := by
  obtain ⟨ao, cap, rfl, h0, hc⟩ := h
  obtain ⟨b, off, rfl, hlt, hr⟩ := hc k hk
  exact ⟨b, off, cap, rfl, hlt, hr⟩
theorem Wide.shape {c : Nat} {α : Type} {dec : α → List Value} {w : World} {v : Value} {l : List α} (h : Wide c dec w v l) : ∃ ao cap, v = .slice ao l.length cap := by
  obtain ⟨ao, cap, rfl, _⟩ := h
  exact ⟨ao, cap, rfl⟩
theorem wp_bs0g {t e : TypeId} {z : Value} {c y : Nat} (hu : Try.prog.underlying t = some (.slice e)) (hinfo : (Try.prog.info? e).map (fun i => (i.zero, i.size, i.bytes)) = some (some z, c, y)) {o : Oper} {a : Act} {w : World} {K : Act → World → Prop} {Q : Exit → Act → World → Prop} (ho : o.op = .buildSlice t 0 #[]) (h : K (a.put o.dst (.slice (some ⟨w.heap.size, 0, none⟩) 0 0)) (w.alloc (.cells #[] e))) : o.wp Try.prog a w K Q := by
  obtain ⟨i0, hi0, hz0, hz1, hz2⟩ := info_parts hinfo
  unfold Oper.wp execOp
  simp [ho, Instr.buildSlice, go_sem, run_underlying hu, zeroValue, sizeOf, typeInfo, hi0, hz0, hz1, Instr.fill]
  exact h
theorem own_lower {w : World} {B B' : Nat} {e : TypeId} {c n : Nat} {v : Value} {xs : List Value} (h : w.ownsRow B e c v n xs) (hB : B' ≤ B) : w.ownsRow B' e c v n xs :=
  ⟨h.1, h.2.imp id (fun ⟨g, cap, cur, e1, e2, e3⟩ => ⟨g, cap, cur, e1, by omega, e3⟩)⟩
/-- A timer of the document. -/
structure Dt where
  no : Nat
  left : Nat
  per : Nat
  what : Int
def Dt.nul : Dt := ⟨0, 0, 0, 0⟩
def dtC (t : Dt) : List Value := [.int .i64 t.no, .int .u64 t.left, .int .u64 t.per, .int .i64 t.what]
def DT : Dec Dt := ⟨dtC, 4, by decide, fun t => rfl, fun t u hu => by simp [dtC] at hu; rcases hu with rfl | rfl | rfl | rfl <;> rfl⟩
theorem infoT : (Try.prog.info? 59).map (fun i => (i.zero, i.size, i.bytes)) = some (some (.agg (dtC Dt.nul).toArray), 4, 32) := by kernel_rfl
theorem infoT4 : (Try.prog.info? 59).map (·.size) = some 4 := by kernel_rfl
theorem load_tms (x : World) (D k : Nat) (ao : Option Addr) (l c : Nat) (hc : x.cell? ⟨D, k, none⟩ = some (.slice ao l c)) : (loadVar 29 ⟨D, k, none⟩).run Try.prog x = .ok (.slice ao l c) x := by
  simp [go_sem, run_underlying Try.underlying29, hc]
theorem store_tms (x : World) (D k : Nat) (u : Value) (ao : Option Addr) (l c : Nat) (hc : x.cell? ⟨D, k, none⟩ = some u) (hf : x.frozen? ⟨D, k, none⟩ = false) : (storeVar 29 ⟨D, k, none⟩ (.slice ao l c)).run Try.prog x = .ok () (x.setCell ⟨D, k, none⟩ (.slice ao l c)) := by
  simp [go_sem, run_underlying Try.underlying29, hc, hf]
/-- The first k of a row. -/
theorem rm_take {w : World} {v : Value} {l : List Dt} (h : RT 59 4 dtC w v l) (k : Nat) (hk : k ≤ l.length) : ∃ v1, (∀ W, (Instr.sliceAt 29 v none (some (.int .i64 k)) none).run Try.prog W = .ok v1 W) ∧ ∀ x, Wide 4 dtC x v l → Wide 4 dtC x v1 (l.take k) := by
  obtain ⟨i0, hi, hz0, hz1, hz2⟩ := info_parts infoT
  obtain ⟨ao, cap, rfl⟩ := h.wide.shape
  have hcap := h.cap _ _ _ rfl
  have a0 : (0 : Int) ≤ (k : Int) := by omega
  have a1 : (k : Int) ≤ (cap : Int) := by omega
  cases ao with
  | none =>
    obtain ⟨ao', cap', hv, h0, _⟩ := h.wide
    injection hv with e1 _ e3
    obtain ⟨rfl, rfl⟩ := h0 e1.symm
    subst e3
    have : k = 0 := by simpa using hk
    subst this
    refine ⟨.slice none 0 0, fun W => ?_, fun x hx => by simpa using hx⟩
    simp [Instr.sliceAt, run_underlying Try.underlying29, go_sem, sizeOf, typeInfo, hi, hz1, Addr.add]
  | some a =>
    refine ⟨.slice (some a) k cap, fun W => ?_, fun x hx => ?_⟩
    · simp [Instr.sliceAt, run_underlying Try.underlying29, go_sem, sizeOf, typeInfo, hi, hz1, Addr.add, a0, a1]
    · obtain ⟨ao', cap', hv, h0, hc⟩ := hx
      injection hv with e1 _ e3
      subst e1 e3
      refine ⟨_, _, by rw [List.length_take, Nat.min_eq_left hk], (fun h => by cases h), fun j hj => ?_⟩
      rw [List.length_take] at hj
      obtain ⟨b, off, e, hlt, hr⟩ := hc j (by omega)
      refine ⟨b, off, e, hlt, ?_⟩
      rw [List.getElem_take]; exact hr
/-- What is behind the first k of a row. -/
theorem rm_drop {w : World} {v : Value} {l : List Dt} (h : RT 59 4 dtC w v l) (k : Nat) (hk : k ≤ l.length) : ∃ v1, (∀ W, (Instr.sliceAt 29 v (some (.int .i64 k)) none none).run Try.prog W = .ok v1 W) ∧ ∀ x, Wide 4 dtC x v l → Wide 4 dtC x v1 (l.drop k) := by
  obtain ⟨i0, hi, hz0, hz1, hz2⟩ := info_parts infoT
  obtain ⟨ao, cap, rfl⟩ := h.wide.shape
  have hcap := h.cap _ _ _ rfl
  have a0 : (0 : Int) ≤ (k : Int) := by omega
  have a1 : (k : Int) ≤ (l.length : Int) := by omega
  have a2 : (l.length : Int) ≤ (cap : Int) := by omega
  cases ao with
  | none =>
    obtain ⟨ao', cap', hv, h0, _⟩ := h.wide
    injection hv with e1 _ e3
    obtain ⟨rfl, rfl⟩ := h0 e1.symm
    subst e3
    have : k = 0 := by simpa using hk
    subst this
    refine ⟨.slice none 0 0, fun W => ?_, fun x hx => by simpa using hx⟩
    simp [Instr.sliceAt, run_underlying Try.underlying29, go_sem, sizeOf, typeInfo, hi, hz1, Addr.add]
  | some a =>
    refine ⟨.slice (some (if cap = k then a else if k * 4 = 0 then a else ⟨a.block, a.off + k * 4, none⟩)) (l.length - k) (cap - k), fun W => ?_, fun x hx => ?_⟩
    · simp [Instr.sliceAt, run_underlying Try.underlying29, go_sem, sizeOf, typeInfo, hi, hz1, Addr.add, a0, a1, a2]
      split <;> rfl
    · obtain ⟨ao', cap', hv, h0, hc⟩ := hx
      injection hv with e1 _ e3
      subst e1 e3
      refine ⟨_, _, by rw [List.length_drop], (fun h => by cases h), fun j hj => ?_⟩
      rw [List.length_drop] at hj
      obtain ⟨b, off, e, hlt, hr⟩ := hc (k + j) (by omega)
      injection e with e
      subst e
      rw [if_neg (by omega)]
      by_cases hk0 : k * 4 = 0
      · rw [if_pos hk0]
        refine ⟨b, off, rfl, hlt, ?_⟩
        have : k = 0 := by omega
        subst this
        simpa using hr
      · rw [if_neg hk0]
        refine ⟨b, off + k * 4, rfl, hlt, ?_⟩
        rw [List.getElem_drop, show off + k * 4 + j * 4 = off + (k + j) * 4 by omega]
        exact hr
theorem dt_cells {w : World} {b o : Nat} {t : Dt} (h : w.rangeAt b o (dtC t)) : w.cell? ⟨b, o, none⟩ = some (.int .i64 t.no) ∧ w.cell? ⟨b, o + 1, none⟩ = some (.int .u64 t.left) ∧ w.cell? ⟨b, o + 2, none⟩ = some (.int .u64 t.per) ∧ w.cell? ⟨b, o + 3, none⟩ = some (.int .i64 t.what) :=
  ⟨h 0 _ rfl, h 1 _ rfl, h 2 _ rfl, h 3 _ rfl⟩
/-- The document's wheel lies at E. -/
structure Xw (E : Nat) (l : List Dt) (now last : Nat) (v : Value) (w : World) : Prop where
  head : w.heap[E]? = some (.cells #[v, .int .u64 now, .int .i64 last] 32 (0, 0))
  row : RT 59 4 dtC w v l
  len : l.length ≤ 1024
theorem Xw.lt {E : Nat} {l : List Dt} {now last : Nat} {v : Value} {w : World} (h : Xw E l now last v w) : E < w.heap.size := (Array.getElem?_eq_some_iff.1 h.head).1
theorem Xw.c {E : Nat} {l : List Dt} {now last : Nat} {v : Value} {w : World} (h : Xw E l now last v w) : w.cell? ⟨E, 0, none⟩ = some v ∧ w.cell? ⟨E, 1, none⟩ = some (.int .u64 now) ∧ w.cell? ⟨E, 2, none⟩ = some (.int .i64 last) :=
  ⟨by rw [Lib.cell_of_heap h.head]; rfl, by rw [Lib.cell_of_heap h.head]; rfl, by rw [Lib.cell_of_heap h.head]; rfl⟩
theorem Xw.below {E : Nat} {l : List Dt} {now last : Nat} {v : Value} {w w' : World} (h : Xw E l now last v w) (hb : Below w.heap.size w w') : Xw E l now last v w' :=
  ⟨(hb.block E h.lt).trans h.head, h.row.below hb, h.len⟩
theorem Xw.frozen {E : Nat} {l : List Dt} {now last : Nat} {v : Value} {w : World} (h : Xw E l now last v w) (k : Nat) : w.frozen? ⟨E, k, none⟩ = false := Lib.frozen_of_heap h.head _
/-- A cell of the document's wheel is written. -/
theorem Xw.set {E : Nat} {l : List Dt} {now last : Nat} {v : Value} {w : World} (h : Xw E l now last v w) {k : Nat} {u : Value} {l' : List Dt} {now' last' : Nat} {v' : Value} (hA : (#[v, .int .u64 now, .int .i64 last] : Array Value).setIfInBounds k u = #[v', .int .u64 now', .int .i64 last']) (hr : RT 59 4 dtC w v' l') (hl : l'.length ≤ 1024) :
    Xw E l' now' last' v' (w.setCell ⟨E, k, none⟩ u) ∧ w.grownBy (w.setCell ⟨E, k, none⟩ u) (some E) := by
  have hg : w.grownBy (w.setCell ⟨E, k, none⟩ u) (some E) := ⟨rfl, rfl, rfl, by simp [World.setCell], fun j hj hne => Below.heap_setCell w ⟨E, k, none⟩ u j (fun e => hne (by rw [show j = E from e]))⟩
  refine ⟨⟨?_, hr.grown hg (hr.ne h.head (by decide)), hl⟩, hg⟩
  have hh := h.head
  simp only [World.setCell, Array.getElem?_modify, hh]
  simp [hA]
theorem toHid2 {p : Prop} (h : p) : Hid p := h
theorem within_any (a : Nat) (w : World) : Calls Try.prog 32 #[.int .u64 a] w fun e w' => e = .returned (.bool (decide (1 ≤ a ∧ a ≤ 4294967296))) ∧ w' = w := by
  by_cases h1 : 1 ≤ a
  · have d1 : decide ((1 : Int) ≤ (a : Int)) = true := by simp; omega
    by_cases h2 : a ≤ 4294967296
    · have d2 : decide ((a : Int) ≤ 4294967296) = true := by simp; omega
      rw [decide_eq_true (show 1 ≤ a ∧ a ≤ 4294967296 from ⟨h1, h2⟩)]
      go_enter Try.func32, Try.ntmps32
      go_wp2
      go_ret
      exact ⟨rfl, rfl⟩
    · have d2 : decide ((a : Int) ≤ 4294967296) = false := by simp; omega
      rw [decide_eq_false (show ¬ (1 ≤ a ∧ a ≤ 4294967296) from fun h => h2 h.2)]
      go_enter Try.func32, Try.ntmps32
      go_wp2
      go_ret
      exact ⟨rfl, rfl⟩
  · have d1 : decide ((1 : Int) ≤ (a : Int)) = false := by simp; omega
    rw [decide_eq_false (show ¬ (1 ≤ a ∧ a ≤ 4294967296) from fun h => h1 h.1)]
    go_enter Try.func32, Try.ntmps32
    go_wp2
    go_ret
    exact ⟨rfl, rfl⟩
/-- Where a timer lies in the document's list. -/
structure Fnd (l : List Dt) (no : Int) (k : Nat) : Prop where
  lt : k < l.length
  at' : (l[k].no : Int) = no
  ahead : ∀ j (hj : j < l.length), j < k → (l[j].no : Int) ≠ no
set_option maxHeartbeats 2000000 in
theorem Xfind_any {E : Nat} {l : List Dt} {now last : Nat} {v : Value} {w : World} (h : Xw E l now last v w) (no : Int) :
    Calls Try.prog 33 #[.pointer (some ⟨E, 0, none⟩), .int .i64 no] w fun e w' => w' = w ∧ ((∃ k : Nat, e = .returned (.int .i64 k) ∧ Fnd l no k) ∨ (e = .returned (.int .i64 (-1)) ∧ ∀ j (hj : j < l.length), (l[j].no : Int) ≠ no)) := by
  obtain ⟨c0, c1, c2⟩ := h.c
  obtain ⟨ao, cap, rfl⟩ := h.row.wide.shape
  have hlen := h.len
  have HW : Hid (Wide 4 dtC w (.slice ao l.length cap) l) := h.row.wide
  clear h
  go_enter Try.func33, Try.ntmps33
  go_wp2
  go_loopw [5] (fun i x => ∃ k : Nat, k ≤ l.length ∧ i = .int .i64 k ∧ x = w ∧ ∀ j (hj : j < l.length), j < k → (l[j].no : Int) ≠ no) (fun i _ => l.length - (intOf i).toNat)
  case atStart => exact ⟨0, by omega, rfl, rfl, fun j hj h => by omega⟩
  case round =>
    obtain ⟨k, hk, rfl, rfl, hA⟩ := hrel
    by_cases hkl : k < l.length
    · obtain ⟨b, off, cap', hv, hb, hR⟩ := HW.out.at0 k hkl
      have hao : ao = some ⟨b, off, none⟩ := by injection hv
      subst hao
      obtain ⟨d0, d1, d2, d3⟩ := dt_cells hR
      have HJ : Hid ((l[k].no : Int) ≠ no → ∀ j (hj : j < l.length), j < k + 1 → (l[j].no : Int) ≠ no) := by
        intro h2 j hj h1
        rcases Nat.lt_or_ge j k with h3 | h3
        · exact hA j hj h3
        · have : j = k := by omega
          subst this; exact h2
      have HF : Hid ((l[k].no : Int) = no → Fnd l no k) := fun e => ⟨hkl, e, hA⟩
      clear hv hA
      generalize (l[k].no : Int) = z at *
      by_cases hz : z = no
      · have hz2 : (z == no) = true := by simpa using hz
        have HF2 : Hid (Fnd l no k) := HF.out hz
        clear HJ HF hz hR
        go_wp2
        go_ret
        exact ⟨rfl, .inl ⟨k, rfl, HF2.out⟩⟩
      · have hz2 : (z == no) = false := by simpa using hz
        have HJ2 := toHid2 (HJ.out hz)
        clear HJ HF hz hR
        go_wp2
        go_roundw
        case rel => exact ⟨k + 1, by omega, by go_num, by trivial, HJ2.out⟩
        case measure => simp [intOf]; omega
    · have HF : Hid (∀ j (hj : j < l.length), (l[j].no : Int) ≠ no) := fun j hj => hA j hj (by omega)
      clear hA
      go_wp2
      go_ret
      exact ⟨rfl, .inr ⟨rfl, HF.out⟩⟩
set_option maxHeartbeats 2000000 in
theorem XLeft_any {E : Nat} {l : List Dt} {now last : Nat} {v : Value} {w : World} (h : Xw E l now last v w) (no : Int) :
    Calls Try.prog 22 #[.pointer (some ⟨E, 0, none⟩), .int .i64 no] w fun e w' => w' = w ∧ ((∃ k : Nat, ∃ h : k < l.length, e = .returned (.tuple #[.int .u64 l[k].left, .bool true]) ∧ Fnd l no k) ∨ (e = .returned (.tuple #[.int .u64 0, .bool false]) ∧ ∀ j (hj : j < l.length), (l[j].no : Int) ≠ no)) := by
  have hF := Xfind_any h no
  obtain ⟨c0, c1, c2⟩ := h.c
  obtain ⟨ao, cap, rfl⟩ := h.row.wide.shape
  have hlen := h.len
  have HW : Hid (Wide 4 dtC w (.slice ao l.length cap) l) := h.row.wide
  clear h
  go_enter Try.func22, Try.ntmps22
  go_wp2_with fail
  refine hF.mono ?_
  rintro e w1 ⟨rfl, ⟨k, rfl, f⟩ | ⟨rfl, f⟩⟩
  · have hkl := f.lt
    have HF : Hid (Fnd l no k) := f
    obtain ⟨b, off, cap', hv, hb, hR⟩ := HW.out.at0 k hkl
    have hao : ao = some ⟨b, off, none⟩ := by injection hv
    subst hao
    obtain ⟨d0, d1, d2, d3⟩ := dt_cells hR
    have hk0 : decide ((k : Int) < 0) = false := by simp
    clear hF hv f hR
    have HL : Hid (∃ z, l[k].left = z) := ⟨_, rfl⟩
    go_wp2
    go_ret2
    exact ⟨rfl, .inl ⟨k, hkl, rfl, HF.out⟩⟩
  · have HF : Hid (∀ j (hj : j < l.length), (l[j].no : Int) ≠ no) := f
    clear hF f
    go_wp2
    go_ret2
    exact ⟨rfl, .inr ⟨rfl, HF.out⟩⟩
end Go.Proofs.Ytjkkclojidhgdaa
