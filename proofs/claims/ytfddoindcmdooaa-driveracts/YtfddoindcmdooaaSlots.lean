/- Slices that came in, whatever their elements; append to rows of the call's own; runes as texts. -/
import Derived.Test.YtfddoindcmdooaaOne
import Derived.Laws.Cover4
namespace Go.Proofs.Ytfddoindcmdooaa
open Go.RowKit Go.Proofs.Bits
set_option linter.unusedVariables false
set_option maxRecDepth 1000000

/-- A slice that came in: nil, or cells in an old block (where there is none, whatever address). -/
def Slots (w : World) (v : Value) (cs : List Value) : Prop :=
  ∃ ao cap, v = .slice ao cs.length cap ∧ (ao = none → cs = [] ∧ cap = 0) ∧ ∀ k (h : k < cs.length), ∃ b off, ao = some ⟨b, off, none⟩ ∧ b < w.heap.size ∧ w.cell? ⟨b, off + k, none⟩ = some cs[k]
theorem Slots.below {w w' : World} {v : Value} {cs : List Value} (h : Slots w v cs) (hb : Below w.heap.size w w') : Slots w' v cs := by
  obtain ⟨ao, cap, hv, h0, hc⟩ := h
  refine ⟨ao, cap, hv, h0, fun k hk => ?_⟩
  obtain ⟨b, off, ha, hlt, hcell⟩ := hc k hk
  exact ⟨b, off, ha, Nat.lt_of_lt_of_le hlt hb.size, (hb.cell (p := ⟨b, off + k, none⟩) hlt).trans hcell⟩
/-- The same, element by element, in whatever later world. -/
theorem Slots.map {α : Type} {f : α → Value} {w : World} {v : Value} {xs : List α} (h : Slots w v (xs.map f)) :
    ∃ ao cap, v = .slice ao xs.length cap ∧ ∀ (wr : World), Below w.heap.size w wr → ∀ k (h : k < xs.length), ∃ b off, ao = some ⟨b, off, none⟩ ∧ wr.cell? ⟨b, off + k, none⟩ = some (f xs[k]) := by
  obtain ⟨ao, cap, hv, _, hat⟩ := h
  refine ⟨ao, cap, by rw [hv, List.length_map], fun wr hbw k hk => ?_⟩
  obtain ⟨b, off, ha, hlt, hcell⟩ := hat k (by rw [List.length_map]; exact hk)
  refine ⟨b, off, ha, ?_⟩
  rw [hbw.cell (p := ⟨b, off + k, none⟩) hlt, hcell]
  simp
theorem slots_of_own {w : World} {B : Nat} {e : TypeId} {v : Value} {cs : List Value} (h : w.ownsRow B e 1 v cs.length cs) : Slots w v cs := by
  rcases h.2 with ⟨rfl, h0⟩ | ⟨g, cap, cur, rfl, hg, hcur, h1, h2, h3, h4⟩
  · obtain rfl := List.length_eq_zero_iff.1 h0
    exact ⟨none, 0, rfl, fun _ => ⟨rfl, rfl⟩, fun k hk => by simp at hk⟩
  · refine ⟨some ⟨g, 0, none⟩, cap, rfl, (fun h => by cases h), fun k hk => ⟨g, 0, rfl, (Array.getElem?_eq_some_iff.1 hcur).1, ?_⟩⟩
    rw [Lib.cell_of_heap hcur, Nat.zero_add]
    have e : cs[k]? = cur.toList[k]? := by
      rw [← h4, List.getElem?_take, if_pos (by omega)]
    rw [List.getElem?_eq_getElem hk] at e
    rw [e]; simp
theorem own_empty_at (w : World) (e : TypeId) : (w.alloc (.cells #[] e)).ownsRow w.heap.size e 1 (.slice (some ⟨w.heap.size, 0, none⟩) 0 0) 0 [] := by
  refine ⟨rfl, .inr ⟨w.heap.size, 0, #[], rfl, Nat.le_refl _, ?_, Nat.le_refl _, by decide, rfl, rfl⟩⟩
  show (w.heap.push _)[w.heap.size]? = _
  simp
/-- append of a slice that came in to a row of the call's own, guarded or not. -/
theorem append_slots {w : World} {ops : Array Oper} {rest : List Oper} {o : Oper} {a : Act} {Q : Exit → Act → World → Prop} (hgd : Region.wanted o (yielded ops a.tmps) = true) (s x : Operand) (t e : TypeId) (z : Value) (bytes : Nat)
    (ht : Try.prog.underlying t = some (.slice e)) (hinfo : (Try.prog.info? e).map (fun i => (i.zero, i.size, i.bytes)) = some (some z, 1, bytes)) (hzs : z.cells.size = 1)
    (ho : o.op = .call { callee := .builtin .append, args := #[s, x], argTypes := #[t, t] })
    (base : Nat) (v : Value) (xs : List Value) (hs : a.eval s = v) (hown : w.ownsRow base e 1 v xs.length xs)
    (vx : Value) (l : List Value) (hx : a.eval x = vx) (hB : Slots w vx l) (hone : ∀ u ∈ l, u.oneCell' = true) (h63 : xs.length + l.length ≤ maxLen) (hbytes : (xs.length + l.length) * bytes ≤ 140737488355328) (hbase : base ≤ w.heap.size)
    (h : ∀ v' w', w'.ownsRow base e 1 v' (xs ++ l).length (xs ++ l) → w.grownBy w' v.ownBlock → (v ≠ .slice none 0 0 → v' ≠ .slice none 0 0) → wpList Try.prog ops Q rest (a.put o.dst v') w') : wpList Try.prog ops Q (o :: rest) a w := by
  obtain ⟨i0, hi, hz0, hz1, hz2⟩ := info_parts hinfo
  obtain ⟨ao, cap, rfl, h0, hc⟩ := hB
  cases ao with
  | none =>
    obtain ⟨rfl, rfl⟩ := h0 rfl
    refine BigFrame.wpList_want hgd fun K hK => ?_
    have hrun := run_append_owned_none (P := Try.prog) (w := w) base t o.type e i0 1 ht hi v xs.length xs hown
    unfold Oper.wp
    simp only [List.length_nil] at hx
    simp [execOp, ho, resolve, invoke, builtin, hs, hx, hrun, Result.andThen]
    refine hK _ _ (h _ _ ?_ (grown_refl _ _) id)
    simpa using hown
  | some ad =>
    refine BigFrame.wpList_want hgd fun _ hK => wp_append_own w s x t ho base e i0 z 1 bytes ht hi hz0 hz1 hz2 hzs (by decide) v xs.length xs hs hown ad l.length cap l hx (by simp) ?_ hone h63 hbytes hbase ?_
    · intro j u hj
      have hlt : j < l.length := (List.getElem?_eq_some_iff.1 hj).1
      obtain ⟨b, off, ha, _, hcell⟩ := hc j hlt
      simp at ha
      subst ha
      rw [add_off, hcell, ← List.getElem?_eq_getElem hlt, hj]
    · intro v' w' h1 h2 h3
      refine hK _ _ (h v' w' ?_ h2 ?_)
      · rw [List.length_append]; exact h1
      · intro hn e; exact hn (h3.1 e).1
theorem own_set {w : World} {B : Nat} {e : TypeId} {g n cap : Nat} {cs : List Value} (h : w.ownsRow B e 1 (.slice (some ⟨g, 0, none⟩) n cap) n cs) (k : Nat) (v : Value) : (w.setCell ⟨g, k, none⟩ v).ownsRow B e 1 (.slice (some ⟨g, 0, none⟩) n cap) n (cs.set k v) := by
  obtain ⟨hl, h⟩ := h
  refine ⟨by rw [List.length_set]; exact hl, ?_⟩
  rcases h with ⟨hv, _⟩ | ⟨g', cap', cur, hv, hg, hcur, h1, h2, h3, h4⟩
  · cases hv
  · simp at hv
    obtain ⟨rfl, rfl⟩ := hv
    refine .inr ⟨g, cap, cur.setIfInBounds k v, rfl, hg, ?_, h1, h2, by simpa using h3, ?_⟩
    · simp [World.setCell, Array.getElem?_modify, hcur]
    · rw [Array.toList_setIfInBounds, List.take_set, h4]

theorem encode_ascii (n : Nat) (h : n < 128) : Utf8.encode (n : Int) = ⟨#[n.toUInt8]⟩ := by
  unfold Utf8.encode
  have h1 : Utf8.valid (n : Int) = true := by rw [validRune_eq]; simp [validRune]; omega
  simp [h1]
  omega
theorem runesBytes_ascii (l : List UInt8) (h : ∀ c ∈ l, c.toNat < 128) : runesBytes (l.map fun c => (c.toNat : Int)) = ⟨l.toArray⟩ := by
  unfold runesBytes
  suffices ∀ (r : ByteArray), (l.map fun c => (c.toNat : Int)).foldl (fun r n => r ++ Utf8.encode n) r = ⟨r.data ++ l.toArray⟩ by
    rw [this]
    apply ByteArray.ext
    simp
  induction l with
  | nil => intro r; simp
  | cons c l ih =>
    intro r
    rw [List.map_cons, List.foldl_cons, ih (fun d hd => h d (List.mem_cons_of_mem _ hd)), encode_ascii _ (h c (by simp))]
    apply ByteArray.ext
    simp
def runeCells (l : List UInt8) : List Value := l.map fun c => Value.int .i32 c.toNat
theorem runeCells_length (l : List UInt8) : (runeCells l).length = l.length := by simp [runeCells]
end Go.Proofs.Ytfddoindcmdooaa
