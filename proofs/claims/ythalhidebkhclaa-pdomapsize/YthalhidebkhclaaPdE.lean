/- A loop over an iterator that itself goes over another iterator. -/
import Derived.Test.YthalhidebkhclaaPdD
namespace Go.Proofs.Ythalhidebkhclaa
open Go.RowKit Go.Shelf Go.Proofs.Ty
set_option linter.unusedVariables false
set_option maxRecDepth 1000000
set_option linter.unusedSimpArgs false
/-- These blocks stay, and all from b on that are there. -/
structure Ka (bs : List Nat) (b : Nat) (A B : World) : Prop where
  old : Kb bs A B
  size : A.heap.size ≤ B.heap.size
  new : ∀ k, b ≤ k → k < A.heap.size → B.heap[k]? = A.heap[k]?
theorem Ka.trans {bs : List Nat} {b : Nat} {A B C : World} (h : Ka bs b A B) (k : Ka bs b B C) : Ka bs b A C := ⟨h.old.trans k.old, Nat.le_trans h.size k.size, fun j h1 h2 => (k.new j h1 (Nat.lt_of_lt_of_le h2 h.size)).trans (h.new j h1 h2)⟩
theorem Ka.below {bs : List Nat} {b : Nat} {A B : World} (h : Below A.heap.size A B) (hb : ∀ x ∈ bs, x < A.heap.size) : Ka bs b A B := ⟨fun x hx => h.block x (hb x hx), h.size, fun k _ h2 => h.block k h2⟩
theorem Ka.mono {bs : List Nat} {b c : Nat} {A B : World} (h : Ka bs b A B) (hbc : b ≤ c) : Ka bs c A B := ⟨h.old, h.size, fun k h1 h2 => h.new k (Nat.le_trans hbc h1) h2⟩
theorem Ka.put {bs : List Nat} {b k : Nat} (A : World) (o : Obj) (hb : ∀ x ∈ bs, x ≠ k) (hk : k < b) : Ka bs b A (A.putObj k o) := ⟨fun x hx => World.putObj_heap_other (hb x hx), by simp [World.putObj], fun j h1 h2 => World.putObj_heap_other (by omega)⟩
/-- What such an iterator does. -/
def SeqN (gf : Nat) (lb : Array Value) (encs : Nat → Array Value) (bs : List Nat) (N : Nat) (w : World) : Prop :=
  ∀ (l : Nat) (J Jx : Nat → World → Prop) (W : World), Below w.heap.size w W → OwnFrom W.heap.size J → OwnFrom W.heap.size Jx →
    (∀ k W1, J k W1 → k < N → YieldAt Fence.wide 0 Try.prog l (encs k) W1 fun e W' => (e = .returned (.bool true) ∧ J (k + 1) W' ∧ Ka bs W.heap.size W1 W') ∨ (e = .returned (.bool false) ∧ Jx (k + 1) W' ∧ Ka [] W.heap.size W1 W')) →
    J 0 W → CallsIn Fence.wide 0 Try.prog gf (#[.func (.yield l) #[] #[]] ++ lb) W fun e W' => (∃ v, e = .returned v) ∧ (J N W' ∨ ∃ k, k ≤ N ∧ Jx k W')
theorem roundIn_any {m m' l : Nat} {f : FuncId} {tmps : Array Value} {assign body : Code} {w : World} {R : Ending → World → Prop} (h : RoundIn Fence.wide m Try.prog l f tmps assign body w R) : RoundIn Fence.wide m' Try.prog l f tmps assign body w R :=
  ⟨trivial, fun c cs _ => h.2 c cs (fun d e => by cases e)⟩
theorem yieldAt_any {m l : Nat} (m' : Nat) {args : Array Value} {W : World} {R : Ending → World → Prop} (h : YieldAt Fence.wide m Try.prog l args W R) : YieldAt Fence.wide m' Try.prog l args W R := by
  obtain ⟨fn, tmps, assign, body, hy, hR⟩ := h
  exact ⟨fn, tmps, assign, body, hy, roundIn_any hR⟩
/-- A block of a lower number stands whatever is turned behind. -/
theorem low_stands {A B : World} {row : Option Nat} {k b : Nat} (hg : A.grownBy B row) (hr : ∀ r, row = some r → b ≤ r) (hk : k < b) (hl : k < A.heap.size) : B.heap[k]? = A.heap[k]? :=
  hg.block k hl (fun e => by have := hr k e.symm; omega)
theorem own_low_row {α : Type} {b : Nat} {I : List α → World → Prop} (hI : OwnFrom b I) {c : Nat} (hbc : b ≤ c) : OwnFrom c I := fun s A B row h hg hr => hI s A B row h hg (fun r e => ⟨Nat.le_trans hbc (hr r e).1, (hr r e).2⟩)
section
variable {g : Operand} {ps : Array Tmp} {assign body : Code} {Q : Exit → Act → World → Prop} {a : Act} {w : World} {n : Nat}
/-- How a round is left. -/
def roundQ (b : Nat) (bs : List Nat) (I Ix : Nat → World → Prop) (k : Nat) (W : World) : Exit → Act → World → Prop
  | .normal, _, X => Ka bs b W X ∧ I k X
  | .ret, _, X => Ka [] b W X ∧ Ix k X
  | _, _, _ => False
theorem rf_over {gf : Nat} {lb : Array Value} {encs : Nat → Array Value} {bs : List Nat} {N : Nat} (hg : a.eval g = .func (.func gf) #[] lb) (eg : ∀ args x, (callFunc gf args).run Try.prog x = .ok (.enter gf args) x)
    (hseq : SeqN gf lb encs bs N w) (hps : ∀ x, (encs x).size = ps.size) (hbs : ∀ b ∈ bs, b < w.heap.size)
    (I Ix : Nat → World → Prop) (hI : OwnFrom w.heap.size I) (hIx : OwnFrom w.heap.size Ix) (h0 : I 0 w)
    (hround : ∀ (l k : Nat) (W : World), I k W → k < N → w.heap.size ≤ l → l < W.heap.size → ∃ P : Act → World → Prop,
      assign.wpIn (Fence.wide.inRound l) (n - 1 - 1) Try.prog (Exit.then (fun a1 W1 => Ka bs w.heap.size W W1 ∧ P a1 W1) (fun _ _ _ => False)) { tmps := (ps.zip (encs k)).foldl (fun t (p, v) => t.setIfInBounds p v) a.tmps, defers := [] } W ∧
      ∀ a1 W1 X, P a1 W1 → (∃ r r', W1.heap[l]? = some (.loop r) ∧ X = W1.putObj l (.loop r')) → body.wpIn (Fence.wide.inRound l) (n - 1 - 1) Try.prog (roundQ w.heap.size bs I Ix (k + 1) X) a1 X)
    (hdone : ∀ (D : Nat) (W : World), w.heap.size ≤ D → I N W → W.heap[D]? = some (.deferred (some [])) → Q .normal { a with defers := { target := .collected D, args := #[] } :: a.defers } W)
    (hstop : ∀ (D k : Nat) (W : World), w.heap.size ≤ D → k ≤ N → Ix k W → W.heap[D]? = some (.deferred (some [])) → Code.ret.wpIn Fence.wide n Try.prog Q { a with defers := { target := .collected D, args := #[] } :: a.defers } W) :
    (Code.rangeFunc g ps assign body).wpIn Fence.wide n Try.prog Q a w := by
  refine wpIn_rangeFunc fun fn hfn => ?_
  obtain ⟨rc, hrc⟩ : ∃ rc : LoopState → Option Code → Loop, rc = fun st pe => { state := st, pending := pe, fn, tmps := a.tmps, params := ps, assign, body, defers := w.heap.size } := ⟨_, rfl⟩
  have ent := run_enterLoop_outer (P := Try.prog) (w := w) fn a.tmps ps assign body
  obtain ⟨d, hd⟩ : ∃ d, w.heap.size = d := ⟨_, rfl⟩
  obtain ⟨V, hV⟩ : ∃ V, (w.alloc (.deferred (some []))).alloc (.loop (rc .ready none)) = V := ⟨_, rfl⟩
  have sV : V.heap.size = d + 2 := by rw [← hV]; simp [hd]
  have gV : w.grownBy V none := by
    rw [← hV]
    exact ⟨rfl, rfl, rfl, by simp; omega, fun k hk _ => (Lib.alloc_old _ _ k (by rw [size_alloc]; omega)).trans (Lib.alloc_old _ _ k hk)⟩
  have lV : V.heap[d + 1]? = some (.loop (rc .ready none)) := by
    rw [← hV, ← hd]
    have := heap_alloc_new (w.alloc (.deferred (some []))) (.loop (rc .ready none))
    rwa [size_alloc] at this
  have dV : V.heap[d]? = some (.deferred (some [])) := by
    rw [← hV, ← hd]
    exact (Lib.alloc_old _ _ _ (by rw [size_alloc]; omega)).trans (heap_alloc_new w _)
  have bV : Below w.heap.size w V := ⟨gV.os, gV.tape, gV.output, gV.size, fun k hk => gV.block k hk (by simp)⟩
  have own2 : ∀ (T : Nat → World → Prop) (st : LoopState) (pe : Option Code), OwnFrom w.heap.size T → OwnFrom V.heap.size (fun s X => T s X ∧ X.heap[d + 1]? = some (.loop (rc st pe)) ∧ X.heap[d]? = some (.deferred (some []))) := fun T st pe hT s A B row hs hgr hr => by
    have hr1 : ∀ r, row = some r → d + 2 ≤ r := fun r e => by have := (hr r e).1; omega
    refine ⟨hT s A B row hs.1 hgr (fun r e => ⟨by have := hr1 r e; omega, (hr r e).2⟩), ?_, ?_⟩
    · exact (low_stands hgr hr1 (by omega) (Array.getElem?_eq_some_iff.1 hs.2.1).1).trans hs.2.1
    · exact (low_stands hgr hr1 (by omega) (Array.getElem?_eq_some_iff.1 hs.2.2).1).trans hs.2.2
  have put : ∀ (T : Nat → World → Prop) (s : Nat) (X : World) (r : Loop) (o : Obj), OwnFrom w.heap.size T → T s X → X.heap[d + 1]? = some (.loop r) → T s (X.putObj (d + 1) o) := fun T s X r o hT hs hx => hT.putObj o hs (by omega) hx rfl
  have hpb : ∀ x ∈ bs, x ≠ d + 1 := fun x hx => by have := hbs x hx; omega
  rw [hd] at ent
  refine ⟨d + 1, [{ target := .collected d, args := #[] }], V, { target := .fn (.func gf) lb, args := #[.func (.yield (d + 1)) #[] #[]] }, V, gf, #[.func (.yield (d + 1)) #[] #[]] ++ lb, V, ?_, ?_, fun _ _ => trivial, ?_, (fun h => by cases h), ?_⟩
  · show (Instr.enterLoop fn a.tmps ps assign body none).run Try.prog w = _
    rw [ent, ← hV, hrc, hd]
  · simp only [resolve, hg]
    simp [go_sem]
  · simp [invoke, go_sem, eg]
  have any0 : ∀ {f : Nat} {args : Array Value} {X : World} {R : Ending → World → Prop}, CallsIn Fence.wide 0 Try.prog f args X R → CallsIn Fence.wide (n - 1) Try.prog f args X R := fun h => callsIn_wide.2 (callsIn_wide.1 h)
  refine any0 ((hseq (d + 1) (fun s X => I s X ∧ X.heap[d + 1]? = some (.loop (rc .ready none)) ∧ X.heap[d]? = some (.deferred (some []))) (fun s X => Ix s X ∧ X.heap[d + 1]? = some (.loop (rc .done (some .ret))) ∧ X.heap[d]? = some (.deferred (some []))) V bV (own2 I _ _ hI) (own2 Ix _ _ hIx) ?_ ⟨hI _ _ _ none h0 gV (fun r e => by cases e), lV, dV⟩).mono ?_)
  · -- a round
    rintro k W ⟨hi, hl, hk⟩ hlen
    have hy := run_yield (P := Try.prog) (args := encs k) hl (by rw [hrc]; exact hps k)
    rw [hrc] at hy
    obtain ⟨P, hass, hbod⟩ := hround (d + 1) k W hi hlen (by omega) (Array.getElem?_eq_some_iff.1 hl).1
    refine ⟨fn, _, assign, body, hy, roundIn_any (m := n - 1 - 1) (roundIn_of_wpIn hfn (wpIn_mono hass ?_))⟩
    intro e a1 W1 he
    cases e with
    | normal =>
      obtain ⟨k1, p1⟩ := he
      have hl1 := (k1.new _ (by omega) (Array.getElem?_eq_some_iff.1 hl).1).trans hl
      have hk1 := (k1.new _ (by omega) (Array.getElem?_eq_some_iff.1 hk).1).trans hk
      refine ⟨_, run_beginRound hl1 (by rw [hrc]), ?_⟩
      refine wpIn_mono (hbod a1 W1 _ p1 ⟨_, _, hl1, rfl⟩) ?_
      have busy : (W1.putObj (d + 1) (.loop { rc .ready none with state := .busy })).heap[d + 1]? = some (.loop { rc .ready none with state := .busy }) := World.putObj_heap_same (Array.getElem?_eq_some_iff.1 hl1).1
      have def2 : (W1.putObj (d + 1) (.loop { rc .ready none with state := .busy })).heap[d]? = some (.deferred (some [])) := (World.putObj_heap_other (by omega)).trans hk1
      intro e3 a3 W3 h3
      cases e3 with
      | normal =>
        obtain ⟨k3, i3⟩ := h3
        have hl3 := (k3.new _ (by omega) (Array.getElem?_eq_some_iff.1 busy).1).trans busy
        have hk3 := (k3.new _ (by omega) (Array.getElem?_eq_some_iff.1 def2).1).trans def2
        have er := run_endRound (P := Try.prog) none hl3
        rw [hrc] at er
        refine ⟨_, _, er, .inl ⟨rfl, ⟨put I _ _ _ _ hI i3 hl3, ?_, (World.putObj_heap_other (by omega)).trans hk3⟩, ?_⟩⟩
        · rw [hrc]
          exact World.putObj_heap_same (Array.getElem?_eq_some_iff.1 hl3).1
        · exact (k1.mono (by omega)).trans ((Ka.put W1 _ hpb (by omega)).trans ((k3.mono (by omega)).trans (Ka.put W3 _ hpb (by omega))))
      | ret =>
        obtain ⟨k3, i3⟩ := h3
        have hl3 := (k3.new _ (by omega) (Array.getElem?_eq_some_iff.1 busy).1).trans busy
        have hk3 := (k3.new _ (by omega) (Array.getElem?_eq_some_iff.1 def2).1).trans def2
        have er := run_endRound (P := Try.prog) (some .ret) hl3
        rw [hrc] at er
        refine ⟨_, _, er, .inr ⟨rfl, ⟨put Ix _ _ _ _ hIx i3 hl3, ?_, (World.putObj_heap_other (by omega)).trans hk3⟩, ?_⟩⟩
        · rw [hrc]
          exact World.putObj_heap_same (Array.getElem?_eq_some_iff.1 hl3).1
        · have k1' : Ka [] V.heap.size W W1 := ⟨fun x hx => (by cases hx), k1.size, (k1.mono (c := V.heap.size) (by omega)).new⟩
          exact k1'.trans ((Ka.put W1 _ (fun x hx => by cases hx) (by omega)).trans ((k3.mono (by omega)).trans (Ka.put W3 _ (fun x hx => by cases hx) (by omega))))
      | exit _ => exact h3.elim
      | goto _ => exact h3.elim
      | panic _ => exact h3.elim
      | outgrown => exact h3.elim
    | ret => exact he.elim
    | exit _ => exact he.elim
    | goto _ => exact he.elim
    | panic _ => exact he.elim
    | outgrown => exact he.elim
  · -- behind it
    rintro e X ⟨⟨v, rfl⟩, (⟨hi, hl, hk⟩ | ⟨k, hkN, hi, hl, hk⟩)⟩
    · have el := run_endLoop (P := Try.prog) hl (by rw [hrc]; simp)
      rw [hrc] at el
      exact ⟨none, _, el, hdone d _ (by omega) (put I _ _ _ _ hI hi hl) ((World.putObj_heap_other (by omega)).trans hk)⟩
    · have el := run_endLoop (P := Try.prog) hl (by rw [hrc]; simp)
      rw [hrc] at el
      exact ⟨some .ret, _, el, hstop d k _ (by omega) hkN (put Ix _ _ _ _ hIx hi hl) ((World.putObj_heap_other (by omega)).trans hk)⟩
end
/-- An operation that is no defer does within a round what it does outside. -/
theorem opIn_round {n : Nat} {P : Program} {o : Oper} {a : Act} {w : World} {K : Act → World → Prop} {Q : Exit → Act → World → Prop} (l : Nat) (hd : ∀ c, o.op ≠ .defer c) (h : o.wpIn Fence.wide n P a w K Q) : o.wpIn (Fence.wide.inRound l) n P a w K Q := by
  unfold Oper.wpIn at *
  refine ⟨h.1, ?_⟩
  have h2 := h.2
  rw [Oper.semAt_plain _ _ _ hd] at h2 ⊢
  generalize (execOp a.eval o).run P w = r at *
  cases r with
  | ok x w' => cases x <;> exact h2
  | halt x w' => cases x <;> exact h2
theorem opsIn_round {n : Nat} {P : Program} {ops : Array Oper} {Q : Exit → Act → World → Prop} (l : Nat) (hd : ∀ (i : Nat) o c, ops[i]? = some o → o.op ≠ .defer c) : ∀ (s : List Nat) (a : Act) (w : World), wpOpsIn Fence.wide n P ops Q s a w → wpOpsIn (Fence.wide.inRound l) n P ops Q s a w
  | [], _, _, h => h
  | i :: s, a, w, h => by
    rw [wpOpsIn_cons] at h ⊢
    unfold wpOpIn at h ⊢
    cases ho : ops[i]? with
    | none => rw [ho] at h; exact opsIn_round l hd s a w h
    | some o =>
      rw [ho] at h
      simp only at h ⊢
      split
      · rename_i hw
        rw [if_pos hw] at h
        exact opIn_round l (fun c => hd i o c ho) (Oper.wpIn_mono (fun a w h => opsIn_round l hd s a w h) h)
      · rename_i hw
        rw [if_neg hw] at h
        exact ⟨h.1, opsIn_round l hd s _ _ h.2⟩
theorem any_sound {n : Nat} {P : Program} {id l : Nat} {ops : Array Oper} {Q : Exit → Act → World → Prop} {a : Act} {w : World} (hd : ∀ (i : Nat) o c, ops[i]? = some o → o.op ≠ .defer c) (hm : P.follows .mixedOrders = true)
    (h : wpAnyIn Fence.wide n P .any ops Q ops.size (Array.replicate ops.size false) a { w with drawn := w.drawn + 1 }) : (Code.region id ops true).wpIn (Fence.wide.inRound l) n P Q a w :=
  wpIn_region_draw fun t => by
    refine opsIn_round l hd _ _ _ ?_
    simp only [Region.schedule, hm, Bool.true_or, if_true]
    exact wpAnyIn_sound ops.size t _ a _ h
/-- ends, as such an iterator. -/
theorem ends_seqN (Bs : Nat) (v : Value) (L : List Sl) (hL : L.length ≤ 8796093022000) (w : World) (hBs : w.heap[Bs]? = some (.cells #[v] 23 (0, 0))) (hWd : Wide 3 slC w v L) :
    SeqN 45 #[.pointer (some ⟨Bs, 0, none⟩)] (enV L) (bks Bs v L.length) L.length w := fun l J Jx W hW hJ _ hY h0 => by
  have h := ends1_in Fence.wide 1 trivial rfl (by omega) l Bs v L hL (fun pre X => J pre.length X) (fun pre X => Jx pre.length X) (fun s A B hs hg => hJ _ A B none hs hg (fun r e => by cases e))
    (fun pre x X hj hl hx => by
      subst hx
      obtain ⟨fn, tmps, assign, body, hy, hR⟩ := hY pre.length X hj hl
      refine ⟨fn, tmps, assign, body, hy, RoundIn.mono hR ?_⟩
      rintro e W' (⟨h1, h2, h3⟩ | ⟨h1, h2, h3⟩)
      · exact .inl ⟨h1, by simpa using h2, h3.old⟩
      · exact .inr ⟨h1, by simpa using h2⟩)
    W ((hW.block Bs (Array.getElem?_eq_some_iff.1 hBs).1).trans hBs) (hWd.same hW.size (fun b _ hl => hW.block b hl)) h0
  refine callsIn_wide.2 (callsIn_wide.1 (h.mono ?_))
  rintro e W' ⟨h1, (⟨ys, rfl, h2⟩ | ⟨pre, ⟨k, hk, rfl⟩, h2⟩)⟩
  · exact ⟨h1, .inl (by simpa using h2)⟩
  · exact ⟨h1, .inr ⟨k, hk, by simpa using h2⟩⟩
end Go.Proofs.Ythalhidebkhclaa
