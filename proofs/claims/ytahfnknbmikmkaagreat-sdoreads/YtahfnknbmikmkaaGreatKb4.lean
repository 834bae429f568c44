/- Slices of structs: that came in, that the call made. Contracts: Check, of the program. Items made of entries: itemsOf up to its sorting. Items in order: what the library's sorting leaves. -/
import Derived.Test.YtahfnknbmikmkaaGreatKb2
import Derived.Test.YtahfnknbmikmkaaGreatKb3
import Derived.ProofKit
import Derived.OpenShut
import Derived.ShutString
import Derived.ChangeOld
import Derived.SizedLaws
import Derived.Great.FillDense
import Derived.Great.BuildSlice
import Derived.Maps.OwnSet
import Derived.Maps.Own
import Derived.Deep.OwnRows
import Derived.Shelf.SlSortCmp.Kit1
namespace Go.Proofs.YtahfnknbmikmkaaGreat
open Go.ChangeShapes Go.WideShapes Go.ChangeAt Go.RowKit Go.Proofs.Ty
set_option linter.unusedVariables false
set_option maxRecDepth 1000000
set_option linter.unusedSimpArgs false
/-- A slice that came in whose elements are rows of c cells: nil, or cells in an old block. -/
def Wide {α : Type} (c : Nat) (dec : α → List Value) (w : World) (v : Value) (l : List α) : Prop :=
  ∃ ao cap, v = .slice ao l.length cap ∧ (ao = none → l = [] ∧ cap = 0) ∧ ∀ k (h : k < l.length), ∃ b off, ao = some ⟨b, off, none⟩ ∧ b < w.heap.size ∧ w.rangeAt b (off + k * c) (dec l[k])
theorem Wide.at {α : Type} {c : Nat} {dec : α → List Value} {w : World} {ao : Option Addr} {l : List α} (h : ∀ k (h : k < l.length), ∃ b off, ao = some ⟨b, off, none⟩ ∧ b < w.heap.size ∧ w.rangeAt b (off + k * c) (dec l[k])) {wr : World} (hb : Below w.heap.size w wr) (k : Nat) (hk : k < l.length) :
    ∃ b off, ao = some ⟨b, off, none⟩ ∧ b < w.heap.size ∧ wr.rangeAt b (off + k * c) (dec l[k]) := by
  obtain ⟨b, off, ha, hlt, hc⟩ := h k hk
  exact ⟨b, off, ha, hlt, fun j v hv => (hb.cell (p := ⟨b, off + k * c + j, none⟩) hlt).trans (hc j v hv)⟩
theorem grown_trans {w x y : World} {r : Option Nat} (h1 : w.grownBy x r) (h2 : x.grownBy y r) : w.grownBy y r :=
  ⟨h2.os.trans h1.os, h2.tape.trans h1.tape, h2.output.trans h1.output, Nat.le_trans h1.size h2.size, fun k hk hne => (h2.block k (Nat.lt_of_lt_of_le hk h1.size) hne).trans (h1.block k hk hne)⟩
theorem gb_any {w w' : World} (hb : Below w.heap.size w w') (r : Option Nat) : w.grownBy w' r := ⟨hb.os, hb.tape, hb.output, hb.size, fun k hk _ => hb.block k hk⟩
theorem own_shape5 {w : World} {B : Nat} {e : TypeId} {c : Nat} {v : Value} {n : Nat} {xs : List Value} (h : w.ownsRow B e c v n xs) : ∃ ao cap, v = .slice ao n cap := by
  rcases h.2 with ⟨rfl, rfl⟩ | ⟨g', cap, cur, rfl, hB, hcur, _⟩
  · exact ⟨_, _, rfl⟩
  · exact ⟨_, _, rfl⟩
theorem own_of {w : World} {B : Nat} {e : TypeId} {c n : Nat} {v : Value} {xs : List Value} (h : w.ownsRow B e c v n xs) {g : Nat} (hg : v.ownBlock = some g) : B ≤ g ∧ ∃ cur, w.heap[g]? = some (.cells cur e (0, 0)) := by
  rcases h.2 with ⟨rfl, _⟩ | ⟨g', cap, cur, rfl, hB, hcur, _⟩
  · cases hg
  · cases hg; exact ⟨hB, cur, hcur⟩
/-- How a struct's cells lie. -/
structure Dec (α : Type) where
  dec : α → List Value
  c : Nat
  pos : 0 < c
  len : ∀ a, (dec a).length = c
  one : ∀ a, ∀ u ∈ dec a, u.oneCell' = true
def flatW {α : Type} (D : Dec α) (l : List α) : List Value := l.flatMap D.dec
section
variable {α : Type} (D : Dec α)
theorem flatW_len (l : List α) : (flatW D l).length = l.length * D.c := by
  induction l with
  | nil => simp [flatW]
  | cons f r ih => rw [flatW, List.flatMap_cons, List.length_append, D.len, ← flatW, ih, List.length_cons, Nat.succ_mul]; omega
theorem flatW_get (l : List α) (k j : Nat) (hk : k < l.length) (hj : j < D.c) : (flatW D l)[k * D.c + j]? = (D.dec l[k])[j]? := by
  induction l generalizing k with
  | nil => simp at hk
  | cons f r ih =>
    rw [flatW, List.flatMap_cons, ← flatW]
    match k, hk with
    | 0, _ => rw [List.getElem?_append_left (by rw [D.len]; omega)]; simp
    | k + 1, hk =>
      rw [List.getElem?_append_right (by rw [D.len, Nat.succ_mul]; omega), D.len, show (k + 1) * D.c + j - D.c = k * D.c + j by rw [Nat.succ_mul]; omega, ih k (by simpa using hk)]
      simp
theorem flatW_one (l : List α) : ∀ u ∈ flatW D l, u.oneCell' = true := by
  intro u hu
  obtain ⟨f, _, hf⟩ := List.mem_flatMap.1 hu
  exact D.one f u hf
theorem flatW_append (l m : List α) : flatW D (l ++ m) = flatW D l ++ flatW D m := by simp [flatW]
theorem wide_of_own {w : World} {B : Nat} {e : TypeId} {v : Value} {l : List α} (h : w.ownsRow B e D.c v l.length (flatW D l)) : Wide D.c D.dec w v l := by
  rcases h.2 with ⟨rfl, h0⟩ | ⟨g, cap, cur, rfl, hg, hcur, h1, h2, h3, h4⟩
  · obtain rfl := List.length_eq_zero_iff.1 h0
    exact ⟨none, 0, rfl, fun _ => ⟨rfl, rfl⟩, fun k hk => by simp at hk⟩
  · refine ⟨some ⟨g, 0, none⟩, cap, rfl, (fun h => by cases h), fun k hk => ⟨g, 0, rfl, (Array.getElem?_eq_some_iff.1 hcur).1, ?_⟩⟩
    intro j u hj
    have hjl : j < D.c := by have := (List.getElem?_eq_some_iff.1 hj).1; rw [D.len] at this; exact this
    have hlt : k * D.c + j < l.length * D.c := by
      have : (k + 1) * D.c ≤ l.length * D.c := Nat.mul_le_mul_right _ hk
      rw [Nat.succ_mul] at this; omega
    rw [Lib.cell_of_heap hcur, Nat.zero_add, ← hj, ← flatW_get D l k j hk hjl, ← h4, List.getElem?_take, if_pos hlt]
    simp
theorem own_empty_e (w : World) (e : TypeId) (c : Nat) : (w.alloc (.cells #[] e)).ownsRow w.heap.size e c (.slice (some ⟨w.heap.size, 0, none⟩) 0 0) 0 [] := by
  refine ⟨by simp, .inr ⟨w.heap.size, 0, #[], rfl, Nat.le_refl _, heap_alloc_new w _, Nat.le_refl _, by decide, by simp, by simp⟩⟩
theorem wide_new (w : World) (x : α) (e : TypeId) : Wide D.c D.dec (w.alloc (.cells (D.dec x).toArray e)) (.slice (some ⟨w.heap.size, 0, none⟩) 1 1) [x] := by
  refine ⟨some ⟨w.heap.size, 0, none⟩, 1, rfl, (fun h => by cases h), fun k hk => ⟨w.heap.size, 0, rfl, by rw [size_alloc]; omega, ?_⟩⟩
  obtain rfl : k = 0 := by simp at hk; exact hk
  intro j v hj
  rw [Lib.cell_of_heap (heap_alloc_new w _)]
  simpa using hj
theorem one_bs {w : World} {ops : Array Oper} {rest : List Oper} {o : Oper} {a : Act} {Q : Exit → Act → World → Prop} (s : α) (t e : TypeId) (z : Value) (bytes : Nat) (hgd : o.guard = none) (x : Operand) (ho : o.op = .buildSlice t 1 #[(0, x)]) (hx : a.eval x = .agg (D.dec s).toArray)
    (ht : Tryz.prog.underlying t = some (.slice e)) (hinfo : (Tryz.prog.info? e).map (fun i => (i.zero, i.size, i.bytes)) = some (some z, D.c, bytes)) (hsmall : D.c ≤ 1000)
    (h : wpList Tryz.prog ops Q rest (a.put o.dst (.slice (some ⟨w.heap.size, 0, none⟩) 1 1)) (w.alloc (.cells (D.dec s).toArray e))) : wpList Tryz.prog ops Q (o :: rest) a w := by
  obtain ⟨i0, hi, hz0, hz1, hz2⟩ := info_parts hinfo
  refine wpList_buildSlice hgd t e 1 _ ho (D.dec s).toArray i0 z ht hi hz0 (by rw [hz1]; omega) (by rw [hz1]; have := D.pos; omega) ?_ h
  rw [hz1]
  have hsz : (Value.agg (D.dec s).toArray).cells.size = D.c := by simp [Value.cells, D.len]
  have := Go.Great.fill_whole D.pos [Value.agg (D.dec s).toArray] ((Array.range (1 * D.c)).map (z.cells[· % z.cells.size]!)) (by intro v hv; simp at hv; subst hv; exact hsz) (by simp)
  simpa [hx, Value.cells] using this
end
theorem wp_append_wide {α : Type} (D : Dec α) {w : World} {o : Oper} {a : Act} {K : Act → World → Prop} {Q : Exit → Act → World → Prop} (s x : Operand) (t e : TypeId) (z : Value) (bytes : Nat)
    (ht : Tryz.prog.underlying t = some (.slice e)) (hinfo : (Tryz.prog.info? e).map (fun i => (i.zero, i.size, i.bytes)) = some (some z, D.c, bytes)) (hzs : z.cells.size = D.c)
    (ho : o.op = .call { callee := .builtin .append, args := #[s, x], argTypes := #[t, t] })
    (base : Nat) (v : Value) (xs : List α) (hs : a.eval s = v) (hown : w.ownsRow base e D.c v xs.length (flatW D xs))
    (vx : Value) (l : List α) (hx : a.eval x = vx) (hB : Wide D.c D.dec w vx l) (h63 : xs.length + l.length ≤ maxLen) (hbytes : (xs.length + l.length) * bytes ≤ 140737488355328) (hbase : base ≤ w.heap.size)
    (h : ∀ v' w', w'.ownsRow base e D.c v' (xs ++ l).length (flatW D (xs ++ l)) → w.grownBy w' v.ownBlock → K (a.put o.dst v') w') : o.wp Tryz.prog a w K Q := by
  obtain ⟨i0, hi, hz0, hz1, hz2⟩ := info_parts hinfo
  obtain ⟨ao, cap, rfl, h0, hc⟩ := hB
  cases ao with
  | none =>
    obtain ⟨rfl, rfl⟩ := h0 rfl
    have hrun := run_append_owned_none (P := Tryz.prog) (w := w) base t o.type e i0 D.c ht hi v xs.length (flatW D xs) hown
    unfold Oper.wp
    simp only [List.length_nil] at hx
    simp [execOp, ho, resolve, invoke, builtin, hs, hx, hrun, Result.andThen]
    refine h _ _ ?_ (grown_refl _ _)
    simpa using hown
  | some ad =>
    refine wp_append_own w s x t ho base e i0 z D.c bytes ht hi hz0 hz1 hz2 hzs D.pos v xs.length (flatW D xs) hs hown ad l.length cap (flatW D l) hx (flatW_len D l) ?_ (flatW_one D l) h63 hbytes hbase ?_
    · intro j u hj
      have hlt : j < l.length * D.c := by have := (List.getElem?_eq_some_iff.1 hj).1; rw [flatW_len] at this; exact this
      have hdm := Nat.div_add_mod j D.c
      rw [Nat.mul_comm] at hdm
      have hk : j / D.c < l.length := Nat.div_lt_of_lt_mul (by rw [Nat.mul_comm]; exact hlt)
      have hm : j % D.c < D.c := Nat.mod_lt _ D.pos
      obtain ⟨b, off, ha, _, hR⟩ := hc (j / D.c) hk
      simp only [Option.some.injEq] at ha
      subst ha
      have hg := flatW_get D l (j / D.c) (j % D.c) hk hm
      rw [hdm] at hg
      rw [hj] at hg
      have := hR (j % D.c) u hg.symm
      rw [Addr.add_mid]
      rw [Nat.add_assoc, hdm] at this
      exact this
    · intro v' w' h1 h2 _
      refine h v' w' ?_ h2
      rw [flatW_append, List.length_append]
      exact h1
/-- A row that is only read, its block's type, its room. -/
structure RT (T c : Nat) {α : Type} (dec : α → List Value) (w : World) (v : Value) (l : List α) : Prop where
  wide : Wide c dec w v l
  typ : ∀ b, v.ownBlock = some b → ∃ A fr, w.heap[b]? = some (.cells A T fr)
  cap : ∀ ao n k, v = .slice ao n k → n ≤ k
theorem Wide.same {c : Nat} {α : Type} {dec : α → List Value} {w w' : World} {v : Value} {l : List α} (h : Wide c dec w v l) (hs : w.heap.size ≤ w'.heap.size) (hb : ∀ b, v.ownBlock = some b → b < w.heap.size → w'.heap[b]? = w.heap[b]?) : Wide c dec w' v l := by
  obtain ⟨ao, cap, rfl, h0, hc⟩ := h
  refine ⟨ao, cap, rfl, h0, fun k hk => ?_⟩
  obtain ⟨b, off, ha, hlt, hr⟩ := hc k hk
  refine ⟨b, off, ha, by omega, fun j u hj => ?_⟩
  have := hb b (by rw [ha]; rfl) hlt
  exact (World.cell?_of_block (a := ⟨b, off + k * c + j, none⟩) this).trans (hr j u hj)
theorem RT.same {T c : Nat} {α : Type} {dec : α → List Value} {w w' : World} {v : Value} {l : List α} (h : RT T c dec w v l) (hs : w.heap.size ≤ w'.heap.size) (hb : ∀ b A fr, v.ownBlock = some b → w.heap[b]? = some (.cells A T fr) → w'.heap[b]? = w.heap[b]?) : RT T c dec w' v l := by
  have hb' : ∀ b, v.ownBlock = some b → b < w.heap.size → w'.heap[b]? = w.heap[b]? := fun b e _ => by
    obtain ⟨A, fr, h1⟩ := h.typ b e
    exact hb b A fr e h1
  refine ⟨h.wide.same hs hb', fun b e => ?_, h.cap⟩
  obtain ⟨A, fr, h1⟩ := h.typ b e
  exact ⟨A, fr, (hb b A fr e h1).trans h1⟩
theorem RT.below {T c : Nat} {α : Type} {dec : α → List Value} {w w' : World} {v : Value} {l : List α} (h : RT T c dec w v l) (hb : Below w.heap.size w w') : RT T c dec w' v l :=
  h.same hb.size (fun b A fr _ h1 => hb.block b (Array.getElem?_eq_some_iff.1 h1).1)
theorem RT.grown {T c q : Nat} {α : Type} {dec : α → List Value} {w w' : World} {v : Value} {l : List α} (h : RT T c dec w v l) (hg : w.grownBy w' (some q)) (hq : v.ownBlock ≠ some q) : RT T c dec w' v l :=
  h.same hg.size (fun b A fr e h1 => hg.block b (Array.getElem?_eq_some_iff.1 h1).1 (fun e' => hq (e.trans e')))
theorem RT.ne {T c q : Nat} {α : Type} {dec : α → List Value} {w : World} {v : Value} {l : List α} (h : RT T c dec w v l) {A : Array Value} {T' : Nat} {fr : Nat × Nat} (hq : w.heap[q]? = some (.cells A T' fr)) (ht : T ≠ T') : v.ownBlock ≠ some q := fun e => by
  obtain ⟨A', fr', h1⟩ := h.typ q e
  rw [hq] at h1
  simp at h1
  exact ht h1.2.1.symm
theorem RT.nil (T c : Nat) {α : Type} (dec : α → List Value) (w : World) : RT T c dec w (.slice none 0 0) [] :=
  ⟨⟨none, 0, rfl, fun _ => ⟨rfl, rfl⟩, fun k hk => by simp at hk⟩, (fun b e => by cases e), (fun ao n k e => by cases e; omega)⟩
theorem RT.own {α : Type} (D : Dec α) {T B : Nat} {w : World} {v : Value} {l : List α} (h : w.ownsRow B T D.c v l.length (flatW D l)) : RT T D.c D.dec w v l := by
  refine ⟨wide_of_own D h, fun b e => ?_, fun ao n k e => ?_⟩
  · obtain ⟨_, cur, hc⟩ := own_of h e
    exact ⟨cur, _, hc⟩
  · rcases h.2 with ⟨rfl, _⟩ | ⟨g, cap, cur, rfl, hB, hcur, h1, _⟩
    · cases e; omega
    · cases e; exact h1
theorem Wide.at0 {c : Nat} {α : Type} {dec : α → List Value} {w : World} {v : Value} {l : List α} (h : Wide c dec w v l) (k : Nat) (hk : k < l.length) : ∃ b off cap, v = .slice (some ⟨b, off, none⟩) l.length cap ∧ b < w.heap.size ∧ w.rangeAt b (off + k * c) (dec l[k]) := by
  obtain ⟨ao, cap, rfl, h0, hc⟩ := h
  obtain ⟨b, off, rfl, hlt, hr⟩ := hc k hk
  exact ⟨b, off, cap, rfl, hlt, hr⟩
theorem Wide.shape {c : Nat} {α : Type} {dec : α → List Value} {w : World} {v : Value} {l : List α} (h : Wide c dec w v l) : ∃ ao cap, v = .slice ao l.length cap := by
  obtain ⟨ao, cap, rfl, _⟩ := h
  exact ⟨ao, cap, rfl⟩
theorem wp_bs0g {t e : TypeId} {z : Value} {c y : Nat} (hu : Tryz.prog.underlying t = some (.slice e)) (hinfo : (Tryz.prog.info? e).map (fun i => (i.zero, i.size, i.bytes)) = some (some z, c, y)) {o : Oper} {a : Act} {w : World} {K : Act → World → Prop} {Q : Exit → Act → World → Prop} (ho : o.op = .buildSlice t 0 #[]) (h : K (a.put o.dst (.slice (some ⟨w.heap.size, 0, none⟩) 0 0)) (w.alloc (.cells #[] e))) : o.wp Tryz.prog a w K Q := by
  obtain ⟨i0, hi0, hz0, hz1, hz2⟩ := info_parts hinfo
  unfold Oper.wp execOp
  simp [ho, Instr.buildSlice, go_sem, run_underlying hu, zeroValue, sizeOf, typeInfo, hi0, hz0, hz1, Instr.fill]
  exact h
theorem own_lower {w : World} {B B' : Nat} {e : TypeId} {c n : Nat} {v : Value} {xs : List Value} (h : w.ownsRow B e c v n xs) (hB : B' ≤ B) : w.ownsRow B' e c v n xs :=
  ⟨h.1, h.2.imp id (fun ⟨g, cap, cur, e1, e2, e3⟩ => ⟨g, cap, cur, e1, by omega, e3⟩)⟩
end Go.Proofs.YtahfnknbmikmkaaGreat
namespace Go.Proofs.YtahfnknbmikmkaaGreat
open Go.RowKit Go.Proofs.Ty Go.Maps Go.WideMaps
set_option linter.unusedVariables false
set_option maxRecDepth 1000000
set_option linter.unusedSimpArgs false
/-- What is wrong with entries, those ahead being these. -/
def chkG : List En → List En → Nat
  | _, [] => 0
  | s, e :: r => if e.can ≠ 0 then e.can else if s.any (fun x => x.pl == e.pl) then 5 else chkG (s ++ [e]) r
def chkL (l : List En) : Nat := if 1024 < l.length then 2 else chkG [] l
theorem chkG_step (l : List En) (k : Nat) (hk : k < l.length) : chkG (l.take k) (l.drop k) = if l[k].can ≠ 0 then l[k].can else if (l.take k).any (fun x => x.pl == l[k].pl) then 5 else chkG (l.take (k + 1)) (l.drop (k + 1)) := by
  rw [List.drop_eq_getElem_cons hk, chkG, List.take_succ_eq_append_getElem hk]
theorem sdE {w : World} {q : Nat} {c : Array Value} (h : w.heap[q]? = some (.cells c 93 (0, 0))) (hc : c.size = 14) {ops : Array Oper} {rest : List Oper} {o : Oper} {a : Act} {Q : Exit → Act → World → Prop} (e : En) (hgd : o.guard = none) (x y : Operand) (ho : o.op = .store 93 x y) (hx : a.eval x = .pointer (some ⟨q, 0, none⟩)) (hy : a.eval y = .agg e.arr)
    (hh : wpList Tryz.prog ops Q rest (a.put o.dst undef) (w.setRow q e.arr)) : wpList Tryz.prog ops Q (o :: rest) a w :=
  wpList_store_row hgd 93 x y ho q e.arr hx hy 93 c h (by show _ = some 14; exact infoE) (by rw [hc]; rfl) (all_oneCell_toArray e.one) hh
theorem Eb.row {w : World} {q : Nat} {c : Array Value} (h : w.heap[q]? = some (.cells c 93 (0, 0))) (e : En) : Eb q e (w.setRow q e.arr) := setRow_heap w q c _ 93 _ h
theorem lawP : Keyed Tryz.prog 146 := int_keyed Tryz.underlying146
theorem key_pl (k : Nat) (h : k < 16777216) : keyOf Tryz.prog 146 (.int .u32 k) = some (.int .u32 k) :=
  keyOf_int_mk Tryz.underlying146 (by simp [Lit.wf, IntKind.min, IntKind.max, IntKind.signed, IntKind.bits]; omega)
theorem run_makeMapP (w : World) : (Instr.makeMap 169 none).run Tryz.prog w = .ok (.map (some w.heap.size)) (w.alloc (.map #[] 0)) := by
  simp [Instr.makeMap, run_underlying Tryz.underlying169, Result.andThen]
theorem zeroI (w : World) : (zeroValue 3).run Tryz.prog w = .ok (.int .i64 0) w := by rfl
/-- Block b is a map that has just the places of these. -/
def Pm (w : World) (b n : Nat) (s : List En) : Prop := ∃ D : DataW Unit, w.ownsMap Tryz.prog 146 (plainElem Tryz.prog 3) b n D ∧ ∀ k : Nat, k < 16777216 → has D (.int .u32 k) = s.any (fun x => x.pl == k)
theorem Pm.look {w : World} {b n : Nat} {s : List En} (h : Pm w b n s) (e : En) : ∃ z, (Instr.lookup 169 (.map (some b)) (.int .u32 e.pl) true).run Tryz.prog w = .ok (.tuple #[z, .bool (s.any (fun x => x.pl == e.pl))]) w := by
  obtain ⟨D, h1, h2⟩ := h
  obtain ⟨v, ps, h3, h4⟩ := h1.look_ok lawP Tryz.underlying169 (zeroI w) (zd := .lit (.int .i64 0)) (zp := []) (plainElem_int Tryz.underlying3 (by rfl)) (key_pl e.pl e.pl_lt)
  exact ⟨v, by rw [h3, h2 e.pl e.pl_lt]⟩
theorem Pm.put {w : World} {b n : Nat} {s : List En} (h : Pm w b n s) (e : En) (k : Nat) (hk : k < 2000) (hn : n < 2000) : ∃ w', (Instr.mapUpdate 169 (.map (some b)) (.int .u32 e.pl) (.int .i64 k)).run Tryz.prog w = .ok () w' ∧ Pm w' b (n + 1) (s ++ [e]) ∧ w.mapTurned w' b := by
  obtain ⟨D, h1, h2⟩ := h
  obtain ⟨w', h3, h4, h5⟩ := World.ownsMap.store h1 lawP Tryz.underlying169 (by unfold maxLen; omega) (key_pl e.pl e.pl_lt) (plainElem_int (e := 3) (q := .i64) (a := (k : Int)) Tryz.underlying3 (by simp [Lit.wf, IntKind.min, IntKind.max, IntKind.signed, IntKind.bits]; omega))
  refine ⟨w', h3, ⟨_, h4, fun j hj => ?_⟩, h5⟩
  by_cases hjk : j = e.pl
  · subst hjk
    rw [has_put_same h1.isMap (by simp [WideAt.IsKeyLit])]
    simp
  · rw [has_put_other (by simp; omega), h2 j hj]
    rw [List.any_append]
    simp
    omega
theorem Pm.new (w : World) : Pm (w.alloc (.map #[] 0)) w.heap.size 0 [] := ⟨_, World.ownsMap_made w _ _ _, fun k _ => rfl⟩
theorem Pm.kept {w w' : World} {b n : Nat} {s : List En} {row : Option Nat} (h : Pm w b n s) (hg : w.grownBy w' row) (hne : some b ≠ row) : Pm w' b n s := by
  obtain ⟨D, h1, h2⟩ := h
  exact ⟨D, h1.kept hg hne, h2⟩
theorem Pm.lt {w : World} {b n : Nat} {s : List En} (h : Pm w b n s) : b < w.heap.size := h.choose_spec.1.lt
theorem gb_none {w w' : World} (hb : Below w.heap.size w w') : w.grownBy w' none := ⟨hb.os, hb.tape, hb.output, hb.size, fun k hk _ => hb.block k hk⟩
set_option maxHeartbeats 4000000 in
theorem oCheck_any (v : Value) (l : List En) (w : World) (hW : Wide 14 enC w v l) (hn : l.length ≤ 4000000000000) :
    Calls Tryz.prog 59 #[v] w fun x w' => x = .returned (.int .i64 (chkL l)) ∧ Below w.heap.size w w' := by
  have HR : Hid (chkL l = if 1024 < l.length then 2 else chkG (l.take 0) (l.drop 0)) := rfl
  generalize chkL l = R at *
  obtain ⟨ao, cp, rfl, _, hc⟩ := hW
  have HC : Hid (∀ (wr : World), Below w.heap.size w wr → ∀ k (hk : k < l.length), ∃ b off, ao = some ⟨b, off, none⟩ ∧ b < w.heap.size ∧ wr.rangeAt b (off + k * 14) (enC l[k])) := fun wr hb k hk => Wide.at hc hb k hk
  have hmk := run_makeMapP
  clear hc
  go_enter Tryz.func59, Tryz.ntmps59
  by_cases h1 : 1024 < l.length
  · have d1 : decide ((1024 : Int) < (l.length : Int)) = true := by simp; omega
    have e1 := hidOf2 (show R = 2 by rw [HR.out, if_pos h1])
    clear HR
    go_wp2
    go_ret
    exact ⟨ret_int (by rw [e1.out]; rfl), Below.refl _ _⟩
  · have d1 : decide ((1024 : Int) < (l.length : Int)) = false := by simp; omega
    rw [if_neg h1] at HR
    have hL : l.length ≤ 1024 := by omega
    clear h1
    go_wp2
    go_loopw [16] (fun i x => ∃ k : Nat, k ≤ l.length ∧ i = .int .i64 k ∧ Pm x w.heap.size k (l.take k) ∧ Hid (R = chkG (l.take k) (l.drop k)) ∧ Below w.heap.size w x) (fun i _ => l.length - (intOf i).toNat)
    case atStart => exact ⟨0, Nat.zero_le _, rfl, Pm.new w, HR, (Below.refl _ _).alloc (Nat.le_refl _) _⟩
    case round =>
      clear HR
      obtain ⟨k, hk, rfl, PM, HR, B1⟩ := hrel
      by_cases hkl : k < l.length
      · obtain ⟨b, off, rfl, hb, hR⟩ := HC.out wr B1 k hkl
        have HS := hidOf2 (HR.out.trans (chkG_step l k hkl))
        have HT := hidOf2 (List.take_succ_eq_append_getElem hkl).symm
        generalize l[k] = e at *
        clear HR
        obtain ⟨q, hq⟩ : ∃ q, wr.heap.size = q := ⟨_, rfl⟩
        have hh : (wr.alloc (.cells #[.int .u16 0, .int .u8 0, .int .i64 0, .bool false, .bool false, .int .i64 0, .int .u64 0, .string ⟨#[]⟩, .int .i64 0, .int .u64 0, .string ⟨#[]⟩, .int .i64 0, .int .u64 0, .string ⟨#[]⟩] 93)).heap[q]? = some (.cells #[.int .u16 0, .int .u8 0, .int .i64 0, .bool false, .bool false, .int .i64 0, .int .u64 0, .string ⟨#[]⟩, .int .i64 0, .int .u64 0, .string ⟨#[]⟩, .int .i64 0, .int .u64 0, .string ⟨#[]⟩] 93 (0, 0)) := by rw [← hq]; exact heap_alloc_new _ _
        have hE := Eb.row hh e
        have BA : Below w.heap.size w (wr.alloc (.cells #[.int .u16 0, .int .u8 0, .int .i64 0, .bool false, .bool false, .int .i64 0, .int .u64 0, .string ⟨#[]⟩, .int .i64 0, .int .u64 0, .string ⟨#[]⟩, .int .i64 0, .int .u64 0, .string ⟨#[]⟩] 93)) := B1.alloc B1.size _
        have hnq : some w.heap.size ≠ some q := fun h => by have := PM.lt; injection h; omega
        have PA := (PM.kept (World.grownBy_alloc wr (.cells #[.int .u16 0, .int .u8 0, .int .i64 0, .bool false, .bool false, .int .i64 0, .int .u64 0, .string ⟨#[]⟩, .int .i64 0, .int .u64 0, .string ⟨#[]⟩, .int .i64 0, .int .u64 0, .string ⟨#[]⟩] 93) none) (by simp)).kept (setRow_kept _ q e.arr) hnq
        have BB := below_row BA (by rw [← hq]; exact B1.size) (by rw [size_alloc]; have := B1.size; omega) (q := q) e.arr
        go_upto_region 7 with (first | (refine ldE hR rfl _ rfl rfl ?_) | (refine sdE hh rfl e rfl _ _ rfl rfl rfl ?_))
        try simp only [hq]
        generalize ((wr.alloc (.cells #[.int .u16 0, .int .u8 0, .int .i64 0, .bool false, .bool false, .int .i64 0, .int .u64 0, .string ⟨#[]⟩, .int .i64 0, .int .u64 0, .string ⟨#[]⟩, .int .i64 0, .int .u64 0, .string ⟨#[]⟩] 93)).setRow q e.arr) = W1 at *
        clear hh BA hR B1 PM hq
        have r0 := hE.r0
        have hCn := can_any e W1
        have hs1 := BB.size
        go_wp2_with (first | (refine ldE r0 rfl _ rfl rfl ?_))
        refine hCn.mono ?_
        rintro x w2 ⟨rfl, b2⟩
        have hE2 := hE.below b2
        have P2 := PA.kept (gb_none b2) (by simp)
        have B2 := BB.trans (b2.mono BB.size)
        clear hE PA BB b2 r0 hCn
        by_cases hcz : e.can = 0
        · rw [if_neg (by rw [hcz]; simp)] at HS
          rw [hcz]
          obtain ⟨c0, c1, _⟩ := hE2.c
          have hpo := placeOf_any e.ix e.sb e.hix e.hsb
          rw [show e.ix * 256 + e.sb = e.pl from rfl] at hpo
          obtain ⟨z, hlk⟩ := P2.look e
          have HPU := hidOf2 (P2.put e k (by omega) (by omega))
          cases hany : (l.take k).any (fun x => x.pl == e.pl)
          · rw [hany, if_neg (by simp)] at HS
            rw [hany] at hlk
            obtain ⟨w3, hmu, P3, T3⟩ := HPU.out
            rw [HT.out] at P3
            have B3 := B2.grown T3.grown B2.size (fun j hj => by cases hj; exact Nat.le_refl _)
            clear HPU hany P2
            generalize e.pl = PL at *
            go_wp2_with (first | (go_at_call 74; refine (hpo _).mono ?_; rintro x w4 ⟨rfl, rfl⟩))
            go_roundw
            case rel => exact ⟨k + 1, by omega, by go_num, P3, HS, B3⟩
            case measure => simp [intOf]; omega
          · rw [hany, if_pos rfl] at HS
            rw [hany] at hlk
            clear HPU hany P2
            generalize e.pl = PL at *
            go_wp2_with (first | (go_at_call 74; refine (hpo _).mono ?_; rintro x w4 ⟨rfl, rfl⟩))
            go_ret
            exact ⟨ret_int (by rw [HS.out]; rfl), B2⟩
        · have d1 : ((e.can : Int) != 0) = true := by simpa using hcz
          rw [if_pos hcz] at HS
          generalize e.can = CN at *
          go_wp2
          go_ret
          exact ⟨ret_int (by rw [HS.out]), B2⟩
      · have e1 := hidOf2 (show R = 0 by rw [HR.out, List.drop_eq_nil_of_le (by omega)]; rfl)
        clear HR
        go_wp2
        go_ret
        exact ⟨ret_int (by rw [e1.out]; rfl), B1⟩
end Go.Proofs.YtahfnknbmikmkaaGreat
namespace Go.Proofs.YtahfnknbmikmkaaGreat
open Go.RowKit Go.Proofs.Ty
set_option linter.unusedVariables false
set_option maxRecDepth 1000000
set_option linter.unusedSimpArgs false
theorem build_im (e : En) (v : Vl) (x : World) : (Instr.build 106 #[(0, .agg e.arr), (1, .agg v.arr)]).run Tryz.prog x = .ok (.agg (imC e v).toArray) x := by
  kernel_rfl
theorem infoP : (Tryz.prog.info? 102).map (fun i => (i.zero, i.size, i.bytes)) = some (some (.pointer none), 1, 8) := by kernel_rfl
def ptrs (its : List Im) : List Value := its.map (fun i : Im => ptrI i.b)
theorem ptrs_len (its : List Im) : (ptrs its).length = its.length := List.length_map _
theorem ptrs_set (its : List Im) (i : Im) (n : Nat) (h : its.length < n) : (ptrs its ++ List.replicate (n - its.length) (Value.pointer none)).set its.length (ptrI i.b) = ptrs (its ++ [i]) ++ List.replicate (n - (its.length + 1)) (Value.pointer none) := by
  rw [List.set_append_right _ _ (by rw [ptrs_len]; exact Nat.le_refl _), ptrs_len, Nat.sub_self, show n - its.length = (n - (its.length + 1)) + 1 by omega, List.replicate_succ, List.set_cons_zero]
  simp [ptrs]
/-- So many items are made. -/
structure Mk (w : World) (R : Nat) (l : List En) (k : Nat) (its : List Im) (x : World) : Prop where
  row : x.heap[R]? = some (.cells (ptrs its ++ List.replicate (l.length - k) (Value.pointer none)).toArray 102 (0, 0))
  len : its.length = k
  ents : its.map Im.e = (l.take k).map En.plain
  vals : ∀ i ∈ its, i.v = i.e.df
  items : ∀ i ∈ its, Ib i.b i.e i.v x
  fresh : ∀ i ∈ its, R < i.b
  apart : (its.map Im.b).Nodup
  base : w.heap.size ≤ R
  below : Below w.heap.size w x
section
variable {w : World} {R : Nat} {l : List En} {k : Nat} {its : List Im} {x y : World}
theorem Mk.lt (h : Mk w R l k its x) : R < x.heap.size := (Array.getElem?_eq_some_iff.1 h.row).1
theorem Mk.next (h : Mk w R l k its x) (hb : Below x.heap.size x y) : Mk w R l k its y :=
  ⟨(hb.block R h.lt).trans h.row, h.len, h.ents, h.vals, fun i hi => (h.items i hi).below hb, h.fresh, h.apart, h.base, h.below.trans (hb.mono h.below.size)⟩
theorem Mk.cell (h : Mk w R l k its x) (hk : k < l.length) : x.cell? ⟨R, k, none⟩ = some (.pointer none) := by
  rw [Lib.cell_of_heap h.row]
  simp only [List.getElem?_toArray]
  rw [List.getElem?_append_right (by rw [ptrs_len, h.len]; exact Nat.le_refl _), ptrs_len, h.len]
  simp [show 0 < l.length - k by omega]
theorem Mk.frozen (h : Mk w R l k its x) (j : Nat) : x.frozen? ⟨R, j, none⟩ = false := Lib.frozen_of_heap h.row j
theorem Mk.step (h : Mk w R l k its x) (hk : k < l.length) : Mk w R l (k + 1) (its ++ [⟨x.heap.size, l[k].plain, l[k].plain.df⟩]) ((x.alloc (.cells (imC l[k].plain l[k].plain.df).toArray 106)).setCell ⟨R, k, none⟩ (ptrI x.heap.size)) := by
  have hlt := h.lt
  have hR : (x.alloc (.cells (imC l[k].plain l[k].plain.df).toArray 106)).heap[R]? = _ := (Lib.alloc_old x _ R hlt).trans h.row
  have hN := heap_alloc_new x (.cells (imC l[k].plain l[k].plain.df).toArray 106)
  have hBl : ∀ i ∈ its, i.b < x.heap.size := fun i hi => (h.items i hi).lt
  refine ⟨?_, by simp [h.len], ?_, ?_, ?_, ?_, ?_, h.base, ?_⟩
  · simp only [World.setCell, Array.getElem?_modify, hR]
    have hl := h.len
    subst hl
    have := ptrs_set its ⟨x.heap.size, l[its.length].plain, l[its.length].plain.df⟩ l.length hk
    simp only [← this]
    simp
  · rw [List.map_append, h.ents, List.take_succ_eq_append_getElem hk, List.map_append]; rfl
  · intro i hi
    rcases List.mem_append.1 hi with hi | hi
    · exact h.vals i hi
    · simp at hi; subst hi; rfl
  · intro i hi
    rcases List.mem_append.1 hi with hi | hi
    · exact ((h.items i hi).same (Lib.alloc_old x _ i.b (hBl i hi))).same (Below.heap_setCell _ ⟨R, k, none⟩ _ i.b (by have := h.fresh i hi; simp; omega))
    · simp at hi; subst hi
      exact (Below.heap_setCell _ ⟨R, k, none⟩ _ x.heap.size (by simp; omega)).trans hN
  · intro i hi
    rcases List.mem_append.1 hi with hi | hi
    · exact h.fresh i hi
    · simp at hi; subst hi; exact hlt
  · rw [List.map_append, List.nodup_append]
    refine ⟨h.apart, by simp, ?_⟩
    intro a ha b hb
    obtain ⟨i, hi, rfl⟩ := List.mem_map.1 ha
    simp at hb
    have := hBl i hi
    omega
  · have b1 : Below w.heap.size w (x.alloc (.cells (imC l[k].plain l[k].plain.df).toArray 106)) := h.below.alloc h.below.size _
    refine b1.grown (row := some R) ⟨rfl, rfl, rfl, by simp [World.setCell], fun j hj hne => Below.heap_setCell _ ⟨R, k, none⟩ _ j (fun e => hne (by rw [show j = R from e]))⟩ b1.size (fun j hj => by cases hj; exact h.base)
end
end Go.Proofs.YtahfnknbmikmkaaGreat
namespace Go.Proofs.YtahfnknbmikmkaaGreat
open Go.RowKit Go.Proofs.Ty Go.Sort Go.Lib
set_option linter.unusedVariables false
set_option maxRecDepth 1000000
set_option linter.unusedSimpArgs false
/-- Items of a row, as the library takes them. -/
abbrev Am (its : List Im) := {i : Im // i ∈ its}
def encA {its : List Im} (i : Am its) : Value := ptrI i.1.b
def arrA (its : List Im) : Array (Am its) := its.attach.toArray
theorem arrA_size (its : List Im) : (arrA its).size = its.length := by simp [arrA]
theorem one_encA {its : List Im} : OneCell (encA (its := its)) := fun _ => rfl
def cfA {its : List Im} (i j : Am its) : Int := cmpI i.1.e.pl j.1.e.pl
theorem cmpI_neg (x y : Int) : cmpI x y < 0 ↔ x < y := by
  unfold cmpI
  by_cases h1 : x < y
  · simp [h1]
  · by_cases h2 : y < x <;> simp [h1, h2]
theorem cmpI_zero (x y : Int) : cmpI x y = 0 ↔ x = y := by
  unfold cmpI
  by_cases h1 : x < y
  · simp [h1]; omega
  · by_cases h2 : y < x
    · simp [h1, h2]; omega
    · simp [h1, h2]; omega
theorem ltA {its : List Im} (i j : Am its) : ltOf cfA i j = decide (i.1.e.pl < j.1.e.pl) := by
  unfold ltOf cfA
  rw [Bool.eq_iff_iff]
  simp [cmpI_neg]
theorem swoA {its : List Im} : SWO (ltOf (cfA (its := its))) where
  irrefl x := by rw [ltA]; simp
  trans x y z h1 h2 := by rw [ltA] at *; simp at *; omega
  ntrans x y z h1 h2 := by rw [ltA] at *; simp at *; omega
theorem sortWorld_block {α : Type} [Inhabited α] (enc : α → Value) (w : World) (blk off m : Nat) (dk : Array α) (os : Array Obj) (b : Nat) (hb : b ≠ blk) (hl : b < w.heap.size) : (sortWorld enc w blk off m dk os).heap[b]? = w.heap[b]? := by
  unfold sortWorld
  rw [heap_grow_old]
  · simp only [putRow, mapBlock, Sort.ahead]
    simp [Array.getElem?_modify, Ne.symm hb]
  · simp only [putRow, mapBlock, Sort.ahead]
    simpa using hl
theorem sortWorld_size {α : Type} [Inhabited α] (enc : α → Value) (w : World) (blk off m : Nat) (dk : Array α) (os : Array Obj) : w.heap.size ≤ (sortWorld enc w blk off m dk os).heap.size := by
  simp [sortWorld, grow, putRow, mapBlock, Sort.ahead]
theorem sortWorld_row {its its' : List Im} [Inhabited (Am its)] (w : World) (R m : Nat) (dk : Array (Am its)) (os : Array Obj) (hR : w.heap[R]? = some (.cells (ptrs its).toArray 102 (0, 0))) (hd : dk.size = its.length) (he : its' = dk.toList.map (·.1)) :
    (sortWorld encA w R 0 m dk os).heap[R]? = some (.cells (ptrs its').toArray 102 (0, 0)) := by
  have hl := (Array.getElem?_eq_some_iff.1 hR).1
  unfold sortWorld
  rw [heap_grow_old]
  · simp only [putRow, mapBlock, Sort.ahead]
    simp only [Array.getElem?_modify, if_true, hR, Option.map_some]
    subst he
    have key : putCells encA 0 dk (ptrs its).toArray = (ptrs (dk.toList.map (·.1))).toArray := by
     apply Array.ext_getElem?
     intro k
     simp only [putCells, Array.getElem?_mapIdx, List.getElem?_toArray, ptrs, List.getElem?_map]
     by_cases hk : k < its.length
     · rw [List.getElem?_eq_getElem hk, Option.map_some, Option.map_some, if_pos ⟨Nat.zero_le _, by omega⟩]
       have hk2 : k < dk.toList.length := by simp; omega
       rw [List.getElem?_eq_getElem hk2]
       simp only [Option.map_some, Nat.sub_zero, encA]
       rw [getElem!_pos dk k (by omega)]
       rfl
     · rw [List.getElem?_eq_none (by omega), List.getElem?_eq_none (by simp; omega)]
       rfl
    show some (Obj.cells (putCells encA 0 dk (ptrs its).toArray) 102 (0, 0)) = _
    rw [key]
  · simp only [putRow, mapBlock, Sort.ahead]
    simpa using hl
theorem sortWorld_grown {α : Type} [Inhabited α] (enc : α → Value) (w : World) (blk off m : Nat) (dk : Array α) (os : Array Obj) : w.grownBy (sortWorld enc w blk off m dk os) (some blk) :=
  ⟨rfl, rfl, rfl, sortWorld_size enc w blk off m dk os, fun k hk hne => sortWorld_block enc w blk off m dk os k (fun e => hne (by rw [e])) hk⟩
theorem holdsA {its : List Im} [Inhabited (Am its)] {w : World} {R : Nat} (hR : w.heap[R]? = some (.cells (ptrs its).toArray 102 (0, 0))) : Holds encA w R 0 (arrA its) := by
  intro j hj
  rw [arrA_size] at hj
  refine ⟨?_, Lib.frozen_of_heap hR _⟩
  rw [Lib.cell_of_heap hR]
  simp only [Nat.zero_add, List.getElem?_toArray, ptrs, List.getElem?_map]
  rw [List.getElem?_eq_getElem hj, Option.map_some, getElem!_pos (arrA its) j (by rw [arrA_size]; exact hj)]
  simp [arrA, encA]
/-- A permutation of all of a row. -/
theorem perm_all {α : Type} [Inhabited α] {d d' : Array α} (h : PermIn 0 d.size d d') : d'.toList.Perm d.toList := by
  obtain ⟨h1, _, h3⟩ := h
  have e1 : d'.extract 0 d.size = d' := by rw [← h1]; simp
  have e2 : d.extract 0 d.size = d := by simp
  rw [e1, e2] at h3
  exact h3
theorem perm_its {its : List Im} {d' : Array (Am its)} (h : d'.toList.Perm (arrA its).toList) : (d'.toList.map (·.1)).Perm its := by
  have := h.map (fun i : Am its => i.1)
  simpa [arrA] using this
theorem sorted_its {its : List Im} [Inhabited (Am its)] {d' : Array (Am its)} (hs : SortedIn (ltOf cfA) 0 (arrA its).size d') (hsz : d'.size = (arrA its).size) (hn : ((d'.toList.map (·.1)).map (fun i : Im => i.e.pl)).Nodup) : (d'.toList.map (·.1)).Pairwise (fun x y => x.e.pl < y.e.pl) := by
  rw [List.pairwise_iff_getElem]
  intro i j hi hj hij
  simp only [List.length_map, Array.length_toList] at hi hj
  have h1 := hs i j (Nat.zero_le _) hij (by omega)
  rw [ltA, getElem!_pos d' i hi, getElem!_pos d' j hj] at h1
  simp only [List.getElem_map, Array.getElem_toList]
  have h2 : (d'[i]).1.e.pl ≠ (d'[j]).1.e.pl := by
    intro e
    have h3 := List.pairwise_iff_getElem.1 hn i j (by simpa using hi) (by simpa using hj) hij
    exact h3 (by simpa using e)
  simp at h1
  omega
end Go.Proofs.YtahfnknbmikmkaaGreat
