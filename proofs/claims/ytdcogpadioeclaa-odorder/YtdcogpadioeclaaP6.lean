/- What stays while one entry is written or set; the state of the statement OdApart. -/
import Derived.Test.YtdcogpadioeclaaP4
import Derived.Test.YtdcogpadioeclaaP5
namespace Go.Proofs.Ytdcogpadioeclaa
open Go.RowKit Go.Proofs.Ty Go.Sort Go.Lib
set_option linter.unusedVariables false
set_option maxRecDepth 1000000
set_option linter.unusedSimpArgs false
theorem fnd_setV (its : List Im) (b : Nat) (v : Vl) (ix sb : Nat) : fnd (setV its b v) ix sb = (fnd its ix sb).map (fun x => if x.b = b then ⟨x.b, x.e, v⟩ else x) := by
  unfold fnd setV
  rw [List.find?_map]
  congr 1
  congr 1
  funext x
  simp only [Function.comp]
  split <;> rfl
theorem getV_setV (its : List Im) (b : Nat) (v : Vl) (ix sb : Nat) (h : ∀ i, fnd its ix sb = some i → i.b ≠ b) : getV (setV its b v) ix sb = getV its ix sb := by
  unfold getV
  rw [fnd_setV]
  cases hf : fnd its ix sb with
  | none => rfl
  | some i => simp only [Option.map_some]; rw [if_neg (h i hf)]
theorem fnd_place {its : List Im} {ix sb : Nat} {i : Im} (h : fnd its ix sb = some i) : i.e.ix = ix ∧ i.e.sb = sb := by
  have := List.find?_some h
  simpa using this
theorem mem_b {its : List Im} (hd : (its.map Im.b).Nodup) {x y : Im} (hx : x ∈ its) (hy : y ∈ its) (e : x.b = y.b) : x = y := by
  obtain ⟨m, hm, rfl⟩ := List.getElem_of_mem hx
  obtain ⟨n, hn, rfl⟩ := List.getElem_of_mem hy
  have h1 := List.pairwise_iff_getElem.1 hd
  have hmn : m = n := by
    rcases Nat.lt_trichotomy m n with h2 | h2 | h2
    · exact (h1 m n (by simpa using hm) (by simpa using hn) h2 (by simp only [List.getElem_map]; exact e)).elim
    · exact h2
    · exact (h1 n m (by simpa using hn) (by simpa using hm) h2 (by simp only [List.getElem_map]; exact e.symm)).elim
  subst hmn; rfl
/-- What is written to one place changes no other. -/
theorem apart_set {its : List Im} (hd : (its.map Im.b).Nodup) {ix sb jx jb : Nat} {i : Im} (hf : fnd its ix sb = some i) (hne : jx ≠ ix ∨ jb ≠ sb) (v : Vl) : getV (setV its i.b v) jx jb = getV its jx jb := by
  refine getV_setV its i.b v jx jb (fun x hx e => ?_)
  have := mem_b hd (fnd_mem hx) (fnd_mem hf) e
  subst this
  have h1 := fnd_place hx
  have h2 := fnd_place hf
  omega
theorem apart_wrt {its : List Im} (hd : (its.map Im.b).Nodup) {ix sb jx jb : Nat} (hne : jx ≠ ix ∨ jb ≠ sb) (l : List UInt8) : getV (wrt its ix sb l) jx jb = getV its jx jb := by
  unfold wrt
  split
  · cases hf : fnd its ix sb with
    | none => rfl
    | some i => exact apart_set hd hf hne _
  · rfl
theorem apart_sett {its : List Im} (hd : (its.map Im.b).Nodup) {ix sb jx jb : Nat} (hne : jx ≠ ix ∨ jb ≠ sb) (v : Vl) : getV (sett its ix sb v) jx jb = getV its jx jb := by
  unfold sett
  cases hf : fnd its ix sb with
  | none => rfl
  | some i =>
    simp only
    split
    · exact apart_set hd hf hne _
    · rfl
theorem Al.sett {es : List En} {bs : List Nat} {its : List Im} (h : Al es bs its) (ix sb : Nat) (v : Vl) : Al es bs (sett its ix sb v) := by
  unfold Go.Proofs.Ytdcogpadioeclaa.sett
  split
  · exact h
  · split
    · exact h.set _ _
    · exact h
/-- The dictionary of a pair, the pair, an act: in memory. -/
structure So (w : World) (X D R E qa : Nat) (a : A8) (its : List Im) (x : World) : Prop where
  dct : Dct D R its x
  pair : x.heap[X]? = some (.cells #[.pointer (some ⟨D, 0, none⟩), .pointer (some ⟨E, 0, none⟩)] 54 (0, 0))
  act : x.heap[qa]? = some (.cells a.arr 35 (0, 0))
  below : Below w.heap.size w x
  base : ∀ b ∈ its.map Im.b, w.heap.size ≤ b
section
variable {w : World} {X D R E qa : Nat} {a : A8} {its : List Im} {x y : World}
theorem So.next (h : So w X D R E qa a its x) (hb : Below x.heap.size x y) : So w X D R E qa a its y :=
  ⟨h.dct.below hb, (hb.block X (Array.getElem?_eq_some_iff.1 h.pair).1).trans h.pair, (hb.block qa (Array.getElem?_eq_some_iff.1 h.act).1).trans h.act, h.below.trans (hb.mono h.below.size), h.base⟩
theorem So.c (h : So w X D R E qa a its x) : x.cell? ⟨X, 0, none⟩ = some (.pointer (some ⟨D, 0, none⟩)) ∧ x.cell? ⟨qa, 0, none⟩ = some (.int .i64 a.kind) ∧ x.cell? ⟨qa, 1, none⟩ = some (.int .u16 a.ix) ∧ x.cell? ⟨qa, 2, none⟩ = some (.int .u8 a.sb) ∧ x.cell? ⟨qa, 3, none⟩ = some a.bv :=
  ⟨Lib.cell_of_heap h.pair 0, Lib.cell_of_heap h.act 0, Lib.cell_of_heap h.act 1, Lib.cell_of_heap h.act 2, Lib.cell_of_heap h.act 3⟩
theorem So.r4 (h : So w X D R E qa a its x) : x.rangeAt qa 4 (vlC a.v) := wf_rng h.act 4 _ (fun j u hj => by
  match j, hj with
  | 0, hj => exact hj
  | 1, hj => exact hj
  | 2, hj => exact hj
  | j + 3, hj => simp [vlC] at hj)
theorem So.row (h : So w X D R E qa a its x) {r : Option Nat} (G : x.grownBy y r) (hr : ∀ b, r = some b → w.heap.size ≤ b ∧ ∃ cur, x.heap[b]? = some (.cells cur 33 (0, 0))) : So w X D R E qa a its y := by
  have ne : ∀ {q T : Nat} {A : Array Value} {fr : Nat × Nat}, x.heap[q]? = some (.cells A T fr) → T ≠ 33 → y.heap[q]? = x.heap[q]? := fun {q T A fr} hq ht => G.block q (Array.getElem?_eq_some_iff.1 hq).1 (fun e => by
    obtain ⟨_, cur, h1⟩ := hr q e.symm
    rw [hq] at h1
    simp at h1
    exact ht h1.2.1)
  refine ⟨⟨(ne h.dct.head (by decide)).trans h.dct.head, (ne h.dct.row (by decide)).trans h.dct.row, fun i hi => ?_, h.dct.apart, h.dct.sorted, h.dct.len⟩, (ne h.pair (by decide)).trans h.pair, (ne h.act (by decide)).trans h.act, h.below.grown G h.below.size (fun j hj => (hr j hj).1), h.base⟩
  have := h.dct.items i hi
  exact (ne (show x.heap[i.b]? = _ from this) (by decide)).trans this
theorem So.kp {its' : List Im} (h : So w X D R E qa a its x) (hd : Dct D R its' y) (hK : Kp (its.map Im.b) x y) (hb : its'.map Im.b = its.map Im.b) : So w X D R E qa a its' y := by
  have ne : ∀ {q T : Nat} {A : Array Value} {fr : Nat × Nat}, x.heap[q]? = some (.cells A T fr) → T ≠ 79 → y.heap[q]? = x.heap[q]? := fun {q T A fr} hq ht => hK.block q (Array.getElem?_eq_some_iff.1 hq).1 (fun hm => by
    obtain ⟨i, hi, e⟩ := List.mem_map.1 hm
    have h1 := h.dct.items i hi
    rw [show i.b = q from e] at h1
    have h2 : x.heap[q]? = some (.cells (imC i.e i.v).toArray 79 (0, 0)) := h1
    rw [hq] at h2
    simp at h2
    exact ht h2.2.1)
  exact ⟨hd, (ne h.pair (by decide)).trans h.pair, (ne h.act (by decide)).trans h.act, hK.below h.below h.below.size h.base, by rw [hb]; exact h.base⟩
end
theorem own_kp {its : List Im} {D R : Nat} {x y : World} {B : Nat} {c n : Nat} {v : Value} {xs : List Value} (h : x.ownsRow B 33 c v n xs) (hd : Dct D R its x) (hK : Kp (its.map Im.b) x y) : y.ownsRow B 33 c v n xs := by
  refine ⟨h.1, h.2.imp id ?_⟩
  rintro ⟨g, cap, cur, e1, e2, e3, e4⟩
  refine ⟨g, cap, cur, e1, e2, (hK.block g (Array.getElem?_eq_some_iff.1 e3).1 (fun hm => ?_)).trans e3, e4⟩
  obtain ⟨i, hi, e⟩ := List.mem_map.1 hm
  have h1 := hd.items i hi
  rw [show i.b = g from e] at h1
  have h2 : x.heap[g]? = some (.cells (imC i.e i.v).toArray 79 (0, 0)) := h1
  rw [e3] at h2
  simp at h2
theorem load_pd (x : World) (X k : Nat) (p : Option Addr) (hc : x.cell? ⟨X, k, none⟩ = some (.pointer p)) : (loadVar 37 ⟨X, k, none⟩).run Try.prog x = .ok (.pointer p) x := by
  simp [go_sem, run_underlying Try.underlying37, hc]
theorem exec_idxV {a : Act} {o : Oper} {s i : Operand} {b off n c k : Nat} (ho : o.op = .indexAddr 56 s i) (hs : a.eval s = .slice (some ⟨b, off, none⟩) n c) (hi : a.eval i = .int .i64 (k : Int)) (hk : k < n) (w : World) : (execOp a.eval o).run Try.prog w = .ok (.value (.pointer (some ⟨b, off + k * 3, none⟩))) w := by
  have h1 : (0 : Int) ≤ (k : Int) := by omega
  have h2 : (k : Int) < (n : Int) := by omega
  unfold execOp
  simp only [ho, hs, hi]
  obtain ⟨i0, hi0, hz0⟩ := info_size infoV
  simp [go_sem, run_underlying Try.underlying56, sizeOf, typeInfo, hi0, hz0, h1, h2, Addr.add_mid]
theorem quiet_pure {W : World} {ops : Array Oper} {rest : List Oper} {p : Oper} {a : Act} {Q : Act → Prop} (v : Value) (hgd : Region.wanted p (yielded ops a.tmps) = true) (hr : ∀ w, (execOp a.eval p).run Try.prog w = .ok (.value v) w)
    (hh : wpQuiet Try.prog ops (fun w' => ∃ x : Later W, w' = x.now) Q rest (a.put p.dst v)) : wpQuiet Try.prog ops (fun w' => ∃ x : Later W, w' = x.now) Q (p :: rest) a := by
  unfold wpQuiet
  rw [if_pos hgd]
  refine ⟨v, ?_, hh⟩
  rintro w' ⟨y, rfl⟩
  unfold Oper.quietAt
  rw [hr]
  exact ⟨rfl, rfl⟩
theorem own0V (w : World) : (w.alloc (.cells #[] 33)).ownsRow w.heap.size 33 3 (.slice (some ⟨w.heap.size, 0, none⟩) 0 0) ([] : List Vl).length (flatW DV []) := own_empty_e w 33 3
section
variable {w : World} {ops : Array Oper} {rest : List Oper} {o : Oper} {a : Act} {Q : Exit → Act → World → Prop}
theorem bs0V (hgd : Region.wanted o (yielded ops a.tmps) = true) (ho : o.op = .buildSlice 56 0 #[]) (hh : wpList Try.prog ops Q rest (a.put o.dst (.slice (some ⟨w.heap.size, 0, none⟩) 0 0)) (w.alloc (.cells #[] 33))) : wpList Try.prog ops Q (o :: rest) a w :=
  BigFrame.wpList_want hgd fun _ hK => wp_bs0g Try.underlying56 infoVz ho (hK _ _ hh)
theorem apV (hgd : Region.wanted o (yielded ops a.tmps) = true) (s x : Operand) (ho : o.op = .call { callee := .builtin .append, args := #[s, x], argTypes := #[56, 56] })
    (base : Nat) (v : Value) (xs : List Vl) (hs : a.eval s = v) (hown : w.ownsRow base 33 3 v xs.length (flatW DV xs))
    (vx : Value) (l : List Vl) (hx : a.eval x = vx) (hB : Wide 3 vlC w vx l) (h63 : xs.length + l.length ≤ 1172812402927) (hbase : base ≤ w.heap.size)
    (h : ∀ v' w', w'.ownsRow base 33 3 v' (xs ++ l).length (flatW DV (xs ++ l)) → w.grownBy w' v.ownBlock → wpList Try.prog ops Q rest (a.put o.dst v') w') : wpList Try.prog ops Q (o :: rest) a w :=
  BigFrame.wpList_want hgd fun _ hK => wp_append_wide DV s x 56 33 _ 32 Try.underlying56 infoVz rfl ho base v xs hs hown vx l hx hB (by unfold maxLen; omega) (by omega) hbase fun v' w' h1 h2 => hK _ _ (h v' w' h1 h2)
end
end Go.Proofs.Ytdcogpadioeclaa
