/- The document's pass. -/
import Derived.Test.YtjkkclojidhgdaaX1
namespace Go.Proofs.Ytjkkclojidhgdaa
open Go.RowKit Go.Maps Go.WideMaps
set_option linter.unusedVariables false
set_option maxRecDepth 1000000
set_option linter.unusedSimpArgs false
/-- A timer of the document behind n ticks. -/
def dpF (n : Nat) (t : Dt) : Option Dt := if n < t.left then some { t with left := t.left - n } else if 0 < t.per then some { t with left := t.per } else none
def pdL (n : Nat) (l : List Dt) : List Dt := l.filterMap (dpF n)
/-- What is told at the last of them. -/
def tells (n : Nat) (l : List Dt) : List Int := (l.filter (fun t => !decide (n < t.left))).map (·.what)
def tlK (told : List Int) (n : Nat) (l : List Dt) : List Int := (told ++ tells n l).take 65536
theorem row_apart {w w' : World} {B : Nat} {e : TypeId} {c m : Nat} {v : Value} {xs : List Value} (h : w.ownsRow B e c v m xs) (hk : ∀ q cur, v.ownBlock = some q → w.heap[q]? = some (.cells cur e (0, 0)) → w'.heap[q]? = w.heap[q]?) : w'.ownsRow B e c v m xs := by
  rcases h.2 with ⟨rfl, h0⟩ | ⟨q, cap, cur, rfl, hbase, hb, h1, h2, h3, h4⟩
  · exact ⟨h.1, .inl ⟨rfl, h0⟩⟩
  · exact ⟨h.1, .inr ⟨q, cap, cur, rfl, hbase, (hk q cur rfl hb).trans hb, h1, h2, h3, h4⟩⟩
theorem app_dt {w : World} {ops : Array Oper} {rest : List Oper} {o : Oper} {a : Act} {Q : Exit → Act → World → Prop} (hgd : Region.wanted o (yielded ops a.tmps) = true) (s x : Operand)
    (ho : o.op = .call { callee := .builtin .append, args := #[s, x], argTypes := #[29, 29] })
    (base : Nat) (v : Value) (xs : List Dt) (hs : a.eval s = v) (hown : w.ownsRow base 59 4 v xs.length (flatW DT xs)) (t : Dt) (q : Nat) (hx : a.eval x = .slice (some ⟨q, 0, none⟩) 1 1)
    (hq : w.heap[q]? = some (.cells (dtC t).toArray 59 (0, 0))) (hl : xs.length ≤ 1024) (hbase : base ≤ w.heap.size)
    (h : ∀ v' w', w'.ownsRow base 59 4 v' (xs ++ [t]).length (flatW DT (xs ++ [t])) → w.grownBy w' v.ownBlock → wpList Try.prog ops Q rest (a.put o.dst v') w') : wpList Try.prog ops Q (o :: rest) a w := by
  obtain ⟨i0, hi, hz0, hz1, hz2⟩ := info_parts infoT
  refine BigFrame.wpList_want hgd fun K hK => wp_append_own2 w s x 29 ho base 59 i0 _ 4 32 Try.underlying29 hi hz0 hz1 hz2 rfl (by decide) v xs.length (flatW DT xs) hs hown ⟨q, 0, none⟩ 1 1 (dtC t) hx rfl ?_ ?_ (by unfold maxLen; omega) (by omega) hbase ?_
  · intro j u hj
    rw [Addr.add_mid, Lib.cell_of_heap hq, Nat.zero_add]
    simpa using hj
  · exact DT.one t
  · intro v' w' h1 h2 h3
    refine hK _ _ (h v' w' ?_ h2)
    rw [List.length_append, flatW_append]
    simpa [flatW, DT] using h1
theorem app_int {w : World} {ops : Array Oper} {rest : List Oper} {o : Oper} {a : Act} {Q : Exit → Act → World → Prop} (hgd : Region.wanted o (yielded ops a.tmps) = true) (s x : Operand)
    (ho : o.op = .call { callee := .builtin .append, args := #[s, x], argTypes := #[48, 48] })
    (base : Nat) (v : Value) (xs : List Int) (hs : a.eval s = v) (hown : w.ownsRow base 3 1 v xs.length (xs.map (Value.int .i64))) (z : Int) (q : Nat) (hx : a.eval x = .slice (some ⟨q, 0, none⟩) 1 1)
    (hq : w.heap[q]? = some (.cells #[.int .i64 z] 3 (0, 0))) (hl : xs.length ≤ 65536) (hbase : base ≤ w.heap.size)
    (h : ∀ v' w', w'.ownsRow base 3 1 v' (xs ++ [z]).length ((xs ++ [z]).map (Value.int .i64)) → w.grownBy w' v.ownBlock → (∀ k, k < w.heap.size → v'.ownBlock = some k → v.ownBlock = some k) → wpList Try.prog ops Q rest (a.put o.dst v') w') : wpList Try.prog ops Q (o :: rest) a w := by
  obtain ⟨i0, hi, hz0, hz1, hz2⟩ := info_parts infoI
  refine BigFrame.wpList_want hgd fun K hK => wp_append_own2 w s x 48 ho base 3 i0 _ 1 8 Try.underlying48 hi hz0 hz1 hz2 rfl (by decide) v xs.length (xs.map (Value.int .i64)) hs hown ⟨q, 0, none⟩ 1 1 [.int .i64 z] hx rfl ?_ ?_ (by unfold maxLen; omega) (by omega) hbase ?_
  · intro j u hj
    rw [Addr.add_mid, Lib.cell_of_heap hq, Nat.zero_add]
    simpa using hj
  · intro u hu; simp at hu; subst hu; rfl
  · intro v' w' h1 h2 h3
    refine hK _ _ (h v' w' ?_ h2 h3)
    simpa using h1
theorem dt_ld {w : World} {b o : Nat} {t : Dt} {ops : Array Oper} {rest : List Oper} {p : Oper} {f : Act} {Q : Exit → Act → World → Prop} (h : w.rangeAt b o (dtC t)) (hgd : p.guard = none) (x : Operand) (ho : p.op = .load 59 x) (hx : f.eval x = .pointer (some ⟨b, o, none⟩))
    (hh : wpList Try.prog ops Q rest (f.put p.dst (.agg #[.int .i64 t.no, .int .u64 t.left, .int .u64 t.per, .int .i64 t.what])) w) : wpList Try.prog ops Q (p :: rest) f w :=
  wpList_load_mid hgd 59 x ho b o hx (dtC t) _ h Try.underlying59 rfl infoT4 hh
/-- The state of pass between two timers. -/
structure Pz (E B now last : Nat) (l : List Dt) (v tv : Value) (w : World) (ls : List Dt) (tl : List Int) (tvk lvk : Value) (x : World) : Prop where
  xw : Xw E l now last v x
  row : x.ownsRow w.heap.size 59 4 lvk ls.length (flatW DT ls)
  tel : x.ownsRow B 3 1 tvk tl.length (tl.map (Value.int .i64))
  kw : Kw (fun j => j = E ∨ tv.ownBlock = some j) w x
  blk : ∀ j, j < w.heap.size → tvk.ownBlock = some j → tv.ownBlock = some j
  vb : ∀ j, v.ownBlock = some j → j < w.heap.size
section
variable {E B now last : Nat} {l : List Dt} {v tv : Value} {w : World} {ls : List Dt} {tl : List Int} {tvk lvk : Value} {x : World}
theorem Pz.below (h : Pz E B now last l v tv w ls tl tvk lvk x) {x' : World} (b : Below x.heap.size x x') : Pz E B now last l v tv w ls tl tvk lvk x' :=
  ⟨h.xw.below b, row_apart h.row (fun q cur _ hq => b.block q (Array.getElem?_eq_some_iff.1 hq).1), row_apart h.tel (fun q cur _ hq => b.block q (Array.getElem?_eq_some_iff.1 hq).1), h.kw.trans (Kw.below b), h.blk, h.vb⟩
theorem Pz.addL (h : Pz E B now last l v tv w ls tl tvk lvk x) {x' : World} {lv' : Value} {ls' : List Dt} (hr : x'.ownsRow w.heap.size 59 4 lv' ls'.length (flatW DT ls')) (hg : x.grownBy x' lvk.ownBlock) : Pz E B now last l v tv w ls' tl tvk lv' x' := by
  have key : ∀ q A T fr, T ≠ 59 → x.heap[q]? = some (Obj.cells A T fr) → x'.heap[q]? = x.heap[q]? := fun q A T fr hT hq => hg.block q (Array.getElem?_eq_some_iff.1 hq).1 (fun e => by
    obtain ⟨_, cur, hc⟩ := own_of h.row e.symm
    rw [hq] at hc
    simp at hc
    exact hT hc.2.1)
  refine ⟨⟨(key _ _ _ _ (by decide) h.xw.head).trans h.xw.head, h.xw.row.same hg.size (fun b A fr e hb => hg.block b (Array.getElem?_eq_some_iff.1 hb).1 (fun e2 => ?_)), h.xw.len⟩, hr, row_apart h.tel (fun q cur _ hq => key _ _ _ _ (by decide) hq), h.kw.more (O' := fun j => lvk.ownBlock = some j) ⟨hg.os, hg.tape, hg.output, hg.size, fun k hk ho => hg.block k hk (fun e => ho e.symm)⟩ (fun k hk e => ?_), h.blk, h.vb⟩
  · have h1 := h.vb b e
    have h2 := own_base h.row e2.symm
    omega
  · have h2 := own_base h.row e
    omega
theorem Pz.addT (h : Pz E B now last l v tv w ls tl tvk lvk x) {x' : World} {tv' : Value} {tl' : List Int} (hr : x'.ownsRow B 3 1 tv' tl'.length (tl'.map (Value.int .i64))) (hg : x.grownBy x' tvk.ownBlock) (hb : ∀ j, j < x.heap.size → tv'.ownBlock = some j → tvk.ownBlock = some j) : Pz E B now last l v tv w ls tl' tv' lvk x' := by
  have key : ∀ q A T fr, T ≠ 3 → x.heap[q]? = some (Obj.cells A T fr) → x'.heap[q]? = x.heap[q]? := fun q A T fr hT hq => hg.block q (Array.getElem?_eq_some_iff.1 hq).1 (fun e => by
    obtain ⟨_, cur, hc⟩ := own_of h.tel e.symm
    rw [hq] at hc
    simp at hc
    exact hT hc.2.1)
  exact ⟨⟨(key _ _ _ _ (by decide) h.xw.head).trans h.xw.head, h.xw.row.same hg.size (fun b A fr e hb => key _ _ _ _ (by decide) hb), h.xw.len⟩, row_apart h.row (fun q cur _ hq => key _ _ _ _ (by decide) hq), hr, h.kw.more (O' := fun j => tvk.ownBlock = some j) ⟨hg.os, hg.tape, hg.output, hg.size, fun k hk ho => hg.block k hk (fun e => ho e.symm)⟩ (fun k hk e => .inr (h.blk k hk e)), fun j hj e => h.blk j hj (hb j (Nat.lt_of_lt_of_le hj h.kw.size) e), h.vb⟩
end
theorem pd_take {n : Nat} {l : List Dt} {k : Nat} (hk : k < l.length) : pdL n (l.take (k + 1)) = pdL n (l.take k) ++ (dpF n l[k]).toList := by
  unfold pdL
  rw [List.take_succ_eq_append_getElem hk, List.filterMap_append]
  cases h : dpF n l[k] <;> simp [h]
theorem take_snoc (N : Nat) (A : List Int) (z : Int) : (A ++ [z]).take N = (A.take N ++ [z]).take N := by
  by_cases h : A.length ≤ N
  · rw [List.take_of_length_le h]
  · rw [List.take_append_of_le_length (by omega), List.take_append_of_le_length (by rw [List.length_take]; omega), List.take_take, Nat.min_self]
theorem tl_take {told : List Int} {n : Nat} {l : List Dt} {k : Nat} (hk : k < l.length) : tlK told n (l.take (k + 1)) = if n < l[k].left then tlK told n (l.take k) else (tlK told n (l.take k) ++ [l[k].what]).take 65536 := by
  unfold tlK tells
  rw [List.take_succ_eq_append_getElem hk, List.filter_append, List.map_append, ← List.append_assoc]
  split
  · rename_i h
    simp [h]
  · rename_i h
    rw [show List.map (·.what) (List.filter (fun t => !decide (n < t.left)) [l[k]]) = [l[k].what] by simp [h]]
    exact take_snoc _ _ _
theorem tl_len (told : List Int) (n : Nat) (l : List Dt) : (tlK told n l).length ≤ 65536 := by unfold tlK; rw [List.length_take]; omega
end Go.Proofs.Ytjkkclojidhgdaa
