/- What stays while one entry is written or set; the state of the statement OdApart. -/
import Derived.Test.YthalhidebkhclaaP4
import Derived.Test.YthalhidebkhclaaP5
namespace Go.Proofs.Ythalhidebkhclaa
open Go.RowKit Go.Proofs.Ty Go.Sort Go.Lib
set_option linter.unusedVariables false
set_option maxRecDepth 1000000
set_option linter.unusedSimpArgs false
theorem fnd_setV (its : List Im) (b : Nat) (v : Vl) (ix sb : Nat) : fnd (setV its b v) ix sb = (fnd its ix sb).map (fun x => if x.b = b then ⟨x.b, x.e, v⟩ else x) := by
  unfold fnd setV
  rw [List.find?_map]
  congr 1
  congr 1
  funext x
  simp only [Function.comp]
  split <;> rfl
theorem getV_setV (its : List Im) (b : Nat) (v : Vl) (ix sb : Nat) (h : ∀ i, fnd its ix sb = some i → i.b ≠ b) : getV (setV its b v) ix sb = getV its ix sb := by
  unfold getV
  rw [fnd_setV]
  cases hf : fnd its ix sb with
  | none => rfl
  | some i => simp only [Option.map_some]; rw [if_neg (h i hf)]
theorem fnd_place {its : List Im} {ix sb : Nat} {i : Im} (h : fnd its ix sb = some i) : i.e.ix = ix ∧ i.e.sb = sb := by
  have := List.find?_some h
  simpa using this
theorem mem_b {its : List Im} (hd : (its.map Im.b).Nodup) {x y : Im} (hx : x ∈ its) (hy : y ∈ its) (e : x.b = y.b) : x = y := by
  obtain ⟨m, hm, rfl⟩ := List.getElem_of_mem hx
  obtain ⟨n, hn, rfl⟩ := List.getElem_of_mem hy
  have h1 := List.pairwise_iff_getElem.1 hd
  have hmn : m = n := by
    rcases Nat.lt_trichotomy m n with h2 | h2 | h2
    · exact (h1 m n (by simpa using hm) (by simpa using hn) h2 (by simp only [List.getElem_map]; exact e)).elim
    · exact h2
    · exact (h1 n m (by simpa using hn) (by simpa using hm) h2 (by simp only [List.getElem_map]; exact e.symm)).elim
  subst hmn; rfl
/-- What is written to one place changes no other. -/
theorem apart_set {its : List Im} (hd : (its.map Im.b).Nodup) {ix sb jx jb : Nat} {i : Im} (hf : fnd its ix sb = some i) (hne : jx ≠ ix ∨ jb ≠ sb) (v : Vl) : getV (setV its i.b v) jx jb = getV its jx jb := by
  refine getV_setV its i.b v jx jb (fun x hx e => ?_)
  have := mem_b hd (fnd_mem hx) (fnd_mem hf) e
  subst this
  have h1 := fnd_place hx
  have h2 := fnd_place hf
  omega
theorem apart_wrt {its : List Im} (hd : (its.map Im.b).Nodup) {ix sb jx jb : Nat} (hne : jx ≠ ix ∨ jb ≠ sb) (l : List UInt8) : getV (wrt its ix sb l) jx jb = getV its jx jb := by
  unfold wrt
  split
  · cases hf : fnd its ix sb with
    | none => rfl
    | some i => exact apart_set hd hf hne _
  · rfl
theorem apart_sett {its : List Im} (hd : (its.map Im.b).Nodup) {ix sb jx jb : Nat} (hne : jx ≠ ix ∨ jb ≠ sb) (v : Vl) : getV (sett its ix sb v) jx jb = getV its jx jb := by
  unfold sett
  cases hf : fnd its ix sb with
  | none => rfl
  | some i =>
    simp only
    split
    · exact apart_set hd hf hne _
    · rfl
theorem Al.sett {es : List En} {bs : List Nat} {its : List Im} (h : Al es bs its) (ix sb : Nat) (v : Vl) : Al es bs (sett its ix sb v) := by
  unfold Go.Proofs.Ythalhidebkhclaa.sett
  split
  · exact h
  · split
    · exact h.set _ _
    · exact h
section
variable {w : World} {X D R E qa : Nat} {a : A8} {its : List Im} {x y : World}
end
theorem own_kp {its : List Im} {D R : Nat} {x y : World} {B : Nat} {c n : Nat} {v : Value} {xs : List Value} (h : x.ownsRow B 42 c v n xs) (hd : Dct D R its x) (hK : Kp (its.map Im.b) x y) : y.ownsRow B 42 c v n xs := by
  refine ⟨h.1, h.2.imp id ?_⟩
  rintro ⟨g, cap, cur, e1, e2, e3, e4⟩
  refine ⟨g, cap, cur, e1, e2, (hK.block g (Array.getElem?_eq_some_iff.1 e3).1 (fun hm => ?_)).trans e3, e4⟩
  obtain ⟨i, hi, e⟩ := List.mem_map.1 hm
  have h1 := hd.items i hi
  rw [show i.b = g from e] at h1
  have h2 : x.heap[g]? = some (.cells (imC i.e i.v).toArray 76 (0, 0)) := h1
  rw [e3] at h2
  simp at h2
theorem load_pd (x : World) (X k : Nat) (p : Option Addr) (hc : x.cell? ⟨X, k, none⟩ = some (.pointer p)) : (loadVar 31 ⟨X, k, none⟩).run Try.prog x = .ok (.pointer p) x := by
  simp [go_sem, run_underlying Try.underlying31, hc]
theorem exec_idxV {a : Act} {o : Oper} {s i : Operand} {b off n c k : Nat} (ho : o.op = .indexAddr 68 s i) (hs : a.eval s = .slice (some ⟨b, off, none⟩) n c) (hi : a.eval i = .int .i64 (k : Int)) (hk : k < n) (w : World) : (execOp a.eval o).run Try.prog w = .ok (.value (.pointer (some ⟨b, off + k * 3, none⟩))) w := by
  have h1 : (0 : Int) ≤ (k : Int) := by omega
  have h2 : (k : Int) < (n : Int) := by omega
  unfold execOp
  simp only [ho, hs, hi]
  obtain ⟨i0, hi0, hz0⟩ := info_size infoV
  simp [go_sem, run_underlying Try.underlying68, sizeOf, typeInfo, hi0, hz0, h1, h2, Addr.add_mid]
theorem quiet_pure {W : World} {ops : Array Oper} {rest : List Oper} {p : Oper} {a : Act} {Q : Act → Prop} (v : Value) (hgd : Region.wanted p (yielded ops a.tmps) = true) (hr : ∀ w, (execOp a.eval p).run Try.prog w = .ok (.value v) w)
    (hh : wpQuiet Try.prog ops (fun w' => ∃ x : Later W, w' = x.now) Q rest (a.put p.dst v)) : wpQuiet Try.prog ops (fun w' => ∃ x : Later W, w' = x.now) Q (p :: rest) a := by
  unfold wpQuiet
  rw [if_pos hgd]
  refine ⟨v, ?_, hh⟩
  rintro w' ⟨y, rfl⟩
  unfold Oper.quietAt
  rw [hr]
  exact ⟨rfl, rfl⟩
theorem own0V (w : World) : (w.alloc (.cells #[] 42)).ownsRow w.heap.size 42 3 (.slice (some ⟨w.heap.size, 0, none⟩) 0 0) ([] : List Vl).length (flatW DV []) := own_empty_e w 42 3
section
variable {w : World} {ops : Array Oper} {rest : List Oper} {o : Oper} {a : Act} {Q : Exit → Act → World → Prop}
theorem bs0V (hgd : Region.wanted o (yielded ops a.tmps) = true) (ho : o.op = .buildSlice 68 0 #[]) (hh : wpList Try.prog ops Q rest (a.put o.dst (.slice (some ⟨w.heap.size, 0, none⟩) 0 0)) (w.alloc (.cells #[] 42))) : wpList Try.prog ops Q (o :: rest) a w :=
  BigFrame.wpList_want hgd fun _ hK => wp_bs0g Try.underlying68 infoVz ho (hK _ _ hh)
theorem apV (hgd : Region.wanted o (yielded ops a.tmps) = true) (s x : Operand) (ho : o.op = .call { callee := .builtin .append, args := #[s, x], argTypes := #[68, 68] })
    (base : Nat) (v : Value) (xs : List Vl) (hs : a.eval s = v) (hown : w.ownsRow base 42 3 v xs.length (flatW DV xs))
    (vx : Value) (l : List Vl) (hx : a.eval x = vx) (hB : Wide 3 vlC w vx l) (h63 : xs.length + l.length ≤ 1172812402927) (hbase : base ≤ w.heap.size)
    (h : ∀ v' w', w'.ownsRow base 42 3 v' (xs ++ l).length (flatW DV (xs ++ l)) → w.grownBy w' v.ownBlock → wpList Try.prog ops Q rest (a.put o.dst v') w') : wpList Try.prog ops Q (o :: rest) a w :=
  BigFrame.wpList_want hgd fun _ hK => wp_append_wide DV s x 68 42 _ 32 Try.underlying68 infoVz rfl ho base v xs hs hown vx l hx hB (by unfold maxLen; omega) (by omega) hbase fun v' w' h1 h2 => hK _ _ (h v' w' h1 h2)
end
end Go.Proofs.Ythalhidebkhclaa
