/- Rows of numbers beside a wheel; the sort of one; what a tick leaves, step by step. -/
import Derived.Test.YtjkkclojidhgdaaW13
import Derived.Maps.AppendAt
namespace Go.Proofs.Ytjkkclojidhgdaa
open Go.RowKit Go.Maps Go.WideMaps
set_option linter.unusedVariables false
set_option maxRecDepth 1000000
set_option linter.unusedSimpArgs false
theorem infoI : (Try.prog.info? 3).map (fun i => (i.zero, i.size, i.bytes)) = some (some (.int .i64 0), 1, 8) := by kernel_rfl
/-- The sort of a row of one's own. -/
theorem sort_row {w : World} {B : Nat} {ov : Value} {zs : List Int} (hrow : w.ownsRow B 3 1 ov zs.length (zs.map (Value.int .i64))) (hl : zs.length < 4611686018427387904) :
    Calls Try.prog 39 #[ov] w fun e w' => e = .returned (.tuple #[]) ∧ w'.ownsRow B 3 1 ov zs.length ((zs.mergeSort fun x y => decide (x ≤ y)).map (Value.int .i64)) ∧ w.grownBy w' ov.ownBlock := by
  rcases hrow.2 with ⟨rfl, h0⟩ | ⟨q, cap, cur, rfl, hbase, hb, h1, h2, h3, h4⟩
  · have hz : zs = [] := List.eq_nil_of_length_eq_zero h0
    subst hz
    refine (Try.slices_Sort_int_none none 0 w).mono ?_
    rintro e w' ⟨rfl, rfl⟩
    exact ⟨rfl, by simpa using hrow, ⟨rfl, rfl, rfl, Nat.le_refl _, fun _ _ _ => rfl⟩⟩
  · have hH : Go.Sort.Holds (Value.int .i64) w q 0 zs.toArray := Go.holds_of_blockI hb (by simpa using h4)
    refine (Try.slices_Sort_int q 0 cap zs w hH (Array.getElem?_eq_some_iff.1 hb).1 hl).mono ?_
    rintro e w' ⟨rfl, nn, os, rfl⟩
    exact ⟨rfl, Go.ownsRow_sortedI (by simp) hbase hb h1 h2 h3, Go.grownBy_sortedI _⟩
theorem row_ne {w : World} {B : Nat} {v : Value} {m : Nat} {xs : List Value} (h : w.ownsRow B 3 1 v m xs) {k : Nat} {A : Array Value} {T : TypeId} {fr : Nat × Nat} (hk : w.heap[k]? = some (.cells A T fr)) (hT : T ≠ 3) : some k ≠ v.ownBlock := by
  rcases h.2 with ⟨rfl, _⟩ | ⟨q, cap, cur, rfl, _, hb, _⟩
  · simp [Value.ownBlock]
  · intro e
    injection e with e
    subst e
    rw [hk] at hb
    simp at hb
    exact hT hb.2.1
theorem row_ne_map {w : World} {B : Nat} {v : Value} {m : Nat} {xs : List Value} (h : w.ownsRow B 3 1 v m xs) {b : Nat} {ts : List Tm} (hp : PM w b ts) : some b ≠ v.ownBlock := by
  rcases h.2 with ⟨rfl, _⟩ | ⟨q, cap, cur, rfl, _, hb, _⟩
  · simp [Value.ownBlock]
  · intro e
    injection e with e
    subst e
    exact hp.ne hb rfl
theorem PM.look1 {w : World} {b : Nat} {ts : List Tm} (h : PM w b ts) (hr : Rise ts) {x : Tm} (hx : x ∈ ts) (hk : x.no < 4611686018427387904) {t : TypeId} (ht : Try.prog.underlying t = some (.map 3 66)) :
    (Instr.lookup t (.map (some b)) (.int .i64 x.no) false).run Try.prog w = .ok (ptrV x.bk) w := by
  obtain ⟨v, ps, h1, h2⟩ := World.ownsMap.lookup h lawI ht (zero_ptr w) (zd := .nil) (zp := []) rfl (key_int x.no (by omega))
  have hm : (Lit.int .i64 x.no, DataW.lit (.int .i64 x.bk)) ∈ ts.map ent := List.mem_map.2 ⟨x, hx, rfl⟩
  rw [WideAt.atKey_mem _ (isKey_int x.no) (ents_apart hr) hm] at h2
  rw [h1, ptrR_lit h2]
section
variable {g now given n : Nat} {ts ls : List Tm} {bt S : Nat} {sm : Nat → Option Nat} {w : World}
/-- A row of numbers is written, or moves: the wheel stays. -/
theorem Wh.row' (h : Wh g now given n ts ls bt S sm w) {w' : World} {B : Nat} {v : Value} {m : Nat} {xs : List Value} (hr : w.ownsRow B 3 1 v m xs) (hg : w.grownBy w' v.ownBlock) : Wh g now given n ts ls bt S sm w' := by
  obtain ⟨cs, r1, r2, r3⟩ := h.row
  have key : ∀ k A T fr, T ≠ 3 → w.heap[k]? = some (Obj.cells A T fr) → w'.heap[k]? = some (Obj.cells A T fr) := fun k A T fr hT hk => (hg.block k (Array.getElem?_eq_some_iff.1 hk).1 (row_ne hr hk hT)).trans hk
  have keyM : ∀ b ts', PM w b ts' → PM w' b ts' := fun b ts' hp => hp.same (hg.block b hp.lt (row_ne_map hr hp))
  exact ⟨key _ _ _ _ (by decide) h.head, keyM _ _ h.tim, ⟨cs, key _ _ _ _ (by decide) r1, r2, r3⟩, h.none', fun j c hj hc => ⟨keyM _ _ (h.maps j c hj hc).1, (h.maps j c hj hc).2⟩, h.inj, fun t ht => key _ _ _ _ (by decide) (h.rts t ht), fun t ht => key _ _ _ _ (by decide) (h.rls t ht), h.up, h.upl, h.n0, h.n1, h.g1, h.w1, h.nos⟩
/-- A wheel works: a row of numbers stays. -/
theorem Wh.keeps (h : Wh g now given n ts ls bt S sm w) {w' : World} {B : Nat} {v : Value} {m : Nat} {xs : List Value} (hr : w.ownsRow B 3 1 v m xs) (hk : Kw (OwT g bt S n sm ts) w w') : w'.ownsRow B 3 1 v m xs := by
  obtain ⟨cs, r1, r2, r3⟩ := h.row
  rcases hr.2 with ⟨rfl, h0⟩ | ⟨q, cap, cur, rfl, hbase, hb, h1, h2, h3, h4⟩
  · exact ⟨hr.1, .inl ⟨rfl, h0⟩⟩
  · refine ⟨hr.1, .inr ⟨q, cap, cur, rfl, hbase, ?_, h1, h2, h3, h4⟩⟩
    rw [hk.keep q (Array.getElem?_eq_some_iff.1 hb).1, hb]
    rintro ((e | e | e | ⟨i, hi, e⟩) | ⟨t, ht, e⟩)
    · exact row_ne hr h.head (by decide) (by rw [← e]; rfl)
    · exact row_ne_map hr h.tim (by rw [← e]; rfl)
    · exact row_ne hr r1 (by decide) (by rw [← e]; rfl)
    · exact row_ne_map hr (h.maps i q hi e).1 rfl
    · exact row_ne hr (h.rts t ht) (by decide) (by rw [e]; rfl)
/-- What is left behind the first k that run out. -/
def aftK (now : Nat) (ts : List Tm) (k : Nat) : List Tm := ((outs now ts).take k).foldl (run1 now) ts
theorem aft_zero (now : Nat) (ts : List Tm) : aftK now ts 0 = ts := by simp [aftK]
theorem aft_succ {now : Nat} {ts : List Tm} {k : Nat} (hk : k < (outs now ts).length) : aftK now ts (k + 1) = run1 now (aftK now ts k) (outs now ts)[k] := by
  unfold aftK
  rw [List.take_succ_eq_append_getElem hk, List.foldl_append]
  rfl
structure Aft (now : Nat) (ts : List Tm) (k : Nat) : Prop where
  bkd : Bkd (aftK now ts k)
  len : (aftK now ts k).length ≤ ts.length
  mem : ∀ j (hj : j < (outs now ts).length), k ≤ j → (outs now ts)[j] ∈ aftK now ts k
  bks : ∀ x ∈ aftK now ts k, ∃ y ∈ ts, y.bk = x.bk
theorem aft_any {now : Nat} {ts : List Tm} (hr : Rise ts) (hb : Bkd ts) : ∀ k, k ≤ (outs now ts).length → Aft now ts k
  | 0, _ => ⟨by rw [aft_zero]; exact hb, by rw [aft_zero]; exact Nat.le_refl _, fun j hj _ => by rw [aft_zero]; exact (List.mem_filter.1 (List.getElem_mem hj)).1, fun x hx => by rw [aft_zero] at hx; exact ⟨x, hx, rfl⟩⟩
  | k + 1, hk => by
    have ih : Aft now ts k := aft_any hr hb k (Nat.le_of_succ_le hk)
    have hm := ih.mem k (by omega) (Nat.le_refl _)
    have hro : Rise (outs now ts) := rise_filter hr _
    refine ⟨?_, ?_, fun j hj hkj => ?_, fun x hx => ?_⟩
    · rw [aft_succ (by omega)]; exact run1_bkd ih.bkd hm
    · rw [aft_succ (by omega)]; exact Nat.le_trans (run1_len _ _ _) ih.len
    · rw [aft_succ (by omega)]
      refine run1_mem (ih.mem j hj (by omega)) ?_
      have := List.pairwise_iff_getElem.1 hro k j (by omega) hj (by omega)
      omega
    · rw [aft_succ (by omega)] at hx
      rcases mem_run1 hx with ⟨h1, _⟩ | ⟨_, rfl⟩
      · exact ih.bks x h1
      · obtain ⟨y, hy, e⟩ := ih.bks _ hm
        exact ⟨y, hy, e⟩
end
end Go.Proofs.Ytjkkclojidhgdaa
