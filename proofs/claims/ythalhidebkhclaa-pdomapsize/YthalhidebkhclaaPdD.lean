/- Contracts: Size. -/
import Derived.Test.YthalhidebkhclaaPdC
namespace Go.Proofs.Ythalhidebkhclaa
open Go.RowKit Go.Shelf Go.Proofs.Ty
set_option linter.unusedVariables false
set_option maxRecDepth 1000000
set_option linter.unusedSimpArgs false
attribute [local go_sem] Oper.semAt_some
/-- A slot has from 0 to 64 bits. -/
def gdS (L : List Sl) (k : Nat) : Prop := 0 ≤ (L.getD k Sl.nul).bt ∧ (L.getD k Sl.nul).bt ≤ 64
instance (L : List Sl) (k : Nat) : Decidable (gdS L k) := by unfold gdS; infer_instance
/-- How many bytes a mapping has. -/
def szC (L : List Sl) : Nat := if 64 < L.length then 0 else if ∀ k ∈ List.range L.length, gdS L k then ((en L L.length + 7) / 8).toNat else 0
theorem en_good (L : List Sl) (n : Nat) (hn : n ≤ 64) (h : ∀ k, k < n → gdS L k) : 0 ≤ en L n ∧ en L n ≤ 64 * n := by
  induction n with
  | zero => simp [en]
  | succ n ih =>
    obtain ⟨h1, h2⟩ := ih (by omega) (fun k hk => h k (by omega))
    obtain ⟨h3, h4⟩ := h n (by omega)
    unfold en
    simp only [wrap64]
    omega
/-- What stands between two rounds of Size. -/
structure Cz (w : World) (q : Nat) (a : Int) (W : World) : Prop where
  b0 : W.heap[q]? = some (.cells #[.int .i64 0] 3 (0, 0))
  b1 : W.heap[q + 1]? = some (.cells #[.int .i64 a] 3 (0, 0))
  old : Below w.heap.size w W
  sz : q + 3 ≤ W.heap.size
section
variable {w : World} {q : Nat} {a : Int} {A W : World}
theorem Cz.grown {B : Nat} {row : Option Nat} (h : Cz w q a A) (hB : w.heap.size ≤ B) (hg : A.grownBy W row) (hr : ∀ r, row = some r → B ≤ r ∧ ∃ o : Obj, A.heap[r]? = some o ∧ o.isCells = false) : Cz w q a W := by
  have hr2 := fun r e => (hr r e).2
  exact ⟨(grown_cells h.b0 hg hr2).trans h.b0, (grown_cells h.b1 hg hr2).trans h.b1, below_grown h.old hB hg (fun r e => (hr r e).1), Nat.le_trans h.sz hg.size⟩
theorem Cz.below (h : Cz w q a A) (hb : Below A.heap.size A W) : Cz w q a W :=
  ⟨(hb.block q (Array.getElem?_eq_some_iff.1 h.b0).1).trans h.b0, (hb.block _ (Array.getElem?_eq_some_iff.1 h.b1).1).trans h.b1, h.old.trans (hb.mono h.old.size), Nat.le_trans h.sz hb.size⟩
theorem Cz.next (h : Cz w q a W) (hq : w.heap.size ≤ q) (b : Int) : Cz w q b (W.setCell ⟨q + 1, 0, none⟩ (.int .i64 b)) := by
  refine ⟨(Below.heap_setCell W ⟨q + 1, 0, none⟩ _ q (by show q ≠ q + 1; omega)).trans h.b0, ?_, (Kp.cell1 W (q + 1) 0 _).below h.old h.old.size (fun b hb => by simp at hb; omega), by simpa [World.setCell] using h.sz⟩
  simp only [World.setCell, Array.getElem?_modify, h.b1]
  simp
/-- The result is written. -/
structure Cs (w : World) (q : Nat) (c : Int) (W : World) : Prop where
  b0 : W.heap[q]? = some (.cells #[.int .i64 c] 3 (0, 0))
  old : Below w.heap.size w W
theorem Cs.c {c : Int} (h : Cs w q c W) : W.cell? ⟨q, 0, none⟩ = some (.int .i64 c) := Lib.cell_of_heap h.b0 0
theorem Cs.grown {c : Int} {B : Nat} {row : Option Nat} (h : Cs w q c A) (hB : w.heap.size ≤ B) (hg : A.grownBy W row) (hr : ∀ r, row = some r → B ≤ r ∧ ∃ o : Obj, A.heap[r]? = some o ∧ o.isCells = false) : Cs w q c W :=
  ⟨(grown_cells h.b0 hg (fun r e => (hr r e).2)).trans h.b0, below_grown h.old hB hg (fun r e => (hr r e).1)⟩
theorem Cz.res (h : Cz w q a W) (hq : w.heap.size ≤ q) (c : Int) : Cs w q c (W.setCell ⟨q, 0, none⟩ (.int .i64 c)) := by
  refine ⟨?_, (Kp.cell1 W q 0 _).below h.old h.old.size (fun b hb => by simp at hb; omega)⟩
  simp only [World.setCell, Array.getElem?_modify, h.b0]
  simp
theorem Cs.put {c : Int} (h : Cs w q c W) {D : Nat} (hD : w.heap.size ≤ D) (hn : D ≠ q) (o : Obj) : Cs w q c (W.putObj D o) :=
  ⟨(World.putObj_heap_other (fun e => hn e.symm)).trans h.b0, ⟨h.old.os, h.old.tape, h.old.output, by simpa [World.putObj] using h.old.size, fun k hk => (World.putObj_heap_other (by omega)).trans (h.old.block k hk)⟩⟩
end
/-- The bits behind the last of these. -/
def zv (L : List Sl) (pre : List Nat) : Int := (pre.getLast?.map (fun x => en L (x + 1))).getD 0
theorem zv_snoc (L : List Sl) (pre : List Nat) (x : Nat) : zv L (pre ++ [x]) = en L (x + 1) := by simp [zv]
theorem zv_range (L : List Sl) (n : Nat) : zv L (List.range n) = en L n := by
  cases n with
  | zero => rfl
  | succ n => rw [List.range_succ, zv_snoc]
set_option maxRecDepth 100000 in
set_option maxHeartbeats 8000000 in
theorem pdSize_any {w : World} (v : Value) (L : List Sl) (hWd : Wide 3 slC w v L) (hL : L.length ≤ 8796093022000) : Calls Try.prog 14 #[v] w fun e w' => e = .returned (.int .i64 (szC L : Nat)) ∧ Below w.heap.size w w' := by
  obtain ⟨ao, cap, hv⟩ := hWd.shape
  obtain ⟨N, hN⟩ : ∃ N, L.length = N := ⟨_, rfl⟩
  have HN := hidOf hN
  rw [hN] at hv hL
  subst hv
  obtain ⟨q, hq⟩ : ∃ q, w.heap.size = q := ⟨_, rfl⟩
  obtain ⟨u1, hu1⟩ : ∃ x, w.alloc (.cells #[.int .i64 0] 3) = x := ⟨_, rfl⟩
  have su1 : u1.heap.size = q + 1 := by rw [← hu1, size_alloc, hq]
  have bu1 : Below w.heap.size w u1 := by rw [← hu1]; exact (Below.refl _ w).alloc (Nat.le_refl _) _
  have x0 : u1.heap[q]? = some (.cells #[.int .i64 0] 3 (0, 0)) := by rw [← hu1, ← hq]; exact heap_alloc_new w _
  by_cases h64 : 64 < N
  · have d : decide ((64 : Int) < (N : Int)) = true := by simp; omega
    have hz : szC L = 0 := by unfold szC; rw [if_pos (by rw [HN.out]; exact h64)]
    have c0 : u1.cell? ⟨q, 0, none⟩ = some (.int .i64 0) := Lib.cell_of_heap x0 0
    have f0 : u1.frozen? ⟨q, 0, none⟩ = false := Lib.frozen_of_heap x0 0
    have HC : Hid (Cs w q 0 (u1.setCell ⟨q, 0, none⟩ (.int .i64 0))) := by
      refine ⟨?_, (Kp.cell1 u1 q 0 _).below bu1 bu1.size (fun b hb => by simp at hb; omega)⟩
      simp only [World.setCell, Array.getElem?_modify, x0]
      simp
    rw [hz]
    clear bu1 x0 hz
    refine (callsIn_wide (n := 4)).1 ?_
    refine callsIn_of_wp_marks Try.func14 rfl trivial ?_ rfl
    simp only [Try.ntmps14, List.size_toArray, List.length_cons, List.length_nil, Nat.reduceAdd, Nat.reduceSub, Array.replicate_succ, Array.replicate_zero, List.push_toArray, List.append_toArray, List.nil_append, List.cons_append]
    gi_wp2
    have c9 := HC.out.c
    exact ⟨.int .i64 0, by simp [results, Try.results14, asAddr, go_sem, run_underlying Try.underlying3, c9], rfl, HC.out.old⟩
  · have d : decide ((64 : Int) < (N : Int)) = false := by simp; omega
    obtain ⟨u2, hu2⟩ : ∃ x, u1.alloc (.cells #[.int .i64 0] 3) = x := ⟨_, rfl⟩
    obtain ⟨w1, hw1⟩ : ∃ x, u2.setCell ⟨q + 1, 0, none⟩ (.int .i64 0) = x := ⟨_, rfl⟩
    obtain ⟨w2, hw2⟩ : ∃ x, w1.alloc (.cells #[.slice ao N cap] 23) = x := ⟨_, rfl⟩
    have su2 : u2.heap.size = q + 2 := by rw [← hu2, size_alloc, su1]
    have x2 : u2.heap[q + 1]? = some (.cells #[.int .i64 0] 3 (0, 0)) := by rw [← hu2, ← su1]; exact heap_alloc_new u1 _
    have y1 : u2.cell? ⟨q + 1, 0, none⟩ = some (.int .i64 0) := Lib.cell_of_heap x2 0
    have f1 : u2.frozen? ⟨q + 1, 0, none⟩ = false := Lib.frozen_of_heap x2 0
    have hs1 : w1.heap.size = q + 2 := by rw [← hw1]; simpa [World.setCell] using su2
    have hs2 : w2.heap.size = q + 3 := by rw [← hw2, size_alloc, hs1]
    have bu2 : Below u1.heap.size u1 w1 := by
      rw [← hw1, ← hu2]
      exact (Kp.cell1 _ (q + 1) 0 _).below ((Below.refl _ u1).alloc (Nat.le_refl _) _) (by rw [size_alloc]; omega) (fun b hb => by simp at hb; omega)
    have bu3 : Below w1.heap.size w1 w2 := by rw [← hw2]; exact (Below.refl _ w1).alloc (Nat.le_refl _) _
    have B1 : Below w.heap.size w w1 := bu1.trans (bu2.mono bu1.size)
    have B2 := B1.trans (bu3.mono B1.size)
    have x1 : w1.heap[q + 1]? = some (.cells #[.int .i64 0] 3 (0, 0)) := by
      rw [← hw1]
      simp only [World.setCell, Array.getElem?_modify, x2]
      simp
    have hBs : w2.heap[q + 2]? = some (.cells #[.slice ao N cap] 23 (0, 0)) := by rw [← hw2, ← hs1]; exact heap_alloc_new w1 _
    have HCZ : Hid (Cz w q 0 w2) := ⟨(bu3.block q (by omega)).trans ((bu2.block q (by omega)).trans x0), (bu3.block (q + 1) (by omega)).trans x1, B2, by omega⟩
    have hseq := ends_stops Fence.wide 3 trivial rfl (by omega) (q + 2) (.slice ao N cap) L (by rw [hN]; exact hL) w2 hBs (hWd.same B2.size (fun b _ hl => B2.block b hl))
    have HOB : Hid (∀ b, (Value.slice ao N cap).ownBlock = some b → 0 < L.length → b < q) := fun b hb h0 => by
      obtain ⟨ao', cap', he, _, hc⟩ := hWd
      injection he with he
      obtain ⟨b', off, ha, hlt, _⟩ := hc 0 h0
      rw [he, ha] at hb
      simp [Value.ownBlock] at hb
      show b < q
      omega
    have HBS := hidOf hBs
    clear bu1 bu2 bu3 B1 B2 x0 x1 x2 hBs hWd hN
    refine (callsIn_wide (n := 4)).1 ?_
    refine callsIn_of_wp_marks Try.func14 rfl trivial ?_ rfl
    simp only [Try.ntmps14, List.size_toArray, List.length_cons, List.length_nil, Nat.reduceAdd, Nat.reduceSub, Array.replicate_succ, Array.replicate_zero, List.push_toArray, List.append_toArray, List.nil_append, List.cons_append]
    gi_wp2_with (refine ⟨trivial, ?_⟩; gi_at_call 27; refine (ends_in Fence.wide 3 trivial rfl ao N cap _).mono ?_; rintro e w' ⟨rfl, rfl⟩)
    have hBl : ∀ b ∈ bks (q + 2) (.slice ao N cap) L.length, b < q + 3 ∧ b ≠ q ∧ b ≠ q + 1 := fun b hb => by
      unfold bks at hb
      simp only [List.mem_cons] at hb
      rcases hb with rfl | hb
      · omega
      · split at hb
        · have := HOB.out b (by simpa using hb) (by assumption)
          omega
        · cases hb
    refine wpIn_rangeFunc_ownH (F := Fence.wide) rfl (by omega) (gf := 45) (lb := #[.pointer (some ⟨q + 2, 0, none⟩)]) rfl trivial (enters_of Try.func45 (by kernel_rfl) rfl) hseq (fun h k => h.trans k) ?hKb (Below.refl _ _) (fun _ => rfl)
      (fun pre W => (∀ y ∈ pre, gdS L y) ∧ Cz w q (zv L pre) W)
      (fun cd pre W => cd = .ret ∧ (∃ y ∈ pre, ¬ gdS L y) ∧ Cs w q 0 W)
      ?hI ?hIx ?h0
      (fun x a' W => ∃ zz, a' = { tmps := #[.slice ao N cap, undef, .pointer (some ⟨q, 0, none⟩), .pointer (some ⟨q + 1, 0, none⟩), .pointer (some ⟨zz, 0, none⟩), .int .i64 (en L (x + 1)), .slice ao N cap, .int .i64 (N : Int), .bool false, .slice ao N cap, .func (.func 45) #[] #[.pointer (some ⟨q + 2, 0, none⟩)], .agg (L.getD x Sl.nul).arr, .int .i64 (en L (x + 1)), undef, undef, undef, undef, undef, undef, undef, undef, undef, undef, undef, undef, undef], defers := [] } ∧ Sb zz (L.getD x Sl.nul) W)
      ?hAx ?assign ?body ?done ?stop
    case hKb =>
      intro W l o o' hl ho _ _ b hb
      rw [hs2] at hl
      exact World.putObj_heap_other (by have := hBl b hb; omega)
    case hI => exact fun s A B row hs hg hr => ⟨hs.1, hs.2.grown (by omega) hg hr⟩
    case hIx =>
      rintro cd s A B row ⟨h1, h2, h5⟩ hg hr
      exact ⟨h1, h2, h5.grown (by omega) hg hr⟩
    case h0 => exact ⟨by simp, HCZ.out⟩
    case hAx =>
      rintro x a' _ A B row ⟨zz, h1, h2⟩ hg hr
      exact ⟨zz, h1, (grown_cells h2 hg (fun r e => (hr r e).2)).trans h2⟩
    case assign =>
      rintro l pre x W K ⟨hi1, hi2⟩ hK
      obtain ⟨s, hs⟩ : ∃ s, L.getD x Sl.nul = s := ⟨_, rfl⟩
      have b9 : Below W.heap.size W (W.alloc (.cells #[.int .u16 (s.ix : Int), .int .u8 (s.sb : Int), .int .i64 s.bt] 47)) := (Below.refl _ _).alloc (Nat.le_refl _) _
      have HF := hidOf (hK { tmps := #[.slice ao N cap, undef, .pointer (some ⟨q, 0, none⟩), .pointer (some ⟨q + 1, 0, none⟩), .pointer (some ⟨W.heap.size, 0, none⟩), .int .i64 (en L (x + 1)), .slice ao N cap, .int .i64 (N : Int), .bool false, .slice ao N cap, .func (.func 45) #[] #[.pointer (some ⟨q + 2, 0, none⟩)], .agg (L.getD x Sl.nul).arr, .int .i64 (en L (x + 1)), undef, undef, undef, undef, undef, undef, undef, undef, undef, undef, undef, undef, undef], defers := [] } _ (keepsFrom_below b9) (fun b hb => b9.block b (by have := hBl b hb; have := hi2.sz; omega)) ⟨hi1, hi2.below b9⟩ ⟨_, rfl, by rw [hs]; exact heap_alloc_new W _⟩)
      simp only [enV]
      rw [hs] at HF ⊢
      simp only [Sl.arr, slC] at HF ⊢
      gi_wp2
      exact HF.out
    case body =>
      rintro l pre x a' W hl hlr ⟨hi1, hi2⟩ ⟨zz, rfl, hz⟩ hlen
      obtain ⟨s, hs⟩ : ∃ s, L.getD x Sl.nul = s := ⟨_, rfl⟩
      have HGD : Hid (gdS L x ↔ (0 ≤ s.bt ∧ s.bt ≤ 64)) := by show _ ↔ _; unfold gdS; rw [hs]
      rw [hs] at hz ⊢
      have z2 := hz.c2
      have hsb := s.hb
      have hebd := en_bd L (x + 1)
      have c0 : W.cell? ⟨q, 0, none⟩ = some (.int .i64 0) := Lib.cell_of_heap hi2.b0 0
      have f0 : W.frozen? ⟨q, 0, none⟩ = false := Lib.frozen_of_heap hi2.b0 0
      have c1 : W.cell? ⟨q + 1, 0, none⟩ = some (.int .i64 (zv L pre)) := Lib.cell_of_heap hi2.b1 0
      have f1 : W.frozen? ⟨q + 1, 0, none⟩ = false := Lib.frozen_of_heap hi2.b1 0
      have HW := hidOf (And.intro hi1 hi2)
      have HZS : Hid (zv L (pre ++ [x]) = en L (x + 1)) := zv_snoc L pre x
      generalize zv L pre = zp at *
      generalize en L (x + 1) = ee at *
      clear hs hz hi1 hi2
      by_cases k1 : s.bt < 0
      · have d1 : decide (s.bt < 0) = true := by simp; omega
        gi_wp2
        exact ⟨(KeepsOthers.setCell W _ _).from _, rfl, ⟨x, by simp, fun h => by have := HGD.out.1 h; omega⟩, HW.out.2.res (by omega) 0⟩
      · have d1 : decide (s.bt < 0) = false := by simp; omega
        by_cases k2 : 64 < s.bt
        · have d2 : decide (64 < s.bt) = true := by simp; omega
          gi_wp2
          exact ⟨(KeepsOthers.setCell W _ _).from _, rfl, ⟨x, by simp, fun h => by have := HGD.out.1 h; omega⟩, HW.out.2.res (by omega) 0⟩
        · have d2 : decide (64 < s.bt) = false := by simp; omega
          gi_wp2
          refine ⟨(KeepsOthers.setCell W _ _).from _, fun b hb => Below.heap_setCell W ⟨q + 1, 0, none⟩ _ b (by have := hBl b hb; exact this.2.2), ?_, ?_⟩
          · intro y hy
            simp at hy
            rcases hy with hy | rfl
            · exact HW.out.1 y hy
            · exact HGD.out.2 (by omega)
          · rw [HZS.out]
            exact HW.out.2.next (by omega) ee
    case done =>
      rintro DD ys W hDD rfl ⟨hz, hck⟩ hK
      rw [zv_range] at hck
      have hg := en_good L L.length (by have := HN.out; omega) (fun k hk => hz k (by simpa using hk))
      obtain ⟨ee, hee⟩ : ∃ e, en L L.length = e := ⟨_, rfl⟩
      have hsz : (szC L : Int) = (ee + 8 - 1) / 8 := by
        unfold szC
        rw [if_neg (by have := HN.out; omega), if_pos hz, hee]
        omega
      rw [hee] at hck hg
      have c0 : W.cell? ⟨q, 0, none⟩ = some (.int .i64 0) := Lib.cell_of_heap hck.b0 0
      have f0 : W.frozen? ⟨q, 0, none⟩ = false := Lib.frozen_of_heap hck.b0 0
      have c1 : W.cell? ⟨q + 1, 0, none⟩ = some (.int .i64 ee) := Lib.cell_of_heap hck.b1 0
      have hqD : DD ≠ q := by intro e; rw [e, hck.b0] at hK; cases hK
      have hlo : 0 ≤ ee := hg.1
      have hhi : ee ≤ 5000 := by have := hg.2; have := HN.out; omega
      have hr := (hck.res (by omega) ((ee + 8 - 1) / 8)).put (D := DD) (by omega) hqD (.deferred none)
      have hK2 : (W.setCell ⟨q, 0, none⟩ (.int .i64 ((ee + 8 - 1) / 8))).heap[DD]? = some (.deferred (some [])) := (Below.heap_setCell W ⟨q, 0, none⟩ _ DD hqD).trans hK
      have HR := hidOf hr
      have HSZ := hidOf hsz
      clear hr hsz hz hck hee hg
      set_option pp.deepTerms true in gi_wp2
      refine ⟨by simp, .inl ⟨_, _, rfl, run_takeDeferred hK2, ?_⟩⟩
      have c6' := HR.out.c
      exact ⟨.int .i64 ((ee + 8 - 1) / 8), by simp [results, Try.results14, asAddr, go_sem, run_underlying Try.underlying3, c6'], by rw [HSZ.out], HR.out.old⟩
    case stop =>
      rintro DD cd pre W hDD ⟨k, hk, rfl⟩ ⟨rfl, ⟨y, hy, hng⟩, hcr⟩ hK
      have hsz : szC L = 0 := by
        unfold szC
        rw [if_neg (by have := HN.out; omega), if_neg]
        intro hall
        exact hng (hall y (by simp at hy ⊢; omega))
      have hqD : DD ≠ q := by intro e; rw [e, hcr.b0] at hK; cases hK
      gi_wp2
      refine ⟨by simp, .inl ⟨_, _, rfl, run_takeDeferred hK, ?_⟩⟩
      have hr := hcr.put (D := DD) (by omega) hqD (.deferred none)
      have c6' := hr.c
      exact ⟨.int .i64 0, by simp [results, Try.results14, asAddr, go_sem, run_underlying Try.underlying3, c6'], by rw [hsz]; rfl, hr.old⟩
end Go.Proofs.Ythalhidebkhclaa
