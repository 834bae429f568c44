/- Contracts: Check. -/
import Derived.Test.YthalhidebkhclaaPdB
namespace Go.Proofs.Ythalhidebkhclaa
open Go.RowKit Go.Shelf Go.Proofs.Ty
set_option linter.unusedVariables false
set_option maxRecDepth 1000000
set_option linter.unusedSimpArgs false
attribute [local go_sem] Oper.semAt_some
theorem ends_in (F : Fence) (n : Nat) (hF : F.fn 27) (hro : F.round = none) (ao : Option Addr) (N cap : Nat) (w : World) :
    CallsIn F n Try.prog 27 #[.slice ao N cap] w fun e w' => e = .returned (.func (.func 45) #[] #[.pointer (some ⟨w.heap.size, 0, none⟩)]) ∧ w' = w.alloc (.cells #[.slice ao N cap] 23) := by
  refine callsIn_of_wp Try.func27 rfl hF ?_ hro
  simp only [Try.ntmps27, List.size_toArray, List.length_cons, List.length_nil, Nat.reduceAdd, Nat.reduceSub, Array.replicate_succ, Array.replicate_zero, List.push_toArray, List.append_toArray, List.nil_append, List.cons_append]
  gi_wp2
  go_ret
  exact ⟨rfl, rfl⟩
theorem Wide.kb {v : Value} {L : List Sl} {A B : World} (h : Wide 3 slC A v L) (hs : A.heap.size ≤ B.heap.size) (hb : ∀ b, v.ownBlock = some b → b < A.heap.size → B.heap[b]? = A.heap[b]?) : Wide 3 slC B v L := h.same hs hb
theorem ends_stops (F : Fence) (n : Nat) (hF : F.fn 45) (hro : F.round = none) (hn : 1 ≤ n) (Bs : Nat) (v : Value) (L : List Sl) (hL : L.length ≤ 8796093022000) (w : World) (hBs : w.heap[Bs]? = some (.cells #[v] 23 (0, 0))) (hWd : Wide 3 slC w v L) :
    SeqStopsK F n Try.prog 45 #[.pointer (some ⟨Bs, 0, none⟩)] (enV L) (Kb (bks Bs v L.length)) (fun ys => ys = List.range L.length) (fun pre => ∃ k, k ≤ L.length ∧ pre = List.range k) L.length w := fun l J Jx W hW hJ _ hY h0 =>
  ends1_in F n hF hro hn l Bs v L hL J Jx (fun s A B hs hg => hJ s A B none hs hg (fun r e => by cases e)) (fun pre x W h1 h2 _ => hY pre x W h1 h2) W ((hW.block Bs (Array.getElem?_eq_some_iff.1 hBs).1).trans hBs) (hWd.same hW.size (fun b _ hl => hW.block b hl)) h0
/-- The code of the slot k. -/
def ck1 (its : List Im) (inn : Bool) (L : List Sl) (k : Nat) : Nat := if refC its (L.getD k Sl.nul) inn ≠ 0 then refC its (L.getD k Sl.nul) inn else if 64 < en L (k + 1) then 100925506 else 0
/-- Why a mapping can't be. -/
def ckC (its : List Im) (inn : Bool) (L : List Sl) : Nat := (((List.range L.length).map (ck1 its inn L)).find? (fun c => decide (c ≠ 0))).getD 0
theorem ckC_none (its : List Im) (inn : Bool) (L : List Sl) (h : ∀ k ∈ List.range L.length, ck1 its inn L k = 0) : ckC its inn L = 0 := by
  unfold ckC
  rw [List.find?_eq_none.2]
  · rfl
  · intro c hc
    obtain ⟨k, hk, rfl⟩ := List.mem_map.1 hc
    simp [h k hk]
theorem ckC_some (its : List Im) (inn : Bool) (L : List Sl) (k : Nat) (hk : k ≤ L.length) (p : List Nat) (x : Nat) (hp : List.range k = p ++ [x]) (h0 : ∀ y ∈ p, ck1 its inn L y = 0) (hx : ck1 its inn L x ≠ 0) : ckC its inn L = ck1 its inn L x := by
  unfold ckC
  have e : List.range L.length = List.range k ++ (List.range (L.length - k)).map (k + ·) := by
    rw [← List.range_add, Nat.add_sub_cancel' hk]
  rw [e, hp, List.map_append, List.map_append, List.find?_append, List.find?_append, List.find?_eq_none.2]
  · simp [hx]
  · intro c hc
    obtain ⟨y, hy, rfl⟩ := List.mem_map.1 hc
    simp [h0 y hy]
theorem grown_cells {A B : World} {row : Option Nat} {k : Nat} {cs : Array Value} {T : TypeId} {fr : Nat × Nat} (h : A.heap[k]? = some (.cells cs T fr)) (hg : A.grownBy B row) (hr : ∀ r, row = some r → ∃ o : Obj, A.heap[r]? = some o ∧ o.isCells = false) : B.heap[k]? = A.heap[k]? := by
  refine hg.block k (Array.getElem?_eq_some_iff.1 h).1 (fun e => ?_)
  obtain ⟨o, ho, hc⟩ := hr k e.symm
  rw [h] at ho
  injection ho with ho
  subst ho
  cases hc
/-- What stands between two rounds of Check. -/
structure Ck (w : World) (q D : Nat) (inn : Bool) (W : World) : Prop where
  b3 : W.heap[q]? = some (.cells #[.pointer (some ⟨D, 0, none⟩)] 31 (0, 0))
  b5 : W.heap[q + 1]? = some (.cells #[.bool inn] 4 (0, 0))
  b6 : W.heap[q + 2]? = some (.cells #[.int .u32 0] 38 (0, 0))
  old : Below w.heap.size w W
  sz : q + 4 ≤ W.heap.size
theorem below_grown {w A W : World} {B : Nat} {row : Option Nat} (h : Below w.heap.size w A) (hB : w.heap.size ≤ B) (hg : A.grownBy W row) (hr : ∀ r, row = some r → B ≤ r) : Below w.heap.size w W :=
  ⟨hg.os.trans h.os, hg.tape.trans h.tape, hg.output.trans h.output, Nat.le_trans h.size hg.size, fun k hk => (hg.block k (Nat.lt_of_lt_of_le hk h.size) (fun e => by have := hr k e.symm; omega)).trans (h.block k hk)⟩
theorem Ck.grown {w : World} {q D : Nat} {inn : Bool} {B : Nat} {A W : World} {row : Option Nat} (h : Ck w q D inn A) (hB : w.heap.size ≤ B) (hg : A.grownBy W row) (hr : ∀ r, row = some r → B ≤ r ∧ ∃ o : Obj, A.heap[r]? = some o ∧ o.isCells = false) : Ck w q D inn W := by
  have hr2 := fun r e => (hr r e).2
  exact ⟨(grown_cells h.b3 hg hr2).trans h.b3, (grown_cells h.b5 hg hr2).trans h.b5, (grown_cells h.b6 hg hr2).trans h.b6, below_grown h.old hB hg (fun r e => (hr r e).1), Nat.le_trans h.sz hg.size⟩
theorem Ck.below {w : World} {q D : Nat} {inn : Bool} {A W : World} (h : Ck w q D inn A) (hb : Below A.heap.size A W) : Ck w q D inn W :=
  ⟨(hb.block q (Array.getElem?_eq_some_iff.1 h.b3).1).trans h.b3, (hb.block _ (Array.getElem?_eq_some_iff.1 h.b5).1).trans h.b5, (hb.block _ (Array.getElem?_eq_some_iff.1 h.b6).1).trans h.b6, h.old.trans (hb.mono h.old.size), Nat.le_trans h.sz hb.size⟩
theorem Kp.cell1 (w : World) (g k : Nat) (v : Value) : Kp [g] w (w.setCell ⟨g, k, none⟩ v) :=
  ⟨rfl, rfl, rfl, by simp [World.setCell], fun k hk hn => Below.heap_setCell w _ v k (by simpa using hn)⟩
theorem noc_lt (its : List Im) (ix : Nat) : noc its ix < 4294967296 := by unfold noc; split <;> decide
theorem wc_lt (its : List Im) (ix sb : Nat) (l : List UInt8) : wc its ix sb l < 4294967296 := by
  unfold wc
  split
  · exact noc_lt _ _
  · unfold wcode
    split
    · decide
    · split
      · unfold bey
        split
        · decide
        · split
          · decide
          · split <;> decide
      · split
        · decide
        · split <;> decide
/-- The result is written. -/
structure Cr (w : World) (q c : Nat) (W : World) : Prop where
  b6 : W.heap[q + 2]? = some (.cells #[.int .u32 (c : Int)] 38 (0, 0))
  old : Below w.heap.size w W
  sz : q + 4 ≤ W.heap.size
theorem Cr.c {w : World} {q c : Nat} {W : World} (h : Cr w q c W) : W.cell? ⟨q + 2, 0, none⟩ = some (.int .u32 (c : Int)) := Lib.cell_of_heap h.b6 0
theorem Cr.grown {w : World} {q c : Nat} {B : Nat} {A W : World} {row : Option Nat} (h : Cr w q c A) (hB : w.heap.size ≤ B) (hg : A.grownBy W row) (hr : ∀ r, row = some r → B ≤ r ∧ ∃ o : Obj, A.heap[r]? = some o ∧ o.isCells = false) : Cr w q c W :=
  ⟨(grown_cells h.b6 hg (fun r e => (hr r e).2)).trans h.b6, below_grown h.old hB hg (fun r e => (hr r e).1), Nat.le_trans h.sz hg.size⟩
theorem Ck.res {w : World} {q D : Nat} {inn : Bool} {W : World} (h : Ck w q D inn W) (hq : w.heap.size ≤ q) (c : Nat) : Cr w q c (W.setCell ⟨q + 2, 0, none⟩ (.int .u32 (c : Int))) := by
  refine ⟨?_, ?_, by simpa [World.setCell] using h.sz⟩
  · simp only [World.setCell, Array.getElem?_modify, h.b6]
    simp
  · exact (Kp.cell1 W (q + 2) 0 _).below h.old h.old.size (fun b hb => by simp at hb; omega)
theorem Cr.put {w : World} {q c : Nat} {W : World} (h : Cr w q c W) (hq : w.heap.size ≤ q) {D : Nat} (hD : q + 4 ≤ D ∨ w.heap.size ≤ D) (hn : D ≠ q + 2) (o : Obj) : Cr w q c (W.putObj D o) :=
  ⟨(World.putObj_heap_other (fun e => hn e.symm)).trans h.b6, ⟨h.old.os, h.old.tape, h.old.output, by simpa [World.putObj] using h.old.size, fun k hk => (World.putObj_heap_other (by omega)).trans (h.old.block k hk)⟩, by simpa [World.putObj] using h.sz⟩
theorem refC_lt (its : List Im) (s : Sl) (inn : Bool) : refC its s inn < 4294967296 := by
  unfold refC
  split
  · exact wc_lt its s.ix s.sb []
  · split <;> omega
theorem keepsFrom_below {B : Nat} {A W : World} (h : Below A.heap.size A W) : KeepsFrom B A W := ⟨h.size, fun k o _ hk _ => (h.block k (Array.getElem?_eq_some_iff.1 hk).1).trans hk⟩
set_option maxRecDepth 100000 in
set_option maxHeartbeats 8000000 in
theorem pdCheck_any {D R : Nat} {its : List Im} {w : World} (h : Dct D R its w) (v : Value) (L : List Sl) (hWd : Wide 3 slC w v L) (hL : L.length ≤ 8796093022000) (inn : Bool) : Calls Try.prog 18 #[.pointer (some ⟨D, 0, none⟩), v, .bool inn] w fun e w' => e = .returned (.int .u32 (ckC its inn L : Nat)) ∧ Below w.heap.size w w' := by
  obtain ⟨ao, cap, hv⟩ := hWd.shape
  obtain ⟨N, hN⟩ : ∃ N, L.length = N := ⟨_, rfl⟩
  have HN := hidOf hN
  rw [hN] at hv
  subst hv
  obtain ⟨q, hq⟩ : ∃ q, w.heap.size = q := ⟨_, rfl⟩
  obtain ⟨u1, hu1⟩ : ∃ x, w.alloc (.cells #[.pointer (some ⟨D, 0, none⟩)] 31) = x := ⟨_, rfl⟩
  obtain ⟨u2, hu2⟩ : ∃ x, u1.alloc (.cells #[.bool inn] 4) = x := ⟨_, rfl⟩
  obtain ⟨w1, hw1⟩ : ∃ x, u2.alloc (.cells #[.int .u32 0] 38) = x := ⟨_, rfl⟩
  obtain ⟨w2, hw2⟩ : ∃ x, w1.alloc (.cells #[.slice ao N cap] 23) = x := ⟨_, rfl⟩
  have su1 : u1.heap.size = q + 1 := by rw [← hu1, size_alloc, hq]
  have su2 : u2.heap.size = q + 2 := by rw [← hu2, size_alloc, su1]
  have hs1 : w1.heap.size = q + 3 := by rw [← hw1, size_alloc, su2]
  have hs2 : w2.heap.size = q + 4 := by rw [← hw2, size_alloc, hs1]
  have bu1 : Below w.heap.size w u1 := by rw [← hu1]; exact (Below.refl _ w).alloc (Nat.le_refl _) _
  have bu2 : Below u1.heap.size u1 u2 := by rw [← hu2]; exact (Below.refl _ u1).alloc (Nat.le_refl _) _
  have bu3 : Below u2.heap.size u2 w1 := by rw [← hw1]; exact (Below.refl _ u2).alloc (Nat.le_refl _) _
  have bu4 : Below w1.heap.size w1 w2 := by rw [← hw2]; exact (Below.refl _ w1).alloc (Nat.le_refl _) _
  have B1 : Below w.heap.size w w1 := (bu1.trans (bu2.mono bu1.size)).trans (bu3.mono (bu1.trans (bu2.mono bu1.size)).size)
  have B2 := B1.trans (bu4.mono B1.size)
  have x3 : w1.heap[q]? = some (.cells #[.pointer (some ⟨D, 0, none⟩)] 31 (0, 0)) := (bu3.block q (by omega)).trans ((bu2.block q (by omega)).trans (by rw [← hu1, ← hq]; exact heap_alloc_new w _))
  have x5 : w1.heap[q + 1]? = some (.cells #[.bool inn] 4 (0, 0)) := (bu3.block (q + 1) (by omega)).trans (by rw [← hu2, ← su1]; exact heap_alloc_new u1 _)
  have x6 : w1.heap[q + 2]? = some (.cells #[.int .u32 0] 38 (0, 0)) := by rw [← hw1, ← su2]; exact heap_alloc_new u2 _
  have hBs : w2.heap[q + 3]? = some (.cells #[.slice ao N cap] 23 (0, 0)) := by rw [← hw2, ← hs1]; exact heap_alloc_new w1 _
  have HCK : Hid (Ck w q D inn w2) := ⟨(bu4.block q (by omega)).trans x3, (bu4.block (q + 1) (by omega)).trans x5, (bu4.block (q + 2) (by omega)).trans x6, B2, by omega⟩
  have hseq := ends_stops Fence.wide 3 trivial rfl (by omega) (q + 3) (.slice ao N cap) L hL w2 hBs (hWd.same B2.size (fun b _ hl => B2.block b hl))
  have c3 : w1.cell? ⟨q, 0, none⟩ = some (.pointer (some ⟨D, 0, none⟩)) := Lib.cell_of_heap x3 0
  have HOB : Hid (∀ b, (Value.slice ao N cap).ownBlock = some b → 0 < L.length → b < q) := fun b hb h0 => by
    obtain ⟨ao', cap', he, _, hc⟩ := hWd
    injection he with he
    obtain ⟨b', off, ha, hlt, _⟩ := hc 0 h0
    rw [he, ha] at hb
    simp [Value.ownBlock] at hb
    show b < q
    omega
  have HD := hidOf h
  have HBS := hidOf hBs
  clear bu1 bu2 bu3 bu4 B1 B2 x3 x5 x6 h hBs hWd
  refine (callsIn_wide (n := 4)).1 ?_
  refine callsIn_of_wp_marks Try.func18 rfl trivial ?_ rfl
  simp only [Try.ntmps18, List.size_toArray, List.length_cons, List.length_nil, Nat.reduceAdd, Nat.reduceSub, Array.replicate_succ, Array.replicate_zero, List.push_toArray, List.append_toArray, List.nil_append, List.cons_append]
  gi_wp2_with (refine ⟨trivial, ?_⟩; gi_at_call 27; refine (ends_in Fence.wide 3 trivial rfl ao N cap _).mono ?_; rintro e w' ⟨rfl, rfl⟩)
  have hBl : ∀ b ∈ bks (q + 3) (.slice ao N cap) L.length, b < q + 4 := fun b hb => by
    unfold bks at hb
    simp only [List.mem_cons] at hb
    rcases hb with rfl | hb
    · omega
    · split at hb
      · have := HOB.out b (by simpa using hb) (by assumption)
        omega
      · cases hb
  refine wpIn_rangeFunc_ownH (F := Fence.wide) rfl (by omega) (gf := 45) (lb := #[.pointer (some ⟨q + 3, 0, none⟩)]) rfl trivial (enters_of Try.func45 (by kernel_rfl) rfl) hseq (fun h k => h.trans k) ?hKb (Below.refl _ _) (fun _ => rfl)
    (fun pre W => (∀ y ∈ pre, ck1 its inn L y = 0) ∧ Ck w q D inn W)
    (fun cd pre W => cd = .ret ∧ ∃ p x, pre = p ++ [x] ∧ (∀ y ∈ p, ck1 its inn L y = 0) ∧ ck1 its inn L x ≠ 0 ∧ Cr w q (ck1 its inn L x) W)
    ?hI ?hIx ?h0
    (fun x a' W => ∃ zz, a' = { tmps := #[.pointer (some ⟨D, 0, none⟩), .slice ao N cap, .bool inn, .pointer (some ⟨q, 0, none⟩), undef, .pointer (some ⟨q + 1, 0, none⟩), .pointer (some ⟨q + 2, 0, none⟩), .pointer (some ⟨zz, 0, none⟩), .int .i64 (en L (x + 1)), undef, .pointer (some ⟨D, 0, none⟩), .bool false, .slice ao N cap, .func (.func 45) #[] #[.pointer (some ⟨q + 3, 0, none⟩)], .agg (L.getD x Sl.nul).arr, .int .i64 (en L (x + 1)), undef, undef, undef, undef, undef, undef, undef, undef, undef], defers := [] } ∧ Sb zz (L.getD x Sl.nul) W)
    ?hAx ?assign ?body ?done ?stop
  case hKb =>
    intro W l o o' hl ho _ _ b hb
    rw [hs2] at hl
    exact World.putObj_heap_other (by have := hBl b hb; omega)
  case hI => exact fun s A B row hs hg hr => ⟨hs.1, hs.2.grown (by omega) hg hr⟩
  case hIx =>
    rintro cd s A B row ⟨h1, p, x, h2, h3, h4, h5⟩ hg hr
    exact ⟨h1, p, x, h2, h3, h4, h5.grown (by omega) hg hr⟩
  case h0 => exact ⟨by simp, HCK.out⟩
  case hAx =>
    rintro x a' _ A B row ⟨zz, h1, h2⟩ hg hr
    exact ⟨zz, h1, (grown_cells h2 hg (fun r e => (hr r e).2)).trans h2⟩
  case assign =>
    rintro l pre x W K ⟨hi1, hi2⟩ hK
    obtain ⟨s, hs⟩ : ∃ s, L.getD x Sl.nul = s := ⟨_, rfl⟩
    have HS := hidOf hs
    have b9 : Below W.heap.size W (W.alloc (.cells #[.int .u16 (s.ix : Int), .int .u8 (s.sb : Int), .int .i64 s.bt] 47)) := (Below.refl _ _).alloc (Nat.le_refl _) _
    have HF := hidOf (hK { tmps := #[.pointer (some ⟨D, 0, none⟩), .slice ao N cap, .bool inn, .pointer (some ⟨q, 0, none⟩), undef, .pointer (some ⟨q + 1, 0, none⟩), .pointer (some ⟨q + 2, 0, none⟩), .pointer (some ⟨W.heap.size, 0, none⟩), .int .i64 (en L (x + 1)), undef, .pointer (some ⟨D, 0, none⟩), .bool false, .slice ao N cap, .func (.func 45) #[] #[.pointer (some ⟨q + 3, 0, none⟩)], .agg (L.getD x Sl.nul).arr, .int .i64 (en L (x + 1)), undef, undef, undef, undef, undef, undef, undef, undef, undef], defers := [] } _ (keepsFrom_below b9) (fun b hb => b9.block b (by have := hBl b hb; have := hi2.sz; omega)) ⟨hi1, hi2.below b9⟩ ⟨_, rfl, by rw [hs]; exact heap_alloc_new W _⟩)
    simp only [enV]
    rw [hs] at HF ⊢
    simp only [Sl.arr, slC] at HF ⊢
    gi_wp2
    exact HF.out
  case body =>
    rintro l pre x a' W hl hlr ⟨hi1, hi2⟩ ⟨zz, rfl, hz⟩ hlen
    obtain ⟨s, hs⟩ : ∃ s, L.getD x Sl.nul = s := ⟨_, rfl⟩
    have HCX : Hid (ck1 its inn L x = if refC its s inn ≠ 0 then refC its s inn else if 64 < en L (x + 1) then 100925506 else 0) := by show _ = _; rw [← hs]; rfl
    rw [hs] at hz ⊢
    have hRf : Calls Try.prog 35 #[.pointer (some ⟨D, 0, none⟩), .agg #[.int .u16 (s.ix : Int), .int .u8 (s.sb : Int), .int .i64 s.bt], .bool inn] W fun e w' => e = .returned (.int .u32 (refC its s inn : Nat)) ∧ Below W.heap.size W w' := refused_any (HD.out.below hi2.old) s inn
    have y3 : W.cell? ⟨q, 0, none⟩ = some (.pointer (some ⟨D, 0, none⟩)) := Lib.cell_of_heap hi2.b3 0
    have y5 : W.cell? ⟨q + 1, 0, none⟩ = some (.bool inn) := Lib.cell_of_heap hi2.b5 0
    have z0 := hz.c0
    have z1 := hz.c1
    have z2 := hz.c2
    have hebd := en_bd L (x + 1)
    obtain ⟨RC, hRC⟩ : ∃ c, refC its s inn = c := ⟨_, rfl⟩
    rw [hRC] at hRf HCX
    obtain ⟨ee, hee⟩ : ∃ c, en L (x + 1) = c := ⟨_, rfl⟩
    rw [hee] at HCX hebd ⊢
    have hrl : RC < 4294967296 := by rw [← hRC]; exact refC_lt its s inn
    have HW := hidOf (And.intro hi1 hi2)
    clear hs hz hRC hee hi1 hi2
    by_cases c1 : RC = 0
    · have d1 : ((RC : Int) != 0) = false := by simp; omega
      by_cases c2 : 64 < ee
      · have d2 : decide ((64 : Int) < ee) = true := by simp; omega
        gi_wp2_with (refine ⟨trivial, ?_⟩; gi_at_call 35; refine (CallsIn.inRound l (callsIn_wide.2 hRf)).mono ?_; rintro e X3 ⟨rfl, b3⟩; have HC3 := hidOf (HW.out.2.below b3); have HB3 := hidOf b3; have c6 : X3.cell? ⟨q + 2, 0, none⟩ = some (.int .u32 0) := Lib.cell_of_heap HC3.out.b6 0; have f6 : X3.frozen? ⟨q + 2, 0, none⟩ = false := Lib.frozen_of_heap HC3.out.b6 0; clear b3)
        have e9 : ck1 its inn L x = 100925506 := by rw [HCX.out, if_neg (by simpa using c1), if_pos c2]
        refine ⟨(keepsFrom_below HB3.out).trans ((KeepsOthers.setCell X3 _ _).from _), rfl, pre, x, rfl, HW.out.1, by rw [e9]; decide, ?_⟩
        rw [e9]
        exact HC3.out.res (by omega) 100925506
      · have d2 : decide ((64 : Int) < ee) = false := by simp; omega
        gi_wp2_with (refine ⟨trivial, ?_⟩; gi_at_call 35; refine (CallsIn.inRound l (callsIn_wide.2 hRf)).mono ?_; rintro e X3 ⟨rfl, b3⟩; have HC3 := hidOf (HW.out.2.below b3); have HB3 := hidOf b3; clear b3)
        have e9 : ck1 its inn L x = 0 := by rw [HCX.out, if_neg (by simpa using c1), if_neg (by omega)]
        refine ⟨keepsFrom_below HB3.out, fun b hb => HB3.out.block b (by have := hBl b hb; have := HW.out.2.sz; omega), ?_, HC3.out⟩
        intro y hy
        simp at hy
        rcases hy with hy | rfl
        · exact HW.out.1 y hy
        · exact e9
    · have d1 : ((RC : Int) != 0) = true := by simp; omega
      gi_wp2_with (refine ⟨trivial, ?_⟩; gi_at_call 35; refine (CallsIn.inRound l (callsIn_wide.2 hRf)).mono ?_; rintro e X3 ⟨rfl, b3⟩; have HC3 := hidOf (HW.out.2.below b3); have HB3 := hidOf b3; have c6 : X3.cell? ⟨q + 2, 0, none⟩ = some (.int .u32 0) := Lib.cell_of_heap HC3.out.b6 0; have f6 : X3.frozen? ⟨q + 2, 0, none⟩ = false := Lib.frozen_of_heap HC3.out.b6 0; clear b3)
      have e9 : ck1 its inn L x = RC := by rw [HCX.out, if_pos c1]
      refine ⟨(keepsFrom_below HB3.out).trans ((KeepsOthers.setCell X3 _ _).from _), rfl, pre, x, rfl, HW.out.1, by rw [e9]; exact c1, ?_⟩
      rw [e9]
      exact HC3.out.res (by omega) RC
  case done =>
    rintro DD ys W hDD rfl ⟨hz, hck⟩ hK
    have hcc := ckC_none its inn L hz
    have c6 : W.cell? ⟨q + 2, 0, none⟩ = some (.int .u32 0) := Lib.cell_of_heap hck.b6 0
    have f6 : W.frozen? ⟨q + 2, 0, none⟩ = false := Lib.frozen_of_heap hck.b6 0
    have hqD : DD ≠ q + 2 := by intro e; rw [e, hck.b6] at hK; cases hK
    have hK2 : (W.setCell ⟨q + 2, 0, none⟩ (.int .u32 0)).heap[DD]? = some (.deferred (some [])) := (Below.heap_setCell W ⟨q + 2, 0, none⟩ _ DD hqD).trans hK
    gi_wp2
    refine ⟨by simp, .inl ⟨_, _, rfl, run_takeDeferred hK2, ?_⟩⟩
    have hr := (hck.res (by omega) 0).put (by omega) (.inl (by omega)) hqD (.deferred none)
    have c6' : ((W.setCell ⟨q + 2, 0, none⟩ (.int .u32 0)).putObj DD (.deferred none)).cell? ⟨q + 2, 0, none⟩ = some (.int .u32 0) := hr.c
    exact ⟨.int .u32 0, by simp [results, Try.results18, asAddr, go_sem, run_underlying Try.underlying38, c6'], by rw [hcc]; rfl, hr.old⟩
  case stop =>
    rintro DD cd pre W hDD ⟨k, hk, rfl⟩ ⟨rfl, p, x, hp, h3, h4, hcr⟩ hK
    have hcc := ckC_some its inn L k hk p x hp h3 h4
    have hqD : DD ≠ q + 2 := by intro e; rw [e, hcr.b6] at hK; cases hK
    gi_wp2
    refine ⟨by simp, .inl ⟨_, _, rfl, run_takeDeferred hK, ?_⟩⟩
    have hr := hcr.put (by omega) (.inl (by omega)) hqD (.deferred none)
    have c6' := hr.c
    exact ⟨.int .u32 (ck1 its inn L x : Nat), by simp [results, Try.results18, asAddr, go_sem, run_underlying Try.underlying38, c6'], by rw [hcc], hr.old⟩
end Go.Proofs.Ythalhidebkhclaa
