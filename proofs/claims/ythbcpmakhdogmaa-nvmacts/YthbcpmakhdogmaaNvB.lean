/- Contracts: writeBytes. -/
import Derived.Test.YthbcpmakhdogmaaNvI
namespace Go.Proofs.Ythbcpmakhdogmaa
open Go.RowKit Go.Shelf Go.Proofs.Ty Go.Proofs.Nv Go.Proofs.Bits
set_option linter.unusedVariables false
set_option maxRecDepth 1000000
set_option linter.unusedSimpArgs false
attribute [local go_sem] Oper.semAt_some
/-- Parts written one behind the other, whichever they are. -/
def wrF (c : Ch) (page : Nat) (b : List UInt8) (l : List Nat) : (Ch × Bool) × Nat :=
  l.foldl (fun s j => (if s.1.2 then s.1.1.wr ((page + s.2 : Nat) : Int) (pad (chunk b j)) else s.1, s.2 + 1)) ((c, true), 0)
theorem wrF_snoc (c : Ch) (page : Nat) (b : List UInt8) (l : List Nat) (j : Nat) : wrF c page b (l ++ [j]) = (if (wrF c page b l).1.2 then (wrF c page b l).1.1.wr ((page + (wrF c page b l).2 : Nat) : Int) (pad (chunk b j)) else (wrF c page b l).1, (wrF c page b l).2 + 1) := by
  simp [wrF]
theorem wrF_snd (c : Ch) (page : Nat) (b : List UInt8) (l : List Nat) : (wrF c page b l).2 = l.length := by
  have : ∀ (l : List Nat) (s : (Ch × Bool) × Nat), (l.foldl (fun s j => (if s.1.2 then s.1.1.wr ((page + s.2 : Nat) : Int) (pad (chunk b j)) else s.1, s.2 + 1)) s).2 = s.2 + l.length := by
    intro l
    induction l with
    | nil => intro s; rfl
    | cons j r ih => intro s; rw [List.foldl_cons, ih]; simp only [List.length_cons]; omega
  have h := this l ((c, true), 0)
  rw [Nat.zero_add] at h
  exact h
theorem wrF_range (c : Ch) (page : Nat) (b : List UInt8) (k : Nat) : (wrF c page b (List.range k)).1 = c.wrK page b k := by
  induction k with
  | zero => rfl
  | succ k ih =>
    rw [List.range_succ, wrF_snoc, wrF_snd, ih, List.length_range]
    rfl
theorem wrK_stop (c : Ch) (page : Nat) (b : List UInt8) (k m : Nat) (h : (c.wrK page b k).2 = false) (hm : k ≤ m) : c.wrK page b m = c.wrK page b k := by
  induction m with
  | zero => obtain rfl : k = 0 := by omega
            rfl
  | succ m ih =>
    by_cases e : k = m + 1
    · rw [e]
    · have := ih (by omega)
      simp only [Ch.wrK, this, h]
      simp
/-- A slice whose block is neither of two. -/
def Ap (C P : Nat) (v : Value) : Prop := ∀ b off n c, v = .slice (some ⟨b, off, none⟩) n c → b ≠ C ∧ b ≠ P
theorem Bytes.two {C P : Nat} {w w' : World} {v : Value} {l : List UInt8} (h : Bytes w v l) (hap : Ap C P v) (t : Two C P w w') : Bytes w' v l := by
  obtain ⟨ao, cap, hv, h0, hc⟩ := h
  refine ⟨ao, cap, hv, h0, fun k hk => ?_⟩
  obtain ⟨b, off, ha, hlt, hcell⟩ := hc k hk
  obtain ⟨h1, h2⟩ := hap b off _ _ (by rw [hv, ha])
  refine ⟨b, off, ha, Nat.lt_of_lt_of_le hlt t.size, ?_⟩
  rw [← hcell]
  simp only [World.cell?, t.block b hlt h1 h2]
theorem Two.keeps {C P B : Nat} {w w' : World} (t : Two C P w w') (h1 : C < B) (h2 : P < B) : KeepsFrom B w w' :=
  ⟨t.size, fun k o hB hk _ => by
    have := (Array.getElem?_eq_some_iff.1 hk).1
    exact (t.block k this (by omega) (by omega)).trans hk⟩
theorem Two.putN {C P : Nat} {w W : World} (t : Two C P w W) {D : Nat} (hD : w.heap.size ≤ D) (o : Obj) : Two C P w (W.putObj D o) :=
  ⟨t.os, t.tape, t.output, by simpa [World.putObj] using t.size, fun k hk h1 h2 => (World.putObj_heap_other (by omega)).trans (t.block k hk h1 h2)⟩
theorem inV {l n : Nat} {o : Oper} {a : Act} {w w' : World} {ops : Array Oper} {rest : List Oper} {Q : Exit → Act → World → Prop} {v : Value} (hg : o.guard = none) (hd : ((Fence.wide.inRound l).round) = some l) (hr : (execOp a.eval o).run Try.prog w = .ok (.value v) w') (hs : o.semAt (some l) a.eval = execOp a.eval o)
    (h : wpListIn (Fence.wide.inRound l) n Try.prog ops Q rest (a.put o.dst v) w') : wpListIn (Fence.wide.inRound l) n Try.prog ops Q (o :: rest) a w :=
  wpListIn_plain hg fun K hK => ⟨fun _ _ => trivial, by rw [hd, hs, hr]; exact hK _ _ h⟩
theorem copy_exec {o : Oper} {a : Act} {w w' : World} {d s : Operand} {t t' : TypeId} {v u v' : Value} (ho : o.op = .call { callee := .builtin .copy, args := #[d, s], argTypes := #[t, t'] }) (hd : a.eval d = v) (hs : a.eval s = u)
    (hr : (Builtin.copy_ #[t, t'] o.type #[v, u]).run Try.prog w = .ok v' w') : (execOp a.eval o).run Try.prog w = .ok (.value v') w' := by
  unfold execOp
  simp only [ho, resolve, invoke, builtin, Sem.run_bind, Sem.run_pure, Result.andThen_ok, List.map_toArray, List.map_cons, List.map_nil, hd, hs, hr]
/-- What stands between two rounds. -/
structure Wb (w : World) (C P q : Nat) (v : Value) (b : List UInt8) (d : Ch) (pg : Nat) (W : World) : Prop where
  b3 : W.heap[q]? = some (.cells #[.pointer (some ⟨C, 0, none⟩)] 23 (0, 0))
  b4 : W.heap[q + 1]? = some (.cells #[.int .i64 pg] 3 (0, 0))
  b6 : W.heap[q + 2]? = some (.cells #[.bool false] 4 (0, 0))
  chip : Cm C P d W
  by_ : Bytes W v b
  old : Two C P w W
  sz : q + 5 ≤ W.heap.size
theorem grown_cells {A B : World} {row : Option Nat} {k : Nat} {cs : Array Value} {T : TypeId} {fr : Nat × Nat} (h : A.heap[k]? = some (.cells cs T fr)) (hg : A.grownBy B row) (hr : ∀ r, row = some r → ∃ o : Obj, A.heap[r]? = some o ∧ o.isCells = false) : B.heap[k]? = A.heap[k]? := by
  refine hg.block k (Array.getElem?_eq_some_iff.1 h).1 (fun e => ?_)
  obtain ⟨o, ho, hc⟩ := hr k e.symm
  rw [h] at ho
  injection ho with ho
  subst ho
  cases hc
theorem Wb.grown {w : World} {C P q : Nat} {v : Value} {b : List UInt8} {d : Ch} {pg B : Nat} {A W : World} {row : Option Nat} (h : Wb w C P q v b d pg A) (hB : w.heap.size ≤ B) (hg : A.grownBy W row) (hr : ∀ r, row = some r → B ≤ r ∧ ∃ o : Obj, A.heap[r]? = some o ∧ o.isCells = false) : Wb w C P q v b d pg W := by
  have hr2 := fun r e => (hr r e).2
  refine ⟨(grown_cells h.b3 hg hr2).trans h.b3, (grown_cells h.b4 hg hr2).trans h.b4, (grown_cells h.b6 hg hr2).trans h.b6, h.chip.kept (grown_cells h.chip.head hg hr2) (grown_cells h.chip.pages hg hr2), ?_, ?_, Nat.le_trans h.sz hg.size⟩
  · obtain ⟨ao, cap, hv, h0, hc⟩ := h.by_
    refine ⟨ao, cap, hv, h0, fun k hk => ?_⟩
    obtain ⟨b', off, ha, hlt, hcell⟩ := hc k hk
    refine ⟨b', off, ha, Nat.lt_of_lt_of_le hlt hg.size, ?_⟩
    have hex : ∃ cs T fr, A.heap[b']? = some (.cells cs T fr) := by
      simp only [World.cell?] at hcell
      split at hcell
      · rename_i cs T fr hh; exact ⟨cs, T, fr, hh⟩
      · cases hcell
    obtain ⟨cs, T, fr, hh⟩ := hex
    rw [← hcell]
    simp only [World.cell?, grown_cells hh hg hr2]
  · exact ⟨hg.os.trans h.old.os, hg.tape.trans h.old.tape, hg.output.trans h.old.output, Nat.le_trans h.old.size hg.size, fun k hk h1 h2 => (hg.block k (Nat.lt_of_lt_of_le hk h.old.size) (fun e => by have := (hr k e.symm).1; omega)).trans (h.old.block k hk h1 h2)⟩
theorem Wb.two {w : World} {C P q : Nat} {v : Value} {b : List UInt8} {d dn : Ch} {pg : Nat} {W X : World} (h : Wb w C P q v b d pg W) (hC : C < q) (hP : P < q) (hap : Ap C P v) (hch : Cm C P dn X) (t : Two C P W X) : Wb w C P q v b dn pg X :=
  ⟨(t.block q (Array.getElem?_eq_some_iff.1 h.b3).1 (by omega) (by omega)).trans h.b3, (t.block (q + 1) (Array.getElem?_eq_some_iff.1 h.b4).1 (by omega) (by omega)).trans h.b4, (t.block (q + 2) (Array.getElem?_eq_some_iff.1 h.b6).1 (by omega) (by omega)).trans h.b6, hch, h.by_.two hap t, h.old.trans t, Nat.le_trans h.sz t.size⟩
theorem bytes_set1 {w : World} {v u u0 : Value} {l : List UInt8} {q : Nat} {T : TypeId} (h : Bytes w v l) (hq : w.heap[q]? = some (.cells #[u0] T (0, 0))) (hu : ∀ n, u0 ≠ .int .u8 n) : Bytes (w.setCell ⟨q, 0, none⟩ u) v l := by
  obtain ⟨ao, cap, hv, h0, hc⟩ := h
  refine ⟨ao, cap, hv, h0, fun k hk => ?_⟩
  obtain ⟨b, off, ha, hlt, hcell⟩ := hc k hk
  have hne : b ≠ q := by
    intro e
    subst e
    rw [Lib.cell_of_heap hq] at hcell
    generalize off + k = j at hcell
    match j, hcell with
    | 0, hcell => simp at hcell; exact hu _ hcell
    | j + 1, hcell => simp at hcell
  refine ⟨b, off, ha, by simpa [World.setCell] using hlt, ?_⟩
  rw [← hcell]
  exact World.cell?_of_block (Below.heap_setCell w ⟨q, 0, none⟩ u b hne)
theorem set1_heap {w : World} {q : Nat} {u0 : Value} {T : TypeId} (hq : w.heap[q]? = some (.cells #[u0] T (0, 0))) (u : Value) : (w.setCell ⟨q, 0, none⟩ u).heap[q]? = some (.cells #[u] T (0, 0)) := by
  simp only [World.setCell, Array.getElem?_modify, hq]
  simp
theorem Wb.next {w : World} {C P q : Nat} {v : Value} {b : List UInt8} {d : Ch} {pg : Nat} {W : World} (h : Wb w C P q v b d pg W) (hC : C < q) (hP : P < q) (hq : w.heap.size ≤ q) (pg' : Nat) : Wb w C P q v b d pg' (W.setCell ⟨q + 1, 0, none⟩ (.int .i64 pg')) := by
  have e : ∀ k, k ≠ q + 1 → (W.setCell ⟨q + 1, 0, none⟩ (.int .i64 pg')).heap[k]? = W.heap[k]? := fun k hk => Below.heap_setCell W ⟨q + 1, 0, none⟩ _ k hk
  exact ⟨(e q (by omega)).trans h.b3, set1_heap h.b4 _, (e (q + 2) (by omega)).trans h.b6, h.chip.kept (e C (by omega)) (e P (by omega)), bytes_set1 h.by_ h.b4 (fun n e => by cases e), h.old.setCell (p := ⟨q + 1, 0, none⟩) (.inr (.inr (by show w.heap.size ≤ q + 1; omega))) _, by simpa [World.setCell] using h.sz⟩
theorem Wb.same {w : World} {C P q : Nat} {v : Value} {b : List UInt8} {d : Ch} {pg : Nat} {W : World} (h : Wb w C P q v b d pg W) (hC : C < q) (hP : P < q) (hq : w.heap.size ≤ q) : Wb w C P q v b d pg (W.setCell ⟨q + 2, 0, none⟩ (.bool false)) := by
  have e : ∀ k, k ≠ q + 2 → (W.setCell ⟨q + 2, 0, none⟩ (.bool false)).heap[k]? = W.heap[k]? := fun k hk => Below.heap_setCell W ⟨q + 2, 0, none⟩ _ k hk
  exact ⟨(e q (by omega)).trans h.b3, (e (q + 1) (by omega)).trans h.b4, set1_heap h.b6 _, h.chip.kept (e C (by omega)) (e P (by omega)), bytes_set1 h.by_ h.b6 (fun n e => by cases e), h.old.setCell (p := ⟨q + 2, 0, none⟩) (.inr (.inr (by show w.heap.size ≤ q + 2; omega))) _, by simpa [World.setCell] using h.sz⟩
section
variable {C P : Nat} {c : Ch} {w : World}
theorem pad_cells (b : List UInt8) (h : b.length ≤ 8) : putA (byC zero8).toArray 0 b = (byC (pad b)).toArray := by
  unfold putA pad
  rw [List.take_zero, List.nil_append, byC_len, Nat.zero_add]
  congr 1
  show Lib.byteCells b ++ List.drop b.length (Lib.byteCells zero8) = Lib.byteCells (b ++ List.replicate (8 - b.length) 0)
  rw [Lib.byteCells_append]
  congr 1
  rw [show Lib.byteCells zero8 = List.replicate 8 (.int .u8 0) from rfl, List.drop_replicate]
  simp [Lib.byteCells]
set_option maxRecDepth 100000 in
set_option maxHeartbeats 8000000 in
theorem writeBytes_any (h : Cm C P c w) (page : Nat) (hp : page ≤ 100000) (v : Value) (b : List UInt8) (hb : b.length ≤ 1000000) (hB : Bytes w v b) (hap : Ap C P v) (hcp : ∀ ao n k, v = .slice ao n k → n ≤ k) :
    Calls Try.prog 25 #[.pointer (some ⟨C, 0, none⟩), .int .i64 page, v] w fun e w' => e = .returned (.bool (c.wrK page b (nch b)).2) ∧ Cm C P (c.wrK page b (nch b)).1 w' ∧ Two C P w w' := by
  have hone := oneSlice hB
  obtain ⟨ao, cap, rfl⟩ := bytes_shapeN hB
  have hcap := hcp _ _ _ rfl
  have hsh : ∃ ao' n c', (Value.slice ao b.length cap) = .slice ao' n c' := ⟨_, _, _, rfl⟩
  obtain ⟨bb, off, hao⟩ : ∃ bb off, 0 < b.length → ao = some ⟨bb, off, none⟩ := by
    by_cases h0 : 0 < b.length
    · obtain ⟨ao', cap', hv, _, hc⟩ := hB
      obtain ⟨b', off', ha, _⟩ := hc 0 h0
      injection hv with e1 _ _
      exact ⟨b', off', fun _ => by rw [e1, ha]⟩
    · exact ⟨0, 0, fun h => absurd h h0⟩
  have HST : Hid (∀ (Bs Bn : Nat) (W : World), W.heap[Bs]? = some (.cells #[.slice ao b.length cap] 30 (0, 0)) → W.heap[Bn]? = some (.cells #[.int .i64 8] 3 (0, 0)) →
      SeqStopsK Fence.wide 3 Try.prog 46 #[.pointer (some ⟨Bs, 0, none⟩), .pointer (some ⟨Bn, 0, none⟩)] (fun x : Nat => #[chV bb off b.length x]) (Kpp Bs Bn) (fun ys => ys = List.range ((b.length + 7) / 8)) (fun pre => ∃ k, k ≤ (b.length + 7) / 8 ∧ pre = List.range k) ((b.length + 7) / 8) W) :=
    fun Bs Bn W h1 h2 => chunk_stops Bs Bn b.length cap bb off ao W hcap hb hao h1 h2
  obtain ⟨q, hq⟩ : ∃ q, w.heap.size = q := ⟨_, rfl⟩
  obtain ⟨u1, hu1⟩ : ∃ x, w.alloc (.cells #[.pointer (some ⟨C, 0, none⟩)] 23) = x := ⟨_, rfl⟩
  obtain ⟨u2, hu2⟩ : ∃ x, u1.alloc (.cells #[.int .i64 page] 3) = x := ⟨_, rfl⟩
  obtain ⟨w1, hw1⟩ : ∃ x, u2.alloc (.cells #[.bool false] 4) = x := ⟨_, rfl⟩
  have su1 : u1.heap.size = q + 1 := by rw [← hu1, size_alloc, hq]
  have su2 : u2.heap.size = q + 2 := by rw [← hu2, size_alloc, su1]
  have hs1 : w1.heap.size = q + 3 := by rw [← hw1, size_alloc, su2]
  have bu1 : Below w.heap.size w u1 := by rw [← hu1]; exact (Below.refl _ w).alloc (Nat.le_refl _) _
  have bu2 : Below u1.heap.size u1 u2 := by rw [← hu2]; exact (Below.refl _ u1).alloc (Nat.le_refl _) _
  have bu3 : Below u2.heap.size u2 w1 := by rw [← hw1]; exact (Below.refl _ u2).alloc (Nat.le_refl _) _
  have B1 : Below w.heap.size w w1 := (bu1.trans (bu2.mono bu1.size)).trans (bu3.mono (bu1.trans (bu2.mono bu1.size)).size)
  have x3 : w1.heap[q]? = some (.cells #[.pointer (some ⟨C, 0, none⟩)] 23 (0, 0)) := (bu3.block q (by omega)).trans ((bu2.block q (by omega)).trans (by rw [← hu1, ← hq]; exact heap_alloc_new w _))
  have x4 : w1.heap[q + 1]? = some (.cells #[.int .i64 page] 3 (0, 0)) := (bu3.block (q + 1) (by omega)).trans (by rw [← hu2, ← su1]; exact heap_alloc_new u1 _)
  have x6 : w1.heap[q + 2]? = some (.cells #[.bool false] 4 (0, 0)) := by rw [← hw1, ← su2]; exact heap_alloc_new u2 _
  obtain ⟨u4, hu4⟩ : ∃ x, w1.alloc (.cells #[.slice ao b.length cap] 30) = x := ⟨_, rfl⟩
  obtain ⟨w2, hw2⟩ : ∃ x, u4.alloc (.cells #[.int .i64 8] 3) = x := ⟨_, rfl⟩
  have su4 : u4.heap.size = q + 4 := by rw [← hu4, size_alloc, hs1]
  have hs2 : w2.heap.size = q + 5 := by rw [← hw2, size_alloc, su4]
  have bu4 : Below w1.heap.size w1 u4 := by rw [← hu4]; exact (Below.refl _ w1).alloc (Nat.le_refl _) _
  have bu5 : Below u4.heap.size u4 w2 := by rw [← hw2]; exact (Below.refl _ u4).alloc (Nat.le_refl _) _
  have b2 : Below w1.heap.size w1 w2 := bu4.trans (bu5.mono bu4.size)
  have B2 := B1.trans (b2.mono B1.size)
  have hBs : w2.heap[q + 3]? = some (.cells #[.slice ao b.length cap] 30 (0, 0)) := (bu5.block (q + 3) (by omega)).trans (by rw [← hu4, ← hs1]; exact heap_alloc_new w1 _)
  have hBn : w2.heap[q + 4]? = some (.cells #[.int .i64 8] 3 (0, 0)) := by rw [← hw2, ← su4]; exact heap_alloc_new u4 _
  have hlt := h.lt
  have hltP := h.ltP
  have HWB : Hid (Wb w C P q (.slice ao b.length cap) b c page w2) := ⟨(b2.block q (by omega)).trans x3, (b2.block (q + 1) (by omega)).trans x4, (b2.block (q + 2) (by omega)).trans x6, h.below B2, hB.below B2, Two.of_below B2 C P, by omega⟩
  have hseq := HST.out (q + 3) (q + 4) w2 hBs hBn
  have HAP := hidOf hap
  have HAO := hidOf hao
  clear hcp hcap hao HST x3 x4 x6 B1 b2 B2 hBs hBn h hB hap bu1 bu2 bu3 bu4 bu5
  refine (callsIn_wide (n := 4)).1 ?_
  refine callsIn_of_wp_marks Try.func25 rfl trivial ?_ rfl
  simp only [Try.ntmps25, List.size_toArray, List.length_cons, List.length_nil, Nat.reduceAdd, Nat.reduceSub, Array.replicate_succ, Array.replicate_zero, List.push_toArray, List.append_toArray, List.nil_append, List.cons_append]
  gi_wp2_with (refine ⟨trivial, ?_⟩; gi_at_call 37; refine (Chunk_any _ _ hone hsh).mono ?_; rintro e w' ⟨rfl, rfl⟩)
  refine wpIn_rangeFunc_ownG (F := Fence.wide) rfl (by omega) (gf := 46) (lb := #[.pointer (some ⟨q + 3, 0, none⟩), .pointer (some ⟨q + 4, 0, none⟩)]) rfl trivial (enters_of Try.func46 (by kernel_rfl) rfl) hseq (fun h k => h.trans k) ?hKb (Below.refl _ _) (fun _ => rfl)
    (fun pre W => (wrF c page b pre).1.2 = true ∧ Wb w C P q (.slice ao b.length cap) b (wrF c page b pre).1.1 (page + pre.length) W)
    (fun cd pre W => cd = .ret ∧ (wrF c page b pre).1.2 = false ∧ ∃ pg, Wb w C P q (.slice ao b.length cap) b (wrF c page b pre).1.1 pg W)
    ?hI ?hIx ?h0
    (fun x => { tmps := #[.pointer (some ⟨C, 0, none⟩), .int .i64 page, .slice ao b.length cap, .pointer (some ⟨q, 0, none⟩), .pointer (some ⟨q + 1, 0, none⟩), undef, .pointer (some ⟨q + 1 + 1, 0, none⟩), chV bb off b.length x, undef, .slice ao b.length cap, .func (.func 46) #[] #[.pointer (some ⟨q + 3, 0, none⟩), .pointer (some ⟨q + 3 + 1, 0, none⟩)], chV bb off b.length x, undef, undef, undef, undef, undef, undef, undef, undef, undef, undef], defers := [] }) ?assign ?body ?done ?stop
  case hKb =>
    intro W l o o' hl ho _ _
    rw [hs2] at hl
    exact ⟨World.putObj_heap_other (by omega), World.putObj_heap_other (by omega)⟩
  case hI => exact fun s A B row hs hg hr => ⟨hs.1, hs.2.grown (by omega) hg hr⟩
  case hIx =>
    rintro cd s A B row ⟨h1, h2, pg, h3⟩ hg hr
    exact ⟨h1, h2, pg, h3.grown (by omega) hg hr⟩
  case h0 => exact ⟨rfl, HWB.out⟩
  case assign =>
    intro l x W K hK
    gi_wp2
    exact hK
  case body =>
    rintro l pre x W ⟨hok, hwb⟩ hlen
    have hsn := wrF_snoc c page b pre x
    rw [hok, if_pos rfl, wrF_snd] at hsn
    have hcl := chunk_len b x
    have hpl := pad_len _ hcl
    have c3 : W.cell? ⟨q, 0, none⟩ = some (.pointer (some ⟨C, 0, none⟩)) := Lib.cell_of_heap hwb.b3 0
    have c4 : W.cell? ⟨q + 1, 0, none⟩ = some (.int .i64 ((page + pre.length : Nat) : Int)) := Lib.cell_of_heap hwb.b4 0
    have hqW : q + 5 ≤ W.heap.size ∨ q + 2 < W.heap.size := .inr (Array.getElem?_eq_some_iff.1 hwb.b6).1
    have hqlt : q + 2 < W.heap.size := (Array.getElem?_eq_some_iff.1 hwb.b6).1
    obtain ⟨pg, hpg⟩ : ∃ pg, page + pre.length = pg := ⟨_, rfl⟩
    have hpgb : pg ≤ 1100000 := by omega
    rw [hpg] at c4 hsn
    have hz := heap_alloc_new W (.cells (byC zero8).toArray 38 (0, 0))
    have bz : Below W.heap.size W (W.alloc (.cells (byC zero8).toArray 38)) := (Below.refl _ W).alloc (Nat.le_refl _) _
    have hm : (chunk b x).length = min 8 (b.length - 8 * x) := by unfold chunk; rw [List.length_take, List.length_drop]
    have hcp := fun ty => run_copy_row (P := Try.prog) (W.alloc (.cells (byC zero8).toArray 38)) 30 30 ty 5 W.heap.size 0 8 8 ⟨bb, off + 8 * x, none⟩ (min 8 (b.length - 8 * x)) (min 8 (b.length - 8 * x)) _ 38 (byC (chunk b x)) Try.underlying30 (by obtain ⟨i0, hi0, hz0, hz1, hz2⟩ := info_parts info5; rw [hi0]; simp [hz1]) hz (by rw [byC_len, hm]; show _ = min (min 8 (b.length - 8 * x)) 8; omega) (fun j v hv => by
      have hj : j < (chunk b x).length := by have := (List.getElem?_eq_some_iff.1 hv).1; rwa [byC_len] at this
      have hjl : 8 * x + j < b.length := by omega
      obtain ⟨ao', cap', hv', _, hc⟩ := hwb.by_.below bz
      obtain ⟨b', off', ha, _, hcell⟩ := hc (8 * x + j) hjl
      injection hv' with e1 _ _
      rw [← e1, HAO.out (by omega)] at ha
      injection ha with ha
      injection ha with ha1 ha2
      subst ha1 ha2
      rw [Addr.add_mid, Nat.add_assoc, hcell, ← hv, byC_get _ _ hj]
      simp [chunk]) (by rw [byC_len]; simp [Lib.byteCells, zero8]; omega) (byteCells_one _)
    have hpc : (List.take 0 (byC zero8).toArray.toList ++ byC (chunk b x) ++ List.drop (0 + (byC (chunk b x)).length) (byC zero8).toArray.toList).toArray = (byC (pad (chunk b x))).toArray := pad_cells _ hcl
    rw [hpc] at hcp
    obtain ⟨X1, hX1⟩ : ∃ X, W.alloc (.cells (byC zero8).toArray 38) = X := ⟨_, rfl⟩
    obtain ⟨qf, hqf⟩ : ∃ qf, W.heap.size = qf := ⟨_, rfl⟩
    rw [hX1] at hcp hz bz
    rw [hqf] at hcp hz
    have hz2 := Go.Proofs.Ythbcpmakhdogmaa.setRow_heap X1 qf _ (byC (pad (chunk b x))).toArray _ _ hz
    have b2 := below_row bz (q := qf) (by omega) bz.size (byC (pad (chunk b x))).toArray
    have hld := load_a8 _ qf _ hz2 (by rw [List.size_toArray, byC_len, hpl])
    obtain ⟨X2, hX2⟩ : ∃ X, X1.setRow qf (byC (pad (chunk b x))).toArray = X := ⟨_, rfl⟩
    rw [hX2] at hcp b2 hld
    have hWr := Write_any (hwb.chip.below b2) ((pg : Nat) : Int) (pad (chunk b x)) hpl
    rw [pgV] at hWr
    have c3' : X2.cell? ⟨q, 0, none⟩ = some (.pointer (some ⟨C, 0, none⟩)) := (b2.cell (p := ⟨q, 0, none⟩) (by show q < _; omega)).trans c3
    have c4' : X2.cell? ⟨q + 1, 0, none⟩ = some (.int .i64 (pg : Int)) := (b2.cell (p := ⟨q + 1, 0, none⟩) (by show q + 1 < _; omega)).trans c4
    have HT : Hid (∀ X3, Two C P X2 X3 → Two C P W X3) := fun X3 t => (Two.of_below b2 C P).trans t
    obtain ⟨AP, hAP⟩ : ∃ A, (byC (pad (chunk b x))).toArray = A := ⟨_, rfl⟩
    rw [hAP] at hWr hld
    generalize hdw : ((wrF c page b pre).1.1.wr (pg : Int) (pad (chunk b x))) = dw at *
    obtain ⟨dn, on⟩ := dw
    simp only at hWr
    have HSN := hidOf hsn
    have HPG := hidOf hpg
    have HWB := hidOf hwb
    have hX1' : W.alloc (.cells #[.int .u8 0, .int .u8 0, .int .u8 0, .int .u8 0, .int .u8 0, .int .u8 0, .int .u8 0, .int .u8 0] 38) = X1 := hX1
    clear hX1 hpc hX2 hdw hsn hz hz2 bz b2 hcl hpl hm hok c3 c4 hwb hAP
    rw [hpg] at HWB
    clear hpg
    replace hcp : ∀ ty, (Builtin.copy_ #[30, 30] ty #[.slice (some ⟨qf, 0, none⟩) 8 8, chV bb off b.length x]).run Try.prog X1 = .ok (goInt (byC (chunk b x)).length) X2 := hcp
    have HW3 : Hid (∀ X3, Cm C P dn X3 → Two C P X2 X3 → Wb w C P q (.slice ao b.length cap) b dn pg X3 ∧ Two C P W X3) := fun X3 h3 t3 => ⟨HWB.out.two (by omega) (by omega) HAP.out h3 (HT.out X3 t3), HT.out X3 t3⟩
    cases on with
    | false =>
      gi_wp2_with (first | (refine inV rfl rfl (exec_loadN (ty := 38) rfl rfl hld) rfl ?_) | (refine ⟨trivial, ?_⟩; gi_at_call 26; refine (CallsIn.inRound l (callsIn_wide.2 hWr)).mono ?_; rintro e X3 ⟨rfl, hX3, t3⟩; obtain ⟨hb3, ht3⟩ := HW3.out X3 hX3 t3; have HB3 := hidOf hb3; have HT3 := hidOf ht3; have c63 : X3.cell? ⟨q + 1 + 1, 0, none⟩ = some (.bool false) := Lib.cell_of_heap hb3.b6 0; have f63 : X3.frozen? ⟨q + 1 + 1, 0, none⟩ = false := Lib.frozen_of_heap hb3.b6 0; clear hX3 t3 hb3 ht3))
      refine ⟨?_, rfl, ?_, pg, ?_⟩
      · exact (HT3.out.keeps (by omega) (by omega)).trans ((KeepsOthers.setCell X3 _ _).from _)
      · rw [HSN.out]
      · rw [HSN.out]; exact HB3.out.same (by omega) (by omega) (by omega)
    | true =>
      gi_wp2_with (first | (refine inV rfl rfl (exec_loadN (ty := 38) rfl rfl hld) rfl ?_) | (refine ⟨trivial, ?_⟩; gi_at_call 26; refine (CallsIn.inRound l (callsIn_wide.2 hWr)).mono ?_; rintro e X3 ⟨rfl, hX3, t3⟩; obtain ⟨hb3, ht3⟩ := HW3.out X3 hX3 t3; have HB3 := hidOf hb3; have HT3 := hidOf ht3; have c43 : X3.cell? ⟨q + 1, 0, none⟩ = some (.int .i64 (pg : Int)) := Lib.cell_of_heap hb3.b4 0; have f43 : X3.frozen? ⟨q + 1, 0, none⟩ = false := Lib.frozen_of_heap hb3.b4 0; clear hX3 t3 hb3 ht3))
      have hsz := HWB.out.sz
      refine ⟨?_, ⟨?_, ?_⟩, ?_, ?_⟩
      · exact (HT3.out.keeps (by omega) (by omega)).trans ((KeepsOthers.setCell X3 _ _).from _)
      · exact (Below.heap_setCell X3 ⟨q + 1, 0, none⟩ _ (q + 3) (by show q + 3 ≠ q + 1; omega)).trans (HT3.out.block (q + 3) (by omega) (by omega) (by omega))
      · exact (Below.heap_setCell X3 ⟨q + 1, 0, none⟩ _ (q + 4) (by show q + 4 ≠ q + 1; omega)).trans (HT3.out.block (q + 4) (by omega) (by omega) (by omega))
      · rw [HSN.out]
      · rw [HSN.out, List.length_append, List.length_singleton, ← Nat.add_assoc, HPG.out]
        exact HB3.out.next (by omega) (by omega) (by omega) (pg + 1)
  case done =>
    rintro D ys W hD rfl ⟨hok, hwb⟩ hK
    rw [wrF_range] at hok hwb
    have c6 : W.cell? ⟨q + 2, 0, none⟩ = some (.bool false) := Lib.cell_of_heap hwb.b6 0
    have f6 : W.frozen? ⟨q + 2, 0, none⟩ = false := Lib.frozen_of_heap hwb.b6 0
    have hqD : D ≠ q + 2 := by intro e; rw [e, hwb.b6] at hK; cases hK
    have hK2 : (W.setCell ⟨q + 2, 0, none⟩ (.bool true)).heap[D]? = some (.deferred (some [])) := (Below.heap_setCell W ⟨q + 2, 0, none⟩ _ D hqD).trans hK
    gi_wp2
    refine ⟨by simp, .inl ⟨_, _, rfl, run_takeDeferred hK2, ?_⟩⟩
    have c6' : ((W.setCell ⟨q + 2, 0, none⟩ (.bool true)).putObj D (.deferred none)).cell? ⟨q + 2, 0, none⟩ = some (.bool true) := by
      have e1 : (W.setCell ⟨q + 2, 0, none⟩ (.bool true)).cell? ⟨q + 2, 0, none⟩ = some (.bool true) := World.cell?_setCell_same' _ _ _ (by rw [c6]; rfl)
      rw [← e1]
      exact World.cell?_of_block (World.putObj_heap_other (by simpa using hqD.symm))
    have hT : Two C P w ((W.setCell ⟨q + 2, 0, none⟩ (.bool true)).putObj D (.deferred none)) := (hwb.old.setCell (p := ⟨q + 2, 0, none⟩) (.inr (.inr (by show w.heap.size ≤ q + 2; omega))) _).putN (by omega) _
    have hDC : C ≠ D := by intro e; have := hwb.chip.head; rw [e, hK] at this; cases this
    have hDP : P ≠ D := by intro e; have := hwb.chip.pages; rw [e, hK] at this; cases this
    have hCh : Cm C P (c.wrK page b ((b.length + 7) / 8)).1 ((W.setCell ⟨q + 2, 0, none⟩ (.bool true)).putObj D (.deferred none)) := hwb.chip.kept ((World.putObj_heap_other hDC).trans (Below.heap_setCell W ⟨q + 2, 0, none⟩ _ C (by show C ≠ q + 2; omega))) ((World.putObj_heap_other hDP).trans (Below.heap_setCell W ⟨q + 2, 0, none⟩ _ P (by show P ≠ q + 2; omega)))
    exact ⟨.bool true, by simp [results, Try.results25, asAddr, go_sem, run_underlying Try.underlying4, c6'], ret_bool hok.symm, hCh, hT⟩
  case stop =>
    rintro D cd pre W hD ⟨k, hk, rfl⟩ ⟨rfl, hno, pg, hwb⟩ hK
    rw [wrF_range] at hno hwb
    have hqD : D ≠ q + 2 := by intro e; rw [e, hwb.b6] at hK; cases hK
    gi_wp2
    refine ⟨by simp, .inl ⟨_, _, rfl, run_takeDeferred hK, ?_⟩⟩
    have c6' : (W.putObj D (.deferred none)).cell? ⟨q + 2, 0, none⟩ = some (.bool false) := by
      rw [← (show W.cell? ⟨q + 2, 0, none⟩ = some (.bool false) from Lib.cell_of_heap hwb.b6 0)]
      exact World.cell?_of_block (World.putObj_heap_other (by simpa using hqD.symm))
    have hDC : C ≠ D := by intro e; have := hwb.chip.head; rw [e, hK] at this; cases this
    have hDP : P ≠ D := by intro e; have := hwb.chip.pages; rw [e, hK] at this; cases this
    have hst := wrK_stop c page b k ((b.length + 7) / 8) hno hk
    have hst' : c.wrK page b (nch b) = c.wrK page b k := hst
    refine ⟨.bool false, by simp [results, Try.results25, asAddr, go_sem, run_underlying Try.underlying4, c6'], ?_, ?_, hwb.old.putN (by omega) _⟩
    · rw [hst', hno]
    · rw [hst']; exact hwb.chip.kept (World.putObj_heap_other hDC) (World.putObj_heap_other hDP)
end
end Go.Proofs.Ythbcpmakhdogmaa
