/- pieces, as an iterator over an iterator. -/
import Derived.Test.YthalhidebkhclaaPdG
namespace Go.Proofs.Ythalhidebkhclaa
open Go.RowKit Go.Shelf Go.Proofs.Ty
set_option linter.unusedVariables false
set_option maxRecDepth 1000000
set_option linter.unusedSimpArgs false
attribute [local go_sem] Oper.semAt_some
theorem pc_nodefer (i : Nat) (o : Oper) (c : Call) (h : pcOps[i]? = some o) : o.op ≠ .defer c := fun e => by
  have hall : (pcOps.toList.all fun o => match o.op with | .defer _ => false | _ => true) = true := by kernel_rfl
  have := List.all_eq_true.1 hall o (Array.mem_toList_iff.2 (Array.mem_of_getElem? h))
  rw [e] at this
  cases this
/-- The values handed on. -/
def pcV (L : List Sl) (bp : Nat → Value) (k : Nat) : Array Value := #[.agg (L.getD k Sl.nul).arr, bp k]
theorem ld_yield {X : World} {q : Nat} {l : Nat} (h : X.heap[q]? = some (.cells #[.func (.yield l) #[] #[]] 93 (0, 0))) : (loadVar 93 ⟨q, 0, none⟩).run Try.prog X = .ok (.func (.yield l) #[] #[]) X := by
  have c : X.cell? ⟨q, 0, none⟩ = some (.func (.yield l) #[] #[]) := Lib.cell_of_heap h 0
  simp [go_sem, run_underlying Try.underlying93, c]
theorem ld_bytes {X : World} {q : Nat} {ab : Option Addr} {nb cb : Nat} (h : X.heap[q]? = some (.cells #[.slice ab nb cb] 24 (0, 0))) : (loadVar 24 ⟨q, 0, none⟩).run Try.prog X = .ok (.slice ab nb cb) X := by
  have c : X.cell? ⟨q, 0, none⟩ = some (.slice ab nb cb) := Lib.cell_of_heap h 0
  simp [go_sem, run_underlying Try.underlying24, c]
set_option maxRecDepth 100000 in
set_option maxHeartbeats 8000000 in
theorem pieces_seqN (Bs Bb : Nat) (ao ab : Option Addr) (N cap nb cb : Nat) (L : List Sl) (hN : L.length = N) (hL : L.length ≤ 8796093022000) (off : Nat → Nat) (bp : Nat → Value) (w : World)
    (hBs : w.heap[Bs]? = some (.cells #[.slice ao N cap] 23 (0, 0))) (hBb : w.heap[Bb]? = some (.cells #[.slice ab nb cb] 24 (0, 0))) (hWd : Wide 3 slC w (.slice ao N cap) L)
    (ho : ∀ k, k < N → en L (k + 1) = 8 * (off (k + 1) : Int) ∧ en L (k + 1) - (L.getD k Sl.nul).bt = 8 * (off k : Int) ∧ off k ≤ off (k + 1) ∧ off (k + 1) ≤ 8)
    (hbp : ∀ k, k < N → ∀ W, (Instr.sliceAt 24 (.slice ab nb cb) (some (.int .i64 (off k : Nat))) (some (.int .i64 (off (k + 1) : Nat))) none).run Try.prog W = .ok (bp k) W) :
    SeqN 36 #[.pointer (some ⟨Bs, 0, none⟩), .pointer (some ⟨Bb, 0, none⟩)] (pcV L bp) (bks Bb (.slice ao N cap) L.length) N w := by
  intro l J Jx W hW hJ hJx hY h0
  obtain ⟨q, hq⟩ : ∃ q, W.heap.size = q := ⟨_, rfl⟩
  obtain ⟨W1, hw1⟩ : ∃ x, W.alloc (.cells #[.func (.yield l) #[] #[]] 93) = x := ⟨_, rfl⟩
  obtain ⟨W2, hw2⟩ : ∃ x, W1.alloc (.cells #[.slice ao N cap] 23) = x := ⟨_, rfl⟩
  have s1 : W1.heap.size = q + 1 := by rw [← hw1, size_alloc, hq]
  have s2 : W2.heap.size = q + 2 := by rw [← hw2, size_alloc, s1]
  have b1 : Below W.heap.size W W1 := by rw [← hw1]; exact (Below.refl _ W).alloc (Nat.le_refl _) _
  have b2 : Below W1.heap.size W1 W2 := by rw [← hw2]; exact (Below.refl _ W1).alloc (Nat.le_refl _) _
  have hBsl := (Array.getElem?_eq_some_iff.1 hBs).1
  have hBbl := (Array.getElem?_eq_some_iff.1 hBb).1
  have hwW := hW.size
  have x1 : W1.heap[Bs]? = some (.cells #[.slice ao N cap] 23 (0, 0)) := (b1.block Bs (by omega)).trans ((hW.block Bs hBsl).trans hBs)
  have x2 : W2.heap[Bb]? = some (.cells #[.slice ab nb cb] 24 (0, 0)) := (b2.block Bb (by omega)).trans ((b1.block Bb (by omega)).trans ((hW.block Bb hBbl).trans hBb))
  have x3 : W2.heap[q]? = some (.cells #[.func (.yield l) #[] #[]] 93 (0, 0)) := (b2.block q (by omega)).trans (by rw [← hw1, ← hq]; exact heap_alloc_new W _)
  have x4 : W2.heap[q + 1]? = some (.cells #[.slice ao N cap] 23 (0, 0)) := by rw [← hw2, ← s1]; exact heap_alloc_new W1 _
  have c1 : W1.cell? ⟨Bs, 0, none⟩ = some (.slice ao N cap) := Lib.cell_of_heap x1 0
  have hWd2 : Wide 3 slC W2 (.slice ao N cap) L := ((hWd.same hW.size (fun b _ hl => hW.block b hl)).same b1.size (fun b _ hl => b1.block b hl)).same b2.size (fun b _ hl => b2.block b hl)
  have HOB : Hid (∀ b, (Value.slice ao N cap).ownBlock = some b → 0 < L.length → b < w.heap.size) := fun b hb h0 => by
    obtain ⟨ao', cap', he, _, hc⟩ := hWd
    injection he with he
    obtain ⟨b', off, ha, hlt, _⟩ := hc 0 h0
    rw [he, ha] at hb
    simp [Value.ownBlock] at hb
    show b < w.heap.size
    omega
  have j2 : J 0 W2 := by
    rw [← hw2]
    refine hJ.alloc _ ?_
    rw [← hw1]
    exact hJ.alloc _ h0
  have hseq := ends_seqN (q + 1) (.slice ao N cap) L hL W2 x4 hWd2
  rw [hN] at hseq
  have H2 : Hid (J 0 W2 ∧ W2.heap[q]? = some (.cells #[.func (.yield l) #[] #[]] 93 (0, 0)) ∧ W2.heap[Bb]? = some (.cells #[.slice ab nb cb] 24 (0, 0))) := ⟨j2, x3, x2⟩
  have HY := hidOf hY
  have HO := hidOf ho
  have HBP := hidOf hbp
  have HJ := hidOf hJ
  clear ho hbp hY h0 x1 x2 x3 x4 b1 b2 j2 hBs hBb hWd hWd2 hW
  refine callsIn_wide.2 ((callsIn_wide (n := 4)).1 ?_)
  refine callsIn_of_wp_marks Try.func36 rfl trivial ?_ rfl
  simp only [Try.ntmps36, List.size_toArray, List.length_cons, List.length_nil, Nat.reduceAdd, Nat.reduceSub, Array.replicate_succ, Array.replicate_zero, List.push_toArray, List.append_toArray, List.nil_append, List.cons_append]
  gi_wp2_with (refine ⟨trivial, ?_⟩; gi_at_call 27; refine (ends_in Fence.wide 3 trivial rfl ao N cap _).mono ?_; rintro e w' ⟨rfl, rfl⟩)
  have hBl : ∀ b ∈ bks (q + 1) (.slice ao N cap) N, b < q + 2 := fun b hb => by
    unfold bks at hb
    simp only [List.mem_cons] at hb
    rcases hb with rfl | hb
    · omega
    · split at hb
      · have := HOB.out b (by simpa using hb) (by omega)
        omega
      · cases hb
  refine rf_over (gf := 45) (lb := #[.pointer (some ⟨q + 1, 0, none⟩)]) rfl (enters_of Try.func45 (by kernel_rfl) rfl) hseq (fun _ => rfl) (fun b hb => by rw [s2]; exact hBl b hb)
    (fun k X => J k X ∧ X.heap[q]? = some (.cells #[.func (.yield l) #[] #[]] 93 (0, 0)) ∧ X.heap[Bb]? = some (.cells #[.slice ab nb cb] 24 (0, 0))) Jx ?hI ?hIx H2.out ?round ?done ?stop
  case hI =>
    rintro k A B row ⟨h1, h2, h3⟩ hg hr
    have hr2 := fun r e => (hr r e).2
    exact ⟨hJ k A B row h1 hg (fun r e => ⟨by have := (hr r e).1; omega, (hr r e).2⟩), (grown_cells h2 hg hr2).trans h2, (grown_cells h3 hg hr2).trans h3⟩
  case hIx => exact fun k A B row h hg hr => hJx k A B row h hg (fun r e => ⟨by have := (hr r e).1; omega, (hr r e).2⟩)
  case round =>
    rintro l' k X ⟨hj, hy, hb⟩ hk hl hlX
    obtain ⟨s, hs⟩ : ∃ s, L.getD k Sl.nul = s := ⟨_, rfl⟩
    obtain ⟨X1, hX1⟩ : ∃ x, X.alloc (.cells #[.int .u16 (s.ix : Int), .int .u8 (s.sb : Int), .int .i64 s.bt] 47) = x := ⟨_, rfl⟩
    have b9 : Below X.heap.size X X1 := by rw [← hX1]; exact (Below.refl _ _).alloc (Nat.le_refl _) _
    have hz : Sb X.heap.size s X1 := by rw [← hX1]; exact heap_alloc_new X _
    have hXs : q + 2 < X.heap.size := by omega
    refine ⟨fun a1 V => a1 = { tmps := #[.func (.yield l) #[] #[], .pointer (some ⟨Bs, 0, none⟩), .pointer (some ⟨Bb, 0, none⟩), .pointer (some ⟨q, 0, none⟩), .pointer (some ⟨X.heap.size, 0, none⟩), .int .i64 (en L (k + 1)), .slice ao N cap, .func (.func 45) #[] #[.pointer (some ⟨q + 1, 0, none⟩)], .agg s.arr, .int .i64 (en L (k + 1)), undef, undef, undef, undef, undef, undef, undef, undef, undef, undef, undef, undef, undef], defers := [] } ∧ V = X1, ?_, ?_⟩
    · have HF : Hid (Ka (bks (q + 1) (.slice ao N cap) N) W2.heap.size X X1) := Ka.below b9 (fun b hb => by have := hBl b hb; omega)
      simp only [enV]
      rw [hs]
      simp only [Sl.arr, slC]
      clear hz b9 hj hy hb
      gi_wp2
      refine ⟨HF.out, ?_, ?_⟩ <;> first | trivial | rfl
    · rintro a1 V Y ⟨rfl, hV⟩ ⟨r, r', hr, hYe⟩
      rw [hV] at hr hYe
      have sX1 : X1.heap.size = X.heap.size + 1 := by rw [← hX1, size_alloc]
      have sY : Y.heap.size = X.heap.size + 1 := by rw [hYe]; simpa [World.putObj] using sX1
      have jY : J k Y := by
        rw [hYe]
        exact hJ.putObj _ (by rw [← hX1]; exact hJ.alloc _ hj) (by omega) hr rfl
      have yY : Y.heap[q]? = some (.cells #[.func (.yield l) #[] #[]] 93 (0, 0)) := by rw [hYe]; exact (World.putObj_heap_other (by omega)).trans ((b9.block q (by omega)).trans hy)
      have bY : Y.heap[Bb]? = some (.cells #[.slice ab nb cb] 24 (0, 0)) := by rw [hYe]; exact (World.putObj_heap_other (by omega)).trans ((b9.block Bb (by omega)).trans hb)
      have zY : Sb X.heap.size s Y := by rw [hYe]; exact (World.putObj_heap_other (by omega)).trans hz
      obtain ⟨o1, o2, o3, o4⟩ := HO.out k hk
      rw [hs] at o2
      have yd := HY.out k Y.drew (hJ k Y Y.drew none jY ⟨rfl, rfl, rfl, Nat.le_refl _, fun _ _ _ => rfl⟩ (fun r e => by cases e)) hk
      unfold pcV at yd
      rw [hs] at yd
      refine wpIn_block (wpIn_seq (any_sound (ops := pcOps) pc_nodefer (by kernel_rfl) ?_))
      refine pc_any (q0 := q) (zz := X.heap.size) (Bb := Bb) (lo := off k) (hi := off (k + 1)) (e := en L (k + 1)) (s := s) (vb := .slice ab nb cb) (vp := bp k) (X := Y.drew) (ld_yield (show Y.drew.heap[q]? = _ from yY)) (Sb.load (show Y.drew.heap[X.heap.size]? = _ from zY)) (ld_bytes (show Y.drew.heap[Bb]? = _ from bY)) (load_int _ _ _ _ (Sb.c2 (show Y.drew.heap[X.heap.size]? = _ from zY))) o1 o2 o4 o3 (HBP.out k hk) (pc_leaf yd ?_) 11 false false false false false false false false false false false rfl (fun h => by cases h) (fun h => by cases h) (fun h => by cases h) (fun h => by cases h) (fun h => by cases h)
      rintro en W' (⟨rfl, hj', ka⟩ | ⟨rfl, hjx, ka⟩)
      · refine ⟨true, rfl, ?_⟩
        refine wpIn_cond_false rfl (wpIn_skip ?_)
        have ks := ka.size
        have sd : Y.drew.heap.size = X.heap.size + 1 := sY
        refine ⟨⟨fun b hb => ?_, ks, fun j h1 h2 => ka.new j (by omega) h2⟩, hj', (ka.new q (by omega) (by omega)).trans yY, (ka.old Bb (by unfold bks; simp)).trans bY⟩
        have hb2 := hBl b hb
        unfold bks at hb
        simp only [List.mem_cons] at hb
        rcases hb with rfl | hb
        · exact ka.new (q + 1) (by omega) (by omega)
        · refine ka.old b ?_
          unfold bks
          rw [hN]
          exact List.mem_cons_of_mem _ hb
      · refine ⟨false, rfl, ?_⟩
        refine wpIn_cond_true rfl (wpIn_ret ?_)
        exact ⟨⟨fun b hb => (by cases hb), ka.size, fun j h1 h2 => ka.new j (by omega) h2⟩, hjx⟩
  case done =>
    rintro D X hD ⟨hj, _, _⟩ hK
    gi_wp2
    refine ⟨by simp, .inl ⟨_, _, rfl, run_takeDeferred hK, ?_⟩⟩
    exact ⟨_, results_none rfl _ _ _, ⟨_, rfl⟩, .inl (hJ.putObj _ hj (by omega) hK rfl)⟩
  case stop =>
    rintro D k X hD hk hj hK
    gi_wp2
    refine ⟨by simp, .inl ⟨_, _, rfl, run_takeDeferred hK, ?_⟩⟩
    exact ⟨_, results_none rfl _ _ _, ⟨_, rfl⟩, .inr ⟨k, hk, hJx.putObj _ hj (by omega) hK rfl⟩⟩
end Go.Proofs.Ythalhidebkhclaa
