/- The document's chip in memory; contracts of its New, Write, Cut. -/
import Derived.Test.YthbcpmakhdogmaaLawNCuts
namespace Go.Proofs.Ythbcpmakhdogmaa
open Go.RowKit Go.Shelf Go.Proofs.Ty Go.Proofs.Nv Go.Proofs.Bits
set_option linter.unusedVariables false
set_option maxRecDepth 1000000
set_option linter.unusedSimpArgs false
/-- The document's chip in block C, its pages in block P: as long as it has power what is left is the chip's. -/
structure Dm (C P : Nat) (c : Ch) (w : World) : Prop where
  head : ∃ l : Int, w.heap[C]? = some (.cells #[.slice (some ⟨P, 0, none⟩) c.n c.n, .int .i64 l, .bool c.dead] 53 (0, 0)) ∧ (c.dead = false → l = c.left)
  pages : w.heap[P]? = some (.cells (byC c.pg).toArray 38 (0, 0))
  ok : c.Ok
section
variable {C P : Nat} {c : Ch} {w : World}
theorem Dm.lt (h : Dm C P c w) : C < w.heap.size := by obtain ⟨l, h1, _⟩ := h.head; exact (Array.getElem?_eq_some_iff.1 h1).1
theorem Dm.ltP (h : Dm C P c w) : P < w.heap.size := (Array.getElem?_eq_some_iff.1 h.pages).1
theorem Dm.ne (h : Dm C P c w) : C ≠ P := by
  intro e
  obtain ⟨l, h1, _⟩ := h.head
  rw [e, h.pages] at h1
  simp at h1
theorem Dm.kept {w' : World} (h : Dm C P c w) (h1 : w'.heap[C]? = w.heap[C]?) (h2 : w'.heap[P]? = w.heap[P]?) : Dm C P c w' := by
  obtain ⟨l, h3, h4⟩ := h.head
  exact ⟨⟨l, h1.trans h3, h4⟩, h2.trans h.pages, h.ok⟩
theorem Dm.below {w' : World} (h : Dm C P c w) (hb : Below w.heap.size w w') : Dm C P c w' := h.kept (hb.block C h.lt) (hb.block P h.ltP)
theorem Dm.drawn (h : Dm C P c w) (n : Nat) : Dm C P c (w.drewN n) := ⟨h.head, h.pages, h.ok⟩
theorem Dm.c0 (h : Dm C P c w) : w.cell? ⟨C, 0, none⟩ = some (.slice (some ⟨P, 0, none⟩) c.n c.n) := by obtain ⟨l, h1, _⟩ := h.head; exact Lib.cell_of_heap h1 0
theorem Dm.c2 (h : Dm C P c w) : w.cell? ⟨C, 2, none⟩ = some (.bool c.dead) := by obtain ⟨l, h1, _⟩ := h.head; exact Lib.cell_of_heap h1 2
theorem Dm.free (h : Dm C P c w) (k : Nat) : w.frozen? ⟨C, k, none⟩ = false := by obtain ⟨l, h1, _⟩ := h.head; exact Lib.frozen_of_heap h1 k
theorem Dm.range (h : Dm C P c w) (i : Nat) (hi : i < c.n) : w.rangeAt P (8 * i) (byC ((c.pg.drop (8 * i)).take 8)) := by
  intro j v hv
  have hl := h.ok.len
  have hj : j < 8 := by
    have := (List.getElem?_eq_some_iff.1 hv).1
    rw [byC_len, List.length_take] at this
    omega
  rw [Lib.cell_of_heap h.pages]
  have : (byC ((c.pg.drop (8 * i)).take 8))[j]? = (byC c.pg)[8 * i + j]? := by
    simp [Lib.byteCells, List.getElem?_take, hj]
  rw [this] at hv
  simpa using hv
theorem r9New_no (i : Int) (hi : i < 4 ∨ 32768 < i) (w : World) : Calls Try.prog 9 #[.int .i64 i] w fun e w' => e = .returned (.tuple #[.pointer none, .int .i64 1]) ∧ w' = w := by
  by_cases h : i < 4
  · have hd : decide (i < 4) = true := by simpa using h
    go_enter Try.func9, Try.ntmps9
    go_wp2
    go_ret2
    exact ⟨rfl, rfl⟩
  · have hd : decide (i < 4) = false := by simpa using h
    have hd2 : decide (32768 < i) = true := by simp; omega
    go_enter Try.func9, Try.ntmps9
    go_wp2
    go_ret2
    exact ⟨rfl, rfl⟩
theorem r9New_ok (n : Nat) (h1 : 4 ≤ n) (h2 : n ≤ 32768) (w : World) : Calls Try.prog 9 #[.int .i64 n] w fun e w' => ∃ C P, e = .returned (.tuple #[.pointer (some ⟨C, 0, none⟩), .int .i64 0]) ∧ Dm C P (Ch.new n) w' ∧ Below w.heap.size w w' ∧ w.heap.size ≤ C ∧ w.heap.size ≤ P := by
  obtain ⟨i0, hi0, hz0, hz1, hz2⟩ := info_parts infoA8z
  have hmk : (Instr.makeSlice 49 (.int .i64 n) (.int .i64 n)).run Try.prog w = .ok (.slice (some ⟨w.heap.size, 0, none⟩) n n) (w.alloc (.cells (byC (List.replicate (8 * n) 0)).toArray 38)) := by
    have := run_make (P := Try.prog) w 49 38 i0 _ Try.underlying49 hi0 hz0 .i64 .i64 n n (by omega) (Int.le_refl _) (by rw [hz2]; omega) (by omega)
    rw [hz1, Int.toNat_natCast] at this
    rw [this, show (Value.agg #[.int .u8 0, .int .u8 0, .int .u8 0, .int .u8 0, .int .u8 0, .int .u8 0, .int .u8 0, .int .u8 0]).cells = #[.int .u8 0, .int .u8 0, .int .u8 0, .int .u8 0, .int .u8 0, .int .u8 0, .int .u8 0, .int .u8 0] from rfl, made8]
  have b1 : Below w.heap.size w (w.alloc (.cells (byC (List.replicate (8 * n) 0)).toArray 38)) := (Below.refl _ w).alloc (Nat.le_refl _) _
  have hp := heap_alloc_new w (.cells (byC (List.replicate (8 * n) 0)).toArray 38 (0, 0))
  obtain ⟨w1, hw1⟩ : ∃ x, w.alloc (.cells (byC (List.replicate (8 * n) 0)).toArray 38) = x := ⟨_, rfl⟩
  obtain ⟨q, hq⟩ : ∃ q, w.heap.size = q := ⟨_, rfl⟩
  rw [hw1] at hmk b1 hp
  rw [hq] at hmk hp
  have hh := heap_alloc_new w1 (.cells #[.slice (some ⟨q, 0, none⟩) n n, .int .i64 (-1), .bool false] 53 (0, 0))
  have b2 := b1.alloc b1.size (.cells #[.slice (some ⟨q, 0, none⟩) n n, .int .i64 (-1), .bool false] 53)
  have HL : Hid (Dm w1.heap.size q (Ch.new n) (w1.alloc (.cells #[.slice (some ⟨q, 0, none⟩) n n, .int .i64 (-1), .bool false] 53)) ∧ Below w.heap.size w (w1.alloc (.cells #[.slice (some ⟨q, 0, none⟩) n n, .int .i64 (-1), .bool false] 53)) ∧ w.heap.size ≤ w1.heap.size ∧ w.heap.size ≤ q) :=
    ⟨⟨⟨-1, hh, fun _ => rfl⟩, (Below.heap_alloc w1 _ q (Array.getElem?_eq_some_iff.1 hp).1).trans hp, Ch.new_ok h1 h2⟩, b2, b1.size, by omega⟩
  clear b1 b2 hp hh hw1
  have hd : decide ((n : Int) < 4) = false := by simp; omega
  have hd2 : decide (32768 < (n : Int)) = false := by simp; omega
  go_enter Try.func9, Try.ntmps9
  go_wp2
  go_ret2
  exact ⟨_, _, rfl, HL.out⟩
theorem ZCut_any (h : Dm C P c w) (a : Int) (h0 : -9223372036854775808 ≤ a) (ha : a < 9223372036854775808) : Calls Try.prog 30 #[.pointer (some ⟨C, 0, none⟩), .int .i64 a] w fun e w' => (∃ v, e = .returned v) ∧ Dm C P (c.cut a) w' ∧ Two C P w w' := by
  obtain ⟨l, hh, hl⟩ := h.head
  have c1 : w.cell? ⟨C, 1, none⟩ = some (.int .i64 l) := Lib.cell_of_heap hh 1
  have hf := h.free
  have hset : ∀ (x y : Int) (W : World), W.heap[C]? = some (.cells #[.slice (some ⟨P, 0, none⟩) c.n c.n, .int .i64 x, .bool c.dead] 53 (0, 0)) → (W.setCell ⟨C, 1, none⟩ (.int .i64 y)).heap[C]? = some (.cells #[.slice (some ⟨P, 0, none⟩) c.n c.n, .int .i64 y, .bool c.dead] 53 (0, 0)) := fun x y W hW => by
    simp only [World.setCell, Array.getElem?_modify, hW]
    simp
  have h1 := hset l a w hh
  have p1 : (w.setCell ⟨C, 1, none⟩ (.int .i64 a)).heap[P]? = some (.cells (byC c.pg).toArray 38 (0, 0)) := (Below.heap_setCell w ⟨C, 1, none⟩ _ P (fun e => h.ne e.symm)).trans h.pages
  have T1 := hidOf ((Two.refl C P w).at0 1 (.int .i64 a))
  have HOK := hidOf (Ch.cut_ok h.ok ha)
  have hne := h.ne
  by_cases hneg : a < 0
  · have hd : decide (a < 0) = true := by simpa using hneg
    have HC : Hid (Dm C P (c.cut a) ((w.setCell ⟨C, 1, none⟩ (.int .i64 a)).setCell ⟨C, 1, none⟩ (.int .i64 (-1)))) := ⟨⟨-1, hset a (-1) _ h1, fun _ => by show (-1 : Int) = if a < -1 then -1 else a; split <;> omega⟩, (Below.heap_setCell _ ⟨C, 1, none⟩ _ P (fun e => hne e.symm)).trans p1, HOK.out⟩
    have T2 := hidOf (T1.out.at0 1 (.int .i64 (-1)))
    have c1' : (w.setCell ⟨C, 1, none⟩ (.int .i64 a)).cell? ⟨C, 1, none⟩ = some (.int .i64 a) := Lib.cell_of_heap h1 1
    have f1' : (w.setCell ⟨C, 1, none⟩ (.int .i64 a)).frozen? ⟨C, 1, none⟩ = false := Lib.frozen_of_heap h1 1
    obtain ⟨w1, hw1⟩ : ∃ x, w.setCell ⟨C, 1, none⟩ (.int .i64 a) = x := ⟨_, rfl⟩
    rw [hw1] at HC T2 c1' f1'
    clear h1 p1 T1 hh h hset
    go_enter Try.func30, Try.ntmps30
    go_wp2
    go_end0
    exact ⟨⟨_, rfl⟩, HC.out, T2.out⟩
  · have hd : decide (a < 0) = false := by simpa using hneg
    have HC : Hid (Dm C P (c.cut a) (w.setCell ⟨C, 1, none⟩ (.int .i64 a))) := ⟨⟨a, h1, fun _ => by show a = if a < -1 then -1 else a; rw [if_neg (by omega)]⟩, p1, HOK.out⟩
    clear h1 p1 hh h hset
    go_enter Try.func30, Try.ntmps30
    go_wp2
    go_end0
    exact ⟨⟨_, rfl⟩, HC.out, T1.out⟩
set_option maxHeartbeats 2000000 in
theorem ZWrite_put (h : Dm C P c w) (i : Nat) (b : List UInt8) (hb : b.length = 8) (hi : i < c.n) (hd : c.dead = false) (hl : c.left ≠ 0) :
    Calls Try.prog 29 #[.pointer (some ⟨C, 0, none⟩), .int .i64 i, pgV b] w fun e w' => e = .returned (.bool true) ∧ Dm C P (c.put i b) w' ∧ Two C P w w' := by
  obtain ⟨A, hA⟩ : ∃ A, (byC b).toArray = A := ⟨_, rfl⟩
  have hAs : A.size = 8 := by rw [← hA]; simp [Lib.byteCells, hb]
  have HA : Hid (A = (byC b).toArray) := hA.symm
  have HB := hidOf hb
  have B1 : Below w.heap.size w (w.alloc (.cells A 38)) := (Below.refl _ w).alloc (Nat.le_refl _) _
  have h1 := h.below B1
  have hq : (w.alloc (.cells A 38)).heap[w.heap.size]? = some (.cells A 38 (0, 0)) := heap_alloc_new w _
  have HP : Hid ((c.put i b).Ok) := Ch.put_ok h.ok hi hb
  have HOK := hidOf h.ok
  have T1 := hidOf (Two.of_below B1 C P)
  obtain ⟨lf, hh1, hlf⟩ := h1.head
  obtain rfl := hlf hd
  have c0 := h1.c0
  have c1 : (w.alloc (.cells A 38)).cell? ⟨C, 1, none⟩ = some (.int .i64 c.left) := Lib.cell_of_heap hh1 1
  have c2 := h1.c2
  have hf := h1.free
  have hpp := h1.pages
  have hCP := h.ne
  rw [hd] at c2
  unfold pgV
  rw [hA]
  obtain ⟨w1, hw1⟩ : ∃ x, w.alloc (.cells A 38) = x := ⟨_, rfl⟩
  obtain ⟨q, hqs⟩ : ∃ q, w.heap.size = q := ⟨_, rfl⟩
  rw [hw1] at h1 hq T1 c0 c1 c2 hf hh1 hpp
  rw [hqs] at hq
  clear B1
  have hqlt := h.ltP
  have hClt := h.lt
  have hin := hi
  have hd4 : decide (c.n ≤ i) = false := by simp; omega
  have hd5 : decide ((c.n : Int) ≤ (i : Int)) = false := by simp; omega
  by_cases hneg : 0 < c.left
  · have hd0' : (c.left == 0) = false := by simpa using hl
    have hd1 : decide (0 < c.left) = true := by simpa using hneg
    have hw : wrap64 (c.left - 1) = c.left - 1 := by have := h.ok.l1; have := h.ok.l2; simp only [wrap64]; omega
    have hcX : (w1.setCell ⟨C, 1, none⟩ (.int .i64 (c.left - 1))).heap[C]? = some (.cells #[.slice (some ⟨P, 0, none⟩) c.n c.n, .int .i64 (c.left - 1), .bool c.dead] 53 (0, 0)) := by
      simp only [World.setCell, Array.getElem?_modify, hh1]
      simp
    have hpX : (w1.setCell ⟨C, 1, none⟩ (.int .i64 (c.left - 1))).heap[P]? = some (.cells (byC c.pg).toArray 38 (0, 0)) := (Below.heap_setCell w1 ⟨C, 1, none⟩ _ P (fun e => hCP e.symm)).trans hpp
    have TX := hidOf (T1.out.at0 1 (.int .i64 (c.left - 1)))
    have hqX : (w1.setCell ⟨C, 1, none⟩ (.int .i64 (c.left - 1))).heap[q]? = some (.cells A 38 (0, 0)) := (Below.heap_setCell _ ⟨C, 1, none⟩ _ q (by show q ≠ C; omega)).trans hq
    go_enter Try.func29, Try.ntmps29
    go_upto_region 8 with fail
    clear h1 hq hh1 hpp T1 c0 c1 c2 hf
    clear hw1
    generalize w1.setCell ⟨C, 1, none⟩ (.int .i64 (c.left - 1)) = X at *
    have HPG : Hid (X.drew.heap[P]? = some (.cells (byC c.pg).toArray 38 (0, 0))) := hpX
    have HZ : Hid (Dm C P (c.put i b) (X.drew.setRow P (putA (byC c.pg).toArray (8 * i) b))) := ⟨⟨_, (Go.Proofs.Ythbcpmakhdogmaa.setRow_other _ P C _ hCP).trans hcX, fun _ => (by show c.left - 1 = if 0 < c.left then c.left - 1 else c.left; rw [if_pos hneg])⟩, by show _ = some (Obj.cells (byC (splice c.pg (8 * i) b)).toArray _ _); rw [byC_splice]; exact Go.Proofs.Ythbcpmakhdogmaa.setRow_heap X.drew P _ _ _ _ HPG.out, HP.out⟩
    have TZ := hidOf ((TX.out.drawn 1).row P (.inr (.inl rfl)) (putA (byC c.pg).toArray (8 * i) b))
    have S0 : X.drew.heap[C]? = some (.cells #[.slice (some ⟨P, 0, none⟩) c.n c.n, .int .i64 (c.left - 1), .bool c.dead] 53 (0, 0)) ∧ X.drew.heap[q]? = some (.cells A 38 (0, 0)) := ⟨hcX, hqX⟩
    have SZ : Hid ((X.drew.setRow P (putA (byC c.pg).toArray (8 * i) b)).heap[C]? = some (.cells #[.slice (some ⟨P, 0, none⟩) c.n c.n, .int .i64 (c.left - 1), .bool c.dead] 53 (0, 0)) ∧ (X.drew.setRow P (putA (byC c.pg).toArray (8 * i) b)).heap[q]? = some (.cells A 38 (0, 0))) :=
      ⟨(Go.Proofs.Ythbcpmakhdogmaa.setRow_other _ P C _ hCP).trans S0.1, (Go.Proofs.Ythbcpmakhdogmaa.setRow_other _ P q _ (by omega)).trans S0.2⟩
    have HAS := hidOf hAs
    have hsz : 8 * i + 8 ≤ c.pg.length := by have := HOK.out.len; omega
    refine wp_region_held (S := fun x => x.heap[C]? = some (.cells #[.slice (some ⟨P, 0, none⟩) c.n c.n, .int .i64 (c.left - 1), .bool c.dead] 53 (0, 0)) ∧ x.heap[q]? = some (.cells A 38 (0, 0))) (by kernel_rfl) ?_
    change wpAnyH _ _ _ _ _ _ _ _ X.drew
    refine wpAnyH_take (i := 0) (v := (.pointer (some ⟨C, 0, none⟩))) rfl (by kernel_rfl) (by kernel_rfl) (by kernel_rfl) (fun _ _ _ h => h) (.inl ⟨rfl, fun _ hS => rfl⟩) S0 ?_
    simp only [List.getElem_toArray, List.getElem_cons_succ, List.getElem_cons_zero, Act.put, List.setIfInBounds_toArray, List.set_cons_succ, List.set_cons_zero]
    refine wpAnyH_take (i := 1) (v := (.pointer (some ⟨C, 0, none⟩))) rfl (by kernel_rfl) (by kernel_rfl) (by kernel_rfl) (fun _ _ _ h => h) (.inl ⟨rfl, fun _ hS => by simp [execOp, go_sem, Act.eval]⟩) S0 ?_
    simp only [List.getElem_toArray, List.getElem_cons_succ, List.getElem_cons_zero, Act.put, List.setIfInBounds_toArray, List.set_cons_succ, List.set_cons_zero]
    refine wpAnyH_take (i := 2) (v := (.pointer (some ⟨C, 0, none⟩))) rfl (by kernel_rfl) (by kernel_rfl) (by kernel_rfl) (fun _ _ _ h => h) (.inl ⟨rfl, fun _ hS => by simp [execOp, go_sem, Act.eval]⟩) S0 ?_
    simp only [List.getElem_toArray, List.getElem_cons_succ, List.getElem_cons_zero, Act.put, List.setIfInBounds_toArray, List.set_cons_succ, List.set_cons_zero]
    refine wpAnyH_take (i := 3) (v := (.slice (some ⟨P, 0, none⟩) c.n c.n)) rfl (by kernel_rfl) (by kernel_rfl) (by kernel_rfl) (fun _ _ _ h => h) (.inl ⟨rfl, fun _ hS => exec_loadN rfl rfl (load_pg _ C 0 _ _ _ (Lib.cell_of_heap hS.1 0))⟩) S0 ?_
    simp only [List.getElem_toArray, List.getElem_cons_succ, List.getElem_cons_zero, Act.put, List.setIfInBounds_toArray, List.set_cons_succ, List.set_cons_zero]
    refine wpAnyH_take (i := 4) (v := (.int .i64 (i : Int))) rfl (by kernel_rfl) (by kernel_rfl) (by kernel_rfl) (fun _ _ _ h => h) (.inl ⟨rfl, fun _ hS => rfl⟩) S0 ?_
    simp only [List.getElem_toArray, List.getElem_cons_succ, List.getElem_cons_zero, Act.put, List.setIfInBounds_toArray, List.set_cons_succ, List.set_cons_zero]
    refine wpAnyH_take (i := 5) (v := (.agg A)) rfl (by kernel_rfl) (by kernel_rfl) (by kernel_rfl) (fun _ _ _ h => h) (.inl ⟨rfl, fun _ hS => exec_loadN rfl rfl (load_a8 _ _ A hS.2 HAS.out)⟩) S0 ?_
    simp only [List.getElem_toArray, List.getElem_cons_succ, List.getElem_cons_zero, Act.put, List.setIfInBounds_toArray, List.set_cons_succ, List.set_cons_zero]
    refine wpAnyH_take (i := 6) (v := (.pointer (some ⟨P, 8 * i, none⟩))) rfl (by kernel_rfl) (by kernel_rfl) (by kernel_rfl) (fun _ _ _ h => h) (.inl ⟨rfl, fun _ hS => exec_idxP rfl rfl rfl hin _⟩) S0 ?_
    simp only [List.getElem_toArray, List.getElem_cons_succ, List.getElem_cons_zero, Act.put, List.setIfInBounds_toArray, List.set_cons_succ, List.set_cons_zero]
    refine wpAnyH_all (rs := [7]) (by kernel_rfl) (by simp) ?_
    intro k hk
    simp only [List.mem_cons, List.mem_nil_iff, or_false] at hk
    subst hk
    refine wpOp_runN rfl rfl (wp_storePg _ _ rfl P (8 * i) _ _ b HB.out rfl (by show Value.agg A = pgV b; rw [HA.out]; rfl) HPG.out (by rw [List.size_toArray, byC_len]; exact hsz) ?_)
    refine ⟨SZ.out, ?_⟩
    simp only [List.getElem_toArray, List.getElem_cons_succ, List.getElem_cons_zero, Act.put, List.setIfInBounds_toArray, List.set_cons_succ, List.set_cons_zero]
    refine wpAnyH_done (by kernel_rfl) ?_ _
    clear S0 SZ
    go_wp2
    go_ret
    exact ⟨rfl, HZ.out, TZ.out⟩
  · have hd0' : (c.left == 0) = false := by simpa using hl
    have hd1 : decide (0 < c.left) = false := by simpa using hneg
    go_enter Try.func29, Try.ntmps29
    go_upto_region 8 with fail
    have TX := T1
    have hqX := hq
    have hcX := hh1
    have hpX := hpp
    clear h1 hq hh1 hpp T1 c0 c1 c2 hf
    clear hw1
    have HPG : Hid (w1.drew.heap[P]? = some (.cells (byC c.pg).toArray 38 (0, 0))) := hpX
    have HZ : Hid (Dm C P (c.put i b) (w1.drew.setRow P (putA (byC c.pg).toArray (8 * i) b))) := ⟨⟨_, (Go.Proofs.Ythbcpmakhdogmaa.setRow_other _ P C _ hCP).trans hcX, fun _ => (by show c.left = if 0 < c.left then c.left - 1 else c.left; rw [if_neg (by omega)])⟩, by show _ = some (Obj.cells (byC (splice c.pg (8 * i) b)).toArray _ _); rw [byC_splice]; exact Go.Proofs.Ythbcpmakhdogmaa.setRow_heap w1.drew P _ _ _ _ HPG.out, HP.out⟩
    have TZ := hidOf ((TX.out.drawn 1).row P (.inr (.inl rfl)) (putA (byC c.pg).toArray (8 * i) b))
    have S0 : w1.drew.heap[C]? = some (.cells #[.slice (some ⟨P, 0, none⟩) c.n c.n, .int .i64 c.left, .bool c.dead] 53 (0, 0)) ∧ w1.drew.heap[q]? = some (.cells A 38 (0, 0)) := ⟨hcX, hqX⟩
    have SZ : Hid ((w1.drew.setRow P (putA (byC c.pg).toArray (8 * i) b)).heap[C]? = some (.cells #[.slice (some ⟨P, 0, none⟩) c.n c.n, .int .i64 c.left, .bool c.dead] 53 (0, 0)) ∧ (w1.drew.setRow P (putA (byC c.pg).toArray (8 * i) b)).heap[q]? = some (.cells A 38 (0, 0))) :=
      ⟨(Go.Proofs.Ythbcpmakhdogmaa.setRow_other _ P C _ hCP).trans S0.1, (Go.Proofs.Ythbcpmakhdogmaa.setRow_other _ P q _ (by omega)).trans S0.2⟩
    have HAS := hidOf hAs
    have hsz : 8 * i + 8 ≤ c.pg.length := by have := HOK.out.len; omega
    refine wp_region_held (S := fun x => x.heap[C]? = some (.cells #[.slice (some ⟨P, 0, none⟩) c.n c.n, .int .i64 c.left, .bool c.dead] 53 (0, 0)) ∧ x.heap[q]? = some (.cells A 38 (0, 0))) (by kernel_rfl) ?_
    change wpAnyH _ _ _ _ _ _ _ _ w1.drew
    refine wpAnyH_take (i := 0) (v := (.pointer (some ⟨C, 0, none⟩))) rfl (by kernel_rfl) (by kernel_rfl) (by kernel_rfl) (fun _ _ _ h => h) (.inl ⟨rfl, fun _ hS => rfl⟩) S0 ?_
    simp only [List.getElem_toArray, List.getElem_cons_succ, List.getElem_cons_zero, Act.put, List.setIfInBounds_toArray, List.set_cons_succ, List.set_cons_zero]
    refine wpAnyH_take (i := 1) (v := (.pointer (some ⟨C, 0, none⟩))) rfl (by kernel_rfl) (by kernel_rfl) (by kernel_rfl) (fun _ _ _ h => h) (.inl ⟨rfl, fun _ hS => by simp [execOp, go_sem, Act.eval]⟩) S0 ?_
    simp only [List.getElem_toArray, List.getElem_cons_succ, List.getElem_cons_zero, Act.put, List.setIfInBounds_toArray, List.set_cons_succ, List.set_cons_zero]
    refine wpAnyH_take (i := 2) (v := (.pointer (some ⟨C, 0, none⟩))) rfl (by kernel_rfl) (by kernel_rfl) (by kernel_rfl) (fun _ _ _ h => h) (.inl ⟨rfl, fun _ hS => by simp [execOp, go_sem, Act.eval]⟩) S0 ?_
    simp only [List.getElem_toArray, List.getElem_cons_succ, List.getElem_cons_zero, Act.put, List.setIfInBounds_toArray, List.set_cons_succ, List.set_cons_zero]
    refine wpAnyH_take (i := 3) (v := (.slice (some ⟨P, 0, none⟩) c.n c.n)) rfl (by kernel_rfl) (by kernel_rfl) (by kernel_rfl) (fun _ _ _ h => h) (.inl ⟨rfl, fun _ hS => exec_loadN rfl rfl (load_pg _ C 0 _ _ _ (Lib.cell_of_heap hS.1 0))⟩) S0 ?_
    simp only [List.getElem_toArray, List.getElem_cons_succ, List.getElem_cons_zero, Act.put, List.setIfInBounds_toArray, List.set_cons_succ, List.set_cons_zero]
    refine wpAnyH_take (i := 4) (v := (.int .i64 (i : Int))) rfl (by kernel_rfl) (by kernel_rfl) (by kernel_rfl) (fun _ _ _ h => h) (.inl ⟨rfl, fun _ hS => rfl⟩) S0 ?_
    simp only [List.getElem_toArray, List.getElem_cons_succ, List.getElem_cons_zero, Act.put, List.setIfInBounds_toArray, List.set_cons_succ, List.set_cons_zero]
    refine wpAnyH_take (i := 5) (v := (.agg A)) rfl (by kernel_rfl) (by kernel_rfl) (by kernel_rfl) (fun _ _ _ h => h) (.inl ⟨rfl, fun _ hS => exec_loadN rfl rfl (load_a8 _ _ A hS.2 HAS.out)⟩) S0 ?_
    simp only [List.getElem_toArray, List.getElem_cons_succ, List.getElem_cons_zero, Act.put, List.setIfInBounds_toArray, List.set_cons_succ, List.set_cons_zero]
    refine wpAnyH_take (i := 6) (v := (.pointer (some ⟨P, 8 * i, none⟩))) rfl (by kernel_rfl) (by kernel_rfl) (by kernel_rfl) (fun _ _ _ h => h) (.inl ⟨rfl, fun _ hS => exec_idxP rfl rfl rfl hin _⟩) S0 ?_
    simp only [List.getElem_toArray, List.getElem_cons_succ, List.getElem_cons_zero, Act.put, List.setIfInBounds_toArray, List.set_cons_succ, List.set_cons_zero]
    refine wpAnyH_all (rs := [7]) (by kernel_rfl) (by simp) ?_
    intro k hk
    simp only [List.mem_cons, List.mem_nil_iff, or_false] at hk
    subst hk
    refine wpOp_runN rfl rfl (wp_storePg _ _ rfl P (8 * i) _ _ b HB.out rfl (by show Value.agg A = pgV b; rw [HA.out]; rfl) HPG.out (by rw [List.size_toArray, byC_len]; exact hsz) ?_)
    refine ⟨SZ.out, ?_⟩
    simp only [List.getElem_toArray, List.getElem_cons_succ, List.getElem_cons_zero, Act.put, List.setIfInBounds_toArray, List.set_cons_succ, List.set_cons_zero]
    refine wpAnyH_done (by kernel_rfl) ?_ _
    clear S0 SZ
    go_wp2
    go_ret
    exact ⟨rfl, HZ.out, TZ.out⟩
theorem ZWrite_no (h : Dm C P c w) (i : Int) (b : List UInt8) (hb : b.length = 8) (hno : c.has i = false ∨ c.dead = true) :
    Calls Try.prog 29 #[.pointer (some ⟨C, 0, none⟩), .int .i64 i, pgV b] w fun e w' => e = .returned (.bool false) ∧ Dm C P c w' ∧ Two C P w w' := by
  obtain ⟨A, hA⟩ : ∃ A, (byC b).toArray = A := ⟨_, rfl⟩
  have hAs : A.size = 8 := by rw [← hA]; simp [Lib.byteCells, hb]
  have B1 : Below w.heap.size w (w.alloc (.cells A 38)) := (Below.refl _ w).alloc (Nat.le_refl _) _
  have h1 := h.below B1
  have T1 := hidOf (Two.of_below B1 C P)
  have HX0 := hidOf h1
  have c0 := h1.c0
  have c2 := h1.c2
  unfold pgV
  rw [hA]
  clear hA h B1 hb h1
  by_cases hneg : i < 0
  · have hd : decide (i < 0) = true := by simpa using hneg
    go_enter Try.func29, Try.ntmps29
    go_wp2
    go_ret
    exact ⟨rfl, HX0.out, T1.out⟩
  · have hd : decide (i < 0) = false := by simpa using hneg
    by_cases hbig : (c.n : Int) ≤ i
    · have hd2 : decide ((c.n : Int) ≤ i) = true := by simpa using hbig
      go_enter Try.func29, Try.ntmps29
      go_wp2
      go_ret
      exact ⟨rfl, HX0.out, T1.out⟩
    · have hd2 : decide ((c.n : Int) ≤ i) = false := by simpa using hbig
      have hdd : c.dead = true := by
        rcases hno with hno | hno
        · simp [Ch.has] at hno; omega
        · exact hno
      rw [hdd] at c2
      clear hno
      go_enter Try.func29, Try.ntmps29
      go_wp2
      go_ret
      exact ⟨rfl, HX0.out, T1.out⟩
theorem ZWrite_die (h : Dm C P c w) (i : Int) (b : List UInt8) (hb : b.length = 8) (hhas : c.has i = true) (hd : c.dead = false) (hl : c.left = 0) :
    Calls Try.prog 29 #[.pointer (some ⟨C, 0, none⟩), .int .i64 i, pgV b] w fun e w' => e = .returned (.bool false) ∧ Dm C P c.die w' ∧ Two C P w w' := by
  obtain ⟨A, hA⟩ : ∃ A, (byC b).toArray = A := ⟨_, rfl⟩
  have hAs : A.size = 8 := by rw [← hA]; simp [Lib.byteCells, hb]
  have B1 : Below w.heap.size w (w.alloc (.cells A 38)) := (Below.refl _ w).alloc (Nat.le_refl _) _
  have h1 := h.below B1
  obtain ⟨lf, hh1, hlf⟩ := h1.head
  obtain rfl := hlf hd
  have c0 := h1.c0
  have c1 : (w.alloc (.cells A 38)).cell? ⟨C, 1, none⟩ = some (.int .i64 c.left) := Lib.cell_of_heap hh1 1
  have c2 := h1.c2
  have hf := h1.free
  have hpp := h1.pages
  have hCP := h.ne
  rw [hd] at c2
  rw [hl] at c1 hh1
  have T0 := hidOf (Two.of_below B1 C P)
  unfold pgV
  rw [hA]
  obtain ⟨w1, hw1⟩ : ∃ x, w.alloc (.cells A 38) = x := ⟨_, rfl⟩
  rw [hw1] at h1 c0 c1 c2 hf hh1 hpp T0
  have s1 : (w1.setCell ⟨C, 2, none⟩ (.bool true)).heap[C]? = some (.cells #[.slice (some ⟨P, 0, none⟩) c.n c.n, .int .i64 0, .bool true] 53 (0, 0)) := by
    simp only [World.setCell, Array.getElem?_modify, hh1]
    simp
  have s2 : ((w1.setCell ⟨C, 2, none⟩ (.bool true)).setCell ⟨C, 1, none⟩ (.int .i64 (-1))).heap[C]? = some (.cells #[.slice (some ⟨P, 0, none⟩) c.n c.n, .int .i64 (-1), .bool true] 53 (0, 0)) := by
    simp only [World.setCell, Array.getElem?_modify] at s1 ⊢
    simp [s1] at s1 ⊢
    rw [hh1]
    simp
  have HX0 : Hid (Dm C P c.die ((w1.setCell ⟨C, 2, none⟩ (.bool true)).setCell ⟨C, 1, none⟩ (.int .i64 (-1)))) := ⟨⟨-1, s2, fun e => by cases e⟩, (Below.heap_setCell _ ⟨C, 1, none⟩ _ P (fun e => hCP e.symm)).trans ((Below.heap_setCell _ ⟨C, 2, none⟩ _ P (fun e => hCP e.symm)).trans hpp), ⟨h.ok.len, h.ok.lo, h.ok.hi, h.ok.l1, h.ok.l2⟩⟩
  have T1 := hidOf ((T0.out.at0 2 (.bool true)).at0 1 (.int .i64 (-1)))
  have hin : 0 ≤ i ∧ i < c.n := by simpa [Ch.has] using hhas
  have hd1 : decide (i < 0) = false := by simp; omega
  have hd2 : decide ((c.n : Int) ≤ i) = false := by simp; omega
  clear hA h B1 hb h1 hpp hh1 s1 s2 hhas
  go_enter Try.func29, Try.ntmps29
  go_wp2
  go_ret
  exact ⟨rfl, HX0.out, T1.out⟩
theorem ZWrite_any (h : Dm C P c w) (i : Int) (b : List UInt8) (hb : b.length = 8) :
    Calls Try.prog 29 #[.pointer (some ⟨C, 0, none⟩), .int .i64 i, pgV b] w fun e w' => e = .returned (.bool (c.wr i b).2) ∧ Dm C P (c.wr i b).1 w' ∧ Two C P w w' := by
  cases hhas : c.has i with
  | false => rw [wr_no (.inl hhas)]; exact ZWrite_no h i b hb (.inl hhas)
  | true =>
    cases hd : c.dead with
    | true => rw [wr_no (.inr hd)]; exact ZWrite_no h i b hb (.inr hd)
    | false =>
      by_cases hl : c.left = 0
      · rw [wr_die hhas hd hl]; exact ZWrite_die h i b hb hhas hd hl
      · rw [wr_put hhas hd hl]
        have hi : 0 ≤ i ∧ i < c.n := by simpa [Ch.has] using hhas
        have := ZWrite_put h i.toNat b hb (by omega) hd hl
        rw [show ((i.toNat : Nat) : Int) = i by omega] at this
        exact this
end
end Go.Proofs.Ythbcpmakhdogmaa
