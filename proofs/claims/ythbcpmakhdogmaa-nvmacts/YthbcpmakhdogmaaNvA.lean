/- Contracts: halfAt. -/
import Derived.Test.YthbcpmakhdogmaaNvH
namespace Go.Proofs.Ythbcpmakhdogmaa
open Go.RowKit Go.Proofs.Ty Go.Proofs.Nv Go.Proofs.Bits
set_option linter.unusedVariables false
set_option maxRecDepth 1000000
set_option linter.unusedSimpArgs false
theorem enterN_nu : ∀ args x, (callFunc 44 args).run Try.prog x = .ok (.enter 44 args) x := fun _ _ => by rfl
theorem infoHf : (Try.prog.info? 56).map (·.size) = some 3 := by kernel_rfl
/-- A half's cells. -/
def hfA (f k : Nat) (v : Value) : Array Value := #[.int .i64 f, .int .u16 k, v]
theorem hfA_one (f k : Nat) (v : Value) (h : v.oneCell' = true) : (hfA f k v).all (·.oneCell') = true := by
  rw [hfA, Array.all_eq_true_iff_forall_mem]
  intro x hx
  simp at hx
  rcases hx with rfl | rfl | rfl
  · rfl
  · rfl
  · exact h
theorem load_hf (w : World) (q f k : Nat) (v : Value) (hq : w.heap[q]? = some (.cells (hfA f k v) 56 (0, 0))) : (loadVar 56 ⟨q, 0, none⟩).run Try.prog w = .ok (.agg (hfA f k v)) w :=
  run_loadVar_row w q 56 56 _ (0, 0) _ hq Try.underlying56 rfl infoHf
theorem bytes_rowN {w : World} {v : Value} {l : List UInt8} {q : Nat} {x y : Int} {T : TypeId} (h : Bytes w v l) (hq : w.heap[q]? = some (.cells #[.int .i64 x, .int .u16 y, .slice none 0 0] T (0, 0))) (A : Array Value) : Bytes (w.setRow q A) v l := by
  obtain ⟨ao, cap, hv, h0, hc⟩ := h
  refine ⟨ao, cap, hv, h0, fun k hk => ?_⟩
  obtain ⟨b, off, ha, hlt, hcell⟩ := hc k hk
  have hne : b ≠ q := by
    intro e
    subst e
    rw [Lib.cell_of_heap hq] at hcell
    generalize off + k = j at hcell
    match j, hcell with
    | 0, hcell => simp at hcell
    | 1, hcell => simp at hcell
    | 2, hcell => simp at hcell
    | j + 3, hcell => simp at hcell
  refine ⟨b, off, ha, by simpa [World.setRow] using hlt, ?_⟩
  rw [← hcell]
  simp only [World.cell?, Go.Proofs.Ythbcpmakhdogmaa.setRow_other w q b A hne]
theorem neq_natN (a b : Nat) : (!decide ((a : Int) = (b : Int))) = (a != b) := by
  cases h : (a != b)
  · simp at h; simp [h]
  · simp at h; simp; omega
section
variable {C P : Nat} {c : Ch} {w : World}
theorem seg_len (h : c.Ok) (f : Nat) (hf : f + c.many ≤ c.n) : (c.seg f).length = 8 * c.many := by
  unfold Ch.seg
  rw [List.length_take, List.length_drop, h.len]
  omega
theorem rd_seg (h : c.Ok) (f : Nat) (hf : f + c.many ≤ c.n) : c.rd (f : Int) = (c.seg f).take 8 ∧ ∀ m, m ≤ c.room → (c.pg.drop (8 * (f + 1))).take m = ((c.seg f).drop 8).take m := by
  have h2 : 2 ≤ c.many := by have := h.lo; unfold Ch.many; omega
  have hr : c.room = 8 * (c.many - 1) := rfl
  refine ⟨?_, fun m hm => ?_⟩
  · unfold Ch.rd
    rw [if_pos (by simp [Ch.has]; omega), Int.toNat_natCast, Ch.seg, List.take_take, Nat.min_eq_left (by omega)]
  · unfold Ch.seg
    rw [List.drop_take, List.drop_drop, List.take_take, Nat.min_eq_left (by omega)]
    congr 2
set_option maxHeartbeats 8000000 in
theorem halfAt_any (h : Cm C P c w) (f : Nat) (hf : f + c.many ≤ c.n) :
    Calls Try.prog 36 #[.pointer (some ⟨C, 0, none⟩), .int .i64 f] w fun e w' => ∃ v, e = .returned (.agg (hfA f (c.holds f).1 v)) ∧ Bytes w' v (c.holds f).2 ∧ Below w.heap.size w w' ∧ Fr w.heap.size v := by
  obtain ⟨er, ed⟩ := rd_seg h.ok f hf
  have sl := seg_len h.ok f hf
  have hmany : 2 ≤ c.many := by have := h.ok.lo; unfold Ch.many; omega
  have hhi := h.ok.hi
  have hroom : c.room ≤ 131072 := by unfold Ch.room; omega
  have hrm : c.room = 8 * (c.many - 1) := rfl
  obtain ⟨S, hS⟩ : ∃ x, c.seg f = x := ⟨_, rfl⟩
  have HH : Hid (c.holds f = hs c.room S) := by show _ = _; unfold Ch.holds; rw [hS]
  rw [hS] at er ed sl
  obtain ⟨X, hX⟩ : ∃ x, S.take 8 = x := ⟨_, rfl⟩
  rw [hX] at er
  have X8 : X.length = 8 := by rw [← hX, List.length_take]; omega
  have x2 : X.take 2 = S.take 2 := by rw [← hX, List.take_take]; congr 1
  have x6 : X.take 6 = S.take 6 := by rw [← hX, List.take_take]; congr 1
  have x4 : (X.drop 2).take 4 = (S.drop 2).take 4 := by rw [← hX, List.drop_take, List.take_take]; congr 1
  have x7 : (X.drop 6).take 2 = (S.drop 6).take 2 := by rw [← hX, List.drop_take, List.take_take]; congr 1
  have HR : Hid (hs c.room S = if num (S.take 2) = 0 ∨ c.room < num ((S.drop 2).take 4) then (0, []) else if num ((S.drop 6).take 2) = crc16 (S.take 6 ++ (S.drop 8).take (num ((S.drop 2).take 4))) then (num (S.take 2), (S.drop 8).take (num ((S.drop 2).take 4))) else (0, [])) := rfl
  have lk := num_lt (X.take 2)
  have lm := num_lt ((X.drop 2).take 4)
  have ls := num_lt ((X.drop 6).take 2)
  have e2 : (X.take 2).length = 2 := by rw [List.length_take]; omega
  have e4 : ((X.drop 2).take 4).length = 4 := by rw [List.length_take, List.length_drop]; omega
  have e6 : ((X.drop 6).take 2).length = 2 := by rw [List.length_take, List.length_drop]; omega
  rw [e2] at lk
  rw [e4] at lm
  rw [e6] at ls
  rw [← x2, ← x4, ← x7, ← x6] at HR
  obtain ⟨k, hk⟩ : ∃ n, num (X.take 2) = n := ⟨_, rfl⟩
  obtain ⟨m, hm⟩ : ∃ n, num ((X.drop 2).take 4) = n := ⟨_, rfl⟩
  obtain ⟨s, hs'⟩ : ∃ n, num ((X.drop 6).take 2) = n := ⟨_, rfl⟩
  rw [hk, hm, hs'] at HR
  rw [hk] at lk
  rw [hm] at lm
  rw [hs'] at ls
  rw [HH.out]
  generalize hs c.room S = R at *
  -- the two boxes
  have hq0 := heap_alloc_new w (.cells #[.int .i64 0, .int .u16 0, .slice none 0 0] 56 (0, 0))
  have B1 : Below w.heap.size w (w.alloc (.cells #[.int .i64 0, .int .u16 0, .slice none 0 0] 56)) := (Below.refl _ w).alloc (Nat.le_refl _) _
  obtain ⟨w1, hw1⟩ : ∃ x, w.alloc (.cells #[.int .i64 0, .int .u16 0, .slice none 0 0] 56) = x := ⟨_, rfl⟩
  obtain ⟨q0, hq0s⟩ : ∃ q, w.heap.size = q := ⟨_, rfl⟩
  rw [hw1] at hq0 B1
  rw [hq0s] at hq0
  have hrd := Read_any (h.below B1) (f : Int)
  rw [er, pgV] at hrd
  obtain ⟨A, hA⟩ : ∃ x, (byC X).toArray = x := ⟨_, rfl⟩
  have hAs : A.size = 8 := by rw [← hA, List.size_toArray, byC_len, X8]
  have hone : A.all (·.oneCell') = true := by rw [← hA]; exact all_oneCell_toArray (byteCells_one X)
  rw [hA] at hrd
  have HPT : Hid (∀ (x : World) (q o n cap : Nat), x.heap[q]? = some (.cells A 38 (0, 0)) → ((X.drop o).take n).length = n → Bytes x (.slice (some ⟨q, o, none⟩) n cap) ((X.drop o).take n)) := fun x q o n cap hx hl =>
    bytes_cells hx cap hl (fun j hj => by rw [← hA]; exact byC_part X o n j hj)
  have HW : Hid (∀ w2, Below w1.heap.size w1 w2 → ∃ w3 q, w2.alloc (.cells #[.int .u8 0, .int .u8 0, .int .u8 0, .int .u8 0, .int .u8 0, .int .u8 0, .int .u8 0, .int .u8 0] 38) = w3 ∧ w2.heap.size = q ∧ w3.heap[q]? = some (.cells #[.int .u8 0, .int .u8 0, .int .u8 0, .int .u8 0, .int .u8 0, .int .u8 0, .int .u8 0, .int .u8 0] 38 (0, 0)) ∧ ∃ w4, w3.setRow q A = w4 ∧ w4.heap[q]? = some (.cells A 38 (0, 0)) ∧ Hid (Below w1.heap.size w1 w4) ∧ q0 ≠ q ∧
      Calls Try.prog 44 #[.slice (some ⟨q, 0, none⟩) 2 8] w4.drew (fun e w' => e = .returned (.int .u64 k) ∧ w' = w4.drew) ∧ Calls Try.prog 44 #[.slice (some ⟨q, 2, none⟩) 4 6] w4.drew (fun e w' => e = .returned (.int .u64 m) ∧ w' = w4.drew)) := by
    intro w2 b2
    have hq2 := heap_alloc_new w2 (.cells #[.int .u8 0, .int .u8 0, .int .u8 0, .int .u8 0, .int .u8 0, .int .u8 0, .int .u8 0, .int .u8 0] 38 (0, 0))
    have b3 := b2.alloc b2.size (.cells #[.int .u8 0, .int .u8 0, .int .u8 0, .int .u8 0, .int .u8 0, .int .u8 0, .int .u8 0, .int .u8 0] 38)
    have hq4 := Go.Proofs.Ythbcpmakhdogmaa.setRow_heap _ w2.heap.size _ A _ _ hq2
    have n1 := number_any (.slice (some ⟨w2.heap.size, 0, none⟩) 2 8) (X.take 2) (((w2.alloc (.cells #[.int .u8 0, .int .u8 0, .int .u8 0, .int .u8 0, .int .u8 0, .int .u8 0, .int .u8 0, .int .u8 0] 38)).setRow w2.heap.size A)).drew (by omega) (HPT.out _ _ 0 2 8 hq4 e2)
    have n2 := number_any (.slice (some ⟨w2.heap.size, 2, none⟩) 4 6) ((X.drop 2).take 4) (((w2.alloc (.cells #[.int .u8 0, .int .u8 0, .int .u8 0, .int .u8 0, .int .u8 0, .int .u8 0, .int .u8 0, .int .u8 0] 38)).setRow w2.heap.size A)).drew (by omega) (HPT.out _ _ 2 4 6 hq4 e4)
    rw [hk] at n1
    rw [hm] at n2
    exact ⟨_, _, rfl, rfl, hq2, _, rfl, hq4, below_row b3 b2.size b3.size A, (by have := (Array.getElem?_eq_some_iff.1 hq0).1; have := b2.size; omega), n1, n2⟩
  have HB1 := hidOf B1
  have HQ0 : Hid (∀ x, Below w1.heap.size w1 x → x.heap[q0]? = some (.cells #[.int .i64 0, .int .u16 0, .slice none 0 0] 56 (0, 0))) := fun x hx => (hx.block q0 (Array.getElem?_eq_some_iff.1 hq0).1).trans hq0
  have HRO : Hid (∀ x, Below w1.heap.size w1 x → Calls Try.prog 11 #[.pointer (some ⟨C, 0, none⟩)] x fun e w' => e = .returned (.int .i64 c.room) ∧ w' = x) := fun x hx => Room_any (h.below (B1.trans (hx.mono B1.size)))
  have HRB : Hid (∀ x, m ≤ c.room → Below w1.heap.size w1 x → Calls Try.prog 45 #[.pointer (some ⟨C, 0, none⟩), .int .i64 ((f : Int) + 1), .int .i64 m] x fun e w' => ∃ v, e = .returned v ∧ Bytes w' v ((S.drop 8).take m) ∧ Below x.heap.size x w' ∧ Fr x.heap.size v) := fun x hmr hx => by
    have := readBytes_any (h.below (B1.trans (hx.mono B1.size))) (f + 1) m (by omega)
    rw [ed m hmr] at this
    exact this
  have HFN : Hid (∀ x A', Below w1.heap.size w1 x → Below w.heap.size w (x.setRow q0 A')) := fun x A' hx => below_row (B1.trans (hx.mono B1.size)) (by omega) (B1.trans (hx.mono B1.size)).size A'
  have HSO : Hid (∀ (x : World) (v : Value) (b : List UInt8), b.length ≤ 1000000 → Bytes x v b → Calls Try.prog 40 #[.agg A, v] x fun e w' => e = .returned (.int .u16 (crc16 (X.take 6 ++ b))) ∧ Below x.heap.size x w') := fun x v b hb hB => by
    have := sumOf_any X v b x X8 (by omega) hB
    rw [pgV, hA] at this
    exact this
  have HN3 : Hid (∀ (x : World) (q : Nat), x.heap[q]? = some (.cells A 38 (0, 0)) → Calls Try.prog 44 #[.slice (some ⟨q, 6, none⟩) 2 2] x fun e w' => e = .returned (.int .u64 s) ∧ w' = x) := fun x q hq => by
    have := number_any (.slice (some ⟨q, 6, none⟩) 2 2) ((X.drop 6).take 2) x (by omega) (HPT.out _ _ 6 2 2 hq e6)
    rw [hs'] at this
    exact this
  have hfn : f ≤ 32768 := by omega
  have HSL : Hid (m ≤ c.room → ((S.drop 8).take m).length = m) := fun hm => by rw [List.length_take, List.length_drop, sl]; omega
  generalize (S.drop 8).take m = bb at *
  generalize X.take 6 = x6' at *
  clear HPT hk hm hs' hX x2 x4 x6 x7 er ed sl hS hA hq0 B1 h HH hrm
  generalize c.room = rm at *
  go_enter Try.func36, Try.ntmps36
  go_upto_region 2 with (first | (go_at_call 35; refine hrd.mono ?_; rintro e w2 ⟨rfl, hb2⟩; obtain ⟨w3, q, hw3, hqs, hq3, w4, hw4, hq4, HB4, hqq, hn1, hn2⟩ := HW.out w2 hb2; clear hb2 HW) | (refine wpList_store_row rfl 38 _ _ rfl q A rfl rfl 38 _ hq3 (by rw [hAs]; exact infoA8) (by rw [hAs]; rfl) hone ?_; rw [hw4]; clear hw4 hw3 hq3 hrd))
  refine wp_region_any (by kernel_rfl) ?_
  change wpAny _ _ _ _ _ _ _ w4.drew
  refine wpAny_take (i := 0) (v := (.slice (some ⟨q, 0, none⟩) 2 8)) rfl (by kernel_rfl) (by kernel_rfl) (by kernel_rfl) (fun _ _ _ h => h) (.inl ⟨rfl, fun _ => by simp [execOp, go_sem, Act.eval, run_underlying Try.underlying38]⟩) ?_
  simp only [List.getElem_toArray, List.getElem_cons_succ, List.getElem_cons_zero, Act.put, List.setIfInBounds_toArray, List.set_cons_succ, List.set_cons_zero]
  refine wpAny_take (i := 2) (v := (.slice (some ⟨q, 2, none⟩) 4 6)) rfl (by kernel_rfl) (by kernel_rfl) (by kernel_rfl) (fun _ _ _ h => h) (.inl ⟨rfl, fun _ => by simp [execOp, go_sem, Act.eval, run_underlying Try.underlying38]⟩) ?_
  simp only [List.getElem_toArray, List.getElem_cons_succ, List.getElem_cons_zero, Act.put, List.setIfInBounds_toArray, List.set_cons_succ, List.set_cons_zero]
  refine wpAny_all (rs := [1]) (by kernel_rfl) (by simp) ?_
  intro k hk
  simp only [List.mem_cons, List.mem_nil_iff, or_false] at hk
  subst hk
  refine wpOp_runN rfl rfl (wp_callN 44 #[.slice (some ⟨q, 0, none⟩) 2 8] (by simp [execOp, go_sem, Act.eval, resolve, invoke, enterN_nu, enterN_so]) ((hn1).mono ?_))
  rintro e x1 ⟨rfl, hx1⟩
  rw [hx1]
  clear hx1 x1
  simp only [List.getElem_toArray, List.getElem_cons_succ, List.getElem_cons_zero, Act.put, List.setIfInBounds_toArray, List.set_cons_succ, List.set_cons_zero]
  refine wpAny_all (rs := [3]) (by kernel_rfl) (by simp) ?_
  intro k hk
  simp only [List.mem_cons, List.mem_nil_iff, or_false] at hk
  subst hk
  refine wpOp_runN rfl rfl (wp_callN 44 #[.slice (some ⟨q, 2, none⟩) 4 6] (by simp [execOp, go_sem, Act.eval, resolve, invoke, enterN_nu, enterN_so]) ((hn2).mono ?_))
  rintro e x1 ⟨rfl, hx1⟩
  rw [hx1]
  clear hx1 x1
  simp only [List.getElem_toArray, List.getElem_cons_succ, List.getElem_cons_zero, Act.put, List.setIfInBounds_toArray, List.set_cons_succ, List.set_cons_zero]
  refine wpAny_take (i := 4) (v := (.int .u64 (k : Int))) rfl (by kernel_rfl) (by kernel_rfl) (by kernel_rfl) (fun _ _ _ h => h) (.inl ⟨rfl, fun _ => rfl⟩) ?_
  simp only [List.getElem_toArray, List.getElem_cons_succ, List.getElem_cons_zero, Act.put, List.setIfInBounds_toArray, List.set_cons_succ, List.set_cons_zero]
  refine wpAny_take (i := 5) (v := (.int .u64 (m : Int))) rfl (by kernel_rfl) (by kernel_rfl) (by kernel_rfl) (fun _ _ _ h => h) (.inl ⟨rfl, fun _ => rfl⟩) ?_
  simp only [List.getElem_toArray, List.getElem_cons_succ, List.getElem_cons_zero, Act.put, List.setIfInBounds_toArray, List.set_cons_succ, List.set_cons_zero]
  refine wpAny_done (by kernel_rfl) ?_ _
  have B4 := bdr HB4.out 1
  change Below _ _ w4.drew at B4
  have HBx := hidOf B4
  clear hn1 hn2
  have hq4d : w4.drew.heap[q]? = some (.cells A 38 (0, 0)) := hq4
  have hro := HRO.out _ B4
  generalize w4.drew = W at *
  clear hq4 HB4
  by_cases hk0 : k = 0
  · have HR1 : Hid (R = (0, [])) := by show R = _; rw [HR.out, if_pos (.inl hk0)]
    subst hk0
    clear hro
    have hq0x := HQ0.out _ HBx.out
    go_wp2_with (refine wpList_store_row rfl 56 _ _ rfl q0 (hfA f 0 (.slice none 0 0)) rfl rfl 56 _ hq0x infoHf rfl (hfA_one _ _ _ rfl) ?_; have hq9 := Go.Proofs.Ythbcpmakhdogmaa.setRow_heap _ q0 _ (hfA f 0 (.slice none 0 0)) _ _ hq0x)
    have hld9 := load_hf _ q0 _ _ _ hq9
    have hf9 := HFN.out _ (hfA f 0 (.slice none 0 0)) HBx.out
    try simp only [Act.put, List.setIfInBounds_toArray, List.set_cons_succ, List.set_cons_zero]
    exact bodyPost_ret (v := .agg (hfA f 0 (.slice none 0 0))) (by simp [results, Try.results36, asAddr, hld9]) rfl ⟨_, by rw [HR1.out], by rw [HR1.out]; exact Bytes.nil _, (by first | exact hf9 | (rw [hq0s] at hf9; exact hf9)), Fr.nil _⟩
  · have dk : ((k : Int) == 0) = false := by simp; omega
    have hcr : IntKind.u64.wrap (rm : Int) = (rm : Int) := by rw [wrapUN]; omega
    by_cases hmr : rm < m
    · have HR1 : Hid (R = (0, [])) := by show R = _; rw [HR.out, if_pos (.inr hmr)]
      have dm : decide ((rm : Int) < (m : Int)) = true := by simp; omega
      go_upto_region 4 with (go_at_call 11; refine hro.mono ?_; rintro e x1 ⟨rfl, hx1⟩; rw [hx1]; clear hx1 x1)
      have hq0x := HQ0.out _ HBx.out
      go_wp2_with (refine wpList_store_row rfl 56 _ _ rfl q0 (hfA f 0 (.slice none 0 0)) rfl rfl 56 _ hq0x infoHf rfl (hfA_one _ _ _ rfl) ?_; have hq9 := Go.Proofs.Ythbcpmakhdogmaa.setRow_heap _ q0 _ (hfA f 0 (.slice none 0 0)) _ _ hq0x)
      have hld9 := load_hf _ q0 _ _ _ hq9
      have hf9 := HFN.out _ (hfA f 0 (.slice none 0 0)) HBx.out
      try simp only [Act.put, List.setIfInBounds_toArray, List.set_cons_succ, List.set_cons_zero]
      exact bodyPost_ret (v := .agg (hfA f 0 (.slice none 0 0))) (by simp [results, Try.results36, asAddr, hld9]) rfl ⟨_, by rw [HR1.out], by rw [HR1.out]; exact Bytes.nil _, (by first | exact hf9 | (rw [hq0s] at hf9; exact hf9)), Fr.nil _⟩
    · have dm : decide ((rm : Int) < (m : Int)) = false := by simp; omega
      have HWZ : Hid (w.heap.size ≤ W.heap.size) := Nat.le_trans HB1.out.size HBx.out.size
      have hrb := HRB.out W (by omega) HBx.out
      have hm2 : m ≤ 131072 := by omega
      have hbl := HSL.out (by omega)
      go_upto_region 6 with (first | (go_at_call 11; refine hro.mono ?_; rintro e x1 ⟨rfl, hx1⟩; rw [hx1]; clear hx1 x1) | (go_at_call 45; refine hrb.mono ?_; rintro e w5 ⟨v5, rfl, hv5, hb5, hfr5⟩; have HFR := hidOf (hfr5.mono HWZ.out); clear hfr5; obtain ⟨av, cv, hav⟩ := bytes_shapeN hv5; rw [hbl] at hav; subst hav))
      have B5 := bdr (HBx.out.trans (hb5.mono HBx.out.size)) 1
      change Below _ _ w5.drew at B5
      have HV5 : Hid (Bytes w5.drew (.slice av m cv) bb) := hv5.below (bdr (Below.refl _ _) 1)
      have S0 : w5.drew.heap[q]? = some (.cells A 38 (0, 0)) := (hb5.block q (Array.getElem?_eq_some_iff.1 hq4d).1).trans hq4d
      have hqlt : q < w5.drew.heap.size := (Array.getElem?_eq_some_iff.1 S0).1
      have hn3 := HN3.out w5.drew q S0
      have hso := HSO.out w5.drew _ bb (by omega) HV5.out
      have hcl := crc16_lt (x6' ++ bb)
      obtain ⟨cr, hcrc⟩ : ∃ n, crc16 (x6' ++ bb) = n := ⟨_, rfl⟩
      rw [hcrc] at hso hcl
      have hcv : IntKind.u64.wrap (cr : Int) = (cr : Int) := by rw [wrapUN]; omega
      have HRR : Hid (R = if s = cr then (k, bb) else (0, [])) := by show R = _; rw [HR.out, if_neg (by omega), hcrc]
      clear hv5 HSL HN3 HSO HRB hrb hro HRO
      refine wp_region_held (S := fun x => x.heap[q]? = some (.cells A 38 (0, 0))) (by kernel_rfl) ?_
      change wpAnyH _ _ _ _ _ _ _ _ w5.drew
      generalize w5.drew = W5 at *
      clear hb5
      refine wpAnyH_take (i := 0) (v := (.slice (some ⟨q, 6, none⟩) 2 2)) rfl (by kernel_rfl) (by kernel_rfl) (by kernel_rfl) (fun _ _ _ h => h) (.inl ⟨rfl, fun _ hS => by simp [execOp, go_sem, Act.eval, run_underlying Try.underlying38]⟩) S0 ?_
      simp only [List.getElem_toArray, List.getElem_cons_succ, List.getElem_cons_zero, Act.put, List.setIfInBounds_toArray, List.set_cons_succ, List.set_cons_zero]
      refine wpAnyH_take (i := 2) (v := (.agg A)) rfl (by kernel_rfl) (by kernel_rfl) (by kernel_rfl) (fun _ _ _ h => h) (.inl ⟨rfl, fun _ hS => exec_loadN rfl rfl (load_a8 _ q A hS hAs)⟩) S0 ?_
      simp only [List.getElem_toArray, List.getElem_cons_succ, List.getElem_cons_zero, Act.put, List.setIfInBounds_toArray, List.set_cons_succ, List.set_cons_zero]
      refine wpAnyH_take (i := 3) (v := (.slice av m cv)) rfl (by kernel_rfl) (by kernel_rfl) (by kernel_rfl) (fun _ _ _ h => h) (.inl ⟨rfl, fun _ hS => rfl⟩) S0 ?_
      simp only [List.getElem_toArray, List.getElem_cons_succ, List.getElem_cons_zero, Act.put, List.setIfInBounds_toArray, List.set_cons_succ, List.set_cons_zero]
      refine wpAnyH_all (rs := [1]) (by kernel_rfl) (by simp) ?_
      intro k hk
      simp only [List.mem_cons, List.mem_nil_iff, or_false] at hk
      subst hk
      refine wpOp_runN rfl rfl (wp_callN 44 #[.slice (some ⟨q, 6, none⟩) 2 2] (by simp [execOp, go_sem, Act.eval, resolve, invoke, enterN_nu, enterN_so]) ((hn3).mono ?_))
      rintro e x1 ⟨rfl, hx1⟩
      rw [hx1]
      clear hx1 x1
      refine ⟨S0, ?_⟩
      simp only [List.getElem_toArray, List.getElem_cons_succ, List.getElem_cons_zero, Act.put, List.setIfInBounds_toArray, List.set_cons_succ, List.set_cons_zero]
      refine wpAnyH_all (rs := [4]) (by kernel_rfl) (by simp) ?_
      intro k hk
      simp only [List.mem_cons, List.mem_nil_iff, or_false] at hk
      subst hk
      refine wpOp_runN rfl rfl (wp_callN 40 #[.agg A, .slice av m cv] (by simp [execOp, go_sem, Act.eval, resolve, invoke, enterN_nu, enterN_so]) ((hso).mono ?_))
      rintro e w6 ⟨rfl, hb6⟩
      have S6 := (hb6.block q hqlt).trans S0
      refine ⟨S6, ?_⟩
      simp only [List.getElem_toArray, List.getElem_cons_succ, List.getElem_cons_zero, Act.put, List.setIfInBounds_toArray, List.set_cons_succ, List.set_cons_zero]
      refine wpAnyH_take (i := 5) (v := (.int .u64 (cr : Int))) rfl (by kernel_rfl) (by kernel_rfl) (by kernel_rfl) (fun _ _ _ h => h) (.inl ⟨rfl, fun _ hS => by simp [execOp, go_sem, Act.eval, hcv]⟩) S6 ?_
      simp only [List.getElem_toArray, List.getElem_cons_succ, List.getElem_cons_zero, Act.put, List.setIfInBounds_toArray, List.set_cons_succ, List.set_cons_zero]
      refine wpAnyH_take (i := 6) (v := (.bool (s != cr))) rfl (by kernel_rfl) (by kernel_rfl) (by kernel_rfl) (fun _ _ _ h => h) (.inl ⟨rfl, fun _ hS => by simp [execOp, go_sem, Act.eval]; first | rfl | exact neq_natN _ _⟩) S6 ?_
      simp only [List.getElem_toArray, List.getElem_cons_succ, List.getElem_cons_zero, Act.put, List.setIfInBounds_toArray, List.set_cons_succ, List.set_cons_zero]
      refine wpAnyH_done (by kernel_rfl) ?_ _
      have B6 := B5.trans (hb6.mono B5.size)
      have HV6 := hidOf (HV5.out.below hb6)
      clear hb6 S6 S0
      by_cases hsc : s = cr
      · have HR1 : Hid (R = (k, bb)) := by show R = _; rw [HRR.out, if_pos hsc]
        have hd9 : (s != cr) = false := by simpa using hsc
        have hck : IntKind.u16.wrap (k : Int) = (k : Int) := by rw [IntKind.wrap_u16]; omega
        simp only [hd9]
        go_upto_region 8 with fail
        have hq0x := HQ0.out _ B6
        go_wp2_with (refine wpList_store_row rfl 56 _ _ rfl q0 (hfA f k (.slice av m cv)) rfl rfl 56 _ hq0x infoHf rfl (hfA_one _ _ _ rfl) ?_; have hq9 := Go.Proofs.Ythbcpmakhdogmaa.setRow_heap _ q0 _ (hfA f k (.slice av m cv)) _ _ hq0x)
        have hld9 := load_hf _ q0 _ _ _ hq9
        have hf9 := HFN.out _ (hfA f k (.slice av m cv)) B6
        try simp only [Act.put, List.setIfInBounds_toArray, List.set_cons_succ, List.set_cons_zero]
        exact bodyPost_ret (v := .agg (hfA f k (.slice av m cv))) (by simp [results, Try.results36, asAddr, hld9]) rfl ⟨_, by rw [HR1.out], by rw [HR1.out]; exact bytes_rowN HV6.out hq0x _, (by first | exact hf9 | (rw [hq0s] at hf9; exact hf9)), (by first | exact HFR.out | (have h := HFR.out; rw [hq0s] at h; exact h))⟩
      · have HR1 : Hid (R = (0, [])) := by show R = _; rw [HRR.out, if_neg hsc]
        have hd9 : (s != cr) = true := by simpa using hsc
        simp only [hd9]
        go_upto_region 7 with fail
        have hq0x := HQ0.out _ B6
        go_wp2_with (refine wpList_store_row rfl 56 _ _ rfl q0 (hfA f 0 (.slice none 0 0)) rfl rfl 56 _ hq0x infoHf rfl (hfA_one _ _ _ rfl) ?_; have hq9 := Go.Proofs.Ythbcpmakhdogmaa.setRow_heap _ q0 _ (hfA f 0 (.slice none 0 0)) _ _ hq0x)
        have hld9 := load_hf _ q0 _ _ _ hq9
        have hf9 := HFN.out _ (hfA f 0 (.slice none 0 0)) B6
        try simp only [Act.put, List.setIfInBounds_toArray, List.set_cons_succ, List.set_cons_zero]
        exact bodyPost_ret (v := .agg (hfA f 0 (.slice none 0 0))) (by simp [results, Try.results36, asAddr, hld9]) rfl ⟨_, by rw [HR1.out], by rw [HR1.out]; exact Bytes.nil _, (by first | exact hf9 | (rw [hq0s] at hf9; exact hf9)), Fr.nil _⟩
end
end Go.Proofs.Ythbcpmakhdogmaa
