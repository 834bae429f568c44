/- Contracts: next, headOf. -/
import Derived.Test.YthbcpmakhdogmaaNvR
namespace Go.Proofs.Ythbcpmakhdogmaa
open Go.RowKit Go.Proofs.Ty Go.Proofs.Nv Go.Proofs.Bits
set_option linter.unusedVariables false
set_option maxRecDepth 1000000
set_option linter.unusedSimpArgs false
theorem wp_callN {o : Oper} {a : Act} {w : World} {K : Act → World → Prop} {Q : Exit → Act → World → Prop} (g : Nat) (args : Array Value) (hr : (execOp a.eval o).run Try.prog w = .ok (.enter g args) w)
    (h : Calls Try.prog g args w fun
      | .returned v, w'' => K (a.put o.dst v) w''
      | .panicked chain, w'' => Q (.panic chain) a w''
      | .outgrown, _ => LetsOut Q) : o.wp Try.prog a w K Q := by
  unfold Oper.wp
  rw [hr]
  exact h
theorem wp_loadN {o : Oper} {a : Act} {w : World} {K : Act → World → Prop} {Q : Exit → Act → World → Prop} (ty : TypeId) (x : Operand) (ho : o.op = .load ty x) (b k : Nat) (hx : a.eval x = .pointer (some ⟨b, k, none⟩)) (v : Value)
    (hr : (loadVar ty ⟨b, k, none⟩).run Try.prog w = .ok v w) (h : K (a.put o.dst v) w) : o.wp Try.prog a w K Q := by
  unfold Oper.wp execOp
  simp only [ho, hx, Instr.loadAt, Instr.sureAddr, Sem.run_bind, Sem.run_pure, Result.andThen_ok, hr]
  exact h
theorem enterN_pn : ∀ args x, (callFunc 39 args).run Try.prog x = .ok (.enter 39 args) x := fun _ _ => by rfl
theorem enterN_so : ∀ args x, (callFunc 40 args).run Try.prog x = .ok (.enter 40 args) x := fun _ _ => by rfl
theorem next_any (k : Nat) (hk : k < 65536) (w : World) : Calls Try.prog 28 #[.int .u16 k] w fun e w' => e = .returned (.int .u16 (nxt k)) ∧ w' = w := by
  have HN : Hid (nxt k = if k = 65535 then 1 else k + 1) := rfl
  generalize nxt k = m at *
  by_cases h : k = 65535
  · subst h
    go_enter Try.func28, Try.ntmps28
    go_wp2
    go_ret
    exact ⟨ret_int (by rw [HN.out]; rfl), rfl⟩
  · have hd : ((k : Int) == 65535) = false := by simp; omega
    go_enter Try.func28, Try.ntmps28
    go_wp2
    go_ret
    exact ⟨ret_int (by rw [HN.out, if_neg h]; first | omega | (rw [IntKind.wrap_u16]; omega)), rfl⟩
theorem splice_full (z x : List UInt8) (h : x.length = z.length) : splice z 0 x = x := by
  simp [splice, h]
theorem head_steps (k : Nat) (b : List UInt8) : splice (splice zero8 0 (le k 2)) 2 (le b.length 4) = splice zero8 0 (le k 2 ++ le b.length 4) ∧ (splice zero8 0 (le k 2 ++ le b.length 4)).take 6 = le k 2 ++ le b.length 4 ∧
    splice (splice zero8 0 (le k 2 ++ le b.length 4)) 6 (le (crc16 (le k 2 ++ le b.length 4 ++ b)) 2) = head k b := by
  have e2 : (le k 2).length = 2 := le_len _ _
  have e4 : (le b.length 4).length = 4 := le_len _ _
  have e1 : (le (crc16 (le k 2 ++ le b.length 4 ++ b)) 2).length = 2 := le_len _ _
  refine ⟨?_, ?_, ?_⟩
  · have := splice_next (l := zero8) (o := 0) (x := le k 2) (y := le b.length 4) (by rw [e2, e4, zero8_len]; omega)
    rw [e2, Nat.zero_add] at this
    exact this
  · unfold splice
    rw [List.append_assoc, List.take_zero, List.nil_append, List.take_append_of_le_length (by simp [e2, e4]), List.take_of_length_le (by simp [e2, e4])]
  · have := splice_next (l := zero8) (o := 0) (x := le k 2 ++ le b.length 4) (y := le (crc16 (le k 2 ++ le b.length 4 ++ b)) 2) (by rw [List.length_append, e2, e4, e1, zero8_len]; omega)
    rw [List.length_append, e2, e4, Nat.zero_add] at this
    rw [this, splice_full _ _ (by rw [List.length_append, List.length_append, e2, e4, e1, zero8_len])]
    rfl
theorem zero8_cells : (byC zero8).toArray = #[.int .u8 0, .int .u8 0, .int .u8 0, .int .u8 0, .int .u8 0, .int .u8 0, .int .u8 0, .int .u8 0] := rfl
theorem Two.belowN {q : Nat} {a b c : World} (h1 : Below a.heap.size a b) (hq : a.heap.size ≤ q) (h : Two q q b c) : Below a.heap.size a c :=
  ⟨h.os.trans h1.os, h.tape.trans h1.tape, h.output.trans h1.output, Nat.le_trans h1.size h.size, fun k hk => (h.block k (Nat.lt_of_lt_of_le hk h1.size) (by omega) (by omega)).trans (h1.block k hk)⟩
set_option maxHeartbeats 4000000 in
theorem headOf_any (k : Nat) (hk : k < 65536) (v : Value) (b : List UInt8) (w : World) (hb : b.length ≤ 1000000) (hB : Bytes w v b) :
    Calls Try.prog 27 #[.int .u16 k, v] w fun e w' => e = .returned (pgV (head k b)) ∧ Below w.heap.size w w' := by
  obtain ⟨s1, s2, s3⟩ := head_steps k b
  obtain ⟨av, cv, rfl⟩ := bytes_shapeN hB
  have hcr := crc16_lt (le k 2 ++ le b.length 4 ++ b)
  obtain ⟨nb, hnb⟩ : ∃ n, b.length = n := ⟨_, rfl⟩
  have HHd := hidOf s3
  have HH8 := hidOf (head_len k b)
  obtain ⟨hd, hhd⟩ : ∃ x, head k b = x := ⟨_, rfl⟩
  rw [hhd] at HHd HH8 ⊢
  rw [hnb] at s1 s2 HHd hB hcr ⊢ hb
  have hq0 := heap_alloc_new w (.cells #[.int .u8 0, .int .u8 0, .int .u8 0, .int .u8 0, .int .u8 0, .int .u8 0, .int .u8 0, .int .u8 0] 38 (0, 0))
  have B1 : Below w.heap.size w (w.alloc (.cells #[.int .u8 0, .int .u8 0, .int .u8 0, .int .u8 0, .int .u8 0, .int .u8 0, .int .u8 0, .int .u8 0] 38)) := (Below.refl _ w).alloc (Nat.le_refl _) _
  obtain ⟨w1, hw1⟩ : ∃ x, w.alloc (.cells #[.int .u8 0, .int .u8 0, .int .u8 0, .int .u8 0, .int .u8 0, .int .u8 0, .int .u8 0, .int .u8 0] 38) = x := ⟨_, rfl⟩
  obtain ⟨q0, hq0s⟩ : ∃ q, w.heap.size = q := ⟨_, rfl⟩
  rw [hw1] at hq0 B1
  rw [hq0s] at hq0
  have hq := heap_alloc_new w1 (.cells #[.int .u8 0, .int .u8 0, .int .u8 0, .int .u8 0, .int .u8 0, .int .u8 0, .int .u8 0, .int .u8 0] 38 (0, 0))
  have B2 : Below w.heap.size w (w1.alloc (.cells #[.int .u8 0, .int .u8 0, .int .u8 0, .int .u8 0, .int .u8 0, .int .u8 0, .int .u8 0, .int .u8 0] 38)) := B1.alloc B1.size _
  have hq02 : (w1.alloc (.cells #[.int .u8 0, .int .u8 0, .int .u8 0, .int .u8 0, .int .u8 0, .int .u8 0, .int .u8 0, .int .u8 0] 38)).heap[q0]? = some (.cells #[.int .u8 0, .int .u8 0, .int .u8 0, .int .u8 0, .int .u8 0, .int .u8 0, .int .u8 0, .int .u8 0] 38 (0, 0)) := (Below.heap_alloc w1 _ q0 (Array.getElem?_eq_some_iff.1 hq0).1).trans hq0
  obtain ⟨w2, hw2⟩ : ∃ x, w1.alloc (.cells #[.int .u8 0, .int .u8 0, .int .u8 0, .int .u8 0, .int .u8 0, .int .u8 0, .int .u8 0, .int .u8 0] 38) = x := ⟨_, rfl⟩
  obtain ⟨q, hqs⟩ : ∃ q, w1.heap.size = q := ⟨_, rfl⟩
  rw [hw2] at hq B2 hq02
  rw [hqs] at hq
  have hqq : q0 ≠ q := by have := (Array.getElem?_eq_some_iff.1 hq0).1; omega
  have hwq : w.heap.size ≤ q := by have := B1.size; omega
  rw [← zero8_cells] at hq
  have hp1 := putNumber_any q 0 2 8 k zero8 w2 (by omega) (by omega) (by rw [zero8_len]; omega) hq
  have HP2 : Hid (∀ w3, w3.heap[q]? = some (.cells (byC (splice zero8 0 (le k 2))).toArray 38 (0, 0)) → Calls Try.prog 39 #[.slice (some ⟨q, 2, none⟩) 4 6, .int .u64 nb] w3 fun e w' => (∃ v, e = .returned v) ∧ w'.heap[q]? = some (.cells (byC (splice zero8 0 (le k 2 ++ le nb 4))).toArray 38 (0, 0)) ∧ Two q q w3 w') := by
    intro w3 h3
    have := putNumber_any q 2 4 6 nb _ w3 (by omega) (by omega) (by rw [splice_len (by rw [le_len, zero8_len]; omega), zero8_len]; omega) h3
    rw [s1] at this
    exact this
  obtain ⟨h4, hh4⟩ : ∃ x, splice zero8 0 (le k 2 ++ le nb 4) = x := ⟨_, rfl⟩
  have h48 : h4.length = 8 := by rw [← hh4, splice_len (by rw [List.length_append, le_len, le_len, zero8_len]; omega), zero8_len]
  rw [hh4] at HP2 HHd s2
  obtain ⟨A4, hA4⟩ : ∃ x, (byC h4).toArray = x := ⟨_, rfl⟩
  have hA4s : A4.size = 8 := by rw [← hA4, List.size_toArray, byC_len, h48]
  obtain ⟨sm, hsm⟩ : ∃ x, crc16 (le k 2 ++ le nb 4 ++ b) = x := ⟨_, rfl⟩
  rw [hsm] at hcr HHd
  have HS : Hid (∀ w4, Below w.heap.size w w4 → Calls Try.prog 40 #[.agg A4, .slice av nb cv] w4 fun e w' => e = .returned (.int .u16 (sm : Int)) ∧ Below w4.heap.size w4 w') := by
    intro w4 b4
    have := sumOf_any h4 (.slice av nb cv) b w4 h48 (by omega) (hB.below b4)
    rw [s2, hsm, pgV, hA4] at this
    exact this
  have HB2 := hidOf B2
  have HFIN : Hid (∀ w4 w5 w6, Below w.heap.size w w4 → Below w4.heap.size w4 w5 → Two q q w5 w6 → Below w.heap.size w w6) := fun w4 w5 w6 b4 b5 t6 => Two.belowN (b4.trans (b5.mono b4.size)) hwq t6
  have HT : Hid (∀ a b, Below w.heap.size w a → Two q q a b → Below w.heap.size w b) := fun a b h t => Two.belowN h hwq t
  have HPP3 : Hid (∀ w5, w5.heap[q]? = some (.cells A4 38 (0, 0)) → Calls Try.prog 39 #[.slice (some ⟨q, 6, none⟩) 2 2, .int .u64 (sm : Int)] w5 fun e w' => (∃ v, e = .returned v) ∧ w'.heap[q]? = some (.cells (byC hd).toArray 38 (0, 0)) ∧ Two q q w5 w') := by
    intro w5 h5
    rw [← hA4] at h5
    have := putNumber_any q 6 2 2 sm h4 w5 (by omega) (by omega) (by omega) h5
    rw [HHd.out] at this
    exact this
  rw [hA4] at HP2
  have hone : (byC hd).toArray.all (·.oneCell') = true := all_oneCell_toArray (byteCells_one hd)
  have hs8 : (byC hd).toArray.size = 8 := by rw [List.size_toArray, byC_len]; exact HH8.out
  unfold pgV
  generalize (byC hd).toArray = AH at *
  have hcv : IntKind.u64.wrap (sm : Int) = (sm : Int) := by rw [wrapUN]; omega
  clear hA4 hsm hh4 s1 s2 s3 hB hhd hnb HHd B1 B2 hq
  go_enter Try.func27, Try.ntmps27
  go_upto_region 4 with (first | (go_at_call 39; refine hp1.mono ?_; clear hp1; rintro e w3 ⟨⟨v3, rfl⟩, hq3, ht3⟩; have hp2 := HP2.out w3 hq3; clear HP2) | (go_at_call 39; refine hp2.mono ?_; clear hp2; rintro e w4 ⟨⟨v4, rfl⟩, hq4, ht4⟩))
  have b4 := bdr (HT.out w3 w4 (HT.out w2 w3 HB2.out ht3) ht4) 1
  change Below _ _ w4.drew at b4
  have hsum := HS.out w4.drew b4
  have hq4d : w4.drew.heap[q]? = some (.cells A4 38 (0, 0)) := hq4
  have hqlt : q < w4.drew.heap.size := (Array.getElem?_eq_some_iff.1 hq4d).1
  have hq0lt : q0 < w2.heap.size := (Array.getElem?_eq_some_iff.1 hq02).1
  have HQ06 : Hid (∀ w5 w6, Below w4.drew.heap.size w4.drew w5 → Two q q w5 w6 → w6.heap[q0]? = some (.cells #[.int .u8 0, .int .u8 0, .int .u8 0, .int .u8 0, .int .u8 0, .int .u8 0, .int .u8 0, .int .u8 0] 38 (0, 0))) := by
    intro w5 w6 b5 t6
    have s3 := ht3.size
    have s4 := ht4.size
    have s5 := b5.size
    change w4.heap.size ≤ w5.heap.size at s5
    have h3 := (ht3.block q0 hq0lt hqq hqq).trans hq02
    have h4 : w4.drew.heap[q0]? = _ := (ht4.block q0 (by omega) hqq hqq).trans h3
    have h5 := (b5.block q0 (by show q0 < w4.heap.size; omega)).trans h4
    exact (t6.block q0 (by omega) hqq hqq).trans h5
  clear ht3 ht4 hq3 hq4 HB2 hw1 hw2 hq0
  refine wp_region_any (by kernel_rfl) ?_
  change wpAny _ _ _ _ _ _ _ w4.drew
  refine wpAny_take (i := 0) (v := (.slice (some ⟨q, 6, none⟩) 2 2)) rfl (by kernel_rfl) (by kernel_rfl) (by kernel_rfl) (fun _ _ _ h => h) (.inl ⟨rfl, fun _ => by simp [execOp, go_sem, Act.eval  , run_underlying Try.underlying38]⟩) ?_
  simp only [List.getElem_toArray, List.getElem_cons_succ, List.getElem_cons_zero, Act.put, List.setIfInBounds_toArray, List.set_cons_succ, List.set_cons_zero]
  refine wpAny_take (i := 2) (v := (.slice av nb cv)) rfl (by kernel_rfl) (by kernel_rfl) (by kernel_rfl) (fun _ _ _ h => h) (.inl ⟨rfl, fun _ => rfl⟩) ?_
  simp only [List.getElem_toArray, List.getElem_cons_succ, List.getElem_cons_zero, Act.put, List.setIfInBounds_toArray, List.set_cons_succ, List.set_cons_zero]
  refine wpAny_all (rs := [1]) (by kernel_rfl) (by simp) ?_
  intro k hk
  simp only [List.mem_cons, List.mem_nil_iff, or_false] at hk
  subst hk
  refine wpOp_runN rfl rfl (wp_loadN 38 _ rfl q 0 rfl (.agg A4) (load_a8 _ q A4 hq4d hA4s) ?_)
  simp only [List.getElem_toArray, List.getElem_cons_succ, List.getElem_cons_zero, Act.put, List.setIfInBounds_toArray, List.set_cons_succ, List.set_cons_zero]
  refine wpAny_all (rs := [3]) (by kernel_rfl) (by simp) ?_
  intro k hk
  simp only [List.mem_cons, List.mem_nil_iff, or_false] at hk
  subst hk
  refine wpOp_runN rfl rfl (wp_callN 40 #[.agg A4, .slice av nb cv] (by simp [execOp, go_sem, Act.eval, resolve, invoke, enterN_pn, enterN_so]) ((hsum).mono ?_))
  rintro e w5 ⟨rfl, hb5⟩
  have hp3 := HPP3.out w5 ((hb5.block q hqlt).trans hq4d)
  simp only [List.getElem_toArray, List.getElem_cons_succ, List.getElem_cons_zero, Act.put, List.setIfInBounds_toArray, List.set_cons_succ, List.set_cons_zero]
  refine wpAny_take (i := 4) (v := (.int .u64 (sm : Int))) rfl (by kernel_rfl) (by kernel_rfl) (by kernel_rfl) (fun _ _ _ h => h) (.inl ⟨rfl, fun _ => by simp [execOp, go_sem, Act.eval, hcv]⟩) ?_
  simp only [List.getElem_toArray, List.getElem_cons_succ, List.getElem_cons_zero, Act.put, List.setIfInBounds_toArray, List.set_cons_succ, List.set_cons_zero]
  refine wpAny_all (rs := [5]) (by kernel_rfl) (by simp) ?_
  intro k hk
  simp only [List.mem_cons, List.mem_nil_iff, or_false] at hk
  subst hk
  refine wpOp_runN rfl rfl (wp_callN 39 #[.slice (some ⟨q, 6, none⟩) 2 2, .int .u64 (sm : Int)] (by simp [execOp, go_sem, Act.eval, resolve, invoke, enterN_pn, enterN_so]) ((hp3).mono ?_))
  rintro e w6 ⟨⟨v6, rfl⟩, hq6, ht6⟩
  simp only [List.getElem_toArray, List.getElem_cons_succ, List.getElem_cons_zero, Act.put, List.setIfInBounds_toArray, List.set_cons_succ, List.set_cons_zero]
  refine wpAny_done (by kernel_rfl) ?_ _
  have HB6 := hidOf (HFIN.out w4.drew w5 w6 b4 hb5 ht6)
  have hq06 := HQ06.out w5 w6 hb5 ht6
  clear hsum hp3 ht6 hb5 HFIN HT HPP3 HS HQ06
  have hld6 := load_a8 w6 q _ hq6 hs8
  have HF : Hid (Below w.heap.size w (w6.setRow q0 AH)) := below_row HB6.out (by omega) HB6.out.size _
  have hq7 := Go.Proofs.Ythbcpmakhdogmaa.setRow_heap w6 q0 _ AH _ _ hq06
  have hld7 := load_a8 _ q0 _ hq7 hs8
  go_wp2_with (first | (refine wpList_load_row rfl 38 _ rfl q rfl 38 AH (0, 0) _ hq6 Try.underlying38 rfl (by rw [hs8]; exact infoA8) ?_) | (refine wpList_store_row rfl 38 _ _ rfl q0 AH rfl rfl 38 _ hq06 (by rw [hs8]; exact infoA8) (by rw [hs8]; rfl) hone ?_))
  simp only [Act.put, List.setIfInBounds_toArray, List.set_cons_succ, List.set_cons_zero]
  exact bodyPost_ret (v := .agg AH) (by simp [results, Try.results27, asAddr, hld7]) rfl ⟨rfl, HF.out⟩
end Go.Proofs.Ythbcpmakhdogmaa
