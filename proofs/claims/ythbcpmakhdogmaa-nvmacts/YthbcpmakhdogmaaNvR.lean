/- Contracts: readBytes. -/
import Derived.Test.YthbcpmakhdogmaaNvK
namespace Go.Proofs.Ythbcpmakhdogmaa
open Go.RowKit Go.Proofs.Ty Go.Proofs.Nv Go.Proofs.Bits
set_option linter.unusedVariables false
set_option maxRecDepth 1000000
set_option linter.unusedSimpArgs false
theorem wpList_copyN (w : World) {ops : Array Oper} {rest : List Oper} {o : Oper} {a : Act} {Q : Exit → Act → World → Prop} (hgd : o.guard = none) (d s : Operand) (t t' : TypeId)
    (ho : o.op = .call { callee := .builtin .copy, args := #[d, s], argTypes := #[t, t'] }) (v u : Value) (hd : a.eval d = v) (hs : a.eval s = u) {v' : Value} {w' : World}
    (hr : (Builtin.copy_ #[t, t'] o.type #[v, u]).run Try.prog w = .ok v' w') (h : wpList Try.prog ops Q rest (a.put o.dst v') w') : wpList Try.prog ops Q (o :: rest) a w :=
  wpList_plain hgd fun K hK => by
    have h2 := hK _ _ h
    unfold Oper.wp execOp
    simp only [ho, resolve, invoke, builtin, Sem.run_bind, Sem.run_pure, Result.andThen_ok, List.map_toArray, List.map_cons, List.map_nil, hd, hs, hr]
    exact h2
theorem slN {w : World} {ops : Array Oper} {rest : List Oper} {Q : Exit → Act → World → Prop} {a : Act} {o : Oper} (x : Operand) (lo hi : Option Operand) (v u : Value) (lo' hi' : Option Value) (hgd : Region.wanted o (yielded ops a.tmps) = true) (ho : o.op = .slice 30 x lo hi none) (hx : a.eval x = v) (hlo : lo.map a.eval = lo') (hhi : hi.map a.eval = hi') (hr : ∀ W, (Instr.sliceAt 30 v lo' hi' none).run Try.prog W = .ok u W)
    (hh : wpList Try.prog ops Q rest (a.put o.dst u) w) : wpList Try.prog ops Q (o :: rest) a w := by
  refine BigFrame.wpList_want hgd fun K hK => ?_
  have h2 := hK _ _ hh
  unfold Oper.wp execOp
  simp only [ho, hx, hlo, hhi, Option.map_none, Sem.run_bind, hr, Result.andThen_ok, Sem.run_pure]
  exact h2
theorem tailN (q o N m : Nat) (hm : m ≤ N) : ∃ a, (∀ W, (Instr.sliceAt 30 (.slice (some ⟨q, o, none⟩) N N) (some (.int .i64 m)) none none).run Try.prog W = .ok (.slice (some a) (N - m) (N - m)) W) ∧ (m < N → a = ⟨q, o + m, none⟩) := by
  obtain ⟨i0, hi0, hz0, hz1, hz2⟩ := info_parts info5
  have a0 : (0 : Int) ≤ (m : Int) := by omega
  have a1 : (m : Int) ≤ (N : Int) := by omega
  refine ⟨if N = m then ⟨q, o, none⟩ else if m = 0 then ⟨q, o, none⟩ else ⟨q, o + m, none⟩, fun W => ?_, fun h => ?_⟩
  · simp [Instr.sliceAt, run_underlying Try.underlying30, go_sem, sizeOf, typeInfo, hi0, hz1, Addr.add, a0, a1]
    try (split <;> rfl)
  · rw [if_neg (by omega)]
    split
    · rename_i e; subst e; rfl
    · rfl
/-- A slice in a block from B on, with room for what it holds. -/
def Fr (B : Nat) (v : Value) : Prop := ∀ ao n k, v = .slice ao n k → n ≤ k ∧ ∀ ad, ao = some ad → B ≤ ad.block
theorem Fr.nil (B : Nat) : Fr B (.slice none 0 0) := fun ao n k h => by injection h with h1 h2 h3; subst h1 h2 h3; exact ⟨Nat.le_refl _, fun ad e => by cases e⟩
theorem Fr.mono {B B' : Nat} {v : Value} (h : Fr B v) (hb : B' ≤ B) : Fr B' v := fun ao n k e => ⟨(h ao n k e).1, fun ad ea => Nat.le_trans hb ((h ao n k e).2 ad ea)⟩
/-- What has been read when so many pages were. -/
def rdK (b : List UInt8) (k : Nat) : List UInt8 := b.take (8 * k) ++ List.replicate (b.length - 8 * k) 0
theorem rdK_len (b : List UInt8) (k : Nat) : (rdK b k).length = b.length := by simp [rdK]; omega
theorem rdK_zero (b : List UInt8) : rdK b 0 = List.replicate b.length 0 := by simp [rdK]
theorem rdK_end (b : List UInt8) (k : Nat) (h : b.length ≤ 8 * k) : rdK b k = b := by
  simp [rdK, List.take_of_length_le h]; omega
theorem rdK_step (b p : List UInt8) (k : Nat) (h : 8 * k < b.length) (hp : p = (b.drop (8 * k)).take 8) : splice (rdK b k) (8 * k) p = rdK b (k + 1) := by
  subst hp
  apply List.ext_getElem?
  intro j
  have hl : ((b.drop (8 * k)).take 8).length = min 8 (b.length - 8 * k) := by rw [List.length_take, List.length_drop]
  rw [splice_get (by rw [rdK_len, hl]; omega), hl]
  have e : ∀ k j, (rdK b k)[j]? = if j < 8 * k then b[j]? else if j < b.length then some 0 else none := by
    intro k j
    unfold rdK
    by_cases h1 : j < 8 * k
    · rw [if_pos h1]
      by_cases h2 : j < b.length
      · rw [List.getElem?_append_left (by rw [List.length_take]; omega), List.getElem?_take, if_pos h1]
      · rw [List.getElem?_append_right (by rw [List.length_take]; omega), List.getElem?_eq_none (by simp; omega), List.getElem?_eq_none (by omega)]
    · rw [if_neg h1]
      by_cases h2 : j < b.length
      · rw [if_pos h2, List.getElem?_append_right (by rw [List.length_take]; omega), List.getElem?_replicate, if_pos (by rw [List.length_take]; omega)]
      · rw [if_neg h2, List.getElem?_eq_none (by simp; omega)]
  rw [e, e]
  by_cases h1 : 8 * k ≤ j ∧ j < 8 * k + min 8 (b.length - 8 * k)
  · rw [if_pos h1, if_pos (by omega), List.getElem?_take, if_pos (by omega), List.getElem?_drop]
    congr 1
    omega
  · rw [if_neg h1]
    by_cases h2 : j < 8 * k
    · rw [if_pos h2, if_pos (by omega)]
    · rw [if_neg h2]
      by_cases h3 : j < b.length
      · rw [if_pos h3, if_neg (by omega)]
      · rw [if_neg h3]
        by_cases h4 : j < 8 * (k + 1)
        · rw [if_pos h4, List.getElem?_eq_none (by omega)]
        · rw [if_neg h4]
theorem madeN (n : Nat) : madeCells #[.int .u8 0] n = (byC (List.replicate n 0)).toArray := by
  apply Array.ext
  · simp [size_madeCells, Lib.byteCells]
  · intro i h1 h2
    simp [madeCells, Nat.mod_one, Lib.byteCells]
section
variable {C P : Nat} {c : Ch} {w : World}
theorem page_part (h : c.Ok) (p cnt k : Nat) (hc : 8 * p + cnt ≤ 8 * c.n) (hk : 8 * k < cnt) : c.rd ((p + k : Nat) : Int) = (c.pg.drop (8 * (p + k))).take 8 ∧ ((c.rd ((p + k : Nat) : Int)).take (min 8 (cnt - 8 * k))) = ((((c.pg.drop (8 * p)).take cnt).drop (8 * k)).take 8) := by
  have e1 : c.rd ((p + k : Nat) : Int) = (c.pg.drop (8 * (p + k))).take 8 := by
    unfold Ch.rd
    rw [if_pos (by simp [Ch.has]; omega), Int.toNat_natCast]
  refine ⟨e1, ?_⟩
  rw [e1]
  apply List.ext_getElem?
  intro j
  simp only [List.getElem?_take, List.getElem?_drop]
  by_cases h1 : j < min 8 (cnt - 8 * k)
  · rw [if_pos h1, if_pos (by omega), if_pos (by omega), if_pos (by omega)]
    congr 1
    omega
  · rw [if_neg h1]
    by_cases h2 : j < 8
    · rw [if_pos h2, if_neg (by omega)]
    · rw [if_neg h2]
set_option maxHeartbeats 4000000 in
theorem readBytes_any (h : Cm C P c w) (p cnt : Nat) (hc : 8 * p + cnt ≤ 8 * c.n) :
    Calls Try.prog 45 #[.pointer (some ⟨C, 0, none⟩), .int .i64 p, .int .i64 cnt] w fun e w' => ∃ v, e = .returned v ∧ Bytes w' v ((c.pg.drop (8 * p)).take cnt) ∧ Below w.heap.size w w' ∧ Fr w.heap.size v := by
  have hhi := h.ok.hi
  obtain ⟨i0, hi0, hz0, hz1, hz2⟩ := info_parts info5
  obtain ⟨b, hb⟩ : ∃ b, (c.pg.drop (8 * p)).take cnt = b := ⟨_, rfl⟩
  have hbl : b.length = cnt := by rw [← hb, List.length_take, List.length_drop, h.ok.len]; omega
  have hq0 := heap_alloc_new w (.cells (madeCells #[.int .u8 0] cnt) 5 (0, 0))
  rw [madeN] at hq0
  have B1 : Below w.heap.size w (w.alloc (.cells (byC (List.replicate cnt 0)).toArray 5)) := (Below.refl _ w).alloc (Nat.le_refl _) _
  obtain ⟨q, hqs⟩ : ∃ q, w.heap.size = q := ⟨_, rfl⟩
  obtain ⟨w1, hw1⟩ : ∃ x, w.alloc (.cells (byC (List.replicate cnt 0)).toArray 5) = x := ⟨_, rfl⟩
  rw [hw1] at B1 hq0
  rw [hqs] at hq0
  have HM : Hid (∀ W : World, (Instr.makeSlice 30 (.int .i64 cnt) (.int .i64 cnt)).run Try.prog w = .ok (.slice (some ⟨q, 0, none⟩) cnt cnt) w1) := by
    intro W
    have := run_make (P := Try.prog) w 30 5 i0 (.int .u8 0) Try.underlying30 hi0 hz0 .i64 .i64 cnt cnt (by omega) (Int.le_refl _) (by rw [hz2]; omega) (by omega)
    rw [hz1, Int.toNat_natCast, Nat.mul_one, hqs] at this
    rw [this, show (Value.int .u8 0).cells = #[.int .u8 0] from rfl, madeN, hw1]
  have hmk := HM.out w
  have HPP : Hid (∀ k, 8 * k < cnt → (c.rd ((p + k : Nat) : Int)).take (min 8 (cnt - 8 * k)) = (b.drop (8 * k)).take 8 ∧ (c.rd ((p + k : Nat) : Int)).length = 8) := by
    intro k hk
    obtain ⟨e1, e2⟩ := page_part h.ok p cnt k hc hk
    rw [hb] at e2
    exact ⟨e2, by rw [e1, List.length_take, List.length_drop, h.ok.len]; omega⟩
  have HC := hidOf h
  have HQS := hidOf hqs
  have HB1 := hidOf B1
  have HBL := hidOf hbl
  rw [hb]
  have hpc : 8 * p + cnt ≤ 262144 := by omega
  clear hb h HM B1 hbl hw1 hc
  go_enter Try.func45, Try.ntmps45
  go_wp2
  go_loopw [1, 8] (fun pg rs wr => ∃ (k : Nat) (a : Addr), pg = .int .i64 (p + k : Nat) ∧ rs = .slice (some a) (cnt - 8 * k) (cnt - 8 * k) ∧ (8 * k < cnt → a = ⟨q, 8 * k, none⟩) ∧ 8 * k < cnt + 8 ∧ Hid (wr.heap[q]? = some (.cells (byC (rdK b k)).toArray 5 (0, 0))) ∧ Hid (Below w.heap.size w wr)) (fun _ rs _ => match rs with | .slice _ n _ => n | _ => 0)
  case atStart => exact ⟨0, ⟨q, 0, none⟩, by simp, rfl, fun _ => rfl, by omega, by rw [rdK_zero, HBL.out]; exact hq0, HB1⟩
  case round =>
    clear hq0 HB1 hmk
    obtain ⟨k, a, rfl, rfl, ha, hk, HQ, HB⟩ := hrel
    by_cases hkl : 8 * k < cnt
    · obtain rfl := ha hkl
      obtain ⟨e2, l8⟩ := HPP.out k hkl
      have hrd := Read_any (HC.out.below HB.out) ((p + k : Nat) : Int)
      obtain ⟨X, hX⟩ : ∃ X, c.rd ((p + k : Nat) : Int) = X := ⟨_, rfl⟩
      rw [hX] at e2 l8 hrd
      have hNp : 0 < cnt - 8 * k := by omega
      obtain ⟨N, hN⟩ : ∃ N, cnt - 8 * k = N := ⟨_, rfl⟩
      obtain ⟨m, hm⟩ : ∃ m, min 8 (cnt - 8 * k) = m := ⟨_, rfl⟩
      rw [hm] at e2
      rw [hN] at hNp ⊢
      have hmN : m ≤ N ∧ m ≤ 8 ∧ (m < N → m = 8) := by omega
      have HMN : Hid (cnt - 8 * (k + 1) = N - m) := by show _ = _; omega
      have HXm : Hid ((X.take m).length = m) := by show _ = _; rw [List.length_take]; omega
      obtain ⟨ta, htl, hta⟩ := tailN q (8 * k) N m hmN.1
      have HE2 := hidOf (rdK_step b (X.take m) k (by rw [HBL.out]; exact hkl) e2)
      have HL8 := hidOf l8
      have hNp' : (0 : Int) < (N : Int) := by omega
      have HBQ : Hid (8 * k + m ≤ b.length) := by show _ ≤ _; rw [HBL.out]; omega
      unfold pgV at hrd
      obtain ⟨A, hA⟩ : ∃ A, (byC X).toArray = A := ⟨_, rfl⟩
      rw [hA] at hrd
      have hAs : A.size = 8 := by rw [← hA]; simp [Lib.byteCells, l8]
      have HAone : Hid (A.all (·.oneCell') = true) := by rw [← hA]; exact all_oneCell_toArray (byteCells_one X)
      have HA := hidOf hA
      have HTA : Hid (8 * (k + 1) < cnt → ta = ⟨q, 8 * (k + 1), none⟩) := fun hlt => by rw [hta (by omega)]; congr 1; omega
      have HW : Hid (∀ w2, Below wr.heap.size wr w2 → ∃ w3 q2, w2.alloc (.cells #[.int .u8 0, .int .u8 0, .int .u8 0, .int .u8 0, .int .u8 0, .int .u8 0, .int .u8 0, .int .u8 0] 38) = w3 ∧ w2.heap.size = q2 ∧ w3.heap[q2]? = some (.cells #[.int .u8 0, .int .u8 0, .int .u8 0, .int .u8 0, .int .u8 0, .int .u8 0, .int .u8 0, .int .u8 0] 38 (0, 0)) ∧
          ∃ w5, (∀ ty, (Builtin.copy_ #[30, 30] ty #[.slice (some ⟨q, 8 * k, none⟩) N N, .slice (some ⟨q2, 0, none⟩) 8 8]).run Try.prog (w3.setRow q2 A) = .ok (.int .i64 m) w5) ∧ Hid (w5.heap[q]? = some (.cells (byC (rdK b (k + 1))).toArray 5 (0, 0))) ∧ Hid (Below w.heap.size w w5)) := by
        intro w2 hb2
        have hqlt : q < wr.heap.size := (Array.getElem?_eq_some_iff.1 HQ.out).1
        have b3 := hb2.alloc hb2.size (.cells #[.int .u8 0, .int .u8 0, .int .u8 0, .int .u8 0, .int .u8 0, .int .u8 0, .int .u8 0, .int .u8 0] 38)
        have hq2 := heap_alloc_new w2 (.cells #[.int .u8 0, .int .u8 0, .int .u8 0, .int .u8 0, .int .u8 0, .int .u8 0, .int .u8 0, .int .u8 0] 38 (0, 0))
        refine ⟨_, _, rfl, rfl, hq2, ?_⟩
        generalize w2.alloc (.cells #[.int .u8 0, .int .u8 0, .int .u8 0, .int .u8 0, .int .u8 0, .int .u8 0, .int .u8 0, .int .u8 0] 38) = w3 at *
        have hsz := hb2.size
        have b4 := below_row b3 (q := w2.heap.size) hsz b3.size A
        have hq4 := Go.Proofs.Ythbcpmakhdogmaa.setRow_heap w3 w2.heap.size _ A _ _ hq2
        have hqq : (w3.setRow w2.heap.size A).heap[q]? = some (.cells (byC (rdK b k)).toArray 5 (0, 0)) := (b4.block q hqlt).trans HQ.out
        generalize w3.setRow w2.heap.size A = w4 at *
        have hcp := fun ty => run_copy_row (P := Try.prog) w4 30 30 ty 5 q (8 * k) N N ⟨w2.heap.size, 0, none⟩ 8 8 _ 5 (byC (X.take m)) Try.underlying30 (by obtain ⟨i0, hi0, hz0, hz1, hz2⟩ := info_parts info5; rw [hi0]; simp [hz1]) hqq (by rw [byC_len, HXm.out]; show m = min 8 N; omega) (fun j v hv => by
          rw [Addr.add_mid, Lib.cell_of_heap hq4, ← HA.out, List.getElem?_toArray, Nat.zero_add]
          have hj : j < m := by have := (List.getElem?_eq_some_iff.1 hv).1; rwa [byC_len, HXm.out] at this
          rw [← hv]
          simp [Lib.byteCells, List.getElem?_take, hj]) (by rw [List.size_toArray, byC_len, byC_len, rdK_len, HXm.out]; exact HBQ.out) (byteCells_one _)
        rw [byC_len, HXm.out] at hcp
        refine ⟨_, hcp, ?_, ?_⟩
        · show _ = _
          have := Go.Proofs.Ythbcpmakhdogmaa.setRow_heap w4 q _ (List.take (8 * k) (byC (rdK b k)).toArray.toList ++ byC (X.take m) ++ List.drop (8 * k + m) (byC (rdK b k)).toArray.toList).toArray _ _ hqq
          rw [this, ← HE2.out, byC_splice, splice, byC_len, HXm.out]
        · have hle := HB.out.size
          exact below_row (HB.out.trans (b4.mono hle)) (q := q) (by rw [HQS.out]; exact Nat.le_refl _) (HB.out.trans (b4.mono hle)).size _
      clear HPP e2 l8 hA hX hta HE2 HXm HBQ HC hm ha
      have hgt : decide ((0 : Int) < (N : Int)) = true := by simpa using hNp'
      go_wp2_with (first | (go_at_call 35; refine hrd.mono ?_; rintro e w2 ⟨rfl, hb2⟩; obtain ⟨w3, q2, hw3, hq2s, hq2, w5, hcp, HQ5, HB5⟩ := HW.out w2 hb2; clear hb2 HW) | (refine wpList_store_row rfl 38 _ _ rfl q2 A rfl rfl 38 _ hq2 (by rw [hAs]; exact infoA8) (by rw [hAs]; rfl) HAone.out ?_) | (at_builtin; refine wpList_copyN _ rfl _ _ _ _ rfl _ _ rfl rfl (hcp _) ?_) | (refine slN _ _ _ _ _ _ _ rfl rfl rfl rfl rfl htl ?_))
      go_roundw
      case rel => exact ⟨k + 1, ta, val_intM (by first | omega | (simp only [wrap64]; omega)), by rw [HMN.out], HTA.out, by omega, HQ5, HB5⟩
      case measure => simp only; omega
    · go_wp2
      go_ret
      refine ⟨_, rfl, ?_, HB.out, fun ao n k e => by injection e with e1 e2 e3; subst e1 e2 e3; exact ⟨Nat.le_refl _, fun ad ea => by cases ea; rw [HQS.out]; exact Nat.le_refl _⟩⟩
      rw [← rdK_end b k (by rw [HBL.out]; omega)]
      have := bytes_cells (w := wr) (q := q) (off := 0) (l := rdK b k) (cap := cnt) HQ.out rfl (fun j hj => by rw [Nat.zero_add, List.getElem?_toArray]; exact byC_get _ _ hj)
      rw [rdK_len, HBL.out] at this
      exact this
end
end Go.Proofs.Ythbcpmakhdogmaa
