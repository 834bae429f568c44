/- Contracts: the document's Next, Sum, Holds. -/
import Derived.Test.YthbcpmakhdogmaaNvD1
namespace Go.Proofs.Ythbcpmakhdogmaa
open Go.RowKit Go.Shelf Go.Proofs.Ty Go.Proofs.Nv Go.Proofs.Bits
set_option linter.unusedVariables false
set_option maxRecDepth 1000000
set_option linter.unusedSimpArgs false
theorem r9Next_any (k : Nat) (hk : k < 65536) (w : World) : Calls Try.prog 41 #[.int .i64 k] w fun e w' => e = .returned (.int .i64 (nxt k)) ∧ w' = w := by
  have HN : Hid (nxt k = if k = 65535 then 1 else k + 1) := rfl
  generalize nxt k = m at *
  go_enter Try.func41, Try.ntmps41
  go_wp2
  go_ret
  refine ⟨ret_int ?_, rfl⟩
  rw [HN.out]
  split <;> omega
theorem six_cells (k n : Nat) (hk : k < 65536) (hn : n < 4294967296) : (#[.int .u8 ((k : Int) % 256), .int .u8 ((k : Int) / 256), .int .u8 ((n : Int) % 256), .int .u8 ((n : Int) / 256 % 256), .int .u8 ((n : Int) / 65536 % 256), .int .u8 ((n : Int) / 16777216)] : Array Value) = (byC (le k 2 ++ le n 4)).toArray := by
  have e : ∀ x : Nat, ((UInt8.ofNat (x % 256)).toNat : Int) = (x : Int) % 256 := fun x => by simp
  simp only [le, List.cons_append, List.nil_append, Lib.byteCells, List.map_cons, List.map_nil, e]
  congr 1
  have h1 : ((k / 256 : Nat) : Int) % 256 = (k : Int) / 256 := by omega
  have h2 : ((n / 256 / 256 : Nat) : Int) % 256 = (n : Int) / 65536 % 256 := by omega
  have h3 : ((n / 256 / 256 / 256 : Nat) : Int) % 256 = (n : Int) / 16777216 := by omega
  have h4 : ((n / 256 : Nat) : Int) % 256 = (n : Int) / 256 % 256 := by omega
  rw [h1, h2, h3, h4]
theorem own_cellsN (w : World) (l : List UInt8) (hl : l.length ≤ 1000) : (w.alloc (.cells (byC l).toArray 5)).ownsRow w.heap.size 5 1 (.slice (some ⟨w.heap.size, 0, none⟩) l.length l.length) l.length (Lib.byteCells l) := by
  refine ⟨by rw [Lib.byteCells_length, Nat.mul_one], .inr ⟨w.heap.size, l.length, (byC l).toArray, rfl, Nat.le_refl _, heap_alloc_new w _, Nat.le_refl _, by unfold maxLen; omega, by rw [List.size_toArray, byC_len, Nat.mul_one], ?_⟩⟩
  rw [Nat.mul_one]
  show (byC l).take l.length = _
  rw [List.take_of_length_le (by rw [byC_len]; exact Nat.le_refl _)]
set_option maxHeartbeats 4000000 in
theorem r9Sum_any (k n : Nat) (hk : k < 65536) (hn : n < 4294967296) (v : Value) (b : List UInt8) (w : World) (hb : b.length ≤ 140737488351232) (hB : Bytes w v b) :
    Calls Try.prog 42 #[.int .i64 k, .int .i64 n, v] w fun e w' => e = .returned (.int .u16 (crc16 (le k 2 ++ le n 4 ++ b))) ∧ Below w.heap.size w w' := by
  obtain ⟨av, cv, rfl⟩ := bytes_shapeN hB
  have e6 := six_cells k n hk hn
  have l6 : (le k 2 ++ le n 4).length = 6 := by rw [List.length_append, le_len, le_len]
  have ho := own_cellsN w (le k 2 ++ le n 4) (by omega)
  have b1 : Below w.heap.size w (w.alloc (.cells (byC (le k 2 ++ le n 4)).toArray 5)) := (Below.refl _ w).alloc (Nat.le_refl _) _
  have HB1 := hidOf (hB.below b1)
  generalize le k 2 ++ le n 4 = l at *
  have hs1 := size_alloc w (.cells (byC l).toArray 5)
  obtain ⟨w1, hw1⟩ : ∃ x, w.alloc (.cells #[.int .u8 ((k : Int) % 256), .int .u8 ((k : Int) / 256), .int .u8 ((n : Int) % 256), .int .u8 ((n : Int) / 256 % 256), .int .u8 ((n : Int) / 65536 % 256), .int .u8 ((n : Int) / 16777216)] 5) = x := ⟨_, rfl⟩
  rw [← e6, hw1] at ho b1 HB1 hs1
  obtain ⟨q, hq⟩ : ∃ q, w.heap.size = q := ⟨_, rfl⟩
  rw [l6, hq] at ho
  have HO : Hid (w1.ownsRow q 5 1 (.slice (some ⟨q, 0, none⟩) 6 6) l.length (Lib.byteCells l)) := by rw [l6]; exact ho
  have HBB := hidOf b1
  have HQ : Hid (q ≤ w1.heap.size) := by show _ ≤ _; omega
  have HL : Hid ((l ++ b).length ≤ maxLen ∧ l.length + b.length ≤ 140737488355328) := by refine ⟨?_, ?_⟩ <;> (try unfold maxLen) <;> (try rw [List.length_append]) <;> omega
  have HX : Hid (∀ v2 w2, w2.ownsRow q 5 1 v2 (l ++ b).length (Lib.byteCells (l ++ b)) → w1.grownBy w2 (Value.slice (some ⟨q, 0, none⟩) 6 6).ownBlock → Below w.heap.size w w2 ∧ Calls Try.prog 49 #[v2] w2 fun e w' => e = .returned (.int .u16 (crc16 (l ++ b))) ∧ w' = w2) := fun v2 w2 h1 h2 =>
    ⟨HBB.out.grown h2 HBB.out.size (fun j e => by cases e; rw [hq]; exact Nat.le_refl _), rCRC16_bytes v2 (l ++ b) w2 HL.out.1 (bytes_of_own h1)⟩
  clear ho b1 hs1 e6 hB
  generalize crc16 (l ++ b) = cr at *
  go_enter Try.func42, Try.ntmps42
  go_wp2_with (first | (at_builtin; refine append_bytes rfl _ _ rfl q _ l rfl HO.out _ b rfl HB1.out HL.out.2 HQ.out ?_; intro v2 w2 ho2 hg2; obtain ⟨hb2, hcr⟩ := HX.out v2 w2 ho2 hg2; have HB2 := hidOf hb2; clear ho2 hg2 hb2 HX) | (go_at_call 49; refine hcr.mono ?_; rintro e x1 ⟨rfl, hx1⟩; rw [hx1]; clear hx1 x1))
  go_ret
  exact ⟨rfl, HB2.out⟩
theorem enterN_su : ∀ args x, (callFunc 42 args).run Try.prog x = .ok (.enter 42 args) x := fun _ _ => by rfl
theorem load_u8N (x : World) (D k : Nat) (z : Int) (hc : x.cell? ⟨D, k, none⟩ = some (.int .u8 z)) : (loadVar 5 ⟨D, k, none⟩).run Try.prog x = .ok (.int .u8 z) x := by
  simp [go_sem, run_underlying Try.underlying5, hc]
theorem info1u8 : (Try.prog.info? 5).map (·.size) = some 1 := by kernel_rfl
theorem exec_ixA {a : Act} {o : Oper} {s i : Operand} {b j : Nat} (ho : o.op = .indexAddr 38 s i) (hs : a.eval s = .pointer (some ⟨b, 0, none⟩)) (hi : a.eval i = .int .i64 (j : Int)) (hj : j < 8) (w : World) : (execOp a.eval o).run Try.prog w = .ok (.value (.pointer (some ⟨b, j, none⟩))) w := by
  have h1 : (0 : Int) ≤ (j : Int) := by omega
  have h2 : (j : Int) < 8 := by omega
  unfold execOp
  simp only [ho, hs, hi]
  obtain ⟨i0, hi0, hz0⟩ := info_sizeN info1u8
  simp [go_sem, run_underlying Try.underlying38, sizeOf, typeInfo, hi0, hz0, h1, h2, Addr.add_mid]
theorem num2 (a b : UInt8) : num [a, b] = a.toNat + 256 * b.toNat := by simp [num]
theorem num4 (a b c d : UInt8) : num [a, b, c, d] = a.toNat + 256 * b.toNat + 65536 * c.toNat + 16777216 * d.toNat := by simp [num]; omega
theorem list8N {l : List UInt8} (h : l.length = 8) : ∃ c0 c1 c2 c3 c4 c5 c6 c7, l = [c0, c1, c2, c3, c4, c5, c6, c7] := by
  match l, h with
  | [c0, c1, c2, c3, c4, c5, c6, c7], _ => exact ⟨c0, c1, c2, c3, c4, c5, c6, c7, rfl⟩
section
variable {C P : Nat} {c : Ch} {w : World}
set_option maxHeartbeats 16000000 in
theorem ZHolds_any (h : Dm C P c w) (hf' f : Nat) (hh1 : hf' ≤ 1) (hfe : hf' * c.many = f) :
    Calls Try.prog 43 #[.pointer (some ⟨C, 0, none⟩), .int .i64 hf'] w fun e w' => ∃ v, e = .returned (.tuple #[v, .int .i64 (c.holds f).1]) ∧ Bytes w' v (c.holds f).2 ∧ Below w.heap.size w w' := by
  have hf : f + c.many ≤ c.n := by
    have : c.many + c.many ≤ c.n := by unfold Ch.many; omega
    have : f ≤ c.many := by rw [← hfe]; exact Nat.le_trans (Nat.mul_le_mul_right _ hh1) (by omega)
    omega
  obtain ⟨er, ed⟩ := rd_seg h.ok f hf
  have sl := seg_len h.ok f hf
  have hmany : 2 ≤ c.many := by have := h.ok.lo; unfold Ch.many; omega
  have hhi := h.ok.hi
  have hroom : c.room ≤ 131072 := by unfold Ch.room; omega
  have hrm : c.room = 8 * (c.many - 1) := rfl
  have hm16 : c.many ≤ 16384 := by unfold Ch.many; omega
  obtain ⟨S, hS⟩ : ∃ x, c.seg f = x := ⟨_, rfl⟩
  have HH : Hid (c.holds f = hs c.room S) := by show _ = _; unfold Ch.holds; rw [hS]
  rw [hS] at er ed sl
  obtain ⟨X, hX⟩ : ∃ x, S.take 8 = x := ⟨_, rfl⟩
  rw [hX] at er
  have X8 : X.length = 8 := by rw [← hX, List.length_take]; omega
  have hpgX : (c.pg.drop (8 * f)).take 8 = X := by
    rw [← er]
    unfold Ch.rd
    rw [if_pos (by simp [Ch.has]; omega), Int.toNat_natCast]
  have x2 : X.take 2 = S.take 2 := by rw [← hX, List.take_take]; congr 1
  have x6 : X.take 6 = S.take 6 := by rw [← hX, List.take_take]; congr 1
  have x4 : (X.drop 2).take 4 = (S.drop 2).take 4 := by rw [← hX, List.drop_take, List.take_take]; congr 1
  have x7 : (X.drop 6).take 2 = (S.drop 6).take 2 := by rw [← hX, List.drop_take, List.take_take]; congr 1
  have HR : Hid (hs c.room S = if num (S.take 2) = 0 ∨ c.room < num ((S.drop 2).take 4) then (0, []) else if num ((S.drop 6).take 2) = crc16 (S.take 6 ++ (S.drop 8).take (num ((S.drop 2).take 4))) then (num (S.take 2), (S.drop 8).take (num ((S.drop 2).take 4))) else (0, [])) := rfl
  rw [← x2, ← x4, ← x7, ← x6] at HR
  obtain ⟨y0, y1, y2, y3, y4, y5, y6, y7, hy⟩ := list8N X8
  have hsix : X.take 6 = le (num (X.take 2)) 2 ++ le (num ((X.drop 2).take 4)) 4 := by
    rw [hy]
    have := y0.toNat_lt; have := y1.toNat_lt; have := y2.toNat_lt; have := y3.toNat_lt; have := y4.toNat_lt; have := y5.toNat_lt
    show [y0, y1, y2, y3, y4, y5] = le (num [y0, y1]) 2 ++ le (num [y2, y3, y4, y5]) 4
    rw [num2, num4]
    simp only [le, List.cons_append, List.nil_append]
    have e : ∀ (a : UInt8) (n : Nat), n % 256 = a.toNat → a = UInt8.ofNat (n % 256) := fun a n hn => by rw [hn]; simp
    rw [← e y0 _ (by omega), ← e y1 _ (by omega), ← e y2 _ (by omega), ← e y3 _ (by omega), ← e y4 _ (by omega), ← e y5 _ (by omega)]
  have ek : num (X.take 2) = y0.toNat + 256 * y1.toNat := by rw [hy]; exact num2 _ _
  have em : num ((X.drop 2).take 4) = y2.toNat + 256 * y3.toNat + 65536 * y4.toNat + 16777216 * y5.toNat := by rw [hy]; exact num4 _ _ _ _
  have es : num ((X.drop 6).take 2) = y6.toNat + 256 * y7.toNat := by rw [hy]; exact num2 _ _
  rw [hsix] at HR
  have z0 := y0.toNat_lt; have z1 := y1.toNat_lt; have z2 := y2.toNat_lt; have z3 := y3.toNat_lt; have z4 := y4.toNat_lt; have z5 := y5.toNat_lt; have z6 := y6.toNat_lt; have z7 := y7.toNat_lt
  have HCL : Hid (∀ (x : World) (q : Nat), x.heap[q]? = some (.cells (byC X).toArray 38 (0, 0)) → x.cell? ⟨q, 0, none⟩ = some (.int .u8 y0.toNat) ∧ x.cell? ⟨q, 1, none⟩ = some (.int .u8 y1.toNat) ∧ x.cell? ⟨q, 2, none⟩ = some (.int .u8 y2.toNat) ∧ x.cell? ⟨q, 3, none⟩ = some (.int .u8 y3.toNat) ∧ x.cell? ⟨q, 4, none⟩ = some (.int .u8 y4.toNat) ∧ x.cell? ⟨q, 5, none⟩ = some (.int .u8 y5.toNat) ∧ x.cell? ⟨q, 6, none⟩ = some (.int .u8 y6.toNat) ∧ x.cell? ⟨q, 7, none⟩ = some (.int .u8 y7.toNat)) := by
    rw [hy]
    exact fun x q hx => ⟨Lib.cell_of_heap hx 0, Lib.cell_of_heap hx 1, Lib.cell_of_heap hx 2, Lib.cell_of_heap hx 3, Lib.cell_of_heap hx 4, Lib.cell_of_heap hx 5, Lib.cell_of_heap hx 6, Lib.cell_of_heap hx 7⟩
  obtain ⟨k, hk⟩ : ∃ n, num (X.take 2) = n := ⟨_, rfl⟩
  obtain ⟨m, hm⟩ : ∃ n, num ((X.drop 2).take 4) = n := ⟨_, rfl⟩
  obtain ⟨s, hs'⟩ : ∃ n, num ((X.drop 6).take 2) = n := ⟨_, rfl⟩
  rw [hk, hm, hs'] at HR
  rw [hk] at ek
  rw [hm] at em
  rw [hs'] at es
  rw [HH.out]
  generalize hs c.room S = R at *
  obtain ⟨A, hA⟩ : ∃ x, (byC X).toArray = x := ⟨_, rfl⟩
  have hAs : A.size = 8 := by rw [← hA, List.size_toArray, byC_len, X8]
  have hone : A.all (·.oneCell') = true := by rw [← hA]; exact all_oneCell_toArray (byteCells_one X)
  rw [hA] at HCL
  have hrg := h.range f (by omega)
  rw [hpgX, Nat.mul_comm] at hrg
  have hbX : (byC X).length = 8 := by rw [byC_len, X8]
  obtain ⟨M, hM⟩ : ∃ M, byC X = M := ⟨_, rfl⟩
  rw [hM] at hrg hbX hA
  have c0 := h.c0
  have HW : Hid (∃ w3 q, w.alloc (.cells #[.int .u8 0, .int .u8 0, .int .u8 0, .int .u8 0, .int .u8 0, .int .u8 0, .int .u8 0, .int .u8 0] 38) = w3 ∧ w.heap.size = q ∧ w3.heap[q]? = some (.cells #[.int .u8 0, .int .u8 0, .int .u8 0, .int .u8 0, .int .u8 0, .int .u8 0, .int .u8 0, .int .u8 0] 38 (0, 0)) ∧ ∃ w4, w3.setRow q A = w4 ∧ w4.heap[q]? = some (.cells A 38 (0, 0)) ∧ Hid (Below w.heap.size w w4)) := by
    have hq2 := heap_alloc_new w (.cells #[.int .u8 0, .int .u8 0, .int .u8 0, .int .u8 0, .int .u8 0, .int .u8 0, .int .u8 0, .int .u8 0] 38 (0, 0))
    have b3 : Below w.heap.size w (w.alloc (.cells #[.int .u8 0, .int .u8 0, .int .u8 0, .int .u8 0, .int .u8 0, .int .u8 0, .int .u8 0, .int .u8 0] 38)) := (Below.refl _ w).alloc (Nat.le_refl _) _
    exact ⟨_, _, rfl, rfl, hq2, _, rfl, Go.Proofs.Ythbcpmakhdogmaa.setRow_heap _ w.heap.size _ A _ _ hq2, below_row b3 (Nat.le_refl _) b3.size A⟩
  obtain ⟨w3, q, hw3, hqs, hq3, w4, hw4, hq4, HB4⟩ := HW.out
  obtain ⟨d0, d1, d2, d3, d4, d5, d6, d7⟩ := HCL.out w4 q hq4
  have HC8 : Hid (∀ x : World, x.heap[q]? = some (.cells A 38 (0, 0)) → x.cell? ⟨q, 6, none⟩ = some (.int .u8 y6.toNat) ∧ x.cell? ⟨q, 7, none⟩ = some (.int .u8 y7.toNat)) := fun x hx => by obtain ⟨_, _, _, _, _, _, h6, h7⟩ := HCL.out x q hx; exact ⟨h6, h7⟩
  have HD4 := hidOf (h.below HB4.out)
  have hmul : (hf' : Int) * (c.many : Int) = (f : Int) := by rw [← hfe]; simp
  have HDC : Hid (c.many = c.n / 2) := rfl
  have hfb : f ≤ 32768 := by omega
  have HSD : Hid (m ≤ c.room → (S.drop 8).take m = (c.pg.drop (8 * (f + 1))).take m) := fun hmr => (ed m hmr).symm
  have HLEN := hidOf h.ok.len
  generalize y0.toNat = x0 at *
  generalize y1.toNat = x1 at *
  generalize y2.toNat = x2' at *
  generalize y3.toNat = x3 at *
  generalize y4.toNat = x4' at *
  generalize y5.toNat = x5 at *
  generalize y6.toNat = x6 at *
  generalize y7.toNat = x7 at *
  obtain ⟨mn, hmn⟩ : ∃ x, c.many = x := ⟨_, rfl⟩
  rw [hmn] at hmul hrm hm16 HDC hmany hf
  have HNN : Hid (c.n / 2 = mn) := HDC.out.symm
  have hn2 : ((c.n : Int) / 2) = (mn : Int) := by have := HNN.out; omega
  obtain ⟨cn, hcn⟩ : ∃ x, c.n = x := ⟨_, rfl⟩
  rw [hcn] at c0 hn2 hhi hf HNN
  have HCN := hidOf hcn
  have HAM : Hid (M.toArray = A) := hA
  clear hA hM h HW hk hm hs' hX hy hsix hpgX er ed sl hS HH HCL hfe hmn hcn
  by_cases hk0 : k = 0
  · have HR1 : Hid (R = (0, [])) := by show R = _; rw [HR.out, if_pos (.inl hk0)]
    have e0 : (x0 : Int) + 256 * (x1 : Int) = 0 := by omega
    have e0' : x0 = 0 ∧ x1 = 0 := by omega
    obtain ⟨rfl, rfl⟩ := e0'
    go_enter Try.func43, Try.ntmps43
    go_wp2_with (first | (refine wpList_load_mid rfl 38 _ rfl P (f * 8) rfl M _ hrg Try.underlying38 rfl (by rw [hbX]; exact infoA8) ?_) | (refine wpList_store_row rfl 38 _ _ rfl q A rfl (by show Value.agg M.toArray = _; rw [HAM.out]) 38 _ hq3 (by rw [hAs]; exact infoA8) (by rw [hAs]; rfl) hone ?_; rw [hw4]; clear hw4 hw3 hq3))
    go_ret2
    exact ⟨_, by rw [HR1.out]; rfl, by rw [HR1.out]; exact Bytes.nil _, HB4.out⟩
  · have hkx : (x0 : Int) + 256 * (x1 : Int) = (k : Int) := by omega
    have hmx : (x2' : Int) + 256 * (x3 : Int) + 65536 * (x4' : Int) + 16777216 * (x5 : Int) = (m : Int) := by omega
    have dk : ((k : Int) == 0) = false := by simp; omega
    obtain ⟨rm, hrme⟩ : ∃ x, c.room = x := ⟨_, rfl⟩
    rw [hrme] at hrm hroom HR HSD
    have hr8 : 8 * ((mn : Int) - 1) = (rm : Int) := by omega
    have hkb : k < 65536 := by omega
    have hmb : m < 4294967296 := by omega
    clear hrme ek em
    by_cases hmr : rm < m
    · have HR1 : Hid (R = (0, [])) := by show R = _; rw [HR.out, if_pos (.inr hmr)]
      have dm : decide ((rm : Int) < (m : Int)) = true := by simp; omega
      go_enter Try.func43, Try.ntmps43
      go_wp2_with (first | (refine wpList_load_mid rfl 38 _ rfl P (f * 8) rfl M _ hrg Try.underlying38 rfl (by rw [hbX]; exact infoA8) ?_) | (refine wpList_store_row rfl 38 _ _ rfl q A rfl (by show Value.agg M.toArray = _; rw [HAM.out]) 38 _ hq3 (by rw [hAs]; exact infoA8) (by rw [hAs]; rfl) hone ?_; rw [hw4]; clear hw4 hw3 hq3))
      go_ret2
      exact ⟨_, by rw [HR1.out]; rfl, by rw [HR1.out]; exact Bytes.nil _, HB4.out⟩
    · have dm : decide ((rm : Int) < (m : Int)) = false := by simp; omega
      have HSDe := hidOf (HSD.out (by omega))
      rw [HSDe.out] at HR
      obtain ⟨bb, hbb⟩ : ∃ x, (c.pg.drop (8 * (f + 1))).take m = x := ⟨_, rfl⟩
      rw [hbb] at HR
      have hbl : bb.length = m := by rw [← hbb, List.length_take, List.length_drop, HLEN.out, HCN.out]; omega
      have HBL := hidOf hbl
      have HCE : Hid (∀ (x : World) (j : Nat) (hj : j < bb.length), Dm C P c x → x.cell? ⟨P, (f + 1 + j / 8) * 8 + j % 8, none⟩ = some (.int .u8 bb[j].toNat)) := fun x j hj hx => by
        rw [Lib.cell_of_heap hx.pages, List.getElem?_toArray]
        have hlen := hx.ok.len
        have hjj : 8 * (f + 1) + j < c.pg.length := by rw [hlen, HCN.out]; omega
        rw [show (f + 1 + j / 8) * 8 + j % 8 = 8 * (f + 1) + j by omega, byC_get _ _ hjj]
        subst hbb
        simp
      have HRR : Hid (R = if s = crc16 (le k 2 ++ le m 4 ++ bb) then (k, bb) else (0, [])) := by show R = _; rw [HR.out, if_neg (by omega)]
      have hoE := own_empty w4
      have b5 : Below w4.heap.size w4 (w4.alloc (.cells #[] 5)) := (Below.refl _ w4).alloc (Nat.le_refl _) _
      obtain ⟨B, hBe⟩ : ∃ x, w4.heap.size = x := ⟨_, rfl⟩
      obtain ⟨w5, hw5⟩ : ∃ x, w4.alloc (.cells #[] 5) = x := ⟨_, rfl⟩
      rw [hw5, hBe] at hoE
      rw [hw5] at b5
      have HO0 := hidOf hoE
      have HB5 := hidOf b5
      have HQLT : Hid (q < w4.heap.size) := (Array.getElem?_eq_some_iff.1 hq4).1
      have HBE := hidOf hBe
      clear hbb hbl hoE b5 HR HSD HSDe
      go_enter Try.func43, Try.ntmps43
      go_wp2_with (first | (refine wpList_load_mid rfl 38 _ rfl P (f * 8) rfl M _ hrg Try.underlying38 rfl (by rw [hbX]; exact infoA8) ?_) | (refine wpList_store_row rfl 38 _ _ rfl q A rfl (by show Value.agg M.toArray = _; rw [HAM.out]) 38 _ hq3 (by rw [hAs]; exact infoA8) (by rw [hAs]; rfl) hone ?_; rw [hw4]; clear hw4 hw3 hq3))
      go_loopw [11, 12] (fun v i wr => ∃ j : Nat, j ≤ m ∧ i = .int .i64 j ∧ Hid (wr.ownsRow B 5 1 v (bb.take j).length (Lib.byteCells (bb.take j))) ∧ Hid (Below w4.heap.size w4 wr)) (fun _ i _ => m - (intOf i).toNat)
      case atStart => exact ⟨0, Nat.zero_le _, rfl, HO0, HB5⟩
      case round =>
        clear HO0 HB5
        obtain ⟨j, hj, rfl, HO, HBR⟩ := hrel
        by_cases hjm : j < m
        · have hjb : j < bb.length := by rw [HBL.out]; exact hjm
          have hcell := HCE.out wr j hjb (HD4.out.below HBR.out)
          have c0' := (HD4.out.below HBR.out).c0
          rw [HCN.out] at c0'
          have HTS : Hid (bb.take (j + 1) = bb.take j ++ [bb[j]]) := List.take_succ_eq_append_getElem hjb
          obtain ⟨x, hx⟩ : ∃ x, bb[j] = x := ⟨_, rfl⟩
          rw [hx] at hcell HTS
          have hxl := x.toNat_lt
          obtain ⟨j8, hj8⟩ : ∃ a, j / 8 = a := ⟨_, rfl⟩
          obtain ⟨jm, hjmm⟩ : ∃ a, j % 8 = a := ⟨_, rfl⟩
          rw [hj8, hjmm] at hcell
          have i8 : (j : Int) / 8 = (j8 : Int) := by omega
          have im : (j : Int) % 8 = (jm : Int) := by omega
          have hp1 : f + 1 + j8 < cn := by omega
          have hp2 : jm < 8 := by omega
          have HAB : Hid ((bb.take j).length + 1 ≤ 140737488355328) := by show _ ≤ _; rw [List.length_take]; omega
          have HSZ : Hid (B ≤ wr.heap.size) := by show _ ≤ _; rw [← HBE.out]; exact HBR.out.size
          clear hx hj8 hjmm
          go_wp2_with (at_builtin; refine append_one rfl _ _ rfl B _ (bb.take j) rfl (ownsRow_alloc HO.out _) ⟨wr.heap.size, 0, none⟩ x rfl (cell_new _ _ _) HAB.out (by have := HSZ.out; rw [size_alloc]; omega) ?_; intro v2 w6 ho6 hg6; have HO6 := hidOf ho6; have HB6 := hidOf ((HBR.out.alloc HBR.out.size (.cells #[.int .u8 x.toNat] 5)).grown hg6 (HBR.out.alloc HBR.out.size _).size (fun k e => by have := own_lt HO.out k e; rw [HBE.out]; exact this)); clear ho6 hg6)
          go_roundw
          case rel => exact ⟨j + 1, by omega, by go_num, by rw [HTS.out]; exact HO6, HB6⟩
          case measure => simp [intOf]; omega
        · have HVB := hidOf (bytes_of_own HO.out)
          rw [List.take_of_length_le (by rw [HBL.out]; omega)] at HVB
          obtain ⟨av, cv, hav⟩ := bytes_shapeN HVB.out
          rw [HBL.out] at hav
          subst hav
          have hcl := crc16_lt (le k 2 ++ le m 4 ++ bb)
          have hVd := HVB.out.below (bdr (Below.refl _ wr) 1)
          change Bytes wr.drew _ _ at hVd
          have hsm := r9Sum_any k m hkb hmb _ bb wr.drew (by rw [HBL.out]; omega) hVd
          obtain ⟨cr, hcr⟩ : ∃ x, crc16 (le k 2 ++ le m 4 ++ bb) = x := ⟨_, rfl⟩
          rw [hcr] at hsm hcl HRR
          have hqlt0 := HQLT.out
          have S0 : wr.drew.heap[q]? = some (.cells A 38 (0, 0)) := (HBR.out.block q hqlt0).trans hq4
          have hqlt : q < wr.drew.heap.size := (Array.getElem?_eq_some_iff.1 S0).1
          have hcvi : IntKind.i64.wrap (cr : Int) = (cr : Int) := by rw [IntKind.wrap_i64]; omega
          have hi6 : IntKind.i64.wrap (x6 : Int) = (x6 : Int) := by rw [IntKind.wrap_i64]; omega
          have hi7 : IntKind.i64.wrap (x7 : Int) = (x7 : Int) := by rw [IntKind.wrap_i64]; omega
          have hw7 : IntKind.i64.wrap (256 * (x7 : Int)) = 256 * (x7 : Int) := by rw [IntKind.wrap_i64]; omega
          have hw67 : IntKind.i64.wrap ((x6 : Int) + 256 * (x7 : Int)) = (x6 : Int) + 256 * (x7 : Int) := by rw [IntKind.wrap_i64]; omega
          have hne13 : ((cr : Int) != (x6 : Int) + 256 * (x7 : Int)) = (cr != s) := by
            by_cases hcs : cr = s
            · rw [show (cr != s) = false by simpa using hcs]
              simp
              omega
            · rw [show (cr != s) = true by simpa using hcs]
              simp
              omega
          have HBW : Hid (Below w.heap.size w wr.drew) := bdr (HB4.out.trans (HBR.out.mono HB4.out.size)) 1
          clear hcr hVd
          go_upto_region 13 with fail
          refine wp_region_held (S := fun x => x.heap[q]? = some (.cells A 38 (0, 0))) (by kernel_rfl) ?_
          change wpAnyH _ _ _ _ _ _ _ _ wr.drew
          refine wpAnyH_take (i := 0) (v := (.int .i64 (k : Int))) rfl (by kernel_rfl) (by kernel_rfl) (by kernel_rfl) (fun _ _ _ h => h) (.inl ⟨rfl, fun _ hS => rfl⟩) S0 ?_
          simp only [List.getElem_toArray, List.getElem_cons_succ, List.getElem_cons_zero, Act.put, List.setIfInBounds_toArray, List.set_cons_succ, List.set_cons_zero]
          refine wpAnyH_take (i := 1) (v := (.int .i64 (m : Int))) rfl (by kernel_rfl) (by kernel_rfl) (by kernel_rfl) (fun _ _ _ h => h) (.inl ⟨rfl, fun _ hS => rfl⟩) S0 ?_
          simp only [List.getElem_toArray, List.getElem_cons_succ, List.getElem_cons_zero, Act.put, List.setIfInBounds_toArray, List.set_cons_succ, List.set_cons_zero]
          refine wpAnyH_take (i := 2) (v := (.slice av m cv)) rfl (by kernel_rfl) (by kernel_rfl) (by kernel_rfl) (fun _ _ _ h => h) (.inl ⟨rfl, fun _ hS => rfl⟩) S0 ?_
          simp only [List.getElem_toArray, List.getElem_cons_succ, List.getElem_cons_zero, Act.put, List.setIfInBounds_toArray, List.set_cons_succ, List.set_cons_zero]
          refine wpAnyH_take (i := 5) (v := (.pointer (some ⟨q, 6, none⟩))) rfl (by kernel_rfl) (by kernel_rfl) (by kernel_rfl) (fun _ _ _ h => h) (.inl ⟨rfl, fun _ hS => exec_ixA (j := 6) rfl rfl rfl (by decide) _⟩) S0 ?_
          simp only [List.getElem_toArray, List.getElem_cons_succ, List.getElem_cons_zero, Act.put, List.setIfInBounds_toArray, List.set_cons_succ, List.set_cons_zero]
          refine wpAnyH_take (i := 6) (v := (.int .u8 (x6 : Int))) rfl (by kernel_rfl) (by kernel_rfl) (by kernel_rfl) (fun _ _ _ h => h) (.inl ⟨rfl, fun _ hS => exec_loadN rfl rfl (load_u8N _ q 6 _ (HC8.out _ hS).1)⟩) S0 ?_
          simp only [List.getElem_toArray, List.getElem_cons_succ, List.getElem_cons_zero, Act.put, List.setIfInBounds_toArray, List.set_cons_succ, List.set_cons_zero]
          refine wpAnyH_take (i := 7) (v := (.int .i64 (x6 : Int))) rfl (by kernel_rfl) (by kernel_rfl) (by kernel_rfl) (fun _ _ _ h => h) (.inl ⟨rfl, fun _ hS => by simp [execOp, go_sem, Act.eval, hi6]⟩) S0 ?_
          simp only [List.getElem_toArray, List.getElem_cons_succ, List.getElem_cons_zero, Act.put, List.setIfInBounds_toArray, List.set_cons_succ, List.set_cons_zero]
          refine wpAnyH_take (i := 8) (v := (.pointer (some ⟨q, 7, none⟩))) rfl (by kernel_rfl) (by kernel_rfl) (by kernel_rfl) (fun _ _ _ h => h) (.inl ⟨rfl, fun _ hS => exec_ixA (j := 7) rfl rfl rfl (by decide) _⟩) S0 ?_
          simp only [List.getElem_toArray, List.getElem_cons_succ, List.getElem_cons_zero, Act.put, List.setIfInBounds_toArray, List.set_cons_succ, List.set_cons_zero]
          refine wpAnyH_take (i := 9) (v := (.int .u8 (x7 : Int))) rfl (by kernel_rfl) (by kernel_rfl) (by kernel_rfl) (fun _ _ _ h => h) (.inl ⟨rfl, fun _ hS => exec_loadN rfl rfl (load_u8N _ q 7 _ (HC8.out _ hS).2)⟩) S0 ?_
          simp only [List.getElem_toArray, List.getElem_cons_succ, List.getElem_cons_zero, Act.put, List.setIfInBounds_toArray, List.set_cons_succ, List.set_cons_zero]
          refine wpAnyH_take (i := 10) (v := (.int .i64 (x7 : Int))) rfl (by kernel_rfl) (by kernel_rfl) (by kernel_rfl) (fun _ _ _ h => h) (.inl ⟨rfl, fun _ hS => by simp [execOp, go_sem, Act.eval, hi7]⟩) S0 ?_
          simp only [List.getElem_toArray, List.getElem_cons_succ, List.getElem_cons_zero, Act.put, List.setIfInBounds_toArray, List.set_cons_succ, List.set_cons_zero]
          refine wpAnyH_take (i := 11) (v := (.int .i64 (256 * (x7 : Int)))) rfl (by kernel_rfl) (by kernel_rfl) (by kernel_rfl) (fun _ _ _ h => h) (.inl ⟨rfl, fun _ hS => by simp [execOp, go_sem, Act.eval, hw7]⟩) S0 ?_
          simp only [List.getElem_toArray, List.getElem_cons_succ, List.getElem_cons_zero, Act.put, List.setIfInBounds_toArray, List.set_cons_succ, List.set_cons_zero]
          refine wpAnyH_take (i := 12) (v := (.int .i64 ((x6 : Int) + 256 * (x7 : Int)))) rfl (by kernel_rfl) (by kernel_rfl) (by kernel_rfl) (fun _ _ _ h => h) (.inl ⟨rfl, fun _ hS => by simp [execOp, go_sem, Act.eval, hw67]⟩) S0 ?_
          simp only [List.getElem_toArray, List.getElem_cons_succ, List.getElem_cons_zero, Act.put, List.setIfInBounds_toArray, List.set_cons_succ, List.set_cons_zero]
          refine wpAnyH_all (rs := [3]) (by kernel_rfl) (by simp) ?_
          intro k hk
          simp only [List.mem_cons, List.mem_nil_iff, or_false] at hk
          subst hk
          refine wpOp_runN rfl rfl (wp_callN 42 #[.int .i64 (k : Int), .int .i64 (m : Int), .slice av m cv] (by simp [execOp, go_sem, Act.eval, resolve, invoke, enterN_su]) ((hsm).mono ?_))
          rintro e w6 ⟨rfl, hb6⟩
          have S6 := (hb6.block q hqlt).trans S0
          refine ⟨S6, ?_⟩
          simp only [List.getElem_toArray, List.getElem_cons_succ, List.getElem_cons_zero, Act.put, List.setIfInBounds_toArray, List.set_cons_succ, List.set_cons_zero]
          refine wpAnyH_take (i := 4) (v := (.int .i64 (cr : Int))) rfl (by kernel_rfl) (by kernel_rfl) (by kernel_rfl) (fun _ _ _ h => h) (.inl ⟨rfl, fun _ hS => by simp [execOp, go_sem, Act.eval, hcvi]⟩) S6 ?_
          simp only [List.getElem_toArray, List.getElem_cons_succ, List.getElem_cons_zero, Act.put, List.setIfInBounds_toArray, List.set_cons_succ, List.set_cons_zero]
          refine wpAnyH_take (i := 13) (v := (.bool (cr != s))) rfl (by kernel_rfl) (by kernel_rfl) (by kernel_rfl) (fun _ _ _ h => h) (.inl ⟨rfl, fun _ hS => by simp [execOp, go_sem, Act.eval, hne13]⟩) S6 ?_
          simp only [List.getElem_toArray, List.getElem_cons_succ, List.getElem_cons_zero, Act.put, List.setIfInBounds_toArray, List.set_cons_succ, List.set_cons_zero]
          refine wpAnyH_done (by kernel_rfl) ?_ _
          have HV6 : Hid (Bytes w6 (.slice av m cv) bb) := by have := (HVB.out.below (bdr (Below.refl _ wr) 1)).below hb6; exact this
          have HB6 := hidOf (HBW.out.trans (hb6.mono HBW.out.size))
          clear hb6 S6 S0
          by_cases hsc : s = cr
          · have HR1 : Hid (R = (k, bb)) := by show R = _; rw [HRR.out, if_pos hsc]
            have hd9 : (cr != s) = false := by simp; exact hsc.symm
            simp only [hd9]
            go_wp2
            go_ret2
            exact ⟨_, by rw [HR1.out]; rfl, by rw [HR1.out]; exact HV6.out, HB6.out⟩
          · have HR1 : Hid (R = (0, [])) := by show R = _; rw [HRR.out, if_neg hsc]
            have hd9 : (cr != s) = true := by simp; exact fun e => hsc e.symm
            simp only [hd9]
            go_wp2
            go_ret2
            exact ⟨_, by rw [HR1.out]; rfl, by rw [HR1.out]; exact Bytes.nil _, HB6.out⟩
end
end Go.Proofs.Ythbcpmakhdogmaa
