/- append of bytes to bytes of the call's own. Contracts: Encode. Contracts: joined, fits. Plain facts on values that are read: no program is named here. Contracts: Decode. The small living call of every statement on values answers true. How arguments that came in are opened: values, slices of bytes. -/
import Derived.Test.YtahfnknbmikmkaaGreatKb1
import Derived.Test.YtahfnknbmikmkaaGreatKb2
import Derived.Laws.BitsAllLaws
import Derived.Test.YtahfnknbmikmkaaGreatRows
import Derived.ProofKit
import Derived.OpenShut
import Derived.ShutString
import Derived.ChangeOld
import Derived.SizedLaws
namespace Go.Proofs.YtahfnknbmikmkaaGreat
open Go.RowKit Go.Proofs.Ty
set_option linter.unusedVariables false
set_option maxRecDepth 1000000

theorem append_want {P : Program} {w : World} {ops : Array Oper} {rest : List Oper} {o : Oper} {a : Act} {Q : Exit → Act → World → Prop} (hgd : Region.wanted o (yielded ops a.tmps) = true) (s x : Operand) (t : TypeId)
    (ho : o.op = .call { callee := .builtin .append, args := #[s, x], argTypes := #[t, t] })
    (base : Nat) (e : TypeId) (i : TypeInfo) (z : Value) (size bytes : Nat) (ht : P.underlying t = some (.slice e)) (hi : P.info? e = some i) (hz : i.zero = some z)
    (hsize : i.size = size) (hby : i.bytes = bytes) (hzs : z.cells.size = size) (hsz : 0 < size)
    (v : Value) (n : Nat) (xs : List Value) (hs : a.eval s = v) (hown : w.ownsRow base e size v n xs)
    (ad : Addr) (m c : Nat) (news : List Value) (hx : a.eval x = .slice (some ad) m c) (hl : news.length = m * size) (hnews : ∀ j u, news[j]? = some u → w.cell? (ad.add j) = some u) (h1 : ∀ u ∈ news, u.oneCell' = true)
    (h63 : n + m ≤ maxLen) (hbytes : (n + m) * bytes ≤ 140737488355328) (hbase : base ≤ w.heap.size)
    (h : ∀ v' w', w'.ownsRow base e size v' (n + m) (xs ++ news) → w.grownBy w' v.ownBlock → wpList P ops Q rest (a.put o.dst v') w') : wpList P ops Q (o :: rest) a w :=
  BigFrame.wpList_want hgd fun _ hK => wp_append_own w s x t ho base e i z size bytes ht hi hz hsize hby hzs hsz v n xs hs hown ad m c news hx hl hnews h1 h63 hbytes hbase fun v' w' h2 h3 h4 => hK _ _ (h v' w' h2 h3)
theorem append_one {w : World} {ops : Array Oper} {rest : List Oper} {o : Oper} {a : Act} {Q : Exit → Act → World → Prop} (hgd : Region.wanted o (yielded ops a.tmps) = true) (s x : Operand)
    (ho : o.op = .call { callee := .builtin .append, args := #[s, x], argTypes := #[47, 47] })
    (base : Nat) (v : Value) (xs : List UInt8) (hs : a.eval s = v) (hown : w.ownsRow base 5 1 v xs.length (Lib.byteCells xs))
    (ad : Addr) (c : UInt8) (hx : a.eval x = .slice (some ad) 1 1) (hc : w.cell? ad = some (.int .u8 c.toNat)) (hbytes : xs.length + 1 ≤ 140737488355328) (hbase : base ≤ w.heap.size)
    (h : ∀ v' w', w'.ownsRow base 5 1 v' (xs ++ [c]).length (Lib.byteCells (xs ++ [c])) → w.grownBy w' v.ownBlock → wpList Tryz.prog ops Q rest (a.put o.dst v') w') : wpList Tryz.prog ops Q (o :: rest) a w := by
  obtain ⟨i0, hi, hz0, hz1, hz2⟩ := info_parts info5
  refine append_want hgd s x 47 ho base 5 i0 (.int .u8 0) 1 1 Tryz.underlying47 hi hz0 hz1 hz2 rfl (by decide) v xs.length (Lib.byteCells xs) hs hown ad 1 1 [.int .u8 c.toNat] hx rfl ?_ (by intro u hu; simp at hu; subst hu; rfl) (by unfold maxLen; omega) (by omega) hbase ?_
  · intro j u hj
    match j, hj with
    | 0, hj => simp at hj; subst hj; simpa [Addr.add] using hc
    | j + 1, hj => simp at hj
  · intro v' w' h1 h2
    refine h v' w' ?_ h2
    rw [Lib.byteCells_append]
    simpa [Lib.byteCells] using h1
theorem cell_new (w : World) (v : Value) (T : TypeId) : (w.alloc (.cells #[v] T)).cell? ⟨w.heap.size, 0, none⟩ = some v := by
  have hh : (w.alloc (.cells #[v] T)).heap[w.heap.size]? = some (.cells #[v] T (0, 0)) := by
    show (w.heap.push _)[w.heap.size]? = _
    simp
  rw [Lib.cell_of_heap hh]
  rfl
/-- What the call owns is such a slice. -/
theorem bytes_of_own {w : World} {B : Nat} {v : Value} {l : List UInt8} (h : w.ownsRow B 5 1 v l.length (Lib.byteCells l)) : Bytes w v l := by
  rcases h.2 with ⟨rfl, h0⟩ | ⟨g, cap, cur, rfl, hg, hcur, h1, h2, h3, h4⟩
  · obtain rfl := List.length_eq_zero_iff.1 h0
    exact ⟨none, 0, rfl, fun _ => ⟨rfl, rfl⟩, fun k hk => by simp at hk⟩
  · refine ⟨some ⟨g, 0, none⟩, cap, rfl, (fun h => by cases h), fun k hk => ⟨g, 0, rfl, (Array.getElem?_eq_some_iff.1 hcur).1, ?_⟩⟩
    rw [Lib.cell_of_heap hcur]
    have e : cur.toList[k]? = (Lib.byteCells l)[k]? := by
      rw [← h4, List.getElem?_take]; simp; omega
    simp [Lib.byteCells] at e
    simp [e, hk]
theorem byteCells_one (l : List UInt8) : ∀ u ∈ Lib.byteCells l, u.oneCell' = true := by
  intro u hu
  simp [Lib.byteCells] at hu
  obtain ⟨c, _, rfl⟩ := hu
  rfl
theorem grown_refl (w : World) (row : Option Nat) : w.grownBy w row := ⟨rfl, rfl, rfl, Nat.le_refl _, fun _ _ _ => rfl⟩
theorem ownsRow_alloc {w : World} {base : Nat} {e : TypeId} {size : Nat} {v : Value} {n : Nat} {xs : List Value} (h : w.ownsRow base e size v n xs) (o : Obj) : (w.alloc o).ownsRow base e size v n xs := by
  refine ⟨h.1, ?_⟩
  rcases h.2 with hn | ⟨g, cap, cur, hv, hb, hg, rest⟩
  · exact .inl hn
  · exact .inr ⟨g, cap, cur, hv, hb, (Below.heap_alloc _ _ _ (Array.getElem?_eq_some_iff.1 hg).1).trans hg, rest⟩
theorem own_lt {w : World} {base : Nat} {e : TypeId} {size : Nat} {v : Value} {n : Nat} {xs : List Value} (h : w.ownsRow base e size v n xs) : ∀ k, v.ownBlock = some k → base ≤ k := by
  intro k hk
  rcases h.2 with ⟨rfl, _⟩ | ⟨g, cap, cur, rfl, hb, _⟩
  · simp [Value.ownBlock] at hk
  · simp [Value.ownBlock] at hk; omega
theorem own_empty (w : World) : (w.alloc (.cells #[] 5)).ownsRow w.heap.size 5 1 (.slice (some ⟨w.heap.size, 0, none⟩) 0 0) 0 [] := by
  refine ⟨rfl, .inr ⟨w.heap.size, 0, #[], rfl, Nat.le_refl _, ?_, Nat.le_refl _, by decide, rfl, rfl⟩⟩
  show (w.heap.push _)[w.heap.size]? = _
  simp
end Go.Proofs.YtahfnknbmikmkaaGreat
namespace Go.Proofs.YtahfnknbmikmkaaGreat
open Go.RowKit Go.Proofs.Ty
set_option linter.unusedVariables false
set_option maxRecDepth 1000000
theorem byte_at (n k : Nat) : ((n : Int) / 2 ^ (k * 8) % 256) = ((UInt8.ofNat (n / 256 ^ k)).toNat : Int) := by
  have e : (2 : Int) ^ (k * 8) = ((256 ^ k : Nat) : Int) := by
    rw [Nat.mul_comm, Int.pow_mul]
    simp
  rw [e, ofNat_toNat]
  simp
theorem byteCells_set (l : List UInt8) (k : Nat) (c : UInt8) : (Lib.byteCells l).set k (.int .u8 c.toNat) = Lib.byteCells (l.set k c) := by
  simp [Lib.byteCells, List.map_set]
theorem rep_cells (z : Nat) : List.replicate z (Value.int .u8 0) = Lib.byteCells (lowL 0 0 ++ List.replicate (z - 0) 0) := by
  simp [Lib.byteCells, lowL]
end Go.Proofs.YtahfnknbmikmkaaGreat
namespace Go.Proofs.YtahfnknbmikmkaaGreat
open Go.RowKit Go.Proofs.Ty
set_option linter.unusedVariables false
set_option maxRecDepth 1000000

theorem val_int {k : IntKind} {a b : Int} (h : a = b) : Value.int k a = .int k b := by rw [h]
theorem two8 (k : Nat) : 2 ^ (k * 8) = 256 ^ k := by rw [Nat.mul_comm, Nat.pow_mul]
theorem two8i (k : Nat) : (2 : Int) ^ (k * 8) = ((256 ^ k : Nat) : Int) := by
  rw [← two8]
  simp
theorem wrapU (n : Int) : IntKind.u64.wrap n = n % 18446744073709551616 := by simp [IntKind.wrap, IntKind.bits, IntKind.signed]
/-- One byte more put into a number. -/
theorem join_step (l : List UInt8) (k : Nat) (hk : k < l.length) (h8 : l.length ≤ 8) :
    bits BinOp.or IntKind.u64 ((joinL (l.take k) : Nat) : Int) (IntKind.u64.wrap ((l[k].toNat : Int) * 2 ^ (k * 8))) = ((joinL (l.take (k + 1)) : Nat) : Int) := by
  have hc := l[k].toNat_lt
  have hlen : (l.take k).length = k := by rw [List.length_take]; omega
  have h1 := joinL_lt (l.take k)
  rw [hlen] at h1
  have hp : 256 ^ k ≤ 256 ^ 7 := Nat.pow_le_pow_right (by omega) (by omega)
  have hx : l[k].toNat * 256 ^ k < 18446744073709551616 := by
    have : l[k].toNat * 256 ^ k ≤ 255 * 256 ^ 7 := Nat.mul_le_mul (by omega) hp
    have e : 255 * 256 ^ 7 < 18446744073709551616 := by decide
    omega
  have e : ((l[k].toNat : Int) * 2 ^ (k * 8)) = ((l[k].toNat * 256 ^ k : Nat) : Int) := by rw [two8i]; simp
  have ew : IntKind.u64.wrap ((l[k].toNat * 256 ^ k : Nat) : Int) = ((l[k].toNat * 256 ^ k : Nat) : Int) := by
    rw [wrapU]
    omega
  have e7 : (256 : Nat) ^ 7 < 18446744073709551616 := by decide
  rw [e, ew, u64_or_nat _ _ (by omega) hx, Nat.or_comm, nat_join (k * 8) _ _ (by rw [two8]; exact Nat.mul_mod_left _ _) (by rw [two8]; exact h1), List.take_succ_eq_append_getElem hk, joinL_snoc, hlen, Nat.add_comm]

set_option maxHeartbeats 1000000 in
theorem joined_v (x : Value) (l : List UInt8) (w : World) (h8 : l.length ≤ 8) (hB : Bytes w x l) :
    Calls Tryz.prog 151 #[x] w fun e w' => e = .returned (.int .u64 (joinL l)) ∧ w' = w := by
  obtain ⟨ao, cap, rfl, h0, hc⟩ := hB
  have HS := hidOf (join_step l)
  go_enter Tryz.func151, Tryz.ntmps151
  go_wp2
  go_loop [3, 7] (fun n i => ∃ k : Nat, k ≤ l.length ∧ i = .int .i64 k ∧ n = .int .u64 (joinL (l.take k))) (fun _ i => l.length - (intOf i).toNat)
  case atStart => exact ⟨0, Nat.zero_le _, rfl, rfl⟩
  case round =>
    obtain ⟨k, hk, rfl, rfl⟩ := hrel
    by_cases hkl : k < l.length
    · obtain ⟨b, off, rfl, hlt, hcell⟩ := hc k hkl
      have H1 := hidOf (HS.out k hkl h8)
      have hcl := l[k].toNat_lt
      generalize hJ : joinL (l.take k) = J at *
      go_wp2
      go_round
      case rel => exact ⟨k + 1, by omega, by go_num, val_int (by first | exact H1.out | (rw [← H1.out]; simp))⟩
      case measure => simp [intOf]; omega
    · go_wp2
      go_ret
      obtain rfl : k = l.length := by omega
      exact ⟨ret_int (by rw [List.take_of_length_le (Nat.le_refl _)]), rfl⟩
/-- Whether a type may have so many bytes. -/
def fitE (t : Int) (n : Nat) : Nat := if kind t = 0 then 1 else if n < siz t then 3 else if (0 < siz t ∧ siz t < n) ∨ 65536 < n then 2 else 0
set_option maxHeartbeats 1000000 in
theorem fits_v (t : Int) (n : Nat) (w : World) :
    Calls Tryz.prog 150 #[.int .i64 t, .int .i64 n] w fun e w' => e = .returned (.int .i64 (fitE t n)) ∧ w' = w := by
  have hK := kindOf_any t
  have hS := Size_any t
  have HE : Hid (fitE t n = if kind t = 0 then 1 else if n < siz t then 3 else if (0 < siz t ∧ siz t < n) ∨ 65536 < n then 2 else 0) := rfl
  have HZ := hidOf (siz_zero t)
  generalize kind t = K at *
  generalize siz t = z at *
  generalize fitE t n = E at *
  go_enter Tryz.func150, Tryz.ntmps150
  by_cases h0 : K = 0
  · subst h0
    have e1 := hidOf (show E = 1 by rw [HE.out]; simp)
    go_wp2_with (first | (go_at_call 118; refine (hS _).mono ?_; rintro e w2 ⟨rfl, rfl⟩) | (go_at_call 80; refine (hK _).mono ?_; rintro e w2 ⟨rfl, rfl⟩))
    go_ret
    exact ⟨ret_int (by rw [e1.out]; rfl), rfl⟩
  · have dK : ((K : Int) == 0) = false := by simpa using h0
    by_cases hz : 0 < z
    · have dz : decide (0 < z) = true := by simpa using hz
      rw [dz] at hS
      by_cases h1 : n < z
      · have e1 := hidOf (show E = 3 by rw [HE.out]; simp [h0, h1])
        go_wp2_with (first | (go_at_call 118; refine (hS _).mono ?_; rintro e w2 ⟨rfl, rfl⟩) | (go_at_call 80; refine (hK _).mono ?_; rintro e w2 ⟨rfl, rfl⟩))
        go_ret
        exact ⟨ret_int (by rw [e1.out]; rfl), rfl⟩
      · by_cases h2 : z < n
        · have e1 := hidOf (show E = 2 by rw [HE.out]; simp [h0, h1, hz, h2])
          go_wp2_with (first | (go_at_call 118; refine (hS _).mono ?_; rintro e w2 ⟨rfl, rfl⟩) | (go_at_call 80; refine (hK _).mono ?_; rintro e w2 ⟨rfl, rfl⟩))
          go_ret
          exact ⟨ret_int (by rw [e1.out]; rfl), rfl⟩
        · by_cases h3 : 65536 < n
          · have e1 := hidOf (show E = 2 by rw [HE.out]; simp [h0, h1, h3])
            go_wp2_with (first | (go_at_call 118; refine (hS _).mono ?_; rintro e w2 ⟨rfl, rfl⟩) | (go_at_call 80; refine (hK _).mono ?_; rintro e w2 ⟨rfl, rfl⟩))
            go_ret
            exact ⟨ret_int (by rw [e1.out]; rfl), rfl⟩
          · have e1 := hidOf (show E = 0 by rw [HE.out]; simp [h0, h1, h2, h3])
            go_wp2_with (first | (go_at_call 118; refine (hS _).mono ?_; rintro e w2 ⟨rfl, rfl⟩) | (go_at_call 80; refine (hK _).mono ?_; rintro e w2 ⟨rfl, rfl⟩))
            go_ret
            exact ⟨ret_int (by rw [e1.out]; rfl), rfl⟩
    · have dz : decide (0 < z) = false := by simpa using hz
      rw [dz] at hS
      by_cases h3 : 65536 < n
      · have e1 := hidOf (show E = 2 by rw [HE.out]; simp [h0, h3]; omega)
        go_wp2_with (first | (go_at_call 118; refine (hS _).mono ?_; rintro e w2 ⟨rfl, rfl⟩) | (go_at_call 80; refine (hK _).mono ?_; rintro e w2 ⟨rfl, rfl⟩))
        go_ret
        exact ⟨ret_int (by rw [e1.out]; rfl), rfl⟩
      · have e1 := hidOf (show E = 0 by rw [HE.out]; simp [h0, h3, hz]; omega)
        go_wp2_with (first | (go_at_call 118; refine (hS _).mono ?_; rintro e w2 ⟨rfl, rfl⟩) | (go_at_call 80; refine (hK _).mono ?_; rintro e w2 ⟨rfl, rfl⟩))
        go_ret
        exact ⟨ret_int (by rw [e1.out]; rfl), rfl⟩
end Go.Proofs.YtahfnknbmikmkaaGreat
namespace Go.Proofs.YtahfnknbmikmkaaGreat
open Go.RowKit Go.Proofs.Ty
set_option linter.unusedVariables false
set_option maxRecDepth 1000000
/-- The number and the text of bytes. -/
def decN (t : Int) (l : List UInt8) : Nat := if kind t = 1 then joinL l else if kind t = 2 then extN (wid t) (joinL l) else 0
def decS (t : Int) (l : List UInt8) : ByteArray := if kind t = 1 ∨ kind t = 2 then ⟨#[]⟩ else ⟨l.toArray⟩
def decE (t : Int) (l : List UInt8) : Nat := if fitE t l.length ≠ 0 then fitE t l.length else if chk t (decN t l) (decS t l) ≠ 0 then 8 else 0
def mkV (t : Int) (n : Nat) (s : ByteArray) : Vl := if h : (-9223372036854775808 ≤ t ∧ t < 9223372036854775808) ∧ n < 18446744073709551616 ∧ s.size ≤ maxLen then ⟨t, n, s, h.1, h.2.1, h.2.2⟩ else Vl.nul
def decW (t : Int) (l : List UInt8) : Vl := if decE t l = 0 then mkV t (decN t l) (decS t l) else Vl.nul
theorem mkV_eq {t : Int} {n : Nat} {s : ByteArray} (h1 : -9223372036854775808 ≤ t ∧ t < 9223372036854775808) (h2 : n < 18446744073709551616) (h3 : s.size ≤ maxLen) : mkV t n s = ⟨t, n, s, h1, h2, h3⟩ := dif_pos ⟨h1, h2, h3⟩
theorem extN_lt (b n : Nat) (hb : b = 8 ∨ b = 16 ∨ b = 32 ∨ b = 64) : extN b n < 18446744073709551616 := by
  rcases hb with rfl | rfl | rfl | rfl <;> simp only [extN] <;> split <;> omega
theorem join8 {l : List UInt8} (h : l.length ≤ 8) : joinL l < 18446744073709551616 := by
  have h1 := joinL_lt l
  have h2 : 256 ^ l.length ≤ 256 ^ 8 := Nat.pow_le_pow_right (by omega) h
  have h3 : 256 ^ 8 = 18446744073709551616 := by decide
  omega
theorem fit_zero {t : Int} {n : Nat} (h : fitE t n = 0) : kind t ≠ 0 ∧ (0 < siz t → n = siz t) ∧ n ≤ 65536 := by
  unfold fitE at h
  (repeat' split at h) <;> omega
end Go.Proofs.YtahfnknbmikmkaaGreat
namespace Go.Proofs.YtahfnknbmikmkaaGreat
open Go.RowKit Go.Proofs.Ty
set_option linter.unusedVariables false
set_option maxRecDepth 1000000
theorem dec_results {Q : Nat} {v : Vl} {e : Int} {w : World} (h : Va Q v w) (tmps : Array Value) (h4 : tmps[4]?.getD undef = .pointer (some ⟨Q, 0, none⟩)) (h5 : tmps[5]?.getD undef = .int .i64 e) :
    (results Tryz.f134 tmps).run Tryz.prog w = .ok (.tuple #[.agg v.arr, .int .i64 e]) w := by
  have l0 := h.load
  simp [Go.results, Tryz.results134, h4, h5, asAddr, l0]
set_option maxHeartbeats 1000000 in
theorem Decode_v (t : Int) (ht : -9223372036854775808 ≤ t ∧ t < 9223372036854775808) (x : Value) (l : List UInt8) (w : World) (hB : Bytes w x l) :
    Calls Tryz.prog 134 #[.int .i64 t, x] w fun e w' => e = .returned (.tuple #[.agg (decW t l).arr, .int .i64 (decE t l)]) ∧ Below w.heap.size w w' := by
  have fA : Va w.heap.size Vl.nul (w.alloc (.cells #[.int .i64 0, .int .u64 0, .string ⟨#[]⟩] 52)) := Va.new w Vl.nul
  have bA : Below w.heap.size w (w.alloc (.cells #[.int .i64 0, .int .u64 0, .string ⟨#[]⟩] 52)) := (Below.refl _ _).alloc (Nat.le_refl _) _
  have sA := size_alloc w (.cells #[.int .i64 0, .int .u64 0, .string ⟨#[]⟩] 52)
  obtain ⟨W, hW⟩ : ∃ W, w.alloc (.cells #[.int .i64 0, .int .u64 0, .string ⟨#[]⟩] 52) = W := ⟨_, rfl⟩
  rw [hW] at fA bA sA
  have BW := hB.below bA
  have hF := fits_v t l.length
  have HE : Hid (decE t l = if fitE t l.length ≠ 0 then fitE t l.length else if chk t (decN t l) (decS t l) ≠ 0 then 8 else 0) := rfl
  have HW : Hid (decW t l = if decE t l = 0 then mkV t (decN t l) (decS t l) else Vl.nul) := rfl
  have HF := hidOf (@fit_zero t l.length)
  have hK := kindOf_any t
  have hN : decN t l = if kind t = 1 then joinL l else if kind t = 2 then extN (wid t) (joinL l) else 0 := rfl
  have hD : decS t l = if kind t = 1 ∨ kind t = 2 then ⟨#[]⟩ else ⟨l.toArray⟩ := rfl
  have HX := extend_any t
  have hz := siz_zero t
  have h8 := siz_le t
  have HL := hidOf (@extN_lt (wid t) (joinL l))
  have HW2 := hidOf (@kind_wid2 t)
  have hx : ∃ ao cap, x = .slice ao l.length cap := by obtain ⟨ao, cap, h, _⟩ := hB; exact ⟨ao, cap, h⟩
  obtain ⟨ao, cap, rfl⟩ := hx
  generalize hdE : decE t l = E at *
  generalize decW t l = V at *
  generalize fitE t l.length = F at *
  obtain ⟨q, hq⟩ : ∃ q, w.heap.size = q := ⟨_, rfl⟩
  rw [hq] at fA sA
  go_enter Tryz.func134, Tryz.ntmps134
  by_cases h0 : F = 0
  · subst h0
    have H0 := HF.out rfl
    have f1 := fA.alloc (.cells #[.int .i64 t, .int .u64 0, .string ⟨#[]⟩] 52)
    have g1 : Va W.heap.size (⟨t, 0, ⟨#[]⟩, ht, by decide, by decide⟩ : Vl) (W.alloc (.cells #[.int .i64 t, .int .u64 0, .string ⟨#[]⟩] 52)) := Va.new W _
    have b1 : Below W.heap.size W (W.alloc (.cells #[.int .i64 t, .int .u64 0, .string ⟨#[]⟩] 52)) := (Below.refl _ _).alloc (Nat.le_refl _) _
    have B1 := bA.trans (b1.mono (by omega))
    have BY := BW.below b1
    rw [sA] at g1
    go_wp2_with (go_at_call 150; refine (hF _).mono ?_; rintro e w2 ⟨rfl, rfl⟩)
    refine (hK _).mono ?_
    rintro e w5 ⟨rfl, hw5⟩
    rw [← hw5] at f1 g1 B1 BY
    clear hw5 b1
    have c1 := g1.c1
    have c2 := g1.c2
    have fr := g1.frozen
    have hTx := BY.text
    clear hF fA bA BW hK
    by_cases h1 : kind t = 1
    · have hl8 : l.length ≤ 8 := by
        have := H0.2.1 (by omega)
        omega
      have hJ := joined_v _ l w5 hl8 BY
      have hj := join8 hl8
      rw [h1]
      have fX := f1.other (p := ⟨q + 1, 1, none⟩) (by simp) (.int .u64 (joinL l))
      have gX : Va (q + 1) (⟨t, joinL l, ⟨#[]⟩, ht, hj, by decide⟩ : Vl) (w5.setCell ⟨q + 1, 1, none⟩ (.int .u64 (joinL l))) := g1.setN (joinL l) hj
      have BX := B1.setCell (p := ⟨q + 1, 1, none⟩) (by omega : w.heap.size ≤ q + 1) (.int .u64 (joinL l))
      have hC := Check_v (⟨t, joinL l, ⟨#[]⟩, ht, hj, by decide⟩ : Vl)
      have hu : (⟨t, joinL l, ⟨#[]⟩, ht, hj, by decide⟩ : Vl).chk = chk t (decN t l) (decS t l) := by rw [hN, hD]; simp [h1, Vl.chk]
      have hV : mkV t (decN t l) (decS t l) = (⟨t, joinL l, ⟨#[]⟩, ht, hj, by decide⟩ : Vl) := by rw [hN, hD]; simp only [h1]; exact mkV_eq _ _ _
      rw [hu] at hC
      rw [hV] at HW
      clear hu hV hN hD
      generalize hUU : (⟨t, joinL l, ⟨#[]⟩, ht, hj, by decide⟩ : Vl) = U at *
      clear hUU
      go_wp2_with (first | (go_at_call 151; refine hJ.mono ?_; rintro e w5 ⟨rfl, rfl⟩) | refine gX.ld rfl _ rfl rfl ?_)
      refine (hC _).mono ?_
      rintro e w3 ⟨rfl, b3⟩
      have f3 := fX.below b3
      have g3 := gX.below b3
      have B3 := BX.trans (b3.mono (by have := fX.lt; omega))
      have s3 := b3.size
      by_cases hc : chk t (decN t l) (decS t l) = 0
      · have e1 := hidOf (show E = 0 by rw [HE.out]; simp [hc])
        have e2 := hidOf (show V = U by rw [HW.out, if_pos e1.out])
        rw [hc]
        have D4 := f3.row U
        have B4 := below_row B3 (by omega : w.heap.size ≤ q) (by have := f3.lt; omega) U.arr
        clear HE HW
        go_wp2_with (first | refine g3.ld rfl _ rfl rfl ?_ | refine f3.sd U rfl _ _ rfl rfl rfl ?_)
        exact bodyPost_ret (dec_results D4 _ rfl rfl) rfl ⟨by rw [e1.out, e2.out]; rfl, B4⟩
      · have e1 := hidOf (show E = 8 by rw [HE.out]; simp [hc])
        have e2 := hidOf (show V = Vl.nul by rw [HW.out, if_neg (by rw [e1.out]; decide)])
        have d0 : ((chk t (decN t l) (decS t l) : Int) != 0) = true := by simpa using hc
        generalize chk t (decN t l) (decS t l) = C at *
        have D4 := f3.row Vl.nul
        have B4 := below_row B3 (by omega : w.heap.size ≤ q) (by have := f3.lt; omega) Vl.nul.arr
        clear HE HW
        go_wp2_with (first | refine f3.sd Vl.nul rfl _ _ rfl rfl rfl ?_)
        exact bodyPost_ret (dec_results D4 _ rfl rfl) rfl ⟨by rw [e1.out, e2.out]; rfl, B4⟩
    · by_cases h2 : kind t = 2
      · have hl8 : l.length ≤ 8 := by
          have := H0.2.1 (by omega)
          omega
        have hJ := joined_v _ l w5 hl8 BY
        have hj := join8 hl8
        have hEx := HX (joinL l) hj h2
        have he := HL.out (HW2.out h2)
        rw [h2]
        have fX := f1.other (p := ⟨q + 1, 1, none⟩) (by simp) (.int .u64 (extN (wid t) (joinL l)))
        have gX : Va (q + 1) (⟨t, extN (wid t) (joinL l), ⟨#[]⟩, ht, he, by decide⟩ : Vl) (w5.setCell ⟨q + 1, 1, none⟩ (.int .u64 (extN (wid t) (joinL l)))) := g1.setN (extN (wid t) (joinL l)) he
        have BX := B1.setCell (p := ⟨q + 1, 1, none⟩) (by omega : w.heap.size ≤ q + 1) (.int .u64 (extN (wid t) (joinL l)))
        have hC := Check_v (⟨t, extN (wid t) (joinL l), ⟨#[]⟩, ht, he, by decide⟩ : Vl)
        have hu : (⟨t, extN (wid t) (joinL l), ⟨#[]⟩, ht, he, by decide⟩ : Vl).chk = chk t (decN t l) (decS t l) := by rw [hN, hD]; simp [h2, Vl.chk]
        have hV : mkV t (decN t l) (decS t l) = (⟨t, extN (wid t) (joinL l), ⟨#[]⟩, ht, he, by decide⟩ : Vl) := by rw [hN, hD]; simp only [h2]; exact mkV_eq _ _ _
        rw [hu] at hC
        rw [hV] at HW
        clear hu hV hN hD
        generalize hUU : (⟨t, extN (wid t) (joinL l), ⟨#[]⟩, ht, he, by decide⟩ : Vl) = U at *
        clear hUU
        go_wp2_with (first | (go_at_call 151; refine hJ.mono ?_; rintro e w5 ⟨rfl, rfl⟩) | (go_at_call 82; refine (hEx _).mono ?_; rintro e w5 ⟨rfl, rfl⟩) | refine gX.ld rfl _ rfl rfl ?_)
        refine (hC _).mono ?_
        rintro e w3 ⟨rfl, b3⟩
        have f3 := fX.below b3
        have g3 := gX.below b3
        have B3 := BX.trans (b3.mono (by have := fX.lt; omega))
        have s3 := b3.size
        by_cases hc : chk t (decN t l) (decS t l) = 0
        · have e1 := hidOf (show E = 0 by rw [HE.out]; simp [hc])
          have e2 := hidOf (show V = U by rw [HW.out, if_pos e1.out])
          rw [hc]
          have D4 := f3.row U
          have B4 := below_row B3 (by omega : w.heap.size ≤ q) (by have := f3.lt; omega) U.arr
          clear HE HW
          go_wp2_with (first | refine g3.ld rfl _ rfl rfl ?_ | refine f3.sd U rfl _ _ rfl rfl rfl ?_)
          exact bodyPost_ret (dec_results D4 _ rfl rfl) rfl ⟨by rw [e1.out, e2.out]; rfl, B4⟩
        · have e1 := hidOf (show E = 8 by rw [HE.out]; simp [hc])
          have e2 := hidOf (show V = Vl.nul by rw [HW.out, if_neg (by rw [e1.out]; decide)])
          have d0 : ((chk t (decN t l) (decS t l) : Int) != 0) = true := by simpa using hc
          generalize chk t (decN t l) (decS t l) = C at *
          have D4 := f3.row Vl.nul
          have B4 := below_row B3 (by omega : w.heap.size ≤ q) (by have := f3.lt; omega) Vl.nul.arr
          clear HE HW
          go_wp2_with (first | refine f3.sd Vl.nul rfl _ _ rfl rfl rfl ?_)
          exact bodyPost_ret (dec_results D4 _ rfl rfl) rfl ⟨by rw [e1.out, e2.out]; rfl, B4⟩
      · have d1 : ((kind t : Int) == 1) = false := by simp; omega
        have d2 : ((kind t : Int) == 2) = false := by simp; omega
        have hs : (⟨l.toArray⟩ : ByteArray).size ≤ maxLen := by
          have := H0.2.2
          simp only [ByteArray.size, List.size_toArray, maxLen]
          omega
        have fX := f1.other (p := ⟨q + 1, 2, none⟩) (by simp) (.string ⟨l.toArray⟩)
        have gX : Va (q + 1) (⟨t, 0, ⟨l.toArray⟩, ht, by decide, hs⟩ : Vl) (w5.setCell ⟨q + 1, 2, none⟩ (.string ⟨l.toArray⟩)) := g1.setB ⟨l.toArray⟩ hs
        have BX := B1.setCell (p := ⟨q + 1, 2, none⟩) (by omega : w.heap.size ≤ q + 1) (.string ⟨l.toArray⟩)
        have hC := Check_v (⟨t, 0, ⟨l.toArray⟩, ht, by decide, hs⟩ : Vl)
        have hu : (⟨t, 0, ⟨l.toArray⟩, ht, by decide, hs⟩ : Vl).chk = chk t (decN t l) (decS t l) := by rw [hN, hD]; simp [h1, h2, Vl.chk]
        have hV : mkV t (decN t l) (decS t l) = (⟨t, 0, ⟨l.toArray⟩, ht, by decide, hs⟩ : Vl) := by rw [hN, hD]; simp only [h1, h2]; exact mkV_eq _ _ _
        rw [hu] at hC
        rw [hV] at HW
        clear hu hV hN hD
        generalize hUU : (⟨t, 0, ⟨l.toArray⟩, ht, by decide, hs⟩ : Vl) = U at *
        clear hUU
        go_wp2_with (refine gX.ld rfl _ rfl rfl ?_)
        refine (hC _).mono ?_
        rintro e w3 ⟨rfl, b3⟩
        have f3 := fX.below b3
        have g3 := gX.below b3
        have B3 := BX.trans (b3.mono (by have := fX.lt; omega))
        have s3 := b3.size
        by_cases hc : chk t (decN t l) (decS t l) = 0
        · have e1 := hidOf (show E = 0 by rw [HE.out]; simp [hc])
          have e2 := hidOf (show V = U by rw [HW.out, if_pos e1.out])
          rw [hc]
          have D4 := f3.row U
          have B4 := below_row B3 (by omega : w.heap.size ≤ q) (by have := f3.lt; omega) U.arr
          clear HE HW
          go_wp2_with (first | refine g3.ld rfl _ rfl rfl ?_ | refine f3.sd U rfl _ _ rfl rfl rfl ?_)
          exact bodyPost_ret (dec_results D4 _ rfl rfl) rfl ⟨by rw [e1.out, e2.out]; rfl, B4⟩
        · have e1 := hidOf (show E = 8 by rw [HE.out]; simp [hc])
          have e2 := hidOf (show V = Vl.nul by rw [HW.out, if_neg (by rw [e1.out]; decide)])
          have d0 : ((chk t (decN t l) (decS t l) : Int) != 0) = true := by simpa using hc
          generalize chk t (decN t l) (decS t l) = C at *
          have D4 := f3.row Vl.nul
          have B4 := below_row B3 (by omega : w.heap.size ≤ q) (by have := f3.lt; omega) Vl.nul.arr
          clear HE HW
          go_wp2_with (first | refine f3.sd Vl.nul rfl _ _ rfl rfl rfl ?_)
          exact bodyPost_ret (dec_results D4 _ rfl rfl) rfl ⟨by rw [e1.out, e2.out]; rfl, B4⟩
  · have d0 : ((F : Int) != 0) = true := by simpa using h0
    have e1 := hidOf (show E = F by rw [HE.out]; simp [h0])
    have e2 := hidOf (show V = Vl.nul by rw [HW.out, if_neg (by rw [e1.out]; exact h0)])
    have D4 := fA.row Vl.nul
    have B4 := below_row bA (by omega : w.heap.size ≤ q) (by omega) Vl.nul.arr
    clear HE HW
    go_wp2_with (first | (go_at_call 150; refine (hF _).mono ?_; rintro e w2 ⟨rfl, rfl⟩) | refine fA.sd Vl.nul rfl _ _ rfl rfl rfl ?_)
    exact bodyPost_ret (dec_results D4 _ rfl rfl) rfl ⟨by rw [e1.out, e2.out], B4⟩
end Go.Proofs.YtahfnknbmikmkaaGreat
namespace Go.Proofs.YtahfnknbmikmkaaGreat
open Go.RowKit Go.Proofs.Ty
set_option linter.unusedVariables false
set_option maxRecDepth 1000000
def v0 : Vl := ⟨3, 18446744073709551614, ⟨#[]⟩, by decide, by decide, by decide⟩
end Go.Proofs.YtahfnknbmikmkaaGreat
namespace Go.Proofs.YtahfnknbmikmkaaGreat
open Go.ChangeShapes Go.WideShapes Go.ChangeAt Go.RowKit Go.Proofs.Ty
set_option linter.unusedVariables false
set_option maxRecDepth 1000000

theorem own : ownKnob Tryz.prog.godebug = none := by kernel_rfl
theorem laidOut : laidOutB Tryz.prog = true := by kernel_rfl
theorem bytes5 : Tryz.prog.bytesOf 5 = 1 := by kernel_rfl
theorem u8_of_int {z : Int} (h : (Lit.int .u8 z).wf = true) : ((z.toNat.toUInt8).toNat : Int) = z := by
  have hx : 0 ≤ z ∧ z ≤ 255 := by simpa [Lit.wf, IntKind.min, IntKind.max, IntKind.signed, IntKind.bits] using h
  simp
  omega
theorem cells1str : Tryz.prog.cellsOf 9 = 1 := by kernel_rfl
theorem list3 {l : List Value} (h : l.length = 3) : ∃ c0 c1 c2, l = [c0, c1, c2] := by
  match l, h with
  | [c0, c1, c2], _ => exact ⟨c0, c1, c2, rfl⟩
set_option maxRecDepth 1000000 in
theorem open_bytes {H : Type} {enc : TypeId × Value → H} {W : World} {base : Nat} {v : Value} {d : DataW H} {ps : List MemPlace}
    (hval : Value.okWide Tryz.prog W .any base 47 v) (h : DataW.Trod enc Tryz.prog W 0 (fun _ => true) true 47 v d ps) (hlt : ∀ x ∈ ps, x.block < W.heap.size) :
    ∃ l : List UInt8, Bytes W v l ∧ ((d = .nil ∧ l = []) ∨ ∃ e s, d = .slice e s ∧ e.length = l.length) := by
  obtain ⟨a, len, cap, rfl⟩ := okWide_slice Tryz.underlying47 hval
  obtain ⟨fuel, hf⟩ := h
  rcases open_ints Tryz.underlying47 Tryz.underlying5 (by kernel_rfl) hf with ⟨hcs, hx⟩ | ⟨x, l, c, zs, hcs, _, hl, hm, hz, hx, hcell, hwz⟩
  · simp [Value.cells] at hcs
    obtain ⟨rfl, rfl, rfl⟩ := hcs
    simp only [Prod.mk.injEq] at hx
    exact ⟨[], ⟨none, 0, rfl, fun _ => ⟨rfl, rfl⟩, fun k hk => by simp at hk⟩, .inl ⟨hx.1, rfl⟩⟩
  · simp [Value.cells] at hcs
    obtain ⟨rfl, rfl, rfl⟩ := hcs
    simp only [Prod.mk.injEq] at hx
    have hz' : zs.length = cap := by simpa using hz
    have hlen : (zs.take len).length = len := by simp; omega
    refine ⟨(zs.take len).map (fun z => z.toNat.toUInt8), ⟨some x, cap, by rw [List.length_map, hlen], (fun h => by cases h), fun k hk => ?_⟩, .inr ⟨_, _, hx.1, by simp [lits]⟩⟩
    rw [List.length_map, hlen] at hk
    obtain ⟨b, off, rfl, hc⟩ := ints_at hcell (by omega)
    refine ⟨b, off, rfl, ?_, ?_⟩
    · have := hlt (.cell b (off + k)) (by rw [hx.2]; simp [MemPlace.row]; omega)
      exact this
    · rw [hc k (by omega)]
      have hk' : k < zs.length := by omega
      have hw := hwz zs[k] (List.getElem_mem hk')
      simp only [List.getElem_map, List.getElem_take]
      rw [u8_of_int hw]
      simp [hk']
theorem size_bytes {H : Type} {ts : List TypeId} {ds : List (DataW H)} {j : Nat} {d : DataW H} {l : List UInt8} (h : (DataW.weightsEach Tryz.prog ts ds).all (· ≤ reachBytes) = true) (ht : ts[j]? = some 47) (hd : ds[j]? = some d) (e : (d = .nil ∧ l = []) ∨ ∃ e s, d = .slice e s ∧ e.length = l.length) : l.length ≤ 140737488351232 := by
  rcases e with ⟨_, rfl⟩ | ⟨e, s, rfl, he⟩
  · simp
  · have hs := sized_slice h ht hd Tryz.underlying47
    rw [bytes5] at hs
    have : reachBytes = 140737488351232 := by decide
    omega
end Go.Proofs.YtahfnknbmikmkaaGreat
