/- Plain facts on numbers as bits. Contracts of Value and Number. Rows of cells that the call itself made: read, written, turned into a text. Contracts of the document's own Value and Number. Frames as values; the document's own Check, Bytes, flag and Longest. A frame that comes in by value, opened. Contracts of strings.Builder's WriteByte, WriteString and String, where the Builder is a part of a greater variable. Contracts of strings.Builder's WriteString and String, where the Builder is a part of a greater variable. Stuffed bits that are read one by one: plain facts, no program is named here. Contracts of a reader's next, skip and bit. -/
import Derived.Test.YtlghjfomliappaaTa1
import Derived.Lib.Builder
import Derived.Lib.UnsafeStr
import Derived.Laws.IdiomStrings
import Derived.Deep.OwnRows
import Derived.Lib.FrozenHead2
import Derived.Lib.OthersKept
import Derived.Shelf.RegionOpenPlain
import Derived.Deep.QuietTactic
import Derived.BigQuiet
import Derived.WalkSmall
namespace Go.Proofs.Bits

def valStep (n : Nat) (c : UInt8) : Nat := n * 2 + (c.toNat - 48)
def val (l : List UInt8) : Nat := l.foldl valStep 0
def valV (l : List UInt8) : Nat := if err l = 0 then (if 64 < l.length then 0 else val l) else 0
def valE (l : List UInt8) : Int := if err l = 0 then (if 64 < l.length then 2 else 0) else err l
theorem val_snoc (l : List UInt8) (c : UInt8) : val (l ++ [c]) = valStep (val l) c := by simp [val]
theorem val_lt (l : List UInt8) (h : l.all isBit = true) : val l < 2 ^ l.length := by
  induction l using snoc_ind with
  | h0 => simp [val]
  | h1 l c ih =>
    simp only [List.all_append, Bool.and_eq_true, List.all_cons, List.all_nil, Bool.and_true] at h
    have hc := isBit_cases h.2
    have := ih h.1
    rw [val_snoc, valStep, List.length_append, List.length_cons, List.length_nil, Nat.pow_succ]
    omega

def bitc (b : Nat) : UInt8 := if b = 0 then 48 else 49
theorem bitc_bit (b : Nat) : (bitc b).toNat = 48 ∨ (bitc b).toNat = 49 := by
  unfold bitc; split
  · left; rfl
  · right; rfl
theorem bitc_val (b : Nat) (h : b ≤ 1) : (bitc b).toNat = 48 + b := by
  have : b = 0 ∨ b = 1 := by omega
  rcases this with rfl | rfl <;> rfl
/-- The last w bits of n, the highest first. -/
def numL (n : Nat) : Nat → List UInt8
  | 0 => []
  | w + 1 => numL (n / 2) w ++ [bitc (n % 2)]
theorem numL_length (n w : Nat) : (numL n w).length = w := by
  induction w generalizing n with
  | zero => rfl
  | succ w ih => simp [numL, ih]
theorem numL_all (n w : Nat) : (numL n w).all isBit = true := by
  induction w generalizing n with
  | zero => rfl
  | succ w ih => rw [numL]; exact all_snoc _ _ (ih _) (isBit_of (bitc_bit _))
theorem numL_val (n w : Nat) : val (numL n w) = n % 2 ^ w := by
  induction w generalizing n with
  | zero => simp [numL, val, Nat.mod_one]
  | succ w ih =>
    rw [numL, val_snoc, ih, valStep, bitc_val _ (by omega), Nat.pow_succ]
    have h1 := Nat.mod_mul_left_div_self n 2 (2 ^ w)
    have h2 := Nat.mod_mod_of_dvd n (Nat.dvd_mul_left 2 (2 ^ w))
    omega
/-- One bit more from the front. -/
theorem numL_next (n w i : Nat) (h : i < w) : numL (n / 2 ^ (w - (i + 1))) (i + 1) = numL (n / 2 ^ (w - i)) i ++ [bitc (n / 2 ^ (w - 1 - i) % 2)] := by
  rw [numL, Nat.div_div_eq_div_mul, ← Nat.pow_succ, show (w - (i + 1)).succ = w - i by omega, show w - (i + 1) = w - 1 - i by omega]
def numE (n : Nat) (w : Int) : Int := if w < 0 ∨ 64 < w ∨ n / 2 ^ w.toNat ≠ 0 then 1 else 0
def numV (n : Nat) (w : Int) : List UInt8 := if w < 0 ∨ 64 < w ∨ n / 2 ^ w.toNat ≠ 0 then [] else numL n w.toNat
end Go.Proofs.Bits
namespace Go.Proofs.Ytlghjfomliappaa
open Go.RowKit Go.Proofs.Bits
set_option linter.unusedVariables false
set_option maxRecDepth 1000000

theorem wrap64_small (x : Nat) (h : x < 9223372036854775808) : IntKind.u64.wrap ((x : Int) * 2) = ((x * 2 : Nat) : Int) := by
  have e : ∀ n : Int, IntKind.u64.wrap n = n % 18446744073709551616 := fun n => by simp [IntKind.wrap, IntKind.bits, IntKind.signed]
  rw [e]; omega
theorem or_bit (x b : Nat) (hb : b ≤ 1) : x * 2 ||| b = x * 2 + b := by
  exact nat_join 1 (x * 2) b (by omega) (by omega)
theorem num_val (x : Nat) (c : UInt8) (hc : c.toNat = 48 ∨ c.toNat = 49) (h : x < 9223372036854775808) :
    bits BinOp.or IntKind.u64 (IntKind.u64.wrap ((x : Int) * 2)) ((c.toNat : Int) - 48) = ((valStep x c : Nat) : Int) := by
  rw [wrap64_small x h, show ((c.toNat : Int) - 48) = ((c.toNat - 48 : Nat) : Int) by omega, u64_or_nat _ _ (by omega) (by omega), or_bit _ _ (by omega)]
  rfl
theorem val_small (s : ByteArray) (pos : Nat) (hall : s.data.toList.all isBit = true) (hp : pos < s.size) (h64 : ¬ 64 < s.size) : val (s.data.toList.take pos) < 9223372036854775808 := by
  have h1 : (s.data.toList.take pos).all isBit = true := by
    rw [List.all_eq_true] at hall ⊢
    exact fun c hc => hall c (List.mem_of_mem_take hc)
  have h2 := val_lt _ h1
  have h3 : (s.data.toList.take pos).length = pos := by rw [List.length_take, size_len]; omega
  rw [h3] at h2
  exact Nat.lt_of_lt_of_le h2 (Nat.pow_le_pow_right (n := 2) (i := pos) (j := 63) (by omega) (by omega))

theorem num_bit (n j : Nat) (hu : n < 18446744073709551616) : wrap32 (48 + wrap32 (bits BinOp.and IntKind.u64 ((n : Int) / 2 ^ j) 1)) = ((bitc (n / 2 ^ j % 2)).toNat : Int) := by
  have e : ((n : Int) / 2 ^ j) = ((n / 2 ^ j : Nat) : Int) := by simp
  have hd : n / 2 ^ j < 18446744073709551616 := Nat.lt_of_le_of_lt (Nat.div_le_self _ _) hu
  rw [e, show (1 : Int) = ((1 : Nat) : Int) from rfl, u64_and_nat _ _ hd (by omega), nat_mask1, bitc_val _ (by omega)]
  simp only [wrap32]
  omega

set_option maxHeartbeats 400000 in
theorem Number_ok (n wd : Nat) (w : World) (hu : n < 18446744073709551616) (hw : wd ≤ 64) (hn : n / 2 ^ wd = 0) :
    Calls Try.prog 83 #[.int .u64 n, .int .i64 wd] w fun e w' => e = .returned (.tuple #[.string ⟨(numL n wd).toArray⟩, .int .i64 0]) ∧ Below w.heap.size w w' := by
  have hd1 : decide ((wd : Int) < 0) = false := by simp
  have hd2 : decide (64 < (wd : Int)) = false := by simp; omega
  have hd3 : ((n : Int) / 2 ^ wd != 0) = false := by
    have : ((n : Int) / 2 ^ wd) = ((n / 2 ^ wd : Nat) : Int) := by simp
    rw [this, hn]; rfl
  have HU : Hid (n < 18446744073709551616) := hu
  clear hn hu
  go_enter Try.func83, Try.ntmps83
  go_wp2_with fail
  go_loopw [21] (fun i wr => ∃ k : Nat, k ≤ wd ∧ i = .int .i64 k ∧ Lib.IsBuilderF 90 5 w.heap.size w.heap.size (Lib.byteCells (numL (n / 2 ^ (wd - k)) k)) wr ∧ Below w.heap.size w wr ∧ w.heap.size < wr.heap.size) (fun i _ => wd - (intOf i).toNat)
  case atStart => exact ⟨0, Nat.zero_le _, rfl, Lib.IsBuilderF.of (Lib.fresh_isBuilder 90 5 w), (Below.refl _ _).alloc (Nat.le_refl _) _, by simp⟩
  case round =>
    obtain ⟨k, hk, rfl, hI, hb, hlt⟩ := hrel
    by_cases hkw : k < wd
    · have HS : Hid (numL (n / 2 ^ (wd - (k + 1))) (k + 1) = numL (n / 2 ^ (wd - k)) k ++ [bitc (n / 2 ^ (wd - 1 - k) % 2)]) := numL_next n wd k hkw
      have hl := numL_length (n / 2 ^ (wd - k)) k
      generalize numL (n / 2 ^ (wd - k)) k = acc at hl hI HS
      have hbc := bitc_bit (n / 2 ^ (wd - 1 - k) % 2)
      go_wp2_with fail
      rw [num_bit n (wd - 1 - k) HU.out]
      refine (WriteRune_byte w.heap.size w.heap.size acc (bitc (n / 2 ^ (wd - 1 - k) % 2)) _ rfl (by omega) _ hI (by omega) (by omega)).mono ?_
      rintro e w2 ⟨rfl, hI2, b2, k2⟩
      have s2 := b2.size
      go_wp2
      go_roundw
      case rel => exact ⟨k + 1, by omega, by go_num, by rw [HS.out]; exact hI2, hb.trans b2, by omega⟩
      case measure => simp [intOf]; omega
    · obtain rfl : k = wd := by omega
      rw [Nat.sub_self, Nat.pow_zero, Nat.div_one] at hI
      go_wp2_with (go_at_call 40; refine (Try.Builder_String_any_k w.heap.size w.heap.size _ _ hI (by omega)).mono ?_)
      rintro e w2 ⟨rfl, _, b2, _⟩
      go_wp2
      go_ret2
      exact ⟨rfl, hb.trans b2⟩

set_option maxHeartbeats 400000 in
theorem Number_bad (n : Nat) (wd : Int) (w : World) (h : wd < 0 ∨ 64 < wd ∨ n / 2 ^ wd.toNat ≠ 0) :
    Calls Try.prog 83 #[.int .u64 n, .int .i64 wd] w fun e w' => e = .returned (.tuple #[.string ⟨#[]⟩, .int .i64 1]) ∧ Below w.heap.size w w' := by
  by_cases h1 : wd < 0
  · have hd1 : decide (wd < 0) = true := by simpa using h1
    clear h
    go_enter Try.func83, Try.ntmps83
    go_wp2
    go_ret2
    exact ⟨rfl, Below.refl _ _⟩
  · by_cases h2 : 64 < wd
    · have hd1 : decide (wd < 0) = false := by simpa using h1
      have hd2 : decide (64 < wd) = true := by simpa using h2
      clear h
      go_enter Try.func83, Try.ntmps83
      go_wp2
      go_ret2
      exact ⟨rfl, Below.refl _ _⟩
    · obtain ⟨k, rfl⟩ := Int.eq_ofNat_of_zero_le (Int.not_lt.1 h1)
      have hd1 : decide ((k : Int) < 0) = false := by simp
      have hd2 : decide (64 < (k : Int)) = false := by simpa using h2
      have hd3 : ((n : Int) / 2 ^ k != 0) = true := by
        have hne : n / 2 ^ k ≠ 0 := by
          rcases h with h | h | h
          · omega
          · omega
          · simpa using h
        have : ((n : Int) / 2 ^ k) = ((n / 2 ^ k : Nat) : Int) := by simp
        rw [this, bne_iff_ne]; omega
      clear h h1
      go_enter Try.func83, Try.ntmps83
      go_wp2
      go_ret2
      exact ⟨rfl, Below.refl _ _⟩

theorem Number_any (n : Nat) (wd : Int) (w : World) (hu : n < 18446744073709551616) :
    Calls Try.prog 83 #[.int .u64 n, .int .i64 wd] w fun e w' => e = .returned (.tuple #[.string ⟨(numV n wd).toArray⟩, .int .i64 (numE n wd)]) ∧ Below w.heap.size w w' := by
  by_cases h : wd < 0 ∨ 64 < wd ∨ n / 2 ^ wd.toNat ≠ 0
  · rw [numV, numE, if_pos h, if_pos h]
    exact Number_bad n wd w h
  · rw [numV, numE, if_neg h, if_neg h]
    obtain ⟨k, rfl⟩ := Int.eq_ofNat_of_zero_le (show 0 ≤ wd by omega)
    simp only [Int.toNat_natCast] at h ⊢
    exact Number_ok n k w hu (by omega) (by omega)
end Go.Proofs.Ytlghjfomliappaa
namespace Go.Proofs.Ytlghjfomliappaa
open Go.RowKit Go.Proofs.Bits
set_option linter.unusedVariables false
set_option maxRecDepth 1000000

/-- Block g begins with these cells, none of them frozen. -/
def Row (w : World) (g : Nat) (cs : List Value) : Prop :=
  ∃ cur T lo hi, w.heap[g]? = some (.cells cur T (lo, hi)) ∧ cs.length ≤ cur.size ∧ (cs.length ≤ lo ∨ hi = 0) ∧ cur.toList.take cs.length = cs
section
variable {w w' : World} {g : Nat} {cs : List Value}
theorem Row.lt (h : Row w g cs) : g < w.heap.size := by
  obtain ⟨cur, T, lo, hi, hh, _⟩ := h
  exact (Array.getElem?_eq_some_iff.1 hh).1
theorem Row.cell (h : Row w g cs) (k : Nat) (hk : k < cs.length) : w.cell? ⟨g, k, none⟩ = some cs[k] := by
  obtain ⟨cur, T, lo, hi, hh, hl, _, ht⟩ := h
  rw [Lib.cell_of_heap hh]
  have e : cs[k]? = cur.toList[k]? := by rw [← ht, List.getElem?_take, if_pos hk]
  rw [List.getElem?_eq_getElem hk] at e
  rw [e]; simp
theorem Row.free (h : Row w g cs) (k : Nat) (hk : k < cs.length) : w.frozen? ⟨g, k, none⟩ = false := by
  obtain ⟨cur, T, lo, hi, hh, hl, hf, ht⟩ := h
  simp [World.frozen?, hh]
  omega
theorem Row.set (h : Row w g cs) (k : Nat) (v : Value) : Row (w.setCell ⟨g, k, none⟩ v) g (cs.set k v) := by
  obtain ⟨cur, T, lo, hi, hh, hl, hf, ht⟩ := h
  refine ⟨cur.setIfInBounds k v, T, lo, hi, ?_, by simpa using hl, by simpa using hf, ?_⟩
  · simp [World.setCell, Array.getElem?_modify, hh]
  · rw [Array.toList_setIfInBounds, List.length_set, List.take_set, ht]
theorem Row.kept (h : Row w g cs) (hk : w'.heap[g]? = w.heap[g]?) : Row w' g cs := by
  obtain ⟨cur, T, lo, hi, hh, rest⟩ := h
  exact ⟨cur, T, lo, hi, hk.trans hh, rest⟩
theorem Row.below (h : Row w g cs) (hb : Below w.heap.size w w') : Row w' g cs := h.kept (hb.block g h.lt)
end
theorem Row.made (w : World) (z : Value) (n : Nat) (T : TypeId) : Row (w.alloc (.cells (madeCells #[z] n) T)) w.heap.size (List.replicate n z) := by
  refine ⟨madeCells #[z] n, T, 0, 0, ?_, by simp [size_madeCells], .inr rfl, ?_⟩
  · show (w.heap.push _)[w.heap.size]? = _
    simp
  · rw [List.length_replicate, List.take_of_length_le (by simp [size_madeCells])]
    apply List.ext_getElem
    · simp [size_madeCells]
    · intro i h1 h2
      simp [madeCells, Nat.mod_one]
theorem Row.ofText (w : World) (s : ByteArray) (cap : Nat) (T : TypeId) : Row (w.alloc (.cells (bytesRow s cap) T ((bytesRow s cap).size, (bytesRow s cap).size + 1))) w.heap.size (Lib.byteCells s.data.toList) := by
  refine ⟨bytesRow s cap, T, (bytesRow s cap).size, (bytesRow s cap).size + 1, ?_, by simp [bytesRow, Lib.byteCells], .inl (by simp [bytesRow, Lib.byteCells]), ?_⟩
  · show (w.heap.push _)[w.heap.size]? = _
    simp
  · simp [bytesRow, Lib.byteCells]
/-- Such a row of bytes as a text. -/
theorem Row.text {w : World} {g : Nat} {l : List UInt8} (h : Row w g (Lib.byteCells l)) (cap : Nat) : (convert 88 9 (.slice (some ⟨g, 0, none⟩) l.length cap)).run Try.prog w = .ok (.string ⟨l.toArray⟩) w := by
  refine run_convert_bytes_back (P := Try.prog) w 88 9 5 ⟨g, 0, none⟩ cap l Try.underlying88 Try.underlying5 Try.underlying9 ?_
  intro j hj
  have e : (⟨g, 0, none⟩ : Addr).add j = ⟨g, j, none⟩ := by
    unfold Addr.add
    split
    · rename_i h; subst h; rfl
    · simp
  rw [e, h.cell j (by rw [Lib.byteCells_length]; exact hj)]
  simp [Lib.byteCells]
end Go.Proofs.Ytlghjfomliappaa
namespace Go.Proofs.Ytlghjfomliappaa
open Go.RowKit Go.Proofs.Bits
set_option linter.unusedVariables false
set_option maxRecDepth 1000000

theorem numL_cons (n w : Nat) : numL n (w + 1) = bitc (n / 2 ^ w % 2) :: numL n w := by
  induction w generalizing n with
  | zero => simp [numL]
  | succ w ih =>
    rw [numL, ih (n / 2), numL, Nat.div_div_eq_div_mul, Nat.pow_succ, Nat.mul_comm 2 (2 ^ w)]
    rfl
/-- The cells behind j rounds: zeros, then the last j bits. -/
def numCells (n wd j : Nat) : List Value := List.replicate (wd - j) (.int .u8 0) ++ Lib.byteCells (numL n j)
theorem numCells_length (n wd j : Nat) (h : j ≤ wd) : (numCells n wd j).length = wd := by
  simp [numCells, Lib.byteCells_length, numL_length]; omega
theorem numCells_next (n wd j : Nat) (h : j < wd) : (numCells n wd j).set (wd - 1 - j) (.int .u8 (bitc (n / 2 ^ j % 2)).toNat) = numCells n wd (j + 1) := by
  unfold numCells
  rw [List.set_append_left _ _ (by simp; omega), numL_cons]
  have e : wd - j = (wd - (j + 1)) + 1 := by omega
  rw [e, List.replicate_succ', List.set_append_right _ _ (by simp; omega)]
  have e2 : wd - 1 - j - (List.replicate (wd - (j + 1)) (Value.int IntKind.u8 0)).length = 0 := by simp; omega
  rw [e2]
  simp [Lib.byteCells]

theorem num_byte (m : Nat) (hu : m < 18446744073709551616) : ((48 : Int) + bits BinOp.and IntKind.u64 (m : Int) 1) % 256 = ((bitc (m % 2)).toNat : Int) := by
  rw [show (1 : Int) = ((1 : Nat) : Int) from rfl, u64_and_nat _ _ hu (by omega), nat_mask1, bitc_val _ (by omega)]
  omega

set_option maxHeartbeats 400000 in
theorem rNumber_in (n wd : Nat) (w : World) (hu : n < 18446744073709551616) (hw : wd ≤ 64) :
    Calls Try.prog 92 #[.int .u64 n, .int .i64 wd] w fun e w' => e = .returned (.tuple #[.string ⟨(numV n wd).toArray⟩, .int .i64 (numE n wd)]) ∧ Below w.heap.size w w' := by
  have hd1 : decide ((wd : Int) < 0) = false := by simp
  have hd2 : decide (64 < (wd : Int)) = false := by simp; omega
  have HU : Hid (n < 18446744073709551616) := hu
  clear hu
  obtain ⟨i0, hi, hz0, hz1, hz2⟩ := info_parts info5
  go_enter Try.func92, Try.ntmps92
  go_wp2_with (at_make; refine wpList_make_row _ rfl _ _ 88 rfl 5 i0 (.int .u8 0) Try.underlying88 hi hz0 hz1 rfl .i64 .i64 wd rfl rfl (by rw [hz2]; omega) (by omega) ?_)
  go_loopw [0, 7] (fun m i wr => ∃ j : Nat, j ≤ wd ∧ i = .int .i64 ((wd : Int) - 1 - j) ∧ m = .int .u64 ((n / 2 ^ j : Nat) : Int) ∧ Row wr w.heap.size (numCells n wd j) ∧ Below w.heap.size w wr) (fun _ i _ => (intOf i + 1).toNat)
  case atStart => exact ⟨0, Nat.zero_le _, val_int (by omega), val_int (by simp), by simpa [numCells, numL, Lib.byteCells] using Row.made w (.int .u8 0) wd 5, (Below.refl _ _).alloc (Nat.le_refl _) _⟩
  case round =>
    obtain ⟨j, hj, rfl, rfl, hR, hb⟩ := hrel
    by_cases hjw : j < wd
    · have hl := numCells_length n wd j hj
      have hR2 := hR.set (wd - 1 - j) (.int .u8 (bitc (n / 2 ^ j % 2)).toNat)
      rw [numCells_next n wd j hjw] at hR2
      have hc := hR.cell (wd - 1 - j) (by omega)
      have hf := hR.free (wd - 1 - j) (by omega)
      have hui : n / 2 ^ j < 18446744073709551616 := Nat.lt_of_le_of_lt (Nat.div_le_self _ _) HU.out
      have HB : Hid (((48 : Int) + bits BinOp.and IntKind.u64 ((n / 2 ^ j : Nat) : Int) 1) % 256 = ((bitc (n / 2 ^ j % 2)).toNat : Int)) := num_byte _ hui
      have HM : Hid (n / 2 ^ (j + 1) = n / 2 ^ j / 2) := by show n / 2 ^ (j + 1) = n / 2 ^ j / 2; rw [Nat.div_div_eq_div_mul, Nat.pow_succ]
      have HUI : Hid (n / 2 ^ j < 18446744073709551616) := hui
      clear hui
      generalize n / 2 ^ j = m at *
      go_wp2
      go_roundw
      case rel => exact ⟨j + 1, by omega, val_int (by omega), val_int (by rw [HM.out]; omega), by rw [HB.out]; exact hR2, hb.setCell (p := ⟨w.heap.size, wd - 1 - j, none⟩) (Nat.le_refl _) _⟩
      case measure => simp [intOf]; omega
    · obtain rfl : j = wd := by omega
      have hR3 : Row wr w.heap.size (Lib.byteCells (numL n j)) := by simpa [numCells] using hR
      have ht := hR3.text j
      rw [numL_length] at ht
      have hcast : ((n : Int) / 2 ^ j) = ((n / 2 ^ j : Nat) : Int) := by simp
      by_cases hz : n / 2 ^ j = 0
      · have HZ : Hid (n / 2 ^ j = 0) := hz
        have hzb : ((n : Int) / 2 ^ j != 0) = false := by rw [hcast, hz]; rfl
        clear hz hcast
        go_wp2
        go_ret2
        refine ⟨?_, hb⟩
        rw [show numV n (j : Int) = numL n j by unfold numV; rw [if_neg (by simp only [Int.toNat_natCast, HZ.out]; omega)]; rfl, show numE n (j : Int) = 0 by unfold numE; rw [if_neg (by simp only [Int.toNat_natCast, HZ.out]; omega)]]
        rfl
      · have HZ : Hid (¬ n / 2 ^ j = 0) := hz
        have hzb : ((n : Int) / 2 ^ j != 0) = true := by rw [hcast, bne_iff_ne]; omega
        clear hz hcast
        go_wp2
        go_ret2
        refine ⟨?_, hb⟩
        rw [show numV n (j : Int) = [] by unfold numV; rw [if_pos (by simp only [Int.toNat_natCast]; exact .inr (.inr HZ.out))], show numE n (j : Int) = 1 by unfold numE; rw [if_pos (by simp only [Int.toNat_natCast]; exact .inr (.inr HZ.out))]]
        rfl

set_option maxHeartbeats 400000 in
theorem rNumber_out (n : Nat) (wd : Int) (w : World) (h : wd < 0 ∨ 64 < wd) :
    Calls Try.prog 92 #[.int .u64 n, .int .i64 wd] w fun e w' => e = .returned (.tuple #[.string ⟨#[]⟩, .int .i64 1]) ∧ Below w.heap.size w w' := by
  by_cases h1 : wd < 0
  · have hd1 : decide (wd < 0) = true := by simpa using h1
    clear h
    go_enter Try.func92, Try.ntmps92
    go_wp2
    go_ret2
    exact ⟨rfl, Below.refl _ _⟩
  · have h2 : 64 < wd := by omega
    have hd1 : decide (wd < 0) = false := by simpa using h1
    have hd2 : decide (64 < wd) = true := by simpa using h2
    clear h
    go_enter Try.func92, Try.ntmps92
    go_wp2
    go_ret2
    exact ⟨rfl, Below.refl _ _⟩

theorem rNumber_any (n : Nat) (wd : Int) (w : World) (hu : n < 18446744073709551616) :
    Calls Try.prog 92 #[.int .u64 n, .int .i64 wd] w fun e w' => e = .returned (.tuple #[.string ⟨(numV n wd).toArray⟩, .int .i64 (numE n wd)]) ∧ Below w.heap.size w w' := by
  by_cases h : wd < 0 ∨ 64 < wd
  · have h2 : wd < 0 ∨ 64 < wd ∨ n / 2 ^ wd.toNat ≠ 0 := by omega
    rw [numV, numE, if_pos h2, if_pos h2]
    exact rNumber_out n wd w h
  · obtain ⟨k, rfl⟩ := Int.eq_ofNat_of_zero_le (show 0 ≤ wd by omega)
    exact rNumber_in n k w hu (by omega)
end Go.Proofs.Ytlghjfomliappaa
namespace Go.Proofs.Ytlghjfomliappaa
open Go.RowKit Go.Proofs.Bits
set_option linter.unusedVariables false
set_option maxRecDepth 1000000

/-- A frame. -/
structure Fr where
  id : Nat
  ext : Bool
  rem : Bool
  len : Int
  data : List UInt8
  hid : id < 4294967296
  hlen : -9223372036854775808 ≤ len ∧ len < 9223372036854775808
  hdata : data.length = 8

def Fr.cells (f : Fr) : List Value := [.int .u32 f.id, .bool f.ext, .bool f.rem, .int .i64 f.len] ++ f.data.map fun c => .int .u8 c.toNat
def Fr.arr (f : Fr) : Array Value := f.cells.toArray
def Fr.val (f : Fr) : Value := .agg f.arr
def Fr.bad (f : Fr) : Bool := decide (f.len < 0) || decide (15 < f.len) || decide (536870912 ≤ f.id) || (!f.ext && decide (2048 ≤ f.id))
def Fr.chk (f : Fr) : Int := if f.bad then 1 else 0
def Fr.bytes (f : Fr) : Nat := if f.rem || decide (f.len < 0) then 0 else if 8 < f.len then 8 else f.len.toNat
theorem Fr.arr_size (f : Fr) : f.arr.size = 12 := by simp [Fr.arr, Fr.cells, f.hdata]
theorem Fr.arr0 (f : Fr) : f.arr[0]? = some (.int .u32 f.id) := rfl
theorem Fr.arr1 (f : Fr) : f.arr[1]? = some (.bool f.ext) := rfl
theorem Fr.arr2 (f : Fr) : f.arr[2]? = some (.bool f.rem) := rfl
theorem Fr.arr3 (f : Fr) : f.arr[3]? = some (.int .i64 f.len) := rfl
theorem Fr.arrD (f : Fr) (k : Nat) (h : k < 8) : f.arr[4 + k]? = some (.int .u8 (f.data[k]'(by rw [f.hdata]; exact h)).toNat) := by
  have : 4 + k = k + 1 + 1 + 1 + 1 := by omega
  simp [Fr.arr, Fr.cells, this]
  exact ⟨_, List.getElem?_eq_getElem (by rw [f.hdata]; exact h), rfl⟩
theorem Fr.bytes_le (f : Fr) : f.bytes ≤ 8 := by
  unfold Fr.bytes
  split
  · omega
  · split <;> omega

set_option maxRecDepth 1000000 in
theorem r2Check_any (f : Fr) (w : World) :
    Calls Try.prog 21 #[f.val] w fun e w' => e = .returned (.int .i64 f.chk) ∧ Below w.heap.size w w' := by
  have h0 := f.arr0
  have h1 := f.arr1
  have h3 := f.arr3
  have hid := f.hid
  have hlen := f.hlen
  have HB : Hid (f.chk = if (decide (f.len < 0) || decide (15 < f.len) || decide (536870912 ≤ f.id) || (!f.ext && decide (2048 ≤ f.id))) then 1 else 0) := rfl
  unfold Fr.val
  generalize f.arr = A at *
  generalize f.chk = chk at *
  generalize f.id = id at *
  generalize f.ext = ext at *
  generalize f.len = len at *
  clear f
  go_enter Try.func21, Try.ntmps21
  by_cases c1 : len < 0
  · have d1 : decide (len < 0) = true := by simpa using c1
    go_wp2
    go_ret
    exact ⟨ret_int (by rw [HB.out]; simp [c1]), (Below.refl _ _).alloc (Nat.le_refl _) _⟩
  · have d1 : decide (len < 0) = false := by simpa using c1
    by_cases c2 : 15 < len
    · have d2 : decide (15 < len) = true := by simpa using c2
      go_wp2
      go_ret
      exact ⟨ret_int (by rw [HB.out]; simp [c2]), (Below.refl _ _).alloc (Nat.le_refl _) _⟩
    · have d2 : decide (15 < len) = false := by simpa using c2
      by_cases c3 : 536870912 ≤ id
      · have d3 : decide ((536870912 : Int) ≤ (id : Int)) = true := by simp; omega
        go_wp2
        go_ret
        exact ⟨ret_int (by rw [HB.out]; simp [c3]), (Below.refl _ _).alloc (Nat.le_refl _) _⟩
      · have d3 : decide ((536870912 : Int) ≤ (id : Int)) = false := by simp; omega
        cases ext
        · by_cases c4 : 2048 ≤ id
          · have d4 : decide ((2048 : Int) ≤ (id : Int)) = true := by simp; omega
            go_wp2
            go_ret
            exact ⟨ret_int (by rw [HB.out]; simp [c4]), (Below.refl _ _).alloc (Nat.le_refl _) _⟩
          · have d4 : decide ((2048 : Int) ≤ (id : Int)) = false := by simp; omega
            go_wp2
            go_ret
            exact ⟨ret_int (by rw [HB.out]; simp [c1, c2, c3, c4]), (Below.refl _ _).alloc (Nat.le_refl _) _⟩
        · go_wp2
          go_ret
          exact ⟨ret_int (by rw [HB.out]; simp [c1, c2, c3]), (Below.refl _ _).alloc (Nat.le_refl _) _⟩

set_option maxRecDepth 1000000 in
theorem r2Bytes_any (f : Fr) (w : World) :
    Calls Try.prog 34 #[f.val] w fun e w' => e = .returned (.int .i64 f.bytes) ∧ Below w.heap.size w w' := by
  have h2 := f.arr2
  have h3 := f.arr3
  have hlen := f.hlen
  have HB : Hid (f.bytes = if f.rem || decide (f.len < 0) then 0 else if 8 < f.len then 8 else f.len.toNat) := rfl
  unfold Fr.val
  generalize f.arr = A at *
  generalize f.bytes = n at *
  generalize f.rem = rem at *
  generalize f.len = len at *
  clear f
  go_enter Try.func34, Try.ntmps34
  cases rem
  · by_cases c1 : len < 0
    · have d1 : decide (len < 0) = true := by simpa using c1
      go_wp2
      go_ret
      exact ⟨ret_int (by rw [HB.out]; simp [c1]), (Below.refl _ _).alloc (Nat.le_refl _) _⟩
    · have d1 : decide (len < 0) = false := by simpa using c1
      by_cases c2 : 8 < len
      · go_wp2
        go_ret
        exact ⟨ret_int (by rw [HB.out, if_neg (by simp; omega), if_pos (by omega)]; rfl), (Below.refl _ _).alloc (Nat.le_refl _) _⟩
      · go_wp2
        go_ret
        exact ⟨ret_int (by rw [HB.out, if_neg (by simp; omega), if_neg (by omega)]; omega), (Below.refl _ _).alloc (Nat.le_refl _) _⟩
  · go_wp2
    go_ret
    exact ⟨ret_int (by rw [HB.out]; simp), (Below.refl _ _).alloc (Nat.le_refl _) _⟩

def flagV (b : Bool) : List UInt8 := if b then [49] else [48]
theorem r2flag_any (b : Bool) (w : World) :
    Calls Try.prog 51 #[.bool b] w fun e w' => e = .returned (.string ⟨(flagV b).toArray⟩) ∧ Below w.heap.size w w' := by
  go_enter Try.func51, Try.ntmps51
  cases b
  · go_wp2
    go_ret
    exact ⟨rfl, Below.refl _ _⟩
  · go_wp2
    go_ret
    exact ⟨rfl, Below.refl _ _⟩

/-- A number in so many bits. -/
theorem r2num_any (n wd : Nat) (w : World) (hu : n < 18446744073709551616) (hw : wd ≤ 64) (hn : n < 2 ^ wd) :
    Calls Try.prog 78 #[.int .u64 n, .int .i64 wd] w fun e w' => e = .returned (.string ⟨(numL n wd).toArray⟩) ∧ Below w.heap.size w w' := by
  have hV : numV n (wd : Int) = numL n wd := by
    have : n / 2 ^ wd = 0 := Nat.div_eq_of_lt hn
    simp only [numV]
    rw [if_neg (by simp [this]; omega)]
    simp
  have h := rNumber_any n wd
  rw [hV] at h
  go_enter Try.func78, Try.ntmps78
  go_wp2_with fail
  refine (h _ hu).mono ?_
  rintro e w1 ⟨rfl, b1⟩
  go_wp2
  go_ret
  exact ⟨rfl, b1⟩
def longV (n : Int) (ext : Bool) : Int := if n < 0 ∨ 8 < n then 0 else if ext then 54 + 8 * n + (53 + 8 * n) / 4 + 10 else 34 + 8 * n + (33 + 8 * n) / 4 + 10
def longE (n : Int) : Int := if n < 0 ∨ 8 < n then 1 else 0
theorem tup2 {a b c d : Int} (h : a = c) (h2 : b = d) : Ending.returned (.tuple #[.int .i64 a, .int .i64 b]) = .returned (.tuple #[.int .i64 c, .int .i64 d]) := by rw [h, h2]
end Go.Proofs.Ytlghjfomliappaa
namespace Go.Proofs.Ytlghjfomliappaa
open Go.ChangeShapes Go.WideShapes Go.ChangeAt Go.RowKit Go.Proofs.Bits
set_option linter.unusedVariables false
set_option maxRecDepth 1000000

theorem cellsF12 : Try.prog.cellsOf 38 = 12 := by kernel_rfl
theorem cellsA8 : Try.prog.cellsOf 36 = 8 := by kernel_rfl
theorem cells1u32 : Try.prog.cellsOf 35 = 1 := by kernel_rfl
theorem cells1bool : Try.prog.cellsOf 4 = 1 := by kernel_rfl
theorem cells1int : Try.prog.cellsOf 3 = 1 := by kernel_rfl
theorem cells1u8 : Try.prog.cellsOf 5 = 1 := by kernel_rfl
theorem list12 {l : List Value} (h : l.length = 12) : ∃ c0 c1 c2 c3 c4 c5 c6 c7 c8 c9 c10 c11, l = [c0, c1, c2, c3, c4, c5, c6, c7, c8, c9, c10, c11] := by
  match l, h with
  | [c0, c1, c2, c3, c4, c5, c6, c7, c8, c9, c10, c11], _ => exact ⟨c0, c1, c2, c3, c4, c5, c6, c7, c8, c9, c10, c11, rfl⟩
theorem wf_u32_of {z : Int} (h : (Lit.int .u32 z).wf = true) : 0 ≤ z ∧ z < 4294967296 := by
  have hx : 0 ≤ z ∧ z ≤ 4294967295 := by simpa [Lit.wf, IntKind.min, IntKind.max, IntKind.signed, IntKind.bits] using h
  omega
theorem wf_i64_of {z : Int} (h : (Lit.int .i64 z).wf = true) : -9223372036854775808 ≤ z ∧ z < 9223372036854775808 := by
  have hx : -9223372036854775808 ≤ z ∧ z ≤ 9223372036854775807 := by simpa [Lit.wf, IntKind.min, IntKind.max, IntKind.signed, IntKind.bits] using h
  omega
theorem trod_u8 {H : Type} {enc : TypeId × Value → H} {W : World} {m : Nat} {c : Value} {y : Option (DataW H × List MemPlace)} {x : DataW H × List MemPlace} (hy : y = some x) (h : DataW.trod enc Try.prog W 0 (fun _ => true) true m 5 [c] = y) : ∃ b : UInt8, c = .int .u8 b.toNat := by
  rw [hy] at h
  obtain ⟨z, e, _, wz⟩ := DataW.trod_int Try.underlying5 h
  simp at e
  exact ⟨z.toNat.toUInt8, by rw [e, u8_of_int wz]⟩

theorem open_frame {H : Type} {enc : TypeId × Value → H} {W : World} {base : Nat} {v : Value} {d : DataW H} {ps : List MemPlace}
    (hval : Value.okWide Try.prog W .any base 38 v) (h : DataW.Trod enc Try.prog W 0 (fun _ => true) true 38 v d ps) : ∃ f : Fr, v = f.val := by
  obtain ⟨cs, rfl, hsz⟩ := okWide_struct Try.underlying38 hval
  obtain ⟨fuel, hf⟩ := h
  obtain ⟨l, rfl⟩ : ∃ l : List Value, cs = l.toArray := ⟨cs.toList, by simp⟩
  rw [cellsF12] at hsz
  obtain ⟨c0, c1, c2, c3, c4, c5, c6, c7, c8, c9, c10, c11, rfl⟩ := list12 (by simpa using hsz)
  obtain ⟨xs, n, _, _, _, hl, hfs⟩ := DataW.trod_struct Try.underlying38 hf
  have g0 := hfs 0 _ rfl
  have g1 := hfs 1 _ rfl
  have g2 := hfs 2 _ rfl
  have g3 := hfs 3 _ rfl
  have g4 := hfs 4 _ rfl
  simp [Value.cells, cells1u32, cells1bool, cells1int, cellsA8] at g0 g1 g2 g3 g4
  match xs, hl with
  | [y0, y1, y2, y3, y4], _ =>
    simp at g0 g1 g2 g3 g4
    obtain ⟨i, e0, _, wi⟩ := DataW.trod_int Try.underlying35 g0
    obtain ⟨x, e1, _⟩ := DataW.trod_bool Try.underlying4 g1
    obtain ⟨r, e2, _⟩ := DataW.trod_bool Try.underlying4 g2
    obtain ⟨k, e3, _, wk⟩ := DataW.trod_int Try.underlying3 g3
    simp at e0 e1 e2 e3
    subst e0 e1 e2 e3
    obtain ⟨ys, m, _, _, _, hl8, hfi⟩ := DataW.trod_array Try.underlying36 g4
    match ys, hl8 with
    | [z0, z1, z2, z3, z4, z5, z6, z7], _ =>
      have a0 := hfi 0 (by decide)
      have a1 := hfi 1 (by decide)
      have a2 := hfi 2 (by decide)
      have a3 := hfi 3 (by decide)
      have a4 := hfi 4 (by decide)
      have a5 := hfi 5 (by decide)
      have a6 := hfi 6 (by decide)
      have a7 := hfi 7 (by decide)
      simp [cells1u8] at a0 a1 a2 a3 a4 a5 a6 a7
      obtain ⟨b0, rfl⟩ := trod_u8 rfl a0
      obtain ⟨b1, rfl⟩ := trod_u8 rfl a1
      obtain ⟨b2, rfl⟩ := trod_u8 rfl a2
      obtain ⟨b3, rfl⟩ := trod_u8 rfl a3
      obtain ⟨b4, rfl⟩ := trod_u8 rfl a4
      obtain ⟨b5, rfl⟩ := trod_u8 rfl a5
      obtain ⟨b6, rfl⟩ := trod_u8 rfl a6
      obtain ⟨b7, rfl⟩ := trod_u8 rfl a7
      have hi := wf_u32_of wi
      refine ⟨⟨i.toNat, x, r, k, [b0, b1, b2, b3, b4, b5, b6, b7], by omega, wf_i64_of wk, rfl⟩, ?_⟩
      have ei : ((i.toNat : Nat) : Int) = i := by omega
      simp [Fr.val, Fr.arr, Fr.cells, ei]
end Go.Proofs.Ytlghjfomliappaa
namespace Go.Proofs.Ytlghjfomliappaa
open Go.RowKit Go.Proofs.Bits
set_option linter.unusedVariables false
set_option maxRecDepth 1000000

theorem binfo5 : (Try.prog.info? 5).map (fun i => (i.zero, i.size, i.bytes)) = some (some (.int .u8 0), 1, 1) := by kernel_rfl
theorem bsizeB : (Try.prog.info? 90).map (fun i => i.size) = some 2 := by kernel_rfl
theorem bcells5 : Try.prog.cellsOf 5 = 1 := by kernel_rfl

/-- A variable of type T in block g, its cells cs; from its cell 'off' on lies a Builder that holds the bytes l. -/
def Bld (T : TypeId) (off B g : Nat) (cs : Array Value) (l : List UInt8) (w : World) : Prop :=
  B ≤ g ∧ w.heap[g]? = some (.cells cs T (0, 0)) ∧ (cs[off]? = some (.pointer none) ∨ cs[off]? = some (.pointer (some ⟨g, off, none⟩))) ∧
    ∃ v, cs[off + 1]? = some v ∧ w.ownsRowF B 5 1 v l.length (Lib.byteCells l)
def put (cs : Array Value) (off g : Nat) (v : Value) : Array Value := (cs.setIfInBounds off (.pointer (some ⟨g, off, none⟩))).setIfInBounds (off + 1) v

section
variable {T : TypeId} {off B g : Nat} {cs : Array Value} {l : List UInt8} {w : World}

theorem Bld.lt (h : Bld T off B g cs l w) : g < w.heap.size := (Array.getElem?_eq_some_iff.1 h.2.1).1
theorem Bld.size (h : Bld T off B g cs l w) : off + 1 < cs.size := by
  obtain ⟨_, _, _, v, hv, _⟩ := h
  exact (Array.getElem?_eq_some_iff.1 hv).1

set_option maxHeartbeats 1000000 in
set_option maxRecDepth 100000 in
theorem bcopyCheck_used (h0 : w.cell? ⟨g, off, none⟩ = some (.pointer (some ⟨g, off, none⟩))) :
    Calls Try.prog 68 #[.pointer (some ⟨g, off, none⟩)] w fun e w' => e = .returned (.tuple #[]) ∧ w' = w := by
  obtain ⟨j, hj, _⟩ := Option.map_eq_some_iff.1 bsizeB
  go_enter Try.func68, Try.ntmps68
  go_wp2
  rw [Lib.run_neq_ptr_same w _ Try.underlying87 hj]
  go_wp2
  go_end0
  exact ⟨rfl, rfl⟩

set_option maxHeartbeats 1000000 in
set_option maxRecDepth 100000 in
theorem bcopyCheck_fresh {n : Nat} (h0 : w.cell? ⟨g, off, none⟩ = some (.pointer none)) (hsh : w.shape? g = some (T, n)) (hn : off < n) (hfz : w.frozen? ⟨g, off, none⟩ = false)
    (hlies : liesAt Try.prog Try.prog.depth T (n / Try.prog.cellsOf T) off 90 1 = true) :
    Calls Try.prog 68 #[.pointer (some ⟨g, off, none⟩)] w fun e w' => e = .returned (.tuple #[]) ∧ w' = w.setCell ⟨g, off, none⟩ (.pointer (some ⟨g, off, none⟩)) := by
  obtain ⟨j, hj, hjs⟩ := Option.map_eq_some_iff.1 bsizeB
  go_enter Try.func68, Try.ntmps68
  go_wp2
  rw [Lib.run_to_unsafe w ⟨g, off, none⟩ Try.underlying87 Try.underlying134 hj (by rw [hjs]; decide) hsh hn]
  simp only [Result.andThen]
  rw [Oper.upon_value]
  go_wp2
  rw [run_callFunc_extern Try.func85 (by kernel_rfl) (by kernel_rfl) (by kernel_rfl) (e := Extern.AbiNoEscape.same) (by kernel_rfl)]
  rw [Lib.run_noEscape]
  simp only [Result.andThen]
  rw [Oper.upon_value]
  go_wp2
  rw [Lib.run_from_unsafe w ⟨g, off, none⟩ Try.underlying134 Try.underlying87 hj hsh hlies]
  simp only [Result.andThen]
  rw [Oper.upon_value]
  go_wp2
  go_end0
  exact ⟨rfl, rfl⟩

theorem bcopyCheck_k (h : Bld T off B g cs l w) (hT : T ≠ 5) (hlies : liesAt Try.prog Try.prog.depth T (cs.size / Try.prog.cellsOf T) off 90 1 = true) :
    Calls Try.prog 68 #[.pointer (some ⟨g, off, none⟩)] w fun e w' => e = .returned (.tuple #[]) ∧ (Bld T off B g (cs.setIfInBounds off (.pointer (some ⟨g, off, none⟩))) l w' ∧ Below B w w' ∧ Lib.OthersKept 5 (some g) w w') := by
  have hs := h.size
  obtain ⟨hB, hg, hp, v, hv, hown⟩ := h
  have hne := Lib.ownBlock_neF hown hg hT
  rcases hp with hp | hp
  · refine (bcopyCheck_fresh (T := T) (n := cs.size) (by rw [Lib.cell_of_heap hg]; exact hp) (by simp [World.shape?, hg]) (by omega) (Lib.frozen_of_heap hg off) hlies).mono ?_
    rintro e w' ⟨rfl, rfl⟩
    refine ⟨rfl, ⟨hB, ?_, ?_, v, ?_, ?_⟩, (Below.refl B w).setCell (p := ⟨g, off, none⟩) hB _, (Lib.OthersKept.refl _ _ w).setCell ⟨g, off, none⟩ rfl _⟩
    · simp [World.setCell, Array.getElem?_modify, hg]
    · right
      rw [Array.getElem?_setIfInBounds_self_of_lt (by omega)]
    · rw [Array.getElem?_setIfInBounds_ne (by omega)]; exact hv
    · exact hown.kept (row := some g) ⟨rfl, rfl, rfl, by simp [World.setCell], fun k _ hk => Below.heap_setCell _ _ _ _ (fun e => hk (by simp [e]))⟩ (Or.inr hne)
  · refine (bcopyCheck_used (by rw [Lib.cell_of_heap hg]; exact hp)).mono ?_
    rintro e w' ⟨rfl, rfl⟩
    have he : cs.setIfInBounds off (.pointer (some ⟨g, off, none⟩)) = cs := by
      apply Array.ext_getElem?
      intro i
      by_cases hi : off = i
      · subst hi; rw [Array.getElem?_setIfInBounds_self_of_lt (by omega)]; exact hp.symm
      · rw [Array.getElem?_setIfInBounds_ne hi]
    rw [he]
    exact ⟨rfl, ⟨hB, hg, .inr hp, v, hv, hown⟩, Below.refl B _, Lib.OthersKept.refl _ _ _⟩

theorem Bld.put {v' : Value} {l' : List UInt8} (hB : B ≤ g) (hg : w.heap[g]? = some (.cells (cs.setIfInBounds off (.pointer (some ⟨g, off, none⟩))) T (0, 0))) (hs : off + 1 < cs.size) (hown : w.ownsRowF B 5 1 v' l'.length (Lib.byteCells l')) (hT : T ≠ 5) :
    Bld T off B g (put cs off g v') l' (w.setCell ⟨g, off + 1, none⟩ v') := by
  have hne := Lib.ownBlock_neF hown hg hT
  refine ⟨hB, ?_, .inr ?_, v', ?_, ?_⟩
  · simp [World.setCell, Array.getElem?_modify, hg, Go.Proofs.Ytlghjfomliappaa.put]
  · unfold Go.Proofs.Ytlghjfomliappaa.put
    rw [Array.getElem?_setIfInBounds_ne (by omega), Array.getElem?_setIfInBounds_self_of_lt (by omega)]
  · unfold Go.Proofs.Ytlghjfomliappaa.put
    rw [Array.getElem?_setIfInBounds_self_of_lt (by simp; omega)]
  · exact hown.kept (row := some g) ⟨rfl, rfl, rfl, by simp [World.setCell], fun k _ hk => Below.heap_setCell _ _ _ _ (fun e => hk (by simp [e]))⟩ (Or.inr hne)

set_option maxHeartbeats 2000000 in
set_option maxRecDepth 100000 in
theorem bWriteByte (c : UInt8) (h : Bld T off B g cs l w) (hT : T ≠ 5) (hlies : liesAt Try.prog Try.prog.depth T (cs.size / Try.prog.cellsOf T) off 90 1 = true) (hlen : l.length + 1 ≤ 140737488355328) :
    Calls Try.prog 69 #[.pointer (some ⟨g, off, none⟩), .int .u8 c.toNat] w fun e w' => e = .returned .nilIface ∧ (∃ v', Bld T off B g (put cs off g v') (l ++ [c]) w') ∧ Below B w w' ∧ Lib.OthersKept 5 (some g) w w' := by
  obtain ⟨i0, hi, hz0, hz1, hz2⟩ := info_parts binfo5
  have hBw : B ≤ w.heap.size := Nat.le_trans h.1 (Nat.le_of_lt h.lt)
  have hs := h.size
  go_enter Try.func69, Try.ntmps69
  go_wp2_with (go_at_call 68; refine (bcopyCheck_k h hT hlies).mono ?_)
  rintro e w1 ⟨rfl, h1, hb1, hk1⟩
  obtain ⟨hB, hbk, hp, v, hv, hown⟩ := h1
  have hne := Lib.ownBlock_neF hown hbk hT
  have c1 : w1.cell? ⟨g, off + 1, none⟩ = some v := by rw [Lib.cell_of_heap hbk]; exact hv
  have c1 : w1.cell? ⟨g, 1 + off, none⟩ = some v := by rw [Nat.add_comm]; exact c1
  go_wp2_with (at_builtin; refine wpList_append_ownF _ rfl _ _ 88 rfl B 5 i0 (.int .u8 0) 1 1 Try.underlying88 hi hz0 hz1 hz2 rfl (by decide) _ _ _ rfl (hown.alloc _) ⟨w1.heap.size, 0, none⟩ 1 1 [.int .u8 c.toNat] rfl rfl ?c1 ?c2 ?c3 ?c4 ?c5 ?_)
  case c1 =>
    intro j u hj
    match j, hj with
    | 0, hj => simp at hj; subst hj; simp [Addr.add]
  case c2 => intro u hu; simp at hu; subst hu; rfl
  case c3 => unfold maxLen; omega
  case c4 => omega
  case c5 => have := hb1.size; simp; omega
  intro v' w2 hown' hgrow _
  have hlt : g < w1.heap.size := (Array.getElem?_eq_some_iff.1 hbk).1
  have hb2 : w2.heap[g]? = some (.cells (cs.setIfInBounds off (.pointer (some ⟨g, off, none⟩))) T (0, 0)) := by
    rw [hgrow.block g (by simp; omega) (fun e => hne e.symm), Lib.alloc_old w1 _ g hlt]
    exact hbk
  have d1 : w2.cell? ⟨g, off + 1, none⟩ = some v := by rw [Lib.cell_of_heap hb2]; exact hv
  have f1 : w2.frozen? ⟨g, off + 1, none⟩ = false := Lib.frozen_of_heap hb2 (off + 1)
  obtain ⟨g', cap, rfl⟩ : ∃ g' cap, v' = .slice (some ⟨g', 0, none⟩) (l.length + 1) cap := by
    rcases hown'.2 with ⟨_, h0⟩ | ⟨g', cap, cur, fz, hv, _⟩
    · omega
    · exact ⟨g', cap, hv⟩
  go_wp2
  go_ret
  have hown2 : w2.ownsRowF B 5 1 (.slice (some ⟨g', 0, none⟩) (l.length + 1) cap) (l ++ [c]).length (Lib.byteCells (l ++ [c])) := by
    rw [Lib.byteCells_append]
    simpa [Lib.byteCells] using hown'
  exact ⟨rfl, ⟨_, Bld.put hB hb2 hs hown2 hT⟩, ((hb1.alloc (by have := hb1.size; omega) _).grown hgrow (by have := hb1.size; simp; omega) (fun k hk => (hown.lt k hk).1)).setCell (p := ⟨g, off + 1, none⟩) hB _, ((hk1.alloc _).grown hgrow (Lib.ownsRowF_kind (hown.alloc _))).setCell ⟨g, off + 1, none⟩ rfl _⟩
end
end Go.Proofs.Ytlghjfomliappaa
namespace Go.Proofs.Ytlghjfomliappaa
open Go.RowKit Go.Proofs.Bits
set_option linter.unusedVariables false
set_option maxRecDepth 1000000

section
variable {T : TypeId} {off B g : Nat} {cs : Array Value} {l : List UInt8} {w : World}

set_option maxHeartbeats 2000000 in
set_option maxRecDepth 100000 in
theorem bWriteString (s : List UInt8) (h : Bld T off B g cs l w) (hT : T ≠ 5) (hlies : liesAt Try.prog Try.prog.depth T (cs.size / Try.prog.cellsOf T) off 90 1 = true) (hlen : l.length + s.length ≤ 140737488355328) :
    Calls Try.prog 43 #[.pointer (some ⟨g, off, none⟩), .string ⟨s.toArray⟩] w fun e w' => e = .returned (.tuple #[.int .i64 s.length, .nilIface]) ∧ (∃ v', Bld T off B g (put cs off g v') (l ++ s) w') ∧ Below B w w' ∧ Lib.OthersKept 5 (some g) w w' := by
  obtain ⟨i0, hi, hz0, hz1, hz2⟩ := info_parts binfo5
  have hBw : B ≤ w.heap.size := Nat.le_trans h.1 (Nat.le_of_lt h.lt)
  have hs := h.size
  have hsz : (⟨s.toArray⟩ : ByteArray).size = s.length := by simp [ByteArray.size]
  have hcl : Lib.strCells ⟨s.toArray⟩ = Lib.byteCells s := rfl
  generalize hS : (⟨s.toArray⟩ : ByteArray) = S at *
  go_enter Try.func43, Try.ntmps43
  go_wp2_with (go_at_call 68; refine (bcopyCheck_k h hT hlies).mono ?_)
  rintro e w1 ⟨rfl, h1, hb1, hk1⟩
  obtain ⟨hB, hbk, hp, v, hv, hown⟩ := h1
  have hne := Lib.ownBlock_neF hown hbk hT
  have c1 : w1.cell? ⟨g, off + 1, none⟩ = some v := by rw [Lib.cell_of_heap hbk]; exact hv
  go_wp2_with (at_builtin; refine Lib.wpList_append_own_stringF _ rfl _ _ 88 9 rfl B 5 i0 Try.underlying88 Try.underlying9 hi hz0 hz1 hz2 _ _ _ rfl hown S rfl ?c3 ?c4 ?c5 ?_)
  case c3 => unfold maxLen; omega
  case c4 => omega
  case c5 => have := hb1.size; omega
  intro v' w2 hown' hgrow _
  have hlt : g < w1.heap.size := (Array.getElem?_eq_some_iff.1 hbk).1
  have hb2 : w2.heap[g]? = some (.cells (cs.setIfInBounds off (.pointer (some ⟨g, off, none⟩))) T (0, 0)) := by
    rw [hgrow.block g hlt (fun e => hne e.symm)]
    exact hbk
  have d1 : w2.cell? ⟨g, off + 1, none⟩ = some v := by rw [Lib.cell_of_heap hb2]; exact hv
  have f1 : w2.frozen? ⟨g, off + 1, none⟩ = false := Lib.frozen_of_heap hb2 (off + 1)
  obtain ⟨ao, n', cap, rfl⟩ : ∃ ao n' cap, v' = .slice ao n' cap := by
    rcases hown'.2 with ⟨hv, _⟩ | ⟨g, cap, cur, fz, hv, _⟩
    · exact ⟨_, _, _, hv⟩
    · exact ⟨_, _, _, hv⟩
  have hown2 : w2.ownsRowF B 5 1 (.slice ao n' cap) (l ++ s).length (Lib.byteCells (l ++ s)) := by
    rw [Lib.byteCells_append, List.length_append]
    exact hown'
  have H : Hid ((⟨s.toArray⟩ : ByteArray) = S) := hS
  clear hS hcl hown'
  go_wp2
  go_ret2
  exact ⟨rfl, ⟨_, Bld.put hB hb2 hs hown2 hT⟩, (hb1.grown hgrow (by have := hb1.size; omega) (fun k hk => (hown.lt k hk).1)).setCell (p := ⟨g, off + 1, none⟩) hB _, (hk1.grown hgrow (Lib.ownsRowF_kind hown)).setCell ⟨g, off + 1, none⟩ rfl _⟩

theorem owns_froze {g' cap : Nat} {xs : List Value} (hown : w.ownsRowF B 5 1 (.slice (some ⟨g', 0, none⟩) xs.length cap) xs.length xs) :
    (w.freeze ⟨g', 0, none⟩ xs.length).ownsRowF B 5 1 (.slice (some ⟨g', 0, none⟩) xs.length cap) xs.length xs := by
  unfold World.freeze
  split
  · exact hown
  · refine ⟨hown.1, ?_⟩
    rcases hown.2 with ⟨hv, _⟩ | ⟨g2, cap', cur, fz, hv, hbg, hg, hfz, rest⟩
    · cases hv
    · injection hv with ha _ hcap
      injection ha with ha
      injection ha with hgg _ _
      subst hgg
      subst hcap
      obtain ⟨lo, hi⟩ := fz
      refine .inr ⟨g', _, cur, (if lo == hi then (0, 0 + xs.length) else (min lo 0, max hi (0 + xs.length))), rfl, hbg, ?_, ?_, rest⟩
      · simp [Array.getElem?_modify, hg]
      · simp only at hfz
        split <;> simp <;> omega

theorem heap_freeze_other (g' n k : Nat) (h : k ≠ g') : (w.freeze ⟨g', 0, none⟩ n).heap[k]? = w.heap[k]? := by
  unfold World.freeze
  split
  · rfl
  · simp only [Array.getElem?_modify]
    rw [if_neg (fun e => h e.symm)]

set_option maxHeartbeats 2000000 in
set_option maxRecDepth 100000 in
theorem bString (h : Bld T off B g cs l w) (hT : T ≠ 5) (h0 : l ≠ []) :
    Calls Try.prog 40 #[.pointer (some ⟨g, off, none⟩)] w fun e w' => e = .returned (.string ⟨l.toArray⟩) ∧ Bld T off B g cs l w' ∧ Below B w w' ∧ Lib.OthersKept 5 (some g) w w' := by
  obtain ⟨hB, hbk, hp, v, hv, hown⟩ := h
  have hne := Lib.ownBlock_neF hown hbk hT
  have hl0 : l.length ≠ 0 := by simpa using h0
  have hown0 := hown
  obtain ⟨g', cap, cur, fz, rfl, hbg, hg, hfz, hnc, hcm, hcs, htake⟩ : ∃ g' cap cur fz, v = .slice (some ⟨g', 0, none⟩) l.length cap ∧ B ≤ g' ∧ w.heap[g']? = some (.cells cur 5 fz) ∧ fz.2 ≤ l.length * 1 ∧ l.length ≤ cap ∧ cap ≤ maxLen ∧ cur.size = cap * 1 ∧ cur.toList.take (l.length * 1) = Lib.byteCells l := by
    rcases hown.2 with ⟨_, hz⟩ | ⟨g', cap, cur, fz, hv, r⟩
    · exact absurd hz hl0
    · exact ⟨g', cap, cur, fz, hv, r⟩
  have c1 : w.drew.cell? ⟨g, off + 1, none⟩ = some (.slice (some ⟨g', 0, none⟩) l.length cap) := by
    have : w.drew.heap[g]? = some (.cells cs T (0, 0)) := hbk
    rw [Lib.cell_of_heap this]; exact hv
  have c0 : w.cell? ⟨g, off + 1, none⟩ = some (.slice (some ⟨g', 0, none⟩) l.length cap) := c1
  have hSD : (Builtin.unsafeSliceData_ #[88] 113 #[.slice (some ⟨g', 0, none⟩) l.length cap]).run Try.prog w.drew = .ok (.pointer (some ⟨g', 0, none⟩)) w.drew :=
    Lib.run_unsafeSliceData_row _ _ _ _ _ _ (by omega)
  have hUS : (Builtin.unsafeString_ #[113, 3] 9 #[.pointer (some ⟨g', 0, none⟩), .int .i64 l.length]).run Try.prog w.drew = .ok (.string ⟨l.toArray⟩) (w.drew.freeze ⟨g', 0, none⟩ l.length) := by
    refine Lib.run_unsafeString_row w.drew 113 3 9 5 Try.underlying113 bcells5 g' cur.size (by have hg' : w.drew.heap[g']? = some (.cells cur 5 fz) := hg; simp [World.shape?, hg']) l h0 (by omega) (by unfold maxLen at hcm; omega) ?_
    intro j x hx
    have := hown.cells (g := g') rfl j (.int .u8 x.toNat) (by simp [Lib.byteCells, hx])
    exact this
  have hkeep : Bld T off B g cs l (w.drew.freeze ⟨g', 0, none⟩ l.length) := by
    refine ⟨hB, ?_, hp, _, hv, ?_⟩
    · rw [heap_freeze_other g' _ g (fun e => hne (by simp [Value.ownBlock, e]))]
      exact hbk
    · have := owns_froze (w := w.drew) (B := B) (g' := g') (cap := cap) (xs := Lib.byteCells l) (by rw [Lib.byteCells_length]; exact hown0)
      rw [Lib.byteCells_length] at this
      exact this
  have K : Hid (Bld T off B g cs l (w.drew.freeze ⟨g', 0, none⟩ l.length) ∧ Below B w (w.drew.freeze ⟨g', 0, none⟩ l.length) ∧ Lib.OthersKept 5 (some g) w (w.drew.freeze ⟨g', 0, none⟩ l.length)) :=
    ⟨hkeep, Lib.below_freeze (Below.drew (Below.refl B w)) (p := ⟨g', 0, none⟩) hbg _, ((Lib.OthersKept.refl _ _ w).drew).freeze ⟨g', 0, none⟩ _ ⟨cur, fz, hg⟩⟩
  clear hkeep hown hown0 htake hfz hv hp hbk
  have mixed : Try.prog.follows Departure.mixedOrders = true := by kernel_rfl
  go_enter Try.func40, Try.ntmps40
  go_wp2
  go_region_o
  all_goals (go_wp2; go_ret; exact ⟨rfl, K.out⟩)
end
end Go.Proofs.Ytlghjfomliappaa
namespace Go.Proofs.Bits

/-- Where a reader stands: the next place, the level of the last bits and how many, what was read. -/
structure RS where
  pos : Nat
  lev : UInt8
  row : Nat
  seen : List UInt8

abbrev Flt := Nat × Int
abbrev RM (α : Type) := RS → Except Flt (α × RS)
def bindR {α β : Type} (m : RM α) (k : α → RM β) : RM β := fun s => match m s with
  | .error f => .error f
  | .ok (a, s') => k a s'
def retR {α : Type} (a : α) : RM α := fun s => .ok (a, s)

theorem bindR_ok {α β : Type} {m : RM α} {k : α → RM β} {s s' : RS} {a : α} (h : m s = .ok (a, s')) : bindR m k s = k a s' := by simp [bindR, h]
theorem bindR_error {α β : Type} {m : RM α} {k : α → RM β} {s : RS} {f : Flt} (h : m s = .error f) : bindR m k s = .error f := by simp [bindR, h]

def rowR (s : RS) (b : UInt8) : Nat := if b = s.lev then s.row + 1 else 1
/-- One bit of the body: behind five of one level a bit is left out. -/
def bitS (t : List UInt8) : RM UInt8 := fun s => match t[s.pos]? with
  | none => .error (s.pos, 3)
  | some b =>
    if rowR s b = 5 then match t[s.pos + 1]? with
      | none => .error (s.pos + 1, 3)
      | some c => if c = b then .error (s.pos + 1, 20) else .ok (b, ⟨s.pos + 2, c, 1, s.seen ++ [b]⟩)
    else .ok (b, ⟨s.pos + 1, b, rowR s b, s.seen ++ [b]⟩)
/-- So many bits of it. -/
def takeS (t : List UInt8) : Nat → RM (List UInt8)
  | 0 => retR []
  | n + 1 => bindR (takeS t n) fun bs => bindR (bitS t) fun b => retR (bs ++ [b])
theorem takeS_next {t : List UInt8} {n : Nat} {s s1 s2 : RS} {bs : List UInt8} {b : UInt8} (h : takeS t n s = .ok (bs, s1)) (hb : bitS t s1 = .ok (b, s2)) : takeS t (n + 1) s = .ok (bs ++ [b], s2) := by
  rw [takeS, bindR_ok h, bindR_ok hb]; rfl
theorem takeS_fault {t : List UInt8} {n : Nat} {s s1 : RS} {bs : List UInt8} {f : Flt} (h : takeS t n s = .ok (bs, s1)) (hb : bitS t s1 = .error f) : takeS t (n + 1) s = .error f := by
  rw [takeS, bindR_ok h, bindR_error hb]
theorem takeS_stays {t : List UInt8} {n : Nat} {s : RS} {f : Flt} (h : takeS t n s = .error f) (m : Nat) : takeS t (n + m) s = .error f := by
  induction m with
  | zero => exact h
  | succ m ih => rw [Nat.add_succ, takeS, bindR_error ih]

/-- What a reader's state keeps to. -/
def RS.ok (t : List UInt8) (s : RS) : Prop := s.pos ≤ t.length ∧ s.row ≤ 5 ∧ s.seen.length ≤ s.pos ∧ s.seen.all isBit = true

/-- What is fixed behind the body. -/
def fixS (t : List UInt8) (lv : UInt8) (er : Int) : RM Unit := fun s => match t[s.pos]? with
  | none => .error (s.pos, 3)
  | some b => if b = lv then .ok ((), { s with pos := s.pos + 1 }) else .error (s.pos, er)
def fixN (t : List UInt8) (lv : UInt8) (er : Int) : Nat → RM Unit
  | 0 => retR ()
  | n + 1 => bindR (fixN t lv er n) fun _ => fixS t lv er
theorem fixN_next {t : List UInt8} {lv : UInt8} {er : Int} {n : Nat} {s s1 s2 : RS} (h : fixN t lv er n s = .ok ((), s1)) (hb : fixS t lv er s1 = .ok ((), s2)) : fixN t lv er (n + 1) s = .ok ((), s2) := by
  rw [fixN, bindR_ok h]; exact hb
theorem fixN_fault {t : List UInt8} {lv : UInt8} {er : Int} {n : Nat} {s s1 : RS} {f : Flt} (h : fixN t lv er n s = .ok ((), s1)) (hb : fixS t lv er s1 = .error f) : fixN t lv er (n + 1) s = .error f := by
  rw [fixN, bindR_ok h]; exact hb
theorem fixN_stays {t : List UInt8} {lv : UInt8} {er : Int} {n : Nat} {s : RS} {f : Flt} (h : fixN t lv er n s = .error f) (m : Nat) : fixN t lv er (n + m) s = .error f := by
  induction m with
  | zero => exact h
  | succ m ih => rw [Nat.add_succ, fixN, bindR_error ih]
def endS (t : List UInt8) : RM Unit := bindR (fixS t 49 22) fun _ => bindR (fixS t 48 23) fun _ => fixN t 49 22 8

/-- The arbitration field and what is reserved behind it: the ID, whether extended, whether remote. -/
def fieldS (t : List UInt8) : RM (Nat × Bool × Bool) :=
  bindR (takeS t 11) fun a => bindR (bitS t) fun r => bindR (bitS t) fun x =>
    if x = 49 then bindR (takeS t 18) fun b => bindR (bitS t) fun r2 => bindR (bitS t) fun _ => bindR (bitS t) fun _ => retR (val a * 262144 + val b, true, decide (r2 = 49))
    else bindR (bitS t) fun _ => retR (val a, false, decide (r = 49))
def nOf (rem : Bool) (len : Nat) : Nat := if rem then 0 else min len 8
def bytesS (t : List UInt8) : Nat → RM (List UInt8)
  | 0 => retR []
  | n + 1 => bindR (bytesS t n) fun ds => bindR (takeS t 8) fun b => retR (ds ++ [(val b).toUInt8])
theorem bytesS_next {t : List UInt8} {n : Nat} {s s1 s2 : RS} {ds b : List UInt8} (h : bytesS t n s = .ok (ds, s1)) (hb : takeS t 8 s1 = .ok (b, s2)) : bytesS t (n + 1) s = .ok (ds ++ [(val b).toUInt8], s2) := by
  rw [bytesS, bindR_ok h, bindR_ok hb]; rfl
theorem bytesS_fault {t : List UInt8} {n : Nat} {s s1 : RS} {ds : List UInt8} {f : Flt} (h : bytesS t n s = .ok (ds, s1)) (hb : takeS t 8 s1 = .error f) : bytesS t (n + 1) s = .error f := by
  rw [bytesS, bindR_ok h, bindR_error hb]
theorem bytesS_stays {t : List UInt8} {n : Nat} {s : RS} {f : Flt} (h : bytesS t n s = .error f) (m : Nat) : bytesS t (n + m) s = .error f := by
  induction m with
  | zero => exact h
  | succ m ih => rw [Nat.add_succ, bytesS, bindR_error ih]
/-- What a frame's bits tell: its ID, whether extended, whether remote, Len, its bytes. -/
structure Told where
  id : Nat
  ext : Bool
  rem : Bool
  len : Nat
  ds : List UInt8
def sumS (t : List UInt8) (f : Told) : RM Told := fun s =>
  bindR (takeS t 15) (fun c s2 => if val c = crc s.seen then .ok (f, s2) else .error (s2.pos, 21)) s
def bodyS (t : List UInt8) : RM Told :=
  bindR (bitS t) fun b0 => if b0 = 49 then fun _ => .error (0, 22) else
    bindR (fieldS t) fun h => bindR (takeS t 4) fun l => bindR (bytesS t (nOf h.2.2 (val l))) fun ds =>
      sumS t ⟨h.1, h.2.1, h.2.2, val l, ds⟩
def start : RS := ⟨0, 0, 0, []⟩
def decS (t : List UInt8) : Except Flt (Told × RS) := bindR (bodyS t) (fun f => bindR (endS t) fun _ => retR f) start

section
variable {t : List UInt8} {s s' : RS}
theorem bitS_bit {b : UInt8} (h : bitS t s = .ok (b, s')) : b ∈ t := by
  unfold bitS at h
  split at h
  · cases h
  · rename_i c hc
    have hm : c ∈ t := List.mem_of_getElem? hc
    split at h
    · split at h
      · cases h
      · split at h
        · cases h
        · simp only [Except.ok.injEq, Prod.mk.injEq] at h; rw [← h.1]; exact hm
    · simp only [Except.ok.injEq, Prod.mk.injEq] at h; rw [← h.1]; exact hm
theorem takeS_mem (n : Nat) : ∀ {s s' : RS} {bs : List UInt8}, takeS t n s = .ok (bs, s') → bs.length = n ∧ ∀ b ∈ bs, b ∈ t := by
  induction n with
  | zero => intro s s' bs h; simp only [takeS, retR, Except.ok.injEq, Prod.mk.injEq] at h; rw [← h.1]; simp
  | succ n ih =>
    intro s s' bs h
    cases h1 : takeS t n s with
    | error f => rw [takeS, bindR_error h1] at h; cases h
    | ok p =>
      obtain ⟨b1, s1⟩ := p
      cases h2 : bitS t s1 with
      | error f => rw [takeS_fault h1 h2] at h; cases h
      | ok q =>
        obtain ⟨b, s2⟩ := q
        rw [takeS_next h1 h2] at h
        simp only [Except.ok.injEq, Prod.mk.injEq] at h
        obtain ⟨ih1, ih2⟩ := ih h1
        rw [← h.1]
        refine ⟨by simp [ih1], fun c hc => ?_⟩
        rcases List.mem_append.1 hc with hc | hc
        · exact ih2 c hc
        · rw [List.mem_singleton.1 hc]; exact bitS_bit h2
theorem takeS_lt {n : Nat} {bs : List UInt8} (hall : t.all isBit = true) (h : takeS t n s = .ok (bs, s')) : val bs < 2 ^ n := by
  obtain ⟨h1, h2⟩ := takeS_mem n h
  rw [← h1]
  refine val_lt bs ?_
  rw [List.all_eq_true] at hall ⊢
  exact fun b hb => hall b (h2 b hb)
end
end Go.Proofs.Bits
namespace Go.Proofs.Ytlghjfomliappaa
open Go.RowKit Go.Proofs.Bits
set_option linter.unusedVariables false
set_option maxRecDepth 1000000

/-- Whatever stood below g stands, and whatever stood above it but for rows of bytes. -/
def Kp (g : Nat) (w w' : World) : Prop := Below g w w' ∧ Lib.OthersKept 5 (some g) w w'
theorem Kp.refl (g : Nat) (w : World) : Kp g w w := ⟨Below.refl g w, Lib.OthersKept.refl _ _ w⟩
theorem Kp.trans {g : Nat} {a b c : World} (h : Kp g a b) (k : Kp g b c) : Kp g a c := ⟨h.1.trans k.1, h.2.trans k.2⟩
theorem Kp.setCell {g : Nat} {a w : World} (h : Kp g a w) {p : Addr} (hp : p.block = g) (v : Value) : Kp g a (w.setCell p v) := ⟨h.1.setCell (by omega) v, h.2.setCell p hp v⟩
theorem Kp.drewN {g : Nat} {a w : World} (h : Kp g a w) (n : Nat) : Kp g a (w.drewN n) := by
  induction n with
  | zero => exact h
  | succ n ih => exact ⟨ih.1.drew, ih.2.drew⟩
theorem Kp.alloc {g : Nat} {a w : World} (h : Kp g a w) (hg : g ≤ w.heap.size) (o : Obj) : Kp g a (w.alloc o) := ⟨h.1.alloc hg o, h.2.alloc o⟩
theorem Kp.setNew {g : Nat} {a w : World} (h : Kp g a w) {p : Addr} (hp : a.heap.size ≤ p.block) (hg : g ≤ p.block) (v : Value) : Kp g a (w.setCell p v) := by
  refine ⟨h.1.setCell hg v, fun k x hk hb hx => ?_⟩
  have hlt : k < a.heap.size := (Array.getElem?_eq_some_iff.1 hk).1
  rw [Below.heap_setCell _ _ _ _ (by omega)]
  exact h.2 k x hk hb hx

theorem Bld.set {T : TypeId} {off B g i : Nat} {cs : Array Value} {l : List UInt8} {w : World} (h : Bld T off B g cs l w) (hT : T ≠ 5) (h1 : i ≠ off) (h2 : i ≠ off + 1) (v : Value) :
    Bld T off B g (cs.setIfInBounds i v) l (w.setCell ⟨g, i, none⟩ v) := by
  obtain ⟨hB, hg, hp, u, hu, hown⟩ := h
  have hne := Lib.ownBlock_neF hown hg hT
  refine ⟨hB, ?_, ?_, u, ?_, ?_⟩
  · simp [World.setCell, Array.getElem?_modify, hg]
  · rw [Array.getElem?_setIfInBounds_ne h1]; exact hp
  · rw [Array.getElem?_setIfInBounds_ne h2]; exact hu
  · exact hown.kept (row := some g) ⟨rfl, rfl, rfl, by simp [World.setCell], fun k _ hk => Below.heap_setCell _ _ _ _ (fun e => hk (by simp [e]))⟩ (Or.inr hne)

section
variable {t : List UInt8} {s : RS} {g : Nat} {w : World}

/-- The bit at the next place. -/
def nextS (t : List UInt8) : RM UInt8 := fun s => match t[s.pos]? with
  | none => .error (s.pos, 3)
  | some b => .ok (b, { s with pos := s.pos + 1 })
def u8V (b : UInt8) : Value := .int .u8 b.toNat

theorem below_drewN {B : Nat} {a w : World} (h : Below B a w) (n : Nat) : Below B a (w.drewN n) := by
  induction n with
  | zero => exact h
  | succ n ih => exact ih.drew
/-- A bit that is left out. -/
def skipS (t : List UInt8) : RM Unit := fun s => match t[s.pos]? with
  | none => .error (s.pos, 3)
  | some b => if b = s.lev then .error (s.pos, 20) else .ok ((), ⟨s.pos + 1, b, 1, s.seen⟩)
def unitV (_ : Unit) : Value := .tuple #[]

theorem u8_ne {b c : UInt8} (h : b ≠ c) : ((b.toNat : Int) == (c.toNat : Int)) = false := by
  have : b.toNat ≠ c.toNat := fun e => h (UInt8.toNat_inj.1 e)
  simp; omega

/-- The part of bit ahead of what is left out. -/
theorem bitS_none (h : ¬ s.pos < t.length) : bitS t s = .error (s.pos, 3) := by simp [bitS, h]
theorem bitS_open {b : UInt8} (h : t[s.pos]? = some b) (hr : ¬ rowR s b = 5) : bitS t s = .ok (b, ⟨s.pos + 1, b, rowR s b, s.seen ++ [b]⟩) := by simp [bitS, h, hr]
theorem bitS_full {b : UInt8} (h : t[s.pos]? = some b) (hr : rowR s b = 5) : bitS t s = bindR (skipS t) (fun _ s' => .ok (b, { s' with seen := s'.seen ++ [b] })) ⟨s.pos + 1, b, 5, s.seen⟩ := by
  simp only [bitS, h, hr, if_true, bindR, skipS]
  cases t[s.pos + 1]? with
  | none => rfl
  | some c =>
    by_cases hcb : c = b
    · simp [hcb]
    · simp [hcb]

theorem bitS_row {b : UInt8} {s' : RS} (h : bitS t s = .ok (b, s')) (hrow : s.row ≤ 4) : s'.row ≤ 4 := by
  unfold bitS at h
  split at h
  · cases h
  · split at h
    · split at h
      · cases h
      · split at h
        · cases h
        · simp only [Except.ok.injEq, Prod.mk.injEq] at h; rw [← h.2]; simp
    · simp only [Except.ok.injEq, Prod.mk.injEq] at h; rw [← h.2]
      rename_i h5
      simp only [rowR] at h5 ⊢
      split at h5
      · rename_i e; rw [if_pos e]; omega
      · rename_i e; rw [if_neg e]; omega
theorem takeS_row (n : Nat) : ∀ {s s' : RS} {bs : List UInt8}, takeS t n s = .ok (bs, s') → s.row ≤ 4 → s'.row ≤ 4 := by
  induction n with
  | zero => intro s s' bs h hr; simp only [takeS, retR, Except.ok.injEq, Prod.mk.injEq] at h; rw [← h.2]; exact hr
  | succ n ih =>
    intro s s' bs h hr
    cases h1 : takeS t n s with
    | error f => rw [takeS, bindR_error h1] at h; cases h
    | ok p =>
      obtain ⟨b1, s1⟩ := p
      cases h2 : bitS t s1 with
      | error f => rw [takeS_fault h1 h2] at h; cases h
      | ok q =>
        obtain ⟨b, s2⟩ := q
        rw [takeS_next h1 h2] at h
        simp only [Except.ok.injEq, Prod.mk.injEq] at h
        rw [← h.2]; exact bitS_row h2 (ih h1 hr)
end
end Go.Proofs.Ytlghjfomliappaa
