/- Frames as values; the document's own Check, Bytes, flag and Longest. -/
import Derived.Test.YtfddoindcmdooaaOpen
import Derived.Test.YtfddoindcmdooaaRNum
namespace Go.Proofs.Ytfddoindcmdooaa
open Go.RowKit Go.Proofs.Bits
set_option linter.unusedVariables false
set_option maxRecDepth 1000000

/-- A frame. -/
structure Fr where
  id : Nat
  ext : Bool
  rem : Bool
  len : Int
  data : List UInt8
  hid : id < 4294967296
  hlen : -9223372036854775808 ≤ len ∧ len < 9223372036854775808
  hdata : data.length = 8

def Fr.cells (f : Fr) : List Value := [.int .u32 f.id, .bool f.ext, .bool f.rem, .int .i64 f.len] ++ f.data.map fun c => .int .u8 c.toNat
def Fr.arr (f : Fr) : Array Value := f.cells.toArray
def Fr.val (f : Fr) : Value := .agg f.arr
def Fr.bad (f : Fr) : Bool := decide (f.len < 0) || decide (15 < f.len) || decide (536870912 ≤ f.id) || (!f.ext && decide (2048 ≤ f.id))
def Fr.chk (f : Fr) : Int := if f.bad then 1 else 0
def Fr.bytes (f : Fr) : Nat := if f.rem || decide (f.len < 0) then 0 else if 8 < f.len then 8 else f.len.toNat
theorem Fr.arr_size (f : Fr) : f.arr.size = 12 := by simp [Fr.arr, Fr.cells, f.hdata]
theorem Fr.arr0 (f : Fr) : f.arr[0]? = some (.int .u32 f.id) := rfl
theorem Fr.arr1 (f : Fr) : f.arr[1]? = some (.bool f.ext) := rfl
theorem Fr.arr2 (f : Fr) : f.arr[2]? = some (.bool f.rem) := rfl
theorem Fr.arr3 (f : Fr) : f.arr[3]? = some (.int .i64 f.len) := rfl
theorem Fr.arrD (f : Fr) (k : Nat) (h : k < 8) : f.arr[4 + k]? = some (.int .u8 (f.data[k]'(by rw [f.hdata]; exact h)).toNat) := by
  have : 4 + k = k + 1 + 1 + 1 + 1 := by omega
  simp [Fr.arr, Fr.cells, this]
  exact ⟨_, List.getElem?_eq_getElem (by rw [f.hdata]; exact h), rfl⟩
theorem Fr.bytes_le (f : Fr) : f.bytes ≤ 8 := by
  unfold Fr.bytes
  split
  · omega
  · split <;> omega

set_option maxRecDepth 1000000 in
theorem r2Check_any (f : Fr) (w : World) :
    Calls Try.prog 45 #[f.val] w fun e w' => e = .returned (.int .i64 f.chk) ∧ Below w.heap.size w w' := by
  have h0 := f.arr0
  have h1 := f.arr1
  have h3 := f.arr3
  have hid := f.hid
  have hlen := f.hlen
  have HB : Hid (f.chk = if (decide (f.len < 0) || decide (15 < f.len) || decide (536870912 ≤ f.id) || (!f.ext && decide (2048 ≤ f.id))) then 1 else 0) := rfl
  unfold Fr.val
  generalize f.arr = A at *
  generalize f.chk = chk at *
  generalize f.id = id at *
  generalize f.ext = ext at *
  generalize f.len = len at *
  clear f
  go_enter Try.func45, Try.ntmps45
  by_cases c1 : len < 0
  · have d1 : decide (len < 0) = true := by simpa using c1
    go_wp2
    go_ret
    exact ⟨ret_int (by rw [HB.out]; simp [c1]), (Below.refl _ _).alloc (Nat.le_refl _) _⟩
  · have d1 : decide (len < 0) = false := by simpa using c1
    by_cases c2 : 15 < len
    · have d2 : decide (15 < len) = true := by simpa using c2
      go_wp2
      go_ret
      exact ⟨ret_int (by rw [HB.out]; simp [c2]), (Below.refl _ _).alloc (Nat.le_refl _) _⟩
    · have d2 : decide (15 < len) = false := by simpa using c2
      by_cases c3 : 536870912 ≤ id
      · have d3 : decide ((536870912 : Int) ≤ (id : Int)) = true := by simp; omega
        go_wp2
        go_ret
        exact ⟨ret_int (by rw [HB.out]; simp [c3]), (Below.refl _ _).alloc (Nat.le_refl _) _⟩
      · have d3 : decide ((536870912 : Int) ≤ (id : Int)) = false := by simp; omega
        cases ext
        · by_cases c4 : 2048 ≤ id
          · have d4 : decide ((2048 : Int) ≤ (id : Int)) = true := by simp; omega
            go_wp2
            go_ret
            exact ⟨ret_int (by rw [HB.out]; simp [c4]), (Below.refl _ _).alloc (Nat.le_refl _) _⟩
          · have d4 : decide ((2048 : Int) ≤ (id : Int)) = false := by simp; omega
            go_wp2
            go_ret
            exact ⟨ret_int (by rw [HB.out]; simp [c1, c2, c3, c4]), (Below.refl _ _).alloc (Nat.le_refl _) _⟩
        · go_wp2
          go_ret
          exact ⟨ret_int (by rw [HB.out]; simp [c1, c2, c3]), (Below.refl _ _).alloc (Nat.le_refl _) _⟩

set_option maxRecDepth 1000000 in
theorem r2Bytes_any (f : Fr) (w : World) :
    Calls Try.prog 35 #[f.val] w fun e w' => e = .returned (.int .i64 f.bytes) ∧ Below w.heap.size w w' := by
  have h2 := f.arr2
  have h3 := f.arr3
  have hlen := f.hlen
  have HB : Hid (f.bytes = if f.rem || decide (f.len < 0) then 0 else if 8 < f.len then 8 else f.len.toNat) := rfl
  unfold Fr.val
  generalize f.arr = A at *
  generalize f.bytes = n at *
  generalize f.rem = rem at *
  generalize f.len = len at *
  clear f
  go_enter Try.func35, Try.ntmps35
  cases rem
  · by_cases c1 : len < 0
    · have d1 : decide (len < 0) = true := by simpa using c1
      go_wp2
      go_ret
      exact ⟨ret_int (by rw [HB.out]; simp [c1]), (Below.refl _ _).alloc (Nat.le_refl _) _⟩
    · have d1 : decide (len < 0) = false := by simpa using c1
      by_cases c2 : 8 < len
      · go_wp2
        go_ret
        exact ⟨ret_int (by rw [HB.out, if_neg (by simp; omega), if_pos (by omega)]; rfl), (Below.refl _ _).alloc (Nat.le_refl _) _⟩
      · go_wp2
        go_ret
        exact ⟨ret_int (by rw [HB.out, if_neg (by simp; omega), if_neg (by omega)]; omega), (Below.refl _ _).alloc (Nat.le_refl _) _⟩
  · go_wp2
    go_ret
    exact ⟨ret_int (by rw [HB.out]; simp), (Below.refl _ _).alloc (Nat.le_refl _) _⟩

def flagV (b : Bool) : List UInt8 := if b then [49] else [48]
theorem r2flag_any (b : Bool) (w : World) :
    Calls Try.prog 57 #[.bool b] w fun e w' => e = .returned (.string ⟨(flagV b).toArray⟩) ∧ Below w.heap.size w w' := by
  go_enter Try.func57, Try.ntmps57
  cases b
  · go_wp2
    go_ret
    exact ⟨rfl, Below.refl _ _⟩
  · go_wp2
    go_ret
    exact ⟨rfl, Below.refl _ _⟩

/-- A number in so many bits. -/
theorem r2num_any (n wd : Nat) (w : World) (hu : n < 18446744073709551616) (hw : wd ≤ 64) (hn : n < 2 ^ wd) :
    Calls Try.prog 56 #[.int .u64 n, .int .i64 wd] w fun e w' => e = .returned (.string ⟨(numL n wd).toArray⟩) ∧ Below w.heap.size w w' := by
  have hV : numV n (wd : Int) = numL n wd := by
    have : n / 2 ^ wd = 0 := Nat.div_eq_of_lt hn
    simp only [numV]
    rw [if_neg (by simp [this]; omega)]
    simp
  have h := rNumber_any n wd
  rw [hV] at h
  go_enter Try.func56, Try.ntmps56
  go_wp2_with fail
  refine (h _ hu).mono ?_
  rintro e w1 ⟨rfl, b1⟩
  go_wp2
  go_ret
  exact ⟨rfl, b1⟩
def longV (n : Int) (ext : Bool) : Int := if n < 0 ∨ 8 < n then 0 else if ext then 54 + 8 * n + (53 + 8 * n) / 4 + 10 else 34 + 8 * n + (33 + 8 * n) / 4 + 10
def longE (n : Int) : Int := if n < 0 ∨ 8 < n then 1 else 0
theorem tup2 {a b c d : Int} (h : a = c) (h2 : b = d) : Ending.returned (.tuple #[.int .i64 a, .int .i64 b]) = .returned (.tuple #[.int .i64 c, .int .i64 d]) := by rw [h, h2]
end Go.Proofs.Ytfddoindcmdooaa
