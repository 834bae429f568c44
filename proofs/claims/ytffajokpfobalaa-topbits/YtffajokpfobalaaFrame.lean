/- Frames as values; the document's own Check, Bytes, flag and Longest. -/
import Derived.Test.YtffajokpfobalaaOpen
import Derived.Test.YtffajokpfobalaaRNum
namespace Go.Proofs.Ytffajokpfobalaa
open Go.RowKit Go.Proofs.Bits
set_option linter.unusedVariables false
set_option maxRecDepth 1000000

/-- A frame. -/
structure Fr where
  id : Nat
  ext : Bool
  rem : Bool
  len : Int
  data : List UInt8
  hid : id < 4294967296
  hlen : -9223372036854775808 ≤ len ∧ len < 9223372036854775808
  hdata : data.length = 8

def Fr.cells (f : Fr) : List Value := [.int .u32 f.id, .bool f.ext, .bool f.rem, .int .i64 f.len] ++ f.data.map fun c => .int .u8 c.toNat
def Fr.arr (f : Fr) : Array Value := f.cells.toArray
def Fr.val (f : Fr) : Value := .agg f.arr
def Fr.bad (f : Fr) : Bool := decide (f.len < 0) || decide (15 < f.len) || decide (536870912 ≤ f.id) || (!f.ext && decide (2048 ≤ f.id))
def Fr.chk (f : Fr) : Int := if f.bad then 1 else 0
def Fr.bytes (f : Fr) : Nat := if f.rem || decide (f.len < 0) then 0 else if 8 < f.len then 8 else f.len.toNat
theorem Fr.arr_size (f : Fr) : f.arr.size = 12 := by simp [Fr.arr, Fr.cells, f.hdata]
theorem Fr.arr0 (f : Fr) : f.arr[0]? = some (.int .u32 f.id) := rfl
theorem Fr.arr1 (f : Fr) : f.arr[1]? = some (.bool f.ext) := rfl
theorem Fr.arr2 (f : Fr) : f.arr[2]? = some (.bool f.rem) := rfl
theorem Fr.arr3 (f : Fr) : f.arr[3]? = some (.int .i64 f.len) := rfl
theorem Fr.arrD (f : Fr) (k : Nat) (h : k < 8) : f.arr[4 + k]? = some (.int .u8 (f.data[k]'(by rw [f.hdata]; exact h)).toNat) := by
  have : 4 + k = k + 1 + 1 + 1 + 1 := by omega
  simp [Fr.arr, Fr.cells, this]
  exact ⟨_, List.getElem?_eq_getElem (by rw [f.hdata]; exact h), rfl⟩
theorem Fr.bytes_le (f : Fr) : f.bytes ≤ 8 := by
  unfold Fr.bytes
  split
  · omega
  · split <;> omega

def flagV (b : Bool) : List UInt8 := if b then [49] else [48]
def longV (n : Int) (ext : Bool) : Int := if n < 0 ∨ 8 < n then 0 else if ext then 54 + 8 * n + (53 + 8 * n) / 4 + 10 else 34 + 8 * n + (33 + 8 * n) / 4 + 10
def longE (n : Int) : Int := if n < 0 ∨ 8 < n then 1 else 0
theorem tup2 {a b c d : Int} (h : a = c) (h2 : b = d) : Ending.returned (.tuple #[.int .i64 a, .int .i64 b]) = .returned (.tuple #[.int .i64 c, .int .i64 d]) := by rw [h, h2]
end Go.Proofs.Ytffajokpfobalaa
