/- A unit that counts errors, as plain functions on numbers. -/
import Derived.WalkKit
namespace Go.Proofs.Ytajoganfpppimaa
open Go.RowKit
set_option linter.unusedVariables false
set_option maxRecDepth 1000000

/-- The counts of sending and of receiving, and the idle rows. -/
structure Un where
  s : Nat
  r : Nat
  k : Nat
def Un.nul : Un := ⟨0, 0, 0⟩
def Un.ok (u : Un) : Prop := u.s ≤ 256 ∧ u.r ≤ 255 ∧ u.k ≤ 127
def Un.off (u : Un) : Bool := decide (255 < u.s)
def Un.great (u : Un) : Nat := max u.s u.r
def Un.state (u : Un) : Int := if 255 < u.s then 2 else if 127 < u.s ∨ 127 < u.r then 1 else 0
def Un.warns (u : Un) : Bool := decide (95 < u.s) || decide (95 < u.r)
def Un.sent (u : Un) : Un := if 255 < u.s then u else ⟨u.s - 1, u.r, u.k⟩
def Un.recv (u : Un) : Un := if 255 < u.s then u else if 127 < u.r then ⟨u.s, 120, u.k⟩ else ⟨u.s, u.r - 1, u.k⟩
def Un.fail (q : Bool) (u : Un) : Un := if 255 < u.s then u else if q = true ∧ (127 < u.s ∨ 127 < u.r) then u else if 247 < u.s then ⟨256, u.r, 0⟩ else ⟨u.s + 8, u.r, u.k⟩
def Un.err (l : Bool) (u : Un) : Un := if 255 < u.s then u else ⟨u.s, min (u.r + if l then 8 else 1) 255, u.k⟩
def Un.back (n : Int) (u : Un) : Bool := decide (255 < u.s) && decide (128 - (u.k : Int) ≤ n)
def Un.idle (n : Int) (u : Un) : Un := if 255 < u.s then (if 128 - (u.k : Int) ≤ n then Un.nul else ⟨u.s, u.r, u.k + n.toNat⟩) else u
theorem Un.ok_nul : Un.nul.ok := by simp [Un.ok, Un.nul]
theorem Un.ok_sent {u : Un} (h : u.ok) : u.sent.ok := by
  unfold Un.sent Un.ok at *; split <;> (try simp only) <;> omega
theorem Un.ok_recv {u : Un} (h : u.ok) : u.recv.ok := by
  unfold Un.recv Un.ok at *; split
  · omega
  · split <;> (try simp only) <;> omega
theorem Un.ok_fail {u : Un} (q : Bool) (h : u.ok) : (u.fail q).ok := by
  unfold Un.fail Un.ok at *; split
  · omega
  · split
    · omega
    · split <;> (try simp only) <;> omega
theorem Un.ok_err {u : Un} (l : Bool) (h : u.ok) : (u.err l).ok := by
  unfold Un.err Un.ok at *; split
  · omega
  · simp only; omega
theorem Un.ok_idle {u : Un} (n : Int) (h : u.ok) : (u.idle n).ok := by
  unfold Un.idle Un.ok at *; split
  · split
    · simp [Un.nul]
    · simp only; omega
  · omega
end Go.Proofs.Ytajoganfpppimaa
