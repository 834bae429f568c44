/- Errors that are there, told and remembered: plain. -/
import Derived.Test.YtlkocebgkmdeoaaRows
import Derived.WalkKit
import Derived.Laws.BitsAllLaws
namespace Go.Proofs.Ytlkocebgkmdeoaa
open Go.RowKit
set_option linter.unusedVariables false
set_option maxRecDepth 1000000
/-- An error: its code, its register, five bytes. -/
structure Tr where
  c : Nat
  r : Nat
  x0 : Int
  x1 : Int
  x2 : Int
  x3 : Int
  x4 : Int
  hc : c < 65536
  hr : r < 256
def Tr.cs (a : Tr) : List Value := [.int .u16 a.c, .int .u8 a.r, .int .u8 a.x0, .int .u8 a.x1, .int .u8 a.x2, .int .u8 a.x3, .int .u8 a.x4]
def Tr.arr (a : Tr) : Array Value := #[.int .u16 a.c, .int .u8 a.r, .int .u8 a.x0, .int .u8 a.x1, .int .u8 a.x2, .int .u8 a.x3, .int .u8 a.x4]
/-- Its frame. -/
def Tr.fs (a : Tr) : List Value := [.int .u8 ((a.c : Int) % 256), .int .u8 ((a.c : Int) / 256), .int .u8 a.r, .int .u8 a.x0, .int .u8 a.x1, .int .u8 a.x2, .int .u8 a.x3, .int .u8 a.x4]
def Tr.far (a : Tr) : Array Value := #[.int .u8 ((a.c : Int) % 256), .int .u8 ((a.c : Int) / 256), .int .u8 a.r, .int .u8 a.x0, .int .u8 a.x1, .int .u8 a.x2, .int .u8 a.x3, .int .u8 a.x4]
/-- The register of errors. -/
def orN (a r : Nat) : Nat := (a ||| (r ||| 1)) % 256
theorem orN_lt (a r : Nat) : orN a r < 256 := Nat.mod_lt _ (by decide)
def regL : List Tr → Nat → Nat
  | [], a => a
  | x :: l, a => regL l (orN a x.r)
def reg (l : List Tr) : Nat := regL l 0
theorem regL_lt (l : List Tr) (a : Nat) (h : a < 256) : regL l a < 256 := by
  induction l generalizing a with
  | nil => exact h
  | cons x l ih => exact ih _ (orN_lt _ _)
theorem reg_lt (l : List Tr) : reg l < 256 := regL_lt l 0 (by decide)
theorem regL_append (l m : List Tr) (a : Nat) : regL (l ++ m) a = regL m (regL l a) := by
  induction l generalizing a with
  | nil => rfl
  | cons x l ih => exact ih _
theorem or_one_pos (a : Nat) : (a ||| 1) % 256 ≠ 0 := by
  intro h
  have h1 : ((a ||| 1) % 256).testBit 0 = false := by rw [h]; simp
  rw [show 256 = 2 ^ 8 by decide, Nat.testBit_mod_two_pow] at h1
  simp at h1
theorem orN_pos (a r : Nat) : orN a r ≠ 0 := by
  unfold orN
  rw [← Nat.or_assoc]
  exact or_one_pos _
theorem regL_pos (l : List Tr) (a : Nat) (h : a ≠ 0) : regL l a ≠ 0 := by
  induction l generalizing a with
  | nil => exact h
  | cons x l ih => exact ih _ (orN_pos _ _)
theorem reg_zero (l : List Tr) : reg l = 0 ↔ l = [] := by
  cases l with
  | nil => simp [reg, regL]
  | cons x l => simp [reg, regL, regL_pos l _ (orN_pos 0 x.r)]
theorem bits_or8 (a b : Nat) (ha : a < 256) (hb : b < 256) : bits BinOp.or IntKind.u8 (a : Int) (b : Int) = ((a ||| b : Nat) : Int) := by
  have h1 : a ||| b < 256 := Nat.or_lt_two_pow (n := 8) ha hb
  have h2 : (((a : Nat) : Int) % 256).toNat = a := by omega
  have h3 : (((b : Nat) : Int) % 256).toNat = b := by omega
  show IntKind.u8.wrap ((((((a : Nat) : Int) % 256).toNat ||| (((b : Nat) : Int) % 256).toNat : Nat)) : Int) = _
  rw [h2, h3]
  simp [IntKind.wrap, IntKind.bits, IntKind.signed]
  omega
theorem bits_reg (a r : Nat) (ha : a < 256) (hr : r < 256) : bits BinOp.or IntKind.u8 (a : Int) (bits BinOp.or IntKind.u8 (r : Int) 1) = ((orN a r : Nat) : Int) := by
  have h1 : r ||| 1 < 256 := Nat.or_lt_two_pow (n := 8) hr (by decide)
  have h2 : a ||| (r ||| 1) < 256 := Nat.or_lt_two_pow (n := 8) ha h1
  have h3 := bits_or8 r 1 hr (by decide)
  rw [show ((1 : Nat) : Int) = 1 by rfl] at h3
  rw [h3, bits_or8 a _ ha h1, orN, Nat.mod_eq_of_lt h2]
theorem bits_regd (a r : Nat) (ha : a < 256) (hr : r < 256) : bits BinOp.or IntKind.u8 (bits BinOp.or IntKind.u8 (a : Int) (r : Int)) 1 = ((orN a r : Nat) : Int) := by
  have h1 : a ||| r < 256 := Nat.or_lt_two_pow (n := 8) ha hr
  have h2 : a ||| r ||| 1 < 256 := Nat.or_lt_two_pow (n := 8) h1 (by decide)
  have h3 := bits_or8 (a ||| r) 1 h1 (by decide)
  rw [show ((1 : Nat) : Int) = 1 by rfl] at h3
  rw [bits_or8 a r ha hr, h3, orN, ← Nat.or_assoc, Nat.mod_eq_of_lt h2]
/-- The place of the error of a code. -/
def fi (l : List Tr) (c : Nat) : Nat := l.findIdx (fun x => decide (x.c = c))
def ix (l : List Tr) (c : Nat) : Int := if fi l c < l.length then (fi l c : Int) else -1
theorem fi_le (l : List Tr) (c : Nat) : fi l c ≤ l.length := List.findIdx_le_length
theorem fi_hit (l : List Tr) (c k : Nat) (hk : k < l.length) (h : l[k].c = c) (hb : ∀ j (hj : j < k), l[j].c ≠ c) : ix l c = k := by
  have : fi l c = k := by
    unfold fi
    rw [List.findIdx_eq hk]
    exact ⟨by simpa using h, fun j hj => by simpa using hb j hj⟩
  unfold ix
  rw [this, if_pos hk]
theorem fi_miss (l : List Tr) (c : Nat) (hb : ∀ j (hj : j < l.length), l[j].c ≠ c) : ix l c = -1 := by
  unfold ix
  rw [if_neg]
  intro h
  have := List.findIdx_getElem (w := h)
  simp at this
  exact hb _ h this
/-- A teller. -/
structure Te where
  hist : Nat
  inh : Nat
  now : List Tr
  past : List Tr
  waits : List Tr
  quiet : Nat
def push (l : List Tr) (f : Tr) : List Tr := if l.length < 16 then l ++ [f] else l
/-- What is told: a code, the register, five bytes. -/
def tl (c : Nat) (hc : c < 65536) (l : List Tr) (x0 x1 x2 x3 x4 : Int) : Tr := ⟨c, reg l, x0, x1, x2, x3, x4, hc, reg_lt l⟩
def Te.can (s : Te) (x : Tr) : Bool := decide (256 ≤ x.c) && decide (ix s.now x.c < 0)
def Te.rs (s : Te) (x : Tr) : Te := ⟨s.hist, s.inh, s.now ++ [x], (x :: s.past).take s.hist, push s.waits (tl x.c x.hc (s.now ++ [x]) x.x0 x.x1 x.x2 x.x3 x.x4), s.quiet⟩
def Te.raise (s : Te) (x : Tr) : Te := if s.can x then s.rs x else s
def hd (l : List Tr) : Nat := match l with | [] => 0 | x :: _ => x.c
theorem hd_lt (l : List Tr) : hd l < 65536 := by
  cases l with
  | nil => decide
  | cons x l => exact x.hc
def Te.cl (s : Te) (i : Nat) : Te := ⟨s.hist, s.inh, s.now.eraseIdx i, s.past, push s.waits (tl (hd (s.now.eraseIdx i)) (hd_lt _) (s.now.eraseIdx i) 0 0 0 0 0), s.quiet⟩
def Te.there (s : Te) (c : Nat) : Bool := decide (0 ≤ ix s.now c)
def Te.clear (s : Te) (c : Nat) : Te := if s.there c then s.cl (fi s.now c) else s
def Te.tick (s : Te) : Te := { s with quiet := s.quiet - 1 }
def Te.may (s : Te) : Bool := decide (0 < s.waits.length) && decide (s.quiet = 0)
def Te.out (s : Te) : Te := { s with waits := s.waits.tail, quiet := s.inh }
def Te.frame (s : Te) : Te := if s.may then s.out else s
def Te.forget (s : Te) : Te := { s with past := [] }
/-- What holds of a teller. -/
structure Te.Ok (s : Te) : Prop where
  h1 : 1 ≤ s.hist
  h2 : s.hist ≤ 254
  h3 : s.inh ≤ 4294967296
  h4 : s.past.length ≤ 255
  h5 : s.waits.length ≤ 16
  h6 : s.quiet ≤ s.inh
/-- The history is no longer than it may be. -/
def Te.Fit (s : Te) : Prop := s.past.length ≤ s.hist
theorem push_le (l : List Tr) (f : Tr) (h : l.length ≤ 16) : (push l f).length ≤ 16 := by
  unfold push
  split
  · simp; omega
  · exact h
section
variable {s : Te}
theorem Te.Ok.rs (h : s.Ok) (x : Tr) : (s.rs x).Ok := ⟨h.h1, h.h2, h.h3, by have := h.h2; simp [Te.rs]; omega, push_le _ _ h.h5, h.h6⟩
theorem Te.Ok.raise (h : s.Ok) (x : Tr) : (s.raise x).Ok := by
  unfold Te.raise
  split
  · exact h.rs x
  · exact h
theorem Te.Ok.cl (h : s.Ok) (i : Nat) : (s.cl i).Ok := ⟨h.h1, h.h2, h.h3, h.h4, push_le _ _ h.h5, h.h6⟩
theorem Te.Ok.clear (h : s.Ok) (c : Nat) : (s.clear c).Ok := by
  unfold Te.clear
  split
  · exact h.cl _
  · exact h
theorem Te.Ok.tick (h : s.Ok) : s.tick.Ok := ⟨h.h1, h.h2, h.h3, h.h4, h.h5, by have := h.h6; simp [Te.tick]; omega⟩
theorem Te.Ok.out (h : s.Ok) : s.out.Ok := ⟨h.h1, h.h2, h.h3, h.h4, by have := h.h5; simp [Te.out]; omega, Nat.le_refl _⟩
theorem Te.Ok.frame (h : s.Ok) : s.frame.Ok := by
  unfold Te.frame
  split
  · exact h.out
  · exact h
theorem Te.Ok.forget (h : s.Ok) : s.forget.Ok := ⟨h.h1, h.h2, h.h3, Nat.zero_le _, h.h5, h.h6⟩
theorem Te.Fit.raise (h : s.Fit) (x : Tr) : (s.raise x).Fit := by
  unfold Te.raise
  split
  · unfold Te.Fit Te.rs; simp; omega
  · exact h
theorem Te.Fit.clear (h : s.Fit) (c : Nat) : (s.clear c).Fit := by
  unfold Te.clear
  split
  · exact h
  · exact h
theorem Te.Fit.frame (h : s.Fit) : s.frame.Fit := by
  unfold Te.frame
  split
  · exact h
  · exact h
end
end Go.Proofs.Ytlkocebgkmdeoaa
