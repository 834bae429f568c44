/- Rounds on a wire, as plain functions. -/
import Derived.Test.YtjblekemmcmblaaTwo
namespace Go.Proofs.Ytjblekemmcmblaa
open Go.RowKit Go.Proofs.Bits
set_option linter.unusedVariables false
set_option maxRecDepth 1000000

/-- A node as a round takes it; a flip. -/
structure Se where
  up : Bool
  sends : Bool
  f : Fr
structure Fl where
  nd : Int
  bit : Int
  hn : -9223372036854775808 ≤ nd ∧ nd < 9223372036854775808
  hb : -9223372036854775808 ≤ bit ∧ bit < 9223372036854775808
def Se.nul : Se := ⟨false, false, Fr.nul⟩
def Se.cells (s : Se) : List Value := [.bool s.up, .bool s.sends] ++ s.f.cells
def Se.arr (s : Se) : Array Value := s.cells.toArray
def Fl.cells (f : Fl) : List Value := [.int .i64 f.nd, .int .i64 f.bit]
def seAt (l : List Se) (i : Nat) : Se := l.getD i Se.nul
def upAt (l : List Se) (i : Nat) : Bool := (seAt l i).up
def sndAt (l : List Se) (i : Nat) : Bool := (seAt l i).up && (seAt l i).sends
def upK (l : List Se) (k : Nat) : Nat := ((List.range k).filter (upAt l)).length
def upN (l : List Se) : Nat := upK l l.length
def alone (l : List Se) : Bool := decide (upN l < 2)
def whoK (l : List Se) (k : Nat) : List Nat := (List.range k).filter (sndAt l)
def who (l : List Se) : List Nat := whoK l l.length
def frsK (l : List Se) (k : Nat) : List Fr := (whoK l k).map fun i => (seAt l i).f
def frs (l : List Se) : List Fr := frsK l l.length
def wrongB (n : Nat) (f : Fl) : Bool := decide (f.nd < 0) || decide ((n : Int) ≤ f.nd) || decide (f.bit < 0)
def lookV (n : Nat) (fl : List Fl) : Int := if 127 < n then 2 else if 65536 < fl.length then 2 else if fl.any (wrongB n) then 1 else 0
def cntB (l : List Se) (n : Nat) (f : Fl) : Bool := upAt l f.nd.toNat && decide (f.bit < (n : Int) - 1)
def befB (a b : Fl) : Bool := decide (a.bit < b.bit) || (decide (a.bit = b.bit) && decide (a.nd < b.nd))
def fo1 (l : List Se) (n : Nat) (acc : Option Fl) (f : Fl) : Option Fl :=
  if cntB l n f then (match acc with | none => some f | some g => if befB f g then some f else acc) else acc
def foK (l : List Se) (n : Nat) (fl : List Fl) (k : Nat) : Option Fl := (fl.take k).foldl (fo1 l n) none
def fo (l : List Se) (n : Nat) (fl : List Fl) : Option Fl := foK l n fl fl.length
def lastB (wn : Nat) (n : Nat) (f : Fl) : Bool := decide (f.nd = wn) && decide (f.bit = (n : Int) - 1)
structure Rn where
  win : Int
  bits : Int
  sent : Bool
  errs : List Int
  got : List Bool
  len : Nat
  late : Int
def winN (l : List Se) : Nat := (who l).getD (firstN (frs l)) 0
def winF (l : List Se) : Fr := (seAt l (winN l)).f
def winL (l : List Se) : Nat := (encV (winF l) (!alone l)).length
def rn0 (l : List Se) : Rn := ⟨0, 0, false, List.replicate l.length 0, List.replicate l.length false, 0, -1⟩
def rnN (l : List Se) : Rn := { rn0 l with win := -1, bits := 11 }
def rnW (l : List Se) : Rn := { rn0 l with win := winN l, len := winL l }
def stuffK (l : List Se) (k : Nat) : List Int := (List.range l.length).map fun i => if i < k ∧ upAt l i = true then 20 else 0
def hearK (l : List Se) (wn : Nat) (k : Nat) : List Bool := (List.range l.length).map fun i => decide (i < k) && (upAt l i && decide (i ≠ wn))
def rnSpoil (l : List Se) (r : Rn) (f : Fl) : Rn := { r with errs := if (r.len : Int) - 10 ≤ f.bit then (stuffK l l.length).set f.nd.toNat 22 else stuffK l l.length, late := f.nd, bits := f.bit + 24 }
def rnEnd (l : List Se) (fl : List Fl) (r : Rn) (wn : Nat) : Rn :=
  match fo l r.len fl with
  | some f => rnSpoil l r f
  | none => if alone l then { r with errs := r.errs.set wn 23, bits := (r.len : Int) - 8 + 20 }
    else if fl.any (lastB wn r.len) then { r with got := hearK l wn l.length, errs := r.errs.set wn 22, bits := (r.len : Int) + 20 }
    else { r with got := hearK l wn l.length, sent := true, bits := (r.len : Int) + 3 }
/-- The round's outcome where there is no error; its error. -/
def rnd (l : List Se) (fl : List Fl) : Rn := if who l = [] then rnN l else rnEnd l fl (rnW l) (winN l)
def rndE (l : List Se) (fl : List Fl) : Int := if lookV l.length fl ≠ 0 then lookV l.length fl else if who l = [] then 0 else firstE (frs l)

theorem upK_le (l : List Se) (k : Nat) : upK l k ≤ k := by
  unfold upK; have := List.length_filter_le (upAt l) (List.range k); simpa using this
theorem upK_succ (l : List Se) (k : Nat) : upK l (k + 1) = upK l k + if upAt l k then 1 else 0 := by
  unfold upK; rw [List.range_succ, List.filter_append, List.length_append]
  cases h : upAt l k <;> simp [h]
theorem seAt_eq {l : List Se} {k : Nat} (h : k < l.length) : seAt l k = l[k] := by unfold seAt; simp [h]
theorem whoK_succ (l : List Se) (k : Nat) : whoK l (k + 1) = whoK l k ++ if sndAt l k then [k] else [] := by
  unfold whoK; rw [List.range_succ, List.filter_append]
  cases h : sndAt l k <;> simp [h]
theorem frsK_succ (l : List Se) (k : Nat) : frsK l (k + 1) = frsK l k ++ if sndAt l k then [(seAt l k).f] else [] := by
  unfold frsK; rw [whoK_succ, List.map_append]
  cases h : sndAt l k <;> simp
theorem frsK_length (l : List Se) (k : Nat) : (frsK l k).length = (whoK l k).length := by simp [frsK]
theorem whoK_le (l : List Se) (k : Nat) : (whoK l k).length ≤ k := by
  unfold whoK; have := List.length_filter_le (sndAt l) (List.range k); simpa using this
theorem foK_succ (l : List Se) (n : Nat) (fl : List Fl) (k : Nat) (h : k < fl.length) : foK l n fl (k + 1) = fo1 l n (foK l n fl k) fl[k] := by
  unfold foK; rw [List.take_succ_eq_append_getElem h, List.foldl_append]; rfl
theorem stuffK_zero (l : List Se) : stuffK l 0 = List.replicate l.length 0 := by
  unfold stuffK; apply List.ext_getElem <;> simp
theorem stuffK_length (l : List Se) (k : Nat) : (stuffK l k).length = l.length := by simp [stuffK]
theorem hearK_length (l : List Se) (wn k : Nat) : (hearK l wn k).length = l.length := by simp [hearK]
theorem hearK_zero (l : List Se) (wn : Nat) : hearK l wn 0 = List.replicate l.length false := by
  unfold hearK; apply List.ext_getElem <;> simp
theorem stuffK_up (l : List Se) (k : Nat) (h : upAt l k = true) : (stuffK l k).set k 20 = stuffK l (k + 1) := by
  unfold stuffK
  apply List.ext_getElem
  · simp
  · intro i h1 h2
    simp at h1 h2
    simp only [List.getElem_set, List.getElem_map, List.getElem_range]
    by_cases e : k = i
    · subst e; simp [h]
    · rw [if_neg e]
      have : (i < k ↔ i < k + 1) := by omega
      simp only [this]
theorem stuffK_down (l : List Se) (k : Nat) (h : upAt l k = false) : stuffK l k = stuffK l (k + 1) := by
  unfold stuffK
  apply List.ext_getElem
  · simp
  · intro i h1 h2
    simp only [List.getElem_map, List.getElem_range]
    by_cases e : k = i
    · subst e; simp [h]
    · have : (i < k ↔ i < k + 1) := by omega
      simp only [this]
theorem hearK_set (l : List Se) (wn k : Nat) (h : k < l.length) : (hearK l wn k).set k (upAt l k && decide (k ≠ wn)) = hearK l wn (k + 1) := by
  unfold hearK
  apply List.ext_getElem
  · simp
  · intro i h1 h2
    simp at h1 h2
    simp only [List.getElem_set, List.getElem_map, List.getElem_range]
    by_cases e : k = i
    · subst e; simp
    · rw [if_neg e]
      have : (i < k ↔ i < k + 1) := by omega
      simp only [this]
theorem stuffed_bound (f : Fr) (ack : Bool) : (encV f ack).length ≤ 1000 := by
  unfold encV
  split
  · unfold Fr.bits
    have h1 := body_short f
    have h2 := stuff_body_length f
    simp only [List.length_append, flagV_length, List.length_cons, List.length_nil]
    omega
  · simp
end Go.Proofs.Ytjblekemmcmblaa
