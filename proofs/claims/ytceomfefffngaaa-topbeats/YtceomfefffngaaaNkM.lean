/- A node's state as plain numbers. -/
namespace Go.Proofs.Ytceomfefffngaaa.Nk
/-- Its number, that from its next beginning on, its state, how often it began anew. -/
structure Nd where
  id : Int
  next : Int
  st : Int
  boots : Int
  talks : Int
def isN (n : Int) : Bool := decide (0 ≤ n) && decide (n ≤ 127)
def isC (c : Int) : Bool := c == 1 || c == 2 || c == 128 || c == 129 || c == 130
def tgC (c : Int) : Int := if c = 1 then 5 else if c = 2 then 4 else if c = 128 then 127 else 0
theorem isC_cases {c : Int} (h : isC c = true) : c = 1 ∨ c = 2 ∨ c = 128 ∨ c = 129 ∨ c = 130 := by
  simpa [isC, or_assoc] using h
theorem isC_not {c : Int} (h : isC c = false) : c ≠ 1 ∧ c ≠ 2 ∧ c ≠ 128 ∧ c ≠ 129 ∧ c ≠ 130 := by
  simpa [isC, and_assoc] using h
namespace Nd
def Ok (s : Nd) : Prop := s.st = 0 ∨ s.id ≠ 0
def hears (s : Nd) (y : Int) : Bool := s.st != 0 && (y == 0 || y == s.id)
def does (s : Nd) (c : Int) : Nd :=
  if c = 1 then { s with st := 5 } else if c = 2 then { s with st := 4 } else if c = 128 then { s with st := 127 }
  else if c = 129 then { s with st := 0, id := s.next, boots := s.boots + 1 } else { s with st := 0, id := s.next, talks := s.talks + 1 }
def two (s : Nd) (c y : Nat) : Bool := s.hears y && isC c
def take (s : Nd) : List UInt8 → Nd
  | [c, y] => if s.two c.toNat y.toNat then s.does c.toNat else s
  | _ => s
def told (s : Nd) : List UInt8 → Int
  | [c, y] => if s.two c.toNat y.toNat then c.toNat else 0
  | _ => 0
def goes (s : Nd) : Bool := s.st == 0 && s.id != 0
def step (s : Nd) : Nd := if s.goes then { s with st := 127 } else s
def set (s : Nd) (n : Int) : Nd := if isN n then (if s.st = 0 then { s with next := n, id := n } else { s with next := n }) else s
theorem does_ok {s : Nd} (h : s.Ok) (h2 : s.st ≠ 0) (c : Int) : (s.does c).Ok := by
  unfold Ok does at *
  repeat' split
  all_goals simp_all
theorem take_ok {s : Nd} (h : s.Ok) (l : List UInt8) : (s.take l).Ok := by
  unfold take
  split
  · split
    · rename_i c y h2
      refine does_ok h ?_ _
      simp [two, hears] at h2
      exact h2.1.1
    · exact h
  · exact h
theorem step_ok {s : Nd} (h : s.Ok) : s.step.Ok := by
  unfold step goes
  split
  · rename_i h2
    simp at h2
    exact .inr h2.2
  · exact h
theorem set_ok {s : Nd} (h : s.Ok) (n : Int) : (s.set n).Ok := by
  unfold set Ok at *
  repeat' split
  all_goals simp_all
end Nd
end Go.Proofs.Ytceomfefffngaaa.Nk
