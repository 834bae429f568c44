/- A slave's state as plain numbers: what the program keeps, what the document does. -/
import Derived.Test.YthbmbabndhpdkaaFrX
namespace Go.Proofs.Ythbmbabndhpdkaa
open Classical
set_option linter.unusedVariables false
set_option maxRecDepth 1000000
set_option linter.unusedSimpArgs false
/-- Four numbers. -/
structure A4 where
  x0 : Nat
  x1 : Nat
  x2 : Nat
  x3 : Nat
namespace A4
def arr (a : A4) : Array Value := #[.int .u32 (a.x0 : Int), .int .u32 (a.x1 : Int), .int .u32 (a.x2 : Int), .int .u32 (a.x3 : Int)]
def ok (a : A4) : Prop := a.x0 < 4294967296 ∧ a.x1 < 4294967296 ∧ a.x2 < 4294967296 ∧ a.x3 < 4294967296
def nth (a : A4) (i : Int) : Nat := if i = 0 then a.x0 else if i = 1 then a.x1 else if i = 2 then a.x2 else a.x3
def put (a : A4) (i : Int) (n : Nat) : A4 := if i = 0 then { a with x0 := n } else if i = 1 then { a with x1 := n } else if i = 2 then { a with x2 := n } else { a with x3 := n }
def nul : A4 := ⟨0, 0, 0, 0⟩
theorem ok_put {a : A4} (h : a.ok) (i : Int) (n : Nat) (hn : n < 4294967296) : (a.put i n).ok := by
  obtain ⟨h0, h1, h2, h3⟩ := h
  unfold put
  repeat' split
  all_goals exact ⟨by assumption, by assumption, by assumption, by assumption⟩
theorem nth_lt {a : A4} (h : a.ok) (i : Int) : a.nth i < 4294967296 := by
  obtain ⟨h0, h1, h2, h3⟩ := h
  unfold A4.nth
  repeat' split
  all_goals assumption
end A4
/-- What the program keeps. -/
structure Ls where
  a : A4
  mode : Int
  ip : Int
  iu : Int
  rp : Int
  ru : Int
  st : Option (Int × Int)
  fails : Bool
  c : A4
  pk : Int
  lk : Int
/-- What the document keeps. -/
structure Ld where
  a : A4
  ip : Int
  rp : Int
  iu : Int
  ru : Int
  si : Int
  sr : Int
  has : Bool
  fails : Bool
  mode : Int
  tk : Int
  lk : Int
/-- Numbers alike but for their lowest bits. -/
def hiE (a n : Nat) (b : Nat) : Bool := decide ((a ^^^ n) / 2 ^ b = 0)
namespace Ls
def new (a : A4) (id : Int) : Ls := ⟨a, 0, id, id, 0, 0, none, false, A4.nul, 0, 0⟩
structure Ok (s : Ls) : Prop where
  a : s.a.ok
  c : s.c.ok
  ip : 0 ≤ s.ip ∧ s.ip ≤ 127
  iu : 0 ≤ s.iu ∧ s.iu ≤ 127
  st : ∀ x y, s.st = some (x, y) → 0 ≤ x ∧ x ≤ 127
  pk : 0 ≤ s.pk ∧ s.pk ≤ 3
  lk : 0 ≤ s.lk ∧ s.lk ≤ 3
def bare (s : Ls) : Bool := decide (s.ip = 0) && decide (s.iu = 0)
def set (s : Ls) (m : Nat) : Ls := if m = 1 then { s with mode := 1 } else if m = 0 then { s with mode := 0, iu := if s.iu = 0 then s.ip else s.iu } else s
/-- Where a part comes, and whether it is the last. -/
noncomputable def pickS (s : Ls) (part : Int) (n : Nat) : Ls :=
  if part ≠ 0 ∧ part ≠ s.pk then { s with pk := 0 }
  else if part = 3 ∧ s.c.put part n = s.a then { s with c := s.c.put part n, pk := (part + 1) % 4, mode := 1 } else { s with c := s.c.put part n, pk := (part + 1) % 4 }
noncomputable def pickB (s : Ls) (part : Int) (n : Nat) : Bool := !(decide (part ≠ 0) && decide (part ≠ s.pk)) && decide (part = 3) && decide (s.c.put part n = s.a)
def scanQ (s : Ls) (q : F8) : Bool := decide (q.b5.toNat ≤ 31) && decide ((q.b6.toNat : Int) = s.lk) && decide (q.b7.toNat < 4) && hiE (s.a.nth s.lk) (numq q) q.b5.toNat
def scanS (s : Ls) (q : F8) : Ls :=
  if q.b5.toNat = 128 then { s with lk := 0 }
  else if s.scanQ q then (if q.b5.toNat = 0 then (if q.b7.toNat < q.b6.toNat then { s with lk := 0, mode := 1 } else { s with lk := (q.b7.toNat : Int) }) else s)
  else s
def scanB (s : Ls) (q : F8) : Bool := decide (q.b5.toNat = 128) || s.scanQ q
noncomputable def waitS (s : Ls) (q : F8) : Ls :=
  if 64 ≤ q.b0.toNat ∧ q.b0.toNat < 68 then s.pickS ((q.b0.toNat : Int) - 64) (numq q) else if q.b0.toNat = 81 then (if s.bare then s.scanS q else s) else s
noncomputable def waitA (s : Ls) (q : F8) : Int :=
  if 64 ≤ q.b0.toNat ∧ q.b0.toNat < 68 then (if s.pickB ((q.b0.toNat : Int) - 64) (numq q) then 68 else -1) else if q.b0.toNat = 81 then (if s.bare && s.scanB q then 79 else -1) else -1
/-- An answer of one byte, or none. -/
def one (c : Int) : F8 × Bool := if c = -1 then (F8.nul, false) else (⟨.ofNat c.toNat, 0, 0, 0, 0, 0, 0, 0⟩, true)
def goodId (v : Nat) : Bool := decide (v = 255) || (decide (1 ≤ v) && decide (v ≤ 127))
def goodRate (t v : Nat) : Bool := decide (t = 0) && decide (v ≤ 8) && decide (v ≠ 5)
def confS (s : Ls) (q : F8) : Ls :=
  if q.b0.toNat = 17 then (if goodId q.b1.toNat then { s with ip := ((q.b1.toNat % 255 : Nat) : Int) } else s)
  else if q.b0.toNat = 19 then (if goodRate q.b1.toNat q.b2.toNat then { s with rp := (q.b2.toNat : Int) } else s)
  else if q.b0.toNat = 21 then { s with ru := s.rp }
  else if q.b0.toNat = 23 then (if s.fails then s else { s with st := some (s.ip, s.rp) })
  else s
def confA (s : Ls) (q : F8) : F8 × Bool :=
  if q.b0.toNat = 17 then (ordF 17 (if goodId q.b1.toNat then 0 else 1), true)
  else if q.b0.toNat = 19 then (ordF 19 (if goodRate q.b1.toNat q.b2.toNat then 0 else 1), true)
  else if q.b0.toNat = 23 then (ordF 23 (if s.fails then 2 else 0), true)
  else if 90 ≤ q.b0.toNat ∧ q.b0.toNat ≤ 93 then (ordF q.b0.toNat (s.a.nth ((q.b0.toNat : Int) - 90)), true)
  else if q.b0.toNat = 94 then (ordF 94 (if s.iu = 0 then 255 else s.iu.toNat), true)
  else (F8.nul, false)
noncomputable def takeS (s : Ls) (q : F8) : Ls :=
  if q.b0.toNat = 4 then s.set q.b1.toNat else if q.b0.toNat = 76 then s else if s.mode = 1 then s.confS q else s.waitS q
noncomputable def takeA (s : Ls) (q : F8) : F8 × Bool :=
  if q.b0.toNat = 4 then (F8.nul, false) else if q.b0.toNat = 76 then one (if s.bare then 80 else -1) else if s.mode = 1 then s.confA q else one (s.waitA q)
def re (s : Ls) : Ls :=
  match s.st with
  | none => { s with mode := 0, pk := 0, lk := 0, iu := s.ip }
  | some (x, y) => { s with mode := 0, pk := 0, lk := 0, ip := x, iu := x, rp := y, ru := y }
theorem new_ok {a : A4} (ha : a.ok) {id : Int} (h : 0 ≤ id ∧ id ≤ 127) : (new a id).Ok := by
  have h0 : (0 : Int) ≤ 0 ∧ (0 : Int) ≤ 3 := by omega
  have hz : A4.nul.ok := ⟨by decide, by decide, by decide, by decide⟩
  exact ⟨ha, hz, h, h, (fun x y e => by cases e), h0, h0⟩
theorem Ok.set {s : Ls} (h : s.Ok) (m : Nat) : (s.set m).Ok := by
  obtain ⟨h1, h2, h3, h4, h5, h6, h7⟩ := h
  unfold Ls.set
  split
  · exact ⟨h1, h2, h3, h4, h5, h6, h7⟩
  · split
    · exact ⟨h1, h2, h3, (by show 0 ≤ (if s.iu = 0 then s.ip else s.iu) ∧ _ ≤ _; split <;> assumption), h5, h6, h7⟩
    · exact ⟨h1, h2, h3, h4, h5, h6, h7⟩
theorem Ok.pickS {s : Ls} (h : s.Ok) (p : Int) (n : Nat) (hn : n < 4294967296) : (s.pickS p n).Ok := by
  obtain ⟨h1, h2, h3, h4, h5, h6, h7⟩ := h
  have hp : 0 ≤ (p + 1) % 4 ∧ (p + 1) % 4 ≤ 3 := by omega
  unfold Ls.pickS
  split
  · exact ⟨h1, h2, h3, h4, h5, ⟨by show (0 : Int) ≤ 0; omega, by show (0 : Int) ≤ 3; omega⟩, h7⟩
  · split
    · exact ⟨h1, A4.ok_put h2 _ _ hn, h3, h4, h5, hp, h7⟩
    · exact ⟨h1, A4.ok_put h2 _ _ hn, h3, h4, h5, hp, h7⟩
theorem Ok.scanS {s : Ls} (h : s.Ok) (q : F8) : (s.scanS q).Ok := by
  obtain ⟨h1, h2, h3, h4, h5, h6, h7⟩ := h
  have h0 : (0 : Int) ≤ 0 ∧ (0 : Int) ≤ 3 := by omega
  unfold Ls.scanS
  split
  · exact ⟨h1, h2, h3, h4, h5, h6, h0⟩
  · split
    · rename_i hq
      have h8 : q.b7.toNat < 4 := by simp [scanQ] at hq; exact hq.1.2
      split
      · split
        · exact ⟨h1, h2, h3, h4, h5, h6, h0⟩
        · exact ⟨h1, h2, h3, h4, h5, h6, by show 0 ≤ (q.b7.toNat : Int) ∧ (q.b7.toNat : Int) ≤ 3; omega⟩
      · exact ⟨h1, h2, h3, h4, h5, h6, h7⟩
    · exact ⟨h1, h2, h3, h4, h5, h6, h7⟩
theorem Ok.waitS {s : Ls} (h : s.Ok) (q : F8) : (s.waitS q).Ok := by
  unfold Ls.waitS
  repeat' split
  · exact h.pickS _ _ (numq_lt q)
  · exact h.scanS q
  · exact h
  · exact h
theorem Ok.confS {s : Ls} (h : s.Ok) (q : F8) : (s.confS q).Ok := by
  obtain ⟨h1, h2, h3, h4, h5, h6, h7⟩ := h
  unfold Ls.confS
  split
  · split
    · rename_i hg
      refine ⟨h1, h2, ?_, h4, h5, h6, h7⟩
      show 0 ≤ ((q.b1.toNat % 255 : Nat) : Int) ∧ ((q.b1.toNat % 255 : Nat) : Int) ≤ 127
      simp [goodId] at hg
      omega
    · exact ⟨h1, h2, h3, h4, h5, h6, h7⟩
  · repeat' split
    · exact ⟨h1, h2, h3, h4, h5, h6, h7⟩
    · exact ⟨h1, h2, h3, h4, h5, h6, h7⟩
    · exact ⟨h1, h2, h3, h4, h5, h6, h7⟩
    · exact ⟨h1, h2, h3, h4, h5, h6, h7⟩
    · exact ⟨h1, h2, h3, h4, fun x y e => by cases e; exact h3, h6, h7⟩
    · exact ⟨h1, h2, h3, h4, h5, h6, h7⟩
theorem Ok.takeS {s : Ls} (h : s.Ok) (q : F8) : (s.takeS q).Ok := by
  unfold Ls.takeS
  repeat' split
  · exact h.set _
  · exact h
  · exact h.confS q
  · exact h.waitS q
theorem Ok.re {s : Ls} (h : s.Ok) : s.re.Ok := by
  obtain ⟨h1, h2, h3, h4, h5, h6, h7⟩ := h
  have h0 : (0 : Int) ≤ 0 ∧ (0 : Int) ≤ 3 := by omega
  unfold Ls.re
  split
  · exact ⟨h1, h2, h3, h3, h5, h0, h0⟩
  · rename_i x y e
    exact ⟨h1, h2, h5 x y e, h5 x y e, h5, h0, h0⟩
theorem Ok.fails {s : Ls} (h : s.Ok) (b : Bool) : ({ s with fails := b } : Ls).Ok := by
  obtain ⟨h1, h2, h3, h4, h5, h6, h7⟩ := h
  exact ⟨h1, h2, h3, h4, h5, h6, h7⟩
end Ls
namespace Ld
def new (a : A4) (id : Int) : Ld := ⟨a, id, 0, id, 0, 0, 0, false, false, 0, 0, 0⟩
structure Ok (s : Ld) : Prop where
  a : s.a.ok
  iu : 0 ≤ s.iu ∧ s.iu ≤ 127
  tk : 0 ≤ s.tk ∧ s.tk ≤ 3
  lk : 0 ≤ s.lk ∧ s.lk ≤ 3
def bare (s : Ld) : Bool := decide (s.ip = 0) && decide (s.iu = 0)
def set (s : Ld) (m : Nat) : Ld := if m = 1 then { s with mode := 1 } else if m = 0 then { s with mode := 0, iu := if s.iu = 0 then s.ip else s.iu } else s
def pickK (s : Ld) (part : Int) (n : Nat) : Int := if part = (if part = 0 then 0 else s.tk) ∧ s.a.nth part = n then (if part = 0 then 0 else s.tk) + 1 else 0
def pickS (s : Ld) (part : Int) (n : Nat) : Ld := if s.pickK part n = 4 then { s with tk := 0, mode := 1 } else { s with tk := s.pickK part n }
def pickB (s : Ld) (part : Int) (n : Nat) : Bool := decide (s.pickK part n = 4)
def scanQ (s : Ld) (q : F8) : Bool := decide (q.b5.toNat ≤ 31) && decide (q.b6.toNat ≤ 3) && decide (q.b7.toNat ≤ 3) && decide ((q.b6.toNat : Int) = s.lk) && hiE (s.a.nth s.lk) (numq q) q.b5.toNat
def scanS (s : Ld) (q : F8) : Ld :=
  if q.b5.toNat = 128 then { s with lk := 0 }
  else if s.scanQ q then (if q.b5.toNat = 0 then (if q.b7.toNat < q.b6.toNat then { s with lk := 0, mode := 1 } else { s with lk := (q.b7.toNat : Int) }) else s)
  else s
def scanB (s : Ld) (q : F8) : Bool := decide (q.b5.toNat = 128) || s.scanQ q
def confS (s : Ld) (q : F8) : Ld :=
  if q.b0.toNat = 17 then (if Ls.goodId q.b1.toNat then { s with ip := ((q.b1.toNat % 255 : Nat) : Int) } else s)
  else if q.b0.toNat = 19 then (if Ls.goodRate q.b1.toNat q.b2.toNat then { s with rp := (q.b2.toNat : Int) } else s)
  else if q.b0.toNat = 21 then { s with ru := s.rp }
  else if q.b0.toNat = 23 then (if s.fails then s else { s with si := s.ip, sr := s.rp, has := true })
  else s
def confA (s : Ld) (q : F8) : F8 × Bool :=
  if q.b0.toNat = 17 then (ordF 17 (if Ls.goodId q.b1.toNat then 0 else 1), true)
  else if q.b0.toNat = 19 then (ordF 19 (if Ls.goodRate q.b1.toNat q.b2.toNat then 0 else 1), true)
  else if q.b0.toNat = 23 then (ordF 23 (if s.fails then 2 else 0), true)
  else if 90 ≤ q.b0.toNat ∧ q.b0.toNat ≤ 93 then (ordF q.b0.toNat (s.a.nth ((q.b0.toNat : Int) - 90)), true)
  else if q.b0.toNat = 94 then (ordF 94 (if s.iu = 0 then 255 else s.iu.toNat), true)
  else (F8.nul, false)
def takeS (s : Ld) (q : F8) : Ld :=
  if q.b0.toNat = 4 then s.set q.b1.toNat else if q.b0.toNat = 76 ∧ s.bare = true then s else if s.mode = 1 then s.confS q
  else if 64 ≤ q.b0.toNat ∧ q.b0.toNat < 68 then s.pickS ((q.b0.toNat : Int) - 64) (numq q) else if q.b0.toNat = 81 ∧ s.bare = true then s.scanS q else s
def takeA (s : Ld) (q : F8) : F8 × Bool :=
  if q.b0.toNat = 4 then (F8.nul, false) else if q.b0.toNat = 76 ∧ s.bare = true then (ordF 80 0, true) else if s.mode = 1 then s.confA q
  else if 64 ≤ q.b0.toNat ∧ q.b0.toNat < 68 then (if s.pickB ((q.b0.toNat : Int) - 64) (numq q) then (ordF 68 0, true) else (F8.nul, false))
  else if q.b0.toNat = 81 ∧ s.bare = true then (if s.scanB q then (ordF 79 0, true) else (F8.nul, false)) else (F8.nul, false)
def re (s : Ld) : Ld :=
  if s.has then { s with mode := 0, tk := 0, lk := 0, ip := s.si, rp := s.sr, ru := s.sr, iu := s.si } else { s with mode := 0, tk := 0, lk := 0, iu := s.ip }
end Ld
end Go.Proofs.Ythbmbabndhpdkaa
