/- Contracts of a reader's next, skip and bit. -/
import Derived.Test.YtfddoindcmdooaaBld2
import Derived.Test.YtfddoindcmdooaaMathR
import Derived.Deep.QuietTactic
import Derived.BigQuiet
import Derived.WalkSmall
namespace Go.Proofs.Ytfddoindcmdooaa
open Go.RowKit Go.Proofs.Bits
set_option linter.unusedVariables false
set_option maxRecDepth 1000000

/-- Whatever stood below g stands, and whatever stood above it but for rows of bytes. -/
def Kp (g : Nat) (w w' : World) : Prop := Below g w w' ∧ Lib.OthersKept 5 (some g) w w'
theorem Kp.refl (g : Nat) (w : World) : Kp g w w := ⟨Below.refl g w, Lib.OthersKept.refl _ _ w⟩
theorem Kp.trans {g : Nat} {a b c : World} (h : Kp g a b) (k : Kp g b c) : Kp g a c := ⟨h.1.trans k.1, h.2.trans k.2⟩
theorem Kp.setCell {g : Nat} {a w : World} (h : Kp g a w) {p : Addr} (hp : p.block = g) (v : Value) : Kp g a (w.setCell p v) := ⟨h.1.setCell (by omega) v, h.2.setCell p hp v⟩
theorem Kp.drewN {g : Nat} {a w : World} (h : Kp g a w) (n : Nat) : Kp g a (w.drewN n) := by
  induction n with
  | zero => exact h
  | succ n ih => exact ⟨ih.1.drew, ih.2.drew⟩
theorem Kp.alloc {g : Nat} {a w : World} (h : Kp g a w) (hg : g ≤ w.heap.size) (o : Obj) : Kp g a (w.alloc o) := ⟨h.1.alloc hg o, h.2.alloc o⟩
theorem Kp.setNew {g : Nat} {a w : World} (h : Kp g a w) {p : Addr} (hp : a.heap.size ≤ p.block) (hg : g ≤ p.block) (v : Value) : Kp g a (w.setCell p v) := by
  refine ⟨h.1.setCell hg v, fun k x hk hb hx => ?_⟩
  have hlt : k < a.heap.size := (Array.getElem?_eq_some_iff.1 hk).1
  rw [Below.heap_setCell _ _ _ _ (by omega)]
  exact h.2 k x hk hb hx

theorem Bld.set {T : TypeId} {off B g i : Nat} {cs : Array Value} {l : List UInt8} {w : World} (h : Bld T off B g cs l w) (hT : T ≠ 5) (h1 : i ≠ off) (h2 : i ≠ off + 1) (v : Value) :
    Bld T off B g (cs.setIfInBounds i v) l (w.setCell ⟨g, i, none⟩ v) := by
  obtain ⟨hB, hg, hp, u, hu, hown⟩ := h
  have hne := Lib.ownBlock_neF hown hg hT
  refine ⟨hB, ?_, ?_, u, ?_, ?_⟩
  · simp [World.setCell, Array.getElem?_modify, hg]
  · rw [Array.getElem?_setIfInBounds_ne h1]; exact hp
  · rw [Array.getElem?_setIfInBounds_ne h2]; exact hu
  · exact hown.kept (row := some g) ⟨rfl, rfl, rfl, by simp [World.setCell], fun k _ hk => Below.heap_setCell _ _ _ _ (fun e => hk (by simp [e]))⟩ (Or.inr hne)

section
variable {t : List UInt8} {s : RS} {g : Nat} {w : World}

/-- The bit at the next place. -/
def nextS (t : List UInt8) : RM UInt8 := fun s => match t[s.pos]? with
  | none => .error (s.pos, 3)
  | some b => .ok (b, { s with pos := s.pos + 1 })
def u8V (b : UInt8) : Value := .int .u8 b.toNat

theorem below_drewN {B : Nat} {a w : World} (h : Below B a w) (n : Nat) : Below B a (w.drewN n) := by
  induction n with
  | zero => exact h
  | succ n ih => exact ih.drew
/-- A bit that is left out. -/
def skipS (t : List UInt8) : RM Unit := fun s => match t[s.pos]? with
  | none => .error (s.pos, 3)
  | some b => if b = s.lev then .error (s.pos, 20) else .ok ((), ⟨s.pos + 1, b, 1, s.seen⟩)
def unitV (_ : Unit) : Value := .tuple #[]

theorem u8_ne {b c : UInt8} (h : b ≠ c) : ((b.toNat : Int) == (c.toNat : Int)) = false := by
  have : b.toNat ≠ c.toNat := fun e => h (UInt8.toNat_inj.1 e)
  simp; omega

/-- The part of bit ahead of what is left out. -/
theorem bitS_none (h : ¬ s.pos < t.length) : bitS t s = .error (s.pos, 3) := by simp [bitS, h]
theorem bitS_open {b : UInt8} (h : t[s.pos]? = some b) (hr : ¬ rowR s b = 5) : bitS t s = .ok (b, ⟨s.pos + 1, b, rowR s b, s.seen ++ [b]⟩) := by simp [bitS, h, hr]
theorem bitS_full {b : UInt8} (h : t[s.pos]? = some b) (hr : rowR s b = 5) : bitS t s = bindR (skipS t) (fun _ s' => .ok (b, { s' with seen := s'.seen ++ [b] })) ⟨s.pos + 1, b, 5, s.seen⟩ := by
  simp only [bitS, h, hr, if_true, bindR, skipS]
  cases t[s.pos + 1]? with
  | none => rfl
  | some c =>
    by_cases hcb : c = b
    · simp [hcb]
    · simp [hcb]

theorem bitS_row {b : UInt8} {s' : RS} (h : bitS t s = .ok (b, s')) (hrow : s.row ≤ 4) : s'.row ≤ 4 := by
  unfold bitS at h
  split at h
  · cases h
  · split at h
    · split at h
      · cases h
      · split at h
        · cases h
        · simp only [Except.ok.injEq, Prod.mk.injEq] at h; rw [← h.2]; simp
    · simp only [Except.ok.injEq, Prod.mk.injEq] at h; rw [← h.2]
      rename_i h5
      simp only [rowR] at h5 ⊢
      split at h5
      · rename_i e; rw [if_pos e]; omega
      · rename_i e; rw [if_neg e]; omega
theorem takeS_row (n : Nat) : ∀ {s s' : RS} {bs : List UInt8}, takeS t n s = .ok (bs, s') → s.row ≤ 4 → s'.row ≤ 4 := by
  induction n with
  | zero => intro s s' bs h hr; simp only [takeS, retR, Except.ok.injEq, Prod.mk.injEq] at h; rw [← h.2]; exact hr
  | succ n ih =>
    intro s s' bs h hr
    cases h1 : takeS t n s with
    | error f => rw [takeS, bindR_error h1] at h; cases h
    | ok p =>
      obtain ⟨b1, s1⟩ := p
      cases h2 : bitS t s1 with
      | error f => rw [takeS_fault h1 h2] at h; cases h
      | ok q =>
        obtain ⟨b, s2⟩ := q
        rw [takeS_next h1 h2] at h
        simp only [Except.ok.injEq, Prod.mk.injEq] at h
        rw [← h.2]; exact bitS_row h2 (ih h1 hr)
end
end Go.Proofs.Ytfddoindcmdooaa
