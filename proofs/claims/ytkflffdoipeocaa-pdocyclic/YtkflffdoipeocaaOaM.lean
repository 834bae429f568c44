/- Process data objects: when one is sent, as plain functions on numbers. -/
import Derived.WalkKit
namespace Go.Proofs.Ytkflffdoipeocaa
open Go.RowKit
set_option linter.unusedVariables false
set_option maxRecDepth 1000000

/-- A sender: its type, its two times, whether it goes, whether something waits, ticks since it was sent (or started), whether it was ever sent, SYNCs since it was started. -/
structure Os where
  typ : Nat
  inh : Nat
  each : Nat
  on : Bool
  waits : Bool
  since : Nat
  sent : Bool
  syncs : Nat
def freeO (t : Int) : Bool := decide (t = 254) || decide (t = 255)
def isO (t : Int) : Bool := decide (0 ≤ t) && decide (t ≤ 240) || freeO t
def frmO (t : Int) (i e : Nat) : Bool := isO t && decide (i ≤ 4294967296) && decide (e ≤ 4294967296)
def Os.free (s : Os) : Bool := freeO s.typ
def Os.quiet (s : Os) : Bool := s.sent && decide (s.since < s.inh)
def Os.snd (s : Os) : Os := ⟨s.typ, s.inh, s.each, s.on, false, 0, true, s.syncs⟩
def Os.pass (s : Os) : Os := ⟨s.typ, s.inh, s.each, s.on, s.waits, s.since + 1, s.sent, s.syncs⟩
def Os.setW (s : Os) (b : Bool) : Os := ⟨s.typ, s.inh, s.each, s.on, b, s.since, s.sent, s.syncs⟩
def Os.setY (s : Os) (n : Nat) : Os := ⟨s.typ, s.inh, s.each, s.on, s.waits, s.since, s.sent, n⟩
def Os.setOn (s : Os) (b : Bool) : Os := ⟨s.typ, s.inh, s.each, b, s.waits, s.since, s.sent, s.syncs⟩
def Os.fresh (s : Os) : Os := ⟨s.typ, s.inh, s.each, true, false, 0, false, 0⟩
def Os.st (b : Bool) (s : Os) : Os := if b && !s.on then s.fresh else s.setOn b
def Os.evO (s : Os) : Bool := s.on && s.free && !s.quiet
def Os.ev (s : Os) : Os := if s.evO then s.snd else s.setW s.on
def Os.syO (s : Os) : Bool := if !s.on || s.free then false else if s.typ = 0 then s.waits else decide ((s.syncs + 1) % s.typ = 0)
def Os.sy (s : Os) : Os := if !s.on || s.free then s else if s.typ = 0 then s.setW false else s.setY (s.syncs + 1)
def Os.due (s : Os) : Bool := decide (0 < s.each) && decide (s.each ≤ s.since)
def Os.tkO (s : Os) : Bool := s.on && s.free && (!s.pass.quiet && (s.waits || s.pass.due))
def Os.tk (s : Os) : Os := if !s.on || !s.free then s else if s.tkO then s.pass.snd else s.pass
/-- What the program's sender keeps of it. -/
def Os.pw (s : Os) : Bool := s.on && s.waits
def Os.pq (s : Os) : Nat := if s.on && s.free && s.sent then s.inh - s.since else 0
def Os.ps (s : Os) : Nat := if s.on then (if s.free then s.since else if s.typ = 0 then 0 else s.syncs % s.typ) else 0
def Os.ok (s : Os) : Prop := isO s.typ = true ∧ s.inh ≤ 4294967296 ∧ s.each ≤ 4294967296
/-- No more than k calls went by. -/
def Os.few (s : Os) (k : Nat) : Prop := s.since ≤ k ∧ s.syncs ≤ k
theorem Os.typ_le {s : Os} (h : s.ok) : s.typ ≤ 255 := by
  have := h.1
  simp [isO, freeO] at this
  omega
theorem Os.free_typ {s : Os} (h : s.free = true) : s.typ ≠ 0 := by
  intro e
  simp [Os.free, freeO, e] at h
section
variable {s : Os}
theorem Os.form_st (b : Bool) : (s.st b).typ = s.typ ∧ (s.st b).inh = s.inh ∧ (s.st b).each = s.each ∧ (s.st b).on = b := by
  unfold Os.st
  split
  · rename_i h
    simp at h
    simp [Os.fresh, h.1]
  · simp [Os.setOn]
theorem Os.form_ev : s.ev.typ = s.typ ∧ s.ev.inh = s.inh ∧ s.ev.each = s.each ∧ s.ev.on = s.on := by
  unfold Os.ev; split <;> simp [Os.snd, Os.setW]
theorem Os.form_sy : s.sy.typ = s.typ ∧ s.sy.inh = s.inh ∧ s.sy.each = s.each ∧ s.sy.on = s.on := by
  unfold Os.sy; repeat' split
  all_goals simp [Os.setY, Os.setW]
theorem Os.form_tk : s.tk.typ = s.typ ∧ s.tk.inh = s.inh ∧ s.tk.each = s.each ∧ s.tk.on = s.on := by
  unfold Os.tk; repeat' split
  all_goals simp [Os.pass, Os.snd]
theorem Os.few_st {k : Nat} (h : s.few k) (b : Bool) : (s.st b).few k := by
  unfold Os.st; split <;> simp_all [Os.few, Os.fresh, Os.setOn]
theorem Os.few_ev {k : Nat} (h : s.few k) : s.ev.few k := by
  unfold Os.ev; split <;> simp_all [Os.few, Os.snd, Os.setW]
theorem Os.few_sy {k : Nat} (h : s.few k) : s.sy.few (k + 1) := by
  obtain ⟨h1, h2⟩ := h
  unfold Os.sy; repeat' split
  all_goals exact ⟨by (try simp only [Os.setW, Os.setY]); omega, by (try simp only [Os.setW, Os.setY]); omega⟩
theorem Os.few_tk {k : Nat} (h : s.few k) : s.tk.few (k + 1) := by
  obtain ⟨h1, h2⟩ := h
  unfold Os.tk; repeat' split
  all_goals exact ⟨by (try simp only [Os.pass, Os.snd]); omega, by (try simp only [Os.pass, Os.snd]); omega⟩
theorem Os.few_mono {k m : Nat} (h : s.few k) (hk : k ≤ m) : s.few m := ⟨Nat.le_trans h.1 hk, Nat.le_trans h.2 hk⟩
theorem Os.ok_of {t : Os} (h : s.ok) (e : t.typ = s.typ ∧ t.inh = s.inh ∧ t.each = s.each ∧ True) : t.ok := by
  obtain ⟨e1, e2, e3, _⟩ := e
  exact ⟨by rw [e1]; exact h.1, by rw [e2]; exact h.2.1, by rw [e3]; exact h.2.2⟩
theorem Os.free_of {t : Os} (e : t.typ = s.typ) : t.free = s.free := by simp [Os.free, e]
end
/-- What happens to a sender: a kind, and whether it is started. -/
def Os.act (kd : Int) (b : Bool) (s : Os) : Os := if kd = 0 then s.ev else if kd = 1 then s.sy else if kd = 2 then s.tk else if kd = 3 then s.st b else s
def Os.actO (kd : Int) (s : Os) : Bool := if kd = 0 then s.evO else if kd = 1 then s.syO else if kd = 2 then s.tkO else false
theorem Os.form_act {s : Os} (kd : Int) (b : Bool) : (s.act kd b).typ = s.typ ∧ (s.act kd b).inh = s.inh ∧ (s.act kd b).each = s.each ∧ True := by
  unfold Os.act
  repeat' split
  · have := Os.form_ev (s := s); exact ⟨this.1, this.2.1, this.2.2.1, trivial⟩
  · have := Os.form_sy (s := s); exact ⟨this.1, this.2.1, this.2.2.1, trivial⟩
  · have := Os.form_tk (s := s); exact ⟨this.1, this.2.1, this.2.2.1, trivial⟩
  · have := Os.form_st (s := s) b; exact ⟨this.1, this.2.1, this.2.2.1, trivial⟩
  · exact ⟨rfl, rfl, rfl, trivial⟩
theorem Os.few_act {s : Os} {k : Nat} (h : s.few k) (kd : Int) (b : Bool) : (s.act kd b).few (k + 1) := by
  unfold Os.act
  repeat' split
  · exact Os.few_mono (Os.few_ev h) (by omega)
  · exact Os.few_sy h
  · exact Os.few_tk h
  · exact Os.few_mono (Os.few_st h b) (by omega)
  · exact Os.few_mono h (by omega)
end Go.Proofs.Ytkflffdoipeocaa
