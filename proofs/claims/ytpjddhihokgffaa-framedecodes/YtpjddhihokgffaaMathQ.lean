/- Stuffed bits read late: what is left out is left out ahead of the next bit. Plain facts. -/
import Derived.Test.YtpjddhihokgffaaMathR
namespace Go.Proofs.Bits
set_option linter.unusedVariables false
set_option maxRecDepth 1000000

def rawS (t : List UInt8) : RM UInt8 := fun s => match t[s.pos]? with
  | none => .error (s.pos, 3)
  | some b => .ok (b, ⟨s.pos + 1, b, rowR s b, s.seen ++ [b]⟩)
def skipL (t : List UInt8) : RM Unit := fun s => if s.row = 5 then (match t[s.pos]? with
  | none => .error (s.pos, 3)
  | some b => if b = s.lev then .error (s.pos, 20) else .ok ((), ⟨s.pos + 1, b, 1, s.seen⟩)) else .ok ((), s)
def bitL (t : List UInt8) : RM UInt8 := bindR (skipL t) fun _ => rawS t
def takeL (t : List UInt8) : Nat → RM (List UInt8)
  | 0 => retR []
  | n + 1 => bindR (takeL t n) fun bs => bindR (bitL t) fun b => retR (bs ++ [b])

theorem bindR_assoc {α β γ : Type} (m : RM α) (k : α → RM β) (h : β → RM γ) : bindR (bindR m k) h = bindR m fun a => bindR (k a) h := by
  funext s
  unfold bindR
  cases m s with
  | error f => rfl
  | ok q => rfl
theorem ret_bindR {α β : Type} (a : α) (k : α → RM β) : bindR (retR a) k = k a := rfl
theorem bindR_ret {α : Type} (m : RM α) : bindR m retR = m := by
  funext s
  unfold bindR
  cases m s with
  | error f => rfl
  | ok q => rfl
/-- What is read late, and then what is to be left out, is what is to be left out, and then what is read at once. -/
def Sim {α : Type} (t : List UInt8) (mL mE : RM α) : Prop := bindR mL (fun a => bindR (skipL t) fun _ => retR a) = bindR (skipL t) fun _ => mE
theorem sim_then {α β : Type} {t : List UInt8} {mL mE : RM α} (h : Sim t mL mE) (k : α → RM β) : bindR mL (fun a => bindR (skipL t) fun _ => k a) = bindR (skipL t) fun _ => bindR mE k := by
  have := congrArg (fun m => bindR m k) h
  simp only [bindR_assoc, ret_bindR] at this
  exact this
theorem sim_ret {α : Type} (t : List UInt8) (a : α) : Sim t (retR a) (retR a) := rfl
theorem sim_bind {α β : Type} {t : List UInt8} {mL mE : RM α} {kL kE : α → RM β} (h : Sim t mL mE) (hk : ∀ a, Sim t (kL a) (kE a)) : Sim t (bindR mL kL) (bindR mE kE) := by
  unfold Sim
  rw [bindR_assoc]
  have : (fun a => bindR (kL a) fun b => bindR (skipL t) fun _ => retR b) = fun a => bindR (skipL t) fun _ => kE a := funext fun a => hk a
  rw [this]
  exact sim_then h kE
theorem sim_ite {α : Type} {t : List UInt8} {c : Prop} [Decidable c] {aL aE bL bE : RM α} (h1 : Sim t aL aE) (h2 : Sim t bL bE) : Sim t (if c then aL else bL) (if c then aE else bE) := by
  by_cases h : c
  · rw [if_pos h, if_pos h]; exact h1
  · rw [if_neg h, if_neg h]; exact h2
theorem bitS_raw (t : List UInt8) : bitS t = bindR (rawS t) fun b => bindR (skipL t) fun _ => retR b := by
  funext s
  unfold bitS bindR rawS
  cases t[s.pos]? with
  | none => rfl
  | some b =>
    simp only [skipL]
    by_cases h5 : rowR s b = 5
    · simp only [h5, if_true]
      cases t[s.pos + 1]? with
      | none => rfl
      | some c =>
        by_cases hc : c = b
        · simp [hc]
        · simp [hc, retR]
    · simp [h5, retR]
theorem sim_bit (t : List UInt8) : Sim t (bitL t) (bitS t) := by
  unfold Sim bitL
  rw [bindR_assoc, bitS_raw]
theorem sim_take (t : List UInt8) (n : Nat) : Sim t (takeL t n) (takeS t n) := by
  induction n with
  | zero => exact sim_ret t []
  | succ n ih => exact sim_bind ih fun bs => sim_bind (sim_bit t) fun b => sim_ret t _
/-- The field, read late. -/
def fieldL (t : List UInt8) : RM (Nat × Bool × Bool) :=
  bindR (takeL t 11) fun a => bindR (bitL t) fun r => bindR (bitL t) fun x =>
    if x = 49 then bindR (takeL t 18) fun b => bindR (bitL t) fun r2 => bindR (bitL t) fun _ => bindR (bitL t) fun _ => retR (val a * 262144 + val b, true, decide (r2 = 49))
    else bindR (bitL t) fun _ => retR (val a, false, decide (r = 49))
theorem sim_field (t : List UInt8) : Sim t (fieldL t) (fieldS t) :=
  sim_bind (sim_take t 11) fun a => sim_bind (sim_bit t) fun r => sim_bind (sim_bit t) fun x => sim_ite
    (sim_bind (sim_take t 18) fun b => sim_bind (sim_bit t) fun r2 => sim_bind (sim_bit t) fun _ => sim_bind (sim_bit t) fun _ => sim_ret t _)
    (sim_bind (sim_bit t) fun _ => sim_ret t _)
def bytesLz (t : List UInt8) : Nat → RM (List UInt8)
  | 0 => retR []
  | n + 1 => bindR (bytesLz t n) fun ds => bindR (takeL t 8) fun b => retR (ds ++ [(val b).toUInt8])
theorem sim_bytes (t : List UInt8) (n : Nat) : Sim t (bytesLz t n) (bytesS t n) := by
  induction n with
  | zero => exact sim_ret t []
  | succ n ih => exact sim_bind ih fun ds => sim_bind (sim_take t 8) fun b => sim_ret t _
def sumLz (t : List UInt8) (f : Told) : RM Told := fun s =>
  bindR (takeL t 15) (fun c => bindR (skipL t) fun _ s2 => if val c = crc s.seen then .ok (f, s2) else .error (s2.pos, 21)) s
theorem skipL_seen {t : List UInt8} {s s' : RS} (h : skipL t s = .ok ((), s')) : s'.seen = s.seen := by
  unfold skipL at h
  split at h
  · split at h
    · cases h
    · split at h
      · cases h
      · simp only [Except.ok.injEq, Prod.mk.injEq] at h; rw [← h.2]
  · simp only [Except.ok.injEq, Prod.mk.injEq] at h; rw [← h.2]
theorem sum_late (t : List UInt8) (f : Told) : sumLz t f = bindR (skipL t) fun _ => sumS t f := by
  funext s
  have h := congrFun (sim_then (sim_take t 15) (fun c s2 => if val c = crc s.seen then (.ok (f, s2) : Except Flt (Told × RS)) else .error (s2.pos, 21))) s
  refine h.trans ?_
  cases hs : skipL t s with
  | error e => rw [bindR_error hs, bindR_error hs]
  | ok q =>
    obtain ⟨u, s1⟩ := q
    rw [bindR_ok hs, bindR_ok hs]
    unfold sumS
    rw [skipL_seen hs]
/-- The body, read late, from its second bit on. -/
def restL (t : List UInt8) : RM Told :=
  bindR (fieldL t) fun h => bindR (takeL t 4) fun l => bindR (bytesLz t (nOf h.2.2 (val l))) fun ds => sumLz t ⟨h.1, h.2.1, h.2.2, val l, ds⟩
def restS (t : List UInt8) : RM Told :=
  bindR (fieldS t) fun h => bindR (takeS t 4) fun l => bindR (bytesS t (nOf h.2.2 (val l))) fun ds => sumS t ⟨h.1, h.2.1, h.2.2, val l, ds⟩
theorem rest_late (t : List UInt8) : restL t = bindR (skipL t) fun _ => restS t := by
  unfold restL restS
  have e1 : ∀ (h : Nat × Bool × Bool) (l : List UInt8), (bindR (bytesLz t (nOf h.2.2 (val l))) fun ds => sumLz t ⟨h.1, h.2.1, h.2.2, val l, ds⟩) = bindR (skipL t) fun _ => bindR (bytesS t (nOf h.2.2 (val l))) fun ds => sumS t ⟨h.1, h.2.1, h.2.2, val l, ds⟩ := by
    intro h l
    rw [← sim_then (sim_bytes t _)]
    congr 1
    funext ds
    exact sum_late t _
  have e2 : ∀ (h : Nat × Bool × Bool), (bindR (takeL t 4) fun l => bindR (bytesLz t (nOf h.2.2 (val l))) fun ds => sumLz t ⟨h.1, h.2.1, h.2.2, val l, ds⟩) = bindR (skipL t) fun _ => bindR (takeS t 4) fun l => bindR (bytesS t (nOf h.2.2 (val l))) fun ds => sumS t ⟨h.1, h.2.1, h.2.2, val l, ds⟩ := by
    intro h
    rw [← sim_then (sim_take t 4)]
    congr 1
    funext l
    exact e1 h l
  rw [← sim_then (sim_field t)]
  congr 1
  funext h
  exact e2 h
/-- The body, read late. -/
def bodyL (t : List UInt8) : RM Told := bindR (bitL t) fun b0 => if b0 = 49 then fun _ => .error (0, 22) else restL t
theorem body_late (t : List UInt8) : bodyL t start = bodyS t start := by
  have hs : skipL t start = .ok ((), start) := by simp [skipL, start]
  have hb : bitL t start = rawS t start := bindR_ok hs
  unfold bodyL bodyS
  cases ht : t[0]? with
  | none =>
    have h1 : rawS t start = .error (0, 3) := by unfold rawS; rw [show start.pos = 0 from rfl, ht]
    have h2 : bitS t start = .error (0, 3) := by unfold bitS; rw [show start.pos = 0 from rfl, ht]
    rw [bindR_error (hb.trans h1), bindR_error h2]
  | some b =>
    have hr : rowR start b ≠ 5 := by unfold rowR start; simp only; split <;> omega
    have h1 : rawS t start = .ok (b, ⟨1, b, rowR start b, [b]⟩) := by unfold rawS; rw [show start.pos = 0 from rfl, ht]; rfl
    have h2 : bitS t start = .ok (b, ⟨1, b, rowR start b, [b]⟩) := by
      rw [bitS_raw, bindR_ok h1]
      have : skipL t ⟨1, b, rowR start b, [b]⟩ = .ok ((), ⟨1, b, rowR start b, [b]⟩) := by simp [skipL, hr]
      rw [bindR_ok this]; rfl
    have h3 : skipL t ⟨1, b, rowR start b, [b]⟩ = .ok ((), ⟨1, b, rowR start b, [b]⟩) := by simp [skipL, hr]
    rw [bindR_ok (hb.trans h1), bindR_ok h2]
    by_cases h : b = 49
    · rw [if_pos h, if_pos h]
    · rw [if_neg h, if_neg h, rest_late, bindR_ok h3]; rfl
end Go.Proofs.Bits
