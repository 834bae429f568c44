/- Stuffed bits that are read one by one: plain facts, no program is named here. -/
import Derived.Test.YtffajokpfobalaaMathN
namespace Go.Proofs.Bits

/-- Where a reader stands: the next place, the level of the last bits and how many, what was read. -/
structure RS where
  pos : Nat
  lev : UInt8
  row : Nat
  seen : List UInt8

abbrev Flt := Nat × Int
abbrev RM (α : Type) := RS → Except Flt (α × RS)
def bindR {α β : Type} (m : RM α) (k : α → RM β) : RM β := fun s => match m s with
  | .error f => .error f
  | .ok (a, s') => k a s'
def retR {α : Type} (a : α) : RM α := fun s => .ok (a, s)

theorem bindR_ok {α β : Type} {m : RM α} {k : α → RM β} {s s' : RS} {a : α} (h : m s = .ok (a, s')) : bindR m k s = k a s' := by simp [bindR, h]
theorem bindR_error {α β : Type} {m : RM α} {k : α → RM β} {s : RS} {f : Flt} (h : m s = .error f) : bindR m k s = .error f := by simp [bindR, h]

def rowR (s : RS) (b : UInt8) : Nat := if b = s.lev then s.row + 1 else 1
/-- One bit of the body: behind five of one level a bit is left out. -/
def bitS (t : List UInt8) : RM UInt8 := fun s => match t[s.pos]? with
  | none => .error (s.pos, 3)
  | some b =>
    if rowR s b = 5 then match t[s.pos + 1]? with
      | none => .error (s.pos + 1, 3)
      | some c => if c = b then .error (s.pos + 1, 20) else .ok (b, ⟨s.pos + 2, c, 1, s.seen ++ [b]⟩)
    else .ok (b, ⟨s.pos + 1, b, rowR s b, s.seen ++ [b]⟩)
/-- So many bits of it. -/
def takeS (t : List UInt8) : Nat → RM (List UInt8)
  | 0 => retR []
  | n + 1 => bindR (takeS t n) fun bs => bindR (bitS t) fun b => retR (bs ++ [b])
theorem takeS_next {t : List UInt8} {n : Nat} {s s1 s2 : RS} {bs : List UInt8} {b : UInt8} (h : takeS t n s = .ok (bs, s1)) (hb : bitS t s1 = .ok (b, s2)) : takeS t (n + 1) s = .ok (bs ++ [b], s2) := by
  rw [takeS, bindR_ok h, bindR_ok hb]; rfl
theorem takeS_fault {t : List UInt8} {n : Nat} {s s1 : RS} {bs : List UInt8} {f : Flt} (h : takeS t n s = .ok (bs, s1)) (hb : bitS t s1 = .error f) : takeS t (n + 1) s = .error f := by
  rw [takeS, bindR_ok h, bindR_error hb]
theorem takeS_stays {t : List UInt8} {n : Nat} {s : RS} {f : Flt} (h : takeS t n s = .error f) (m : Nat) : takeS t (n + m) s = .error f := by
  induction m with
  | zero => exact h
  | succ m ih => rw [Nat.add_succ, takeS, bindR_error ih]

/-- What a reader's state keeps to. -/
def RS.ok (t : List UInt8) (s : RS) : Prop := s.pos ≤ t.length ∧ s.row ≤ 5 ∧ s.seen.length ≤ s.pos ∧ s.seen.all isBit = true

/-- What is fixed behind the body. -/
def fixS (t : List UInt8) (lv : UInt8) (er : Int) : RM Unit := fun s => match t[s.pos]? with
  | none => .error (s.pos, 3)
  | some b => if b = lv then .ok ((), { s with pos := s.pos + 1 }) else .error (s.pos, er)
def fixN (t : List UInt8) (lv : UInt8) (er : Int) : Nat → RM Unit
  | 0 => retR ()
  | n + 1 => bindR (fixN t lv er n) fun _ => fixS t lv er
theorem fixN_next {t : List UInt8} {lv : UInt8} {er : Int} {n : Nat} {s s1 s2 : RS} (h : fixN t lv er n s = .ok ((), s1)) (hb : fixS t lv er s1 = .ok ((), s2)) : fixN t lv er (n + 1) s = .ok ((), s2) := by
  rw [fixN, bindR_ok h]; exact hb
theorem fixN_fault {t : List UInt8} {lv : UInt8} {er : Int} {n : Nat} {s s1 : RS} {f : Flt} (h : fixN t lv er n s = .ok ((), s1)) (hb : fixS t lv er s1 = .error f) : fixN t lv er (n + 1) s = .error f := by
  rw [fixN, bindR_ok h]; exact hb
theorem fixN_stays {t : List UInt8} {lv : UInt8} {er : Int} {n : Nat} {s : RS} {f : Flt} (h : fixN t lv er n s = .error f) (m : Nat) : fixN t lv er (n + m) s = .error f := by
  induction m with
  | zero => exact h
  | succ m ih => rw [Nat.add_succ, fixN, bindR_error ih]
def endS (t : List UInt8) : RM Unit := bindR (fixS t 49 22) fun _ => bindR (fixS t 48 23) fun _ => fixN t 49 22 8

/-- The arbitration field and what is reserved behind it: the ID, whether extended, whether remote. -/
def fieldS (t : List UInt8) : RM (Nat × Bool × Bool) :=
  bindR (takeS t 11) fun a => bindR (bitS t) fun r => bindR (bitS t) fun x =>
    if x = 49 then bindR (takeS t 18) fun b => bindR (bitS t) fun r2 => bindR (bitS t) fun _ => bindR (bitS t) fun _ => retR (val a * 262144 + val b, true, decide (r2 = 49))
    else bindR (bitS t) fun _ => retR (val a, false, decide (r = 49))
def nOf (rem : Bool) (len : Nat) : Nat := if rem then 0 else min len 8
def bytesS (t : List UInt8) : Nat → RM (List UInt8)
  | 0 => retR []
  | n + 1 => bindR (bytesS t n) fun ds => bindR (takeS t 8) fun b => retR (ds ++ [(val b).toUInt8])
theorem bytesS_next {t : List UInt8} {n : Nat} {s s1 s2 : RS} {ds b : List UInt8} (h : bytesS t n s = .ok (ds, s1)) (hb : takeS t 8 s1 = .ok (b, s2)) : bytesS t (n + 1) s = .ok (ds ++ [(val b).toUInt8], s2) := by
  rw [bytesS, bindR_ok h, bindR_ok hb]; rfl
theorem bytesS_fault {t : List UInt8} {n : Nat} {s s1 : RS} {ds : List UInt8} {f : Flt} (h : bytesS t n s = .ok (ds, s1)) (hb : takeS t 8 s1 = .error f) : bytesS t (n + 1) s = .error f := by
  rw [bytesS, bindR_ok h, bindR_error hb]
theorem bytesS_stays {t : List UInt8} {n : Nat} {s : RS} {f : Flt} (h : bytesS t n s = .error f) (m : Nat) : bytesS t (n + m) s = .error f := by
  induction m with
  | zero => exact h
  | succ m ih => rw [Nat.add_succ, bytesS, bindR_error ih]
/-- What a frame's bits tell: its ID, whether extended, whether remote, Len, its bytes. -/
structure Told where
  id : Nat
  ext : Bool
  rem : Bool
  len : Nat
  ds : List UInt8
def sumS (t : List UInt8) (f : Told) : RM Told := fun s =>
  bindR (takeS t 15) (fun c s2 => if val c = crc s.seen then .ok (f, s2) else .error (s2.pos, 21)) s
def bodyS (t : List UInt8) : RM Told :=
  bindR (bitS t) fun b0 => if b0 = 49 then fun _ => .error (0, 22) else
    bindR (fieldS t) fun h => bindR (takeS t 4) fun l => bindR (bytesS t (nOf h.2.2 (val l))) fun ds =>
      sumS t ⟨h.1, h.2.1, h.2.2, val l, ds⟩
def start : RS := ⟨0, 0, 0, []⟩
def decS (t : List UInt8) : Except Flt (Told × RS) := bindR (bodyS t) (fun f => bindR (endS t) fun _ => retR f) start

section
variable {t : List UInt8} {s s' : RS}
theorem bitS_bit {b : UInt8} (h : bitS t s = .ok (b, s')) : b ∈ t := by
  unfold bitS at h
  split at h
  · cases h
  · rename_i c hc
    have hm : c ∈ t := List.mem_of_getElem? hc
    split at h
    · split at h
      · cases h
      · split at h
        · cases h
        · simp only [Except.ok.injEq, Prod.mk.injEq] at h; rw [← h.1]; exact hm
    · simp only [Except.ok.injEq, Prod.mk.injEq] at h; rw [← h.1]; exact hm
theorem takeS_mem (n : Nat) : ∀ {s s' : RS} {bs : List UInt8}, takeS t n s = .ok (bs, s') → bs.length = n ∧ ∀ b ∈ bs, b ∈ t := by
  induction n with
  | zero => intro s s' bs h; simp only [takeS, retR, Except.ok.injEq, Prod.mk.injEq] at h; rw [← h.1]; simp
  | succ n ih =>
    intro s s' bs h
    cases h1 : takeS t n s with
    | error f => rw [takeS, bindR_error h1] at h; cases h
    | ok p =>
      obtain ⟨b1, s1⟩ := p
      cases h2 : bitS t s1 with
      | error f => rw [takeS_fault h1 h2] at h; cases h
      | ok q =>
        obtain ⟨b, s2⟩ := q
        rw [takeS_next h1 h2] at h
        simp only [Except.ok.injEq, Prod.mk.injEq] at h
        obtain ⟨ih1, ih2⟩ := ih h1
        rw [← h.1]
        refine ⟨by simp [ih1], fun c hc => ?_⟩
        rcases List.mem_append.1 hc with hc | hc
        · exact ih2 c hc
        · rw [List.mem_singleton.1 hc]; exact bitS_bit h2
theorem takeS_lt {n : Nat} {bs : List UInt8} (hall : t.all isBit = true) (h : takeS t n s = .ok (bs, s')) : val bs < 2 ^ n := by
  obtain ⟨h1, h2⟩ := takeS_mem n h
  rw [← h1]
  refine val_lt bs ?_
  rw [List.all_eq_true] at hall ⊢
  exact fun b hb => hall b (h2 b hb)
end
end Go.Proofs.Bits
