/- Nodes that are watched, hearts, what is told: as plain numbers. -/
namespace Go.Proofs.Ytceomfefffngaaa
/-- What is told: of which node, what, its state. -/
structure Ne where
  nd : Int
  wh : Int
  st : Int
/-- A node that is watched: its number, its ticks, 0 not there, 1 there, 2 lost, the state of its last beat, ticks since then. -/
structure Wt where
  nd : Int
  tk : Nat
  is : Nat
  st : Int
  si : Nat
/-- What is to be watched. -/
structure Wq where
  nd : Int
  tk : Nat
def isB (b : Nat) : Bool := b == 0 || b == 4 || b == 5 || b == 127
namespace Wt
def of (q : Wq) : Wt := ⟨q.nd, q.tk, 0, 0, 0⟩
def beat (x : Wt) (b : Nat) : Wt := if b = 0 then ⟨x.nd, x.tk, 0, 0, 0⟩ else ⟨x.nd, x.tk, 1, b, 0⟩
def says (x : Wt) (b : Nat) : List Ne := if b = 0 then [⟨x.nd, 0, 0⟩] else if x.is ≠ 1 then [⟨x.nd, 1, b⟩] else if x.st ≠ b then [⟨x.nd, 2, b⟩] else []
def tick (x : Wt) : Wt := if x.is = 1 then (if x.si + 1 = x.tk then ⟨x.nd, x.tk, 2, x.st, x.si + 1⟩ else ⟨x.nd, x.tk, 1, x.st, x.si + 1⟩) else x
def tells (x : Wt) : List Ne := if x.is = 1 ∧ x.si + 1 = x.tk then [⟨x.nd, 3, x.st⟩] else []
structure Ok (x : Wt) : Prop where
  n0 : 1 ≤ x.nd
  n1 : x.nd ≤ 127
  t0 : 1 ≤ x.tk
  t1 : x.tk ≤ 4294967296
  i2 : x.is ≤ 2
  s0 : 0 ≤ x.st
  s1 : x.st ≤ 255
  w1 : x.si ≤ x.tk
  w2 : x.is = 1 → x.si < x.tk
theorem Ok.beat {x : Wt} (h : x.Ok) {b : Nat} (hb : b < 256) : (x.beat b).Ok := by
  obtain ⟨h1, h2, h3, h4, h5, h6, h7, h8, h9⟩ := h
  unfold Wt.beat
  split <;> constructor <;> simp <;> omega
theorem Ok.tick {x : Wt} (h : x.Ok) : x.tick.Ok := by
  obtain ⟨h1, h2, h3, h4, h5, h6, h7, h8, h9⟩ := h
  unfold Wt.tick
  split
  · split
    · constructor <;> simp <;> omega
    · constructor <;> simp <;> omega
  · exact ⟨h1, h2, h3, h4, h5, h6, h7, h8, h9⟩
@[simp] theorem beat_nd (x : Wt) (b : Nat) : (x.beat b).nd = x.nd := by unfold Wt.beat; split <;> rfl
@[simp] theorem beat_tk (x : Wt) (b : Nat) : (x.beat b).tk = x.tk := by unfold Wt.beat; split <;> rfl
@[simp] theorem tick_nd (x : Wt) : x.tick.nd = x.nd := by unfold Wt.tick; split <;> (try split) <;> rfl
@[simp] theorem tick_tk (x : Wt) : x.tick.tk = x.tk := by unfold Wt.tick; split <;> (try split) <;> rfl
end Wt
/-- A node's place. -/
def fw (l : List Wt) (n : Int) : Nat := l.findIdx (fun x => decide (x.nd = n))
def ixw (l : List Wt) (n : Int) : Int := if fw l n < l.length then (fw l n : Int) else -1
theorem fw_le (l : List Wt) (n : Int) : fw l n ≤ l.length := List.findIdx_le_length
theorem fw_hit' (l : List Wt) (n : Int) (k : Nat) (hk : k < l.length) (h : l[k].nd = n) (hb : ∀ j (hj : j < k), l[j].nd ≠ n) : fw l n = k := by
  unfold fw
  rw [List.findIdx_eq hk]
  exact ⟨by simp [h], fun j hj => by simpa using hb j hj⟩
theorem fw_hit (l : List Wt) (n : Int) (k : Nat) (hk : k < l.length) (h : l[k].nd = n) (hb : ∀ j (hj : j < k), l[j].nd ≠ n) : ixw l n = k := by
  unfold ixw
  rw [fw_hit' l n k hk h hb, if_pos hk]
theorem fw_miss (l : List Wt) (n : Int) (hb : ∀ j (hj : j < l.length), l[j].nd ≠ n) : ixw l n = -1 := by
  have : fw l n = l.length := by
    unfold fw
    rw [List.findIdx_eq_length]
    intro x hx
    obtain ⟨j, hj, rfl⟩ := List.getElem_of_mem hx
    simpa using hb j hj
  unfold ixw
  rw [this, if_neg (by omega)]
theorem fw_nd (l : List Wt) (n : Int) (h : fw l n < l.length) : l[fw l n].nd = n := by
  have := List.findIdx_getElem (p := fun x : Wt => decide (x.nd = n)) (xs := l) (w := h)
  exact of_decide_eq_true this
theorem ixw_pos (l : List Wt) (n : Int) (h : fw l n < l.length) : ixw l n = (fw l n : Int) := by unfold ixw; rw [if_pos h]
theorem ixw_neg (l : List Wt) (n : Int) (h : ¬ fw l n < l.length) : ixw l n = -1 := by unfold ixw; rw [if_neg h]
/-- A beat comes. -/
def okW (l : List Wt) (n : Int) : List UInt8 → Bool
  | [c] => decide (fw l n < l.length) && isB c.toNat
  | _ => false
def takeW (l : List Wt) (n : Int) : List UInt8 → List Wt
  | [c] => if isB c.toNat then l.modify (fw l n) (fun x => x.beat c.toNat) else l
  | _ => l
def saysW (l : List Wt) (n : Int) : List UInt8 → List Ne
  | [c] => if h : fw l n < l.length then (if isB c.toNat then l[fw l n].says c.toNat else []) else []
  | _ => []
def tickW (l : List Wt) : List Wt := l.map Wt.tick
def tellsW (l : List Wt) : List Ne := l.flatMap Wt.tells
/-- A state, if it is there. -/
def stW (l : List Wt) (n : Int) : Int := if h : fw l n < l.length then (if l[fw l n].is = 1 then l[fw l n].st else 0) else 0
def isW (l : List Wt) (n : Int) : Bool := if h : fw l n < l.length then decide (l[fw l n].is = 1) else false
def lostW (l : List Wt) : List Int := (l.filter (fun x => decide (x.is = 2))).map Wt.nd
/-- All of them are well, and no two are of one number. -/
structure OkW (l : List Wt) : Prop where
  ok : ∀ x ∈ l, x.Ok
  nd : (l.map Wt.nd).Nodup
theorem nodup_len' : ∀ (k : Nat) (l : List Int), l.Nodup → (∀ x ∈ l, 1 ≤ x ∧ x ≤ (k : Int)) → l.length ≤ k
  | 0, l, _, hb => by
    cases l with
    | nil => simp
    | cons x r => have := hb x (by simp); omega
  | k + 1, l, h, hb => by
    have h1 := nodup_len' k (l.erase ((k + 1 : Nat) : Int)) (h.erase _) (fun x hx => by
      have hx2 := hb x (List.mem_of_mem_erase hx)
      have hne : x ≠ ((k + 1 : Nat) : Int) := fun e => by
        subst e
        exact (List.Nodup.mem_erase_iff h).1 hx |>.1 rfl
      omega)
    rw [List.length_erase] at h1
    split at h1 <;> omega
theorem nodup_len {l : List Int} (h : l.Nodup) (hb : ∀ x ∈ l, 1 ≤ x ∧ x ≤ 127) : l.length ≤ 127 := nodup_len' 127 l h hb
theorem OkW.len {l : List Wt} (h : OkW l) : l.length ≤ 127 := by
  have := nodup_len h.nd (fun x hx => by
    obtain ⟨y, hy, rfl⟩ := List.mem_map.1 hx
    exact ⟨(h.ok y hy).n0, (h.ok y hy).n1⟩)
  simpa using this
theorem takeW_len (l : List Wt) (n : Int) (b : List UInt8) : (takeW l n b).length = l.length := by
  unfold takeW
  split
  · split <;> simp
  · rfl
theorem map_nd_modify (l : List Wt) (i b : Nat) : (l.modify i (fun x => x.beat b)).map Wt.nd = l.map Wt.nd := by
  apply List.ext_getElem?
  intro k
  simp only [List.getElem?_map, List.getElem?_modify]
  cases l[k]? with
  | none => rfl
  | some x => simp; split <;> simp
theorem takeW_nd (l : List Wt) (n : Int) (b : List UInt8) : (takeW l n b).map Wt.nd = l.map Wt.nd := by
  unfold takeW
  split
  · split
    · exact map_nd_modify _ _ _
    · rfl
  · rfl
theorem OkW.take {l : List Wt} (h : OkW l) (n : Int) (b : List UInt8) : OkW (takeW l n b) := by
  refine ⟨?_, by rw [takeW_nd]; exact h.nd⟩
  unfold takeW
  split
  · rename_i c
    split
    · intro x hx
      obtain ⟨k, hk, rfl⟩ := List.getElem_of_mem hx
      rw [List.getElem_modify]
      have hm := h.ok (l[k]'(by simpa using hk)) (List.getElem_mem _)
      split
      · exact hm.beat c.toNat_lt
      · exact hm
    · exact h.ok
  · exact h.ok
theorem tickW_nd (l : List Wt) : (tickW l).map Wt.nd = l.map Wt.nd := by
  unfold tickW
  rw [List.map_map]
  exact List.map_congr_left (fun x _ => Wt.tick_nd x)
theorem OkW.tick {l : List Wt} (h : OkW l) : OkW (tickW l) := by
  refine ⟨fun x hx => ?_, by rw [tickW_nd]; exact h.nd⟩
  obtain ⟨y, hy, rfl⟩ := List.mem_map.1 hx
  exact (h.ok y hy).tick
end Go.Proofs.Ytceomfefffngaaa
