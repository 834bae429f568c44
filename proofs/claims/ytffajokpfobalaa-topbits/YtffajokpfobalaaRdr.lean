/- Contracts of a reader's next, skip and bit. -/
import Derived.Test.YtffajokpfobalaaBld2
import Derived.Test.YtffajokpfobalaaMathR
import Derived.Deep.QuietTactic
import Derived.BigQuiet
import Derived.WalkSmall
namespace Go.Proofs.Ytffajokpfobalaa
open Go.RowKit Go.Proofs.Bits
set_option linter.unusedVariables false
set_option maxRecDepth 1000000

theorem liesR : liesAt Try.prog Try.prog.depth 64 (6 / Try.prog.cellsOf 64) 4 48 1 = true := by kernel_rfl

/-- A reader in block g that stands at s in the text t. -/
def Rd (t : List UInt8) (s : RS) (g : Nat) (w : World) : Prop :=
  s.ok t ∧ ∃ cs, cs.size = 6 ∧ Bld 64 4 g g cs s.seen w ∧ cs[0]? = some (.string ⟨t.toArray⟩) ∧ cs[1]? = some (.int .i64 s.pos) ∧ cs[2]? = some (.int .u8 s.lev.toNat) ∧ cs[3]? = some (.int .i64 s.row)

/-- Whatever stood below g stands, and whatever stood above it but for rows of bytes. -/
def Kp (g : Nat) (w w' : World) : Prop := Below g w w' ∧ Lib.OthersKept 5 (some g) w w'
theorem Kp.refl (g : Nat) (w : World) : Kp g w w := ⟨Below.refl g w, Lib.OthersKept.refl _ _ w⟩
theorem Kp.trans {g : Nat} {a b c : World} (h : Kp g a b) (k : Kp g b c) : Kp g a c := ⟨h.1.trans k.1, h.2.trans k.2⟩
theorem Kp.setCell {g : Nat} {a w : World} (h : Kp g a w) {p : Addr} (hp : p.block = g) (v : Value) : Kp g a (w.setCell p v) := ⟨h.1.setCell (by omega) v, h.2.setCell p hp v⟩
theorem Kp.drewN {g : Nat} {a w : World} (h : Kp g a w) (n : Nat) : Kp g a (w.drewN n) := by
  induction n with
  | zero => exact h
  | succ n ih => exact ⟨ih.1.drew, ih.2.drew⟩
theorem Kp.alloc {g : Nat} {a w : World} (h : Kp g a w) (hg : g ≤ w.heap.size) (o : Obj) : Kp g a (w.alloc o) := ⟨h.1.alloc hg o, h.2.alloc o⟩
theorem Kp.setNew {g : Nat} {a w : World} (h : Kp g a w) {p : Addr} (hp : a.heap.size ≤ p.block) (hg : g ≤ p.block) (v : Value) : Kp g a (w.setCell p v) := by
  refine ⟨h.1.setCell hg v, fun k x hk hb hx => ?_⟩
  have hlt : k < a.heap.size := (Array.getElem?_eq_some_iff.1 hk).1
  rw [Below.heap_setCell _ _ _ _ (by omega)]
  exact h.2 k x hk hb hx

def faultV (f : Flt) : Value := .iface 61 (.agg #[.int .i64 f.1, .int .i64 f.2])
def PostR {α : Type} (g : Nat) (t : List UInt8) (w : World) (enc : α → Value) (r : Except Flt (α × RS)) (e : Ending) (w' : World) : Prop :=
  match r with
  | .error f => e = .panicked [{ v := faultV f, recovered := false }] ∧ Kp g w w'
  | .ok (a, s') => e = .returned (enc a) ∧ Rd t s' g w' ∧ Kp g w w'

theorem Bld.set {T : TypeId} {off B g i : Nat} {cs : Array Value} {l : List UInt8} {w : World} (h : Bld T off B g cs l w) (hT : T ≠ 5) (h1 : i ≠ off) (h2 : i ≠ off + 1) (v : Value) :
    Bld T off B g (cs.setIfInBounds i v) l (w.setCell ⟨g, i, none⟩ v) := by
  obtain ⟨hB, hg, hp, u, hu, hown⟩ := h
  have hne := Lib.ownBlock_neF hown hg hT
  refine ⟨hB, ?_, ?_, u, ?_, ?_⟩
  · simp [World.setCell, Array.getElem?_modify, hg]
  · rw [Array.getElem?_setIfInBounds_ne h1]; exact hp
  · rw [Array.getElem?_setIfInBounds_ne h2]; exact hu
  · exact hown.kept (row := some g) ⟨rfl, rfl, rfl, by simp [World.setCell], fun k _ hk => Below.heap_setCell _ _ _ _ (fun e => hk (by simp [e]))⟩ (Or.inr hne)

section
variable {t : List UInt8} {s : RS} {g : Nat} {w : World}

theorem Rd.cells (h : Rd t s g w) : w.cell? ⟨g, 0, none⟩ = some (.string ⟨t.toArray⟩) ∧ w.cell? ⟨g, 1, none⟩ = some (.int .i64 s.pos) ∧ w.cell? ⟨g, 2, none⟩ = some (.int .u8 s.lev.toNat) ∧ w.cell? ⟨g, 3, none⟩ = some (.int .i64 s.row) ∧ ∀ k, w.frozen? ⟨g, k, none⟩ = false := by
  obtain ⟨_, cs, _, hB, h0, h1, h2, h3⟩ := h
  have hg := hB.2.1
  refine ⟨?_, ?_, ?_, ?_, fun k => Lib.frozen_of_heap hg k⟩
  all_goals rw [Lib.cell_of_heap hg]; assumption

theorem Rd.lt (h : Rd t s g w) : g < w.heap.size := h.2.elim fun _ h => h.2.1.lt

theorem Rd.pos {p : Nat} (h : Rd t s g w) (hp : p ≤ t.length) (hs : s.pos ≤ p) : Rd t { s with pos := p } g (w.setCell ⟨g, 1, none⟩ (.int .i64 p)) := by
  obtain ⟨⟨o1, o2, o3, o4⟩, cs, hc, hB, h0, h1, h2, h3⟩ := h
  refine ⟨⟨hp, o2, Nat.le_trans o3 hs, o4⟩, cs.setIfInBounds 1 (.int .i64 p), by simp [hc], hB.set (by decide) (by decide) (by decide) _, ?_, ?_, ?_, ?_⟩
  · rw [Array.getElem?_setIfInBounds_ne (by decide)]; exact h0
  · rw [Array.getElem?_setIfInBounds_self_of_lt (by omega)]
  · rw [Array.getElem?_setIfInBounds_ne (by decide)]; exact h2
  · rw [Array.getElem?_setIfInBounds_ne (by decide)]; exact h3
theorem Rd.lev (h : Rd t s g w) (c : UInt8) : Rd t { s with lev := c } g (w.setCell ⟨g, 2, none⟩ (.int .u8 c.toNat)) := by
  obtain ⟨ok, cs, hc, hB, h0, h1, h2, h3⟩ := h
  refine ⟨ok, cs.setIfInBounds 2 (.int .u8 c.toNat), by simp [hc], hB.set (by decide) (by decide) (by decide) _, ?_, ?_, ?_, ?_⟩
  · rw [Array.getElem?_setIfInBounds_ne (by decide)]; exact h0
  · rw [Array.getElem?_setIfInBounds_ne (by decide)]; exact h1
  · rw [Array.getElem?_setIfInBounds_self_of_lt (by omega)]
  · rw [Array.getElem?_setIfInBounds_ne (by decide)]; exact h3
theorem Rd.row {r : Nat} (h : Rd t s g w) (hr : r ≤ 5) : Rd t { s with row := r } g (w.setCell ⟨g, 3, none⟩ (.int .i64 r)) := by
  obtain ⟨⟨o1, o2, o3, o4⟩, cs, hc, hB, h0, h1, h2, h3⟩ := h
  refine ⟨⟨o1, hr, o3, o4⟩, cs.setIfInBounds 3 (.int .i64 r), by simp [hc], hB.set (by decide) (by decide) (by decide) _, ?_, ?_, ?_, ?_⟩
  · rw [Array.getElem?_setIfInBounds_ne (by decide)]; exact h0
  · rw [Array.getElem?_setIfInBounds_ne (by decide)]; exact h1
  · rw [Array.getElem?_setIfInBounds_ne (by decide)]; exact h2
  · rw [Array.getElem?_setIfInBounds_self_of_lt (by omega)]

/-- The bit at the next place. -/
def nextS (t : List UInt8) : RM UInt8 := fun s => match t[s.pos]? with
  | none => .error (s.pos, 3)
  | some b => .ok (b, { s with pos := s.pos + 1 })
def u8V (b : UInt8) : Value := .int .u8 b.toNat

theorem Rd.drawn (h : Rd t s g w) (n : Nat) : Rd t s g (w.drewN n) := h
theorem below_drewN {B : Nat} {a w : World} (h : Below B a w) (n : Nat) : Below B a (w.drewN n) := by
  induction n with
  | zero => exact h
  | succ n ih => exact ih.drew
theorem Rd.pos1 (h : Rd t s g w) (hp : s.pos < t.length) (n : Nat) : Rd t { s with pos := s.pos + 1 } g ((w.drewN n).setCell ⟨g, 1, none⟩ (.int .i64 ((s.pos : Int) + 1))) :=
  (h.drawn n).pos (p := s.pos + 1) (by omega) (by simp)

set_option maxHeartbeats 1000000 in
set_option maxRecDepth 100000 in
theorem next_any (ht : t.length ≤ 65536) (h : Rd t s g w) :
    Calls Try.prog 45 #[.pointer (some ⟨g, 0, none⟩)] w (PostR g t w u8V (nextS t s)) := by
  obtain ⟨c0, c1, c2, c3, hf⟩ := h.cells
  have hok := h.1.1
  have f1 := hf 1
  have hsz : (⟨t.toArray⟩ : ByteArray).size = t.length := by simp [ByteArray.size]
  by_cases hp : s.pos < t.length
  · have hn : nextS t s = .ok (t[s.pos], { s with pos := s.pos + 1 }) := by simp [nextS, hp]
    have hne : (((s.pos : Int)) == (t.length : Int)) = false := by simp; omega
    have HG : Hid (∀ h : s.pos < (⟨t.toArray⟩ : ByteArray).size, (⟨t.toArray⟩ : ByteArray)[s.pos]'h = t[s.pos]'hp) := fun _ => rfl
    rw [hn]
    have H : Hid (∀ n, Rd t { s with pos := s.pos + 1 } g ((w.drewN n).setCell ⟨g, 1, none⟩ (.int .i64 ((s.pos : Int) + 1)))) := fun n => h.pos1 hp n
    clear h hn hf
    generalize (⟨t.toArray⟩ : ByteArray) = S at *
    go_enter Try.func45, Try.ntmps45
    go_wp2_with fail
    go_quiet (fail)
    go_wp2_with fail
    go_quiet (fail)
    go_wp2
    go_ret
    exact ⟨by rw [← HG.out (by omega)]; rfl, H.out _, ((Kp.refl g w).drewN _).setCell (p := ⟨g, 1, none⟩) rfl _⟩
  · have he : s.pos = t.length := by omega
    have hn : nextS t s = .error (s.pos, 3) := by simp [nextS, hp]
    have hne : (((s.pos : Int)) == (t.length : Int)) = true := by simp; omega
    rw [hn]
    clear h hn hf
    generalize (⟨t.toArray⟩ : ByteArray) = S at *
    go_enter Try.func45, Try.ntmps45
    go_wp2_with fail
    go_quiet (fail)
    go_wp2
    exact ⟨rfl, rfl, (Kp.refl g w).drewN _⟩

/-- A bit that is left out. -/
def skipS (t : List UInt8) : RM Unit := fun s => match t[s.pos]? with
  | none => .error (s.pos, 3)
  | some b => if b = s.lev then .error (s.pos, 20) else .ok ((), ⟨s.pos + 1, b, 1, s.seen⟩)
def unitV (_ : Unit) : Value := .tuple #[]

theorem PostR.error {α : Type} {enc : α → Value} {f : Flt} {e : Ending} {w' : World} (h : PostR g t w enc (.error f) e w') : e = .panicked [{ v := faultV f, recovered := false }] ∧ Kp g w w' := h
theorem PostR.ok {α : Type} {enc : α → Value} {a : α} {s' : RS} {e : Ending} {w' : World} (h : PostR g t w enc (.ok (a, s')) e w') : e = .returned (enc a) ∧ Rd t s' g w' ∧ Kp g w w' := h
theorem u8_ne {b c : UInt8} (h : b ≠ c) : ((b.toNat : Int) == (c.toNat : Int)) = false := by
  have : b.toNat ≠ c.toNat := fun e => h (UInt8.toNat_inj.1 e)
  simp; omega

set_option maxHeartbeats 1000000 in
set_option maxRecDepth 100000 in
theorem skip_any (ht : t.length ≤ 65536) (h : Rd t s g w) :
    Calls Try.prog 47 #[.pointer (some ⟨g, 0, none⟩)] w (PostR g t w unitV (skipS t s)) := by
  obtain ⟨c0, c1, c2, c3, hf⟩ := h.cells
  have hok := h.1.1
  by_cases hp : s.pos < t.length
  · have hn : nextS t s = .ok (t[s.pos], { s with pos := s.pos + 1 }) := by simp [nextS, hp]
    generalize hb : t[s.pos] = b at *
    have hskip : skipS t s = if b = s.lev then .error (s.pos, 20) else .ok ((), ⟨s.pos + 1, b, 1, s.seen⟩) := by simp [skipS, hp, hb]
    rw [hskip]
    have HC : ∀ W, Rd t s g W → Calls Try.prog 45 #[.pointer (some ⟨g, 0, none⟩)] W (PostR g t W u8V (.ok (b, { s with pos := s.pos + 1 }))) := fun W hW => hn ▸ next_any ht hW
    clear hn hskip hf
    by_cases hbl : b = s.lev
    · subst hbl
      rw [if_pos rfl]
      go_enter Try.func47, Try.ntmps47
      go_wp2_with fail
      refine (HC _ h).mono ?_
      intro e w1 hP
      obtain ⟨rfl, h1, b1⟩ := hP.ok
      obtain ⟨d0, d1, d2, d3, df⟩ := h1.cells
      simp only at d0 d1 d2 d3
      unfold u8V
      clear HC h h1 df
      go_wp2
      exact ⟨rfl, rfl, b1⟩
    · rw [if_neg hbl]
      go_enter Try.func47, Try.ntmps47
      go_wp2_with fail
      refine (HC _ h).mono ?_
      intro e w1 hP
      obtain ⟨rfl, h1, b1⟩ := hP.ok
      obtain ⟨d0, d1, d2, d3, df⟩ := h1.cells
      simp only at d0 d1 d2 d3
      have f2 := df 2
      have f3 := df 3
      unfold u8V
      have hne := u8_ne hbl
      have H : Rd t ⟨s.pos + 1, b, 1, s.seen⟩ g ((w1.setCell ⟨g, 2, none⟩ (.int .u8 b.toNat)).setCell ⟨g, 3, none⟩ (.int .i64 1)) := (h1.lev b).row (r := 1) (by decide)
      clear HC h h1 df
      go_wp2
      go_end0
      exact ⟨rfl, H, (b1.setCell (p := ⟨g, 2, none⟩) rfl _).setCell (p := ⟨g, 3, none⟩) rfl _⟩
  · have hn : nextS t s = .error (s.pos, 3) := by simp [nextS, hp]
    have hskip : skipS t s = .error (s.pos, 3) := by simp [skipS, hp]
    rw [hskip]
    have HC : ∀ W, Rd t s g W → Calls Try.prog 45 #[.pointer (some ⟨g, 0, none⟩)] W (PostR g t W u8V (.error (s.pos, 3))) := fun W hW => hn ▸ next_any ht hW
    clear hn hskip hf
    go_enter Try.func47, Try.ntmps47
    go_wp2_with fail
    refine (HC _ h).mono ?_
    intro e w1 hP
    obtain ⟨rfl, b1⟩ := hP.error
    exact ⟨rfl, rfl, b1⟩

theorem Rd.write (b : UInt8) (h : Rd t s g w) (hl : s.seen.length < s.pos) (ht : t.length ≤ 65536) (hb : isBit b = true) :
    Calls Try.prog 34 #[.pointer (some ⟨g, 4, none⟩), .int .u8 b.toNat] w fun e w' => e = .returned .nilIface ∧ Rd t { s with seen := s.seen ++ [b] } g w' ∧ Kp g w w' := by
  obtain ⟨⟨o1, o2, o3, o4⟩, cs, hc, hB, h0, h1, h2, h3⟩ := h
  refine (bWriteByte b hB (by decide) (by rw [hc]; exact liesR) (by omega)).mono ?_
  rintro e w1 ⟨rfl, ⟨v', hB'⟩, b1, k1⟩
  refine ⟨rfl, ⟨⟨o1, o2, ?_, all_snoc _ _ o4 hb⟩, Go.Proofs.Ytffajokpfobalaa.put cs 4 g v', by simp [Go.Proofs.Ytffajokpfobalaa.put, hc], hB', ?_, ?_, ?_, ?_⟩, b1, k1⟩
  · simp only [List.length_append, List.length_cons, List.length_nil]; omega
  all_goals
    unfold Go.Proofs.Ytffajokpfobalaa.put
    rw [Array.getElem?_setIfInBounds_ne (by decide), Array.getElem?_setIfInBounds_ne (by decide)]
    assumption

theorem PostR.of_error {α : Type} {enc : α → Value} {r : Except Flt (α × RS)} {f : Flt} {w' : World} (h : r = .error f) (b : Kp g w w') : PostR g t w enc r (.panicked [{ v := faultV f, recovered := false }]) w' := by
  subst h; exact ⟨rfl, b⟩
theorem PostR.of_ok {α : Type} {enc : α → Value} {r : Except Flt (α × RS)} {a : α} {s' : RS} {e : Ending} {w' : World} (h : r = .ok (a, s')) (he : e = .returned (enc a)) (hR : Rd t s' g w') (b : Kp g w w') : PostR g t w enc r e w' := by
  subst h; exact ⟨he, hR, b⟩

/-- The part of bit ahead of what is left out. -/
theorem bitS_none (h : ¬ s.pos < t.length) : bitS t s = .error (s.pos, 3) := by simp [bitS, h]
theorem bitS_open {b : UInt8} (h : t[s.pos]? = some b) (hr : ¬ rowR s b = 5) : bitS t s = .ok (b, ⟨s.pos + 1, b, rowR s b, s.seen ++ [b]⟩) := by simp [bitS, h, hr]
theorem bitS_full {b : UInt8} (h : t[s.pos]? = some b) (hr : rowR s b = 5) : bitS t s = bindR (skipS t) (fun _ s' => .ok (b, { s' with seen := s'.seen ++ [b] })) ⟨s.pos + 1, b, 5, s.seen⟩ := by
  simp only [bitS, h, hr, if_true, bindR, skipS]
  cases t[s.pos + 1]? with
  | none => rfl
  | some c =>
    by_cases hcb : c = b
    · simp [hcb]
    · simp [hcb]

theorem bit_skips {b : UInt8} {sn : List UInt8} {q : Nat} {W : World} (ht : t.length ≤ 65536) (h2 : Rd t ⟨q, b, 5, sn⟩ g W) :
    Calls Try.prog 47 #[.pointer (some ⟨g, 0, none⟩)] W (PostR g t W unitV (skipS t ⟨q, b, 5, sn⟩)) := skip_any ht h2

set_option maxHeartbeats 2000000 in
set_option maxRecDepth 100000 in
theorem bit_any {r : Except Flt (UInt8 × RS)} (ht : t.length ≤ 65536) (hall : t.all isBit = true) (h : Rd t s g w) (hrow : s.row ≤ 4) (hr : bitS t s = r) :
    Calls Try.prog 44 #[.pointer (some ⟨g, 0, none⟩)] w (PostR g t w u8V r) := by
  have hok := h.1.1
  have hsl := h.1.2.2.1
  by_cases hp : s.pos < t.length
  · have hn : nextS t s = .ok (t[s.pos], { s with pos := s.pos + 1 }) := by simp [nextS, hp]
    have hbit : isBit t[s.pos] = true := by rw [List.all_eq_true] at hall; exact hall _ (List.getElem_mem hp)
    have hget : t[s.pos]? = some t[s.pos] := List.getElem?_eq_getElem hp
    generalize t[s.pos] = b at *
    have HC : ∀ W, Rd t s g W → Calls Try.prog 45 #[.pointer (some ⟨g, 0, none⟩)] W (PostR g t W u8V (.ok (b, { s with pos := s.pos + 1 }))) := fun W hW => hn ▸ next_any ht hW
    clear hn
    obtain ⟨pos, lev, row, seen⟩ := s
    simp only at hok hsl hp hrow hget HC
    have HO : Hid (rowR ⟨pos, lev, row, seen⟩ b ≠ 5 → r = .ok (b, ⟨pos + 1, b, rowR ⟨pos, lev, row, seen⟩ b, seen ++ [b]⟩)) := fun hx => hr ▸ bitS_open hget hx
    have HF : Hid (rowR ⟨pos, lev, row, seen⟩ b = 5 → r = bindR (skipS t) (fun _ s' => .ok (b, { s' with seen := s'.seen ++ [b] })) ⟨pos + 1, b, 5, seen⟩) := fun hx => hr ▸ bitS_full hget hx
    clear hr hget
    go_enter Try.func44, Try.ntmps44
    go_wp2_with fail
    refine (HC _ h).mono ?_
    intro e w1 hP
    obtain ⟨rfl, h1, b1⟩ := hP.ok
    obtain ⟨d0, d1, d2, d3, df⟩ := h1.cells
    simp only at d0 d1 d2 d3
    have f2 := df 2
    have f3 := df 3
    unfold u8V
    clear HC hP h
    by_cases hbl : b = lev
    · subst hbl
      have hrw : rowR ⟨pos, b, row, seen⟩ b = row + 1 := by simp [rowR]
      rw [hrw] at HO HF
      have h2 : Rd t ⟨pos + 1, b, row + 1, seen⟩ g ((w1.setCell ⟨g, 2, none⟩ (.int .u8 b.toNat)).setCell ⟨g, 3, none⟩ (.int .i64 ((row : Int) + 1))) := (h1.lev b).row (r := row + 1) (by omega)
      have b2 : Kp g w ((w1.setCell ⟨g, 2, none⟩ (.int .u8 b.toNat)).setCell ⟨g, 3, none⟩ (.int .i64 ((row : Int) + 1))) := (b1.setCell (p := ⟨g, 2, none⟩) rfl _).setCell (p := ⟨g, 3, none⟩) rfl _
      clear h1 df
      by_cases h5 : row = 4
      · subst h5
        have HF1 : Hid (r = bindR (skipS t) (fun _ s' => .ok (b, { s' with seen := s'.seen ++ [b] })) ⟨pos + 1, b, 5, seen⟩) := HF.out rfl
        clear HO HF
        go_wp2_with fail
        refine (bit_skips ht h2).mono ?_
        intro e w3 hP
        cases hsk : skipS t ⟨pos + 1, b, 5, seen⟩ with
        | error f =>
          rw [hsk] at hP
          obtain ⟨rfl, b3⟩ := hP.error
          exact ⟨rfl, PostR.of_error (HF1.out.trans (bindR_error hsk)) (b2.trans b3)⟩
        | ok q =>
          obtain ⟨u, s3⟩ := q
          rw [hsk] at hP
          obtain ⟨rfl, h3, b3⟩ := hP.ok
          have HF2 : Hid (r = .ok (b, { s3 with seen := s3.seen ++ [b] })) := HF1.out.trans (bindR_ok hsk)
          have hs3 : s3.seen = seen ∧ pos + 1 ≤ s3.pos := by
            unfold skipS at hsk
            split at hsk
            · cases hsk
            · split at hsk
              · cases hsk
              · simp only [Except.ok.injEq, Prod.mk.injEq] at hsk
                rw [← hsk.2]; simp
          clear hsk hP
          unfold unitV
          go_wp2_with fail
          refine (h3.write b (by rw [hs3.1]; omega) ht hbit).mono ?_
          rintro e w4 ⟨rfl, h4, b4⟩
          go_wp2
          go_ret
          exact PostR.of_ok HF2.out rfl h4 ((b2.trans b3).trans b4)
      · have HO : Hid (r = .ok (b, ⟨pos + 1, b, row + 1, seen ++ [b]⟩)) := HO.out (by omega)
        have h5' : (((row : Int) + 1) == 5) = false := by simp; omega
        clear HF
        go_wp2_with fail
        refine (h2.write b (by simp only; omega) ht hbit).mono ?_
        rintro e w4 ⟨rfl, h4, b4⟩
        go_wp2
        go_ret
        exact PostR.of_ok HO.out rfl h4 (b2.trans b4)
    · have hrw : rowR ⟨pos, lev, row, seen⟩ b = 1 := by simp [rowR, hbl]
      rw [hrw] at HO HF
      have HO : Hid (r = .ok (b, ⟨pos + 1, b, 1, seen ++ [b]⟩)) := HO.out (by omega)
      have hne := u8_ne hbl
      have h2 : Rd t ⟨pos + 1, b, 1, seen⟩ g (((w1.setCell ⟨g, 3, none⟩ (.int .i64 0)).setCell ⟨g, 2, none⟩ (.int .u8 b.toNat)).setCell ⟨g, 3, none⟩ (.int .i64 1)) := ((h1.row (r := 0) (by omega)).lev b).row (r := 1) (by omega)
      have b2 : Kp g w (((w1.setCell ⟨g, 3, none⟩ (.int .i64 0)).setCell ⟨g, 2, none⟩ (.int .u8 b.toNat)).setCell ⟨g, 3, none⟩ (.int .i64 1)) := ((b1.setCell (p := ⟨g, 3, none⟩) rfl _).setCell (p := ⟨g, 2, none⟩) rfl _).setCell (p := ⟨g, 3, none⟩) rfl _
      clear h1 df HF
      go_wp2_with fail
      refine (h2.write b (by simp only; omega) ht hbit).mono ?_
      rintro e w4 ⟨rfl, h4, b4⟩
      go_wp2
      go_ret
      exact PostR.of_ok HO.out rfl h4 (b2.trans b4)
  · have hn : nextS t s = .error (s.pos, 3) := by simp [nextS, hp]
    have hb : r = .error (s.pos, 3) := by rw [← hr]; exact bitS_none hp
    have HC : ∀ W, Rd t s g W → Calls Try.prog 45 #[.pointer (some ⟨g, 0, none⟩)] W (PostR g t W u8V (.error (s.pos, 3))) := fun W hW => hn ▸ next_any ht hW
    clear hn hr
    subst hb
    go_enter Try.func44, Try.ntmps44
    go_wp2_with fail
    refine (HC _ h).mono ?_
    intro e w1 hP
    obtain ⟨rfl, b1⟩ := hP.error
    exact ⟨rfl, rfl, b1⟩

theorem bitS_row {b : UInt8} {s' : RS} (h : bitS t s = .ok (b, s')) (hrow : s.row ≤ 4) : s'.row ≤ 4 := by
  unfold bitS at h
  split at h
  · cases h
  · split at h
    · split at h
      · cases h
      · split at h
        · cases h
        · simp only [Except.ok.injEq, Prod.mk.injEq] at h; rw [← h.2]; simp
    · simp only [Except.ok.injEq, Prod.mk.injEq] at h; rw [← h.2]
      rename_i h5
      simp only [rowR] at h5 ⊢
      split at h5
      · rename_i e; rw [if_pos e]; omega
      · rename_i e; rw [if_neg e]; omega
theorem takeS_row (n : Nat) : ∀ {s s' : RS} {bs : List UInt8}, takeS t n s = .ok (bs, s') → s.row ≤ 4 → s'.row ≤ 4 := by
  induction n with
  | zero => intro s s' bs h hr; simp only [takeS, retR, Except.ok.injEq, Prod.mk.injEq] at h; rw [← h.2]; exact hr
  | succ n ih =>
    intro s s' bs h hr
    cases h1 : takeS t n s with
    | error f => rw [takeS, bindR_error h1] at h; cases h
    | ok p =>
      obtain ⟨b1, s1⟩ := p
      cases h2 : bitS t s1 with
      | error f => rw [takeS_fault h1 h2] at h; cases h
      | ok q =>
        obtain ⟨b, s2⟩ := q
        rw [takeS_next h1 h2] at h
        simp only [Except.ok.injEq, Prod.mk.injEq] at h
        rw [← h.2]; exact bitS_row h2 (ih h1 hr)
end
end Go.Proofs.Ytffajokpfobalaa
