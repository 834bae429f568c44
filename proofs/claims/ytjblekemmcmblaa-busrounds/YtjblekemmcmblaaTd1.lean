/- Two outcomes that are one are told to be so. Plain facts on who has a frame behind a round. A unit that counts errors, as plain functions on numbers. Contracts of a unit's calls: off, greatest, Counts, State, Warns; the document's own. Contracts of a unit's calls: New, Reset, Sent, Received, Failed, Erred, Idle. A bus in memory. Contracts of a node's calls: off, takesPart, drop, turn. Contracts of a node's calls: take. Contracts of a bus' calls: at, Power, Submit, Fetch, Time. Contracts: idle, dropOff. Contracts: settle. Those that send, as plain functions; a row of senders in memory. -/
import Derived.Test.YtjblekemmcmblaaTc1
import Derived.WalkKit
import Derived.Test.YtjblekemmcmblaaLook
import Derived.Test.YtjblekemmcmblaaProg
import Derived.WalkSmall
import Derived.Deep.QuietTactic
import Derived.BigQuiet
import Derived.Deep.WholeRow
import Derived.Below
import Derived.Deep.RegionHeld3
import Derived.Deep.RegionLaw
import Derived.Deep.AppendLies
namespace Go.Proofs.Ytjblekemmcmblaa
open Go.RowKit Go.Proofs.Bits
set_option linter.unusedVariables false
set_option maxRecDepth 1000000

set_option maxHeartbeats 2000000 in
theorem Same_any (a : Rn) (es : List Int) (gs : List Bool) (ve vg ve' vg' : Value) (w : World) (he : es.length ≤ 127) (hg : gs.length ≤ 127)
    (E1 : Slots w ve (es.map errV)) (G1 : Slots w vg (gs.map Value.bool)) (E2 : Slots w ve' (es.map errV)) (G2 : Slots w vg' (gs.map Value.bool)) :
    Calls Try.prog 10 #[.agg (a.out ve vg), .agg (a.out ve' vg')] w fun e w' => e = .returned (.bool true) ∧ Below w.heap.size w w' := by
  obtain ⟨wa, hwa⟩ : ∃ wa, w.alloc (.cells (a.out ve vg) 27) = wa := ⟨_, rfl⟩
  obtain ⟨wb, hwb⟩ : ∃ wb, wa.alloc (.cells (a.out ve' vg') 27) = wb := ⟨_, rfl⟩
  have O0 := Oa.new w a ve vg
  have O2 := Oa.new wa a ve' vg'
  rw [hwa] at O0
  rw [hwb] at O2
  have Ba : Below w.heap.size w wa := by rw [← hwa]; exact (Below.refl _ _).alloc (Nat.le_refl _) _
  have Bb : Below wa.heap.size wa wb := by rw [← hwb]; exact (Below.refl _ _).alloc (Nat.le_refl _) _
  have O1 := O0.below Bb
  have B : Below w.heap.size w wb := Ba.trans (Bb.mono Ba.size)
  obtain ⟨c0, c1, c2, c3, c4⟩ := O1.cells
  obtain ⟨d0, d1, d2, d3, d4⟩ := O2.cells
  obtain ⟨ae, ce, rfl, HE1⟩ := E1.map
  obtain ⟨ag, cg, rfl, HG1⟩ := G1.map
  obtain ⟨ae', ce', rfl, HE2⟩ := E2.map
  obtain ⟨ag', cg', rfl, HG2⟩ := G2.map
  have HE1 : Hid _ := HE1 wb B
  have HE2 : Hid _ := HE2 wb B
  have HG1 : Hid _ := HG1 wb B
  have HG2 : Hid _ := HG2 wb B
  obtain ⟨q, hq⟩ : ∃ q, w.heap.size = q := ⟨_, rfl⟩
  obtain ⟨p, hp⟩ : ∃ p, wa.heap.size = p := ⟨_, rfl⟩
  rw [hq] at B c0 c1 c2 c3 c4 ⊢
  rw [hp] at d0 d1 d2 d3 d4
  clear O0 O1 O2 Ba Bb E1 E2 G1 G2
  have hz : ∀ z : Int, (z != z) = false := fun z => by simp
  have hy : ∀ z : Bool, (z != z) = false := fun z => by simp
  have hz1 := hz a.win
  have hz2 := hz a.bits
  have hz3 := hy a.sent
  have hz4 := hz (es.length : Int)
  have hz5 := hz (gs.length : Int)
  have HB : Hid (∀ m, Below q w (wb.drewN m)) := fun m => below_drawn B m
  clear B
  go_enter Try.func10, Try.ntmps10
  go_wp2
  go_loopw [5] (fun i x => ∃ k m : Nat, k ≤ es.length ∧ i = .int .i64 k ∧ x = wb.drewN m) (fun i _ => es.length - (intOf i).toNat)
  case atStart => exact ⟨0, 0, Nat.zero_le _, rfl, rfl⟩
  case round =>
    obtain ⟨k, m, hk, rfl, rfl⟩ := hrel
    by_cases hkl : k < es.length
    · obtain ⟨b, off, rfl, e1⟩ := HE1.out k hkl
      obtain ⟨b', off', rfl, e2⟩ := HE2.out k hkl
      have hzz := hz es[k]
      unfold errV at e1 e2
      generalize es[k] = z at *
      clear HE1 HE2 HG1 HG2 HB hz hy
      go_wp2_with fail
      go_quiet (fail)
      go_wp2
      go_roundw
      case rel => exact ⟨k + 1, _, by omega, by go_num, rfl⟩
      case measure => simp [intOf]; omega
    · go_wp2
      go_loopw [6] (fun i x => ∃ k m : Nat, k ≤ gs.length ∧ i = .int .i64 k ∧ x = wb.drewN m) (fun i _ => gs.length - (intOf i).toNat)
      case atStart => exact ⟨0, m, Nat.zero_le _, rfl, rfl⟩
      case round =>
        obtain ⟨j, m2, hj, rfl, rfl⟩ := hrel
        by_cases hjl : j < gs.length
        · obtain ⟨b, off, rfl, e1⟩ := HG1.out j hjl
          obtain ⟨b', off', rfl, e2⟩ := HG2.out j hjl
          have hzz := hy gs[j]
          generalize gs[j] = z at *
          clear HE1 HE2 HG1 HG2 HB hz hy
          go_wp2_with fail
          go_quiet (fail)
          go_wp2
          go_roundw
          case rel => exact ⟨j + 1, _, by omega, by go_num, rfl⟩
          case measure => simp [intOf]; omega
        · have HX : Hid _ := HB.out m2
          go_wp2
          go_ret
          exact ⟨rfl, HX.out⟩
end Go.Proofs.Ytjblekemmcmblaa
namespace Go.Proofs.Ytjblekemmcmblaa
open Go.RowKit Go.Proofs.Bits
set_option linter.unusedVariables false
set_option maxRecDepth 1000000

def gotN (g : List Bool) (k : Nat) : Nat := (g.take k).countP id
theorem gotN_succ (g : List Bool) (k : Nat) (h : k < g.length) : gotN g (k + 1) = gotN g k + if g[k] then 1 else 0 := by
  unfold gotN; rw [List.take_succ_eq_append_getElem h, List.countP_append]
  cases h2 : g[k] <;> simp
theorem gotN_le (g : List Bool) (k : Nat) : gotN g k ≤ k := by
  unfold gotN
  exact Nat.le_trans List.countP_le_length (by rw [List.length_take]; exact Nat.min_le_left _ _)
theorem count_but (p : Nat → Bool) (wn : Nat) (hw : p wn = true) (n : Nat) : (List.range n).countP (fun i => p i && decide (i ≠ wn)) + (if wn < n then 1 else 0) = (List.range n).countP p := by
  induction n with
  | zero => simp
  | succ n ih =>
    rw [List.range_succ, List.countP_append, List.countP_append, ← ih]
    by_cases e : n = wn
    · subst e; simp [hw]
    · have h1 : (wn < n + 1) ↔ (wn < n) := by omega
      simp only [h1]
      cases hp : p n
      · simp [hp]
      · simp [hp, e]; omega
theorem hear_count {l : List Se} {wn : Nat} (hw : upAt l wn = true) (h : wn < l.length) : gotN (hearK l wn l.length) l.length + 1 = upN l := by
  have e1 : gotN (hearK l wn l.length) l.length = (List.range l.length).countP (fun i => upAt l i && decide (i ≠ wn)) := by
    unfold gotN
    rw [List.take_of_length_le (by rw [hearK_length]; exact Nat.le_refl _)]
    unfold hearK
    rw [List.countP_map]
    apply List.countP_congr
    intro i hi
    have : i < l.length := List.mem_range.1 hi
    simp [this]
  have := count_but (upAt l) wn hw l.length
  rw [if_pos h] at this
  rw [e1, this]
  unfold upN upK
  rw [List.countP_eq_length_filter]
theorem rep_count (n : Nat) : gotN (List.replicate n false) n = 0 := by
  unfold gotN; simp
theorem rnd_count {l : List Se} {fl : List Fl} (hz : rndE l fl = 0) (hw : who l ≠ []) : ((rnd l fl).sent = true → gotN (rnd l fl).got l.length + 1 = upN l) ∧ (gotN (rnd l fl).got l.length = 0 ∨ gotN (rnd l fl).got l.length + 1 = upN l) ∧ (rnd l fl).win = (winN l : Int) := by
  have hE : firstE (frs l) = 0 := by
    unfold rndE at hz
    by_cases h : lookV l.length fl ≠ 0
    · rw [if_pos h] at hz; exact absurd hz h
    · rw [if_neg h, if_neg hw] at hz; exact hz
  obtain ⟨h1, h2, _⟩ := win_least hE
  have hu : upAt l (winN l) = true := by unfold sndAt at h2; unfold upAt; simp at h2; exact h2.1
  have hc := hear_count hu h1
  have hr := rep_count l.length
  unfold rnd
  rw [if_neg hw]
  unfold rnEnd
  cases fo l (rnW l).len fl with
  | some f => exact ⟨fun h => (by simp [rnSpoil, rnW, rn0] at h), .inl (by simpa [rnSpoil, rnW, rn0] using hr), rfl⟩
  | none =>
    simp only
    split
    · exact ⟨fun h => (by simp [rnW, rn0] at h), .inl (by simpa [rnW, rn0] using hr), rfl⟩
    · split
      · exact ⟨fun h => (by simp [rnW, rn0] at h), .inr hc, rfl⟩
      · exact ⟨fun _ => hc, .inr hc, rfl⟩
end Go.Proofs.Ytjblekemmcmblaa
namespace Go.Proofs.Ytjblekemmcmblaa
open Go.RowKit
set_option linter.unusedVariables false
set_option maxRecDepth 1000000

/-- The counts of sending and of receiving, and the idle rows. -/
structure Un where
  s : Nat
  r : Nat
  k : Nat
def Un.nul : Un := ⟨0, 0, 0⟩
def Un.ok (u : Un) : Prop := u.s ≤ 256 ∧ u.r ≤ 255 ∧ u.k ≤ 127
def Un.off (u : Un) : Bool := decide (255 < u.s)
def Un.great (u : Un) : Nat := max u.s u.r
def Un.state (u : Un) : Int := if 255 < u.s then 2 else if 127 < u.s ∨ 127 < u.r then 1 else 0
def Un.warns (u : Un) : Bool := decide (95 < u.s) || decide (95 < u.r)
def Un.sent (u : Un) : Un := if 255 < u.s then u else ⟨u.s - 1, u.r, u.k⟩
def Un.recv (u : Un) : Un := if 255 < u.s then u else if 127 < u.r then ⟨u.s, 120, u.k⟩ else ⟨u.s, u.r - 1, u.k⟩
def Un.fail (q : Bool) (u : Un) : Un := if 255 < u.s then u else if q = true ∧ (127 < u.s ∨ 127 < u.r) then u else if 247 < u.s then ⟨256, u.r, 0⟩ else ⟨u.s + 8, u.r, u.k⟩
def Un.err (l : Bool) (u : Un) : Un := if 255 < u.s then u else ⟨u.s, min (u.r + if l then 8 else 1) 255, u.k⟩
def Un.back (n : Int) (u : Un) : Bool := decide (255 < u.s) && decide (128 - (u.k : Int) ≤ n)
def Un.idle (n : Int) (u : Un) : Un := if 255 < u.s then (if 128 - (u.k : Int) ≤ n then Un.nul else ⟨u.s, u.r, u.k + n.toNat⟩) else u
theorem Un.ok_nul : Un.nul.ok := by simp [Un.ok, Un.nul]
theorem Un.ok_sent {u : Un} (h : u.ok) : u.sent.ok := by
  unfold Un.sent Un.ok at *; split <;> (try simp only) <;> omega
theorem Un.ok_recv {u : Un} (h : u.ok) : u.recv.ok := by
  unfold Un.recv Un.ok at *; split
  · omega
  · split <;> (try simp only) <;> omega
theorem Un.ok_fail {u : Un} (q : Bool) (h : u.ok) : (u.fail q).ok := by
  unfold Un.fail Un.ok at *; split
  · omega
  · split
    · omega
    · split <;> (try simp only) <;> omega
theorem Un.ok_err {u : Un} (l : Bool) (h : u.ok) : (u.err l).ok := by
  unfold Un.err Un.ok at *; split
  · omega
  · simp only; omega
theorem Un.ok_idle {u : Un} (n : Int) (h : u.ok) : (u.idle n).ok := by
  unfold Un.idle Un.ok at *; split
  · split
    · simp [Un.nul]
    · simp only; omega
  · omega
end Go.Proofs.Ytjblekemmcmblaa
namespace Go.Proofs.Ytjblekemmcmblaa
open Go.RowKit
set_option linter.unusedVariables false
set_option maxRecDepth 1000000


/-- Blocks other than g and h stand; nothing else is changed. -/
structure Two (g h : Nat) (w w' : World) : Prop where
  os : w'.os = w.os
  tape : w'.tape = w.tape
  output : w'.output = w.output
  size : w.heap.size ≤ w'.heap.size
  block : ∀ k, k < w.heap.size → k ≠ g → k ≠ h → w'.heap[k]? = w.heap[k]?
section
variable {g h : Nat} {a b c w : World}
theorem Two.refl (g h : Nat) (w : World) : Two g h w w := ⟨rfl, rfl, rfl, Nat.le_refl _, fun _ _ _ _ => rfl⟩
theorem Two.trans (x : Two g h a b) (y : Two g h b c) : Two g h a c :=
  ⟨y.os.trans x.os, y.tape.trans x.tape, y.output.trans x.output, Nat.le_trans x.size y.size, fun k hk h1 h2 => (y.block k (Nat.lt_of_lt_of_le hk x.size) h1 h2).trans (x.block k hk h1 h2)⟩
theorem Two.setCell (x : Two g h a w) {p : Addr} (hp : p.block = g ∨ p.block = h ∨ a.heap.size ≤ p.block) (v : Value) : Two g h a (w.setCell p v) :=
  ⟨x.os, x.tape, x.output, by simpa [World.setCell] using x.size, fun k hk h1 h2 => (Below.heap_setCell w p v k (by omega)).trans (x.block k hk h1 h2)⟩
theorem Two.alloc (x : Two g h a w) (o : Obj) : Two g h a (w.alloc o) :=
  ⟨x.os, x.tape, x.output, Nat.le_trans x.size (by simp), fun k hk h1 h2 => (Below.heap_alloc _ _ _ (Nat.lt_of_lt_of_le hk x.size)).trans (x.block k hk h1 h2)⟩
theorem Two.drawn (x : Two g h a w) (n : Nat) : Two g h a (w.drewN n) := ⟨x.os, x.tape, x.output, x.size, x.block⟩
theorem Two.row (x : Two g h a w) (q : Nat) (hq : q = g ∨ q = h) (cs : Array Value) : Two g h a (w.setRow q cs) :=
  ⟨x.os, x.tape, x.output, by simpa [World.setRow] using x.size, fun k hk h1 h2 => (setRow_other w q k _ (by omega)).trans (x.block k hk h1 h2)⟩
theorem Two.at0 (x : Two g h a w) (i : Nat) (v : Value) : Two g h a (w.setCell ⟨g, i, none⟩ v) := x.setCell (p := ⟨g, i, none⟩) (.inl rfl) v
theorem Two.at1 (x : Two g h a w) (i : Nat) (v : Value) : Two g h a (w.setCell ⟨h, i, none⟩ v) := x.setCell (p := ⟨h, i, none⟩) (.inr (.inl rfl)) v
theorem Two.left (x : Two g g a w) (h : Nat) : Two g h a w := ⟨x.os, x.tape, x.output, x.size, fun k hk h1 h2 => x.block k hk h1 h1⟩
theorem Two.right (x : Two h h a w) (g : Nat) : Two g h a w := ⟨x.os, x.tape, x.output, x.size, fun k hk h1 h2 => x.block k hk h2 h2⟩
theorem Two.below (x : Two g h a w) {B : Nat} (hB : B ≤ a.heap.size) (hg : B ≤ g) (hh : B ≤ h) : Below B a w :=
  ⟨x.os, x.tape, x.output, x.size, fun k hk => x.block k (by omega) (by omega) (by omega)⟩
end

/-- The program's unit in block g; the document's. -/
def Ua (g : Nat) (u : Un) (w : World) : Prop := w.heap[g]? = some (.cells #[.int .i64 u.s, .int .i64 u.r, .int .i64 u.k] 105 (0, 0))
section
variable {g : Nat} {u : Un} {w : World}
theorem Ua.lt (h : Ua g u w) : g < w.heap.size := (Array.getElem?_eq_some_iff.1 h).1
theorem Ua.cells (h : Ua g u w) : w.cell? ⟨g, 0, none⟩ = some (.int .i64 u.s) ∧ w.cell? ⟨g, 1, none⟩ = some (.int .i64 u.r) ∧ w.cell? ⟨g, 2, none⟩ = some (.int .i64 u.k) ∧ ∀ k, w.frozen? ⟨g, k, none⟩ = false :=
  ⟨Lib.cell_of_heap h 0, Lib.cell_of_heap h 1, Lib.cell_of_heap h 2, fun k => Lib.frozen_of_heap h k⟩
theorem Ua.drawn (h : Ua g u w) (n : Nat) : Ua g u (w.drewN n) := h
theorem Ua.two {p q : Nat} {w' : World} (h : Ua g u w) (t : Two p q w w') (h1 : g ≠ p) (h2 : g ≠ q) : Ua g u w' := (t.block g h.lt h1 h2).trans h
theorem Ua.below {w' : World} (h : Ua g u w) (t : Below w.heap.size w w') : Ua g u w' := (t.block g h.lt).trans h
theorem Ua.alloc (h : Ua g u w) (o : Obj) : Ua g u (w.alloc o) := (Below.heap_alloc w o g h.lt).trans h
theorem off_any (h : Ua g u w) : Calls Try.prog 82 #[.pointer (some ⟨g, 0, none⟩)] w fun e w' => e = .returned (.bool u.off) ∧ w' = w := by
  obtain ⟨c0, c1, c2, hf⟩ := h.cells
  have HO : Hid (u.off = decide (255 < u.s)) := rfl
  generalize u.off = o at *
  by_cases h1 : 255 < u.s
  · have hd : decide ((255 : Int) < (u.s : Int)) = true := by simp; omega
    go_enter Try.func82, Try.ntmps82
    go_wp2
    go_ret
    exact ⟨ret_bool (by rw [HO.out]; simp [h1]), rfl⟩
  · have hd : decide ((255 : Int) < (u.s : Int)) = false := by simp; omega
    go_enter Try.func82, Try.ntmps82
    go_wp2
    go_ret
    exact ⟨ret_bool (by rw [HO.out]; simp [h1]), rfl⟩
theorem great_any (h : Ua g u w) : Calls Try.prog 93 #[.pointer (some ⟨g, 0, none⟩)] w fun e w' => e = .returned (.int .i64 u.great) ∧ ∃ n, w' = w.drewN n := by
  obtain ⟨c0, c1, c2, hf⟩ := h.cells
  have HO : Hid ((u.great : Int) = max (u.s : Int) (u.r : Int)) := by show _ = _; unfold Un.great; omega
  generalize u.great = o at *
  go_enter Try.func93, Try.ntmps93
  go_wp2_with fail
  go_quiet (fail)
  go_wp2
  all_goals
    go_ret
    exact ⟨ret_int (by rw [HO.out]; try omega), _, rfl⟩
theorem state_any (h : Ua g u w) : Calls Try.prog 81 #[.pointer (some ⟨g, 0, none⟩)] w fun e w' => e = .returned (.int .i64 u.state) ∧ ∃ n, w' = w.drewN n := by
  have HO := off_any h
  have HG := great_any h
  have HS : Hid (u.state = if 255 < u.s then 2 else if 127 < u.s ∨ 127 < u.r then 1 else 0) := rfl
  have hg : u.great = max u.s u.r := rfl
  generalize u.state = S at *
  generalize hG : u.great = G at *
  unfold Un.off at HO
  by_cases h1 : 255 < u.s
  · have hd : decide (255 < u.s) = true := by simpa using h1
    rw [hd] at HO
    clear hd
    go_enter Try.func81, Try.ntmps81
    go_wp2_with (go_at_call 82; refine HO.mono ?_; rintro e w' ⟨rfl, rfl⟩)
    go_ret
    exact ⟨ret_int (by rw [HS.out, if_pos h1]), 0, rfl⟩
  · have hd : decide (255 < u.s) = false := by simpa using h1
    rw [hd] at HO
    clear hd
    have HR : Hid (¬ 255 < u.s) := h1
    by_cases h2 : 127 < G
    · have hd2 : decide ((127 : Int) < (G : Int)) = true := by simp; omega
      go_enter Try.func81, Try.ntmps81
      go_wp2_with (first | (go_at_call 82; refine HO.mono ?_; rintro e w' ⟨rfl, rfl⟩) | (go_at_call 93; refine HG.mono ?_; rintro e w' ⟨rfl, n, rfl⟩))
      go_ret
      exact ⟨ret_int (by rw [HS.out, if_neg HR.out, if_pos (by omega)]), _, rfl⟩
    · have hd2 : decide ((127 : Int) < (G : Int)) = false := by simp; omega
      go_enter Try.func81, Try.ntmps81
      go_wp2_with (first | (go_at_call 82; refine HO.mono ?_; rintro e w' ⟨rfl, rfl⟩) | (go_at_call 93; refine HG.mono ?_; rintro e w' ⟨rfl, n, rfl⟩))
      go_ret
      exact ⟨ret_int (by rw [HS.out, if_neg HR.out, if_neg (by omega)]), _, rfl⟩
end
end Go.Proofs.Ytjblekemmcmblaa
namespace Go.Proofs.Ytjblekemmcmblaa
open Go.RowKit
set_option linter.unusedVariables false
set_option maxRecDepth 1000000

theorem infoU : (Try.prog.info? 105).map (·.size) = some 3 := by kernel_rfl
def Un.arr (u : Un) : Array Value := #[.int .i64 u.s, .int .i64 u.r, .int .i64 u.k]
section
variable {g : Nat} {u : Un} {w : World}
theorem Ua.set0 (h : Ua g u w) (v : Nat) : Ua g ⟨v, u.r, u.k⟩ (w.setCell ⟨g, 0, none⟩ (.int .i64 v)) := by
  unfold Ua at *; simp [World.setCell, Array.getElem?_modify, h]
theorem Ua.set1 (h : Ua g u w) (v : Nat) : Ua g ⟨u.s, v, u.k⟩ (w.setCell ⟨g, 1, none⟩ (.int .i64 v)) := by
  unfold Ua at *; simp [World.setCell, Array.getElem?_modify, h]
theorem Ua.set2 (h : Ua g u w) (v : Nat) : Ua g ⟨u.s, u.r, v⟩ (w.setCell ⟨g, 2, none⟩ (.int .i64 v)) := by
  unfold Ua at *; simp [World.setCell, Array.getElem?_modify, h]
theorem Ua.row (h : Ua g u w) (v : Un) : Ua g v (w.setRow g v.arr) := setRow_heap w g _ _ 105 _ h
theorem Ua.sd {ops : Array Oper} {rest : List Oper} {o : Oper} {a : Act} {Q : Exit → Act → World → Prop} (h : Ua g u w) (v : Un) (hgd : o.guard = none) (x y : Operand) (ho : o.op = .store 105 x y) (hx : a.eval x = .pointer (some ⟨g, 0, none⟩)) (hy : a.eval y = .agg v.arr)
    (hh : wpList Try.prog ops Q rest (a.put o.dst undef) (w.setRow g v.arr)) : wpList Try.prog ops Q (o :: rest) a w :=
  wpList_store_row hgd 105 x y ho g v.arr hx hy 105 _ h infoU rfl (by simp [Un.arr, Value.oneCell']) hh

theorem new_any (w : World) : Calls Try.prog 28 #[] w fun e w' => e = .returned (.pointer (some ⟨w.heap.size, 0, none⟩)) ∧ w' = w.alloc (.cells #[.int .i64 0, .int .i64 0, .int .i64 0] 105) := by
  go_enter Try.func28, Try.ntmps28
  go_wp2
  go_ret
  exact ⟨rfl, rfl⟩
theorem Ua.new (w : World) : Ua w.heap.size Un.nul (w.alloc (.cells #[.int .i64 0, .int .i64 0, .int .i64 0] 105)) := heap_alloc_new w _
theorem reset_any (h : Ua g u w) : Calls Try.prog 52 #[.pointer (some ⟨g, 0, none⟩)] w fun e w' => e = .returned (.tuple #[]) ∧ Ua g Un.nul w' ∧ Two g g w w' := by
  go_enter Try.func52, Try.ntmps52
  go_wp2_with (refine h.sd Un.nul rfl _ _ rfl rfl rfl ?_)
  go_end0
  exact ⟨rfl, h.row _, (Two.refl _ _ _).row _ (.inl rfl) _⟩
theorem sent_any (hk : u.ok) (h : Ua g u w) : Calls Try.prog 57 #[.pointer (some ⟨g, 0, none⟩)] w fun e w' => e = .returned (.tuple #[]) ∧ Ua g u.sent w' ∧ Two g g w w' := by
  have HO := off_any h
  obtain ⟨c0, c1, c2, hf⟩ := h.cells
  have f0 := hf 0
  unfold Un.off at HO
  obtain ⟨k1, k2, k3⟩ := hk
  by_cases h1 : 255 < u.s
  · rw [show decide (255 < u.s) = true by simpa using h1] at HO
    have HU : Hid (u.sent = u) := by show _ = _; unfold Un.sent; rw [if_pos h1]
    generalize u.sent = U at *
    clear h1
    go_enter Try.func57, Try.ntmps57
    go_wp2_with (go_at_call 82; refine HO.mono ?_; rintro e w' ⟨rfl, rfl⟩)
    go_end0
    exact ⟨rfl, by rw [HU.out]; exact h, Two.refl _ _ _⟩
  · rw [show decide (255 < u.s) = false by simpa using h1] at HO
    by_cases h2 : 0 < u.s
    · have HU : Hid (u.sent = ⟨u.s - 1, u.r, u.k⟩) := by show _ = _; unfold Un.sent; rw [if_neg h1]
      have H := h.set0 (u.s - 1)
      have hc : ((u.s - 1 : Nat) : Int) = (u.s : Int) - 1 := by omega
      rw [hc] at H
      have HH : Hid (Ua g ⟨u.s - 1, u.r, u.k⟩ (w.setCell ⟨g, 0, none⟩ (.int .i64 ((u.s : Int) - 1)))) := H
      generalize u.sent = U at *
      have hd : decide ((0 : Int) < (u.s : Int)) = true := by simp; omega
      clear h1 H hc h
      go_enter Try.func57, Try.ntmps57
      go_wp2_with (go_at_call 82; refine HO.mono ?_; rintro e w' ⟨rfl, rfl⟩)
      go_end0
      exact ⟨rfl, by rw [HU.out]; exact HH.out, (Two.refl _ _ _).at0 _ _⟩
    · have HU : Hid (u.sent = u) := by
        show _ = _
        unfold Un.sent
        rw [if_neg h1]
        have : u.s - 1 = u.s := by omega
        rw [this]
      generalize u.sent = U at *
      have hd : decide ((0 : Int) < (u.s : Int)) = false := by simp; omega
      clear h1
      go_enter Try.func57, Try.ntmps57
      go_wp2_with (go_at_call 82; refine HO.mono ?_; rintro e w' ⟨rfl, rfl⟩)
      go_end0
      exact ⟨rfl, by rw [HU.out]; exact h, Two.refl _ _ _⟩
theorem recv_any (hk : u.ok) (h : Ua g u w) : Calls Try.prog 60 #[.pointer (some ⟨g, 0, none⟩)] w fun e w' => e = .returned (.tuple #[]) ∧ Ua g u.recv w' ∧ Two g g w w' := by
  have HO := off_any h
  obtain ⟨c0, c1, c2, hf⟩ := h.cells
  have f1 := hf 1
  unfold Un.off at HO
  obtain ⟨k1, k2, k3⟩ := hk
  by_cases h1 : 255 < u.s
  · rw [show decide (255 < u.s) = true by simpa using h1] at HO
    have HU : Hid (u.recv = u) := by show _ = _; unfold Un.recv; rw [if_pos h1]
    generalize u.recv = U at *
    clear h1
    go_enter Try.func60, Try.ntmps60
    go_wp2_with (go_at_call 82; refine HO.mono ?_; rintro e w' ⟨rfl, rfl⟩)
    go_end0
    exact ⟨rfl, by rw [HU.out]; exact h, Two.refl _ _ _⟩
  · rw [show decide (255 < u.s) = false by simpa using h1] at HO
    by_cases h2 : u.r = 0
    · have HU : Hid (u.recv = u) := by
        show _ = _
        unfold Un.recv
        rw [if_neg h1, if_neg (by omega)]
        have : u.r - 1 = u.r := by omega
        rw [this]
      generalize u.recv = U at *
      have hd : ((u.r : Int) == 0) = true := by simp; omega
      clear h1
      go_enter Try.func60, Try.ntmps60
      go_wp2_with (go_at_call 82; refine HO.mono ?_; rintro e w' ⟨rfl, rfl⟩)
      go_end0
      exact ⟨rfl, by rw [HU.out]; exact h, Two.refl _ _ _⟩
    · have hd : ((u.r : Int) == 0) = false := by simp; omega
      by_cases h3 : 127 < u.r
      · have HU : Hid (u.recv = ⟨u.s, 120, u.k⟩) := by show _ = _; unfold Un.recv; rw [if_neg h1, if_pos h3]
        have HH : Hid (Ua g ⟨u.s, 120, u.k⟩ (w.setCell ⟨g, 1, none⟩ (.int .i64 120))) := h.set1 120
        generalize u.recv = U at *
        have hd3 : decide ((127 : Int) < (u.r : Int)) = true := by simp; omega
        clear h1 h
        go_enter Try.func60, Try.ntmps60
        go_wp2_with (go_at_call 82; refine HO.mono ?_; rintro e w' ⟨rfl, rfl⟩)
        go_end0
        exact ⟨rfl, by rw [HU.out]; exact HH.out, (Two.refl _ _ _).at0 _ _⟩
      · have HU : Hid (u.recv = ⟨u.s, u.r - 1, u.k⟩) := by show _ = _; unfold Un.recv; rw [if_neg h1, if_neg h3]
        have H := h.set1 (u.r - 1)
        have hc : ((u.r - 1 : Nat) : Int) = (u.r : Int) - 1 := by omega
        rw [hc] at H
        have HH : Hid (Ua g ⟨u.s, u.r - 1, u.k⟩ (w.setCell ⟨g, 1, none⟩ (.int .i64 ((u.r : Int) - 1)))) := H
        generalize u.recv = U at *
        have hd3 : decide ((127 : Int) < (u.r : Int)) = false := by simp; omega
        clear h1 H hc h
        go_enter Try.func60, Try.ntmps60
        go_wp2_with (go_at_call 82; refine HO.mono ?_; rintro e w' ⟨rfl, rfl⟩)
        go_end0
        exact ⟨rfl, by rw [HU.out]; exact HH.out, (Two.refl _ _ _).at0 _ _⟩
theorem fail_any (q : Bool) (hk : u.ok) (h : Ua g u w) : Calls Try.prog 58 #[.pointer (some ⟨g, 0, none⟩), .bool q] w fun e w' => e = .returned (.tuple #[]) ∧ Ua g (u.fail q) w' ∧ Two g g w w' := by
  have HO := off_any h
  have HS := state_any h
  obtain ⟨c0, c1, c2, hf⟩ := h.cells
  have f0 := hf 0
  obtain ⟨k1, k2, k3⟩ := hk
  unfold Un.off at HO
  by_cases h1 : 255 < u.s
  · rw [show decide (255 < u.s) = true by simpa using h1] at HO
    have HU : Hid (u.fail q = u) := by show _ = _; unfold Un.fail; rw [if_pos h1]
    generalize u.fail q = U at *
    clear h1
    go_enter Try.func58, Try.ntmps58
    go_wp2_with (go_at_call 82; refine HO.mono ?_; rintro e w' ⟨rfl, rfl⟩)
    refine bodyPost_ret (results_none rfl _ _ _) rfl ?_
    exact ⟨rfl, by rw [HU.out]; exact h, Two.refl _ _ _⟩
  · rw [show decide (255 < u.s) = false by simpa using h1] at HO
    unfold Un.state at HS
    rw [if_neg h1] at HS
    have HB : ∀ (n : Nat), ¬ (q = true ∧ (127 < u.s ∨ 127 < u.r)) → Hid (247 < u.s → Ua g (u.fail q) (((w.drewN n).setCell ⟨g, 0, none⟩ (.int .i64 ((u.s : Int) + 8))).setRow g (Un.arr ⟨256, u.r, 0⟩))) ∧ Hid (¬ 247 < u.s → Ua g (u.fail q) ((w.drewN n).setCell ⟨g, 0, none⟩ (.int .i64 ((u.s : Int) + 8)))) ∧ Ua g ⟨u.s + 8, u.r, u.k⟩ ((w.drewN n).setCell ⟨g, 0, none⟩ (.int .i64 ((u.s : Int) + 8))) := by
      intro n hn
      have H : Ua g ⟨u.s + 8, u.r, u.k⟩ ((w.drewN n).setCell ⟨g, 0, none⟩ (.int .i64 ((u.s : Int) + 8))) := (h.drawn n).set0 (u.s + 8)
      refine ⟨fun h3 => ?_, fun h3 => ?_, H⟩
      · unfold Un.fail; rw [if_neg h1, if_neg hn, if_pos h3]; exact H.row ⟨256, u.r, 0⟩
      · unfold Un.fail; rw [if_neg h1, if_neg hn, if_neg h3]; exact H
    by_cases h2 : q = true ∧ (127 < u.s ∨ 127 < u.r)
    · have HU : Hid (u.fail q = u) := by show _ = _; unfold Un.fail; rw [if_neg h1, if_pos h2]
      rw [if_pos h2.2] at HS
      obtain rfl := h2.1
      generalize u.fail true = U at *
      clear h1 h2 HB
      go_enter Try.func58, Try.ntmps58
      go_wp2_with (first | (go_at_call 82; refine HO.mono ?_; rintro e w' ⟨rfl, rfl⟩) | (go_at_call 81; refine HS.mono ?_; rintro e w' ⟨rfl, n, rfl⟩))
      refine bodyPost_ret (results_none rfl _ _ _) rfl ?_
      exact ⟨rfl, by rw [HU.out]; exact h, (Two.refl _ _ _).drawn _⟩
    · cases q
      · obtain ⟨H1, H2, H3⟩ := HB 0 h2
        change Hid (247 < u.s → Ua g (u.fail false) ((w.setCell ⟨g, 0, none⟩ (.int .i64 ((u.s : Int) + 8))).setRow g (Un.arr ⟨256, u.r, 0⟩))) at H1
        change Hid (¬ 247 < u.s → Ua g (u.fail false) (w.setCell ⟨g, 0, none⟩ (.int .i64 ((u.s : Int) + 8)))) at H2
        change Ua g ⟨u.s + 8, u.r, u.k⟩ (w.setCell ⟨g, 0, none⟩ (.int .i64 ((u.s : Int) + 8))) at H3
        by_cases h3 : 247 < u.s
        · have hd : decide ((255 : Int) < (u.s : Int) + 8) = true := by simp; omega
          go_enter Try.func58, Try.ntmps58
          go_wp2_with (first | (go_at_call 82; refine HO.mono ?_; rintro e w' ⟨rfl, rfl⟩) | (refine H3.sd ⟨256, u.r, 0⟩ rfl _ _ rfl rfl rfl ?_))
          go_end0
          exact ⟨rfl, H1.out h3, ((Two.refl _ _ _).at0 _ _).row _ (.inl rfl) _⟩
        · have hd : decide ((255 : Int) < (u.s : Int) + 8) = false := by simp; omega
          go_enter Try.func58, Try.ntmps58
          go_wp2_with (first | (go_at_call 82; refine HO.mono ?_; rintro e w' ⟨rfl, rfl⟩))
          go_end0
          exact ⟨rfl, H2.out h3, (Two.refl _ _ _).at0 _ _⟩
      · have hn : ¬ (127 < u.s ∨ 127 < u.r) := fun hh => h2 ⟨rfl, hh⟩
        rw [if_neg hn] at HS
        have h3 : ¬ 247 < u.s := by omega
        have hd : decide ((255 : Int) < (u.s : Int) + 8) = false := by simp; omega
        go_enter Try.func58, Try.ntmps58
        go_wp2_with (first | (go_at_call 82; refine HO.mono ?_; rintro e w' ⟨rfl, rfl⟩) | (go_at_call 81; refine HS.mono ?_; rintro e w' ⟨rfl, n, rfl⟩))
        go_end0
        exact ⟨rfl, (HB _ h2).2.1.out h3, ((Two.refl _ _ _).drawn _).at0 _ _⟩
theorem err_any (l : Bool) (hk : u.ok) (h : Ua g u w) : Calls Try.prog 61 #[.pointer (some ⟨g, 0, none⟩), .bool l] w fun e w' => e = .returned (.tuple #[]) ∧ Ua g (u.err l) w' ∧ Two g g w w' := by
  have HO := off_any h
  obtain ⟨c0, c1, c2, hf⟩ := h.cells
  have f1 := hf 1
  obtain ⟨k1, k2, k3⟩ := hk
  unfold Un.off at HO
  by_cases h1 : 255 < u.s
  · rw [show decide (255 < u.s) = true by simpa using h1] at HO
    have HU : Hid (u.err l = u) := by show _ = _; unfold Un.err; rw [if_pos h1]
    generalize u.err l = U at *
    clear h1
    go_enter Try.func61, Try.ntmps61
    go_wp2_with (go_at_call 82; refine HO.mono ?_; rintro e w' ⟨rfl, rfl⟩)
    refine bodyPost_ret (results_none rfl _ _ _) rfl ?_
    exact ⟨rfl, by rw [HU.out]; exact h, Two.refl _ _ _⟩
  · rw [show decide (255 < u.s) = false by simpa using h1] at HO
    have HU : Hid (u.err l = ⟨u.s, min (u.r + if l then 8 else 1) 255, u.k⟩) := by show _ = _; unfold Un.err; rw [if_neg h1]
    have HH : Hid (∀ z : Int, z = ((min (u.r + if l then 8 else 1) 255 : Nat) : Int) → Ua g (u.err l) (w.setCell ⟨g, 1, none⟩ (.int .i64 z))) := by
      intro z hz
      rw [hz, HU.out]
      exact h.set1 _
    generalize u.err l = U at *
    clear h1 h HU
    cases l
    all_goals
      go_enter Try.func61, Try.ntmps61
      go_wp2_with (go_at_call 82; refine HO.mono ?_; rintro e w' ⟨rfl, rfl⟩)
      all_goals
        go_end0
        exact ⟨rfl, HH.out _ (by simp only [if_true, if_false, Bool.false_eq_true]; omega), (Two.refl _ _ _).at0 _ _⟩
theorem idle_any (n : Int) (hn : -9223372036854775808 ≤ n ∧ n < 9223372036854775808) (hk : u.ok) (h : Ua g u w) : Calls Try.prog 55 #[.pointer (some ⟨g, 0, none⟩), .int .i64 n] w fun e w' => e = .returned (.bool (u.back n)) ∧ Ua g (u.idle n) w' ∧ Two g g w w' := by
  have HO := off_any h
  have HR := reset_any h
  obtain ⟨c0, c1, c2, hf⟩ := h.cells
  have f2 := hf 2
  obtain ⟨k1, k2, k3⟩ := hk
  obtain ⟨n1, n2⟩ := hn
  unfold Un.off at HO
  unfold Un.back
  by_cases h1 : 255 < u.s
  · rw [show decide (255 < u.s) = true by simpa using h1] at HO ⊢
    by_cases h2 : 128 - (u.k : Int) ≤ n
    · have HU : Hid (u.idle n = Un.nul) := by show _ = _; unfold Un.idle; rw [if_pos h1, if_pos h2]
      rw [show decide (128 - (u.k : Int) ≤ n) = true by simpa using h2]
      generalize u.idle n = U at *
      clear h1
      have hm : ¬ n < 0 := by omega
      have hd : decide (n < 128 - (u.k : Int)) = false := by simp; omega
      go_enter Try.func55, Try.ntmps55
      go_wp2_with (first | (go_at_call 82; refine HO.mono ?_; rintro e w' ⟨rfl, rfl⟩) | (go_at_call 52; refine HR.mono ?_; rintro e w' ⟨rfl, R1, R2⟩))
      go_ret
      exact ⟨rfl, by rw [HU.out]; exact R1, R2⟩
    · have HU : Hid (u.idle n = ⟨u.s, u.r, u.k + n.toNat⟩) := by show _ = _; unfold Un.idle; rw [if_pos h1, if_neg h2]
      rw [show decide (128 - (u.k : Int) ≤ n) = false by simpa using h2]
      have HH : Hid (∀ z : Int, z = ((u.k + n.toNat : Nat) : Int) → Ua g (u.idle n) (w.setCell ⟨g, 2, none⟩ (.int .i64 z))) := by
        intro z hz
        rw [hz, HU.out]
        exact h.set2 _
      generalize u.idle n = U at *
      clear h1 HR h
      by_cases hm : n < 0
      · have hd : decide ((0 : Int) < 128 - (u.k : Int)) = true := by simp; omega
        go_enter Try.func55, Try.ntmps55
        go_wp2_with (first | (go_at_call 82; refine HO.mono ?_; rintro e w' ⟨rfl, rfl⟩))
        go_ret
        exact ⟨rfl, HH.out _ (by omega), (Two.refl _ _ _).at0 _ _⟩
      · have hd : decide (n < 128 - (u.k : Int)) = true := by simp; omega
        go_enter Try.func55, Try.ntmps55
        go_wp2_with (first | (go_at_call 82; refine HO.mono ?_; rintro e w' ⟨rfl, rfl⟩))
        go_ret
        exact ⟨rfl, HH.out _ (by omega), (Two.refl _ _ _).at0 _ _⟩
  · rw [show decide (255 < u.s) = false by simpa using h1] at HO ⊢
    have HU : Hid (u.idle n = u) := by show _ = _; unfold Un.idle; rw [if_neg h1]
    generalize u.idle n = U at *
    clear h1 HR
    go_enter Try.func55, Try.ntmps55
    go_wp2_with (go_at_call 82; refine HO.mono ?_; rintro e w' ⟨rfl, rfl⟩)
    go_ret
    exact ⟨rfl, by rw [HU.out]; exact h, Two.refl _ _ _⟩
end
end Go.Proofs.Ytjblekemmcmblaa
namespace Go.Proofs.Ytjblekemmcmblaa
open Go.RowKit Go.Proofs.Bits
set_option linter.unusedVariables false
set_option maxRecDepth 1000000

/-- Whose block it is. -/
inductive Ro where
  | no
  | bus
  | nodes
  | unit (i : Nat)
  | got (i : Nat)
structure Nd where
  pw : Bool
  u : Un
  f : Fr
  has : Bool
  got : List Fr
def Nd.nul : Nd := ⟨false, Un.nul, Fr.nul, false, []⟩
def Nd.cells (n : Nd) (g : Nat) (v : Value) : List Value := .bool n.pw :: .pointer (some ⟨g, 0, none⟩) :: (n.f.cells ++ [.bool n.has, v])
theorem Nd.len (n : Nd) (g : Nat) (v : Value) : (n.cells g v).length = 16 := by simp [Nd.cells, Fr.cells, n.f.hdata]
theorem frc_len (f : Fr) : f.cells.length = 12 := by simp [Fr.cells, f.hdata]
/-- A node's cells, one by one. -/
theorem range_node {w : World} {nb o g : Nat} {n : Nd} {v : Value} : w.rangeAt nb o (n.cells g v) ↔ w.cell? ⟨nb, o, none⟩ = some (.bool n.pw) ∧ w.cell? ⟨nb, o + 1, none⟩ = some (.pointer (some ⟨g, 0, none⟩)) ∧ w.rangeAt nb (o + 2) n.f.cells ∧ w.cell? ⟨nb, o + 14, none⟩ = some (.bool n.has) ∧ w.cell? ⟨nb, o + 15, none⟩ = some v := by
  have hl := frc_len n.f
  constructor
  · intro h
    refine ⟨h 0 _ rfl, h 1 _ rfl, fun j u hj => ?_, h 14 _ ?_, h 15 _ ?_⟩
    · have hjl := (List.getElem?_eq_some_iff.1 hj).1
      have := h (j + 2) u (by
        show (n.f.cells ++ _)[j]? = _
        rw [List.getElem?_append_left hjl]; exact hj)
      rw [show o + (j + 2) = o + 2 + j by omega] at this
      exact this
    · show (n.f.cells ++ _)[12]? = _
      rw [List.getElem?_append_right (by omega), hl]; rfl
    · show (n.f.cells ++ _)[13]? = _
      rw [List.getElem?_append_right (by omega), hl]; rfl
  · rintro ⟨h0, h1, h2, h3, h4⟩ j u hj
    have hjl := (List.getElem?_eq_some_iff.1 hj).1
    rw [Nd.len] at hjl
    match j, hjl, hj with
    | 0, _, hj => cases hj; exact h0
    | 1, _, hj => cases hj; exact h1
    | j + 2, hjl, hj =>
      have hj' : (n.f.cells ++ [.bool n.has, v])[j]? = some u := hj
      by_cases hj12 : j < 12
      · rw [List.getElem?_append_left (by omega)] at hj'
        have := h2 j u hj'
        rw [show o + (j + 2) = o + 2 + j by omega]; exact this
      · rw [List.getElem?_append_right (by omega), hl] at hj'
        rcases (by omega : j = 12 ∨ j = 13) with rfl | rfl
        · cases hj'; exact h3
        · cases hj'; exact h4
structure BusM (b nb : Nat) (ρ : Nat → Ro) (t : Int) (l : List Nd) (G : Nat → Nat) (V : Nat → Value) (w : World) : Prop where
  hb : w.heap[b]? = some (.cells #[sl nb l.length, .int .u64 t] 76 (0, 0))
  hn : ∀ i (h : i < l.length), w.rangeAt nb (i * 16) (l[i].cells (G i) (V i))
  ht : w.there nb 0 (l.length * 16)
  hu : ∀ i (h : i < l.length), Ua (G i) l[i].u w
  hg : ∀ i (h : i < l.length), w.ownsRow 0 38 12 (V i) l[i].got.length (flatW DF l[i].got)
  rb : ρ b = .bus
  rn : ρ nb = .nodes
  ru : ∀ i, i < l.length → ρ (G i) = .unit i
  rg : ∀ i, i < l.length → ∀ k, (V i).ownBlock = some k → ρ k = .got i
  rz : ∀ k, w.heap.size ≤ k → ρ k = .no
def BusAt (b nb : Nat) (ρ : Nat → Ro) (t : Int) (l : List Nd) (w : World) : Prop := ∃ G V, BusM b nb ρ t l G V w
/-- What a call on a bus changes. -/
structure Ext (ρ ρ' : Nat → Ro) (w w' : World) : Prop where
  os : w'.os = w.os
  tape : w'.tape = w.tape
  output : w'.output = w.output
  size : w.heap.size ≤ w'.heap.size
  keep : ∀ k, k < w.heap.size → ρ k = .no → w'.heap[k]? = w.heap[k]?
  same : ∀ k, k < w.heap.size → ρ' k = ρ k
theorem Ext.refl (ρ : Nat → Ro) (w : World) : Ext ρ ρ w w := ⟨rfl, rfl, rfl, Nat.le_refl _, fun _ _ _ => rfl, fun _ _ => rfl⟩
theorem Ext.trans {ρ ρ' ρ'' : Nat → Ro} {w w' w'' : World} (h : Ext ρ ρ' w w') (h' : Ext ρ' ρ'' w' w'') : Ext ρ ρ'' w w'' :=
  ⟨h'.os.trans h.os, h'.tape.trans h.tape, h'.output.trans h.output, Nat.le_trans h.size h'.size, fun k hk hr => (h'.keep k (Nat.lt_of_lt_of_le hk h.size) ((h.same k hk).trans hr)).trans (h.keep k hk hr), fun k hk => (h'.same k (Nat.lt_of_lt_of_le hk h.size)).trans (h.same k hk)⟩
theorem Ext.below {ρ : Nat → Ro} {w w' : World} (hb : Below w.heap.size w w') : Ext ρ ρ w w' := ⟨hb.os, hb.tape, hb.output, hb.size, fun k hk _ => hb.block k hk, fun _ _ => rfl⟩
theorem Ext.drawn {ρ : Nat → Ro} {w : World} (n : Nat) : Ext ρ ρ w (w.drewN n) := Ext.below (below_drawn (Below.refl _ _) n)
theorem Ext.toBelow {ρ ρ' : Nat → Ro} {w w' : World} (h : Ext ρ ρ' w w') {B : Nat} (hB : B ≤ w.heap.size) (hr : ∀ k, k < B → ρ k = .no) : Below B w w' :=
  ⟨h.os, h.tape, h.output, h.size, fun k hk => h.keep k (by omega) (hr k hk)⟩
section
variable {b nb : Nat} {ρ : Nat → Ro} {t : Int} {l : List Nd} {G : Nat → Nat} {V : Nat → Value} {w : World}
theorem BusM.lt (h : BusM b nb ρ t l G V w) {k : Nat} (hk : ρ k ≠ .no) : k < w.heap.size := Nat.lt_of_not_le fun hge => hk (h.rz k hge)
theorem BusM.lt_b (h : BusM b nb ρ t l G V w) : b < w.heap.size := h.lt (by rw [h.rb]; simp)
theorem BusM.lt_n (h : BusM b nb ρ t l G V w) : nb < w.heap.size := h.lt (by rw [h.rn]; simp)
theorem BusM.lt_u (h : BusM b nb ρ t l G V w) {i : Nat} (hi : i < l.length) : G i < w.heap.size := h.lt (by rw [h.ru i hi]; simp)
theorem BusM.b_n (h : BusM b nb ρ t l G V w) : b ≠ nb := fun e => by have := h.rb; rw [e, h.rn] at this; cases this
theorem BusM.b_u (h : BusM b nb ρ t l G V w) {i : Nat} (hi : i < l.length) : b ≠ G i := fun e => by have := h.rb; rw [e, h.ru i hi] at this; cases this
theorem BusM.n_u (h : BusM b nb ρ t l G V w) {i : Nat} (hi : i < l.length) : nb ≠ G i := fun e => by have := h.rn; rw [e, h.ru i hi] at this; cases this
theorem BusM.u_u (h : BusM b nb ρ t l G V w) {i j : Nat} (hi : i < l.length) (hj : j < l.length) (hne : i ≠ j) : G i ≠ G j := fun e => by have := h.ru i hi; rw [e, h.ru j hj] at this; cases this; exact hne rfl
theorem BusM.b_g (h : BusM b nb ρ t l G V w) {i : Nat} (hi : i < l.length) : (V i).ownBlock ≠ some b := fun e => by have := h.rg i hi b e; rw [h.rb] at this; cases this
theorem BusM.n_g (h : BusM b nb ρ t l G V w) {i : Nat} (hi : i < l.length) : (V i).ownBlock ≠ some nb := fun e => by have := h.rg i hi nb e; rw [h.rn] at this; cases this
theorem BusM.u_g (h : BusM b nb ρ t l G V w) {i j : Nat} (hi : i < l.length) (hj : j < l.length) : (V i).ownBlock ≠ some (G j) := fun e => by have := h.rg i hi (G j) e; rw [h.ru j hj] at this; cases this
theorem BusM.g_g (h : BusM b nb ρ t l G V w) {i j k : Nat} (hi : i < l.length) (hj : j < l.length) (hne : i ≠ j) (hk : (V i).ownBlock = some k) : (V j).ownBlock ≠ some k := fun e => by have := h.rg i hi k hk; rw [h.rg j hj k e] at this; cases this; exact hne rfl
theorem range_kept {w w' : World} {b o : Nat} {cs : List Value} (h : w.rangeAt b o cs) (hk : w'.heap[b]? = w.heap[b]?) : w'.rangeAt b o cs := fun j v hv => (World.cell?_of_block (a := ⟨b, o + j, none⟩) hk).trans (h j v hv)
theorem there_kept {w w' : World} {b o n : Nat} (h : w.there b o n) (hk : w'.heap[b]? = w.heap[b]?) : w'.there b o n := fun j hj => ⟨by rw [World.cell?_of_block (a := ⟨b, o + j, none⟩) hk]; exact (h j hj).1, by rw [World.frozen?_of_block (a := ⟨b, o + j, none⟩) hk]; exact (h j hj).2⟩
/-- Its own blocks stand. -/
theorem BusM.kept (h : BusM b nb ρ t l G V w) {w' : World} (hs : w.heap.size ≤ w'.heap.size) (hk : ∀ k, k < w.heap.size → ρ k ≠ .no → w'.heap[k]? = w.heap[k]?) : BusM b nb ρ t l G V w' := by
  have kb := hk b h.lt_b (by rw [h.rb]; simp)
  have kn := hk nb h.lt_n (by rw [h.rn]; simp)
  exact { h with
    hb := kb.trans h.hb
    hn := fun i hi => range_kept (h.hn i hi) kn
    ht := there_kept h.ht kn
    hu := fun i hi => (hk _ (h.lt_u hi) (by rw [h.ru i hi]; simp)).trans (h.hu i hi)
    hg := fun i hi => own_at (h.hg i hi) fun g hgv => hk g (own_block_lt (h.hg i hi) hgv).2.1 (by rw [h.rg i hi g hgv]; simp)
    rz := fun k hk' => h.rz k (Nat.le_trans hs hk') }
theorem BusAt.kept (h : BusAt b nb ρ t l w) {w' : World} (hs : w.heap.size ≤ w'.heap.size) (hk : ∀ k, k < w.heap.size → ρ k ≠ .no → w'.heap[k]? = w.heap[k]?) : BusAt b nb ρ t l w' := by
  obtain ⟨G, V, h⟩ := h
  exact ⟨G, V, h.kept hs hk⟩
theorem BusM.below (h : BusM b nb ρ t l G V w) {w' : World} (hb : Below w.heap.size w w') : BusM b nb ρ t l G V w' := h.kept hb.size fun k hk _ => hb.block k hk
theorem BusAt.below (h : BusAt b nb ρ t l w) {w' : World} (hb : Below w.heap.size w w') : BusAt b nb ρ t l w' := h.kept hb.size fun k hk _ => hb.block k hk
/-- One node is another one. -/
theorem BusM.upd (h : BusM b nb ρ t l G V w) {i : Nat} (hi : i < l.length) (n' : Nd) (v' : Value) (ρ' : Nat → Ro) (w' : World) (hsz : w.heap.size ≤ w'.heap.size)
    (hblk : ∀ k, k < w.heap.size → k ≠ nb → k ≠ G i → (V i).ownBlock ≠ some k → w'.heap[k]? = w.heap[k]?)
    (hcell : ∀ o, (o < i * 16 ∨ i * 16 + 16 ≤ o) → w'.cell? ⟨nb, o, none⟩ = w.cell? ⟨nb, o, none⟩)
    (hthere : w'.there nb 0 (l.length * 16)) (hnew : w'.rangeAt nb (i * 16) (n'.cells (G i) v')) (hu' : Ua (G i) n'.u w')
    (hg' : w'.ownsRow 0 38 12 v' n'.got.length (flatW DF n'.got)) (hρ : ∀ k, k < w.heap.size → ρ' k = ρ k) (hρg : ∀ k, v'.ownBlock = some k → ρ' k = .got i) (hρz : ∀ k, w'.heap.size ≤ k → ρ' k = .no) :
    BusM b nb ρ' t (l.set i n') G (fun j => if j = i then v' else V j) w' := by
  have e1 : ∀ j, (hj : j < (l.set i n').length) → (l.set i n')[j] = if i = j then n' else l[j]'(by simpa using hj) := fun j hj => by rw [List.getElem_set]
  have len : (l.set i n').length = l.length := by simp
  constructor
  · rw [len, hblk b h.lt_b h.b_n (h.b_u hi) (h.b_g hi)]; exact h.hb
  · intro j hj
    rw [e1 j hj]
    by_cases e : i = j
    · subst e; simp only [if_true]; exact hnew
    · rw [if_neg e, if_neg (fun x => e x.symm)]
      rw [len] at hj
      intro o v hv
      have ho := (List.getElem?_eq_some_iff.1 hv).1
      rw [Nd.len] at ho
      rw [hcell _ (by omega)]
      exact h.hn j hj o v hv
  · rw [len]; exact hthere
  · intro j hj
    rw [e1 j hj]
    by_cases e : i = j
    · subst e; simp only [if_true]; exact hu'
    · rw [if_neg e]
      rw [len] at hj
      exact (hblk _ (h.lt_u hj) (h.n_u hj).symm (h.u_u hj hi (fun x => e x.symm)) (h.u_g hi hj)).trans (h.hu j hj)
  · intro j hj
    rw [e1 j hj]
    by_cases e : i = j
    · subst e; simp only [if_true]; exact hg'
    · rw [if_neg e, if_neg (fun x => e x.symm)]
      rw [len] at hj
      exact own_at (h.hg j hj) fun g hgv => hblk g (own_block_lt (h.hg j hj) hgv).2.1 (fun x => h.n_g hj (by rw [hgv, x])) (fun x => h.u_g hj hi (by rw [hgv, x])) (h.g_g hj hi (fun x => e x.symm) hgv)
  · rw [hρ b h.lt_b]; exact h.rb
  · rw [hρ nb h.lt_n]; exact h.rn
  · intro j hj
    rw [len] at hj
    rw [hρ _ (h.lt_u hj)]; exact h.ru j hj
  · intro j hj k hk
    rw [len] at hj
    by_cases e : j = i
    · subst e; simp only [if_true] at hk; exact hρg k hk
    · rw [if_neg e] at hk
      rw [hρ k (own_block_lt (h.hg j hj) hk).2.1]; exact h.rg j hj k hk
  · exact hρz
/-- A node's unit is another one. -/
theorem BusM.unit (h : BusM b nb ρ t l G V w) {i : Nat} (hi : i < l.length) {u' : Un} {w' : World} (hu' : Ua (G i) u' w') (h2 : Two (G i) (G i) w w') : BusAt b nb ρ t (l.set i { l[i] with u := u' }) w' ∧ Ext ρ ρ w w' := by
  have kn := h2.block nb h.lt_n (h.n_u hi) (h.n_u hi)
  refine ⟨⟨G, _, h.upd hi { l[i] with u := u' } (V i) ρ w' h2.size (fun k hk _ h3 _ => h2.block k hk h3 h3) (fun o _ => World.cell?_of_block (a := ⟨nb, o, none⟩) kn) (there_kept h.ht kn) ?_ hu' ?_ (fun _ _ => rfl) (h.rg i hi) (fun k hk => h.rz k (Nat.le_trans h2.size hk))⟩, h2.os, h2.tape, h2.output, h2.size, fun k hk hr => h2.block k hk (fun e => ?_) (fun e => ?_), fun _ _ => rfl⟩
  · exact range_kept (h.hn i hi) kn
  · exact own_at (h.hg i hi) fun g hgv => h2.block g (own_block_lt (h.hg i hi) hgv).2.1 (fun e => h.u_g hi hi (by rw [hgv, e])) (fun e => h.u_g hi hi (by rw [hgv, e]))
  · rw [e, h.ru i hi] at hr; cases hr
  · rw [e, h.ru i hi] at hr; cases hr
/-- A node's own cells are others; its unit stands. -/
theorem BusM.put (h : BusM b nb ρ t l G V w) {i : Nat} (hi : i < l.length) (n' : Nd) (v' : Value) {w' : World} (hu : n'.u = l[i].u) (hos : w'.os = w.os) (htp : w'.tape = w.tape) (hot : w'.output = w.output) (hsz : w'.heap.size = w.heap.size) (hblk : ∀ k, k ≠ nb → w'.heap[k]? = w.heap[k]?)
    (hcell : ∀ o, (o < i * 16 ∨ i * 16 + 16 ≤ o) → w'.cell? ⟨nb, o, none⟩ = w.cell? ⟨nb, o, none⟩) (hthere : w'.there nb 0 (l.length * 16)) (hnew : w'.rangeAt nb (i * 16) (n'.cells (G i) v'))
    (hv : (v' = V i ∧ n'.got = l[i].got) ∨ (v' = .slice none 0 0 ∧ n'.got = [])) : BusAt b nb ρ t (l.set i n') w' ∧ Ext ρ ρ w w' := by
  refine ⟨⟨G, _, h.upd hi n' v' ρ w' (by omega) (fun k hk h1 _ _ => hblk k h1) hcell hthere hnew ?_ ?_ (fun _ _ => rfl) ?_ (fun k hk => h.rz k (by omega))⟩, hos, htp, hot, by omega, fun k hk hr => hblk k (fun e => ?_), fun _ _ => rfl⟩
  · rw [hu]; exact (hblk _ (h.n_u hi).symm).trans (h.hu i hi)
  · rcases hv with ⟨rfl, h2⟩ | ⟨rfl, h2⟩
    · rw [h2]; exact own_at (h.hg i hi) fun g hgv => hblk g (fun e => h.n_g hi (by rw [hgv, e]))
    · rw [h2]; exact World.ownsRow_nil _ _ _ _
  · rcases hv with ⟨rfl, h2⟩ | ⟨rfl, h2⟩
    · exact h.rg i hi
    · intro k hk; cases hk
  · rw [e, h.rn] at hr; cases hr
end
end Go.Proofs.Ytjblekemmcmblaa
namespace Go.Proofs.Ytjblekemmcmblaa
open Go.RowKit Go.Proofs.Bits
set_option linter.unusedVariables false
set_option maxRecDepth 1000000

theorem state_off (u : Un) : (u.state == 2) = u.off := by
  unfold Un.state Un.off
  by_cases h : 255 < u.s
  · rw [if_pos h]; simp [h]
  · rw [if_neg h]
    have : decide (255 < u.s) = false := by simpa using h
    rw [this]
    split <;> rfl
theorem noff_any {q o g : Nat} {u : Un} {w : World} (hc : w.cell? ⟨q, o + 1, none⟩ = some (.pointer (some ⟨g, 0, none⟩))) (hu : Ua g u w) :
    Calls Try.prog 53 #[.pointer (some ⟨q, o, none⟩)] w fun e w' => e = .returned (.bool u.off) ∧ ∃ n, w' = w.drewN n := by
  have HS := state_any hu
  have HE : Hid ((u.state == 2) = u.off) := state_off u
  generalize u.off = V at *
  generalize u.state = S at *
  go_enter Try.func53, Try.ntmps53
  go_wp2_with fail
  refine HS.mono ?_
  rintro e w' ⟨rfl, n, rfl⟩
  go_wp2
  go_ret
  exact ⟨ret_bool HE.out, n, rfl⟩
theorem takesPart_any {q o g : Nat} {u : Un} {pw : Bool} {w : World} (h0 : w.cell? ⟨q, o, none⟩ = some (.bool pw)) (hc : w.cell? ⟨q, o + 1, none⟩ = some (.pointer (some ⟨g, 0, none⟩))) (hu : Ua g u w) :
    Calls Try.prog 32 #[.pointer (some ⟨q, o, none⟩)] w fun e w' => e = .returned (.bool (pw && !u.off)) ∧ ∃ n, w' = w.drewN n := by
  have HS := noff_any hc hu
  generalize u.off = V at *
  cases pw
  · go_enter Try.func32, Try.ntmps32
    go_wp2
    go_ret
    exact ⟨rfl, 0, rfl⟩
  · go_enter Try.func32, Try.ntmps32
    go_wp2_with fail
    refine HS.mono ?_
    rintro e w' ⟨rfl, n, rfl⟩
    go_wp2
    go_ret
    exact ⟨ret_bool (by simp), n, rfl⟩
section
variable {b nb : Nat} {ρ : Nat → Ro} {t : Int} {l : List Nd} {G : Nat → Nat} {V : Nat → Value} {w : World}
theorem cell_setCells_other (w : World) (nb o : Nat) (vs : List Value) (q : Nat) (h : q < o ∨ o + vs.length ≤ q) : (w.setCells nb o vs).cell? ⟨nb, q, none⟩ = w.cell? ⟨nb, q, none⟩ :=
  World.cell?_setCells_out nb vs o w ⟨nb, q, none⟩ (fun _ _ => h)
theorem setCells_same (b : Nat) : ∀ (vs : List Value) (o : Nat) (w : World), (w.setCells b o vs).os = w.os ∧ (w.setCells b o vs).tape = w.tape ∧ (w.setCells b o vs).output = w.output ∧ (w.setCells b o vs).heap.size = w.heap.size ∧ ∀ k, k ≠ b → (w.setCells b o vs).heap[k]? = w.heap[k]?
  | [], _, _ => ⟨rfl, rfl, rfl, rfl, fun _ _ => rfl⟩
  | v :: r, o, w => by
    rw [World.setCells]
    obtain ⟨h1, h2, h3, h4, h5⟩ := setCells_same b r (o + 1) (w.setCell ⟨b, o, none⟩ v)
    exact ⟨h1, h2, h3, h4.trans (by simp [World.setCell]), fun k hk => (h5 k hk).trans (Below.heap_setCell w ⟨b, o, none⟩ v k hk)⟩
theorem there_setCell {w : World} {b o n : Nat} (h : w.there b o n) (p : Addr) (v : Value) : (w.setCell p v).there b o n := by
  have := World.there_setCells h p.block p.off [v]
  intro j hj
  obtain ⟨h1, h2⟩ := h j hj
  obtain ⟨u, hu⟩ := Option.isSome_iff_exists.1 h1
  refine ⟨?_, by rw [World.frozen?_setCell]; exact h2⟩
  by_cases e : p = ⟨b, o + j, none⟩
  · subst e; rw [World.cell?_setCell_same _ _ _ hu]; rfl
  · rw [World.cell?_setCell_other _ _ _ _ e]; exact h1
theorem there_part {w : World} {b n o m : Nat} (h : w.there b 0 n) (hm : o + m ≤ n) : w.there b o m := fun j hj => by
  have := h (o + j) (by omega)
  rw [Nat.zero_add] at this; exact this
/-- A node's frame, and whether it waits. -/
def FrW (w : World) (nb i : Nat) (f : Fr) (has : Bool) : World := (w.setCells nb (i * 16 + 2) f.arr.toList).setCell ⟨nb, i * 16 + 14, none⟩ (.bool has)
theorem BusM.frm (h : BusM b nb ρ t l G V w) {i : Nat} (hi : i < l.length) (f : Fr) (has : Bool) : BusAt b nb ρ t (l.set i { l[i] with f := f, has := has }) (FrW w nb i f has) ∧ Ext ρ ρ w (FrW w nb i f has) := by
  obtain ⟨s1, s2, s3, s4, s5⟩ := setCells_same nb f.arr.toList (i * 16 + 2) w
  have hl : f.arr.toList.length = 12 := by simp [f.arr_size]
  obtain ⟨c0, c1, c2, c3, c4⟩ := range_node.1 (h.hn i hi)
  have htp := there_part (o := i * 16 + 2) (m := f.arr.toList.length) h.ht (by omega)
  have r1 := World.rangeAt_setCells_same w nb (i * 16 + 2) f.arr.toList htp
  have ht1 := World.there_setCells h.ht nb (i * 16 + 2) f.arr.toList
  have out : ∀ q, (q < i * 16 + 2 ∨ i * 16 + 14 ≤ q) → (w.setCells nb (i * 16 + 2) f.arr.toList).cell? ⟨nb, q, none⟩ = w.cell? ⟨nb, q, none⟩ := fun q hq => cell_setCells_other w nb _ _ q (by omega)
  have out2 : ∀ q, q ≠ i * 16 + 14 → (FrW w nb i f has).cell? ⟨nb, q, none⟩ = (w.setCells nb (i * 16 + 2) f.arr.toList).cell? ⟨nb, q, none⟩ := fun q hq => World.cell?_setCell_other _ _ _ _ (by intro e; injection e with _ e2; exact hq e2.symm)
  refine h.put hi { l[i] with f := f, has := has } (V i) rfl s1 s2 s3 ?_ (fun k hk => ?_) (fun o ho => ?_) (there_setCell ht1 _ _) (range_node.2 ⟨?_, ?_, ?_, ?_, ?_⟩) (.inl ⟨rfl, rfl⟩)
  · unfold FrW; simp [World.setCell, s4]
  · exact (Below.heap_setCell _ _ _ _ hk).trans (s5 k hk)
  · rw [out2 o (by omega), out o (by omega)]
  · rw [out2 _ (by omega), out _ (by omega)]; exact c0
  · rw [out2 _ (by omega), out _ (by omega)]; exact c1
  · intro j u hj
    have hjl : j < 12 := by have := (List.getElem?_eq_some_iff.1 hj).1; rw [frc_len] at this; exact this
    rw [out2 _ (by omega)]
    exact r1 j u (by simpa [Fr.arr] using hj)
  · exact World.cell?_setCell_same _ _ _ ((out _ (by omega)).trans c3)
  · rw [out2 _ (by omega), out _ (by omega)]; exact c4
/-- The store of a frame into a node, in the walk. -/
theorem BusM.stf {ops : Array Oper} {rest : List Oper} {o : Oper} {a : Act} {Q : Exit → Act → World → Prop} (h : BusM b nb ρ t l G V w) {i : Nat} (hi : i < l.length) (f : Fr) (hgd : o.guard = none) (x y : Operand) (ho : o.op = .store 38 x y) (hx : a.eval x = .pointer (some ⟨nb, i * 16 + 2, none⟩)) (hy : a.eval y = .agg f.arr)
    (hh : wpList Try.prog ops Q rest (a.put o.dst undef) (w.setCells nb (i * 16 + 2) f.arr.toList)) : wpList Try.prog ops Q (o :: rest) a w :=
  wpList_store_mid hgd 38 x y ho nb (i * 16 + 2) f.arr hx hy (there_part h.ht (by rw [f.arr_size]; omega)) (by rw [infoF, f.arr_size]) f.one hh
/-- What the walk wants to know of the node's mark behind it. -/
theorem BusM.mark (h : BusM b nb ρ t l G V w) {i : Nat} (hi : i < l.length) (f : Fr) : (w.setCells nb (i * 16 + 2) f.arr.toList).cell? ⟨nb, i * 16 + 14, none⟩ = some (.bool l[i].has) ∧ (w.setCells nb (i * 16 + 2) f.arr.toList).frozen? ⟨nb, i * 16 + 14, none⟩ = false := by
  have hl : f.arr.toList.length = 12 := by simp [f.arr_size]
  obtain ⟨c0, c1, c2, c3, c4⟩ := range_node.1 (h.hn i hi)
  refine ⟨(cell_setCells_other w nb _ _ _ (by omega)).trans c3, ?_⟩
  rw [World.frozen?_setCells]
  have := (h.ht (i * 16 + 14) (by omega)).2
  rw [Nat.zero_add] at this; exact this
set_option maxHeartbeats 1000000 in
theorem drop_any (h : BusM b nb ρ t l G V w) {i : Nat} (hi : i < l.length) :
    Calls Try.prog 56 #[.pointer (some ⟨nb, i * 16, none⟩)] w fun e w' => e = .returned (.tuple #[]) ∧ BusAt b nb ρ t (l.set i { l[i] with f := Fr.nul, has := false }) w' ∧ Ext ρ ρ w w' := by
  obtain ⟨f, hf⟩ : ∃ f, f = Fr.nul := ⟨_, rfl⟩
  have HY : Hid (Value.agg #[.int .u32 0, .bool false, .bool false, .int .i64 0, .int .u8 0, .int .u8 0, .int .u8 0, .int .u8 0, .int .u8 0, .int .u8 0, .int .u8 0, .int .u8 0] = .agg f.arr) := by subst hf; rfl
  rw [← hf]
  clear hf
  have HE : Hid (BusAt b nb ρ t (l.set i { l[i] with f := f, has := false }) (FrW w nb i f false) ∧ Ext ρ ρ w (FrW w nb i f false)) := h.frm hi f false
  obtain ⟨m1, m2⟩ := h.mark hi f
  go_enter Try.func56, Try.ntmps56
  go_wp2_with (refine h.stf hi f rfl _ _ rfl rfl (by exact HY.out) ?_)
  go_end0
  exact ⟨rfl, HE.out⟩
theorem infoNd : (Try.prog.info? 80).map (·.size) = some 16 := by kernel_rfl
/-- The store of a whole node. -/
theorem BusM.stn {ops : Array Oper} {rest : List Oper} {o : Oper} {a : Act} {Q : Exit → Act → World → Prop} (h : BusM b nb ρ t l G V w) {i : Nat} (hi : i < l.length) (on : Bool) (hgd : o.guard = none) (x y : Operand) (ho : o.op = .store 80 x y) (hx : a.eval x = .pointer (some ⟨nb, i * 16, none⟩)) (hy : a.eval y = .agg (({ Nd.nul with pw := on } : Nd).cells (G i) nilV).toArray)
    (hh : wpList Try.prog ops Q rest (a.put o.dst undef) (w.setCells nb (i * 16) (({ Nd.nul with pw := on } : Nd).cells (G i) nilV))) : wpList Try.prog ops Q (o :: rest) a w := by
  refine wpList_store_mid hgd 80 x y ho nb (i * 16) _ hx hy (there_part h.ht (by rw [List.size_toArray, Nd.len]; omega)) (by rw [infoNd, List.size_toArray, Nd.len]) (all_oneCell_toArray ?_) (by simpa using hh)
  intro v hv
  simp [Nd.cells, Nd.nul, Fr.cells, Fr.nul] at hv
  rcases hv with rfl | rfl | rfl | rfl | rfl | rfl | rfl | rfl <;> rfl
theorem BusM.fresh (h : BusM b nb ρ t l G V w) {i : Nat} (hi : i < l.length) (on : Bool) : BusAt b nb ρ t (l.set i { Nd.nul with pw := on, u := l[i].u }) (w.setCells nb (i * 16) (({ Nd.nul with pw := on } : Nd).cells (G i) nilV)) ∧ Ext ρ ρ w (w.setCells nb (i * 16) (({ Nd.nul with pw := on } : Nd).cells (G i) nilV)) := by
  obtain ⟨s1, s2, s3, s4, s5⟩ := setCells_same nb (({ Nd.nul with pw := on } : Nd).cells (G i) nilV) (i * 16) w
  refine h.put hi { Nd.nul with pw := on, u := l[i].u } nilV rfl s1 s2 s3 s4 s5 (fun o ho => cell_setCells_other w nb _ _ o (by rw [Nd.len]; omega)) (World.there_setCells h.ht nb _ _) ?_ (.inr ⟨rfl, rfl⟩)
  have := World.rangeAt_setCells_same w nb (i * 16) (({ Nd.nul with pw := on } : Nd).cells (G i) nilV) (there_part h.ht (by rw [Nd.len]; omega))
  exact this
theorem turn_any (h : BusM b nb ρ t l G V w) {i : Nat} (hi : i < l.length) (on : Bool) :
    Calls Try.prog 30 #[.pointer (some ⟨nb, i * 16, none⟩), .bool on] w fun e w' => e = .returned (.tuple #[]) ∧ BusAt b nb ρ t (l.set i { Nd.nul with pw := on }) w' ∧ Ext ρ ρ w w' := by
  have HS := reset_any (h.hu i hi)
  obtain ⟨c0, c1, c2, c3, c4⟩ := range_node.1 (h.hn i hi)
  go_enter Try.func30, Try.ntmps30
  go_wp2_with fail
  refine HS.mono ?_
  rintro e w1 ⟨rfl, u1, t1⟩
  obtain ⟨⟨G1, V1, h1⟩, x1⟩ := h.unit hi u1 t1
  have hi1 : i < (l.set i { l[i] with u := Un.nul }).length := by simpa using hi
  obtain ⟨d0, d1, d2, d3, d4⟩ := range_node.1 (h1.hn i hi1)
  obtain ⟨y1, y2⟩ := h1.fresh hi1 on
  have HE : Hid (BusAt b nb ρ t (l.set i { Nd.nul with pw := on }) (w1.setCells nb (i * 16) (({ Nd.nul with pw := on } : Nd).cells (G1 i) nilV)) ∧ Ext ρ ρ w (w1.setCells nb (i * 16) (({ Nd.nul with pw := on } : Nd).cells (G1 i) nilV))) := by
    refine ⟨?_, x1.trans y2⟩
    simpa [List.getElem_set, Nd.nul] using y1
  clear HS u1 t1 y1 y2 c0 c1 c2 c3 c4
  go_wp2_with (refine h1.stn hi1 on rfl _ _ rfl rfl rfl ?_)
  go_end0
  exact ⟨rfl, HE.out⟩
end
end Go.Proofs.Ytjblekemmcmblaa
namespace Go.Proofs.Ytjblekemmcmblaa
open Go.RowKit Go.Proofs.Bits
set_option linter.unusedVariables false
set_option maxRecDepth 1000000

def tk (got : List Fr) (f : Fr) : List Fr := if got.length < 64 then got ++ [f] else got
theorem run_bs_frame (f : Fr) (w : World) : (Instr.buildSlice 42 1 #[(0, .agg f.arr)]).run Try.prog w = .ok (.slice (some ⟨w.heap.size, 0, none⟩) 1 1) (w.alloc (.cells f.arr 38)) := by
  obtain ⟨i0, hi, hz0, hz1, hz2⟩ := info_parts infoFZ
  refine run_buildSlice w 42 38 1 _ f.arr i0 _ Try.underlying42 hi hz0 (by rw [hz1]; decide) (by rw [hz1]; decide) ?_
  rw [hz1]
  have hsz : (Value.agg f.arr).cells.size = 12 := f.arr_size
  have := Go.Great.fill_whole (by decide : 0 < 12) [Value.agg f.arr] ((Array.range (1 * 12)).map ((Value.agg Fr.nul.arr).cells[· % (Value.agg Fr.nul.arr).cells.size]!)) (by intro v hv; simp at hv; subst hv; exact hsz) (by simp)
  simpa [Value.cells] using this
theorem arr_letters (f : Fr) : ∃ a0 a1 a2 a3 a4 a5 a6 a7 a8 a9 a10 a11 : Value, f.arr = #[a0, a1, a2, a3, a4, a5, a6, a7, a8, a9, a10, a11] := by
  obtain ⟨i, x, r, n, d0, d1, d2, d3, d4, d5, d6, d7, e⟩ := arr_full f
  exact ⟨_, _, _, _, _, _, _, _, _, _, _, _, e⟩
section
variable {b nb : Nat} {ρ : Nat → Ro} {t : Int} {l : List Nd} {G : Nat → Nat} {V : Nat → Value} {w : World}
/-- Behind the append and the store: the node has one frame more. -/
theorem BusM.more (h : BusM b nb ρ t l G V w) {i : Nat} (hi : i < l.length) (f : Fr) {w1 : World} {g cap : Nat} (hgrow : w.grownBy w1 (V i).ownBlock) (hown : w1.ownsRow 0 38 12 (.slice (some ⟨g, 0, none⟩) (l[i].got.length + 1) cap) (l[i].got.length + 1) (flatW DF l[i].got ++ f.cells)) (hat : (V i).ownBlock = some g ∨ g = w.heap.size) (hlt : g < w1.heap.size) :
    ∃ ρ', BusAt b nb ρ' t (l.set i { l[i] with got := l[i].got ++ [f] }) (w1.setCell ⟨nb, i * 16 + 15, none⟩ (.slice (some ⟨g, 0, none⟩) (l[i].got.length + 1) cap)) ∧ Ext ρ ρ' w (w1.setCell ⟨nb, i * 16 + 15, none⟩ (.slice (some ⟨g, 0, none⟩) (l[i].got.length + 1) cap)) := by
  have kn : w1.heap[nb]? = w.heap[nb]? := hgrow.block nb h.lt_n (fun e => h.n_g hi e.symm)
  have gn : g ≠ nb := by
    rcases hat with e | e
    · intro x; subst x; exact h.n_g hi e
    · have := h.lt_n; omega
  obtain ⟨c0, c1, c2, c3, c4⟩ := range_node.1 (range_kept (h.hn i hi) kn)
  have out : ∀ q, q ≠ i * 16 + 15 → (w1.setCell ⟨nb, i * 16 + 15, none⟩ (.slice (some ⟨g, 0, none⟩) (l[i].got.length + 1) cap)).cell? ⟨nb, q, none⟩ = w1.cell? ⟨nb, q, none⟩ := fun q hq => World.cell?_setCell_other _ _ _ _ (by intro e; injection e with _ e2; exact hq e2.symm)
  have hsz : (w1.setCell ⟨nb, i * 16 + 15, none⟩ (.slice (some ⟨g, 0, none⟩) (l[i].got.length + 1) cap)).heap.size = w1.heap.size := by simp [World.setCell]
  have hblk : ∀ k, k < w.heap.size → k ≠ nb → (V i).ownBlock ≠ some k → (w1.setCell ⟨nb, i * 16 + 15, none⟩ (.slice (some ⟨g, 0, none⟩) (l[i].got.length + 1) cap)).heap[k]? = w.heap[k]? := fun k hk h1 h2 => (Below.heap_setCell w1 ⟨nb, i * 16 + 15, none⟩ _ k h1).trans (hgrow.block k hk (fun e => h2 e.symm))
  refine ⟨fun k => if k = g then .got i else ρ k, ⟨G, _, h.upd hi { l[i] with got := l[i].got ++ [f] } (.slice (some ⟨g, 0, none⟩) (l[i].got.length + 1) cap) _ _ (by rw [hsz]; exact hgrow.size) (fun k hk h1 _ h2 => hblk k hk h1 h2) (fun o ho => ?_) (there_setCell (there_kept h.ht kn) _ _) (range_node.2 ⟨?_, ?_, ?_, ?_, ?_⟩) ?_ ?_ (fun k hk => ?_) (fun k hk => ?_) (fun k hk => ?_)⟩, hgrow.os, hgrow.tape, hgrow.output, by rw [hsz]; exact hgrow.size, fun k hk hr => ?_, fun k hk => ?_⟩
  · rw [out o (by omega)]; exact World.cell?_of_block (a := ⟨nb, o, none⟩) kn
  · rw [out _ (by omega)]; exact c0
  · rw [out _ (by omega)]; exact c1
  · intro j u hj
    have hjl : j < 12 := by have := (List.getElem?_eq_some_iff.1 hj).1; rw [frc_len] at this; exact this
    rw [out _ (by omega)]; exact c2 j u hj
  · rw [out _ (by omega)]; exact c3
  · exact World.cell?_setCell_same _ _ _ c4
  · exact (hblk _ (h.lt_u hi) (h.n_u hi).symm (h.u_g hi hi)).trans (h.hu i hi)
  · have e : flatW DF (l[i].got ++ [f]) = flatW DF l[i].got ++ f.cells := by rw [flatW_append]; simp [flatW, DF]
    simp only [List.length_append, List.length_cons, List.length_nil, Nat.zero_add]
    rw [e]
    exact own_at hown fun g' hg' => by cases hg'; exact Below.heap_setCell w1 ⟨nb, i * 16 + 15, none⟩ _ g gn
  · by_cases e : k = g
    · subst e
      rcases hat with e | e
      · simp only [if_true]; exact (h.rg i hi k e).symm
      · omega
    · rw [if_neg e]
  · cases hk; simp
  · rw [hsz] at hk
    rw [if_neg (by omega)]
    exact h.rz k (Nat.le_trans hgrow.size hk)
  · exact hblk k hk (fun e => by rw [e, h.rn] at hr; cases hr) (fun e => by rw [h.rg i hi k e] at hr; cases hr)
  · by_cases e : k = g
    · subst e
      rcases hat with e | e
      · simp only [if_true]; exact (h.rg i hi k e).symm
      · omega
    · simp only [if_neg e]
set_option maxHeartbeats 3200000 in
theorem take_any4 (h : BusM b nb ρ t l G V w) {i : Nat} (hi : i < l.length) (f : Fr) (h64 : l[i].got.length ≤ 64) :
    Calls Try.prog 59 #[.pointer (some ⟨nb, i * 16, none⟩), f.val] w fun e w' => e = .returned (.tuple #[]) ∧ ∃ ρ', BusAt b nb ρ' t (l.set i { l[i] with got := tk l[i].got f }) w' ∧ Ext ρ ρ' w w' := by
  have b1 : Below w.heap.size w (w.alloc (.cells f.arr 38)) := (Below.refl _ _).alloc (Nat.le_refl _) _
  have h1 := h.below b1
  obtain ⟨c0, c1, c2, c3, c4⟩ := range_node.1 (h1.hn i hi)
  have hown := h1.hg i hi
  obtain ⟨ao, cp, hv⟩ := own_shape hown
  unfold Fr.val
  by_cases hlt : l[i].got.length < 64
  · have HT : Hid (tk l[i].got f = l[i].got ++ [f]) := by show _ = _; unfold tk; rw [if_pos hlt]
    rw [HT.out]
    obtain ⟨i0, hi0, hz0, hz1, hz2⟩ := info_parts infoFZ
    have hbs := run_bs_frame f
    have hu := Try.underlying38
    have hl12 : f.cells.length = 12 := frc_len f
    have hin : (Try.prog.info? 38).map (·.size) = some f.cells.length := by rw [hl12]; exact infoF
    have hone : ∀ v ∈ f.cells, v.oneCell' = true := DF.one f
    have rf : (w.alloc (.cells f.arr 38)).rangeAt w.heap.size 0 f.cells := by
      intro j v hj
      rw [Lib.cell_of_heap (heap_alloc_new w _), Nat.zero_add]
      simpa [Fr.arr] using hj
    have ff : (w.alloc (.cells f.arr 38)).frozen? ⟨nb, i * 16 + 15, none⟩ = false := by
      have := (h1.ht (i * 16 + 15) (by omega)).2
      rw [Nat.zero_add] at this; exact this
    have ag := h1.n_g hi
    have hln := h.lt_n
    have hog : (V i).ownBlock ≠ some w.heap.size := fun e => by
      have := (own_block_lt (h.hg i hi) e).2.1; omega
    have HV : Hid (V i = .slice ao l[i].got.length cp) := hv
    rw [hv] at c4 hown ag hog
    have HI : Hid (i < l.length) := hi
    have hl64 : (l[i].got.length : Int) < 64 := by omega
    generalize hgo : l[i].got = got at *
    have HG : Hid (l[i].got = got) := hgo
    obtain ⟨a0, a1, a2, a3, a4, a5, a6, a7, a8, a9, a10, a11, ha⟩ := arr_letters f
    have HNews : Hid (∀ j u, f.cells[j]? = some u → (((w.alloc (.cells f.arr 38)).alloc (.cells #[a0, a1, a2, a3, a4, a5, a6, a7, a8, a9, a10, a11] 38)).drew).cell? ((⟨w.heap.size + 1, 0, none⟩ : Addr).add j) = some u) := by
      show ∀ j u, _ → _
      rw [← ha]
      have h9 := heap_alloc_new (w.alloc (.cells f.arr 38)) (.cells f.arr 38)
      rw [size_alloc] at h9
      intro j u hj
      have := Lib.cell_of_heap h9 j
      rw [add_off, Nat.zero_add]
      exact this.trans (by simpa [Fr.arr] using hj)
    have HFz : Hid ((((w.alloc (.cells f.arr 38)).alloc (.cells #[a0, a1, a2, a3, a4, a5, a6, a7, a8, a9, a10, a11] 38)).drew).frozen? ⟨nb, i * 16 + 15, none⟩ = false) := by
      show _ = _
      have hl2 := h1.lt_n
      exact (World.frozen?_of_block (a := ⟨nb, i * 16 + 15, none⟩) (Below.heap_alloc (w.alloc (.cells f.arr 38)) (.cells #[a0, a1, a2, a3, a4, a5, a6, a7, a8, a9, a10, a11] 38) nb hl2)).trans ff
    have H2 : Hid (BusM b nb ρ t l G V ((w.alloc (.cells f.arr 38)).alloc (.cells #[a0, a1, a2, a3, a4, a5, a6, a7, a8, a9, a10, a11] 38)).drew) := h1.below (below_drawn ((Below.refl _ _).alloc (Nat.le_refl _) _) 1)
    have HX : Hid (Ext ρ ρ w ((w.alloc (.cells f.arr 38)).alloc (.cells #[a0, a1, a2, a3, a4, a5, a6, a7, a8, a9, a10, a11] 38)).drew) := Ext.below (below_drawn (((Below.refl _ _).alloc (Nat.le_refl _) _).alloc (by rw [size_alloc]; omega) _) 1)
    have HCz : Hid ((((w.alloc (.cells f.arr 38)).alloc (.cells #[a0, a1, a2, a3, a4, a5, a6, a7, a8, a9, a10, a11] 38)).drew).cell? ⟨nb, i * 16 + 15, none⟩ = some (.slice ao got.length cp)) := by
      show _ = _
      have hl2 := h1.lt_n
      exact (World.cell?_of_block (a := ⟨nb, i * 16 + 15, none⟩) (Below.heap_alloc (w.alloc (.cells f.arr 38)) (.cells #[a0, a1, a2, a3, a4, a5, a6, a7, a8, a9, a10, a11] 38) nb hl2)).trans c4
    have cells12 : ∀ k v, f.arr[k]? = some v → (w.alloc (.cells f.arr 38)).cell? ⟨w.heap.size, k, none⟩ = some v := fun k v hk => (Lib.cell_of_heap (heap_alloc_new w _) k).trans hk
    have k0 := cells12 0 a0 (by rw [ha]; rfl)
    have k1 := cells12 1 a1 (by rw [ha]; rfl)
    have k2 := cells12 2 a2 (by rw [ha]; rfl)
    have k3 := cells12 3 a3 (by rw [ha]; rfl)
    have k4 := cells12 4 a4 (by rw [ha]; rfl)
    have k5 := cells12 5 a5 (by rw [ha]; rfl)
    have k6 := cells12 6 a6 (by rw [ha]; rfl)
    have k7 := cells12 7 a7 (by rw [ha]; rfl)
    have k8 := cells12 8 a8 (by rw [ha]; rfl)
    have k9 := cells12 9 a9 (by rw [ha]; rfl)
    have k10 := cells12 10 a10 (by rw [ha]; rfl)
    have k11 := cells12 11 a11 (by rw [ha]; rfl)
    rw [show (Value.agg f.arr) = .agg #[a0, a1, a2, a3, a4, a5, a6, a7, a8, a9, a10, a11] by rw [ha]] at hbs
    clear c0 c1 c2 c3 h1 b1 hv hlt hgo HT rf cells12 hu hin ha
    go_enter Try.func59, Try.ntmps59
    go_wp2_with fail
    go_region_law
      ((refine step_append_lies _ (by rfl) _ _ _ (by rfl) 0 38 i0 _ 12 24 Try.underlying42 hi0 hz0 hz1 hz2 rfl (by omega) (.slice ao got.length cp) got.length (flatW DF got) (by rfl) ((hown.alloc _).drew)
            ⟨w.heap.size + 1, 0, none⟩ 1 1 f.cells (by rfl) (by rw [hl12]) HNews.out hone
            (by omega) (by unfold maxLen; omega) (by omega) (by omega) (w.heap.size + 2) (by simp) ?_; intro gg cap w1 hown1 hgrow hat hlt; have hfz : w1.frozen? ⟨nb, i * 16 + 15, none⟩ = false := (hgrow.frozen_far _ (by simp; omega) (Ne.symm ag)).trans HFz.out; have hcz : w1.cell? ⟨nb, i * 16 + 15, none⟩ = some (.slice ao got.length cp) := (hgrow.cell_far _ (by simp; omega) (Ne.symm ag)).trans HCz.out))
    all_goals
      go_end0
      have hgo := HG.out
      subst hgo
      rw [← HV.out] at hgrow hat
      obtain ⟨ρ', r1, r2⟩ := H2.out.more HI.out f hgrow hown1 (by simpa using hat) hlt
      exact ⟨rfl, ρ', r1, HX.out.trans r2⟩
  · have HT : Hid (tk l[i].got f = l[i].got) := by show _ = _; unfold tk; rw [if_neg hlt]
    have HE : Hid (l.set i { l[i] with got := tk l[i].got f } = l) := by show _ = _; rw [HT.out]; exact List.set_getElem_self hi
    have e64 : l[i].got.length = 64 := by omega
    rw [hv, e64] at c4
    rw [HE.out]
    have hR : Hid (∃ ρ', BusAt b nb ρ' t l (w.alloc (.cells f.arr 38)) ∧ Ext ρ ρ' w (w.alloc (.cells f.arr 38))) := ⟨ρ, ⟨G, V, h1⟩, Ext.below b1⟩
    clear h1 hown HE HT h64 hlt
    go_enter Try.func59, Try.ntmps59
    go_wp2
    go_end0
    exact ⟨rfl, hR.out⟩
end
end Go.Proofs.Ytjblekemmcmblaa
namespace Go.Proofs.Ytjblekemmcmblaa
open Go.RowKit Go.Proofs.Bits
set_option linter.unusedVariables false
set_option maxRecDepth 1000000

section
variable {b nb : Nat} {ρ : Nat → Ro} {t : Int} {l : List Nd} {G : Nat → Nat} {V : Nat → Value} {w : World}
theorem BusM.cells (h : BusM b nb ρ t l G V w) : w.cell? ⟨b, 0, none⟩ = some (.slice (some ⟨nb, 0, none⟩) l.length l.length) ∧ w.cell? ⟨b, 1, none⟩ = some (.int .u64 t) ∧ ∀ k, w.frozen? ⟨b, k, none⟩ = false :=
  ⟨Lib.cell_of_heap h.hb 0, Lib.cell_of_heap h.hb 1, fun k => Lib.frozen_of_heap h.hb k⟩
theorem at_no (h : BusM b nb ρ t l G V w) (hl : l.length ≤ 127) {i : Int} (hi : i < 0 ∨ (l.length : Int) ≤ i) :
    Calls Try.prog 29 #[.pointer (some ⟨b, 0, none⟩), .int .i64 i] w fun e w' => e = .returned (.pointer none) ∧ w' = w := by
  obtain ⟨c0, c1, hf⟩ := h.cells
  clear h
  by_cases h0 : i < 0
  · have d0 : decide (i < 0) = true := by simpa using h0
    go_enter Try.func29, Try.ntmps29
    go_wp2
    go_ret
    exact ⟨rfl, rfl⟩
  · have d0 : decide (i < 0) = false := by simpa using h0
    have d1 : decide ((l.length : Int) ≤ i) = true := by simp; omega
    go_enter Try.func29, Try.ntmps29
    go_wp2
    go_ret
    exact ⟨rfl, rfl⟩
theorem at_yes (h : BusM b nb ρ t l G V w) (hl : l.length ≤ 127) {k : Nat} (hk : k < l.length) :
    Calls Try.prog 29 #[.pointer (some ⟨b, 0, none⟩), .int .i64 k] w fun e w' => e = .returned (.pointer (some ⟨nb, k * 16, none⟩)) ∧ w' = w := by
  obtain ⟨c0, c1, hf⟩ := h.cells
  clear h
  have d1 : decide ((l.length : Int) ≤ k) = false := by simp; omega
  go_enter Try.func29, Try.ntmps29
  go_wp2
  go_ret
  exact ⟨rfl, rfl⟩
def powL (l : List Nd) (k : Nat) (on : Bool) : List Nd := if (l.getD k Nd.nul).pw = on then l else l.set k { Nd.nul with pw := on }
theorem Power_no (h : BusM b nb ρ t l G V w) (hl : l.length ≤ 127) {i : Int} (on : Bool) (hi : i < 0 ∨ (l.length : Int) ≤ i) :
    Calls Try.prog 13 #[.pointer (some ⟨b, 0, none⟩), .int .i64 i, .bool on] w fun e w' => e = .returned (.int .i64 1) ∧ w' = w := by
  have HA := at_no h hl hi
  clear h hi
  go_enter Try.func13, Try.ntmps13
  go_wp2_with fail
  refine HA.mono ?_
  rintro e w' ⟨rfl, rfl⟩
  go_wp2
  go_ret
  exact ⟨rfl, rfl⟩
theorem Power_any (h : BusAt b nb ρ t l w) (hl : l.length ≤ 127) {k : Nat} (on : Bool) (hk : k < l.length) :
    Calls Try.prog 13 #[.pointer (some ⟨b, 0, none⟩), .int .i64 k, .bool on] w fun e w' => e = .returned (.int .i64 0) ∧ BusAt b nb ρ t (powL l k on) w' ∧ Ext ρ ρ w w' := by
  obtain ⟨G, V, h⟩ := h
  have HA := at_yes h hl hk
  have HT := turn_any h hk on
  obtain ⟨c0, c1, c2, c3, c4⟩ := range_node.1 (h.hn k hk)
  have HP : Hid (powL l k on = if l[k].pw = on then l else l.set k { Nd.nul with pw := on }) := by show _ = _; unfold powL; simp [hk]
  have HR : Hid (BusAt b nb ρ t l w ∧ Ext ρ ρ w w) := ⟨⟨G, V, h⟩, Ext.refl _ _⟩
  clear h
  generalize powL l k on = L at *
  generalize l[k].pw = pw at *
  cases pw <;> cases on
  · have HQ : Hid (L = l) := HP.out
    clear HP HT
    go_enter Try.func13, Try.ntmps13
    go_wp2_with fail
    refine HA.mono ?_
    rintro e w' ⟨rfl, rfl⟩
    go_wp2
    go_ret
    exact ⟨rfl, by rw [HQ.out]; exact HR.out⟩
  · have HQ : Hid (L = l.set k { Nd.nul with pw := true }) := HP.out
    clear HP HR
    go_enter Try.func13, Try.ntmps13
    go_wp2_with fail
    refine HA.mono ?_
    rintro e w' ⟨rfl, rfl⟩
    go_wp2_with fail
    refine HT.mono ?_
    rintro e w1 ⟨rfl, r1⟩
    go_wp2
    go_ret
    exact ⟨rfl, by rw [HQ.out]; exact r1⟩
  · have HQ : Hid (L = l.set k { Nd.nul with pw := false }) := HP.out
    clear HP HR
    go_enter Try.func13, Try.ntmps13
    go_wp2_with fail
    refine HA.mono ?_
    rintro e w' ⟨rfl, rfl⟩
    go_wp2_with fail
    refine HT.mono ?_
    rintro e w1 ⟨rfl, r1⟩
    go_wp2
    go_ret
    exact ⟨rfl, by rw [HQ.out]; exact r1⟩
  · have HQ : Hid (L = l) := HP.out
    clear HP HT
    go_enter Try.func13, Try.ntmps13
    go_wp2_with fail
    refine HA.mono ?_
    rintro e w' ⟨rfl, rfl⟩
    go_wp2
    go_ret
    exact ⟨rfl, by rw [HQ.out]; exact HR.out⟩
def subE (l : List Nd) (k : Nat) (f : Fr) : Int := if f.chk = 0 then (if (l.getD k Nd.nul).pw && !(l.getD k Nd.nul).u.off then (if (l.getD k Nd.nul).has then 31 else 0) else 30) else f.chk
def subL (l : List Nd) (k : Nat) (f : Fr) : List Nd := if subE l k f = 0 then l.set k { l.getD k Nd.nul with f := f.plain, has := true } else l
set_option maxHeartbeats 1000000 in
theorem Submit_any (h : BusAt b nb ρ t l w) (hl : l.length ≤ 127) {k : Nat} (hk : k < l.length) (f : Fr) :
    Calls Try.prog 14 #[.pointer (some ⟨b, 0, none⟩), .int .i64 k, f.val] w fun e w' => e = .returned (.int .i64 (subE l k f)) ∧ BusAt b nb ρ t (subL l k f) w' ∧ Ext ρ ρ w w' := by
  obtain ⟨G, V, h⟩ := h
  have b1 : Below w.heap.size w (w.alloc (.cells f.arr 38)) := (Below.refl _ _).alloc (Nat.le_refl _) _
  have h1 := h.below b1
  have HA := at_yes h1 hl hk
  have fn := Fa.new w f
  have HC := fCheck_any f (w.alloc (.cells f.arr 38))
  have hget : l.getD k Nd.nul = l[k] := by simp [hk]
  have HE : Hid (subE l k f = if f.chk = 0 then (if l[k].pw && !l[k].u.off then (if l[k].has then 31 else 0) else 30) else f.chk) := by show _ = _; unfold subE; rw [hget]
  have HL : Hid (subL l k f = if subE l k f = 0 then l.set k { l[k] with f := f.plain, has := true } else l) := by show _ = _; unfold subL; rw [hget]
  generalize subE l k f = E at *
  generalize subL l k f = L at *
  clear hget
  unfold Fr.val at HC
  rcases chk_cases f with hz | hz
  · rw [hz] at HC
    rw [if_pos hz] at HE
    generalize htp : (l[k].pw && !l[k].u.off) = tp at *
    cases tp
    · have HE2 : Hid (E = 30) := HE.out
      have HL2 : Hid (L = l) := by show _ = _; rw [HL.out, HE2.out]; rfl
      clear HE HL
      unfold Fr.val
      go_enter Try.func14, Try.ntmps14
      go_wp2_with fail
      refine HA.mono ?_
      rintro e w' ⟨rfl, rfl⟩
      go_wp2_with (refine fn.ldw rfl _ rfl rfl ?_)
      refine HC.mono ?_
      rintro e w2 ⟨rfl, b2⟩
      have h2 := h1.below b2
      obtain ⟨c0, c1, c2, c3, c4⟩ := range_node.1 (h2.hn k hk)
      have HT := takesPart_any c0 c1 (h2.hu k hk)
      rw [htp] at HT
      have HR : Hid (∀ n, BusAt b nb ρ t l (w2.drewN n) ∧ Ext ρ ρ w (w2.drewN n)) := fun n => ⟨⟨G, V, h2.below (below_drawn (Below.refl _ _) n)⟩, (Ext.below (b1.trans (b2.mono b1.size))).trans (Ext.drawn n)⟩
      clear HC HA fn h1 h b1 b2 h2
      go_wp2_with fail
      refine HT.mono ?_
      rintro e w3 ⟨rfl, n, rfl⟩
      go_wp2
      go_ret
      exact ⟨ret_int HE2.out.symm, by rw [HL2.out]; exact HR.out n⟩
    · rw [if_pos rfl] at HE
      generalize hha : l[k].has = ha at *
      cases ha
      · have HE2 : Hid (E = 0) := HE.out
        have HL2 : Hid (L = l.set k { l[k] with f := f.plain, has := true }) := by show _ = _; rw [HL.out, if_pos HE2.out]
        clear HE HL
        unfold Fr.val
        go_enter Try.func14, Try.ntmps14
        go_wp2_with fail
        refine HA.mono ?_
        rintro e w' ⟨rfl, rfl⟩
        go_wp2_with (refine fn.ldw rfl _ rfl rfl ?_)
        refine HC.mono ?_
        rintro e w2 ⟨rfl, b2⟩
        have h2 := h1.below b2
        have fn2 : Fa w.heap.size f w2 := (b2.block _ fn.lt).trans fn
        obtain ⟨c0, c1, c2, c3, c4⟩ := range_node.1 (h2.hn k hk)
        have HT := takesPart_any c0 c1 (h2.hu k hk)
        rw [htp] at HT
        clear HC HA fn h1 h
        go_wp2_with fail
        refine HT.mono ?_
        rintro e w3 ⟨rfl, n, rfl⟩
        have h3 := h2.below (below_drawn (Below.refl _ _) n)
        have fn3 : Fa w.heap.size f (w2.drewN n) := fn2
        have HPl := fPlain_any f (w2.drewN n)
        unfold Fr.val at HPl
        obtain ⟨c0, c1, c2, c3, c4⟩ := range_node.1 (h3.hn k hk)
        rw [hha] at c3
        clear HT
        go_wp2_with (refine fn3.ldw rfl _ rfl rfl ?_)
        refine HPl.mono ?_
        rintro e w4 ⟨rfl, b4⟩
        have h4 := h3.below b4
        have HX : Hid (Ext ρ ρ w w4) := ((Ext.below (b1.trans (b2.mono b1.size))).trans (Ext.drawn n)).trans (Ext.below b4)
        have HR := h4.frm hk f.plain true
        obtain ⟨m1, m2⟩ := h4.mark hk f.plain
        have HR2 : Hid (BusAt b nb ρ t (l.set k { l[k] with f := f.plain, has := true }) (FrW w4 nb k f.plain true) ∧ Ext ρ ρ w (FrW w4 nb k f.plain true)) := ⟨HR.1, HX.out.trans HR.2⟩
        clear HPl b4 h3 fn3 fn2 h2 b2 b1 HR
        go_wp2_with (refine h4.stf hk f.plain rfl _ _ rfl rfl rfl ?_)
        go_ret
        exact ⟨ret_int HE2.out.symm, by rw [HL2.out]; exact HR2.out⟩
      · have HE2 : Hid (E = 31) := HE.out
        have HL2 : Hid (L = l) := by show _ = _; rw [HL.out, HE2.out]; rfl
        clear HE HL
        unfold Fr.val
        go_enter Try.func14, Try.ntmps14
        go_wp2_with fail
        refine HA.mono ?_
        rintro e w' ⟨rfl, rfl⟩
        go_wp2_with (refine fn.ldw rfl _ rfl rfl ?_)
        refine HC.mono ?_
        rintro e w2 ⟨rfl, b2⟩
        have h2 := h1.below b2
        obtain ⟨c0, c1, c2, c3, c4⟩ := range_node.1 (h2.hn k hk)
        have HT := takesPart_any c0 c1 (h2.hu k hk)
        rw [htp] at HT
        have HR : Hid (∀ n, BusAt b nb ρ t l (w2.drewN n) ∧ Ext ρ ρ w (w2.drewN n)) := fun n => ⟨⟨G, V, h2.below (below_drawn (Below.refl _ _) n)⟩, (Ext.below (b1.trans (b2.mono b1.size))).trans (Ext.drawn n)⟩
        rw [hha] at c3
        clear HC HA fn h1 h b1 b2
        go_wp2_with fail
        refine HT.mono ?_
        rintro e w3 ⟨rfl, n, rfl⟩
        have h3 := h2.below (below_drawn (Below.refl _ _) n)
        obtain ⟨c0, c1, c2, c3, c4⟩ := range_node.1 (h3.hn k hk)
        rw [hha] at c3
        clear h2 HT
        go_wp2
        go_ret
        exact ⟨ret_int HE2.out.symm, by rw [HL2.out]; exact HR.out n⟩
  · rw [hz] at HC HE
    have HE2 : Hid (E = 1) := HE.out
    have HL2 : Hid (L = l) := by show _ = _; rw [HL.out, HE2.out]; rfl
    clear HE HL
    unfold Fr.val
    go_enter Try.func14, Try.ntmps14
    go_wp2_with fail
    refine HA.mono ?_
    rintro e w' ⟨rfl, rfl⟩
    go_wp2_with (refine fn.ldw rfl _ rfl rfl ?_)
    refine HC.mono ?_
    rintro e w2 ⟨rfl, b2⟩
    have HR : Hid (BusAt b nb ρ t l w2 ∧ Ext ρ ρ w w2) := ⟨⟨G, V, h1.below b2⟩, Ext.below (b1.trans (b2.mono b1.size))⟩
    clear HC HA fn h1 h b1 b2
    go_wp2
    go_ret
    exact ⟨ret_int HE2.out.symm, by rw [HL2.out]; exact HR.out⟩
theorem BusM.emptied (h : BusM b nb ρ t l G V w) {i : Nat} (hi : i < l.length) : BusAt b nb ρ t (l.set i { l[i] with got := [] }) (w.setCell ⟨nb, i * 16 + 15, none⟩ nilV) ∧ Ext ρ ρ w (w.setCell ⟨nb, i * 16 + 15, none⟩ nilV) := by
  obtain ⟨c0, c1, c2, c3, c4⟩ := range_node.1 (h.hn i hi)
  have out : ∀ q, q ≠ i * 16 + 15 → (w.setCell ⟨nb, i * 16 + 15, none⟩ nilV).cell? ⟨nb, q, none⟩ = w.cell? ⟨nb, q, none⟩ := fun q hq => World.cell?_setCell_other _ _ _ _ (by intro e; injection e with _ e2; exact hq e2.symm)
  refine h.put hi { l[i] with got := [] } nilV rfl rfl rfl rfl (by simp [World.setCell]) (fun k hk => Below.heap_setCell _ _ _ _ hk) (fun o ho => out o (by omega)) (there_setCell h.ht _ _) (range_node.2 ⟨?_, ?_, ?_, ?_, ?_⟩) (.inr ⟨rfl, rfl⟩)
  · rw [out _ (by omega)]; exact c0
  · rw [out _ (by omega)]; exact c1
  · intro j u hj
    have hjl : j < 12 := by have := (List.getElem?_eq_some_iff.1 hj).1; rw [frc_len] at this; exact this
    rw [out _ (by omega)]; exact c2 j u hj
  · rw [out _ (by omega)]; exact c3
  · exact World.cell?_setCell_same _ _ _ c4
theorem Fetch_any (h : BusAt b nb ρ t l w) (hl : l.length ≤ 127) {k : Nat} (hk : k < l.length) :
    Calls Try.prog 17 #[.pointer (some ⟨b, 0, none⟩), .int .i64 k] w fun e w' => ∃ v, e = .returned (.tuple #[v, .int .i64 0]) ∧ Frames w' v l[k].got ∧ BusAt b nb ρ t (l.set k { l[k] with got := [] }) w' ∧ Ext ρ ρ w w' := by
  obtain ⟨G, V, h⟩ := h
  have HA := at_yes h hl hk
  obtain ⟨c0, c1, c2, c3, c4⟩ := range_node.1 (h.hn k hk)
  have fz : w.frozen? ⟨nb, k * 16 + 15, none⟩ = false := by
    have := (h.ht (k * 16 + 15) (by omega)).2
    rw [Nat.zero_add] at this; exact this
  obtain ⟨ao, cp, hv⟩ := own_shape (h.hg k hk)
  have HR : Hid (BusAt b nb ρ t (l.set k { l[k] with got := [] }) (w.setCell ⟨nb, k * 16 + 15, none⟩ nilV) ∧ Ext ρ ρ w (w.setCell ⟨nb, k * 16 + 15, none⟩ nilV)) := h.emptied hk
  have HF : Hid (Frames (w.setCell ⟨nb, k * 16 + 15, none⟩ nilV) (V k) l[k].got) := wide_of_own DF (own_at (h.hg k hk) fun g hg => Below.heap_setCell w ⟨nb, k * 16 + 15, none⟩ nilV g (fun e => h.n_g hk (by rw [hg, e])))
  rw [hv] at c4 HF
  clear h hv
  go_enter Try.func17, Try.ntmps17
  go_wp2_with fail
  refine HA.mono ?_
  rintro e w' ⟨rfl, rfl⟩
  go_wp2
  go_ret2
  exact ⟨_, rfl, HF.out, HR.out⟩
theorem Time_any (h : BusAt b nb ρ t l w) : Calls Try.prog 23 #[.pointer (some ⟨b, 0, none⟩)] w fun e w' => e = .returned (.int .u64 t) ∧ w' = w := by
  obtain ⟨G, V, h⟩ := h
  obtain ⟨c0, c1, hf⟩ := h.cells
  clear h
  go_enter Try.func23, Try.ntmps23
  go_wp2
  go_ret
  exact ⟨rfl, rfl⟩
end
end Go.Proofs.Ytjblekemmcmblaa
namespace Go.Proofs.Ytjblekemmcmblaa
open Go.RowKit Go.Proofs.Bits
set_option linter.unusedVariables false
set_option maxRecDepth 1000000

/-- The first k nodes are turned. -/
def mapK (f : Nat → Nd → Nd) (l : List Nd) (k : Nat) : List Nd := l.mapIdx fun i n => if i < k then f i n else n
section
variable {f : Nat → Nd → Nd} {l : List Nd} {k : Nat}
theorem mapK_len : (mapK f l k).length = l.length := by simp [mapK]
theorem mapK_zero : mapK f l 0 = l := by
  unfold mapK
  apply List.ext_getElem
  · simp
  · intro i h1 h2; simp
theorem mapK_full : mapK f l l.length = l.mapIdx f := by
  unfold mapK
  apply List.ext_getElem
  · simp
  · intro i h1 h2
    simp at h1
    simp [h1]
theorem mapK_at (hk : k < l.length) (h2 : k < (mapK f l k).length) : (mapK f l k)[k] = l[k] := by
  simp [mapK]
theorem mapK_set (hk : k < l.length) : (mapK f l k).set k (f k l[k]) = mapK f l (k + 1) := by
  unfold mapK
  apply List.ext_getElem
  · simp
  · intro i h1 h2
    simp at h1 h2
    rw [List.getElem_set]
    by_cases e : k = i
    · subst e; simp
    · rw [if_neg e]
      simp only [List.getElem_mapIdx]
      have : (i < k ↔ i < k + 1) := by omega
      simp only [this]
theorem mapK_same (hk : k < l.length) (he : f k l[k] = l[k]) : mapK f l k = mapK f l (k + 1) := by
  have h2 : k < (mapK f l k).length := by rw [mapK_len]; exact hk
  rw [← mapK_set hk, he]
  have := List.set_getElem_self h2
  rw [mapK_at hk h2] at this
  exact this.symm
end
/-- A copy of a node. -/
def Na (q : Nat) (n : Nd) (g : Nat) (v : Value) (w : World) : Prop := w.heap[q]? = some (.cells (n.cells g v).toArray 80 (0, 0))
def nodeZ : Array Value := #[.bool false, .pointer none, .int .u32 0, .bool false, .bool false, .int .i64 0, .int .u8 0, .int .u8 0, .int .u8 0, .int .u8 0, .int .u8 0, .int .u8 0, .int .u8 0, .int .u8 0, .bool false, .slice none 0 0]
theorem na_row (w : World) (n : Nd) (g : Nat) (v : Value) : Na w.heap.size n g v ((w.alloc (.cells nodeZ 80)).setRow w.heap.size (n.cells g v).toArray) := setRow_heap _ _ _ _ 80 _ (heap_alloc_new w _)
theorem na_below (w : World) (n : Nd) (g : Nat) (v : Value) : Below w.heap.size w ((w.alloc (.cells nodeZ 80)).setRow w.heap.size (n.cells g v).toArray) := below_row ((Below.refl _ w).alloc (Nat.le_refl _) _) (Nat.le_refl _) (by rw [size_alloc]; omega) _
theorem Nd.one (n : Nd) (g : Nat) (v : Value) (hv : okV v) : (n.cells g v).toArray.all (·.oneCell') = true := by
  refine all_oneCell_toArray fun u hu => ?_
  simp only [Nd.cells, List.mem_cons, List.mem_append, List.not_mem_nil, or_false] at hu
  rcases hu with rfl | rfl | hu | rfl | rfl
  · rfl
  · rfl
  · exact DF.one n.f u hu
  · rfl
  · exact hv
theorem na_sd {w : World} {ops : Array Oper} {rest : List Oper} {o : Oper} {a : Act} {Q : Exit → Act → World → Prop} (n : Nd) (g : Nat) (v : Value) (hv : okV v) (hgd : o.guard = none) (x y : Operand) (ho : o.op = .store 80 x y) (hx : a.eval x = .pointer (some ⟨w.heap.size, 0, none⟩)) (hy : a.eval y = .agg (n.cells g v).toArray)
    (hh : wpList Try.prog ops Q rest (a.put o.dst undef) ((w.alloc (.cells nodeZ 80)).setRow w.heap.size (n.cells g v).toArray)) : wpList Try.prog ops Q (o :: rest) a (w.alloc (.cells nodeZ 80)) :=
  wpList_store_row hgd 80 x y ho w.heap.size _ hx hy 80 _ (heap_alloc_new w _) (by rw [infoNd, List.size_toArray, Nd.len]) (by simp only [List.size_toArray, Nd.len]; rfl) (n.one g v hv) hh
theorem nd_ld {w : World} {ops : Array Oper} {rest : List Oper} {p : Oper} {a : Act} {Q : Exit → Act → World → Prop} {b o g : Nat} {n : Nd} {v : Value} (h : w.rangeAt b o (n.cells g v)) (hgd : p.guard = none) (x : Operand) (ho : p.op = .load 80 x) (hx : a.eval x = .pointer (some ⟨b, o, none⟩))
    (hh : wpList Try.prog ops Q rest (a.put p.dst (.agg (n.cells g v).toArray)) w) : wpList Try.prog ops Q (p :: rest) a w :=
  wpList_load_mid hgd 80 x ho b o hx (n.cells g v) _ h Try.underlying80 rfl (by rw [infoNd, Nd.len]) hh
theorem Na.range {w : World} {q : Nat} {n : Nd} {g : Nat} {v : Value} (h : Na q n g v w) : w.rangeAt q 0 (n.cells g v) := by
  intro j u hj
  rw [Lib.cell_of_heap h, Nat.zero_add]
  simpa using hj
theorem own_ok {w : World} {B : Nat} {e : TypeId} {c : Nat} {v : Value} {n : Nat} {xs : List Value} (h : w.ownsRow B e c v n xs) : okV v := by
  obtain ⟨ao, cp, rfl⟩ := own_shape h
  rfl
def idleN (_ : Nat) (n : Nd) : Nd := if n.pw then { n with u := n.u.idle 1 } else n
section
variable {b nb : Nat} {ρ : Nat → Ro} {t : Int} {l : List Nd} {w : World}
set_option maxHeartbeats 1000000 in
theorem idle_bus (h : BusAt b nb ρ t l w) (hl : l.length ≤ 127) (hok : ∀ i (hi : i < l.length), l[i].u.ok) :
    Calls Try.prog 36 #[.pointer (some ⟨b, 0, none⟩)] w fun e w' => e = .returned (.tuple #[]) ∧ BusAt b nb ρ t (l.mapIdx idleN) w' ∧ Ext ρ ρ w w' := by
  have h0 : BusAt b nb ρ t (mapK idleN l 0) w := by rw [mapK_zero]; exact h
  have HF : Hid (mapK idleN l l.length = l.mapIdx idleN) := mapK_full
  obtain ⟨G, V, h⟩ := h
  obtain ⟨c0, c1, hf⟩ := h.cells
  clear h
  go_enter Try.func36, Try.ntmps36
  go_wp2
  go_loopw [9] (fun i x => ∃ k : Nat, k ≤ l.length ∧ i = .int .i64 k ∧ BusAt b nb ρ t (mapK idleN l k) x ∧ Ext ρ ρ w x) (fun i _ => l.length - (intOf i).toNat)
  case atStart => exact ⟨0, Nat.zero_le _, rfl, h0, Ext.refl _ _⟩
  case round =>
    clear h0 c0 c1 hf G V
    obtain ⟨k, hk, rfl, ⟨G, V, h1⟩, X1⟩ := hrel
    by_cases hkl : k < l.length
    · have hkm : k < (mapK idleN l k).length := by rw [mapK_len]; exact hkl
      have hat := mapK_at (f := idleN) hkl hkm
      have hR := h1.hn k hkm
      have hu := h1.hu k hkm
      have hv := own_ok (h1.hg k hkm)
      rw [hat] at hR hu
      have na := na_row wr l[k] (G k) (V k)
      have nb' := na_below wr l[k] (G k) (V k)
      obtain ⟨e0, e1, e2, e3, e4⟩ := range_node.1 na.range
      rw [Nat.zero_add] at e1
      have h2 := h1.below nb'
      have hu2 : Ua (G k) l[k].u _ := hu.below nb'
      have X2 := X1.trans (Ext.below (ρ := ρ) nb')
      cases hpw : l[k].pw
      · have HS : Hid (mapK idleN l k = mapK idleN l (k + 1)) := mapK_same hkl (by unfold idleN; rw [hpw]; rfl)
        rw [hpw] at e0
        have HB : Hid (BusAt b nb ρ t (mapK idleN l (k + 1)) _ ∧ Ext ρ ρ w _) := ⟨by rw [← HS.out]; exact ⟨G, V, h2⟩, X2⟩
        clear h1 h2 X1 X2 hat hu hu2 nb' hkm e2 e3 e4 HS hpw
        generalize l[k] = n at *
        go_wp2_with (first | refine nd_ld hR rfl _ rfl rfl ?_ | refine na_sd n (G k) (V k) hv rfl _ _ rfl rfl rfl ?_)
        go_roundw
        case rel => exact ⟨k + 1, by omega, by go_num, HB.out⟩
        case measure => simp [intOf]; omega
      · have HI := idle_any 1 (by omega) (hok k hkl) hu2
        have HS : Hid ((mapK idleN l k).set k { l[k] with u := l[k].u.idle 1 } = mapK idleN l (k + 1)) := by
          have e : idleN k l[k] = { l[k] with u := l[k].u.idle 1 } := by unfold idleN; rw [if_pos hpw]
          show _ = _; rw [← mapK_set hkl, e]
        rw [hpw] at e0
        have HU := @BusM.unit b nb ρ t (mapK idleN l k) G V _ h2 k hkm (l[k].u.idle 1)
        rw [hat, HS.out] at HU
        clear h1 h2 X1 hat hu hu2 nb' hkm e2 e3 e4 HS hpw
        generalize l[k] = n at *
        go_wp2_with (first | refine nd_ld hR rfl _ rfl rfl ?_ | refine na_sd n (G k) (V k) hv rfl _ _ rfl rfl rfl ?_)
        refine HI.mono ?_
        rintro e w4 ⟨rfl, u4, t4⟩
        obtain ⟨r1, r2⟩ := HU u4 t4
        have X4 := X2.trans r2
        clear HU X2 HI
        go_wp2
        go_roundw
        case rel => exact ⟨k + 1, by omega, by go_num, r1, X4⟩
        case measure => simp [intOf]; omega
    · obtain rfl : k = l.length := by omega
      go_wp2
      go_end0
      exact ⟨rfl, by rw [← HF.out]; exact ⟨G, V, h1⟩, X1⟩
def dropN (_ : Nat) (n : Nd) : Nd := if n.u.off then { n with f := Fr.nul, has := false } else n
set_option maxHeartbeats 1000000 in
theorem dropOff_bus (h : BusAt b nb ρ t l w) (hl : l.length ≤ 127) :
    Calls Try.prog 38 #[.pointer (some ⟨b, 0, none⟩)] w fun e w' => e = .returned (.tuple #[]) ∧ BusAt b nb ρ t (l.mapIdx dropN) w' ∧ Ext ρ ρ w w' := by
  have h0 : BusAt b nb ρ t (mapK dropN l 0) w := by rw [mapK_zero]; exact h
  have HF : Hid (mapK dropN l l.length = l.mapIdx dropN) := mapK_full
  obtain ⟨G, V, h⟩ := h
  obtain ⟨c0, c1, hf⟩ := h.cells
  clear h
  go_enter Try.func38, Try.ntmps38
  go_wp2
  go_loopw [8] (fun i x => ∃ k : Nat, k ≤ l.length ∧ i = .int .i64 k ∧ BusAt b nb ρ t (mapK dropN l k) x ∧ Ext ρ ρ w x) (fun i _ => l.length - (intOf i).toNat)
  case atStart => exact ⟨0, Nat.zero_le _, rfl, h0, Ext.refl _ _⟩
  case round =>
    clear h0 c0 c1 hf G V
    obtain ⟨k, hk, rfl, ⟨G, V, h1⟩, X1⟩ := hrel
    by_cases hkl : k < l.length
    · have hkm : k < (mapK dropN l k).length := by rw [mapK_len]; exact hkl
      have hat := mapK_at (f := dropN) hkl hkm
      have hR := h1.hn k hkm
      have hu := h1.hu k hkm
      rw [hat] at hR hu
      obtain ⟨e0, e1, e2, e3, e4⟩ := range_node.1 hR
      obtain ⟨c0, c1, hf⟩ := h1.cells
      rw [mapK_len] at c0
      have HO := noff_any e1 hu
      cases hof : l[k].u.off
      · rw [hof] at HO
        have HS : Hid (mapK dropN l k = mapK dropN l (k + 1)) := mapK_same hkl (by unfold dropN; rw [hof]; rfl)
        have HB : Hid (∀ m, BusAt b nb ρ t (mapK dropN l (k + 1)) (wr.drewN m) ∧ Ext ρ ρ w (wr.drewN m)) := fun m => ⟨by rw [← HS.out]; exact ⟨G, V, h1.below (below_drawn (Below.refl _ _) m)⟩, X1.trans (Ext.drawn m)⟩
        clear h1 X1 hat hu hkm e2 e3 e4 HS hof hR e0 e1
        go_wp2_with fail
        refine HO.mono ?_
        rintro e w4 ⟨rfl, m, rfl⟩
        have HB2 : Hid _ := HB.out m
        clear HB HO
        go_wp2
        go_roundw
        case rel => exact ⟨k + 1, by omega, by go_num, HB2.out⟩
        case measure => simp [intOf]; omega
      · rw [hof] at HO
        have HS : Hid ((mapK dropN l k).set k { l[k] with f := Fr.nul, has := false } = mapK dropN l (k + 1)) := by
          have e : dropN k l[k] = { l[k] with f := Fr.nul, has := false } := by unfold dropN; rw [if_pos hof]
          show _ = _; rw [← mapK_set hkl, e]
        have HD := fun m => drop_any (h1.below (below_drawn (Below.refl _ _) m)) hkm
        simp only [hat, HS.out] at HD
        clear h1 hat hu hkm e2 e3 e4 HS hof hR e0 e1
        go_wp2_with fail
        refine HO.mono ?_
        rintro e w4 ⟨rfl, m, rfl⟩
        have HD2 := HD m
        have X2 := X1.trans (Ext.drawn (ρ := ρ) (w := wr) m)
        clear HD HO X1
        go_wp2_with fail
        refine HD2.mono ?_
        rintro e w5 ⟨rfl, r1, r2⟩
        have X3 := X2.trans r2
        clear HD2 X2
        go_wp2
        go_roundw
        case rel => exact ⟨k + 1, by omega, by go_num, r1, X3⟩
        case measure => simp [intOf]; omega
    · obtain rfl : k = l.length := by omega
      go_wp2
      go_end0
      exact ⟨rfl, by rw [← HF.out]; exact ⟨G, V, h1⟩, X1⟩
end
end Go.Proofs.Ytjblekemmcmblaa
namespace Go.Proofs.Ytjblekemmcmblaa
open Go.RowKit Go.Proofs.Bits
set_option linter.unusedVariables false
set_option maxRecDepth 1000000

def setN (r : Rn) (sf : Fr) (i : Nat) (n : Nd) : Nd :=
  if (i : Int) = r.win then (if r.sent then { n with f := Fr.nul, has := false, u := n.u.sent } else { n with u := n.u.fail (decide (r.errs.getD i 0 = 23)) })
  else if r.got.getD i false then { n with got := tk n.got sf, u := n.u.recv }
  else if r.errs.getD i 0 ≠ 0 then { n with u := n.u.err (decide ((i : Int) = r.late)) } else n
section
variable {b nb : Nat} {ρ : Nat → Ro} {t : Int} {l : List Nd} {w : World}
/-- What stands when settle has begun. -/
def SetP (b nb : Nat) (ρ : Nat → Ro) (t : Int) (l : List Nd) (w : World) (r : Rn) (ge gg : Nat) (v : Value) (wn : Nat) (hwn : wn < l.length) (W : World) : Prop :=
  BusAt b nb ρ t l W ∧ Below w.heap.size w W ∧ Ru w.heap.size r (sl ge l.length) (sl gg l.length) v W ∧ Fa (w.heap.size + 1) l[wn].f W
set_option maxHeartbeats 4000000 in
theorem settle_bus (h : BusAt b nb ρ t l w) (hl : l.length ≤ 127) (hok : ∀ i (hi : i < l.length), l[i].u.ok ∧ l[i].got.length ≤ 64) (r : Rn) (wn ge gg : Nat) (v : Value) (hv : okV v) (hwn : wn < l.length) (hw : r.win = wn)
    (he : Row w ge (r.errs.map errV)) (hg : Row w gg (r.got.map Value.bool)) (hle : r.errs.length = l.length) (hlg : r.got.length = l.length) (re : ρ ge = .no) (rg : ρ gg = .no) :
    Calls Try.prog 37 #[.pointer (some ⟨b, 0, none⟩), .agg (r.arr (sl ge l.length) (sl gg l.length) v)] w fun e w' => e = .returned (.tuple #[]) ∧ ∃ ρ', BusAt b nb ρ' t (l.mapIdx (setN r l[wn].f)) w' ∧ Ext ρ ρ' w w' := by
  have bb1 : Below w.heap.size w (w.alloc (.cells (r.arr (sl ge l.length) (sl gg l.length) v) 67)) := (Below.refl _ _).alloc (Nat.le_refl _) _
  have R1 := Ru.new w r (sl ge l.length) (sl gg l.length) v
  have h1 := h.below bb1
  obtain ⟨G, V, h1⟩ := h1
  obtain ⟨G0, V0, h0⟩ := h
  obtain ⟨c0, c1, hf⟩ := h0.cells
  have ltb := h0.lt_b
  have ltn := h0.lt_n
  obtain ⟨d0, d1, d2, d3, d4, d5, d6, d7, df⟩ := R1.cells
  obtain ⟨n0, n1, n2, n3, n4⟩ := range_node.1 (h0.hn wn hwn)
  obtain ⟨a0, a1, a2, a3, a4, a5, a6, a7, a8, a9, a10, a11, ha⟩ := arr_full l[wn].f
  have cells12 : ∀ k u, l[wn].f.arr[k]? = some u → w.cell? ⟨nb, wn * 16 + 2 + k, none⟩ = some u := fun k u hk => n2 k u (by simpa [Fr.arr] using hk)
  have k0 : w.cell? ⟨nb, wn * 16 + 2, none⟩ = some (.int .u32 a0) := cells12 0 (.int .u32 a0) (by rw [ha]; rfl)
  have k1 : w.cell? ⟨nb, wn * 16 + 2 + 1, none⟩ = some (.bool a1) := cells12 1 (.bool a1) (by rw [ha]; rfl)
  have k2 : w.cell? ⟨nb, wn * 16 + 2 + 2, none⟩ = some (.bool a2) := cells12 2 (.bool a2) (by rw [ha]; rfl)
  have k3 : w.cell? ⟨nb, wn * 16 + 2 + 3, none⟩ = some (.int .i64 a3) := cells12 3 (.int .i64 a3) (by rw [ha]; rfl)
  have k4 : w.cell? ⟨nb, wn * 16 + 2 + 4, none⟩ = some (.int .u8 a4) := cells12 4 (.int .u8 a4) (by rw [ha]; rfl)
  have k5 : w.cell? ⟨nb, wn * 16 + 2 + 5, none⟩ = some (.int .u8 a5) := cells12 5 (.int .u8 a5) (by rw [ha]; rfl)
  have k6 : w.cell? ⟨nb, wn * 16 + 2 + 6, none⟩ = some (.int .u8 a6) := cells12 6 (.int .u8 a6) (by rw [ha]; rfl)
  have k7 : w.cell? ⟨nb, wn * 16 + 2 + 7, none⟩ = some (.int .u8 a7) := cells12 7 (.int .u8 a7) (by rw [ha]; rfl)
  have k8 : w.cell? ⟨nb, wn * 16 + 2 + 8, none⟩ = some (.int .u8 a8) := cells12 8 (.int .u8 a8) (by rw [ha]; rfl)
  have k9 : w.cell? ⟨nb, wn * 16 + 2 + 9, none⟩ = some (.int .u8 a9) := cells12 9 (.int .u8 a9) (by rw [ha]; rfl)
  have k10 : w.cell? ⟨nb, wn * 16 + 2 + 10, none⟩ = some (.int .u8 a10) := cells12 10 (.int .u8 a10) (by rw [ha]; rfl)
  have k11 : w.cell? ⟨nb, wn * 16 + 2 + 11, none⟩ = some (.int .u8 a11) := cells12 11 (.int .u8 a11) (by rw [ha]; rfl)
  have HB2 : Hid (BusAt b nb ρ t l (((w.alloc (.cells (r.arr (sl ge l.length) (sl gg l.length) v) 67)).alloc (.cells #[.int .u32 a0, .bool a1, .bool a2, .int .i64 a3, .int .u8 a4, .int .u8 a5, .int .u8 a6, .int .u8 a7, .int .u8 a8, .int .u8 a9, .int .u8 a10, .int .u8 a11] 38)).drew)) := ⟨G, V, h1.below (below_drawn ((Below.refl _ _).alloc (Nat.le_refl _) _) 1)⟩
  have bb2 : Below w.heap.size w (((w.alloc (.cells (r.arr (sl ge l.length) (sl gg l.length) v) 67)).alloc (.cells #[.int .u32 a0, .bool a1, .bool a2, .int .i64 a3, .int .u8 a4, .int .u8 a5, .int .u8 a6, .int .u8 a7, .int .u8 a8, .int .u8 a9, .int .u8 a10, .int .u8 a11] 38)).drew) := below_drawn (bb1.alloc (by rw [size_alloc]; omega) _) 1
  have FA : Hid (Fa (w.heap.size + 1) l[wn].f (((w.alloc (.cells (r.arr (sl ge l.length) (sl gg l.length) v) 67)).alloc (.cells #[.int .u32 a0, .bool a1, .bool a2, .int .i64 a3, .int .u8 a4, .int .u8 a5, .int .u8 a6, .int .u8 a7, .int .u8 a8, .int .u8 a9, .int .u8 a10, .int .u8 a11] 38)).drew)) := by
    show Fa _ _ _
    unfold Fa
    rw [ha]
    have := heap_alloc_new (w.alloc (.cells (r.arr (sl ge l.length) (sl gg l.length) v) 67)) (.cells #[.int .u32 a0, .bool a1, .bool a2, .int .i64 a3, .int .u8 a4, .int .u8 a5, .int .u8 a6, .int .u8 a7, .int .u8 a8, .int .u8 a9, .int .u8 a10, .int .u8 a11] 38)
    rw [size_alloc] at this
    exact this
  have HP : Hid (SetP b nb ρ t l w r ge gg v wn hwn _) := ⟨HB2.out, bb2, R1.below (below_drawn ((Below.refl _ _).alloc (Nat.le_refl _) _) 1), FA.out⟩
  have HF : Hid (mapK (setN r l[wn].f) l l.length = l.mapIdx (setN r l[wn].f)) := mapK_full
  have e1 : b ≠ w.heap.size := by omega
  have e2 : b ≠ w.heap.size + 1 := by omega
  have e3 : nb ≠ w.heap.size := by omega
  have e4 : nb ≠ w.heap.size + 1 := by omega
  clear n0 n1 n2 n3 n4 cells12 ha bb2 HB2 FA d0 d1 d2 d3 d4 d5 d6 d7 df R1
  unfold Rn.arr sl at *
  rw [hw] at HP
  rw [hw]
  have HW : Hid (r.win = wn) := hw
  clear hw h1 bb1
  go_enter Try.func37, Try.ntmps37
  go_wp2_with fail
  go_cut [4] from 7 to 16 (fun s4 wx => s4 = .pointer (some ⟨w.heap.size + 1, 0, none⟩) ∧ SetP b nb ρ t l w r ge gg v wn hwn wx)
  case first =>
    go_region
    all_goals
      go_wp2_with fail
      go_meet
      case rel => exact ⟨rfl, HP.out⟩
  case rest =>
  obtain ⟨rfl, P1⟩ := hcut
  clear k0 k1 k2 k3 k4 k5 k6 k7 k8 k9 k10 k11 c0 c1 hf HP
  obtain ⟨hb1, B1, R1, F1⟩ := P1
  have hb0 : BusAt b nb ρ t (mapK (setN r l[wn].f) l 0) wc := by rw [mapK_zero]; exact hb1
  obtain ⟨G1, V1, h1⟩ := hb1
  obtain ⟨c0, c1, hf⟩ := h1.cells
  have zq := h0.rz w.heap.size (Nat.le_refl _)
  have zf := h0.rz (w.heap.size + 1) (by omega)
  have HK : Hid (∀ ρ' x, Ext ρ ρ' wc x → Ru w.heap.size r (sl ge l.length) (sl gg l.length) v x ∧ Fa (w.heap.size + 1) l[wn].f x ∧ Row x ge (r.errs.map errV) ∧ Row x gg (r.got.map Value.bool)) := fun ρ' x X =>
    ⟨R1.kept (X.keep _ R1.lt zq), (X.keep _ F1.lt zf).trans F1, (he.below B1).kept (X.keep _ (he.below B1).lt re), (hg.below B1).kept (X.keep _ (hg.below B1).lt rg)⟩
  have HX0 : Hid (Ext ρ ρ w wc) := Ext.below B1
  have HOK : Hid _ := hok
  have HST : Hid (∀ i n, setN r l[wn].f i n = if (i : Int) = r.win then (if r.sent then { n with f := Fr.nul, has := false, u := n.u.sent } else { n with u := n.u.fail (decide (r.errs.getD i 0 = 23)) }) else if r.got.getD i false then { n with got := tk n.got l[wn].f, u := n.u.recv } else if r.errs.getD i 0 ≠ 0 then { n with u := n.u.err (decide ((i : Int) = r.late)) } else n) := fun i n => rfl
  clear he hg re rg zq zf R1 F1 B1 h1 hok h0 G1 V1 G0 V0 ltb ltn G V e1 e2 e3 e4
  go_wp2
  go_loopw [22] (fun i x => ∃ (k : Nat) (ρ' : Nat → Ro), k ≤ l.length ∧ i = .int .i64 k ∧ BusAt b nb ρ' t (mapK (setN r l[wn].f) l k) x ∧ Ext ρ ρ' wc x) (fun i _ => l.length - (intOf i).toNat)
  case atStart => exact ⟨0, ρ, Nat.zero_le _, rfl, hb0, Ext.refl _ _⟩
  case round =>
    clear hb0 c0 c1 hf
    obtain ⟨k, ρ1, hk, rfl, ⟨G, V, h1⟩, X1⟩ := hrel
    by_cases hkl : k < l.length
    · obtain ⟨R1, F1, E1, G1⟩ := HK.out _ _ X1
      have hkm : k < (mapK (setN r l[wn].f) l k).length := by rw [mapK_len]; exact hkl
      have hat := mapK_at (f := setN r l[wn].f) hkl hkm
      have hR := h1.hn k hkm
      have hu := h1.hu k hkm
      rw [hat] at hR hu
      obtain ⟨n0, n1, n2, n3, n4⟩ := range_node.1 hR
      obtain ⟨c0, c1, hf⟩ := h1.cells
      rw [mapK_len] at c0
      obtain ⟨d0, d1, d2, d3, d4, d5, d6, d7, df⟩ := R1.cells
      rw [HW.out] at d0
      unfold sl at d3 d4
      obtain ⟨uo, g64⟩ := HOK.out k hkl
      have HS := mapK_set (f := setN r l[wn].f) hkl
      have HStep := HST.out k l[k]
      rw [HW.out] at HStep
      have ce := E1.cell k (by rw [List.length_map, hle]; exact hkl)
      have cg := G1.cell k (by rw [List.length_map, hlg]; exact hkl)
      rw [List.getElem_map] at ce cg
      have ge' : r.errs.getD k 0 = r.errs[k]'(by rw [hle]; exact hkl) := by simp [hle, hkl]
      have gg' : r.got.getD k false = r.got[k]'(by rw [hlg]; exact hkl) := by simp [hlg, hkl]
      unfold errV at ce
      rw [ge', gg'] at HStep
      generalize r.errs[k]'(by rw [hle]; exact hkl) = ek at *
      generalize r.got[k]'(by rw [hlg]; exact hkl) = gk at *
      clear ge' gg' E1 G1 hR n2
      by_cases hkw : k = wn
      · rw [if_pos (by rw [hkw])] at HStep
        have q1 : ((k : Int) == (wn : Int)) = true := by rw [hkw]; simp
        have HKW : Hid (k = wn) := hkw
        clear hkw
        generalize hse : r.sent = se at *
        cases se
        · rw [if_neg (by simp)] at HStep
          have hu' : Ua (G k) l[k].u wr.drew := hu
          have h1' : BusM b nb ρ1 t (mapK (setN r l[wn].f) l k) G V wr.drew := h1.below (below_drawn (Below.refl _ _) 1)
          have X2 : Ext ρ ρ1 wc wr.drew := X1.trans (Ext.drawn 1)
          have HFl := fail_any (decide (ek = 23)) uo hu'
          have HU := @BusM.unit b nb ρ1 t (mapK (setN r l[wn].f) l k) G V _ h1' k hkm (l[k].u.fail (decide (ek = 23)))
          rw [hat, ← HStep, HS] at HU
          have hdec : (ek == 23) = decide (ek = 23) := eq_dec ek 23
          generalize decide (ek = 23) = dq at *
          clear h1 hat HS HStep HST hkm uo g64 h1' hu' X1
          go_wp2_with fail
          go_region_with (go_at_call 58; refine HFl.mono ?_; rintro e w4 ⟨rfl, u4, t4⟩)
          all_goals
            obtain ⟨r1, r2⟩ := HU u4 t4
            have X4 := X2.trans r2
            go_wp2_with fail
            go_roundw
            case rel => exact ⟨k + 1, ρ1, by omega, by go_num, r1, X4⟩
            case measure => simp [intOf]; omega
        · rw [if_pos rfl] at HStep
          have HD := drop_any h1 hkm
          rw [hat] at HD
          have HZ : Hid (∀ (x : World), BusAt b nb ρ1 t ((mapK (setN r l[wn].f) l k).set k { l[k] with f := Fr.nul, has := false }) x → ∃ g, x.cell? ⟨nb, k * 16 + 1, none⟩ = some (.pointer (some ⟨g, 0, none⟩)) ∧ Calls Try.prog 57 #[.pointer (some ⟨g, 0, none⟩)] x fun e w' => e = .returned (.tuple #[]) ∧ BusAt b nb ρ1 t (mapK (setN r l[wn].f) l (k + 1)) w' ∧ Ext ρ1 ρ1 x w') := by
            rintro x ⟨G2, V2, h2⟩
            have hk2 : k < ((mapK (setN r l[wn].f) l k).set k { l[k] with f := Fr.nul, has := false }).length := by rw [List.length_set]; exact hkm
            have hat2 : ((mapK (setN r l[wn].f) l k).set k { l[k] with f := Fr.nul, has := false })[k] = { l[k] with f := Fr.nul, has := false } := List.getElem_set_self hk2
            have hu2 := h2.hu k hk2
            obtain ⟨_, m1, _, _, _⟩ := range_node.1 (h2.hn k hk2)
            rw [hat2] at hu2
            refine ⟨G2 k, m1, (sent_any uo hu2).mono ?_⟩
            rintro e w' ⟨rfl, u4, t4⟩
            obtain ⟨r1, r2⟩ := h2.unit hk2 u4 t4
            rw [hat2, List.set_set] at r1
            refine ⟨rfl, ?_, r2⟩
            rw [← HS, HStep]; exact r1
          clear h1 hat HS HStep HST hkm uo g64 hu n1
          go_wp2_with fail
          refine HD.mono ?_
          rintro e w4 ⟨rfl, r1, r2⟩
          have X2 := X1.trans r2
          obtain ⟨g2, m1, HSn⟩ := HZ.out w4 r1
          clear HZ HD r1 r2 X1 n0 n3 n4 c0 c1 hf d0 d1 d2 d3 d4 d5 d6 d7 df ce cg
          go_wp2_with fail
          refine HSn.mono ?_
          rintro e w5 ⟨rfl, r1, r2⟩
          have X3 := X2.trans r2
          clear HSn X2 m1
          go_wp2_with fail
          go_roundw
          case rel => exact ⟨k + 1, ρ1, by omega, by go_num, r1, X3⟩
          case measure => simp [intOf]; omega
      · rw [if_neg (by omega)] at HStep
        have q1 : ((k : Int) == (wn : Int)) = false := by rw [beq_eq_false_iff_ne]; omega
        have HKW : Hid (k ≠ wn) := hkw
        clear hkw
        cases gk
        · rw [if_neg (by simp)] at HStep
          by_cases he0 : ek = 0
          · have HQ : Hid (mapK (setN r l[wn].f) l k = mapK (setN r l[wn].f) l (k + 1)) := mapK_same hkl (by rw [HStep, he0]; rfl)
            have HB : Hid (BusAt b nb ρ1 t (mapK (setN r l[wn].f) l (k + 1)) wr) := by
              show BusAt _ _ _ _ _ _
              rw [← HQ.out]; exact ⟨G, V, h1⟩
            rw [he0] at ce
            clear h1 hat HS HStep HST hkm uo g64 hu HQ
            go_wp2_with fail
            go_roundw
            case rel => exact ⟨k + 1, ρ1, by omega, by go_num, HB.out, X1⟩
            case measure => simp [intOf]; omega
          · rw [if_pos he0] at HStep
            have hu' : Ua (G k) l[k].u wr.drew := hu
            have h1' : BusM b nb ρ1 t (mapK (setN r l[wn].f) l k) G V wr.drew := h1.below (below_drawn (Below.refl _ _) 1)
            have X2 : Ext ρ ρ1 wc wr.drew := X1.trans (Ext.drawn 1)
            have HFl := err_any (decide ((k : Int) = r.late)) uo hu'
            have HU := @BusM.unit b nb ρ1 t (mapK (setN r l[wn].f) l k) G V _ h1' k hkm (l[k].u.err (decide ((k : Int) = r.late)))
            rw [hat, ← HStep, HS] at HU
            have hdec : ((k : Int) == r.late) = decide ((k : Int) = r.late) := eq_dec _ _
            have hne0 : (ek != 0) = true := by simpa using he0
            generalize decide ((k : Int) = r.late) = dq at *
            clear h1 hat HS HStep HST hkm uo g64 h1' hu' X1
            go_wp2_with fail
            go_region_with (go_at_call 61; refine HFl.mono ?_; rintro e w4 ⟨rfl, u4, t4⟩)
            all_goals
              obtain ⟨r1, r2⟩ := HU u4 t4
              have X4 := X2.trans r2
              go_wp2_with fail
              go_roundw
              case rel => exact ⟨k + 1, ρ1, by omega, by go_num, r1, X4⟩
              case measure => simp [intOf]; omega
        · rw [if_pos rfl] at HStep
          have HT := take_any4 h1 hkm l[wn].f (by rw [hat]; exact g64)
          rw [hat] at HT
          have HZ : Hid (∀ ρ2 (x : World), BusAt b nb ρ2 t ((mapK (setN r l[wn].f) l k).set k { l[k] with got := tk l[k].got l[wn].f }) x → ∃ g, x.cell? ⟨nb, k * 16 + 1, none⟩ = some (.pointer (some ⟨g, 0, none⟩)) ∧ Calls Try.prog 60 #[.pointer (some ⟨g, 0, none⟩)] x fun e w' => e = .returned (.tuple #[]) ∧ BusAt b nb ρ2 t (mapK (setN r l[wn].f) l (k + 1)) w' ∧ Ext ρ2 ρ2 x w') := by
            rintro ρ2 x ⟨G2, V2, h2⟩
            have hk2 : k < ((mapK (setN r l[wn].f) l k).set k { l[k] with got := tk l[k].got l[wn].f }).length := by rw [List.length_set]; exact hkm
            have hat2 : ((mapK (setN r l[wn].f) l k).set k { l[k] with got := tk l[k].got l[wn].f })[k] = { l[k] with got := tk l[k].got l[wn].f } := List.getElem_set_self hk2
            have hu2 := h2.hu k hk2
            obtain ⟨_, m1, _, _, _⟩ := range_node.1 (h2.hn k hk2)
            rw [hat2] at hu2
            refine ⟨G2 k, m1, (recv_any uo hu2).mono ?_⟩
            rintro e w' ⟨rfl, u4, t4⟩
            obtain ⟨r1, r2⟩ := h2.unit hk2 u4 t4
            rw [hat2, List.set_set] at r1
            refine ⟨rfl, ?_, r2⟩
            rw [← HS, HStep]; exact r1
          unfold Fr.val at HT
          clear h1 hat HS HStep HST hkm uo g64 hu n1
          go_wp2_with (refine F1.ldw rfl _ rfl rfl ?_)
          refine HT.mono ?_
          rintro e w4 ⟨rfl, ρ2, r1, r2⟩
          have X2 := X1.trans r2
          obtain ⟨g2, m1, HSn⟩ := HZ.out ρ2 w4 r1
          clear HZ HT r1 r2 X1 n0 n3 n4 c0 c1 hf d0 d1 d2 d3 d4 d5 d6 d7 df ce cg
          go_wp2_with fail
          refine HSn.mono ?_
          rintro e w5 ⟨rfl, r1, r2⟩
          have X3 := X2.trans r2
          clear HSn X2 m1
          go_wp2_with fail
          go_roundw
          case rel => exact ⟨k + 1, ρ2, by omega, by go_num, r1, X3⟩
          case measure => simp [intOf]; omega
    · obtain rfl : k = l.length := by omega
      go_wp2
      go_end0
      exact ⟨rfl, ρ1, by rw [← HF.out]; exact ⟨G, V, h1⟩, HX0.out.trans X1⟩
end
end Go.Proofs.Ytjblekemmcmblaa
namespace Go.Proofs.Ytjblekemmcmblaa
open Go.RowKit Go.Proofs.Bits Go.Maps Go.WideMaps
set_option linter.unusedVariables false
set_option maxRecDepth 1000000

def tpN (n : Nd) : Bool := n.pw && !n.u.off
def ndAt (l : List Nd) (i : Nat) : Nd := l.getD i Nd.nul
def wantN (n : Nd) : Bool := tpN n && n.has
def seenK (l : List Nd) : Nat → List (List UInt8)
  | 0 => []
  | k + 1 => if wantN (ndAt l k) && !(seenK l k).contains (fldV (ndAt l k).f) then seenK l k ++ [fldV (ndAt l k).f] else seenK l k
def seOf (l : List Nd) (k : Nat) : Se := if wantN (ndAt l k) && !(seenK l k).contains (fldV (ndAt l k).f) then ⟨true, true, (ndAt l k).f⟩ else ⟨tpN (ndAt l k), false, Fr.nul⟩
def sends (l : List Nd) : List Se := (List.range l.length).map (seOf l)
def sendsK (l : List Nd) (k : Nat) : List Se := (List.range l.length).map fun i => if i < k then seOf l i else Se.nul
theorem sendsK_len (l : List Nd) (k : Nat) : (sendsK l k).length = l.length := by simp [sendsK]
theorem sends_len (l : List Nd) : (sends l).length = l.length := by simp [sends]
theorem sendsK_zero (l : List Nd) : sendsK l 0 = List.replicate l.length Se.nul := by
  unfold sendsK; apply List.ext_getElem <;> simp
theorem sendsK_full (l : List Nd) : sendsK l l.length = sends l := by
  unfold sendsK sends
  apply List.ext_getElem
  · simp
  · intro i h1 h2; simp at h1; simp [h1]
theorem sendsK_set (l : List Nd) (k : Nat) (h : k < l.length) : (sendsK l k).set k (seOf l k) = sendsK l (k + 1) := by
  unfold sendsK
  apply List.ext_getElem
  · simp
  · intro i h1 h2
    simp at h1 h2
    simp only [List.getElem_set, List.getElem_map, List.getElem_range]
    by_cases e : k = i
    · subst e; simp
    · rw [if_neg e]
      have : (i < k ↔ i < k + 1) := by omega
      simp only [this]
theorem sendsK_at (l : List Nd) (k : Nat) (h : k < (sendsK l k).length) : (sendsK l k)[k] = Se.nul := by simp [sendsK]
theorem seenK_len (l : List Nd) (k : Nat) : (seenK l k).length ≤ k := by
  induction k with
  | zero => simp [seenK]
  | succ k ih =>
    unfold seenK
    split
    · rw [List.length_append, List.length_singleton]; omega
    · omega

/-- A row of senders in block g. -/
structure SeM (g : Nat) (ls : List Se) (w : World) : Prop where
  hn : ∀ i (h : i < ls.length), w.rangeAt g (i * 14) ls[i].cells
  ht : w.there g 0 (ls.length * 14)
  lt : g < w.heap.size
theorem range_se {w : World} {g o : Nat} {s : Se} : w.rangeAt g o s.cells ↔ w.cell? ⟨g, o, none⟩ = some (.bool s.up) ∧ w.cell? ⟨g, o + 1, none⟩ = some (.bool s.sends) ∧ w.rangeAt g (o + 2) s.f.cells := by
  constructor
  · intro h
    refine ⟨h 0 _ rfl, h 1 _ rfl, fun j u hj => ?_⟩
    have := h (j + 2) u hj
    rw [show o + (j + 2) = o + 2 + j by omega] at this
    exact this
  · rintro ⟨h0, h1, h2⟩ j u hj
    match j, hj with
    | 0, hj => cases hj; exact h0
    | 1, hj => cases hj; exact h1
    | j + 2, hj =>
      have := h2 j u hj
      rw [show o + (j + 2) = o + 2 + j by omega]; exact this
section
variable {g : Nat} {ls : List Se} {w : World}
theorem SeM.kept (h : SeM g ls w) {w' : World} (hs : w.heap.size ≤ w'.heap.size) (hk : w'.heap[g]? = w.heap[g]?) : SeM g ls w' := ⟨fun i hi => range_kept (h.hn i hi) hk, there_kept h.ht hk, Nat.lt_of_lt_of_le h.lt hs⟩
theorem SeM.below (h : SeM g ls w) {w' : World} (hb : Below w.heap.size w w') : SeM g ls w' := h.kept hb.size (hb.block g h.lt)
theorem SeM.upd (h : SeM g ls w) {k : Nat} (hk : k < ls.length) (s : Se) {w' : World} (hs : w'.heap.size = w.heap.size) (hcell : ∀ o, (o < k * 14 ∨ k * 14 + 14 ≤ o) → w'.cell? ⟨g, o, none⟩ = w.cell? ⟨g, o, none⟩) (hthere : w'.there g 0 (ls.length * 14)) (hnew : w'.rangeAt g (k * 14) s.cells) : SeM g (ls.set k s) w' := by
  have len : (ls.set k s).length = ls.length := by simp
  refine ⟨fun j hj => ?_, by rw [len]; exact hthere, by rw [hs]; exact h.lt⟩
  rw [List.getElem_set]
  by_cases e : k = j
  · subst e; simp only [if_true]; exact hnew
  · rw [if_neg e]
    rw [len] at hj
    intro o v hv
    have ho := (List.getElem?_eq_some_iff.1 hv).1
    rw [Se.len] at ho
    rw [hcell _ (by omega)]
    exact h.hn j hj o v hv
theorem SeM.senders (h : SeM g ls w) : Senders w (sl g ls.length) ls := ⟨some ⟨g, 0, none⟩, ls.length, rfl, (fun h => by cases h), fun k hk => ⟨g, 0, rfl, h.lt, by rw [Nat.zero_add]; exact h.hn k hk⟩⟩
theorem SeM.up (h : SeM g ls w) {k : Nat} (hk : k < ls.length) (u : Bool) : SeM g (ls.set k { ls[k] with up := u }) (w.setCell ⟨g, k * 14, none⟩ (.bool u)) := by
  obtain ⟨c0, c1, c2⟩ := range_se.1 (h.hn k hk)
  have out : ∀ q, q ≠ k * 14 → (w.setCell ⟨g, k * 14, none⟩ (.bool u)).cell? ⟨g, q, none⟩ = w.cell? ⟨g, q, none⟩ := fun q hq => World.cell?_setCell_other _ _ _ _ (by intro e; injection e with _ e2; exact hq e2.symm)
  refine h.upd hk _ (by simp [World.setCell]) (fun o ho => out o (by omega)) (there_setCell h.ht _ _) (range_se.2 ⟨World.cell?_setCell_same _ _ _ c0, ?_, fun j v hj => ?_⟩)
  · rw [out _ (by omega)]; exact c1
  · rw [out _ (by omega)]; exact c2 j v hj
theorem SeM.send (h : SeM g ls w) {k : Nat} (hk : k < ls.length) (f : Fr) : SeM g (ls.set k { ls[k] with sends := true, f := f }) ((w.setCell ⟨g, k * 14 + 1, none⟩ (.bool true)).setCells g (k * 14 + 2) f.arr.toList) := by
  obtain ⟨c0, c1, c2⟩ := range_se.1 (h.hn k hk)
  have hl : f.arr.toList.length = 12 := by simp [f.arr_size]
  have out : ∀ q, q ≠ k * 14 + 1 → (w.setCell ⟨g, k * 14 + 1, none⟩ (.bool true)).cell? ⟨g, q, none⟩ = w.cell? ⟨g, q, none⟩ := fun q hq => World.cell?_setCell_other _ _ _ _ (by intro e; injection e with _ e2; exact hq e2.symm)
  have ht1 := there_setCell h.ht ⟨g, k * 14 + 1, none⟩ (.bool true)
  have out2 : ∀ q, (q < k * 14 + 2 ∨ k * 14 + 14 ≤ q) → ((w.setCell ⟨g, k * 14 + 1, none⟩ (.bool true)).setCells g (k * 14 + 2) f.arr.toList).cell? ⟨g, q, none⟩ = (w.setCell ⟨g, k * 14 + 1, none⟩ (.bool true)).cell? ⟨g, q, none⟩ := fun q hq => cell_setCells_other _ g _ _ q (by omega)
  have r1 := World.rangeAt_setCells_same (w.setCell ⟨g, k * 14 + 1, none⟩ (.bool true)) g (k * 14 + 2) f.arr.toList (there_part ht1 (by omega))
  refine h.upd hk _ ((setCells_same g _ _ _).2.2.2.1.trans (by simp [World.setCell])) (fun o ho => by rw [out2 o (by omega), out o (by omega)]) (World.there_setCells ht1 g _ _) (range_se.2 ⟨?_, ?_, fun j v hj => ?_⟩)
  · rw [out2 _ (by omega), out _ (by omega)]; exact c0
  · rw [out2 _ (by omega)]; exact World.cell?_setCell_same _ _ _ c1
  · exact r1 j v (by simpa [Fr.arr] using hj)
theorem SeM.stf {ops : Array Oper} {rest : List Oper} {o : Oper} {a : Act} {Q : Exit → Act → World → Prop} (h : SeM g ls w) {k : Nat} (hk : k < ls.length) (f : Fr) (hgd : o.guard = none) (x y : Operand) (ho : o.op = .store 38 x y) (hx : a.eval x = .pointer (some ⟨g, k * 14 + 2, none⟩)) (hy : a.eval y = .agg f.arr)
    (hh : wpList Try.prog ops Q rest (a.put o.dst undef) ((w.setCell ⟨g, k * 14 + 1, none⟩ (.bool true)).setCells g (k * 14 + 2) f.arr.toList)) : wpList Try.prog ops Q (o :: rest) a (w.setCell ⟨g, k * 14 + 1, none⟩ (.bool true)) :=
  wpList_store_mid hgd 38 x y ho g (k * 14 + 2) f.arr hx hy (there_part (there_setCell h.ht ⟨g, k * 14 + 1, none⟩ (.bool true)) (by rw [f.arr_size]; omega)) (by rw [infoF, f.arr_size]) f.one hh
end
theorem infoSeZ : (Try.prog.info? 40).map (fun i => (i.zero, i.size, i.bytes)) = some (some (.agg Se.nul.arr), 14, 32) := by kernel_rfl
end Go.Proofs.Ytjblekemmcmblaa
