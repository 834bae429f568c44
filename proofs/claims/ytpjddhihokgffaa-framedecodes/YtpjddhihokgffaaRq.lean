/- Contracts of the document's own reader: next, skip. -/
import Derived.Test.YtpjddhihokgffaaRdr4
import Derived.Test.YtpjddhihokgffaaMathQ
import Derived.Maps.AppendAt
namespace Go.Proofs.Ytpjddhihokgffaa
open Go.RowKit Go.Proofs.Bits
set_option linter.unusedVariables false
set_option maxRecDepth 1000000

/-- The document's reader in block g. -/
def Qc (g : Nat) (t : ByteArray) (p r : Nat) (b : ByteArray) (y : Int) (w : World) : Prop := w.heap[g]? = some (.cells #[.string t, .int .i64 p, .int .i64 r, .string b, .int .i64 y] 81 (0, 0))
section
variable {g : Nat} {t : ByteArray} {p r : Nat} {b : ByteArray} {y : Int} {w : World}
theorem Qc.lt (h : Qc g t p r b y w) : g < w.heap.size := (Array.getElem?_eq_some_iff.1 h).1
theorem Qc.drawn (h : Qc g t p r b y w) (n : Nat) : Qc g t p r b y (w.drewN n) := h
theorem Qc.cells (h : Qc g t p r b y w) : w.cell? ⟨g, 0, none⟩ = some (.string t) ∧ w.cell? ⟨g, 1, none⟩ = some (.int .i64 p) ∧ w.cell? ⟨g, 2, none⟩ = some (.int .i64 r) ∧ w.cell? ⟨g, 3, none⟩ = some (.string b) ∧ w.cell? ⟨g, 4, none⟩ = some (.int .i64 y) ∧ ∀ k, w.frozen? ⟨g, k, none⟩ = false :=
  ⟨Lib.cell_of_heap h 0, Lib.cell_of_heap h 1, Lib.cell_of_heap h 2, Lib.cell_of_heap h 3, Lib.cell_of_heap h 4, fun k => Lib.frozen_of_heap h k⟩
theorem Qc.p' (h : Qc g t p r b y w) (v : Nat) : Qc g t v r b y (w.setCell ⟨g, 1, none⟩ (.int .i64 v)) := by
  unfold Qc at *; simp [World.setCell, Array.getElem?_modify, h]
theorem Qc.r' (h : Qc g t p r b y w) (v : Nat) : Qc g t p v b y (w.setCell ⟨g, 2, none⟩ (.int .i64 v)) := by
  unfold Qc at *; simp [World.setCell, Array.getElem?_modify, h]
theorem Qc.b' (h : Qc g t p r b y w) (v : ByteArray) : Qc g t p r v y (w.setCell ⟨g, 3, none⟩ (.string v)) := by
  unfold Qc at *; simp [World.setCell, Array.getElem?_modify, h]
theorem Qc.y' (h : Qc g t p r b y w) (v : Int) : Qc g t p r b v (w.setCell ⟨g, 4, none⟩ (.int .i64 v)) := by
  unfold Qc at *; simp [World.setCell, Array.getElem?_modify, h]
theorem gr_set {a : World} (h : a.grownBy w (some g)) (i : Nat) (v : Value) : a.grownBy (w.setCell ⟨g, i, none⟩ v) (some g) :=
  ⟨h.os, h.tape, h.output, by simpa [World.setCell] using h.size, fun k hk hr => (Below.heap_setCell w ⟨g, i, none⟩ v k (fun e => hr (by simp [e]))).trans (h.block k hk hr)⟩
theorem gr_drawn {a : World} {row : Option Nat} (h : a.grownBy w row) (n : Nat) : a.grownBy (w.drewN n) row := ⟨h.os, h.tape, h.output, h.size, h.block⟩

def nxt (t : ByteArray) (p r : Nat) : Nat := if 0 < p ∧ t.data[p]? = t.data[p - 1]? then r + 1 else 1
set_option maxHeartbeats 1000000 in
theorem rdnext_any (ht : t.size ≤ 65536) (hp : p < t.size) (hr : r ≤ 5) (h : Qc g t p r b y w) :
    Calls Try.prog 68 #[.pointer (some ⟨g, 0, none⟩)] w fun e w' => e = .returned (.tuple #[]) ∧ Qc g t (p + 1) (nxt t p r) b y w' ∧ w.grownBy w' (some g) := by
  obtain ⟨c0, c1, c2, c3, c4, hf⟩ := h.cells
  have f1 := hf 1
  have f2 := hf 2
  by_cases h0 : 0 < p
  · have hd : decide ((0 : Int) < (p : Int)) = true := by simp; omega
    have hp1 : (p : Int) < (t.size : Int) := by omega
    have hp0 : (0 : Int) ≤ (p : Int) := by omega
    have hq1 : ((p : Int) - 1) < (t.size : Int) := by omega
    have hq0 : (0 : Int) ≤ (p : Int) - 1 := by omega
    have hsub : ((p : Int) - 1) = ((p - 1 : Nat) : Int) := by omega
    have hpp : p - 1 < t.size := by omega
    by_cases he : t[p] = t[p - 1]
    · have hx : nxt t p r = r + 1 := by
        have e1 : t.data[p]? = some t[p] := Array.getElem?_eq_getElem hp
        have e2 : t.data[p - 1]? = some t[p - 1] := Array.getElem?_eq_getElem hpp
        unfold nxt
        rw [if_pos ⟨h0, by rw [e1, e2, he]⟩]
      have hq : ((t[p].toNat : Int) == (t[p - 1].toNat : Int)) = true := by rw [he]; simp
      rw [hx]
      have H : Hid (∀ n, Qc g t (p + 1) (r + 1) b y (((w.drewN n).setCell ⟨g, 2, none⟩ (.int .i64 ((r : Int) + 1))).setCell ⟨g, 1, none⟩ (.int .i64 ((p : Int) + 1)))) := fun n => ((h.drawn n).r' (r + 1)).p' (p + 1)
      clear hx
      go_enter Try.func68, Try.ntmps68
      go_wp2_with fail
      go_quiet (fail)
      go_wp2
      go_end0
      exact ⟨rfl, H.out _, gr_set (gr_set (gr_drawn (World.grownBy.refl w _) _) _ _) _ _⟩
    · have hx : nxt t p r = 1 := by
        have e1 : t.data[p]? = some t[p] := Array.getElem?_eq_getElem hp
        have e2 : t.data[p - 1]? = some t[p - 1] := Array.getElem?_eq_getElem hpp
        unfold nxt
        rw [if_neg]
        rw [e1, e2]
        rintro ⟨_, h2⟩
        exact he (Option.some.inj h2)
      have hq := u8_ne he
      rw [hx]
      have H : Hid (∀ n, Qc g t (p + 1) 1 b y (((w.drewN n).setCell ⟨g, 2, none⟩ (.int .i64 1)).setCell ⟨g, 1, none⟩ (.int .i64 ((p : Int) + 1)))) := fun n => ((h.drawn n).r' 1).p' (p + 1)
      clear hx he
      go_enter Try.func68, Try.ntmps68
      go_wp2_with fail
      go_quiet (fail)
      go_wp2
      go_end0
      exact ⟨rfl, H.out _, gr_set (gr_set (gr_drawn (World.grownBy.refl w _) _) _ _) _ _⟩
  · obtain rfl : p = 0 := by omega
    have hx : nxt t 0 r = 1 := by simp [nxt]
    have hd : decide ((0 : Int) < ((0 : Nat) : Int)) = false := by simp
    rw [hx]
    have H : Hid (∀ n, Qc g t (0 + 1) 1 b y (((w.drewN n).setCell ⟨g, 2, none⟩ (.int .i64 1)).setCell ⟨g, 1, none⟩ (.int .i64 1))) := fun n => ((h.drawn n).r' 1).p' 1
    clear hx
    go_enter Try.func68, Try.ntmps68
    go_wp2_with fail
    go_quiet (fail)
    go_wp2
    go_end0
    exact ⟨rfl, H.out _, gr_set (gr_set (gr_drawn (World.grownBy.refl w _) _) _ _) _ _⟩
end

/-- What the document's reader keeps to. -/
def RSq (t : List UInt8) (s : RS) : Prop := s.pos ≤ t.length ∧ s.row ≤ 5 ∧ s.seen.length ≤ s.pos ∧ s.seen.all isBit = true ∧ (s.pos = 0 → s.lev = 0 ∧ s.row = 0) ∧ (0 < s.pos → t[s.pos - 1]? = some s.lev)
def Qs (t : List UInt8) (s : RS) (g : Nat) (w : World) : Prop := Qc g ⟨t.toArray⟩ s.pos s.row ⟨s.seen.toArray⟩ 0 w ∧ RSq t s
def Qe (t : List UInt8) (f : Flt) (g : Nat) (w : World) : Prop := f.2 ≠ 0 ∧ ∃ r b, Qc g ⟨t.toArray⟩ f.1 r b f.2 w
def Qx {α : Type} (t : List UInt8) (x : Except Flt (α × RS)) (g : Nat) (w : World) : Prop := match x with
  | .ok q => Qs t q.2 g w
  | .error f => Qe t f g w
section
variable {t : List UInt8} {s : RS} {g : Nat} {w : World}
theorem bit_ne0 {b : UInt8} (hall : t.all isBit = true) (h : b ∈ t) : b ≠ 0 := by
  rw [List.all_eq_true] at hall
  have := isBit_cases (hall b h)
  intro e
  rw [e] at this
  simp at this
theorem nxt_row {b : UInt8} (hall : t.all isBit = true) (hq : RSq t s) (hb : t[s.pos]? = some b) : nxt ⟨t.toArray⟩ s.pos s.row = rowR s b := by
  obtain ⟨_, _, _, _, h0, h1⟩ := hq
  have hb0 := bit_ne0 hall (List.mem_of_getElem? hb)
  unfold nxt rowR
  have e1 : (⟨t.toArray⟩ : ByteArray).data[s.pos]? = some b := by simpa using hb
  by_cases hp : 0 < s.pos
  · have e2 : (⟨t.toArray⟩ : ByteArray).data[s.pos - 1]? = some s.lev := by simpa using h1 hp
    rw [e1, e2]
    by_cases hl : b = s.lev
    · rw [if_pos ⟨hp, by rw [hl]⟩, if_pos hl]
    · rw [if_neg (fun h => hl (Option.some.inj h.2)), if_neg hl]
  · rw [if_neg (fun h => hp h.1), if_neg]
    rw [(h0 (by omega)).1]
    exact hb0
theorem rsq_skip {b : UInt8} (hq : RSq t s) (hb : t[s.pos]? = some b) : RSq t ⟨s.pos + 1, b, 1, s.seen⟩ := by
  have hlt : s.pos < t.length := by
    rcases Nat.lt_or_ge s.pos t.length with h | h
    · exact h
    · rw [List.getElem?_eq_none h] at hb; cases hb
  obtain ⟨q1, q2, q3, q4, h0, h1⟩ := hq
  exact ⟨hlt, by simp, by simp only; omega, q4, fun h => by simp at h, fun _ => by simpa using hb⟩
theorem rsq_raw {b : UInt8} (hall : t.all isBit = true) (hq : RSq t s) (hr : s.row ≤ 4) (hb : t[s.pos]? = some b) : RSq t ⟨s.pos + 1, b, rowR s b, s.seen ++ [b]⟩ := by
  have hlt : s.pos < t.length := by
    rcases Nat.lt_or_ge s.pos t.length with h | h
    · exact h
    · rw [List.getElem?_eq_none h] at hb; cases hb
  obtain ⟨q1, q2, q3, q4, h0, h1⟩ := hq
  refine ⟨hlt, ?_, by simp; omega, all_snoc _ _ q4 (by rw [List.all_eq_true] at hall; exact hall b (List.mem_of_getElem? hb)), fun h => by simp at h, fun _ => by simpa using hb⟩
  show rowR s b ≤ 5
  unfold rowR
  split <;> omega

set_option maxHeartbeats 1000000 in
theorem rdskip_any (ht : t.length ≤ 65536) (hall : t.all isBit = true) (h : Qs t s g w) :
    Calls Try.prog 49 #[.pointer (some ⟨g, 0, none⟩)] w fun e w' => e = .returned (.tuple #[]) ∧ Qx t (skipL t s) g w' ∧ w.grownBy w' (some g) := by
  obtain ⟨h, hq⟩ := h
  have hq' := hq
  obtain ⟨q1, q2, q3, q4, q5, q6⟩ := hq
  obtain ⟨T, hT0⟩ : ∃ T : ByteArray, T = ⟨t.toArray⟩ := ⟨_, rfl⟩
  have hgt : ∀ i (h1 : i < T.size) (h2 : i < t.length), T[i]'h1 = t[i]'h2 := by subst hT0; intros; rfl
  have hnx : ∀ {b : UInt8}, t[s.pos]? = some b → nxt T s.pos s.row = rowR s b := by subst hT0; exact fun hb => nxt_row hall hq' hb
  have hsz : T.size = t.length := by subst hT0; simp [ByteArray.size]
  have HT : Hid (T = ⟨t.toArray⟩) := hT0
  rw [← hT0] at h
  have HQe : Hid (∀ (f : Flt) W, f.2 ≠ 0 → (∃ r b, Qc g T f.1 r b f.2 W) → Qe t f g W) := by subst hT0; exact fun f W a b => ⟨a, b⟩
  have HQs : Hid (∀ (s' : RS) W, Qc g T s'.pos s'.row ⟨s'.seen.toArray⟩ 0 W → RSq t s' → Qs t s' g W) := by subst hT0; exact fun f W a b => ⟨a, b⟩
  clear hT0
  obtain ⟨c0, c1, c2, c3, c4, hf⟩ := h.cells
  have f4 := hf 4
  by_cases h5 : s.row = 5
  · have hd : decide ((s.row : Int) < 5) = false := by simp; omega
    by_cases hp : s.pos < t.length
    · have hpos : 0 < s.pos := by
        rcases Nat.eq_zero_or_pos s.pos with e | e
        · have := (q5 e).2; omega
        · exact e
      have hget : t[s.pos]? = some t[s.pos] := List.getElem?_eq_getElem hp
      have hlev : t[s.pos - 1]'(by omega) = s.lev := by
        have := q6 hpos
        rw [List.getElem?_eq_getElem (by omega)] at this
        exact Option.some.inj this
      have HX := rsq_skip hq' hget
      have HNx := hnx hget
      have hpT : s.pos < T.size := by omega
      have hpT1 : s.pos - 1 < T.size := by omega
      have hp1 : (s.pos : Int) < (T.size : Int) := by omega
      have hp0 : (0 : Int) ≤ (s.pos : Int) := by omega
      have hq1 : ((s.pos : Int) - 1) < (T.size : Int) := by omega
      have hq0 : (0 : Int) ≤ (s.pos : Int) - 1 := by omega
      have hsub : ((s.pos : Int) - 1) = ((s.pos - 1 : Nat) : Int) := by omega
      have hge : ¬ (T.size : Int) ≤ (s.pos : Int) := by omega
      have hgd : decide ((T.size : Int) ≤ (s.pos : Int)) = false := by simp; omega
      have g1 : T[s.pos]'(by omega) = t[s.pos] := hgt _ _ _
      have g2 : T[s.pos - 1]'(by omega) = s.lev := (hgt _ _ _).trans hlev
      have HSk : Hid (skipL t s = if t[s.pos] = s.lev then .error (s.pos, 20) else .ok ((), ⟨s.pos + 1, t[s.pos], 1, s.seen⟩)) := by
        show skipL t s = _
        unfold skipL
        rw [if_pos h5, hget]
      have hN := fun W => rdnext_any (g := g) (t := T) (p := s.pos) (r := s.row) (b := ⟨s.seen.toArray⟩) (y := 0) (w := W) (by omega) (by omega) q2
      rw [HNx] at hN
      by_cases he : t[s.pos] = s.lev
      · have hq : (((T[s.pos]'(by omega)).toNat : Int) == ((T[s.pos - 1]'(by omega)).toNat : Int)) = true := by rw [g1, g2, he]; simp
        rw [if_pos he] at HSk
        have H : Hid (∀ n, Qe t (s.pos, 20) g ((w.drewN n).setCell ⟨g, 4, none⟩ (.int .i64 20))) := fun n => HQe.out _ _ (by simp) ⟨_, _, (h.drawn n).y' 20⟩
        clear hN HNx HX g1 g2 hgt hnx hsz hlev hget
        go_enter Try.func49, Try.ntmps49
        go_wp2_with fail
        go_quiet (fail)
        go_wp2_with fail
        go_quiet (fail)
        go_wp2
        go_end0
        exact ⟨rfl, by rw [HSk.out]; exact H.out _, gr_set (gr_drawn (World.grownBy.refl w _) _) _ _⟩
      · have hq : (((T[s.pos]'(by omega)).toNat : Int) == ((T[s.pos - 1]'(by omega)).toNat : Int)) = false := by rw [g1, g2]; exact u8_ne he
        rw [if_neg he] at HSk
        have hr1 : rowR s t[s.pos] = 1 := by unfold rowR; rw [if_neg he]
        rw [hr1] at hN
        have HD := fun n => (hN (w.drewN n) (h.drawn n))
        clear hN HNx g1 g2 hgt hnx hsz hlev hget
        go_enter Try.func49, Try.ntmps49
        go_wp2_with fail
        go_quiet (fail)
        go_wp2_with fail
        go_quiet (fail)
        go_wp2_with fail
        refine (HD _).mono ?_
        rintro e w1 ⟨rfl, k1, k2⟩
        go_wp2
        go_end0
        exact ⟨rfl, by rw [HSk.out]; exact HQs.out _ _ k1 HX, (gr_drawn (World.grownBy.refl w _) _).trans k2⟩
    · have HSk : Hid (skipL t s = .error (s.pos, 3)) := by
        show skipL t s = _
        unfold skipL
        rw [if_pos h5, List.getElem?_eq_none (by omega)]
      have hge : (T.size : Int) ≤ (s.pos : Int) := by omega
      have H : Hid (∀ n, Qe t (s.pos, 3) g ((w.drewN n).setCell ⟨g, 4, none⟩ (.int .i64 3))) := fun n => HQe.out _ _ (by simp) ⟨_, _, (h.drawn n).y' 3⟩
      clear hgt hnx hsz
      go_enter Try.func49, Try.ntmps49
      go_wp2_with fail
      go_quiet (fail)
      go_wp2
      go_end0
      exact ⟨rfl, by rw [HSk.out]; exact H.out _, gr_set (gr_drawn (World.grownBy.refl w _) _) _ _⟩
  · have hd : decide ((s.row : Int) < 5) = true := by simp; omega
    have HSk : Hid (skipL t s = .ok ((), s)) := by show skipL t s = _; unfold skipL; rw [if_neg h5]
    have H : Hid (Qs t s g w) := HQs.out _ _ h hq'
    clear hgt hnx
    go_enter Try.func49, Try.ntmps49
    go_wp2
    first
      | (go_end0; exact ⟨rfl, by rw [HSk.out]; exact H.out, World.grownBy.refl w _⟩)
      | (refine bodyPost_ret (results_none rfl _ _ _) rfl ?_; exact ⟨rfl, by rw [HSk.out]; exact H.out, World.grownBy.refl w _⟩)
end
end Go.Proofs.Ytpjddhihokgffaa
