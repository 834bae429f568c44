/- The program's slave and the document's go alike: plain. -/
import Derived.Test.YthbmbabndhpdkaaLsM
namespace Go.Proofs.Ythbmbabndhpdkaa
open Classical
set_option linter.unusedVariables false
set_option maxRecDepth 1000000
set_option linter.unusedSimpArgs false
/-- The first k of them are alike. -/
def pre (k : Int) (c a : A4) : Bool := (decide (k < 1) || decide (c.x0 = a.x0)) && (decide (k < 2) || decide (c.x1 = a.x1)) && (decide (k < 3) || decide (c.x2 = a.x2))
structure R (s : Ls) (d : Ld) : Prop where
  a : d.a = s.a
  ip : d.ip = s.ip
  iu : d.iu = s.iu
  rp : d.rp = s.rp
  ru : d.ru = s.ru
  st : (s.st = none ∧ d.has = false ∧ d.si = 0 ∧ d.sr = 0) ∨ ∃ x y, s.st = some (x, y) ∧ d.has = true ∧ d.si = x ∧ d.sr = y
  fails : d.fails = s.fails
  mode : d.mode = s.mode
  tk : d.tk = if pre s.pk s.c s.a then s.pk else 0
  lk : d.lk = s.lk
theorem R.new (a : A4) (id : Int) : R (Ls.new a id) (Ld.new a id) := ⟨rfl, rfl, rfl, rfl, rfl, .inl ⟨rfl, rfl, rfl, rfl⟩, rfl, rfl, rfl, rfl⟩
theorem R.bare {s : Ls} {d : Ld} (h : R s d) : d.bare = s.bare := by unfold Ld.bare Ls.bare; rw [h.ip, h.iu]
theorem R.set {s : Ls} {d : Ld} (h : R s d) (m : Nat) : R (s.set m) (d.set m) := by
  obtain ⟨h1, h2, h3, h4, h5, h6, h7, h8, h9, h10⟩ := h
  unfold Ls.set Ld.set
  by_cases hm : m = 1
  · rw [if_pos hm, if_pos hm]
    exact ⟨h1, h2, h3, h4, h5, h6, h7, rfl, h9, h10⟩
  · rw [if_neg hm, if_neg hm]
    by_cases hm : m = 0
    · rw [if_pos hm, if_pos hm]
      exact ⟨h1, h2, (by show (if d.iu = 0 then d.ip else d.iu) = _; rw [h2, h3]), h4, h5, h6, h7, rfl, h9, h10⟩
    · rw [if_neg hm, if_neg hm]
      exact ⟨h1, h2, h3, h4, h5, h6, h7, h8, h9, h10⟩
theorem R.conf {s : Ls} {d : Ld} (h : R s d) (q : F8) : R (s.confS q) (d.confS q) ∧ d.confA q = s.confA q := by
  obtain ⟨h1, h2, h3, h4, h5, h6, h7, h8, h9, h10⟩ := h
  refine ⟨?_, by unfold Ls.confA Ld.confA; rw [h7, h1, h3]⟩
  unfold Ls.confS Ld.confS
  rw [h7]
  repeat' split
  · exact ⟨h1, rfl, h3, h4, h5, h6, rfl, h8, h9, h10⟩
  · exact ⟨h1, h2, h3, h4, h5, h6, h7, h8, h9, h10⟩
  · exact ⟨h1, h2, h3, rfl, h5, h6, rfl, h8, h9, h10⟩
  · exact ⟨h1, h2, h3, h4, h5, h6, h7, h8, h9, h10⟩
  · exact ⟨h1, h2, h3, h4, h4, h6, rfl, h8, h9, h10⟩
  · exact ⟨h1, h2, h3, h4, h5, h6, h7, h8, h9, h10⟩
  · exact ⟨h1, h2, h3, h4, h5, .inr ⟨_, _, rfl, rfl, h2, h4⟩, rfl, h8, h9, h10⟩
  · exact ⟨h1, h2, h3, h4, h5, h6, h7, h8, h9, h10⟩
theorem R.scan {s : Ls} {d : Ld} (h : R s d) (ho : s.Ok) (q : F8) : R (s.scanS q) (d.scanS q) ∧ d.scanB q = s.scanB q := by
  obtain ⟨h1, h2, h3, h4, h5, h6, h7, h8, h9, h10⟩ := h
  have hl := ho.lk
  have e : d.scanQ q = s.scanQ q := by
    unfold Ls.scanQ Ld.scanQ
    rw [h10, h1]
    by_cases hk : (q.b6.toNat : Int) = s.lk
    · have : q.b6.toNat ≤ 3 := by omega
      have e4 : decide (q.b7.toNat ≤ 3) = decide (q.b7.toNat < 4) := by rw [decide_eq_decide]; omega
      rw [e4]
      simp only [this, hk, decide_true, Bool.and_true]
    · simp [hk]
  refine ⟨?_, by unfold Ls.scanB Ld.scanB; rw [e]⟩
  unfold Ls.scanS Ld.scanS
  rw [e]
  repeat' split
  · exact ⟨h1, h2, h3, h4, h5, h6, h7, h8, h9, rfl⟩
  · exact ⟨h1, h2, h3, h4, h5, h6, h7, rfl, h9, rfl⟩
  · exact ⟨h1, h2, h3, h4, h5, h6, h7, h8, h9, rfl⟩
  · exact ⟨h1, h2, h3, h4, h5, h6, h7, h8, h9, h10⟩
  · exact ⟨h1, h2, h3, h4, h5, h6, h7, h8, h9, h10⟩
theorem pick_core (a c : A4) (p k : Int) (n : Nat) (hp : 0 ≤ p ∧ p ≤ 3) (hk : 0 ≤ k ∧ k ≤ 3) (tk : Int) (ht : tk = if pre k c a then k else 0) :
    (p ≠ 0 ∧ p ≠ k → (if p = (if p = 0 then 0 else tk) ∧ a.nth p = n then (if p = 0 then 0 else tk) + 1 else 0) = 0) ∧
    (¬ (p ≠ 0 ∧ p ≠ k) → (if p = 3 ∧ c.put p n = a then (if p = (if p = 0 then 0 else tk) ∧ a.nth p = n then (if p = 0 then 0 else tk) + 1 else 0) = 4 else (if p = (if p = 0 then 0 else tk) ∧ a.nth p = n then (if p = 0 then 0 else tk) + 1 else 0) = (if pre ((p + 1) % 4) (c.put p n) a then (p + 1) % 4 else 0))) := by
  obtain ⟨a0, a1, a2, a3⟩ := a
  obtain ⟨c0, c1, c2, c3⟩ := c
  subst ht
  have e0 : a0 = n ↔ n = a0 := eq_comm
  have e1 : a1 = n ↔ n = a1 := eq_comm
  have e2 : a2 = n ↔ n = a2 := eq_comm
  have e3 : a3 = n ↔ n = a3 := eq_comm
  obtain rfl | rfl | rfl | rfl : p = 0 ∨ p = 1 ∨ p = 2 ∨ p = 3 := by omega
  all_goals obtain rfl | rfl | rfl | rfl : k = 0 ∨ k = 1 ∨ k = 2 ∨ k = 3 := by omega
  all_goals
    simp [pre, A4.put, A4.nth, e0, e1, e2, e3]
  all_goals
    repeat' split
    all_goals (first | rfl | omega | simp_all)
theorem R.pick {s : Ls} {d : Ld} (h : R s d) (ho : s.Ok) (p : Int) (hp : 0 ≤ p ∧ p ≤ 3) (n : Nat) : R (s.pickS p n) (d.pickS p n) ∧ d.pickB p n = s.pickB p n := by
  obtain ⟨h1, h2, h3, h4, h5, h6, h7, h8, h9, h10⟩ := h
  obtain ⟨g1, g2⟩ := pick_core s.a s.c p s.pk n hp ho.pk d.tk h9
  have hK : d.pickK p n = if p = (if p = 0 then 0 else d.tk) ∧ s.a.nth p = n then (if p = 0 then 0 else d.tk) + 1 else 0 := by unfold Ld.pickK; rw [h1]
  rw [← hK] at g1 g2
  unfold Ls.pickS Ls.pickB Ld.pickS Ld.pickB
  generalize d.pickK p n = K at *
  by_cases c1 : p ≠ 0 ∧ p ≠ s.pk
  · have g := g1 c1
    subst g
    have e1 : (decide (p ≠ 0) && decide (p ≠ s.pk)) = true := by simpa using c1
    rw [if_pos c1, if_neg (show ¬ (0 : Int) = 4 by omega), e1]
    exact ⟨⟨h1, h2, h3, h4, h5, h6, h7, h8, (by show (0 : Int) = if pre 0 s.c s.a then 0 else 0; simp), h10⟩, rfl⟩
  · have g := g2 c1
    have e1 : (decide (p ≠ 0) && decide (p ≠ s.pk)) = false := by rw [Bool.eq_false_iff]; intro hc; exact c1 (by simpa using hc)
    rw [if_neg c1, e1]
    by_cases c2 : p = 3 ∧ s.c.put p n = s.a
    · rw [if_pos c2] at g
      rw [if_pos g, if_pos c2]
      obtain ⟨c3, c4⟩ := c2
      subst c3
      refine ⟨⟨h1, h2, h3, h4, h5, h6, h7, rfl, ?_, h10⟩, by simp [g, c4]⟩
      show (0 : Int) = if _ then (3 + 1) % 4 else 0
      split <;> rfl
    · rw [if_neg c2] at g
      have hn : ¬ K = 4 := by rw [g]; split <;> omega
      rw [if_neg hn, if_neg c2]
      refine ⟨⟨h1, h2, h3, h4, h5, h6, h7, h8, g, h10⟩, ?_⟩
      have e3 : decide (K = 4) = false := by simp [hn]
      rw [e3]
      simp only [Bool.not_false, Bool.true_and]
      rw [eq_comm, Bool.eq_false_iff]
      intro hc
      simp at hc
      exact c2 hc
theorem ord_one (c : Nat) (hc : c < 256) (h : (c : Int) ≠ -1) : Ls.one (c : Int) = (ordF c 0, true) := by
  unfold Ls.one
  rw [if_neg h]
  rfl
theorem R.take {s : Ls} {d : Ld} (h : R s d) (ho : s.Ok) (q : F8) : R (s.takeS q) (d.takeS q) ∧ d.takeA q = s.takeA q := by
  have hb := h.bare
  have o68 : Ls.one 68 = (ordF 68 0, true) := rfl
  have o79 : Ls.one 79 = (ordF 79 0, true) := rfl
  have o80 : Ls.one 80 = (ordF 80 0, true) := rfl
  have on : Ls.one (-1) = (F8.nul, false) := rfl
  unfold Ls.takeS Ls.takeA Ld.takeS Ld.takeA
  by_cases c4 : q.b0.toNat = 4
  · rw [if_pos c4, if_pos c4, if_pos c4, if_pos c4]
    exact ⟨h.set _, rfl⟩
  rw [if_neg c4, if_neg c4, if_neg c4, if_neg c4]
  by_cases c76 : q.b0.toNat = 76
  · rw [if_pos c76, if_pos c76]
    cases b : s.bare
    · rw [b] at hb
      have hn : ¬ (q.b0.toNat = 76 ∧ d.bare = true) := by rw [hb]; simp
      rw [if_neg hn, if_neg hn]
      have k1 : ¬ (64 ≤ q.b0.toNat ∧ q.b0.toNat < 68) := by omega
      have k2 : ¬ (q.b0.toNat = 81 ∧ d.bare = true) := by omega
      rw [if_neg k1, if_neg k1, if_neg k2, if_neg k2]
      have hc := h.conf q
      have e1 : s.confS q = s := by unfold Ls.confS; rw [c76]; rfl
      have e2 : s.confA q = (F8.nul, false) := by unfold Ls.confA; rw [c76]; rfl
      rw [e1, e2] at hc
      split
      · exact ⟨hc.1, hc.2⟩
      · exact ⟨h, rfl⟩
    · rw [b] at hb
      have hp : q.b0.toNat = 76 ∧ d.bare = true := ⟨c76, hb⟩
      rw [if_pos hp, if_pos hp]
      exact ⟨h, rfl⟩
  have hn : ¬ (q.b0.toNat = 76 ∧ d.bare = true) := fun x => c76 x.1
  rw [if_neg c76, if_neg c76, if_neg hn, if_neg hn, h.mode]
  by_cases cm : s.mode = 1
  · rw [if_pos cm, if_pos cm, if_pos cm, if_pos cm]
    exact h.conf q
  rw [if_neg cm, if_neg cm, if_neg cm, if_neg cm]
  unfold Ls.waitS Ls.waitA
  by_cases k1 : 64 ≤ q.b0.toNat ∧ q.b0.toNat < 68
  · rw [if_pos k1, if_pos k1, if_pos k1, if_pos k1]
    have := h.pick ho ((q.b0.toNat : Int) - 64) (by omega) (numq q)
    refine ⟨this.1, ?_⟩
    rw [this.2]
    split <;> rfl
  rw [if_neg k1, if_neg k1, if_neg k1, if_neg k1, hb]
  by_cases k2 : q.b0.toNat = 81
  · cases b : s.bare
    · simp only [k2, Bool.false_eq_true, and_false, if_true, if_false, Bool.false_and]
      exact ⟨h, rfl⟩
    · have := h.scan ho q
      simp only [k2, and_self, if_true, Bool.true_and]
      refine ⟨this.1, ?_⟩
      rw [this.2]
      cases s.scanB q <;> rfl
  · have : ¬ (q.b0.toNat = 81 ∧ s.bare = true) := fun x => k2 x.1
    rw [if_neg k2, if_neg k2, if_neg this, if_neg this]
    exact ⟨h, rfl⟩
theorem R.re {s : Ls} {d : Ld} (h : R s d) : R s.re d.re := by
  obtain ⟨h1, h2, h3, h4, h5, h6, h7, h8, h9, h10⟩ := h
  have hz : ∀ c a, (0 : Int) = if pre 0 c a then 0 else 0 := fun c a => by split <;> rfl
  rcases h6 with ⟨e1, e2, e3, e4⟩ | ⟨x, y, e1, e2, e3, e4⟩
  · have E : s.re = { s with mode := 0, pk := 0, lk := 0, iu := s.ip } := by
      unfold Ls.re
      split
      · rfl
      · rename_i h; rw [e1] at h; cases h
    have E2 : d.re = { d with mode := 0, tk := 0, lk := 0, iu := d.ip } := by unfold Ld.re; rw [if_neg (by simp [e2])]
    rw [E, E2]
    exact ⟨h1, h2, h2, h4, h5, .inl ⟨e1, e2, e3, e4⟩, h7, rfl, hz _ _, rfl⟩
  · have E : s.re = { s with mode := 0, pk := 0, lk := 0, ip := x, iu := x, rp := y, ru := y } := by
      unfold Ls.re
      split
      · rename_i h; rw [e1] at h; cases h
      · rename_i h; rw [e1] at h; cases h; rfl
    have E2 : d.re = { d with mode := 0, tk := 0, lk := 0, ip := d.si, rp := d.sr, ru := d.sr, iu := d.si } := by unfold Ld.re; rw [if_pos e2]
    rw [E, E2]
    exact ⟨h1, e3, e3, e4, e4, .inr ⟨x, y, e1, e2, e3, e4⟩, h7, rfl, hz _ _, rfl⟩
theorem R.store {s : Ls} {d : Ld} (h : R s d) (b : Bool) : R { s with fails := b } { d with fails := b } := by
  obtain ⟨h1, h2, h3, h4, h5, h6, h7, h8, h9, h10⟩ := h
  exact ⟨h1, h2, h3, h4, h5, h6, rfl, h8, h9, h10⟩
theorem Ld.nul_ok : (Ld.new A4.nul 0).Ok := ⟨⟨by decide, by decide, by decide, by decide⟩, ⟨by decide, by decide⟩, ⟨by decide, by decide⟩, ⟨by decide, by decide⟩⟩
theorem R.ok {s : Ls} {d : Ld} (h : R s d) (ho : s.Ok) : d.Ok := by
  obtain ⟨h1, h2, h3, h4, h5, h6, h7, h8, h9, h10⟩ := h
  obtain ⟨g1, g2, g3, g4, g5, g6, g7⟩ := ho
  refine ⟨by rw [h1]; exact g1, by rw [h3]; exact g4, ?_, by rw [h10]; exact g7⟩
  rw [h9]
  split
  · exact g6
  · omega
end Go.Proofs.Ythbmbabndhpdkaa
