/- runOut, in one; a tick as a plain function. -/
import Derived.Test.YtjkkclojidhgdaaW14
namespace Go.Proofs.Ytjkkclojidhgdaa
open Go.RowKit Go.Maps Go.WideMaps
set_option linter.unusedVariables false
set_option maxRecDepth 1000000
set_option linter.unusedSimpArgs false
/-- The timers behind a tick. -/
def aft (now : Nat) (ts : List Tm) : List Tm := (outs now ts).foldl (run1 now) ts
/-- What a wheel's timers keep to. -/
structure Good (now : Nat) (ts : List Tm) : Prop where
  bkd : Bkd ts
  len : ts.length ≤ 1024
  all : ∀ t ∈ ts, t.per ≤ 4294967296 ∧ now < t.due ∧ t.due ≤ now + 4294967296
theorem mem_aftK {now : Nat} {ts : List Tm} : ∀ k, k ≤ (outs now ts).length → ∀ x ∈ aftK now ts k, (x ∈ ts ∧ ∀ j (hj : j < (outs now ts).length), j < k → x.no ≠ (outs now ts)[j].no) ∨ ∃ t ∈ outs now ts, t.per ≠ 0 ∧ x = { t with due := nextDue t now }
  | 0, _, x, hx => .inl ⟨by rw [aft_zero] at hx; exact hx, fun j _ h => by omega⟩
  | k + 1, hk, x, hx => by
    rw [aft_succ (by omega)] at hx
    rcases mem_run1 hx with ⟨h1, h2⟩ | ⟨h1, h2⟩
    · rcases mem_aftK k (Nat.le_of_succ_le hk) x h1 with ⟨h3, h4⟩ | h3
      · refine .inl ⟨h3, fun j hj hjk => ?_⟩
        by_cases e : j = k
        · subst e; exact h2
        · exact h4 j hj (by omega)
      · exact .inr h3
    · exact .inr ⟨_, List.getElem_mem _, h1, h2⟩
theorem Good.tick {now : Nat} {ts : List Tm} (h : Good now ts) (hr : Rise ts) : Good (now + 1) (aft (now + 1) ts) := by
  have hA := aft_any (now := now + 1) hr h.bkd _ (Nat.le_refl _)
  have e : aft (now + 1) ts = aftK (now + 1) ts (outs (now + 1) ts).length := by unfold aft aftK; rw [List.take_length]
  rw [e]
  refine ⟨hA.bkd, Nat.le_trans hA.len h.len, fun x hx => ?_⟩
  rcases mem_aftK _ (Nat.le_refl _) x hx with ⟨h1, h2⟩ | ⟨t, ht, hp, rfl⟩
  · obtain ⟨a1, a2, a3⟩ := h.all x h1
    refine ⟨a1, ?_, by omega⟩
    have : x.due ≠ now + 1 := fun e => by
      have hm : x ∈ outs (now + 1) ts := List.mem_filter.2 ⟨h1, by simp [e]⟩
      obtain ⟨j, hj, ej⟩ := List.getElem_of_mem hm
      exact h2 j hj hj (by rw [ej])
    omega
  · obtain ⟨h1, h2⟩ := List.mem_filter.1 ht
    have h2' : t.due = now + 1 := by simpa using h2
    obtain ⟨a1, a2, a3⟩ := h.all t h1
    have e2 : nextDue t (now + 1) = now + 1 + t.per := by unfold nextDue; rw [h2', Nat.sub_self]; simp
    refine ⟨a1, ?_, ?_⟩
    · show now + 1 < nextDue t (now + 1); omega
    · show nextDue t (now + 1) ≤ _; omega
/-- The timers behind c ticks, and what is told in them. -/
def tkT : Nat → Nat → List Tm → List Tm
  | 0, _, ts => ts
  | c + 1, now, ts => aft (now + c + 1) (tkT c now ts)
def tkW : Nat → Nat → List Tm → List Int
  | 0, _, _ => []
  | c + 1, now, ts => tkW c now ts ++ (outs (now + c + 1) (tkT c now ts)).map (·.what)
theorem aft_bks {now : Nat} {ts : List Tm} (hr : Rise ts) (hb : Bkd ts) {x : Tm} (hx : x ∈ aft now ts) : ∃ y ∈ ts, y.bk = x.bk := by
  have e : aft now ts = aftK now ts (outs now ts).length := by unfold aft aftK; rw [List.take_length]
  rw [e] at hx
  exact (aft_any hr hb _ (Nat.le_refl _)).bks x hx
section
variable {g now given n : Nat} {ts ls : List Tm} {bt S : Nat} {sm : Nat → Option Nat} {w : World}
theorem runOut_any (h : Wh g now given n ts ts bt S sm w) (hb : Bkd ts) (hl : ts.length ≤ 1024) (hper : ∀ t ∈ ts, t.per ≤ 4294967296) (hdu : ∀ t ∈ ts, t.due < 9223372036854775808) (B : Nat) (hB0 : B ≤ w.heap.size) (tv : Value) (told : List Int) (htl : told.length ≤ 131072) (hown : w.ownsRow B 3 1 tv told.length (told.map (Value.int .i64))) :
    Calls Try.prog 36 #[.pointer (some ⟨g, 0, none⟩), tv] w fun e w' => ∃ tv', e = .returned tv' ∧ w'.ownsRow B 3 1 tv' (told ++ (outs now ts).map (·.what)).length ((told ++ (outs now ts).map (·.what)).map (Value.int .i64)) ∧ ∃ sm', Wh g now given n (aft now ts) (aft now ts) bt S sm' w' ∧ Kw (fun k => OwT g bt S n sm ts k ∨ tv.ownBlock = some k) w w' ∧ More n sm sm' w ∧ ∀ j, j < w.heap.size → tv'.ownBlock = some j → tv.ownBlock = some j := by
  cases hs : sm (now % n) with
  | none =>
    have ho : outs now ts = [] := by
      rw [← outs_slot n now ts, h.none' _ (Nat.mod_lt _ h.n0) hs]; rfl
    refine (runOut_nil h tv hs).mono ?_
    rintro e w' ⟨rfl, hB⟩
    unfold aft
    rw [ho]
    exact ⟨tv, rfl, by simpa using row_below hown hB, sm, h.below hB, Kw.below hB, fun i b _ h => .inl h, fun j _ h => h⟩
  | some b =>
    refine (runOut_some h hb hl hper hdu B hB0 tv told htl hown b hs).mono ?_
    rintro e w' ⟨tv', rfl, h1, sm', h2, k1, k2, k3⟩
    exact ⟨tv', rfl, by simpa using h1, sm', h2, k1, k2, k3⟩
end
end Go.Proofs.Ytjkkclojidhgdaa
