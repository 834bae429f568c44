/- What the document's reader makes of all bits. Plain facts. -/
import Derived.Test.YtpjddhihokgffaaRq4
namespace Go.Proofs.Ytpjddhihokgffaa
open Go.RowKit Go.Proofs.Bits
set_option linter.unusedVariables false
set_option maxRecDepth 1000000

def cmpS (x : Except Flt RS) (b : Bool) : Except Flt RS := match x with
  | .ok s => if b then .ok s else .error (s.pos, 21)
  | .error f => .error f
section
variable {t : List UInt8} {x : Except Flt RS}
theorem bytes_step (t : List UInt8) (x : Except Flt RS) (k : Nat) : stOf (onS x (bytesLz t (k + 1))) = tk t (stOf (onS x (bytesLz t k))) 8 := by
  cases x with
  | error f => rfl
  | ok s =>
    cases h : bytesLz t k s with
    | error f =>
      have : bytesLz t (k + 1) s = .error f := by simp [bytesLz, bindR, h]
      simp [tk, onS, stOf, h, this]
    | ok q =>
      obtain ⟨ds, s1⟩ := q
      cases h2 : takeL t 8 s1 with
      | error f =>
        have : bytesLz t (k + 1) s = .error f := by simp [bytesLz, bindR, h, h2]
        simp [tk, onS, stOf, h, h2, this]
      | ok q =>
        obtain ⟨b, s2⟩ := q
        have : bytesLz t (k + 1) s = .ok (ds ++ [(val b).toUInt8], s2) := by simp [bytesLz, bindR, retR, h, h2]
        simp [tk, onS, stOf, h, h2, this]
theorem bytes_ok {k : Nat} {s s2 : RS} {ds : List UInt8} (h : bytesLz t (k + 1) s = .ok (ds, s2)) : ∃ es s1 b, bytesLz t k s = .ok (es, s1) ∧ takeL t 8 s1 = .ok (b, s2) ∧ ds = es ++ [(val b).toUInt8] := by
  obtain ⟨es, s1, h1, h⟩ := bindR_inv h
  obtain ⟨b, s3, h2, h⟩ := bindR_inv h
  simp only [retR, Except.ok.injEq, Prod.mk.injEq] at h
  exact ⟨es, s1, b, h1, by rw [h2, h.2], h.1.symm⟩
theorem bytes_len (k : Nat) : ∀ {s s2 : RS} {ds : List UInt8}, bytesLz t k s = .ok (ds, s2) → ds.length = k := by
  induction k with
  | zero => intro s s2 ds h; simp only [bytesLz, retR, Except.ok.injEq, Prod.mk.injEq] at h; rw [← h.1]; rfl
  | succ k ih =>
    intro s s2 ds h
    obtain ⟨es, s1, b, h1, _, rfl⟩ := bytes_ok h
    simp [ih h1]
theorem fix_step (t : List UInt8) (x : Except Flt RS) (k : Nat) : stOf (onS x (fixN t 49 22 (k + 1))) = stOf (onS (stOf (onS x (fixN t 49 22 k))) (fixS t 49 22)) := by
  cases x with
  | error f => rfl
  | ok s =>
    cases h : fixN t 49 22 k s with
    | error f =>
      have : fixN t 49 22 (k + 1) s = .error f := by simp [fixN, bindR, h]
      simp [onS, stOf, h, this]
    | ok q =>
      obtain ⟨u, s1⟩ := q
      have : fixN t 49 22 (k + 1) s = fixS t 49 22 s1 := by simp [fixN, bindR, h]
      simp [onS, stOf, h, this]
theorem end_chain (t : List UInt8) (x : Except Flt RS) : stOf (onS (stOf (onS (stOf (onS x (fixS t 49 22))) (fixS t 48 23))) (fixN t 49 22 8)) = stOf (onS x (endS t)) := by
  cases x with
  | error f => rfl
  | ok s =>
    cases h : fixS t 49 22 s with
    | error f =>
      have : endS t s = .error f := by simp [endS, bindR, h]
      simp [onS, stOf, h, this]
    | ok q =>
      obtain ⟨u, s1⟩ := q
      cases h2 : fixS t 48 23 s1 with
      | error f =>
        have : endS t s = .error f := by simp [endS, bindR, h, h2]
        simp [onS, stOf, h, h2, this]
      | ok q =>
        obtain ⟨u2, s2⟩ := q
        have : endS t s = fixN t 49 22 8 s2 := by simp [endS, bindR, h, h2]
        simp [onS, stOf, h, h2, this]
theorem dec_chain {y1 y4 y7 : Except Flt RS} (n : Nat) (hB : bodyL t Bits.start = onS x (restL t)) (Hn : ∀ p s', onS x (headL t) = .ok (p, s') → n = nOf p.1.2.2 p.2) (c nn : Nat)
    (h1 : y1 = stOf (onS (stOf (onS x (headL t))) (bytesLz t n)))
    (hc : ∀ q, onS y1 (takeL t 15) = .ok q → c = val q.1) (hnn : ∀ s, y1 = .ok s → nn = crc s.seen)
    (h4 : y4 = cmpS (stOf (onS (tk t y1 15) (skipL t))) (decide (c = nn))) (h7 : y7 = stOf (onS y4 (endS t))) :
    (∀ e, y7 = .error e → decS t = .error e) ∧ ∀ s, y7 = .ok s → ∃ p s0 ds s1, onS x (headL t) = .ok (p, s0) ∧ bytesLz t n s0 = .ok (ds, s1) ∧ decS t = .ok (⟨p.1.1, p.1.2.1, p.1.2.2, p.2, ds⟩, s) := by
  have hD : decS t = match onS x (restL t) with
      | .error e => .error e
      | .ok (F, s) => bindR (endS t) (fun _ => retR F) s := by
    rw [← hB, body_late, decS]
    unfold bindR
    cases bodyS t Bits.start <;> rfl
  have hR : onS x (restL t) = match onS x (headL t) with
      | .error e => .error e
      | .ok (p, s) => bindR (bytesLz t (nOf p.1.2.2 p.2)) (fun ds => sumLz t ⟨p.1.1, p.1.2.1, p.1.2.2, p.2, ds⟩) s := by
    rw [rest_head]
    cases x with
    | error f => rfl
    | ok s =>
      simp only [onS]
      unfold bindR
      cases headL t s <;> rfl
  cases hz : onS x (headL t) with
  | error e =>
    rw [hz] at hR h1
    simp only at hR
    rw [hR] at hD
    simp only at hD
    have hy : y7 = .error e := by rw [h7, h4, h1]; rfl
    exact ⟨fun e' h => by rw [hy] at h; cases h; exact hD, fun s h => by rw [hy] at h; cases h⟩
  | ok z =>
    obtain ⟨p, s0⟩ := z
    have hn := Hn p s0 hz
    rw [hz] at hR h1
    simp only at hR
    rw [← hn] at hR
    cases hb : bytesLz t n s0 with
    | error e =>
      rw [bindR_error hb] at hR
      rw [hR] at hD
      simp only at hD
      have hy1 : y1 = .error e := by rw [h1]; simp [stOf, onS, hb]
      have hy : y7 = .error e := by rw [h7, h4, hy1]; rfl
      exact ⟨fun e' h => by rw [hy] at h; cases h; exact hD, fun s h => by rw [hy] at h; cases h⟩
    | ok z =>
      obtain ⟨ds, s1⟩ := z
      rw [bindR_ok hb] at hR
      have hy1 : y1 = .ok s1 := by rw [h1]; simp [stOf, onS, hb]
      have hnn' := hnn s1 hy1
      unfold sumLz at hR
      rw [hy1] at hc h4
      cases hk : takeL t 15 s1 with
      | error e =>
        rw [bindR_error hk] at hR
        rw [hR] at hD
        simp only at hD
        have hy : y7 = .error e := by rw [h7, h4]; simp [tk, stOf, onS, hk, cmpS]
        exact ⟨fun e' h => by rw [hy] at h; cases h; exact hD, fun s h => by rw [hy] at h; cases h⟩
      | ok z =>
        obtain ⟨cs, s2⟩ := z
        have hcv := hc (cs, s2) (by simp [onS, hk])
        rw [bindR_ok hk] at hR
        cases hs : skipL t s2 with
        | error e =>
          rw [bindR_error hs] at hR
          rw [hR] at hD
          simp only at hD
          have hy : y7 = .error e := by rw [h7, h4]; simp [tk, stOf, onS, hk, hs, cmpS]
          exact ⟨fun e' h => by rw [hy] at h; cases h; exact hD, fun s h => by rw [hy] at h; cases h⟩
        | ok z =>
          obtain ⟨u, s3⟩ := z
          rw [bindR_ok (a := u) (s' := s3) hs] at hR
          simp only at hcv
          rw [← hcv, ← hnn'] at hR
          by_cases hcn : c = nn
          · rw [if_pos hcn] at hR
            rw [hR] at hD
            simp only at hD
            have hy4 : y4 = .ok s3 := by rw [h4]; simp [tk, stOf, onS, hk, hs, cmpS, hcn]
            rw [hy4] at h7
            cases he : endS t s3 with
            | error e =>
              rw [bindR_error he] at hD
              have hy : y7 = .error e := by rw [h7]; simp [stOf, onS, he]
              exact ⟨fun e' h => by rw [hy] at h; cases h; exact hD, fun s h => by rw [hy] at h; cases h⟩
            | ok z =>
              obtain ⟨u', s4⟩ := z
              rw [bindR_ok (a := u') (s' := s4) he] at hD
              have hy : y7 = .ok s4 := by rw [h7]; simp [stOf, onS, he]
              refine ⟨fun e' h => (by rw [hy] at h; cases h), fun s h => ?_⟩
              rw [hy] at h
              cases h
              exact ⟨p, s0, ds, s1, rfl, hb, hD⟩
          · rw [if_neg hcn] at hR
            rw [hR] at hD
            simp only at hD
            have hy : y7 = .error (s3.pos, 21) := by rw [h7, h4]; simp [tk, stOf, onS, hk, hs, cmpS, hcn]
            exact ⟨fun e' h => by rw [hy] at h; cases h; exact hD, fun s h => by rw [hy] at h; cases h⟩
end
end Go.Proofs.Ytpjddhihokgffaa
