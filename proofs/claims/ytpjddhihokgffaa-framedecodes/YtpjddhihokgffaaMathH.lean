/- What the document's reader makes of what is ahead of the bytes. Plain facts. -/
import Derived.Test.YtpjddhihokgffaaRq2
namespace Go.Proofs.Ytpjddhihokgffaa
open Go.RowKit Go.Proofs.Bits
set_option linter.unusedVariables false
set_option maxRecDepth 1000000

def tk (t : List UInt8) (x : Except Flt RS) (n : Nat) : Except Flt RS := stOf (onS x (takeL t n))
def headL (t : List UInt8) : RM ((Nat × Bool × Bool) × Nat) := bindR (fieldL t) fun h => bindR (takeL t 4) fun l => retR (h, val l)
section
variable {t : List UInt8} {s s' : RS} {x : Except Flt RS}
theorem rest_head (t : List UInt8) : restL t = bindR (headL t) fun p => bindR (bytesLz t (nOf p.1.2.2 p.2)) fun ds => sumLz t ⟨p.1.1, p.1.2.1, p.1.2.2, p.2, ds⟩ := by
  unfold restL headL
  simp only [bindR_assoc, ret_bindR]
theorem bitL_mem {b : UInt8} (h : bitL t s = .ok (b, s')) : b ∈ t := by
  obtain ⟨u, s1, h1, h2⟩ := bindR_inv h
  unfold rawS at h2
  split at h2
  · cases h2
  · rename_i hb
    simp only [Except.ok.injEq, Prod.mk.injEq] at h2
    rw [← h2.1]
    exact List.mem_of_getElem? hb
theorem take1_error {f : Flt} (h : bitL t s = .error f) : takeL t 1 s = .error f := by
  rw [takeL, takeL, ret_bindR, bindR_error h]
theorem take1_ok {b : UInt8} (h : bitL t s = .ok (b, s')) : takeL t 1 s = .ok ([b], s') := by
  rw [takeL, takeL, ret_bindR, bindR_ok h]; rfl
theorem val_one (hall : t.all isBit = true) {b : UInt8} (h : b ∈ t) : decide (b = 49) = decide (val [b] = 1) := by
  rw [List.all_eq_true] at hall
  have hb := isBit_cases (hall b h)
  have e : val [b] = b.toNat - 48 := by simp [val, valStep]
  rw [e]
  by_cases hc : b = 49
  · subst hc; rfl
  · have : b.toNat ≠ 49 := fun e => hc (UInt8.toNat_inj.1 e)
    simp [hc]; omega

theorem head_base (hall : t.all isBit = true) (v1 v2 v3 v5 v8 : Nat) (V1 : ∀ q, onS x (takeL t 11) = .ok q → v1 = val q.1) (V2 : ∀ q, onS (tk t x 11) (takeL t 1) = .ok q → v2 = val q.1)
    (V3 : ∀ q, onS (tk t (tk t x 11) 1) (takeL t 1) = .ok q → v3 = val q.1) (h3 : v3 ≠ 1)
    (V8 : ∀ q, onS (tk t (tk t (tk t (tk t x 11) 1) 1) 1) (takeL t 4) = .ok q → v8 = val q.1) :
    stOf (onS x (headL t)) = tk t (tk t (tk t (tk t (tk t x 11) 1) 1) 1) 4 ∧ ∀ p s', onS x (headL t) = .ok (p, s') → p = ((v1, false, decide (v2 = 1)), v8) := by
  cases x with
  | error f => exact ⟨rfl, fun p s' h => by cases h⟩
  | ok s =>
    cases h1 : takeL t 11 s with
    | error f =>
      have hH : headL t s = .error f := by simp [headL, fieldL, bindR, h1]
      simp [tk, onS, stOf, h1, hH]
    | ok p1 =>
      obtain ⟨a, s1⟩ := p1
      cases h2 : bitL t s1 with
      | error f =>
        have e2 := take1_error h2
        have hH : headL t s = .error f := by simp [headL, fieldL, bindR, h1, h2]
        simp [tk, onS, stOf, h1, e2, hH]
      | ok p2 =>
        obtain ⟨r, s2⟩ := p2
        have e2 := take1_ok h2
        cases h3' : bitL t s2 with
        | error f =>
          have e3 := take1_error h3'
          have hH : headL t s = .error f := by simp [headL, fieldL, bindR, h1, h2, h3']
          simp [tk, onS, stOf, h1, e2, e3, hH]
        | ok p3 =>
          obtain ⟨c, s3⟩ := p3
          have e3 := take1_ok h3'
          have k3 := V3 ([c], s3) (by simp [tk, onS, stOf, h1, e2, e3])
          have hc : c ≠ 49 := by
            intro e
            have := val_one hall (bitL_mem h3')
            rw [← k3] at this
            simp [e, h3] at this
          cases h4 : bitL t s3 with
          | error f =>
            have e4 := take1_error h4
            have hH : headL t s = .error f := by simp [headL, fieldL, bindR, h1, h2, h3', hc, h4]
            simp [tk, onS, stOf, h1, e2, e3, e4, hH]
          | ok p4 =>
            obtain ⟨d, s4⟩ := p4
            have e4 := take1_ok h4
            cases h5 : takeL t 4 s4 with
            | error f =>
              have hH : headL t s = .error f := by simp [headL, fieldL, bindR, retR, h1, h2, h3', hc, h4, h5]
              simp [tk, onS, stOf, h1, e2, e3, e4, h5, hH]
            | ok p5 =>
              obtain ⟨l, s5⟩ := p5
              have hH : headL t s = .ok (((val a, false, decide (r = 49)), val l), s5) := by simp [headL, fieldL, bindR, retR, h1, h2, h3', hc, h4, h5]
              have k1 := V1 (a, s1) (by simp [onS, h1])
              have k2 := V2 ([r], s2) (by simp [tk, onS, stOf, h1, e2])
              have k8 := V8 (l, s5) (by simp [tk, onS, stOf, h1, e2, e3, e4, h5])
              refine ⟨by simp [tk, onS, stOf, h1, e2, e3, e4, h5, hH], ?_⟩
              intro p s' h
              rw [show onS (.ok s) (headL t) = headL t s from rfl, hH] at h
              simp only [Except.ok.injEq, Prod.mk.injEq] at h
              rw [← h.1, val_one hall (bitL_mem h2), k1, k2, k8]

theorem head_ext (hall : t.all isBit = true) (v1 v3 v4 v5 v8 : Nat) (V1 : ∀ q, onS x (takeL t 11) = .ok q → v1 = val q.1)
    (V3 : ∀ q, onS (tk t (tk t x 11) 1) (takeL t 1) = .ok q → v3 = val q.1) (h3 : v3 = 1)
    (V4 : ∀ q, onS (tk t (tk t (tk t x 11) 1) 1) (takeL t 18) = .ok q → v4 = val q.1)
    (V5 : ∀ q, onS (tk t (tk t (tk t (tk t x 11) 1) 1) 18) (takeL t 1) = .ok q → v5 = val q.1)
    (V8 : ∀ q, onS (tk t (tk t (tk t (tk t (tk t (tk t (tk t x 11) 1) 1) 18) 1) 1) 1) (takeL t 4) = .ok q → v8 = val q.1) :
    stOf (onS x (headL t)) = tk t (tk t (tk t (tk t (tk t (tk t (tk t (tk t x 11) 1) 1) 18) 1) 1) 1) 4 ∧ ∀ p s', onS x (headL t) = .ok (p, s') → p = ((v1 * 262144 + v4, true, decide (v5 = 1)), v8) := by
  cases x with
  | error f => exact ⟨rfl, fun p s' h => by cases h⟩
  | ok s =>
    cases h1 : takeL t 11 s with
    | error f =>
      have hH : headL t s = .error f := by simp [headL, fieldL, bindR, h1]
      simp [tk, onS, stOf, h1, hH]
    | ok p1 =>
      obtain ⟨a, s1⟩ := p1
      cases h2 : bitL t s1 with
      | error f =>
        have e2 := take1_error h2
        have hH : headL t s = .error f := by simp [headL, fieldL, bindR, h1, h2]
        simp [tk, onS, stOf, h1, e2, hH]
      | ok p2 =>
        obtain ⟨r, s2⟩ := p2
        have e2 := take1_ok h2
        cases h3' : bitL t s2 with
        | error f =>
          have e3 := take1_error h3'
          have hH : headL t s = .error f := by simp [headL, fieldL, bindR, h1, h2, h3']
          simp [tk, onS, stOf, h1, e2, e3, hH]
        | ok p3 =>
          obtain ⟨c, s3⟩ := p3
          have e3 := take1_ok h3'
          have k3 := V3 ([c], s3) (by simp [tk, onS, stOf, h1, e2, e3])
          have hc : c = 49 := by
            have := val_one hall (bitL_mem h3')
            rw [← k3] at this
            simpa [h3] using this
          subst hc
          cases h4 : takeL t 18 s3 with
          | error f =>
            have hH : headL t s = .error f := by simp [headL, fieldL, bindR, h1, h2, h3', h4]
            simp [tk, onS, stOf, h1, e2, e3, h4, hH]
          | ok p4 =>
            obtain ⟨b, s4⟩ := p4
            cases h5 : bitL t s4 with
            | error f =>
              have e5 := take1_error h5
              have hH : headL t s = .error f := by simp [headL, fieldL, bindR, h1, h2, h3', h4, h5]
              simp [tk, onS, stOf, h1, e2, e3, h4, e5, hH]
            | ok p5 =>
              obtain ⟨r2, s5⟩ := p5
              have e5 := take1_ok h5
              cases h6 : bitL t s5 with
              | error f =>
                have e6 := take1_error h6
                have hH : headL t s = .error f := by simp [headL, fieldL, bindR, h1, h2, h3', h4, h5, h6]
                simp [tk, onS, stOf, h1, e2, e3, h4, e5, e6, hH]
              | ok p6 =>
                obtain ⟨d6, s6⟩ := p6
                have e6 := take1_ok h6
                cases h7 : bitL t s6 with
                | error f =>
                  have e7 := take1_error h7
                  have hH : headL t s = .error f := by simp [headL, fieldL, bindR, h1, h2, h3', h4, h5, h6, h7]
                  simp [tk, onS, stOf, h1, e2, e3, h4, e5, e6, e7, hH]
                | ok p7 =>
                  obtain ⟨d7, s7⟩ := p7
                  have e7 := take1_ok h7
                  cases h8 : takeL t 4 s7 with
                  | error f =>
                    have hH : headL t s = .error f := by simp [headL, fieldL, bindR, retR, h1, h2, h3', h4, h5, h6, h7, h8]
                    simp [tk, onS, stOf, h1, e2, e3, h4, e5, e6, e7, h8, hH]
                  | ok p8 =>
                    obtain ⟨l, s8⟩ := p8
                    have hH : headL t s = .ok (((val a * 262144 + val b, true, decide (r2 = 49)), val l), s8) := by simp [headL, fieldL, bindR, retR, h1, h2, h3', h4, h5, h6, h7, h8]
                    have k1 := V1 (a, s1) (by simp [onS, h1])
                    have k4 := V4 (b, s4) (by simp [tk, onS, stOf, h1, e2, e3, h4])
                    have k5 := V5 ([r2], s5) (by simp [tk, onS, stOf, h1, e2, e3, h4, e5])
                    have k8 := V8 (l, s8) (by simp [tk, onS, stOf, h1, e2, e3, h4, e5, e6, e7, h8])
                    refine ⟨by simp [tk, onS, stOf, h1, e2, e3, h4, e5, e6, e7, h8, hH], ?_⟩
                    intro p s' h
                    rw [show onS (.ok s) (headL t) = headL t s from rfl, hH] at h
                    simp only [Except.ok.injEq, Prod.mk.injEq] at h
                    rw [← h.1, val_one hall (bitL_mem h5), k1, k4, k5, k8]
end
end Go.Proofs.Ytpjddhihokgffaa
