/- Contracts of the document's own reader: fixed. -/
import Derived.Test.YtpjddhihokgffaaRq3
namespace Go.Proofs.Ytpjddhihokgffaa
open Go.RowKit Go.Proofs.Bits
set_option linter.unusedVariables false
set_option maxRecDepth 1000000

/-- The reader's state behind the body. -/
def QE (t : List UInt8) (x : Except Flt RS) (g : Nat) (w : World) : Prop := match x with
  | .ok s => s.pos ≤ t.length ∧ ∃ r b, Qc g ⟨t.toArray⟩ s.pos r b 0 w
  | .error f => Qe t f g w
section
variable {t : List UInt8} {x : Except Flt RS} {g q : Nat} {w w0 w' : World} {f : Fr}
theorem QS.late (h : QS t x g w) : QE t x g w := by
  cases x with
  | ok s => exact ⟨h.2.1, _, _, h.1⟩
  | error f => exact h
def lvOf (er : Int) : UInt8 := if er = 22 then 49 else 48
set_option maxHeartbeats 2000000 in
theorem rdfixed_any (er : Int) (her : er = 22 ∨ er = 23) (ht : t.length ≤ 65536) (hall : t.all isBit = true) (h : QE t x g w) :
    Calls Try.prog 50 #[.pointer (some ⟨g, 0, none⟩), .int .i64 er] w fun e w' => e = .returned (.tuple #[]) ∧ QE t (stOf (onS x (fixS t (lvOf er) er))) g w' ∧ w.grownBy w' (some g) := by
  cases x with
  | error f =>
    have HQ : Hid (Qe t f g w) := h
    obtain ⟨hf, r, b, h⟩ := h
    obtain ⟨c0, c1, c2, c3, c4, hfz⟩ := h.cells
    have hne : (f.2 != 0) = true := by simp [hf]
    clear c0 c1 c2 c3 h hf hfz
    go_enter Try.func50, Try.ntmps50
    go_wp2
    refine bodyPost_ret (results_none rfl _ _ _) rfl ?_
    exact ⟨rfl, HQ.out, World.grownBy.refl w _⟩
  | ok s =>
    obtain ⟨hp, r, b, h⟩ := h
    rw [show onS (.ok s) (fixS t (lvOf er) er) = fixS t (lvOf er) er s from rfl]
    obtain ⟨T, hT0⟩ : ∃ T : ByteArray, T = ⟨t.toArray⟩ := ⟨_, rfl⟩
    have hgt : ∀ i (h1 : i < T.size) (h2 : i < t.length), T[i]'h1 = t[i]'h2 := by subst hT0; intros; rfl
    have hsz : T.size = t.length := by subst hT0; simp [ByteArray.size]
    rw [← hT0] at h
    have HQe : Hid (∀ (f : Flt) W, f.2 ≠ 0 → (∃ r b, Qc g T f.1 r b f.2 W) → Qe t f g W) := by subst hT0; exact fun f W a b => ⟨a, b⟩
    have HQs : Hid (∀ (s' : RS) W, s'.pos ≤ t.length → Qc g T s'.pos r b 0 W → QE t (.ok s') g W) := by subst hT0; exact fun f W a b => ⟨a, _, _, b⟩
    clear hT0
    obtain ⟨c0, c1, c2, c3, c4, hfz⟩ := h.cells
    have f4 := hfz 4
    have f1 := hfz 1
    by_cases hlt : s.pos < t.length
    · have hget : t[s.pos]? = some t[s.pos] := List.getElem?_eq_getElem hlt
      have hpT : s.pos < T.size := by omega
      have hp1 : (s.pos : Int) < (T.size : Int) := by omega
      have hp0 : (0 : Int) ≤ (s.pos : Int) := by omega
      have hge : ¬ (T.size : Int) ≤ (s.pos : Int) := by omega
      have hgd : decide ((T.size : Int) ≤ (s.pos : Int)) = false := by simp; omega
      have hT5 : T.size ≤ 65536 := by omega
      have hb : (T[s.pos]'hpT).toNat = 48 ∨ (T[s.pos]'hpT).toNat = 49 := by
        rw [hgt _ _ hlt]
        rw [List.all_eq_true] at hall
        exact isBit_cases (hall _ (List.mem_of_getElem? hget))
      have hbt : T[s.pos]'hpT = t[s.pos] := hgt _ _ hlt
      have HF : fixS t (lvOf er) er s = if t[s.pos] = lvOf er then .ok ((), { s with pos := s.pos + 1 }) else .error (s.pos, er) := by
        unfold fixS; rw [hget]
      rw [← hbt] at HF
      have HE : Hid (∀ n, Qe t (s.pos, er) g ((w.drewN n).setCell ⟨g, 4, none⟩ (.int .i64 er))) := fun n => HQe.out _ _ (by simp; omega) ⟨_, _, (h.drawn n).y' er⟩
      have HO : Hid (∀ n, QE t (.ok { s with pos := s.pos + 1 }) g ((w.drewN n).setCell ⟨g, 1, none⟩ (.int .i64 ((s.pos : Int) + 1)))) := fun n => HQs.out { s with pos := s.pos + 1 } _ (by simp only; omega) ((h.drawn n).p' (s.pos + 1))
      clear HQe HQs hgt hsz hget hbt h hfz hall
      generalize hB : T[s.pos]'hpT = B at HF hb
      rcases her with rfl | rfl <;> rcases hb with hb | hb
      · have HF' : Hid (fixS t (lvOf 22) 22 s = .error (s.pos, 22)) := by
          show _ = _
          rw [HF, if_neg]
          intro e; rw [e] at hb; simp [lvOf] at hb
        clear HF
        go_enter Try.func50, Try.ntmps50
        go_wp2_with fail
        go_quiet (fail)
        go_wp2_with fail
        go_quiet (fail)
        go_wp2
        go_end0
        exact ⟨rfl, by rw [HF'.out]; exact HE.out _, gr_set (gr_drawn (World.grownBy.refl w _) _) _ _⟩
      · have HF' : Hid (fixS t (lvOf 22) 22 s = .ok ((), { s with pos := s.pos + 1 })) := by
          show _ = _
          rw [HF, if_pos]
          exact UInt8.toNat_inj.1 (by rw [hb]; rfl)
        clear HF
        go_enter Try.func50, Try.ntmps50
        go_wp2_with fail
        go_quiet (fail)
        go_wp2_with fail
        go_quiet (fail)
        go_wp2
        go_end0
        exact ⟨rfl, by rw [HF'.out]; exact HO.out _, gr_set (gr_drawn (World.grownBy.refl w _) _) _ _⟩
      · have HF' : Hid (fixS t (lvOf 23) 23 s = .ok ((), { s with pos := s.pos + 1 })) := by
          show _ = _
          rw [HF, if_pos]
          exact UInt8.toNat_inj.1 (by rw [hb]; rfl)
        clear HF
        go_enter Try.func50, Try.ntmps50
        go_wp2_with fail
        go_quiet (fail)
        go_wp2_with fail
        go_quiet (fail)
        go_wp2
        go_end0
        exact ⟨rfl, by rw [HF'.out]; exact HO.out _, gr_set (gr_drawn (World.grownBy.refl w _) _) _ _⟩
      · have HF' : Hid (fixS t (lvOf 23) 23 s = .error (s.pos, 23)) := by
          show _ = _
          rw [HF, if_neg]
          intro e; rw [e] at hb; simp [lvOf] at hb
        clear HF
        go_enter Try.func50, Try.ntmps50
        go_wp2_with fail
        go_quiet (fail)
        go_wp2_with fail
        go_quiet (fail)
        go_wp2
        go_end0
        exact ⟨rfl, by rw [HF'.out]; exact HE.out _, gr_set (gr_drawn (World.grownBy.refl w _) _) _ _⟩
    · have HF : Hid (fixS t (lvOf er) er s = .error (s.pos, 3)) := by
        show _ = _
        unfold fixS; rw [List.getElem?_eq_none (by omega)]
      have hge : (T.size : Int) ≤ (s.pos : Int) := by omega
      have HE : Hid (∀ n, Qe t (s.pos, 3) g ((w.drewN n).setCell ⟨g, 4, none⟩ (.int .i64 3))) := fun n => HQe.out _ _ (by simp) ⟨_, _, (h.drawn n).y' 3⟩
      clear HQe HQs hgt hsz h hfz hall
      go_enter Try.func50, Try.ntmps50
      go_wp2_with fail
      go_quiet (fail)
      go_wp2
      go_end0
      exact ⟨rfl, by rw [HF.out]; exact HE.out _, gr_set (gr_drawn (World.grownBy.refl w _) _) _ _⟩
end
end Go.Proofs.Ytpjddhihokgffaa
