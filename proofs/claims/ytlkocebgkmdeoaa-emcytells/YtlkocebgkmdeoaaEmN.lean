/- What is told. -/
import Derived.Test.YtlkocebgkmdeoaaEmK
namespace Go.Proofs.Ytlkocebgkmdeoaa
open Go.RowKit
set_option linter.unusedVariables false
set_option maxRecDepth 1000000
set_option linter.unusedSimpArgs false
def z8 : Array Value := #[.int .u8 0, .int .u8 0, .int .u8 0, .int .u8 0, .int .u8 0, .int .u8 0, .int .u8 0, .int .u8 0]
theorem Tr.ldF {w : World} {b o : Nat} {a : Tr} {ops : Array Oper} {rest : List Oper} {p : Oper} {f : Act} {Q : Exit → Act → World → Prop} (h : w.rangeAt b o a.fs) (hgd : p.guard = none) (x : Operand) (ho : p.op = .load 42 x) (hx : f.eval x = .pointer (some ⟨b, o, none⟩))
    (hh : wpList Try.prog ops Q rest (f.put p.dst (.agg a.far)) w) : wpList Try.prog ops Q (p :: rest) f w :=
  wpList_load_mid hgd 42 x ho b o hx a.fs _ h Try.underlying42 rfl size8F hh
theorem frame_results {Q : Nat} {A : Array Value} {b : Bool} {w : World} (h : Bc 42 Q A w) (hA : A.size = 8) (tmps : Array Value) (h2 : tmps[2]?.getD undef = .pointer (some ⟨Q, 0, none⟩)) (h3 : tmps[3]?.getD undef = .bool b) :
    (results Try.f15 tmps).run Try.prog w = .ok (.tuple #[.agg A, .bool b]) w := by
  have l0 := h.ld8 hA
  simp [Go.results, Try.results15, h2, h3, asAddr, l0]
section
variable {g : Nat} {P : Nat → Prop} {s : Te} {vn vp vw v : Value} {w x y : World}
set_option maxHeartbeats 600000 in
theorem frame_no (h : Ptv g P s vn vp vw w) (hm : s.may = false) : Calls Try.prog 15 #[.pointer (some ⟨g, 0, none⟩)] w fun e w' => e = .returned (.tuple #[.agg z8, .bool false]) ∧ Below w.heap.size w w' := by
  obtain ⟨p, hp⟩ : ∃ p, w.heap.size = p := ⟨_, rfl⟩
  obtain ⟨W, hW⟩ : ∃ x', w.alloc (.cells z8 42) = x' := ⟨_, rfl⟩
  have B : Bc 42 p z8 W := by rw [← hW, ← hp]; exact heap_alloc_new w _
  have hb : Below w.heap.size w W := by rw [← hW]; exact (Below.refl _ _).alloc (Nat.le_refl _) _
  have hM := mayT_any (h.below hb)
  rw [hm] at hM
  have HB := hidOf2 (below_row hb (q := p) (by omega) z8)
  have hone : (z8.all fun v => v.oneCell') = true := by simp [z8, Value.oneCell']
  clear h hb
  go_enter Try.func15, Try.ntmps15
  go_upto_region 1 with fail
  change Code.wp Try.prog _ _ _ (w.alloc (.cells z8 42))
  rw [hW]
  clear hW
  go_wp2_with (first | (go_at_call 31; refine hM.mono ?_; rintro e w' ⟨rfl, hw⟩; rw [hw]) | (refine B.st8 rfl (B := z8) rfl hone rfl _ _ rfl rfl rfl ?_))
  exact bodyPost_ret (frame_results (B.row z8) rfl _ rfl rfl) rfl ⟨rfl, HB.out⟩
set_option maxHeartbeats 1000000 in
theorem frame_yes (h : Ptv g P s vn vp vw w) (hP : ∀ k, w.heap.size ≤ k → P k) (hm : s.may = true) : ∃ f r, s.waits = f :: r ∧ Calls Try.prog 15 #[.pointer (some ⟨g, 0, none⟩)] w fun e w' => e = .returned (.tuple #[.agg f.far, .bool true]) ∧ Pt g P s.out w' ∧ Kq P w w' := by
  have hw0 : 0 < s.waits.length := by
    unfold Te.may at hm
    simp at hm
    cases hq : s.waits with
    | nil => rw [hq] at hm; simp at hm
    | cons _ _ => simp
  obtain ⟨f, r, hfr⟩ : ∃ f r, s.waits = f :: r := by
    cases hq : s.waits with
    | nil => rw [hq] at hw0; simp at hw0
    | cons f r => exact ⟨f, r, rfl⟩
  refine ⟨f, r, hfr, ?_⟩
  obtain ⟨p, hp⟩ : ∃ p, w.heap.size = p := ⟨_, rfl⟩
  obtain ⟨W, hW⟩ : ∃ x', w.alloc (.cells z8 42) = x' := ⟨_, rfl⟩
  have B : Bc 42 p z8 W := by rw [← hW, ← hp]; exact heap_alloc_new w _
  have hb : Below w.heap.size w W := by rw [← hW]; exact (Below.refl _ _).alloc (Nat.le_refl _) _
  have hM := mayT_any (h.below hb)
  rw [hm] at hM
  have hsW : W.heap.size = p + 1 := by rw [← hW, ← hp]; simp
  obtain ⟨X, hX⟩ : ∃ x', W.alloc (.cells f.far 42) = x' := ⟨_, rfl⟩
  have BX : Bc 42 (p + 1) f.far X := by rw [← hX, ← hsW]; exact heap_alloc_new W _
  have bX : Below W.heap.size W X := by rw [← hX]; exact (Below.refl _ _).alloc (Nat.le_refl _) _
  have BpX : Bc 42 p z8 X := Bc.below B bX
  have hXw : Below w.heap.size w X := hb.trans (bX.mono (by omega))
  obtain ⟨b0, cap, cur, hvv, _, hcur, hcap, _, _, htk⟩ := own_row h.rw hw0
  subst hvv
  have hbp : b0 < p := by rw [← hp]; exact (Array.getElem?_eq_some_iff.1 hcur).1
  have hR : W.rangeAt b0 0 f.fs := by
    intro j u hj
    have hj8 : j < 8 := by have := (List.getElem?_eq_some_iff.1 hj).1; exact this
    rw [Nat.zero_add, Lib.cell_of_heap ((hb.block b0 (by omega)).trans hcur)]
    have e : cur.toList[j]? = (flatW DF s.waits)[j]? := by rw [← htk, List.getElem?_take, if_pos (by omega)]
    rw [Array.getElem?_toList, hfr] at e
    rw [e]
    show (f.fs ++ flatW DF r)[j]? = _
    rw [List.getElem?_append_left (by exact hj8)]
    exact hj
  obtain ⟨P', hP'⟩ : ∃ P' : Nat → Prop, P' = fun k => P k ∧ k ≠ p ∧ k ≠ p + 1 := ⟨_, rfl⟩
  have hwide : Ptv g P' s vn vp (.slice (some ⟨b0, 0, none⟩) s.waits.length cap) w := h.wide (fun k hk hPk => by rw [hP']; exact ⟨hPk, by omega, by omega⟩)
  have hX2 : X.heap.size = p + 2 := by rw [← hX]; simp [hsW]
  have hPX : ∀ k, X.heap.size ≤ k → P' k := fun k hk => by rw [hP']; exact ⟨hP k (by omega), by omega, by omega⟩
  have np : ¬ P' p := by rw [hP']; simp
  have np1 : ¬ P' (p + 1) := by rw [hP']; simp
  have hXt := hwide.below hXw
  have c4 := (hwide.below hb).cells.2.2.2.2.1
  have c4X := hXt.cells.2.2.2.2.1
  have hD0 : Calls Try.prog 32 #[.slice (some ⟨b0, 0, none⟩) s.waits.length cap, .int .i64 0, .int .i64 1] X fun e w' => ∃ v', e = .returned v' ∧ v'.ownBlock = (Value.slice (some ⟨b0, 0, none⟩) s.waits.length cap).ownBlock ∧ w'.ownsRow 0 42 8 v' (s.waits.eraseIdx 0).length (flatW DF (s.waits.eraseIdx 0)) ∧ X.grownBy w' (Value.slice (some ⟨b0, 0, none⟩) s.waits.length cap).ownBlock := delF_any (i := 0) hXt.rw hw0 (by have := h.ok.h5; omega)
  have HD : Hid (Calls Try.prog 32 #[.slice (some ⟨b0, 0, none⟩) s.waits.length cap, .int .i64 0, .int .i64 1] X fun e y => ∃ a9 c9 z, e = .returned (.slice a9 (s.waits.eraseIdx 0).length c9) ∧ y.cell? ⟨g, 4, none⟩ = some (.slice (some ⟨b0, 0, none⟩) s.waits.length cap) ∧ y.frozen? ⟨g, 4, none⟩ = false ∧ y.setCell ⟨g, 4, none⟩ (.slice a9 (s.waits.eraseIdx 0).length c9) = z ∧ z.cell? ⟨g, 1, none⟩ = some (.int .u64 s.inh) ∧ z.cell? ⟨g, 5, none⟩ = some (.int .u64 s.quiet) ∧ z.frozen? ⟨g, 5, none⟩ = false ∧ Bc 42 p z8 (z.setCell ⟨g, 5, none⟩ (.int .u64 s.inh)) ∧ Bc 42 (p + 1) f.far (z.setCell ⟨g, 5, none⟩ (.int .u64 s.inh)) ∧ Pt g P s.out ((z.setCell ⟨g, 5, none⟩ (.int .u64 s.inh)).setRow p f.far) ∧ Kq P w ((z.setCell ⟨g, 5, none⟩ (.int .u64 s.inh)).setRow p f.far)) := by
    refine hD0.mono ?_
    rintro e y ⟨v', rfl, h1, h2, h3⟩
    obtain ⟨a9, c9, rfl⟩ := own_shape5 h2
    have hle : (s.waits.eraseIdx 0).length ≤ 16 := by have := h.ok.h5; rw [List.length_eraseIdx]; split <;> omega
    obtain ⟨z1, z2, z3, z4⟩ := hXt.grownW2 (s.waits.eraseIdx 0) h2 h3 (fun k e => .inl (h1 ▸ e)) hPX hle
    refine ⟨a9, c9, _, rfl, z3, z4, rfl, z1.cells.2.1, z1.cells.2.2.2.2.2.1, z1.cells.2.2.2.2.2.2 5, ?_⟩
    have q1 := z1.setQuiet s.inh (Nat.le_refl _)
    have k1 : Kq P' X ((y.setCell ⟨g, 4, none⟩ (.slice a9 (s.waits.eraseIdx 0).length c9)).setCell ⟨g, 5, none⟩ (.int .u64 s.inh)) := z2.setCell ⟨g, 5, none⟩ z1.pg _
    generalize (y.setCell ⟨g, 4, none⟩ (.slice a9 (s.waits.eraseIdx 0).length c9)).setCell ⟨g, 5, none⟩ (.int .u64 s.inh) = Z at *
    have hZs := k1.size
    refine ⟨Bc.kq BpX k1 np, Bc.kq BX k1 np1, ?_, ?_⟩
    · have q2 := q1.kq (Q := fun k => k = p) ((Kq.refl (fun k => k = p) Z).row p rfl f.far) (fun k hk _ e => np (e ▸ hk))
      have e9 : ({ s with waits := s.waits.eraseIdx 0, quiet := s.inh } : Te) = s.out := by unfold Te.out; rw [List.eraseIdx_zero]
      have q3 := q2.wide (Q := P) (fun k _ hk => by rw [hP'] at hk; exact hk.1)
      rw [← e9]
      exact ⟨_, _, _, q3⟩
    · exact ((Kq.of_below hXw).trans (k1.mono (fun k hk => by rw [hP'] at hk; exact hk.1))).row p (hP p (by omega)) f.far
  have hfs : f.far.size = 8 := rfl
  clear hD0 hwide hXt h hPX np np1 hP' BX bX BpX hXw hcur htk hb hm hX2 B
  generalize (s.waits.eraseIdx 0).length = LE at *
  have hn0 : (0 : Int) < (s.waits.length : Int) := by omega
  generalize s.waits.length = n at *
  go_enter Try.func15, Try.ntmps15
  go_upto_region 1 with fail
  change Code.wp Try.prog _ _ _ (w.alloc (.cells z8 42))
  rw [hW]
  go_upto_region 4 with (first | (go_at_call 31; refine hM.mono ?_; rintro e w' ⟨rfl, hw⟩; rw [hw]) | (refine Tr.ldF hR rfl _ rfl rfl ?_; unfold Tr.far))
  change Code.wp Try.prog _ _ _ (W.alloc (.cells f.far 42))
  rw [hX]
  go_upto_region 6 with (go_at_call 32; refine HD.out.mono ?_; rintro e y ⟨a9, c9, z, rfl, y1, y2, hz, z1, z2, z3, B1, B2, F1, F2⟩)
  obtain ⟨Z, hZ⟩ : ∃ u, z.setCell ⟨g, 5, none⟩ (.int .u64 s.inh) = u := ⟨_, rfl⟩
  rw [hZ] at B1 B2 F1 F2
  first | rw [hZ] | (rw [hz, hZ])
  have hl := B2.ld8 hfs
  have hone := f.far_one
  have HF := hidOf2 (And.intro F1 F2)
  clear F1 F2 hz z1 z2 z3 y1 y2 hZ
  go_wp2_with (first | (refine ldG hl rfl _ rfl rfl ?_) | (refine B1.st8 rfl (B := f.far) hfs hone rfl _ _ rfl rfl rfl ?_))
  exact bodyPost_ret (frame_results (B1.row f.far) hfs _ rfl rfl) rfl ⟨rfl, HF.out.1, HF.out.2⟩
end
end Go.Proofs.Ytlkocebgkmdeoaa
