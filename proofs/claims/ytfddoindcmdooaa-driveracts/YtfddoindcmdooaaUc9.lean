/- The document's Drop. -/
import Derived.Test.YtfddoindcmdooaaUc8
namespace Go.Proofs.Ytfddoindcmdooaa
open Go.RowKit Go.Proofs.Bits
set_option linter.unusedVariables false
set_option maxRecDepth 1000000
set_option linter.unusedSimpArgs false

theorem infoRmZ : (Try.prog.info? 90).map (fun i => (i.zero, i.size, i.bytes)) = some (some (.agg (rmC Ml.nul).toArray), 13, 32) := by kernel_rfl
theorem load_rms (x : World) (D k : Nat) (ao : Option Addr) (l c : Nat) (hc : x.cell? ⟨D, k, none⟩ = some (.slice ao l c)) : (loadVar 36 ⟨D, k, none⟩).run Try.prog x = .ok (.slice ao l c) x := by
  simp [go_sem, run_underlying Try.underlying36, hc]
theorem store_rms (x : World) (D k : Nat) (u : Value) (ao : Option Addr) (l c : Nat) (hc : x.cell? ⟨D, k, none⟩ = some u) (hf : x.frozen? ⟨D, k, none⟩ = false) : (storeVar 36 ⟨D, k, none⟩ (.slice ao l c)).run Try.prog x = .ok () (x.setCell ⟨D, k, none⟩ (.slice ao l c)) := by
  simp [go_sem, run_underlying Try.underlying36, hc, hf]
/-- The first k of a row. -/
theorem rm_take {w : World} {v : Value} {l : List Ml} (h : RT 90 13 rmC w v l) (k : Nat) (hk : k ≤ l.length) : ∃ v1, (∀ W, (Instr.sliceAt 36 v none (some (.int .i64 k)) none).run Try.prog W = .ok v1 W) ∧ ∀ x, Wide 13 rmC x v l → Wide 13 rmC x v1 (l.take k) := by
  obtain ⟨i0, hi, hz0, hz1, hz2⟩ := info_parts infoRmZ
  obtain ⟨ao, cap, rfl⟩ := h.wide.shape
  have hcap := h.cap _ _ _ rfl
  have a0 : (0 : Int) ≤ (k : Int) := by omega
  have a1 : (k : Int) ≤ (cap : Int) := by omega
  cases ao with
  | none =>
    obtain ⟨ao', cap', hv, h0, _⟩ := h.wide
    injection hv with e1 _ e3
    obtain ⟨rfl, rfl⟩ := h0 e1.symm
    subst e3
    have : k = 0 := by simpa using hk
    subst this
    refine ⟨.slice none 0 0, fun W => ?_, fun x hx => by simpa using hx⟩
    simp [Instr.sliceAt, run_underlying Try.underlying36, go_sem, sizeOf, typeInfo, hi, hz1, Addr.add]
  | some a =>
    refine ⟨.slice (some a) k cap, fun W => ?_, fun x hx => ?_⟩
    · simp [Instr.sliceAt, run_underlying Try.underlying36, go_sem, sizeOf, typeInfo, hi, hz1, Addr.add, a0, a1]
    · obtain ⟨ao', cap', hv, h0, hc⟩ := hx
      injection hv with e1 _ e3
      subst e1 e3
      refine ⟨_, _, by rw [List.length_take, Nat.min_eq_left hk], (fun h => by cases h), fun j hj => ?_⟩
      rw [List.length_take] at hj
      obtain ⟨b, off, e, hlt, hr⟩ := hc j (by omega)
      refine ⟨b, off, e, hlt, ?_⟩
      rw [List.getElem_take]; exact hr
/-- What is behind the first k of a row. -/
theorem rm_drop {w : World} {v : Value} {l : List Ml} (h : RT 90 13 rmC w v l) (k : Nat) (hk : k ≤ l.length) : ∃ v1, (∀ W, (Instr.sliceAt 36 v (some (.int .i64 k)) none none).run Try.prog W = .ok v1 W) ∧ ∀ x, Wide 13 rmC x v l → Wide 13 rmC x v1 (l.drop k) := by
  obtain ⟨i0, hi, hz0, hz1, hz2⟩ := info_parts infoRmZ
  obtain ⟨ao, cap, rfl⟩ := h.wide.shape
  have hcap := h.cap _ _ _ rfl
  have a0 : (0 : Int) ≤ (k : Int) := by omega
  have a1 : (k : Int) ≤ (l.length : Int) := by omega
  have a2 : (l.length : Int) ≤ (cap : Int) := by omega
  cases ao with
  | none =>
    obtain ⟨ao', cap', hv, h0, _⟩ := h.wide
    injection hv with e1 _ e3
    obtain ⟨rfl, rfl⟩ := h0 e1.symm
    subst e3
    have : k = 0 := by simpa using hk
    subst this
    refine ⟨.slice none 0 0, fun W => ?_, fun x hx => by simpa using hx⟩
    simp [Instr.sliceAt, run_underlying Try.underlying36, go_sem, sizeOf, typeInfo, hi, hz1, Addr.add]
  | some a =>
    refine ⟨.slice (some (if cap = k then a else if k * 13 = 0 then a else ⟨a.block, a.off + k * 13, none⟩)) (l.length - k) (cap - k), fun W => ?_, fun x hx => ?_⟩
    · simp [Instr.sliceAt, run_underlying Try.underlying36, go_sem, sizeOf, typeInfo, hi, hz1, Addr.add, a0, a1, a2]
      split <;> rfl
    · obtain ⟨ao', cap', hv, h0, hc⟩ := hx
      injection hv with e1 _ e3
      subst e1 e3
      refine ⟨_, _, by rw [List.length_drop], (fun h => by cases h), fun j hj => ?_⟩
      rw [List.length_drop] at hj
      obtain ⟨b, off, e, hlt, hr⟩ := hc (k + j) (by omega)
      injection e with e
      subst e
      rw [if_neg (by omega)]
      by_cases hk0 : k * 13 = 0
      · rw [if_pos hk0]
        refine ⟨b, off, rfl, hlt, ?_⟩
        have : k = 0 := by omega
        subst this
        simpa using hr
      · rw [if_neg hk0]
        refine ⟨b, off + k * 13, rfl, hlt, ?_⟩
        rw [List.getElem_drop, show off + k * 13 + j * 13 = off + (k + j) * 13 by omega]
        exact hr
/-- New mails laid into the document's driver. -/
theorem DcW.setO {E : Nat} {d : Dc} {vI vO' : Value} {w w1 : World} (h : DcW E d vI w) (hb : Below w.heap.size w w1) (cs : List Ml) (B : Nat) (hq : w1.ownsRow B 90 13 vO' cs.length (flatW DR cs)) (hr : (cs.length : Int) ≤ d.most) :
    DcP E { d with out := cs } vI w (w1.setCell ⟨E, 3, none⟩ vO') := by
  have h' := h.below hb
  obtain ⟨⟨vL, vO, h1, h2, h3⟩, h4, h5, h6, h7, h8, h9, h10⟩ := h'
  have hg1 : w1.grownBy (w1.setCell ⟨E, 3, none⟩ vO') (some E) := ⟨rfl, rfl, rfl, by simp [World.setCell], fun k hk hne => Below.heap_setCell w1 ⟨E, 3, none⟩ vO' k (fun e => hne (by rw [show k = E from e]))⟩
  have hI : RT 90 13 rmC w1 vO' cs := RT.own DR hq
  exact ⟨vI, ⟨⟨vL, vO', h1.set 3 _, h2.grown hg1 (h2.ne h1 (by decide)), hI.grown hg1 (hI.ne h1 (by decide))⟩, h4.grown hg1 (h4.ne h1 (by decide)), hr, h6, h7, h8, h9, h10⟩, grown_trans (grown_below hb _) hg1, fun b _ e => e⟩
theorem own_lower {w : World} {B B' : Nat} {e : TypeId} {c n : Nat} {v : Value} {xs : List Value} (h : w.ownsRow B e c v n xs) (hB : B' ≤ B) : w.ownsRow B' e c v n xs :=
  ⟨h.1, h.2.imp id (fun ⟨g, cap, cur, e1, e2, e3⟩ => ⟨g, cap, cur, e1, by omega, e3⟩)⟩
/-- Drop of the document: where it strikes first. -/
def dropAt (out : List Ml) (t : Int) (nx : Bool) (k : Nat) : Prop := (∃ h : k < out.length, nx = true ∨ out[k].tk = t) ∧ ∀ j (hj : j < out.length), j < k → nx = false ∧ out[j].tk ≠ t
set_option maxHeartbeats 8000000 in
theorem EDrop_any {E : Nat} {d : Dc} {vI : Value} {w : World} (h : DcW E d vI w) (t : Int) (nx : Bool) :
    Calls Try.prog 25 #[.pointer (some ⟨E, 0, none⟩), .int .i64 t, .bool nx] w fun e w' => (e = .returned (.bool true) ∧ ∃ k, dropAt d.out t nx k ∧ DcP E { d with out := d.out.take k ++ d.out.drop (k + 1) } vI w w') ∨ (e = .returned (.bool false) ∧ (∀ j (hj : j < d.out.length), nx = false ∧ d.out[j].tk ≠ t) ∧ DcP E d vI w w') := by
  have hh := h
  have hlt := h.lt
  have hb64 : d.out.length ≤ 64 := by have := h.b0; have := h.b1; omega
  obtain ⟨⟨vL, vO, h1, h2, h3⟩, _⟩ := h
  have HI : Hid (∀ x, Below w.heap.size w x → Er E (rA d.most d.room vL vO d.tk vI d.lo) x ∧ Wide 13 rmC x vO d.out) := fun x hx => ⟨(hx.block E hlt).trans h1, (h3.below hx).wide⟩
  have HTk : Hid (RT 90 13 rmC w vO d.out) := h3
  obtain ⟨ao, cap, rfl⟩ := h3.wide.shape
  obtain ⟨q, hq⟩ : ∃ q, w.heap.size = q := ⟨_, rfl⟩
  rw [hq] at HI
  clear h1 h2 h3
  go_enter Try.func25, Try.ntmps25
  go_wp2
  go_loopw [7] (fun iv x => ∃ k : Nat, k ≤ d.out.length ∧ iv = .int .i64 k ∧ (∀ j (hj : j < d.out.length), j < k → nx = false ∧ d.out[j].tk ≠ t) ∧ Below q w x) (fun iv _ => d.out.length - (intOf iv).toNat)
  case atStart => exact ⟨0, Nat.zero_le _, rfl, (fun j _ h => by omega), by rw [← hq]; exact Below.refl _ _⟩
  case round =>
    obtain ⟨k, hk, rfl, H1, BX⟩ := hrel
    obtain ⟨A3, W3⟩ := HI.out wr BX
    have c3 := A3.cell (k := 3) (v := .slice ao d.out.length cap) rfl
    by_cases hkl : k < d.out.length
    · obtain ⟨b, off, cap', hv, hb, hR⟩ := W3.at0 k hkl
      have hao : ao = some ⟨b, off, none⟩ := by injection hv
      subst hao
      have ck := rm_tk hR
      have HJ : Hid (nx = false ∧ d.out[k].tk ≠ t → ∀ j (hj : j < d.out.length), j < k + 1 → nx = false ∧ d.out[j].tk ≠ t) := by
        intro h2 j hj h1
        rcases Nat.lt_or_ge j k with h3 | h3
        · exact H1 j hj h3
        · have : j = k := by omega
          subst this; exact h2
      have HAt : Hid (nx = true ∨ d.out[k].tk = t → dropAt d.out t nx k) := fun h2 => ⟨⟨hkl, h2⟩, H1⟩
      generalize d.out[k].tk = z at *
      by_cases hs : nx = true ∨ z = t
      · have HA := HAt.out hs
        have HA' : Hid (dropAt d.out t nx k) := HA
        clear HJ HAt HA H1
        obtain ⟨v1, hs1, hw1⟩ := rm_take HTk.out k (by omega)
        obtain ⟨v2, hs2, hw2⟩ := rm_drop HTk.out (k + 1) (by omega)
        have HW1 : Hid _ := hw1
        have HW2 : Hid _ := hw2
        have hk1 : (((k + 1 : Nat) : Int)) = (k : Int) + 1 := by omega
        rw [hk1] at hs2
        clear hw1 hw2 hv hR
        have hreg : ∀ (a : Act) (W : World), True := fun _ _ => trivial
        rcases Bool.eq_false_or_eq_true nx with hn | hn
        · subst hn
          clear hs ck
          go_wp2_with fail
          refine wp_region_any (by kernel_rfl) ?_
          obtain ⟨w5, hw5⟩ : ∃ x : World, { wr with drawn := wr.drawn + 1 } = x := ⟨_, rfl⟩
          rw [hw5]
          have b5 : Below q w w5 := by rw [← hw5]; exact below_drawn BX 1
          have r0 := Below.refl w5.heap.size w5
          have s5 : q ≤ w5.heap.size := by have := b5.size; omega
          have HW : Hid (∀ x, Below w5.heap.size w5 x → Er E (rA d.most d.room vL (.slice (some ⟨b, off, none⟩) d.out.length cap) d.tk vI d.lo) x ∧ Wide 13 rmC x v1 (d.out.take k) ∧ Wide 13 rmC x v2 (d.out.drop (k + 1)) ∧ Below q w x) := fun x hx => by
            have hb : Below q w x := b5.trans (hx.mono s5)
            obtain ⟨a1, a2⟩ := HI.out x hb
            exact ⟨a1, HW1.out x a2, HW2.out x a2, hb⟩
          have hkb : k < 64 := by omega
          have hwr : IntKind.wrap .i64 ((k : Int) + 1) = (k : Int) + 1 := by simp [IntKind.wrap, IntKind.signed, IntKind.bits]; omega
          clear hw5 A3 W3 c3 HI
          refine wpAny_take (i := 0) (v := (.pointer (some ⟨E, 0, none⟩))) rfl (by kernel_rfl) (by kernel_rfl) (by kernel_rfl) (fun _ _ _ h => h) (.inl ⟨rfl, fun _ => rfl⟩) ?_
          simp only [List.getElem_toArray, List.getElem_cons_succ, List.getElem_cons_zero, Act.put, List.setIfInBounds_toArray, List.set_cons_succ, List.set_cons_zero]
          refine wpAny_take (i := 2) (v := (.pointer (some ⟨E, 0, none⟩))) rfl (by kernel_rfl) (by kernel_rfl) (by kernel_rfl) (fun _ _ _ h => h) (.inl ⟨rfl, fun _ => rfl⟩) ?_
          simp only [List.getElem_toArray, List.getElem_cons_succ, List.getElem_cons_zero, Act.put, List.setIfInBounds_toArray, List.set_cons_succ, List.set_cons_zero]
          refine wpAny_take (i := 3) (v := (.pointer (some ⟨E, 0, none⟩))) rfl (by kernel_rfl) (by kernel_rfl) (by kernel_rfl) (fun _ _ _ h => h) (.inl ⟨rfl, fun _ => by simp [execOp, go_sem, Act.eval]⟩) ?_
          simp only [List.getElem_toArray, List.getElem_cons_succ, List.getElem_cons_zero, Act.put, List.setIfInBounds_toArray, List.set_cons_succ, List.set_cons_zero]
          refine wpAny_take (i := 4) (v := (.pointer (some ⟨E, 3, none⟩))) rfl (by kernel_rfl) (by kernel_rfl) (by kernel_rfl) (fun _ _ _ h => h) (.inl ⟨rfl, fun _ => by simp [execOp, go_sem, Act.eval]⟩) ?_
          simp only [List.getElem_toArray, List.getElem_cons_succ, List.getElem_cons_zero, Act.put, List.setIfInBounds_toArray, List.set_cons_succ, List.set_cons_zero]
          refine wpAny_take (i := 6) (v := (.int .i64 k)) rfl (by kernel_rfl) (by kernel_rfl) (by kernel_rfl) (fun _ _ _ h => h) (.inl ⟨rfl, fun _ => rfl⟩) ?_
          simp only [List.getElem_toArray, List.getElem_cons_succ, List.getElem_cons_zero, Act.put, List.setIfInBounds_toArray, List.set_cons_succ, List.set_cons_zero]
          refine wpAny_take (i := 9) (v := (.pointer (some ⟨E, 0, none⟩))) rfl (by kernel_rfl) (by kernel_rfl) (by kernel_rfl) (fun _ _ _ h => h) (.inl ⟨rfl, fun _ => rfl⟩) ?_
          simp only [List.getElem_toArray, List.getElem_cons_succ, List.getElem_cons_zero, Act.put, List.setIfInBounds_toArray, List.set_cons_succ, List.set_cons_zero]
          refine wpAny_take (i := 10) (v := (.pointer (some ⟨E, 0, none⟩))) rfl (by kernel_rfl) (by kernel_rfl) (by kernel_rfl) (fun _ _ _ h => h) (.inl ⟨rfl, fun _ => by simp [execOp, go_sem, Act.eval]⟩) ?_
          simp only [List.getElem_toArray, List.getElem_cons_succ, List.getElem_cons_zero, Act.put, List.setIfInBounds_toArray, List.set_cons_succ, List.set_cons_zero]
          refine wpAny_take (i := 11) (v := (.pointer (some ⟨E, 3, none⟩))) rfl (by kernel_rfl) (by kernel_rfl) (by kernel_rfl) (fun _ _ _ h => h) (.inl ⟨rfl, fun _ => by simp [execOp, go_sem, Act.eval]⟩) ?_
          simp only [List.getElem_toArray, List.getElem_cons_succ, List.getElem_cons_zero, Act.put, List.setIfInBounds_toArray, List.set_cons_succ, List.set_cons_zero]
          refine wpAny_take (i := 13) (v := (.int .i64 k)) rfl (by kernel_rfl) (by kernel_rfl) (by kernel_rfl) (fun _ _ _ h => h) (.inl ⟨rfl, fun _ => rfl⟩) ?_
          simp only [List.getElem_toArray, List.getElem_cons_succ, List.getElem_cons_zero, Act.put, List.setIfInBounds_toArray, List.set_cons_succ, List.set_cons_zero]
          refine wpAny_take (i := 14) (v := (.int .i64 ((k : Int) + 1))) rfl (by kernel_rfl) (by kernel_rfl) (by kernel_rfl) (fun _ _ _ h => h) (.inl ⟨rfl, fun _ => by simp [execOp, go_sem, Act.eval, hwr]⟩) ?_
          simp only [List.getElem_toArray, List.getElem_cons_succ, List.getElem_cons_zero, Act.put, List.setIfInBounds_toArray, List.set_cons_succ, List.set_cons_zero]
          refine wpAny_all (rs := [1, 5, 12]) (by kernel_rfl) (by simp) ?_
          intro k hk
          simp only [List.mem_cons, List.mem_nil_iff, or_false] at hk
          rcases hk with rfl | rfl | rfl
          · refine wpOp_run rfl rfl (wp_bs0g Try.underlying36 infoRmZ rfl ?_)
            have bz := r0.alloc r0.size (.cells #[] 90)
            simp only [List.getElem_toArray, List.getElem_cons_succ, List.getElem_cons_zero, Act.put, List.setIfInBounds_toArray, List.set_cons_succ, List.set_cons_zero]
            refine wpAny_all (rs := [5, 12]) (by kernel_rfl) (by simp) ?_
            intro k hk
            simp only [List.mem_cons, List.mem_nil_iff, or_false] at hk
            rcases hk with rfl | rfl
            · refine wpOp_run rfl rfl (wp_load_cell 36 _ rfl E 3 rfl (.slice (some ⟨b, off, none⟩) d.out.length cap) (load_rms _ E 3 _ _ _ ((HW.out _ bz).1.cell rfl)) ?_)
              simp only [List.getElem_toArray, List.getElem_cons_succ, List.getElem_cons_zero, Act.put, List.setIfInBounds_toArray, List.set_cons_succ, List.set_cons_zero]
              refine wpAny_take (i := 7) (v := (v1)) rfl (by kernel_rfl) (by kernel_rfl) (by kernel_rfl) (fun _ _ _ h => h) (.inl ⟨rfl, fun _ => by simp [execOp, go_sem, Act.eval, hs1]⟩) ?_
              simp only [List.getElem_toArray, List.getElem_cons_succ, List.getElem_cons_zero, Act.put, List.setIfInBounds_toArray, List.set_cons_succ, List.set_cons_zero]
              refine wpAny_all (rs := [8, 12]) (by kernel_rfl) (by simp) ?_
              intro k hk
              simp only [List.mem_cons, List.mem_nil_iff, or_false] at hk
              rcases hk with rfl | rfl
              · refine wpOp_run rfl rfl (wp_append_wide DR _ _ 36 90 _ _ Try.underlying36 infoRmZ rfl rfl w5.heap.size (.slice (some ⟨w5.heap.size, 0, none⟩) 0 0) [] rfl (by exact own_empty_e w5 90 13) _ (d.out.take k) rfl (HW.out _ bz).2.1 (by unfold maxLen; simp; omega) (by simp; omega) (by rw [size_alloc]; omega) ?_)
                intro v6 w6 P6 G6
                have b6 : Below w5.heap.size w5 w6 := bz.trans (((Below.refl w5.heap.size _).grown G6 (by rw [size_alloc]; omega) (by simp [Value.ownBlock])).mono (by omega))
                have P6' : w6.ownsRow w5.heap.size 90 13 v6 (d.out.take k).length (flatW DR (d.out.take k)) := own_lower P6 (by omega)
                simp only [List.getElem_toArray, List.getElem_cons_succ, List.getElem_cons_zero, Act.put, List.setIfInBounds_toArray, List.set_cons_succ, List.set_cons_zero]
                refine wpAny_all (rs := [12]) (by kernel_rfl) (by simp) ?_
                intro k hk
                simp only [List.mem_cons, List.mem_nil_iff, or_false] at hk
                subst hk
                refine wpOp_run rfl rfl (wp_load_cell 36 _ rfl E 3 rfl (.slice (some ⟨b, off, none⟩) d.out.length cap) (load_rms _ E 3 _ _ _ ((HW.out _ b6).1.cell rfl)) ?_)
                simp only [List.getElem_toArray, List.getElem_cons_succ, List.getElem_cons_zero, Act.put, List.setIfInBounds_toArray, List.set_cons_succ, List.set_cons_zero]
                refine wpAny_take (i := 15) (v := (v2)) rfl (by kernel_rfl) (by kernel_rfl) (by kernel_rfl) (fun _ _ _ h => h) (.inl ⟨rfl, fun _ => by simp [execOp, go_sem, Act.eval, hs2]⟩) ?_
                simp only [List.getElem_toArray, List.getElem_cons_succ, List.getElem_cons_zero, Act.put, List.setIfInBounds_toArray, List.set_cons_succ, List.set_cons_zero]
                refine wpAny_all (rs := [16]) (by kernel_rfl) (by simp) ?_
                intro k hk
                simp only [List.mem_cons, List.mem_nil_iff, or_false] at hk
                subst hk
                refine wpOp_run rfl rfl (wp_append_wide DR _ _ 36 90 _ _ Try.underlying36 infoRmZ rfl rfl w5.heap.size v6 (d.out.take k) rfl P6' _ (d.out.drop (k + 1)) rfl (HW.out _ b6).2.2.1 (by unfold maxLen; simp; omega) (by simp; omega) b6.size ?_)
                intro v9 w9 P9 G9
                have B9 : Below w5.heap.size w5 w9 := ⟨G9.os.trans b6.os, G9.tape.trans b6.tape, G9.output.trans b6.output, Nat.le_trans b6.size G9.size, fun k hk => (G9.block k (Nat.lt_of_lt_of_le hk b6.size) (fun e => by have := own_base P6' e.symm; omega)).trans (b6.block k hk)⟩
                have A9 := (HW.out _ B9).1
                obtain ⟨a9, c9, hv9⟩ := own_shape5 P9
                subst hv9
                simp only [List.getElem_toArray, List.getElem_cons_succ, List.getElem_cons_zero, Act.put, List.setIfInBounds_toArray, List.set_cons_succ, List.set_cons_zero]
                refine wpAny_take (i := 17) (v := (.pointer (some ⟨E, 0, none⟩))) rfl (by kernel_rfl) (by kernel_rfl) (by kernel_rfl) (fun _ _ _ h => h) (.inl ⟨rfl, fun _ => by simp [execOp, go_sem, Act.eval]⟩) ?_
                simp only [List.getElem_toArray, List.getElem_cons_succ, List.getElem_cons_zero, Act.put, List.setIfInBounds_toArray, List.set_cons_succ, List.set_cons_zero]
                refine wpAny_take (i := 18) (v := (.pointer (some ⟨E, 3, none⟩))) rfl (by kernel_rfl) (by kernel_rfl) (by kernel_rfl) (fun _ _ _ h => h) (.inl ⟨rfl, fun _ => by simp [execOp, go_sem, Act.eval]⟩) ?_
                simp only [List.getElem_toArray, List.getElem_cons_succ, List.getElem_cons_zero, Act.put, List.setIfInBounds_toArray, List.set_cons_succ, List.set_cons_zero]
                refine wpAny_all (rs := [19]) (by kernel_rfl) (by simp) ?_
                intro k hk
                simp only [List.mem_cons, List.mem_nil_iff, or_false] at hk
                subst hk
                refine wpOp_run rfl rfl (wp_store_cell 36 _ _ rfl E 3 rfl _ rfl (store_rms w9 E 3 _ a9 _ c9 (A9.cell rfl) (A9.free 3)) ?_)
                simp only [List.getElem_toArray, List.getElem_cons_succ, List.getElem_cons_zero, Act.put, List.setIfInBounds_toArray, List.set_cons_succ, List.set_cons_zero]
                refine wpAny_done (by kernel_rfl) ?_ _
                have HX : Hid (∀ n, n = (d.out.take k ++ d.out.drop (k + 1)).length → DcP E { d with out := d.out.take k ++ d.out.drop (k + 1) } vI w (w9.setCell ⟨E, 3, none⟩ (.slice a9 n c9))) := fun n hn => by subst hn; exact hh.setO (by rw [hq]; exact (HW.out _ B9).2.2.2) _ _ P9 (by have := hh.b0; simp; omega)
                clear HW P6' P9 G9 A9 P6 G6 HW1 HW2
                go_wp2
                go_ret
                exact .inl ⟨rfl, k, HA'.out, HX.out _ (by first | rfl | (simp; omega) | simp)⟩
              · refine wpOp_run rfl rfl (wp_load_cell 36 _ rfl E 3 rfl (.slice (some ⟨b, off, none⟩) d.out.length cap) (load_rms _ E 3 _ _ _ ((HW.out _ bz).1.cell rfl)) ?_)
                simp only [List.getElem_toArray, List.getElem_cons_succ, List.getElem_cons_zero, Act.put, List.setIfInBounds_toArray, List.set_cons_succ, List.set_cons_zero]
                refine wpAny_take (i := 15) (v := (v2)) rfl (by kernel_rfl) (by kernel_rfl) (by kernel_rfl) (fun _ _ _ h => h) (.inl ⟨rfl, fun _ => by simp [execOp, go_sem, Act.eval, hs2]⟩) ?_
                simp only [List.getElem_toArray, List.getElem_cons_succ, List.getElem_cons_zero, Act.put, List.setIfInBounds_toArray, List.set_cons_succ, List.set_cons_zero]
                refine wpAny_all (rs := [8]) (by kernel_rfl) (by simp) ?_
                intro k hk
                simp only [List.mem_cons, List.mem_nil_iff, or_false] at hk
                subst hk
                refine wpOp_run rfl rfl (wp_append_wide DR _ _ 36 90 _ _ Try.underlying36 infoRmZ rfl rfl w5.heap.size (.slice (some ⟨w5.heap.size, 0, none⟩) 0 0) [] rfl (by exact own_empty_e w5 90 13) _ (d.out.take k) rfl (HW.out _ bz).2.1 (by unfold maxLen; simp; omega) (by simp; omega) (by rw [size_alloc]; omega) ?_)
                intro v6 w6 P6 G6
                have b6 : Below w5.heap.size w5 w6 := bz.trans (((Below.refl w5.heap.size _).grown G6 (by rw [size_alloc]; omega) (by simp [Value.ownBlock])).mono (by omega))
                have P6' : w6.ownsRow w5.heap.size 90 13 v6 (d.out.take k).length (flatW DR (d.out.take k)) := own_lower P6 (by omega)
                simp only [List.getElem_toArray, List.getElem_cons_succ, List.getElem_cons_zero, Act.put, List.setIfInBounds_toArray, List.set_cons_succ, List.set_cons_zero]
                refine wpAny_all (rs := [16]) (by kernel_rfl) (by simp) ?_
                intro k hk
                simp only [List.mem_cons, List.mem_nil_iff, or_false] at hk
                subst hk
                refine wpOp_run rfl rfl (wp_append_wide DR _ _ 36 90 _ _ Try.underlying36 infoRmZ rfl rfl w5.heap.size v6 (d.out.take k) rfl P6' _ (d.out.drop (k + 1)) rfl (HW.out _ b6).2.2.1 (by unfold maxLen; simp; omega) (by simp; omega) b6.size ?_)
                intro v9 w9 P9 G9
                have B9 : Below w5.heap.size w5 w9 := ⟨G9.os.trans b6.os, G9.tape.trans b6.tape, G9.output.trans b6.output, Nat.le_trans b6.size G9.size, fun k hk => (G9.block k (Nat.lt_of_lt_of_le hk b6.size) (fun e => by have := own_base P6' e.symm; omega)).trans (b6.block k hk)⟩
                have A9 := (HW.out _ B9).1
                obtain ⟨a9, c9, hv9⟩ := own_shape5 P9
                subst hv9
                simp only [List.getElem_toArray, List.getElem_cons_succ, List.getElem_cons_zero, Act.put, List.setIfInBounds_toArray, List.set_cons_succ, List.set_cons_zero]
                refine wpAny_take (i := 17) (v := (.pointer (some ⟨E, 0, none⟩))) rfl (by kernel_rfl) (by kernel_rfl) (by kernel_rfl) (fun _ _ _ h => h) (.inl ⟨rfl, fun _ => by simp [execOp, go_sem, Act.eval]⟩) ?_
                simp only [List.getElem_toArray, List.getElem_cons_succ, List.getElem_cons_zero, Act.put, List.setIfInBounds_toArray, List.set_cons_succ, List.set_cons_zero]
                refine wpAny_take (i := 18) (v := (.pointer (some ⟨E, 3, none⟩))) rfl (by kernel_rfl) (by kernel_rfl) (by kernel_rfl) (fun _ _ _ h => h) (.inl ⟨rfl, fun _ => by simp [execOp, go_sem, Act.eval]⟩) ?_
                simp only [List.getElem_toArray, List.getElem_cons_succ, List.getElem_cons_zero, Act.put, List.setIfInBounds_toArray, List.set_cons_succ, List.set_cons_zero]
                refine wpAny_all (rs := [19]) (by kernel_rfl) (by simp) ?_
                intro k hk
                simp only [List.mem_cons, List.mem_nil_iff, or_false] at hk
                subst hk
                refine wpOp_run rfl rfl (wp_store_cell 36 _ _ rfl E 3 rfl _ rfl (store_rms w9 E 3 _ a9 _ c9 (A9.cell rfl) (A9.free 3)) ?_)
                simp only [List.getElem_toArray, List.getElem_cons_succ, List.getElem_cons_zero, Act.put, List.setIfInBounds_toArray, List.set_cons_succ, List.set_cons_zero]
                refine wpAny_done (by kernel_rfl) ?_ _
                have HX : Hid (∀ n, n = (d.out.take k ++ d.out.drop (k + 1)).length → DcP E { d with out := d.out.take k ++ d.out.drop (k + 1) } vI w (w9.setCell ⟨E, 3, none⟩ (.slice a9 n c9))) := fun n hn => by subst hn; exact hh.setO (by rw [hq]; exact (HW.out _ B9).2.2.2) _ _ P9 (by have := hh.b0; simp; omega)
                clear HW P6' P9 G9 A9 P6 G6 HW1 HW2
                go_wp2
                go_ret
                exact .inl ⟨rfl, k, HA'.out, HX.out _ (by first | rfl | (simp; omega) | simp)⟩
            · refine wpOp_run rfl rfl (wp_load_cell 36 _ rfl E 3 rfl (.slice (some ⟨b, off, none⟩) d.out.length cap) (load_rms _ E 3 _ _ _ ((HW.out _ bz).1.cell rfl)) ?_)
              simp only [List.getElem_toArray, List.getElem_cons_succ, List.getElem_cons_zero, Act.put, List.setIfInBounds_toArray, List.set_cons_succ, List.set_cons_zero]
              refine wpAny_take (i := 15) (v := (v2)) rfl (by kernel_rfl) (by kernel_rfl) (by kernel_rfl) (fun _ _ _ h => h) (.inl ⟨rfl, fun _ => by simp [execOp, go_sem, Act.eval, hs2]⟩) ?_
              simp only [List.getElem_toArray, List.getElem_cons_succ, List.getElem_cons_zero, Act.put, List.setIfInBounds_toArray, List.set_cons_succ, List.set_cons_zero]
              refine wpAny_all (rs := [5]) (by kernel_rfl) (by simp) ?_
              intro k hk
              simp only [List.mem_cons, List.mem_nil_iff, or_false] at hk
              subst hk
              refine wpOp_run rfl rfl (wp_load_cell 36 _ rfl E 3 rfl (.slice (some ⟨b, off, none⟩) d.out.length cap) (load_rms _ E 3 _ _ _ ((HW.out _ bz).1.cell rfl)) ?_)
              simp only [List.getElem_toArray, List.getElem_cons_succ, List.getElem_cons_zero, Act.put, List.setIfInBounds_toArray, List.set_cons_succ, List.set_cons_zero]
              refine wpAny_take (i := 7) (v := (v1)) rfl (by kernel_rfl) (by kernel_rfl) (by kernel_rfl) (fun _ _ _ h => h) (.inl ⟨rfl, fun _ => by simp [execOp, go_sem, Act.eval, hs1]⟩) ?_
              simp only [List.getElem_toArray, List.getElem_cons_succ, List.getElem_cons_zero, Act.put, List.setIfInBounds_toArray, List.set_cons_succ, List.set_cons_zero]
              refine wpAny_all (rs := [8]) (by kernel_rfl) (by simp) ?_
              intro k hk
              simp only [List.mem_cons, List.mem_nil_iff, or_false] at hk
              subst hk
              refine wpOp_run rfl rfl (wp_append_wide DR _ _ 36 90 _ _ Try.underlying36 infoRmZ rfl rfl w5.heap.size (.slice (some ⟨w5.heap.size, 0, none⟩) 0 0) [] rfl (by exact own_empty_e w5 90 13) _ (d.out.take k) rfl (HW.out _ bz).2.1 (by unfold maxLen; simp; omega) (by simp; omega) (by rw [size_alloc]; omega) ?_)
              intro v6 w6 P6 G6
              have b6 : Below w5.heap.size w5 w6 := bz.trans (((Below.refl w5.heap.size _).grown G6 (by rw [size_alloc]; omega) (by simp [Value.ownBlock])).mono (by omega))
              have P6' : w6.ownsRow w5.heap.size 90 13 v6 (d.out.take k).length (flatW DR (d.out.take k)) := own_lower P6 (by omega)
              simp only [List.getElem_toArray, List.getElem_cons_succ, List.getElem_cons_zero, Act.put, List.setIfInBounds_toArray, List.set_cons_succ, List.set_cons_zero]
              refine wpAny_all (rs := [16]) (by kernel_rfl) (by simp) ?_
              intro k hk
              simp only [List.mem_cons, List.mem_nil_iff, or_false] at hk
              subst hk
              refine wpOp_run rfl rfl (wp_append_wide DR _ _ 36 90 _ _ Try.underlying36 infoRmZ rfl rfl w5.heap.size v6 (d.out.take k) rfl P6' _ (d.out.drop (k + 1)) rfl (HW.out _ b6).2.2.1 (by unfold maxLen; simp; omega) (by simp; omega) b6.size ?_)
              intro v9 w9 P9 G9
              have B9 : Below w5.heap.size w5 w9 := ⟨G9.os.trans b6.os, G9.tape.trans b6.tape, G9.output.trans b6.output, Nat.le_trans b6.size G9.size, fun k hk => (G9.block k (Nat.lt_of_lt_of_le hk b6.size) (fun e => by have := own_base P6' e.symm; omega)).trans (b6.block k hk)⟩
              have A9 := (HW.out _ B9).1
              obtain ⟨a9, c9, hv9⟩ := own_shape5 P9
              subst hv9
              simp only [List.getElem_toArray, List.getElem_cons_succ, List.getElem_cons_zero, Act.put, List.setIfInBounds_toArray, List.set_cons_succ, List.set_cons_zero]
              refine wpAny_take (i := 17) (v := (.pointer (some ⟨E, 0, none⟩))) rfl (by kernel_rfl) (by kernel_rfl) (by kernel_rfl) (fun _ _ _ h => h) (.inl ⟨rfl, fun _ => by simp [execOp, go_sem, Act.eval]⟩) ?_
              simp only [List.getElem_toArray, List.getElem_cons_succ, List.getElem_cons_zero, Act.put, List.setIfInBounds_toArray, List.set_cons_succ, List.set_cons_zero]
              refine wpAny_take (i := 18) (v := (.pointer (some ⟨E, 3, none⟩))) rfl (by kernel_rfl) (by kernel_rfl) (by kernel_rfl) (fun _ _ _ h => h) (.inl ⟨rfl, fun _ => by simp [execOp, go_sem, Act.eval]⟩) ?_
              simp only [List.getElem_toArray, List.getElem_cons_succ, List.getElem_cons_zero, Act.put, List.setIfInBounds_toArray, List.set_cons_succ, List.set_cons_zero]
              refine wpAny_all (rs := [19]) (by kernel_rfl) (by simp) ?_
              intro k hk
              simp only [List.mem_cons, List.mem_nil_iff, or_false] at hk
              subst hk
              refine wpOp_run rfl rfl (wp_store_cell 36 _ _ rfl E 3 rfl _ rfl (store_rms w9 E 3 _ a9 _ c9 (A9.cell rfl) (A9.free 3)) ?_)
              simp only [List.getElem_toArray, List.getElem_cons_succ, List.getElem_cons_zero, Act.put, List.setIfInBounds_toArray, List.set_cons_succ, List.set_cons_zero]
              refine wpAny_done (by kernel_rfl) ?_ _
              have HX : Hid (∀ n, n = (d.out.take k ++ d.out.drop (k + 1)).length → DcP E { d with out := d.out.take k ++ d.out.drop (k + 1) } vI w (w9.setCell ⟨E, 3, none⟩ (.slice a9 n c9))) := fun n hn => by subst hn; exact hh.setO (by rw [hq]; exact (HW.out _ B9).2.2.2) _ _ P9 (by have := hh.b0; simp; omega)
              clear HW P6' P9 G9 A9 P6 G6 HW1 HW2
              go_wp2
              go_ret
              exact .inl ⟨rfl, k, HA'.out, HX.out _ (by first | rfl | (simp; omega) | simp)⟩
          · refine wpOp_run rfl rfl (wp_load_cell 36 _ rfl E 3 rfl (.slice (some ⟨b, off, none⟩) d.out.length cap) (load_rms _ E 3 _ _ _ ((HW.out _ r0).1.cell rfl)) ?_)
            simp only [List.getElem_toArray, List.getElem_cons_succ, List.getElem_cons_zero, Act.put, List.setIfInBounds_toArray, List.set_cons_succ, List.set_cons_zero]
            refine wpAny_take (i := 7) (v := (v1)) rfl (by kernel_rfl) (by kernel_rfl) (by kernel_rfl) (fun _ _ _ h => h) (.inl ⟨rfl, fun _ => by simp [execOp, go_sem, Act.eval, hs1]⟩) ?_
            simp only [List.getElem_toArray, List.getElem_cons_succ, List.getElem_cons_zero, Act.put, List.setIfInBounds_toArray, List.set_cons_succ, List.set_cons_zero]
            refine wpAny_all (rs := [1, 12]) (by kernel_rfl) (by simp) ?_
            intro k hk
            simp only [List.mem_cons, List.mem_nil_iff, or_false] at hk
            rcases hk with rfl | rfl
            · refine wpOp_run rfl rfl (wp_bs0g Try.underlying36 infoRmZ rfl ?_)
              have bz := r0.alloc r0.size (.cells #[] 90)
              simp only [List.getElem_toArray, List.getElem_cons_succ, List.getElem_cons_zero, Act.put, List.setIfInBounds_toArray, List.set_cons_succ, List.set_cons_zero]
              refine wpAny_all (rs := [8, 12]) (by kernel_rfl) (by simp) ?_
              intro k hk
              simp only [List.mem_cons, List.mem_nil_iff, or_false] at hk
              rcases hk with rfl | rfl
              · refine wpOp_run rfl rfl (wp_append_wide DR _ _ 36 90 _ _ Try.underlying36 infoRmZ rfl rfl w5.heap.size (.slice (some ⟨w5.heap.size, 0, none⟩) 0 0) [] rfl (by exact own_empty_e w5 90 13) _ (d.out.take k) rfl (HW.out _ bz).2.1 (by unfold maxLen; simp; omega) (by simp; omega) (by rw [size_alloc]; omega) ?_)
                intro v6 w6 P6 G6
                have b6 : Below w5.heap.size w5 w6 := bz.trans (((Below.refl w5.heap.size _).grown G6 (by rw [size_alloc]; omega) (by simp [Value.ownBlock])).mono (by omega))
                have P6' : w6.ownsRow w5.heap.size 90 13 v6 (d.out.take k).length (flatW DR (d.out.take k)) := own_lower P6 (by omega)
                simp only [List.getElem_toArray, List.getElem_cons_succ, List.getElem_cons_zero, Act.put, List.setIfInBounds_toArray, List.set_cons_succ, List.set_cons_zero]
                refine wpAny_all (rs := [12]) (by kernel_rfl) (by simp) ?_
                intro k hk
                simp only [List.mem_cons, List.mem_nil_iff, or_false] at hk
                subst hk
                refine wpOp_run rfl rfl (wp_load_cell 36 _ rfl E 3 rfl (.slice (some ⟨b, off, none⟩) d.out.length cap) (load_rms _ E 3 _ _ _ ((HW.out _ b6).1.cell rfl)) ?_)
                simp only [List.getElem_toArray, List.getElem_cons_succ, List.getElem_cons_zero, Act.put, List.setIfInBounds_toArray, List.set_cons_succ, List.set_cons_zero]
                refine wpAny_take (i := 15) (v := (v2)) rfl (by kernel_rfl) (by kernel_rfl) (by kernel_rfl) (fun _ _ _ h => h) (.inl ⟨rfl, fun _ => by simp [execOp, go_sem, Act.eval, hs2]⟩) ?_
                simp only [List.getElem_toArray, List.getElem_cons_succ, List.getElem_cons_zero, Act.put, List.setIfInBounds_toArray, List.set_cons_succ, List.set_cons_zero]
                refine wpAny_all (rs := [16]) (by kernel_rfl) (by simp) ?_
                intro k hk
                simp only [List.mem_cons, List.mem_nil_iff, or_false] at hk
                subst hk
                refine wpOp_run rfl rfl (wp_append_wide DR _ _ 36 90 _ _ Try.underlying36 infoRmZ rfl rfl w5.heap.size v6 (d.out.take k) rfl P6' _ (d.out.drop (k + 1)) rfl (HW.out _ b6).2.2.1 (by unfold maxLen; simp; omega) (by simp; omega) b6.size ?_)
                intro v9 w9 P9 G9
                have B9 : Below w5.heap.size w5 w9 := ⟨G9.os.trans b6.os, G9.tape.trans b6.tape, G9.output.trans b6.output, Nat.le_trans b6.size G9.size, fun k hk => (G9.block k (Nat.lt_of_lt_of_le hk b6.size) (fun e => by have := own_base P6' e.symm; omega)).trans (b6.block k hk)⟩
                have A9 := (HW.out _ B9).1
                obtain ⟨a9, c9, hv9⟩ := own_shape5 P9
                subst hv9
                simp only [List.getElem_toArray, List.getElem_cons_succ, List.getElem_cons_zero, Act.put, List.setIfInBounds_toArray, List.set_cons_succ, List.set_cons_zero]
                refine wpAny_take (i := 17) (v := (.pointer (some ⟨E, 0, none⟩))) rfl (by kernel_rfl) (by kernel_rfl) (by kernel_rfl) (fun _ _ _ h => h) (.inl ⟨rfl, fun _ => by simp [execOp, go_sem, Act.eval]⟩) ?_
                simp only [List.getElem_toArray, List.getElem_cons_succ, List.getElem_cons_zero, Act.put, List.setIfInBounds_toArray, List.set_cons_succ, List.set_cons_zero]
                refine wpAny_take (i := 18) (v := (.pointer (some ⟨E, 3, none⟩))) rfl (by kernel_rfl) (by kernel_rfl) (by kernel_rfl) (fun _ _ _ h => h) (.inl ⟨rfl, fun _ => by simp [execOp, go_sem, Act.eval]⟩) ?_
                simp only [List.getElem_toArray, List.getElem_cons_succ, List.getElem_cons_zero, Act.put, List.setIfInBounds_toArray, List.set_cons_succ, List.set_cons_zero]
                refine wpAny_all (rs := [19]) (by kernel_rfl) (by simp) ?_
                intro k hk
                simp only [List.mem_cons, List.mem_nil_iff, or_false] at hk
                subst hk
                refine wpOp_run rfl rfl (wp_store_cell 36 _ _ rfl E 3 rfl _ rfl (store_rms w9 E 3 _ a9 _ c9 (A9.cell rfl) (A9.free 3)) ?_)
                simp only [List.getElem_toArray, List.getElem_cons_succ, List.getElem_cons_zero, Act.put, List.setIfInBounds_toArray, List.set_cons_succ, List.set_cons_zero]
                refine wpAny_done (by kernel_rfl) ?_ _
                have HX : Hid (∀ n, n = (d.out.take k ++ d.out.drop (k + 1)).length → DcP E { d with out := d.out.take k ++ d.out.drop (k + 1) } vI w (w9.setCell ⟨E, 3, none⟩ (.slice a9 n c9))) := fun n hn => by subst hn; exact hh.setO (by rw [hq]; exact (HW.out _ B9).2.2.2) _ _ P9 (by have := hh.b0; simp; omega)
                clear HW P6' P9 G9 A9 P6 G6 HW1 HW2
                go_wp2
                go_ret
                exact .inl ⟨rfl, k, HA'.out, HX.out _ (by first | rfl | (simp; omega) | simp)⟩
              · refine wpOp_run rfl rfl (wp_load_cell 36 _ rfl E 3 rfl (.slice (some ⟨b, off, none⟩) d.out.length cap) (load_rms _ E 3 _ _ _ ((HW.out _ bz).1.cell rfl)) ?_)
                simp only [List.getElem_toArray, List.getElem_cons_succ, List.getElem_cons_zero, Act.put, List.setIfInBounds_toArray, List.set_cons_succ, List.set_cons_zero]
                refine wpAny_take (i := 15) (v := (v2)) rfl (by kernel_rfl) (by kernel_rfl) (by kernel_rfl) (fun _ _ _ h => h) (.inl ⟨rfl, fun _ => by simp [execOp, go_sem, Act.eval, hs2]⟩) ?_
                simp only [List.getElem_toArray, List.getElem_cons_succ, List.getElem_cons_zero, Act.put, List.setIfInBounds_toArray, List.set_cons_succ, List.set_cons_zero]
                refine wpAny_all (rs := [8]) (by kernel_rfl) (by simp) ?_
                intro k hk
                simp only [List.mem_cons, List.mem_nil_iff, or_false] at hk
                subst hk
                refine wpOp_run rfl rfl (wp_append_wide DR _ _ 36 90 _ _ Try.underlying36 infoRmZ rfl rfl w5.heap.size (.slice (some ⟨w5.heap.size, 0, none⟩) 0 0) [] rfl (by exact own_empty_e w5 90 13) _ (d.out.take k) rfl (HW.out _ bz).2.1 (by unfold maxLen; simp; omega) (by simp; omega) (by rw [size_alloc]; omega) ?_)
                intro v6 w6 P6 G6
                have b6 : Below w5.heap.size w5 w6 := bz.trans (((Below.refl w5.heap.size _).grown G6 (by rw [size_alloc]; omega) (by simp [Value.ownBlock])).mono (by omega))
                have P6' : w6.ownsRow w5.heap.size 90 13 v6 (d.out.take k).length (flatW DR (d.out.take k)) := own_lower P6 (by omega)
                simp only [List.getElem_toArray, List.getElem_cons_succ, List.getElem_cons_zero, Act.put, List.setIfInBounds_toArray, List.set_cons_succ, List.set_cons_zero]
                refine wpAny_all (rs := [16]) (by kernel_rfl) (by simp) ?_
                intro k hk
                simp only [List.mem_cons, List.mem_nil_iff, or_false] at hk
                subst hk
                refine wpOp_run rfl rfl (wp_append_wide DR _ _ 36 90 _ _ Try.underlying36 infoRmZ rfl rfl w5.heap.size v6 (d.out.take k) rfl P6' _ (d.out.drop (k + 1)) rfl (HW.out _ b6).2.2.1 (by unfold maxLen; simp; omega) (by simp; omega) b6.size ?_)
                intro v9 w9 P9 G9
                have B9 : Below w5.heap.size w5 w9 := ⟨G9.os.trans b6.os, G9.tape.trans b6.tape, G9.output.trans b6.output, Nat.le_trans b6.size G9.size, fun k hk => (G9.block k (Nat.lt_of_lt_of_le hk b6.size) (fun e => by have := own_base P6' e.symm; omega)).trans (b6.block k hk)⟩
                have A9 := (HW.out _ B9).1
                obtain ⟨a9, c9, hv9⟩ := own_shape5 P9
                subst hv9
                simp only [List.getElem_toArray, List.getElem_cons_succ, List.getElem_cons_zero, Act.put, List.setIfInBounds_toArray, List.set_cons_succ, List.set_cons_zero]
                refine wpAny_take (i := 17) (v := (.pointer (some ⟨E, 0, none⟩))) rfl (by kernel_rfl) (by kernel_rfl) (by kernel_rfl) (fun _ _ _ h => h) (.inl ⟨rfl, fun _ => by simp [execOp, go_sem, Act.eval]⟩) ?_
                simp only [List.getElem_toArray, List.getElem_cons_succ, List.getElem_cons_zero, Act.put, List.setIfInBounds_toArray, List.set_cons_succ, List.set_cons_zero]
                refine wpAny_take (i := 18) (v := (.pointer (some ⟨E, 3, none⟩))) rfl (by kernel_rfl) (by kernel_rfl) (by kernel_rfl) (fun _ _ _ h => h) (.inl ⟨rfl, fun _ => by simp [execOp, go_sem, Act.eval]⟩) ?_
                simp only [List.getElem_toArray, List.getElem_cons_succ, List.getElem_cons_zero, Act.put, List.setIfInBounds_toArray, List.set_cons_succ, List.set_cons_zero]
                refine wpAny_all (rs := [19]) (by kernel_rfl) (by simp) ?_
                intro k hk
                simp only [List.mem_cons, List.mem_nil_iff, or_false] at hk
                subst hk
                refine wpOp_run rfl rfl (wp_store_cell 36 _ _ rfl E 3 rfl _ rfl (store_rms w9 E 3 _ a9 _ c9 (A9.cell rfl) (A9.free 3)) ?_)
                simp only [List.getElem_toArray, List.getElem_cons_succ, List.getElem_cons_zero, Act.put, List.setIfInBounds_toArray, List.set_cons_succ, List.set_cons_zero]
                refine wpAny_done (by kernel_rfl) ?_ _
                have HX : Hid (∀ n, n = (d.out.take k ++ d.out.drop (k + 1)).length → DcP E { d with out := d.out.take k ++ d.out.drop (k + 1) } vI w (w9.setCell ⟨E, 3, none⟩ (.slice a9 n c9))) := fun n hn => by subst hn; exact hh.setO (by rw [hq]; exact (HW.out _ B9).2.2.2) _ _ P9 (by have := hh.b0; simp; omega)
                clear HW P6' P9 G9 A9 P6 G6 HW1 HW2
                go_wp2
                go_ret
                exact .inl ⟨rfl, k, HA'.out, HX.out _ (by first | rfl | (simp; omega) | simp)⟩
            · refine wpOp_run rfl rfl (wp_load_cell 36 _ rfl E 3 rfl (.slice (some ⟨b, off, none⟩) d.out.length cap) (load_rms _ E 3 _ _ _ ((HW.out _ r0).1.cell rfl)) ?_)
              simp only [List.getElem_toArray, List.getElem_cons_succ, List.getElem_cons_zero, Act.put, List.setIfInBounds_toArray, List.set_cons_succ, List.set_cons_zero]
              refine wpAny_take (i := 15) (v := (v2)) rfl (by kernel_rfl) (by kernel_rfl) (by kernel_rfl) (fun _ _ _ h => h) (.inl ⟨rfl, fun _ => by simp [execOp, go_sem, Act.eval, hs2]⟩) ?_
              simp only [List.getElem_toArray, List.getElem_cons_succ, List.getElem_cons_zero, Act.put, List.setIfInBounds_toArray, List.set_cons_succ, List.set_cons_zero]
              refine wpAny_all (rs := [1]) (by kernel_rfl) (by simp) ?_
              intro k hk
              simp only [List.mem_cons, List.mem_nil_iff, or_false] at hk
              subst hk
              refine wpOp_run rfl rfl (wp_bs0g Try.underlying36 infoRmZ rfl ?_)
              have bz := r0.alloc r0.size (.cells #[] 90)
              simp only [List.getElem_toArray, List.getElem_cons_succ, List.getElem_cons_zero, Act.put, List.setIfInBounds_toArray, List.set_cons_succ, List.set_cons_zero]
              refine wpAny_all (rs := [8]) (by kernel_rfl) (by simp) ?_
              intro k hk
              simp only [List.mem_cons, List.mem_nil_iff, or_false] at hk
              subst hk
              refine wpOp_run rfl rfl (wp_append_wide DR _ _ 36 90 _ _ Try.underlying36 infoRmZ rfl rfl w5.heap.size (.slice (some ⟨w5.heap.size, 0, none⟩) 0 0) [] rfl (by exact own_empty_e w5 90 13) _ (d.out.take k) rfl (HW.out _ bz).2.1 (by unfold maxLen; simp; omega) (by simp; omega) (by rw [size_alloc]; omega) ?_)
              intro v6 w6 P6 G6
              have b6 : Below w5.heap.size w5 w6 := bz.trans (((Below.refl w5.heap.size _).grown G6 (by rw [size_alloc]; omega) (by simp [Value.ownBlock])).mono (by omega))
              have P6' : w6.ownsRow w5.heap.size 90 13 v6 (d.out.take k).length (flatW DR (d.out.take k)) := own_lower P6 (by omega)
              simp only [List.getElem_toArray, List.getElem_cons_succ, List.getElem_cons_zero, Act.put, List.setIfInBounds_toArray, List.set_cons_succ, List.set_cons_zero]
              refine wpAny_all (rs := [16]) (by kernel_rfl) (by simp) ?_
              intro k hk
              simp only [List.mem_cons, List.mem_nil_iff, or_false] at hk
              subst hk
              refine wpOp_run rfl rfl (wp_append_wide DR _ _ 36 90 _ _ Try.underlying36 infoRmZ rfl rfl w5.heap.size v6 (d.out.take k) rfl P6' _ (d.out.drop (k + 1)) rfl (HW.out _ b6).2.2.1 (by unfold maxLen; simp; omega) (by simp; omega) b6.size ?_)
              intro v9 w9 P9 G9
              have B9 : Below w5.heap.size w5 w9 := ⟨G9.os.trans b6.os, G9.tape.trans b6.tape, G9.output.trans b6.output, Nat.le_trans b6.size G9.size, fun k hk => (G9.block k (Nat.lt_of_lt_of_le hk b6.size) (fun e => by have := own_base P6' e.symm; omega)).trans (b6.block k hk)⟩
              have A9 := (HW.out _ B9).1
              obtain ⟨a9, c9, hv9⟩ := own_shape5 P9
              subst hv9
              simp only [List.getElem_toArray, List.getElem_cons_succ, List.getElem_cons_zero, Act.put, List.setIfInBounds_toArray, List.set_cons_succ, List.set_cons_zero]
              refine wpAny_take (i := 17) (v := (.pointer (some ⟨E, 0, none⟩))) rfl (by kernel_rfl) (by kernel_rfl) (by kernel_rfl) (fun _ _ _ h => h) (.inl ⟨rfl, fun _ => by simp [execOp, go_sem, Act.eval]⟩) ?_
              simp only [List.getElem_toArray, List.getElem_cons_succ, List.getElem_cons_zero, Act.put, List.setIfInBounds_toArray, List.set_cons_succ, List.set_cons_zero]
              refine wpAny_take (i := 18) (v := (.pointer (some ⟨E, 3, none⟩))) rfl (by kernel_rfl) (by kernel_rfl) (by kernel_rfl) (fun _ _ _ h => h) (.inl ⟨rfl, fun _ => by simp [execOp, go_sem, Act.eval]⟩) ?_
              simp only [List.getElem_toArray, List.getElem_cons_succ, List.getElem_cons_zero, Act.put, List.setIfInBounds_toArray, List.set_cons_succ, List.set_cons_zero]
              refine wpAny_all (rs := [19]) (by kernel_rfl) (by simp) ?_
              intro k hk
              simp only [List.mem_cons, List.mem_nil_iff, or_false] at hk
              subst hk
              refine wpOp_run rfl rfl (wp_store_cell 36 _ _ rfl E 3 rfl _ rfl (store_rms w9 E 3 _ a9 _ c9 (A9.cell rfl) (A9.free 3)) ?_)
              simp only [List.getElem_toArray, List.getElem_cons_succ, List.getElem_cons_zero, Act.put, List.setIfInBounds_toArray, List.set_cons_succ, List.set_cons_zero]
              refine wpAny_done (by kernel_rfl) ?_ _
              have HX : Hid (∀ n, n = (d.out.take k ++ d.out.drop (k + 1)).length → DcP E { d with out := d.out.take k ++ d.out.drop (k + 1) } vI w (w9.setCell ⟨E, 3, none⟩ (.slice a9 n c9))) := fun n hn => by subst hn; exact hh.setO (by rw [hq]; exact (HW.out _ B9).2.2.2) _ _ P9 (by have := hh.b0; simp; omega)
              clear HW P6' P9 G9 A9 P6 G6 HW1 HW2
              go_wp2
              go_ret
              exact .inl ⟨rfl, k, HA'.out, HX.out _ (by first | rfl | (simp; omega) | simp)⟩
          · refine wpOp_run rfl rfl (wp_load_cell 36 _ rfl E 3 rfl (.slice (some ⟨b, off, none⟩) d.out.length cap) (load_rms _ E 3 _ _ _ ((HW.out _ r0).1.cell rfl)) ?_)
            simp only [List.getElem_toArray, List.getElem_cons_succ, List.getElem_cons_zero, Act.put, List.setIfInBounds_toArray, List.set_cons_succ, List.set_cons_zero]
            refine wpAny_take (i := 15) (v := (v2)) rfl (by kernel_rfl) (by kernel_rfl) (by kernel_rfl) (fun _ _ _ h => h) (.inl ⟨rfl, fun _ => by simp [execOp, go_sem, Act.eval, hs2]⟩) ?_
            simp only [List.getElem_toArray, List.getElem_cons_succ, List.getElem_cons_zero, Act.put, List.setIfInBounds_toArray, List.set_cons_succ, List.set_cons_zero]
            refine wpAny_all (rs := [1, 5]) (by kernel_rfl) (by simp) ?_
            intro k hk
            simp only [List.mem_cons, List.mem_nil_iff, or_false] at hk
            rcases hk with rfl | rfl
            · refine wpOp_run rfl rfl (wp_bs0g Try.underlying36 infoRmZ rfl ?_)
              have bz := r0.alloc r0.size (.cells #[] 90)
              simp only [List.getElem_toArray, List.getElem_cons_succ, List.getElem_cons_zero, Act.put, List.setIfInBounds_toArray, List.set_cons_succ, List.set_cons_zero]
              refine wpAny_all (rs := [5]) (by kernel_rfl) (by simp) ?_
              intro k hk
              simp only [List.mem_cons, List.mem_nil_iff, or_false] at hk
              subst hk
              refine wpOp_run rfl rfl (wp_load_cell 36 _ rfl E 3 rfl (.slice (some ⟨b, off, none⟩) d.out.length cap) (load_rms _ E 3 _ _ _ ((HW.out _ bz).1.cell rfl)) ?_)
              simp only [List.getElem_toArray, List.getElem_cons_succ, List.getElem_cons_zero, Act.put, List.setIfInBounds_toArray, List.set_cons_succ, List.set_cons_zero]
              refine wpAny_take (i := 7) (v := (v1)) rfl (by kernel_rfl) (by kernel_rfl) (by kernel_rfl) (fun _ _ _ h => h) (.inl ⟨rfl, fun _ => by simp [execOp, go_sem, Act.eval, hs1]⟩) ?_
              simp only [List.getElem_toArray, List.getElem_cons_succ, List.getElem_cons_zero, Act.put, List.setIfInBounds_toArray, List.set_cons_succ, List.set_cons_zero]
              refine wpAny_all (rs := [8]) (by kernel_rfl) (by simp) ?_
              intro k hk
              simp only [List.mem_cons, List.mem_nil_iff, or_false] at hk
              subst hk
              refine wpOp_run rfl rfl (wp_append_wide DR _ _ 36 90 _ _ Try.underlying36 infoRmZ rfl rfl w5.heap.size (.slice (some ⟨w5.heap.size, 0, none⟩) 0 0) [] rfl (by exact own_empty_e w5 90 13) _ (d.out.take k) rfl (HW.out _ bz).2.1 (by unfold maxLen; simp; omega) (by simp; omega) (by rw [size_alloc]; omega) ?_)
              intro v6 w6 P6 G6
              have b6 : Below w5.heap.size w5 w6 := bz.trans (((Below.refl w5.heap.size _).grown G6 (by rw [size_alloc]; omega) (by simp [Value.ownBlock])).mono (by omega))
              have P6' : w6.ownsRow w5.heap.size 90 13 v6 (d.out.take k).length (flatW DR (d.out.take k)) := own_lower P6 (by omega)
              simp only [List.getElem_toArray, List.getElem_cons_succ, List.getElem_cons_zero, Act.put, List.setIfInBounds_toArray, List.set_cons_succ, List.set_cons_zero]
              refine wpAny_all (rs := [16]) (by kernel_rfl) (by simp) ?_
              intro k hk
              simp only [List.mem_cons, List.mem_nil_iff, or_false] at hk
              subst hk
              refine wpOp_run rfl rfl (wp_append_wide DR _ _ 36 90 _ _ Try.underlying36 infoRmZ rfl rfl w5.heap.size v6 (d.out.take k) rfl P6' _ (d.out.drop (k + 1)) rfl (HW.out _ b6).2.2.1 (by unfold maxLen; simp; omega) (by simp; omega) b6.size ?_)
              intro v9 w9 P9 G9
              have B9 : Below w5.heap.size w5 w9 := ⟨G9.os.trans b6.os, G9.tape.trans b6.tape, G9.output.trans b6.output, Nat.le_trans b6.size G9.size, fun k hk => (G9.block k (Nat.lt_of_lt_of_le hk b6.size) (fun e => by have := own_base P6' e.symm; omega)).trans (b6.block k hk)⟩
              have A9 := (HW.out _ B9).1
              obtain ⟨a9, c9, hv9⟩ := own_shape5 P9
              subst hv9
              simp only [List.getElem_toArray, List.getElem_cons_succ, List.getElem_cons_zero, Act.put, List.setIfInBounds_toArray, List.set_cons_succ, List.set_cons_zero]
              refine wpAny_take (i := 17) (v := (.pointer (some ⟨E, 0, none⟩))) rfl (by kernel_rfl) (by kernel_rfl) (by kernel_rfl) (fun _ _ _ h => h) (.inl ⟨rfl, fun _ => by simp [execOp, go_sem, Act.eval]⟩) ?_
              simp only [List.getElem_toArray, List.getElem_cons_succ, List.getElem_cons_zero, Act.put, List.setIfInBounds_toArray, List.set_cons_succ, List.set_cons_zero]
              refine wpAny_take (i := 18) (v := (.pointer (some ⟨E, 3, none⟩))) rfl (by kernel_rfl) (by kernel_rfl) (by kernel_rfl) (fun _ _ _ h => h) (.inl ⟨rfl, fun _ => by simp [execOp, go_sem, Act.eval]⟩) ?_
              simp only [List.getElem_toArray, List.getElem_cons_succ, List.getElem_cons_zero, Act.put, List.setIfInBounds_toArray, List.set_cons_succ, List.set_cons_zero]
              refine wpAny_all (rs := [19]) (by kernel_rfl) (by simp) ?_
              intro k hk
              simp only [List.mem_cons, List.mem_nil_iff, or_false] at hk
              subst hk
              refine wpOp_run rfl rfl (wp_store_cell 36 _ _ rfl E 3 rfl _ rfl (store_rms w9 E 3 _ a9 _ c9 (A9.cell rfl) (A9.free 3)) ?_)
              simp only [List.getElem_toArray, List.getElem_cons_succ, List.getElem_cons_zero, Act.put, List.setIfInBounds_toArray, List.set_cons_succ, List.set_cons_zero]
              refine wpAny_done (by kernel_rfl) ?_ _
              have HX : Hid (∀ n, n = (d.out.take k ++ d.out.drop (k + 1)).length → DcP E { d with out := d.out.take k ++ d.out.drop (k + 1) } vI w (w9.setCell ⟨E, 3, none⟩ (.slice a9 n c9))) := fun n hn => by subst hn; exact hh.setO (by rw [hq]; exact (HW.out _ B9).2.2.2) _ _ P9 (by have := hh.b0; simp; omega)
              clear HW P6' P9 G9 A9 P6 G6 HW1 HW2
              go_wp2
              go_ret
              exact .inl ⟨rfl, k, HA'.out, HX.out _ (by first | rfl | (simp; omega) | simp)⟩
            · refine wpOp_run rfl rfl (wp_load_cell 36 _ rfl E 3 rfl (.slice (some ⟨b, off, none⟩) d.out.length cap) (load_rms _ E 3 _ _ _ ((HW.out _ r0).1.cell rfl)) ?_)
              simp only [List.getElem_toArray, List.getElem_cons_succ, List.getElem_cons_zero, Act.put, List.setIfInBounds_toArray, List.set_cons_succ, List.set_cons_zero]
              refine wpAny_take (i := 7) (v := (v1)) rfl (by kernel_rfl) (by kernel_rfl) (by kernel_rfl) (fun _ _ _ h => h) (.inl ⟨rfl, fun _ => by simp [execOp, go_sem, Act.eval, hs1]⟩) ?_
              simp only [List.getElem_toArray, List.getElem_cons_succ, List.getElem_cons_zero, Act.put, List.setIfInBounds_toArray, List.set_cons_succ, List.set_cons_zero]
              refine wpAny_all (rs := [1]) (by kernel_rfl) (by simp) ?_
              intro k hk
              simp only [List.mem_cons, List.mem_nil_iff, or_false] at hk
              subst hk
              refine wpOp_run rfl rfl (wp_bs0g Try.underlying36 infoRmZ rfl ?_)
              have bz := r0.alloc r0.size (.cells #[] 90)
              simp only [List.getElem_toArray, List.getElem_cons_succ, List.getElem_cons_zero, Act.put, List.setIfInBounds_toArray, List.set_cons_succ, List.set_cons_zero]
              refine wpAny_all (rs := [8]) (by kernel_rfl) (by simp) ?_
              intro k hk
              simp only [List.mem_cons, List.mem_nil_iff, or_false] at hk
              subst hk
              refine wpOp_run rfl rfl (wp_append_wide DR _ _ 36 90 _ _ Try.underlying36 infoRmZ rfl rfl w5.heap.size (.slice (some ⟨w5.heap.size, 0, none⟩) 0 0) [] rfl (by exact own_empty_e w5 90 13) _ (d.out.take k) rfl (HW.out _ bz).2.1 (by unfold maxLen; simp; omega) (by simp; omega) (by rw [size_alloc]; omega) ?_)
              intro v6 w6 P6 G6
              have b6 : Below w5.heap.size w5 w6 := bz.trans (((Below.refl w5.heap.size _).grown G6 (by rw [size_alloc]; omega) (by simp [Value.ownBlock])).mono (by omega))
              have P6' : w6.ownsRow w5.heap.size 90 13 v6 (d.out.take k).length (flatW DR (d.out.take k)) := own_lower P6 (by omega)
              simp only [List.getElem_toArray, List.getElem_cons_succ, List.getElem_cons_zero, Act.put, List.setIfInBounds_toArray, List.set_cons_succ, List.set_cons_zero]
              refine wpAny_all (rs := [16]) (by kernel_rfl) (by simp) ?_
              intro k hk
              simp only [List.mem_cons, List.mem_nil_iff, or_false] at hk
              subst hk
              refine wpOp_run rfl rfl (wp_append_wide DR _ _ 36 90 _ _ Try.underlying36 infoRmZ rfl rfl w5.heap.size v6 (d.out.take k) rfl P6' _ (d.out.drop (k + 1)) rfl (HW.out _ b6).2.2.1 (by unfold maxLen; simp; omega) (by simp; omega) b6.size ?_)
              intro v9 w9 P9 G9
              have B9 : Below w5.heap.size w5 w9 := ⟨G9.os.trans b6.os, G9.tape.trans b6.tape, G9.output.trans b6.output, Nat.le_trans b6.size G9.size, fun k hk => (G9.block k (Nat.lt_of_lt_of_le hk b6.size) (fun e => by have := own_base P6' e.symm; omega)).trans (b6.block k hk)⟩
              have A9 := (HW.out _ B9).1
              obtain ⟨a9, c9, hv9⟩ := own_shape5 P9
              subst hv9
              simp only [List.getElem_toArray, List.getElem_cons_succ, List.getElem_cons_zero, Act.put, List.setIfInBounds_toArray, List.set_cons_succ, List.set_cons_zero]
              refine wpAny_take (i := 17) (v := (.pointer (some ⟨E, 0, none⟩))) rfl (by kernel_rfl) (by kernel_rfl) (by kernel_rfl) (fun _ _ _ h => h) (.inl ⟨rfl, fun _ => by simp [execOp, go_sem, Act.eval]⟩) ?_
              simp only [List.getElem_toArray, List.getElem_cons_succ, List.getElem_cons_zero, Act.put, List.setIfInBounds_toArray, List.set_cons_succ, List.set_cons_zero]
              refine wpAny_take (i := 18) (v := (.pointer (some ⟨E, 3, none⟩))) rfl (by kernel_rfl) (by kernel_rfl) (by kernel_rfl) (fun _ _ _ h => h) (.inl ⟨rfl, fun _ => by simp [execOp, go_sem, Act.eval]⟩) ?_
              simp only [List.getElem_toArray, List.getElem_cons_succ, List.getElem_cons_zero, Act.put, List.setIfInBounds_toArray, List.set_cons_succ, List.set_cons_zero]
              refine wpAny_all (rs := [19]) (by kernel_rfl) (by simp) ?_
              intro k hk
              simp only [List.mem_cons, List.mem_nil_iff, or_false] at hk
              subst hk
              refine wpOp_run rfl rfl (wp_store_cell 36 _ _ rfl E 3 rfl _ rfl (store_rms w9 E 3 _ a9 _ c9 (A9.cell rfl) (A9.free 3)) ?_)
              simp only [List.getElem_toArray, List.getElem_cons_succ, List.getElem_cons_zero, Act.put, List.setIfInBounds_toArray, List.set_cons_succ, List.set_cons_zero]
              refine wpAny_done (by kernel_rfl) ?_ _
              have HX : Hid (∀ n, n = (d.out.take k ++ d.out.drop (k + 1)).length → DcP E { d with out := d.out.take k ++ d.out.drop (k + 1) } vI w (w9.setCell ⟨E, 3, none⟩ (.slice a9 n c9))) := fun n hn => by subst hn; exact hh.setO (by rw [hq]; exact (HW.out _ B9).2.2.2) _ _ P9 (by have := hh.b0; simp; omega)
              clear HW P6' P9 G9 A9 P6 G6 HW1 HW2
              go_wp2
              go_ret
              exact .inl ⟨rfl, k, HA'.out, HX.out _ (by first | rfl | (simp; omega) | simp)⟩
        · subst hn
          have hz2 : (z == t) = true := by simpa using hs
          clear hs
          go_wp2_with fail
          refine wp_region_any (by kernel_rfl) ?_
          obtain ⟨w5, hw5⟩ : ∃ x : World, { wr with drawn := wr.drawn + 1 } = x := ⟨_, rfl⟩
          rw [hw5]
          have b5 : Below q w w5 := by rw [← hw5]; exact below_drawn BX 1
          have r0 := Below.refl w5.heap.size w5
          have s5 : q ≤ w5.heap.size := by have := b5.size; omega
          have HW : Hid (∀ x, Below w5.heap.size w5 x → Er E (rA d.most d.room vL (.slice (some ⟨b, off, none⟩) d.out.length cap) d.tk vI d.lo) x ∧ Wide 13 rmC x v1 (d.out.take k) ∧ Wide 13 rmC x v2 (d.out.drop (k + 1)) ∧ Below q w x) := fun x hx => by
            have hb : Below q w x := b5.trans (hx.mono s5)
            obtain ⟨a1, a2⟩ := HI.out x hb
            exact ⟨a1, HW1.out x a2, HW2.out x a2, hb⟩
          have hkb : k < 64 := by omega
          have hwr : IntKind.wrap .i64 ((k : Int) + 1) = (k : Int) + 1 := by simp [IntKind.wrap, IntKind.signed, IntKind.bits]; omega
          clear hw5 A3 W3 c3 HI
          refine wpAny_take (i := 0) (v := (.pointer (some ⟨E, 0, none⟩))) rfl (by kernel_rfl) (by kernel_rfl) (by kernel_rfl) (fun _ _ _ h => h) (.inl ⟨rfl, fun _ => rfl⟩) ?_
          simp only [List.getElem_toArray, List.getElem_cons_succ, List.getElem_cons_zero, Act.put, List.setIfInBounds_toArray, List.set_cons_succ, List.set_cons_zero]
          refine wpAny_take (i := 2) (v := (.pointer (some ⟨E, 0, none⟩))) rfl (by kernel_rfl) (by kernel_rfl) (by kernel_rfl) (fun _ _ _ h => h) (.inl ⟨rfl, fun _ => rfl⟩) ?_
          simp only [List.getElem_toArray, List.getElem_cons_succ, List.getElem_cons_zero, Act.put, List.setIfInBounds_toArray, List.set_cons_succ, List.set_cons_zero]
          refine wpAny_take (i := 3) (v := (.pointer (some ⟨E, 0, none⟩))) rfl (by kernel_rfl) (by kernel_rfl) (by kernel_rfl) (fun _ _ _ h => h) (.inl ⟨rfl, fun _ => by simp [execOp, go_sem, Act.eval]⟩) ?_
          simp only [List.getElem_toArray, List.getElem_cons_succ, List.getElem_cons_zero, Act.put, List.setIfInBounds_toArray, List.set_cons_succ, List.set_cons_zero]
          refine wpAny_take (i := 4) (v := (.pointer (some ⟨E, 3, none⟩))) rfl (by kernel_rfl) (by kernel_rfl) (by kernel_rfl) (fun _ _ _ h => h) (.inl ⟨rfl, fun _ => by simp [execOp, go_sem, Act.eval]⟩) ?_
          simp only [List.getElem_toArray, List.getElem_cons_succ, List.getElem_cons_zero, Act.put, List.setIfInBounds_toArray, List.set_cons_succ, List.set_cons_zero]
          refine wpAny_take (i := 6) (v := (.int .i64 k)) rfl (by kernel_rfl) (by kernel_rfl) (by kernel_rfl) (fun _ _ _ h => h) (.inl ⟨rfl, fun _ => rfl⟩) ?_
          simp only [List.getElem_toArray, List.getElem_cons_succ, List.getElem_cons_zero, Act.put, List.setIfInBounds_toArray, List.set_cons_succ, List.set_cons_zero]
          refine wpAny_take (i := 9) (v := (.pointer (some ⟨E, 0, none⟩))) rfl (by kernel_rfl) (by kernel_rfl) (by kernel_rfl) (fun _ _ _ h => h) (.inl ⟨rfl, fun _ => rfl⟩) ?_
          simp only [List.getElem_toArray, List.getElem_cons_succ, List.getElem_cons_zero, Act.put, List.setIfInBounds_toArray, List.set_cons_succ, List.set_cons_zero]
          refine wpAny_take (i := 10) (v := (.pointer (some ⟨E, 0, none⟩))) rfl (by kernel_rfl) (by kernel_rfl) (by kernel_rfl) (fun _ _ _ h => h) (.inl ⟨rfl, fun _ => by simp [execOp, go_sem, Act.eval]⟩) ?_
          simp only [List.getElem_toArray, List.getElem_cons_succ, List.getElem_cons_zero, Act.put, List.setIfInBounds_toArray, List.set_cons_succ, List.set_cons_zero]
          refine wpAny_take (i := 11) (v := (.pointer (some ⟨E, 3, none⟩))) rfl (by kernel_rfl) (by kernel_rfl) (by kernel_rfl) (fun _ _ _ h => h) (.inl ⟨rfl, fun _ => by simp [execOp, go_sem, Act.eval]⟩) ?_
          simp only [List.getElem_toArray, List.getElem_cons_succ, List.getElem_cons_zero, Act.put, List.setIfInBounds_toArray, List.set_cons_succ, List.set_cons_zero]
          refine wpAny_take (i := 13) (v := (.int .i64 k)) rfl (by kernel_rfl) (by kernel_rfl) (by kernel_rfl) (fun _ _ _ h => h) (.inl ⟨rfl, fun _ => rfl⟩) ?_
          simp only [List.getElem_toArray, List.getElem_cons_succ, List.getElem_cons_zero, Act.put, List.setIfInBounds_toArray, List.set_cons_succ, List.set_cons_zero]
          refine wpAny_take (i := 14) (v := (.int .i64 ((k : Int) + 1))) rfl (by kernel_rfl) (by kernel_rfl) (by kernel_rfl) (fun _ _ _ h => h) (.inl ⟨rfl, fun _ => by simp [execOp, go_sem, Act.eval, hwr]⟩) ?_
          simp only [List.getElem_toArray, List.getElem_cons_succ, List.getElem_cons_zero, Act.put, List.setIfInBounds_toArray, List.set_cons_succ, List.set_cons_zero]
          refine wpAny_all (rs := [1, 5, 12]) (by kernel_rfl) (by simp) ?_
          intro k hk
          simp only [List.mem_cons, List.mem_nil_iff, or_false] at hk
          rcases hk with rfl | rfl | rfl
          · refine wpOp_run rfl rfl (wp_bs0g Try.underlying36 infoRmZ rfl ?_)
            have bz := r0.alloc r0.size (.cells #[] 90)
            simp only [List.getElem_toArray, List.getElem_cons_succ, List.getElem_cons_zero, Act.put, List.setIfInBounds_toArray, List.set_cons_succ, List.set_cons_zero]
            refine wpAny_all (rs := [5, 12]) (by kernel_rfl) (by simp) ?_
            intro k hk
            simp only [List.mem_cons, List.mem_nil_iff, or_false] at hk
            rcases hk with rfl | rfl
            · refine wpOp_run rfl rfl (wp_load_cell 36 _ rfl E 3 rfl (.slice (some ⟨b, off, none⟩) d.out.length cap) (load_rms _ E 3 _ _ _ ((HW.out _ bz).1.cell rfl)) ?_)
              simp only [List.getElem_toArray, List.getElem_cons_succ, List.getElem_cons_zero, Act.put, List.setIfInBounds_toArray, List.set_cons_succ, List.set_cons_zero]
              refine wpAny_take (i := 7) (v := (v1)) rfl (by kernel_rfl) (by kernel_rfl) (by kernel_rfl) (fun _ _ _ h => h) (.inl ⟨rfl, fun _ => by simp [execOp, go_sem, Act.eval, hs1]⟩) ?_
              simp only [List.getElem_toArray, List.getElem_cons_succ, List.getElem_cons_zero, Act.put, List.setIfInBounds_toArray, List.set_cons_succ, List.set_cons_zero]
              refine wpAny_all (rs := [8, 12]) (by kernel_rfl) (by simp) ?_
              intro k hk
              simp only [List.mem_cons, List.mem_nil_iff, or_false] at hk
              rcases hk with rfl | rfl
              · refine wpOp_run rfl rfl (wp_append_wide DR _ _ 36 90 _ _ Try.underlying36 infoRmZ rfl rfl w5.heap.size (.slice (some ⟨w5.heap.size, 0, none⟩) 0 0) [] rfl (by exact own_empty_e w5 90 13) _ (d.out.take k) rfl (HW.out _ bz).2.1 (by unfold maxLen; simp; omega) (by simp; omega) (by rw [size_alloc]; omega) ?_)
                intro v6 w6 P6 G6
                have b6 : Below w5.heap.size w5 w6 := bz.trans (((Below.refl w5.heap.size _).grown G6 (by rw [size_alloc]; omega) (by simp [Value.ownBlock])).mono (by omega))
                have P6' : w6.ownsRow w5.heap.size 90 13 v6 (d.out.take k).length (flatW DR (d.out.take k)) := own_lower P6 (by omega)
                simp only [List.getElem_toArray, List.getElem_cons_succ, List.getElem_cons_zero, Act.put, List.setIfInBounds_toArray, List.set_cons_succ, List.set_cons_zero]
                refine wpAny_all (rs := [12]) (by kernel_rfl) (by simp) ?_
                intro k hk
                simp only [List.mem_cons, List.mem_nil_iff, or_false] at hk
                subst hk
                refine wpOp_run rfl rfl (wp_load_cell 36 _ rfl E 3 rfl (.slice (some ⟨b, off, none⟩) d.out.length cap) (load_rms _ E 3 _ _ _ ((HW.out _ b6).1.cell rfl)) ?_)
                simp only [List.getElem_toArray, List.getElem_cons_succ, List.getElem_cons_zero, Act.put, List.setIfInBounds_toArray, List.set_cons_succ, List.set_cons_zero]
                refine wpAny_take (i := 15) (v := (v2)) rfl (by kernel_rfl) (by kernel_rfl) (by kernel_rfl) (fun _ _ _ h => h) (.inl ⟨rfl, fun _ => by simp [execOp, go_sem, Act.eval, hs2]⟩) ?_
                simp only [List.getElem_toArray, List.getElem_cons_succ, List.getElem_cons_zero, Act.put, List.setIfInBounds_toArray, List.set_cons_succ, List.set_cons_zero]
                refine wpAny_all (rs := [16]) (by kernel_rfl) (by simp) ?_
                intro k hk
                simp only [List.mem_cons, List.mem_nil_iff, or_false] at hk
                subst hk
                refine wpOp_run rfl rfl (wp_append_wide DR _ _ 36 90 _ _ Try.underlying36 infoRmZ rfl rfl w5.heap.size v6 (d.out.take k) rfl P6' _ (d.out.drop (k + 1)) rfl (HW.out _ b6).2.2.1 (by unfold maxLen; simp; omega) (by simp; omega) b6.size ?_)
                intro v9 w9 P9 G9
                have B9 : Below w5.heap.size w5 w9 := ⟨G9.os.trans b6.os, G9.tape.trans b6.tape, G9.output.trans b6.output, Nat.le_trans b6.size G9.size, fun k hk => (G9.block k (Nat.lt_of_lt_of_le hk b6.size) (fun e => by have := own_base P6' e.symm; omega)).trans (b6.block k hk)⟩
                have A9 := (HW.out _ B9).1
                obtain ⟨a9, c9, hv9⟩ := own_shape5 P9
                subst hv9
                simp only [List.getElem_toArray, List.getElem_cons_succ, List.getElem_cons_zero, Act.put, List.setIfInBounds_toArray, List.set_cons_succ, List.set_cons_zero]
                refine wpAny_take (i := 17) (v := (.pointer (some ⟨E, 0, none⟩))) rfl (by kernel_rfl) (by kernel_rfl) (by kernel_rfl) (fun _ _ _ h => h) (.inl ⟨rfl, fun _ => by simp [execOp, go_sem, Act.eval]⟩) ?_
                simp only [List.getElem_toArray, List.getElem_cons_succ, List.getElem_cons_zero, Act.put, List.setIfInBounds_toArray, List.set_cons_succ, List.set_cons_zero]
                refine wpAny_take (i := 18) (v := (.pointer (some ⟨E, 3, none⟩))) rfl (by kernel_rfl) (by kernel_rfl) (by kernel_rfl) (fun _ _ _ h => h) (.inl ⟨rfl, fun _ => by simp [execOp, go_sem, Act.eval]⟩) ?_
                simp only [List.getElem_toArray, List.getElem_cons_succ, List.getElem_cons_zero, Act.put, List.setIfInBounds_toArray, List.set_cons_succ, List.set_cons_zero]
                refine wpAny_all (rs := [19]) (by kernel_rfl) (by simp) ?_
                intro k hk
                simp only [List.mem_cons, List.mem_nil_iff, or_false] at hk
                subst hk
                refine wpOp_run rfl rfl (wp_store_cell 36 _ _ rfl E 3 rfl _ rfl (store_rms w9 E 3 _ a9 _ c9 (A9.cell rfl) (A9.free 3)) ?_)
                simp only [List.getElem_toArray, List.getElem_cons_succ, List.getElem_cons_zero, Act.put, List.setIfInBounds_toArray, List.set_cons_succ, List.set_cons_zero]
                refine wpAny_done (by kernel_rfl) ?_ _
                have HX : Hid (∀ n, n = (d.out.take k ++ d.out.drop (k + 1)).length → DcP E { d with out := d.out.take k ++ d.out.drop (k + 1) } vI w (w9.setCell ⟨E, 3, none⟩ (.slice a9 n c9))) := fun n hn => by subst hn; exact hh.setO (by rw [hq]; exact (HW.out _ B9).2.2.2) _ _ P9 (by have := hh.b0; simp; omega)
                clear HW P6' P9 G9 A9 P6 G6 HW1 HW2
                go_wp2
                go_ret
                exact .inl ⟨rfl, k, HA'.out, HX.out _ (by first | rfl | (simp; omega) | simp)⟩
              · refine wpOp_run rfl rfl (wp_load_cell 36 _ rfl E 3 rfl (.slice (some ⟨b, off, none⟩) d.out.length cap) (load_rms _ E 3 _ _ _ ((HW.out _ bz).1.cell rfl)) ?_)
                simp only [List.getElem_toArray, List.getElem_cons_succ, List.getElem_cons_zero, Act.put, List.setIfInBounds_toArray, List.set_cons_succ, List.set_cons_zero]
                refine wpAny_take (i := 15) (v := (v2)) rfl (by kernel_rfl) (by kernel_rfl) (by kernel_rfl) (fun _ _ _ h => h) (.inl ⟨rfl, fun _ => by simp [execOp, go_sem, Act.eval, hs2]⟩) ?_
                simp only [List.getElem_toArray, List.getElem_cons_succ, List.getElem_cons_zero, Act.put, List.setIfInBounds_toArray, List.set_cons_succ, List.set_cons_zero]
                refine wpAny_all (rs := [8]) (by kernel_rfl) (by simp) ?_
                intro k hk
                simp only [List.mem_cons, List.mem_nil_iff, or_false] at hk
                subst hk
                refine wpOp_run rfl rfl (wp_append_wide DR _ _ 36 90 _ _ Try.underlying36 infoRmZ rfl rfl w5.heap.size (.slice (some ⟨w5.heap.size, 0, none⟩) 0 0) [] rfl (by exact own_empty_e w5 90 13) _ (d.out.take k) rfl (HW.out _ bz).2.1 (by unfold maxLen; simp; omega) (by simp; omega) (by rw [size_alloc]; omega) ?_)
                intro v6 w6 P6 G6
                have b6 : Below w5.heap.size w5 w6 := bz.trans (((Below.refl w5.heap.size _).grown G6 (by rw [size_alloc]; omega) (by simp [Value.ownBlock])).mono (by omega))
                have P6' : w6.ownsRow w5.heap.size 90 13 v6 (d.out.take k).length (flatW DR (d.out.take k)) := own_lower P6 (by omega)
                simp only [List.getElem_toArray, List.getElem_cons_succ, List.getElem_cons_zero, Act.put, List.setIfInBounds_toArray, List.set_cons_succ, List.set_cons_zero]
                refine wpAny_all (rs := [16]) (by kernel_rfl) (by simp) ?_
                intro k hk
                simp only [List.mem_cons, List.mem_nil_iff, or_false] at hk
                subst hk
                refine wpOp_run rfl rfl (wp_append_wide DR _ _ 36 90 _ _ Try.underlying36 infoRmZ rfl rfl w5.heap.size v6 (d.out.take k) rfl P6' _ (d.out.drop (k + 1)) rfl (HW.out _ b6).2.2.1 (by unfold maxLen; simp; omega) (by simp; omega) b6.size ?_)
                intro v9 w9 P9 G9
                have B9 : Below w5.heap.size w5 w9 := ⟨G9.os.trans b6.os, G9.tape.trans b6.tape, G9.output.trans b6.output, Nat.le_trans b6.size G9.size, fun k hk => (G9.block k (Nat.lt_of_lt_of_le hk b6.size) (fun e => by have := own_base P6' e.symm; omega)).trans (b6.block k hk)⟩
                have A9 := (HW.out _ B9).1
                obtain ⟨a9, c9, hv9⟩ := own_shape5 P9
                subst hv9
                simp only [List.getElem_toArray, List.getElem_cons_succ, List.getElem_cons_zero, Act.put, List.setIfInBounds_toArray, List.set_cons_succ, List.set_cons_zero]
                refine wpAny_take (i := 17) (v := (.pointer (some ⟨E, 0, none⟩))) rfl (by kernel_rfl) (by kernel_rfl) (by kernel_rfl) (fun _ _ _ h => h) (.inl ⟨rfl, fun _ => by simp [execOp, go_sem, Act.eval]⟩) ?_
                simp only [List.getElem_toArray, List.getElem_cons_succ, List.getElem_cons_zero, Act.put, List.setIfInBounds_toArray, List.set_cons_succ, List.set_cons_zero]
                refine wpAny_take (i := 18) (v := (.pointer (some ⟨E, 3, none⟩))) rfl (by kernel_rfl) (by kernel_rfl) (by kernel_rfl) (fun _ _ _ h => h) (.inl ⟨rfl, fun _ => by simp [execOp, go_sem, Act.eval]⟩) ?_
                simp only [List.getElem_toArray, List.getElem_cons_succ, List.getElem_cons_zero, Act.put, List.setIfInBounds_toArray, List.set_cons_succ, List.set_cons_zero]
                refine wpAny_all (rs := [19]) (by kernel_rfl) (by simp) ?_
                intro k hk
                simp only [List.mem_cons, List.mem_nil_iff, or_false] at hk
                subst hk
                refine wpOp_run rfl rfl (wp_store_cell 36 _ _ rfl E 3 rfl _ rfl (store_rms w9 E 3 _ a9 _ c9 (A9.cell rfl) (A9.free 3)) ?_)
                simp only [List.getElem_toArray, List.getElem_cons_succ, List.getElem_cons_zero, Act.put, List.setIfInBounds_toArray, List.set_cons_succ, List.set_cons_zero]
                refine wpAny_done (by kernel_rfl) ?_ _
                have HX : Hid (∀ n, n = (d.out.take k ++ d.out.drop (k + 1)).length → DcP E { d with out := d.out.take k ++ d.out.drop (k + 1) } vI w (w9.setCell ⟨E, 3, none⟩ (.slice a9 n c9))) := fun n hn => by subst hn; exact hh.setO (by rw [hq]; exact (HW.out _ B9).2.2.2) _ _ P9 (by have := hh.b0; simp; omega)
                clear HW P6' P9 G9 A9 P6 G6 HW1 HW2
                go_wp2
                go_ret
                exact .inl ⟨rfl, k, HA'.out, HX.out _ (by first | rfl | (simp; omega) | simp)⟩
            · refine wpOp_run rfl rfl (wp_load_cell 36 _ rfl E 3 rfl (.slice (some ⟨b, off, none⟩) d.out.length cap) (load_rms _ E 3 _ _ _ ((HW.out _ bz).1.cell rfl)) ?_)
              simp only [List.getElem_toArray, List.getElem_cons_succ, List.getElem_cons_zero, Act.put, List.setIfInBounds_toArray, List.set_cons_succ, List.set_cons_zero]
              refine wpAny_take (i := 15) (v := (v2)) rfl (by kernel_rfl) (by kernel_rfl) (by kernel_rfl) (fun _ _ _ h => h) (.inl ⟨rfl, fun _ => by simp [execOp, go_sem, Act.eval, hs2]⟩) ?_
              simp only [List.getElem_toArray, List.getElem_cons_succ, List.getElem_cons_zero, Act.put, List.setIfInBounds_toArray, List.set_cons_succ, List.set_cons_zero]
              refine wpAny_all (rs := [5]) (by kernel_rfl) (by simp) ?_
              intro k hk
              simp only [List.mem_cons, List.mem_nil_iff, or_false] at hk
              subst hk
              refine wpOp_run rfl rfl (wp_load_cell 36 _ rfl E 3 rfl (.slice (some ⟨b, off, none⟩) d.out.length cap) (load_rms _ E 3 _ _ _ ((HW.out _ bz).1.cell rfl)) ?_)
              simp only [List.getElem_toArray, List.getElem_cons_succ, List.getElem_cons_zero, Act.put, List.setIfInBounds_toArray, List.set_cons_succ, List.set_cons_zero]
              refine wpAny_take (i := 7) (v := (v1)) rfl (by kernel_rfl) (by kernel_rfl) (by kernel_rfl) (fun _ _ _ h => h) (.inl ⟨rfl, fun _ => by simp [execOp, go_sem, Act.eval, hs1]⟩) ?_
              simp only [List.getElem_toArray, List.getElem_cons_succ, List.getElem_cons_zero, Act.put, List.setIfInBounds_toArray, List.set_cons_succ, List.set_cons_zero]
              refine wpAny_all (rs := [8]) (by kernel_rfl) (by simp) ?_
              intro k hk
              simp only [List.mem_cons, List.mem_nil_iff, or_false] at hk
              subst hk
              refine wpOp_run rfl rfl (wp_append_wide DR _ _ 36 90 _ _ Try.underlying36 infoRmZ rfl rfl w5.heap.size (.slice (some ⟨w5.heap.size, 0, none⟩) 0 0) [] rfl (by exact own_empty_e w5 90 13) _ (d.out.take k) rfl (HW.out _ bz).2.1 (by unfold maxLen; simp; omega) (by simp; omega) (by rw [size_alloc]; omega) ?_)
              intro v6 w6 P6 G6
              have b6 : Below w5.heap.size w5 w6 := bz.trans (((Below.refl w5.heap.size _).grown G6 (by rw [size_alloc]; omega) (by simp [Value.ownBlock])).mono (by omega))
              have P6' : w6.ownsRow w5.heap.size 90 13 v6 (d.out.take k).length (flatW DR (d.out.take k)) := own_lower P6 (by omega)
              simp only [List.getElem_toArray, List.getElem_cons_succ, List.getElem_cons_zero, Act.put, List.setIfInBounds_toArray, List.set_cons_succ, List.set_cons_zero]
              refine wpAny_all (rs := [16]) (by kernel_rfl) (by simp) ?_
              intro k hk
              simp only [List.mem_cons, List.mem_nil_iff, or_false] at hk
              subst hk
              refine wpOp_run rfl rfl (wp_append_wide DR _ _ 36 90 _ _ Try.underlying36 infoRmZ rfl rfl w5.heap.size v6 (d.out.take k) rfl P6' _ (d.out.drop (k + 1)) rfl (HW.out _ b6).2.2.1 (by unfold maxLen; simp; omega) (by simp; omega) b6.size ?_)
              intro v9 w9 P9 G9
              have B9 : Below w5.heap.size w5 w9 := ⟨G9.os.trans b6.os, G9.tape.trans b6.tape, G9.output.trans b6.output, Nat.le_trans b6.size G9.size, fun k hk => (G9.block k (Nat.lt_of_lt_of_le hk b6.size) (fun e => by have := own_base P6' e.symm; omega)).trans (b6.block k hk)⟩
              have A9 := (HW.out _ B9).1
              obtain ⟨a9, c9, hv9⟩ := own_shape5 P9
              subst hv9
              simp only [List.getElem_toArray, List.getElem_cons_succ, List.getElem_cons_zero, Act.put, List.setIfInBounds_toArray, List.set_cons_succ, List.set_cons_zero]
              refine wpAny_take (i := 17) (v := (.pointer (some ⟨E, 0, none⟩))) rfl (by kernel_rfl) (by kernel_rfl) (by kernel_rfl) (fun _ _ _ h => h) (.inl ⟨rfl, fun _ => by simp [execOp, go_sem, Act.eval]⟩) ?_
              simp only [List.getElem_toArray, List.getElem_cons_succ, List.getElem_cons_zero, Act.put, List.setIfInBounds_toArray, List.set_cons_succ, List.set_cons_zero]
              refine wpAny_take (i := 18) (v := (.pointer (some ⟨E, 3, none⟩))) rfl (by kernel_rfl) (by kernel_rfl) (by kernel_rfl) (fun _ _ _ h => h) (.inl ⟨rfl, fun _ => by simp [execOp, go_sem, Act.eval]⟩) ?_
              simp only [List.getElem_toArray, List.getElem_cons_succ, List.getElem_cons_zero, Act.put, List.setIfInBounds_toArray, List.set_cons_succ, List.set_cons_zero]
              refine wpAny_all (rs := [19]) (by kernel_rfl) (by simp) ?_
              intro k hk
              simp only [List.mem_cons, List.mem_nil_iff, or_false] at hk
              subst hk
              refine wpOp_run rfl rfl (wp_store_cell 36 _ _ rfl E 3 rfl _ rfl (store_rms w9 E 3 _ a9 _ c9 (A9.cell rfl) (A9.free 3)) ?_)
              simp only [List.getElem_toArray, List.getElem_cons_succ, List.getElem_cons_zero, Act.put, List.setIfInBounds_toArray, List.set_cons_succ, List.set_cons_zero]
              refine wpAny_done (by kernel_rfl) ?_ _
              have HX : Hid (∀ n, n = (d.out.take k ++ d.out.drop (k + 1)).length → DcP E { d with out := d.out.take k ++ d.out.drop (k + 1) } vI w (w9.setCell ⟨E, 3, none⟩ (.slice a9 n c9))) := fun n hn => by subst hn; exact hh.setO (by rw [hq]; exact (HW.out _ B9).2.2.2) _ _ P9 (by have := hh.b0; simp; omega)
              clear HW P6' P9 G9 A9 P6 G6 HW1 HW2
              go_wp2
              go_ret
              exact .inl ⟨rfl, k, HA'.out, HX.out _ (by first | rfl | (simp; omega) | simp)⟩
          · refine wpOp_run rfl rfl (wp_load_cell 36 _ rfl E 3 rfl (.slice (some ⟨b, off, none⟩) d.out.length cap) (load_rms _ E 3 _ _ _ ((HW.out _ r0).1.cell rfl)) ?_)
            simp only [List.getElem_toArray, List.getElem_cons_succ, List.getElem_cons_zero, Act.put, List.setIfInBounds_toArray, List.set_cons_succ, List.set_cons_zero]
            refine wpAny_take (i := 7) (v := (v1)) rfl (by kernel_rfl) (by kernel_rfl) (by kernel_rfl) (fun _ _ _ h => h) (.inl ⟨rfl, fun _ => by simp [execOp, go_sem, Act.eval, hs1]⟩) ?_
            simp only [List.getElem_toArray, List.getElem_cons_succ, List.getElem_cons_zero, Act.put, List.setIfInBounds_toArray, List.set_cons_succ, List.set_cons_zero]
            refine wpAny_all (rs := [1, 12]) (by kernel_rfl) (by simp) ?_
            intro k hk
            simp only [List.mem_cons, List.mem_nil_iff, or_false] at hk
            rcases hk with rfl | rfl
            · refine wpOp_run rfl rfl (wp_bs0g Try.underlying36 infoRmZ rfl ?_)
              have bz := r0.alloc r0.size (.cells #[] 90)
              simp only [List.getElem_toArray, List.getElem_cons_succ, List.getElem_cons_zero, Act.put, List.setIfInBounds_toArray, List.set_cons_succ, List.set_cons_zero]
              refine wpAny_all (rs := [8, 12]) (by kernel_rfl) (by simp) ?_
              intro k hk
              simp only [List.mem_cons, List.mem_nil_iff, or_false] at hk
              rcases hk with rfl | rfl
              · refine wpOp_run rfl rfl (wp_append_wide DR _ _ 36 90 _ _ Try.underlying36 infoRmZ rfl rfl w5.heap.size (.slice (some ⟨w5.heap.size, 0, none⟩) 0 0) [] rfl (by exact own_empty_e w5 90 13) _ (d.out.take k) rfl (HW.out _ bz).2.1 (by unfold maxLen; simp; omega) (by simp; omega) (by rw [size_alloc]; omega) ?_)
                intro v6 w6 P6 G6
                have b6 : Below w5.heap.size w5 w6 := bz.trans (((Below.refl w5.heap.size _).grown G6 (by rw [size_alloc]; omega) (by simp [Value.ownBlock])).mono (by omega))
                have P6' : w6.ownsRow w5.heap.size 90 13 v6 (d.out.take k).length (flatW DR (d.out.take k)) := own_lower P6 (by omega)
                simp only [List.getElem_toArray, List.getElem_cons_succ, List.getElem_cons_zero, Act.put, List.setIfInBounds_toArray, List.set_cons_succ, List.set_cons_zero]
                refine wpAny_all (rs := [12]) (by kernel_rfl) (by simp) ?_
                intro k hk
                simp only [List.mem_cons, List.mem_nil_iff, or_false] at hk
                subst hk
                refine wpOp_run rfl rfl (wp_load_cell 36 _ rfl E 3 rfl (.slice (some ⟨b, off, none⟩) d.out.length cap) (load_rms _ E 3 _ _ _ ((HW.out _ b6).1.cell rfl)) ?_)
                simp only [List.getElem_toArray, List.getElem_cons_succ, List.getElem_cons_zero, Act.put, List.setIfInBounds_toArray, List.set_cons_succ, List.set_cons_zero]
                refine wpAny_take (i := 15) (v := (v2)) rfl (by kernel_rfl) (by kernel_rfl) (by kernel_rfl) (fun _ _ _ h => h) (.inl ⟨rfl, fun _ => by simp [execOp, go_sem, Act.eval, hs2]⟩) ?_
                simp only [List.getElem_toArray, List.getElem_cons_succ, List.getElem_cons_zero, Act.put, List.setIfInBounds_toArray, List.set_cons_succ, List.set_cons_zero]
                refine wpAny_all (rs := [16]) (by kernel_rfl) (by simp) ?_
                intro k hk
                simp only [List.mem_cons, List.mem_nil_iff, or_false] at hk
                subst hk
                refine wpOp_run rfl rfl (wp_append_wide DR _ _ 36 90 _ _ Try.underlying36 infoRmZ rfl rfl w5.heap.size v6 (d.out.take k) rfl P6' _ (d.out.drop (k + 1)) rfl (HW.out _ b6).2.2.1 (by unfold maxLen; simp; omega) (by simp; omega) b6.size ?_)
                intro v9 w9 P9 G9
                have B9 : Below w5.heap.size w5 w9 := ⟨G9.os.trans b6.os, G9.tape.trans b6.tape, G9.output.trans b6.output, Nat.le_trans b6.size G9.size, fun k hk => (G9.block k (Nat.lt_of_lt_of_le hk b6.size) (fun e => by have := own_base P6' e.symm; omega)).trans (b6.block k hk)⟩
                have A9 := (HW.out _ B9).1
                obtain ⟨a9, c9, hv9⟩ := own_shape5 P9
                subst hv9
                simp only [List.getElem_toArray, List.getElem_cons_succ, List.getElem_cons_zero, Act.put, List.setIfInBounds_toArray, List.set_cons_succ, List.set_cons_zero]
                refine wpAny_take (i := 17) (v := (.pointer (some ⟨E, 0, none⟩))) rfl (by kernel_rfl) (by kernel_rfl) (by kernel_rfl) (fun _ _ _ h => h) (.inl ⟨rfl, fun _ => by simp [execOp, go_sem, Act.eval]⟩) ?_
                simp only [List.getElem_toArray, List.getElem_cons_succ, List.getElem_cons_zero, Act.put, List.setIfInBounds_toArray, List.set_cons_succ, List.set_cons_zero]
                refine wpAny_take (i := 18) (v := (.pointer (some ⟨E, 3, none⟩))) rfl (by kernel_rfl) (by kernel_rfl) (by kernel_rfl) (fun _ _ _ h => h) (.inl ⟨rfl, fun _ => by simp [execOp, go_sem, Act.eval]⟩) ?_
                simp only [List.getElem_toArray, List.getElem_cons_succ, List.getElem_cons_zero, Act.put, List.setIfInBounds_toArray, List.set_cons_succ, List.set_cons_zero]
                refine wpAny_all (rs := [19]) (by kernel_rfl) (by simp) ?_
                intro k hk
                simp only [List.mem_cons, List.mem_nil_iff, or_false] at hk
                subst hk
                refine wpOp_run rfl rfl (wp_store_cell 36 _ _ rfl E 3 rfl _ rfl (store_rms w9 E 3 _ a9 _ c9 (A9.cell rfl) (A9.free 3)) ?_)
                simp only [List.getElem_toArray, List.getElem_cons_succ, List.getElem_cons_zero, Act.put, List.setIfInBounds_toArray, List.set_cons_succ, List.set_cons_zero]
                refine wpAny_done (by kernel_rfl) ?_ _
                have HX : Hid (∀ n, n = (d.out.take k ++ d.out.drop (k + 1)).length → DcP E { d with out := d.out.take k ++ d.out.drop (k + 1) } vI w (w9.setCell ⟨E, 3, none⟩ (.slice a9 n c9))) := fun n hn => by subst hn; exact hh.setO (by rw [hq]; exact (HW.out _ B9).2.2.2) _ _ P9 (by have := hh.b0; simp; omega)
                clear HW P6' P9 G9 A9 P6 G6 HW1 HW2
                go_wp2
                go_ret
                exact .inl ⟨rfl, k, HA'.out, HX.out _ (by first | rfl | (simp; omega) | simp)⟩
              · refine wpOp_run rfl rfl (wp_load_cell 36 _ rfl E 3 rfl (.slice (some ⟨b, off, none⟩) d.out.length cap) (load_rms _ E 3 _ _ _ ((HW.out _ bz).1.cell rfl)) ?_)
                simp only [List.getElem_toArray, List.getElem_cons_succ, List.getElem_cons_zero, Act.put, List.setIfInBounds_toArray, List.set_cons_succ, List.set_cons_zero]
                refine wpAny_take (i := 15) (v := (v2)) rfl (by kernel_rfl) (by kernel_rfl) (by kernel_rfl) (fun _ _ _ h => h) (.inl ⟨rfl, fun _ => by simp [execOp, go_sem, Act.eval, hs2]⟩) ?_
                simp only [List.getElem_toArray, List.getElem_cons_succ, List.getElem_cons_zero, Act.put, List.setIfInBounds_toArray, List.set_cons_succ, List.set_cons_zero]
                refine wpAny_all (rs := [8]) (by kernel_rfl) (by simp) ?_
                intro k hk
                simp only [List.mem_cons, List.mem_nil_iff, or_false] at hk
                subst hk
                refine wpOp_run rfl rfl (wp_append_wide DR _ _ 36 90 _ _ Try.underlying36 infoRmZ rfl rfl w5.heap.size (.slice (some ⟨w5.heap.size, 0, none⟩) 0 0) [] rfl (by exact own_empty_e w5 90 13) _ (d.out.take k) rfl (HW.out _ bz).2.1 (by unfold maxLen; simp; omega) (by simp; omega) (by rw [size_alloc]; omega) ?_)
                intro v6 w6 P6 G6
                have b6 : Below w5.heap.size w5 w6 := bz.trans (((Below.refl w5.heap.size _).grown G6 (by rw [size_alloc]; omega) (by simp [Value.ownBlock])).mono (by omega))
                have P6' : w6.ownsRow w5.heap.size 90 13 v6 (d.out.take k).length (flatW DR (d.out.take k)) := own_lower P6 (by omega)
                simp only [List.getElem_toArray, List.getElem_cons_succ, List.getElem_cons_zero, Act.put, List.setIfInBounds_toArray, List.set_cons_succ, List.set_cons_zero]
                refine wpAny_all (rs := [16]) (by kernel_rfl) (by simp) ?_
                intro k hk
                simp only [List.mem_cons, List.mem_nil_iff, or_false] at hk
                subst hk
                refine wpOp_run rfl rfl (wp_append_wide DR _ _ 36 90 _ _ Try.underlying36 infoRmZ rfl rfl w5.heap.size v6 (d.out.take k) rfl P6' _ (d.out.drop (k + 1)) rfl (HW.out _ b6).2.2.1 (by unfold maxLen; simp; omega) (by simp; omega) b6.size ?_)
                intro v9 w9 P9 G9
                have B9 : Below w5.heap.size w5 w9 := ⟨G9.os.trans b6.os, G9.tape.trans b6.tape, G9.output.trans b6.output, Nat.le_trans b6.size G9.size, fun k hk => (G9.block k (Nat.lt_of_lt_of_le hk b6.size) (fun e => by have := own_base P6' e.symm; omega)).trans (b6.block k hk)⟩
                have A9 := (HW.out _ B9).1
                obtain ⟨a9, c9, hv9⟩ := own_shape5 P9
                subst hv9
                simp only [List.getElem_toArray, List.getElem_cons_succ, List.getElem_cons_zero, Act.put, List.setIfInBounds_toArray, List.set_cons_succ, List.set_cons_zero]
                refine wpAny_take (i := 17) (v := (.pointer (some ⟨E, 0, none⟩))) rfl (by kernel_rfl) (by kernel_rfl) (by kernel_rfl) (fun _ _ _ h => h) (.inl ⟨rfl, fun _ => by simp [execOp, go_sem, Act.eval]⟩) ?_
                simp only [List.getElem_toArray, List.getElem_cons_succ, List.getElem_cons_zero, Act.put, List.setIfInBounds_toArray, List.set_cons_succ, List.set_cons_zero]
                refine wpAny_take (i := 18) (v := (.pointer (some ⟨E, 3, none⟩))) rfl (by kernel_rfl) (by kernel_rfl) (by kernel_rfl) (fun _ _ _ h => h) (.inl ⟨rfl, fun _ => by simp [execOp, go_sem, Act.eval]⟩) ?_
                simp only [List.getElem_toArray, List.getElem_cons_succ, List.getElem_cons_zero, Act.put, List.setIfInBounds_toArray, List.set_cons_succ, List.set_cons_zero]
                refine wpAny_all (rs := [19]) (by kernel_rfl) (by simp) ?_
                intro k hk
                simp only [List.mem_cons, List.mem_nil_iff, or_false] at hk
                subst hk
                refine wpOp_run rfl rfl (wp_store_cell 36 _ _ rfl E 3 rfl _ rfl (store_rms w9 E 3 _ a9 _ c9 (A9.cell rfl) (A9.free 3)) ?_)
                simp only [List.getElem_toArray, List.getElem_cons_succ, List.getElem_cons_zero, Act.put, List.setIfInBounds_toArray, List.set_cons_succ, List.set_cons_zero]
                refine wpAny_done (by kernel_rfl) ?_ _
                have HX : Hid (∀ n, n = (d.out.take k ++ d.out.drop (k + 1)).length → DcP E { d with out := d.out.take k ++ d.out.drop (k + 1) } vI w (w9.setCell ⟨E, 3, none⟩ (.slice a9 n c9))) := fun n hn => by subst hn; exact hh.setO (by rw [hq]; exact (HW.out _ B9).2.2.2) _ _ P9 (by have := hh.b0; simp; omega)
                clear HW P6' P9 G9 A9 P6 G6 HW1 HW2
                go_wp2
                go_ret
                exact .inl ⟨rfl, k, HA'.out, HX.out _ (by first | rfl | (simp; omega) | simp)⟩
            · refine wpOp_run rfl rfl (wp_load_cell 36 _ rfl E 3 rfl (.slice (some ⟨b, off, none⟩) d.out.length cap) (load_rms _ E 3 _ _ _ ((HW.out _ r0).1.cell rfl)) ?_)
              simp only [List.getElem_toArray, List.getElem_cons_succ, List.getElem_cons_zero, Act.put, List.setIfInBounds_toArray, List.set_cons_succ, List.set_cons_zero]
              refine wpAny_take (i := 15) (v := (v2)) rfl (by kernel_rfl) (by kernel_rfl) (by kernel_rfl) (fun _ _ _ h => h) (.inl ⟨rfl, fun _ => by simp [execOp, go_sem, Act.eval, hs2]⟩) ?_
              simp only [List.getElem_toArray, List.getElem_cons_succ, List.getElem_cons_zero, Act.put, List.setIfInBounds_toArray, List.set_cons_succ, List.set_cons_zero]
              refine wpAny_all (rs := [1]) (by kernel_rfl) (by simp) ?_
              intro k hk
              simp only [List.mem_cons, List.mem_nil_iff, or_false] at hk
              subst hk
              refine wpOp_run rfl rfl (wp_bs0g Try.underlying36 infoRmZ rfl ?_)
              have bz := r0.alloc r0.size (.cells #[] 90)
              simp only [List.getElem_toArray, List.getElem_cons_succ, List.getElem_cons_zero, Act.put, List.setIfInBounds_toArray, List.set_cons_succ, List.set_cons_zero]
              refine wpAny_all (rs := [8]) (by kernel_rfl) (by simp) ?_
              intro k hk
              simp only [List.mem_cons, List.mem_nil_iff, or_false] at hk
              subst hk
              refine wpOp_run rfl rfl (wp_append_wide DR _ _ 36 90 _ _ Try.underlying36 infoRmZ rfl rfl w5.heap.size (.slice (some ⟨w5.heap.size, 0, none⟩) 0 0) [] rfl (by exact own_empty_e w5 90 13) _ (d.out.take k) rfl (HW.out _ bz).2.1 (by unfold maxLen; simp; omega) (by simp; omega) (by rw [size_alloc]; omega) ?_)
              intro v6 w6 P6 G6
              have b6 : Below w5.heap.size w5 w6 := bz.trans (((Below.refl w5.heap.size _).grown G6 (by rw [size_alloc]; omega) (by simp [Value.ownBlock])).mono (by omega))
              have P6' : w6.ownsRow w5.heap.size 90 13 v6 (d.out.take k).length (flatW DR (d.out.take k)) := own_lower P6 (by omega)
              simp only [List.getElem_toArray, List.getElem_cons_succ, List.getElem_cons_zero, Act.put, List.setIfInBounds_toArray, List.set_cons_succ, List.set_cons_zero]
              refine wpAny_all (rs := [16]) (by kernel_rfl) (by simp) ?_
              intro k hk
              simp only [List.mem_cons, List.mem_nil_iff, or_false] at hk
              subst hk
              refine wpOp_run rfl rfl (wp_append_wide DR _ _ 36 90 _ _ Try.underlying36 infoRmZ rfl rfl w5.heap.size v6 (d.out.take k) rfl P6' _ (d.out.drop (k + 1)) rfl (HW.out _ b6).2.2.1 (by unfold maxLen; simp; omega) (by simp; omega) b6.size ?_)
              intro v9 w9 P9 G9
              have B9 : Below w5.heap.size w5 w9 := ⟨G9.os.trans b6.os, G9.tape.trans b6.tape, G9.output.trans b6.output, Nat.le_trans b6.size G9.size, fun k hk => (G9.block k (Nat.lt_of_lt_of_le hk b6.size) (fun e => by have := own_base P6' e.symm; omega)).trans (b6.block k hk)⟩
              have A9 := (HW.out _ B9).1
              obtain ⟨a9, c9, hv9⟩ := own_shape5 P9
              subst hv9
              simp only [List.getElem_toArray, List.getElem_cons_succ, List.getElem_cons_zero, Act.put, List.setIfInBounds_toArray, List.set_cons_succ, List.set_cons_zero]
              refine wpAny_take (i := 17) (v := (.pointer (some ⟨E, 0, none⟩))) rfl (by kernel_rfl) (by kernel_rfl) (by kernel_rfl) (fun _ _ _ h => h) (.inl ⟨rfl, fun _ => by simp [execOp, go_sem, Act.eval]⟩) ?_
              simp only [List.getElem_toArray, List.getElem_cons_succ, List.getElem_cons_zero, Act.put, List.setIfInBounds_toArray, List.set_cons_succ, List.set_cons_zero]
              refine wpAny_take (i := 18) (v := (.pointer (some ⟨E, 3, none⟩))) rfl (by kernel_rfl) (by kernel_rfl) (by kernel_rfl) (fun _ _ _ h => h) (.inl ⟨rfl, fun _ => by simp [execOp, go_sem, Act.eval]⟩) ?_
              simp only [List.getElem_toArray, List.getElem_cons_succ, List.getElem_cons_zero, Act.put, List.setIfInBounds_toArray, List.set_cons_succ, List.set_cons_zero]
              refine wpAny_all (rs := [19]) (by kernel_rfl) (by simp) ?_
              intro k hk
              simp only [List.mem_cons, List.mem_nil_iff, or_false] at hk
              subst hk
              refine wpOp_run rfl rfl (wp_store_cell 36 _ _ rfl E 3 rfl _ rfl (store_rms w9 E 3 _ a9 _ c9 (A9.cell rfl) (A9.free 3)) ?_)
              simp only [List.getElem_toArray, List.getElem_cons_succ, List.getElem_cons_zero, Act.put, List.setIfInBounds_toArray, List.set_cons_succ, List.set_cons_zero]
              refine wpAny_done (by kernel_rfl) ?_ _
              have HX : Hid (∀ n, n = (d.out.take k ++ d.out.drop (k + 1)).length → DcP E { d with out := d.out.take k ++ d.out.drop (k + 1) } vI w (w9.setCell ⟨E, 3, none⟩ (.slice a9 n c9))) := fun n hn => by subst hn; exact hh.setO (by rw [hq]; exact (HW.out _ B9).2.2.2) _ _ P9 (by have := hh.b0; simp; omega)
              clear HW P6' P9 G9 A9 P6 G6 HW1 HW2
              go_wp2
              go_ret
              exact .inl ⟨rfl, k, HA'.out, HX.out _ (by first | rfl | (simp; omega) | simp)⟩
          · refine wpOp_run rfl rfl (wp_load_cell 36 _ rfl E 3 rfl (.slice (some ⟨b, off, none⟩) d.out.length cap) (load_rms _ E 3 _ _ _ ((HW.out _ r0).1.cell rfl)) ?_)
            simp only [List.getElem_toArray, List.getElem_cons_succ, List.getElem_cons_zero, Act.put, List.setIfInBounds_toArray, List.set_cons_succ, List.set_cons_zero]
            refine wpAny_take (i := 15) (v := (v2)) rfl (by kernel_rfl) (by kernel_rfl) (by kernel_rfl) (fun _ _ _ h => h) (.inl ⟨rfl, fun _ => by simp [execOp, go_sem, Act.eval, hs2]⟩) ?_
            simp only [List.getElem_toArray, List.getElem_cons_succ, List.getElem_cons_zero, Act.put, List.setIfInBounds_toArray, List.set_cons_succ, List.set_cons_zero]
            refine wpAny_all (rs := [1, 5]) (by kernel_rfl) (by simp) ?_
            intro k hk
            simp only [List.mem_cons, List.mem_nil_iff, or_false] at hk
            rcases hk with rfl | rfl
            · refine wpOp_run rfl rfl (wp_bs0g Try.underlying36 infoRmZ rfl ?_)
              have bz := r0.alloc r0.size (.cells #[] 90)
              simp only [List.getElem_toArray, List.getElem_cons_succ, List.getElem_cons_zero, Act.put, List.setIfInBounds_toArray, List.set_cons_succ, List.set_cons_zero]
              refine wpAny_all (rs := [5]) (by kernel_rfl) (by simp) ?_
              intro k hk
              simp only [List.mem_cons, List.mem_nil_iff, or_false] at hk
              subst hk
              refine wpOp_run rfl rfl (wp_load_cell 36 _ rfl E 3 rfl (.slice (some ⟨b, off, none⟩) d.out.length cap) (load_rms _ E 3 _ _ _ ((HW.out _ bz).1.cell rfl)) ?_)
              simp only [List.getElem_toArray, List.getElem_cons_succ, List.getElem_cons_zero, Act.put, List.setIfInBounds_toArray, List.set_cons_succ, List.set_cons_zero]
              refine wpAny_take (i := 7) (v := (v1)) rfl (by kernel_rfl) (by kernel_rfl) (by kernel_rfl) (fun _ _ _ h => h) (.inl ⟨rfl, fun _ => by simp [execOp, go_sem, Act.eval, hs1]⟩) ?_
              simp only [List.getElem_toArray, List.getElem_cons_succ, List.getElem_cons_zero, Act.put, List.setIfInBounds_toArray, List.set_cons_succ, List.set_cons_zero]
              refine wpAny_all (rs := [8]) (by kernel_rfl) (by simp) ?_
              intro k hk
              simp only [List.mem_cons, List.mem_nil_iff, or_false] at hk
              subst hk
              refine wpOp_run rfl rfl (wp_append_wide DR _ _ 36 90 _ _ Try.underlying36 infoRmZ rfl rfl w5.heap.size (.slice (some ⟨w5.heap.size, 0, none⟩) 0 0) [] rfl (by exact own_empty_e w5 90 13) _ (d.out.take k) rfl (HW.out _ bz).2.1 (by unfold maxLen; simp; omega) (by simp; omega) (by rw [size_alloc]; omega) ?_)
              intro v6 w6 P6 G6
              have b6 : Below w5.heap.size w5 w6 := bz.trans (((Below.refl w5.heap.size _).grown G6 (by rw [size_alloc]; omega) (by simp [Value.ownBlock])).mono (by omega))
              have P6' : w6.ownsRow w5.heap.size 90 13 v6 (d.out.take k).length (flatW DR (d.out.take k)) := own_lower P6 (by omega)
              simp only [List.getElem_toArray, List.getElem_cons_succ, List.getElem_cons_zero, Act.put, List.setIfInBounds_toArray, List.set_cons_succ, List.set_cons_zero]
              refine wpAny_all (rs := [16]) (by kernel_rfl) (by simp) ?_
              intro k hk
              simp only [List.mem_cons, List.mem_nil_iff, or_false] at hk
              subst hk
              refine wpOp_run rfl rfl (wp_append_wide DR _ _ 36 90 _ _ Try.underlying36 infoRmZ rfl rfl w5.heap.size v6 (d.out.take k) rfl P6' _ (d.out.drop (k + 1)) rfl (HW.out _ b6).2.2.1 (by unfold maxLen; simp; omega) (by simp; omega) b6.size ?_)
              intro v9 w9 P9 G9
              have B9 : Below w5.heap.size w5 w9 := ⟨G9.os.trans b6.os, G9.tape.trans b6.tape, G9.output.trans b6.output, Nat.le_trans b6.size G9.size, fun k hk => (G9.block k (Nat.lt_of_lt_of_le hk b6.size) (fun e => by have := own_base P6' e.symm; omega)).trans (b6.block k hk)⟩
              have A9 := (HW.out _ B9).1
              obtain ⟨a9, c9, hv9⟩ := own_shape5 P9
              subst hv9
              simp only [List.getElem_toArray, List.getElem_cons_succ, List.getElem_cons_zero, Act.put, List.setIfInBounds_toArray, List.set_cons_succ, List.set_cons_zero]
              refine wpAny_take (i := 17) (v := (.pointer (some ⟨E, 0, none⟩))) rfl (by kernel_rfl) (by kernel_rfl) (by kernel_rfl) (fun _ _ _ h => h) (.inl ⟨rfl, fun _ => by simp [execOp, go_sem, Act.eval]⟩) ?_
              simp only [List.getElem_toArray, List.getElem_cons_succ, List.getElem_cons_zero, Act.put, List.setIfInBounds_toArray, List.set_cons_succ, List.set_cons_zero]
              refine wpAny_take (i := 18) (v := (.pointer (some ⟨E, 3, none⟩))) rfl (by kernel_rfl) (by kernel_rfl) (by kernel_rfl) (fun _ _ _ h => h) (.inl ⟨rfl, fun _ => by simp [execOp, go_sem, Act.eval]⟩) ?_
              simp only [List.getElem_toArray, List.getElem_cons_succ, List.getElem_cons_zero, Act.put, List.setIfInBounds_toArray, List.set_cons_succ, List.set_cons_zero]
              refine wpAny_all (rs := [19]) (by kernel_rfl) (by simp) ?_
              intro k hk
              simp only [List.mem_cons, List.mem_nil_iff, or_false] at hk
              subst hk
              refine wpOp_run rfl rfl (wp_store_cell 36 _ _ rfl E 3 rfl _ rfl (store_rms w9 E 3 _ a9 _ c9 (A9.cell rfl) (A9.free 3)) ?_)
              simp only [List.getElem_toArray, List.getElem_cons_succ, List.getElem_cons_zero, Act.put, List.setIfInBounds_toArray, List.set_cons_succ, List.set_cons_zero]
              refine wpAny_done (by kernel_rfl) ?_ _
              have HX : Hid (∀ n, n = (d.out.take k ++ d.out.drop (k + 1)).length → DcP E { d with out := d.out.take k ++ d.out.drop (k + 1) } vI w (w9.setCell ⟨E, 3, none⟩ (.slice a9 n c9))) := fun n hn => by subst hn; exact hh.setO (by rw [hq]; exact (HW.out _ B9).2.2.2) _ _ P9 (by have := hh.b0; simp; omega)
              clear HW P6' P9 G9 A9 P6 G6 HW1 HW2
              go_wp2
              go_ret
              exact .inl ⟨rfl, k, HA'.out, HX.out _ (by first | rfl | (simp; omega) | simp)⟩
            · refine wpOp_run rfl rfl (wp_load_cell 36 _ rfl E 3 rfl (.slice (some ⟨b, off, none⟩) d.out.length cap) (load_rms _ E 3 _ _ _ ((HW.out _ r0).1.cell rfl)) ?_)
              simp only [List.getElem_toArray, List.getElem_cons_succ, List.getElem_cons_zero, Act.put, List.setIfInBounds_toArray, List.set_cons_succ, List.set_cons_zero]
              refine wpAny_take (i := 7) (v := (v1)) rfl (by kernel_rfl) (by kernel_rfl) (by kernel_rfl) (fun _ _ _ h => h) (.inl ⟨rfl, fun _ => by simp [execOp, go_sem, Act.eval, hs1]⟩) ?_
              simp only [List.getElem_toArray, List.getElem_cons_succ, List.getElem_cons_zero, Act.put, List.setIfInBounds_toArray, List.set_cons_succ, List.set_cons_zero]
              refine wpAny_all (rs := [1]) (by kernel_rfl) (by simp) ?_
              intro k hk
              simp only [List.mem_cons, List.mem_nil_iff, or_false] at hk
              subst hk
              refine wpOp_run rfl rfl (wp_bs0g Try.underlying36 infoRmZ rfl ?_)
              have bz := r0.alloc r0.size (.cells #[] 90)
              simp only [List.getElem_toArray, List.getElem_cons_succ, List.getElem_cons_zero, Act.put, List.setIfInBounds_toArray, List.set_cons_succ, List.set_cons_zero]
              refine wpAny_all (rs := [8]) (by kernel_rfl) (by simp) ?_
              intro k hk
              simp only [List.mem_cons, List.mem_nil_iff, or_false] at hk
              subst hk
              refine wpOp_run rfl rfl (wp_append_wide DR _ _ 36 90 _ _ Try.underlying36 infoRmZ rfl rfl w5.heap.size (.slice (some ⟨w5.heap.size, 0, none⟩) 0 0) [] rfl (by exact own_empty_e w5 90 13) _ (d.out.take k) rfl (HW.out _ bz).2.1 (by unfold maxLen; simp; omega) (by simp; omega) (by rw [size_alloc]; omega) ?_)
              intro v6 w6 P6 G6
              have b6 : Below w5.heap.size w5 w6 := bz.trans (((Below.refl w5.heap.size _).grown G6 (by rw [size_alloc]; omega) (by simp [Value.ownBlock])).mono (by omega))
              have P6' : w6.ownsRow w5.heap.size 90 13 v6 (d.out.take k).length (flatW DR (d.out.take k)) := own_lower P6 (by omega)
              simp only [List.getElem_toArray, List.getElem_cons_succ, List.getElem_cons_zero, Act.put, List.setIfInBounds_toArray, List.set_cons_succ, List.set_cons_zero]
              refine wpAny_all (rs := [16]) (by kernel_rfl) (by simp) ?_
              intro k hk
              simp only [List.mem_cons, List.mem_nil_iff, or_false] at hk
              subst hk
              refine wpOp_run rfl rfl (wp_append_wide DR _ _ 36 90 _ _ Try.underlying36 infoRmZ rfl rfl w5.heap.size v6 (d.out.take k) rfl P6' _ (d.out.drop (k + 1)) rfl (HW.out _ b6).2.2.1 (by unfold maxLen; simp; omega) (by simp; omega) b6.size ?_)
              intro v9 w9 P9 G9
              have B9 : Below w5.heap.size w5 w9 := ⟨G9.os.trans b6.os, G9.tape.trans b6.tape, G9.output.trans b6.output, Nat.le_trans b6.size G9.size, fun k hk => (G9.block k (Nat.lt_of_lt_of_le hk b6.size) (fun e => by have := own_base P6' e.symm; omega)).trans (b6.block k hk)⟩
              have A9 := (HW.out _ B9).1
              obtain ⟨a9, c9, hv9⟩ := own_shape5 P9
              subst hv9
              simp only [List.getElem_toArray, List.getElem_cons_succ, List.getElem_cons_zero, Act.put, List.setIfInBounds_toArray, List.set_cons_succ, List.set_cons_zero]
              refine wpAny_take (i := 17) (v := (.pointer (some ⟨E, 0, none⟩))) rfl (by kernel_rfl) (by kernel_rfl) (by kernel_rfl) (fun _ _ _ h => h) (.inl ⟨rfl, fun _ => by simp [execOp, go_sem, Act.eval]⟩) ?_
              simp only [List.getElem_toArray, List.getElem_cons_succ, List.getElem_cons_zero, Act.put, List.setIfInBounds_toArray, List.set_cons_succ, List.set_cons_zero]
              refine wpAny_take (i := 18) (v := (.pointer (some ⟨E, 3, none⟩))) rfl (by kernel_rfl) (by kernel_rfl) (by kernel_rfl) (fun _ _ _ h => h) (.inl ⟨rfl, fun _ => by simp [execOp, go_sem, Act.eval]⟩) ?_
              simp only [List.getElem_toArray, List.getElem_cons_succ, List.getElem_cons_zero, Act.put, List.setIfInBounds_toArray, List.set_cons_succ, List.set_cons_zero]
              refine wpAny_all (rs := [19]) (by kernel_rfl) (by simp) ?_
              intro k hk
              simp only [List.mem_cons, List.mem_nil_iff, or_false] at hk
              subst hk
              refine wpOp_run rfl rfl (wp_store_cell 36 _ _ rfl E 3 rfl _ rfl (store_rms w9 E 3 _ a9 _ c9 (A9.cell rfl) (A9.free 3)) ?_)
              simp only [List.getElem_toArray, List.getElem_cons_succ, List.getElem_cons_zero, Act.put, List.setIfInBounds_toArray, List.set_cons_succ, List.set_cons_zero]
              refine wpAny_done (by kernel_rfl) ?_ _
              have HX : Hid (∀ n, n = (d.out.take k ++ d.out.drop (k + 1)).length → DcP E { d with out := d.out.take k ++ d.out.drop (k + 1) } vI w (w9.setCell ⟨E, 3, none⟩ (.slice a9 n c9))) := fun n hn => by subst hn; exact hh.setO (by rw [hq]; exact (HW.out _ B9).2.2.2) _ _ P9 (by have := hh.b0; simp; omega)
              clear HW P6' P9 G9 A9 P6 G6 HW1 HW2
              go_wp2
              go_ret
              exact .inl ⟨rfl, k, HA'.out, HX.out _ (by first | rfl | (simp; omega) | simp)⟩
      · have hn : nx = false := by cases nx; rfl; exact (hs (.inl rfl)).elim
        have hzn : z ≠ t := fun e => hs (.inr e)
        have hz2 : (z == t) = false := by simpa using hzn
        have HJ2 : Hid _ := HJ.out ⟨hn, hzn⟩
        subst hn
        clear HJ HAt H1 hs hv hR HI HTk A3 W3
        go_wp2
        go_roundw
        case rel => exact ⟨k + 1, by omega, by go_num, (fun j hj h => ⟨by trivial, (HJ2.out j hj h).2⟩), BX⟩
        case measure => simp [intOf]; omega
    · have hkl2 : decide (k < d.out.length) = false := by simp; omega
      have HF : Hid (∀ j (hj : j < d.out.length), nx = false ∧ d.out[j].tk ≠ t) := fun j hj => H1 j hj (by omega)
      have HX : Hid (DcP E d vI w wr) := hh.stay (by rw [hq]; exact BX)
      clear H1 HI HTk A3 W3 hkl hh
      go_wp2
      go_ret
      exact .inr ⟨rfl, HF.out, HX.out⟩
end Go.Proofs.Ytfddoindcmdooaa
