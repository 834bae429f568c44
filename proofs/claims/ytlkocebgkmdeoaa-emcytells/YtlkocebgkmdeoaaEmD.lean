/- find, Register, longest. -/
import Derived.Test.YtlkocebgkmdeoaaEmC
namespace Go.Proofs.Ytlkocebgkmdeoaa
open Go.RowKit
set_option linter.unusedVariables false
set_option maxRecDepth 1000000
set_option linter.unusedSimpArgs false
theorem hmfT : ∀ (fn : Fn) (first cap : Array Value) (w : World), (Instr.makeFunc fn first cap).run Try.prog w = .ok (.func fn first cap) w := fun _ _ _ _ => rfl
theorem own_shapeT {w : World} {B : Nat} {e : TypeId} {c : Nat} {v : Value} {n : Nat} {xs : List Value} (h : w.ownsRow B e c v n xs) : ∃ ao cap, v = .slice ao n cap := own_shape5 h
section
variable {g : Nat} {P : Nat → Prop} {s : Te} {vn vp vw : Value} {w : World}
theorem find_any (h : Ptv g P s vn vp vw w) (hl : s.now.length ≤ 2305843009213693951) (c : Nat) : Calls Try.prog 24 #[.pointer (some ⟨g, 0, none⟩), .int .u16 c] w fun e w' => e = .returned (.int .i64 (ix s.now c)) ∧ Below w.heap.size w w' := by
  obtain ⟨_, _, c2, _⟩ := h.cells
  obtain ⟨p, hp⟩ : ∃ p, w.heap.size = p := ⟨_, rfl⟩
  obtain ⟨W, hW⟩ : ∃ x', w.alloc (.cells #[.int .u16 c] 34) = x' := ⟨_, rfl⟩
  have B : Bc 34 p #[.int .u16 c] W := by rw [← hW, ← hp]; exact heap_alloc_new w _
  have hb : Below w.heap.size w W := by rw [← hW]; exact (Below.refl _ _).alloc (Nat.le_refl _) _
  have H := h.below hb
  have hI := idx_any vn s.now p c W H.now hl (B.cell 0) B.lt
  have d2 : W.cell? ⟨g, 2, none⟩ = some vn := H.cells.2.2.1
  have HB := hidOf2 hb
  have hm := hmfT
  obtain ⟨ao, cap, hv⟩ := own_shapeT h.rn
  subst hv
  generalize ix s.now c = I at *
  generalize s.now.length = n at *
  clear B H hb h c2
  go_enter Try.func24, Try.ntmps24
  go_wp2_with (go_at_call 34; refine hI.mono ?_; rintro e w' ⟨rfl, hb2⟩)
  go_ret
  exact ⟨rfl, HB.out.trans (hb2.mono HB.out.size)⟩
theorem longest_any (h : Ptv g P s vn vp vw w) : Calls Try.prog 30 #[.pointer (some ⟨g, 0, none⟩)] w fun e w' => e = .returned (.int .u16 (hd s.now)) ∧ w' = w := by
  obtain ⟨_, _, c2, _⟩ := h.cells
  obtain ⟨ao, cap, hv, h0, hc⟩ := h.now
  subst hv
  clear h
  cases hl : s.now with
  | nil =>
    rw [hl] at c2
    have hn : ([] : List Tr).length = 0 := rfl
    go_enter Try.func30, Try.ntmps30
    go_wp2
    go_ret
    exact ⟨rfl, rfl⟩
  | cons x l =>
    obtain ⟨b, off, rfl, hb, hR⟩ := hc 0 (by rw [hl]; simp)
    have hx : s.now[0]'(by rw [hl]; simp) = x := by simp [hl]
    have r0 : w.cell? ⟨b, off, none⟩ = some (.int .u16 x.c) := by
      have := hR 0 (.int .u16 x.c) (by simp [hx, Tr.cs])
      simpa using this
    have hn : s.now.length = l.length + 1 := by rw [hl]; rfl
    rw [hn] at c2
    have hh : hd (x :: l) = x.c := rfl
    rw [hh]
    clear hR hx hc h0 hn hl
    generalize l.length = n at *
    have d0 : decide (((n : Int) + 1) = 0) = false := by simp; omega
    have d1 : (0 : Int) < (n : Int) + 1 := by omega
    generalize x.c = X at *
    go_enter Try.func30, Try.ntmps30
    go_wp2
    go_ret
    exact ⟨rfl, rfl⟩
theorem reg_any (h : Ptv g P s vn vp vw w) (hl : s.now.length ≤ 2305843009213693951) : Calls Try.prog 18 #[.pointer (some ⟨g, 0, none⟩)] w fun e w' => e = .returned (.int .u8 (reg s.now)) ∧ Below w.heap.size w w' := by
  obtain ⟨_, _, c2, _⟩ := h.cells
  obtain ⟨ao, cap, hv, h0, hc⟩ := h.now
  subst hv
  clear h h0
  obtain ⟨p, hp⟩ : ∃ p, w.heap.size = p := ⟨_, rfl⟩
  have HC : Hid (∀ (wr : World), Below w.heap.size w wr → ∀ k (hk : k < s.now.length), ∃ b off, ao = some ⟨b, off, none⟩ ∧ b < w.heap.size ∧ wr.rangeAt b (off + k * 7) (Tr.cs s.now[k])) := fun wr hb k hk => Wide.at hc hb k hk
  clear hc
  rw [hp] at HC ⊢
  generalize s.now = l at *
  have HI : Hid (Below p w w) := Below.refl _ _
  go_enter Try.func18, Try.ntmps18
  go_wp2
  go_loopw [3, 11] (fun a s8 x => ∃ k, k ≤ l.length ∧ s8 = .int .i64 (k : Nat) ∧ Below p w x ∧ ∃ z : Nat, a = .int .u8 (z : Nat) ∧ z < 256 ∧ Hid (reg l = regL (l.drop k) z)) (fun _ s8 _ => l.length - (intOf s8).toNat)
  case atStart => exact ⟨0, by omega, rfl, HI.out, 0, rfl, by decide, by show reg l = _; simp [reg]⟩
  case round =>
    clear HI
    obtain ⟨k, hk, rfl, hb, z, rfl, hz, HZ⟩ := hrel
    have HBw := hidOf2 hb
    by_cases hkl : k < l.length
    · have hd : decide ((k : Int) < (l.length : Int)) = true := by simp; omega
      obtain ⟨b, off, rfl, hbl, hR⟩ := HC.out wr hb k hkl
      have HE := hidOf2 (show reg l = regL (l.drop (k + 1)) (orN z l[k].r) by rw [HZ.out, List.drop_eq_getElem_cons hkl]; rfl)
      generalize l[k] = t at *
      obtain ⟨q, hq⟩ : ∃ q, wr.heap.size = q := ⟨_, rfl⟩
      obtain ⟨W, hW⟩ : ∃ x', wr.alloc (.cells #[.int .u16 t.c, .int .u8 t.r, .int .u8 t.x0, .int .u8 t.x1, .int .u8 t.x2, .int .u8 t.x3, .int .u8 t.x4] 37) = x' := ⟨_, rfl⟩
      have B : Bc 37 q t.arr W := by rw [← hW, ← hq]; exact heap_alloc_new wr _
      have hbW : Below p w W := by rw [← hW]; exact hb.alloc (by have := hb.size; omega) _
      have HBW := hidOf2 hbW
      have c1 : W.cell? ⟨q, 1, none⟩ = some (.int .u8 t.r) := B.cell 1
      have hor := bits_reg z t.r hz t.hr
      have HL := hidOf2 (orN_lt z t.r)
      clear HZ HC HBw hb hbW B
      go_upto_region 5 with (refine Tr.ld hR rfl _ rfl rfl ?_; unfold Tr.arr)
      generalize t.r = r at *
      clear hR hq hW
      go_wp2
      go_roundw
      case measure => simp [intOf]; omega
      case rel => exact ⟨k + 1, by omega, rfl, HBW.out, orN z r, by first | rfl | rw [hor], HL.out, HE⟩
    · obtain rfl : k = l.length := by omega
      have hd : decide ((l.length : Int) < (l.length : Int)) = false := by simp
      have HE := hidOf2 (show reg l = z by rw [HZ.out]; simp [regL])
      clear HZ HC hb
      go_wp2
      go_ret
      exact ⟨ret_int (by rw [HE.out]), HBw.out⟩
end
end Go.Proofs.Ytlkocebgkmdeoaa
