/- The law EmcyQuiet returns true whatever errors and gaps come in. -/
import Derived.Test.YtcokdcjfaankaaaLawEHis
import Derived.Deep.DeepCutAuto
namespace Go.Proofs.Ytcokdcjfaankaaa
open Go.RowKit
set_option linter.unusedVariables false
set_option maxRecDepth 1000000
set_option linter.unusedSimpArgs false
/-- A teller in the law: how long it is quiet, and for how long nothing was told. -/
structure QE (p inh i m : Nat) (w x : World) (s : Te) (any : Bool) (since : Nat) : Prop where
  pt : Pt p (fun z => p ≤ z) s x
  below : Below p w x
  ih : s.inh = inh
  fit : s.Fit
  len : s.now.length ≤ i
  q : any = true → inh ≤ s.quiet + since
  b : since ≤ m
theorem Te.raise_quiet (s : Te) (x : Tr) : (s.raise x).quiet = s.quiet ∧ (s.raise x).inh = s.inh := by
  unfold Te.raise
  split <;> exact ⟨rfl, rfl⟩
theorem Te.clear_quiet (s : Te) (c : Nat) : (s.clear c).quiet = s.quiet ∧ (s.clear c).inh = s.inh := by
  unfold Te.clear
  split <;> exact ⟨rfl, rfl⟩
section
variable {p inh i m : Nat} {w x y : World} {s : Te} {any : Bool} {since : Nat}
theorem QE.sz (h : QE p inh i m w x s any since) (hp : w.heap.size = p) : p ≤ x.heap.size := by rw [← hp]; exact h.below.size
theorem QE.room (h : QE p inh i m w x s any since) (hp : w.heap.size = p) : ∀ z, x.heap.size ≤ z → p ≤ z := fun z hz => Nat.le_trans (h.sz hp) hz
theorem QE.raise (h : QE p inh i m w x s any since) (hp : w.heap.size = p) (t : Tr) (h1 : Pt p (fun z => p ≤ z) (s.raise t) y) (h2 : Kq (fun z => p ≤ z) x y) : QE p inh (i + 1) m w y (s.raise t) any since :=
  ⟨h1, h2.below h.below (h.sz hp) (fun _ hz => hz), (Te.raise_quiet s t).2.trans h.ih, h.fit.raise t, Nat.le_trans (Te.raise_len s t) (by have := h.len; omega), fun e => by rw [(Te.raise_quiet s t).1]; exact h.q e, h.b⟩
theorem QE.clear (h : QE p inh i m w x s any since) (hp : w.heap.size = p) (c : Nat) (h1 : Pt p (fun z => p ≤ z) (s.clear c) y) (h2 : Kq (fun z => p ≤ z) x y) : QE p inh i m w y (s.clear c) any since :=
  ⟨h1, h2.below h.below (h.sz hp) (fun _ hz => hz), (Te.clear_quiet s c).2.trans h.ih, h.fit.clear c, Nat.le_trans (Te.clear_len s c) h.len, fun e => by rw [(Te.clear_quiet s c).1]; exact h.q e, h.b⟩
theorem QE.tick (h : QE p inh i m w x s any since) (hp : w.heap.size = p) (h1 : Pt p (fun z => p ≤ z) s.tick y) (h2 : Kq (fun z => p ≤ z) x y) : QE p inh i (m + 1) w y s.tick any (since + 1) :=
  ⟨h1, h2.below h.below (h.sz hp) (fun _ hz => hz), h.ih, h.fit, h.len, fun e => by have := h.q e; simp [Te.tick]; omega, by have := h.b; omega⟩
theorem QE.frame (h : QE p inh i m w x s any since) (hp : w.heap.size = p) (hm : s.may = true) (h1 : Pt p (fun z => p ≤ z) s.out y) (h2 : Kq (fun z => p ≤ z) x y) : QE p inh i m w y s.out true 0 ∧ (any = true → inh ≤ since) :=
  ⟨⟨h1, h2.below h.below (h.sz hp) (fun _ hz => hz), h.ih, h.fit, h.len, fun e => by simp [Te.out, h.ih], Nat.zero_le _⟩, fun e => by
    have := h.q e
    unfold Te.may at hm
    simp at hm
    omega⟩
theorem QE.same (h : QE p inh i m w x s any since) (hp : w.heap.size = p) (h2 : Below x.heap.size x y) : QE p inh i m w y s any since :=
  ⟨h.pt.below h2, h.below.trans (h2.mono (h.sz hp)), h.ih, h.fit, h.len, h.q, h.b⟩
end
theorem frameNo {g : Nat} {P : Nat → Prop} {s : Te} {w : World} (h : Pt g P s w) (hm : s.may = false) : Calls Try.prog 15 #[.pointer (some ⟨g, 0, none⟩)] w fun e w' => e = .returned (.tuple #[.agg #[.int .u8 0, .int .u8 0, .int .u8 0, .int .u8 0, .int .u8 0, .int .u8 0, .int .u8 0, .int .u8 0], .bool false]) ∧ Below w.heap.size w w' := by
  obtain ⟨_, _, _, h⟩ := h
  exact frame_no h hm
theorem frameYes {g : Nat} {P : Nat → Prop} {s : Te} {w : World} (h : Pt g P s w) (hP : ∀ k, w.heap.size ≤ k → P k) (hm : s.may = true) : ∃ f r, s.waits = f :: r ∧ Calls Try.prog 15 #[.pointer (some ⟨g, 0, none⟩)] w fun e w' => e = .returned (.tuple #[.agg #[.int .u8 ((f.c : Int) % 256), .int .u8 ((f.c : Int) / 256), .int .u8 f.r, .int .u8 f.x0, .int .u8 f.x1, .int .u8 f.x2, .int .u8 f.x3, .int .u8 f.x4], .bool true]) ∧ Pt g P s.out w' ∧ Kq P w w' := by
  obtain ⟨_, _, _, h⟩ := h
  exact frame_yes h hP hm
/-- The error at the law's end. -/
def tQ : Tr := ⟨4096, 0, 0, 0, 0, 0, 0, by decide, by decide⟩
theorem equi_end (inh : Nat) (hi : inh < 256) (s0 : Te) (h0 : s0 = ⟨1, inh, [], [], [], 0⟩) : s0.can tQ = true ∧ s0.Fit ∧ (s0.raise tQ).may = true := by
  subst h0
  refine ⟨rfl, by unfold Te.Fit; exact Nat.zero_le _, ?_⟩
  have : (⟨1, inh, [], [], [], 0⟩ : Te).can tQ = true := rfl
  unfold Te.raise
  rw [this]
  rfl
set_option maxHeartbeats 4000000 in
theorem equi_walk (inh : Nat) (hi : inh < 256) (v : Value) (l : List Tr) (v2 : Value) (gs : List UInt8) (hl : l.length ≤ 17592186043904) (hgs : gs.length ≤ 140737488351232) (w : World) (hB : Wide 7 Tr.cs w v l) (hG : Bytes w v2 gs) :
    Calls Try.prog 6 #[.int .u8 inh, v, v2] w fun r w' => r = .returned (.bool true) ∧ Below w.heap.size w w' := by
  obtain ⟨ao, cap, rfl, _, hc⟩ := hB
  obtain ⟨ag, cg, rfl, _, hcg⟩ := hG
  obtain ⟨p, hp⟩ : ∃ p, w.heap.size = p := ⟨_, rfl⟩
  have HC : Hid (∀ (wr : World), Below p w wr → ∀ k (hk : k < l.length), ∃ b off, ao = some ⟨b, off, none⟩ ∧ b < p ∧ wr.rangeAt b (off + k * 7) (Tr.cs l[k])) := fun wr hb k hk => by rw [← hp] at hb ⊢; exact Wide.at hc hb k hk
  obtain ⟨gl, hgl⟩ : ∃ m, gs.length = m := ⟨_, rfl⟩
  have HG : Hid (∀ (wr : World), Below p w wr → ∀ k (hk : k < gl), ∃ b off, ag = some ⟨b, off, none⟩ ∧ b < p ∧ wr.cell? ⟨b, off + k, none⟩ = some (.int .u8 (gs.getD k 0).toNat)) := fun wr hb k hk => by
    rw [← hp] at hb ⊢
    have hk2 : k < gs.length := by omega
    have := Bytes.at (cap := cg) hcg hb k hk2
    rw [List.getD_eq_getElem?_getD, List.getElem?_eq_getElem hk2]
    exact this
  rw [hgl] at hgs ⊢
  clear hgl
  clear hc hcg
  have hN : Calls Try.prog 7 #[.int .i64 9, .int .u64 (inh : Int)] w fun e w' => e = .returned (.tuple #[.pointer (some ⟨p, 0, none⟩), .int .i64 0]) ∧ Pt p (fun z => p ≤ z) ⟨9, inh, [], [], [], 0⟩ w' ∧ Below p w w' := by
    rw [← hp]
    exact newP 9 inh (by decide) (by decide) (by omega) w _ (Nat.le_refl _)
  rw [hp]
  go_enter Try.func6, Try.ntmps6
  go_upto_region 5 with (go_at_call 7; refine hN.mono ?_; rintro e w1 ⟨rfl, t1, b1⟩)
  have HI0 : Hid (QE p inh 0 0 w w1 ⟨9, inh, [], [], [], 0⟩ false 0) := ⟨t1, b1, rfl, Nat.zero_le _, Nat.zero_le _, fun e => by simp at e, Nat.zero_le _⟩
  clear t1 b1 hN
  go_wp2_with fail
  go_loopw [9, 10, 11] (fun s9 s10 s11 x => ∃ i s any since, i ≤ l.length ∧ s11 = .int .i64 (i : Nat) ∧ s10 = .bool any ∧ s9 = .int .i64 (since : Nat) ∧ QE p inh i (255 * i) w x s any since) (fun _ _ s11 _ => l.length - (intOf s11).toNat)
  case atStart => exact ⟨0, _, false, 0, by omega, rfl, rfl, rfl, HI0.out⟩
  case round =>
    clear HI0
    obtain ⟨i, s, any, since, hi2, rfl, rfl, rfl, hQ⟩ := hrel
    have hB5 := hQ.below
    have hsz := hQ.sz hp
    by_cases hil : i < l.length
    · have hd : decide ((i : Int) < (l.length : Int)) = true := by simp; omega
      obtain ⟨b, off, rfl, hb, hR⟩ := HC.out wr hB5 i hil
      have HR := hidOf2 (fun (y : World) (hy : Below p w y) => show y.rangeAt b (off + i * 7) l[i].cs from by
        obtain ⟨b', off', e, _, h9⟩ := HC.out y hy i hil
        injection e with e; injection e with e1 e2; subst e1; subst e2; exact h9)
      have hl9 := hQ.len
      have hRa := raiseP hQ.pt (hQ.room hp) (by omega) hQ.fit l[i]
      obtain ⟨t, ht⟩ : ∃ t, l[i] = t := ⟨_, rfl⟩
      rw [ht] at hR HR hRa
      go_upto_region 9 with (first | (refine Tr.ld hR rfl _ rfl rfl ?_) | (go_at_call 9; refine hRa.mono ?_; rintro e w3 ⟨rfl, t3, k3⟩))
      have Q3 := hQ.raise hp t t3 k3
      have r3 := (HR.out w3 Q3.below) 0 (.int .u16 t.c) rfl
      rw [Nat.add_zero] at r3
      have hC3 := clearP Q3.pt (Q3.room hp) (by have := Q3.len; omega) t.c
      go_upto_region 10 with (go_at_call 11; refine hC3.mono ?_; rintro e w4 ⟨rfl, t4, k4⟩)
      have Q4 := Q3.clear hp t.c t4 k4
      clear hR HR hRa t3 k3 hC3 r3 t4 k4 Q3 hQ hB5 hsz
      obtain ⟨n, hn⟩ : ∃ n : Nat, (if 0 < gl then (gs.getD (i % gl) 0).toNat else 1) = n := ⟨_, rfl⟩
      have hn5 : n ≤ 255 := by
        rw [← hn]
        by_cases h9 : 0 < gl
        · rw [if_pos h9]; have := (gs.getD (i % gl) 0).toNat_lt; omega
        · rw [if_neg h9]; omega
      have hB4 := Q4.below
      go_upto_region 11 with fail
      go_upto_if 53 with fail
      go_cut [12] (fun s12 x => s12 = .int .i64 (n : Int) ∧ x = w4)
      case first =>
        by_cases hg0 : 0 < gl
        · have d1 : decide ((0 : Int) < (gl : Int)) = true := decide_eq_true (by omega)
          have hil2 : i % gl < gl := Nat.mod_lt _ hg0
          obtain ⟨b9, o9, rfl, _, hg⟩ := HG.out w4 hB4 (i % gl) hil2
          have hmd : (i : Int) % (gl : Int) = ((i % gl : Nat) : Int) := by first | exact (Int.natCast_emod i gl).symm | exact (Int.ofNat_emod i gl).symm | simp
          have hmd2 : (i : Int).tmod (gl : Int) = ((i % gl : Nat) : Int) := by rw [Int.tmod_eq_emod_of_nonneg (by omega)]; exact hmd
          have hgv : (gs.getD (i % gl) 0).toNat = n := by rw [← hn, if_pos hg0]
          rw [hgv] at hg
          have hlt1 : ((i % gl : Nat) : Int) < (gl : Int) := by omega
          have hne : ¬ ((gl : Int) = 0) := by omega
          clear hgv hn hg0
          generalize i % gl = im at *
          go_wp2
          go_meet
          case rel => exact ⟨rfl, rfl⟩
        · obtain rfl : gl = 0 := by omega
          rw [if_neg (by omega)] at hn
          subst hn
          clear hg0
          go_wp2
          all_goals
            go_meet
            case rel => exact ⟨rfl, rfl⟩
      case rest =>
      obtain ⟨rfl, rfl⟩ := hcut
      have HI1 := hidOf2 Q4
      clear hn Q4 HG hd
      go_wp2_with fail
      go_loopw [9, 10, 13] (fun s9 s10 s13 x => ∃ k s any since, k ≤ n ∧ s13 = .int .i64 (k : Nat) ∧ s10 = .bool any ∧ s9 = .int .i64 (since : Nat) ∧ QE p inh (i + 1) (255 * i + k) w x s any since) (fun _ _ s13 _ => n - (intOf s13).toNat)
      case atStart => exact ⟨0, _, any, since, by omega, rfl, rfl, rfl, HI1.out⟩
      case round =>
        clear HI1
        obtain ⟨k, s2, any2, since2, hk, rfl, rfl, rfl, hQ2⟩ := hrel
        have hsz2 := hQ2.sz hp
        have hb2 := hQ2.b
        by_cases hkn : k < n
        · have hd3 : decide ((k : Int) < (n : Int)) = true := by simp; omega
          cases hm : s2.may with
          | false =>
            have hF := frameNo hQ2.pt hm
            have HQ2 := hidOf2 hQ2
            clear hm
            go_upto_region 17 with (go_at_call 15; refine hF.mono ?_; rintro e w5 ⟨rfl, b5⟩)
            obtain ⟨w6, hw6⟩ : ∃ y, w5.alloc (.cells #[.int .u8 0, .int .u8 0, .int .u8 0, .int .u8 0, .int .u8 0, .int .u8 0, .int .u8 0, .int .u8 0] 42) = y := ⟨_, rfl⟩
            have b6 : Below wr.heap.size wr w6 := by rw [← hw6]; exact b5.alloc b5.size _
            have Q6 := HQ2.out.same hp b6
            have hT := tickP Q6.pt
            rw [hw6]
            clear hw6 b5 hF
            go_wp2_with (go_at_call 13; refine hT.mono ?_; rintro e w7 ⟨rfl, t7, k7⟩; have Q7 := Q6.tick hp t7 k7)
            go_roundw
            case measure => simp [intOf]; omega
            case rel => exact ⟨k + 1, _, any2, since2 + 1, by omega, rfl, rfl, by first | rfl | simp, Q7⟩
          | true =>
            obtain ⟨f, r, _, hF⟩ := frameYes hQ2.pt (hQ2.room hp) hm
            have HQ2 := hidOf2 (fun (y : World) h1 h2 => hQ2.frame (y := y) hp hm h1 h2)
            have hany : any2 = true → inh ≤ since2 := fun e => by
              have h1 := hQ2.q e
              unfold Te.may at hm
              simp at hm
              omega
            clear hm
            go_upto_region 17 with (go_at_call 15; refine hF.mono ?_; rintro e w5 ⟨rfl, t5, k5⟩)
            obtain ⟨w6, hw6⟩ : ∃ y, w5.alloc (.cells #[.int .u8 ((f.c : Int) % 256), .int .u8 ((f.c : Int) / 256), .int .u8 f.r, .int .u8 f.x0, .int .u8 f.x1, .int .u8 f.x2, .int .u8 f.x3, .int .u8 f.x4] 42) = y := ⟨_, rfl⟩
            have Q5 := (HQ2.out w5 t5 k5).1
            have b6 : Below w5.heap.size w5 w6 := by rw [← hw6]; exact (Below.refl _ _).alloc (Nat.le_refl _) _
            have Q6 := Q5.same hp b6
            have hT := tickP Q6.pt
            rw [hw6]
            clear hw6 hF HQ2
            cases any2 with
            | false =>
              clear hany
              go_wp2_with (go_at_call 13; refine hT.mono ?_; rintro e w7 ⟨rfl, t7, k7⟩; have Q7 := Q6.tick hp t7 k7)
              go_roundw
              case measure => simp [intOf]; omega
              case rel => exact ⟨k + 1, _, true, 1, by omega, rfl, rfl, by first | rfl | simp, Q7⟩
            | true =>
              have hle9 : inh ≤ since2 := hany rfl
              have hd9 : decide ((since2 : Int) < (inh : Int)) = false := decide_eq_false (by omega)
              clear hany
              go_wp2_with (go_at_call 13; refine hT.mono ?_; rintro e w7 ⟨rfl, t7, k7⟩; have Q7 := Q6.tick hp t7 k7)
              go_roundw
              case measure => simp [intOf]; omega
              case rel => exact ⟨k + 1, _, true, 1, by omega, rfl, rfl, by first | rfl | simp, Q7⟩
        · obtain rfl : k = n := by omega
          have hd3 : decide ((k : Int) < (k : Int)) = false := by simp
          go_wp2
          go_roundw
          case measure => simp [intOf]; omega
          case rel => exact ⟨i + 1, s2, any2, since2, by omega, rfl, rfl, rfl, ⟨hQ2.pt, hQ2.below, hQ2.ih, hQ2.fit, hQ2.len, hQ2.q, by omega⟩⟩
    · obtain rfl : i = l.length := by omega
      have hd : decide ((l.length : Int) < (l.length : Int)) = false := by simp
      have HQ := hidOf2 hQ
      clear hQ HC HG
      go_wp2_with fail
      go_loopw [16] (fun s16 x => ∃ k s2, k ≤ inh ∧ s16 = .int .i64 (k : Nat) ∧ QE p inh l.length (255 * l.length + k) w x s2 any (since + k)) (fun s16 _ => inh - (intOf s16).toNat)
      case atStart => exact ⟨0, s, by omega, rfl, HQ.out⟩
      case round =>
        clear HQ
        obtain ⟨k, s2, hk, rfl, hQ2⟩ := hrel
        have hsz2 := hQ2.sz hp
        by_cases hkn : k < inh
        · have hd3 : decide ((k : Int) < (inh : Int)) = true := by simp; omega
          have hT := tickP hQ2.pt
          go_wp2_with (go_at_call 13; refine hT.mono ?_; rintro e w7 ⟨rfl, t7, k7⟩; have Q7 := hQ2.tick hp t7 k7)
          go_roundw
          case measure => simp [intOf]; omega
          case rel => exact ⟨k + 1, _, by omega, rfl, Q7⟩
        · obtain rfl : k = inh := by omega
          have hd3 : decide ((k : Int) < (k : Int)) = false := by simp
          have hB2 := hQ2.below
          obtain ⟨g2, hg2⟩ : ∃ g, wr.heap.size = g := ⟨_, rfl⟩
          obtain ⟨hcan, hfit, hmay⟩ := equi_end k hi _ rfl
          have hN2 : Calls Try.prog 7 #[.int .i64 1, .int .u64 (k : Int)] wr fun e w' => e = .returned (.tuple #[.pointer (some ⟨g2, 0, none⟩), .int .i64 0]) ∧ Pt g2 (fun z => g2 ≤ z) ⟨1, k, [], [], [], 0⟩ w' ∧ Below g2 wr w' := by
            rw [← hg2]
            exact newP 1 k (by decide) (by decide) (by omega) wr _ (Nat.le_refl _)
          have HRa : Hid (∀ x, Pt g2 (fun z => g2 ≤ z) ⟨1, k, [], [], [], 0⟩ x → g2 ≤ x.heap.size → Calls Try.prog 9 #[.pointer (some ⟨g2, 0, none⟩), .agg #[.int .u16 4096, .int .u8 0, .int .u8 0, .int .u8 0, .int .u8 0, .int .u8 0, .int .u8 0]] x fun e w' => e = .returned (.bool true) ∧ Pt g2 (fun z => g2 ≤ z) (Te.raise ⟨1, k, [], [], [], 0⟩ tQ) w' ∧ Kq (fun z => g2 ≤ z) x w') := fun x hx hgx => by
            have := raiseP hx (fun z hz => Nat.le_trans hgx hz) (by simp) hfit tQ
            rw [hcan] at this
            exact this
          have HFr : Hid (∀ x, Pt g2 (fun z => g2 ≤ z) (Te.raise ⟨1, k, [], [], [], 0⟩ tQ) x → g2 ≤ x.heap.size → ∃ f r, (Te.raise ⟨1, k, [], [], [], 0⟩ tQ).waits = f :: r ∧ Calls Try.prog 15 #[.pointer (some ⟨g2, 0, none⟩)] x fun e w' => e = .returned (.tuple #[.agg #[.int .u8 ((f.c : Int) % 256), .int .u8 ((f.c : Int) / 256), .int .u8 f.r, .int .u8 f.x0, .int .u8 f.x1, .int .u8 f.x2, .int .u8 f.x3, .int .u8 f.x4], .bool true]) ∧ Pt g2 (fun z => g2 ≤ z) (Te.raise ⟨1, k, [], [], [], 0⟩ tQ).out w' ∧ Kq (fun z => g2 ≤ z) x w') := fun x hx hgx => frameYes hx (fun z hz => Nat.le_trans hgx hz) hmay
          clear hcan hfit hmay hQ2
          generalize Te.raise ⟨1, k, [], [], [], 0⟩ tQ = S1 at *
          go_upto_region 28 with (go_at_call 7; refine hN2.mono ?_; rintro e w3 ⟨rfl, t3, b3⟩)
          have hs3 := b3.size
          go_upto_region 30 with (go_at_call 9; refine (HRa.out w3 t3 (by omega)).mono ?_; rintro e w4 ⟨rfl, t4, k4⟩)
          have b4 := k4.below b3 (by omega) (fun z h => h)
          have hs4 := b4.size
          obtain ⟨f, r, _, hF⟩ := HFr.out w4 t4 (by omega)
          clear hN2 HRa t3 k4 b3 hs3 HFr
          go_upto_region 31 with (go_at_call 15; refine hF.mono ?_; rintro e w5 ⟨rfl, t5, k5⟩)
          have b5 := k5.below b4 (by omega) (fun z h => h)
          obtain ⟨w6, hw6⟩ : ∃ y, w5.alloc (.cells #[.int .u8 ((f.c : Int) % 256), .int .u8 ((f.c : Int) / 256), .int .u8 f.r, .int .u8 f.x0, .int .u8 f.x1, .int .u8 f.x2, .int .u8 f.x3, .int .u8 f.x4] 42) = y := ⟨_, rfl⟩
          have b6 : Below g2 wr w6 := by rw [← hw6]; exact b5.alloc (by have := b5.size; omega) _
          rw [hw6]
          clear hw6 b5 hF t5 k5 b4
          go_wp2_with (go_at_call 8; refine (lives_any _).mono ?_; rintro e w7 ⟨rfl, b7⟩)
          go_ret
          exact ⟨rfl, (hB2.trans (b6.mono (by omega))).trans (b7.mono (by have := b6.size; omega))⟩
theorem equi_int (a : Int) (v : Value) (l : List Tr) (v2 : Value) (gs : List UInt8) (ha : 0 ≤ a ∧ a < 256) (hl : l.length ≤ 17592186043904) (hgs : gs.length ≤ 140737488351232) (w : World) (hB : Wide 7 Tr.cs w v l) (hG : Bytes w v2 gs) : Calls Try.prog 6 #[.int .u8 a, v, v2] w fun r w' => r = .returned (.bool true) ∧ Below w.heap.size w w' := by
  obtain ⟨n, rfl⟩ : ∃ n : Nat, a = (n : Int) := ⟨a.toNat, by omega⟩
  exact equi_walk n (by omega) v l v2 gs hl hgs w hB hG
end Go.Proofs.Ytcokdcjfaankaaa
