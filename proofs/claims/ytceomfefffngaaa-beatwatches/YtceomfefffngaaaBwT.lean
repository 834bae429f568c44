/- The document's watcher: a tick goes by. -/
import Derived.Test.YtceomfefffngaaaBwL
namespace Go.Proofs.Ytceomfefffngaaa
open Go.RowKit
set_option linter.unusedVariables false
set_option maxRecDepth 1000000
set_option linter.unusedSimpArgs false
theorem tickK_map {β : Type} (f : Wt → β) (hf : ∀ x, f x.tick = f x) (l : List Wt) (k : Nat) : (tickK l k).map f = l.map f := by
  unfold tickK
  rw [List.map_append, List.map_map]
  have : (l.take k).map (f ∘ Wt.tick) = (l.take k).map f := List.map_congr_left (fun x _ => hf x)
  rw [this, ← List.map_append, List.take_append_drop]
theorem OkW.tickK {l : List Wt} (h : OkW l) (k : Nat) : OkW (tickK l k) := by
  refine ⟨fun x hx => ?_, by rw [tickK_map Wt.nd Wt.tick_nd]; exact h.nd⟩
  unfold Go.Proofs.Ytceomfefffngaaa.tickK at hx
  rcases List.mem_append.1 hx with h1 | h1
  · obtain ⟨y, hy, rfl⟩ := List.mem_map.1 h1
    exact (h.ok y (List.mem_of_mem_take hy)).tick
  · exact h.ok x (List.mem_of_mem_drop h1)
/-- The same, of whatever list. -/
structure Lr (w : World) (p g : Nat) (lv sv : Value) (L : List Wq) (l : List Wt) (x : World) : Prop where
  blk : Bc 45 g #[lv, sv] x
  row : x.ownsRow 0 87 3 sv l.length (flatW DS l)
  hs : ∀ k, sv.ownBlock = some k → p ≤ k
  hg : p ≤ g
  bl : Below p w x
  sz : p ≤ x.heap.size
  lst : ∀ y, Below p w y → Wide 2 Wq.qs y lv L
section
variable {w x y : World} {p g : Nat} {lv sv : Value} {L : List Wq} {l : List Wt}
theorem Ld.raw (h : Ld w p g lv sv L l x) : Lr w p g lv sv L l x := ⟨h.blk, h.row, h.hs, h.hg, h.bl, h.sz, h.lst⟩
theorem Lr.ld (h : Lr w p g lv sv L l x) (ok : OkW l) (eq : l.map Wt.q = L) : Ld w p g lv sv L l x := ⟨h.blk, h.row, ok, eq, h.hs, h.hg, h.bl, h.sz, h.lst⟩
theorem Lr.kq {P : Nat → Prop} (h : Lr w p g lv sv L l x) (t : Kq P x y) (h0 : ∀ k, P k → p ≤ k) (h1 : ¬ P g) (h2 : ∀ k, sv.ownBlock = some k → ¬ P k) : Lr w p g lv sv L l y :=
  ⟨h.blk.kq t h1, own_kq h.row t h2, h.hs, h.hg, t.below h.bl h.sz h0, Nat.le_trans h.sz t.size, h.lst⟩
theorem Lr.below (h : Lr w p g lv sv L l x) (t : Below x.heap.size x y) : Lr w p g lv sv L l y := h.kq (P := fun _ => False) (.of_below t) (fun _ h => h.elim) (fun h => h) (fun _ _ h => h)
theorem Lr.drawn (h : Lr w p g lv sv L l x) (n : Nat) : Lr w p g lv sv L l (x.drewN n) := h.kq (P := fun _ => False) ((Kq.refl _ _).drawn n) (fun _ h => h.elim) (fun h => h) (fun _ _ h => h)
theorem Lr.grown (h : Lr w p g lv sv L l x) {r : Option Nat} (t : x.grownBy y r) (h0 : ∀ k, r = some k → p ≤ k) (h1 : r ≠ some g) (h2 : ∀ k, sv.ownBlock = some k → r ≠ some k) : Lr w p g lv sv L l y :=
  h.kq (P := fun k => r = some k) ⟨t.os, t.tape, t.output, t.size, fun k hk hn => t.block k hk (fun e => hn e.symm)⟩ h0 h1 h2
theorem Lr.cell (h : Lr w p g lv sv L l x) : x.cell? ⟨g, 0, none⟩ = some lv ∧ x.cell? ⟨g, 1, none⟩ = some sv := ⟨h.blk.cell 0, h.blk.cell 1⟩
theorem Lr.sets {q n c : Nat} (h : Lr w p g lv (.slice (some ⟨q, 0, none⟩) n c) L l x) {k : Nat} (hk : k < l.length) (a : Wt) (j : Nat) (u : Value) (hj : j < 3) (hd : a.ss = l[k].ss.set j u) :
    Lr w p g lv (.slice (some ⟨q, 0, none⟩) n c) L (l.set k a) (x.setCell ⟨q, k * 3 + j, none⟩ u) := by
  have hne : q ≠ g := fun e => by
    obtain ⟨_, cur, hc⟩ := own_of h.row (g := q) rfl
    have := h.blk
    unfold Bc at this
    rw [← e, hc] at this
    simp at this
  rw [one_set]
  have G := grown_put x q (k * 3 + j) [u]
  refine ⟨(heap_cn_other (fun e => hne e.symm) _ _ x).trans h.blk, own_setW DS h.row hk [u] a (fun i hi => ?_) (by show j + 1 ≤ 3; omega), h.hs, h.hg, below_of_grown h.bl G h.sz (fun k hk => h.hs k hk), Nat.le_trans h.sz G.size, h.lst⟩
  show a.ss[i]? = if j ≤ i ∧ i < j + [u].length then [u][i - j]? else l[k].ss[i]?
  rw [hd, List.getElem?_set]
  have hi3 : i < 3 := hi
  by_cases hji : j = i
  · subst hji
    rw [if_pos rfl, if_pos (by simp [Wt.ss]; omega), if_pos (by simp), Nat.sub_self]
    rfl
  · rw [if_neg hji, if_neg (by simp; omega)]
theorem Lr.apart (h : Lr w p g lv sv L l x) {B : Nat} {nv : Value} {ns : List Ne} (hN : Nw B nv ns x) : nv.ownBlock ≠ some g ∧ ∀ k, sv.ownBlock = some k → nv.ownBlock ≠ some k := by
  refine ⟨fun e => ?_, fun k hk e => ?_⟩
  · obtain ⟨_, cur, hc⟩ := own_of hN e
    have := h.blk
    unfold Bc at this
    rw [hc] at this
    simp at this
  · obtain ⟨_, cur, hc⟩ := own_of hN e
    obtain ⟨_, cur2, hc2⟩ := own_of h.row hk
    rw [hc] at hc2
    simp at hc2
set_option maxHeartbeats 4000000 in
theorem dtick_any (h : Ld w p g lv sv L l x) : Calls Try.prog 18 #[.pointer (some ⟨g, 0, none⟩)] x fun e y => ∃ nv, e = .returned nv ∧ Nw x.heap.size nv (tellsW l) y ∧ Ld w p g lv sv L (tickW l) y ∧ x.grownBy y sv.ownBlock := by
  have hll := h.ok.len
  obtain ⟨lo, lc, hlv⟩ := (h.lst x h.bl).shape
  obtain ⟨ao, cap, hsv⟩ := own_shape5 h.row
  have HV := hidOf2 hsv
  have HO := hidOf2 h.ok
  have HQ := hidOf2 h.eq
  have hlen := h.len
  rw [hlen] at hlv
  have HLV := hidOf2 hlv
  have HAT : Hid (∀ y, Below p w y → ∀ k (hk : k < l.length), ∃ b off, lo = some ⟨b, off, none⟩ ∧ y.cell? ⟨b, off + k * 2, none⟩ = some (.int .i64 l[k].nd) ∧ y.cell? ⟨b, off + k * 2 + 1, none⟩ = some (.int .u64 l[k].tk)) := fun y hy k hk => by
    obtain ⟨b, off, cap, h1, _, h3⟩ := (h.lst y hy).at0 k (by rw [hlen]; exact hk)
    rw [hlv] at h1
    injection h1 with h1 _ _
    have e : L[k]'(by rw [hlen]; exact hk) = l[k].q := by
      have := h.eq
      subst this
      simp
    rw [e] at h3
    exact ⟨b, off, h1, h3 0 _ rfl, h3 1 _ rfl⟩
  obtain ⟨p0, hp0⟩ : ∃ p, x.heap.size = p := ⟨_, rfl⟩
  obtain ⟨x1, hx1⟩ : ∃ z, x.alloc (.cells #[] 55) = z := ⟨_, rfl⟩
  have bx : Below x.heap.size x x1 := by rw [← hx1]; exact (Below.refl _ _).alloc (Nat.le_refl _) _
  have H0 := hidOf2 (h.raw.below bx)
  have HN0 : Hid (Nw p0 (.slice (some ⟨p0, 0, none⟩) 0 0) [] x1) := by rw [← hx1, ← hp0]; exact own_empty_e _ _ _
  have HG0 : Hid (x.grownBy x1 sv.ownBlock) := gb_any bx _
  have HP0 := hidOf2 hp0
  have HLE : p ≤ x.heap.size := h.sz
  have HP0 := hidOf2 hp0
  have HLE : p ≤ x.heap.size := h.sz
  rw [hp0]
  obtain ⟨N, hN⟩ : ∃ N, l.length = N := ⟨_, rfl⟩
  have HL := hidOf2 hN
  rw [hN] at HLV HV hll
  clear h hlv hsv hN hlen bx
  go_enter Try.func18, Try.ntmps18
  go_upto_region 2 with (refine BigFrame.wpList_want rfl fun K hK => wp_bs0g Try.underlying47 infoN rfl (hK _ _ ?_))
  try rw [hx1]
  clear hx1
  go_wp2_with fail
  go_loopw [3, 4] (fun a s4 y => ∃ k, k ≤ N ∧ s4 = .int .i64 (k : Nat) ∧ Nw p0 a (tellsW (l.take k)) y ∧ Lr w p g lv sv L (tickK l k) y ∧ x.grownBy y sv.ownBlock) (fun _ s4 _ => N - (intOf s4).toNat)
  case atStart => exact ⟨0, by omega, rfl, HN0.out, by rw [tickK_zero]; exact H0.out, HG0.out⟩
  case round =>
    clear H0 HN0 HG0
    obtain ⟨k, hk, rfl, hN, hW, hg⟩ := hrel
    obtain ⟨cg0, cg1⟩ := hW.cell
    rw [HLV.out] at cg0
    by_cases hkl : k < N
    · have hd : decide ((k : Int) < (N : Int)) = true := by simp; omega
      have hkL : k < l.length := by rw [HL.out]; exact hkl
      obtain ⟨q, hq⟩ : ∃ q, ao = some ⟨q, 0, none⟩ := by
        rcases hW.row.2 with ⟨hv, h0⟩ | ⟨q, cap, cur, hv, _⟩
        · rw [tickK_len] at h0; omega
        · rw [HV.out] at hv
          injection hv with h1 _ _
          exact ⟨q, h1⟩
      subst hq
      have hvv := HV.out
      subst hvv
      have hkK : k < (tickK l k).length := by rw [tickK_len]; exact hkL
      have hR := own_getW DS hW.row hkK
      have hF : ∀ j, j < 3 → wr.frozen? ⟨q, k * 3 + j, none⟩ = false := fun j hj => (own_thereW DS hW.row hkK j hj).2
      have egk := tickK_get l k hkL
      have hok := HO.out.ok _ (List.getElem_mem hkL)
      have e1 := tellsW_take l k hkL
      have e2 := tickK_next l k hkL
      obtain ⟨b, off, rfl, ln, lt⟩ := HAT.out wr hW.bl k hkL
      have HAT2 : Hid (∀ y, Below p w y → y.cell? ⟨b, off + k * 2, none⟩ = some (.int .i64 l[k].nd) ∧ y.cell? ⟨b, off + k * 2 + 1, none⟩ = some (.int .u64 l[k].tk)) := fun y hy => by
        obtain ⟨b', off', e, h2, h3⟩ := HAT.out y hy k hkL
        injection e with e; injection e with e1 e2; subst e1; subst e2
        exact ⟨h2, h3⟩
      rw [egk] at hR
      obtain ⟨z, hz⟩ : ∃ z, l[k] = z := ⟨_, rfl⟩
      rw [hz] at hR hok e1 e2 egk ln lt HAT2
      have hR' : wr.rangeAt q (k * 3) z.ss := hR
      by_cases h1 : z.is = 1
      · obtain ⟨m, hm⟩ : ∃ m, z.si + 1 = m := ⟨_, rfl⟩
        have W1 := hW.sets hkK ⟨z.nd, z.tk, 1, z.st, m⟩ 2 (.int .u64 (m : Nat)) (by omega) (by rw [egk]; simp [Wt.ss, h1])
        have hw2 := hok.w2 h1
        have ht1 := hok.t1
        have G1 : x.grownBy (wr.setCell ⟨q, k * 3 + 2, none⟩ (.int .u64 (m : Nat))) (some q) := by rw [one_set]; exact grown_cn hg _ _
        have N1 : Nw p0 u3 (tellsW (l.take k)) (wr.setCell ⟨q, k * 3 + 2, none⟩ (.int .u64 (m : Nat))) := by
          rw [one_set]
          exact hN.grown (grown_put _ _ _ _) (fun j hj e => (hW.apart hN).2 q rfl (by rw [hj, e]))
        have hR1 := own_getW DS W1.row (k := k) (by rw [List.length_set]; exact hkK)
        have hF1 : ∀ j, j < 3 → (wr.setCell ⟨q, k * 3 + 2, none⟩ (.int .u64 (m : Nat))).frozen? ⟨q, k * 3 + j, none⟩ = false := fun j hj => (own_thereW DS W1.row (k := k) (by rw [List.length_set]; exact hkK) j hj).2
        rw [List.getElem_set_self] at hR1
        obtain ⟨o, ho⟩ : ∃ o, k * 3 = o := ⟨_, rfl⟩
        have hR1' : (wr.setCell ⟨q, k * 3 + 2, none⟩ (.int .u64 (m : Nat))).rangeAt q (k * 3) (Wt.ss ⟨z.nd, z.tk, 1, z.st, m⟩) := hR1
        rw [ho] at hR' hF W1 G1 N1 hR1' hF1
        obtain ⟨c0, c1, c2⟩ := Wt.cells3 hR'
        have f2 := hF 2 (by omega)
        obtain ⟨X1, hX1⟩ : ∃ X, wr.setCell ⟨q, o + 2, none⟩ (.int .u64 (m : Nat)) = X := ⟨_, rfl⟩
        rw [hX1] at W1 G1 N1 hR1' hF1
        obtain ⟨k0, k1, k2⟩ := Wt.cells3 hR1'
        simp only at k0 k1 k2
        have f0 := hF1 0 (by omega)
        rw [Nat.add_zero] at f0
        obtain ⟨cX0, cX1⟩ := W1.cell
        rw [HLV.out] at cX0
        obtain ⟨lnX, ltX⟩ := HAT2.out X1 W1.bl
        have hmw : IntKind.u64.wrap ((z.si : Int) + 1) = (m : Nat) := by rw [← hm]; simp [IntKind.wrap, IntKind.bits, IntKind.signed]; omega
        have d1 : ((z.is : Int) != 1) = false := by simp [h1]
        have hkn : (k : Int) < (N : Int) := by omega
        by_cases hlost : m = z.tk
        · have HT1 : Hid (tellsW (l.take (k + 1)) = tellsW (l.take k) ++ [⟨z.nd, 3, z.st⟩]) := by show _ = _; rw [e1]; simp [Wt.tells, h1, hm, hlost]
          have W2 := fun n => (W1.drawn n).sets (k := k) (by rw [List.length_set]; exact hkK) z.tick 0 (.int .i64 2) (by omega) (by rw [List.getElem_set_self]; simp [Wt.tick, h1, hm, hlost, Wt.ss])
          rw [List.set_set, e2, ho] at W2
          have G2 : ∀ n, x.grownBy ((X1.drewN n).setCell ⟨q, o, none⟩ (.int .i64 2)) (some q) := fun n => by rw [one_set]; exact grown_cn (grown_dr G1 n) _ _
          have N2 : ∀ n, Nw p0 u3 (tellsW (l.take k)) ((X1.drewN n).setCell ⟨q, o, none⟩ (.int .i64 2)) := fun n => by
            rw [one_set]
            exact Nw.grown (w := X1.drewN n) (N1.drawn n) (grown_put _ _ _ _) (fun j hj e => (W1.apart N1).2 q rfl (by rw [hj, e]))
          have HX2 : Hid (∀ n, Lr w p g lv (.slice (some ⟨q, 0, none⟩) N cap) L (tickK l (k + 1)) ((X1.drewN n).setCell ⟨q, o, none⟩ (.int .i64 2)) ∧ x.grownBy ((X1.drewN n).setCell ⟨q, o, none⟩ (.int .i64 2)) (some q) ∧ Nw p0 u3 (tellsW (l.take k)) ((X1.drewN n).setCell ⟨q, o, none⟩ (.int .i64 2))) := fun n => ⟨W2 n, G2 n, N2 n⟩
          have HA2 : Hid (∀ X, Lr w p g lv (.slice (some ⟨q, 0, none⟩) N cap) L (tickK l (k + 1)) X → X.rangeAt q o z.tick.ss) := fun X hX => by
            have := own_getW DS hX.row (k := k) (by rw [tickK_len]; exact hkL)
            have e9 : (tickK l (k + 1))[k]'(by rw [tickK_len]; exact hkL) = z.tick := by
              have := e2
              simp only [← this, List.getElem_set_self]
            rw [e9] at this
            have h9 : X.rangeAt q (k * 3) z.tick.ss := this
            rwa [ho] at h9
          have hst : z.tick.st = z.st := by simp [Wt.tick, h1, hm, hlost]
          have dl : ((m : Int) == (z.tk : Int)) = true := by simp [hlost]
          have hlen : (tellsW (l.take k)).length ≤ 1000 := by have h3 := tellsW_le (l.take k); have h4 := HL.out; rw [List.length_take] at h3; omega
          clear W2 G2 N2 W1 G1 N1 hR1 hR1' hF1 hR hR' hF e1 e2 egk hW hN hg hok h1 hm hw2 ht1 hz hlost
          go_upto_region 7 with fail
          go_quiet (fail)
          go_upto_region 9 with fail
          obtain ⟨W2, G2, N2⟩ := HX2.out nq
          have hR2 := HA2.out _ W2
          rw [show z.tick.ss = [.int .i64 z.tick.is, .int .i64 z.st, .int .u64 z.tick.si] by unfold Wt.ss; rw [hst]] at hR2
          obtain ⟨X2, hX2⟩ : ∃ X, (X1.drewN nq).setCell ⟨q, o, none⟩ (.int .i64 2) = X := ⟨_, rfl⟩
          rw [hX2] at W2 G2 N2 hR2 ⊢
          have r1 : X2.cell? ⟨q, o + 1, none⟩ = some (.int .i64 z.st) := hR2 1 _ rfl
          obtain ⟨cY0, cY1⟩ := W2.cell
          rw [HLV.out] at cY0
          obtain ⟨lnY, ltY⟩ := HAT2.out X2 W2.bl
          have HW2 := hidOf2 W2
          have HG2 := hidOf2 G2
          have HN2 := hidOf2 N2
          clear W2 G2 N2 hR2 HX2 HA2 hX2 hX1 k0 k1 k2 c0 c1 c2 cg0 cg1 cX0 cX1 f2 f0 ln lt lnX ltX HAT HAT2
          have hbase : p0 ≤ X2.heap.size := by rw [← HP0.out]; exact HG2.out.size
          have HN3 : Hid (Nw p0 u3 (tellsW (l.take k)) (X2.alloc (.cells #[.int .i64 z.nd, .int .i64 3, .int .i64 z.st] 55)).drew) := (HN2.out.below ((Below.refl _ _).alloc (Nat.le_refl _) _)).drawn 1
          have HX3 : Hid (Wide 3 Ne.cs (X2.alloc (.cells #[.int .i64 z.nd, .int .i64 3, .int .i64 z.st] 55)).drew (.slice (some ⟨X2.heap.size, 0, none⟩) 1 1) [⟨z.nd, 3, z.st⟩]) := wide_ne X2 ⟨z.nd, 3, z.st⟩
          have HE : Hid (∀ v' w', Nw p0 v' (tellsW (l.take k) ++ [⟨z.nd, 3, z.st⟩]) w' → (X2.alloc (.cells #[.int .i64 z.nd, .int .i64 3, .int .i64 z.st] 55)).drew.grownBy w' u3.ownBlock → Nw p0 v' (tellsW (l.take (k + 1))) w' ∧ Lr w p g lv (.slice (some ⟨q, 0, none⟩) N cap) L (tickK l (k + 1)) w' ∧ x.grownBy w' (some q)) := fun v' w' a1 a2 => by
            have g1 : X2.grownBy (X2.alloc (.cells #[.int .i64 z.nd, .int .i64 3, .int .i64 z.st] 55)).drew (some q) := gb_any (below_drawn ((Below.refl _ _).alloc (Nat.le_refl _) _) 1) _
            have W3 : Lr w p g lv (.slice (some ⟨q, 0, none⟩) N cap) L (tickK l (k + 1)) (X2.alloc (.cells #[.int .i64 z.nd, .int .i64 3, .int .i64 z.st] 55)).drew := (HW2.out.below ((Below.refl _ _).alloc (Nat.le_refl _) _)).drawn 1
            have ha := W3.apart HN3.out
            have hpp : p ≤ p0 := by rw [← HP0.out]; exact HLE
            refine ⟨by rw [HT1.out]; exact a1, W3.grown a2 (fun j hj => Nat.le_trans hpp (own_base HN3.out hj)) ha.1 ha.2, ?_⟩
            exact grown_then (grown_trans HG2.out g1) a2 (fun j hj => by rw [HP0.out]; exact own_base HN3.out hj)
          go_region_law (refine step_append_ne rfl _ _ rfl p0 u3 (tellsW (l.take k)) rfl (by exact HN3.out) X2.heap.size ⟨z.nd, 3, z.st⟩ rfl (by exact HX3.out) hlen (by simp; omega) ?_; intro v' w' a1 a2; obtain ⟨a3, a4, a5⟩ := HE.out v' w' a1 a2; clear a1 a2)
          all_goals
            go_wp2_with fail
            go_roundw
            case rel => exact ⟨k + 1, by omega, rfl, a3, a4, a5⟩
            case measure => simp [intOf]; omega
        · have HT1 : Hid (tellsW (l.take (k + 1)) = tellsW (l.take k)) := by show _ = _; rw [e1]; simp [Wt.tells, h1, hm, hlost]
          have hzt : z.tick = ⟨z.nd, z.tk, 1, z.st, m⟩ := by simp [Wt.tick, h1, hm, hlost]
          rw [← hzt, e2] at W1
          have HX2 : Hid (∀ n, Nw p0 u3 (tellsW (l.take (k + 1))) (X1.drewN n) ∧ Lr w p g lv (.slice (some ⟨q, 0, none⟩) N cap) L (tickK l (k + 1)) (X1.drewN n) ∧ x.grownBy (X1.drewN n) (some q)) := fun n => ⟨by rw [HT1.out]; exact N1.drawn n, W1.drawn n, grown_dr G1 n⟩
          have dl : ((m : Int) == (z.tk : Int)) = false := by simp; omega
          clear W1 G1 N1 hR1 hR1' hF1 hR hR' hF e1 e2 egk hW hN hg hok h1 hm hw2 ht1 hz hlost hzt
          go_upto_region 7 with fail
          go_quiet (fail)
          go_wp2_with fail
          go_roundw
          case rel => exact ⟨k + 1, by omega, rfl, HX2.out _⟩
          case measure => simp [intOf]; omega
      · have hzt : z.tick = z := by simp [Wt.tick, h1]
        have HT1 : Hid (tellsW (l.take (k + 1)) = tellsW (l.take k)) := by show _ = _; rw [e1]; simp [Wt.tells, h1]
        have HK : Hid (tickK l (k + 1) = tickK l k) := by
          show _ = _
          rw [← e2, hzt]
          apply List.ext_getElem?
          intro j
          rw [List.getElem?_set]
          by_cases hj : k = j
          · subst hj
            rw [if_pos rfl, if_pos hkK, List.getElem?_eq_getElem hkK, egk]
          · rw [if_neg hj]
        have HX : Hid (Nw p0 u3 (tellsW (l.take (k + 1))) wr ∧ Lr w p g lv (.slice (some ⟨q, 0, none⟩) N cap) L (tickK l (k + 1)) wr ∧ x.grownBy wr (some q)) := ⟨by rw [HT1.out]; exact hN, by rw [HK.out]; exact hW, hg⟩
        obtain ⟨c0, c1, c2⟩ := Wt.cells3 hR'
        have d1 : ((z.is : Int) != 1) = true := by simp; omega
        have hkn : (k : Int) < (N : Int) := by omega
        clear hN hW hg hR hR' hF hok e1 e2 egk h1 hz hzt
        go_wp2_with fail
        go_roundw
        case rel => exact ⟨k + 1, by omega, rfl, HX.out⟩
        case measure => simp [intOf]; omega
    · obtain rfl : k = N := by omega
      have hd : decide ((k : Int) < (k : Int)) = false := by simp
      have HX : Hid (Nw p0 u3 (tellsW l) wr ∧ Ld w p g lv sv L (tickW l) wr ∧ x.grownBy wr sv.ownBlock) := by
        have h4 := HL.out
        rw [List.take_of_length_le (by omega)] at hN
        rw [tickK_all l k (by omega)] at hW
        exact ⟨hN, hW.ld HO.out.tick (by rw [q_tick]; exact HQ.out), hg⟩
      clear hN hW hg
      go_wp2
      go_ret
      exact ⟨_, rfl, HX.out⟩
theorem Ld.tick (h : Ld w p g lv sv L l x) : Calls Try.prog 18 #[.pointer (some ⟨g, 0, none⟩)] x fun e y =>
    ∃ ao cap, e = .returned (.slice ao (tellsW l).length cap) ∧ Nw x.heap.size (.slice ao (tellsW l).length cap) (tellsW l) y ∧ Ld w p g lv sv L (tickW l) y ∧ x.grownBy y sv.ownBlock := by
  refine (dtick_any h).mono ?_
  rintro e y ⟨nv, rfl, N, W, G⟩
  obtain ⟨ao, cap, rfl⟩ := N.shape
  exact ⟨ao, cap, rfl, N, W, G⟩
end
end Go.Proofs.Ytceomfefffngaaa
