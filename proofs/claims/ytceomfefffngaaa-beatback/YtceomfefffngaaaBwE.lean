/- Tick of the program's watcher; State. -/
import Derived.Test.YtceomfefffngaaaBwD
import Derived.Deep.RegionLaw
namespace Go.Proofs.Ytceomfefffngaaa
open Go.RowKit
set_option linter.unusedVariables false
set_option maxRecDepth 1000000
set_option linter.unusedSimpArgs false
def tickK (l : List Wt) (k : Nat) : List Wt := (l.take k).map Wt.tick ++ l.drop k
theorem tickK_len (l : List Wt) (k : Nat) : (tickK l k).length = l.length := by
  simp [tickK]; omega
theorem tickK_zero (l : List Wt) : tickK l 0 = l := by simp [tickK]
theorem tickK_all (l : List Wt) (k : Nat) (h : l.length ≤ k) : tickK l k = tickW l := by
  simp [tickK, tickW, List.take_of_length_le h, List.drop_eq_nil_of_le h]
theorem tickK_get (l : List Wt) (k : Nat) (h : k < l.length) : (tickK l k)[k]'(by rw [tickK_len]; exact h) = l[k] := by
  unfold tickK
  rw [List.getElem_append_right (by simp; omega)]
  simp [List.length_take, Nat.min_eq_left (Nat.le_of_lt h)]
theorem tickK_next (l : List Wt) (k : Nat) (h : k < l.length) : (tickK l k).set k l[k].tick = tickK l (k + 1) := by
  have hl : ((l.take k).map Wt.tick).length = k := by simp; omega
  unfold tickK
  rw [List.set_append_right _ _ (by omega), hl, Nat.sub_self, List.drop_eq_getElem_cons h, List.set_cons_zero, List.take_succ_eq_append_getElem h, List.map_append, List.append_assoc]
  rfl
theorem tellsW_take (l : List Wt) (k : Nat) (h : k < l.length) : tellsW (l.take (k + 1)) = tellsW (l.take k) ++ l[k].tells := by
  unfold tellsW
  rw [List.take_succ_eq_append_getElem h, List.flatMap_append]
  simp
theorem tellsW_le (l : List Wt) : (tellsW l).length ≤ l.length := by
  induction l with
  | nil => simp [tellsW]
  | cons x r ih =>
    have h1 : tellsW (x :: r) = x.tells ++ tellsW r := rfl
    have h2 : x.tells.length ≤ 1 := by unfold Wt.tells; split <;> simp
    rw [h1, List.length_append, List.length_cons]
    omega
/-- append of one piece of news of the call's own, as one step of a region that draws. -/
theorem step_append_ne {ops : Array Oper} {o : Oper} {a : Act} {w : World} {K : Act → World → Prop} {Q : Exit → Act → World → Prop} {E : Prop}
    (hg : o.guard = none) (s x : Operand) (ho : o.op = .call { callee := .builtin .append, args := #[s, x], argTypes := #[47, 47] })
    (base : Nat) (v : Value) (xs : List Ne) (hs : a.eval s = v) (hown : Nw base v xs w)
    (q : Nat) (c : Ne) (hx : a.eval x = .slice (some ⟨q, 0, none⟩) 1 1) (hc : Wide 3 Ne.cs w (.slice (some ⟨q, 0, none⟩) 1 1) [c]) (hlen : xs.length ≤ 1000) (hbase : base ≤ w.heap.size)
    (hK : ∀ v' w', Nw base v' (xs ++ [c]) w' → w.grownBy w' v.ownBlock → K (a.put o.dst v') w') :
    if Region.wanted o (yielded ops a.tmps) = true then Oper.wp Try.prog o a w K Q else E := by
  have hw : Region.wanted o (yielded ops a.tmps) = true := by simp [Region.wanted, hg]
  rw [if_pos hw]
  exact wp_append_wide DN s x 47 55 _ 24 Try.underlying47 infoN rfl ho base v xs hs hown _ [c] hx hc (by simp [maxLen]; omega) (by simp; omega) hbase (fun v' w' h1 h2 => hK v' w' h1 h2)
theorem Nw.drawn {B : Nat} {nv : Value} {ns : List Ne} {w : World} (h : Nw B nv ns w) (n : Nat) : Nw B nv ns (w.drewN n) := own_kq h (P := fun _ => False) ((Kq.refl _ _).drawn n) (fun _ _ h => h)
theorem wide_ne (w : World) (a : Ne) : Wide 3 Ne.cs (w.alloc (.cells #[.int .i64 a.nd, .int .i64 a.wh, .int .i64 a.st] 55)) (.slice (some ⟨w.heap.size, 0, none⟩) 1 1) [a] := wide_new DN w a 55
theorem ty_ne : (55 : Nat) ≠ 84 ∧ (55 : Nat) ≠ 81 := by decide
section
variable {g : Nat} {v : Value} {l : List Wt} {w : World}
theorem Nw.apart {B : Nat} {nv : Value} {ns : List Ne} (h : Nw B nv ns w) (hW : Wa g v l w) : nv.ownBlock ≠ some g ∧ ∀ k, v.ownBlock = some k → nv.ownBlock ≠ some k := by
  refine ⟨fun e => ?_, fun k hk e => ?_⟩
  · obtain ⟨_, cur, hc⟩ := own_of h e
    have := hW.blk
    unfold Bc at this
    rw [hc] at this
    simp at this
  · obtain ⟨_, cur, hc⟩ := own_of h e
    obtain ⟨_, cur2, hc2⟩ := own_of hW.row hk
    rw [hc] at hc2
    simp at hc2
theorem Wa.grown (h : Wa g v l w) {x : World} {r : Option Nat} (t : w.grownBy x r) (h1 : r ≠ some g) (h2 : ∀ k, v.ownBlock = some k → r ≠ some k) : Wa g v l x :=
  h.kq (P := fun k => r = some k) ⟨t.os, t.tape, t.output, t.size, fun k hk hn => t.block k hk (fun e => hn e.symm)⟩ h1 h2
theorem Nw.grown {B : Nat} {nv : Value} {ns : List Ne} {x : World} {r : Option Nat} (h : Nw B nv ns w) (t : w.grownBy x r) (h1 : ∀ k, nv.ownBlock = some k → r ≠ some k) : Nw B nv ns x :=
  own_kq h (P := fun k => r = some k) ⟨t.os, t.tape, t.output, t.size, fun k hk hn => t.block k hk (fun e => hn e.symm)⟩ h1
theorem state_any (h : Wa g v l w) (hO : OkW l) (nd : Int) : Calls Try.prog 27 #[.pointer (some ⟨g, 0, none⟩), .int .i64 nd] w fun e w' => e = .returned (.tuple #[.int .i64 (stW l nd), .bool (isW l nd)]) ∧ Below w.heap.size w w' := by
  have hll := hO.len
  have hP := place_any h (by omega) nd
  by_cases hk : fw l nd < l.length
  · rw [ixw_pos _ _ hk] at hP
    obtain ⟨q, cap, hv⟩ : ∃ q cap, v = .slice (some ⟨q, 0, none⟩) l.length cap := by
      rcases h.row.2 with ⟨hv, h0⟩ | ⟨q, cap, cur, hv, _⟩
      · omega
      · exact ⟨q, cap, hv⟩
    subst hv
    have hi := (hO.ok _ (List.getElem_mem hk)).i2
    have HS : Hid (stW l nd = if l[fw l nd].is = 1 then l[fw l nd].st else 0) := by show _ = _; simp [stW, hk]
    have HI : Hid (isW l nd = decide (l[fw l nd].is = 1)) := by show _ = _; simp [isW, hk]
    have HA : Hid (∀ W, Below w.heap.size w W → W.rangeAt q (fw l nd * 6) l[fw l nd].cs ∧ W.cell? ⟨g, 0, none⟩ = some (.slice (some ⟨q, 0, none⟩) l.length cap)) := fun W hW => ⟨((h.below hW).at hk).1, (h.below hW).cell.1⟩
    have hkn : ((fw l nd : Nat) : Int) < (l.length : Int) := by omega
    generalize stW l nd = S at *
    generalize isW l nd = I at *
    obtain ⟨z, hz⟩ : ∃ z, l[fw l nd] = z := ⟨_, rfl⟩
    rw [hz] at HS HI HA hi
    clear h hz hk hO hll
    generalize fw l nd = k at *
    generalize l.length = L at *
    by_cases h1 : z.is = 1
    · rw [if_pos h1] at HS
      rw [decide_eq_true h1] at HI
      go_enter Try.func27, Try.ntmps27
      go_upto_region 2 with (go_at_call 29; refine hP.mono ?_; rintro e W ⟨rfl, hb2⟩; obtain ⟨hR, k1⟩ := HA.out W hb2)
      have HB2 := hidOf2 hb2
      have hT := isThere_x hR hi
      rw [decide_eq_true h1] at hT
      obtain ⟨o, ho⟩ : ∃ o, k * 6 = o := ⟨_, rfl⟩
      rw [ho] at hR hT
      obtain ⟨c0, c1, c2, c3, c4, c5⟩ := Wt.cells6 hR
      have dk : decide ((k : Int) < 0) = false := by simp
      clear HA hb2 hR hP h1
      go_wp2_with (go_at_call 32; refine hT.mono ?_; rintro e W9 ⟨rfl, hw9⟩; rw [hw9])
      go_ret2
      exact ⟨by rw [HS.out, HI.out]; rfl, HB2.out⟩
    · rw [if_neg h1] at HS
      rw [decide_eq_false h1] at HI
      go_enter Try.func27, Try.ntmps27
      go_upto_region 2 with (go_at_call 29; refine hP.mono ?_; rintro e W ⟨rfl, hb2⟩; obtain ⟨hR, k1⟩ := HA.out W hb2)
      have HB2 := hidOf2 hb2
      have hT := isThere_x hR hi
      rw [decide_eq_false h1] at hT
      obtain ⟨o, ho⟩ : ∃ o, k * 6 = o := ⟨_, rfl⟩
      rw [ho] at hR hT
      have dk : decide ((k : Int) < 0) = false := by simp
      clear HA hb2 hR hP h1
      go_wp2_with (go_at_call 32; refine hT.mono ?_; rintro e W9 ⟨rfl, hw9⟩; rw [hw9])
      go_ret2
      exact ⟨by rw [HS.out, HI.out]; rfl, HB2.out⟩
  · rw [ixw_neg _ _ hk] at hP
    have HS : Hid (stW l nd = 0) := by show _ = _; simp [stW, hk]
    have HI : Hid (isW l nd = false) := by show _ = _; simp [isW, hk]
    clear h hk hO hll
    go_enter Try.func27, Try.ntmps27
    go_wp2_with (go_at_call 29; refine hP.mono ?_; rintro e W ⟨rfl, hb2⟩)
    go_ret2
    exact ⟨by rw [HS.out, HI.out]; rfl, hb2⟩
theorem grown_then {a b c : World} {r t : Option Nat} (h : a.grownBy b r) (g : b.grownBy c t) (ht : ∀ k, t = some k → a.heap.size ≤ k) : a.grownBy c r :=
  ⟨g.os.trans h.os, g.tape.trans h.tape, g.output.trans h.output, Nat.le_trans h.size g.size, fun k hk hn => (g.block k (Nat.lt_of_lt_of_le hk h.size) (fun e => by have := ht k e.symm; omega)).trans (h.block k hk hn)⟩
theorem one_set (w : World) (q o : Nat) (v : Value) : w.setCell ⟨q, o, none⟩ v = w.setCells q o [v] := rfl
theorem Wa.put1 {q n c : Nat} (h : Wa g (.slice (some ⟨q, 0, none⟩) n c) l w) {k : Nat} (hk : k < l.length) (j : Nat) (u : Value) (a : Wt) (hj : j < 6) (hd : a.cs = l[k].cs.set j u) : Wa g (.slice (some ⟨q, 0, none⟩) n c) (l.set k a) (w.setCell ⟨q, k * 6 + j, none⟩ u) := by
  rw [one_set]
  refine h.put hk j [u] a (by simp; omega) (fun i hi => ?_)
  rw [hd, List.getElem?_set]
  by_cases hji : j = i
  · subst hji
    rw [if_pos rfl, if_pos (by simp [Wt.cs]; omega), if_pos (by simp), Nat.sub_self]
    rfl
  · rw [if_neg hji, if_neg (by simp; omega)]
set_option maxHeartbeats 2000000 in
theorem tick_any (h : Wa g v l w) (hO : OkW l) : Calls Try.prog 17 #[.pointer (some ⟨g, 0, none⟩)] w fun e w' => ∃ nv, e = .returned nv ∧ Nw w.heap.size nv (tellsW l) w' ∧ Wa g v (tickW l) w' ∧ w.grownBy w' v.ownBlock := by
  have hll := hO.len
  obtain ⟨ao, cap, hv⟩ := h.shape
  have HV := hidOf2 hv
  have H0 := hidOf2 h
  obtain ⟨c0, _⟩ := h.cell
  rw [hv] at c0
  have HO := hidOf2 hO
  obtain ⟨p, hp⟩ : ∃ p, w.heap.size = p := ⟨_, rfl⟩
  rw [hp]
  obtain ⟨L, hL⟩ : ∃ L, l.length = L := ⟨_, rfl⟩
  have HL := hidOf2 hL
  rw [hL] at c0 HV hll
  clear h hv hO hL
  go_enter Try.func17, Try.ntmps17
  go_wp2_with fail
  go_loopw [3, 11] (fun a s11 x => ∃ k, k ≤ L ∧ s11 = .int .i64 (k : Nat) ∧ Nw p a (tellsW (l.take k)) x ∧ Wa g v (tickK l k) x ∧ w.grownBy x v.ownBlock) (fun _ s11 _ => L - (intOf s11).toNat)
  case atStart => exact ⟨0, by omega, rfl, Nw.nil _ _, by rw [tickK_zero]; exact H0.out, grown_refl _ _⟩
  case round =>
    obtain ⟨k, hk, rfl, hN, hW, hg⟩ := hrel
    by_cases hkl : k < L
    · have hd : decide ((k : Int) < (L : Int)) = true := by simp; omega
      have hkL : k < l.length := by rw [HL.out]; exact hkl
      obtain ⟨q, hq⟩ : ∃ q, ao = some ⟨q, 0, none⟩ := by
        rcases hW.row.2 with ⟨hv, h0⟩ | ⟨q, cap, cur, hv, _⟩
        · rw [tickK_len] at h0; omega
        · rw [HV.out] at hv
          injection hv with h1 _ _
          exact ⟨q, h1⟩
      subst hq
      have hvv := HV.out
      subst hvv
      have hz1 := (hW.at (k := k) (by rw [tickK_len]; exact hkL))
      rw [tickK_get l k hkL] at hz1
      obtain ⟨hR, hF⟩ := hz1
      have hok := HO.out.ok _ (List.getElem_mem hkL)
      have hT := isThere_x hR hok.i2
      have e1 := tellsW_take l k hkL
      have e2 := tickK_next l k hkL
      obtain ⟨cg, _⟩ := hW.cell
      have hkK : k < (tickK l k).length := by rw [tickK_len]; exact hkL
      have egk := tickK_get l k hkL
      obtain ⟨z, hz⟩ : ∃ z, l[k] = z := ⟨_, rfl⟩
      rw [hz] at hR hok hT e1 e2 egk
      by_cases h1 : z.is = 1
      · obtain ⟨m, hm⟩ : ∃ m, z.si + 1 = m := ⟨_, rfl⟩
        have W1 := hW.put1 hkK 5 (.int .u64 (m : Nat)) ⟨z.nd, z.tk, 1, z.st, m⟩ (by omega) (by rw [egk]; simp [Wt.cs, h1])
        have hw2 := hok.w2 h1
        have ht1 := hok.t1
        have G1 : w.grownBy (wr.setCell ⟨q, k * 6 + 5, none⟩ (.int .u64 (m : Nat))) (some q) := by rw [one_set]; exact grown_cn hg _ _
        have N1 : Nw p u3 (tellsW (l.take k)) (wr.setCell ⟨q, k * 6 + 5, none⟩ (.int .u64 (m : Nat))) := by
          rw [one_set]
          exact hN.grown (grown_put _ _ _ _) (fun j hj e => (hN.apart hW).2 q rfl (by rw [hj, e]))
        rw [decide_eq_true h1] at hT
        obtain ⟨o, ho⟩ : ∃ o, k * 6 = o := ⟨_, rfl⟩
        have hR1 := (W1.at (k := k) (by rw [List.length_set]; exact hkK))
        rw [List.getElem_set_self] at hR1
        rw [ho] at hR hF hT W1 G1 N1 hR1
        obtain ⟨c0, c1, c2, c3, c4, c5⟩ := Wt.cells6 hR
        have f5 := hF 5 (by omega)
        have f3w := hF 3 (by omega)
        obtain ⟨X1, hX1⟩ : ∃ X, wr.setCell ⟨q, o + 5, none⟩ (.int .u64 (m : Nat)) = X := ⟨_, rfl⟩
        rw [hX1] at W1 G1 N1 hR1
        obtain ⟨hR1, hF1⟩ := hR1
        obtain ⟨k0, k1, k2, k3, k4, k5⟩ := Wt.cells6 hR1
        have f3 := hF1 3 (by omega)
        have hmw : IntKind.u64.wrap ((z.si : Int) + 1) = (m : Nat) := by rw [← hm]; simp [IntKind.wrap, IntKind.bits, IntKind.signed]; omega
        by_cases hlost : m = z.tk
        · have HT1 : Hid (tellsW (l.take (k + 1)) = tellsW (l.take k) ++ [⟨z.nd, 3, z.st⟩]) := by show _ = _; rw [e1]; simp [Wt.tells, h1, hm, hlost]
          have W2 := fun n => (W1.drawn n).put1 (k := k) (by rw [List.length_set]; exact hkK) 3 (.bool true) z.tick (by omega) (by rw [List.getElem_set_self]; simp [Wt.tick, h1, hm, hlost, Wt.cs])
          rw [List.set_set, e2, ho] at W2
          have G2 : ∀ n, w.grownBy ((X1.drewN n).setCell ⟨q, o + 3, none⟩ (.bool true)) (some q) := fun n => by rw [one_set]; exact grown_cn (grown_dr G1 n) _ _
          have N2 : ∀ n, Nw p u3 (tellsW (l.take k)) ((X1.drewN n).setCell ⟨q, o + 3, none⟩ (.bool true)) := fun n => by
            rw [one_set]
            exact Nw.grown (w := X1.drewN n) (N1.drawn n) (grown_put _ _ _ _) (fun j hj e => (N1.apart W1).2 q rfl (by rw [hj, e]))
          have HX2 : Hid (∀ n, Wa g (.slice (some ⟨q, 0, none⟩) L cap) (tickK l (k + 1)) ((X1.drewN n).setCell ⟨q, o + 3, none⟩ (.bool true)) ∧ w.grownBy ((X1.drewN n).setCell ⟨q, o + 3, none⟩ (.bool true)) (some q) ∧ Nw p u3 (tellsW (l.take k)) ((X1.drewN n).setCell ⟨q, o + 3, none⟩ (.bool true))) := fun n => ⟨W2 n, G2 n, N2 n⟩
          have HA2 : Hid (∀ X, Wa g (.slice (some ⟨q, 0, none⟩) L cap) (tickK l (k + 1)) X → X.rangeAt q o z.tick.cs) := fun X hX => by
            have := (hX.at (k := k) (by rw [tickK_len]; exact hkL)).1
            rw [ho] at this
            have e9 : (tickK l (k + 1))[k]'(by rw [tickK_len]; exact hkL) = z.tick := by
              have := e2
              simp only [← this, List.getElem_set_self]
            rwa [e9] at this
          have hnd : z.tick.nd = z.nd := Wt.tick_nd z
          have hst : z.tick.st = z.st := by simp [Wt.tick, h1, hm, hlost]
          have dl : ((m : Int) == (z.tk : Int)) = true := by simp [hlost]
          have hlen : (tellsW (l.take k)).length ≤ 1000 := by have h3 := tellsW_le (l.take k); have h4 := HL.out; rw [List.length_take] at h3; omega
          clear W2 G2 N2 W1 G1 N1 hR1 hF1 hR hF e1 e2 egk hW hN hg hok h1 hm hw2 ht1 hz hlost
          go_upto_region 8 with (go_at_call 32; refine hT.mono ?_; rintro e W9 ⟨rfl, hw9⟩; rw [hw9])
          go_quiet (fail)
          go_upto_region 10 with fail
          obtain ⟨W2, G2, N2⟩ := HX2.out nq
          have hR2 := HA2.out _ W2
          rw [show z.tick.cs = [.int .i64 z.nd, .int .u64 z.tick.tk, .bool (decide (z.tick.is ≠ 0)), .bool (decide (z.tick.is = 2)), .int .i64 z.st, .int .u64 z.tick.si] by unfold Wt.cs; rw [hnd, hst]] at hR2
          obtain ⟨X2, hX2⟩ : ∃ X, (X1.drewN nq).setCell ⟨q, o + 3, none⟩ (.bool true) = X := ⟨_, rfl⟩
          rw [hX2] at W2 G2 N2 hR2 ⊢
          have r0 : X2.cell? ⟨q, o, none⟩ = some (.int .i64 z.nd) := hR2 0 _ rfl
          have r4 : X2.cell? ⟨q, o + 4, none⟩ = some (.int .i64 z.st) := hR2 4 _ rfl
          have HW2 := hidOf2 W2
          have HG2 := hidOf2 G2
          have HN2 := hidOf2 N2
          clear W2 G2 N2 hR2 HX2 HA2 hX2 hX1 k0 k1 k2 k3 k4 k5 c0 c1 c2 c3 c4 c5 cg f5 f3 f3w hT
          have hbase : p ≤ X2.heap.size := by rw [← hp]; exact HG2.out.size
          have HN3 : Hid (Nw p u3 (tellsW (l.take k)) (X2.alloc (.cells #[.int .i64 z.nd, .int .i64 3, .int .i64 z.st] 55)).drew) := (HN2.out.below ((Below.refl _ _).alloc (Nat.le_refl _) _)).drawn 1
          have HX3 : Hid (Wide 3 Ne.cs (X2.alloc (.cells #[.int .i64 z.nd, .int .i64 3, .int .i64 z.st] 55)).drew (.slice (some ⟨X2.heap.size, 0, none⟩) 1 1) [⟨z.nd, 3, z.st⟩]) := wide_ne X2 ⟨z.nd, 3, z.st⟩
          have HE : Hid (∀ v' w', Nw p v' (tellsW (l.take k) ++ [⟨z.nd, 3, z.st⟩]) w' → (X2.alloc (.cells #[.int .i64 z.nd, .int .i64 3, .int .i64 z.st] 55)).drew.grownBy w' u3.ownBlock → Nw p v' (tellsW (l.take (k + 1))) w' ∧ Wa g (.slice (some ⟨q, 0, none⟩) L cap) (tickK l (k + 1)) w' ∧ w.grownBy w' (some q)) := fun v' w' a1 a2 => by
            have g1 : X2.grownBy (X2.alloc (.cells #[.int .i64 z.nd, .int .i64 3, .int .i64 z.st] 55)).drew (some q) := gb_any (below_drawn ((Below.refl _ _).alloc (Nat.le_refl _) _) 1) _
            have W3 : Wa g (.slice (some ⟨q, 0, none⟩) L cap) (tickK l (k + 1)) (X2.alloc (.cells #[.int .i64 z.nd, .int .i64 3, .int .i64 z.st] 55)).drew := (HW2.out.below ((Below.refl _ _).alloc (Nat.le_refl _) _)).drawn 1
            have ha := HN3.out.apart W3
            refine ⟨by rw [HT1.out]; exact a1, W3.grown a2 ha.1 ha.2, ?_⟩
            exact grown_then (grown_trans HG2.out g1) a2 (fun j hj => by rw [hp]; exact own_base HN3.out hj)
          go_region_law (refine step_append_ne rfl _ _ rfl p u3 (tellsW (l.take k)) rfl (by exact HN3.out) X2.heap.size ⟨z.nd, 3, z.st⟩ rfl (by exact HX3.out) hlen (by simp; omega) ?_; intro v' w' a1 a2; obtain ⟨a3, a4, a5⟩ := HE.out v' w' a1 a2; clear a1 a2)
          all_goals
            go_wp2_with fail
            go_roundw
            case rel => exact ⟨k + 1, by omega, rfl, a3, a4, a5⟩
            case measure => simp [intOf]; omega
        · have HT1 : Hid (tellsW (l.take (k + 1)) = tellsW (l.take k)) := by show _ = _; rw [e1]; simp [Wt.tells, h1, hm, hlost]
          have hzt : z.tick = ⟨z.nd, z.tk, 1, z.st, m⟩ := by simp [Wt.tick, h1, hm, hlost]
          rw [← hzt, e2] at W1
          have HX2 : Hid (∀ n, Nw p u3 (tellsW (l.take (k + 1))) (X1.drewN n) ∧ Wa g (.slice (some ⟨q, 0, none⟩) L cap) (tickK l (k + 1)) (X1.drewN n) ∧ w.grownBy (X1.drewN n) (some q)) := fun n => ⟨by rw [HT1.out]; exact N1.drawn n, W1.drawn n, grown_dr G1 n⟩
          have dl : ((m : Int) == (z.tk : Int)) = false := by simp; omega
          clear W1 G1 N1 hR1 hF1 hR hF e1 e2 egk hW hN hg hok h1 hm hw2 ht1 hz hlost hzt
          go_upto_region 8 with (go_at_call 32; refine hT.mono ?_; rintro e W9 ⟨rfl, hw9⟩; rw [hw9])
          go_quiet (fail)
          go_wp2_with fail
          go_roundw
          case rel => exact ⟨k + 1, by omega, rfl, HX2.out _⟩
          case measure => simp [intOf]; omega
      · have hzt : z.tick = z := by simp [Wt.tick, h1]
        have HT1 : Hid (tellsW (l.take (k + 1)) = tellsW (l.take k)) := by show _ = _; rw [e1]; simp [Wt.tells, h1]
        have HK : Hid (tickK l (k + 1) = tickK l k) := by
          show _ = _
          rw [← e2, hzt]
          apply List.ext_getElem?
          intro j
          rw [List.getElem?_set]
          by_cases hj : k = j
          · subst hj
            rw [if_pos rfl, if_pos hkK, List.getElem?_eq_getElem hkK, egk]
          · rw [if_neg hj]
        have HX : Hid (Nw p u3 (tellsW (l.take (k + 1))) wr ∧ Wa g (.slice (some ⟨q, 0, none⟩) L cap) (tickK l (k + 1)) wr ∧ w.grownBy wr (some q)) := ⟨by rw [HT1.out]; exact hN, by rw [HK.out]; exact hW, hg⟩
        rw [decide_eq_false h1] at hT
        clear hN hW hg hR hF hok e1 e2 egk h1 hz hzt
        go_wp2_with (go_at_call 32; refine hT.mono ?_; rintro e W9 ⟨rfl, hw9⟩; rw [hw9])
        go_roundw
        case rel => exact ⟨k + 1, by omega, rfl, HX.out⟩
        case measure => simp [intOf]; omega
    · obtain rfl : k = L := by omega
      have hd : decide ((k : Int) < (k : Int)) = false := by simp
      have HX : Hid (Nw p u3 (tellsW l) wr ∧ Wa g v (tickW l) wr ∧ w.grownBy wr v.ownBlock) := by
        have h4 := HL.out
        rw [List.take_of_length_le (by omega)] at hN
        rw [tickK_all l k (by omega)] at hW
        exact ⟨hN, hW, hg⟩
      clear hN hW hg
      go_wp2
      go_ret
      exact ⟨_, rfl, HX.out⟩
end
end Go.Proofs.Ytceomfefffngaaa
