/- The law BusTwice returns true for every frame and number, and leaves all as they were. -/
import Derived.Test.YtlghjfomliappaaTw1
import Derived.Deep.RegionLaw
import Derived.Deep.AppendLies
namespace Go.Proofs.Ytlghjfomliappaa
open Go.RowKit Go.Proofs.Bits
set_option linter.unusedVariables false
set_option maxRecDepth 1000000

theorem stepL_nd {l : List Nd} {fl : List Fl} {wn i : Nat} (hE : stepE l fl = 0) (hw : (stepR l fl).win = (wn : Int)) (hwl : wn < l.length) (hi : i < l.length) :
    ndAt (stepL l fl) i = dropN i (setN (stepR l fl) (idleN wn (ndAt l wn)).f i (idleN i (ndAt l i))) := by
  unfold stepL
  rw [if_pos hE]
  unfold setL4
  rw [if_neg (by rw [hw]; omega), hw, Int.toNat_natCast]
  have h1 : i < (((idleL l).mapIdx (setN (stepR l fl) (ndAt (idleL l) wn).f)).mapIdx dropN).length := by simp [idleL, hi]
  rw [← nd_get h1]
  rw [List.getElem_mapIdx, List.getElem_mapIdx]
  have e1 : ∀ j (hj : j < l.length), ndAt (idleL l) j = idleN j (ndAt l j) := by
    intro j hj
    have : j < (idleL l).length := by simpa [idleL] using hj
    rw [← nd_get this, ← nd_get hj]
    simp [idleL]
  have h2 : i < (idleL l).length := by simpa [idleL] using hi
  rw [nd_get h2, e1 i hi, e1 wn hwl]
theorem stepL_len (l : List Nd) (fl : List Fl) : (stepL l fl).length = l.length := by
  unfold stepL setL4
  split
  · split <;> simp [idleL]
  · rfl
theorem seen_congr {a b : List Nd} (h : ∀ i, tpN (ndAt a i) = tpN (ndAt b i) ∧ (ndAt a i).has = (ndAt b i).has ∧ (ndAt a i).f = (ndAt b i).f) (k : Nat) : seenK a k = seenK b k := by
  induction k with
  | zero => rfl
  | succ k ih =>
    obtain ⟨h1, h2, h3⟩ := h k
    have hw : wantN (ndAt a k) = wantN (ndAt b k) := by unfold wantN; rw [h1, h2]
    rw [seenK, seenK, ih, hw, h3]
theorem sends_congr {a b : List Nd} (hl : a.length = b.length) (h : ∀ i, tpN (ndAt a i) = tpN (ndAt b i) ∧ (ndAt a i).has = (ndAt b i).has ∧ (ndAt a i).f = (ndAt b i).f) : sends a = sends b := by
  unfold sends
  rw [hl]
  refine List.map_congr_left fun i _ => ?_
  obtain ⟨h1, h2, h3⟩ := h i
  unfold seOf
  have hw : wantN (ndAt a i) = wantN (ndAt b i) := by unfold wantN; rw [h1, h2]
  rw [hw, seen_congr h, h1, h3]
/-- The bus of the law: all have power, the first node has the frame. -/
structure TwI (n : Nat) (p : Fr) (l : List Nd) : Prop where
  len : l.length = n
  on : AllOn l
  zero : (ndAt l 0).has = true ∧ (ndAt l 0).f = p
  free : ∀ i, 1 ≤ i → i < n → (ndAt l i).has = false ∧ (ndAt l i).got = []
theorem TwI.of {n : Nat} (h2 : 2 ≤ n) (f : Fr) (hf : f.chk = 0) : TwI n f.plain (subL (onL n n) 0 f) := by
  obtain ⟨m, rfl⟩ : ∃ m, n = m + 1 := ⟨n - 1, by omega⟩
  have h0 := SubI.start m
  have h1 := h0.good (by omega) f hf
  have e : subL (onL (m + 1) (m + 1)) 0 f = (onL (m + 1) (m + 1)).set 0 { ndAt (onL (m + 1) (m + 1)) 0 with f := f.plain, has := true } := by
    unfold subL; rw [h0.err (by omega) f, if_pos hf]; rfl
  have hl0 : 0 < (onL (m + 1) (m + 1)).length := by rw [onL_len]; omega
  refine ⟨h1.len, h1.on, ?_, fun i hi hin => ⟨h1.free i hi hin, h1.got i hin⟩⟩
  rw [e, nd_set hl0 hl0, if_pos rfl]
  exact ⟨rfl, rfl⟩
theorem TwI.win {n : Nat} {p : Fr} {l : List Nd} (h : TwI n p l) (h2 : 2 ≤ n) : who (sends l) ≠ [] ∧ firstE (frs (sends l)) = 0 ∧ winN (sends l) = 0 ∧ winF (sends l) = p := by
  obtain ⟨g1, g2⟩ := good_first (good_sends h.on ⟨0, by rw [h.len]; omega, h.zero.1⟩)
  obtain ⟨w1, w2, w3⟩ := win_least g2
  rw [sends_len] at w1
  rw [snd_sends w1] at w2
  have hh := isS_has (h.on _ w1) w2
  have e : winN (sends l) = 0 := by
    by_cases e : winN (sends l) = 0
    · exact e
    · have := (h.free (winN (sends l)) (by omega) (by rw [← h.len]; exact w1)).1
      rw [this] at hh; cases hh
  refine ⟨g1, g2, e, ?_⟩
  unfold winF
  rw [seAt_sends w1, w2, e]
  exact h.zero.2
theorem TwI.base {n : Nat} {p : Fr} {l : List Nd} (h : TwI n p l) (h2 : 2 ≤ n) (h127 : n ≤ 127) (fl : List Fl) (hk : lookV n fl = 0) (hfo : ∀ f ∈ fl, (((encV p true).length : Nat) : Int) - 1 ≤ f.bit) :
    stepE l fl = 0 ∧ stepR l fl = if fl.any (lastB 0 (encV p true).length) then { rnW (sends l) with got := hearK (sends l) 0 n, errs := (rnW (sends l)).errs.set 0 22, bits := ((encV p true).length : Int) + 20 } else { rnW (sends l) with got := hearK (sends l) 0 n, sent := true, bits := ((encV p true).length : Int) + 3 } := by
  obtain ⟨g1, g2, g3, g4⟩ := h.win h2
  have hal := alone_all h.on (by rw [h.len]; exact h2)
  have hlen : (rnW (sends l)).len = (encV p true).length := by show winL (sends l) = _; unfold winL; rw [g4, hal]; rfl
  refine ⟨?_, ?_⟩
  · unfold stepE rndE
    rw [sends_len, h.len, hk, if_neg (by simp), if_neg g1]; exact g2
  · unfold stepR rnd
    rw [if_neg g1, g3]
    unfold rnEnd
    have hn : fo (sends l) (rnW (sends l)).len fl = none := by
      rw [fo_none]
      intro f hf
      unfold cntB
      have := hfo f hf
      rw [hlen]
      have : decide (f.bit < (((encV p true).length : Nat) : Int) - 1) = false := by simp; omega
      rw [this, Bool.and_false]
    rw [hn]
    simp only
    rw [hal, if_neg (by simp), hlen, sends_len, h.len]
theorem hear_get {l : List Nd} (h : AllOn l) {i : Nat} (hi : i < l.length) (h1 : 1 ≤ i) : (hearK (sends l) 0 l.length).getD i false = true := by
  have hi' : i < (sends l).length := by rw [sends_len]; exact hi
  unfold hearK
  have e : i ≠ 0 := by omega
  simp [hi', up_sends h hi, e, hi]
/-- Behind the first Step. -/
theorem TwI.first {n : Nat} {p : Fr} {l : List Nd} (h : TwI n p l) (h2 : 2 ≤ n) (h127 : n ≤ 127) (fl : List Fl) (hE : stepE l fl = 0) (hR : stepR l fl = { rnW (sends l) with got := hearK (sends l) 0 n, errs := (rnW (sends l)).errs.set 0 22, bits := ((encV p true).length : Int) + 20 }) :
    (stepL l fl).length = n ∧ NdsOk (stepL l fl) ∧ sends (stepL l fl) = sends l ∧ ndAt (stepL l fl) 0 = { ndAt l 0 with u := ⟨8, 0, 0⟩ } ∧ ∀ i, 1 ≤ i → i < n → ndAt (stepL l fl) i = { ndAt l i with got := [p] } := by
  obtain ⟨g1, g2, g3, g4⟩ := h.win h2
  have hw : (stepR l fl).win = ((0 : Nat) : Int) := by rw [hR]; show ((winN (sends l) : Nat) : Int) = _; rw [g3]
  have hl := h.len
  have len : (stepL l fl).length = n := by rw [stepL_len, hl]
  have hsent : (stepR l fl).sent = false := by rw [hR]; rfl
  have hf : (idleN 0 (ndAt l 0)).f = p := by rw [idle_on (h.on 0 (by omega))]; exact h.zero.2
  have oth : ∀ i, 1 ≤ i → i < n → ndAt (stepL l fl) i = { ndAt l i with got := [p] } := by
    intro i hi hin
    have ho := h.on i (by omega)
    rw [stepL_nd hE hw (by omega) (by omega), hf, idle_on ho]
    have hg : (stepR l fl).got.getD i false = true := by rw [hR]; have := hear_get h.on (by omega : i < l.length) hi; rw [hl] at this; exact this
    have e : setN (stepR l fl) p i (ndAt l i) = { ndAt l i with got := [p] } := by
      unfold setN
      rw [hw, if_neg (by omega), hg, if_pos rfl, (h.free i hi hin).2]
      have hu : (ndAt l i).u.recv = (ndAt l i).u := by rw [ho.u]; rfl
      rw [hu]; rfl
    rw [e]
    unfold dropN
    have : ({ ndAt l i with got := [p] } : Nd).u.off = false := by show (ndAt l i).u.off = false; rw [ho.u]; rfl
    rw [this]; rfl
  have z : ndAt (stepL l fl) 0 = { ndAt l 0 with u := ⟨8, 0, 0⟩ } := by
    have ho := h.on 0 (by omega)
    rw [stepL_nd hE hw (by omega) (by omega), hf, idle_on ho]
    have e : setN (stepR l fl) p 0 (ndAt l 0) = { ndAt l 0 with u := ⟨8, 0, 0⟩ } := by
      unfold setN
      rw [hw, if_pos rfl, hsent]
      have he : (stepR l fl).errs.getD 0 0 = 22 := by
        rw [hR]
        have : 0 < l.length := by omega
        simp [rnW, rn0, sends_len, this]
      rw [he]
      have hu : (ndAt l 0).u.fail (decide ((22 : Int) = 23)) = ⟨8, 0, 0⟩ := by rw [ho.u]; rfl
      rw [hu]; rfl
    rw [e]; rfl
  refine ⟨len, fun i hi => ?_, ?_, z, oth⟩
  · rw [nd_get hi]
    rw [len] at hi
    by_cases e : i = 0
    · subst e; rw [z]; exact ⟨by simp [Un.ok], (h.on 0 (by omega)).g64⟩
    · rw [oth i (by omega) hi]; exact ⟨by show (ndAt l i).u.ok; rw [(h.on i (by omega)).u]; exact Un.ok_nul, by simp⟩
  · refine sends_congr (by rw [len, hl]) fun i => ?_
    by_cases hin : i < n
    · by_cases e : i = 0
      · subst e; rw [z]
        have ho := h.on 0 (by omega)
        exact ⟨by unfold tpN; simp only; rw [ho.pw, ho.u]; rfl, rfl, rfl⟩
      · rw [oth i (by omega) hin]; exact ⟨rfl, rfl, rfl⟩
    · have e1 : ndAt (stepL l fl) i = Nd.nul := by unfold ndAt; simp [len, hin]
      have e2 : ndAt l i = Nd.nul := by unfold ndAt; simp [hl, hin]
      rw [e1, e2]; exact ⟨rfl, rfl, rfl⟩
/-- Behind the second one. -/
theorem TwI.second {n : Nat} {p : Fr} {l l4 : List Nd} (h : TwI n p l) (h2 : 2 ≤ n) (h127 : n ≤ 127) (hl4 : l4.length = n) (hs : sends l4 = sends l) (hz : ndAt l4 0 = { ndAt l 0 with u := ⟨8, 0, 0⟩ }) (ho4 : ∀ i, 1 ≤ i → i < n → ndAt l4 i = { ndAt l i with got := [p] }) :
    stepE l4 [] = 0 ∧ (stepR l4 []).sent = true ∧ (stepR l4 []).bits = ((encV p true).length : Int) + 3 ∧ (stepL l4 []).length = n ∧ ∀ i, 1 ≤ i → i < n → (ndAt (stepL l4 []) i).got = [p, p] := by
  obtain ⟨b1, b2⟩ := h.base h2 h127 [] (look_nil h127) (by simp)
  have e1 : stepE l4 [] = stepE l [] := by unfold stepE; rw [hs]
  have e2 : stepR l4 [] = stepR l [] := by unfold stepR; rw [hs]
  have hR : stepR l [] = { rnW (sends l) with got := hearK (sends l) 0 n, sent := true, bits := ((encV p true).length : Int) + 3 } := b2
  obtain ⟨g1, g2, g3, g4⟩ := h.win h2
  have hE : stepE l4 [] = 0 := by rw [e1]; exact b1
  have hw : (stepR l4 []).win = ((0 : Nat) : Int) := by rw [e2, hR]; show ((winN (sends l) : Nat) : Int) = _; rw [g3]
  refine ⟨hE, by rw [e2, hR], by rw [e2, hR], by rw [stepL_len, hl4], fun i hi hin => ?_⟩
  have hl := h.len
  have ho := h.on i (by omega)
  have h0 := h.on 0 (by omega)
  have on4 : On (ndAt l4 i) := by rw [ho4 i hi hin]; exact ⟨ho.pw, ho.u, by simp, ho.chk⟩
  have hf : (idleN 0 (ndAt l4 0)).f = p := by
    rw [hz]
    unfold idleN
    split
    · exact h.zero.2
    · exact h.zero.2
  rw [stepL_nd hE hw (by omega) (by omega), hf, idle_on on4, ho4 i hi hin]
  have hg : (stepR l4 []).got.getD i false = true := by rw [e2, hR]; have := hear_get h.on (by omega : i < l.length) hi; rw [hl] at this; exact this
  have e : setN (stepR l4 []) p i { ndAt l i with got := [p] } = { ndAt l i with got := [p, p] } := by
    unfold setN
    rw [hw, if_neg (by omega), hg, if_pos rfl]
    have hu : (ndAt l i).u.recv = (ndAt l i).u := by rw [ho.u]; rfl
    simp only [hu]
    rfl
  rw [e]
  unfold dropN
  split <;> rfl
end Go.Proofs.Ytlghjfomliappaa
namespace Go.Proofs.Ytlghjfomliappaa
open Go.RowKit Go.Proofs.Bits
set_option linter.unusedVariables false
set_option maxRecDepth 1000000

def DS : Dec Se := ⟨Se.cells, 14, by decide, Se.len, fun s u hu => by
  have := s.one
  rw [Array.all_eq_true_iff_forall_mem] at this
  exact this u (by simpa [Se.arr] using hu)⟩
def DL : Dec Fl := ⟨Fl.cells, 2, by decide, fun _ => rfl, fun f u hu => by simp [Fl.cells] at hu; rcases hu with rfl | rfl <;> rfl⟩
theorem infoFlZ : (Try.prog.info? 57).map (fun i => (i.zero, i.size, i.bytes)) = some (some (.agg #[.int .i64 0, .int .i64 0]), 2, 16) := by kernel_rfl
theorem rev_take (l : List Se) (k : Nat) (hk : k < l.length) : l.reverse.take (k + 1) = l.reverse.take k ++ [l[l.length - 1 - k]] := by
  rw [List.take_succ_eq_append_getElem (by simpa using hk), List.getElem_reverse]
set_option maxHeartbeats 4000000 in
theorem turned_any (v vf : Value) (l : List Se) (fl : List Fl) (w : World) (hl : l.length ≤ 127) (hfl : fl.length ≤ 65536) (hok : ∀ f ∈ fl, 0 ≤ f.nd ∧ f.nd < l.length) (hS : Senders w v l) (hF : Flips w vf fl) :
    Calls Try.prog 20 #[v, vf] w fun e w' => ∃ va vb, e = .returned (.tuple #[va, vb]) ∧ Senders w' va l.reverse ∧ Flips w' vb (fl.map (flipT l.length)) ∧ Below w.heap.size w w' := by
  have HC : Hid (∀ (x : World), Below w.heap.size w x → Senders x v l) := fun x hx => hS.below hx
  have HD : Hid (∀ (x : World), Below w.heap.size w x → Flips x vf fl) := fun x hx => hF.below hx
  have HOK : Hid _ := hok
  have o1 := own_empty_e w 40 14
  have o2 := own_empty_e (w.alloc (.cells #[] 40)) 57 2
  rw [size_alloc] at o2
  have B1 : Below w.heap.size w ((w.alloc (.cells #[] 40)).alloc (.cells #[] 57)) := ((Below.refl _ w).alloc (Nat.le_refl _) _).alloc (by rw [size_alloc]; omega) _
  have p1 : ((w.alloc (.cells #[] 40)).alloc (.cells #[] 57)).ownsRow w.heap.size 40 14 (.slice (some ⟨w.heap.size, 0, none⟩) 0 0) (l.reverse.take 0).length (flatW DS (l.reverse.take 0)) := ownsRow_alloc o1 _
  have p2 : ((w.alloc (.cells #[] 40)).alloc (.cells #[] 57)).ownsRow w.heap.size 57 2 (.slice (some ⟨w.heap.size + 1, 0, none⟩) 0 0) 0 [] := by
    obtain ⟨q1, q2⟩ := o2
    refine ⟨q1, ?_⟩
    rcases q2 with q2 | ⟨g, cap, cur, e, hg, r⟩
    · exact .inl q2
    · exact .inr ⟨g, cap, cur, e, by omega, r⟩
  obtain ⟨ao, cap, hv, _⟩ := hS
  obtain ⟨ao2, cap2, hv2, _⟩ := hF
  subst hv hv2
  clear hok o1 o2
  go_enter Try.func20, Try.ntmps20
  go_wp2
  generalize hW : ((w.alloc (.cells #[] 40)).alloc (.cells #[] 57)) = W at *
  go_loopw [6, 8] (fun a i x => ∃ k : Nat, k ≤ l.length ∧ i = .int .i64 ((l.length : Int) - 1 - k) ∧ x.ownsRow w.heap.size 40 14 a (l.reverse.take k).length (flatW DS (l.reverse.take k)) ∧ x.ownsRow w.heap.size 57 2 (.slice (some ⟨w.heap.size + 1, 0, none⟩) 0 0) 0 [] ∧ Below w.heap.size w x) (fun _ i _ => (intOf i + 1).toNat)
  case atStart => exact ⟨0, Nat.zero_le _, by simp, p1, p2, B1⟩
  case round =>
    clear p1 p2 B1 hW W
    obtain ⟨k, hk, rfl, P1, Q1, B1⟩ := hrel
    have s1 := B1.size
    have hlk : (l.reverse.take k).length = k := by simp; omega
    by_cases hkl : k < l.length
    · obtain ⟨ao', cap', hv', _, hc⟩ := HC.out wr B1
      obtain ⟨b, off, hao, hb, hR⟩ := hc (l.length - 1 - k) (by omega)
      have hao2 : ao = some ⟨b, off, none⟩ := by injection hv' with e1; rw [e1]; exact hao
      subst hao2
      have HN : Hid (l.reverse.take (k + 1) = l.reverse.take k ++ [l[l.length - 1 - k]]) := rev_take l k hkl
      generalize l[l.length - 1 - k] = s at *
      obtain ⟨j, hj⟩ : ∃ j : Nat, (l.length : Int) - 1 - k = j := ⟨l.length - 1 - k, by omega⟩
      have hj2 : l.length - 1 - k = j := by omega
      rw [hj2] at hR
      rw [hj]
      have hjl : j < l.length := by omega
      have HJ : Hid ((l.length : Int) - 1 - ((k + 1 : Nat) : Int) = (j : Int) - 1) := by show _ = _; omega
      generalize hxs : l.reverse.take k = xs at *
      clear hj2 hc HC
      go_wp2_with (first | refine se_ld hR rfl _ rfl rfl ?_ | refine one_bs DS s 22 40 _ _ rfl _ rfl rfl Try.underlying22 infoSeZ (by decide) ?_ | (at_builtin; refine append_wide DS rfl _ _ 22 40 _ _ Try.underlying22 infoSeZ rfl rfl w.heap.size _ xs rfl (by exact ownsRow_alloc P1 _) _ [s] rfl (by exact wide_new DS wr s 40) (by unfold maxLen; simp; omega) (by simp; omega) (by rw [size_alloc]; omega) ?_))
      intro v5 w5 F5 G5
      have Q5 := own_grown (ownsRow_alloc Q1 _) (ownsRow_alloc P1 _) (by decide) G5
      have B5 := below_grown (B1.alloc s1 _) (ownsRow_alloc P1 _) (by rw [size_alloc]; omega) G5
      have F6 : Hid (w5.ownsRow w.heap.size 40 14 v5 (l.reverse.take (k + 1)).length (flatW DS (l.reverse.take (k + 1)))) := by
        show World.ownsRow _ _ _ _ _ _ _
        rw [HN.out]
        have e : (xs ++ [s]).length = k + 1 := by simp [hlk]
        rw [e]
        exact F5
      clear F5 G5 P1 Q1 B1 hR
      go_wp2
      go_roundw
      case rel => exact ⟨k + 1, by omega, by rw [HJ.out], F6.out, Q5, B5⟩
      case measure => simp [intOf]
    · obtain rfl : k = l.length := by omega
      have e0 : (l.length : Int) - 1 - l.length = -1 := by omega
      rw [e0]
      rw [List.take_of_length_le (by simp)] at P1
      obtain ⟨va, hva⟩ : ∃ va, va = u6 := ⟨_, rfl⟩
      obtain ⟨W1, hW1⟩ : ∃ W1, W1 = wr := ⟨_, rfl⟩
      rw [← hva] at P1
      subst hva hW1
      have HE : Hid (fl.map (flipT l.length) = (fl.take fl.length).map (flipT l.length)) := by show _ = _; rw [List.take_length]
      have P0 : Hid (True ∧ W1.ownsRow w.heap.size 40 14 va l.reverse.length (flatW DS l.reverse)) := ⟨trivial, P1⟩
      have Q0 : W1.ownsRow w.heap.size 57 2 (.slice (some ⟨w.heap.size + 1, 0, none⟩) 0 0) ((fl.take 0).map (flipT l.length)).length (flatW DL ((fl.take 0).map (flipT l.length))) := Q1
      clear P1 Q1 HC
      go_wp2
      go_loopw [7, 9] (fun c i x => ∃ k : Nat, k ≤ fl.length ∧ i = .int .i64 k ∧ x.ownsRow w.heap.size 57 2 c ((fl.take k).map (flipT l.length)).length (flatW DL ((fl.take k).map (flipT l.length))) ∧ x.ownsRow w.heap.size 40 14 va l.reverse.length (flatW DS l.reverse) ∧ Below w.heap.size w x) (fun _ i _ => fl.length - (intOf i).toNat)
      case atStart => exact ⟨0, Nat.zero_le _, rfl, Q0, P0.out.2, B1⟩
      case round =>
        clear P0 Q0 B1
        obtain ⟨k, hk, rfl, Q1, P1, B1⟩ := hrel
        have s1 := B1.size
        have hlk : ((fl.take k).map (flipT l.length)).length = k := by simp; omega
        by_cases hkl : k < fl.length
        · obtain ⟨ao', cap', hv', _, hc⟩ := HD.out wr B1
          obtain ⟨b, off, hao, hb, hR⟩ := hc k hkl
          have hao2 : ao2 = some ⟨b, off, none⟩ := by injection hv' with e1; rw [e1]; exact hao
          subst hao2
          obtain ⟨h1, h2⟩ := HOK.out _ (List.getElem_mem hkl)
          have HN : Hid ((fl.take (k + 1)).map (flipT l.length) = (fl.take k).map (flipT l.length) ++ [flipT l.length fl[k]]) := by
            show _ = _; rw [List.take_succ_eq_append_getElem hkl, List.map_append]; rfl
          have hT1 := flipT_nd ⟨h1, h2, hl⟩
          have hT2 := flipT_bit l.length fl[k]
          have HCl : Hid ((flipT l.length fl[k]).cells = [.int .i64 ((l.length : Int) - 1 - fl[k].nd), .int .i64 fl[k].bit]) := by
            show _ = _; unfold Fl.cells; rw [hT1, hT2]
          have c0 : wr.cell? ⟨b, off + k * 2, none⟩ = some (.int .i64 fl[k].nd) := hR 0 _ rfl
          have c1 : wr.cell? ⟨b, off + k * 2 + 1, none⟩ = some (.int .i64 fl[k].bit) := hR 1 _ rfl
          generalize flipT l.length fl[k] = f' at *
          generalize fl[k] = f at *
          generalize hxs : (fl.take k).map (flipT l.length) = xs at *
          obtain ⟨i0, hi0, hz0, hz1, hz2⟩ := info_parts infoFlZ
          have lb := World.block_lt_of_cell? wr _ c0
          have HWr : Hid (IntKind.i64.wrap (IntKind.i64.wrap ((l.length : Int) - 1) - f.nd) = (l.length : Int) - 1 - f.nd) := by
            show _ = _
            rw [IntKind.wrap_i64, IntKind.wrap_i64]; omega
          clear hc hT1 hT2
          go_wp2_with fail
          go_region_law
            ((refine step_append_lies _ (by rfl) _ _ _ (by rfl) w.heap.size 57 i0 _ 2 16 Try.underlying23 hi0 hz0 hz1 hz2 rfl (by omega) _ xs.length (flatW DL xs) (by rfl) ((ownsRow_alloc Q1 _).drew)
                  ⟨wr.heap.size, 0, none⟩ 1 1 [.int .i64 (IntKind.i64.wrap (IntKind.i64.wrap ((l.length : Int) - 1) - f.nd)), .int .i64 f.bit] (by rfl) (by rfl) (World.news_of_block (cs := #[.int .i64 (IntKind.i64.wrap (IntKind.i64.wrap ((l.length : Int) - 1) - f.nd)), .int .i64 f.bit]) (t := 57) (fr := (0, 0)) (heap_alloc_new wr _)) (by simp [Value.oneCell'])
                  (by omega) (by unfold maxLen; omega) (by omega) (by simp; omega) (wr.heap.size + 1) (by simp) ?_; intro gg cap w1 hown1 hgrow hat hlt))
          all_goals
            have P5 := own_grown ((ownsRow_alloc P1 _).drew) ((ownsRow_alloc Q1 _).drew) (by decide) hgrow
            have B5 := below_grown (below_drawn (B1.alloc s1 _) 1) ((ownsRow_alloc Q1 _).drew) (by simp; omega) hgrow
            have Q6 : Hid (w1.ownsRow w.heap.size 57 2 (.slice (some ⟨gg, 0, none⟩) (xs.length + 1) cap) ((fl.take (k + 1)).map (flipT l.length)).length (flatW DL ((fl.take (k + 1)).map (flipT l.length)))) := by
              show World.ownsRow _ _ _ _ _ _ _
              have e1 : flatW DL (xs ++ [f']) = flatW DL xs ++ [.int .i64 ((l.length : Int) - 1 - f.nd), .int .i64 f.bit] := by
                rw [flatW_append, ← HCl.out]; simp [flatW, DL]
              rw [HN.out, e1, List.length_append, List.length_singleton, ← HWr.out]
              exact hown1
            clear hown1 hgrow hat
            rw [hlk] at *
            go_wp2
            go_roundw
            case rel => exact ⟨k + 1, by omega, by go_num, Q6.out, P5, B5⟩
            case measure => simp [intOf]; omega
        · obtain rfl : k = fl.length := by omega
          rw [← HE.out] at Q1
          have R1 : Hid (Flips wr u7 (fl.map (flipT l.length))) := wide_of_own DL Q1
          have R2 : Hid (Senders wr va l.reverse) := wide_of_own DS P1
          clear Q1 P1
          go_wp2
          go_ret2
          exact ⟨_, _, rfl, R2.out, R1.out, B1⟩
end Go.Proofs.Ytlghjfomliappaa
namespace Go.Proofs.Ytlghjfomliappaa
open Go.RowKit Go.Proofs.Bits
set_option linter.unusedVariables false
set_option maxRecDepth 1000000

theorem quiet_ldw {W : World} {ops : Array Oper} {rest : List Oper} {o : Oper} {a : Act} {Q : Act → Prop} {q : Nat} {f : Fr} (h : Fa q f W) (hgd : Region.wanted o (yielded ops a.tmps) = true) (x : Operand) (ho : o.op = .load 38 x) (hx : a.eval x = .pointer (some ⟨q, 0, none⟩))
    (hh : wpQuiet Try.prog ops (fun w' => ∃ x : Later W, w' = x.now) Q rest (a.put o.dst (.agg f.arr))) : wpQuiet Try.prog ops (fun w' => ∃ x : Later W, w' = x.now) Q (o :: rest) a := by
  unfold wpQuiet
  rw [if_pos hgd]
  refine ⟨.agg f.arr, ?_, hh⟩
  rintro w' ⟨y, rfl⟩
  have hl := (Later.fa h y).load
  unfold Oper.quietAt execOp
  simp only [ho, hx, Instr.loadAt, Instr.sureAddr, Sem.run_bind, Sem.run_pure, Result.andThen_ok, hl]
  exact ⟨rfl, rfl⟩
theorem quiet_eqw {W : World} {ops : Array Oper} {rest : List Oper} {o : Oper} {a : Act} {Q : Act → Prop} (f g : Fr) (hgd : Region.wanted o (yielded ops a.tmps) = true) (x y : Operand) (ho : o.op = .binOp .eql 38 x y 38) (hx : a.eval x = .agg f.arr) (hy : a.eval y = .agg g.arr)
    (hh : wpQuiet Try.prog ops (fun w' => ∃ x : Later W, w' = x.now) Q rest (a.put o.dst (.bool (frB f g)))) : wpQuiet Try.prog ops (fun w' => ∃ x : Later W, w' = x.now) Q (o :: rest) a := by
  unfold wpQuiet
  rw [if_pos hgd]
  refine ⟨.bool (frB f g), ?_, hh⟩
  rintro w' ⟨z, rfl⟩
  have hl := frEq f g z.now
  have hg : (eqGuard .eql 38 x y (.agg f.arr) (.agg g.arr)).run Try.prog z.now = .ok () z.now := run_eqGuard_agg z.now .eql 38 x y f.arr g.arr guardF
  unfold Oper.quietAt execOp
  simp only [ho, hx, hy, Sem.run_bind, Sem.run_pure, hg, Result.andThen_ok, hl]
  exact ⟨rfl, rfl⟩
theorem quiet_neqw {W : World} {ops : Array Oper} {rest : List Oper} {o : Oper} {a : Act} {Q : Act → Prop} (f g : Fr) (hgd : Region.wanted o (yielded ops a.tmps) = true) (x y : Operand) (ho : o.op = .binOp .neq 38 x y 38) (hx : a.eval x = .agg f.arr) (hy : a.eval y = .agg g.arr)
    (hh : wpQuiet Try.prog ops (fun w' => ∃ x : Later W, w' = x.now) Q rest (a.put o.dst (.bool (!frB f g)))) : wpQuiet Try.prog ops (fun w' => ∃ x : Later W, w' = x.now) Q (o :: rest) a := by
  unfold wpQuiet
  rw [if_pos hgd]
  refine ⟨.bool (!frB f g), ?_, hh⟩
  rintro w' ⟨z, rfl⟩
  have hl := frNeq f g z.now
  have hg : (eqGuard .neq 38 x y (.agg f.arr) (.agg g.arr)).run Try.prog z.now = .ok () z.now := run_eqGuard_agg z.now .neq 38 x y f.arr g.arr guardF
  unfold Oper.quietAt execOp
  simp only [ho, hx, hy, Sem.run_bind, Sem.run_pure, hg, Result.andThen_ok, hl]
  exact ⟨rfl, rfl⟩

end Go.Proofs.Ytlghjfomliappaa
namespace Go.Proofs.Ytlghjfomliappaa
open Go.RowKit Go.Proofs.Bits
set_option linter.unusedVariables false
set_option maxRecDepth 1000000

theorem plain_head (f : Fr) : f.plain.head = f.head := by
  unfold Fr.head
  have e : f.plain.data.take f.plain.bytes = f.data.take f.bytes := by
    show (f.data.take f.bytes ++ List.replicate (8 - f.bytes) 0).take f.bytes = _
    rw [List.take_append_of_le_length (by simp [f.hdata]; have := f.bytes_le; omega), List.take_take, Nat.min_self]
  rw [e]; rfl
theorem plain_enc (f : Fr) (a : Bool) : encV f.plain a = encV f a := by
  unfold encV Fr.bits Fr.body; rw [plain_head]; rfl
theorem enc_len (f : Fr) (h : f.chk = 0) : 1 ≤ (encV f true).length ∧ (encV f true).length ≤ 300 := by
  unfold encV
  rw [if_pos h]
  unfold Fr.bits
  have := stuff_body_length f
  simp only [List.length_append, flagV_length, List.length_cons, List.length_nil]
  omega
theorem wide_pair {w : World} {v : Value} {g h : Fr} (hF : Frames w v [g, h]) : ∃ b off cap, v = .slice (some ⟨b, off, none⟩) 2 cap ∧ b < w.heap.size ∧ w.rangeAt b off g.cells ∧ w.rangeAt b (off + 12) h.cells := by
  obtain ⟨ao, cap, rfl, _, hc⟩ := hF
  obtain ⟨b, off, rfl, hb, hR⟩ := hc 0 (by simp)
  obtain ⟨b1, off1, e, _, hR1⟩ := hc 1 (by simp)
  injection e with e; injection e with e1 e2; subst e1 e2
  exact ⟨b, off, cap, rfl, hb, by simpa using hR, by simpa using hR1⟩
theorem quiet_ldmw {W : World} {ops : Array Oper} {rest : List Oper} {p : Oper} {a : Act} {Q : Act → Prop} {b o : Nat} {f : Fr} (h : W.rangeAt b o f.cells) (hb : b < W.heap.size) (hgd : Region.wanted p (yielded ops a.tmps) = true) (x : Operand) (ho : p.op = .load 38 x) (hx : a.eval x = .pointer (some ⟨b, o, none⟩))
    (hh : wpQuiet Try.prog ops (fun w' => ∃ x : Later W, w' = x.now) Q rest (a.put p.dst (.agg f.arr))) : wpQuiet Try.prog ops (fun w' => ∃ x : Later W, w' = x.now) Q (p :: rest) a := by
  unfold wpQuiet
  rw [if_pos hgd]
  refine ⟨.agg f.arr, ?_, hh⟩
  rintro w' ⟨y, rfl⟩
  have hr : y.now.rangeAt b o f.cells := fun j v hv => (y.below.cell (p := ⟨b, o + j, none⟩) hb).trans (h j v hv)
  have hl := run_loadVar_mid (P := Try.prog) y.now b o 38 f.cells _ hr Try.underlying38 rfl (by rw [infoF]; simp [Fr.cells, f.hdata])
  unfold Oper.quietAt execOp
  simp only [ho, hx, Instr.loadAt, Instr.sureAddr, Sem.run_bind, Sem.run_pure, Result.andThen_ok, hl]
  exact ⟨rfl, rfl⟩
theorem twice_look {n : Nat} (h1 : 1 ≤ n) (h2 : n ≤ 127) (fl : Fl) (hn : fl.nd = 0) (hb : 0 ≤ fl.bit) : lookV n [fl] = 0 := by
  unfold lookV
  rw [if_neg (by omega), if_neg (by simp)]
  have : wrongB n fl = false := by unfold wrongB; simp [hn, hb]; omega
  simp [this]
end Go.Proofs.Ytlghjfomliappaa
namespace Go.Proofs.Ytlghjfomliappaa
open Go.RowKit Go.Proofs.Bits
set_option linter.unusedVariables false
set_option maxRecDepth 1000000

set_option maxHeartbeats 4000000 in
theorem btwice_walk (f : Fr) (o : Int) (w : World) (ho : (Lit.int .u8 o).wf = true) :
    Calls Try.prog 7 #[f.val, .int .u8 o] w fun e w' => e = .returned (.bool true) ∧ Below w.heap.size w w' := by
  have hx : 0 ≤ o ∧ o ≤ 255 := by simpa [Lit.wf, IntKind.min, IntKind.max, IntKind.signed, IntKind.bits] using ho
  obtain ⟨n, hn⟩ : ∃ n : Nat, 2 + o.tmod 5 = n := ⟨(2 + o.tmod 5).toNat, by have := Int.tmod_nonneg 5 hx.1; omega⟩
  have hn2 : 2 ≤ n ∧ n ≤ 6 := by have := Int.tmod_nonneg 5 hx.1; have := Int.tmod_lt_of_pos o (show (0 : Int) < 5 by omega); omega
  obtain ⟨tm, htm⟩ : ∃ tm, o.tmod 5 = tm := ⟨_, rfl⟩
  rw [htm] at hn
  obtain ⟨h0, h255⟩ := hx
  obtain ⟨hn2, hn6⟩ := hn2
  obtain ⟨wc, hwc⟩ : ∃ wc, w.alloc (.cells f.arr 38) = wc := ⟨_, rfl⟩
  obtain ⟨q, hq⟩ : ∃ q, w.heap.size = q := ⟨_, rfl⟩
  have FA : Hid (Fa q f wc) := by rw [← hwc, ← hq]; exact Fa.new w f
  have BA : Hid (Below w.heap.size w wc) := by rw [← hwc]; exact (Below.refl _ _).alloc (Nat.le_refl _) _
  have hN := new_bus wc n (by omega) (by omega)
  have HLow : Hid (∀ k, k < wc.heap.size → newR wc n k = .no) := fun k hk => newR_low hk
  generalize newR wc n = ρ at hN HLow
  obtain ⟨nb, hnb⟩ : ∃ nb, wc.heap.size = nb := ⟨_, rfl⟩
  have HNB : Hid (wc.heap.size = nb) := hnb
  rw [hnb] at hN HLow
  obtain ⟨b, hb⟩ : ∃ b, nb + 1 = b := ⟨_, rfl⟩
  rw [hb] at hN
  have HQL : Hid (q < nb) := by rw [← hnb]; exact FA.out.lt
  have hLv := fun x => lives4_any x
  have HLv : Hid _ := hLv
  clear ho hLv hnb hb
  unfold Fr.val
  go_enter Try.func7, Try.ntmps7
  go_upto_if 1 with fail
  refine Calls.mono hN ?_
  rintro e w1 ⟨rfl, h1, B1⟩
  have L1 : LI wc b nb ρ 0 (onL n 0) w1 := ⟨by rw [onL_zero]; exact h1, by rw [HNB.out]; exact B1, by rw [HNB.out]; exact HLow.out, by omega⟩
  clear hN h1 B1 HLow hn htm h0 h255 hq hwc
  go_wp2_with fail
  go_loopw [8] (fun i x => ∃ k : Nat, k ≤ n ∧ i = .int .i64 k ∧ LI wc b nb ρ 0 (onL n k) x) (fun i _ => n - (intOf i).toNat)
  case atStart => exact ⟨0, Nat.zero_le _, rfl, L1⟩
  case round =>
    clear L1
    obtain ⟨k, hk, rfl, L3⟩ := hrel
    by_cases hkl : k < n
    · have hP := Power_any L3.bus (by rw [onL_len]; omega) (k := k) true (by rw [onL_len]; exact hkl)
      rw [onL_pow _ _ hkl] at hP
      have HL3 : Hid _ := L3
      clear L3
      go_wp2_with fail
      refine hP.mono ?_
      rintro e w4 ⟨rfl, h4, X4⟩
      have L4 := LI.op HL3.out h4 X4 (by omega)
      clear hP h4 X4 HL3
      go_wp2
      go_roundw
      case rel => exact ⟨k + 1, by omega, by go_num, L4⟩
      case measure => simp [intOf]; omega
    · have ek : k = n := by omega
      rw [ek] at L3
      have d1 : decide ((k : Int) < (n : Int)) = false := by simp; omega
      have hfa : Fa q f wr := (L3.bel.block q (by rw [HNB.out]; exact HQL.out)).trans FA.out
      obtain ⟨m, hm⟩ : ∃ m, n = m + 1 := ⟨n - 1, by omega⟩
      have hErr : subE (onL n n) 0 f = f.chk := by rw [hm]; exact (SubI.start m).err (by omega) f
      have HTw : Hid (f.chk = 0 → TwI n f.plain (subL (onL n n) 0 f)) := TwI.of hn2 f
      have hSb : Calls Try.prog 14 #[.pointer (some ⟨b, 0, none⟩), .int .i64 0, f.val] wr _ := Submit_any L3.bus (by rw [onL_len]; omega) (k := 0) (by rw [onL_len]; omega) f
      rw [hErr] at hSb
      unfold Fr.val at hSb
      have HL3 : Hid _ := L3
      generalize hk1 : (k : Int) = k1 at *
      clear L3 hErr hm ek hkl hk1
      generalize subL (onL n n) 0 f = L0 at *
      rcases chk_cases f with hz | hz
      · rw [hz] at hSb
        have hTw := HTw.out hz
        clear HTw
        go_wp2_with (refine hfa.ldw rfl _ rfl rfl ?_)
        refine hSb.mono ?_
        rintro e w5 ⟨rfl, h5, X5⟩
        have L5 := LI.op HL3.out h5 X5 (by omega)
        have f5 : Fa q f w5 := (L5.bel.block q (by rw [HNB.out]; exact HQL.out)).trans FA.out
        have hEn := fEncode_any f true w5
        rw [hz] at hEn
        unfold Fr.val at hEn
        obtain ⟨hN1, hN3⟩ := enc_len f hz
        obtain ⟨S, hS⟩ : ∃ S : ByteArray, (⟨(encV f true).toArray⟩ : ByteArray) = S := ⟨_, rfl⟩
        obtain ⟨N, hNl⟩ : ∃ N, (encV f true).length = N := ⟨_, rfl⟩
        have hsz : S.size = N := by rw [← hS, ← hNl]; rfl
        rw [hNl] at hN1 hN3
        rw [hS] at hEn
        obtain ⟨fl, hfl⟩ : ∃ fl : Fl, fl = ⟨0, (N : Int) - 1, by omega, by omega⟩ := ⟨_, rfl⟩
        have hdec : fl.cells = [.int .i64 0, .int .i64 ((N : Int) - 1)] := by rw [hfl]; rfl
        obtain ⟨hE1, hR1⟩ := hTw.base hn2 (by omega) [fl] (twice_look (by omega) (by omega) fl (by rw [hfl]) (by rw [hfl]; show (0 : Int) ≤ (N : Int) - 1; omega)) (by
          intro g hg
          rw [List.mem_singleton] at hg
          subst hg
          rw [plain_enc, hNl, hfl]
          exact Int.le_refl _)
        rw [plain_enc, hNl, if_pos (by rw [hfl]; simp [lastB])] at hR1
        obtain ⟨q1, q2, q3, q4, q5⟩ := hTw.first hn2 (by omega) [fl] hE1 (by rw [plain_enc, hNl]; exact hR1)
        obtain ⟨p1, p2, p3, p4, p5⟩ := hTw.second hn2 (by omega) q1 q3 q4 q5
        rw [plain_enc, hNl] at p3
        have hok0 : NdsOk L0 := AllOn.ok hTw.on
        have hl0 := hTw.len
        have hs1 : (stepR L0 [fl]).sent = false := by rw [hR1]; rfl
        have hb1 : (stepR L0 [fl]).bits = (N : Int) + 20 := by rw [hR1]
        generalize hpl : f.plain = p at *
        have HPL : Hid (f.plain = p) := hpl
        have HL5 : Hid _ := L5
        have HQ : Hid ((stepL L0 [fl]).length = n ∧ NdsOk (stepL L0 [fl])) := ⟨q1, q2⟩
        have HP : Hid (stepE (stepL L0 [fl]) [] = 0 ∧ (stepR (stepL L0 [fl]) []).sent = true ∧ (stepR (stepL L0 [fl]) []).bits = (N : Int) + 3 ∧ (stepL (stepL L0 [fl]) []).length = n ∧ ∀ i, 1 ≤ i → i < n → (ndAt (stepL (stepL L0 [fl]) []) i).got = [p, p]) := ⟨p1, p2, p3, p4, p5⟩
        have H1 : Hid (stepE L0 [fl] = 0 ∧ (stepR L0 [fl]).sent = false ∧ (stepR L0 [fl]).bits = (N : Int) + 20) := ⟨hE1, hs1, hb1⟩
        have HK0 : Hid (NdsOk L0 ∧ L0.length = n) := ⟨hok0, hl0⟩
        have HDEC : Hid _ := hdec
        clear hSb h5 X5 HL3 hfa hTw hE1 hR1 q1 q2 q3 q4 q5 p1 p2 p3 p4 p5 hok0 hl0 hs1 hb1 hpl hNl hS L5 hfl hz
        go_wp2_with (refine f5.ldw rfl _ rfl rfl ?_)
        refine hEn.mono ?_
        rintro e w6 ⟨rfl, B6⟩
        have L6 := LI.below HL5.out B6
        have b7 : Below w6.heap.size w6 (w6.alloc (.cells (DL.dec fl).toArray 57)) := (Below.refl _ _).alloc (Nat.le_refl _) _
        have L7 := L6.below b7
        have hSt := Step_any L7.bus (by rw [HK0.out.2]; omega) HK0.out.1 L7.tt _ [fl] (by simp [maxLen]) (wide_new DL w6 fl 57)
        have HL7 : Hid _ := L7
        clear hEn B6 L6 b7 L7 HL5 f5
        go_wp2_with (refine one_bs DL fl 23 57 _ _ rfl _ rfl (by show _ = Value.agg fl.cells.toArray; rw [HDEC.out]; rfl) Try.underlying23 infoFlZ (by decide) ?_)
        refine hSt.mono ?_
        rintro e w8 ⟨ρ8, h8, X8, qq1, qq2⟩
        obtain ⟨a1, a2, a3⟩ := H1.out
        obtain ⟨ge, gg, rfl, _, _, _, _, _, _, _, _⟩ := qq2 a1
        rw [if_pos a1, a3] at h8
        have L8 := LI.op HL7.out h8 X8 (tAdd_ok _ _)
        have gn := Oa.new w8 rnZ nilV nilV
        have g3 := gn.row (stepR L0 [fl]) (sl ge L0.length) (sl gg L0.length)
        have bb : Below w8.heap.size w8 ((w8.alloc (.cells (rnZ.out nilV nilV) 27)).setRow w8.heap.size ((stepR L0 [fl]).out (sl ge L0.length) (sl gg L0.length))) := below_row ((Below.refl _ w8).alloc (Nat.le_refl _) _) (Nat.le_refl _) (by rw [size_alloc]; omega) _
        have z8 := L8.rz (Nat.le_refl w8.heap.size)
        have L9 := L8.below bb
        have hS2 := Step_any L9.bus (by rw [HQ.out.1]; omega) HQ.out.2 L9.tt (.slice none 0 0) [] (by simp [maxLen]) (flips_nil _)
        have HL9 : Hid _ := L9
        have G3 : Hid (Oa w8.heap.size (stepR L0 [fl]) (sl ge L0.length) (sl gg L0.length) ((w8.alloc (.cells (rnZ.out nilV nilV) 27)).setRow w8.heap.size ((stepR L0 [fl]).out (sl ge L0.length) (sl gg L0.length)))) := g3
        obtain ⟨q8, hq8⟩ : ∃ q8, w8.heap.size = q8 := ⟨_, rfl⟩
        rw [hq8] at gn G3 HL9 hS2 z8
        have A23 : Hid ((stepR L0 [fl]).sent = false ∧ (stepR L0 [fl]).bits = (N : Int) + 20) := ⟨a2, a3⟩
        clear hSt h8 X8 qq1 qq2 HL7 L8 L9 bb a1 a2 a3 g3 H1
        generalize stepR L0 [fl] = R1 at *
        generalize stepL L0 [fl] = L1 at *
        obtain ⟨W9, hW9⟩ : ∃ W9, (w8.alloc (.cells (rnZ.out nilV nilV) 27)).setRow q8 (R1.out (sl ge L0.length) (sl gg L0.length)) = W9 := ⟨_, rfl⟩
        rw [hW9] at hS2 HL9 G3
        go_wp2_with (refine gn.sd R1 (sl ge L0.length) (sl gg L0.length) rfl rfl rfl _ _ rfl rfl rfl ?_)
        refine hS2.mono ?_
        rintro e w10 ⟨ρ10, h10, X10, qq1, qq2⟩
        obtain ⟨p1, p2, p3, p4, p5⟩ := HP.out
        obtain ⟨ge2, gg2, rfl, _, _, _, _, _, _, _, _⟩ := qq2 p1
        rw [if_pos p1, p3] at h10
        have L10 := LI.op HL9.out h10 X10 (tAdd_ok _ _)
        have O10 : Oa q8 R1 (sl ge L0.length) (sl gg L0.length) w10 := Oa.kept G3.out (X10.keep _ (Oa.lt G3.out) z8)
        have gn2 := Oa.new w10 rnZ nilV nilV
        have g3 := gn2.row (stepR L1 []) (sl ge2 L1.length) (sl gg2 L1.length)
        have bb : Below w10.heap.size w10 ((w10.alloc (.cells (rnZ.out nilV nilV) 27)).setRow w10.heap.size ((stepR L1 []).out (sl ge2 L1.length) (sl gg2 L1.length))) := below_row ((Below.refl _ w10).alloc (Nat.le_refl _) _) (Nat.le_refl _) (by rw [size_alloc]; omega) _
        have L11 := L10.below bb
        have O11 := O10.below bb
        have HP5 : Hid ((stepL L1 []).length = n ∧ ∀ i, 1 ≤ i → i < n → (ndAt (stepL L1 []) i).got = [p, p]) := ⟨p4, p5⟩
        have HP2 : Hid ((stepR L1 []).sent = true ∧ (stepR L1 []).bits = (N : Int) + 3) := ⟨p2, p3⟩
        clear hS2 h10 X10 qq1 qq2 HL9 L10 O10 bb p1 p2 p3 p4 p5 HP gn hW9 G3 z8
        generalize stepR L1 [] = R2 at *
        generalize stepL L1 [] = L2 at *
        obtain ⟨q10, hq10⟩ : ∃ q10, w10.heap.size = q10 := ⟨_, rfl⟩
        rw [hq10] at gn2 g3 L11 O11
        obtain ⟨W, hW⟩ : ∃ W, (w10.alloc (.cells (rnZ.out nilV nilV) 27)).setRow q10 (R2.out (sl ge2 L1.length) (sl gg2 L1.length)) = W := ⟨_, rfl⟩
        rw [hW] at g3 L11 O11
        have htt : tAdd (tAdd 0 ((N : Int) + 20)) ((N : Int) + 3) = (N : Int) + 20 + ((N : Int) + 3) := by
          unfold tAdd
          simp only [IntKind.wrap, IntKind.signed, IntKind.bits]
          simp
          omega
        rw [htt] at L11
        obtain ⟨z1, hz1⟩ : ∃ z1 : Int, (N : Int) + 20 = z1 := ⟨_, rfl⟩
        obtain ⟨z2, hz2⟩ : ∃ z2 : Int, (N : Int) + 3 = z2 := ⟨_, rfl⟩
        have hz1b : 0 ≤ z1 := by omega
        have hz1c : z1 ≤ 1000 := by omega
        have hz2b : 0 ≤ z2 := by omega
        have hz2c : z2 ≤ 1000 := by omega
        rw [hz1, hz2] at L11
        obtain ⟨c0, c1, c2, c3, c4⟩ := O11.cells
        obtain ⟨d0, d1', d2, d3, d4⟩ := g3.cells
        rw [A23.out.1] at c2
        rw [A23.out.2, hz1] at c1
        rw [HP2.out.1] at d2
        rw [HP2.out.2, hz2] at d1'
        have k1' : ∀ x : Later W, x.now.cell? ⟨q8, 1, none⟩ = some (.int .i64 z1) := fun x => (x.below.cell (p := ⟨q8, 1, none⟩) O11.lt).trans c1
        have k2' : ∀ x : Later W, x.now.cell? ⟨q8, 2, none⟩ = some (.bool false) := fun x => (x.below.cell (p := ⟨q8, 2, none⟩) O11.lt).trans c2
        have k3' : ∀ x : Later W, x.now.cell? ⟨q10, 1, none⟩ = some (.int .i64 z2) := fun x => (x.below.cell (p := ⟨q10, 1, none⟩) g3.lt).trans d1'
        have k4' : ∀ x : Later W, x.now.cell? ⟨q10, 2, none⟩ = some (.bool true) := fun x => (x.below.cell (p := ⟨q10, 2, none⟩) g3.lt).trans d2
        have hTm : ∀ x : Later W, Calls Try.prog 23 #[.pointer (some ⟨b, 0, none⟩)] x.now fun e w' => e = .returned (.int .u64 (z1 + z2)) ∧ Below x.now.heap.size x.now w' := fun x => (Time_any (L11.bus.below x.below)).mono fun _ _ ⟨h1, h2⟩ => ⟨h1, by rw [h2]; exact Below.refl _ _⟩
        have HL11 : Hid _ := L11
        clear L11 O11 c0 c1 c2 c3 c4 d0 d1' d2 d3 d4 htt hz1 hz2 g3 HQ A23 HP2
        go_upto_region 14 with (refine gn2.sd R2 (sl ge2 L1.length) (sl gg2 L1.length) rfl rfl rfl _ _ rfl rfl rfl ?_)
        clear gn2 hW
        have hLt := Later.some W
        refine wp_region_later (by kernel_rfl) (by kernel_rfl) ?_
        repeat (go_big_quiet_step (first | (go_at_call 23; with_reducible exact later (hTm _))))
        refine wpQuiet_nil ?_
        rintro _ ⟨x1, rfl⟩
        have L12 := LI.below HL11.out x1.below
        clear k1' k2' k3' k4' hTm HL11 hLt
        generalize x1.now = w12 at *
        clear x1
        go_wp2
        go_loopw [15] (fun i x => ∃ (j : Nat) (L : List Nd), j < n ∧ i = .int .i64 ((j : Int) + 1) ∧ LI wc b nb ρ10 (z1 + z2) L x ∧ L.length = n ∧ ∀ j', j < j' → j' < n → (ndAt L j').got = [p, p]) (fun i _ => n - (intOf i).toNat)
        case atStart => exact ⟨0, L2, by omega, rfl, L12, HP5.out.1, fun j' h1 h2 => HP5.out.2 j' (by omega) h2⟩
        case round =>
          clear L12 HP5
          obtain ⟨j, L, hj, rfl, L13, hlen, hgot⟩ := hrel
          by_cases hjn : j + 1 < n
          · have hFt := Fetch_any L13.bus (by omega) (k := j + 1) (by omega)
            have ecast : ((j + 1 : Nat) : Int) = (j : Int) + 1 := by omega
            rw [ecast] at hFt
            have hgj : (L[j + 1]'(by omega)).got = [p, p] := by rw [nd_get]; exact hgot (j + 1) (by omega) hjn
            rw [hgj] at hFt
            have HNX : Hid ((L.set (j + 1) { L[j + 1]'(by omega) with got := [] }).length = n ∧ ∀ j', j + 1 < j' → j' < n → (ndAt (L.set (j + 1) { L[j + 1]'(by omega) with got := [] }) j').got = [p, p]) := ⟨by rw [List.length_set]; exact hlen, fun j' h1 h2 => by
              rw [nd_set (by omega) (by omega), if_neg (by omega)]; exact hgot j' (by omega) h2⟩
            generalize L.set (j + 1) { L[j + 1]'(by omega) with got := [] } = LN at *
            have HL13 : Hid _ := L13
            have dj : decide ((j : Int) + 1 < (n : Int)) = true := by simp; omega
            clear L13 hgot hgj ecast
            go_wp2_with fail
            refine hFt.mono ?_
            rintro e w14 ⟨v, rfl, F14, h14, X14⟩
            have L14 := LI.op HL13.out h14 X14 (LI.tt HL13.out)
            obtain ⟨b9, off9, cap9, rfl, hb9, hRa, hRb⟩ := wide_pair F14
            have f14 : Fa q f w14 := (L14.bel.block q (by rw [HNB.out]; exact HQL.out)).trans FA.out
            have hPl : ∀ x : Later w14, Calls Try.prog 15 #[.agg f.arr] x.now fun e w' => e = .returned (.agg p.arr) ∧ Below x.now.heap.size x.now w' := fun x => by have := r2Plain_any f x.now; rw [HPL.out] at this; exact this
            have hss := frB_same p
            have HL14 : Hid _ := L14
            clear hFt F14 h14 X14 HL13 L14
            go_wp2_with fail
            have hLt := Later.some w14
            refine wp_region_later (by kernel_rfl) (by kernel_rfl) ?_
            repeat (first
              | (refine quiet_ldmw hRa hb9 rfl _ rfl rfl ?_; simp only [Act.put, List.setIfInBounds_toArray, List.set_cons_succ, List.set_cons_zero])
              | (refine quiet_ldmw hRb hb9 rfl _ rfl rfl ?_; simp only [Act.put, List.setIfInBounds_toArray, List.set_cons_succ, List.set_cons_zero])
              | (refine quiet_ldw f14 rfl _ rfl rfl ?_; simp only [Act.put, List.setIfInBounds_toArray, List.set_cons_succ, List.set_cons_zero])
              | (refine quiet_neqw p p rfl _ _ rfl rfl rfl ?_; rw [hss]; simp only [Bool.not_true, Act.put, List.setIfInBounds_toArray, List.set_cons_succ, List.set_cons_zero])
              | go_big_quiet_step (first | (go_at_call 15; with_reducible exact later (hPl _))))
            refine wpQuiet_nil ?_
            rintro _ ⟨x1, rfl⟩
            have L15 := LI.below HL14.out x1.below
            clear hPl hLt HL14 hRa hRb f14 hb9
            generalize x1.now = w15 at *
            clear x1
            go_wp2
            go_roundw
            case rel => exact ⟨j + 1, LN, hjn, by go_num, L15, HNX.out.1, HNX.out.2⟩
            case measure => simp [intOf]; omega
          · have dj : decide ((j : Int) + 1 < (n : Int)) = false := by simp; omega
            have hL := HLv.out wr
            have HL13 : Hid _ := L13
            clear L13 hgot
            go_wp2_with fail
            refine hL.mono ?_
            rintro e w16 ⟨rfl, B16⟩
            have B17 := BA.out.trans ((LI.bel (LI.below HL13.out B16)).mono BA.out.size)
            clear hL
            go_wp2
            go_ret
            exact ⟨rfl, B17⟩
      · rw [hz] at hSb
        go_wp2_with (refine hfa.ldw rfl _ rfl rfl ?_)
        refine hSb.mono ?_
        rintro e w5 ⟨rfl, h5, X5⟩
        have L5 := LI.op HL3.out h5 X5 (by omega)
        have f5 : Fa q f w5 := (L5.bel.block q (by rw [HNB.out]; exact HQL.out)).trans FA.out
        have hCk := r2Check_any f w5
        rw [hz] at hCk
        unfold Fr.val at hCk
        clear hSb h5 X5 HL3 hfa HTw
        go_wp2_with (refine f5.ldw rfl _ rfl rfl ?_)
        refine hCk.mono ?_
        rintro e w6 ⟨rfl, B6⟩
        have L6 := L5.below B6
        have hL := HLv.out w6
        clear hCk B6 L5 f5
        go_wp2_with fail
        refine hL.mono ?_
        rintro e w7 ⟨rfl, B7⟩
        have B8 := BA.out.trans (((L6.below B7).bel).mono BA.out.size)
        clear hL
        go_wp2
        go_ret
        exact ⟨rfl, B8⟩
end Go.Proofs.Ytlghjfomliappaa
namespace Go.Proofs.Ytlghjfomliappaa
open Go.ChangeShapes Go.WideShapes Go.ChangeAt Go.RowKit Go.Proofs.Bits
open Go.ChangeMaps (open_string shut_string)
set_option linter.unusedVariables false
set_option maxRecDepth 1000000

set_option maxRecDepth 100000 in
theorem busTwice_lifted (os : Os) (started : os.Started) (H : Type) (enc : TypeId × Value → H) :
    ReturnsInHanded {} Try.checked os 7 .any (Rows.busTwiceSpec.pre6 enc Try.prog Try.f7 Rows.busTwiceRow.domain false) (Rows.busTwiceSpec.post enc Try.prog Try.f7 false true false false) := by
  refine returnsInHanded_of_change_sized (C := Try.checked) own started (by kernel_rfl) Try.func7
    (ChangeSpec.witness6 (enc := enc) (C := Try.checked) false ⟨#[], #[.agg #[.int .u32 0, .bool false, .bool false, .int .i64 0, .int .u8 0, .int .u8 0, .int .u8 0, .int .u8 0, .int .u8 0, .int .u8 0, .int .u8 0, .int .u8 0], .int .u8 0], []⟩ 8 (by kernel_rfl) (by kernel_rfl) (by kernel_rfl) (by kernel_rfl)) ?_
  intro W base args ds gs before hval0 hW hcnd hsz _
  have hval : ∀ (j : Nat) t v, Try.f7.params[j]? = some t → args[j]? = some v → Value.okWide Try.prog W .any base t v := hval0
  have hW' := hW
  obtain ⟨p, q, hA0, hV, rfl, hfz, hnd⟩ := hW
  have hA : DataW.TrodAll enc Try.prog W 0 (fun _ => true) true Try.f7.params.toList args.toList ds p := hA0
  rw [Try.params7] at hA hval hsz
  obtain ⟨v0, vs0, d0, ds0, p0, q0, hargs, rfl, rfl, h0, r0⟩ := trodAll_cons hA
  obtain ⟨v1, vs1, d1, ds1, p1, q1, rfl, rfl, rfl, h1, r1⟩ := trodAll_cons r0
  obtain ⟨rfl, rfl, rfl⟩ := trodAll_nil r1
  obtain rfl : args = #[v0, v1] := by cases args; simp_all
  obtain ⟨rfl, rfl⟩ := trodVars_none hV
  have lt0 : ∀ x ∈ p0, x.block < W.heap.size := by obtain ⟨m, hm⟩ := h0; exact DataW.trod_lt m _ _ _ hm
  obtain ⟨a0, rfl⟩ := open_frame (hval 0 38 v0 rfl rfl) h0
  obtain ⟨a1, rfl, rfl, rfl, w1⟩ := open_int Try.underlying5 (hval 1 5 v1 rfl rfl) h1
  clear hA0 hval0
  refine (btwice_walk a0 a1 W w1).mono fun e W' ⟨he, bel⟩ => ?_
  subst he
  exact ⟨_, rfl, _, _, _, [], _, [], hW', trodAll_mk1 (shut_bool Try.underlying4 _), (trodAll_cons_mk (Below.trod laidOut (by kernel_rfl) (of_decide_eq_true (by kernel_rfl)) h0 bel lt0) (trodAll_cons_mk (shut_int Try.underlying5 w1) trodAll_mk0)), rfl, bel.frame _, fun h => by cases h⟩

theorem busTwice_holds : Rows.BusTwiceSaid :=
  OpenClaim.holds_of_wide 7 Try.f7 rfl rfl rfl rfl rfl rfl rfl ⟨rfl, rfl, rfl, rfl, rfl⟩ rfl rfl rfl rfl rfl (by kernel_rfl) Try.func7 (by kernel_rfl)
    (of_decide_eq_true (by kernel_rfl)) (by unfold Func.isWrapper; first | (rw [if_pos (by decide +kernel)]; kernel_rfl) | (rw [if_neg (by decide +kernel)]; exact ⟨rfl, rfl⟩))
    (fun os started H enc _ => busTwice_lifted os started H enc)
end Go.Proofs.Ytlghjfomliappaa
