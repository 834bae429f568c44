/- pass of a wheel, in memory. -/
import Derived.Test.YtjkkclojidhgdaaW22
namespace Go.Proofs.Ytjkkclojidhgdaa
open Go.RowKit Go.Maps Go.WideMaps
set_option linter.unusedVariables false
set_option maxRecDepth 1000000
set_option linter.unusedSimpArgs false
theorem wpList_next_pmm (w : World) {ops : Array Oper} {rest : List Oper} {o : Oper} {a : Act} {Q : Exit → Act → World → Prop} (hg : o.guard = none) (it : Operand) (hop : o.op = Op.next it false) (b r m : Nat) (ts : List Tm) (hr : Rise ts) (left : Lit → Bool) (cnt : Nat)
    (hit : a.eval it = .pointer (some ⟨r, 0, none⟩)) (h : w.ranges Try.prog 3 ptrR b r m (.map (ts.map ent)) left cnt) (hle : ∀ k : Int, left (.int .i64 k) = true → ∃ t ∈ ts, (t.no : Int) = k)
    (hDone : (∀ kl, left kl = false) → wpList Try.prog ops Q rest (a.put o.dst (.tuple #[.bool false])) w)
    (hMore : ∀ (t : Tm) (w' : World) (cnt' : Nat), t ∈ ts → left (.int .i64 t.no) = true → w'.ranges Try.prog 3 ptrR b r m (.map (ts.map ent)) (fun z => left z && !z.sameKey (.int .i64 t.no)) cnt' → cnt' < cnt →
      w.grownBy w' (some r) → (Instr.entry (.pointer (some ⟨r, 0, none⟩))).run Try.prog w' = .ok (.tuple #[.int .i64 t.no, ptrV t.bk]) w' → wpList Try.prog ops Q rest (a.put o.dst (.tuple #[.bool true, .int .i64 t.no, ptrV t.bk])) w') :
    wpList Try.prog ops Q (o :: rest) a w := by
  refine wpList_next_ranges w hg it hop 3 lawI ptrR (Value.int .i64) Value.pointer (fun key kl hkey => by obtain ⟨x, rfl, _⟩ := Maps.keyOf_int_inv Try.underlying3 hkey; exact ⟨x, rfl⟩) (fun v y hv => ptrR_ptr hv) b r m _ left cnt hit h (fun _ => hDone) ?_
  intro x c kl y w' cnt' hkey hlk hv hat hrg hlt hgr hsz hen
  obtain ⟨x', ex, rfl, hwx⟩ := Maps.keyOf_int_inv Try.underlying3 hkey
  cases ex
  obtain ⟨t, ht, hk'⟩ := hle _ hlk
  subst hk'
  have hm : (Lit.int .i64 t.no, DataW.lit (.int .i64 t.bk)) ∈ ts.map ent := List.mem_map.2 ⟨t, ht, rfl⟩
  have h2 := hat .nil
  rw [WideAt.atKey_mem _ (isKey_int t.no) (ents_apart hr) hm] at h2
  obtain ⟨y1, y2⟩ := y
  have hc : Value.pointer c = ptrV t.bk := ptrR_lit (ps := y2) (by rw [hv]; simp at h2; rw [← h2])
  rw [hc] at hen ⊢
  exact hMore t w' cnt' ht hlk hrg hlt hgr hen
theorem has_no {ts : List Tm} {k : Int} (h : Maps.has (.map (ts.map ent)) (.int .i64 k) = true) : ∃ t ∈ ts, (t.no : Int) = k := by
  rw [Maps.has_eq, List.any_map, List.any_eq_true] at h
  obtain ⟨t, ht, hk⟩ := h
  exact ⟨t, ht, by simpa [ent, same_int] using hk⟩
theorem no_has {ts : List Tm} {t : Tm} (ht : t ∈ ts) : Maps.has (.map (ts.map ent)) (.int .i64 t.no) = true := by
  rw [Maps.has_eq, List.any_map, List.any_eq_true]; exact ⟨t, ht, by simp [ent, same_int]⟩
section
variable {g now given n : Nat} {ts ls : List Tm} {bt S : Nat} {sm : Nat → Option Nat} {w : World}
/-- What leaves a wheel's blocks leaves the wheel. -/
theorem Wh.stay (h : Wh g now given n ts ts bt S sm w) {w' : World} (hk : ∀ k, k < w.heap.size → OwT g bt S n sm ts k → w'.heap[k]? = w.heap[k]?) : Wh g now given n ts ts bt S sm w' := by
  obtain ⟨cs, r1, r2, r3⟩ := h.row
  have key : ∀ k A T fr, OwT g bt S n sm ts k → w.heap[k]? = some (Obj.cells A T fr) → w'.heap[k]? = some (Obj.cells A T fr) := fun k A T fr ho hx => (hk k (Array.getElem?_eq_some_iff.1 hx).1 ho).trans hx
  exact ⟨key _ _ _ _ (.inl (.inl rfl)) h.head, h.tim.same (hk bt h.tim.lt (.inl (.inr (.inl rfl)))), ⟨cs, key _ _ _ _ (.inl (.inr (.inr (.inl rfl)))) r1, r2, r3⟩, h.none', fun j c hj hc => ⟨(h.maps j c hj hc).1.same (hk c (h.maps j c hj hc).1.lt (.inl (.inr (.inr (.inr ⟨j, hj, hc⟩))))), (h.maps j c hj hc).2⟩, h.inj, fun t ht => key _ _ _ _ (.inr ⟨t, ht, rfl⟩) (h.rts t ht), fun t ht => key _ _ _ _ (.inr ⟨t, ht, rfl⟩) (h.rls t ht), h.up, h.upl, h.n0, h.n1, h.g1, h.w1, h.nos⟩
theorem Wh.not_own (h : Wh g now given n ts ts bt S sm w) {r : Nat} (hi : ItrAt w r) : ¬ OwT g bt S n sm ts r := by
  rintro ((e | e | e | ⟨i, hi', e⟩) | ⟨t, ht, e⟩)
  · obtain ⟨m, s, seen, c, hr⟩ := hi
    rw [e, h.head] at hr
    cases hr
  · obtain ⟨m, s, seen, c, hr⟩ := hi
    obtain ⟨es, clock, hb, _⟩ := h.tim
    rw [e, hb] at hr
    cases hr
  · exact h.not_S (e ▸ hi)
  · exact h.not_slot hi' e hi
  · exact h.not_bk ht (e ▸ hi)
/-- The state of pass between two timers. -/
def Ps (g given n bt S E R m : Nat) (ts : List Tm) (sm : Nat → Option Nat) (w : World) (left : Lit → Bool) (cnt : Nat) (smk : Nat → Option Nat) (wr : World) : Prop :=
  Wh g E given n (psT E left ts) (psT E left ts) bt S smk wr ∧ wr.ranges Try.prog 3 ptrR bt R m (.map ((psT E left ts).map ent)) left cnt ∧ (∀ k : Int, left (.int .i64 k) = true → ∃ t ∈ ts, (t.no : Int) = k) ∧ Kw (OwT g bt S n sm ts) w wr ∧ More n sm smk w
theorem Ps.le {E R m cnt : Nat} {left : Lit → Bool} {smk : Nat → Option Nat} {wr : World} (h : Ps g given n bt S E R m ts sm w left cnt smk wr) : ∀ k : Int, left (.int .i64 k) = true → ∃ t ∈ psT E left ts, (t.no : Int) = k := by
  intro k hk
  obtain ⟨t, ht, e⟩ := h.2.2.1 k hk
  exact ⟨t, ps_in ht (by rw [e]; exact hk), e⟩
/-- The iterator goes on to t. -/
theorem Ps.next {E R m cnt : Nat} {left : Lit → Bool} {smk : Nat → Option Nat} {wr : World} (h : Ps g given n bt S E R m ts sm w left cnt smk wr) (hR : w.heap.size ≤ R) {w1 : World} (hg : wr.grownBy w1 (some R)) :
    Wh g E given n (psT E left ts) (psT E left ts) bt S smk w1 ∧ Kw (OwT g bt S n sm ts) w w1 := by
  obtain ⟨h1, h2, h3, h4, h5⟩ := h
  obtain ⟨hlt, hit⟩ := ranges_itr h2
  refine ⟨h1.stay (fun k hk ho => hg.block k hk (fun e => ?_)), ?_⟩
  · cases e
    exact h1.not_own hit ho
  · refine h4.more (O' := fun k => k = R) ⟨hg.os, hg.tape, hg.output, hg.size, fun k hk ho => hg.block k hk (fun e => by cases e; exact ho rfl)⟩ (fun k hk e => ?_)
    omega
theorem Ps.past {E R m cnt cnt1 : Nat} {left : Lit → Bool} {smk : Nat → Option Nat} {wr : World} (h : Ps g given n bt S E R m ts sm w left cnt smk wr) (hR : w.heap.size ≤ R) (hr : Rise ts) {w1 : World} (hg : wr.grownBy w1 (some R)) {t : Tm} (ht : t ∈ psT E left ts) (hl : left (.int .i64 t.no) = true) (hd : E < t.due) (hrg : w1.ranges Try.prog 3 ptrR bt R m (.map ((psT E left ts).map ent)) (fun z => left z && !z.sameKey (.int .i64 t.no)) cnt1) :
    Ps g given n bt S E R m ts sm w (fun z => left z && !z.sameKey (.int .i64 t.no)) cnt1 smk w1 := by
  obtain ⟨h1, h2⟩ := h.next hR hg
  unfold Ps
  rw [ps_past hr (ps_left ht hl) hd]
  exact ⟨h1, hrg, fun k hk => h.2.2.1 k (by rw [Bool.and_eq_true] at hk; exact hk.1), h2, h.2.2.2.2⟩
theorem Ps.step {E R m cnt cnt1 : Nat} {left : Lit → Bool} {smk : Nat → Option Nat} {wr : World} (h : Ps g given n bt S E R m ts sm w left cnt smk wr) (hG : Good now ts) (hR : w.heap.size ≤ R) (hr : Rise ts) {w1 : World} (hg : wr.grownBy w1 (some R)) {t : Tm} (ht : t ∈ psT E left ts) (hl : left (.int .i64 t.no) = true) (hd : t.due ≤ E) (hrg : w1.ranges Try.prog 3 ptrR bt R m (.map ((psT E left ts).map ent)) (fun z => left z && !z.sameKey (.int .i64 t.no)) cnt1) :
    Calls Try.prog 37 #[.pointer (some ⟨g, 0, none⟩), .int .i64 t.no, ptrV t.bk] w1 fun e w' => e = .returned (.tuple #[]) ∧ ∃ cnt' sm', cnt' ≤ cnt1 ∧ Ps g given n bt S E R m ts sm w (fun z => left z && !z.sameKey (.int .i64 t.no)) cnt' sm' w' := by
  obtain ⟨h1, h2⟩ := h.next hR hg
  have hts := ps_left ht hl
  refine (behind_any2 h1 t ht (ps_bkd hG.bkd) (hG.all t hts).1 hd (Nat.le_trans (ps_len _ _ _) hG.len)).mono ?_
  rintro e w' ⟨rfl, sm', a1, a2, a3, a4⟩
  obtain ⟨cnt', b1, b2⟩ := a4 R left cnt1 m hrg
  refine ⟨rfl, cnt', sm', b1, ?_⟩
  unfold Ps
  rw [ps_step hr hts hl hd]
  refine ⟨a1, b2, fun k hk => h.2.2.1 k (by rw [Bool.and_eq_true] at hk; exact hk.1), h2.more a2 (fun j hj e => ?_), fun i b hi e => ?_⟩
  · rcases e with (e | e | e | ⟨i2, hi2, e⟩) | ⟨y, hy, e⟩
    · exact .inl (.inl e)
    · exact .inl (.inr (.inl e))
    · exact .inl (.inr (.inr (.inl e)))
    · rcases h.2.2.2.2 i2 j hi2 e with e | e
      · exact .inl (.inr (.inr (.inr ⟨i2, hi2, e⟩)))
      · omega
    · obtain ⟨z, hz, e2⟩ := ps_mem hy
      exact .inr ⟨z, hz, by rw [← (ps_some e2).2.1]; exact e⟩
  · rcases a3 i b hi e with e | e
    · exact h.2.2.2.2 i b hi e
    · exact .inr (Nat.le_trans h2.size e)
theorem Ps.drew {E R m cnt : Nat} {left : Lit → Bool} {smk : Nat → Option Nat} {wr : World} (h : Ps g given n bt S E R m ts sm w left cnt smk wr) (k : Nat) : Ps g given n bt S E R m ts sm w left cnt smk (wr.drewN k) := by
  obtain ⟨h1, h2, h3, h4, h5⟩ := h
  exact ⟨h1.stay (fun _ _ _ => rfl), ranges_same h2 rfl rfl, h3, h4.trans ⟨rfl, rfl, rfl, Nat.le_refl _, fun _ _ _ => rfl⟩, h5⟩
set_option maxHeartbeats 2000000 in
theorem pass_any (h : Wh g now given n ts ts bt S sm w) (hG : Good now ts) (E : Nat) (h1 : now ≤ E) (h2 : E < 4611686018427387904) :
    Calls Try.prog 30 #[.pointer (some ⟨g, 0, none⟩), .int .u64 E] w fun e w' => e = .returned (.tuple #[]) ∧ ∃ sm', Wh g E given n (passF E ts) (passF E ts) bt S sm' w' ∧ Kw (OwT g bt S n sm ts) w w' ∧ More n sm sm' w := by
  obtain ⟨c0, c1, c2, c3⟩ := h.c
  have hup := h.up
  have f0 : w.frozen? ⟨g, 0, none⟩ = false := Lib.frozen_of_heap h.head _
  have hX := h.setHead 0 (.int .u64 E) E given rfl h.g1 h2 (Nat.le_refl _)
  have hsz : (w.setCell ⟨g, 0, none⟩ (.int .u64 E)).heap.size = w.heap.size := by simp [World.setCell]
  have hown := hX.1.tim
  have e2 := hX.1.c.2.2.1
  unfold PM at hown
  have HX : Hid (Wh g E given n ts ts bt S sm (w.setCell ⟨g, 0, none⟩ (.int .u64 E)) ∧ Kw (fun k => k = g) w (w.setCell ⟨g, 0, none⟩ (.int .u64 E))) := hX
  have HG : Hid (Good now ts) := hG
  clear h hX hG
  go_enter Try.func30, Try.ntmps30
  go_wp2_with (first
    | (at_range; refine wpList_range_own _ rfl _ 54 rfl 3 66 lawI und_mapt _ bt ts.length _ rfl hown ?_; intro w0 hrg0 hg0 hs0)
    | go_in)
  go_frame
  rw [hsz] at hrg0 ⊢
  have HS0 : Hid (Ps g given n bt S E w.heap.size ts.length ts sm w (fun z => Maps.has (.map (ts.map ent)) z) (Maps.size (.map (ts.map ent))) sm w0) := by
    have hst : psT E (fun z => Maps.has (.map (ts.map ent)) z) ts = ts := ps_start (fun t ht => no_has ht)
    unfold Ps
    rw [hst]
    refine ⟨HX.out.1.below (grown_below hg0), hrg0, fun k hk => has_no hk, (HX.out.2.mono (fun k e => .inl (.inl e))).trans (Kw.below (grown_below hg0)), fun i b _ h => .inl h⟩
  clear hrg0 hg0 hs0 c0 c1 c2 c3 e2 hown f0 hsz HX
  go_loopw [4] (fun _ wr => ∃ (left : Lit → Bool) (cnt : Nat) (smk : Nat → Option Nat), Ps g given n bt S E w.heap.size ts.length ts sm w left cnt smk wr)
    (fun _ wr => wr.rangeLeft bt w.heap.size)
  case atStart => exact ⟨_, _, _, HS0.out⟩
  case round =>
    obtain ⟨left, cnt, smk, hP⟩ := hrel
    clear HS0
    have hrg := hP.2.1
    have hup2 : Rise (psT E left ts) := hP.1.up
    have hle := hP.le
    go_wp2_with (first
      | (at_next; refine wpList_next_pmm _ rfl _ rfl bt w.heap.size ts.length (psT E left ts) hup2 _ _ rfl hrg hle ?_ ?_)
      | go_in)
    · intro hl0
      have HE : Hid (∃ sm', Wh g E given n (passF E ts) (passF E ts) bt S sm' wr ∧ Kw (OwT g bt S n sm ts) w wr ∧ More n sm sm' w) := by
        have e := ps_end (E := E) (ts := ts) hl0
        exact ⟨smk, by rw [← e]; exact hP.1, hP.2.2.2.1, hP.2.2.2.2⟩
      clear hrg hP
      go_wp2
      go_end0
      exact ⟨rfl, HE.out⟩
    · intro t w1 cnt1 ht hlt hrg1 hlc hg1 hen
      have hm := hrg.left_eq
      have hW1 := (hP.next (Nat.le_refl _) hg1).1
      obtain ⟨d0, d1, d2⟩ := (hW1.rts t ht).c
      by_cases hd : t.due ≤ E
      · have hB := hP.step HG.out (Nat.le_refl _) hup hg1 ht hlt hd hrg1
        have hdd : decide ((t.due : Int) ≤ (E : Int)) = true := by simp; omega
        have HM : Hid (cnt1 < cnt ∧ wr.rangeLeft bt w.heap.size = cnt) := ⟨hlc, hm⟩
        clear hP hrg hrg1 hg1 hlc hm hW1 hlt
        unfold ptrV at *
        go_wp2_with fail
        refine hB.mono ?_
        rintro e w2 ⟨rfl, cnt2, sm2, hle2, hP2⟩
        have HP2 : Hid (cnt2 ≤ cnt1 ∧ Ps g given n bt S E w.heap.size ts.length ts sm w (fun z => left z && !z.sameKey (.int .i64 t.no)) cnt2 sm2 w2) := ⟨hle2, hP2⟩
        clear hB hle2 hP2 hen d0 d1 d2
        go_wp2
        go_roundw
        case rel => exact ⟨_, _, _, HP2.out.2⟩
        case measure =>
          rw [HM.out.2, HP2.out.2.2.1.left_eq]
          exact Nat.lt_of_le_of_lt HP2.out.1 HM.out.1
      · have hdd : decide ((t.due : Int) ≤ (E : Int)) = false := by simp; omega
        have HP2 : Hid (cnt1 < cnt ∧ wr.rangeLeft bt w.heap.size = cnt ∧ Ps g given n bt S E w.heap.size ts.length ts sm w (fun z => left z && !z.sameKey (.int .i64 t.no)) cnt1 smk w1) := ⟨hlc, hm, hP.past (Nat.le_refl _) hup hg1 ht hlt (by omega) hrg1⟩
        clear hP hrg hrg1 hg1 hlc hm hW1 hlt
        unfold ptrV at *
        go_wp2_with fail
        go_roundw
        case rel => exact ⟨_, _, _, HP2.out.2.2⟩
        case measure =>
          rw [HP2.out.2.1, HP2.out.2.2.2.1.left_eq]
          exact HP2.out.1
end
end Go.Proofs.Ytjkkclojidhgdaa
