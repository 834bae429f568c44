/- Tick at whatever number; what passes at one go is what passes tick by tick. -/
import Derived.Test.YtjkkclojidhgdaaW25
namespace Go.Proofs.Ytjkkclojidhgdaa
open Go.RowKit Go.Maps Go.WideMaps
set_option linter.unusedVariables false
set_option maxRecDepth 1000000
set_option linter.unusedSimpArgs false
section
variable {g given n bt S B now : Nat} {ts : List Tm} {sm : Nat → Option Nat} {w : World} {tv : Value} {told : List Int}
set_option maxHeartbeats 4000000 in
theorem Tick_cut (h : Wh g now given n ts ts bt S sm w) (hG : Good now ts) (A m : Nat) (hA : min A 1048576 = m) (hnow : now < 576460752303423488) :
    Calls Try.prog 18 #[.pointer (some ⟨g, 0, none⟩), .int .u64 A] w fun e w' => ∃ a tv' sm', e = .returned tv' ∧ Td g given n bt S now ts sm w m a tv' sm' w' := by
  obtain ⟨c0, c1, c2, c3⟩ := h.c
  have HT : Hid (Tk g given n bt S w.heap.size now ts sm w (.slice none 0 0) [] 0 (.slice none 0 0) sm w) := Tk.zero h hG (World.ownsRow_nil _ _ _ _)
  have hn0 := h.n0
  have hn1 := h.n1
  have hm : m ≤ 1048576 := by omega
  have hmi : min (A : Int) 1048576 = (m : Int) := by omega
  clear hA
  have hadd : (now : Int) + (m : Int) = ((now + m : Nat) : Int) := by omega
  obtain ⟨E, hE⟩ : ∃ E, now + m = E := ⟨_, rfl⟩
  rw [hE] at hadd
  have HE : Hid (now + m = E) := hE
  have hEb : E < 1152921504606846976 := by omega
  clear h hG
  go_enter Try.func18, Try.ntmps18
  go_wp2_with fail
  go_loopw [6] (fun tvk wk => ∃ (a : Nat) (smk : Nat → Option Nat), a ≤ m ∧ Tk g given n bt S w.heap.size now ts sm w (.slice none 0 0) [] a tvk smk wk ∧ (∀ c, c < a → (tkW c now ts).length < 65536) ∧ (tkW a now ts).length ≤ 66560)
    (fun _ wk => match wk.cell? ⟨g, 0, none⟩ with | some (.int _ z) => ((E : Int) - z).toNat | _ => 0)
  case atStart => exact ⟨0, sm, Nat.zero_le _, HT.out, fun c hc => by omega, by simp [tkW]⟩
  case round =>
    obtain ⟨a, smk, ham, hT, hah, hlen⟩ := hrel
    obtain ⟨ao, cap, rfl⟩ := row_shape hT.row
    obtain ⟨L, hL⟩ : ∃ L, ([] ++ tkW a now ts).length = L := ⟨_, rfl⟩
    have hL3 : (tkW a now ts).length = L := by simpa using hL
    rw [hL3] at hlen
    rw [hL] at hT ⊢
    clear c0 c1 c2 c3 HT
    obtain ⟨c0, c1, c2, c3⟩ := hT.wh.c
    obtain ⟨na, hna⟩ : ∃ x, now + a = x := ⟨_, rfl⟩
    rw [hna] at c0
    by_cases h0 : na < E ∧ L < 65536
    · obtain ⟨h1, hL2⟩ := h0
      have hd3 : decide ((L : Int) < 65536) = true := by simp; omega
      have hd1 : decide ((na : Int) < (E : Int)) = true := by simp [h1]
      have hH := hop_any hT.wh (by have := hT.good.len; omega) (fun t ht => by have := hT.good.all t ht; omega) E (by omega) (by omega)
      obtain ⟨p1, p2, p3⟩ := hop_least (n := n) (E := E) (now := now + a) (ts := tkT a now ts) (by omega) (fun t ht => (hT.good.all t ht).2.1)
      obtain ⟨d, hd⟩ : ∃ d, hopN (now + a) E n (tkT a now ts) = now + a + d := ⟨hopN (now + a) E n (tkT a now ts) - (now + a), by omega⟩
      rw [hd] at hH p2 p3
      have HV : Hid (Tk g given n bt S w.heap.size now ts sm w (.slice none 0 0) [] a (.slice ao L cap) smk wr ∧ (∀ t ∈ tkT a now ts, now + a + d < t.due) ∧ now + a + d ≤ E ∧ ([] ++ tkW a now ts).length = L ∧ now + a = na ∧ na < E) := ⟨hT, p3, p2, hL, hna, h1⟩
      have hmes : wr.cell? ⟨g, 0, none⟩ = some (.int .u64 na) := c0
      have HAH : Hid (∀ c, c < a → (tkW c now ts).length < 65536) := hah
      have HL3 : Hid ((tkW a now ts).length = L) := hL3
      have HM : Hid (wr.cell? ⟨g, 0, none⟩ = some (.int .u64 na)) := hmes
      clear hT hmes hna hL p1 p2 p3 hd hah hL3
      go_wp2_with fail
      refine hH.mono ?_
      rintro e w4 ⟨rfl, hW4, hK4⟩
      obtain ⟨y1, y2, y3, y4, y5, y6⟩ := HV.out
      have hL3 := HL3.out
      have hr0 : wr.ownsRow w.heap.size 3 1 (.slice ao L cap) ([] ++ tkW a now ts).length (([] ++ tkW a now ts).map (Value.int .i64)) := y1.row
      have T4 := y1.trans (Tk.hop y1.wh y1.good hr0 hW4 hK4 y2)
      have hlen4 : ([] ++ tkW (a + d) now ts).length < 65536 := by
        have hq := (tk_quiet (now + a) (tkT a now ts) d (fun t ht => by have := y2 t ht; omega)).2
        have h8 := (tk_add a now ts d).2
        rw [hq] at h8
        rw [h8]
        simp
        omega
      have HQ : Hid (∀ c, c ≤ a + d → (tkW c now ts).length < 65536) := fun c hc => by
        by_cases hca : c < a
        · exact HAH.out c hca
        · obtain ⟨j, rfl⟩ : ∃ j, c = a + j := ⟨c - a, by omega⟩
          have hq := (tk_quiet (now + a) (tkT a now ts) j (fun t ht => by have := y2 t ht; omega)).2
          have h8 := (tk_add a now ts j).2
          rw [hq] at h8
          rw [h8]
          simp
          omega
      have hTu := turn_any T4.wh T4.good T4.kw.size T4.row (by omega) E (by omega) hEb
      have HT4 : Hid (Tk g given n bt S w.heap.size now ts sm w (.slice none 0 0) [] (a + d) (.slice ao L cap) smk w4) := T4
      clear hH hW4 hK4 T4 y1 y2 y4 hr0 c0 c1 c2 c3
      go_wp2_with fail
      refine hTu.mono ?_
      rintro e w5 ⟨tv5, c, sm5, rfl, T5, q1, q2, q3, q4, q5⟩
      have T6 := HT4.out.trans T5
      have hE' := HE.out
      have e6 : ∀ c', (tkW (a + d + c') now ts).length = (tkW (a + d) now ts).length + (tkW c' (now + (a + d)) (tkT (a + d) now ts)).length := fun c' => by rw [(tk_add (a + d) now ts c').2, List.length_append]
      have e7 : ∀ c', (tkW (a + d + c') now ts).length = ([] ++ tkW (a + d) now ts ++ tkW c' (now + (a + d)) (tkT (a + d) now ts)).length := fun c' => by rw [e6]; simp
      rw [← e7 c] at q3 q5
      have q4' : ∀ c', c' < a + d + c → (tkW c' now ts).length < 65536 := fun c' hc' => by
        by_cases hca : c' ≤ a + d
        · exact HQ.out c' hca
        · obtain ⟨j, rfl⟩ : ∃ j, c' = a + d + j := ⟨c' - (a + d), by omega⟩
          rw [e7]
          exact q4 j (by omega)
      have hn0' : 0 < c ∨ now + (a + d) + c = E := by
        rcases q3 with q | q | q
        · exact .inl (by omega)
        · exact .inr q
        · rcases Nat.eq_zero_or_pos c with e | e
          · subst e
            have := HQ.out (a + d) (Nat.le_refl _)
            rw [Nat.add_zero] at q
            omega
          · exact .inl e
      have HT6 : Hid (Tk g given n bt S w.heap.size now ts sm w (.slice none 0 0) [] (a + d + c) tv5 sm5 w5 ∧ a + d + c ≤ m ∧ na < now + (a + d + c) ∧ now + (a + d + c) ≤ E ∧ (∀ c', c' < a + d + c → (tkW c' now ts).length < 65536) ∧ (tkW (a + d + c) now ts).length ≤ 66560) := ⟨T6, by omega, by rcases hn0' with q | q <;> omega, by omega, q4', q5⟩
      clear hTu T5 T6 q1 q2 q3 q4 q5 q4' hn0' e6 e7 HT4 HQ hL3 hE' y3 y5 y6
      go_wp2
      go_roundw
      case rel => exact ⟨a + d + c, sm5, HT6.out.2.1, HT6.out.1, HT6.out.2.2.2.2.1, HT6.out.2.2.2.2.2⟩
      case measure =>
        obtain ⟨t1, t2, t3, t4, _⟩ := HT6.out
        have e1 := HM.out
        have e2 := t1.wh.c.1
        simp only [e1, e2]
        omega
    · have hcap : L ≤ cap ∧ (ao = none → L = 0 ∧ cap = 0) := by
        rcases hT.row.2 with ⟨e, e2⟩ | ⟨q, cap', cur, e, _, _, e3, _⟩
        · simp at e; obtain ⟨e4, e5, e6⟩ := e; omega
        · simp at e; obtain ⟨e4, e5, e6⟩ := e; refine ⟨by omega, fun e7 => by rw [e4] at e7; cases e7⟩
      obtain ⟨L1, hL1⟩ : ∃ x, min L 65536 = x := ⟨_, rfl⟩
      have hmL : min (L : Int) 65536 = (L1 : Int) := by omega
      have hL1b : L1 ≤ L ∧ L1 ≤ 65536 := by omega
      have hEo := HE.out
      by_cases h1 : na < E
      · have hLb : ¬ L < 65536 := fun h => h0 ⟨h1, h⟩
        have hd1 : decide ((na : Int) < (E : Int)) = true := by simp [h1]
        have hd3 : decide ((L : Int) < 65536) = false := by simp; omega
        have hst : Stop m now ts a := ⟨ham, hah, .inr (by omega)⟩
        have hP := pass_any hT.wh hT.good E (by omega) (by omega)
        rw [← hEo] at hP
        have HX : Hid (Tk g given n bt S w.heap.size now ts sm w (.slice none 0 0) [] a (.slice ao L cap) smk wr ∧ Stop m now ts a ∧ ([] ++ tkW a now ts).length = L ∧ min L 65536 = L1) := ⟨hT, hst, hL, hL1⟩
        rw [hEo] at hP
        have HEE : Hid (now + m = E) := hEo
        clear hT hna hL hL3 hah hst hL1 hEo h0 ham
        go_wp2_with fail
        refine hP.mono ?_
        rintro e w6 ⟨rfl, sm6, hW6, hK6, hM6⟩
        have HY : Hid (Td g given n bt S now ts sm w m a (.slice ao L1 cap) sm6 w6) := by
          obtain ⟨x1, x2, x3, x4⟩ := HX.out
          rw [← x4]
          have e8 := HEE.out
          subst e8
          exact x1.td x2 x3 hW6 hK6 hM6
        clear hP hW6 hK6 hM6 HX c0 c1 c2 c3
        go_wp2
        go_ret
        exact ⟨a, _, sm6, rfl, HY.out⟩
      · have hd1 : decide ((na : Int) < (E : Int)) = false := by simp [h1]
        have ham2 : a = m := by omega
        have HY : Hid (Td g given n bt S now ts sm w m a (.slice ao L1 cap) smk wr) := by
          have hst : Stop m now ts a := ⟨ham, hah, .inl ham2⟩
          rw [← hL1]
          have hp : passF (now + m) (tkT a now ts) = tkT a now ts := pass_id (by rw [← ham2]; exact hT.good)
          exact hT.td hst hL (by rw [hp, ← ham2]; exact hT.wh) ⟨rfl, rfl, rfl, Nat.le_refl _, fun _ _ _ => rfl⟩ (fun i b _ h => .inl h)
        clear hT hna hL hL3 hah hL1 hEo h0 ham ham2
        go_wp2
        go_ret
        exact ⟨a, _, smk, rfl, HY.out⟩
end
/-- Timers run out one behind another. -/
theorem ps_fold {E : Nat} {ts : List Tm} (hr : Rise ts) : ∀ (l : List Tm) (left : Lit → Bool), Rise l → (∀ t ∈ l, t ∈ ts ∧ t.due ≤ E ∧ left (.int .i64 t.no) = true) →
    ∃ left', l.foldl (run1 E) (psT E left ts) = psT E left' ts ∧ ∀ x ∈ ts, left' (.int .i64 x.no) = (left (.int .i64 x.no) && !(l.any (fun t => t.no == x.no)))
  | [], left, _, _ => ⟨left, rfl, fun x _ => by simp⟩
  | t :: l, left, hl, h => by
    obtain ⟨h1, h2⟩ := List.pairwise_cons.1 hl
    obtain ⟨a1, a2, a3⟩ := h t (List.mem_cons_self ..)
    obtain ⟨left', b1, b2⟩ := ps_fold hr l (fun z => left z && !z.sameKey (.int .i64 t.no)) h2 (fun y hy => by
      obtain ⟨c1, c2, c3⟩ := h y (List.mem_cons_of_mem _ hy)
      refine ⟨c1, c2, ?_⟩
      simp only [key_same, c3, Bool.true_and]
      have := h1 y hy
      simp
      omega)
    refine ⟨left', ?_, fun x hx => ?_⟩
    · rw [List.foldl_cons, ← ps_step hr a1 a3 a2]
      exact b1
    · rw [b2 x hx, List.any_cons]
      simp only [key_same]
      have e : (x.no == t.no) = (t.no == x.no) := by rw [Bool.eq_iff_iff]; simp; exact eq_comm
      rw [e]
      cases left (.int .i64 x.no) <;> cases (t.no == x.no) <;> simp
theorem aft_pass {E : Nat} {ts : List Tm} (hr : Rise ts) (h : ∀ t ∈ ts, E ≤ t.due) : aft E ts = passF E ts := by
  obtain ⟨left', b1, b2⟩ := ps_fold (E := E) hr (outs E ts) (fun _ => true) (rise_filter hr _) (fun t ht => by
    obtain ⟨h1, h2⟩ := List.mem_filter.1 ht
    have h3 : t.due = E := by simpa using h2
    exact ⟨h1, by omega, rfl⟩)
  rw [ps_start (fun _ _ => rfl)] at b1
  unfold aft
  rw [b1]
  unfold psT passF
  refine fm_congr (fun x hx => ?_)
  unfold psF
  rw [b2 x hx, Bool.true_and]
  by_cases hd : x.due = E
  · have : (outs E ts).any (fun t => t.no == x.no) = true := by
      rw [List.any_eq_true]
      exact ⟨x, List.mem_filter.2 ⟨hx, by simpa using hd⟩, by simp⟩
    rw [this]
    simp
  · have : (outs E ts).any (fun t => t.no == x.no) = false := by
      rw [List.any_eq_false]
      intro t ht
      obtain ⟨h1, h2⟩ := List.mem_filter.1 ht
      have h3 : t.due = E := by simpa using h2
      intro e
      have e2 : t.no = x.no := by simpa using e
      rw [rise_no hr h1 hx e2] at h3
      exact hd h3
    have h4 := h x hx
    have e : pfT E x = some x := by unfold pfT; rw [if_neg (by omega)]
    rw [this, e]
    simp
theorem div_step {p E1 E2 d : Nat} (hp : 0 < p) (h1 : d ≤ E1) (h2 : E1 ≤ E2) : (d + ((E1 - d) / p * p + p) ≤ E2 → d + ((E1 - d) / p * p + p) + ((E2 - (d + ((E1 - d) / p * p + p))) / p * p + p) = d + ((E2 - d) / p * p + p)) ∧ (¬ d + ((E1 - d) / p * p + p) ≤ E2 → d + ((E1 - d) / p * p + p) = d + ((E2 - d) / p * p + p)) := by
  obtain ⟨q, hq⟩ : ∃ q, (E1 - d) / p = q := ⟨_, rfl⟩
  rw [hq]
  have hm1 := Nat.div_add_mod (E1 - d) p
  have hl1 := Nat.mod_lt (E1 - d) hp
  rw [hq] at hm1
  have hc : p * q = q * p := Nat.mul_comm _ _
  have hs : (q + 1) * p = q * p + p := by rw [Nat.add_mul, Nat.one_mul]
  constructor
  · intro h
    have e1 : E2 - d = (E2 - (d + (q * p + p))) + (q + 1) * p := by omega
    have e2 : (E2 - d) / p = (E2 - (d + (q * p + p))) / p + (q + 1) := by rw [e1, Nat.add_mul_div_right _ _ hp]
    rw [e2, Nat.add_mul]
    omega
  · intro h
    have e2 : (E2 - d) / p = q := by
      apply Nat.div_eq_of_lt_le
      · rw [hc] at hm1; omega
      · rw [Nat.succ_mul] ; omega
    rw [e2]
theorem pass_pass {E1 E2 : Nat} (ts : List Tm) (h : E1 ≤ E2) : passF E2 (passF E1 ts) = passF E2 ts := by
  unfold passF
  rw [List.filterMap_filterMap]
  refine fm_congr (fun t ht => ?_)
  by_cases hd : t.due ≤ E1
  · by_cases hp : t.per = 0
    · have e1 : pfT E1 t = none := by unfold pfT; rw [if_pos hd, if_pos hp]
      have e2 : pfT E2 t = none := by unfold pfT; rw [if_pos (by omega), if_pos hp]
      rw [e1, e2]
      rfl
    · have e1 : pfT E1 t = some { t with due := nextDue t E1 } := by unfold pfT; rw [if_pos hd, if_neg hp]
      have e2 : pfT E2 t = some { t with due := nextDue t E2 } := by unfold pfT; rw [if_pos (by omega), if_neg hp]
      obtain ⟨d1, d2⟩ := div_step (p := t.per) (E1 := E1) (E2 := E2) (d := t.due) (by omega) hd h
      rw [e1, e2]
      show pfT E2 { t with due := nextDue t E1 } = _
      unfold pfT
      show (if nextDue t E1 ≤ E2 then (if t.per = 0 then none else some { t with due := nextDue { t with due := nextDue t E1 } E2 }) else some { t with due := nextDue t E1 }) = _
      by_cases hn : nextDue t E1 ≤ E2
      · rw [if_pos hn, if_neg hp]
        have := d1 hn
        show some { t with due := nextDue t E1 + ((E2 - nextDue t E1) / t.per * t.per + t.per) } = _
        congr 2
      · rw [if_neg hn]
        have := d2 hn
        congr 2
  · have e1 : pfT E1 t = some t := by unfold pfT; rw [if_neg hd]
    rw [e1]
    rfl
theorem rise_pass {E : Nat} {ts : List Tm} (hr : Rise ts) : Rise (passF E ts) := by
  induction ts with
  | nil => exact List.Pairwise.nil
  | cons y r ih =>
    obtain ⟨h1, h2⟩ := List.pairwise_cons.1 hr
    unfold passF
    rw [List.filterMap_cons]
    cases hy : pfT E y with
    | none => exact ih h2
    | some z =>
      refine List.pairwise_cons.2 ⟨fun x hx => ?_, ih h2⟩
      obtain ⟨t, ht, e⟩ := List.mem_filterMap.1 hx
      rw [(pf_some hy).1, (pf_some e).1]
      exact h1 t ht
theorem pass_tk {now : Nat} {ts : List Tm} (hr : Rise ts) (hG : Good now ts) : ∀ d, tkT d now ts = passF (now + d) ts
  | 0 => (pass_id hG).symm
  | d + 1 => by
    show aft (now + d + 1) (tkT d now ts) = _
    rw [pass_tk hr hG d]
    have hg := pass_good hG (E := now + d) (by omega)
    rw [aft_pass (rise_pass hr) (fun t ht => by have := (hg.all t ht).2.1; omega), pass_pass ts (by omega)]
    rfl
theorem tkW_take {m now a : Nat} {ts : List Tm} (h : Stop m now ts a) : (tkW a now ts).take 65536 = (tkW m now ts).take 65536 := by
  rcases h.at' with e | e
  · rw [e]
  · obtain ⟨d, rfl⟩ : ∃ d, m = a + d := ⟨m - a, by have := h.le; omega⟩
    rw [(tk_add a now ts d).2, List.take_append_of_le_length e]
theorem er_rise {ts : List Tm} (h : Rise ts) : Rise (ts.map er) := by
  unfold Rise
  rw [List.pairwise_map]
  exact h
theorem er_good {now : Nat} {ts : List Tm} (h : Good now ts) : ∀ t ∈ ts.map er, t.per ≤ 4294967296 ∧ now < t.due ∧ t.due ≤ now + 4294967296 := by
  intro t ht
  obtain ⟨x, hx, rfl⟩ := List.mem_map.1 ht
  exact h.all x hx
theorem Tick_at2 {x : Wl} {now given : Nat} {es : List Tm} {w : World} (h : At x now given es w) (A m : Nat) (hA : min A 1048576 = m) (hnow : now < 576460752303423488) :
    Calls Try.prog 18 #[.pointer (some ⟨x.g, 0, none⟩), .int .u64 A] w fun e w' => ∃ tv x', e = .returned tv ∧ w'.ownsRow w.heap.size 3 1 tv ((tkW m now es).take 65536).length (((tkW m now es).take 65536).map (Value.int .i64)) ∧ At x' (now + m) given (passF (now + m) es) w' ∧ Mv x x' w w' := by
  refine (Tick_cut h.wh h.good A m hA hnow).mono ?_
  rintro e w' ⟨a, tv, sm', rfl, T⟩
  have hrow := T.row
  have hst := T.stop
  have ep : passF (now + m) (tkT a now x.ts) = passF (now + m) x.ts := by
    rw [pass_tk h.wh.up h.good, pass_pass x.ts (by have := hst.le; omega)]
  rw [tkW_take hst, er_tkW, h.es] at hrow
  have hwh := T.wh
  have hgd := T.good
  have hbk := T.bks
  rw [ep] at hwh hgd hbk
  refine ⟨tv, { x with sm := sm', ts := passF (now + m) x.ts }, rfl, hrow, ⟨hwh, hgd, ?_⟩, ⟨rfl, T.kw, ?_⟩⟩
  · show (passF (now + m) x.ts).map er = _
    rw [er_pass, h.es]
  · intro k hk
    rcases hk with (e | e | e | ⟨i, hi, e⟩) | ⟨t, ht, e⟩
    · exact .inl (.inl (.inl e))
    · exact .inl (.inl (.inr (.inl e)))
    · exact .inl (.inl (.inr (.inr (.inl e))))
    · rcases T.more i k hi e with e | e
      · exact .inl (.inl (.inr (.inr (.inr ⟨i, hi, e⟩))))
      · exact .inr e
    · obtain ⟨y, hy, e2⟩ := hbk t ht
      exact .inl (.inr ⟨y, hy, e2.trans e⟩)
end Go.Proofs.Ytjkkclojidhgdaa
