/- Tick of a wheel, in full. -/
import Derived.Test.YtjkkclojidhgdaaW23
namespace Go.Proofs.Ytjkkclojidhgdaa
open Go.RowKit Go.Maps Go.WideMaps
set_option linter.unusedVariables false
set_option maxRecDepth 1000000
set_option linter.unusedSimpArgs false
/-- After so many ticks nothing more is told. -/
structure Stop (m now : Nat) (ts : List Tm) (a : Nat) : Prop where
  le : a ≤ m
  ahead : ∀ c, c < a → (tkW c now ts).length < 65536
  at' : a = m ∨ 65536 ≤ (tkW a now ts).length
theorem Stop.uniq {m now : Nat} {ts : List Tm} {a b : Nat} (h : Stop m now ts a) (k : Stop m now ts b) : a = b := by
  rcases Nat.lt_trichotomy a b with e | e | e
  · have := k.ahead a e
    rcases h.at' with q | q
    · have := k.le; omega
    · omega
  · exact e
  · have := h.ahead b e
    rcases k.at' with q | q
    · have := h.le; omega
    · omega
theorem pass_id {E : Nat} {ts : List Tm} (h : Good E ts) : passF E ts = ts := by
  unfold passF
  rw [fm_congr (g := some) (fun t ht => by unfold pfT; have := (h.all t ht).2.1; rw [if_neg (by omega)])]
  exact List.filterMap_some
theorem row_take {w : World} {B : Nat} {e : TypeId} {ao : Option Addr} {L cap k : Nat} {xs : List Value} (h : w.ownsRow B e 1 (.slice ao L cap) L xs) (hk : k ≤ L) : w.ownsRow B e 1 (.slice ao k cap) k (xs.take k) := by
  have hl := h.1
  rcases h.2 with ⟨e1, e2⟩ | ⟨q, cap', cur, e1, e2, e3, e4, e5, e6, e7⟩
  · have : k = 0 := by omega
    subst this
    injection e1 with e8 e9 e10
    rw [e8, e10]
    exact ⟨by simp, .inl ⟨rfl, rfl⟩⟩
  · injection e1 with e8 e9 e10
    subst e10
    refine ⟨by simp; omega, .inr ⟨q, cap, cur, by rw [e8], e2, e3, by omega, e5, e6, ?_⟩⟩
    rw [← e7, List.take_take]
    congr 1
    omega
/-- What Tick comes to. -/
structure Td (g given n bt S : Nat) (now : Nat) (ts : List Tm) (sm : Nat → Option Nat) (w : World) (m a : Nat) (tv' : Value) (sm' : Nat → Option Nat) (w' : World) : Prop where
  stop : Stop m now ts a
  wh : Wh g (now + m) given n (passF (now + m) (tkT a now ts)) (passF (now + m) (tkT a now ts)) bt S sm' w'
  good : Good (now + m) (passF (now + m) (tkT a now ts))
  row : w'.ownsRow w.heap.size 3 1 tv' ((tkW a now ts).take 65536).length (((tkW a now ts).take 65536).map (Value.int .i64))
  kw : Kw (OwT g bt S n sm ts) w w'
  more : More n sm sm' w
  bks : ∀ x ∈ passF (now + m) (tkT a now ts), ∃ y ∈ ts, y.bk = x.bk
section
variable {g given n bt S B now : Nat} {ts : List Tm} {sm : Nat → Option Nat} {w : World} {tv : Value} {told : List Int}
theorem pass_bks {E : Nat} {x : Tm} (h : x ∈ passF E ts) : ∃ y ∈ ts, y.bk = x.bk := by
  obtain ⟨t, ht, e⟩ := List.mem_filterMap.1 h
  exact ⟨t, ht, (pf_some e).2.1.symm⟩
/-- Behind the loop: what was told is cut, the rest goes by. -/
theorem Tk.td {m a L : Nat} {ao : Option Addr} {cap : Nat} {smk sm' : Nat → Option Nat} {x y : World} (h : Tk g given n bt S w.heap.size now ts sm w (.slice none 0 0) [] a (.slice ao L cap) smk x) (hs : Stop m now ts a) (hL : ([] ++ tkW a now ts).length = L) (hW : Wh g (now + m) given n (passF (now + m) (tkT a now ts)) (passF (now + m) (tkT a now ts)) bt S sm' y) (hk : Kw (OwT g bt S n smk (tkT a now ts)) x y) (hm : More n smk sm' x) :
    Td g given n bt S now ts sm w m a (.slice ao (min L 65536) cap) sm' y := by
  have hr : x.ownsRow w.heap.size 3 1 (.slice ao L cap) L (([] ++ tkW a now ts).map (Value.int .i64)) := by rw [← hL]; exact hL.symm ▸ h.row
  have hle := hs.le
  refine ⟨hs, hW, pass_good h.good (by omega), ?_, ?_, fun i b hi e => ?_, fun z hz => ?_⟩
  · have hr2 := row_take (h.wh.keeps hr hk) (k := min L 65536) (by omega)
    have e1 : ((tkW a now ts).take 65536).length = min L 65536 := by rw [List.length_take, ← hL]; simp; omega
    have e2 : ((tkW a now ts).take 65536).map (Value.int .i64) = (([] ++ tkW a now ts).map (Value.int .i64)).take (min L 65536) := by
      rw [List.nil_append, ← List.map_take]
      congr 1
      rw [List.take_eq_take_iff]
      simp at hL
      omega
    rw [e1, e2]
    exact hr2
  · have k0 : Kw (OwT g bt S n sm ts) w x := h.kw.mono (fun k e => by rcases e with e | e; exact e; cases e)
    refine k0.more hk (fun j hj e => ?_)
    rcases e with (e | e | e | ⟨i2, hi2, e⟩) | ⟨y, hy, e⟩
    · exact .inl (.inl e)
    · exact .inl (.inr (.inl e))
    · exact .inl (.inr (.inr (.inl e)))
    · rcases h.more i2 j hi2 e with e | e
      · exact .inl (.inr (.inr (.inr ⟨i2, hi2, e⟩)))
      · omega
    · obtain ⟨z, hz, e2⟩ := h.bks y hy
      exact .inr ⟨z, hz, e2.trans e⟩
  · rcases hm i b hi e with e | e
    · exact h.more i b hi e
    · exact .inr (Nat.le_trans h.kw.size e)
  · obtain ⟨y, hy, e⟩ := pass_bks hz
    obtain ⟨y2, hy2, e2⟩ := h.bks y hy
    exact ⟨y2, hy2, e2.trans e⟩
set_option maxHeartbeats 4000000 in
theorem Tick_any (h : Wh g now given n ts ts bt S sm w) (hG : Good now ts) (m : Nat) (hm : m ≤ 1048576) (hnow : now < 576460752303423488) :
    Calls Try.prog 18 #[.pointer (some ⟨g, 0, none⟩), .int .u64 m] w fun e w' => ∃ a tv' sm', e = .returned tv' ∧ Td g given n bt S now ts sm w m a tv' sm' w' := by
  obtain ⟨c0, c1, c2, c3⟩ := h.c
  have HT : Hid (Tk g given n bt S w.heap.size now ts sm w (.slice none 0 0) [] 0 (.slice none 0 0) sm w) := Tk.zero h hG (World.ownsRow_nil _ _ _ _)
  have hn0 := h.n0
  have hn1 := h.n1
  have hmi : min (m : Int) 1048576 = (m : Int) := by omega
  have hadd : (now : Int) + (m : Int) = ((now + m : Nat) : Int) := by omega
  obtain ⟨E, hE⟩ : ∃ E, now + m = E := ⟨_, rfl⟩
  rw [hE] at hadd
  have HE : Hid (now + m = E) := hE
  have hEb : E < 1152921504606846976 := by omega
  clear h hG
  go_enter Try.func18, Try.ntmps18
  go_wp2_with fail
  go_loopw [6] (fun tvk wk => ∃ (a : Nat) (smk : Nat → Option Nat), a ≤ m ∧ Tk g given n bt S w.heap.size now ts sm w (.slice none 0 0) [] a tvk smk wk ∧ (∀ c, c < a → (tkW c now ts).length < 65536) ∧ (tkW a now ts).length ≤ 66560)
    (fun _ wk => match wk.cell? ⟨g, 0, none⟩ with | some (.int _ z) => ((E : Int) - z).toNat | _ => 0)
  case atStart => exact ⟨0, sm, Nat.zero_le _, HT.out, fun c hc => by omega, by simp [tkW]⟩
  case round =>
    obtain ⟨a, smk, ham, hT, hah, hlen⟩ := hrel
    obtain ⟨ao, cap, rfl⟩ := row_shape hT.row
    obtain ⟨L, hL⟩ : ∃ L, ([] ++ tkW a now ts).length = L := ⟨_, rfl⟩
    have hL3 : (tkW a now ts).length = L := by simpa using hL
    rw [hL3] at hlen
    rw [hL] at hT ⊢
    clear c0 c1 c2 c3 HT
    obtain ⟨c0, c1, c2, c3⟩ := hT.wh.c
    obtain ⟨na, hna⟩ : ∃ x, now + a = x := ⟨_, rfl⟩
    rw [hna] at c0
    by_cases h0 : na < E ∧ L < 65536
    · obtain ⟨h1, hL2⟩ := h0
      have hd3 : decide ((L : Int) < 65536) = true := by simp; omega
      have hd1 : decide ((na : Int) < (E : Int)) = true := by simp [h1]
      have hH := hop_any hT.wh (by have := hT.good.len; omega) (fun t ht => by have := hT.good.all t ht; omega) E (by omega) (by omega)
      obtain ⟨p1, p2, p3⟩ := hop_least (n := n) (E := E) (now := now + a) (ts := tkT a now ts) (by omega) (fun t ht => (hT.good.all t ht).2.1)
      obtain ⟨d, hd⟩ : ∃ d, hopN (now + a) E n (tkT a now ts) = now + a + d := ⟨hopN (now + a) E n (tkT a now ts) - (now + a), by omega⟩
      rw [hd] at hH p2 p3
      have HV : Hid (Tk g given n bt S w.heap.size now ts sm w (.slice none 0 0) [] a (.slice ao L cap) smk wr ∧ (∀ t ∈ tkT a now ts, now + a + d < t.due) ∧ now + a + d ≤ E ∧ ([] ++ tkW a now ts).length = L ∧ now + a = na ∧ na < E) := ⟨hT, p3, p2, hL, hna, h1⟩
      have hmes : wr.cell? ⟨g, 0, none⟩ = some (.int .u64 na) := c0
      have HAH : Hid (∀ c, c < a → (tkW c now ts).length < 65536) := hah
      have HL3 : Hid ((tkW a now ts).length = L) := hL3
      have HM : Hid (wr.cell? ⟨g, 0, none⟩ = some (.int .u64 na)) := hmes
      clear hT hmes hna hL p1 p2 p3 hd hah hL3
      go_wp2_with fail
      refine hH.mono ?_
      rintro e w4 ⟨rfl, hW4, hK4⟩
      obtain ⟨y1, y2, y3, y4, y5, y6⟩ := HV.out
      have hL3 := HL3.out
      have hr0 : wr.ownsRow w.heap.size 3 1 (.slice ao L cap) ([] ++ tkW a now ts).length (([] ++ tkW a now ts).map (Value.int .i64)) := y1.row
      have T4 := y1.trans (Tk.hop y1.wh y1.good hr0 hW4 hK4 y2)
      have hlen4 : ([] ++ tkW (a + d) now ts).length < 65536 := by
        have hq := (tk_quiet (now + a) (tkT a now ts) d (fun t ht => by have := y2 t ht; omega)).2
        have h8 := (tk_add a now ts d).2
        rw [hq] at h8
        rw [h8]
        simp
        omega
      have HQ : Hid (∀ c, c ≤ a + d → (tkW c now ts).length < 65536) := fun c hc => by
        by_cases hca : c < a
        · exact HAH.out c hca
        · obtain ⟨j, rfl⟩ : ∃ j, c = a + j := ⟨c - a, by omega⟩
          have hq := (tk_quiet (now + a) (tkT a now ts) j (fun t ht => by have := y2 t ht; omega)).2
          have h8 := (tk_add a now ts j).2
          rw [hq] at h8
          rw [h8]
          simp
          omega
      have hTu := turn_any T4.wh T4.good T4.kw.size T4.row (by omega) E (by omega) hEb
      have HT4 : Hid (Tk g given n bt S w.heap.size now ts sm w (.slice none 0 0) [] (a + d) (.slice ao L cap) smk w4) := T4
      clear hH hW4 hK4 T4 y1 y2 y4 hr0 c0 c1 c2 c3
      go_wp2_with fail
      refine hTu.mono ?_
      rintro e w5 ⟨tv5, c, sm5, rfl, T5, q1, q2, q3, q4, q5⟩
      have T6 := HT4.out.trans T5
      have hE' := HE.out
      have e6 : ∀ c', (tkW (a + d + c') now ts).length = (tkW (a + d) now ts).length + (tkW c' (now + (a + d)) (tkT (a + d) now ts)).length := fun c' => by rw [(tk_add (a + d) now ts c').2, List.length_append]
      have e7 : ∀ c', (tkW (a + d + c') now ts).length = ([] ++ tkW (a + d) now ts ++ tkW c' (now + (a + d)) (tkT (a + d) now ts)).length := fun c' => by rw [e6]; simp
      rw [← e7 c] at q3 q5
      have q4' : ∀ c', c' < a + d + c → (tkW c' now ts).length < 65536 := fun c' hc' => by
        by_cases hca : c' ≤ a + d
        · exact HQ.out c' hca
        · obtain ⟨j, rfl⟩ : ∃ j, c' = a + d + j := ⟨c' - (a + d), by omega⟩
          rw [e7]
          exact q4 j (by omega)
      have hn0' : 0 < c ∨ now + (a + d) + c = E := by
        rcases q3 with q | q | q
        · exact .inl (by omega)
        · exact .inr q
        · rcases Nat.eq_zero_or_pos c with e | e
          · subst e
            have := HQ.out (a + d) (Nat.le_refl _)
            rw [Nat.add_zero] at q
            omega
          · exact .inl e
      have HT6 : Hid (Tk g given n bt S w.heap.size now ts sm w (.slice none 0 0) [] (a + d + c) tv5 sm5 w5 ∧ a + d + c ≤ m ∧ na < now + (a + d + c) ∧ now + (a + d + c) ≤ E ∧ (∀ c', c' < a + d + c → (tkW c' now ts).length < 65536) ∧ (tkW (a + d + c) now ts).length ≤ 66560) := ⟨T6, by omega, by rcases hn0' with q | q <;> omega, by omega, q4', q5⟩
      clear hTu T5 T6 q1 q2 q3 q4 q5 q4' hn0' e6 e7 HT4 HQ hL3 hE' y3 y5 y6
      go_wp2
      go_roundw
      case rel => exact ⟨a + d + c, sm5, HT6.out.2.1, HT6.out.1, HT6.out.2.2.2.2.1, HT6.out.2.2.2.2.2⟩
      case measure =>
        obtain ⟨t1, t2, t3, t4, _⟩ := HT6.out
        have e1 := HM.out
        have e2 := t1.wh.c.1
        simp only [e1, e2]
        omega
    · have hcap : L ≤ cap ∧ (ao = none → L = 0 ∧ cap = 0) := by
        rcases hT.row.2 with ⟨e, e2⟩ | ⟨q, cap', cur, e, _, _, e3, _⟩
        · simp at e; obtain ⟨e4, e5, e6⟩ := e; omega
        · simp at e; obtain ⟨e4, e5, e6⟩ := e; refine ⟨by omega, fun e7 => by rw [e4] at e7; cases e7⟩
      obtain ⟨L1, hL1⟩ : ∃ x, min L 65536 = x := ⟨_, rfl⟩
      have hmL : min (L : Int) 65536 = (L1 : Int) := by omega
      have hL1b : L1 ≤ L ∧ L1 ≤ 65536 := by omega
      have hEo := HE.out
      by_cases h1 : na < E
      · have hLb : ¬ L < 65536 := fun h => h0 ⟨h1, h⟩
        have hd1 : decide ((na : Int) < (E : Int)) = true := by simp [h1]
        have hd3 : decide ((L : Int) < 65536) = false := by simp; omega
        have hst : Stop m now ts a := ⟨ham, hah, .inr (by omega)⟩
        have hP := pass_any hT.wh hT.good E (by omega) (by omega)
        rw [← hEo] at hP
        have HX : Hid (Tk g given n bt S w.heap.size now ts sm w (.slice none 0 0) [] a (.slice ao L cap) smk wr ∧ Stop m now ts a ∧ ([] ++ tkW a now ts).length = L ∧ min L 65536 = L1) := ⟨hT, hst, hL, hL1⟩
        rw [hEo] at hP
        have HEE : Hid (now + m = E) := hEo
        clear hT hna hL hL3 hah hst hL1 hEo h0 ham
        go_wp2_with fail
        refine hP.mono ?_
        rintro e w6 ⟨rfl, sm6, hW6, hK6, hM6⟩
        have HY : Hid (Td g given n bt S now ts sm w m a (.slice ao L1 cap) sm6 w6) := by
          obtain ⟨x1, x2, x3, x4⟩ := HX.out
          rw [← x4]
          have e8 := HEE.out
          subst e8
          exact x1.td x2 x3 hW6 hK6 hM6
        clear hP hW6 hK6 hM6 HX c0 c1 c2 c3
        go_wp2
        go_ret
        exact ⟨a, _, sm6, rfl, HY.out⟩
      · have hd1 : decide ((na : Int) < (E : Int)) = false := by simp [h1]
        have ham2 : a = m := by omega
        have HY : Hid (Td g given n bt S now ts sm w m a (.slice ao L1 cap) smk wr) := by
          have hst : Stop m now ts a := ⟨ham, hah, .inl ham2⟩
          rw [← hL1]
          have hp : passF (now + m) (tkT a now ts) = tkT a now ts := pass_id (by rw [← ham2]; exact hT.good)
          exact hT.td hst hL (by rw [hp, ← ham2]; exact hT.wh) ⟨rfl, rfl, rfl, Nat.le_refl _, fun _ _ _ => rfl⟩ (fun i b _ h => .inl h)
        clear hT hna hL hL3 hah hL1 hEo h0 ham ham2
        go_wp2
        go_ret
        exact ⟨a, _, smk, rfl, HY.out⟩
end
end Go.Proofs.Ytjkkclojidhgdaa
