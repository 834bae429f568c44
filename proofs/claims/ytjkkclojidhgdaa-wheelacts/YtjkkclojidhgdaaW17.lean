/- Tick of a wheel, where fewer than 65536 are told. -/
import Derived.Test.YtjkkclojidhgdaaW16
namespace Go.Proofs.Ytjkkclojidhgdaa
open Go.RowKit Go.Maps Go.WideMaps
set_option linter.unusedVariables false
set_option maxRecDepth 1000000
set_option linter.unusedSimpArgs false
theorem tk_add (a now : Nat) (ts : List Tm) : ∀ b, tkT (a + b) now ts = tkT b (now + a) (tkT a now ts) ∧ tkW (a + b) now ts = tkW a now ts ++ tkW b (now + a) (tkT a now ts)
  | 0 => ⟨rfl, by simp [tkW]⟩
  | b + 1 => by
    obtain ⟨h1, h2⟩ := tk_add a now ts b
    refine ⟨?_, ?_⟩
    · show aft (now + (a + b) + 1) (tkT (a + b) now ts) = aft (now + a + b + 1) (tkT b (now + a) (tkT a now ts))
      rw [h1, ← Nat.add_assoc]
    · show tkW (a + b) now ts ++ (outs (now + (a + b) + 1) (tkT (a + b) now ts)).map (·.what) = tkW a now ts ++ (tkW b (now + a) (tkT a now ts) ++ (outs (now + a + b + 1) (tkT b (now + a) (tkT a now ts))).map (·.what))
      rw [h1, h2, ← Nat.add_assoc, List.append_assoc]
theorem tk_quiet (now : Nat) (ts : List Tm) : ∀ d, (∀ t ∈ ts, now + d < t.due) → tkT d now ts = ts ∧ tkW d now ts = []
  | 0, _ => ⟨rfl, rfl⟩
  | d + 1, h => by
    obtain ⟨h1, h2⟩ := tk_quiet now ts d (fun t ht => by have := h t ht; omega)
    have ho : outs (now + d + 1) ts = [] := by
      unfold outs
      rw [List.filter_eq_nil_iff]
      intro t ht
      have := h t ht
      simp
      omega
    unfold tkT tkW aft
    rw [h1, h2, ho]
    exact ⟨rfl, rfl⟩
theorem hop_least {now E n : Nat} {ts : List Tm} (hE : now ≤ E) (hd : ∀ t ∈ ts, now < t.due) : now ≤ hopN now E n ts ∧ hopN now E n ts ≤ E ∧ ∀ t ∈ ts, hopN now E n ts < t.due := by
  unfold hopN
  split
  · exact ⟨Nat.le_refl _, hE, hd⟩
  · cases ts with
    | nil => exact ⟨hE, Nat.le_refl _, fun t h => by simp at h⟩
    | cons y r =>
      refine ⟨by simp, ?_, fun t ht => ?_⟩
      · simp only; omega
      · have h1 : nextF now (y :: r) ≤ t.due - now := (fold_le now (y :: r) 4294967296).2.1 t ht
        have h2 := hd t ht
        simp only
        omega
section
variable {g given n bt S B now : Nat} {ts : List Tm} {sm : Nat → Option Nat} {w : World} {tv : Value} {told : List Int}
theorem Tk.trans {c d : Nat} {tvc tvd : Value} {smc smd : Nat → Option Nat} {x y : World} (h : Tk g given n bt S B now ts sm w tv told c tvc smc x) (k : Tk g given n bt S B (now + c) (tkT c now ts) smc x tvc (told ++ tkW c now ts) d tvd smd y) : Tk g given n bt S B now ts sm w tv told (c + d) tvd smd y := by
  obtain ⟨e1, e2⟩ := tk_add c now ts d
  refine ⟨by rw [e1, ← Nat.add_assoc]; exact k.wh, by rw [e1, ← Nat.add_assoc]; exact k.good, by rw [e2, ← List.append_assoc]; exact k.row, h.kw.more k.kw (fun j hj e => ?_), fun i b hi e => ?_, fun j hj e => h.blk j hj (k.blk j (Nat.lt_of_lt_of_le hj h.kw.size) e), fun z hz => ?_⟩
  · rcases e with ((e | e | e | ⟨i2, hi2, e⟩) | ⟨y, hy, e⟩) | e
    · exact .inl (.inl (.inl e))
    · exact .inl (.inl (.inr (.inl e)))
    · exact .inl (.inl (.inr (.inr (.inl e))))
    · rcases h.more i2 j hi2 e with e | e
      · exact .inl (.inl (.inr (.inr (.inr ⟨i2, hi2, e⟩))))
      · omega
    · obtain ⟨z, hz, e2⟩ := h.bks y hy
      exact .inl (.inr ⟨z, hz, e2.trans e⟩)
    · exact .inr (h.blk j hj e)
  · rcases k.more i b hi e with e | e
    · exact h.more i b hi e
    · exact .inr (Nat.le_trans h.kw.size e)
  · rw [e1] at hz
    obtain ⟨p, hp, q1⟩ := k.bks z hz
    obtain ⟨p2, hp2, q2⟩ := h.bks p hp
    exact ⟨p2, hp2, q2.trans q1⟩
/-- A wheel hops over ticks at which nothing runs out. -/
theorem Tk.hop (h : Wh g now given n ts ts bt S sm w) (hG : Good now ts) (hr : w.ownsRow B 3 1 tv told.length (told.map (Value.int .i64))) {d : Nat} {w' : World} (hW : Wh g (now + d) given n ts ts bt S sm w') (hk : Kw (fun k => k = g) w w') (hq : ∀ t ∈ ts, now + d < t.due) : Tk g given n bt S B now ts sm w tv told d tv sm w' := by
  obtain ⟨e1, e2⟩ := tk_quiet now ts d hq
  refine ⟨by rw [e1]; exact hW, ⟨by rw [e1]; exact hG.bkd, by rw [e1]; exact hG.len, fun t ht => ?_⟩, by rw [e2]; simpa using h.keeps hr (hk.mono (fun k e => .inl (.inl e))), hk.mono (fun k e => .inl (.inl (.inl e))), fun i b _ h => .inl h, fun j _ h => h, fun x hx => ⟨x, by rw [e1] at hx; exact hx, rfl⟩⟩
  rw [e1] at ht
  obtain ⟨a1, a2, a3⟩ := hG.all t ht
  exact ⟨a1, hq t ht, by omega⟩
set_option maxHeartbeats 4000000 in
theorem Tick_calm (h : Wh g now given n ts ts bt S sm w) (hG : Good now ts) (m : Nat) (hm : m ≤ 1048576) (hnow : now < 576460752303423488) (hc : ∀ c, c ≤ m → (tkW c now ts).length < 65536) :
    Calls Try.prog 18 #[.pointer (some ⟨g, 0, none⟩), .int .u64 m] w fun e w' => ∃ tv' sm', e = .returned tv' ∧ Tk g given n bt S w.heap.size now ts sm w (.slice none 0 0) [] m tv' sm' w' := by
  obtain ⟨c0, c1, c2, c3⟩ := h.c
  have HT : Hid (Tk g given n bt S w.heap.size now ts sm w (.slice none 0 0) [] 0 (.slice none 0 0) sm w) := Tk.zero h hG (World.ownsRow_nil _ _ _ _)
  have hn0 := h.n0
  have hn1 := h.n1
  have hmi : min (m : Int) 1048576 = (m : Int) := by omega
  have hadd : (now : Int) + (m : Int) = ((now + m : Nat) : Int) := by omega
  obtain ⟨E, hE⟩ : ∃ E, now + m = E := ⟨_, rfl⟩
  rw [hE] at hadd
  have HE : Hid (now + m = E) := hE
  have hEb : E < 1152921504606846976 := by omega
  clear h hG
  go_enter Try.func18, Try.ntmps18
  go_wp2_with fail
  go_loopw [6] (fun tvk wk => ∃ (a : Nat) (smk : Nat → Option Nat), a ≤ m ∧ Tk g given n bt S w.heap.size now ts sm w (.slice none 0 0) [] a tvk smk wk)
    (fun _ wk => match wk.cell? ⟨g, 0, none⟩ with | some (.int _ z) => ((E : Int) - z).toNat | _ => 0)
  case atStart => exact ⟨0, sm, Nat.zero_le _, HT.out⟩
  case round =>
    obtain ⟨a, smk, ham, hT⟩ := hrel
    obtain ⟨ao, cap, rfl⟩ := row_shape hT.row
    obtain ⟨L, hL⟩ : ∃ L, ([] ++ tkW a now ts).length = L := ⟨_, rfl⟩
    have hL2 : L < 65536 := by have := hc a ham; simp at hL; omega
    rw [hL] at hT ⊢
    clear c0 c1 c2 c3 HT
    obtain ⟨c0, c1, c2, c3⟩ := hT.wh.c
    obtain ⟨na, hna⟩ : ∃ x, now + a = x := ⟨_, rfl⟩
    rw [hna] at c0
    have hd3 : decide ((L : Int) < 65536) = true := by simp; omega
    by_cases h1 : na < E
    · have hd1 : decide ((na : Int) < (E : Int)) = true := by simp [h1]
      have hH := hop_any hT.wh (by have := hT.good.len; omega) (fun t ht => by have := hT.good.all t ht; omega) E (by omega) (by omega)
      obtain ⟨p1, p2, p3⟩ := hop_least (n := n) (E := E) (now := now + a) (ts := tkT a now ts) (by omega) (fun t ht => (hT.good.all t ht).2.1)
      obtain ⟨d, hd⟩ : ∃ d, hopN (now + a) E n (tkT a now ts) = now + a + d := ⟨hopN (now + a) E n (tkT a now ts) - (now + a), by omega⟩
      rw [hd] at hH p2 p3
      have HV : Hid (Tk g given n bt S w.heap.size now ts sm w (.slice none 0 0) [] a (.slice ao L cap) smk wr ∧ (∀ t ∈ tkT a now ts, now + a + d < t.due) ∧ now + a + d ≤ E ∧ ([] ++ tkW a now ts).length = L ∧ now + a = na ∧ na < E) := ⟨hT, p3, p2, hL, hna, h1⟩
      have hmes : wr.cell? ⟨g, 0, none⟩ = some (.int .u64 na) := c0
      have HM : Hid (wr.cell? ⟨g, 0, none⟩ = some (.int .u64 na)) := hmes
      clear hT hmes hna hL p1 p2 p3 hd
      go_wp2_with fail
      refine hH.mono ?_
      rintro e w4 ⟨rfl, hW4, hK4⟩
      obtain ⟨y1, y2, y3, y4, y5, y6⟩ := HV.out
      have hr0 : wr.ownsRow w.heap.size 3 1 (.slice ao L cap) ([] ++ tkW a now ts).length (([] ++ tkW a now ts).map (Value.int .i64)) := y1.row
      have T4 := y1.trans (Tk.hop y1.wh y1.good hr0 hW4 hK4 y2)
      have hlen4 : ([] ++ tkW (a + d) now ts).length < 65536 := by
        have := hc (a + d) (by have := HE.out; omega)
        simpa using this
      have hTu := turn_any T4.wh T4.good T4.kw.size T4.row (by omega) E (by omega) hEb
      have HT4 : Hid (Tk g given n bt S w.heap.size now ts sm w (.slice none 0 0) [] (a + d) (.slice ao L cap) smk w4) := T4
      clear hH hW4 hK4 T4 y1 y2 y4 hr0 c0 c1 c2 c3
      go_wp2_with fail
      refine hTu.mono ?_
      rintro e w5 ⟨tv5, c, sm5, rfl, T5, q1, q2, q3, q4, q5⟩
      have T6 := HT4.out.trans T5
      have hE' := HE.out
      have q3' : c = n ∨ now + (a + d) + c = E := by
        rcases q3 with q | q | q
        · exact .inl q
        · exact .inr q
        · have h8 := hc (a + d + c) (by omega)
          rw [(tk_add (a + d) now ts c).2, List.length_append] at h8
          simp only [List.nil_append, List.length_append] at q
          omega
      have HT6 : Hid (Tk g given n bt S w.heap.size now ts sm w (.slice none 0 0) [] (a + d + c) tv5 sm5 w5 ∧ a + d + c ≤ m ∧ na < now + (a + d + c) ∧ now + (a + d + c) ≤ E) := ⟨T6, by omega, by rcases q3' with q | q <;> omega, by omega⟩
      clear hTu T5 T6 q1 q2 q3 q4 q5 q3' HT4 hE' y3 y5 y6
      go_wp2
      go_roundw
      case rel => exact ⟨a + d + c, sm5, HT6.out.2.1, HT6.out.1⟩
      case measure =>
        obtain ⟨t1, t2, t3, t4⟩ := HT6.out
        have e1 := HM.out
        have e2 := t1.wh.c.1
        simp only [e1, e2]
        omega
    · have hd1 : decide ((na : Int) < (E : Int)) = false := by simp [h1]
      have HX : Hid (Tk g given n bt S w.heap.size now ts sm w (.slice none 0 0) [] m (.slice ao L cap) smk wr) := by
        have : a = m := by omega
        subst this; exact hT
      have hcap : L ≤ cap ∧ (ao = none → L = 0 ∧ cap = 0) := by
        rcases hT.row.2 with ⟨e, e2⟩ | ⟨q, cap', cur, e, _, _, e3, _⟩
        · simp at e; obtain ⟨e4, e5, e6⟩ := e; omega
        · simp at e; obtain ⟨e4, e5, e6⟩ := e; refine ⟨by omega, fun e7 => by rw [e4] at e7; cases e7⟩
      clear hT hna
      have hmL : min (L : Int) 65536 = (L : Int) := by omega
      go_wp2
      go_ret
      exact ⟨_, smk, rfl, HX.out⟩
end
end Go.Proofs.Ytjkkclojidhgdaa
