/- turn of a wheel. -/
import Derived.Test.YtjkkclojidhgdaaW15
namespace Go.Proofs.Ytjkkclojidhgdaa
open Go.RowKit Go.Maps Go.WideMaps
set_option linter.unusedVariables false
set_option maxRecDepth 1000000
set_option linter.unusedSimpArgs false
theorem row_shape {w : World} {B : Nat} {e : TypeId} {c m : Nat} {v : Value} {xs : List Value} (h : w.ownsRow B e c v m xs) : ∃ ao cap, v = .slice ao m cap := by
  rcases h.2 with ⟨rfl, rfl⟩ | ⟨q, cap, cur, rfl, _⟩
  · exact ⟨none, 0, rfl⟩
  · exact ⟨_, cap, rfl⟩
/-- A wheel that has gone on by c ticks, and what it has told. -/
structure Tk (g given n bt S : Nat) (B : Nat) (now : Nat) (ts : List Tm) (sm : Nat → Option Nat) (w : World) (tv : Value) (told : List Int) (c : Nat) (tv' : Value) (sm' : Nat → Option Nat) (w' : World) : Prop where
  wh : Wh g (now + c) given n (tkT c now ts) (tkT c now ts) bt S sm' w'
  good : Good (now + c) (tkT c now ts)
  row : w'.ownsRow B 3 1 tv' (told ++ tkW c now ts).length ((told ++ tkW c now ts).map (Value.int .i64))
  kw : Kw (fun k => OwT g bt S n sm ts k ∨ tv.ownBlock = some k) w w'
  more : More n sm sm' w
  blk : ∀ j, j < w.heap.size → tv'.ownBlock = some j → tv.ownBlock = some j
  bks : ∀ x ∈ tkT c now ts, ∃ y ∈ ts, y.bk = x.bk
section
variable {g given n bt S B now : Nat} {ts : List Tm} {sm : Nat → Option Nat} {w : World} {tv : Value} {told : List Int}
theorem Tk.zero (h : Wh g now given n ts ts bt S sm w) (hG : Good now ts) (hr : w.ownsRow B 3 1 tv told.length (told.map (Value.int .i64))) : Tk g given n bt S B now ts sm w tv told 0 tv sm w :=
  ⟨h, hG, by simpa [tkW] using hr, ⟨rfl, rfl, rfl, Nat.le_refl _, fun _ _ _ => rfl⟩, fun i b _ h => .inl h, fun j _ h => h, fun x hx => ⟨x, hx, rfl⟩⟩
/-- One tick more: now is written, and runOut answers. -/
theorem Tk.step {c : Nat} {tvc : Value} {smc : Nat → Option Nat} {wc : World} (h : Tk g given n bt S B now ts sm w tv told c tvc smc wc) (hB : B ≤ w.heap.size) (hl : (told ++ tkW c now ts).length ≤ 66560) (hn : now + c + 1 < 2305843009213693952) :
    Calls Try.prog 36 #[.pointer (some ⟨g, 0, none⟩), tvc] (wc.setCell ⟨g, 0, none⟩ (.int .u64 ((now + c + 1 : Nat) : Int))) fun e w' => ∃ tv' sm', e = .returned tv' ∧ Tk g given n bt S B now ts sm w tv told (c + 1) tv' sm' w' := by
  obtain ⟨h1, k1⟩ := h.wh.setHead 0 (.int .u64 ((now + c + 1 : Nat) : Int)) (now + c + 1) given rfl h.wh.g1 (by omega) (Nat.le_refl _)
  have hr1 := h.wh.keeps h.row (k1.mono (fun k e => (.inl (.inl e) : OwT g bt S n smc (tkT c now ts) k)))
  have hG := h.good
  have hW := h.wh
  refine (runOut_any h1 hG.bkd hG.len (fun t ht => (hG.all t ht).1) (fun t ht => by have := hG.all t ht; omega) B (Nat.le_trans hB (Nat.le_trans h.kw.size k1.size)) tvc (told ++ tkW c now ts) (by omega) hr1).mono ?_
  rintro e w' ⟨tv', rfl, r2, sm', w2, k2, m2, b2⟩
  have K1 : Kw (fun k => OwT g bt S n sm ts k ∨ tv.ownBlock = some k) w (wc.setCell ⟨g, 0, none⟩ (.int .u64 ((now + c + 1 : Nat) : Int))) := h.kw.trans (k1.mono (fun k e => .inl (.inl (.inl e))))
  refine ⟨tv', sm', rfl, w2, hG.tick hW.up, ?_, K1.more k2 (fun j hj e => ?_), fun i2 x hi2 e => ?_, fun j hj e => ?_, fun x hx => ?_⟩
  · simpa [tkW] using r2
  · rcases e with ((e | e | e | ⟨i2, hi2, e⟩) | ⟨y, hy, e⟩) | e
    · exact .inl (.inl (.inl e))
    · exact .inl (.inl (.inr (.inl e)))
    · exact .inl (.inl (.inr (.inr (.inl e))))
    · rcases h.more i2 j hi2 e with e | e
      · exact .inl (.inl (.inr (.inr (.inr ⟨i2, hi2, e⟩))))
      · omega
    · obtain ⟨z, hz, e2⟩ := h.bks y hy
      exact .inl (.inr ⟨z, hz, e2.trans e⟩)
    · exact .inr (h.blk j hj e)
  · rcases m2 i2 x hi2 e with e | e
    · exact h.more i2 x hi2 e
    · exact .inr (Nat.le_trans K1.size e)
  · exact h.blk j hj (b2 j (Nat.lt_of_lt_of_le hj K1.size) e)
  · obtain ⟨y, hy, e1⟩ := aft_bks hW.up hG.bkd hx
    obtain ⟨z, hz, e2⟩ := h.bks y hy
    exact ⟨z, hz, e2.trans e1⟩
set_option maxHeartbeats 4000000 in
theorem turn_any (h : Wh g now given n ts ts bt S sm w) (hG : Good now ts) (hB : B ≤ w.heap.size) (hr : w.ownsRow B 3 1 tv told.length (told.map (Value.int .i64))) (ht : told.length ≤ 66560) (E : Nat) (hE : now ≤ E) (hE2 : E < 1152921504606846976) :
    Calls Try.prog 29 #[.pointer (some ⟨g, 0, none⟩), .int .u64 E, tv] w fun e w' => ∃ tv' c sm', e = .returned tv' ∧ Tk g given n bt S B now ts sm w tv told c tv' sm' w' ∧ c ≤ n ∧ now + c ≤ E ∧ (c = n ∨ now + c = E ∨ 65536 ≤ (told ++ tkW c now ts).length) ∧ (∀ c', c' < c → (told ++ tkW c' now ts).length < 65536) ∧ (told ++ tkW c now ts).length ≤ 66560 := by
  obtain ⟨c0, c1, c2, c3⟩ := h.c
  have HT : Hid (Tk g given n bt S B now ts sm w tv told 0 tv sm w) := Tk.zero h hG hr
  have hn1 := h.n1
  clear h hG hr
  go_enter Try.func29, Try.ntmps29
  go_wp2_with fail
  go_loopw [2, 12] (fun tvk kv wk => ∃ (c : Nat) (smk : Nat → Option Nat), c ≤ n ∧ kv = .int .i64 c ∧ Tk g given n bt S B now ts sm w tv told c tvk smk wk ∧ now + c ≤ E ∧ (∀ c', c' < c → (told ++ tkW c' now ts).length < 65536) ∧ (told ++ tkW c now ts).length ≤ 66560)
    (fun _ kv _ => (n - intOf kv).toNat)
  case atStart =>
    exact ⟨0, sm, Nat.zero_le _, rfl, HT.out, hE, fun c' h => by omega, by simpa [tkW] using ht⟩
  case round =>
    obtain ⟨c, smk, hcn, rfl, hT, hcE, hlt, hle⟩ := hrel
    obtain ⟨ao, cap, rfl⟩ := row_shape hT.row
    obtain ⟨L, hL⟩ : ∃ L, (told ++ tkW c now ts).length = L := ⟨_, rfl⟩
    have hT' := hT
    have HL : Hid ((told ++ tkW c now ts).length = L) := hL
    rw [hL] at hle
    rw [hL]
    clear c0 c1 c2 c3 HT
    obtain ⟨c0, c1, c2, c3⟩ := hT.wh.c
    have f0 : wr.frozen? ⟨g, 0, none⟩ = false := Lib.frozen_of_heap hT.wh.head _
    rw [hL] at hT'
    have hX : Tk g given n bt S B now ts sm w tv told c (.slice ao L cap) smk wr := hT'
    have HX : Hid (Tk g given n bt S B now ts sm w tv told c (.slice ao L cap) smk wr ∧ ∀ c', c' < c → (told ++ tkW c' now ts).length < 65536) := ⟨hX, hlt⟩
    clear hL hT'
    obtain ⟨nc, hnc⟩ : ∃ x, now + c = x := ⟨_, rfl⟩
    rw [hnc] at c0
    have HN : Hid (now + c = nc) := hnc
    have hcE' : nc ≤ E := by omega
    have HcE : Hid (now + c ≤ E) := hcE
    clear hcE hT
    by_cases h1 : c < n
    · have hd1 : decide ((c : Int) < (n : Int)) = true := by simp [h1]
      by_cases h2 : nc = E
      · have hd2 : ((nc : Int) == (E : Int)) = true := by simp [h2]
        have HC : Hid (c = n ∨ now + c = E ∨ 65536 ≤ (told ++ tkW c now ts).length) := .inr (.inl (by omega))
        clear hlt hX h2 hnc
        go_wp2
        go_ret
        obtain ⟨x1, x2⟩ := HX.out
        exact ⟨_, c, smk, rfl, x1, hcn, HcE.out, HC.out, x2, by have := HL.out; omega⟩
      · have hd2 : ((nc : Int) == (E : Int)) = false := by rw [beq_eq_false_iff_ne]; omega
        by_cases h3 : 65536 ≤ L
        · have hd3 : decide (65536 ≤ (L : Int)) = true := by simp; omega
          have HC : Hid (c = n ∨ now + c = E ∨ 65536 ≤ (told ++ tkW c now ts).length) := .inr (.inr (by have := HL.out; omega))
          clear hlt hX h2 hnc
          go_wp2
          go_ret
          obtain ⟨x1, x2⟩ := HX.out
          exact ⟨_, c, smk, rfl, x1, hcn, HcE.out, HC.out, x2, by have := HL.out; omega⟩
        · have hd3 : decide (65536 ≤ (L : Int)) = false := by simp; omega
          have hS := hX.step hB (by have := HL.out; omega) (by omega)
          have hL2 : (told ++ tkW (c + 1) now ts).length ≤ 66560 := by
            have h9 : (outs (now + c + 1) (tkT c now ts)).length ≤ 1024 := Nat.le_trans (List.length_filter_le _ _) hX.good.len
            have h8 := HL.out
            simp only [tkW, List.length_append, List.length_map] at h8 ⊢
            omega
          have HR : Hid (∀ c', c' < c + 1 → (told ++ tkW c' now ts).length < 65536) := fun c' h => by
            by_cases e : c' = c
            · subst e; have := HL.out; omega
            · exact hlt c' (by omega)
          have HQ : Hid ((told ++ tkW (c + 1) now ts).length ≤ 66560 ∧ now + (c + 1) ≤ E ∧ c + 1 ≤ n) := ⟨hL2, by omega, by omega⟩
          have hadd : (nc : Int) + 1 = ((now + c + 1 : Nat) : Int) := by omega
          have hnb2 : now + c + 1 < 1152921504606846976 := by omega
          have hki : (c : Int) + 1 = ((c + 1 : Nat) : Int) := by omega
          have hcb : c + 1 < 1152921504606846976 := by omega
          obtain ⟨nd, hnd⟩ : ∃ x, now + c + 1 = x := ⟨_, rfl⟩
          rw [hnd] at hS hadd hnb2
          obtain ⟨k1, hk1⟩ : ∃ x, c + 1 = x := ⟨_, rfl⟩
          rw [hk1] at hS hki hcb HR HQ
          have HK : Hid (c + 1 = k1) := hk1
          clear hlt hX h2 hL2 hnc hnd hk1
          go_wp2_with fail
          refine hS.mono ?_
          rintro e w5 ⟨tv5, sm5, rfl, hT5⟩
          have HT5 : Hid (Tk g given n bt S B now ts sm w tv told k1 tv5 sm5 w5) := hT5
          clear hS hT5
          go_wp2
          go_roundw
          case rel => exact ⟨k1, sm5, HQ.out.2.2, rfl, HT5.out, HQ.out.2.1, HR.out, HQ.out.1⟩
          case measure =>
            have := HK.out
            simp [intOf]
            omega
    · have hd1 : decide ((c : Int) < (n : Int)) = false := by simp [h1]
      have HC : Hid (c = n ∨ now + c = E ∨ 65536 ≤ (told ++ tkW c now ts).length) := .inl (by omega)
      clear hlt hX hnc
      go_wp2
      go_ret
      obtain ⟨x1, x2⟩ := HX.out
      exact ⟨_, c, smk, rfl, x1, hcn, HcE.out, HC.out, x2, by have := HL.out; omega⟩
end
end Go.Proofs.Ytjkkclojidhgdaa
