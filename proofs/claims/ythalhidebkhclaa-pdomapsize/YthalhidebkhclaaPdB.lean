/- Contracts: ends and what it hands back. -/
import Derived.Test.YthalhidebkhclaaPdA
import Derived.RangeFuncNested
import Derived.RangeFuncBound
import Derived.RangeFuncCalls
import Derived.RangeFuncLeaves
import Derived.RangeFuncBox
import Derived.Shelf.Abstract
import Derived.OwnWalkIn
import Derived.TacticsInMore
import Derived.LoopNIn
import Derived.LoopIn
import Derived.Sort.QuietIn
namespace Go.Proofs.Ythalhidebkhclaa
open Go.RowKit Go.Shelf Go.Proofs.Ty
set_option linter.unusedVariables false
set_option maxRecDepth 1000000
set_option linter.unusedSimpArgs false
attribute [local go_sem] Oper.semAt_some
def Sl.nul : Sl := ⟨0, 0, 0, by decide, by decide, by decide⟩
/-- The bits of the first k slots. -/
def en (L : List Sl) : Nat → Int
  | 0 => 0
  | k + 1 => wrap64 (en L k + (L.getD k Sl.nul).bt)
/-- What is handed on of slot k. -/
def enV (L : List Sl) (k : Nat) : Array Value := #[.agg (L.getD k Sl.nul).arr, .int .i64 (en L (k + 1))]
/-- These blocks stay. -/
def Kb (bs : List Nat) (A B : World) : Prop := ∀ b ∈ bs, B.heap[b]? = A.heap[b]?
theorem Kb.refl (bs : List Nat) (A : World) : Kb bs A A := fun _ _ => rfl
theorem Kb.trans {bs : List Nat} {A B C : World} (h : Kb bs A B) (k : Kb bs B C) : Kb bs A C := fun b hb => (k b hb).trans (h b hb)
def bks (Bs : Nat) (v : Value) (n : Nat) : List Nat := Bs :: (if 0 < n then v.ownBlock.toList else [])
theorem en_bd (L : List Sl) (k : Nat) : -9223372036854775808 ≤ en L k ∧ en L k < 9223372036854775808 := by
  cases k with
  | zero => simp [en]
  | succ k =>
    unfold en
    generalize en L k + (L.getD k Sl.nul).bt = z
    simp only [wrap64]
    omega
set_option maxRecDepth 100000 in
set_option maxHeartbeats 4000000 in
theorem ends1_in (F : Fence) (n : Nat) (hF : F.fn 45) (hro : F.round = none) (hn : 1 ≤ n) (l Bs : Nat) (v : Value) (L : List Sl) (hL : L.length ≤ 8796093022000) (J Jx : List Nat → World → Prop)
    (hJa : ∀ s A B, J s A → A.grownBy B none → J s B)
    (hY : ∀ pre x W, J pre W → pre.length < L.length → x = pre.length → YieldAt F (n - 1) Try.prog l (enV L x) W fun e W' =>
      (e = .returned (.bool true) ∧ J (pre ++ [x]) W' ∧ Kb (bks Bs v L.length) W W') ∨ (e = .returned (.bool false) ∧ Jx (pre ++ [x]) W'))
    (W : World) (hBs : W.heap[Bs]? = some (.cells #[v] 23 (0, 0))) (hWd : Wide 3 slC W v L) (h0 : J [] W) :
    CallsIn F n Try.prog 45 #[.func (.yield l) #[] #[], .pointer (some ⟨Bs, 0, none⟩)] W fun e W' => (∃ v, e = .returned v) ∧
      ((∃ ys, ys = List.range L.length ∧ J ys W') ∨ (∃ pre, (∃ k, k ≤ L.length ∧ pre = List.range k) ∧ Jx pre W')) := by
  obtain ⟨ao, cap, hv⟩ := hWd.shape
  obtain ⟨N, hN⟩ : ∃ N, L.length = N := ⟨_, rfl⟩
  have HN := hidOf hN
  rw [hN] at hv hL
  subst hv
  have cW : W.cell? ⟨Bs, 0, none⟩ = some (.slice ao N cap) := Lib.cell_of_heap hBs 0
  have HST : Hid (∀ y, Kb (bks Bs (.slice ao N cap) L.length) W y → ∀ k, k < N → ∃ b off, ao = some ⟨b, off, none⟩ ∧ y.cell? ⟨b, off + k * 3, none⟩ = some (.int .u16 ((L.getD k Sl.nul).ix : Int)) ∧ y.cell? ⟨b, off + k * 3 + 1, none⟩ = some (.int .u8 ((L.getD k Sl.nul).sb : Int)) ∧ y.cell? ⟨b, off + k * 3 + 2, none⟩ = some (.int .i64 (L.getD k Sl.nul).bt)) := fun y hy k hk => by
    have hkl : k < L.length := by rw [HN.out]; exact hk
    obtain ⟨ao', cap', he, _, hc⟩ := hWd
    injection he with he
    obtain ⟨b, off, ha, hlt, hr⟩ := hc k hkl
    have e : L.getD k Sl.nul = L[k] := by rw [List.getD_eq_getElem?_getD, List.getElem?_eq_getElem hkl]; rfl
    have hb : y.heap[b]? = W.heap[b]? := hy b (by rw [he, ha]; unfold bks; rw [if_pos (by omega)]; simp [Value.ownBlock])
    rw [e]
    exact ⟨b, off, he.trans ha, (World.cell?_of_block (a := ⟨b, off + k * 3 + 0, none⟩) hb).trans (hr 0 _ rfl), (World.cell?_of_block (a := ⟨b, off + k * 3 + 1, none⟩) hb).trans (hr 1 _ rfl), (World.cell?_of_block (a := ⟨b, off + k * 3 + 2, none⟩) hb).trans (hr 2 _ rfl)⟩
  clear hN hWd
  refine callsIn_of_wp Try.func45 rfl hF ?_ hro
  simp only [Try.ntmps45, List.size_toArray, List.length_cons, List.length_nil, Nat.reduceAdd, Nat.reduceSub, Array.replicate_succ, Array.replicate_zero, List.push_toArray, List.append_toArray, List.nil_append, List.cons_append]
  gi_wp2
  gi_loopw [3, 8] (fun ev i wr => ∃ k : Nat, k ≤ N ∧ i = .int .i64 k ∧ ev = .int .i64 (en L k) ∧ Hid (J (List.range k) wr) ∧ Hid (Kb (bks Bs (.slice ao N cap) L.length) W wr))
    (fun _ i _ => N - (intOf i).toNat)
  case atStart => exact ⟨0, Nat.zero_le _, rfl, rfl, h0, Kb.refl _ _⟩
  case round =>
    obtain ⟨k, hk, rfl, rfl, HJs, HKs⟩ := hrel
    by_cases hlt : k < N
    · have hd : decide ((k : Int) < (N : Int)) = true := by simp; omega
      obtain ⟨b, off, hao, x0, x1, x2⟩ := HST.out wr HKs.out k hlt
      subst hao
      obtain ⟨s, hs⟩ : ∃ s, L.getD k Sl.nul = s := ⟨_, rfl⟩
      have HS := hidOf hs
      rw [hs] at x0 x1 x2
      have hbd := en_bd L k
      have hsb := s.hb
      have hsx := s.hx
      have hss := s.hs
      have HEN : Hid (en L (k + 1) = wrap64 (en L k + s.bt)) := by show _ = _; rw [← hs]; rfl
      have hyd := fun y hy => hY (List.range k) k y (hJa _ _ y HJs.out hy) (by rw [List.length_range, HN.out]; exact hlt) (by rw [List.length_range])
      have HYD := hidOf hyd
      clear hs hyd hY
      generalize en L k = e0 at *
      have hg : wr.grownBy (wr.alloc (.cells #[.int .u16 (s.ix : Int), .int .u8 (s.sb : Int), .int .i64 s.bt] 47)) none := World.grownBy_alloc _ _ none
      have hyd := HYD.out _ hg
      have e9 : enV L k = #[.agg #[.int .u16 (s.ix : Int), .int .u8 (s.sb : Int), .int .i64 s.bt], .int .i64 (wrap64 (e0 + s.bt))] := by unfold enV; rw [HS.out, HEN.out]; rfl
      rw [e9] at hyd
      obtain ⟨fn, tmps, assign, body, hy, hR⟩ := hyd
      have HKA : Hid (∀ W3, Kb (bks Bs (.slice (some ⟨b, off, none⟩) N cap) L.length) (wr.alloc (.cells #[.int .u16 (s.ix : Int), .int .u8 (s.sb : Int), .int .i64 s.bt] 47)) W3 → Kb (bks Bs (.slice (some ⟨b, off, none⟩) N cap) L.length) W W3) := fun W3 h3 => by
        refine HKs.out.trans (Kb.trans (fun b' hb' => hg.block b' ?_ (by simp)) h3)
        have h4 := HKs.out b' hb'
        unfold bks at hb'
        rw [if_pos (by rw [HN.out]; omega)] at hb'
        simp [Value.ownBlock] at hb'
        rcases hb' with rfl | rfl
        · rw [hBs] at h4
          exact (Array.getElem?_eq_some_iff.1 h4).1
        · by_cases hbl : b' < wr.heap.size
          · exact hbl
          · exfalso
            have : wr.cell? ⟨b', off + k * 3, none⟩ = none := by
              unfold World.cell?
              rw [Array.getElem?_eq_none (Nat.le_of_not_lt hbl)]
            rw [this] at x0
            cases x0
      clear HYD hg e9
      gi_wp2
      refine hR.mono ?_
      rintro e W3 (⟨rfl, hJ3, hk3⟩ | ⟨rfl, hJx3⟩)
      · have HK3 := hidOf (HKA.out W3 hk3)
        have HJ3 := hidOf hJ3
        clear hk3 HKA hR hy hJ3
        gi_wp2
        go_roundw
        case rel => exact ⟨k + 1, by omega, by go_num, by rw [HEN.out], by rw [List.range_succ]; exact HJ3, HK3⟩
        case measure => simp [intOf]; omega
      · clear HKA hR hy
        gi_wp2
        refine bodyPost_ret (results_none rfl _ _ _) rfl ?_
        exact ⟨⟨_, rfl⟩, .inr ⟨_, ⟨k + 1, by rw [HN.out]; omega, List.range_succ.symm⟩, hJx3⟩⟩
    · have hd : decide ((k : Int) < (N : Int)) = false := by simp; omega
      obtain rfl : k = N := by omega
      gi_wp2
      go_end0
      exact ⟨⟨_, rfl⟩, .inl ⟨_, by rw [HN.out], HJs.out⟩⟩
end Go.Proofs.Ythalhidebkhclaa
