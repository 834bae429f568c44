/- IndexFunc, find, Register, longest. -/
import Derived.Test.YtlkocebgkmdeoaaEmB
namespace Go.Proofs.Ytlkocebgkmdeoaa
open Go.RowKit
set_option linter.unusedVariables false
set_option maxRecDepth 1000000
set_option linter.unusedSimpArgs false
theorem enterI : ∀ args x, (callFunc 35 args).run Try.prog x = .ok (.enter 35 args) x := fun _ _ => by rfl
theorem idx_any (v : Value) (l : List Tr) (q c : Nat) (w : World) (hB : Wide 7 Tr.cs w v l) (hl : l.length ≤ 2305843009213693951) (hq : w.cell? ⟨q, 0, none⟩ = some (.int .u16 c)) (hlt : q < w.heap.size) :
    Calls Try.prog 34 #[v, .func (.func 35) #[] #[.pointer (some ⟨q, 0, none⟩)]] w fun e w' => e = .returned (.int .i64 (ix l c)) ∧ Below w.heap.size w w' := by
  obtain ⟨ao, cap, rfl, _, hc⟩ := hB
  obtain ⟨p, hp⟩ : ∃ p, w.heap.size = p := ⟨_, rfl⟩
  have HC : Hid (∀ (wr : World), Below w.heap.size w wr → ∀ k (hk : k < l.length), ∃ b off, ao = some ⟨b, off, none⟩ ∧ b < w.heap.size ∧ wr.rangeAt b (off + k * 7) (Tr.cs l[k])) := fun wr hb k hk => Wide.at hc hb k hk
  have HF : Hid (∀ (x : Tr) (y : World), Below p w y → Calls Try.prog 35 #[.agg x.arr, .pointer (some ⟨q, 0, none⟩)] y fun e w' => e = .returned (.bool (decide (x.c = c))) ∧ Below y.heap.size y w') := fun x y hy => find1_any x q c y ((by rw [← hp] at hy; exact (hy.cell (p := ⟨q, 0, none⟩) hlt).trans hq)) (by have := hy.size; omega)
  clear hc hq hlt
  have hen := enterI
  rw [hp] at HC ⊢
  have HI : Hid (Below p w w) := Below.refl _ _
  go_enter Try.func34, Try.ntmps34
  go_wp2_with fail
  go_loopw [5, 8] (fun _ s8 x => ∃ k, k ≤ l.length ∧ s8 = .int .i64 (k : Nat) ∧ Below p w x ∧ ∀ j (hj : j < l.length), j < k → l[j].c ≠ c) (fun _ s8 _ => l.length - (intOf s8).toNat)
  case atStart => exact ⟨0, by omega, rfl, HI.out, fun j _ h => absurd h (by omega)⟩
  case round =>
    clear HI
    obtain ⟨k, hk, rfl, hb, hn⟩ := hrel
    have HN := hidOf2 hn
    have HBw := hidOf2 hb
    clear hn
    by_cases hkl : k < l.length
    · have hd : decide ((k : Int) < (l.length : Int)) = true := by simp; omega
      obtain ⟨b, off, rfl, hbl, hR⟩ := HC.out wr hb k hkl
      have hf := HF.out l[k] wr hb
      have HK := hidOf2 (show ∀ z : Tr, l[k] = z → (∀ j (hj : j < l.length), j < k → l[j].c ≠ c) ∧ (z.c = c → ix l c = k) ∧ (z.c ≠ c → ∀ j (hj : j < l.length), j < k + 1 → l[j].c ≠ c) from fun z hz => ⟨HN.out, fun h => fi_hit l c k hkl (by rw [hz]; exact h) (fun j hj => HN.out j (by omega) hj), fun h j hj hjk => by
        rcases Nat.lt_succ_iff_lt_or_eq.1 hjk with h1 | rfl
        · exact HN.out j hj h1
        · rw [hz]; exact h⟩)
      obtain ⟨z, hz⟩ : ∃ z, l[k] = z := ⟨_, rfl⟩
      have HK2 := hidOf2 (HK.out z hz)
      rw [hz] at hf hR
      clear HK hz HN HC HF hb
      by_cases hcz : z.c = c
      · rw [decide_eq_true hcz] at hf
        have HE := hidOf2 (HK2.out.2.1 hcz)
        clear HK2 hcz
        go_wp2_with (first | (refine Tr.ld hR rfl _ rfl rfl ?_) | (go_at_call 35; refine hf.mono ?_; rintro e w' ⟨rfl, hb2⟩))
        go_ret
        exact ⟨ret_int (by rw [HE.out]), HBw.out.trans (hb2.mono (by have := HBw.out.size; omega))⟩
      · rw [decide_eq_false hcz] at hf
        have HE := hidOf2 (HK2.out.2.2 hcz)
        clear HK2 hcz
        go_wp2_with (first | (refine Tr.ld hR rfl _ rfl rfl ?_) | (go_at_call 35; refine hf.mono ?_; rintro e w' ⟨rfl, hb2⟩))
        go_roundw
        case measure => simp [intOf]; omega
        case rel => exact ⟨k + 1, by omega, rfl, HBw.out.trans (hb2.mono (by have := HBw.out.size; omega)), HE.out⟩
    · obtain rfl : k = l.length := by omega
      have hd : decide ((l.length : Int) < (l.length : Int)) = false := by simp
      have HE := hidOf2 (fi_miss l c (fun j hj => HN.out j hj hj))
      clear HN
      go_wp2
      go_ret
      exact ⟨ret_int (by rw [HE.out]), HBw.out⟩
end Go.Proofs.Ytlkocebgkmdeoaa
