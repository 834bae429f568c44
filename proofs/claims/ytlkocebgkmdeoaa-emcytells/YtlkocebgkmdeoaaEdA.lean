/- The document's teller in memory; find, Register. -/
import Derived.Test.YtlkocebgkmdeoaaEmQ
namespace Go.Proofs.Ytlkocebgkmdeoaa
open Go.RowKit
set_option linter.unusedVariables false
set_option maxRecDepth 1000000
set_option linter.unusedSimpArgs false
/-- The document's teller in block d; its blocks are D's. -/
structure Dtv (d : Nat) (D : Nat → Prop) (s : Te) (vn vo vf : Value) (w : World) : Prop where
  blk : Bc 33 d #[.int .i64 s.hist, .int .u64 s.inh, .int .u64 s.quiet, vn, vo, vf] w
  rn : Wide 7 Tr.cs w vn s.now
  ro : Wide 7 Tr.cs w vo s.past
  rf : Wide 8 Tr.fs w vf s.waits
  pd : D d
  bn : ∀ k, vn.ownBlock = some k → D k ∧ k ≠ d
  bo : ∀ k, vo.ownBlock = some k → D k ∧ k ≠ d
  bf : ∀ k, vf.ownBlock = some k → D k ∧ k ≠ d
  cn : ∀ ao n c, vn = .slice ao n c → n ≤ c
  co : ∀ ao n c, vo = .slice ao n c → n ≤ c
  cf : ∀ ao n c, vf = .slice ao n c → n ≤ c
  ln : ∀ k, vn.ownBlock = some k → k < w.heap.size
  lo : ∀ k, vo.ownBlock = some k → k < w.heap.size
  lf : ∀ k, vf.ownBlock = some k → k < w.heap.size
def Dt (d : Nat) (D : Nat → Prop) (s : Te) (w : World) : Prop := ∃ vn vo vf, Dtv d D s vn vo vf w
theorem Wide.kq {α : Type} {c : Nat} {dec : α → List Value} {Q : Nat → Prop} {w x : World} {v : Value} {l : List α} (h : Wide c dec w v l) (t : Kq Q w x) (hb : ∀ k, v.ownBlock = some k → ¬ Q k) : Wide c dec x v l :=
  h.same t.size (fun b e hlt => t.block b hlt (hb b e))
section
variable {d : Nat} {D Q : Nat → Prop} {s : Te} {vn vo vf : Value} {w x : World}
theorem Dtv.cells (h : Dtv d D s vn vo vf w) : w.cell? ⟨d, 0, none⟩ = some (.int .i64 s.hist) ∧ w.cell? ⟨d, 1, none⟩ = some (.int .u64 s.inh) ∧ w.cell? ⟨d, 2, none⟩ = some (.int .u64 s.quiet) ∧ w.cell? ⟨d, 3, none⟩ = some vn ∧ w.cell? ⟨d, 4, none⟩ = some vo ∧ w.cell? ⟨d, 5, none⟩ = some vf ∧ ∀ k, w.frozen? ⟨d, k, none⟩ = false :=
  ⟨h.blk.cell 0, h.blk.cell 1, h.blk.cell 2, h.blk.cell 3, h.blk.cell 4, h.blk.cell 5, fun k => h.blk.frozen k⟩
theorem Dtv.kq (h : Dtv d D s vn vo vf w) (t : Kq Q w x) (hd : ∀ k, D k → ¬ Q k) : Dtv d D s vn vo vf x :=
  ⟨h.blk.kq t (hd d h.pd), h.rn.kq t (fun k e => hd k (h.bn k e).1), h.ro.kq t (fun k e => hd k (h.bo k e).1), h.rf.kq t (fun k e => hd k (h.bf k e).1), h.pd, h.bn, h.bo, h.bf, h.cn, h.co, h.cf, fun k e => Nat.lt_of_lt_of_le (h.ln k e) t.size, fun k e => Nat.lt_of_lt_of_le (h.lo k e) t.size, fun k e => Nat.lt_of_lt_of_le (h.lf k e) t.size⟩
theorem Dtv.below (h : Dtv d D s vn vo vf w) (t : Below w.heap.size w x) : Dtv d D s vn vo vf x := h.kq (Q := fun _ => False) (.of_below t) (fun _ _ h => h)
theorem Dtv.wide (h : Dtv d D s vn vo vf w) (hR : ∀ k, D k → Q k) : Dtv d Q s vn vo vf w :=
  ⟨h.blk, h.rn, h.ro, h.rf, hR d h.pd, fun k e => ⟨hR k (h.bn k e).1, (h.bn k e).2⟩, fun k e => ⟨hR k (h.bo k e).1, (h.bo k e).2⟩, fun k e => ⟨hR k (h.bf k e).1, (h.bf k e).2⟩, h.cn, h.co, h.cf, h.ln, h.lo, h.lf⟩
/-- What is above the memory's end is none of its blocks. -/
theorem Dtv.cutD (h : Dtv d D s vn vo vf w) : Dtv d (fun k => D k ∧ k < w.heap.size) s vn vo vf w :=
  ⟨h.blk, h.rn, h.ro, h.rf, ⟨h.pd, h.blk.lt⟩, fun k e => ⟨⟨(h.bn k e).1, h.ln k e⟩, (h.bn k e).2⟩, fun k e => ⟨⟨(h.bo k e).1, h.lo k e⟩, (h.bo k e).2⟩, fun k e => ⟨⟨(h.bf k e).1, h.lf k e⟩, (h.bf k e).2⟩, h.cn, h.co, h.cf, h.ln, h.lo, h.lf⟩
theorem dfind_any (h : Dtv d D s vn vo vf w) (hl : s.now.length ≤ 2305843009213693951) (c : Nat) : Calls Try.prog 27 #[.pointer (some ⟨d, 0, none⟩), .int .u16 c] w fun e w' => e = .returned (.int .i64 (ix s.now c)) ∧ w' = w := by
  obtain ⟨_, _, _, c3, _⟩ := h.cells
  obtain ⟨ao, cap, hv, h0, hc⟩ := h.rn
  subst hv
  have HC := hidOf2 hc
  clear h h0 hc
  generalize s.now = l at *
  go_enter Try.func27, Try.ntmps27
  go_wp2_with fail
  go_loopw [5] (fun s5 x => ∃ k, k ≤ l.length ∧ s5 = .int .i64 (k : Nat) ∧ x = w ∧ Hid (∀ j (hj : j < l.length), j < k → l[j].c ≠ c)) (fun s5 _ => l.length - (intOf s5).toNat)
  case atStart => exact ⟨0, by omega, rfl, rfl, fun j _ h => absurd h (by omega)⟩
  case round =>
    obtain ⟨k, hk, rfl, rfl, HN⟩ := hrel
    by_cases hkl : k < l.length
    · have hd : decide ((k : Int) < (l.length : Int)) = true := by simp; omega
      obtain ⟨b, off, rfl, hbl, hR⟩ := HC.out k hkl
      have r0 := hR 0 (.int .u16 l[k].c) rfl
      rw [Nat.add_zero] at r0
      have HK : Hid (∀ z, l[k].c = z → (z = c → ix l c = k) ∧ (z ≠ c → Hid (∀ j (hj : j < l.length), j < k + 1 → l[j].c ≠ c))) := fun z hz => ⟨fun h => fi_hit l c k hkl (by rw [hz]; exact h) (fun j hj => HN.out j (by omega) hj), fun h j hj hjk => by
        rcases Nat.lt_succ_iff_lt_or_eq.1 hjk with h1 | rfl
        · exact HN.out j hj h1
        · rw [hz]; exact h⟩
      obtain ⟨z, hz⟩ : ∃ z, l[k].c = z := ⟨_, rfl⟩
      have HK2 := HK.out z hz
      rw [hz] at r0
      clear HK hz HN HC hR
      by_cases hcz : z = c
      · have HE := hidOf2 (HK2.1 hcz)
        have d1 : ((z : Int) == (c : Int)) = true := by rw [beq_iff_eq]; omega
        clear HK2 hcz
        go_wp2
        go_ret
        exact ⟨ret_int (by rw [HE.out]), rfl⟩
      · have HE := HK2.2 hcz
        have d1 : ((z : Int) == (c : Int)) = false := by rw [beq_eq_false_iff_ne]; omega
        clear HK2 hcz
        go_wp2
        go_roundw
        case measure => simp [intOf]; omega
        case rel => exact ⟨k + 1, by omega, rfl, by first | rfl | trivial, HE⟩
    · obtain rfl : k = l.length := by omega
      have hd : decide ((l.length : Int) < (l.length : Int)) = false := by simp
      have HE := hidOf2 (fi_miss l c (fun j hj => HN.out j hj hj))
      clear HN
      go_wp2
      go_ret
      exact ⟨ret_int (by rw [HE.out]), rfl⟩
theorem dreg_any (h : Dtv d D s vn vo vf w) (hl : s.now.length ≤ 2305843009213693951) : Calls Try.prog 19 #[.pointer (some ⟨d, 0, none⟩)] w fun e w' => e = .returned (.int .u8 (reg s.now)) ∧ w' = w := by
  obtain ⟨_, _, _, c3, _⟩ := h.cells
  obtain ⟨ao, cap, hv, h0, hc⟩ := h.rn
  subst hv
  have HC := hidOf2 hc
  clear h h0 hc
  generalize s.now = l at *
  go_enter Try.func19, Try.ntmps19
  go_wp2_with fail
  go_loopw [3, 4] (fun a s4 x => ∃ k, k ≤ l.length ∧ s4 = .int .i64 (k : Nat) ∧ x = w ∧ ∃ z : Nat, a = .int .u8 (z : Nat) ∧ z < 256 ∧ Hid (reg l = regL (l.drop k) z)) (fun _ s4 _ => l.length - (intOf s4).toNat)
  case atStart => exact ⟨0, by omega, rfl, rfl, 0, rfl, by decide, by show reg l = _; simp [reg]⟩
  case round =>
    obtain ⟨k, hk, rfl, rfl, z, rfl, hz, HZ⟩ := hrel
    by_cases hkl : k < l.length
    · have hd : decide ((k : Int) < (l.length : Int)) = true := by simp; omega
      obtain ⟨b, off, rfl, hbl, hR⟩ := HC.out k hkl
      have r1 := hR 1 (.int .u8 l[k].r) rfl
      have HE := hidOf2 (show reg l = regL (l.drop (k + 1)) (orN z l[k].r) by rw [HZ.out, List.drop_eq_getElem_cons hkl]; rfl)
      have hor := bits_regd z l[k].r hz l[k].hr
      have HL := hidOf2 (orN_lt z l[k].r)
      clear HZ HC hR
      generalize l[k].r = r at *
      go_wp2
      go_roundw
      case measure => simp [intOf]; omega
      case rel => exact ⟨k + 1, by omega, rfl, by first | rfl | trivial, orN z r, by first | rfl | rw [hor], HL.out, HE⟩
    · obtain rfl : k = l.length := by omega
      have hd : decide ((l.length : Int) < (l.length : Int)) = false := by simp
      have HE := hidOf2 (show reg l = z by rw [HZ.out]; simp [regL])
      clear HZ HC
      go_wp2
      go_ret
      exact ⟨ret_int (by rw [HE.out]), rfl⟩
end
end Go.Proofs.Ytlkocebgkmdeoaa
