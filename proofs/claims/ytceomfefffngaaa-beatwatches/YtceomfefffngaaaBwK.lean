/- The document's watcher in memory; where a node is. -/
import Derived.Test.YtceomfefffngaaaLawBApa
namespace Go.Proofs.Ytceomfefffngaaa
open Go.RowKit
set_option linter.unusedVariables false
set_option maxRecDepth 1000000
set_option linter.unusedSimpArgs false
def Wt.q (x : Wt) : Wq := ⟨x.nd, x.tk⟩
theorem infoSn : (Try.prog.info? 87).map (fun i => (i.zero, i.size, i.bytes)) = some (some (.agg #[.int .i64 0, .int .i64 0, .int .u64 0]), 3, 24) := by kernel_rfl
theorem infoSn1 : (Try.prog.info? 87).map (·.size) = some 3 := by kernel_rfl
theorem q_take (l : List Wt) (n : Int) (b : List UInt8) : (takeW l n b).map Wt.q = l.map Wt.q := by
  apply List.ext_getElem?
  intro R
  by_cases hR : R < l.length
  · rw [List.getElem?_map, takeW_get l n b R hR, List.getElem?_map, List.getElem?_eq_getElem hR]
    have : (tk1 l[R] b).q = l[R].q := by
      unfold tk1
      split
      · split
        · unfold Wt.q; rw [Wt.beat_nd, Wt.beat_tk]
        · rfl
      · rfl
    simp only [Option.map_some]
    split
    · rw [this]
    · rfl
  · rw [List.getElem?_eq_none (by rw [List.length_map, takeW_len]; omega), List.getElem?_eq_none (by simpa using hR)]
theorem q_tick (l : List Wt) : (tickW l).map Wt.q = l.map Wt.q := by
  unfold tickW
  rw [List.map_map]
  exact List.map_congr_left (fun x _ => by unfold Function.comp Wt.q; rw [Wt.tick_nd, Wt.tick_tk])
structure Ld (w : World) (p g : Nat) (lv sv : Value) (L : List Wq) (l : List Wt) (x : World) : Prop where
  blk : Bc 45 g #[lv, sv] x
  row : x.ownsRow 0 87 3 sv l.length (flatW DS l)
  ok : OkW l
  eq : l.map Wt.q = L
  hs : ∀ k, sv.ownBlock = some k → p ≤ k
  hg : p ≤ g
  bl : Below p w x
  sz : p ≤ x.heap.size
  lst : ∀ y, Below p w y → Wide 2 Wq.qs y lv L
section
variable {w x y : World} {p g : Nat} {lv sv : Value} {L : List Wq} {l : List Wt}
theorem Ld.kq {P : Nat → Prop} (h : Ld w p g lv sv L l x) (t : Kq P x y) (h0 : ∀ k, P k → p ≤ k) (h1 : ¬ P g) (h2 : ∀ k, sv.ownBlock = some k → ¬ P k) : Ld w p g lv sv L l y :=
  ⟨h.blk.kq t h1, own_kq h.row t h2, h.ok, h.eq, h.hs, h.hg, t.below h.bl h.sz h0, Nat.le_trans h.sz t.size, h.lst⟩
theorem Ld.below (h : Ld w p g lv sv L l x) (t : Below x.heap.size x y) : Ld w p g lv sv L l y := h.kq (P := fun _ => False) (.of_below t) (fun _ h => h.elim) (fun h => h) (fun _ _ h => h)
theorem Ld.drawn (h : Ld w p g lv sv L l x) (n : Nat) : Ld w p g lv sv L l (x.drewN n) := h.kq (P := fun _ => False) ((Kq.refl _ _).drawn n) (fun _ h => h.elim) (fun h => h) (fun _ _ h => h)
theorem Ld.grown (h : Ld w p g lv sv L l x) {r : Option Nat} (t : x.grownBy y r) (h0 : ∀ k, r = some k → p ≤ k) (h1 : r ≠ some g) (h2 : ∀ k, sv.ownBlock = some k → r ≠ some k) : Ld w p g lv sv L l y :=
  h.kq (P := fun k => r = some k) ⟨t.os, t.tape, t.output, t.size, fun k hk hn => t.block k hk (fun e => hn e.symm)⟩ h0 h1 h2
theorem Ld.len (h : Ld w p g lv sv L l x) : L.length = l.length := by rw [← h.eq, List.length_map]
theorem Ld.cell (h : Ld w p g lv sv L l x) : x.cell? ⟨g, 0, none⟩ = some lv ∧ x.cell? ⟨g, 1, none⟩ = some sv := ⟨h.blk.cell 0, h.blk.cell 1⟩
theorem Ld.ne (h : Ld w p g lv sv L l x) : ∀ k, sv.ownBlock = some k → k ≠ g := fun k hk e => by
  obtain ⟨_, cur, hc⟩ := own_of h.row hk
  have := h.blk
  unfold Bc at this
  rw [← e, hc] at this
  simp at this
/-- A node's number and ticks. -/
theorem Ld.at (h : Ld w p g lv sv L l x) {k : Nat} (hk : k < l.length) : ∃ b off cap, lv = .slice (some ⟨b, off, none⟩) l.length cap ∧ x.cell? ⟨b, off + k * 2, none⟩ = some (.int .i64 l[k].nd) ∧ x.cell? ⟨b, off + k * 2 + 1, none⟩ = some (.int .u64 l[k].tk) := by
  have hkL : k < L.length := by rw [h.len]; exact hk
  obtain ⟨b, off, cap, h1, _, h3⟩ := (h.lst x h.bl).at0 k hkL
  have e : L[k] = l[k].q := by
    have := h.eq
    subst this
    simp
  rw [e] at h3
  exact ⟨b, off, cap, by rw [h1, h.len], h3 0 _ rfl, h3 1 _ rfl⟩
theorem find_any (h : Ld w p g lv sv L l x) (nd : Int) : Calls Try.prog 31 #[.pointer (some ⟨g, 0, none⟩), .int .i64 nd] x fun e y => e = .returned (.int .i64 (ixw l nd)) ∧ y = x := by
  obtain ⟨ao, cap, hlv⟩ := (h.lst x h.bl).shape
  obtain ⟨c0, c1⟩ := h.cell
  rw [hlv, h.len] at c0
  have HC : Hid (∀ k (hk : k < l.length), ∃ b off, ao = some ⟨b, off, none⟩ ∧ x.cell? ⟨b, off + k * 2, none⟩ = some (.int .i64 l[k].nd)) := fun k hk => by
    obtain ⟨b, off, cap', h1, h2, _⟩ := h.at hk
    rw [hlv] at h1
    injection h1 with h1 _ _
    exact ⟨b, off, h1, h2⟩
  have hll := h.ok.len
  clear c1 h hlv
  go_enter Try.func31, Try.ntmps31
  go_wp2_with fail
  go_loopw [5] (fun s5 y => ∃ k, k ≤ l.length ∧ s5 = .int .i64 (k : Nat) ∧ y = x ∧ ∀ j (hj : j < l.length), j < k → l[j].nd ≠ nd) (fun s5 _ => l.length - (intOf s5).toNat)
  case atStart => exact ⟨0, by omega, rfl, rfl, fun j _ h => absurd h (by omega)⟩
  case round =>
    obtain ⟨k, hk, rfl, rfl, hn⟩ := hrel
    have HN := hidOf2 hn
    clear hn
    by_cases hkl : k < l.length
    · have hd : decide ((k : Int) < (l.length : Int)) = true := by simp; omega
      obtain ⟨b, off, rfl, hcz⟩ := HC.out k hkl
      have HK := hidOf2 (show ∀ z : Wt, l[k] = z → (z.nd = nd → ixw l nd = k) ∧ (z.nd ≠ nd → ∀ j (hj : j < l.length), j < k + 1 → l[j].nd ≠ nd) from fun z hz => ⟨fun h => fw_hit l nd k hkl (by rw [hz]; exact h) (fun j hj => HN.out j (by omega) hj), fun h j hj hjk => by
        rcases Nat.lt_succ_iff_lt_or_eq.1 hjk with h1 | rfl
        · exact HN.out j hj h1
        · rw [hz]; exact h⟩)
      obtain ⟨z, hz⟩ : ∃ z, l[k] = z := ⟨_, rfl⟩
      have HK2 := hidOf2 (HK.out z hz)
      rw [hz] at hcz
      clear HK hz HN HC
      by_cases hq : z.nd = nd
      · have HE := hidOf2 (HK2.out.1 hq)
        have d : (z.nd == nd) = true := by simp [hq]
        clear HK2 hq
        go_wp2_with fail
        go_ret
        exact ⟨ret_int (by rw [HE.out]), rfl⟩
      · have HE := hidOf2 (HK2.out.2 hq)
        have d : (z.nd == nd) = false := by simp [hq]
        clear HK2 hq
        go_wp2_with fail
        go_roundw
        case measure => simp [intOf]; omega
        case rel => exact ⟨k + 1, by omega, rfl, by first | trivial | rfl, HE.out⟩
    · obtain rfl : k = l.length := by omega
      have hd : decide ((l.length : Int) < (l.length : Int)) = false := by simp
      have HE := hidOf2 (fw_miss l nd (fun j hj => HN.out j hj hj))
      clear HN
      go_wp2
      go_ret
      exact ⟨ret_int (by rw [HE.out]), rfl⟩
end
end Go.Proofs.Ytceomfefffngaaa
