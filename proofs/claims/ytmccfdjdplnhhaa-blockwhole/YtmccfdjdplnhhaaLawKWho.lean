/- BlockWhole: whatever frames of blocks are lost, what came at the end is what was sent. -/
import Derived.Test.YtmccfdjdplnhhaaBkG2
import Derived.Test.YtmccfdjdplnhhaaBkOq
namespace Go.Proofs.Ytmccfdjdplnhhaa
open Go.RowKit Go.Proofs.Ty Go.Proofs.Bits
set_option linter.unusedVariables false
set_option maxRecDepth 1000000
set_option linter.unusedSimpArgs false
theorem k429 {L : List UInt8} {k : Nat} (h : L.length = 3000) (hk : k ≤ segs L.length) : k ≤ 429 := by
  have := segs_le L.length
  rw [h] at this hk
  omega
set_option maxHeartbeats 8000000 in
theorem kwho_walk (v : Value) (l : List UInt8) (w : World) (hB : Bytes w v l) (hcap : ∀ ao n cap, v = .slice ao n cap → n ≤ cap) (hl : l.length ≤ 140737488351232) (sz : Nat) (hs : sz < 256) (vo : Value) (lo : List Bool) (hlo : Wide 1 boC w vo lo) (hll : lo.length ≤ 140737488351232) :
    Calls Try.prog 5 #[v, .int .u8 (sz : Int), vo] w fun e w' => e = .returned (.bool true) ∧ Below w.heap.size w w' := by
  have HLV := hidOf2 lives12_any
  have hsz := size_alloc w (.cells #[] 5)
  have HLO : Hid (∀ y, Below w.heap.size w y → Wide 1 boC y vo lo) := fun y hy => hlo.same hy.size (fun b _ hb => hy.block b hb)
  obtain ⟨al, cl, hvo⟩ := hlo.shape
  obtain ⟨nl, hnl⟩ : ∃ n, lo.length = n := ⟨_, rfl⟩
  have HNL := hidOf2 hnl
  rw [hnl] at hvo hll
  subst hvo
  clear hlo hnl
  obtain ⟨size, hsize⟩ : ∃ k, 1 + sz % 127 = k := ⟨_, rfl⟩
  have hs1 : 1 ≤ size := by omega
  have hs2 : size ≤ 127 := by omega
  have hsI : (1 : Int) + (sz : Int) % 127 = (size : Int) := by omega
  clear hsize
  obtain ⟨ao, cap, hv⟩ : ∃ ao cap, v = .slice ao l.length cap := by obtain ⟨ao, cap, h, _⟩ := hB; exact ⟨ao, cap, h⟩
  obtain ⟨n, hn⟩ : ∃ n, l.length = n := ⟨_, rfl⟩
  rw [hn] at hv hl
  subst hv
  have hcp := hcap _ _ _ rfl
  clear hcap
  by_cases h3 : 3000 < n
  · have d1 : decide ((3000 : Int) < (n : Int)) = true := by simp; omega
    have hc3 : 3000 ≤ cap := by omega
    have hB' := bytes_take hB 3000 (by omega)
    obtain ⟨L, hL⟩ : ∃ L, l.take 3000 = L := ⟨_, rfl⟩
    rw [hL] at hB'
    have HLn : Hid (L.length = 3000) := by show _ = _; rw [← hL, List.length_take, hn]; omega
    have hnb3 : (3000 : Nat) ≤ 3000 := Nat.le_refl _
    clear hB hL hn
    have HO := hidOf2 (own_empty w)
    have b0 : Below w.heap.size w (w.alloc (.cells #[] 5)) := (Below.refl _ _).alloc (Nat.le_refl _) _
    have HL := hidOf2 b0
    have HB2 := hidOf2 (hB'.below b0)
    clear b0 hB'
    go_enter Try.func5, Try.ntmps5
    go_upto_region 4 with (first | (at_builtin; refine append_bytes rfl _ _ rfl w.heap.size _ [] rfl (by exact HO.out) _ L rfl (by exact HB2.out) (by have := HLn.out; simp; omega) (by rw [hsz]; omega) ?_; intro v1 w2 ho hgr; have HL2 := hidOf2 (HL.out.grown hgr (by rw [hsz]; omega) (fun k e => own_lt HO.out k e)); have hG := goes_any v1 L w2 (bytes_of_own ho) (by have := HLn.out; omega) size hs1 hs2 _ lo (HLO.out w2 HL2.out) (by rw [HNL.out]; exact hll); clear ho hgr) | (go_at_call 23; refine hG.mono ?_; rintro e w3 ⟨k, rfl, hk, b3⟩; have hk9 : k ≤ 429 := k429 HLn.out hk; have dk : decide ((k : Int) ≤ 429) = true := (by simp; omega)))
    have hV := HLV.out w3
    have HB3 := hidOf2 (HL2.out.trans (b3.mono HL2.out.size))
    clear b3 hG
    go_wp2_with (first | (go_at_call 10; refine hV.mono ?_; rintro e w4 ⟨rfl, b4⟩))
    go_ret
    exact ⟨rfl, HB3.out.trans (b4.mono HB3.out.size)⟩
  · have d1 : decide ((3000 : Int) < (n : Int)) = false := by simp; omega
    have hB' := hB
    obtain ⟨L, hL⟩ : ∃ L, l = L := ⟨_, rfl⟩
    rw [hL] at hB'
    have HLn : Hid (L.length = n) := by show _ = _; rw [← hL]; exact hn
    clear hB hL hn
    have HO := hidOf2 (own_empty w)
    have b0 : Below w.heap.size w (w.alloc (.cells #[] 5)) := (Below.refl _ _).alloc (Nat.le_refl _) _
    have HL := hidOf2 b0
    have HB2 := hidOf2 (hB'.below b0)
    clear b0 hB'
    go_enter Try.func5, Try.ntmps5
    go_upto_region 4 with (first | (at_builtin; refine append_bytes rfl _ _ rfl w.heap.size _ [] rfl (by exact HO.out) _ L rfl (by exact HB2.out) (by have := HLn.out; simp; omega) (by rw [hsz]; omega) ?_; intro v1 w2 ho hgr; have HL2 := hidOf2 (HL.out.grown hgr (by rw [hsz]; omega) (fun k e => own_lt HO.out k e)); have hG := goes_any v1 L w2 (bytes_of_own ho) (by have := HLn.out; omega) size hs1 hs2 _ lo (HLO.out w2 HL2.out) (by rw [HNL.out]; exact hll); clear ho hgr) | (go_at_call 23; refine hG.mono ?_; rintro e w3 ⟨k, rfl, hk, b3⟩; have dk : decide ((k : Int) ≤ (n : Int) / 7 + 1) = true := by have := segs_le L.length; rw [HLn.out] at this hk; simp; omega))
    have hV := HLV.out w3
    have HB3 := hidOf2 (HL2.out.trans (b3.mono HL2.out.size))
    clear b3 hG
    go_wp2_with (first | (go_at_call 10; refine hV.mono ?_; rintro e w4 ⟨rfl, b4⟩))
    go_ret
    exact ⟨rfl, HB3.out.trans (b4.mono HB3.out.size)⟩
theorem kwho_int (v : Value) (l : List UInt8) (w : World) (hB : Bytes w v l) (hcap : ∀ ao n cap, v = .slice ao n cap → n ≤ cap) (hl : l.length ≤ 140737488351232) (z : Int) (hz : ∃ n : Nat, z = (n : Int) ∧ n < 256) (vo : Value) (lo : List Bool) (hlo : Wide 1 boC w vo lo) (hll : lo.length ≤ 140737488351232) :
    Calls Try.prog 5 #[v, .int .u8 z, vo] w fun e w' => e = .returned (.bool true) ∧ Below w.heap.size w w' := by
  obtain ⟨m, rfl, hm⟩ := hz
  exact kwho_walk v l w hB hcap hl m hm vo lo hlo hll
end Go.Proofs.Ytmccfdjdplnhhaa
