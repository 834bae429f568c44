/- BlockGives: an abort ends both sides with its code. -/
import Derived.Test.YtmccfdjdplnhhaaBkL1
import Derived.Test.YtmccfdjdplnhhaaBkN5
namespace Go.Proofs.Ytmccfdjdplnhhaa
open Go.RowKit Go.Proofs.Ty Go.Proofs.Bits
set_option linter.unusedVariables false
set_option maxRecDepth 1000000
set_option linter.unusedSimpArgs false
theorem frmA (a n : Nat) (h0 : a < 256) (h : n < 4294967296) : (frm a 0 0 n).arr = #[.int .u8 (a : Int), .int .u8 0, .int .u8 0, .int .u8 0, .int .u8 ((n : Int) % 256), .int .u8 ((n : Int) / 256 % 256), .int .u8 ((n : Int) / 65536 % 256), .int .u8 ((n : Int) / 16777216)] := by
  unfold F8.arr
  rw [frm_c a 0 0 n h0 (by decide) (by decide) h]
  rfl
theorem num4_frm (a n : Nat) (h : n < 4294967296) : num4 (frm a 0 0 n) = n := by
  unfold num4 frm
  simp only []
  have e1 : (UInt8.ofNat (n % 256)).toNat = n % 256 := by simp
  have e2 : (UInt8.ofNat (n / 256 % 256)).toNat = n / 256 % 256 := by simp
  have e3 : (UInt8.ofNat (n / 65536 % 256)).toNat = n / 65536 % 256 := by simp
  have e4 : (UInt8.ofNat (n / 16777216)).toNat = n / 16777216 := by simp; omega
  rw [e1, e2, e3, e4]
  omega
theorem Sd.nq {S : Nat} {s : Sn} {ao : Option Addr} {cp : Nat} {w : World} {q : Nat} {g : F8} (h : Sd S s ao cp w) (hq : Qb q g w) : q ≠ S := by
  rintro rfl
  have := h.hd
  rw [show w.heap[q]? = _ from hq] at this
  simp at this
def f81 : F8 := ⟨129, 0, 0, 0, 0, 0, 0, 0⟩
theorem f81_arr : f81.arr = #[.int .u8 129, .int .u8 0, .int .u8 0, .int .u8 0, .int .u8 0, .int .u8 0, .int .u8 0, .int .u8 0] := rfl
theorem feed81 : rFeed (Rc.new 1) f81 = (some (rAns 1 1), ⟨2, 1, [0, 0, 0, 0, 0, 0, 0], 1, 0⟩) := by rfl
set_option maxHeartbeats 8000000 in
theorem kgiv_walk (v : Value) (l : List UInt8) (code sz : Nat) (w : World) (hB : Bytes w v l) (hl : l.length ≤ 140737488351232) (hc : code < 4294967296) (hs : sz < 256) :
    Calls Try.prog 8 #[v, .int .u32 (code : Int), .int .u8 (sz : Int)] w fun e w' => e = .returned (.bool true) ∧ Below w.heap.size w w' := by
  have HLV := hidOf2 lives12_any
  have HO := hidOf2 (own_empty w)
  have b0 : Below w.heap.size w (w.alloc (.cells #[] 5)) := (Below.refl _ _).alloc (Nat.le_refl _) _
  have HL := hidOf2 b0
  have HB2 := hidOf2 (hB.below b0)
  have hsz := size_alloc w (.cells #[] 5)
  obtain ⟨ao, cap, hv, _, _⟩ := hB
  obtain ⟨n, hn⟩ : ∃ n, l.length = n := ⟨_, rfl⟩
  have HN := hidOf2 hn
  rw [hn] at hv hl
  subst hv
  clear b0 hn
  by_cases hlong : 65536 < n
  · have d1 : decide ((65536 : Int) < (n : Int)) = true := by simp; omega
    go_enter Try.func8, Try.ntmps8
    go_upto_region 2 with (first | (at_builtin; refine append_bytes rfl _ _ rfl w.heap.size _ [] rfl (by exact HO.out) _ l rfl (by exact HB2.out) (by rw [HN.out]; simp; omega) (by rw [hsz]; omega) ?_; intro v1 w2 ho hgr; have HL2 := hidOf2 (HL.out.grown hgr (by rw [hsz]; omega) (fun k e => own_lt HO.out k e)); have hNS := NewSender_long v1 l w2 (bytes_of_own ho) (by rw [HN.out]; exact hlong) (by rw [HN.out]; omega); clear ho hgr) | (go_at_call 9; refine hNS.mono ?_; rintro e w3 ⟨rfl, hw3⟩; rw [hw3]; clear hw3 w3))
    have hV := HLV.out w2
    go_wp2_with (first | (go_at_call 10; refine hV.mono ?_; rintro e w4 ⟨rfl, b4⟩))
    go_ret
    exact ⟨rfl, HL2.out.trans (b4.mono HL2.out.size)⟩
  · obtain ⟨size, hsize⟩ : ∃ k, 1 + sz % 127 = k := ⟨_, rfl⟩
    have hs1 : 1 ≤ size := by omega
    have hs2 : size ≤ 127 := by omega
    have hsI : (1 : Int) + (sz : Int) % 127 = (size : Int) := by omega
    have hFA := frmA 128 code (by decide) hc
    have HNUM := hidOf2 (num4_frm 128 code hc)
    obtain ⟨fa, hfa⟩ : ∃ f, frm 128 0 0 code = f := ⟨_, rfl⟩
    have HFB : Hid (fa.b0.toNat = 128) := by show _ = _; rw [← hfa]; rfl
    rw [hfa] at hFA HNUM
    have HSF : Hid (∀ s : Sn, s.st = 1 → sFeed s fa = ([], .fin code)) := fun s h1 => by
      unfold sFeed
      rw [if_neg (by omega), if_pos (by rw [HFB.out]), HNUM.out]
    have HRF : Hid (rFeed ⟨2, 1, [0, 0, 0, 0, 0, 0, 0], 1, 0⟩ fa = (none, .fin code [])) := by
      show _ = _
      unfold rFeed
      rw [if_neg (by simp), if_pos ⟨rfl, by rw [HFB.out]⟩, HNUM.out]
    clear hfa hsize
    go_enter Try.func8, Try.ntmps8
    go_upto_region 2 with (first | (at_builtin; refine append_bytes rfl _ _ rfl w.heap.size _ [] rfl (by exact HO.out) _ l rfl (by exact HB2.out) (by rw [HN.out]; simp; omega) (by rw [hsz]; omega) ?_; intro v1 w2 ho hgr; have HL2 := hidOf2 (HL.out.grown hgr (by rw [hsz]; omega) (fun k e => own_lt HO.out k e)); have hNS := NewSender_any v1 l w2 (bytes_of_own ho) (by rw [HN.out]; omega); clear ho hgr) | (go_at_call 9; refine hNS.mono ?_; rintro e w3 ⟨S, aS, cS, rfl, s3, hS3, _, b3⟩))
    have hBg := sBegin_any (t := Sn.new l) s3 size hs1 hs2
    have HSw := hidOf2 (Nat.le_trans HL2.out.size hS3)
    have HB3 := hidOf2 (HL2.out.trans (b3.mono HL2.out.size))
    clear hNS s3 hS3 b3
    go_upto_region 5 with (first | (go_at_call 12; refine hBg.mono ?_; rintro e w4 ⟨v4, rfl, l4, s4, k4⟩))
    obtain ⟨a4, c4, hv4⟩ := l4.1.wide.shape
    have hbl : 1 ≤ (blkF (Sn.new l).bs 0 size).length := by
      rw [blkF_len]
      have := segs_pos (Sn.new l).bs.length
      omega
    obtain ⟨m, hm⟩ : ∃ m, (blkF (Sn.new l).bs 0 size).length = m := ⟨_, rfl⟩
    rw [hm] at hv4 hbl
    subst hv4
    have B4 := k4.below HB3.out HB3.out.size (fun b hb => by simp at hb; rw [hb]; exact HSw.out)
    obtain ⟨z, hz⟩ : ∃ z, w4.heap.size = z := ⟨_, rfl⟩
    have z0 : Qb z F8.nul (w4.alloc (.cells zA8 30)) := by rw [← hz]; exact heap_alloc_new w4 _
    have b5 : Below w4.heap.size w4 (w4.alloc (.cells zA8 30)) := (Below.refl _ _).alloc (Nat.le_refl _) _
    have HZ : Hid (∀ Z, Z = (w4.alloc (.cells zA8 30)).setRow z fa.arr → Qb z fa Z ∧ Below w4.heap.size w4 Z) := fun Z hZ => by
      subst hZ
      exact ⟨z0.row fa, below_row b5 (by omega) (by rw [size_alloc]; omega) _⟩
    have HS4 := hidOf2 s4
    have HB4 := hidOf2 B4
    clear hBg l4 s4 k4 B4 b5 hm
    go_upto_region 6 with (first | (refine sdF (g := fa) z0 rfl _ _ rfl rfl (by rw [hFA]; first | rfl | (simp [Act.eval]; done)) ?_))
    change Code.wp Try.prog _ _ _ ((w4.alloc (.cells zA8 30)).setRow z fa.arr)
    obtain ⟨Z, hZ⟩ : ∃ Z, (w4.alloc (.cells zA8 30)).setRow z fa.arr = Z := ⟨_, rfl⟩
    rw [hZ]
    obtain ⟨zZ, bZ⟩ := HZ.out Z hZ.symm
    have lz := zZ.load
    have dm : ((m : Int) == 0) = false := by simp; omega
    have sZ := HS4.out.below bZ
    have hok : ((Sn.new (Sn.new l).bs).beg size).Ok := by
      refine ⟨sZ.ok, .inl ?_⟩
      show 0 + min size (segs l.length - 0) ≤ segs l.length
      omega
    have hF := sFeed_any sZ hok fa
    rw [HSF.out _ rfl] at hF
    unfold SPost at hF
    have HZq := hidOf2 zZ
    have HnS := hidOf2 (sZ.nq zZ)
    have HB5 := hidOf2 (HB4.out.trans (bZ.mono HB4.out.size))
    clear HZ hZ z0 zZ bZ sZ HS4 HB4 hok hFA
    go_upto_region 8 with (first | (refine ldG lz rfl _ rfl rfl ?_) | (go_at_call 11; refine hF.mono ?_; rintro e w6 ⟨v6, a6, c6, rfl, l6, s6, k6, _⟩; obtain ⟨a7, c7, hv7⟩ := l6.1.wide.shape; simp only [List.length_nil] at hv7; subst hv7))
    have z6 : Qb z fa w6 := (k6.block z HZq.out.lt (by simp; exact HnS.out)).trans HZq.out
    have hD := sDone_any s6
    have B6 := k6.below HB5.out HB5.out.size (fun b hb => by simp at hb; rw [hb]; exact HSw.out)
    have HZ6 := hidOf2 z6
    have HB6 := hidOf2 B6
    clear hF l6 s6 k6 z6 B6 lz
    go_upto_region 9 with (first | (go_at_call 16; refine hD.mono ?_; rintro e w7 ⟨rfl, n7, hw7⟩; rw [hw7]; clear hw7 w7))
    have hR := NewReceiver_any 1 (by decide) (by decide) (w6.drewN n7)
    have HZ7 : Hid (Qb z fa (w6.drewN n7)) := HZ6.out
    have HB7 : Hid (Below w.heap.size w (w6.drewN n7)) := bdr HB6.out n7
    generalize w6.drewN n7 = w7 at *
    clear hD
    go_upto_region 12 with (first | (go_at_call 17; refine hR.mono ?_; rintro e w8 ⟨rfl, r8, b8⟩))
    have hF1 := rFeed_any r8 (Rc.new_ok 1 (by decide) (by decide)) f81
    rw [feed81] at hF1
    have h81 := f81_arr
    have HZ8 := hidOf2 (HZ7.out.below b8)
    have HB8 := hidOf2 (HB7.out.trans (b8.mono HB7.out.size))
    have HR7 := hidOf2 (HB7.out.size)
    unfold RPost at hF1
    have HRV := hidOf2 r8
    clear hR r8 b8
    rw [h81] at hF1
    go_upto_region 13 with (first | (go_at_call 18; refine hF1.mono ?_; rintro e w9 ⟨rfl, u9, r9, k9, o9⟩))
    have z9 : Qb z fa w9 := (k9.block z HZ8.out.lt (fun hm => HRV.out.nq HZ8.out z hm rfl)).trans HZ8.out
    have B9 : Below w.heap.size w w9 := k9.below HB8.out HB8.out.size (fun b hb => by simp [rB, Value.ownBlock] at hb; rw [hb]; exact HR7.out)
    have hok9 : (⟨2, 1, [0, 0, 0, 0, 0, 0, 0], 1, 0⟩ : Rc).Ok := ⟨⟨by simp, by simp, by simp, by simp, by simp⟩, by simp, by simp, by simp⟩
    have hF2 := rFeed_any r9 hok9 fa
    rw [HRF.out] at hF2
    unfold RPost at hF2
    have lz := z9.load
    have H9 : Hid (∀ b ∈ rB w7.heap.size u9, w.heap.size ≤ b) := fun b hb => by
      simp [rB] at hb
      rcases hb with rfl | hb
      · exact HR7.out
      · rcases o9 b hb with h1 | h1
        · cases h1
        · exact Nat.le_trans HB8.out.size h1
    have HB9 := hidOf2 B9
    clear hF1 r9 k9 o9 z9 B9 hok9 HRV
    have hF3 : Calls Try.prog 18 #[.pointer (some ⟨w7.heap.size, 0, none⟩), .agg fa.arr] w9 fun e w' => e = .returned (.tuple #[.agg F8.nul.arr, .bool false]) ∧ ∃ u, Rv w7.heap.size (.fin code []) u w' ∧ Kp (rB w7.heap.size u9) w9 w' := hF2.mono fun e w' hp => by
      obtain ⟨he, u, hr, hk, _⟩ := hp
      exact ⟨he, u, hr, hk⟩
    clear hF2
    obtain ⟨R, hR7⟩ : ∃ R, w7.heap.size = R := ⟨_, rfl⟩
    rw [hR7] at hF3 H9
    have HZZ : Hid (∀ (w10 : World), ∃ z2, w10.heap.size = z2 ∧ Qb z2 F8.nul (w10.alloc (.cells zA8 30)) ∧ ∀ Z, Z = (w10.alloc (.cells zA8 30)).setRow z2 F8.nul.arr → Below w10.heap.size w10 Z) := fun w10 => ⟨_, rfl, heap_alloc_new w10 _, fun Z hZ => by subst hZ; exact below_row ((Below.refl _ _).alloc (Nat.le_refl _) _) (Nat.le_refl _) (by rw [size_alloc]; omega) _⟩
    go_upto_region 14 with (first | (refine ldG lz rfl _ rfl rfl ?_) | (go_at_call 18; refine hF3.mono ?_; rintro e w10 ⟨rfl, u10, r10, k10⟩; obtain ⟨z2, hz2, y2, HZ2⟩ := HZZ.out w10; have HR10 := hidOf2 r10; have HB10 := hidOf2 (k10.below HB9.out HB9.out.size H9.out); clear r10 k10) | (refine sdF (g := F8.nul) y2 rfl _ _ rfl rfl rfl ?_))
    change Code.wp Try.prog _ _ _ ((w10.alloc (.cells zA8 30)).setRow z2 F8.nul.arr)
    obtain ⟨V, hV⟩ : ∃ V, (w10.alloc (.cells zA8 30)).setRow z2 F8.nul.arr = V := ⟨_, rfl⟩
    rw [hV]
    have bV := HZ2 V hV.symm
    have hDn := rDone_any (HR10.out.below bV) rfl
    have HBV := hidOf2 (HB10.out.trans (bV.mono HB10.out.size))
    have hDn2 : Calls Try.prog 22 #[.pointer (some ⟨R, 0, none⟩)] V fun e w' => ∃ au cu, e = .returned (.tuple #[.slice au 0 cu, .int .u32 (code : Int), .bool true]) ∧ Below V.heap.size V w' := hDn.mono fun e w' hp => by
      obtain ⟨u, he, ho, hb⟩ := hp
      obtain ⟨au, cu, hu⟩ := own_shape5 ho
      subst hu
      exact ⟨au, cu, he, hb⟩
    clear hDn bV hV HZ2 y2 HZZ hF3 HR10 hz2 lz
    go_upto_region 15 with (first | (go_at_call 22; refine hDn2.mono ?_; rintro e w11 ⟨au, cu, rfl, b11⟩))
    have hV := HLV.out w11
    have HB11 := hidOf2 (HBV.out.trans (b11.mono HBV.out.size))
    clear b11 hDn2
    go_wp2_with (first | (go_at_call 10; refine hV.mono ?_; rintro e w12 ⟨rfl, b12⟩))
    go_ret
    exact ⟨rfl, HB11.out.trans (b12.mono HB11.out.size)⟩
theorem kgiv_int (v : Value) (l : List UInt8) (w : World) (hB : Bytes w v l) (hl : l.length ≤ 140737488351232) (c : Int) (hc : ∃ n : Nat, c = (n : Int) ∧ n < 4294967296) (z : Int) (hz : ∃ n : Nat, z = (n : Int) ∧ n < 256) :
    Calls Try.prog 8 #[v, .int .u32 c, .int .u8 z] w fun e w' => e = .returned (.bool true) ∧ Below w.heap.size w w' := by
  obtain ⟨n, rfl, hn⟩ := hc
  obtain ⟨m, rfl, hm⟩ := hz
  exact kgiv_walk v l n m w hB hl hn hm
end Go.Proofs.Ytmccfdjdplnhhaa
