/- Contracts: the document's Save. -/
import Derived.Test.YthbcpmakhdogmaaNvD3
namespace Go.Proofs.Ythbcpmakhdogmaa
open Go.RowKit Go.Shelf Go.Proofs.Ty Go.Proofs.Nv Go.Proofs.Bits
set_option linter.unusedVariables false
set_option maxRecDepth 1000000
set_option linter.unusedSimpArgs false
theorem eight_cells (k n t : Nat) (hk : k < 65536) (hn : n < 4294967296) (ht : t < 65536) : (#[.int .u8 ((k : Int) % 256), .int .u8 ((k : Int) / 256), .int .u8 ((n : Int) % 256), .int .u8 ((n : Int) / 256 % 256), .int .u8 ((n : Int) / 65536 % 256), .int .u8 ((n : Int) / 16777216), .int .u8 ((t : Int) % 256), .int .u8 ((t : Int) / 256)] : Array Value) = (byC (le k 2 ++ le n 4 ++ le t 2)).toArray := by
  have e : ∀ x : Nat, ((UInt8.ofNat (x % 256)).toNat : Int) = (x : Int) % 256 := fun x => by simp
  simp only [le, List.cons_append, List.nil_append, Lib.byteCells, List.map_cons, List.map_nil, e]
  congr 1
  have h1 : ((k / 256 : Nat) : Int) % 256 = (k : Int) / 256 := by omega
  have h2 : ((n / 256 / 256 : Nat) : Int) % 256 = (n : Int) / 65536 % 256 := by omega
  have h3 : ((n / 256 / 256 / 256 : Nat) : Int) % 256 = (n : Int) / 16777216 := by omega
  have h4 : ((n / 256 : Nat) : Int) % 256 = (n : Int) / 256 % 256 := by omega
  have h5 : ((t / 256 : Nat) : Int) % 256 = (t : Int) / 256 := by omega
  rw [h1, h2, h3, h4, h5]
theorem pad_splice (b : List UInt8) (h : b.length ≤ 8) : splice zero8 0 b = pad b := by
  unfold splice pad
  rw [List.take_zero, List.nil_append, Nat.zero_add]
  congr 1
  rw [zero8, List.drop_replicate]
section
variable {C P : Nat} {c : Ch} {w : World}
set_option maxHeartbeats 32000000 in
theorem ZSave_any (h : Dm C P c w) (v : Value) (b : List UInt8) (hb : b.length ≤ 140737488355328) (hB : Bytes w v b) (hap : ∀ x y, Bytes x v b → Two C P x y → Bytes y v b) :
    Calls Try.prog 31 #[.pointer (some ⟨C, 0, none⟩), v] w fun e w' => e = .returned (.int .i64 (c.save b).2) ∧ Dm C P (c.save b).1 w' ∧ Two C P w w' := by
  have c0 := h.c0
  have c2 := h.c2
  have hn15 : c.n ≤ 32768 := h.ok.hi
  have hmd : ((c.n : Int) / 2) = (c.many : Int) := by unfold Ch.many; omega
  have hm2 : 2 ≤ c.many := by have := h.ok.lo; unfold Ch.many; omega
  have hmany : c.many ≤ 16384 := by unfold Ch.many; omega
  have hr8 : 8 * ((c.many : Int) - 1) = (c.room : Int) := by have : c.room = 8 * (c.many - 1) := rfl; omega
  have hrm : c.room ≤ 131072 := by unfold Ch.room; omega
  have hrmm : c.room = 8 * (c.many - 1) := rfl
  have hkp := ZKept_any h
  have hkl := c.kept_lt
  have hinto : c.into ≤ 16384 := by unfold Ch.into; split <;> omega
  have HIN : Hid (c.into = if c.latest = 1 then 0 else c.many) := rfl
  have hlat := c.latest_le
  have HLK : Hid (c.latest = 0 → c.kept.1 ≠ 0) := fun hl => by
    have h0 : (c.holds 0).1 ≠ 0 := by
      intro e
      unfold Ch.latest at hl
      rw [if_pos (.inl e)] at hl
      cases hl
    unfold Ch.kept
    rw [hl, if_neg (by decide)]
    exact h0
  have HS : Hid (c.save b = if c.room < b.length then (c, 2) else if c.dead then (c, 6) else if (c.wr c.into zero8).2 = false then ((c.wr c.into zero8).1, 6) else if ((c.wr c.into zero8).1.wrK (c.into + 1) b (nch b)).2 = false then (((c.wr c.into zero8).1.wrK (c.into + 1) b (nch b)).1, 6) else ((((c.wr c.into zero8).1.wrK (c.into + 1) b (nch b)).1.wr c.into (head (nxt c.kept.1) b)).1, if (((c.wr c.into zero8).1.wrK (c.into + 1) b (nch b)).1.wr c.into (head (nxt c.kept.1) b)).2 then 0 else 6)) := rfl
  obtain ⟨⟨d1, o1⟩, hR1⟩ : ∃ x, c.wr c.into zero8 = x := ⟨_, rfl⟩
  rw [hR1] at HS
  simp only at HS
  obtain ⟨ao, cap, rfl⟩ := bytes_shapeN hB
  have hz : pgV zero8 = .agg #[.int .u8 0, .int .u8 0, .int .u8 0, .int .u8 0, .int .u8 0, .int .u8 0, .int .u8 0, .int .u8 0] := rfl
  have HC1 : Hid (∀ x, Dm C P c x → Calls Try.prog 29 #[.pointer (some ⟨C, 0, none⟩), .int .i64 c.into, .agg #[.int .u8 0, .int .u8 0, .int .u8 0, .int .u8 0, .int .u8 0, .int .u8 0, .int .u8 0, .int .u8 0]] x fun e w' => e = .returned (.bool o1) ∧ Dm C P d1 w' ∧ Two C P x w') := fun x hx => by
    have := ZWrite_any hx c.into zero8 zero8_len
    rw [hR1, hz] at this
    exact this
  have HC2 : Hid (∀ x (d : Ch) (p : Nat) (A : Array Value) (l : List UInt8), l.length = 8 → A = (byC l).toArray → Dm C P d x → Calls Try.prog 29 #[.pointer (some ⟨C, 0, none⟩), .int .i64 p, .agg A] x fun e w' => e = .returned (.bool (d.wr p l).2) ∧ Dm C P (d.wr p l).1 w' ∧ Two C P x w') := fun x d p A l hl hA hx => by
    have := ZWrite_any hx p l hl
    rw [pgV, ← hA] at this
    exact this
  have hnx := r9Next_any c.kept.1 hkl
  have hnl := nxt_lt hkl
  have HH8 := hidOf (head_len (nxt c.kept.1) b)
  have HHE : Hid (b.length < 4294967296 → #[.int .u8 ((nxt c.kept.1 : Int) % 256), .int .u8 ((nxt c.kept.1 : Int) / 256), .int .u8 ((b.length : Int) % 256), .int .u8 ((b.length : Int) / 256 % 256), .int .u8 ((b.length : Int) / 65536 % 256), .int .u8 ((b.length : Int) / 16777216), .int .u8 ((crc16 (le (nxt c.kept.1) 2 ++ le b.length 4 ++ b) : Int) % 256), .int .u8 ((crc16 (le (nxt c.kept.1) 2 ++ le b.length 4 ++ b) : Int) / 256)] = (byC (head (nxt c.kept.1) b)).toArray) := fun hl => eight_cells _ _ _ hnl hl (crc16_lt _)
  have HSM : Hid (∀ x, Bytes x (.slice ao b.length cap) b → b.length < 4294967296 → Calls Try.prog 42 #[.int .i64 (nxt c.kept.1), .int .i64 b.length, .slice ao b.length cap] x fun e w' => e = .returned (.int .u16 (crc16 (le (nxt c.kept.1) 2 ++ le b.length 4 ++ b))) ∧ Below x.heap.size x w') := fun x hx hl => r9Sum_any _ _ hnl hl _ b x (by omega) hx
  have HBW : Hid (∀ x, Below w.heap.size w x → Bytes x (.slice ao b.length cap) b) := fun x hx => hB.below hx
  have HBT : Hid (∀ x y, Bytes x (.slice ao b.length cap) b → Two C P x y → Bytes y (.slice ao b.length cap) b) := hap
  have hcl := crc16_lt (le (nxt c.kept.1) 2 ++ le b.length 4 ++ b)
  have HCM := hidOf h
  have HOK := hidOf h.ok
  have HN1 : Hid (d1.Ok) := by show d1.Ok; have := Ch.wr_ok h.ok (c.into : Int) zero8_len; rw [hR1] at this; exact this
  clear hR1 hB hap h hz
  generalize crc16 (le (nxt c.kept.1) 2 ++ le b.length 4 ++ b) = cr at *
  generalize head (nxt c.kept.1) b = hd at *
  generalize nxt c.kept.1 = nk at *
  generalize hlatg : c.latest = L at *
  generalize c.kept.1 = kk at *
  generalize c.kept.2 = kb at *
  generalize c.save b = SV at *
  by_cases hlong : c.room < b.length
  · have HS1 : Hid (SV = (c, 2)) := by show SV = _; rw [HS.out, if_pos hlong]
    obtain ⟨nb, hnb⟩ : ∃ n, b.length = n := ⟨_, rfl⟩
    rw [hnb] at hb hlong
    have hd1 : decide ((c.room : Int) < (nb : Int)) = true := by simp; omega
    simp only [hnb]
    clear hnb
    go_enter Try.func31, Try.ntmps31
    go_wp2
    go_ret
    exact ⟨ret_int (by rw [HS1.out]; rfl), by rw [HS1.out]; exact HCM.out, Two.refl _ _ _⟩
  · have HSS : Hid (SV = if c.dead then (c, 6) else if o1 = false then (d1, 6) else if (d1.wrK (c.into + 1) b (nch b)).2 = false then ((d1.wrK (c.into + 1) b (nch b)).1, 6) else (((d1.wrK (c.into + 1) b (nch b)).1.wr c.into hd).1, if ((d1.wrK (c.into + 1) b (nch b)).1.wr c.into hd).2 then 0 else 6)) := by show SV = _; rw [HS.out, if_neg hlong]
    clear HS
    have hbl : b.length ≤ 131072 := by omega
    have HHE1 := hidOf (HHE.out (by omega))
    have HSM1 : Hid (∀ x, Bytes x (.slice ao b.length cap) b → _) := fun x (hx : Bytes x (.slice ao b.length cap) b) => HSM.out x hx (by omega)
    clear HHE HSM
    have hbm : b.length ≤ 8 * (c.many - 1) := by omega
    have HNC : Hid (nch b = (b.length + 7) / 8) := rfl
    obtain ⟨nb, hnb⟩ : ∃ n, b.length = n := ⟨_, rfl⟩
    have HNB := hidOf hnb
    rw [hnb] at hb hlong hbl HHE1 HSM1 HBW HBT HNC hbm ⊢
    have hd1 : decide ((c.room : Int) < (nb : Int)) = false := by simp; omega
    clear hnb
    cases hdd : c.dead with
    | true =>
      rw [hdd] at c2 HSS
      have HS1 : Hid (SV = (c, 6)) := HSS.out
      go_enter Try.func31, Try.ntmps31
      go_wp2
      go_ret
      exact ⟨ret_int (by rw [HS1.out]; rfl), by rw [HS1.out]; exact HCM.out, Two.refl _ _ _⟩
    | false =>
      rw [hdd] at c2 HSS
      have HS1 : Hid (SV = if o1 = false then (d1, 6) else if (d1.wrK (c.into + 1) b (nch b)).2 = false then ((d1.wrK (c.into + 1) b (nch b)).1, 6) else (((d1.wrK (c.into + 1) b (nch b)).1.wr c.into hd).1, if ((d1.wrK (c.into + 1) b (nch b)).1.wr c.into hd).2 then 0 else 6)) := HSS.out
      clear HSS
      -- the place: the head's page
      have key : ∀ (I : Nat), I = c.into → True := fun _ _ => trivial
      rcases hlat with hl | hl
      · have hkk : kk ≠ 0 := HLK.out hl
        have dkk : decide ((0 : Int) < (kk : Int)) = true := by simp; omega
        have HI1 : Hid (c.into = c.many) := by show _ = _; rw [HIN.out, hl]; rfl
        rw [HI1.out] at HC1 HS1
        subst hl
        clear HIN HLK hlatg hinto
        cases o1 with
        | false =>
          have HS2 : Hid (SV = (d1, 6)) := HS1.out
          go_enter Try.func31, Try.ntmps31
          go_wp2_with (first | (go_at_call 32; refine hkp.mono ?_; clear hkp; rintro e w1 ⟨v1, rfl, hv1, hb1⟩; have HB1 := hidOf hb1; have HY1 := hidOf (HBW.out w1 hb1); have hc1 := HC1.out w1 (HCM.out.below hb1); clear hv1 hb1) | (go_at_call 41; refine (hnx _).mono ?_; rintro e x1 ⟨rfl, hx1⟩; rw [hx1]; clear hx1 x1) | (go_at_call 29; refine hc1.mono ?_; clear hc1; rintro e w2 ⟨rfl, h2, t2⟩; have HD2 := hidOf h2; have HT2 := hidOf ((Two.of_below HB1.out C P).trans t2); have HY2 := hidOf (HBT.out w1 w2 HY1.out t2); clear h2 t2))
          go_ret
          exact ⟨ret_int (by rw [HS2.out]; rfl), by rw [HS2.out]; exact HD2.out, HT2.out⟩
        | true =>
          have HS2 : Hid (SV = if (d1.wrK (c.many + 1) b (nch b)).2 = false then ((d1.wrK (c.many + 1) b (nch b)).1, 6) else (((d1.wrK (c.many + 1) b (nch b)).1.wr (c.many : Nat) hd).1, if ((d1.wrK (c.many + 1) b (nch b)).1.wr (c.many : Nat) hd).2 then 0 else 6)) := HS1.out
          clear HS1
          go_enter Try.func31, Try.ntmps31
          go_upto_region 13 with (first | (go_at_call 32; refine hkp.mono ?_; clear hkp; rintro e w1 ⟨v1, rfl, hv1, hb1⟩; have HB1 := hidOf hb1; have HY1 := hidOf (HBW.out w1 hb1); have hc1 := HC1.out w1 (HCM.out.below hb1); clear hv1 hb1) | (go_at_call 41; refine (hnx _).mono ?_; rintro e x1 ⟨rfl, hx1⟩; rw [hx1]; clear hx1 x1) | (go_at_call 29; refine hc1.mono ?_; clear hc1; rintro e w2 ⟨rfl, h2, t2⟩; have HD2 := hidOf h2; have HT2 := hidOf ((Two.of_below HB1.out C P).trans t2); have HY2 := hidOf (HBT.out w1 w2 HY1.out t2); clear h2 t2))
          go_wp2_with fail
          go_loopw [10] (fun i wr => ∃ j : Nat, j ≤ nch b ∧ i = .int .i64 (8 * j : Nat) ∧ Hid ((d1.wrK (c.many + 1) b j).2 = true ∧ Dm C P (d1.wrK (c.many + 1) b j).1 wr ∧ Two C P w wr ∧ Bytes wr (.slice ao nb cap) b)) (fun i _ => nb + 8 - (intOf i).toNat)
          case atStart => exact ⟨0, Nat.zero_le _, rfl, rfl, HD2.out, HT2.out, HY2.out⟩
          case round =>
            clear HD2 HT2 HY2
            obtain ⟨j, hj, rfl, HR⟩ := hrel
            obtain ⟨W, hWe⟩ : ∃ W, W = wr := ⟨wr, rfl⟩
            subst hWe
            by_cases hjl : 8 * j < nb
            · have hjn : j < nch b := by rw [HNC.out]; omega
              have hstep : d1.wrK (c.many + 1) b (j + 1) = (d1.wrK (c.many + 1) b j).1.wr ((c.many + 1 + j : Nat) : Int) (pad (chunk b j)) := by
                show (if (d1.wrK (c.many + 1) b j).2 then _ else _) = _
                rw [if_pos HR.out.1]
              have hch : (chunk b j).length = min 8 (nb - 8 * j) := by unfold chunk; rw [List.length_take, List.length_drop, HNB.out]
              have hpl := pad_len _ (chunk_len b j)
              have HPS := hidOf (pad_splice _ (chunk_len b j))
              have HBY := hidOf HR.out.2.2.2
              have HCS : Hid (∀ k, 8 * j + k < nb → k < 8 → ∃ x : UInt8, chunk b j = chunk b j ∧ (chunk b j).take (k + 1) = (chunk b j).take k ++ [x] ∧ ∃ bb off, ao = some ⟨bb, off, none⟩ ∧ bb < W.heap.size ∧ W.cell? ⟨bb, off + (8 * j + k), none⟩ = some (.int .u8 x.toNat)) := fun k hk h8 => by
                have hkc : k < (chunk b j).length := by rw [hch]; omega
                obtain ⟨ao', cap', hv, _, hc⟩ := HBY.out
                obtain ⟨bb, off, ha, hlt, hcell⟩ := hc (8 * j + k) (by rw [HNB.out]; exact hk)
                injection hv with e1 _ _
                refine ⟨(chunk b j)[k], rfl, List.take_succ_eq_append_getElem hkc, bb, off, by rw [e1, ha], hlt, ?_⟩
                rw [hcell]
                simp [chunk]
              have hq0 := heap_alloc_new W (.cells #[.int .u8 0, .int .u8 0, .int .u8 0, .int .u8 0, .int .u8 0, .int .u8 0, .int .u8 0, .int .u8 0] 38 (0, 0))
              have bz : Below W.heap.size W (W.alloc (.cells #[.int .u8 0, .int .u8 0, .int .u8 0, .int .u8 0, .int .u8 0, .int .u8 0, .int .u8 0, .int .u8 0] 38)) := (Below.refl _ W).alloc (Nat.le_refl _) _
              obtain ⟨X1, hX1⟩ : ∃ X, W.alloc (.cells #[.int .u8 0, .int .u8 0, .int .u8 0, .int .u8 0, .int .u8 0, .int .u8 0, .int .u8 0, .int .u8 0] 38) = X := ⟨_, rfl⟩
              obtain ⟨qf, hqf⟩ : ∃ q, W.heap.size = q := ⟨_, rfl⟩
              rw [hX1] at hq0 bz
              rw [hqf] at hq0
              have hone8 : (#[.int .u8 0, .int .u8 0, .int .u8 0, .int .u8 0, .int .u8 0, .int .u8 0, .int .u8 0, .int .u8 0] : Array Value).all (·.oneCell') = true := all_oneCell_toArray (byteCells_one zero8)
              have hq1 := Go.Proofs.Ythbcpmakhdogmaa.setRow_heap X1 qf _ #[.int .u8 0, .int .u8 0, .int .u8 0, .int .u8 0, .int .u8 0, .int .u8 0, .int .u8 0, .int .u8 0] _ _ hq0
              have b1 := below_row bz (q := qf) (by omega) bz.size #[.int .u8 0, .int .u8 0, .int .u8 0, .int .u8 0, .int .u8 0, .int .u8 0, .int .u8 0, .int .u8 0]
              obtain ⟨X2, hX2⟩ : ∃ X, X1.setRow qf #[.int .u8 0, .int .u8 0, .int .u8 0, .int .u8 0, .int .u8 0, .int .u8 0, .int .u8 0, .int .u8 0] = X := ⟨_, rfl⟩
              rw [hX2] at hq1 b1
              obtain ⟨ch, hche⟩ : ∃ x, chunk b j = x := ⟨_, rfl⟩
              rw [hche] at hstep hch hpl HPS HCS
              have HSTEP := hidOf hstep
              have HW2 : Hid (∀ X3, Below W.heap.size W X3 → ∀ A, A = (byC (pad ch)).toArray → Calls Try.prog 29 #[.pointer (some ⟨C, 0, none⟩), .int .i64 ((c.many : Int) + 1 + (j : Int)), .agg A] X3 fun e w' => e = .returned (.bool (d1.wrK (c.many + 1) b (j + 1)).2) ∧ Dm C P (d1.wrK (c.many + 1) b (j + 1)).1 w' ∧ Two C P X3 w') := fun X3 b3 A hA => by
                rw [HSTEP.out]
                have := HC2.out X3 _ (c.many + 1 + j) A (pad ch) hpl hA (HR.out.2.1.below b3)
                rw [show ((c.many + 1 + j : Nat) : Int) = (c.many : Int) + 1 + (j : Int) by omega] at this
                rw [show ((c.many + 1 + j : Nat) : Int) = (c.many : Int) + 1 + (j : Int) by omega]
                exact this
              have HT0 : Hid (Two C P w W) := HR.out.2.2.1
              have HST : Hid ((d1.wrK (c.many + 1) b (j + 1)).2 = false → d1.wrK (c.many + 1) b (nch b) = d1.wrK (c.many + 1) b (j + 1)) := fun hh => wrK_stop d1 (c.many + 1) b (j + 1) (nch b) hh (by omega)
              generalize hD : d1.wrK (c.many + 1) b (j + 1) = D at *
              obtain ⟨dj, oj⟩ := D
              simp only at HW2 HST
              obtain ⟨j8, hj8⟩ : ∃ x, 8 * j = x := ⟨_, rfl⟩
              rw [hj8] at hjl hch HCS ⊢
              have HJ8 := hidOf hj8
              have hdj : decide ((j8 : Int) < (nb : Int)) = true := by simp; omega
              clear hstep hche hj8 HR HSTEP HPS
              have HZ2 : Hid (X2.heap[qf]? = some (.cells (byC (splice zero8 0 (ch.take 0))).toArray 38 (0, 0))) := by rw [List.take_zero, splice_nil]; exact hq1
              go_wp2_with (refine wpList_store_row rfl 38 _ _ rfl qf #[.int .u8 0, .int .u8 0, .int .u8 0, .int .u8 0, .int .u8 0, .int .u8 0, .int .u8 0, .int .u8 0] rfl rfl 38 _ hq0 infoA8 rfl hone8 ?_; rw [hX2])
              go_loopw [12] (fun i x => ∃ k : Nat, k ≤ ch.length ∧ i = .int .i64 k ∧ Hid (x.heap[qf]? = some (.cells (byC (splice zero8 0 (ch.take k))).toArray 38 (0, 0))) ∧ Hid (Below W.heap.size W x)) (fun i _ => ch.length - (intOf i).toNat)
              case atStart => exact ⟨0, Nat.zero_le _, rfl, HZ2, b1⟩
              case round =>
                clear HZ2 b1 hq1 hX1 hq0 bz hX2
                obtain ⟨k, hk, rfl, HQ, HBK⟩ := hrel
                by_cases hkc : k < ch.length
                · obtain ⟨x, _, htk, bb, off, hao, hblt, hcell⟩ := HCS.out k (by omega) (by omega)
                  have hcw : wr.cell? ⟨bb, off + (j8 + k), none⟩ = some (.int .u8 x.toNat) := (HBK.out.cell (p := ⟨bb, off + (j8 + k), none⟩) hblt).trans hcell
                  have hxl := x.toNat_lt
                  have htkl : (ch.take k).length = k := by rw [List.length_take]; omega
                  have hsz : k < (byC (splice zero8 0 (ch.take k))).length := by rw [byC_len, splice_len (by rw [htkl, zero8_len]; omega), zero8_len]; omega
                  have hcs : (wr.cell? ⟨qf, k, none⟩).isSome = true := by rw [Lib.cell_of_heap HQ.out]; simp; exact hsz
                  obtain ⟨v0, hv0⟩ := Option.isSome_iff_exists.1 hcs
                  have hfr : wr.frozen? ⟨qf, k, none⟩ = false := Lib.frozen_of_heap HQ.out _
                  have HN : Hid ((wr.setCell ⟨qf, k, none⟩ (.int .u8 x.toNat)).heap[qf]? = some (.cells (byC (splice zero8 0 (ch.take (k + 1)))).toArray 38 (0, 0))) := by
                    show _ = _
                    simp only [World.setCell, Array.getElem?_modify, HQ.out]
                    have hss := splice_set (h := zero8) (b := ch.take k) (o := 0) x (by rw [htkl, zero8_len]; omega)
                    rw [htkl, Nat.zero_add] at hss
                    rw [htk, ← hss, ← byC_setN]
                    simp
                  have HBN : Hid (Below W.heap.size W (wr.setCell ⟨qf, k, none⟩ (.int .u8 x.toNat))) := HBK.out.setCell (p := ⟨qf, k, none⟩) (by show W.heap.size ≤ qf; omega) _
                  have hd8 : decide ((k : Int) < 8) = true := by simp; omega
                  have hdn : decide ((j8 : Int) + (k : Int) < (nb : Int)) = true := by simp; omega
                  have hi1 : j8 + k < nb := by omega
                  subst hao
                  clear htk htkl hsz hcs hcell
                  go_wp2
                  go_roundw
                  case rel => exact ⟨k + 1, by omega, by go_num, HN, HBN⟩
                  case measure => simp [intOf]; omega
                · have hke : k = ch.length := by omega
                  have HQE : Hid (wr.heap[qf]? = some (.cells (byC (pad ch)).toArray 38 (0, 0))) := by have := HQ.out; rw [hke, List.take_of_length_le (Nat.le_refl _), pad_splice ch (by omega)] at this; exact this
                  obtain ⟨A, hA⟩ : ∃ x, (byC (pad ch)).toArray = x := ⟨_, rfl⟩
                  have hw2 := HW2.out wr HBK.out A hA.symm
                  have hA8 : A.size = 8 := by rw [← hA, List.size_toArray, byC_len, hpl]
                  rw [hA] at HQE
                  have hqe := HQE.out
                  have HTT : Hid (∀ y, Two C P wr y → Two C P w y ∧ Bytes y (.slice ao nb cap) b) := fun y t => ⟨HT0.out.trans ((Two.of_below HBK.out C P).trans t), HBT.out wr y (HBY.out.below HBK.out) t⟩
                  have i8 : (j8 : Int) / 8 = (j : Int) := by have := HJ8.out; omega
                  have hd8 : decide ((k : Int) < 8 ∧ (j8 : Int) + (k : Int) < (nb : Int)) = false := by simp; omega
                  have hjb : j ≤ 131072 := by have := HJ8.out; omega
                  clear HQ HBK HBY hA HW2 HQE
                  have hout : ¬ (k < 8) ∨ (k < 8 ∧ ¬ (j8 + k < nb)) := by omega
                  cases oj with
                  | false =>
                    have HS3 : Hid (SV = (dj, 6)) := by show SV = _; rw [HS2.out, HST.out rfl]; rfl
                    rcases hout with h8 | ⟨h8, hnb9⟩
                    · have e8 : decide ((k : Int) < 8) = false := by simp; omega
                      go_wp2_with (first | (refine wpList_load_row rfl 38 _ rfl qf rfl 38 A (0, 0) _ hqe Try.underlying38 rfl (by rw [hA8]; exact infoA8) ?_) | (go_at_call 29; refine hw2.mono ?_; clear hw2; rintro e w5 ⟨rfl, h5, t5⟩; have HD5 := hidOf h5; have HT5 := hidOf (HTT.out w5 t5).1; clear h5 t5))
                      go_ret
                      exact ⟨ret_int (by rw [HS3.out]; rfl), by rw [HS3.out]; exact HD5.out, HT5.out⟩
                    · have e8 : decide ((k : Int) < 8) = true := by simp; omega
                      have e9 : decide ((j8 : Int) + (k : Int) < (nb : Int)) = false := by simp; omega
                      go_wp2_with (first | (refine wpList_load_row rfl 38 _ rfl qf rfl 38 A (0, 0) _ hqe Try.underlying38 rfl (by rw [hA8]; exact infoA8) ?_) | (go_at_call 29; refine hw2.mono ?_; clear hw2; rintro e w5 ⟨rfl, h5, t5⟩; have HD5 := hidOf h5; have HT5 := hidOf (HTT.out w5 t5).1; clear h5 t5))
                      go_ret
                      exact ⟨ret_int (by rw [HS3.out]; rfl), by rw [HS3.out]; exact HD5.out, HT5.out⟩
                  | true =>
                    rcases hout with h8 | ⟨h8, hnb9⟩
                    · have e8 : decide ((k : Int) < 8) = false := by simp; omega
                      go_wp2_with (first | (refine wpList_load_row rfl 38 _ rfl qf rfl 38 A (0, 0) _ hqe Try.underlying38 rfl (by rw [hA8]; exact infoA8) ?_) | (go_at_call 29; refine hw2.mono ?_; clear hw2; rintro e w5 ⟨rfl, h5, t5⟩; have HD5 := hidOf h5; have HT5 := hidOf (HTT.out w5 t5); clear h5 t5))
                      go_roundw
                      case rel => exact ⟨j + 1, by omega, val_intM (by have := HJ8.out; omega), by rw [hD]; exact ⟨rfl, HD5.out, HT5.out.1, HT5.out.2⟩⟩
                      case measure => simp [intOf]; omega
                    · have e8 : decide ((k : Int) < 8) = true := by simp; omega
                      have e9 : decide ((j8 : Int) + (k : Int) < (nb : Int)) = false := by simp; omega
                      go_wp2_with (first | (refine wpList_load_row rfl 38 _ rfl qf rfl 38 A (0, 0) _ hqe Try.underlying38 rfl (by rw [hA8]; exact infoA8) ?_) | (go_at_call 29; refine hw2.mono ?_; clear hw2; rintro e w5 ⟨rfl, h5, t5⟩; have HD5 := hidOf h5; have HT5 := hidOf (HTT.out w5 t5); clear h5 t5))
                      go_roundw
                      case rel => exact ⟨j + 1, by omega, val_intM (by have := HJ8.out; omega), by rw [hD]; exact ⟨rfl, HD5.out, HT5.out.1, HT5.out.2⟩⟩
                      case measure => simp [intOf]; omega
            · have hjn : j = nch b := by have := HNC.out; omega
              have HY := hidOf HR.out.2.2.2
              have HDD : Hid (Dm C P (d1.wrK (c.many + 1) b (nch b)).1 W) := by rw [← hjn]; exact HR.out.2.1
              have HS3 : Hid (SV = (((d1.wrK (c.many + 1) b (nch b)).1.wr (c.many : Nat) hd).1, if ((d1.wrK (c.many + 1) b (nch b)).1.wr (c.many : Nat) hd).2 then 0 else 6)) := by show SV = _; rw [HS2.out, ← hjn, HR.out.1, if_neg (by decide)]
              have HT0 : Hid (Two C P w W) := HR.out.2.2.1
              have hsm := HSM1.out W HY.out
              obtain ⟨AH, hAH⟩ : ∃ x, (byC hd).toArray = x := ⟨_, rfl⟩
              rw [hAH] at HHE1
              have hAH8 : AH.size = 8 := by rw [← hAH, List.size_toArray, byC_len, HH8.out]
              have honeH : AH.all (·.oneCell') = true := by rw [← hAH]; exact all_oneCell_toArray (byteCells_one hd)
              generalize hD : (d1.wrK (c.many + 1) b (nch b)).1 = D at *
              have HWH : Hid (∀ x, Dm C P D x → Calls Try.prog 29 #[.pointer (some ⟨C, 0, none⟩), .int .i64 (c.many : Nat), .agg AH] x fun e w' => e = .returned (.bool (D.wr (c.many : Nat) hd).2) ∧ Dm C P (D.wr (c.many : Nat) hd).1 w' ∧ Two C P x w') := fun x hx => HC2.out x D c.many AH hd HH8.out hAH.symm hx
              generalize D.wr (c.many : Nat) hd = RH at *
              obtain ⟨dh, oh⟩ := RH
              simp only at HWH HS3
              have HW9 : Hid (∀ x, Below W.heap.size W x → ∃ y q, x.alloc (.cells #[.int .u8 0, .int .u8 0, .int .u8 0, .int .u8 0, .int .u8 0, .int .u8 0, .int .u8 0, .int .u8 0] 38) = y ∧ x.heap.size = q ∧ y.heap[q]? = some (.cells #[.int .u8 0, .int .u8 0, .int .u8 0, .int .u8 0, .int .u8 0, .int .u8 0, .int .u8 0, .int .u8 0] 38 (0, 0)) ∧ ∃ z, y.setRow q AH = z ∧ z.heap[q]? = some (.cells AH 38 (0, 0)) ∧ Hid (Two C P w z) ∧ Calls Try.prog 29 #[.pointer (some ⟨C, 0, none⟩), .int .i64 (c.many : Nat), .agg AH] z fun e w' => e = .returned (.bool oh) ∧ Dm C P dh w' ∧ Two C P z w') := fun x hx => by
                have hq := heap_alloc_new x (.cells #[.int .u8 0, .int .u8 0, .int .u8 0, .int .u8 0, .int .u8 0, .int .u8 0, .int .u8 0, .int .u8 0] 38 (0, 0))
                have b1 := hx.alloc hx.size (.cells #[.int .u8 0, .int .u8 0, .int .u8 0, .int .u8 0, .int .u8 0, .int .u8 0, .int .u8 0, .int .u8 0] 38)
                have b2 := below_row b1 (q := x.heap.size) hx.size b1.size AH
                exact ⟨_, _, rfl, rfl, hq, _, rfl, Go.Proofs.Ythbcpmakhdogmaa.setRow_heap _ _ _ _ _ _ hq, HT0.out.trans (Two.of_below b2 C P), HWH.out _ (HDD.out.below b2)⟩
              obtain ⟨j8, hj8⟩ : ∃ x, 8 * j = x := ⟨_, rfl⟩
              rw [hj8] at hjl ⊢
              have hdj : decide ((j8 : Int) < (nb : Int)) = false := by simp; omega
              clear HR hj8 hD hAH HDD HWH
              cases oh
              all_goals
                go_wp2_with (first | (go_at_call 42; refine hsm.mono ?_; clear hsm; rintro e w4 ⟨rfl, hb4⟩; obtain ⟨y4, q4, hy4, hq4s, hq4, z4, hz4, hqz4, HT4, hwh⟩ := HW9.out w4 hb4; clear HW9 hb4) | (refine wpList_store_row rfl 38 _ _ rfl q4 AH rfl (by first | rfl | (rw [← HHE1.out]; rfl)) 38 _ hq4 (by rw [hAH8]; exact infoA8) (by rw [hAH8]; rfl) honeH ?_; rw [hz4]; clear hz4 hy4 hq4) | (refine wpList_load_row rfl 38 _ rfl q4 rfl 38 AH (0, 0) _ hqz4 Try.underlying38 rfl (by rw [hAH8]; exact infoA8) ?_) | (go_at_call 29; refine hwh.mono ?_; clear hwh; rintro e w6 ⟨rfl, h6, t6⟩; have HD6 := hidOf h6; have HT6 := hidOf (HT4.out.trans t6); clear h6 t6))
                go_ret
                exact ⟨ret_int (by rw [HS3.out]; rfl), by rw [HS3.out]; exact HD6.out, HT6.out⟩
      · have HI1 : Hid (c.into = 0) := by show _ = _; rw [HIN.out, hl]; rfl
        rw [HI1.out] at HC1 HS1
        subst hl
        clear HIN HLK hlatg hinto
        by_cases hkk : kk = 0
        · subst hkk
          cases o1 with
          | false =>
            have HS2 : Hid (SV = (d1, 6)) := HS1.out
            go_enter Try.func31, Try.ntmps31
            go_wp2_with (first | (go_at_call 32; refine hkp.mono ?_; clear hkp; rintro e w1 ⟨v1, rfl, hv1, hb1⟩; have HB1 := hidOf hb1; have HY1 := hidOf (HBW.out w1 hb1); have hc1 := HC1.out w1 (HCM.out.below hb1); clear hv1 hb1) | (go_at_call 41; refine (hnx _).mono ?_; rintro e x1 ⟨rfl, hx1⟩; rw [hx1]; clear hx1 x1) | (go_at_call 29; refine hc1.mono ?_; clear hc1; rintro e w2 ⟨rfl, h2, t2⟩; have HD2 := hidOf h2; have HT2 := hidOf ((Two.of_below HB1.out C P).trans t2); have HY2 := hidOf (HBT.out w1 w2 HY1.out t2); clear h2 t2))
            go_ret
            exact ⟨ret_int (by rw [HS2.out]; rfl), by rw [HS2.out]; exact HD2.out, HT2.out⟩
          | true =>
            have HS2 : Hid (SV = if (d1.wrK (0 + 1) b (nch b)).2 = false then ((d1.wrK (0 + 1) b (nch b)).1, 6) else (((d1.wrK (0 + 1) b (nch b)).1.wr (0 : Nat) hd).1, if ((d1.wrK (0 + 1) b (nch b)).1.wr (0 : Nat) hd).2 then 0 else 6)) := HS1.out
            clear HS1
            go_enter Try.func31, Try.ntmps31
            go_upto_region 13 with (first | (go_at_call 32; refine hkp.mono ?_; clear hkp; rintro e w1 ⟨v1, rfl, hv1, hb1⟩; have HB1 := hidOf hb1; have HY1 := hidOf (HBW.out w1 hb1); have hc1 := HC1.out w1 (HCM.out.below hb1); clear hv1 hb1) | (go_at_call 41; refine (hnx _).mono ?_; rintro e x1 ⟨rfl, hx1⟩; rw [hx1]; clear hx1 x1) | (go_at_call 29; refine hc1.mono ?_; clear hc1; rintro e w2 ⟨rfl, h2, t2⟩; have HD2 := hidOf h2; have HT2 := hidOf ((Two.of_below HB1.out C P).trans t2); have HY2 := hidOf (HBT.out w1 w2 HY1.out t2); clear h2 t2))
            go_wp2_with fail
            go_loopw [10] (fun i wr => ∃ j : Nat, j ≤ nch b ∧ i = .int .i64 (8 * j : Nat) ∧ Hid ((d1.wrK (0 + 1) b j).2 = true ∧ Dm C P (d1.wrK (0 + 1) b j).1 wr ∧ Two C P w wr ∧ Bytes wr (.slice ao nb cap) b)) (fun i _ => nb + 8 - (intOf i).toNat)
            case atStart => exact ⟨0, Nat.zero_le _, rfl, rfl, HD2.out, HT2.out, HY2.out⟩
            case round =>
              clear HD2 HT2 HY2
              obtain ⟨j, hj, rfl, HR⟩ := hrel
              obtain ⟨W, hWe⟩ : ∃ W, W = wr := ⟨wr, rfl⟩
              subst hWe
              by_cases hjl : 8 * j < nb
              · have hjn : j < nch b := by rw [HNC.out]; omega
                have hstep : d1.wrK (0 + 1) b (j + 1) = (d1.wrK (0 + 1) b j).1.wr ((0 + 1 + j : Nat) : Int) (pad (chunk b j)) := by
                  show (if (d1.wrK (0 + 1) b j).2 then _ else _) = _
                  rw [if_pos HR.out.1]
                have hch : (chunk b j).length = min 8 (nb - 8 * j) := by unfold chunk; rw [List.length_take, List.length_drop, HNB.out]
                have hpl := pad_len _ (chunk_len b j)
                have HPS := hidOf (pad_splice _ (chunk_len b j))
                have HBY := hidOf HR.out.2.2.2
                have HCS : Hid (∀ k, 8 * j + k < nb → k < 8 → ∃ x : UInt8, chunk b j = chunk b j ∧ (chunk b j).take (k + 1) = (chunk b j).take k ++ [x] ∧ ∃ bb off, ao = some ⟨bb, off, none⟩ ∧ bb < W.heap.size ∧ W.cell? ⟨bb, off + (8 * j + k), none⟩ = some (.int .u8 x.toNat)) := fun k hk h8 => by
                  have hkc : k < (chunk b j).length := by rw [hch]; omega
                  obtain ⟨ao', cap', hv, _, hc⟩ := HBY.out
                  obtain ⟨bb, off, ha, hlt, hcell⟩ := hc (8 * j + k) (by rw [HNB.out]; exact hk)
                  injection hv with e1 _ _
                  refine ⟨(chunk b j)[k], rfl, List.take_succ_eq_append_getElem hkc, bb, off, by rw [e1, ha], hlt, ?_⟩
                  rw [hcell]
                  simp [chunk]
                have hq0 := heap_alloc_new W (.cells #[.int .u8 0, .int .u8 0, .int .u8 0, .int .u8 0, .int .u8 0, .int .u8 0, .int .u8 0, .int .u8 0] 38 (0, 0))
                have bz : Below W.heap.size W (W.alloc (.cells #[.int .u8 0, .int .u8 0, .int .u8 0, .int .u8 0, .int .u8 0, .int .u8 0, .int .u8 0, .int .u8 0] 38)) := (Below.refl _ W).alloc (Nat.le_refl _) _
                obtain ⟨X1, hX1⟩ : ∃ X, W.alloc (.cells #[.int .u8 0, .int .u8 0, .int .u8 0, .int .u8 0, .int .u8 0, .int .u8 0, .int .u8 0, .int .u8 0] 38) = X := ⟨_, rfl⟩
                obtain ⟨qf, hqf⟩ : ∃ q, W.heap.size = q := ⟨_, rfl⟩
                rw [hX1] at hq0 bz
                rw [hqf] at hq0
                have hone8 : (#[.int .u8 0, .int .u8 0, .int .u8 0, .int .u8 0, .int .u8 0, .int .u8 0, .int .u8 0, .int .u8 0] : Array Value).all (·.oneCell') = true := all_oneCell_toArray (byteCells_one zero8)
                have hq1 := Go.Proofs.Ythbcpmakhdogmaa.setRow_heap X1 qf _ #[.int .u8 0, .int .u8 0, .int .u8 0, .int .u8 0, .int .u8 0, .int .u8 0, .int .u8 0, .int .u8 0] _ _ hq0
                have b1 := below_row bz (q := qf) (by omega) bz.size #[.int .u8 0, .int .u8 0, .int .u8 0, .int .u8 0, .int .u8 0, .int .u8 0, .int .u8 0, .int .u8 0]
                obtain ⟨X2, hX2⟩ : ∃ X, X1.setRow qf #[.int .u8 0, .int .u8 0, .int .u8 0, .int .u8 0, .int .u8 0, .int .u8 0, .int .u8 0, .int .u8 0] = X := ⟨_, rfl⟩
                rw [hX2] at hq1 b1
                obtain ⟨ch, hche⟩ : ∃ x, chunk b j = x := ⟨_, rfl⟩
                rw [hche] at hstep hch hpl HPS HCS
                have HSTEP := hidOf hstep
                have HW2 : Hid (∀ X3, Below W.heap.size W X3 → ∀ A, A = (byC (pad ch)).toArray → Calls Try.prog 29 #[.pointer (some ⟨C, 0, none⟩), .int .i64 (1 + (j : Int)), .agg A] X3 fun e w' => e = .returned (.bool (d1.wrK (0 + 1) b (j + 1)).2) ∧ Dm C P (d1.wrK (0 + 1) b (j + 1)).1 w' ∧ Two C P X3 w') := fun X3 b3 A hA => by
                  rw [HSTEP.out]
                  have := HC2.out X3 _ (0 + 1 + j) A (pad ch) hpl hA (HR.out.2.1.below b3)
                  rw [show ((0 + 1 + j : Nat) : Int) = 1 + (j : Int) by omega] at this
                  rw [show ((0 + 1 + j : Nat) : Int) = 1 + (j : Int) by omega]
                  exact this
                have HT0 : Hid (Two C P w W) := HR.out.2.2.1
                have HST : Hid ((d1.wrK (0 + 1) b (j + 1)).2 = false → d1.wrK (0 + 1) b (nch b) = d1.wrK (0 + 1) b (j + 1)) := fun hh => wrK_stop d1 (0 + 1) b (j + 1) (nch b) hh (by omega)
                generalize hD : d1.wrK (0 + 1) b (j + 1) = D at *
                obtain ⟨dj, oj⟩ := D
                simp only at HW2 HST
                obtain ⟨j8, hj8⟩ : ∃ x, 8 * j = x := ⟨_, rfl⟩
                rw [hj8] at hjl hch HCS ⊢
                have HJ8 := hidOf hj8
                have hdj : decide ((j8 : Int) < (nb : Int)) = true := by simp; omega
                clear hstep hche hj8 HR HSTEP HPS
                have HZ2 : Hid (X2.heap[qf]? = some (.cells (byC (splice zero8 0 (ch.take 0))).toArray 38 (0, 0))) := by rw [List.take_zero, splice_nil]; exact hq1
                go_wp2_with (refine wpList_store_row rfl 38 _ _ rfl qf #[.int .u8 0, .int .u8 0, .int .u8 0, .int .u8 0, .int .u8 0, .int .u8 0, .int .u8 0, .int .u8 0] rfl rfl 38 _ hq0 infoA8 rfl hone8 ?_; rw [hX2])
                go_loopw [12] (fun i x => ∃ k : Nat, k ≤ ch.length ∧ i = .int .i64 k ∧ Hid (x.heap[qf]? = some (.cells (byC (splice zero8 0 (ch.take k))).toArray 38 (0, 0))) ∧ Hid (Below W.heap.size W x)) (fun i _ => ch.length - (intOf i).toNat)
                case atStart => exact ⟨0, Nat.zero_le _, rfl, HZ2, b1⟩
                case round =>
                  clear HZ2 b1 hq1 hX1 hq0 bz hX2
                  obtain ⟨k, hk, rfl, HQ, HBK⟩ := hrel
                  by_cases hkc : k < ch.length
                  · obtain ⟨x, _, htk, bb, off, hao, hblt, hcell⟩ := HCS.out k (by omega) (by omega)
                    have hcw : wr.cell? ⟨bb, off + (j8 + k), none⟩ = some (.int .u8 x.toNat) := (HBK.out.cell (p := ⟨bb, off + (j8 + k), none⟩) hblt).trans hcell
                    have hxl := x.toNat_lt
                    have htkl : (ch.take k).length = k := by rw [List.length_take]; omega
                    have hsz : k < (byC (splice zero8 0 (ch.take k))).length := by rw [byC_len, splice_len (by rw [htkl, zero8_len]; omega), zero8_len]; omega
                    have hcs : (wr.cell? ⟨qf, k, none⟩).isSome = true := by rw [Lib.cell_of_heap HQ.out]; simp; exact hsz
                    obtain ⟨v0, hv0⟩ := Option.isSome_iff_exists.1 hcs
                    have hfr : wr.frozen? ⟨qf, k, none⟩ = false := Lib.frozen_of_heap HQ.out _
                    have HN : Hid ((wr.setCell ⟨qf, k, none⟩ (.int .u8 x.toNat)).heap[qf]? = some (.cells (byC (splice zero8 0 (ch.take (k + 1)))).toArray 38 (0, 0))) := by
                      show _ = _
                      simp only [World.setCell, Array.getElem?_modify, HQ.out]
                      have hss := splice_set (h := zero8) (b := ch.take k) (o := 0) x (by rw [htkl, zero8_len]; omega)
                      rw [htkl, Nat.zero_add] at hss
                      rw [htk, ← hss, ← byC_setN]
                      simp
                    have HBN : Hid (Below W.heap.size W (wr.setCell ⟨qf, k, none⟩ (.int .u8 x.toNat))) := HBK.out.setCell (p := ⟨qf, k, none⟩) (by show W.heap.size ≤ qf; omega) _
                    have hd8 : decide ((k : Int) < 8) = true := by simp; omega
                    have hdn : decide ((j8 : Int) + (k : Int) < (nb : Int)) = true := by simp; omega
                    have hi1 : j8 + k < nb := by omega
                    subst hao
                    clear htk htkl hsz hcs hcell
                    go_wp2
                    go_roundw
                    case rel => exact ⟨k + 1, by omega, by go_num, HN, HBN⟩
                    case measure => simp [intOf]; omega
                  · have hke : k = ch.length := by omega
                    have HQE : Hid (wr.heap[qf]? = some (.cells (byC (pad ch)).toArray 38 (0, 0))) := by have := HQ.out; rw [hke, List.take_of_length_le (Nat.le_refl _), pad_splice ch (by omega)] at this; exact this
                    obtain ⟨A, hA⟩ : ∃ x, (byC (pad ch)).toArray = x := ⟨_, rfl⟩
                    have hw2 := HW2.out wr HBK.out A hA.symm
                    have hA8 : A.size = 8 := by rw [← hA, List.size_toArray, byC_len, hpl]
                    rw [hA] at HQE
                    have hqe := HQE.out
                    have HTT : Hid (∀ y, Two C P wr y → Two C P w y ∧ Bytes y (.slice ao nb cap) b) := fun y t => ⟨HT0.out.trans ((Two.of_below HBK.out C P).trans t), HBT.out wr y (HBY.out.below HBK.out) t⟩
                    have i8 : (j8 : Int) / 8 = (j : Int) := by have := HJ8.out; omega
                    have hd8 : decide ((k : Int) < 8 ∧ (j8 : Int) + (k : Int) < (nb : Int)) = false := by simp; omega
                    have hjb : j ≤ 131072 := by have := HJ8.out; omega
                    clear HQ HBK HBY hA HW2 HQE
                    have hout : ¬ (k < 8) ∨ (k < 8 ∧ ¬ (j8 + k < nb)) := by omega
                    cases oj with
                    | false =>
                      have HS3 : Hid (SV = (dj, 6)) := by show SV = _; rw [HS2.out, HST.out rfl]; rfl
                      rcases hout with h8 | ⟨h8, hnb9⟩
                      · have e8 : decide ((k : Int) < 8) = false := by simp; omega
                        go_wp2_with (first | (refine wpList_load_row rfl 38 _ rfl qf rfl 38 A (0, 0) _ hqe Try.underlying38 rfl (by rw [hA8]; exact infoA8) ?_) | (go_at_call 29; refine hw2.mono ?_; clear hw2; rintro e w5 ⟨rfl, h5, t5⟩; have HD5 := hidOf h5; have HT5 := hidOf (HTT.out w5 t5).1; clear h5 t5))
                        go_ret
                        exact ⟨ret_int (by rw [HS3.out]; rfl), by rw [HS3.out]; exact HD5.out, HT5.out⟩
                      · have e8 : decide ((k : Int) < 8) = true := by simp; omega
                        have e9 : decide ((j8 : Int) + (k : Int) < (nb : Int)) = false := by simp; omega
                        go_wp2_with (first | (refine wpList_load_row rfl 38 _ rfl qf rfl 38 A (0, 0) _ hqe Try.underlying38 rfl (by rw [hA8]; exact infoA8) ?_) | (go_at_call 29; refine hw2.mono ?_; clear hw2; rintro e w5 ⟨rfl, h5, t5⟩; have HD5 := hidOf h5; have HT5 := hidOf (HTT.out w5 t5).1; clear h5 t5))
                        go_ret
                        exact ⟨ret_int (by rw [HS3.out]; rfl), by rw [HS3.out]; exact HD5.out, HT5.out⟩
                    | true =>
                      rcases hout with h8 | ⟨h8, hnb9⟩
                      · have e8 : decide ((k : Int) < 8) = false := by simp; omega
                        go_wp2_with (first | (refine wpList_load_row rfl 38 _ rfl qf rfl 38 A (0, 0) _ hqe Try.underlying38 rfl (by rw [hA8]; exact infoA8) ?_) | (go_at_call 29; refine hw2.mono ?_; clear hw2; rintro e w5 ⟨rfl, h5, t5⟩; have HD5 := hidOf h5; have HT5 := hidOf (HTT.out w5 t5); clear h5 t5))
                        go_roundw
                        case rel => exact ⟨j + 1, by omega, val_intM (by have := HJ8.out; omega), by rw [hD]; exact ⟨rfl, HD5.out, HT5.out.1, HT5.out.2⟩⟩
                        case measure => simp [intOf]; omega
                      · have e8 : decide ((k : Int) < 8) = true := by simp; omega
                        have e9 : decide ((j8 : Int) + (k : Int) < (nb : Int)) = false := by simp; omega
                        go_wp2_with (first | (refine wpList_load_row rfl 38 _ rfl qf rfl 38 A (0, 0) _ hqe Try.underlying38 rfl (by rw [hA8]; exact infoA8) ?_) | (go_at_call 29; refine hw2.mono ?_; clear hw2; rintro e w5 ⟨rfl, h5, t5⟩; have HD5 := hidOf h5; have HT5 := hidOf (HTT.out w5 t5); clear h5 t5))
                        go_roundw
                        case rel => exact ⟨j + 1, by omega, val_intM (by have := HJ8.out; omega), by rw [hD]; exact ⟨rfl, HD5.out, HT5.out.1, HT5.out.2⟩⟩
                        case measure => simp [intOf]; omega
              · have hjn : j = nch b := by have := HNC.out; omega
                have HY := hidOf HR.out.2.2.2
                have HDD : Hid (Dm C P (d1.wrK (0 + 1) b (nch b)).1 W) := by rw [← hjn]; exact HR.out.2.1
                have HS3 : Hid (SV = (((d1.wrK (0 + 1) b (nch b)).1.wr (0 : Nat) hd).1, if ((d1.wrK (0 + 1) b (nch b)).1.wr (0 : Nat) hd).2 then 0 else 6)) := by show SV = _; rw [HS2.out, ← hjn, HR.out.1, if_neg (by decide)]
                have HT0 : Hid (Two C P w W) := HR.out.2.2.1
                have hsm := HSM1.out W HY.out
                obtain ⟨AH, hAH⟩ : ∃ x, (byC hd).toArray = x := ⟨_, rfl⟩
                rw [hAH] at HHE1
                have hAH8 : AH.size = 8 := by rw [← hAH, List.size_toArray, byC_len, HH8.out]
                have honeH : AH.all (·.oneCell') = true := by rw [← hAH]; exact all_oneCell_toArray (byteCells_one hd)
                generalize hD : (d1.wrK (0 + 1) b (nch b)).1 = D at *
                have HWH : Hid (∀ x, Dm C P D x → Calls Try.prog 29 #[.pointer (some ⟨C, 0, none⟩), .int .i64 (0 : Nat), .agg AH] x fun e w' => e = .returned (.bool (D.wr (0 : Nat) hd).2) ∧ Dm C P (D.wr (0 : Nat) hd).1 w' ∧ Two C P x w') := fun x hx => HC2.out x D 0 AH hd HH8.out hAH.symm hx
                generalize D.wr (0 : Nat) hd = RH at *
                obtain ⟨dh, oh⟩ := RH
                simp only at HWH HS3
                have HW9 : Hid (∀ x, Below W.heap.size W x → ∃ y q, x.alloc (.cells #[.int .u8 0, .int .u8 0, .int .u8 0, .int .u8 0, .int .u8 0, .int .u8 0, .int .u8 0, .int .u8 0] 38) = y ∧ x.heap.size = q ∧ y.heap[q]? = some (.cells #[.int .u8 0, .int .u8 0, .int .u8 0, .int .u8 0, .int .u8 0, .int .u8 0, .int .u8 0, .int .u8 0] 38 (0, 0)) ∧ ∃ z, y.setRow q AH = z ∧ z.heap[q]? = some (.cells AH 38 (0, 0)) ∧ Hid (Two C P w z) ∧ Calls Try.prog 29 #[.pointer (some ⟨C, 0, none⟩), .int .i64 (0 : Nat), .agg AH] z fun e w' => e = .returned (.bool oh) ∧ Dm C P dh w' ∧ Two C P z w') := fun x hx => by
                  have hq := heap_alloc_new x (.cells #[.int .u8 0, .int .u8 0, .int .u8 0, .int .u8 0, .int .u8 0, .int .u8 0, .int .u8 0, .int .u8 0] 38 (0, 0))
                  have b1 := hx.alloc hx.size (.cells #[.int .u8 0, .int .u8 0, .int .u8 0, .int .u8 0, .int .u8 0, .int .u8 0, .int .u8 0, .int .u8 0] 38)
                  have b2 := below_row b1 (q := x.heap.size) hx.size b1.size AH
                  exact ⟨_, _, rfl, rfl, hq, _, rfl, Go.Proofs.Ythbcpmakhdogmaa.setRow_heap _ _ _ _ _ _ hq, HT0.out.trans (Two.of_below b2 C P), HWH.out _ (HDD.out.below b2)⟩
                obtain ⟨j8, hj8⟩ : ∃ x, 8 * j = x := ⟨_, rfl⟩
                rw [hj8] at hjl ⊢
                have hdj : decide ((j8 : Int) < (nb : Int)) = false := by simp; omega
                clear HR hj8 hD hAH HDD HWH
                cases oh
                all_goals
                  go_wp2_with (first | (go_at_call 42; refine hsm.mono ?_; clear hsm; rintro e w4 ⟨rfl, hb4⟩; obtain ⟨y4, q4, hy4, hq4s, hq4, z4, hz4, hqz4, HT4, hwh⟩ := HW9.out w4 hb4; clear HW9 hb4) | (refine wpList_store_row rfl 38 _ _ rfl q4 AH rfl (by first | rfl | (rw [← HHE1.out]; rfl)) 38 _ hq4 (by rw [hAH8]; exact infoA8) (by rw [hAH8]; rfl) honeH ?_; rw [hz4]; clear hz4 hy4 hq4) | (refine wpList_load_row rfl 38 _ rfl q4 rfl 38 AH (0, 0) _ hqz4 Try.underlying38 rfl (by rw [hAH8]; exact infoA8) ?_) | (go_at_call 29; refine hwh.mono ?_; clear hwh; rintro e w6 ⟨rfl, h6, t6⟩; have HD6 := hidOf h6; have HT6 := hidOf (HT4.out.trans t6); clear h6 t6))
                  go_ret
                  exact ⟨ret_int (by rw [HS3.out]; rfl), by rw [HS3.out]; exact HD6.out, HT6.out⟩
        · have dkk : decide ((0 : Int) < (kk : Int)) = true := by simp; omega
          cases o1 with
          | false =>
            have HS2 : Hid (SV = (d1, 6)) := HS1.out
            go_enter Try.func31, Try.ntmps31
            go_wp2_with (first | (go_at_call 32; refine hkp.mono ?_; clear hkp; rintro e w1 ⟨v1, rfl, hv1, hb1⟩; have HB1 := hidOf hb1; have HY1 := hidOf (HBW.out w1 hb1); have hc1 := HC1.out w1 (HCM.out.below hb1); clear hv1 hb1) | (go_at_call 41; refine (hnx _).mono ?_; rintro e x1 ⟨rfl, hx1⟩; rw [hx1]; clear hx1 x1) | (go_at_call 29; refine hc1.mono ?_; clear hc1; rintro e w2 ⟨rfl, h2, t2⟩; have HD2 := hidOf h2; have HT2 := hidOf ((Two.of_below HB1.out C P).trans t2); have HY2 := hidOf (HBT.out w1 w2 HY1.out t2); clear h2 t2))
            go_ret
            exact ⟨ret_int (by rw [HS2.out]; rfl), by rw [HS2.out]; exact HD2.out, HT2.out⟩
          | true =>
            have HS2 : Hid (SV = if (d1.wrK (0 + 1) b (nch b)).2 = false then ((d1.wrK (0 + 1) b (nch b)).1, 6) else (((d1.wrK (0 + 1) b (nch b)).1.wr (0 : Nat) hd).1, if ((d1.wrK (0 + 1) b (nch b)).1.wr (0 : Nat) hd).2 then 0 else 6)) := HS1.out
            clear HS1
            go_enter Try.func31, Try.ntmps31
            go_upto_region 13 with (first | (go_at_call 32; refine hkp.mono ?_; clear hkp; rintro e w1 ⟨v1, rfl, hv1, hb1⟩; have HB1 := hidOf hb1; have HY1 := hidOf (HBW.out w1 hb1); have hc1 := HC1.out w1 (HCM.out.below hb1); clear hv1 hb1) | (go_at_call 41; refine (hnx _).mono ?_; rintro e x1 ⟨rfl, hx1⟩; rw [hx1]; clear hx1 x1) | (go_at_call 29; refine hc1.mono ?_; clear hc1; rintro e w2 ⟨rfl, h2, t2⟩; have HD2 := hidOf h2; have HT2 := hidOf ((Two.of_below HB1.out C P).trans t2); have HY2 := hidOf (HBT.out w1 w2 HY1.out t2); clear h2 t2))
            go_wp2_with fail
            go_loopw [10] (fun i wr => ∃ j : Nat, j ≤ nch b ∧ i = .int .i64 (8 * j : Nat) ∧ Hid ((d1.wrK (0 + 1) b j).2 = true ∧ Dm C P (d1.wrK (0 + 1) b j).1 wr ∧ Two C P w wr ∧ Bytes wr (.slice ao nb cap) b)) (fun i _ => nb + 8 - (intOf i).toNat)
            case atStart => exact ⟨0, Nat.zero_le _, rfl, rfl, HD2.out, HT2.out, HY2.out⟩
            case round =>
              clear HD2 HT2 HY2
              obtain ⟨j, hj, rfl, HR⟩ := hrel
              obtain ⟨W, hWe⟩ : ∃ W, W = wr := ⟨wr, rfl⟩
              subst hWe
              by_cases hjl : 8 * j < nb
              · have hjn : j < nch b := by rw [HNC.out]; omega
                have hstep : d1.wrK (0 + 1) b (j + 1) = (d1.wrK (0 + 1) b j).1.wr ((0 + 1 + j : Nat) : Int) (pad (chunk b j)) := by
                  show (if (d1.wrK (0 + 1) b j).2 then _ else _) = _
                  rw [if_pos HR.out.1]
                have hch : (chunk b j).length = min 8 (nb - 8 * j) := by unfold chunk; rw [List.length_take, List.length_drop, HNB.out]
                have hpl := pad_len _ (chunk_len b j)
                have HPS := hidOf (pad_splice _ (chunk_len b j))
                have HBY := hidOf HR.out.2.2.2
                have HCS : Hid (∀ k, 8 * j + k < nb → k < 8 → ∃ x : UInt8, chunk b j = chunk b j ∧ (chunk b j).take (k + 1) = (chunk b j).take k ++ [x] ∧ ∃ bb off, ao = some ⟨bb, off, none⟩ ∧ bb < W.heap.size ∧ W.cell? ⟨bb, off + (8 * j + k), none⟩ = some (.int .u8 x.toNat)) := fun k hk h8 => by
                  have hkc : k < (chunk b j).length := by rw [hch]; omega
                  obtain ⟨ao', cap', hv, _, hc⟩ := HBY.out
                  obtain ⟨bb, off, ha, hlt, hcell⟩ := hc (8 * j + k) (by rw [HNB.out]; exact hk)
                  injection hv with e1 _ _
                  refine ⟨(chunk b j)[k], rfl, List.take_succ_eq_append_getElem hkc, bb, off, by rw [e1, ha], hlt, ?_⟩
                  rw [hcell]
                  simp [chunk]
                have hq0 := heap_alloc_new W (.cells #[.int .u8 0, .int .u8 0, .int .u8 0, .int .u8 0, .int .u8 0, .int .u8 0, .int .u8 0, .int .u8 0] 38 (0, 0))
                have bz : Below W.heap.size W (W.alloc (.cells #[.int .u8 0, .int .u8 0, .int .u8 0, .int .u8 0, .int .u8 0, .int .u8 0, .int .u8 0, .int .u8 0] 38)) := (Below.refl _ W).alloc (Nat.le_refl _) _
                obtain ⟨X1, hX1⟩ : ∃ X, W.alloc (.cells #[.int .u8 0, .int .u8 0, .int .u8 0, .int .u8 0, .int .u8 0, .int .u8 0, .int .u8 0, .int .u8 0] 38) = X := ⟨_, rfl⟩
                obtain ⟨qf, hqf⟩ : ∃ q, W.heap.size = q := ⟨_, rfl⟩
                rw [hX1] at hq0 bz
                rw [hqf] at hq0
                have hone8 : (#[.int .u8 0, .int .u8 0, .int .u8 0, .int .u8 0, .int .u8 0, .int .u8 0, .int .u8 0, .int .u8 0] : Array Value).all (·.oneCell') = true := all_oneCell_toArray (byteCells_one zero8)
                have hq1 := Go.Proofs.Ythbcpmakhdogmaa.setRow_heap X1 qf _ #[.int .u8 0, .int .u8 0, .int .u8 0, .int .u8 0, .int .u8 0, .int .u8 0, .int .u8 0, .int .u8 0] _ _ hq0
                have b1 := below_row bz (q := qf) (by omega) bz.size #[.int .u8 0, .int .u8 0, .int .u8 0, .int .u8 0, .int .u8 0, .int .u8 0, .int .u8 0, .int .u8 0]
                obtain ⟨X2, hX2⟩ : ∃ X, X1.setRow qf #[.int .u8 0, .int .u8 0, .int .u8 0, .int .u8 0, .int .u8 0, .int .u8 0, .int .u8 0, .int .u8 0] = X := ⟨_, rfl⟩
                rw [hX2] at hq1 b1
                obtain ⟨ch, hche⟩ : ∃ x, chunk b j = x := ⟨_, rfl⟩
                rw [hche] at hstep hch hpl HPS HCS
                have HSTEP := hidOf hstep
                have HW2 : Hid (∀ X3, Below W.heap.size W X3 → ∀ A, A = (byC (pad ch)).toArray → Calls Try.prog 29 #[.pointer (some ⟨C, 0, none⟩), .int .i64 (1 + (j : Int)), .agg A] X3 fun e w' => e = .returned (.bool (d1.wrK (0 + 1) b (j + 1)).2) ∧ Dm C P (d1.wrK (0 + 1) b (j + 1)).1 w' ∧ Two C P X3 w') := fun X3 b3 A hA => by
                  rw [HSTEP.out]
                  have := HC2.out X3 _ (0 + 1 + j) A (pad ch) hpl hA (HR.out.2.1.below b3)
                  rw [show ((0 + 1 + j : Nat) : Int) = 1 + (j : Int) by omega] at this
                  rw [show ((0 + 1 + j : Nat) : Int) = 1 + (j : Int) by omega]
                  exact this
                have HT0 : Hid (Two C P w W) := HR.out.2.2.1
                have HST : Hid ((d1.wrK (0 + 1) b (j + 1)).2 = false → d1.wrK (0 + 1) b (nch b) = d1.wrK (0 + 1) b (j + 1)) := fun hh => wrK_stop d1 (0 + 1) b (j + 1) (nch b) hh (by omega)
                generalize hD : d1.wrK (0 + 1) b (j + 1) = D at *
                obtain ⟨dj, oj⟩ := D
                simp only at HW2 HST
                obtain ⟨j8, hj8⟩ : ∃ x, 8 * j = x := ⟨_, rfl⟩
                rw [hj8] at hjl hch HCS ⊢
                have HJ8 := hidOf hj8
                have hdj : decide ((j8 : Int) < (nb : Int)) = true := by simp; omega
                clear hstep hche hj8 HR HSTEP HPS
                have HZ2 : Hid (X2.heap[qf]? = some (.cells (byC (splice zero8 0 (ch.take 0))).toArray 38 (0, 0))) := by rw [List.take_zero, splice_nil]; exact hq1
                go_wp2_with (refine wpList_store_row rfl 38 _ _ rfl qf #[.int .u8 0, .int .u8 0, .int .u8 0, .int .u8 0, .int .u8 0, .int .u8 0, .int .u8 0, .int .u8 0] rfl rfl 38 _ hq0 infoA8 rfl hone8 ?_; rw [hX2])
                go_loopw [12] (fun i x => ∃ k : Nat, k ≤ ch.length ∧ i = .int .i64 k ∧ Hid (x.heap[qf]? = some (.cells (byC (splice zero8 0 (ch.take k))).toArray 38 (0, 0))) ∧ Hid (Below W.heap.size W x)) (fun i _ => ch.length - (intOf i).toNat)
                case atStart => exact ⟨0, Nat.zero_le _, rfl, HZ2, b1⟩
                case round =>
                  clear HZ2 b1 hq1 hX1 hq0 bz hX2
                  obtain ⟨k, hk, rfl, HQ, HBK⟩ := hrel
                  by_cases hkc : k < ch.length
                  · obtain ⟨x, _, htk, bb, off, hao, hblt, hcell⟩ := HCS.out k (by omega) (by omega)
                    have hcw : wr.cell? ⟨bb, off + (j8 + k), none⟩ = some (.int .u8 x.toNat) := (HBK.out.cell (p := ⟨bb, off + (j8 + k), none⟩) hblt).trans hcell
                    have hxl := x.toNat_lt
                    have htkl : (ch.take k).length = k := by rw [List.length_take]; omega
                    have hsz : k < (byC (splice zero8 0 (ch.take k))).length := by rw [byC_len, splice_len (by rw [htkl, zero8_len]; omega), zero8_len]; omega
                    have hcs : (wr.cell? ⟨qf, k, none⟩).isSome = true := by rw [Lib.cell_of_heap HQ.out]; simp; exact hsz
                    obtain ⟨v0, hv0⟩ := Option.isSome_iff_exists.1 hcs
                    have hfr : wr.frozen? ⟨qf, k, none⟩ = false := Lib.frozen_of_heap HQ.out _
                    have HN : Hid ((wr.setCell ⟨qf, k, none⟩ (.int .u8 x.toNat)).heap[qf]? = some (.cells (byC (splice zero8 0 (ch.take (k + 1)))).toArray 38 (0, 0))) := by
                      show _ = _
                      simp only [World.setCell, Array.getElem?_modify, HQ.out]
                      have hss := splice_set (h := zero8) (b := ch.take k) (o := 0) x (by rw [htkl, zero8_len]; omega)
                      rw [htkl, Nat.zero_add] at hss
                      rw [htk, ← hss, ← byC_setN]
                      simp
                    have HBN : Hid (Below W.heap.size W (wr.setCell ⟨qf, k, none⟩ (.int .u8 x.toNat))) := HBK.out.setCell (p := ⟨qf, k, none⟩) (by show W.heap.size ≤ qf; omega) _
                    have hd8 : decide ((k : Int) < 8) = true := by simp; omega
                    have hdn : decide ((j8 : Int) + (k : Int) < (nb : Int)) = true := by simp; omega
                    have hi1 : j8 + k < nb := by omega
                    subst hao
                    clear htk htkl hsz hcs hcell
                    go_wp2
                    go_roundw
                    case rel => exact ⟨k + 1, by omega, by go_num, HN, HBN⟩
                    case measure => simp [intOf]; omega
                  · have hke : k = ch.length := by omega
                    have HQE : Hid (wr.heap[qf]? = some (.cells (byC (pad ch)).toArray 38 (0, 0))) := by have := HQ.out; rw [hke, List.take_of_length_le (Nat.le_refl _), pad_splice ch (by omega)] at this; exact this
                    obtain ⟨A, hA⟩ : ∃ x, (byC (pad ch)).toArray = x := ⟨_, rfl⟩
                    have hw2 := HW2.out wr HBK.out A hA.symm
                    have hA8 : A.size = 8 := by rw [← hA, List.size_toArray, byC_len, hpl]
                    rw [hA] at HQE
                    have hqe := HQE.out
                    have HTT : Hid (∀ y, Two C P wr y → Two C P w y ∧ Bytes y (.slice ao nb cap) b) := fun y t => ⟨HT0.out.trans ((Two.of_below HBK.out C P).trans t), HBT.out wr y (HBY.out.below HBK.out) t⟩
                    have i8 : (j8 : Int) / 8 = (j : Int) := by have := HJ8.out; omega
                    have hd8 : decide ((k : Int) < 8 ∧ (j8 : Int) + (k : Int) < (nb : Int)) = false := by simp; omega
                    have hjb : j ≤ 131072 := by have := HJ8.out; omega
                    clear HQ HBK HBY hA HW2 HQE
                    have hout : ¬ (k < 8) ∨ (k < 8 ∧ ¬ (j8 + k < nb)) := by omega
                    cases oj with
                    | false =>
                      have HS3 : Hid (SV = (dj, 6)) := by show SV = _; rw [HS2.out, HST.out rfl]; rfl
                      rcases hout with h8 | ⟨h8, hnb9⟩
                      · have e8 : decide ((k : Int) < 8) = false := by simp; omega
                        go_wp2_with (first | (refine wpList_load_row rfl 38 _ rfl qf rfl 38 A (0, 0) _ hqe Try.underlying38 rfl (by rw [hA8]; exact infoA8) ?_) | (go_at_call 29; refine hw2.mono ?_; clear hw2; rintro e w5 ⟨rfl, h5, t5⟩; have HD5 := hidOf h5; have HT5 := hidOf (HTT.out w5 t5).1; clear h5 t5))
                        go_ret
                        exact ⟨ret_int (by rw [HS3.out]; rfl), by rw [HS3.out]; exact HD5.out, HT5.out⟩
                      · have e8 : decide ((k : Int) < 8) = true := by simp; omega
                        have e9 : decide ((j8 : Int) + (k : Int) < (nb : Int)) = false := by simp; omega
                        go_wp2_with (first | (refine wpList_load_row rfl 38 _ rfl qf rfl 38 A (0, 0) _ hqe Try.underlying38 rfl (by rw [hA8]; exact infoA8) ?_) | (go_at_call 29; refine hw2.mono ?_; clear hw2; rintro e w5 ⟨rfl, h5, t5⟩; have HD5 := hidOf h5; have HT5 := hidOf (HTT.out w5 t5).1; clear h5 t5))
                        go_ret
                        exact ⟨ret_int (by rw [HS3.out]; rfl), by rw [HS3.out]; exact HD5.out, HT5.out⟩
                    | true =>
                      rcases hout with h8 | ⟨h8, hnb9⟩
                      · have e8 : decide ((k : Int) < 8) = false := by simp; omega
                        go_wp2_with (first | (refine wpList_load_row rfl 38 _ rfl qf rfl 38 A (0, 0) _ hqe Try.underlying38 rfl (by rw [hA8]; exact infoA8) ?_) | (go_at_call 29; refine hw2.mono ?_; clear hw2; rintro e w5 ⟨rfl, h5, t5⟩; have HD5 := hidOf h5; have HT5 := hidOf (HTT.out w5 t5); clear h5 t5))
                        go_roundw
                        case rel => exact ⟨j + 1, by omega, val_intM (by have := HJ8.out; omega), by rw [hD]; exact ⟨rfl, HD5.out, HT5.out.1, HT5.out.2⟩⟩
                        case measure => simp [intOf]; omega
                      · have e8 : decide ((k : Int) < 8) = true := by simp; omega
                        have e9 : decide ((j8 : Int) + (k : Int) < (nb : Int)) = false := by simp; omega
                        go_wp2_with (first | (refine wpList_load_row rfl 38 _ rfl qf rfl 38 A (0, 0) _ hqe Try.underlying38 rfl (by rw [hA8]; exact infoA8) ?_) | (go_at_call 29; refine hw2.mono ?_; clear hw2; rintro e w5 ⟨rfl, h5, t5⟩; have HD5 := hidOf h5; have HT5 := hidOf (HTT.out w5 t5); clear h5 t5))
                        go_roundw
                        case rel => exact ⟨j + 1, by omega, val_intM (by have := HJ8.out; omega), by rw [hD]; exact ⟨rfl, HD5.out, HT5.out.1, HT5.out.2⟩⟩
                        case measure => simp [intOf]; omega
              · have hjn : j = nch b := by have := HNC.out; omega
                have HY := hidOf HR.out.2.2.2
                have HDD : Hid (Dm C P (d1.wrK (0 + 1) b (nch b)).1 W) := by rw [← hjn]; exact HR.out.2.1
                have HS3 : Hid (SV = (((d1.wrK (0 + 1) b (nch b)).1.wr (0 : Nat) hd).1, if ((d1.wrK (0 + 1) b (nch b)).1.wr (0 : Nat) hd).2 then 0 else 6)) := by show SV = _; rw [HS2.out, ← hjn, HR.out.1, if_neg (by decide)]
                have HT0 : Hid (Two C P w W) := HR.out.2.2.1
                have hsm := HSM1.out W HY.out
                obtain ⟨AH, hAH⟩ : ∃ x, (byC hd).toArray = x := ⟨_, rfl⟩
                rw [hAH] at HHE1
                have hAH8 : AH.size = 8 := by rw [← hAH, List.size_toArray, byC_len, HH8.out]
                have honeH : AH.all (·.oneCell') = true := by rw [← hAH]; exact all_oneCell_toArray (byteCells_one hd)
                generalize hD : (d1.wrK (0 + 1) b (nch b)).1 = D at *
                have HWH : Hid (∀ x, Dm C P D x → Calls Try.prog 29 #[.pointer (some ⟨C, 0, none⟩), .int .i64 (0 : Nat), .agg AH] x fun e w' => e = .returned (.bool (D.wr (0 : Nat) hd).2) ∧ Dm C P (D.wr (0 : Nat) hd).1 w' ∧ Two C P x w') := fun x hx => HC2.out x D 0 AH hd HH8.out hAH.symm hx
                generalize D.wr (0 : Nat) hd = RH at *
                obtain ⟨dh, oh⟩ := RH
                simp only at HWH HS3
                have HW9 : Hid (∀ x, Below W.heap.size W x → ∃ y q, x.alloc (.cells #[.int .u8 0, .int .u8 0, .int .u8 0, .int .u8 0, .int .u8 0, .int .u8 0, .int .u8 0, .int .u8 0] 38) = y ∧ x.heap.size = q ∧ y.heap[q]? = some (.cells #[.int .u8 0, .int .u8 0, .int .u8 0, .int .u8 0, .int .u8 0, .int .u8 0, .int .u8 0, .int .u8 0] 38 (0, 0)) ∧ ∃ z, y.setRow q AH = z ∧ z.heap[q]? = some (.cells AH 38 (0, 0)) ∧ Hid (Two C P w z) ∧ Calls Try.prog 29 #[.pointer (some ⟨C, 0, none⟩), .int .i64 (0 : Nat), .agg AH] z fun e w' => e = .returned (.bool oh) ∧ Dm C P dh w' ∧ Two C P z w') := fun x hx => by
                  have hq := heap_alloc_new x (.cells #[.int .u8 0, .int .u8 0, .int .u8 0, .int .u8 0, .int .u8 0, .int .u8 0, .int .u8 0, .int .u8 0] 38 (0, 0))
                  have b1 := hx.alloc hx.size (.cells #[.int .u8 0, .int .u8 0, .int .u8 0, .int .u8 0, .int .u8 0, .int .u8 0, .int .u8 0, .int .u8 0] 38)
                  have b2 := below_row b1 (q := x.heap.size) hx.size b1.size AH
                  exact ⟨_, _, rfl, rfl, hq, _, rfl, Go.Proofs.Ythbcpmakhdogmaa.setRow_heap _ _ _ _ _ _ hq, HT0.out.trans (Two.of_below b2 C P), HWH.out _ (HDD.out.below b2)⟩
                obtain ⟨j8, hj8⟩ : ∃ x, 8 * j = x := ⟨_, rfl⟩
                rw [hj8] at hjl ⊢
                have hdj : decide ((j8 : Int) < (nb : Int)) = false := by simp; omega
                clear HR hj8 hD hAH HDD HWH
                cases oh
                all_goals
                  go_wp2_with (first | (go_at_call 42; refine hsm.mono ?_; clear hsm; rintro e w4 ⟨rfl, hb4⟩; obtain ⟨y4, q4, hy4, hq4s, hq4, z4, hz4, hqz4, HT4, hwh⟩ := HW9.out w4 hb4; clear HW9 hb4) | (refine wpList_store_row rfl 38 _ _ rfl q4 AH rfl (by first | rfl | (rw [← HHE1.out]; rfl)) 38 _ hq4 (by rw [hAH8]; exact infoA8) (by rw [hAH8]; rfl) honeH ?_; rw [hz4]; clear hz4 hy4 hq4) | (refine wpList_load_row rfl 38 _ rfl q4 rfl 38 AH (0, 0) _ hqz4 Try.underlying38 rfl (by rw [hAH8]; exact infoA8) ?_) | (go_at_call 29; refine hwh.mono ?_; clear hwh; rintro e w6 ⟨rfl, h6, t6⟩; have HD6 := hidOf h6; have HT6 := hidOf (HT4.out.trans t6); clear h6 t6))
                  go_ret
                  exact ⟨ret_int (by rw [HS3.out]; rfl), by rw [HS3.out]; exact HD6.out, HT6.out⟩
end
end Go.Proofs.Ythbcpmakhdogmaa
