/- Contracts: the document's Encode, whose bytes are new. Contracts: the document's Save. Steps of the statement OdOrder: texts made of bytes, entries held against each other. A pair of dictionaries, the program's and the document's, in memory; what an act leaves. Plain facts: the document's order of entries; what is saved and loaded again. Both dictionaries at first. -/
import Derived.Test.YtahfnknbmikmkaaGreatKa12
import Derived.Test.YtahfnknbmikmkaaGreatKa16
import Derived.Test.YtahfnknbmikmkaaGreatKa17
import Derived.Test.YtahfnknbmikmkaaGreatKa15
namespace Go.Proofs.YtahfnknbmikmkaaGreat
open Go.RowKit Go.Proofs.Ty
set_option linter.unusedVariables false
set_option maxRecDepth 1000000
set_option maxHeartbeats 1000000 in
theorem r7low_f (n z : Nat) (hz : z ≤ 8) (w : World) :
    Calls Tryz.prog 87 #[.int .u64 n, .int .i64 z] w fun e w' => ∃ x, e = .returned x ∧ Bytes w' x (lowL n z) ∧ Below w.heap.size w w' ∧ (∀ b, x.ownBlock = some b → w.heap.size ≤ b) := by
  have hown0 := own_empty w
  go_enter Tryz.func87, Tryz.ntmps87
  go_wp2
  go_loopw [5, 6] (fun v i wr => ∃ k : Nat, k ≤ z ∧ i = .int .i64 k ∧ wr.ownsRow w.heap.size 5 1 v (lowL n k).length (Lib.byteCells (lowL n k)) ∧ Below w.heap.size w wr) (fun _ i _ => z - (intOf i).toNat)
  case atStart => exact ⟨0, Nat.zero_le _, rfl, hown0, (Below.refl _ _).alloc (Nat.le_refl _) _⟩
  case round =>
    obtain ⟨k, hk, rfl, hown, hb⟩ := hrel
    by_cases hkz : k < z
    · have hsn := hidOf (lowL_snoc n k)
      have hlen := lowL_length n k
      have szw := hb.size
      have hcb := byte_at n k
      rw [Nat.mul_comm] at hcb
      have hcell := cell_new wr (.int .u8 (UInt8.ofNat (n / 256 ^ k)).toNat) 5
      have hown2 := ownsRow_alloc hown (.cells #[.int .u8 (UInt8.ofNat (n / 256 ^ k)).toNat] 5)
      have hlt := own_lt hown
      generalize UInt8.ofNat (n / 256 ^ k) = c at *
      generalize lowL n k = acc at *
      go_wp2_with (at_builtin; refine append_one rfl _ _ rfl w.heap.size _ acc rfl hown2 ⟨wr.heap.size, 0, none⟩ c rfl hcell (by omega) (by rw [size_alloc]; omega) ?_)
      intro v' w1 o1 g1
      have b1 : Below w.heap.size w w1 := (hb.alloc szw _).grown g1 (by rw [size_alloc]; omega) hlt
      rw [← hsn.out] at o1
      clear hown2 g1 hcell
      go_wp2
      go_roundw
      case rel => exact ⟨k + 1, by omega, by go_num, by rw [lowL_length]; exact o1, b1⟩
      case measure => simp [intOf]; omega
    · obtain rfl : k = z := by omega
      go_wp2
      go_ret
      exact ⟨_, rfl, bytes_of_own hown, hb, own_lt hown⟩
set_option maxHeartbeats 1000000 in
theorem r7Encode_f (v : Vl) (w : World) :
    Calls Tryz.prog 56 #[.agg v.arr] w fun e w' => ∃ x, e = .returned (.tuple #[x, .int .i64 v.chk]) ∧ Bytes w' x v.enc ∧ Below w.heap.size w w' ∧ (∀ b, x.ownBlock = some b → w.heap.size ≤ b) := by
  have fA := Va.new w v
  have bA : Below w.heap.size w (w.alloc (.cells v.arr 52)) := (Below.refl _ _).alloc (Nat.le_refl _) _
  have sA := size_alloc w (.cells v.arr 52)
  have hC := r7Check_v v
  have hS := r7Size_any v.t
  have hE : Hid (v.enc = if v.chk = 0 then (if 0 < siz v.t then lowL v.n (siz v.t) else v.s.data.toList) else []) := rfl
  have hLow := fun w => r7low_f v.n (siz v.t) (siz_le v.t) w
  generalize v.chk = C at *
  generalize siz v.t = z at *
  go_enter Tryz.func56, Tryz.ntmps56
  generalize hW : w.alloc (.cells v.arr 52) = W at *
  generalize hq : w.heap.size = q at *
  go_wp2_with (refine fA.ld rfl _ rfl rfl ?_)
  refine (hC _).mono ?_
  rintro e w1 ⟨rfl, b1⟩
  have f1 := fA.below b1
  have B1 := bA.trans (b1.mono (by omega))
  have s1 := b1.size
  have c0 := f1.c0
  have c1 := f1.c1
  have c2 := f1.c2
  clear hC fA bA b1
  by_cases h0 : C = 0
  · subst h0
    by_cases hz : 0 < z
    · have dz : decide ((0 : Int) < (z : Int)) = true := decide_eq_true (by omega)
      have e1 := hidOf (show v.enc = lowL v.n z by rw [hE.out]; simp [hz])
      clear hE
      go_wp2_with (first | (go_at_call 85; refine (hS _).mono ?_; rintro e w2 ⟨rfl, rfl⟩))
      refine (hLow _).mono ?_
      rintro e w3 ⟨x, rfl, hB3, b3, hN3⟩
      have B3 := B1.trans (b3.mono (by omega))
      go_wp2
      go_ret2
      exact ⟨_, rfl, by rw [e1.out]; exact hB3, B3, fun b hb => by have := hN3 b hb; omega⟩
    · have dz : decide ((0 : Int) < (z : Int)) = false := decide_eq_false (by omega)
      have e1 := hidOf (show v.enc = v.s.data.toList by rw [hE.out]; simp [hz])
      clear hE
      have hconv := run_bytes_of_string (P := Tryz.prog) w1 9 47 5 v.s Tryz.underlying9 Tryz.underlying47 Tryz.underlying5
      have hR0 := Row.ofText w1 v.s (grownCap w1 v.s.size 0 5) 5
      go_wp2_with (go_at_call 85; refine (hS _).mono ?_; rintro e w2 ⟨rfl, rfl⟩)
      go_ret2
      refine ⟨_, rfl, ?_, (B1.trans ((Below.refl _ _).alloc (by omega) _)).drew, fun b hb => by injection hb with hb; subst hb; show q ≤ w2.heap.size; have := B1.size; omega⟩
      rw [e1.out]
      have := Bytes.of_row (l := v.s.data.toList) hR0 (grownCap w2 v.s.size 0 5)
      rw [show v.s.data.toList.length = v.s.size by simp] at this
      exact this
  · have dz : ((C : Int) != 0) = true := by simpa using h0
    have e1 := hidOf (show v.enc = [] by rw [hE.out]; simp [h0])
    clear hE
    go_wp2
    go_ret2
    exact ⟨_, rfl, by rw [e1.out]; exact Bytes.nil _, B1, fun b hb => by cases hb⟩
end Go.Proofs.YtahfnknbmikmkaaGreat
namespace Go.Proofs.YtahfnknbmikmkaaGreat
open Go.RowKit Go.Proofs.Ty Go.Sort Go.Lib
set_option linter.unusedVariables false
set_option maxRecDepth 1000000
set_option linter.unusedSimpArgs false
theorem bs3L {w : World} {ops : Array Oper} {rest : List Oper} {o : Oper} {a : Act} {Q : Exit → Act → World → Prop} (hgd : Region.wanted o (yielded ops a.tmps) = true) (x y z : Operand) (ho : o.op = .buildSlice 47 3 #[(0, x), (1, y), (2, z)]) (p q r : Int) (hx : a.eval x = .int .u8 p) (hy : a.eval y = .int .u8 q) (hz : a.eval z = .int .u8 r)
    (hh : wpList Tryz.prog ops Q rest (a.put o.dst (.slice (some ⟨w.heap.size, 0, none⟩) 3 3)) (w.alloc (.cells #[.int .u8 p, .int .u8 q, .int .u8 r] 5))) : wpList Tryz.prog ops Q (o :: rest) a w :=
  BigFrame.wpList_want hgd fun _ hK => wp_bs3 x y z ho p q r hx hy hz (hK _ _ hh)
set_option maxHeartbeats 8000000 in
theorem QSave_any {E : Nat} {its : List Im} {vL vV : Value} {w : World} (h : Rd E (its.map Im.e) vL (its.map Im.v) vV w) (hlen : its.length ≤ 1024) :
    Calls Tryz.prog 39 #[.pointer (some ⟨E, 0, none⟩)] w fun e w' => ∃ x, e = .returned x ∧ w'.ownsRow w.heap.size 5 1 x (sav its).length (Lib.byteCells (sav its)) ∧ Below w.heap.size w w' := by
  have HD := hidOf2 h
  have HN := hidOf2 (show (w.alloc (.cells #[] 5)).ownsRow w.heap.size 5 1 (.slice (some ⟨w.heap.size, 0, none⟩) 0 0) (sav (its.take 0)).length (Lib.byteCells (sav (its.take 0))) from own_empty w)
  have HB0 := hidOf2 (show Below w.heap.size w (w.alloc (.cells #[] 5)) from (Below.refl _ _).alloc (Nat.le_refl _) _)
  obtain ⟨aL, cL, hvL⟩ := h.rowL.wide.shape
  obtain ⟨aV, cV, hvV⟩ := h.rowV.wide.shape
  rw [List.length_map] at hvL hvV
  subst hvL
  subst hvV
  clear h
  go_enter Tryz.func39, Tryz.ntmps39
  go_wp2
  go_loopw [3, 4] (fun s3 s4 x => ∃ k : Nat, k ≤ its.length ∧ s4 = .int .i64 k ∧ (∃ ao cap, s3 = .slice ao (sav (its.take k)).length cap) ∧ Hid (x.ownsRow w.heap.size 5 1 s3 (sav (its.take k)).length (Lib.byteCells (sav (its.take k)))) ∧ Hid (Below w.heap.size w x)) (fun _ s4 _ => its.length - (intOf s4).toNat)
  case atStart => exact ⟨0, Nat.zero_le _, rfl, ⟨_, _, rfl⟩, HN, HB0⟩
  case round =>
    clear HN HB0
    obtain ⟨k, hk, rfl, ⟨ao, cap, rfl⟩, HO, HB⟩ := hrel
    have hD3 := HD.out.below HB.out
    obtain ⟨c0, c1⟩ := hD3.c
    by_cases hkl : k < its.length
    · obtain ⟨lb, lo, cL', vb, vo, cV', e1, e2, hlb, hvb, rL, rV⟩ := hD3.atI hkl
      injection e1 with e1 _ e1c
      injection e2 with e2 _ e2c
      subst e1
      subst e2
      subst e1c
      subst e2c
      have HS := hidOf2 (sav_step its k hkl)
      generalize its[k] = i at *
      obtain ⟨q, hq⟩ : ∃ q, wr.heap.size = q := ⟨_, rfl⟩
      have hh : (wr.alloc (.cells #[.int .u16 0, .int .u8 0, .int .i64 0, .bool false, .bool false, .int .i64 0, .int .u64 0, .string ⟨#[]⟩, .int .i64 0, .int .u64 0, .string ⟨#[]⟩, .int .i64 0, .int .u64 0, .string ⟨#[]⟩] 93)).heap[q]? = some (.cells #[.int .u16 0, .int .u8 0, .int .i64 0, .bool false, .bool false, .int .i64 0, .int .u64 0, .string ⟨#[]⟩, .int .i64 0, .int .u64 0, .string ⟨#[]⟩, .int .i64 0, .int .u64 0, .string ⟨#[]⟩] 93 (0, 0)) := by rw [← hq]; exact heap_alloc_new _ _
      have hE := Eb.row hh i.e
      have bA : Below wr.heap.size wr (wr.alloc (.cells #[.int .u16 0, .int .u8 0, .int .i64 0, .bool false, .bool false, .int .i64 0, .int .u64 0, .string ⟨#[]⟩, .int .i64 0, .int .u64 0, .string ⟨#[]⟩, .int .i64 0, .int .u64 0, .string ⟨#[]⟩] 93)) := (Below.refl _ _).alloc (Nat.le_refl _) _
      have bB := below_row bA (by omega) bA.size (q := q) i.e.arr
      have HB2 := hidOf2 (HB.out.trans (bB.mono HB.out.size))
      have HO2 := hidOf2 (own_below5 HO.out bB)
      have rV2 := rng_below rV bB hvb
      have c1b := (hD3.below bB).c.2
      clear bA bB hD3 rV
      go_upto_region 6 with (first | (refine ldE rL rfl _ rfl rfl ?_) | (refine sdE hh rfl i.e rfl _ _ rfl rfl rfl ?_))
      try simp only [hq]
      generalize ((wr.alloc (.cells #[.int .u16 0, .int .u8 0, .int .i64 0, .bool false, .bool false, .int .i64 0, .int .u64 0, .string ⟨#[]⟩, .int .i64 0, .int .u64 0, .string ⟨#[]⟩, .int .i64 0, .int .u64 0, .string ⟨#[]⟩] 93)).setRow q i.e.arr) = w3 at *
      clear hh rL HB HO c0 c1
      obtain ⟨k0, k1, k2, _⟩ := hE.c
      have hY := r7Encode_f i.v w3
      by_cases ha : i.e.ac = 2
      · rw [ha] at k2
        have HS2 := hidOf2 (HS.out.trans (by rw [svI, if_pos ha]))
        clear HS
        go_wp2_with (first | (refine ldV rV2 rfl _ rfl rfl ?_))
        refine hY.mono ?_
        rintro y w4 ⟨raw, rfl, hraw, b4, hnew⟩
        obtain ⟨aor, capr, rfl⟩ := bytes_shape hraw
        have HNE : Hid (i.v.enc ≠ [] → ∀ b, (Value.slice aor i.v.enc.length capr).ownBlock = some b → (Value.slice ao (sav (its.take k)).length cap).ownBlock ≠ some b) := fun _ b hb hb2 => by have h1 := hnew b hb; have h2 := own_block_lt HO2.out b hb2; omega
        have HB4 := hidOf2 (HB2.out.trans (b4.mono HB2.out.size))
        have HO4 := hidOf2 (own_below5 HO2.out b4)
        have hE4 := hE.below b4
        obtain ⟨k0, k1, _, _⟩ := hE4.c
        have hix := i.e.hix
        have hsb := i.e.hsb
        have b5 : Below w4.heap.size w4 (w4.alloc (.cells #[.int .u8 ((i.e.ix : Int) % 256), .int .u8 ((i.e.ix : Int) / 256), .int .u8 (i.e.sb : Int)] 5)) := (Below.refl _ _).alloc (Nat.le_refl _) _
        have HR5 := hidOf2 (hraw.below b5)
        have ho5 := ownsRow_alloc HO4.out (.cells #[.int .u8 ((i.e.ix : Int) % 256), .int .u8 ((i.e.ix : Int) / 256), .int .u8 (i.e.sb : Int)] 5)
        have h3 := bytes3 w4 i.e
        have hl5 : (sav (its.take k)).length + (hd3 i.e).length ≤ 140737488355328 := by rw [hd3_len]; have := sav_take its k; omega
        have hb5 : w.heap.size ≤ (w4.alloc (.cells #[.int .u8 ((i.e.ix : Int) % 256), .int .u8 ((i.e.ix : Int) / 256), .int .u8 (i.e.sb : Int)] 5)).heap.size := Nat.le_trans HB4.out.size b5.size
        clear hY hraw hnew b4 hE HO2 HB2 rV2 c1b k2
        go_upto_region 9 with (first | (refine bs3L rfl _ _ _ rfl ((i.e.ix : Int) % 256) ((i.e.ix : Int) / 256) (i.e.sb : Int) (by first | rfl | (simp [Act.eval, wrap8] <;> omega)) (by first | rfl | (simp [Act.eval, wrap8] <;> omega)) rfl ?_) | (refine append_bytes2 rfl _ _ rfl w.heap.size _ _ rfl ho5 _ _ rfl h3 hl5 hb5 ?_; intro v6 w6 P6 G6 H6))
        have b6 : Below w.heap.size w w6 := (HB4.out.trans (b5.mono HB4.out.size)).grown G6 hb5 (fun j hj => own_lt HO4.out j hj)
        have HRW := hidOf2 (bytes_keep HR5.out HNE.out G6)
        have HN6 := hidOf2 (ne_keep HR5.out HNE.out H6)
        have HS6 := hidOf2 (own_shape5 P6)
        have HO6 := hidOf2 P6
        have HB6 := hidOf2 b6
        clear b5 b6 P6 G6 H6 HO4 HB4 HR5 HNE ho5 h3 hl5 hb5 hE4 k0 k1
        go_wp2
        have hpre := sav_take its k
        have henc := enc_len i.v
        have HPX := hidOf2 (show (sav (its.take k) ++ hd3 i.e ++ lowL i.v.enc.length 0) = sav (its.take k) ++ hd3 i.e by simp [lowL])
        go_loopw [3, 8] (fun s3 s46 x => ∃ j : Nat, j ≤ 4 ∧ s46 = .int .i64 j ∧ (∃ ao cap, s3 = .slice ao (sav (its.take k) ++ hd3 i.e ++ lowL i.v.enc.length j).length cap) ∧ Hid (x.ownsRow w.heap.size 5 1 s3 (sav (its.take k) ++ hd3 i.e ++ lowL i.v.enc.length j).length (Lib.byteCells (sav (its.take k) ++ hd3 i.e ++ lowL i.v.enc.length j))) ∧ Hid (Below w.heap.size w x) ∧ Hid (Bytes x (.slice aor i.v.enc.length capr) i.v.enc) ∧ Hid (i.v.enc ≠ [] → ∀ b, (Value.slice aor i.v.enc.length capr).ownBlock = some b → s3.ownBlock ≠ some b)) (fun _ s46 _ => 4 - (intOf s46).toNat)
        case atStart => exact ⟨0, by omega, rfl, by rw [HPX.out]; exact HS6.out, by rw [HPX.out]; exact HO6, HB6, HRW, HN6⟩
        case round =>
          clear HO6 HB6 HRW HN6 HPX
          obtain ⟨j, hj, rfl, ⟨ao7, cp7, rfl⟩, HO7, HB7, HR7, HN7⟩ := hrel
          by_cases hj4 : j < 4
          · have hsn := hidOf2 (lowL_snoc i.v.enc.length j)
            have hby := byte_at i.v.enc.length j
            rw [Nat.mul_comm] at hby
            generalize UInt8.ofNat (i.v.enc.length / 256 ^ j) = c at *
            have hw1 := bytes1 wr c
            have ho1 := ownsRow_alloc HO7.out (.cells #[.int .u8 c.toNat] 5)
            have hl1 : (sav (its.take k) ++ hd3 i.e ++ lowL i.v.enc.length j).length + [c].length ≤ 140737488355328 := by rw [List.length_append, List.length_append, hd3_len, lowL_length]; simp; omega
            have hb1 : w.heap.size ≤ (wr.alloc (.cells #[.int .u8 c.toNat] 5)).heap.size := by rw [size_alloc]; have := HB7.out.size; omega
            have bA : Below wr.heap.size wr (wr.alloc (.cells #[.int .u8 c.toNat] 5)) := (Below.refl _ _).alloc (Nat.le_refl _) _
            go_wp2_with (first | (refine append_bytes2 rfl _ _ rfl w.heap.size _ _ rfl ho1 _ _ rfl hw1 hl1 hb1 ?_; intro v8 w8 P8 G8 H8))
            have he := hidOf2 (show sav (its.take k) ++ hd3 i.e ++ lowL i.v.enc.length (j + 1) = sav (its.take k) ++ hd3 i.e ++ lowL i.v.enc.length j ++ [c] by rw [hsn.out]; simp only [List.append_assoc])
            have HP8 := hidOf2 P8
            have HB8 := hidOf2 ((HB7.out.trans (bA.mono HB7.out.size)).grown G8 hb1 (fun j hj => own_lt HO7.out j hj))
            have HR8 := hidOf2 (bytes_keep (HR7.out.below bA) HN7.out G8)
            have HN8 := hidOf2 (ne_keep (HR7.out.below bA) HN7.out H8)
            have HS8 := hidOf2 (own_shape5 P8)
            clear P8 G8 H8 HO7 HB7 HR7 HN7 ho1 hw1 bA hl1 hb1
            go_roundw
            case rel => exact ⟨j + 1, by omega, by go_num, by rw [he.out]; exact HS8.out, by rw [he.out]; exact HP8, HB8, HR8, HN8⟩
            case measure => simp [intOf]; omega
          · have hj5 : j = 4 := by omega
            subst hj5
            have ho1 := HO7.out
            have hw1 := HR7.out
            have hl1 : (sav (its.take k) ++ hd3 i.e ++ lowL i.v.enc.length 4).length + i.v.enc.length ≤ 140737488355328 := by rw [List.length_append, List.length_append, hd3_len, lowL_length]; omega
            have hb1 := HB7.out.size
            go_wp2_with (first | (refine append_bytes2 rfl _ _ rfl w.heap.size _ _ rfl ho1 _ _ rfl hw1 hl1 hb1 ?_; intro v8 w8 P8 G8 H8))
            have he := hidOf2 (show sav (its.take (k + 1)) = sav (its.take k) ++ hd3 i.e ++ lowL i.v.enc.length 4 ++ i.v.enc by rw [HS2.out]; simp only [List.append_assoc])
            have HP8 := hidOf2 P8
            have HB8 := hidOf2 (HB7.out.grown G8 hb1 (fun j hj => own_lt HO7.out j hj))
            have HS8 := hidOf2 (own_shape5 P8)
            clear P8 G8 H8 HO7 HB7 HR7 HN7 ho1 hw1 hl1 hb1
            go_roundw
            case rel => exact ⟨k + 1, by omega, by go_num, by rw [he.out]; exact HS8.out, by rw [he.out]; exact HP8, HB8⟩
            case measure => simp [intOf]; omega
      · have d1 : (i.e.ac != 2) = true := by simpa using ha
        have HS2 := hidOf2 (HS.out.trans (by rw [svI, if_neg ha, List.append_nil]))
        generalize i.e.ac = A at *
        clear HS hY
        go_wp2
        go_roundw
        case rel => exact ⟨k + 1, by omega, by go_num, by rw [HS2.out]; exact ⟨_, _, rfl⟩, by rw [HS2.out]; exact HO2, HB2⟩
        case measure => simp [intOf]; omega
    · have e1 : k = its.length := by omega
      subst e1
      rw [List.take_length] at HO
      have HO2 := hidOf2 HO.out
      clear HO hD3
      rw [List.take_length]
      go_wp2
      go_ret
      exact ⟨_, rfl, HO2.out, HB.out⟩
end Go.Proofs.YtahfnknbmikmkaaGreat
namespace Go.Proofs.YtahfnknbmikmkaaGreat
open Go.RowKit Go.Proofs.Ty Go.Sort Go.Lib
set_option linter.unusedVariables false
set_option maxRecDepth 1000000
set_option linter.unusedSimpArgs false
theorem wp_conv {o : Oper} {a : Act} {w : World} {K : Act → World → Prop} {Q : Exit → Act → World → Prop} (x : Operand) (ho : o.op = .convert 47 9 x) (v u : Value) (hx : a.eval x = v)
    (hr : (convert 47 9 v).run Tryz.prog w = .ok u w) (h : K (a.put o.dst u) w) : o.wp Tryz.prog a w K Q := by
  unfold Oper.wp execOp
  simp only [ho, hx, Sem.run_bind, Sem.run_pure, Result.andThen_ok, hr]
  exact h
end Go.Proofs.YtahfnknbmikmkaaGreat
namespace Go.Proofs.YtahfnknbmikmkaaGreat
open Go.RowKit Go.Proofs.Ty Go.Sort Go.Lib
set_option linter.unusedVariables false
set_option maxRecDepth 1000000
set_option linter.unusedSimpArgs false
/-- The program's dictionary has ia, the document's ib. -/
structure Sm (w : World) (X D R E : Nat) (ia ib : List Im) (x : World) : Prop where
  dct : Dct D R ia x
  rd : ∃ vL vV, Rd E (ib.map Im.e) vL (ib.map Im.v) vV x
  pair : x.heap[X]? = some (.cells #[.pointer (some ⟨D, 0, none⟩), .pointer (some ⟨E, 0, none⟩)] 56 (0, 0))
  below : Below w.heap.size w x
  base : ∀ b ∈ ia.map Im.b, w.heap.size ≤ b
  bE : w.heap.size ≤ E
  len : ib.length ≤ 1024
section
variable {w : World} {X D R E : Nat} {ia ib : List Im} {x y : World}
theorem Sm.next (h : Sm w X D R E ia ib x) (hb : Below x.heap.size x y) : Sm w X D R E ia ib y :=
  ⟨h.dct.below hb, by obtain ⟨vL, vV, hr⟩ := h.rd; exact ⟨vL, vV, hr.below hb⟩, (hb.block X (Array.getElem?_eq_some_iff.1 h.pair).1).trans h.pair, h.below.trans (hb.mono h.below.size), h.base, h.bE, h.len⟩
theorem Sm.cX (h : Sm w X D R E ia ib x) : x.cell? ⟨X, 0, none⟩ = some (.pointer (some ⟨D, 0, none⟩)) ∧ x.cell? ⟨X, 1, none⟩ = some (.pointer (some ⟨E, 0, none⟩)) := ⟨Lib.cell_of_heap h.pair 0, Lib.cell_of_heap h.pair 1⟩
theorem Rd.kp {L : List En} {vL : Value} {V : List Vl} {vV : Value} {its : List Im} (h : Rd E L vL V vV x) (hd : Dct D R its x) (hK : Kp (its.map Im.b) x y) : Rd E L vL V vV y :=
  ⟨kp_other hd hK h.head (by decide), h.rowL.same hK.size (fun b A fr _ h1 => (kp_other hd hK h1 (by decide)).trans h1.symm), h.rowV.same hK.size (fun b A fr _ h1 => (kp_other hd hK h1 (by decide)).trans h1.symm)⟩
theorem Sm.prog {ia' : List Im} (h : Sm w X D R E ia ib x) (hd : Dct D R ia' y) (hK : Kp (ia.map Im.b) x y) (hb : ia'.map Im.b = ia.map Im.b) : Sm w X D R E ia' ib y :=
  ⟨hd, by obtain ⟨vL, vV, hr⟩ := h.rd; exact ⟨vL, vV, hr.kp h.dct hK⟩, kp_other h.dct hK h.pair (by decide), hK.below h.below h.below.size h.base, by rw [hb]; exact h.base, h.bE, h.len⟩
theorem Sm.hr (h : Sm w X D R E ia ib x) : ∀ b, some E = some b → ∃ cur, x.heap[b]? = some (.cells cur 98 (0, 0)) := by
  obtain ⟨vL, vV, hr⟩ := h.rd
  intro b hb
  injection hb with hb
  subst hb
  exact ⟨_, hr.head⟩
theorem Sm.doc {ib' : List Im} (h : Sm w X D R E ia ib x) (hr : ∃ vL vV, Rd E (ib'.map Im.e) vL (ib'.map Im.v) vV y) (G : x.grownBy y (some E)) (hl : ib'.map Im.b = ib.map Im.b) : Sm w X D R E ia ib' y :=
  ⟨row_dct G h.hr (by decide) (by decide) (by decide) h.dct, hr, row_other G h.hr h.pair (by decide), h.below.grown G h.below.size (fun j hj => by injection hj with hj; subst hj; exact h.bE), h.base, h.bE, by have := congrArg List.length hl; simp at this; rw [this]; exact h.len⟩
end
theorem load_rd (x : World) (X k : Nat) (p : Option Addr) (hc : x.cell? ⟨X, k, none⟩ = some (.pointer p)) : (loadVar 54 ⟨X, k, none⟩).run Tryz.prog x = .ok (.pointer p) x := by
  simp [go_sem, run_underlying Tryz.underlying54, hc]
theorem exec_neqV {a : Act} {o : Oper} {x y : Operand} (v : Vl) (ho : o.op = .binOp .neq 52 x y 52) (hx : a.eval x = .agg v.arr) (hy : a.eval y = .agg v.arr) (w : World) : (execOp a.eval o).run Tryz.prog w = .ok (.value (.bool false)) w := by
  have hl := vlNeq v v w
  rw [vlB_same] at hl
  have hg : (eqGuard .neq 52 x y (.agg v.arr) (.agg v.arr)).run Tryz.prog w = .ok () w := run_eqGuard_agg w .neq 52 x y v.arr v.arr guardV
  unfold execOp
  simp only [ho, hx, hy, Sem.run_bind, Sem.run_pure, hg, Result.andThen_ok, hl]
  rfl
theorem exec_neqE {a : Act} {o : Oper} {x y : Operand} (e : En) (ho : o.op = .binOp .neq 93 x y 93) (hx : a.eval x = .agg e.arr) (hy : a.eval y = .agg e.arr) (w : World) : (execOp a.eval o).run Tryz.prog w = .ok (.value (.bool false)) w := by
  have hl := enSame e w
  have hg : (eqGuard .neq 93 x y (.agg e.arr) (.agg e.arr)).run Tryz.prog w = .ok () w := run_eqGuard_agg w .neq 93 x y e.arr e.arr guardE
  unfold execOp
  simp only [ho, hx, hy, Sem.run_bind, Sem.run_pure, hg, Result.andThen_ok, hl]
theorem enterPG : ∀ args x, (callFunc 24 args).run Tryz.prog x = .ok (.enter 24 args) x := fun _ _ => by rfl
theorem enterPV : ∀ args x, (callFunc 25 args).run Tryz.prog x = .ok (.enter 25 args) x := fun _ _ => by rfl
theorem enterPE : ∀ args x, (callFunc 40 args).run Tryz.prog x = .ok (.enter 40 args) x := fun _ _ => by rfl
theorem enterQV : ∀ args x, (callFunc 39 args).run Tryz.prog x = .ok (.enter 39 args) x := fun _ _ => by rfl
end Go.Proofs.YtahfnknbmikmkaaGreat
namespace Go.Proofs.YtahfnknbmikmkaaGreat
open Go.RowKit Go.Proofs.Ty Go.Sort Go.Lib
set_option linter.unusedVariables false
set_option maxRecDepth 1000000
set_option linter.unusedSimpArgs false
theorem insP_perm (L : List En) (x : En) : (insP L x).Perm (L ++ [x]) := by
  induction L with
  | nil => exact List.Perm.refl _
  | cons y r ih =>
    rw [insP]
    split
    · exact ih.cons y
    · exact (List.perm_append_comm (l₁ := [x]) (l₂ := y :: r))
theorem insL_perm (acc l : List En) : (insL acc l).Perm (acc ++ l.map En.plain) := by
  induction l generalizing acc with
  | nil => simp [insL]
  | cons e r ih =>
    rw [insL]
    refine (ih _).trans ?_
    rw [List.map_cons]
    have := (insP_perm acc e.plain).append_right (r.map En.plain)
    simpa using this
theorem insP_sorted {L : List En} (h : L.Pairwise (fun a b => a.pl < b.pl)) {x : En} (hx : ∀ y ∈ L, y.pl ≠ x.pl) : (insP L x).Pairwise (fun a b => a.pl < b.pl) := by
  induction L with
  | nil => simp [insP]
  | cons y r ih =>
    obtain ⟨h1, h2⟩ := List.pairwise_cons.1 h
    rw [insP]
    split
    · rename_i hlt
      refine List.pairwise_cons.2 ⟨fun z hz => ?_, ih h2 (fun z hz => hx z (List.mem_cons_of_mem _ hz))⟩
      rcases List.mem_append.1 ((insP_perm r x).mem_iff.1 hz) with h3 | h3
      · exact h1 z h3
      · obtain rfl := List.mem_singleton.1 h3; exact hlt
    · rename_i hge
      have := hx y List.mem_cons_self
      refine List.pairwise_cons.2 ⟨fun z hz => ?_, h⟩
      rcases List.mem_cons.1 hz with rfl | h3
      · omega
      · have := h1 z h3; omega
theorem plain_pl (e : En) : e.plain.pl = e.pl := rfl
theorem insL_sorted {acc l : List En} (h : acc.Pairwise (fun a b => a.pl < b.pl)) (hn : ((acc ++ l).map En.pl).Nodup) : (insL acc l).Pairwise (fun a b => a.pl < b.pl) := by
  induction l generalizing acc with
  | nil => exact h
  | cons e r ih =>
    rw [insL]
    refine ih (insP_sorted h (fun y hy => ?_)) ?_
    · rw [List.map_append, List.nodup_append] at hn
      have := hn.2.2 y.pl (List.mem_map.2 ⟨y, hy, rfl⟩) e.pl (List.mem_map.2 ⟨e, List.mem_cons_self, rfl⟩)
      rw [plain_pl]; exact this
    · have p1 : ((insP acc e.plain ++ r).map En.pl).Perm ((acc ++ e :: r).map En.pl) := by
        have := ((insP_perm acc e.plain).append_right r).map En.pl
        refine this.trans ?_
        simp [plain_pl]
      exact p1.nodup_iff.2 hn
/-- Both dictionaries have the same entries in the same order, at first. -/
theorem ins_its {its : List Im} {l : List En} (hs : its.Pairwise (fun a b => a.e.pl < b.e.pl)) (hp : (its.map Im.e).Perm (l.map En.plain)) (hn : (l.map En.pl).Nodup) : insL [] l = its.map Im.e :=
  sorted_eq (insL_sorted (by simp) (by simpa using hn)) (List.pairwise_map.2 hs) ((insL_perm [] l).trans hp.symm)
theorem ok_its {its : List Im} {l : List En} (hc : chkL l = 0) (hp : (its.map Im.e).Perm (l.map En.plain)) (hv : ∀ i ∈ its, i.v = i.e.df) : ∀ i ∈ its, Ok i := by
  intro i hi
  have h1 : i.e ∈ l.map En.plain := hp.mem_iff.1 (List.mem_map.2 ⟨i, hi, rfl⟩)
  obtain ⟨e, he, h2⟩ := List.mem_map.1 h1
  have := ok_new (chkG_all (chkL_ok hc).2.2 e he) i.b
  rw [h2] at this
  have h3 := hv i hi
  obtain ⟨b, e', v⟩ := i
  simp only at h3 this ⊢
  rw [h3]
  exact this
end Go.Proofs.YtahfnknbmikmkaaGreat
namespace Go.Proofs.YtahfnknbmikmkaaGreat
open Go.RowKit Go.Proofs.Ty Go.Sort Go.Lib
set_option linter.unusedVariables false
set_option maxRecDepth 1000000
set_option linter.unusedSimpArgs false
theorem Sm.start {w : World} {l : List En} {X D R E : Nat} {its : List Im} {vL vV : Value} {x : World} (h : Bg w X D R E its l vL vV x) (hc : chkL l = 0) : Sm w X D R E its its x ∧ ∀ i ∈ its, Ok i := by
  have e1 := ins_its h.dct.sorted h.perm (chkL_ok hc).2.1
  have e2 : (its.map Im.e).map En.df = its.map Im.v := by
    rw [List.map_map]
    apply List.map_congr_left
    intro i hi
    exact (h.vals i hi).symm
  have hr := h.rd
  rw [e1, e2] at hr
  exact ⟨⟨h.dct, ⟨vL, vV, hr⟩, h.pair, h.below, (fun b hb => by obtain ⟨i, hi, rfl⟩ := List.mem_map.1 hb; exact h.base i hi), h.bE, h.dct.len⟩, ok_its hc h.perm h.vals⟩
end Go.Proofs.YtahfnknbmikmkaaGreat
