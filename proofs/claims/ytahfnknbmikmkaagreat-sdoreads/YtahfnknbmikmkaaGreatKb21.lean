/- Contracts: Read of both dictionaries, whose bytes are new and have room. -/
import Derived.Test.YtahfnknbmikmkaaGreatKb17
import Derived.Test.YtahfnknbmikmkaaGreatKb10
import Derived.Test.YtahfnknbmikmkaaGreatKb5
namespace Go.Proofs.YtahfnknbmikmkaaGreat
open Go.RowKit Go.Proofs.Ty
set_option linter.unusedVariables false
set_option maxRecDepth 1000000
set_option linter.unusedSimpArgs false
set_option maxHeartbeats 4000000 in
theorem Encode_g (v : Vl) (w : World) :
    Calls Tryz.prog 88 #[.agg v.arr] w fun e w' => ∃ x, e = .returned (.tuple #[x, .int .i64 v.chk]) ∧ Bytes w' x v.enc ∧ Below w.heap.size w w' ∧ (∀ b, x.ownBlock = some b → w.heap.size ≤ b) ∧ Cp x ∧ (∀ b, x.ownBlock = some b → b < w'.heap.size) := by
  have fA := Va.new w v
  have bA : Below w.heap.size w (w.alloc (.cells v.arr 52)) := (Below.refl _ _).alloc (Nat.le_refl _) _
  have sA := size_alloc w (.cells v.arr 52)
  have hC := Check_v v
  have hS := Size_any v.t
  have hE : Hid (v.enc = if v.chk = 0 then (if 0 < siz v.t then lowL v.n (siz v.t) else v.s.data.toList) else []) := rfl
  have h8 := siz_le v.t
  have hn := v.hn
  have hl := v.hs
  have H2 := chk_le v.t v.n v.s
  change v.chk ≤ 2 at H2
  generalize v.chk = C at *
  generalize siz v.t = z at *
  go_enter Tryz.func88, Tryz.ntmps88
  generalize hW : w.alloc (.cells v.arr 52) = W at *
  generalize hq : w.heap.size = q at *
  go_wp2_with (refine fA.ld rfl _ rfl rfl ?_)
  refine (hC _).mono ?_
  rintro e w1 ⟨rfl, b1⟩
  have f1 := fA.below b1
  have B1 := bA.trans (b1.mono (by omega))
  have s1 := b1.size
  have c0 := f1.c0
  have c1 := f1.c1
  have c2 := f1.c2
  clear hC fA bA b1
  by_cases h0 : C = 0
  · subst h0
    by_cases hz : 0 < z
    · have dz : decide (0 < z) = true := by simpa using hz
      rw [dz] at hS
      have e1 := hidOf (show v.enc = lowL v.n z by rw [hE.out]; simp [hz])
      clear hE
      obtain ⟨i0, hi, hz0, hz1, hz2⟩ := info_parts info5
      go_wp2_with (first | (go_at_call 118; refine (hS _).mono ?_; rintro e w2 ⟨rfl, rfl⟩) | (at_make; refine wpList_make_row _ rfl _ _ 47 rfl 5 i0 (.int .u8 0) Tryz.underlying47 hi hz0 hz1 rfl .i64 .i64 z rfl rfl (by rw [hz2]; omega) (by omega) ?_))
      have hR0 : Row (w2.alloc (.cells (madeCells #[.int .u8 0] z) 5)) w2.heap.size (Lib.byteCells (lowL v.n 0 ++ List.replicate (z - 0) 0)) := by
        have := Row.made w2 (.int .u8 0) z 5
        rw [rep_cells] at this
        exact this
      go_loopw [28] (fun i wr => ∃ k : Nat, k ≤ z ∧ i = .int .i64 k ∧ Row wr w2.heap.size (Lib.byteCells (lowL v.n k ++ List.replicate (z - k) 0)) ∧ Below w2.heap.size w2 wr) (fun i _ => z - (intOf i).toNat)
      case atStart => exact ⟨0, Nat.zero_le _, rfl, hR0, (Below.refl _ _).alloc (Nat.le_refl _) _⟩
      case round =>
        obtain ⟨k, hk, rfl, hR, hb⟩ := hrel
        by_cases hkz : k < z
        · have c1' := (f1.below hb).c1
          have hlen : (Lib.byteCells (lowL v.n k ++ List.replicate (z - k) 0)).length = z := by
            rw [Lib.byteCells_length, List.length_append, lowL_length, List.length_replicate]; omega
          have hc := hR.cell k (by rw [hlen]; exact hkz)
          have hf := hR.free k (by rw [hlen]; exact hkz)
          have HR2 := hR.set k (.int .u8 (UInt8.ofNat (v.n / 256 ^ k)).toNat)
          rw [byteCells_set, low_set _ _ _ hkz, ← byte_at] at HR2
          have HR3 := hidOf HR2
          clear HR2
          go_wp2
          go_roundw
          case rel => exact ⟨k + 1, by omega, by go_num, HR3.out, hb.setCell (p := ⟨w2.heap.size, k, none⟩) (Nat.le_refl _) _⟩
          case measure => simp [intOf]; omega
        · obtain rfl : k = z := by omega
          go_wp2
          go_ret2
          refine ⟨_, rfl, ?_, B1.trans (hb.mono (by omega)), (fun b hb2 => by simp [Value.ownBlock] at hb2; omega), (fun _ _ _ e => by injection e; omega), (fun b hb2 => by simp [Value.ownBlock] at hb2; have := hR.lt; omega)⟩
          rw [e1.out]
          have := Bytes.of_row (l := lowL v.n k) (by simpa using hR) k
          rw [lowL_length] at this
          exact this
    · have dz : decide (0 < z) = false := by simpa using hz
      rw [dz] at hS
      have e1 := hidOf (show v.enc = v.s.data.toList by rw [hE.out]; simp [hz])
      clear hE
      have hconv := run_bytes_of_string (P := Tryz.prog) w1 9 47 5 v.s Tryz.underlying9 Tryz.underlying47 Tryz.underlying5
      have hR0 := Row.ofText w1 v.s (grownCap w1 v.s.size 0 5) 5
      go_wp2_with (go_at_call 118; refine (hS _).mono ?_; rintro e w2 ⟨rfl, rfl⟩)
      go_ret2
      refine ⟨_, rfl, ?_, (B1.trans ((Below.refl _ _).alloc (by omega) _)).drew, (fun b hb2 => by simp [Value.ownBlock] at hb2; omega), (fun _ _ _ e => by injection e with _ e2 e3; rw [← e2, ← e3]; exact grownCap_ge _ _ _ _), (fun b hb2 => by simp [Value.ownBlock] at hb2; simp [World.drew, size_alloc]; omega)⟩
      rw [e1.out]
      have := Bytes.of_row (l := v.s.data.toList) hR0 (grownCap w2 v.s.size 0 5)
      rw [show v.s.data.toList.length = v.s.size by simp] at this
      exact this
  · have dz : ((C : Int) != 0) = true := by simpa using h0
    have e1 := hidOf (show v.enc = [] by rw [hE.out]; simp [h0])
    clear hE
    go_wp2
    go_ret2
    exact ⟨_, rfl, by rw [e1.out]; exact Bytes.nil _, B1, (fun b hb2 => by cases hb2), (fun _ _ _ e => by injection e; omega), (fun b hb2 => by cases hb2)⟩
set_option maxHeartbeats 4000000 in
theorem r7low_g (n z : Nat) (hz : z ≤ 8) (w : World) :
    Calls Tryz.prog 87 #[.int .u64 n, .int .i64 z] w fun e w' => ∃ x, e = .returned x ∧ Bytes w' x (lowL n z) ∧ Below w.heap.size w w' ∧ (∀ b, x.ownBlock = some b → w.heap.size ≤ b) ∧ Cp x ∧ (∀ b, x.ownBlock = some b → b < w'.heap.size) := by
  have hown0 := own_empty w
  go_enter Tryz.func87, Tryz.ntmps87
  go_wp2
  go_loopw [5, 6] (fun v i wr => ∃ k : Nat, k ≤ z ∧ i = .int .i64 k ∧ wr.ownsRow w.heap.size 5 1 v (lowL n k).length (Lib.byteCells (lowL n k)) ∧ Below w.heap.size w wr) (fun _ i _ => z - (intOf i).toNat)
  case atStart => exact ⟨0, Nat.zero_le _, rfl, hown0, (Below.refl _ _).alloc (Nat.le_refl _) _⟩
  case round =>
    obtain ⟨k, hk, rfl, hown, hb⟩ := hrel
    by_cases hkz : k < z
    · have hsn := hidOf (lowL_snoc n k)
      have hlen := lowL_length n k
      have szw := hb.size
      have hcb := byte_at n k
      rw [Nat.mul_comm] at hcb
      have hcell := cell_new wr (.int .u8 (UInt8.ofNat (n / 256 ^ k)).toNat) 5
      have hown2 := ownsRow_alloc hown (.cells #[.int .u8 (UInt8.ofNat (n / 256 ^ k)).toNat] 5)
      have hlt := own_lt hown
      generalize UInt8.ofNat (n / 256 ^ k) = c at *
      generalize lowL n k = acc at *
      go_wp2_with (at_builtin; refine append_one rfl _ _ rfl w.heap.size _ acc rfl hown2 ⟨wr.heap.size, 0, none⟩ c rfl hcell (by omega) (by rw [size_alloc]; omega) ?_)
      intro v' w1 o1 g1
      have b1 : Below w.heap.size w w1 := (hb.alloc szw _).grown g1 (by rw [size_alloc]; omega) hlt
      rw [← hsn.out] at o1
      clear hown2 g1 hcell
      go_wp2
      go_roundw
      case rel => exact ⟨k + 1, by omega, by go_num, by rw [lowL_length]; exact o1, b1⟩
      case measure => simp [intOf]; omega
    · obtain rfl : k = z := by omega
      go_wp2
      go_ret
      exact ⟨_, rfl, bytes_of_own hown, hb, own_lt hown, own_cp hown, own_block_lt hown⟩
set_option maxHeartbeats 4000000 in
theorem r7Encode_g (v : Vl) (w : World) :
    Calls Tryz.prog 56 #[.agg v.arr] w fun e w' => ∃ x, e = .returned (.tuple #[x, .int .i64 v.chk]) ∧ Bytes w' x v.enc ∧ Below w.heap.size w w' ∧ (∀ b, x.ownBlock = some b → w.heap.size ≤ b) ∧ Cp x ∧ (∀ b, x.ownBlock = some b → b < w'.heap.size) := by
  have fA := Va.new w v
  have bA : Below w.heap.size w (w.alloc (.cells v.arr 52)) := (Below.refl _ _).alloc (Nat.le_refl _) _
  have sA := size_alloc w (.cells v.arr 52)
  have hC := r7Check_v v
  have hS := r7Size_any v.t
  have hE : Hid (v.enc = if v.chk = 0 then (if 0 < siz v.t then lowL v.n (siz v.t) else v.s.data.toList) else []) := rfl
  have hLow := fun w => r7low_g v.n (siz v.t) (siz_le v.t) w
  generalize v.chk = C at *
  generalize siz v.t = z at *
  go_enter Tryz.func56, Tryz.ntmps56
  generalize hW : w.alloc (.cells v.arr 52) = W at *
  generalize hq : w.heap.size = q at *
  go_wp2_with (refine fA.ld rfl _ rfl rfl ?_)
  refine (hC _).mono ?_
  rintro e w1 ⟨rfl, b1⟩
  have f1 := fA.below b1
  have B1 := bA.trans (b1.mono (by omega))
  have s1 := b1.size
  have c0 := f1.c0
  have c1 := f1.c1
  have c2 := f1.c2
  clear hC fA bA b1
  by_cases h0 : C = 0
  · subst h0
    by_cases hz : 0 < z
    · have dz : decide ((0 : Int) < (z : Int)) = true := decide_eq_true (by omega)
      have e1 := hidOf (show v.enc = lowL v.n z by rw [hE.out]; simp [hz])
      clear hE
      go_wp2_with (first | (go_at_call 85; refine (hS _).mono ?_; rintro e w2 ⟨rfl, rfl⟩))
      refine (hLow _).mono ?_
      rintro e w3 ⟨x, rfl, hB3, b3, hN3, hC3, hL3⟩
      have B3 := B1.trans (b3.mono (by omega))
      go_wp2
      go_ret2
      exact ⟨_, rfl, by rw [e1.out]; exact hB3, B3, fun b hb => by have := hN3 b hb; omega, hC3, hL3⟩
    · have dz : decide ((0 : Int) < (z : Int)) = false := decide_eq_false (by omega)
      have e1 := hidOf (show v.enc = v.s.data.toList by rw [hE.out]; simp [hz])
      clear hE
      have hconv := run_bytes_of_string (P := Tryz.prog) w1 9 47 5 v.s Tryz.underlying9 Tryz.underlying47 Tryz.underlying5
      have hR0 := Row.ofText w1 v.s (grownCap w1 v.s.size 0 5) 5
      go_wp2_with (go_at_call 85; refine (hS _).mono ?_; rintro e w2 ⟨rfl, rfl⟩)
      go_ret2
      refine ⟨_, rfl, ?_, (B1.trans ((Below.refl _ _).alloc (by omega) _)).drew, fun b hb => by injection hb with hb; subst hb; show q ≤ w2.heap.size; have := B1.size; omega, (fun _ _ _ e => by injection e with _ e2 e3; rw [← e2, ← e3]; exact grownCap_ge _ _ _ _), (fun b hb => by injection hb with hb; subst hb; simp [World.drew, size_alloc])⟩
      rw [e1.out]
      have := Bytes.of_row (l := v.s.data.toList) hR0 (grownCap w2 v.s.size 0 5)
      rw [show v.s.data.toList.length = v.s.size by simp] at this
      exact this
  · have dz : ((C : Int) != 0) = true := by simpa using h0
    have e1 := hidOf (show v.enc = [] by rw [hE.out]; simp [h0])
    clear hE
    go_wp2
    go_ret2
    exact ⟨_, rfl, by rw [e1.out]; exact Bytes.nil _, B1, (fun b hb => by cases hb), (fun _ _ _ e => by injection e; omega), (fun b hb => by cases hb)⟩
set_option maxHeartbeats 4000000 in
theorem ibytes_g {b : Nat} {e : En} {v : Vl} {w : World} (h : Ib b e v w) :
    Calls Tryz.prog 48 #[.pointer (some ⟨b, 0, none⟩)] w fun y w' => ∃ x, y = .returned x ∧ Bytes w' x v.enc ∧ Below w.heap.size w w' ∧ (∀ b, x.ownBlock = some b → w.heap.size ≤ b) ∧ Cp x ∧ (∀ b, x.ownBlock = some b → b < w'.heap.size) := by
  have hE := Encode_g v w
  have r1 := h.r14
  go_enter Tryz.func48, Tryz.ntmps48
  go_wp2_with (first | (refine ldV r1 rfl _ rfl rfl ?_))
  refine hE.mono ?_
  rintro y w1 ⟨x, rfl, hB, b1, hN, hCx, hLx⟩
  obtain ⟨ao, cap, rfl⟩ := bytes_shape hB
  have HB := hidOf2 hB
  have HN := hidOf2 hN
  have HCx := hidOf2 hCx
  have HLx := hidOf2 hLx
  clear hCx hLx
  clear hE r1 h hB hN
  go_wp2
  go_ret
  exact ⟨_, rfl, HB.out, b1, HN.out, HCx.out, HLx.out⟩
set_option maxHeartbeats 4000000 in
theorem Read_g {D R : Nat} {its : List Im} {w : World} (h : Dct D R its w) (ix sb : Nat) (h1 : ix < 65536) (h2 : sb < 256) :
    Calls Tryz.prog 112 #[.pointer (some ⟨D, 0, none⟩), .int .u16 ix, .int .u8 sb] w fun e w' => ∃ x, e = .returned (.tuple #[x, .int .u32 (rdC its ix sb)]) ∧ Bytes w' x (rdL its ix sb) ∧ Below w.heap.size w w' ∧ (∀ b, x.ownBlock = some b → w.heap.size ≤ b) ∧ Cp x ∧ (∀ b, x.ownBlock = some b → b < w'.heap.size) := by
  have HC : Hid (rdC its ix sb = match fnd its ix sb with
    | none => noc its ix
    | some i => if i.e.ac = 1 then 100728833 else 0) := rfl
  have HL : Hid (rdL its ix sb = match fnd its ix sb with
    | none => []
    | some i => if i.e.ac = 1 then [] else i.v.enc) := rfl
  generalize rdC its ix sb = C at *
  generalize rdL its ix sb = L at *
  cases hf : fnd its ix sb with
  | none =>
    rw [hf] at HC HL
    have hF := find_none h ix sb h1 h2 hf
    have d1 : ((noc its ix : Int) != 0) = true := by have := noc_ne its ix; simp; omega
    generalize noc its ix = N at *
    clear h hf
    go_enter Tryz.func112, Tryz.ntmps112
    go_wp2_with fail
    refine hF.mono ?_
    rintro e w1 ⟨rfl, b1⟩
    clear hF
    go_wp2
    go_ret2
    exact ⟨_, by rw [HC.out]; rfl, by rw [HL.out]; exact bytes_nil _, b1, (fun b hb => by cases hb), (fun _ _ _ e => by injection e; omega), (fun b hb => by cases hb)⟩
  | some i =>
    rw [hf] at HC HL
    have hF := find_some h ix sb h1 h2 hf
    have hI := h.items i (fnd_mem hf)
    unfold ptrI at hF
    clear h hf
    go_enter Tryz.func112, Tryz.ntmps112
    go_wp2_with fail
    refine hF.mono ?_
    rintro e w1 ⟨rfl, b1⟩
    have hI1 := hI.below b1
    obtain ⟨_, _, c2, _⟩ := hI1.c
    have hY := ibytes_g hI1
    clear hF hI hI1
    by_cases ha : i.e.ac = 1
    · have HC2 := hidOf2 (show C = 100728833 from HC.out.trans (if_pos ha))
      have HL2 := hidOf2 (show L = [] from HL.out.trans (if_pos ha))
      rw [ha] at c2
      clear HC HL hY ha
      go_wp2
      go_ret2
      exact ⟨_, by rw [HC2.out]; rfl, by rw [HL2.out]; exact bytes_nil _, b1, (fun b hb => by cases hb), (fun _ _ _ e => by injection e; omega), (fun b hb => by cases hb)⟩
    · have HC2 := hidOf2 (show C = 0 from HC.out.trans (if_neg ha))
      have HL2 := hidOf2 (show L = i.v.enc from HL.out.trans (if_neg ha))
      have d1 : (i.e.ac == 1) = false := by simpa using ha
      clear HC HL ha
      generalize i.e.ac = A at *
      go_wp2_with fail
      refine hY.mono ?_
      rintro y w2 ⟨x, rfl, hB, b2, hN, hCx, hLx⟩
      obtain ⟨ao, cap, rfl⟩ := bytes_shape hB
      have HB := hidOf2 hB
      have HN := hidOf2 (fun b hb => Nat.le_trans b1.size (hN b hb))
      have HCx := hidOf2 hCx
      have HLx := hidOf2 hLx
      clear hN hCx hLx
      have B2 := b1.trans (b2.mono b1.size)
      clear hY hB b2 b1
      go_wp2
      go_ret2
      exact ⟨_, by rw [HC2.out]; rfl, by rw [HL2.out]; exact HB.out, B2, HN.out, HCx.out, HLx.out⟩
set_option maxHeartbeats 4000000 in
theorem QRead_g {E : Nat} {its : List Im} {vL vV : Value} {w : World} (h : Rd E (its.map Im.e) vL (its.map Im.v) vV w) (hl : its.length ≤ 1024) (ix sb : Nat) :
    Calls Tryz.prog 30 #[.pointer (some ⟨E, 0, none⟩), .int .u16 ix, .int .u8 sb] w fun e w' => ∃ x, e = .returned (.tuple #[x, .int .u32 (rdC its ix sb)]) ∧ Bytes w' x (rdL its ix sb) ∧ Below w.heap.size w w' ∧ (∀ b, x.ownBlock = some b → w.heap.size ≤ b) ∧ Cp x ∧ (∀ b, x.ownBlock = some b → b < w'.heap.size) := by
  have hF := QFind_any h (by simpa using hl) ix sb
  have HC : Hid (rdC its ix sb = match fnd its ix sb with
    | none => noc its ix
    | some i => if i.e.ac = 1 then 100728833 else 0) := rfl
  have HL : Hid (rdL its ix sb = match fnd its ix sb with
    | none => []
    | some i => if i.e.ac = 1 then [] else i.v.enc) := rfl
  generalize rdC its ix sb = C at *
  generalize rdL its ix sb = L at *
  cases hf : fnd its ix sb with
  | none =>
    rw [hf] at HC HL
    obtain ⟨f1, f2⟩ := fi_none hf
    rw [f1, f2] at hF
    have d1 : ((noc its ix : Int) != 0) = true := by have := noc_ne its ix; simp; omega
    generalize noc its ix = N at *
    clear h hf f1 f2
    go_enter Tryz.func30, Tryz.ntmps30
    go_wp2_with fail
    refine hF.mono ?_
    rintro e w1 ⟨rfl, rfl⟩
    clear hF
    go_wp2
    go_ret2
    exact ⟨_, by rw [HC.out]; rfl, by rw [HL.out]; exact bytes_nil _, Below.refl _ _, (fun b hb => by cases hb), (fun _ _ _ e => by injection e; omega), (fun b hb => by cases hb)⟩
  | some i =>
    rw [hf] at HC HL
    obtain ⟨k, hk, e1, f1, f2⟩ := fi_some hf
    obtain ⟨c0, c1⟩ := h.c
    obtain ⟨lb, lo, cL, vb, vo, cV, rfl, rfl, hlb, hvb, rL, rV⟩ := h.atI hk
    rw [e1] at rL rV
    rw [f1, f2] at hF
    have k2 := rL 2 _ rfl
    have hE := r7Encode_g i.v w
    clear h hf e1 f1 f2 rL
    generalize its.length = n at *
    go_enter Tryz.func30, Tryz.ntmps30
    go_wp2_with fail
    refine hF.mono ?_
    rintro e w1 ⟨rfl, rfl⟩
    clear hF
    by_cases ha : i.e.ac = 1
    · have HC2 := hidOf2 (show C = 100728833 from HC.out.trans (if_pos ha))
      have HL2 := hidOf2 (show L = [] from HL.out.trans (if_pos ha))
      rw [ha] at k2
      clear HC HL hE ha
      go_wp2
      go_ret2
      exact ⟨_, by rw [HC2.out]; rfl, by rw [HL2.out]; exact bytes_nil _, Below.refl _ _, (fun b hb => by cases hb), (fun _ _ _ e => by injection e; omega), (fun b hb => by cases hb)⟩
    · have HC2 := hidOf2 (show C = 0 from HC.out.trans (if_neg ha))
      have HL2 := hidOf2 (show L = i.v.enc from HL.out.trans (if_neg ha))
      have d1 : (i.e.ac == 1) = false := by simpa using ha
      clear HC HL ha
      generalize i.e.ac = A at *
      go_wp2_with (first | (refine ldV rV rfl _ rfl rfl ?_))
      refine hE.mono ?_
      rintro y w2 ⟨x, rfl, hB, b2, hN, hCx, hLx⟩
      obtain ⟨ao, cap, rfl⟩ := bytes_shape hB
      have HB := hidOf2 hB
      have HN := hidOf2 hN
      have HCx := hidOf2 hCx
      have HLx := hidOf2 hLx
      clear hN hCx hLx
      clear hE hB
      go_wp2
      go_ret2
      exact ⟨_, by rw [HC2.out]; rfl, by rw [HL2.out]; exact HB.out, b2, HN.out, HCx.out, HLx.out⟩
theorem bslice_t {w : World} {v : Value} {l : List UInt8} (h : Bytes w v l) (hc : Cp v) (lo : Nat) (h1 : lo ≤ l.length) : ∃ a c, (∀ W, (Instr.sliceAt 47 v (some (.int .i64 lo)) none none).run Tryz.prog W = .ok (.slice a (l.length - lo) c) W) ∧ (∀ x, Bytes x v l → Bytes x (.slice a (l.length - lo) c) (l.drop lo)) ∧ Cp (.slice a (l.length - lo) c) ∧ (∀ b, (Value.slice a (l.length - lo) c).ownBlock = some b → v.ownBlock = some b) := by
  obtain ⟨i0, hi0, hz0, hz1, hz2⟩ := info_parts info5
  obtain ⟨ao, cap, rfl⟩ : ∃ ao cap, v = .slice ao l.length cap := by obtain ⟨ao, cap, h, _⟩ := h; exact ⟨ao, cap, h⟩
  have hcap := hc _ _ _ rfl
  have a0 : (0 : Int) ≤ (lo : Int) := by omega
  have a1 : (lo : Int) ≤ (l.length : Int) := by omega
  have a2 : (l.length : Int) ≤ (cap : Int) := by omega
  cases ao with
  | none =>
    obtain ⟨rfl, hv⟩ := bslice_nil h ⟨_, rfl⟩
    injection hv with _ _ e3
    subst e3
    obtain rfl : lo = 0 := by simpa using h1
    refine ⟨none, 0, fun W => ?_, fun x hx => by simpa using hx, fun _ _ _ e => by injection e; omega, fun b hb => by cases hb⟩
    simp [Instr.sliceAt, run_underlying Tryz.underlying47, go_sem, sizeOf, typeInfo, hi0, hz1, Addr.add]
  | some a =>
    refine ⟨some (adB a lo cap), cap - lo, fun W => ?_, fun x hx => ?_, fun _ _ _ e => by injection e; omega, fun b hb => ?_⟩
    · simp [Instr.sliceAt, run_underlying Tryz.underlying47, go_sem, sizeOf, typeInfo, hi0, hz1, Addr.add, a0, a1, a2, adB]
      try (split <;> rfl)
    · have := bytes_part hx lo l.length h1 (Nat.le_refl _) hcap (cap - lo)
      rw [List.take_of_length_le (by rw [List.length_drop]; omega)] at this
      exact this
    · unfold adB at hb
      by_cases g1 : lo = cap
      · simp [g1, Value.ownBlock] at hb ⊢; first | exact hb | (split at hb <;> exact hb)
      · by_cases g2 : lo = 0
        · simp [g1, g2, Value.ownBlock] at hb ⊢; first | exact hb | (split at hb <;> exact hb)
        · simp [g1, g2, Value.ownBlock] at hb ⊢; first | exact hb | (split at hb <;> exact hb)
end Go.Proofs.YtahfnknbmikmkaaGreat
