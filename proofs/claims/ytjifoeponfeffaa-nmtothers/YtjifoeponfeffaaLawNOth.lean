/- The law NmtOthers returns true whatever calls come, whatever the command and the node. -/
import Derived.Test.YtjifoeponfeffaaNnH
namespace Go.Proofs.Ytjifoeponfeffaa
open Go.RowKit
set_option linter.unusedVariables false
set_option maxRecDepth 1000000
set_option linter.unusedSimpArgs false
/-- What stands ahead of each call: three nodes in the same state. -/
structure RO (p p1 p2 k : Nat) (w x : World) (s : Nd) : Prop where
  a : Na p s x
  b : Na p1 s x
  c : Na p2 s x
  below : Below p w x
  few : s.few k
theorem bytes_pair2 (w : World) (x y : UInt8) : Bytes (w.alloc (.cells #[.int .u8 x.toNat, .int .u8 y.toNat] 5)) (.slice (some ⟨w.heap.size, 0, none⟩) 2 2) [x, y] := by
  have hh := heap_alloc_new w (.cells #[.int .u8 x.toNat, .int .u8 y.toNat] 5)
  refine ⟨_, 2, rfl, (fun h => by cases h), fun k hk => ⟨w.heap.size, 0, rfl, by simp, ?_⟩⟩
  rw [Nat.zero_add, Lib.cell_of_heap hh k]
  match k, hk with
  | 0, _ => rfl
  | 1, _ => rfl
theorem byte_of {c : Int} (h : 0 ≤ c) (h2 : c < 256) : ∃ x : UInt8, (x.toNat : Int) = c := ⟨c.toNat.toUInt8, by simp; omega⟩
theorem isC_byte {c : Int} (h : isC c = true) : ∃ x : UInt8, (x.toNat : Int) = c := by
  rcases isC_cases h with e | e | e | e | e
  all_goals exact byte_of (by omega) (by omega)
theorem isN_byte {n : Int} (h : isN n = true) : ∃ x : UInt8, (x.toNat : Int) = n ∧ x.toNat ≤ 127 := by
  have h2 : 0 ≤ n ∧ n ≤ 127 := by simpa [isN] using h
  obtain ⟨x, hx⟩ := byte_of h2.1 (by omega)
  exact ⟨x, hx, by omega⟩
theorem Nd.other {s : Nd} {x y : UInt8} (h1 : s.id = 7) (h2 : (y.toNat : Int) ≠ 0) (h3 : (y.toNat : Int) ≠ 7) : s.told [x, y] = 0 ∧ s.take [x, y] = s := by
  have e : s.two x.toNat y.toNat = false := by
    simp [two, hears, h1]
    intro _ h4
    omega
  simp [told, take, e]
theorem Nd.alike {s : Nd} {x : UInt8} (h1 : s.id = 7) : s.told [x, 7] = s.told [x, 0] ∧ s.take [x, 7] = s.take [x, 0] := by
  have e : s.two x.toNat (7 : UInt8).toNat = s.two x.toNat (0 : UInt8).toNat := by
    have z7 : ((7 : UInt8).toNat : Int) = 7 := rfl
    have z0 : ((0 : UInt8).toNat : Int) = 0 := rfl
    simp [two, hears, h1, z7, z0]
  unfold told take
  refine ⟨?_, ?_⟩
  · show (if _ then _ else _) = (if _ then _ else _)
    rw [e]
  · show (if _ then _ else _) = (if _ then _ else _)
    rw [e]
theorem Nd.few.le {s : Nd} {j k : Nat} (h : s.few j) (hk : j ≤ k) : s.few k := by
  obtain ⟨a, b, c, d⟩ := h
  exact ⟨a, by omega, c, by omega⟩
set_option maxHeartbeats 4000000 in
theorem noth_walk (v : Value) (l : List A17) (cmd nod : Int) (hl : l.length ≤ 140737488351232) (w : World) (hok : ∀ a ∈ l, a.ok w) (hB : Wide 3 A17.c w v l) :
    Calls Try.prog 6 #[v, .int .i64 cmd, .int .i64 nod] w fun r w' => r = .returned (.bool true) ∧ Below w.heap.size w w' := by
  obtain ⟨ao, cap, rfl, _, hc⟩ := hB
  have HC : Hid (∀ (wr : World), Below w.heap.size w wr → ∀ k (hk : k < l.length), ∃ b off, ao = some ⟨b, off, none⟩ ∧ b < w.heap.size ∧ wr.rangeAt b (off + k * 3) (A17.c l[k])) := fun wr hb k hk => Wide.at hc hb k hk
  have HOK : Hid (∀ k (hk : k < l.length), l[k].ok w) := fun k hk => hok _ (List.getElem_mem hk)
  clear hc hok
  have hN := fun x => new_ok x 7 rfl
  obtain ⟨p, hp⟩ : ∃ p, w.heap.size = p := ⟨_, rfl⟩
  have hN0 := hN w
  rw [hp] at hN0 HC ⊢
  go_enter Try.func6, Try.ntmps6
  go_upto_region 2 with (go_at_call 8; refine hN0.mono ?_; rintro r w1 ⟨rfl, N1, B1⟩)
  obtain ⟨p1, hp1⟩ : ∃ p1, w1.heap.size = p1 := ⟨_, rfl⟩
  have lp1 : p < p1 := by rw [← hp1]; exact Bc.lt N1
  have hN1 := hN w1
  rw [hp1] at hN1
  go_upto_region 3 with (go_at_call 8; refine hN1.mono ?_; rintro r w2 ⟨rfl, N2, B2⟩)
  have N12 : Na p ⟨7, 7, 0, 0, 0⟩ w2 := Bc.below N1 (by rw [hp1]; exact B2)
  have B12 : Below p w w2 := B1.trans (B2.mono (by omega))
  obtain ⟨p2, hp2⟩ : ∃ p2, w2.heap.size = p2 := ⟨_, rfl⟩
  have lp2 : p1 < p2 := by rw [← hp2]; exact Bc.lt N2
  have hN2 := hN w2
  rw [hp2] at hN2
  clear N1 B1 B2 hN0 hN1 hN
  go_upto_region 4 with (go_at_call 8; refine hN2.mono ?_; rintro r w3 ⟨rfl, N3, B3⟩)
  have HI : Hid (RO p p1 p2 0 w w3 ⟨7, 7, 0, 0, 0⟩) := ⟨Bc.below N12 (by rw [hp2]; exact B3), Bc.below N2 (by rw [hp2]; exact B3), N3, B12.trans (B3.mono (by omega)), ⟨by decide, by decide, by decide, by decide⟩⟩
  clear N12 N2 N3 B12 B3 hN2
  go_wp2_with fail
  go_loopw [13] (fun s13 x => ∃ k s, k ≤ l.length ∧ s13 = .int .i64 (k : Nat) ∧ RO p p1 p2 k w x s) (fun s13 _ => l.length - (intOf s13).toNat)
  case atStart => exact ⟨0, _, by omega, rfl, HI.out⟩
  case round =>
    clear HI
    obtain ⟨k, s, hk, rfl, hR⟩ := hrel
    have B5 := hR.below
    have hszp : p ≤ wr.heap.size := by have := B5.size; omega
    by_cases hkl : k < l.length
    · have hd : decide ((k : Int) < (l.length : Int)) = true := by simp; omega
      obtain ⟨b, off, rfl, hb, hRb⟩ := HC.out wr B5 k hkl
      have ha := HOK.out k hkl
      have hRn := hidOf2 (fun (y : World) (hy : Below p w y) => show y.rangeAt b (off + k * 3) l[k].c from by
        obtain ⟨b', off', e, _, h9⟩ := HC.out y hy k hkl
        injection e with e; injection e with e1 e2; subst e1; subst e2; exact h9)
      generalize l[k] = a at *
      obtain ⟨kd, n, bv, bl⟩ := a
      obtain ⟨hkd, hnb, hbv, hbl⟩ := ha
      simp only at hkd hnb hbv hbl
      have HBy : Hid (∀ x, Below p w x → Bytes x bv bl) := fun x hx => hbv.below (by rw [hp]; exact hx)
      clear hbv hRb
      obtain ⟨q, hq⟩ : ∃ q, wr.heap.size = q := ⟨_, rfl⟩
      obtain ⟨X, hX⟩ : ∃ x, wr.alloc (.cells #[.int .i64 7, .int .i64 7, .int .i64 0, .int .i64 0, .int .i64 0] 30) = x := ⟨_, rfl⟩
      have lq : p2 < q := by rw [← hq]; exact Bc.lt hR.c
      have BX1 : Below wr.heap.size wr X := by rw [← hX]; exact (Below.refl _ _).alloc (Nat.le_refl _) _
      have D0 : Nb q ⟨7, 7, 0, 0, 0⟩ X := by rw [← hX, ← hq]; exact Nb.new wr 7
      have A0 : Na p s X := Bc.below hR.a BX1
      have A1 : Na p1 s X := Bc.below hR.b BX1
      have A2 : Na p2 s X := Bc.below hR.c BX1
      have BX : Below p w X := B5.trans (BX1.mono hszp)
      have hf := hR.few
      have t0 : Nd.few ⟨7, 7, 0, 0, 0⟩ 0 := ⟨by decide, by decide, by decide, by decide⟩
      have o0 : Nd.Ok ⟨7, 7, 0, 0, 0⟩ := .inl rfl
      have hpX : p ≤ X.heap.size := by have := BX.size; omega
      have hJ : (k : Nat) ≤ 140737488351240 := by omega
      have hd0 := does_any (P0 := p) A0 D0 (by omega) (Nat.le_refl _) (by omega) (hf.le hJ) (t0.le (Nat.zero_le _)) (by omega) o0 kd n bv bl (fun x hx => HBy.out x (BX.trans hx)) hbl
      have hRX := hRn.out X BX
      clear hR B5 BX1 A0 D0
      go_upto_region 10 with fail
      clear hX
      go_upto_region 11 with (first | (refine A17.ld hRX rfl _ rfl rfl ?_; unfold A17.arr; simp only) | (go_at_call 23; refine hd0.mono ?_; rintro r w4 ⟨rfl, E0, D1, T1⟩))
      have B4 : Below p w w4 := BX.trans (T1.below hpX (Nat.le_refl _) (by omega))
      have hp4 : p ≤ w4.heap.size := by have := B4.size; omega
      have l1 := Bc.lt A1
      have l2 := Bc.lt A2
      replace A1 : Na p1 s w4 := Bc.two A1 T1 (by omega) (by omega)
      replace A2 : Na p2 s w4 := Bc.two A2 T1 (by omega) (by omega)
      have t1 := t0.act kd n bl
      have o1 := Nd.act_ok o0 kd n bl
      have hd1 := does_any (P0 := p) A1 D1 (by omega) (by omega) (by omega) (hf.le hJ) (t1.le (by omega)) (by omega) o1 kd n bv bl (fun x hx => HBy.out x (B4.trans hx)) hbl
      have hR4 := hRn.out w4 B4
      clear T1 BX hRX hd0 A1 D1 hpX
      go_upto_region 12 with (first | (refine A17.ld hR4 rfl _ rfl rfl ?_; unfold A17.arr; simp only) | (go_at_call 23; refine hd1.mono ?_; rintro r w5 ⟨rfl, E1, D2, T2⟩))
      have B6 : Below p w w5 := B4.trans (T2.below hp4 (by omega) (by omega))
      have hp5 : p ≤ w5.heap.size := by have := B6.size; omega
      have l0 := Bc.lt E0
      have l2 := Bc.lt A2
      replace E0 : Na p _ w5 := Bc.two E0 T2 (by omega) (by omega)
      replace A2 : Na p2 s w5 := Bc.two A2 T2 (by omega) (by omega)
      have t2 := t1.act kd n bl
      have o2 := Nd.act_ok o1 kd n bl
      have hd2 := does_any (P0 := p) A2 D2 (by omega) (by omega) (by omega) (hf.le hJ) (t2.le (by omega)) (by omega) o2 kd n bv bl (fun x hx => HBy.out x (B6.trans hx)) hbl
      have hR5 := hRn.out w5 B6
      have HF : Hid (∀ y, Na p2 (s.act kd n bl) y → Two p2 q w5 y → RO p p1 p2 (k + 1) w y (s.act kd n bl)) := fun y hy hT => ⟨Bc.two E0 hT (by omega) (by omega), Bc.two E1 hT (by omega) (by omega), hy, B6.trans (hT.below hp5 (by omega) (by omega)), hf.act kd n bl⟩
      clear T2 B4 hR4 hd1 A2 D2 E0 E1 l0 l1 l2 hp4 B6 hf t0 t1 t2 o0 o1 o2
      go_upto_region 8 with (first | (refine A17.ld hR5 rfl _ rfl rfl ?_; unfold A17.arr; simp only) | (go_at_call 23; refine hd2.mono ?_; rintro r w6 ⟨rfl, E2, D3, T3⟩))
      have HJ := hidOf2 (HF.out w6 E2 T3)
      clear HF E2 D3 T3 hR5 hd2
      go_wp2_with fail
      go_roundw
      case rel => exact ⟨k + 1, _, by omega, rfl, HJ.out⟩
      case measure => simp [intOf]; omega
    · have hd : decide ((k : Int) < (l.length : Int)) = false := by simp; omega
      have hL := fun x => lives17_any x
      cases hcn : (isC cmd && isN nod)
      · have hCm := cmd_bad wr cmd nod hcn
        clear hR
        go_wp2_with (first | (go_at_call 19; refine hCm.mono ?_; rintro r w4 ⟨rfl, hw4⟩; rw [hw4]) | (go_at_call 9; refine (hL _).mono ?_; rintro r w9 ⟨rfl, B9⟩))
        go_ret
        exact ⟨rfl, B5.trans (B9.mono hszp)⟩
      · obtain ⟨hc1, hc2⟩ : isC cmd = true ∧ isN nod = true := by simpa using hcn
        obtain ⟨x, rfl⟩ := isC_byte hc1
        obtain ⟨y, rfl, hy⟩ := isN_byte hc2
        have hCm := fun w => cmd_ok w x.toNat y.toNat hc1 hy
        have hCm0 : ∀ w, Calls Try.prog 19 #[.int .i64 x.toNat, .int .i64 0] w fun e w' => e = .returned (.tuple #[.slice (some ⟨w.heap.size, 0, none⟩) 2 2, .int .i64 0]) ∧ w' = w.alloc (.cells #[.int .u8 x.toNat, .int .u8 0] 5) := fun w => cmd_ok w x.toNat 0 hc1 (by omega)
        have hCm7 : ∀ w, Calls Try.prog 19 #[.int .i64 x.toNat, .int .i64 7] w fun e w' => e = .returned (.tuple #[.slice (some ⟨w.heap.size, 0, none⟩) 2 2, .int .i64 0]) ∧ w' = w.alloc (.cells #[.int .u8 x.toNat, .int .u8 7] 5) := fun w => cmd_ok w x.toNat 7 hc1 (by omega)
        have lp2w := Bc.lt hR.c
        obtain ⟨W, hW⟩ : ∃ z, wr.alloc (.cells #[.int .u8 x.toNat, .int .u8 y.toNat] 5) = z := ⟨_, rfl⟩
        obtain ⟨q, hq⟩ : ∃ q, wr.heap.size = q := ⟨_, rfl⟩
        have BW1 : Below wr.heap.size wr W := by rw [← hW]; exact (Below.refl _ _).alloc (Nat.le_refl _) _
        have BW : Below p w W := B5.trans (BW1.mono hszp)
        have hBq : Bytes W (.slice (some ⟨q, 0, none⟩) 2 2) [x, y] := by rw [← hW, ← hq]; exact bytes_pair2 wr x y
        have A0 : Na p s W := Bc.below hR.a BW1
        have A1 : Na p1 s W := Bc.below hR.b BW1
        have A2 : Na p2 s W := Bc.below hR.c BW1
        have hf := hR.few
        have hpW : p ≤ W.heap.size := by have := BW.size; omega
        have hI := id_any A0
        have hSt0 := state_any A0
        clear hR BW1 hc1 hc2 hcn B5
        by_cases hy0 : (y.toNat : Int) = 0
        · have dy0 : ((y.toNat : Int) == 0) = true := by rw [beq_iff_eq]; exact hy0
          clear hy0 hBq A0 A1 A2 hf hI hSt0 hCm0 hCm7 hy
          go_wp2_with (first | (go_at_call 19; refine (hCm _).mono ?_; rintro r w4 ⟨rfl, hw4⟩; rw [hw4]) | (go_at_call 9; refine (hL _).mono ?_; rintro r w9 ⟨rfl, B9⟩))
          go_ret
          exact ⟨rfl, BW.trans (B9.mono hpW)⟩
        · have dy0 : ((y.toNat : Int) == 0) = false := by rw [beq_eq_false_iff_ne]; exact hy0
          by_cases hid : s.id = 7
          · have bs : (-4611686018427387904 ≤ s.boots ∧ s.boots < 4611686018427387904) ∧ (-4611686018427387904 ≤ s.talks ∧ s.talks < 4611686018427387904) := by obtain ⟨a1, a2, a3, a4⟩ := hf; omega
            have HEnd : Hid (∀ z, Two p p W z → Below p w z ∧ p ≤ z.heap.size ∧ ∀ Z6, z.alloc (.cells #[.int .u8 x.toNat, .int .u8 0] 5) = Z6 → ∀ Z7, Z6.alloc (.cells #[.int .u8 x.toNat, .int .u8 7] 5) = Z7 →
                Calls Try.prog 10 #[.pointer (some ⟨p1, 0, none⟩), .slice (some ⟨z.heap.size, 0, none⟩) 2 2] Z7 fun e w8 => e = .returned (.int .i64 (s.told [x, 0])) ∧
                  Calls Try.prog 10 #[.pointer (some ⟨p2, 0, none⟩), .slice (some ⟨Z6.heap.size, 0, none⟩) 2 2] w8 fun e w9 => e = .returned (.int .i64 (s.told [x, 0])) ∧ Below p w w9 ∧
                    (Calls Try.prog 17 #[.pointer (some ⟨p1, 0, none⟩)] w9 fun e w' => e = .returned (.int .i64 (s.take [x, 0]).st) ∧ w' = w9) ∧ (Calls Try.prog 17 #[.pointer (some ⟨p2, 0, none⟩)] w9 fun e w' => e = .returned (.int .i64 (s.take [x, 0]).st) ∧ w' = w9) ∧
                    (Calls Try.prog 18 #[.pointer (some ⟨p1, 0, none⟩)] w9 fun e w' => e = .returned (.int .i64 (s.take [x, 0]).id) ∧ w' = w9) ∧ (Calls Try.prog 18 #[.pointer (some ⟨p2, 0, none⟩)] w9 fun e w' => e = .returned (.int .i64 (s.take [x, 0]).id) ∧ w' = w9)) := by
              intro z hz
              have Bz : Below p w z := BW.trans (hz.below hpW (Nat.le_refl _) (Nat.le_refl _))
              have lz : p ≤ z.heap.size := by have := Bz.size; omega
              refine ⟨Bz, lz, fun Z6 hZ6 Z7 hZ7 => ?_⟩
              have b6 : Below z.heap.size z Z6 := by rw [← hZ6]; exact (Below.refl _ _).alloc (Nat.le_refl _) _
              have b7 : Below Z6.heap.size Z6 Z7 := by rw [← hZ7]; exact (Below.refl _ _).alloc (Nat.le_refl _) _
              have y6 : Bytes Z6 (.slice (some ⟨z.heap.size, 0, none⟩) 2 2) [x, 0] := by rw [← hZ6]; exact bytes_pair2 z x 0
              have y7 : Bytes Z7 (.slice (some ⟨Z6.heap.size, 0, none⟩) 2 2) [x, 7] := by rw [← hZ7]; exact bytes_pair2 Z6 x 7
              have a1 : Na p1 s Z7 := Bc.below (Bc.below (Bc.two A1 hz (by omega) (by omega)) b6) b7
              have a2 : Na p2 s Z7 := Bc.below (Bc.below (Bc.two A2 hz (by omega) (by omega)) b6) b7
              have B7 : Below p w Z7 := (Bz.trans (b6.mono lz)).trans (b7.mono (by have := b6.size; omega))
              have l2 := Bc.lt a2
              have s7 := b7.size
              have hZ6s : Z6.heap.size = z.heap.size + 1 := by rw [← hZ6]; simp
              have lz1 : p2 < z.heap.size := Nat.lt_of_lt_of_le (Bc.lt A2) hz.size
              have hy7 : ∀ z8, Two p1 p1 Z7 z8 → Bytes z8 (.slice (some ⟨Z6.heap.size, 0, none⟩) 2 2) [x, 7] := by
                intro z8 h8
                obtain ⟨ao9, cap9, hv9, h09, hc9⟩ := y7
                refine ⟨ao9, cap9, hv9, h09, fun k hk => ?_⟩
                obtain ⟨b9, o9, e9, lt9, c9⟩ := hc9 k hk
                have eb : b9 = Z6.heap.size := by
                  injection hv9 with h1 _ _
                  rw [e9] at h1
                  injection h1 with h1
                  injection h1 with h1 _ _
                  exact h1.symm
                refine ⟨b9, o9, e9, Nat.lt_of_lt_of_le lt9 h8.size, ?_⟩
                rw [World.cell?_of_block (w := Z7) (h8.block b9 lt9 (by omega) (by omega))]
                exact c9
              refine (take_any _ [x, 0] a1 (y6.below b7) bs.1 bs.2).mono ?_
              rintro e w8 ⟨he, n8, t8⟩
              have a28 : Na p2 s w8 := Bc.two a2 t8 (by omega) (by omega)
              have B8 : Below p w w8 := B7.trans (t8.below (by have := B7.size; omega) (by omega) (by omega))
              refine ⟨he, (take_any _ [x, 7] a28 (hy7 w8 t8) bs.1 bs.2).mono ?_⟩
              obtain ⟨k1, k2⟩ := Nd.alike (x := x) hid
              rw [k1, k2]
              rintro e w9 ⟨he, n9, t9⟩
              have n19 : Na p1 (s.take [x, 0]) w9 := Bc.two n8 t9 (by omega) (by omega)
              exact ⟨he, B8.trans (t9.below (by have := B8.size; omega) (by omega) (by omega)), state_any n19, state_any n9, id_any n19, id_any n9⟩
            have hT0 := take_any _ [x, y] A0 hBq bs.1 bs.2
            rw [hid] at hI
            obtain ⟨t0, ht0⟩ : ∃ t, s.told [x, 0] = t := ⟨_, rfl⟩
            obtain ⟨S0, hS0⟩ : ∃ t, s.take [x, 0] = t := ⟨_, rfl⟩
            rw [ht0, hS0] at HEnd
            by_cases h7 : (y.toNat : Int) = 7
            · have d7 : ((y.toNat : Int) == 7) = true := by rw [beq_iff_eq]; exact h7
              have d7' : ((y.toNat : Int) != 7) = false := bne_eq_false_iff_eq.2 h7
              clear hy0 h7 hBq A0 A1 A2 hf hid bs hy
              go_upto_region 18 with (first | (go_at_call 19; with_reducible refine (hCm _).mono ?_; rintro r w4 ⟨rfl, hw4⟩; rw [hw4]) | (go_at_call 18; with_reducible refine hI.mono ?_; rintro r w4 ⟨rfl, hw4⟩; rw [hw4]) | (go_at_call 17; with_reducible refine hSt0.mono ?_; rintro r w4 ⟨rfl, hw4⟩; rw [hw4]) | (go_at_call 10; with_reducible refine hT0.mono ?_; rintro r w5 ⟨rfl, N5, T5⟩))
              go_upto_if 120 with fail
              go_upto_region 20 with fail
              obtain ⟨B6, l6, HE⟩ := HEnd.out w5 T5
              obtain ⟨Z6, hZ6⟩ : ∃ z, w5.alloc (.cells #[.int .u8 x.toNat, .int .u8 0] 5) = z := ⟨_, rfl⟩
              obtain ⟨Z7, hZ7⟩ : ∃ z, Z6.alloc (.cells #[.int .u8 x.toNat, .int .u8 7] 5) = z := ⟨_, rfl⟩
              have hTb := HE Z6 hZ6 Z7 hZ7
              obtain ⟨q6, hq6⟩ : ∃ q, w5.heap.size = q := ⟨_, rfl⟩
              obtain ⟨q7, hq7⟩ : ∃ q, Z6.heap.size = q := ⟨_, rfl⟩
              rw [hq6, hq7] at hTb
              clear HE HEnd N5 T5 hT0 hI hSt0
              go_upto_region 21 with (go_at_call 19; refine (hCm0 _).mono ?_; rintro r w4 ⟨rfl, hw4⟩; rw [hw4])
              go_upto_region 22 with (go_at_call 19; refine (hCm7 _).mono ?_; rintro r w4 ⟨rfl, hw4⟩; rw [hw4])
              clear hZ6 hZ7
              go_wp2_with (first | (go_at_call 10; with_reducible refine hTb.mono ?_; rintro r w8 ⟨rfl, hTc⟩) | (go_at_call 10; with_reducible refine hTc.mono ?_; rintro r w9 ⟨rfl, B9, g1, g2, g3, g4⟩) | (go_at_call 17; with_reducible refine g1.mono ?_; rintro r w4 ⟨rfl, hw4⟩; rw [hw4]) | (go_at_call 17; with_reducible refine g2.mono ?_; rintro r w4 ⟨rfl, hw4⟩; rw [hw4]) | (go_at_call 18; with_reducible refine g3.mono ?_; rintro r w4 ⟨rfl, hw4⟩; rw [hw4]) | (go_at_call 18; with_reducible refine g4.mono ?_; rintro r w4 ⟨rfl, hw4⟩; rw [hw4]) | (go_at_call 9; refine (hL _).mono ?_; rintro r w10 ⟨rfl, B10⟩))
              go_ret
              exact ⟨rfl, B9.trans (B10.mono (by have := B9.size; omega))⟩
            · have d7 : ((y.toNat : Int) == 7) = false := by rw [beq_eq_false_iff_ne]; exact h7
              have d7' : ((y.toNat : Int) != 7) = true := bne_iff_ne.2 h7
              obtain ⟨k1, k2⟩ := Nd.other (x := x) hid hy0 h7
              rw [k1, k2] at hT0
              have HS5 : Hid (∀ z, Na p s z → Calls Try.prog 17 #[.pointer (some ⟨p, 0, none⟩)] z fun e w' => e = .returned (.int .i64 s.st) ∧ w' = z) := fun z hz => state_any hz
              clear hy0 h7 hBq A0 A1 A2 hf hid bs hy k1 k2
              go_upto_region 18 with (first | (go_at_call 19; with_reducible refine (hCm _).mono ?_; rintro r w4 ⟨rfl, hw4⟩; rw [hw4]) | (go_at_call 18; with_reducible refine hI.mono ?_; rintro r w4 ⟨rfl, hw4⟩; rw [hw4]) | (go_at_call 17; with_reducible refine hSt0.mono ?_; rintro r w4 ⟨rfl, hw4⟩; rw [hw4]) | (go_at_call 10; with_reducible refine hT0.mono ?_; rintro r w5 ⟨rfl, N5, T5⟩; have hS5 := HS5.out w5 N5) | (go_at_call 17; with_reducible refine hS5.mono ?_; rintro r w4 ⟨rfl, hw4⟩; rw [hw4]))
              go_upto_if 120 with (go_at_call 17; with_reducible refine hS5.mono ?_; rintro r w4 ⟨rfl, hw4⟩; rw [hw4])
              go_upto_region 20 with fail
              obtain ⟨B6, l6, HE⟩ := HEnd.out w5 T5
              obtain ⟨Z6, hZ6⟩ : ∃ z, w5.alloc (.cells #[.int .u8 x.toNat, .int .u8 0] 5) = z := ⟨_, rfl⟩
              obtain ⟨Z7, hZ7⟩ : ∃ z, Z6.alloc (.cells #[.int .u8 x.toNat, .int .u8 7] 5) = z := ⟨_, rfl⟩
              have hTb := HE Z6 hZ6 Z7 hZ7
              obtain ⟨q6, hq6⟩ : ∃ q, w5.heap.size = q := ⟨_, rfl⟩
              obtain ⟨q7, hq7⟩ : ∃ q, Z6.heap.size = q := ⟨_, rfl⟩
              rw [hq6, hq7] at hTb
              clear HE HEnd N5 T5 hT0 hI hSt0
              go_upto_region 21 with (go_at_call 19; refine (hCm0 _).mono ?_; rintro r w4 ⟨rfl, hw4⟩; rw [hw4])
              go_upto_region 22 with (go_at_call 19; refine (hCm7 _).mono ?_; rintro r w4 ⟨rfl, hw4⟩; rw [hw4])
              clear hZ6 hZ7
              go_wp2_with (first | (go_at_call 10; with_reducible refine hTb.mono ?_; rintro r w8 ⟨rfl, hTc⟩) | (go_at_call 10; with_reducible refine hTc.mono ?_; rintro r w9 ⟨rfl, B9, g1, g2, g3, g4⟩) | (go_at_call 17; with_reducible refine g1.mono ?_; rintro r w4 ⟨rfl, hw4⟩; rw [hw4]) | (go_at_call 17; with_reducible refine g2.mono ?_; rintro r w4 ⟨rfl, hw4⟩; rw [hw4]) | (go_at_call 18; with_reducible refine g3.mono ?_; rintro r w4 ⟨rfl, hw4⟩; rw [hw4]) | (go_at_call 18; with_reducible refine g4.mono ?_; rintro r w4 ⟨rfl, hw4⟩; rw [hw4]) | (go_at_call 9; refine (hL _).mono ?_; rintro r w10 ⟨rfl, B10⟩))
              go_ret
              exact ⟨rfl, B9.trans (B10.mono (by have := B9.size; omega))⟩
          · have di : (s.id == 7) = false := by simp [hid]
            clear hy0 hBq A0 A1 A2 hf hSt0 hCm0 hCm7 hy hid
            go_wp2_with (first | (go_at_call 19; with_reducible refine (hCm _).mono ?_; rintro r w4 ⟨rfl, hw4⟩; rw [hw4]) | (go_at_call 18; with_reducible refine hI.mono ?_; rintro r w4 ⟨rfl, hw4⟩; rw [hw4]) | (go_at_call 9; refine (hL _).mono ?_; rintro r w9 ⟨rfl, B9⟩))
            go_ret
            exact ⟨rfl, BW.trans (B9.mono hpW)⟩
end Go.Proofs.Ytjifoeponfeffaa
