/- The law BusEnds returns true for every slice of frames, and leaves all as they were. -/
import Derived.Test.YtlghjfomliappaaTe1
namespace Go.Proofs.Ytlghjfomliappaa
open Go.RowKit Go.Proofs.Bits
set_option linter.unusedVariables false
set_option maxRecDepth 1000000

set_option maxHeartbeats 4000000 in
theorem bends_walk (v : Value) (fs : List Fr) (w : World) (hl : fs.length * 24 ≤ 140737488351232) (hS : Frames w v fs) (hcap : ∀ ao n cap, v = .slice ao n cap → n ≤ cap) :
    Calls Try.prog 4 #[v] w fun e w' => e = .returned (.bool true) ∧ Below w.heap.size w w' := by
  obtain ⟨ao, cap, hv, _⟩ := id hS
  subst hv
  have hcap' := hcap _ _ _ rfl
  have hLv := fun x => lives4_any x
  have HLv : Hid _ := hLv
  have HS : Hid (Frames w (.slice ao fs.length cap) fs) := hS
  have HT : Hid (100 < fs.length → Frames w (.slice ao (fs.take 100).length cap) (fs.take 100)) := fun h => wide_take hS h
  clear hS hcap hLv
  go_enter Try.func4, Try.ntmps4
  go_upto_if 23 with fail
  go_cut [0] (fun s0 wx => wx = w ∧ ∃ ao cap fs', s0 = .slice ao fs'.length cap ∧ fs'.length ≤ 100 ∧ Frames w (.slice ao fs'.length cap) fs')
  case first =>
    by_cases h100 : 100 < fs.length
    · have HT2 : Hid _ := HT.out h100
      have hlt : (fs.take 100).length = 100 := by simp; omega
      have HL : Hid ((fs.take 100).length = 100) := hlt
      clear hlt HT HS
      have d1 : decide ((100 : Int) < (fs.length : Int)) = true := by simp; omega
      go_wp2_with fail
      go_meet
      case rel => exact ⟨rfl, ao, cap, fs.take 100, by rw [HL.out], by rw [HL.out]; omega, HT2.out⟩
    · have d1 : decide ((100 : Int) < (fs.length : Int)) = false := by simp; omega
      go_wp2_with fail
      go_meet
      case rel => exact ⟨rfl, ao, cap, fs, rfl, by omega, HS.out⟩
  case rest =>
  obtain ⟨rfl, ao1, cap1, gs, rfl, h100, hF⟩ := hcut
  clear HS HT hcap' hl
  obtain ⟨n, hn⟩ : ∃ n, n = gs.length := ⟨_, rfl⟩
  have hN := new_bus wc (n + 1) (by omega) (by omega)
  have ecast : ((n + 1 : Nat) : Int) = (n : Int) + 1 := by omega
  rw [ecast] at hN
  have HLow : Hid (∀ k, k < wc.heap.size → newR wc (n + 1) k = .no) := fun k hk => newR_low hk
  have HF : Hid (∀ x, Below wc.heap.size wc x → ∀ k (hk : k < gs.length), ∃ b off, ao1 = some ⟨b, off, none⟩ ∧ b < wc.heap.size ∧ x.rangeAt b (off + k * 12) gs[k].cells) := by
    obtain ⟨ao', cap', hv, _, hc⟩ := hF
    injection hv with e1
    subst e1
    exact fun x hx k hk => Wide.at hc hx k hk
  rw [← hn]
  rw [← hn] at h100
  have HNN : Hid (n = gs.length) := hn
  clear hF ecast hn
  generalize newR wc (n + 1) = ρ at *
  generalize hb : wc.heap.size + 1 = b at *
  generalize hnb : wc.heap.size = nb at *
  go_wp2_with fail
  refine Calls.mono hN ?_
  rintro e w1 ⟨rfl, h1, B1⟩
  have L1 : LI wc b nb ρ 0 (onL (n + 1) 0) w1 := ⟨by rw [onL_zero]; exact h1, by rw [hnb]; exact B1, by rw [hnb]; exact HLow.out, by omega⟩
  have r2 := OwnR.new L1
  have L2 := L1.below ((Below.refl _ _).alloc (Nat.le_refl _) (.cells #[] 38))
  clear hN h1 B1 HLow L1
  go_wp2
  generalize hsv : Value.slice (some ⟨w1.heap.size, 0, none⟩) 0 0 = sv at *
  generalize w1.alloc (.cells #[] 38) = w2 at *
  go_loopw [6] (fun i x => ∃ k : Nat, k ≤ n + 1 ∧ i = .int .i64 k ∧ LI wc b nb ρ 0 (onL (n + 1) k) x ∧ OwnR wc ρ x sv []) (fun i _ => n + 1 - (intOf i).toNat)
  case atStart => exact ⟨0, Nat.zero_le _, rfl, L2, r2⟩
  case round =>
    clear L2 r2
    obtain ⟨k, hk, rfl, L3, r3⟩ := hrel
    by_cases hkl : k < n + 1
    · have hP := Power_any L3.bus (by rw [onL_len]; omega) (k := k) true (by rw [onL_len]; exact hkl)
      rw [onL_pow _ _ hkl] at hP
      have d1 : decide ((k : Int) ≤ (n : Int)) = true := by simp; omega
      have HL3 : Hid _ := L3
      have Hr3 : Hid _ := r3
      clear L3 r3
      go_wp2_with fail
      refine hP.mono ?_
      rintro e w4 ⟨rfl, h4, X4⟩
      have L4 := LI.op HL3.out h4 X4 (by omega)
      have r4 := OwnR.ext Hr3.out X4
      clear hP h4 X4 HL3 Hr3
      go_wp2
      go_roundw
      case rel => exact ⟨k + 1, by omega, by go_num, L4, r4⟩
      case measure => simp [intOf]; omega
    · have ek : k = n + 1 := by omega
      have hI := SubI.start n
      rw [ek] at L3
      have L4 : Hid _ := L3
      have r4 : Hid _ := r3
      have HI : Hid _ := hI
      have d1 : decide ((k : Int) ≤ (n : Int)) = false := by simp; omega
      generalize hk1 : (k : Int) = k1 at *
      have hk2 : (n : Int) < k1 := by omega
      clear L3 r3 hI ek hk1
      go_wp2
      go_loopw [5, 7] (fun sv i x => ∃ (k m : Nat) (L : List Nd) (xs : List Fr), k ≤ n ∧ i = .int .i64 k ∧ LI wc b nb ρ 0 L x ∧ OwnR wc ρ x sv xs ∧ SubI n k xs.length L ∧ xs.length ≤ k) (fun _ i _ => n - (intOf i).toNat)
      case atStart => exact ⟨0, 0, _, [], Nat.zero_le _, rfl, L4.out, r4.out, HI.out, Nat.zero_le _⟩
      case round =>
        clear L4 r4 HI d1
        obtain ⟨k, _, L, xs, hk, rfl, L5, r5, I5, hxs⟩ := hrel
        by_cases hkl : k < n
        · have hkg : k < gs.length := by rw [← HNN.out]; exact hkl
          obtain ⟨b0, off, rfl, hb0, hR⟩ := HF.out wr (by have := L5.bel; rw [hnb] at this; exact this) k hkg
          have hSb := Submit_any L5.bus (by rw [I5.len]; omega) (k := k) (by rw [I5.len]; omega) gs[k]
          rw [I5.err hkl] at hSb
          unfold Fr.val at hSb
          have HL5 : Hid _ := L5
          have Hr5 : Hid _ := r5
          have HI5 : Hid _ := I5
          have d1 : decide ((k : Int) < (n : Int)) = true := by simp; omega
          have hR' := hR
          have HRb : Hid (∀ y, Below nb wc y → y.rangeAt b0 (off + k * 12) gs[k].cells) := by
            intro y hy
            obtain ⟨b1, o1, e, _, r⟩ := HF.out y hy k hkg
            injection e with e; injection e with e1 e2; subst e1 e2; exact r
          generalize gs[k] = f at *
          clear L5 r5 I5 HF HNN hkg
          rcases chk_cases f with hz | hz
          · rw [hz] at hSb
            have HG : Hid _ := SubI.good HI5.out hkl f hz
            go_wp2_with (refine fld_ld hR' rfl _ rfl rfl ?_)
            refine hSb.mono ?_
            rintro e w6 ⟨rfl, h6, X6⟩
            have L6 := LI.op HL5.out h6 X6 (by omega)
            have r6 := OwnR.ext Hr5.out X6
            have hR6 := HRb.out w6 (by have := L6.bel; rw [hnb] at this; exact this)
            have hPl := r2Plain_any f w6
            unfold Fr.val at hPl
            have HL6 : Hid _ := L6
            have Hr6 : Hid _ := r6
            clear hSb h6 X6 HL5 Hr5 HI5 L6 r6 hR hR' HRb
            go_wp2_with (refine fld_ld hR6 rfl _ rfl rfl ?_)
            refine hPl.mono ?_
            rintro e w7 ⟨rfl, B7⟩
            have L8 := (LI.below HL6.out B7).below ((Below.refl _ _).alloc (Nat.le_refl _) (.cells f.plain.arr 38))
            have r8 := (OwnR.below Hr6.out B7).below ((Below.refl _ _).alloc (Nat.le_refl _) (.cells f.plain.arr 38))
            have had := heap_alloc_new w7 (.cells f.plain.arr 38)
            clear hPl B7 HL6 Hr6 hR6
            go_wp2_with (first | refine one_bs DF f.plain 42 38 _ _ rfl _ rfl rfl Try.underlying42 infoFZ (by decide) ?_ | (at_builtin; refine append_law L8 r8 (by omega) f.plain w7.heap.size had rfl _ _ rfl rfl rfl ?_))
            intro v9 w9 L9 r9
            clear L8 r8 had
            go_wp2
            go_roundw
            case rel => exact ⟨k + 1, 0, _, xs ++ [f.plain], by omega, by go_num, L9, r9, by rw [List.length_append]; exact HG.out, by rw [List.length_append, List.length_singleton]; omega⟩
            case measure => simp [intOf]; omega
          · rw [hz] at hSb
            have HG : Hid _ := SubI.bad HI5.out hkl f (by rw [hz]; decide)
            go_wp2_with (refine fld_ld hR' rfl _ rfl rfl ?_)
            refine hSb.mono ?_
            rintro e w6 ⟨rfl, h6, X6⟩
            have L6 := LI.op HL5.out h6 X6 (by omega)
            have r6 := OwnR.ext Hr5.out X6
            clear hSb h6 X6 HL5 Hr5 HI5 hR hR' HRb
            go_wp2
            go_roundw
            case rel => exact ⟨k + 1, 0, _, xs, by omega, by go_num, L6, r6, HG.out, by omega⟩
            case measure => simp [intOf]; omega
        · obtain rfl : k = n := by omega
          have d1 : decide ((k : Int) < (k : Int)) = false := by simp
          obtain ⟨ao5, cap5, hsv5⟩ := own_shape r5.own
          have HE : Hid _ := SubI.toEnd I5
          have r6 := OwnR.new L5
          have L6 := L5.below ((Below.refl _ _).alloc (Nat.le_refl _) (.cells #[] 38))
          have hm := hxs
          generalize hml : xs.length = m at *
          have hone : 1 ≤ k ∨ m = 0 := by omega
          subst hsv5
          obtain ⟨W5, hW5⟩ : ∃ W5, W5 = wr := ⟨_, rfl⟩
          subst hW5
          have HL6 : Hid _ := L6
          have Hr6 : Hid _ := r6
          clear L5 r5 I5 HF HNN L6 r6
          go_wp2
          go_loopw [8, 9] (fun gv i x => ∃ (j : Nat) (ρ' : Nat → Ro) (t' : Int) (L : List Nd) (hs : List Fr), j ≤ m ∧ i = .int .i64 j ∧ LI wc b nb ρ' t' L x ∧ OwnR wc ρ' x gv hs ∧ EndI k (m - j) L hs ∧ hs.length = j) (fun _ i _ => m - (intOf i).toNat)
          case atStart => exact ⟨0, ρ, 0, _, [], Nat.zero_le _, rfl, HL6.out, Hr6.out, HE.out, rfl⟩
          case round =>
            clear HL6 Hr6 HE
            obtain ⟨j, ρ1, t1, L1, hs, hj, rfl, L7, r7, I7, hlj⟩ := hrel
            by_cases hjm : j < m
            · have hk1 : 1 ≤ k := by omega
              have em : m - j = (m - (j + 1)) + 1 := by omega
              rw [em] at I7
              obtain ⟨s1, s2, f, s3, s4, s5, s6⟩ := EndI.step I7 hk1 h100
              have hSt := Step_any L7.bus (by rw [I7.len]; omega) (AllOn.ok I7.on) L7.tt (.slice none 0 0) [] (by simp [maxLen]) (flips_nil wr)
              have HI8 : Hid _ := s6
              have HL7 : Hid _ := L7
              have Hr7 : Hid _ := r7
              have d1 : decide ((j : Int) < (m : Int)) = true := by simp; omega
              have HP : Hid (stepE L1 [] = 0 ∧ (stepR L1 []).sent = true ∧ (stepL L1 []).length = k + 1 ∧ (ndAt (stepL L1 []) k).got = [f]) := ⟨s1, s2, s3, s4⟩
              clear L7 r7 I7 s1 s2 s3 s4 s5 s6 em
              go_wp2_with fail
              refine hSt.mono ?_
              rintro e w2 ⟨ρ2, h2, X2, q1, q2⟩
              obtain ⟨p1, p2, p3, p4⟩ := HP.out
              obtain ⟨ge, gg, rfl, _, _, _, _, _, _, _, _⟩ := q2 p1
              rw [if_pos p1] at h2
              have L8 := LI.op HL7.out h2 X2 (tAdd_ok _ _)
              have r8 := OwnR.ext Hr7.out X2
              have gn := Oa.new w2 rnZ nilV nilV
              have g3 := gn.row (stepR L1 []) (sl ge L1.length) (sl gg L1.length)
              have bb : Below w2.heap.size w2 ((w2.alloc (.cells (rnZ.out nilV nilV) 27)).setRow w2.heap.size ((stepR L1 []).out (sl ge L1.length) (sl gg L1.length))) := below_row ((Below.refl _ w2).alloc (Nat.le_refl _) _) (Nat.le_refl _) (by rw [size_alloc]; omega) _
              have z2 := L8.rz (Nat.le_refl w2.heap.size)
              have L9 := L8.below bb
              have r9 := r8.below bb
              have hFt := Fetch_any L9.bus (by rw [p3]; omega) (k := k) (by rw [p3]; omega)
              have HL9 : Hid _ := L9
              have Hr9 : Hid _ := r9
              generalize stepR L1 [] = R at *
              generalize stepL L1 [] = L2 at *
              clear hSt h2 X2 q1 q2 HL7 Hr7 L8 r8 L9 r9 bb p1
              go_wp2_with (refine gn.sd R (sl ge L1.length) (sl gg L1.length) rfl rfl rfl _ _ rfl rfl rfl ?_)
              refine hFt.mono ?_
              rintro e w4 ⟨v4, rfl, F4, h4, X4⟩
              have L10 := LI.op HL9.out h4 X4 (LI.tt HL9.out)
              have r10 := OwnR.ext Hr9.out X4
              have O4 := g3.kept (X4.keep _ g3.lt z2)
              obtain ⟨c0, c1, c2, c3, c4⟩ := O4.cells
              rw [p2] at c2
              have hgk : (L2[k]'(by rw [p3]; omega)).got = [f] := by rw [nd_get]; exact p4
              rw [hgk] at F4
              obtain ⟨b9, off9, cap9, rfl, _, hR9⟩ := wide_head F4
              have hset : L2.set k { L2[k]'(by rw [p3]; omega) with got := [] } = L2.set k { ndAt L2 k with got := [] } := by rw [nd_get]
              have L11' := L10
              rw [hset] at L11'
              have L11 : Hid _ := L11'
              clear L11'
              have b11 : Below w4.heap.size w4 (w4.alloc (.cells f.arr 38)) := (Below.refl _ _).alloc (Nat.le_refl _) _
              have L12 := LI.below L11.out b11
              have r12 := r10.below b11
              have had := heap_alloc_new w4 (.cells f.arr 38)
              have hl200 : hs.length ≤ 1000 := by omega
              clear hFt h4 X4 HL9 Hr9 L10 r10 O4 F4 hgk hset L11 gn g3 c0 c1 c3 c4 b11
              go_wp2_with (first | refine fld_ld hR9 rfl _ rfl rfl ?_ | refine one_bs DF f 42 38 _ _ rfl _ rfl rfl Try.underlying42 infoFZ (by decide) ?_ | (at_builtin; refine append_law L12 r12 hl200 f w4.heap.size had rfl _ _ rfl rfl rfl ?_))
              intro v13 w13 L13 r13
              clear L12 r12 had hR9 c2
              have HL13 : Hid _ := L13
              have Hr13 : Hid _ := r13
              clear L13 r13
              go_wp2
              go_roundw
              case rel => exact ⟨j + 1, ρ2, _, _, hs ++ [f], by omega, by go_num, HL13.out, Hr13.out, HI8.out, by rw [List.length_append, List.length_singleton]; omega⟩
              case measure => simp [intOf]; omega
            · have ej : m - j = 0 := by omega
              rw [ej] at I7
              have d1 : decide ((j : Int) < (m : Int)) = false := by simp; omega
              obtain ⟨s1, s2⟩ := EndI.over I7 h100
              have hSt := Step_any L7.bus (by rw [I7.len]; omega) (AllOn.ok I7.on) L7.tt (.slice none 0 0) [] (by simp [maxLen]) (flips_nil wr)
              obtain ⟨ao7, cap7, hgv⟩ := own_shape r7.own
              subst hgv
              have HL7 : Hid _ := L7
              have Hr7 : Hid _ := r7
              have HSrt : Hid ((∀ f ∈ hs, f.chk = 0) ∧ ∀ i (h : i + 1 < hs.length), (hs[i]'(by omega)).field ≤ hs[i + 1].field) := ⟨I7.chk, I7.sort⟩
              have HP : Hid (stepE L1 [] = 0 ∧ (stepR L1 []).win = -1) := ⟨s1, s2⟩
              clear L7 r7 I7 s1 s2 ej
              go_wp2_with fail
              refine hSt.mono ?_
              rintro e w2 ⟨ρ2, h2, X2, q1, q2⟩
              obtain ⟨p1, p2⟩ := HP.out
              obtain ⟨ge, gg, rfl, _, _, _, _, _, _, _, _⟩ := q2 p1
              rw [if_pos p1] at h2
              have L8 := LI.op HL7.out h2 X2 (tAdd_ok _ _)
              have r8 := OwnR.ext Hr7.out X2
              have gn := Oa.new w2 rnZ nilV nilV
              have g3 := gn.row (stepR L1 []) (sl ge L1.length) (sl gg L1.length)
              have bb : Below w2.heap.size w2 ((w2.alloc (.cells (rnZ.out nilV nilV) 27)).setRow w2.heap.size ((stepR L1 []).out (sl ge L1.length) (sl gg L1.length))) := below_row ((Below.refl _ w2).alloc (Nat.le_refl _) _) (Nat.le_refl _) (by rw [size_alloc]; omega) _
              have B9 := (L8.below bb).bel
              have F9 := (r8.below bb).frames
              obtain ⟨c0, c1, c2, c3, c4⟩ := g3.cells
              rw [p2] at c0
              generalize stepR L1 [] = R at *
              clear hSt h2 X2 q1 q2 HL7 Hr7 L8 r8 bb p1 p2 HP
              generalize hW : (w2.alloc (.cells (rnZ.out nilV nilV) 27)).setRow w2.heap.size (R.out (sl ge L1.length) (sl gg L1.length)) = W3 at *
              obtain ⟨ao8, cap8, hv8, _, hc8⟩ := F9
              injection hv8 with e8
              subst e8
              have HC : Hid (∀ x, Below W3.heap.size W3 x → ∀ i (hi : i < hs.length), ∃ b0 off, ao7 = some ⟨b0, off, none⟩ ∧ b0 < W3.heap.size ∧ x.rangeAt b0 (off + i * 12) hs[i].cells) := fun x hx i hi => Wide.at hc8 hx i hi
              have HLJ : Hid (hs.length = j) := hlj
              clear hc8 c1 c2 c3 c4
              go_upto_region 27 with (refine gn.sd R (sl ge L1.length) (sl gg L1.length) rfl rfl rfl _ _ rfl rfl rfl ?_)
              clear gn g3 hW
              go_wp2
              go_loopw [16] (fun i x => ∃ i1 : Nat, i = .int .i64 ((i1 : Int) + 1) ∧ i1 ≤ j ∧ Below W3.heap.size W3 x) (fun i _ => j + 1 - (intOf i).toNat)
              case atStart => exact ⟨0, rfl, Nat.zero_le _, Below.refl _ _⟩
              case round =>
                obtain ⟨i1, rfl, hi1, B10⟩ := hrel
                by_cases hil : i1 + 1 < j
                · have hlj2 := HLJ.out
                  obtain ⟨b0, off, rfl, hb0, hRa⟩ := HC.out wr B10 i1 (by omega)
                  have HRb : Hid (∀ x, Below W3.heap.size W3 x → x.rangeAt b0 (off + (i1 + 1) * 12) (hs[i1 + 1]'(by omega)).cells) := by
                    intro x hx
                    obtain ⟨b1, o1, e, _, r⟩ := HC.out x hx (i1 + 1) (by omega)
                    injection e with e; injection e with e1 e2; subst e1 e2; exact r
                  obtain ⟨ck, st⟩ := HSrt.out
                  have hle := st i1 (by omega)
                  have k1 := ck (hs[i1]'(by omega)) (List.getElem_mem _)
                  have k2 := ck (hs[i1 + 1]'(by omega)) (List.getElem_mem _)
                  have hFa := fField_any (hs[i1]'(by omega)) wr
                  have hFb := fun x => fField_any (hs[i1 + 1]'(by omega)) x
                  rw [k1, fldV_ok k1] at hFa
                  have hFb' : ∀ x, _ := fun x => by have := hFb x; rw [k2, fldV_ok k2] at this; exact this
                  have hls : (Op.bytesLess (⟨(hs[i1]'(by omega)).field.toArray⟩ : ByteArray).toList (⟨(hs[i1 + 1]'(by omega)).field.toArray⟩ : ByteArray).toList = true) ∨ (hs[i1]'(by omega)).field = (hs[i1 + 1]'(by omega)).field := by
                    by_cases e : (hs[i1]'(by omega)).field = (hs[i1 + 1]'(by omega)).field
                    · exact .inr e
                    · left; rw [less_txt]; simpa using Std.lt_of_le_of_ne hle e
                  unfold Fr.val at hFa hFb'
                  generalize hs[i1]'(by omega) = fa at *
                  generalize hs[i1 + 1]'(by omega) = fb at *
                  have HFb : Hid _ := hFb'
                  have d2 : decide ((i1 : Int) + 1 < (j : Int)) = true := by simp; omega
                  clear hFb hFb' hle k1 k2 ck st HC
                  rcases hls with hls | hls
                  · go_wp2_with (refine fld_ld hRa rfl _ rfl rfl ?_)
                    refine hFa.mono ?_
                    rintro e w5 ⟨rfl, B5⟩
                    have B11 := B10.trans (B5.mono B10.size)
                    have hRb := HRb.out w5 B11
                    have hFbw := HFb.out w5
                    generalize (⟨fa.field.toArray⟩ : ByteArray) = TA at *
                    generalize (⟨fb.field.toArray⟩ : ByteArray) = TB at *
                    have hgt : ∀ x, (binOp BinOp.gtr 9 (.string TA) (.string TB)).run Try.prog x = .ok (.bool false) x := fun x => by rw [run_gtr, hls]; rfl
                    clear hFa hRa B5 B10 HRb HFb hls
                    go_wp2_with (refine fld_ld hRb rfl _ rfl rfl ?_)
                    refine hFbw.mono ?_
                    rintro e w6 ⟨rfl, B6⟩
                    have B12 := B11.trans (B6.mono B11.size)
                    clear hFbw hRb B6 B11
                    go_wp2
                    go_roundw
                    case rel => exact ⟨i1 + 1, by go_num, by omega, B12⟩
                    case measure => simp [intOf]; omega
                  · rw [hls] at hFa
                    clear hls
                    go_wp2_with (refine fld_ld hRa rfl _ rfl rfl ?_)
                    refine hFa.mono ?_
                    rintro e w5 ⟨rfl, B5⟩
                    have B11 := B10.trans (B5.mono B10.size)
                    have hRb := HRb.out w5 B11
                    have hFbw := HFb.out w5
                    generalize (⟨fb.field.toArray⟩ : ByteArray) = TB at *
                    have hgt : ∀ x, (binOp BinOp.gtr 9 (.string TB) (.string TB)).run Try.prog x = .ok (.bool false) x := fun x => by rw [run_gtr]; simp
                    clear hFa hRa B5 B10 HRb HFb
                    go_wp2_with (refine fld_ld hRb rfl _ rfl rfl ?_)
                    refine hFbw.mono ?_
                    rintro e w6 ⟨rfl, B6⟩
                    have B12 := B11.trans (B6.mono B11.size)
                    clear hFbw hRb B6 B11
                    go_wp2
                    go_roundw
                    case rel => exact ⟨i1 + 1, by go_num, by omega, B12⟩
                    case measure => simp [intOf]; omega
                · have d2 : decide ((i1 : Int) + 1 < (j : Int)) = false := by simp; omega
                  have hL := HLv.out wr
                  have B13 := B9.trans (B10.mono B9.size)
                  clear HLv HC
                  go_wp2_with fail
                  refine hL.mono ?_
                  rintro e w9 ⟨rfl, b9⟩
                  have B14 := B13.trans (b9.mono B13.size)
                  go_wp2
                  go_ret
                  exact ⟨rfl, B14⟩
end Go.Proofs.Ytlghjfomliappaa
namespace Go.Proofs.Ytlghjfomliappaa
open Go.ChangeShapes Go.WideShapes Go.ChangeAt Go.RowKit Go.Proofs.Bits
open Go.ChangeMaps (open_string shut_string)
set_option linter.unusedVariables false
set_option maxRecDepth 1000000

set_option maxRecDepth 100000 in
theorem busEnds_lifted (os : Os) (started : os.Started) (H : Type) (enc : TypeId × Value → H) :
    ReturnsInHanded {} Try.checked os 4 .any (Rows.busEndsSpec.pre6 enc Try.prog Try.f4 Rows.busEndsRow.domain false) (Rows.busEndsSpec.post enc Try.prog Try.f4 false true false false) := by
  refine returnsInHanded_of_change_sized (C := Try.checked) own started (by kernel_rfl) Try.func4
    (ChangeSpec.witness6 (enc := enc) (C := Try.checked) false ⟨#[], #[.slice none 0 0], []⟩ 8 (by kernel_rfl) (by kernel_rfl) (by kernel_rfl) (by kernel_rfl)) ?_
  intro W base args ds gs before hval0 hW hcnd hsz _
  have hval : ∀ (j : Nat) t v, Try.f4.params[j]? = some t → args[j]? = some v → Value.okWide Try.prog W .any base t v := hval0
  have hW' := hW
  obtain ⟨p, q, hA0, hV, rfl, hfz, hnd⟩ := hW
  have hA : DataW.TrodAll enc Try.prog W 0 (fun _ => true) true Try.f4.params.toList args.toList ds p := hA0
  rw [Try.params4] at hA hval hsz
  obtain ⟨v0, vs0, d0, ds0, p0, q0, hargs, rfl, rfl, h0, r0⟩ := trodAll_cons hA
  obtain ⟨rfl, rfl, rfl⟩ := trodAll_nil r0
  obtain rfl : args = #[v0] := by cases args; simp_all
  obtain ⟨rfl, rfl⟩ := trodVars_none hV
  have lt0 : ∀ x ∈ p0, x.block < W.heap.size := by obtain ⟨m, hm⟩ := h0; exact DataW.trod_lt m _ _ _ hm
  obtain ⟨l0, w0, e0⟩ := open_frames (hval 0 42 v0 rfl rfl) h0 lt0
  have z0 := size_frames (j := 0) hsz rfl rfl e0
  clear hA0 hval0
  refine (bends_walk v0 l0 W z0 w0 (cap_slice Try.underlying42 (hval 0 42 v0 rfl rfl) h0)).mono fun e W' ⟨he, bel⟩ => ?_
  subst he
  exact ⟨_, rfl, _, _, _, [], _, [], hW', trodAll_mk1 (shut_bool Try.underlying4 _), (trodAll_cons_mk (Below.trod laidOut (by kernel_rfl) (of_decide_eq_true (by kernel_rfl)) h0 bel lt0) trodAll_mk0), rfl, bel.frame _, fun h => by cases h⟩

theorem busEnds_holds : Rows.BusEndsSaid :=
  OpenClaim.holds_of_wide 4 Try.f4 rfl rfl rfl rfl rfl rfl rfl ⟨rfl, rfl, rfl, rfl, rfl⟩ rfl rfl rfl rfl rfl (by kernel_rfl) Try.func4 (by kernel_rfl)
    (of_decide_eq_true (by kernel_rfl)) (by unfold Func.isWrapper; first | (rw [if_pos (by decide +kernel)]; kernel_rfl) | (rw [if_neg (by decide +kernel)]; exact ⟨rfl, rfl⟩))
    (fun os started H enc _ => busEnds_lifted os started H enc)
end Go.Proofs.Ytlghjfomliappaa
