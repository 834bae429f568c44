/- The law LssOne returns true whatever addresses come. -/
import Derived.Test.YthbmbabndhpdkaaLawLSto
import Derived.Deep.DeepCutAuto
namespace Go.Proofs.Ythbmbabndhpdkaa
open Go.RowKit
open Classical
set_option linter.unusedVariables false
set_option maxRecDepth 1000000
set_option linter.unusedSimpArgs false
theorem wide_takeL {α : Type} {c : Nat} {dec : α → List Value} {w : World} {ao : Option Addr} {n cap : Nat} {l : List α} (h : Wide c dec w (.slice ao n cap) l) (i : Nat) (hi : i ≤ l.length) : Wide c dec w (.slice ao i cap) (l.take i) := by
  obtain ⟨a1, c1, e1, h0, hc⟩ := h
  injection e1 with e2 e3 e4
  subst e2 e3 e4
  have hl : (l.take i).length = i := by rw [List.length_take]; omega
  refine ⟨ao, cap, by rw [hl], fun e => ⟨by rw [(h0 e).1]; simp, (h0 e).2⟩, fun k hk => ?_⟩
  rw [hl] at hk
  obtain ⟨b, off, e, hlt, hr⟩ := hc k (by omega)
  exact ⟨b, off, e, hlt, by rw [List.getElem_take]; exact hr⟩
theorem numq_ord (c n : Nat) (hn : n < 4294967296) : numq (ordF c n) = n := by
  unfold numq ordF
  simp
  omega
noncomputable def oneS (L a : A4) : Nat → Ls
  | 0 => Ls.new L 0
  | 1 => { Ls.new L 0 with c := ⟨a.x0, 0, 0, 0⟩, pk := 1 }
  | 2 => { Ls.new L 0 with c := ⟨a.x0, a.x1, 0, 0⟩, pk := 2 }
  | 3 => { Ls.new L 0 with c := ⟨a.x0, a.x1, a.x2, 0⟩, pk := 3 }
  | _ => if a = L then { Ls.new L 0 with c := a, pk := 0, mode := 1 } else { Ls.new L 0 with c := a, pk := 0 }
def F68 : F8 := ⟨68, 0, 0, 0, 0, 0, 0, 0⟩
theorem take_part (s : Ls) (k n : Nat) (hk : k < 4) (hn : n < 4294967296) (hm : s.mode = 0) : s.takeS (ordF (64 + k) n) = s.pickS (k : Int) n ∧ s.takeA (ordF (64 + k) n) = Ls.one (if s.pickB (k : Int) n then 68 else -1) := by
  have hb : (ordF (64 + k) n).b0.toNat = 64 + k := by show (UInt8.ofNat (64 + k)).toNat = _; simp; omega
  have h1 : ¬ s.mode = 1 := by omega
  have e : ((64 + k : Nat) : Int) - 64 = (k : Int) := by omega
  have h4 : ¬ (64 + k = 4) := by omega
  have h76 : ¬ (64 + k = 76) := by omega
  have h64 : 64 ≤ 64 + k ∧ 64 + k < 68 := by omega
  unfold Ls.takeS Ls.takeA Ls.waitS Ls.waitA
  rw [hb, numq_ord _ _ hn, if_neg h4, if_neg h4, if_neg h76, if_neg h76, if_neg h1, if_neg h1, if_pos h64, if_pos h64, e]
  exact ⟨rfl, rfl⟩
theorem one_step (L a : A4) (ha : a.ok) (k : Nat) (hk : k < 4) : (oneS L a k).takeS (ordF (64 + k) (a.nth k)) = oneS L a (k + 1) ∧ (oneS L a k).takeA (ordF (64 + k) (a.nth k)) = if k = 3 ∧ a = L then (F68, true) else (F8.nul, false) := by
  have hn := A4.nth_lt ha (k : Int)
  have hm : (oneS L a k).mode = 0 := by
    obtain rfl | rfl | rfl | rfl : k = 0 ∨ k = 1 ∨ k = 2 ∨ k = 3 := by omega
    all_goals rfl
  obtain ⟨h1, h2⟩ := take_part (oneS L a k) k (a.nth k) hk hn hm
  rw [h1, h2]
  obtain rfl | rfl | rfl | rfl : k = 0 ∨ k = 1 ∨ k = 2 ∨ k = 3 := by omega
  · exact ⟨rfl, rfl⟩
  · exact ⟨rfl, rfl⟩
  · exact ⟨rfl, rfl⟩
  · have hc : (oneS L a 3).c.put ((3 : Nat) : Int) (a.nth ((3 : Nat) : Int)) = a := rfl
    have hP : (oneS L a 3).pickB ((3 : Nat) : Int) (a.nth ((3 : Nat) : Int)) = decide (a = L) := by
      unfold Ls.pickB
      rw [hc]
      rfl
    have hS : (oneS L a 3).pickS ((3 : Nat) : Int) (a.nth ((3 : Nat) : Int)) = oneS L a 4 := by
      unfold Ls.pickS
      rw [hc]
      have hp : (oneS L a 3).pk = 3 := rfl
      rw [if_neg (by rw [hp]; omega)]
      by_cases he : a = L
      · rw [if_pos ⟨rfl, he⟩]
        show _ = if a = L then _ else _
        rw [if_pos he]
        rfl
      · rw [if_neg (fun x => he x.2)]
        show _ = if a = L then _ else _
        rw [if_neg he]
        rfl
    rw [hP, hS]
    refine ⟨rfl, ?_⟩
    by_cases he : a = L
    · rw [decide_eq_true he, if_pos (⟨rfl, he⟩ : 3 = 3 ∧ a = L)]; rfl
    · rw [decide_eq_false he, if_neg (show ¬ (3 = 3 ∧ a = L) from fun x => he x.2)]; rfl
theorem LJ.later {g B : Nat} {w x y : World} {s : Ls} (h : LJ g B w x s) (b : Below x.heap.size x y) : LJ g B w y s := by
  obtain ⟨hB, ⟨p, n, hn, S⟩, b0, o⟩ := h
  exact ⟨hB, ⟨p, n, Nat.lt_of_lt_of_le hn b.size, S.below b⟩, b0.trans (b.mono (Nat.le_trans hB b0.size)), o⟩
theorem LJ.lay {g B : Nat} {w x V : World} {s : Ls} {k : Nat} {F : F8} (h : LJ g B w x s) (hV : (x.alloc (.cells zA8 34)).setRow k F.arr = V) (hk : x.heap.size = k) (z : Qb k F8.nul (x.alloc (.cells zA8 34))) (t : Two k k x V) : LJ g B w V s := by
  obtain ⟨hB, ⟨p, n, hn, S⟩, b, o⟩ := h
  have hs := Nat.le_trans hB b.size
  exact ⟨hB, ⟨p, n, Nat.lt_of_lt_of_le hn t.size, by rw [← hV]; exact (S.alloc _).row z _⟩, b.trans (t.below hs (by omega) (by omega)), o⟩
theorem exec_eqAv {a : Act} {o : Oper} {x y : Operand} {t : TypeId} (f g : A4) (b : Bool) (hb : decide (f = g) = b) (ho : o.op = .binOp .eql 23 x y t) (hx : a.eval x = .agg f.arr) (hy : a.eval y = .agg g.arr) (w : World) : (execOp a.eval o).run Try.prog w = .ok (.value (.bool b)) w := by
  rw [← hb]
  exact exec_eqA f g ho hx hy w
theorem load_mid4 {w : World} {b o : Nat} {a : A4k} (h : w.rangeAt b o a.c) (m : Nat) : (loadVar 23 ⟨b, o, none⟩).run Try.prog (w.drewN m) = .ok (.agg a.a.arr) (w.drewN m) := A4k.load (w := w.drewN m) h
set_option maxHeartbeats 8000000 in
theorem lone_walk (v : Value) (l : List A4k) (hl : l.length ≤ 140737488351232) (a : A4k) (w : World) (hW : Wide 4 A4k.c w v l) (hcap : ∀ ao n cap, v = .slice ao n cap → n ≤ cap) : Calls Try.prog 4 #[v, .agg a.a.arr] w fun r w' => r = .returned (.bool true) ∧ Below w.heap.size w w' := by
  obtain ⟨X, B, hX, hq, bX, B0, sX⟩ := boxA w a.a
  have HS : Hid (Wide 4 A4k.c w v l) := hW
  obtain ⟨ao, cap, hv, _⟩ := id hW
  subst hv
  have hcap' := hcap _ _ _ rfl
  have HT : Hid (60 < l.length → Wide 4 A4k.c w (.slice ao 60 cap) (l.take 60)) := fun h => wide_takeL hW 60 (by omega)
  have HL : Hid (∀ y, Calls Try.prog 10 #[] y fun e w' => e = .returned (.bool true) ∧ Below y.heap.size y w') := fun y => lives19_any y
  have HN : Hid (∀ (L : A4) y, Calls Try.prog 8 #[.agg L.arr, .int .i64 0] y fun e w' => e = .returned (.tuple #[.pointer (some ⟨y.heap.size + 1, 0, none⟩), .int .i64 0]) ∧ (∀ n, y.heap.size + 1 ≠ n → Sa (y.heap.size + 1) n none (Ls.new L 0) w') ∧ Below y.heap.size y w') := fun L y => lnew_ok L 0 ⟨by omega, by omega⟩ y
  have HBX := hidOf2 bX
  have HB0 := hidOf2 B0
  have HSX : Hid (X.heap.size = B + 1 ∧ w.heap.size = B) := ⟨sX, hq⟩
  clear hW hcap bX B0 sX
  rw [hq]
  go_enter Try.func4, Try.ntmps4
  go_upto_if 14 with fail
  go_cut [0] (fun s0 wx => wx = X ∧ ∃ ao cap l', s0 = .slice ao (List.length l') cap ∧ List.length l' ≤ 140737488351232 ∧ Wide 4 A4k.c w (.slice ao (List.length l') cap) l')
  case first =>
    by_cases h60 : 60 < l.length
    · have HT2 := hidOf2 (HT.out h60)
      have HLn : Hid ((l.take 60).length = 60) := by show _ = _; simp; omega
      clear HT HS
      have d1 : decide ((60 : Int) < (l.length : Int)) = true := by simp; omega
      go_wp2_with fail
      go_meet
      case rel => exact ⟨rfl, ao, cap, l.take 60, by rw [HLn.out], by rw [HLn.out]; omega, by rw [HLn.out]; exact HT2.out⟩
    · have d1 : decide ((60 : Int) < (l.length : Int)) = false := by simp; omega
      go_wp2_with fail
      go_meet
      case rel => exact ⟨rfl, ao, cap, l, rfl, hl, HS.out⟩
  case rest =>
  obtain ⟨rfl, ao1, cap1, l', rfl, hl', hW⟩ := hcut
  obtain ⟨ao2, cap2, hv2, _, hc⟩ := hW
  injection hv2 with e1 e2 e3
  subst e1 e3
  have HC : Hid (∀ (wr : World), Below (B + 1) wc wr → ∀ k (hk : k < l'.length), ∃ b off, ao1 = some ⟨b, off, none⟩ ∧ b < w.heap.size ∧ wr.rangeAt b (off + k * 4) (A4k.c l'[k])) := fun wr hb k hk => Wide.at hc (by have b := HB0.out; exact b.trans (hb.mono (by have := HSX.out; omega))) k hk
  clear HS HT hcap' hc e2
  go_wp2_with fail
  go_loopw [5] (fun s5 x => ∃ k, k ≤ l'.length ∧ s5 = .int .i64 (k : Nat) ∧ Below (B + 1) wc x) (fun s5 _ => l'.length - (intOf s5).toNat)
  case atStart => exact ⟨0, by omega, rfl, Below.refl _ _⟩
  case round =>
    obtain ⟨k, hk, rfl, B5⟩ := hrel
    by_cases hkl : k < l'.length
    · have hd : decide ((k : Int) < (l'.length : Int)) = true := by simp; omega
      obtain ⟨b, off, rfl, hb, hR⟩ := HC.out wr B5 k hkl
      have lA := A4k.load hR
      have HR : Hid (∀ y, Below (B + 1) wc y → y.rangeAt b (off + k * 4) (A4k.c l'[k])) := fun y hy => by
        obtain ⟨b', off', e, _, h9⟩ := HC.out y hy k hkl
        injection e with e; injection e with e1 e2; subst e1; subst e2
        exact h9
      have hN := HN.out l'[k].a wr
      obtain ⟨g, hg⟩ : ∃ g, wr.heap.size + 1 = g := ⟨_, rfl⟩
      rw [hg] at hN
      have HG : Hid (B + 1 ≤ g ∧ B + 1 ≤ wr.heap.size ∧ wr.heap.size + 1 = g) := ⟨by have := B5.size; have := HSX.out; omega, by have := B5.size; have := HSX.out; omega, hg⟩
      have HB5 := hidOf2 B5
      generalize l'[k] = L at *
      clear hR B5 hg
      go_wp2_with (first | (refine ldG lA rfl _ rfl rfl ?_))
      refine hN.mono ?_
      rintro e w1 ⟨rfl, N1, B1⟩
      have HI : Hid (LJ g (B + 1) wc w1 (oneS L.a a.a 0)) := by
        have K := HG.out
        exact ⟨by have := HSX.out; omega, ⟨none, B, by have := B1.size; omega, N1 B (by omega)⟩, HB5.out.trans (B1.mono K.2.1), Ls.new_ok L.ok ⟨by omega, by omega⟩⟩
      clear N1 B1 hN lA
      go_wp2_with fail
      go_loopw [8, 9] (fun s8 s9 x => ∃ (j : Nat) (t : Bool), j ≤ 4 ∧ s9 = .int .i64 j ∧ s8 = .bool t ∧ Hid (t = (decide (j = 4) && decide (a.a = L.a))) ∧ LJ g (B + 1) wc x (oneS L.a a.a j)) (fun _ s9 _ => 4 - (intOf s9).toNat)
      case atStart => exact ⟨0, false, by omega, rfl, rfl, rfl, HI.out⟩
      case round =>
        clear HI
        obtain ⟨j, t, hj, rfl, rfl, HJt, J⟩ := hrel
        by_cases hjn : j = 4
        · subst hjn
          by_cases he : a.a = L.a
          · have htv : t = true := by rw [HJt.out]; simp [he]
            subst htv
            have hmd : (oneS L.a a.a 4).mode = 1 := by show (if a.a = L.a then ({ Ls.new L.a 0 with c := a.a, pk := 0, mode := 1 } : Ls) else { Ls.new L.a 0 with c := a.a, pk := 0 }).mode = _; rw [if_pos he]; try rfl
            have HEq : Hid (decide (L.a = a.a) = true) := by show _ = _; simp [he]
            have bA : Bc 23 B a.a.arr wr := (J.below.block B (by omega)).trans HBX.out
            have HLA : Hid (∀ m, (loadVar 23 ⟨b, off + k * 4, none⟩).run Try.prog (wr.drewN m) = .ok (.agg L.a.arr) (wr.drewN m)) := fun m => load_mid4 (HR.out wr J.below) m
            have HAA : Hid (∀ m, (loadVar 23 ⟨B, 0, none⟩).run Try.prog (wr.drewN m) = .ok (.agg a.a.arr) (wr.drewN m)) := fun m => load_a4 (w := wr.drewN m) bA
            have HMd : ∀ m, Calls Try.prog 16 #[.pointer (some ⟨g, 0, none⟩)] (wr.drewN m) fun e y => e = .returned (.int .i64 1) ∧ y = wr.drewN m := fun m => by
              have := (J.drawn m).mode
              rw [hmd] at this
              exact this
            have HBJ := hidOf2 J.below
            clear HJt J hmd bA he
            go_upto_region 15 with fail
            refine wp_region_quiet_lit (by kernel_rfl) (by kernel_rfl) ?_
            repeat (first
              | (go_big_quiet_step (first | (go_at_call 16; exact Calls.quiet_of_same (HMd _))))
              | (refine quietL (.agg L.a.arr) rfl _ rfl rfl (fun w' hw => by obtain ⟨m, rfl⟩ := hw; exact HLA.out m) ?_; simp only [Act.put, List.setIfInBounds_toArray, List.set_cons_succ, List.set_cons_zero])
              | (refine quietL (.agg a.a.arr) rfl _ rfl rfl (fun w' hw => by obtain ⟨m, rfl⟩ := hw; exact HAA.out m) ?_; simp only [Act.put, List.setIfInBounds_toArray, List.set_cons_succ, List.set_cons_zero])
              | (refine quietE (.bool true) rfl (fun w => exec_eqAv L.a a.a true HEq.out rfl rfl rfl w) ?_; simp only [Act.put, List.setIfInBounds_toArray, List.set_cons_succ, List.set_cons_zero]))
            refine wpQuiet_nil ?_
            intro _ hw'
            obtain ⟨nq, hw''⟩ := hw'
            subst hw''
            go_wp2
            go_roundw
            case rel => exact ⟨k + 1, by omega, by go_num, below_drawn HBJ.out _⟩
            case measure => simp [intOf]; omega
          · have htv : t = false := by rw [HJt.out]; simp [he]
            subst htv
            have hmd : (oneS L.a a.a 4).mode = 0 := by show (if a.a = L.a then ({ Ls.new L.a 0 with c := a.a, pk := 0, mode := 1 } : Ls) else { Ls.new L.a 0 with c := a.a, pk := 0 }).mode = _; rw [if_neg he]; try rfl
            have HEq : Hid (decide (L.a = a.a) = false) := by show _ = _; simp [show ¬ L.a = a.a from fun x => he x.symm]
            have bA : Bc 23 B a.a.arr wr := (J.below.block B (by omega)).trans HBX.out
            have HLA : Hid (∀ m, (loadVar 23 ⟨b, off + k * 4, none⟩).run Try.prog (wr.drewN m) = .ok (.agg L.a.arr) (wr.drewN m)) := fun m => load_mid4 (HR.out wr J.below) m
            have HAA : Hid (∀ m, (loadVar 23 ⟨B, 0, none⟩).run Try.prog (wr.drewN m) = .ok (.agg a.a.arr) (wr.drewN m)) := fun m => load_a4 (w := wr.drewN m) bA
            have HMd : ∀ m, Calls Try.prog 16 #[.pointer (some ⟨g, 0, none⟩)] (wr.drewN m) fun e y => e = .returned (.int .i64 0) ∧ y = wr.drewN m := fun m => by
              have := (J.drawn m).mode
              rw [hmd] at this
              exact this
            have HBJ := hidOf2 J.below
            clear HJt J hmd bA he
            go_upto_region 15 with fail
            refine wp_region_quiet_lit (by kernel_rfl) (by kernel_rfl) ?_
            repeat (first
              | (go_big_quiet_step (first | (go_at_call 16; exact Calls.quiet_of_same (HMd _))))
              | (refine quietL (.agg L.a.arr) rfl _ rfl rfl (fun w' hw => by obtain ⟨m, rfl⟩ := hw; exact HLA.out m) ?_; simp only [Act.put, List.setIfInBounds_toArray, List.set_cons_succ, List.set_cons_zero])
              | (refine quietL (.agg a.a.arr) rfl _ rfl rfl (fun w' hw => by obtain ⟨m, rfl⟩ := hw; exact HAA.out m) ?_; simp only [Act.put, List.setIfInBounds_toArray, List.set_cons_succ, List.set_cons_zero])
              | (refine quietE (.bool false) rfl (fun w => exec_eqAv L.a a.a false HEq.out rfl rfl rfl w) ?_; simp only [Act.put, List.setIfInBounds_toArray, List.set_cons_succ, List.set_cons_zero]))
            refine wpQuiet_nil ?_
            intro _ hw'
            obtain ⟨nq, hw''⟩ := hw'
            subst hw''
            go_wp2
            go_roundw
            case rel => exact ⟨k + 1, by omega, by go_num, below_drawn HBJ.out _⟩
            case measure => simp [intOf]; omega
        · obtain rfl | rfl | rfl | rfl : j = 0 ∨ j = 1 ∨ j = 2 ∨ j = 3 := by omega
          · obtain rfl : t = false := HJt.out
            have bA : Bc 23 B a.a.arr wr := (J.below.block B (by omega)).trans HBX.out
            have cA : wr.cell? ⟨B, 0, none⟩ = some (.int .u32 (a.a.x0 : Int)) := Bc.cell bA 0
            have hO : Calls Try.prog 13 #[.int .u8 64, .int .u32 (a.a.x0 : Int)] wr fun e w' => e = .returned (.agg (ordF (64 + 0) (a.a.nth ((0 : Nat) : Int))).arr) ∧ Below wr.heap.size wr w' := lorder_any 64 a.a.x0 wr (by omega) (by have := a.ok; obtain ⟨x0, x1, x2, x3⟩ := this; assumption)
            have hS := one_step L.a a.a a.ok 0 (by omega)
            have HTk : Hid (∀ y, LJ g (B + 1) wc y (oneS L.a a.a 0) → Calls Try.prog 15 #[.pointer (some ⟨g, 0, none⟩), .agg (ordF (64 + 0) (a.a.nth ((0 : Nat) : Int))).arr] y fun e z => e = .returned (.tuple #[.agg F8.nul.arr, .bool false]) ∧ LJ g (B + 1) wc z (oneS L.a a.a (0 + 1))) := fun y hy => by
              have := hy.take (by have := HG.out; omega) (ordF (64 + 0) (a.a.nth ((0 : Nat) : Int)))
              rw [hS.1, hS.2, if_neg (show ¬ (0 = 3 ∧ a.a = L.a) from fun x => absurd x.1 (by decide))] at this
              exact this
            generalize ordF (64 + 0) (a.a.nth ((0 : Nat) : Int)) = Q at *
            have HJ := hidOf2 J
            clear bA hS J hjn HJt
            go_wp2_with fail
            refine hO.mono ?_
            rintro e w2 ⟨rfl, B2⟩
            have hT := HTk.out w2 (HJ.out.later B2)
            clear hO cA
            go_wp2_with fail
            refine hT.mono ?_
            rintro e w3 ⟨rfl, J3⟩
            obtain ⟨V, k1, hV, hk1, z1, q1, t1, l1⟩ := lay8 w3 F8.nul
            have J4 := hidOf2 (J3.lay hV hk1 z1 t1)
            have hV' := hV
            unfold zA8 at hV'
            have HV := hidOf2 hV'
            clear hT J3 hV hV' q1 t1 l1 HTk HJ
            go_upto_region 14 with (first | (refine sdF (g := F8.nul) z1 rfl _ _ rfl rfl rfl ?_))
            rw [HV.out]
            clear HV z1
            go_wp2_with fail
            go_roundw
            case rel => exact ⟨0 + 1, false, by omega, by go_num, rfl, by show _ = _; simp, J4.out⟩
            case measure => simp [intOf]
          · obtain rfl : t = false := HJt.out
            have bA : Bc 23 B a.a.arr wr := (J.below.block B (by omega)).trans HBX.out
            have cA : wr.cell? ⟨B, 1, none⟩ = some (.int .u32 (a.a.x1 : Int)) := Bc.cell bA 1
            have hO : Calls Try.prog 13 #[.int .u8 65, .int .u32 (a.a.x1 : Int)] wr fun e w' => e = .returned (.agg (ordF (64 + 1) (a.a.nth ((1 : Nat) : Int))).arr) ∧ Below wr.heap.size wr w' := lorder_any 65 a.a.x1 wr (by omega) (by have := a.ok; obtain ⟨x0, x1, x2, x3⟩ := this; assumption)
            have hS := one_step L.a a.a a.ok 1 (by omega)
            have HTk : Hid (∀ y, LJ g (B + 1) wc y (oneS L.a a.a 1) → Calls Try.prog 15 #[.pointer (some ⟨g, 0, none⟩), .agg (ordF (64 + 1) (a.a.nth ((1 : Nat) : Int))).arr] y fun e z => e = .returned (.tuple #[.agg F8.nul.arr, .bool false]) ∧ LJ g (B + 1) wc z (oneS L.a a.a (1 + 1))) := fun y hy => by
              have := hy.take (by have := HG.out; omega) (ordF (64 + 1) (a.a.nth ((1 : Nat) : Int)))
              rw [hS.1, hS.2, if_neg (show ¬ (1 = 3 ∧ a.a = L.a) from fun x => absurd x.1 (by decide))] at this
              exact this
            generalize ordF (64 + 1) (a.a.nth ((1 : Nat) : Int)) = Q at *
            have HJ := hidOf2 J
            clear bA hS J hjn HJt
            go_wp2_with fail
            refine hO.mono ?_
            rintro e w2 ⟨rfl, B2⟩
            have hT := HTk.out w2 (HJ.out.later B2)
            clear hO cA
            go_wp2_with fail
            refine hT.mono ?_
            rintro e w3 ⟨rfl, J3⟩
            obtain ⟨V, k1, hV, hk1, z1, q1, t1, l1⟩ := lay8 w3 F8.nul
            have J4 := hidOf2 (J3.lay hV hk1 z1 t1)
            have hV' := hV
            unfold zA8 at hV'
            have HV := hidOf2 hV'
            clear hT J3 hV hV' q1 t1 l1 HTk HJ
            go_upto_region 14 with (first | (refine sdF (g := F8.nul) z1 rfl _ _ rfl rfl rfl ?_))
            rw [HV.out]
            clear HV z1
            go_wp2_with fail
            go_roundw
            case rel => exact ⟨1 + 1, false, by omega, by go_num, rfl, by show _ = _; simp, J4.out⟩
            case measure => simp [intOf]
          · obtain rfl : t = false := HJt.out
            have bA : Bc 23 B a.a.arr wr := (J.below.block B (by omega)).trans HBX.out
            have cA : wr.cell? ⟨B, 2, none⟩ = some (.int .u32 (a.a.x2 : Int)) := Bc.cell bA 2
            have hO : Calls Try.prog 13 #[.int .u8 66, .int .u32 (a.a.x2 : Int)] wr fun e w' => e = .returned (.agg (ordF (64 + 2) (a.a.nth ((2 : Nat) : Int))).arr) ∧ Below wr.heap.size wr w' := lorder_any 66 a.a.x2 wr (by omega) (by have := a.ok; obtain ⟨x0, x1, x2, x3⟩ := this; assumption)
            have hS := one_step L.a a.a a.ok 2 (by omega)
            have HTk : Hid (∀ y, LJ g (B + 1) wc y (oneS L.a a.a 2) → Calls Try.prog 15 #[.pointer (some ⟨g, 0, none⟩), .agg (ordF (64 + 2) (a.a.nth ((2 : Nat) : Int))).arr] y fun e z => e = .returned (.tuple #[.agg F8.nul.arr, .bool false]) ∧ LJ g (B + 1) wc z (oneS L.a a.a (2 + 1))) := fun y hy => by
              have := hy.take (by have := HG.out; omega) (ordF (64 + 2) (a.a.nth ((2 : Nat) : Int)))
              rw [hS.1, hS.2, if_neg (show ¬ (2 = 3 ∧ a.a = L.a) from fun x => absurd x.1 (by decide))] at this
              exact this
            generalize ordF (64 + 2) (a.a.nth ((2 : Nat) : Int)) = Q at *
            have HJ := hidOf2 J
            clear bA hS J hjn HJt
            go_wp2_with fail
            refine hO.mono ?_
            rintro e w2 ⟨rfl, B2⟩
            have hT := HTk.out w2 (HJ.out.later B2)
            clear hO cA
            go_wp2_with fail
            refine hT.mono ?_
            rintro e w3 ⟨rfl, J3⟩
            obtain ⟨V, k1, hV, hk1, z1, q1, t1, l1⟩ := lay8 w3 F8.nul
            have J4 := hidOf2 (J3.lay hV hk1 z1 t1)
            have hV' := hV
            unfold zA8 at hV'
            have HV := hidOf2 hV'
            clear hT J3 hV hV' q1 t1 l1 HTk HJ
            go_upto_region 14 with (first | (refine sdF (g := F8.nul) z1 rfl _ _ rfl rfl rfl ?_))
            rw [HV.out]
            clear HV z1
            go_wp2_with fail
            go_roundw
            case rel => exact ⟨2 + 1, false, by omega, by go_num, rfl, by show _ = _; simp, J4.out⟩
            case measure => simp [intOf]
          · obtain rfl : t = false := HJt.out
            by_cases he : a.a = L.a
            · skip
              have bA : Bc 23 B a.a.arr wr := (J.below.block B (by omega)).trans HBX.out
              have cA : wr.cell? ⟨B, 3, none⟩ = some (.int .u32 (a.a.x3 : Int)) := Bc.cell bA 3
              have hO : Calls Try.prog 13 #[.int .u8 67, .int .u32 (a.a.x3 : Int)] wr fun e w' => e = .returned (.agg (ordF (64 + 3) (a.a.nth ((3 : Nat) : Int))).arr) ∧ Below wr.heap.size wr w' := lorder_any 67 a.a.x3 wr (by omega) (by have := a.ok; obtain ⟨x0, x1, x2, x3⟩ := this; assumption)
              have hS := one_step L.a a.a a.ok 3 (by omega)
              have HTk : Hid (∀ y, LJ g (B + 1) wc y (oneS L.a a.a 3) → Calls Try.prog 15 #[.pointer (some ⟨g, 0, none⟩), .agg (ordF (64 + 3) (a.a.nth ((3 : Nat) : Int))).arr] y fun e z => e = .returned (.tuple #[.agg F68.arr, .bool true]) ∧ LJ g (B + 1) wc z (oneS L.a a.a (3 + 1))) := fun y hy => by
                have := hy.take (by have := HG.out; omega) (ordF (64 + 3) (a.a.nth ((3 : Nat) : Int)))
                rw [hS.1, hS.2, if_pos (⟨rfl, he⟩ : 3 = 3 ∧ a.a = L.a)] at this
                exact this
              generalize ordF (64 + 3) (a.a.nth ((3 : Nat) : Int)) = Q at *
              have HJ := hidOf2 J
              have HE := hidOf2 he
              clear bA hS J hjn HJt he
              go_wp2_with fail
              refine hO.mono ?_
              rintro e w2 ⟨rfl, B2⟩
              have hT := HTk.out w2 (HJ.out.later B2)
              clear hO cA
              go_wp2_with fail
              refine hT.mono ?_
              rintro e w3 ⟨rfl, J3⟩
              obtain ⟨V, k1, hV, hk1, z1, q1, t1, l1⟩ := lay8 w3 F68
              have J4 := hidOf2 (J3.lay hV hk1 z1 t1)
              have hV' := hV
              unfold zA8 at hV'
              have HV := hidOf2 hV'
              have u68 : V.cell? ⟨k1, 0, none⟩ = some (.int .u8 68) := q1.c0
              clear hT J3 hV hV' q1 t1 l1 HTk HJ
              go_upto_region 14 with (first | (refine sdF (g := F68) z1 rfl _ _ rfl rfl rfl ?_))
              rw [HV.out]
              clear HV z1
              go_wp2_with fail
              go_roundw
              case rel => exact ⟨3 + 1, true, by omega, by go_num, rfl, by show _ = _; simp [HE.out], J4.out⟩
              case measure => simp [intOf]
            · skip
              have bA : Bc 23 B a.a.arr wr := (J.below.block B (by omega)).trans HBX.out
              have cA : wr.cell? ⟨B, 3, none⟩ = some (.int .u32 (a.a.x3 : Int)) := Bc.cell bA 3
              have hO : Calls Try.prog 13 #[.int .u8 67, .int .u32 (a.a.x3 : Int)] wr fun e w' => e = .returned (.agg (ordF (64 + 3) (a.a.nth ((3 : Nat) : Int))).arr) ∧ Below wr.heap.size wr w' := lorder_any 67 a.a.x3 wr (by omega) (by have := a.ok; obtain ⟨x0, x1, x2, x3⟩ := this; assumption)
              have hS := one_step L.a a.a a.ok 3 (by omega)
              have HTk : Hid (∀ y, LJ g (B + 1) wc y (oneS L.a a.a 3) → Calls Try.prog 15 #[.pointer (some ⟨g, 0, none⟩), .agg (ordF (64 + 3) (a.a.nth ((3 : Nat) : Int))).arr] y fun e z => e = .returned (.tuple #[.agg F8.nul.arr, .bool false]) ∧ LJ g (B + 1) wc z (oneS L.a a.a (3 + 1))) := fun y hy => by
                have := hy.take (by have := HG.out; omega) (ordF (64 + 3) (a.a.nth ((3 : Nat) : Int)))
                rw [hS.1, hS.2, if_neg (show ¬ (3 = 3 ∧ a.a = L.a) from fun x => he x.2)] at this
                exact this
              generalize ordF (64 + 3) (a.a.nth ((3 : Nat) : Int)) = Q at *
              have HJ := hidOf2 J
              have HE := hidOf2 he
              clear bA hS J hjn HJt he
              go_wp2_with fail
              refine hO.mono ?_
              rintro e w2 ⟨rfl, B2⟩
              have hT := HTk.out w2 (HJ.out.later B2)
              clear hO cA
              go_wp2_with fail
              refine hT.mono ?_
              rintro e w3 ⟨rfl, J3⟩
              obtain ⟨V, k1, hV, hk1, z1, q1, t1, l1⟩ := lay8 w3 F8.nul
              have J4 := hidOf2 (J3.lay hV hk1 z1 t1)
              have hV' := hV
              unfold zA8 at hV'
              have HV := hidOf2 hV'
              clear hT J3 hV hV' q1 t1 l1 HTk HJ
              go_upto_region 14 with (first | (refine sdF (g := F8.nul) z1 rfl _ _ rfl rfl rfl ?_))
              rw [HV.out]
              clear HV z1
              go_wp2_with fail
              go_roundw
              case rel => exact ⟨3 + 1, false, by omega, by go_num, rfl, by show _ = _; simp [HE.out], J4.out⟩
              case measure => simp [intOf]
    · have hd : decide ((k : Int) < (l'.length : Int)) = false := by simp; omega
      have HB5 := hidOf2 B5
      clear B5
      go_wp2_with fail
      refine (HL.out wr).mono ?_
      rintro e w8 ⟨rfl, B8⟩
      go_wp2
      go_ret
      have b5 := HB5.out
      have b0 := HB0.out
      have K := HSX.out
      rw [K.2] at b0
      exact ⟨rfl, (b0.trans (b5.mono (by omega))).trans (B8.mono (by have := b5.size; omega))⟩
end Go.Proofs.Ythbmbabndhpdkaa
