/- The law PdoTakes returns true whatever type and things come in. -/
import Derived.Test.YtkflffdoipeocaaOaG
import Derived.Test.YtkflffdoipeocaaOOp15
namespace Go.Proofs.Ytkflffdoipeocaa
open Go.RowKit
set_option linter.unusedVariables false
set_option maxRecDepth 1000000
set_option linter.unusedSimpArgs false
theorem ztak_bad (t : Int) (v : Value) (w : World) (h : isO t = false) : Calls Try.prog 5 #[.int .i64 t, v] w fun r w' => r = .returned (.bool true) ∧ Below w.heap.size w w' := by
  have hN := newT_bad w t h
  have hI := dis_any w t
  rw [h] at hI
  have hL := lives15_any w
  go_enter Try.func5, Try.ntmps5
  go_wp2_with (first | (go_at_call 19; refine hN.mono ?_; rintro r w1 ⟨rfl, hw⟩; rw [hw]) | (go_at_call 20; refine hI.mono ?_; rintro r w1 ⟨rfl, hw⟩; rw [hw]) | (go_at_call 11; refine hL.mono ?_; rintro r w9 ⟨rfl, B9⟩))
  go_ret
  exact ⟨rfl, B9⟩
/-- What comes, copied into a variable of the law. -/
def Cx (p : Nat) (kd : Int) (on : Bool) (v : Value) (x : World) : Prop := Bc 48 p #[.int .i64 kd, .bool on, v] x
theorem Cx.cells {p : Nat} {kd : Int} {on : Bool} {v : Value} {x : World} (h : Cx p kd on v x) : x.cell? ⟨p, 0, none⟩ = some (.int .i64 kd) ∧ x.cell? ⟨p, 1, none⟩ = some (.bool on) ∧ x.cell? ⟨p, 2, none⟩ = some v := ⟨Bc.cell h 0, Bc.cell h 1, Bc.cell h 2⟩
theorem own_at {y : World} {B z n c j : Nat} {bs : List UInt8} (h : y.ownsRow B 5 1 (.slice (some ⟨z, 0, none⟩) n c) bs.length (Lib.byteCells bs)) (hj : j < bs.length) :
    y.cell? ⟨z, j, none⟩ = some (.int .u8 bs[j].toNat) ∧ y.frozen? ⟨z, j, none⟩ = false := by
  obtain ⟨_, ⟨h0, _⟩ | ⟨g, cap, cur, hv, hb, hg, h1, h2, h3, h4⟩⟩ := h
  · cases h0
  · injection hv with hv _ _
    injection hv with hv
    injection hv with hv
    subst hv
    refine ⟨?_, Lib.frozen_of_heap hg j⟩
    rw [Lib.cell_of_heap hg]
    have e : cur.toList[j]? = (Lib.byteCells bs)[j]? := by
      rw [← h4, List.getElem?_take]; simp; omega
    simp [Lib.byteCells] at e
    simp [e, hj]
theorem own_put {y : World} {B z n c j : Nat} {bs : List UInt8} (h : y.ownsRow B 5 1 (.slice (some ⟨z, 0, none⟩) n c) bs.length (Lib.byteCells bs)) (u : UInt8) :
    (y.setCell ⟨z, j, none⟩ (.int .u8 u.toNat)).ownsRow B 5 1 (.slice (some ⟨z, 0, none⟩) n c) (bs.set j u).length (Lib.byteCells (bs.set j u)) := by
  obtain ⟨hl, ⟨h0, _⟩ | ⟨g, cap, cur, hv, hb, hg, h1, h2, h3, h4⟩⟩ := h
  · cases h0
  · have hv' := hv
    injection hv with hv _ _
    injection hv with hv
    injection hv with hv
    subst hv
    refine ⟨by simp [Lib.byteCells], .inr ⟨z, cap, cur.setIfInBounds j (.int .u8 u.toNat), by rw [List.length_set]; exact hv', hb, ?_, by simpa using h1, h2, by simpa using h3, ?_⟩⟩
    · simp [World.setCell, Array.getElem?_modify, hg]
    · rw [Array.toList_setIfInBounds, List.length_set, List.take_set, h4]
      simp [Lib.byteCells]
/-- What stands ahead of each thing that comes. -/
def TI (p g : Nat) (t : Int) (on has : Bool) (W : List UInt8) (w x : World) : Prop := Ta g (fun _ => True) ⟨freeO t, on, if on && has then some W else none⟩ x ∧ Below p w x
theorem TI.drawn {p g : Nat} {t : Int} {on has : Bool} {W : List UInt8} {w x : World} (h : TI p g t on has W w x) (n : Nat) : TI p g t on has W w (x.drewN n) := ⟨h.1, below_drawn h.2 n⟩
set_option maxHeartbeats 4000000 in
theorem ztak_ok (t : Int) (v : Value) (l : List C15) (h : isO t = true) (hl : l.length ≤ 140737488351232) (w : World) (hok : ∀ a ∈ l, a.ok w) (hB : Wide 3 C15.c w v l) :
    Calls Try.prog 5 #[.int .i64 t, v] w fun r w' => r = .returned (.bool true) ∧ Below w.heap.size w w' := by
  obtain ⟨ao, cap, rfl, _, hc⟩ := hB
  have HC : Hid (∀ (wr : World), Below w.heap.size w wr → ∀ k (hk : k < l.length), ∃ b off, ao = some ⟨b, off, none⟩ ∧ b < w.heap.size ∧ wr.rangeAt b (off + k * 3) (C15.c l[k])) := fun wr hb k hk => Wide.at hc hb k hk
  have HOK : Hid (∀ k (hk : k < l.length), l[k].ok w) := fun k hk => hok _ (List.getElem_mem hk)
  clear hc hok
  have hN := newT_ok (P := fun _ => True) w t h
  have hI : ∀ x, Calls Try.prog 20 #[.int .i64 t] x fun e w' => e = .returned (.bool true) ∧ w' = x := fun x => by have := dis_any x t; rw [h] at this; exact this
  have HF : Hid (∀ x, Calls Try.prog 15 #[.int .i64 t] x fun e w' => e = .returned (.bool (freeO t)) ∧ w' = x) := fun x => dfree_any x t
  generalize hp : w.heap.size = p at *
  go_enter Try.func5, Try.ntmps5
  go_wp2_with fail
  refine hN.mono ?_
  rintro r w1 ⟨rfl, T1, B1⟩
  have lg := T1.lt
  go_wp2_with (go_at_call 20; refine (hI _).mono ?_; rintro r w2 ⟨rfl, hw⟩; rw [hw])
  have HI : Hid (TI p p t false false [] w w1) := ⟨T1, B1⟩
  clear T1 B1 hN hI
  go_loopw [7, 8, 9, 10] (fun ov hv wv iv x => ∃ k on has W, k ≤ l.length ∧ ov = .bool on ∧ hv = .bool has ∧ wv = .string ⟨List.toArray W⟩ ∧ iv = .int .i64 (k : Nat) ∧ TI p p t on has W w x) (fun _ _ _ iv _ => l.length - (intOf iv).toNat)
  case atStart => exact ⟨0, false, false, [], by omega, rfl, rfl, rfl, rfl, HI.out⟩
  case round =>
    clear HI
    obtain ⟨k, on, has, W, hk, rfl, rfl, rfl, rfl, hT⟩ := hrel
    have B5 : Below p w wr := hT.2
    have T5 := hT.1
    clear hT
    by_cases hkl : k < l.length
    · have hd : decide ((k : Int) < (l.length : Int)) = true := by simp; omega
      obtain ⟨b, off, rfl, hb, hR⟩ := HC.out wr B5 k hkl
      have ha := HOK.out k hkl
      generalize l[k] = a at *
      obtain ⟨kd, con, bv, bl⟩ := a
      obtain ⟨hkd, hbv, hbl⟩ := ha
      simp only at hkd hbv hbl
      have HBy : Hid (∀ x, Below p w x → Bytes x bv bl) := fun x hx => hbv.below (by rw [hp]; exact hx)
      obtain ⟨ab, cb, hbv2, _⟩ := hbv
      subst hbv2
      obtain ⟨c0, c1, c2⟩ := C15.cells hR
      obtain ⟨q, hq⟩ : ∃ x, wr.heap.size = x := ⟨_, rfl⟩
      obtain ⟨X, hX⟩ : ∃ x, wr.alloc (.cells #[.int .i64 kd, .bool con, .slice ab bl.length cb] 48) = x := ⟨_, rfl⟩
      have lgq : p < q := by have := T5.lt; omega
      have CX : Cx q kd con (.slice ab bl.length cb) X := by
        rw [← hX, ← hq]
        exact heap_alloc_new wr _
      have BX : Below wr.heap.size wr X := by rw [← hX]; exact (Below.refl _ _).alloc (Nat.le_refl _) _
      have TX := T5.below BX
      have B6 : Below p w X := B5.trans (BX.mono (by have := B5.size; omega))
      clear T5 B5 BX
      go_upto_region 11 with (refine C15.ld hR rfl _ rfl rfl ?_; unfold C15.arr)
      clear hX hq hR c0 c1 c2
      have hqX : q < X.heap.size := Bc.lt CX
      obtain ⟨x0, x1, x2⟩ := CX.cells
      by_cases h0 : kd = 0
      · subst h0
        obtain ⟨X1, hX1⟩ : ∃ x, X.alloc (.cells #[] 5) = x := ⟨_, rfl⟩
        obtain ⟨e0, he0⟩ : ∃ x, X.heap.size = x := ⟨_, rfl⟩
        have HO : Hid (X1.ownsRow e0 5 1 (.slice (some ⟨e0, 0, none⟩) 0 0) 0 []) := by
          show World.ownsRow _ _ _ _ _ _ _
          rw [← hX1, ← he0]
          exact own_empty X
        have BX1 : Below X.heap.size X X1 := by rw [← hX1]; exact (Below.refl _ _).alloc (Nat.le_refl _) _
        have hs1 : X1.heap.size = e0 + 1 := by rw [← hX1, ← he0]; simp
        have B7 : Below p w X1 := B6.trans (BX1.mono (by have := B6.size; omega))
        have HB2 : Hid (Bytes X1 (.slice ab bl.length cb) bl) := HBy.out X1 B7
        have T7 := (TX.wide (R := fun z => z < e0) (fun z hz _ => by omega)).below BX1
        have C7 : Cx q 0 con (.slice ab bl.length cb) X1 := Bc.below CX BX1
        obtain ⟨y0, y1, y2⟩ := C7.cells
        have HG : Hid (∀ v1 w2, w2.ownsRow e0 5 1 v1 bl.length (Lib.byteCells bl) → X1.grownBy w2 (some e0) → Below p w w2 ∧ Ta p (fun z => v1.ownBlock ≠ some z) ⟨freeO t, on, if on && has then some W else none⟩ w2 ∧ Cx q 0 con (.slice ab bl.length cb) w2 ∧ (∀ z, v1.ownBlock = some z → e0 ≤ z ∧ z < w2.heap.size)) := by
          intro v1 w2 h1 h2
          have T9 : Two e0 e0 X1 w2 := ⟨h2.os, h2.tape, h2.output, h2.size, fun z hz h3 _ => h2.block z hz (fun h => h3 (Option.some.inj h))⟩
          have hz : ∀ z, v1.ownBlock = some z → e0 ≤ z ∧ z < w2.heap.size := fun z hz => ⟨own_lt h1 z hz, by
            rcases h1.2 with ⟨rfl, _⟩ | ⟨z', cap, cur, rfl, _, hg, _⟩
            · simp [Value.ownBlock] at hz
            · simp [Value.ownBlock] at hz
              subst hz
              exact (Array.getElem?_eq_some_iff.1 hg).1⟩
          refine ⟨B7.trans (T9.below (by have := B7.size; omega) (by omega) (by omega)), ?_, Bc.two C7 T9 (by omega) (by omega), hz⟩
          refine (T7.two T9 (by omega) (by omega) (fun z h => by omega) (fun z h => by omega)).wide ?_
          intro z _ h3 h4
          have := (hz z h4).1
          omega
        clear T7 C7 BX1 B7 TX CX B6
        go_upto_region 14 with (at_builtin; refine append_bytes rfl _ _ rfl e0 _ [] rfl (by exact HO.out) _ bl rfl (by exact HB2.out) (by simp; omega) (by omega) ?_; intro v1 w2 ho hgr; have HO2 := hidOf2 (show w2.ownsRow e0 5 1 v1 bl.length (Lib.byteCells bl) from ho); have HG2 := hidOf2 (HG.out v1 w2 ho hgr); clear ho hgr)
        obtain ⟨b2, T2, C2, hz2⟩ := HG2.out
        have r2 := HO2.out
        have hK := ttake_any T2 (fun z hz h9 => by have := (hz2 z h9).2; omega) v1 bl (by omega) (bytes_of_own r2)
        clear HG HO HB2 HG2 HO2 y0 y1 y2 hX1
        obtain ⟨n1, hn1⟩ : ∃ m, bl.length = m := ⟨_, rfl⟩
        obtain ⟨av, cv, hv1⟩ : ∃ av cv, v1 = .slice av n1 cv := by
          rcases r2.2 with ⟨rfl, h9⟩ | ⟨z', cap, cur, rfl, _⟩
          · exact ⟨none, 0, by rw [← hn1, h9]⟩
          · exact ⟨_, _, by rw [hn1]⟩
        subst hv1
        go_wp2_with fail
        refine hK.mono ?_
        rintro r w3 ⟨x, m, rfl, r3, hm, T3, U3⟩
        have r3o : w3.ownsRow e0 5 1 (.slice av n1 cv) bl.length (Lib.byteCells bl) := own_two r2 U3 (fun z hz => by have := (hz2 z hz).1; omega) (fun z hz => by have := (hz2 z hz).1; omega)
        have C3 : Cx q 0 con (.slice ab bl.length cb) w3 := Bc.two C2 U3 (by omega) (by omega)
        have b3 : Below p w w3 := b2.trans (U3.below (by have := b2.size; omega) (by omega) (by omega))
        have hzx : ∀ z z', (Value.slice av n1 cv).ownBlock = some z → x.ownBlock = some z' → z' ≠ z := fun z z' h1 h2 => by have := (hz2 z h1).2; have := own_lt r3 z' h2; omega
        obtain ⟨ax, cx, hx⟩ : ∃ ax cx, x = .slice ax m.length cx := by
          rcases r3.2 with ⟨rfl, h9⟩ | ⟨z', cap, cur, rfl, _⟩
          · exact ⟨none, 0, by rw [h9]⟩
          · exact ⟨_, _, rfl⟩
        subst hx
        have HI : Hid (∃ bs : List UInt8, bs.length = n1 ∧ w3.ownsRow e0 5 1 (.slice av n1 cv) bs.length (Lib.byteCells bs) ∧ Ta p (fun z => (Value.slice av n1 cv).ownBlock ≠ some z) (if on && !(freeO t) then ⟨freeO t, on, some bl⟩ else ⟨freeO t, on, if on && has then some W else none⟩) w3 ∧ Cx q 0 con (.slice ab bl.length cb) w3 ∧ w3.ownsRow 0 5 1 (.slice ax m.length cx) m.length (Lib.byteCells m) ∧ Below p w w3) := ⟨bl, hn1, r3o, T3, C3, own_low r3 (Nat.zero_le _), b3⟩
        have HE0 : Hid (∀ z, (Value.slice av n1 cv).ownBlock = some z → e0 ≤ z) := fun z hz => (hz2 z hz).1
        have hnb : n1 ≤ 140737488351232 := by omega
        have hqe : q < e0 := by omega
        have HM : Hid _ := hm
        clear hm
        clear hK r2 T2 C2 b2 U3 r3 r3o T3 C3 b3 hz2 h he0 hs1 x0 x1 x2
        have HZ : Hid _ := hzx
        clear hzx
        go_wp2_with fail
        go_loopw [15] (fun jv y => ∃ j : Nat, j ≤ n1 ∧ jv = .int .i64 (j : Nat) ∧ ∃ bs : List UInt8, bs.length = n1 ∧ y.ownsRow e0 5 1 (.slice av n1 cv) bs.length (Lib.byteCells bs) ∧ Ta p (fun z => (Value.slice av n1 cv).ownBlock ≠ some z) (if on && !(freeO t) then ⟨freeO t, on, some bl⟩ else ⟨freeO t, on, if on && has then some W else none⟩) y ∧ Cx q 0 con (.slice ab bl.length cb) y ∧ y.ownsRow 0 5 1 (.slice ax m.length cx) m.length (Lib.byteCells m) ∧ Below p w y) (fun jv _ => n1 - (intOf jv).toNat)
        case atStart => exact ⟨0, by omega, rfl, HI.out⟩
        case round =>
          clear HI
          obtain ⟨j, hj, rfl, bs, hbs, r4, T4, C4, rx, b4⟩ := hrel
          by_cases hjn : j < n1
          · have hd2 : decide ((j : Int) < (n1 : Int)) = true := by simp; omega
            obtain ⟨z, hz⟩ : ∃ z, av = some ⟨z, 0, none⟩ := by
              rcases r4.2 with ⟨h8, h9⟩ | ⟨z', cap, cur, h8, _⟩
              · omega
              · injection h8 with h8
                exact ⟨z', h8⟩
            subst hz
            have hez : e0 ≤ z := HE0.out z rfl
            obtain ⟨g1, g2⟩ := own_at r4 (j := j) (by omega)
            have hcv : n1 ≤ cv := by
              rcases r4.2 with ⟨h8, h9⟩ | ⟨z', cap, cur, h8, _, _, h9, _⟩
              · cases h8
              · injection h8 with _ _ h10; omega
            have r5 := own_put (j := j) r4 77
            have T9 : Two z z wr (wr.setCell ⟨z, j, none⟩ (.int .u8 77)) := (Two.refl _ _ _).at0 _ _
            have HN : Hid (∃ j' : Nat, j' ≤ n1 ∧ Value.int .i64 ((j : Int) + 1) = .int .i64 (j' : Nat) ∧ ∃ bs : List UInt8, bs.length = n1 ∧ (wr.setCell ⟨z, j, none⟩ (.int .u8 77)).ownsRow e0 5 1 (.slice (some ⟨z, 0, none⟩) n1 cv) bs.length (Lib.byteCells bs) ∧ Ta p (fun y => (Value.slice (some ⟨z, 0, none⟩) n1 cv).ownBlock ≠ some y) (if on && !(freeO t) then ⟨freeO t, on, some bl⟩ else ⟨freeO t, on, if on && has then some W else none⟩) (wr.setCell ⟨z, j, none⟩ (.int .u8 77)) ∧ Cx q 0 con (.slice ab bl.length cb) (wr.setCell ⟨z, j, none⟩ (.int .u8 77)) ∧ (wr.setCell ⟨z, j, none⟩ (.int .u8 77)).ownsRow 0 5 1 (.slice ax m.length cx) m.length (Lib.byteCells m) ∧ Below p w (wr.setCell ⟨z, j, none⟩ (.int .u8 77))) :=
              ⟨j + 1, by omega, rfl, bs.set j 77, by simpa using hbs, r5, T4.two T9 (by omega) (by omega) (fun y h1 h2 => h1 (by rw [h2]; rfl)) (fun y h1 h2 => h1 (by rw [h2]; rfl)), Bc.two C4 T9 (by omega) (by omega), own_two rx T9 (fun z' h1 => HZ.out z z' rfl h1) (fun z' h1 => HZ.out z z' rfl h1), b4.trans (T9.below (by have := b4.size; omega) (by omega) (by omega))⟩
            clear r4 r5 T4 C4 rx b4 T9
            go_wp2_with fail
            go_roundw
            case rel => exact HN.out
            case measure => simp [intOf]; omega
          · have hd2 : decide ((j : Int) < (n1 : Int)) = false := by simp; omega
            have hF := HF.out wr
            have T5 := T4.wide (R := fun _ => True) (fun _ _ _ => trivial)
            obtain ⟨x0, x1, x2⟩ := C4.cells
            have hXt := (bytes_of_own rx).text
            have hBt : ∀ n, (convert 46 9 (.slice ab bl.length cb)).run Try.prog (wr.drewN n) = .ok (.string ⟨bl.toArray⟩) (wr.drewN n) := fun n => (HBy.out (wr.drewN n) (below_drawn b4 n)).text
            have hBt0 := (HBy.out wr b4).text
            rw [hn1] at hBt hBt0 x2
            clear T4 C4 r4 rx HE0 HZ
            have hm := HM.out
            clear HM
            cases on
            · have HN : Hid (TI p p t false has W w wr) := ⟨T5, b4⟩
              simp only [Bool.false_and, Bool.false_eq_true, if_false] at hm
              subst hm
              clear T5 b4
              go_wp2_with fail
              go_roundw
              case rel => exact ⟨k + 1, false, has, W, by omega, rfl, rfl, rfl, rfl, HN.out⟩
              case measure => simp [intOf]; omega
            · cases hfr : freeO t
              · rw [hfr] at hF T5 hm
                have HN : Hid (TI p p t true true bl w wr) := ⟨by rw [hfr]; exact T5, b4⟩
                simp only [Bool.and_false, Bool.false_eq_true, if_false] at hm
                subst hm
                clear T5 b4
                go_wp2_with (go_at_call 15; refine hF.mono ?_; rintro r w7 ⟨rfl, hw7⟩; rw [hw7])
                go_quiet (fail)
                go_wp2_with fail
                go_roundw
                case rel => exact ⟨k + 1, true, true, bl, by omega, rfl, rfl, rfl, rfl, HN.out.drawn _⟩
                case measure => simp [intOf]; omega
              · rw [hfr] at hF T5 hm
                have HN : Hid (TI p p t true has W w wr) := ⟨by rw [hfr]; exact T5, b4⟩
                simp only [Bool.and_self, if_true] at hm
                subst hm
                rw [hn1] at hXt
                clear T5 b4
                go_wp2_with (go_at_call 15; refine hF.mono ?_; rintro r w7 ⟨rfl, hw7⟩; rw [hw7])
                go_roundw
                case rel => exact ⟨k + 1, true, has, W, by omega, rfl, rfl, rfl, rfl, HN.out⟩
                case measure => simp [intOf]; omega
      · have d0 : (kd == 0) = false := by simp [h0]
        by_cases h1 : kd = 1
        · subst h1
          clear h0 d0
          have hS := tsync_any TX
          clear CX
          go_wp2_with fail
          refine hS.mono ?_
          rintro r w3 ⟨v3, l3, rfl, hl3, r3, _, T3, U3⟩
          have b3 : Below p w w3 := B6.trans (U3.below (by have := B6.size; omega) (by omega) (by omega))
          obtain ⟨a3, c3, hv3⟩ : ∃ ax cx, v3 = .slice ax l3.length cx := by
            rcases r3.2 with ⟨rfl, h9⟩ | ⟨z', cap, cur, rfl, _⟩
            · exact ⟨none, 0, by rw [h9]⟩
            · exact ⟨_, _, rfl⟩
          subst hv3
          have hXt := (bytes_of_own r3).text
          clear hS TX B6 U3 r3 x0 x1 x2
          cases on
          · have HN : Hid (TI p p t false has W w w3) := ⟨T3, b3⟩
            simp only [Bool.false_and, Bool.false_eq_true, if_false] at hl3 ⊢
            have e3 : l3 = [] := hl3.elim (fun h9 => nomatch h9) (fun h9 => h9.2.2)
            subst e3
            clear T3 b3 hl3
            cases has
            all_goals
              go_wp2_with fail
              go_roundw
              case rel => exact ⟨k + 1, false, _, W, by omega, rfl, rfl, rfl, rfl, HN.out⟩
              case measure => simp [intOf]; omega
          · cases has
            · have HN : Hid (TI p p t true false W w w3) := ⟨T3, b3⟩
              simp only [Bool.and_false, Bool.false_eq_true, if_false] at hl3 ⊢
              have e3 : l3 = [] := hl3.elim (fun h9 => nomatch h9) (fun h9 => h9.2.2)
              subst e3
              clear T3 b3 hl3
              go_wp2_with fail
              go_roundw
              case rel => exact ⟨k + 1, true, false, W, by omega, rfl, rfl, rfl, rfl, HN.out⟩
              case measure => simp [intOf]; omega
            · have HN : Hid (TI p p t true false W w w3) := ⟨T3, b3⟩
              simp only [Bool.and_self, if_true] at hl3 ⊢
              have e3 : W = l3 := by simpa using hl3
              subst e3
              clear T3 b3 hl3
              go_wp2_with fail
              go_roundw
              case rel => exact ⟨k + 1, true, false, W, by omega, rfl, rfl, rfl, rfl, HN.out⟩
              case measure => simp [intOf]; omega
        · have d1 : (kd == 1) = false := by simp [h1]
          by_cases h2 : kd = 2
          · subst h2
            clear h0 h1 d0 d1
            have hS := tstart_any TX con
            go_wp2_with fail
            refine hS.mono ?_
            rintro r w3 ⟨rfl, T3, U3⟩
            have b3 : Below p w w3 := B6.trans (U3.below (by have := B6.size; omega) (by omega) (by omega))
            have C3 : Cx q 2 con (.slice ab bl.length cb) w3 := Bc.two CX U3 (by omega) (by omega)
            obtain ⟨y0, y1, y2⟩ := C3.cells
            clear hS TX B6 U3 x0 x1 x2 CX C3
            have HN : Hid (TI p p t con (has && !(con && !on)) W w w3) := by
              refine ⟨?_, b3⟩
              revert T3
              cases con <;> cases on <;> cases has <;> exact fun x => x
            clear T3 b3
            cases con <;> cases on <;> cases has
            all_goals
              go_wp2_with fail
              go_roundw
              case rel => exact ⟨k + 1, _, _, W, by omega, rfl, rfl, rfl, rfl, HN.out⟩
              case measure => simp [intOf]; omega
          · have d2 : (kd == 2) = false := by simp [h2]
            have HN : Hid (TI p p t on has W w X) := ⟨TX, B6⟩
            clear h0 h1 h2 TX B6 CX
            go_wp2_with fail
            go_roundw
            case rel => exact ⟨k + 1, on, has, W, by omega, rfl, rfl, rfl, rfl, HN.out⟩
            case measure => simp [intOf]; omega
    · have hd : decide ((k : Int) < (l.length : Int)) = false := by simp; omega
      have hL := lives15_any wr
      clear T5
      go_wp2_with (go_at_call 11; refine hL.mono ?_; rintro r w7 ⟨rfl, B7⟩)
      go_ret
      exact ⟨rfl, B5.trans (B7.mono (by have := B5.size; omega))⟩
theorem ztak_walk (t : Int) (v : Value) (l : List C15) (ht : -9223372036854775808 ≤ t ∧ t < 9223372036854775808) (hl : l.length ≤ 140737488351232) (w : World) (hok : ∀ a ∈ l, a.ok w) (hB : Wide 3 C15.c w v l) :
    Calls Try.prog 5 #[.int .i64 t, v] w fun r w' => r = .returned (.bool true) ∧ Below w.heap.size w w' := by
  cases h : isO t
  · exact ztak_bad t v w h
  · exact ztak_ok t v l h hl w hok hB
end Go.Proofs.Ytkflffdoipeocaa
