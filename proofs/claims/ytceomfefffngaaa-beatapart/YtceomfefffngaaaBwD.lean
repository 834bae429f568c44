/- Take: a beat came. -/
import Derived.Test.YtceomfefffngaaaBwC
namespace Go.Proofs.Ytceomfefffngaaa
open Go.RowKit
set_option linter.unusedVariables false
set_option maxRecDepth 1000000
set_option linter.unusedSimpArgs false
theorem modify_ge {α : Type} (l : List α) (i : Nat) (f : α → α) (h : l.length ≤ i) : l.modify i f = l := by
  induction l generalizing i with
  | nil => cases i <;> rfl
  | cons x r ih =>
    cases i with
    | zero => simp at h
    | succ i => rw [List.modify_succ_cons, ih i (by simpa using h)]
theorem modify_set {α : Type} (l : List α) (i : Nat) (f : α → α) (h : i < l.length) : l.modify i f = l.set i (f l[i]) := by
  induction l generalizing i with
  | nil => simp at h
  | cons x r ih =>
    cases i with
    | zero => rfl
    | succ i => rw [List.modify_succ_cons, ih i (by simpa using h)]; rfl
/-- What Take answers in each way. -/
theorem take_out (l : List Wt) (n : Int) (b : List UInt8) (h : ¬ fw l n < l.length) : okW l n b = false ∧ saysW l n b = [] ∧ takeW l n b = l := by
  refine ⟨?_, ?_, ?_⟩
  · unfold okW; split <;> simp [h]
  · unfold saysW; split <;> simp [h]
  · unfold takeW; split
    · split
      · exact modify_ge _ _ _ (by omega)
      · rfl
    · rfl
theorem take_len1 (l : List Wt) (n : Int) (b : List UInt8) (h : b.length ≠ 1) : okW l n b = false ∧ saysW l n b = [] ∧ takeW l n b = l := by
  match b, h with
  | [], _ => exact ⟨rfl, rfl, rfl⟩
  | [_], h => simp at h
  | _ :: _ :: _, _ => exact ⟨rfl, rfl, rfl⟩
theorem take_none (l : List Wt) (n : Int) (c : UInt8) (h : isB c.toNat = false) : okW l n [c] = false ∧ saysW l n [c] = [] ∧ takeW l n [c] = l := by
  simp [okW, saysW, takeW, h]
theorem take_yes (l : List Wt) (n : Int) (c : UInt8) (hk : fw l n < l.length) (h : isB c.toNat = true) : okW l n [c] = true ∧ saysW l n [c] = l[fw l n].says c.toNat ∧ takeW l n [c] = l.set (fw l n) (l[fw l n].beat c.toNat) := by
  refine ⟨by simp [okW, h, hk], by simp [saysW, h, hk], ?_⟩
  show (if isB c.toNat then l.modify (fw l n) (fun x => x.beat c.toNat) else l) = _
  rw [if_pos h, modify_set _ _ _ hk]
theorem isB_cases {b : Nat} (h0 : b ≠ 0) : isB b = isSt (b : Int) := by
  rw [Bool.eq_iff_iff]
  simp [isB, isSt]
  omega
theorem bytes_one {w : World} {v : Value} {x : UInt8} (h : Bytes w v [x]) : ∃ b off cap, v = .slice (some ⟨b, off, none⟩) 1 cap ∧ b < w.heap.size ∧ w.cell? ⟨b, off, none⟩ = some (.int .u8 x.toNat) := by
  obtain ⟨ao, cap, rfl, h0, hc⟩ := h
  obtain ⟨b, off, rfl, hl, c0⟩ := hc 0 (by simp)
  exact ⟨b, off, cap, rfl, hl, c0⟩
/-- What Take leaves. -/
def TkW (g : Nat) (v : Value) (l : List Wt) (n : Int) (b : List UInt8) (w : World) (r : Value) (w' : World) : Prop :=
  ∃ nv, r = .tuple #[nv, .bool (okW l n b)] ∧ Nw w.heap.size nv (saysW l n b) w' ∧ Wa g v (takeW l n b) w' ∧ w.grownBy w' v.ownBlock
section
variable {g : Nat} {v : Value} {l : List Wt} {w : World}
theorem TkW.no {n : Int} {b : List UInt8} {w' : World} (h : Wa g v l w) (hq : okW l n b = false ∧ saysW l n b = [] ∧ takeW l n b = l) (t : Below w.heap.size w w') : TkW g v l n b w (.tuple #[.slice none 0 0, .bool false]) w' := by
  obtain ⟨h1, h2, h3⟩ := hq
  unfold TkW
  rw [h1, h2, h3]
  exact ⟨_, rfl, Nw.nil _ _, h.below t, gb_any t _⟩
theorem grown_low {a b c : World} {r : Option Nat} (h : Below a.heap.size a b) (g : b.grownBy c r) (hr : ∀ k, r = some k → True) : a.grownBy c r :=
  ⟨g.os.trans h.os, g.tape.trans h.tape, g.output.trans h.output, Nat.le_trans h.size g.size, fun k hk hn => (g.block k (Nat.lt_of_lt_of_le hk h.size) hn).trans (h.block k hk)⟩
theorem news_dr {w W : World} {g : Nat} {v : Value} {l : List Wt} {r : Option Nat} (h : Wa g v l W) (hg : w.grownBy W r) (hs : W.heap.size = w.heap.size) (a : Ne) :
    Nw w.heap.size (.slice (some ⟨w.heap.size, 0, none⟩) 1 1) [a] (W.drew.alloc (.cells #[.int .i64 a.nd, .int .i64 a.wh, .int .i64 a.st] 55)) ∧ Wa g v l (W.drew.alloc (.cells #[.int .i64 a.nd, .int .i64 a.wh, .int .i64 a.st] 55)) ∧ w.grownBy (W.drew.alloc (.cells #[.int .i64 a.nd, .int .i64 a.wh, .int .i64 a.st] 55)) r :=
  news_end (W := W.drew) (h.drawn 1) (grown_dr hg 1) hs a
set_option maxHeartbeats 1000000 in
theorem take_any (h : Wa g v l w) (hO : OkW l) (nd : Int) (bv : Value) (b : List UInt8) (hB : Bytes w bv b) : Calls Try.prog 15 #[.pointer (some ⟨g, 0, none⟩), .int .i64 nd, bv] w fun e w' => ∃ r, e = .returned r ∧ TkW g v l nd b w r w' := by
  have hll := hO.len
  have hP := place_any h (by omega) nd
  by_cases hk : fw l nd < l.length
  · rw [ixw_pos _ _ hk] at hP
    by_cases hb1 : b.length = 1
    · match b, hb1 with
      | [x], _ =>
        obtain ⟨bb, bo, bc, rfl, hbl, cb⟩ := bytes_one hB
        have hx := x.toNat_lt
        have hy := take_yes l nd x hk
        have hn := take_none l nd x
        obtain ⟨q, cap, hv⟩ : ∃ q cap, v = .slice (some ⟨q, 0, none⟩) l.length cap := by
          rcases h.row.2 with ⟨hv, h0⟩ | ⟨q, cap, cur, hv, _⟩
          · omega
          · exact ⟨q, cap, hv⟩
        subst hv
        have HB : Hid (∀ y, Below w.heap.size w y → y.cell? ⟨bb, bo, none⟩ = some (.int .u8 x.toNat) ∧ y.cell? ⟨g, 0, none⟩ = some (.slice (some ⟨q, 0, none⟩) l.length cap) ∧ Wa g (.slice (some ⟨q, 0, none⟩) l.length cap) l y) := fun y hy => ⟨(hy.cell (p := ⟨bb, bo, none⟩) hbl).trans cb, (h.below hy).cell.1, h.below hy⟩
        have hI := fun y => isState_any y (x.toNat : Int)
        have hok := hO.ok _ (List.getElem_mem hk)
        have hkn : ((fw l nd : Nat) : Int) < (l.length : Int) := by omega
        clear hB cb hP
        have hP := place_any h (by omega) nd
        rw [ixw_pos _ _ hk] at hP
        by_cases h0 : x.toNat = 0
        · obtain ⟨y1, y2, y3⟩ := hy (by rw [h0]; rfl)
          rw [h0] at y2 y3
          have HT : Hid (∀ nv w', Nw w.heap.size nv [⟨l[fw l nd].nd, 0, 0⟩] w' → Wa g (.slice (some ⟨q, 0, none⟩) l.length cap) (l.set (fw l nd) (l[fw l nd].beat 0)) w' → w.grownBy w' (some q) → TkW g (.slice (some ⟨q, 0, none⟩) l.length cap) l nd [x] w (.tuple #[nv, .bool true]) w') := fun nv w' a1 a2 a3 => by
            refine ⟨nv, by rw [y1], by rw [y2]; exact a1, by rw [y3]; exact a2, a3⟩
          have HA : Hid (∀ W, Wa g (.slice (some ⟨q, 0, none⟩) l.length cap) l W → W.rangeAt q (fw l nd * 6) l[fw l nd].cs ∧ (∀ j, j < 6 → W.frozen? ⟨q, fw l nd * 6 + j, none⟩ = false) ∧ Wa g (.slice (some ⟨q, 0, none⟩) l.length cap) (l.set (fw l nd) (l[fw l nd].beat 0)) (W.setCells q (fw l nd * 6) (l[fw l nd].beat 0).cs)) := fun W hW => ⟨(hW.at hk).1, (hW.at hk).2, hW.beats hk 0⟩
          rw [Wt.boot_cs] at HA
          have hznd := fw_nd l nd hk
          obtain ⟨z, hz⟩ : ∃ z, l[fw l nd] = z := ⟨_, rfl⟩
          rw [hz] at HA HT hznd
          generalize z.beat 0 = zb at *
          obtain ⟨k, hkk⟩ : ∃ k, fw l nd = k := ⟨_, rfl⟩
          rw [hkk] at HA hkn HT hP
          rw [h0] at HB
          generalize l.set k zb = lb at *
          clear hy hn hI h0 hx y1 y2 y3 hz hok hk h hbl hll hkk hO
          generalize l.length = L at *
          subst hznd
          go_enter Try.func15, Try.ntmps15
          go_upto_region 6 with (go_at_call 29; refine hP.mono ?_; rintro e W ⟨rfl, hb2⟩; obtain ⟨k0, k1, k2⟩ := HB.out W hb2)
          obtain ⟨hR, hF, hZ⟩ := HA.out W k2
          have HB2 := hidOf2 hb2
          obtain ⟨o, ho⟩ : ∃ o, k * 6 = o := ⟨_, rfl⟩
          rw [ho] at hR hF hZ
          obtain ⟨c0, c1, c2, c3, c4, c5⟩ := Wt.cells6 hR
          have f0 := hF 0 (by omega)
          have f1 := hF 1 (by omega)
          have f2 := hF 2 (by omega)
          have f3 := hF 3 (by omega)
          have f4 := hF 4 (by omega)
          have f5 := hF 5 (by omega)
          rw [Nat.add_zero] at f0
          rw [← six_set] at hZ
          have hZG : W.grownBy ((((((W.setCell ⟨q, o, none⟩ (.int .i64 z.nd)).setCell ⟨q, o + 1, none⟩ (.int .u64 z.tk)).setCell ⟨q, o + 2, none⟩ (.bool false)).setCell ⟨q, o + 3, none⟩ (.bool false)).setCell ⟨q, o + 4, none⟩ (.int .i64 0)).setCell ⟨q, o + 5, none⟩ (.int .u64 0)) (some q) := by rw [six_set]; exact grown_put _ _ _ _
          have hZS : (((((((W.setCell ⟨q, o, none⟩ (.int .i64 z.nd)).setCell ⟨q, o + 1, none⟩ (.int .u64 z.tk)).setCell ⟨q, o + 2, none⟩ (.bool false)).setCell ⟨q, o + 3, none⟩ (.bool false)).setCell ⟨q, o + 4, none⟩ (.int .i64 0)).setCell ⟨q, o + 5, none⟩ (.int .u64 0))).heap.size = W.heap.size := by rw [six_set, (cn_same _ _ _ _).2.2.2]
          have HE : Hid (Nw W.heap.size (.slice (some ⟨W.heap.size, 0, none⟩) 1 1) [⟨z.nd, 0, 0⟩] ((((((((W.setCell ⟨q, o, none⟩ (.int .i64 z.nd)).setCell ⟨q, o + 1, none⟩ (.int .u64 z.tk)).setCell ⟨q, o + 2, none⟩ (.bool false)).setCell ⟨q, o + 3, none⟩ (.bool false)).setCell ⟨q, o + 4, none⟩ (.int .i64 0)).setCell ⟨q, o + 5, none⟩ (.int .u64 0)).drew).alloc (.cells #[.int .i64 z.nd, .int .i64 0, .int .i64 0] 55)) ∧ Wa g (.slice (some ⟨q, 0, none⟩) L cap) lb ((((((((W.setCell ⟨q, o, none⟩ (.int .i64 z.nd)).setCell ⟨q, o + 1, none⟩ (.int .u64 z.tk)).setCell ⟨q, o + 2, none⟩ (.bool false)).setCell ⟨q, o + 3, none⟩ (.bool false)).setCell ⟨q, o + 4, none⟩ (.int .i64 0)).setCell ⟨q, o + 5, none⟩ (.int .u64 0)).drew).alloc (.cells #[.int .i64 z.nd, .int .i64 0, .int .i64 0] 55)) ∧ W.grownBy ((((((((W.setCell ⟨q, o, none⟩ (.int .i64 z.nd)).setCell ⟨q, o + 1, none⟩ (.int .u64 z.tk)).setCell ⟨q, o + 2, none⟩ (.bool false)).setCell ⟨q, o + 3, none⟩ (.bool false)).setCell ⟨q, o + 4, none⟩ (.int .i64 0)).setCell ⟨q, o + 5, none⟩ (.int .u64 0)).drew).alloc (.cells #[.int .i64 z.nd, .int .i64 0, .int .i64 0] 55)) (some q)) := news_dr hZ hZG hZS ⟨z.nd, 0, 0⟩
          have HEnd : Hid (∀ nv X, (Nw W.heap.size nv [⟨z.nd, 0, 0⟩] X ∧ Wa g (.slice (some ⟨q, 0, none⟩) L cap) lb X ∧ W.grownBy X (some q)) → TkW g (.slice (some ⟨q, 0, none⟩) L cap) l z.nd [x] w (.tuple #[nv, .bool true]) X) := fun nv X ⟨a1, a2, a3⟩ => HT.out _ _ (a1.lower HB2.out.size) a2 (grown_low HB2.out a3 (fun _ _ => trivial))
          clear HA HB hR hF hZ k2 hP hZG hZS HT
          go_region
          go_wp2_with fail
          go_ret2
          exact ⟨_, rfl, HEnd.out _ _ HE.out⟩
        · have hbn : isB x.toNat = isSt (x.toNat : Int) := isB_cases h0
          have hbeat := fun W (hW : Wa g (.slice (some ⟨q, 0, none⟩) l.length cap) l W) => beat_any hW hk hok.i2 x.toNat h0 (fw l nd * 6) rfl
          have dx : ((x.toNat : Int) == 0) = false := by simp; omega
          rw [hbn] at hy hn
          cases hS : isSt (x.toNat : Int)
          · have HT := hidOf2 (fun w' => TkW.no (w' := w') h (hn hS))
            rw [hS] at hI
            clear hy hn hbn hbeat hok hkn hll hO h hk hS
            generalize x.toNat = X at *
            go_enter Try.func15, Try.ntmps15
            go_wp2_with (first | (go_at_call 29; refine hP.mono ?_; rintro e W ⟨rfl, hb2⟩; obtain ⟨k0, k1, k2⟩ := HB.out W hb2; clear HB) | (go_at_call 28; refine (hI _).mono ?_; rintro e W9 ⟨rfl, hw9⟩; rw [hw9]))
            go_ret2
            exact ⟨_, rfl, HT.out _ hb2⟩
          · obtain ⟨y1, y2, y3⟩ := hy hS
            have HT : Hid (∀ W nv w', Below w.heap.size w W → Nw W.heap.size nv (l[fw l nd].says x.toNat) w' → Wa g (.slice (some ⟨q, 0, none⟩) l.length cap) (l.set (fw l nd) (l[fw l nd].beat x.toNat)) w' → W.grownBy w' (some q) → TkW g (.slice (some ⟨q, 0, none⟩) l.length cap) l nd [x] w (.tuple #[nv, .bool true]) w') := fun W nv w' hW a1 a2 a3 => by
              refine ⟨nv, by rw [y1], by rw [y2]; exact a1.lower hW.size, by rw [y3]; exact a2, grown_low hW a3 (fun _ _ => trivial)⟩
            have hkL : fw l nd < l.length := hk
            rw [hS] at hI
            have Hbeat := hidOf2 hbeat
            clear hbeat
            generalize l[fw l nd].says x.toNat = sy at *
            generalize l.set (fw l nd) (l[fw l nd].beat x.toNat) = lb at *
            clear hy hn hbn hok hll hO h hS y1 y2 y3
            generalize x.toNat = X at *
            generalize fw l nd = k at *
            generalize l.length = L at *
            go_enter Try.func15, Try.ntmps15
            go_upto_region 8 with (go_at_call 29; refine hP.mono ?_; rintro e W ⟨rfl, hb2⟩; obtain ⟨k0, k1, k2⟩ := HB.out W hb2; clear HB)
            have HB2 := hidOf2 hb2
            have hbt := Hbeat.out W k2
            clear Hbeat hb2 k2
            go_wp2_with (first | (go_at_call 28; refine (hI _).mono ?_; rintro e W9 ⟨rfl, hw9⟩; rw [hw9]) | (go_at_call 30; refine hbt.mono ?_; rintro e W9 ⟨nv, rfl, a1, a2, a3⟩))
            go_ret2
            exact ⟨_, rfl, HT.out W nv _ HB2.out a1 a2 a3⟩
    · have HT := hidOf2 (fun w' => TkW.no (w' := w') h (take_len1 l nd b hb1))
      obtain ⟨ab, cb, rfl, _⟩ := hB
      have d1 : ((b.length : Int) != 1) = true := by simp; omega
      rename_i hBB
      clear h hk hll hO hb1 hBB
      generalize fw l nd = k at *
      generalize b.length = L at *
      go_enter Try.func15, Try.ntmps15
      go_wp2_with (go_at_call 29; refine hP.mono ?_; rintro e W ⟨rfl, hb2⟩)
      go_ret2
      exact ⟨_, rfl, HT.out _ hb2⟩
  · rw [ixw_neg _ _ hk] at hP
    have HT := hidOf2 (fun w' => TkW.no (w' := w') h (take_out l nd b hk))
    clear h hk hB hll hO
    go_enter Try.func15, Try.ntmps15
    go_wp2_with (go_at_call 29; refine hP.mono ?_; rintro e W ⟨rfl, hb2⟩)
    go_ret2
    exact ⟨_, rfl, HT.out _ hb2⟩
end
end Go.Proofs.Ytceomfefffngaaa
