/- The document's watcher: a beat comes. -/
import Derived.Test.YtceomfefffngaaaBwK
namespace Go.Proofs.Ytceomfefffngaaa
open Go.RowKit
set_option linter.unusedVariables false
set_option maxRecDepth 1000000
set_option linter.unusedSimpArgs false
theorem three_set (w : World) (q o : Nat) (v0 v1 v2 : Value) : (((w.setCell ⟨q, o, none⟩ v0).setCell ⟨q, o + 1, none⟩ v1).setCell ⟨q, o + 2, none⟩ v2) = w.setCells q o [v0, v1, v2] := rfl
section
variable {w x y : World} {p g : Nat} {lv sv : Value} {L : List Wq} {l : List Wt}
theorem Ld.sets {q n c : Nat} (h : Ld w p g lv (.slice (some ⟨q, 0, none⟩) n c) L l x) {k : Nat} (hk : k < l.length) (a : Wt) (ho : OkW (l.set k a)) (he : a.q = l[k].q) (j : Nat) (vs : List Value) (hj : j + vs.length ≤ 3)
    (hd : ∀ i, i < 3 → a.ss[i]? = if j ≤ i ∧ i < j + vs.length then vs[i - j]? else l[k].ss[i]?) : Ld w p g lv (.slice (some ⟨q, 0, none⟩) n c) L (l.set k a) (x.setCells q (k * 3 + j) vs) := by
  have hne := h.ne q rfl
  have G := grown_put x q (k * 3 + j) vs
  refine ⟨(heap_cn_other (fun e => hne e.symm) vs _ x).trans h.blk, own_setW DS h.row hk vs a hd hj, ho, ?_, h.hs, h.hg, below_of_grown h.bl G h.sz (fun k hk => h.hs k hk), Nat.le_trans h.sz G.size, h.lst⟩
  rw [← h.eq]
  apply List.ext_getElem?
  intro i
  rw [List.getElem?_map, List.getElem?_map, List.getElem?_set]
  by_cases hi : k = i
  · subst hi
    rw [if_pos rfl, if_pos hk, List.getElem?_eq_getElem hk]
    simp [he]
  · rw [if_neg hi]
theorem Ld.beats {q n c : Nat} (h : Ld w p g lv (.slice (some ⟨q, 0, none⟩) n c) L l x) {nd : Int} (b : UInt8) (hk : fw l nd < l.length) (hb : isB b.toNat = true) : Ld w p g lv (.slice (some ⟨q, 0, none⟩) n c) L (takeW l nd [b]) (x.setCells q (fw l nd * 3) (l[fw l nd].beat b.toNat).ss) := by
  have e := (take_yes l nd b hk hb).2.2
  have ho := h.ok.take nd [b]
  rw [e] at ho ⊢
  have := h.sets hk _ ho (by unfold Wt.q; rw [Wt.beat_nd, Wt.beat_tk]) 0 (l[fw l nd].beat b.toNat).ss (by simp [Wt.ss]) (fun i hi => by rw [if_pos (by simp [Wt.ss]; omega)]; rfl)
  exact this
/-- What the document's Take leaves. -/
def DtW (w : World) (p g : Nat) (lv sv : Value) (L : List Wq) (l : List Wt) (n : Int) (b : List UInt8) (x : World) (r : Value) (y : World) : Prop :=
  ∃ nv, r = .tuple #[nv, .bool (okW l n b)] ∧ Nw x.heap.size nv (saysW l n b) y ∧ Ld w p g lv sv L (takeW l n b) y ∧ x.grownBy y sv.ownBlock
theorem DtW.no {n : Int} {b : List UInt8} (h : Ld w p g lv sv L l x) (hq : okW l n b = false ∧ saysW l n b = [] ∧ takeW l n b = l) (t : Below x.heap.size x y) : DtW w p g lv sv L l n b x (.tuple #[.slice none 0 0, .bool false]) y := by
  obtain ⟨h1, h2, h3⟩ := hq
  unfold DtW
  rw [h1, h2, h3]
  exact ⟨_, rfl, Nw.nil _ _, h.below t, gb_any t _⟩
theorem Wt.cells3 {w : World} {b o : Nat} {a : Wt} (h : w.rangeAt b o a.ss) : w.cell? ⟨b, o, none⟩ = some (.int .i64 a.is) ∧ w.cell? ⟨b, o + 1, none⟩ = some (.int .i64 a.st) ∧ w.cell? ⟨b, o + 2, none⟩ = some (.int .u64 a.si) := ⟨h 0 _ rfl, h 1 _ rfl, h 2 _ rfl⟩
theorem Sn.ld {w : World} {b o : Nat} {i s z : Int} {ops : Array Oper} {rest : List Oper} {p : Oper} {f : Act} {Q : Exit → Act → World → Prop} (h : w.rangeAt b o [.int .i64 i, .int .i64 s, .int .u64 z]) (hgd : p.guard = none) (x : Operand) (ho : p.op = .load 87 x) (hx : f.eval x = .pointer (some ⟨b, o, none⟩))
    (hh : wpList Try.prog ops Q rest (f.put p.dst (.agg #[.int .i64 i, .int .i64 s, .int .u64 z])) w) : wpList Try.prog ops Q (p :: rest) f w :=
  wpList_load_mid hgd 87 x ho b o hx [.int .i64 i, .int .i64 s, .int .u64 z] _ h Try.underlying87 rfl infoSn1 hh
theorem dtake_out (h : Ld w p g lv sv L l x) (nd : Int) (bv : Value) (b : List UInt8) (hk : ¬ fw l nd < l.length) (hB : Bytes x bv b) : Calls Try.prog 16 #[.pointer (some ⟨g, 0, none⟩), .int .i64 nd, bv] x fun e y => ∃ r, e = .returned r ∧ DtW w p g lv sv L l nd b x r y := by
  have hP := find_any h nd
  rw [ixw_neg _ _ hk] at hP
  have HT := hidOf2 (fun y => DtW.no (y := y) h (take_out l nd b hk))
  have HI : Hid (Below x.heap.size x x) := Below.refl _ _
  clear h hk hB
  go_enter Try.func16, Try.ntmps16
  go_wp2_with (go_at_call 31; refine hP.mono ?_; rintro e W ⟨rfl, hW⟩; rw [hW])
  go_ret2
  exact ⟨_, rfl, HT.out _ HI.out⟩
theorem dtake_len (h : Ld w p g lv sv L l x) (nd : Int) (bv : Value) (b : List UInt8) (hk : fw l nd < l.length) (hb : b.length ≠ 1) (hB : Bytes x bv b) : Calls Try.prog 16 #[.pointer (some ⟨g, 0, none⟩), .int .i64 nd, bv] x fun e y => ∃ r, e = .returned r ∧ DtW w p g lv sv L l nd b x r y := by
  have hP := find_any h nd
  rw [ixw_pos _ _ hk] at hP
  have HT := hidOf2 (fun y => DtW.no (y := y) h (take_len1 l nd b hb))
  have HI : Hid (Below x.heap.size x x) := Below.refl _ _
  obtain ⟨ab, cb, rfl, _⟩ := hB
  have d1 : ((b.length : Int) != 1) = true := by simp; omega
  have dk : decide (((fw l nd : Nat) : Int) < 0) = false := by simp
  rename_i hBB
  clear h hk hb hBB
  generalize fw l nd = k at *
  generalize b.length = n at *
  go_enter Try.func16, Try.ntmps16
  go_wp2_with (go_at_call 31; refine hP.mono ?_; rintro e W ⟨rfl, hW⟩; rw [hW])
  go_ret2
  exact ⟨_, rfl, HT.out _ HI.out⟩
theorem dtake_none (h : Ld w p g lv sv L l x) (nd : Int) (bv : Value) (c : UInt8) (hk : fw l nd < l.length) (hc : isB c.toNat = false) (hB : Bytes x bv [c]) : Calls Try.prog 16 #[.pointer (some ⟨g, 0, none⟩), .int .i64 nd, bv] x fun e y => ∃ r, e = .returned r ∧ DtW w p g lv sv L l nd [c] x r y := by
  have hP := find_any h nd
  rw [ixw_pos _ _ hk] at hP
  have HT := hidOf2 (fun y => DtW.no (y := y) h (take_none l nd c hc))
  have HI : Hid (Below x.heap.size x x) := Below.refl _ _
  obtain ⟨bb, bo, bc, rfl, hbl, cb⟩ := bytes_one hB
  have dk : decide (((fw l nd : Nat) : Int) < 0) = false := by simp
  obtain ⟨⟨⟨a0, a4⟩, a5⟩, a7⟩ : ((c.toNat ≠ 0 ∧ c.toNat ≠ 4) ∧ c.toNat ≠ 5) ∧ c.toNat ≠ 127 := by simpa [isB] using hc
  have d0 : ((c.toNat : Int) != 0) = true := by simp; omega
  have d4 : ((c.toNat : Int) != 4) = true := by simp; omega
  have d5 : ((c.toNat : Int) != 5) = true := by simp; omega
  have d7 : ((c.toNat : Int) != 127) = true := by simp; omega
  clear h hk hc hB a0 a4 a5 a7
  generalize fw l nd = k at *
  generalize c.toNat = X at *
  go_enter Try.func16, Try.ntmps16
  go_wp2_with (go_at_call 31; refine hP.mono ?_; rintro e W ⟨rfl, hW⟩; rw [hW])
  go_ret2
  exact ⟨_, rfl, HT.out _ HI.out⟩
set_option maxHeartbeats 2000000 in
theorem dtake_0 (h : Ld w p g lv sv L l x) (nd : Int) (bv : Value) (hk : fw l nd < l.length) (hB : Bytes x bv [0]) : Calls Try.prog 16 #[.pointer (some ⟨g, 0, none⟩), .int .i64 nd, bv] x fun e y => ∃ r, e = .returned r ∧ DtW w p g lv sv L l nd [0] x r y := by
  have hP := find_any h nd
  rw [ixw_pos _ _ hk] at hP
  obtain ⟨bb, bo, bc, rfl, hbl, cb⟩ := bytes_one hB
  have dk : decide (((fw l nd : Nat) : Int) < 0) = false := by simp
  obtain ⟨q, cap, hv⟩ : ∃ q cap, sv = .slice (some ⟨q, 0, none⟩) l.length cap := by
    rcases h.row.2 with ⟨hv, h0⟩ | ⟨q, cap, cur, hv, _⟩
    · omega
    · exact ⟨q, cap, hv⟩
  subst hv
  have hkn : ((fw l nd : Nat) : Int) < (l.length : Int) := by omega
  obtain ⟨c0, c1⟩ := h.cell
  have hR := own_getW DS h.row hk
  have hF : ∀ j, j < 3 → x.frozen? ⟨q, fw l nd * 3 + j, none⟩ = false := fun j hj => (own_thereW DS h.row hk j hj).2
  have HN := hidOf2 (fw_nd l nd hk)
  obtain ⟨y1, y2, y3⟩ := take_yes l nd 0 hk (by decide)
  have HT : Hid (∀ nv Y, Nw x.heap.size nv (l[fw l nd].says (0 : UInt8).toNat) Y → Ld w p g lv (.slice (some ⟨q, 0, none⟩) l.length cap) L (takeW l nd [0]) Y → x.grownBy Y (some q) → DtW w p g lv (.slice (some ⟨q, 0, none⟩) l.length cap) L l nd [0] x (.tuple #[nv, .bool true]) Y) := fun nv Y a1 a2 a3 => ⟨nv, by rw [y1], by rw [y2]; exact a1, a2, a3⟩
  have HJ : Hid (∀ Y, Ld w p g lv (.slice (some ⟨q, 0, none⟩) l.length cap) L l Y → Ld w p g lv (.slice (some ⟨q, 0, none⟩) l.length cap) L (takeW l nd [0]) (Y.setCells q (fw l nd * 3) (l[fw l nd].beat (0 : UInt8).toNat).ss)) := fun Y hY => hY.beats 0 hk (by decide)
  have HS : Hid ((l[fw l nd].beat (0 : UInt8).toNat).ss = [.int .i64 0, .int .i64 0, .int .u64 0]) := rfl
  rw [HS.out] at HJ
  obtain ⟨z, hz⟩ : ∃ z, l[fw l nd] = z := ⟨_, rfl⟩
  have hR' : x.rangeAt q (fw l nd * 3) z.ss := by rw [← hz]; exact hR
  rw [hz] at HT HN
  obtain ⟨s0, s1, s2⟩ := Wt.cells3 hR'
  have hR2 : x.rangeAt q (fw l nd * 3) [.int .i64 z.is, .int .i64 z.st, .int .u64 z.si] := hR'
  have f0 := hF 0 (by decide)
  have f1 := hF 1 (by decide)
  have f2 := hF 2 (by decide)
  rw [Nat.add_zero] at f0
  have hbb : bb < x.heap.size := hbl
  have hqq : q < x.heap.size := by
    obtain ⟨_, cur, hcq⟩ := own_of h.row (g := q) rfl
    exact (Array.getElem?_eq_some_iff.1 hcq).1
  have hgg : g < x.heap.size := h.blk.lt
  have HH := hidOf2 h
  have HA : Hid (∀ Y, Ld w p g lv (.slice (some ⟨q, 0, none⟩) l.length cap) L l Y → Y.cell? ⟨g, 1, none⟩ = some (.slice (some ⟨q, 0, none⟩) l.length cap) ∧ Y.rangeAt q (fw l nd * 3) z.ss ∧ (∀ j, j < 3 → Y.frozen? ⟨q, fw l nd * 3 + j, none⟩ = false) ∧ Ld w p g lv (.slice (some ⟨q, 0, none⟩) l.length cap) L (takeW l nd [0]) (Y.setCells q (fw l nd * 3) [.int .i64 0, .int .i64 0, .int .u64 0])) := fun Y hY => ⟨hY.cell.2, by have := own_getW DS hY.row hk; rw [hz] at this; exact this, fun j hj => (own_thereW DS hY.row hk j hj).2, HJ.out Y hY⟩
  clear hR hR' hF y1 y2 y3 HS hz h hk HJ
  generalize takeW l nd [0] = lb at *
  generalize fw l nd = k at *
  generalize l.length = n at *
  obtain ⟨o, ho⟩ : ∃ o, k * 3 = o := ⟨_, rfl⟩
  rw [ho] at HA s0 s1 s2 hR2 f0 f1 f2
  clear hB hbl
  go_enter Try.func16, Try.ntmps16
  go_upto_region 4 with (go_at_call 31; refine hP.mono ?_; rintro e W ⟨rfl, hW⟩; rw [hW])
  go_region
  obtain ⟨Y, hY⟩ : ∃ Y, (x.alloc (.cells #[.int .i64 z.is, .int .i64 z.st, .int .u64 z.si] 87)).drew = Y := ⟨_, rfl⟩
  have BY : Below x.heap.size x Y := by rw [← hY]; exact below_drawn ((Below.refl _ _).alloc (Nat.le_refl _) _) 1
  obtain ⟨rb, hrb⟩ : ∃ r, x.heap.size = r := ⟨_, rfl⟩
  have CR : Bc 87 rb #[.int .i64 z.is, .int .i64 z.st, .int .u64 z.si] Y := by rw [← hY, ← hrb]; exact heap_alloc_new x _
  have LY := HH.out.below BY
  rw [hY]
  obtain ⟨k1, hRY, hFY, LZ⟩ := HA.out Y LY
  obtain ⟨t0, t1, t2⟩ := Wt.cells3 hRY
  have g0 := hFY 0 (by decide)
  have g1 := hFY 1 (by decide)
  have g2 := hFY 2 (by decide)
  rw [Nat.add_zero] at g0
  obtain ⟨Z, hZ⟩ : ∃ Z, (((Y.setCell ⟨q, o, none⟩ (.int .i64 0)).setCell ⟨q, o + 1, none⟩ (.int .i64 0)).setCell ⟨q, o + 2, none⟩ (.int .u64 0)) = Z := ⟨_, rfl⟩
  have hqr : rb ≠ q := by omega
  have CZ : Bc 87 rb #[.int .i64 z.is, .int .i64 z.st, .int .u64 z.si] Z := by rw [← hZ, three_set]; exact (heap_cn_other hqr _ _ Y).trans CR
  have GZ : Y.grownBy Z (some q) := by rw [← hZ, three_set]; exact grown_put _ _ _ _
  have GX : x.grownBy Z (some q) := grown_trans (gb_any BY _) GZ
  rw [← three_set, hZ] at LZ
  have hxZ : x.heap.size ≤ Z.heap.size := GX.size
  have HE0 : Hid (z.says (0 : UInt8).toNat = [] → DtW w p g lv (.slice (some ⟨q, 0, none⟩) n cap) L l nd [0] x (.tuple #[.slice none 0 0, .bool true]) Z) := fun e => HT.out _ _ (by rw [e]; exact Nw.nil _ _) LZ GX
  have HE1 : Hid (∀ a : Ne, z.says (0 : UInt8).toNat = [a] → DtW w p g lv (.slice (some ⟨q, 0, none⟩) n cap) L l nd [0] x (.tuple #[.slice (some ⟨Z.heap.size, 0, none⟩) 1 1, .bool true]) (Z.alloc (.cells #[.int .i64 a.nd, .int .i64 a.wh, .int .i64 a.st] 55))) := fun a e => HT.out _ _ (by rw [e]; exact (Nw.one Z a).lower hxZ) (LZ.below ((Below.refl _ _).alloc (Nat.le_refl _) _)) (grown_all GX _)
  have z0 : Z.cell? ⟨rb, 0, none⟩ = some (.int .i64 z.is) := CZ.cell 0
  have z1 : Z.cell? ⟨rb, 1, none⟩ = some (.int .i64 z.st) := CZ.cell 1
  clear HA HT HH BY CR LY LZ hRY hFY CZ GZ GX hxZ hY hP
  rw [hrb] at *
  go_upto_region 7 with fail
  try rw [hZ]
  have HS : Hid (z.says (0 : UInt8).toNat = [⟨nd, 0, 0⟩]) := by show [_] = _; rw [HN.out]
  go_wp2_with fail
  go_ret2
  exact ⟨_, rfl, HE1.out _ HS.out⟩
set_option maxHeartbeats 2000000 in
theorem dtake_4 (h : Ld w p g lv sv L l x) (nd : Int) (bv : Value) (hk : fw l nd < l.length) (hB : Bytes x bv [4]) : Calls Try.prog 16 #[.pointer (some ⟨g, 0, none⟩), .int .i64 nd, bv] x fun e y => ∃ r, e = .returned r ∧ DtW w p g lv sv L l nd [4] x r y := by
  have hP := find_any h nd
  rw [ixw_pos _ _ hk] at hP
  obtain ⟨bb, bo, bc, rfl, hbl, cb⟩ := bytes_one hB
  have dk : decide (((fw l nd : Nat) : Int) < 0) = false := by simp
  obtain ⟨q, cap, hv⟩ : ∃ q cap, sv = .slice (some ⟨q, 0, none⟩) l.length cap := by
    rcases h.row.2 with ⟨hv, h0⟩ | ⟨q, cap, cur, hv, _⟩
    · omega
    · exact ⟨q, cap, hv⟩
  subst hv
  have hkn : ((fw l nd : Nat) : Int) < (l.length : Int) := by omega
  obtain ⟨c0, c1⟩ := h.cell
  have hR := own_getW DS h.row hk
  have hF : ∀ j, j < 3 → x.frozen? ⟨q, fw l nd * 3 + j, none⟩ = false := fun j hj => (own_thereW DS h.row hk j hj).2
  have HN := hidOf2 (fw_nd l nd hk)
  obtain ⟨y1, y2, y3⟩ := take_yes l nd 4 hk (by decide)
  have HT : Hid (∀ nv Y, Nw x.heap.size nv (l[fw l nd].says (4 : UInt8).toNat) Y → Ld w p g lv (.slice (some ⟨q, 0, none⟩) l.length cap) L (takeW l nd [4]) Y → x.grownBy Y (some q) → DtW w p g lv (.slice (some ⟨q, 0, none⟩) l.length cap) L l nd [4] x (.tuple #[nv, .bool true]) Y) := fun nv Y a1 a2 a3 => ⟨nv, by rw [y1], by rw [y2]; exact a1, a2, a3⟩
  have HJ : Hid (∀ Y, Ld w p g lv (.slice (some ⟨q, 0, none⟩) l.length cap) L l Y → Ld w p g lv (.slice (some ⟨q, 0, none⟩) l.length cap) L (takeW l nd [4]) (Y.setCells q (fw l nd * 3) (l[fw l nd].beat (4 : UInt8).toNat).ss)) := fun Y hY => hY.beats 4 hk (by decide)
  have HS : Hid ((l[fw l nd].beat (4 : UInt8).toNat).ss = [.int .i64 1, .int .i64 4, .int .u64 0]) := rfl
  rw [HS.out] at HJ
  obtain ⟨z, hz⟩ : ∃ z, l[fw l nd] = z := ⟨_, rfl⟩
  have hR' : x.rangeAt q (fw l nd * 3) z.ss := by rw [← hz]; exact hR
  rw [hz] at HT HN
  obtain ⟨s0, s1, s2⟩ := Wt.cells3 hR'
  have hR2 : x.rangeAt q (fw l nd * 3) [.int .i64 z.is, .int .i64 z.st, .int .u64 z.si] := hR'
  have f0 := hF 0 (by decide)
  have f1 := hF 1 (by decide)
  have f2 := hF 2 (by decide)
  rw [Nat.add_zero] at f0
  have hbb : bb < x.heap.size := hbl
  have hqq : q < x.heap.size := by
    obtain ⟨_, cur, hcq⟩ := own_of h.row (g := q) rfl
    exact (Array.getElem?_eq_some_iff.1 hcq).1
  have hgg : g < x.heap.size := h.blk.lt
  have HH := hidOf2 h
  have HA : Hid (∀ Y, Ld w p g lv (.slice (some ⟨q, 0, none⟩) l.length cap) L l Y → Y.cell? ⟨g, 1, none⟩ = some (.slice (some ⟨q, 0, none⟩) l.length cap) ∧ Y.rangeAt q (fw l nd * 3) z.ss ∧ (∀ j, j < 3 → Y.frozen? ⟨q, fw l nd * 3 + j, none⟩ = false) ∧ Ld w p g lv (.slice (some ⟨q, 0, none⟩) l.length cap) L (takeW l nd [4]) (Y.setCells q (fw l nd * 3) [.int .i64 1, .int .i64 4, .int .u64 0])) := fun Y hY => ⟨hY.cell.2, by have := own_getW DS hY.row hk; rw [hz] at this; exact this, fun j hj => (own_thereW DS hY.row hk j hj).2, HJ.out Y hY⟩
  clear hR hR' hF y1 y2 y3 HS hz h hk HJ
  generalize takeW l nd [4] = lb at *
  generalize fw l nd = k at *
  generalize l.length = n at *
  obtain ⟨o, ho⟩ : ∃ o, k * 3 = o := ⟨_, rfl⟩
  rw [ho] at HA s0 s1 s2 hR2 f0 f1 f2
  clear hB hbl
  go_enter Try.func16, Try.ntmps16
  go_upto_region 4 with (go_at_call 31; refine hP.mono ?_; rintro e W ⟨rfl, hW⟩; rw [hW])
  go_region
  obtain ⟨Y, hY⟩ : ∃ Y, (x.alloc (.cells #[.int .i64 z.is, .int .i64 z.st, .int .u64 z.si] 87)).drew = Y := ⟨_, rfl⟩
  have BY : Below x.heap.size x Y := by rw [← hY]; exact below_drawn ((Below.refl _ _).alloc (Nat.le_refl _) _) 1
  obtain ⟨rb, hrb⟩ : ∃ r, x.heap.size = r := ⟨_, rfl⟩
  have CR : Bc 87 rb #[.int .i64 z.is, .int .i64 z.st, .int .u64 z.si] Y := by rw [← hY, ← hrb]; exact heap_alloc_new x _
  have LY := HH.out.below BY
  rw [hY]
  obtain ⟨k1, hRY, hFY, LZ⟩ := HA.out Y LY
  obtain ⟨t0, t1, t2⟩ := Wt.cells3 hRY
  have g0 := hFY 0 (by decide)
  have g1 := hFY 1 (by decide)
  have g2 := hFY 2 (by decide)
  rw [Nat.add_zero] at g0
  obtain ⟨Z, hZ⟩ : ∃ Z, (((Y.setCell ⟨q, o, none⟩ (.int .i64 1)).setCell ⟨q, o + 1, none⟩ (.int .i64 4)).setCell ⟨q, o + 2, none⟩ (.int .u64 0)) = Z := ⟨_, rfl⟩
  have hqr : rb ≠ q := by omega
  have CZ : Bc 87 rb #[.int .i64 z.is, .int .i64 z.st, .int .u64 z.si] Z := by rw [← hZ, three_set]; exact (heap_cn_other hqr _ _ Y).trans CR
  have GZ : Y.grownBy Z (some q) := by rw [← hZ, three_set]; exact grown_put _ _ _ _
  have GX : x.grownBy Z (some q) := grown_trans (gb_any BY _) GZ
  rw [← three_set, hZ] at LZ
  have hxZ : x.heap.size ≤ Z.heap.size := GX.size
  have HE0 : Hid (z.says (4 : UInt8).toNat = [] → DtW w p g lv (.slice (some ⟨q, 0, none⟩) n cap) L l nd [4] x (.tuple #[.slice none 0 0, .bool true]) Z) := fun e => HT.out _ _ (by rw [e]; exact Nw.nil _ _) LZ GX
  have HE1 : Hid (∀ a : Ne, z.says (4 : UInt8).toNat = [a] → DtW w p g lv (.slice (some ⟨q, 0, none⟩) n cap) L l nd [4] x (.tuple #[.slice (some ⟨Z.heap.size, 0, none⟩) 1 1, .bool true]) (Z.alloc (.cells #[.int .i64 a.nd, .int .i64 a.wh, .int .i64 a.st] 55))) := fun a e => HT.out _ _ (by rw [e]; exact (Nw.one Z a).lower hxZ) (LZ.below ((Below.refl _ _).alloc (Nat.le_refl _) _)) (grown_all GX _)
  have z0 : Z.cell? ⟨rb, 0, none⟩ = some (.int .i64 z.is) := CZ.cell 0
  have z1 : Z.cell? ⟨rb, 1, none⟩ = some (.int .i64 z.st) := CZ.cell 1
  clear HA HT HH BY CR LY LZ hRY hFY CZ GZ GX hxZ hY hP
  rw [hrb] at *
  go_upto_region 9 with fail
  try rw [hZ]
  by_cases h1 : z.is = 1
  · by_cases h2 : z.st = 4
    · have HS : Hid (z.says (4 : UInt8).toNat = []) := by show (if _ then _ else _) = _; rw [if_neg (by decide), if_neg (by simpa using h1), if_neg (by simpa using h2)]
      have d1 : ((z.is : Int) != 1) = false := by simp [h1]
      have d2 : (z.st != 4) = false := by simp [h2]
      clear h1 h2
      go_wp2_with fail
      go_ret2
      exact ⟨_, rfl, HE0.out HS.out⟩
    · have HS : Hid (z.says (4 : UInt8).toNat = [⟨nd, 2, 4⟩]) := by
        show (if _ then _ else _) = _
        rw [if_neg (by decide), if_neg (by simpa using h1), if_pos (by simpa using h2), HN.out]
        rfl
      have d1 : ((z.is : Int) != 1) = false := by simp [h1]
      have d2 : (z.st != 4) = true := by simp [h2]
      clear h1 h2
      go_wp2_with fail
      go_ret2
      exact ⟨_, rfl, HE1.out _ HS.out⟩
  · have HS : Hid (z.says (4 : UInt8).toNat = [⟨nd, 1, 4⟩]) := by
      show (if _ then _ else _) = _
      rw [if_neg (by decide), if_pos (by simpa using h1), HN.out]
      rfl
    have d1 : ((z.is : Int) != 1) = true := by simp; omega
    clear h1
    go_wp2_with fail
    go_ret2
    exact ⟨_, rfl, HE1.out _ HS.out⟩
set_option maxHeartbeats 2000000 in
theorem dtake_5 (h : Ld w p g lv sv L l x) (nd : Int) (bv : Value) (hk : fw l nd < l.length) (hB : Bytes x bv [5]) : Calls Try.prog 16 #[.pointer (some ⟨g, 0, none⟩), .int .i64 nd, bv] x fun e y => ∃ r, e = .returned r ∧ DtW w p g lv sv L l nd [5] x r y := by
  have hP := find_any h nd
  rw [ixw_pos _ _ hk] at hP
  obtain ⟨bb, bo, bc, rfl, hbl, cb⟩ := bytes_one hB
  have dk : decide (((fw l nd : Nat) : Int) < 0) = false := by simp
  obtain ⟨q, cap, hv⟩ : ∃ q cap, sv = .slice (some ⟨q, 0, none⟩) l.length cap := by
    rcases h.row.2 with ⟨hv, h0⟩ | ⟨q, cap, cur, hv, _⟩
    · omega
    · exact ⟨q, cap, hv⟩
  subst hv
  have hkn : ((fw l nd : Nat) : Int) < (l.length : Int) := by omega
  obtain ⟨c0, c1⟩ := h.cell
  have hR := own_getW DS h.row hk
  have hF : ∀ j, j < 3 → x.frozen? ⟨q, fw l nd * 3 + j, none⟩ = false := fun j hj => (own_thereW DS h.row hk j hj).2
  have HN := hidOf2 (fw_nd l nd hk)
  obtain ⟨y1, y2, y3⟩ := take_yes l nd 5 hk (by decide)
  have HT : Hid (∀ nv Y, Nw x.heap.size nv (l[fw l nd].says (5 : UInt8).toNat) Y → Ld w p g lv (.slice (some ⟨q, 0, none⟩) l.length cap) L (takeW l nd [5]) Y → x.grownBy Y (some q) → DtW w p g lv (.slice (some ⟨q, 0, none⟩) l.length cap) L l nd [5] x (.tuple #[nv, .bool true]) Y) := fun nv Y a1 a2 a3 => ⟨nv, by rw [y1], by rw [y2]; exact a1, a2, a3⟩
  have HJ : Hid (∀ Y, Ld w p g lv (.slice (some ⟨q, 0, none⟩) l.length cap) L l Y → Ld w p g lv (.slice (some ⟨q, 0, none⟩) l.length cap) L (takeW l nd [5]) (Y.setCells q (fw l nd * 3) (l[fw l nd].beat (5 : UInt8).toNat).ss)) := fun Y hY => hY.beats 5 hk (by decide)
  have HS : Hid ((l[fw l nd].beat (5 : UInt8).toNat).ss = [.int .i64 1, .int .i64 5, .int .u64 0]) := rfl
  rw [HS.out] at HJ
  obtain ⟨z, hz⟩ : ∃ z, l[fw l nd] = z := ⟨_, rfl⟩
  have hR' : x.rangeAt q (fw l nd * 3) z.ss := by rw [← hz]; exact hR
  rw [hz] at HT HN
  obtain ⟨s0, s1, s2⟩ := Wt.cells3 hR'
  have hR2 : x.rangeAt q (fw l nd * 3) [.int .i64 z.is, .int .i64 z.st, .int .u64 z.si] := hR'
  have f0 := hF 0 (by decide)
  have f1 := hF 1 (by decide)
  have f2 := hF 2 (by decide)
  rw [Nat.add_zero] at f0
  have hbb : bb < x.heap.size := hbl
  have hqq : q < x.heap.size := by
    obtain ⟨_, cur, hcq⟩ := own_of h.row (g := q) rfl
    exact (Array.getElem?_eq_some_iff.1 hcq).1
  have hgg : g < x.heap.size := h.blk.lt
  have HH := hidOf2 h
  have HA : Hid (∀ Y, Ld w p g lv (.slice (some ⟨q, 0, none⟩) l.length cap) L l Y → Y.cell? ⟨g, 1, none⟩ = some (.slice (some ⟨q, 0, none⟩) l.length cap) ∧ Y.rangeAt q (fw l nd * 3) z.ss ∧ (∀ j, j < 3 → Y.frozen? ⟨q, fw l nd * 3 + j, none⟩ = false) ∧ Ld w p g lv (.slice (some ⟨q, 0, none⟩) l.length cap) L (takeW l nd [5]) (Y.setCells q (fw l nd * 3) [.int .i64 1, .int .i64 5, .int .u64 0])) := fun Y hY => ⟨hY.cell.2, by have := own_getW DS hY.row hk; rw [hz] at this; exact this, fun j hj => (own_thereW DS hY.row hk j hj).2, HJ.out Y hY⟩
  clear hR hR' hF y1 y2 y3 HS hz h hk HJ
  generalize takeW l nd [5] = lb at *
  generalize fw l nd = k at *
  generalize l.length = n at *
  obtain ⟨o, ho⟩ : ∃ o, k * 3 = o := ⟨_, rfl⟩
  rw [ho] at HA s0 s1 s2 hR2 f0 f1 f2
  clear hB hbl
  go_enter Try.func16, Try.ntmps16
  go_upto_region 4 with (go_at_call 31; refine hP.mono ?_; rintro e W ⟨rfl, hW⟩; rw [hW])
  go_region
  obtain ⟨Y, hY⟩ : ∃ Y, (x.alloc (.cells #[.int .i64 z.is, .int .i64 z.st, .int .u64 z.si] 87)).drew = Y := ⟨_, rfl⟩
  have BY : Below x.heap.size x Y := by rw [← hY]; exact below_drawn ((Below.refl _ _).alloc (Nat.le_refl _) _) 1
  obtain ⟨rb, hrb⟩ : ∃ r, x.heap.size = r := ⟨_, rfl⟩
  have CR : Bc 87 rb #[.int .i64 z.is, .int .i64 z.st, .int .u64 z.si] Y := by rw [← hY, ← hrb]; exact heap_alloc_new x _
  have LY := HH.out.below BY
  rw [hY]
  obtain ⟨k1, hRY, hFY, LZ⟩ := HA.out Y LY
  obtain ⟨t0, t1, t2⟩ := Wt.cells3 hRY
  have g0 := hFY 0 (by decide)
  have g1 := hFY 1 (by decide)
  have g2 := hFY 2 (by decide)
  rw [Nat.add_zero] at g0
  obtain ⟨Z, hZ⟩ : ∃ Z, (((Y.setCell ⟨q, o, none⟩ (.int .i64 1)).setCell ⟨q, o + 1, none⟩ (.int .i64 5)).setCell ⟨q, o + 2, none⟩ (.int .u64 0)) = Z := ⟨_, rfl⟩
  have hqr : rb ≠ q := by omega
  have CZ : Bc 87 rb #[.int .i64 z.is, .int .i64 z.st, .int .u64 z.si] Z := by rw [← hZ, three_set]; exact (heap_cn_other hqr _ _ Y).trans CR
  have GZ : Y.grownBy Z (some q) := by rw [← hZ, three_set]; exact grown_put _ _ _ _
  have GX : x.grownBy Z (some q) := grown_trans (gb_any BY _) GZ
  rw [← three_set, hZ] at LZ
  have hxZ : x.heap.size ≤ Z.heap.size := GX.size
  have HE0 : Hid (z.says (5 : UInt8).toNat = [] → DtW w p g lv (.slice (some ⟨q, 0, none⟩) n cap) L l nd [5] x (.tuple #[.slice none 0 0, .bool true]) Z) := fun e => HT.out _ _ (by rw [e]; exact Nw.nil _ _) LZ GX
  have HE1 : Hid (∀ a : Ne, z.says (5 : UInt8).toNat = [a] → DtW w p g lv (.slice (some ⟨q, 0, none⟩) n cap) L l nd [5] x (.tuple #[.slice (some ⟨Z.heap.size, 0, none⟩) 1 1, .bool true]) (Z.alloc (.cells #[.int .i64 a.nd, .int .i64 a.wh, .int .i64 a.st] 55))) := fun a e => HT.out _ _ (by rw [e]; exact (Nw.one Z a).lower hxZ) (LZ.below ((Below.refl _ _).alloc (Nat.le_refl _) _)) (grown_all GX _)
  have z0 : Z.cell? ⟨rb, 0, none⟩ = some (.int .i64 z.is) := CZ.cell 0
  have z1 : Z.cell? ⟨rb, 1, none⟩ = some (.int .i64 z.st) := CZ.cell 1
  clear HA HT HH BY CR LY LZ hRY hFY CZ GZ GX hxZ hY hP
  rw [hrb] at *
  go_upto_region 9 with fail
  try rw [hZ]
  by_cases h1 : z.is = 1
  · by_cases h2 : z.st = 5
    · have HS : Hid (z.says (5 : UInt8).toNat = []) := by show (if _ then _ else _) = _; rw [if_neg (by decide), if_neg (by simpa using h1), if_neg (by simpa using h2)]
      have d1 : ((z.is : Int) != 1) = false := by simp [h1]
      have d2 : (z.st != 5) = false := by simp [h2]
      clear h1 h2
      go_wp2_with fail
      go_ret2
      exact ⟨_, rfl, HE0.out HS.out⟩
    · have HS : Hid (z.says (5 : UInt8).toNat = [⟨nd, 2, 5⟩]) := by
        show (if _ then _ else _) = _
        rw [if_neg (by decide), if_neg (by simpa using h1), if_pos (by simpa using h2), HN.out]
        rfl
      have d1 : ((z.is : Int) != 1) = false := by simp [h1]
      have d2 : (z.st != 5) = true := by simp [h2]
      clear h1 h2
      go_wp2_with fail
      go_ret2
      exact ⟨_, rfl, HE1.out _ HS.out⟩
  · have HS : Hid (z.says (5 : UInt8).toNat = [⟨nd, 1, 5⟩]) := by
      show (if _ then _ else _) = _
      rw [if_neg (by decide), if_pos (by simpa using h1), HN.out]
      rfl
    have d1 : ((z.is : Int) != 1) = true := by simp; omega
    clear h1
    go_wp2_with fail
    go_ret2
    exact ⟨_, rfl, HE1.out _ HS.out⟩
set_option maxHeartbeats 2000000 in
theorem dtake_127 (h : Ld w p g lv sv L l x) (nd : Int) (bv : Value) (hk : fw l nd < l.length) (hB : Bytes x bv [127]) : Calls Try.prog 16 #[.pointer (some ⟨g, 0, none⟩), .int .i64 nd, bv] x fun e y => ∃ r, e = .returned r ∧ DtW w p g lv sv L l nd [127] x r y := by
  have hP := find_any h nd
  rw [ixw_pos _ _ hk] at hP
  obtain ⟨bb, bo, bc, rfl, hbl, cb⟩ := bytes_one hB
  have dk : decide (((fw l nd : Nat) : Int) < 0) = false := by simp
  obtain ⟨q, cap, hv⟩ : ∃ q cap, sv = .slice (some ⟨q, 0, none⟩) l.length cap := by
    rcases h.row.2 with ⟨hv, h0⟩ | ⟨q, cap, cur, hv, _⟩
    · omega
    · exact ⟨q, cap, hv⟩
  subst hv
  have hkn : ((fw l nd : Nat) : Int) < (l.length : Int) := by omega
  obtain ⟨c0, c1⟩ := h.cell
  have hR := own_getW DS h.row hk
  have hF : ∀ j, j < 3 → x.frozen? ⟨q, fw l nd * 3 + j, none⟩ = false := fun j hj => (own_thereW DS h.row hk j hj).2
  have HN := hidOf2 (fw_nd l nd hk)
  obtain ⟨y1, y2, y3⟩ := take_yes l nd 127 hk (by decide)
  have HT : Hid (∀ nv Y, Nw x.heap.size nv (l[fw l nd].says (127 : UInt8).toNat) Y → Ld w p g lv (.slice (some ⟨q, 0, none⟩) l.length cap) L (takeW l nd [127]) Y → x.grownBy Y (some q) → DtW w p g lv (.slice (some ⟨q, 0, none⟩) l.length cap) L l nd [127] x (.tuple #[nv, .bool true]) Y) := fun nv Y a1 a2 a3 => ⟨nv, by rw [y1], by rw [y2]; exact a1, a2, a3⟩
  have HJ : Hid (∀ Y, Ld w p g lv (.slice (some ⟨q, 0, none⟩) l.length cap) L l Y → Ld w p g lv (.slice (some ⟨q, 0, none⟩) l.length cap) L (takeW l nd [127]) (Y.setCells q (fw l nd * 3) (l[fw l nd].beat (127 : UInt8).toNat).ss)) := fun Y hY => hY.beats 127 hk (by decide)
  have HS : Hid ((l[fw l nd].beat (127 : UInt8).toNat).ss = [.int .i64 1, .int .i64 127, .int .u64 0]) := rfl
  rw [HS.out] at HJ
  obtain ⟨z, hz⟩ : ∃ z, l[fw l nd] = z := ⟨_, rfl⟩
  have hR' : x.rangeAt q (fw l nd * 3) z.ss := by rw [← hz]; exact hR
  rw [hz] at HT HN
  obtain ⟨s0, s1, s2⟩ := Wt.cells3 hR'
  have hR2 : x.rangeAt q (fw l nd * 3) [.int .i64 z.is, .int .i64 z.st, .int .u64 z.si] := hR'
  have f0 := hF 0 (by decide)
  have f1 := hF 1 (by decide)
  have f2 := hF 2 (by decide)
  rw [Nat.add_zero] at f0
  have hbb : bb < x.heap.size := hbl
  have hqq : q < x.heap.size := by
    obtain ⟨_, cur, hcq⟩ := own_of h.row (g := q) rfl
    exact (Array.getElem?_eq_some_iff.1 hcq).1
  have hgg : g < x.heap.size := h.blk.lt
  have HH := hidOf2 h
  have HA : Hid (∀ Y, Ld w p g lv (.slice (some ⟨q, 0, none⟩) l.length cap) L l Y → Y.cell? ⟨g, 1, none⟩ = some (.slice (some ⟨q, 0, none⟩) l.length cap) ∧ Y.rangeAt q (fw l nd * 3) z.ss ∧ (∀ j, j < 3 → Y.frozen? ⟨q, fw l nd * 3 + j, none⟩ = false) ∧ Ld w p g lv (.slice (some ⟨q, 0, none⟩) l.length cap) L (takeW l nd [127]) (Y.setCells q (fw l nd * 3) [.int .i64 1, .int .i64 127, .int .u64 0])) := fun Y hY => ⟨hY.cell.2, by have := own_getW DS hY.row hk; rw [hz] at this; exact this, fun j hj => (own_thereW DS hY.row hk j hj).2, HJ.out Y hY⟩
  clear hR hR' hF y1 y2 y3 HS hz h hk HJ
  generalize takeW l nd [127] = lb at *
  generalize fw l nd = k at *
  generalize l.length = n at *
  obtain ⟨o, ho⟩ : ∃ o, k * 3 = o := ⟨_, rfl⟩
  rw [ho] at HA s0 s1 s2 hR2 f0 f1 f2
  clear hB hbl
  go_enter Try.func16, Try.ntmps16
  go_upto_region 4 with (go_at_call 31; refine hP.mono ?_; rintro e W ⟨rfl, hW⟩; rw [hW])
  go_region
  obtain ⟨Y, hY⟩ : ∃ Y, (x.alloc (.cells #[.int .i64 z.is, .int .i64 z.st, .int .u64 z.si] 87)).drew = Y := ⟨_, rfl⟩
  have BY : Below x.heap.size x Y := by rw [← hY]; exact below_drawn ((Below.refl _ _).alloc (Nat.le_refl _) _) 1
  obtain ⟨rb, hrb⟩ : ∃ r, x.heap.size = r := ⟨_, rfl⟩
  have CR : Bc 87 rb #[.int .i64 z.is, .int .i64 z.st, .int .u64 z.si] Y := by rw [← hY, ← hrb]; exact heap_alloc_new x _
  have LY := HH.out.below BY
  rw [hY]
  obtain ⟨k1, hRY, hFY, LZ⟩ := HA.out Y LY
  obtain ⟨t0, t1, t2⟩ := Wt.cells3 hRY
  have g0 := hFY 0 (by decide)
  have g1 := hFY 1 (by decide)
  have g2 := hFY 2 (by decide)
  rw [Nat.add_zero] at g0
  obtain ⟨Z, hZ⟩ : ∃ Z, (((Y.setCell ⟨q, o, none⟩ (.int .i64 1)).setCell ⟨q, o + 1, none⟩ (.int .i64 127)).setCell ⟨q, o + 2, none⟩ (.int .u64 0)) = Z := ⟨_, rfl⟩
  have hqr : rb ≠ q := by omega
  have CZ : Bc 87 rb #[.int .i64 z.is, .int .i64 z.st, .int .u64 z.si] Z := by rw [← hZ, three_set]; exact (heap_cn_other hqr _ _ Y).trans CR
  have GZ : Y.grownBy Z (some q) := by rw [← hZ, three_set]; exact grown_put _ _ _ _
  have GX : x.grownBy Z (some q) := grown_trans (gb_any BY _) GZ
  rw [← three_set, hZ] at LZ
  have hxZ : x.heap.size ≤ Z.heap.size := GX.size
  have HE0 : Hid (z.says (127 : UInt8).toNat = [] → DtW w p g lv (.slice (some ⟨q, 0, none⟩) n cap) L l nd [127] x (.tuple #[.slice none 0 0, .bool true]) Z) := fun e => HT.out _ _ (by rw [e]; exact Nw.nil _ _) LZ GX
  have HE1 : Hid (∀ a : Ne, z.says (127 : UInt8).toNat = [a] → DtW w p g lv (.slice (some ⟨q, 0, none⟩) n cap) L l nd [127] x (.tuple #[.slice (some ⟨Z.heap.size, 0, none⟩) 1 1, .bool true]) (Z.alloc (.cells #[.int .i64 a.nd, .int .i64 a.wh, .int .i64 a.st] 55))) := fun a e => HT.out _ _ (by rw [e]; exact (Nw.one Z a).lower hxZ) (LZ.below ((Below.refl _ _).alloc (Nat.le_refl _) _)) (grown_all GX _)
  have z0 : Z.cell? ⟨rb, 0, none⟩ = some (.int .i64 z.is) := CZ.cell 0
  have z1 : Z.cell? ⟨rb, 1, none⟩ = some (.int .i64 z.st) := CZ.cell 1
  clear HA HT HH BY CR LY LZ hRY hFY CZ GZ GX hxZ hY hP
  rw [hrb] at *
  go_upto_region 9 with fail
  try rw [hZ]
  by_cases h1 : z.is = 1
  · by_cases h2 : z.st = 127
    · have HS : Hid (z.says (127 : UInt8).toNat = []) := by show (if _ then _ else _) = _; rw [if_neg (by decide), if_neg (by simpa using h1), if_neg (by simpa using h2)]
      have d1 : ((z.is : Int) != 1) = false := by simp [h1]
      have d2 : (z.st != 127) = false := by simp [h2]
      clear h1 h2
      go_wp2_with fail
      go_ret2
      exact ⟨_, rfl, HE0.out HS.out⟩
    · have HS : Hid (z.says (127 : UInt8).toNat = [⟨nd, 2, 127⟩]) := by
        show (if _ then _ else _) = _
        rw [if_neg (by decide), if_neg (by simpa using h1), if_pos (by simpa using h2), HN.out]
        rfl
      have d1 : ((z.is : Int) != 1) = false := by simp [h1]
      have d2 : (z.st != 127) = true := by simp [h2]
      clear h1 h2
      go_wp2_with fail
      go_ret2
      exact ⟨_, rfl, HE1.out _ HS.out⟩
  · have HS : Hid (z.says (127 : UInt8).toNat = [⟨nd, 1, 127⟩]) := by
      show (if _ then _ else _) = _
      rw [if_neg (by decide), if_pos (by simpa using h1), HN.out]
      rfl
    have d1 : ((z.is : Int) != 1) = true := by simp; omega
    clear h1
    go_wp2_with fail
    go_ret2
    exact ⟨_, rfl, HE1.out _ HS.out⟩
theorem dtake_any (h : Ld w p g lv sv L l x) (nd : Int) (bv : Value) (b : List UInt8) (hB : Bytes x bv b) : Calls Try.prog 16 #[.pointer (some ⟨g, 0, none⟩), .int .i64 nd, bv] x fun e y => ∃ r, e = .returned r ∧ DtW w p g lv sv L l nd b x r y := by
  by_cases hk : fw l nd < l.length
  · by_cases hb1 : b.length = 1
    · match b, hb1 with
      | [c], _ =>
        by_cases hc : isB c.toNat = true
        · have h4 : c = 0 ∨ c = 4 ∨ c = 5 ∨ c = 127 := by
            have h5 : c.toNat = 0 ∨ c.toNat = 4 ∨ c.toNat = 5 ∨ c.toNat = 127 := by simpa [isB, or_assoc] using hc
            rcases h5 with e | e | e | e
            · exact .inl (UInt8.toNat_inj.1 e)
            · exact .inr (.inl (UInt8.toNat_inj.1 e))
            · exact .inr (.inr (.inl (UInt8.toNat_inj.1 e)))
            · exact .inr (.inr (.inr (UInt8.toNat_inj.1 e)))
          rcases h4 with rfl | rfl | rfl | rfl
          · exact dtake_0 h nd bv hk hB
          · exact dtake_4 h nd bv hk hB
          · exact dtake_5 h nd bv hk hB
          · exact dtake_127 h nd bv hk hB
        · exact dtake_none h nd bv c hk (by simpa using hc) hB
    · exact dtake_len h nd bv b hk hb1 hB
  · exact dtake_out h nd bv b hk hB
theorem Ld.take (h : Ld w p g lv sv L l x) (nd : Int) (bv : Value) (b : List UInt8) (hB : Bytes x bv b) : Calls Try.prog 16 #[.pointer (some ⟨g, 0, none⟩), .int .i64 nd, bv] x fun e y =>
    ∃ ao cap, e = .returned (.tuple #[.slice ao (saysW l nd b).length cap, .bool (okW l nd b)]) ∧ Nw x.heap.size (.slice ao (saysW l nd b).length cap) (saysW l nd b) y ∧ Ld w p g lv sv L (takeW l nd b) y ∧ x.grownBy y sv.ownBlock := by
  refine (dtake_any h nd bv b hB).mono ?_
  rintro e y ⟨r, rfl, nv, rfl, N, W, G⟩
  obtain ⟨ao, cap, rfl⟩ := N.shape
  exact ⟨ao, cap, rfl, N, W, G⟩
end
end Go.Proofs.Ytceomfefffngaaa
