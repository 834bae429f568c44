/- One entry of bytes: plain; what is asked of it; whole. whole; frames beside both servers. What a law of layer 10 needs besides. -/
import Derived.Test.YtahfnknbmikmkaaGreatKa37
namespace Go.Proofs.YtahfnknbmikmkaaGreat
open Go.RowKit Go.Proofs.Ty
set_option linter.unusedVariables false
set_option maxRecDepth 1000000
set_option linter.unusedSimpArgs false
def vD (s : ByteArray) (h : s.size ≤ maxLen) : Vl := ⟨15, 0, s, by decide, by decide, h⟩
def eD (s : ByteArray) (h : s.size ≤ maxLen) : En := ⟨12288, 0, 2, false, false, Vl.nul, Vl.nul, vD s h, by decide, by decide, by decide⟩
theorem vD_chk (s : ByteArray) (h : s.size ≤ maxLen) : (vD s h).chk = if 65536 < s.size then 2 else 0 := by
  show Ty.chk 15 0 s = _
  unfold Ty.chk
  rw [if_neg (by decide), if_neg (by decide), if_neg (by decide)]
  split
  · rfl
  · rw [if_neg (by intro h; exact absurd h.1 (by decide))]
theorem eD_chk (s : ByteArray) (h : s.size ≤ maxLen) : chkL [eD s h] = if 65536 < s.size then 2 else 0 := by
  show (if (eD s h).can ≠ 0 then (eD s h).can else if ([] : List En).any (fun x => x.pl == (eD s h).pl) then 5 else 0) = _
  have hc : (eD s h).can = if 65536 < s.size then 2 else 0 := by
    unfold En.can
    rw [show (eD s h).df.chk = _ from vD_chk s h]
    by_cases h1 : 65536 < s.size
    · rw [if_pos h1]; rfl
    · rw [if_neg h1]
      rw [if_neg (by simp), if_neg (by show ¬ ((2 : Int) < 0 ∨ (3 : Int) < 2); decide), if_neg (by intro h; exact absurd h.1 (by show ¬ false = true; decide)), if_neg (by intro h; exact absurd h.1 (by show ¬ false = true; decide))]
  rw [hc]
  by_cases h1 : 65536 < s.size
  · rw [if_pos h1]; rfl
  · rw [if_neg h1]; rfl
theorem vD_plain (s : ByteArray) (h : s.size ≤ maxLen) : (vD s h).plain = vD s h := by
  unfold Vl.plain vD
  have h1 : plN 15 0 = 0 := rfl
  have h2 : plS 15 s = s := by unfold plS; rw [if_neg (by decide)]
  simp only [h1, h2]
theorem eD_plain (s : ByteArray) (h : s.size ≤ maxLen) : (eD s h).plain = eD s h := by
  show ({ eD s h with df := (vD s h).plain } : En) = eD s h
  rw [vD_plain]
  rfl
/-- The dictionary of that entry, at a value. -/
def one (b : Nat) (s : ByteArray) (h : s.size ≤ maxLen) (v : Vl) : List Im := [⟨b, eD s h, v⟩]
section
variable {b : Nat} {s : ByteArray} {h : s.size ≤ maxLen} {v : Vl} {l : List UInt8} {q : F8} {st : Ss}
theorem decE15 (hl : l.length ≤ 65536) : decE 15 l = 0 := by
  unfold decE
  have hf : fitE 15 l.length = 0 := by
    unfold fitE
    rw [if_neg (by decide), if_neg (by show ¬ l.length < 0; omega), if_neg (by rintro (h | h); exact absurd h.1 (by decide); omega)]
  rw [if_neg (by rw [hf]; simp)]
  have hc : Ty.chk 15 (decN 15 l) (decS 15 l) = 0 := by
    have h2 : decS 15 l = ⟨l.toArray⟩ := by unfold decS; rw [if_neg (by decide)]
    rw [h2]
    unfold Ty.chk
    rw [if_neg (by decide), if_neg (by decide), if_neg (by decide), if_neg (by show ¬ 65536 < l.toArray.size; simp; omega), if_neg (by intro h; exact absurd h.1 (by decide))]
  rw [if_neg (by rw [hc]; simp)]
theorem one_wc (hl : l.length ≤ 65536) : wc (one b s h v) 12288 0 l = 0 := by
  show wcode ⟨b, eD s h, v⟩ l = 0
  unfold wcode
  have hn : ¬ ((⟨b, eD s h, v⟩ : Im).e.ac ≠ 1 ∧ (⟨b, eD s h, v⟩ : Im).e.ac ≠ 2) := fun h => h.2 rfl
  rw [if_neg hn, if_pos (show decE (⟨b, eD s h, v⟩ : Im).e.df.t l = 0 from decE15 hl)]
  rfl
theorem one_getV : getV (one b s h v) 12288 0 = v := rfl
theorem one_getE : getE (one b s h v) 12288 0 = 0 := rfl
/-- A write begins. -/
theorem one_begin (h0 : q.b0.toNat / 32 = 1) (h1 : q.b0.toNat / 2 % 2 = 0) (hp : pix q = 12288) (hs : psb q = 0) (hz : q.b0.toNat % 2 = 1 → num4 q ≤ 65536) : hndO (one b s h v) st q = (.ok (frm 96 12288 0 0), one b s h v, ⟨1, 12288, 0, 0, [], if q.b0.toNat % 2 = 1 then some (num4 q) else none⟩) := by
  unfold hndO
  rw [if_neg (by omega), if_pos h0]
  unfold wrtO
  rw [if_neg (by omega), hp, hs]
  have hw : wc (one b s h v) 12288 0 [] = 0 := one_wc (by simp)
  have hle : leaC (one b s h v) 12288 0 = 0 := by unfold leaC; rw [hw]; rfl
  rw [if_neg (by rw [hle]; simp), if_neg (by rintro ⟨h2, h3⟩; have := hz h2; omega)]
/-- A segment, not the last one. -/
theorem one_seg (h0 : q.b0.toNat / 32 = 0) (hd : st.dn = 1) (ht : q.b0.toNat / 16 % 2 = st.tn) (hl : (st.bs ++ seg q).length ≤ 65536) (h1 : q.b0.toNat % 2 = 0) : hndO (one b s h v) st q = (.ok (took st.tn), one b s h v, { st with bs := st.bs ++ seg q, tn := 1 - st.tn }) := by
  unfold hndO
  rw [if_pos h0]
  unfold takO
  rw [if_neg (by omega), if_neg (by omega), if_neg (by omega), if_neg (by omega)]
theorem one_again (h0 : q.b0.toNat / 32 = 0) (hd : st.dn = 1) (ht : q.b0.toNat / 16 % 2 ≠ st.tn) : hndO (one b s h v) st q = (.bad st.ix st.sb 84082688, one b s h v, Ss.nul) := by
  unfold hndO
  rw [if_pos h0]
  unfold takO
  rw [if_neg (by omega), if_pos ht]
end
theorem build_vD (s : ByteArray) (h : s.size ≤ maxLen) (x : World) : (Instr.build 52 #[(0, .int .i64 15), (2, .string s)]).run Tryz.prog x = .ok (.agg (vD s h).arr) x := by kernel_rfl
theorem build_eD (s : ByteArray) (h : s.size ≤ maxLen) (x : World) : (Instr.build 93 #[(0, .int .u16 12288), (2, .int .i64 2), (7, .agg (vD s h).arr)]).run Tryz.prog x = .ok (.agg (eD s h).arr) x := by kernel_rfl
end Go.Proofs.YtahfnknbmikmkaaGreat
namespace Go.Proofs.YtahfnknbmikmkaaGreat
open Go.RowKit Go.Proofs.Ty
set_option linter.unusedVariables false
set_option maxRecDepth 1000000
set_option linter.unusedSimpArgs false
section
variable {w x y : World} {p : Pl} {ia ib its : List Im} {s t : Ss} {ao ap : Option Addr} {cp cq : Nat}
theorem Jt.rebase {v : World} (h : Jt w p ia ib s t ao cp ap cq x) (hb : Below v.heap.size v w) : Jt v p ia ib s t ao cp ap cq x :=
  ⟨h.pv, h.dv, h.prX, h.prY, hb.trans (h.below.mono hb.size), fun b hm => Nat.le_trans hb.size (h.base b hm), Nat.le_trans hb.size h.bE, Nat.le_trans hb.size h.bS, Nat.le_trans hb.size h.bT, h.ord, h.farA, h.farB, h.sep⟩
/-- An answer is laid into a block of its own. -/
theorem Jt.got (h : Jt w p ia ib s t ao cp ap cq x) (f : F8) : ∃ z, x.heap.size = z ∧ Qb z F8.nul (x.alloc (.cells zA8 32)) ∧ p.Y < z ∧ Hid (∀ Z, Z = (x.alloc (.cells zA8 32)).setRow z f.arr → Qb z f Z ∧ Jt w p ia ib s t ao cp ap cq Z ∧ Below x.heap.size x Z) := by
  have y1 : Qb x.heap.size F8.nul (x.alloc (.cells zA8 32)) := heap_alloc_new x _
  have ba : Below x.heap.size x (x.alloc (.cells zA8 32)) := (Below.refl _ _).alloc (Nat.le_refl _) _
  have by2 := below_row ba (Nat.le_refl _) (by rw [size_alloc]; omega) (q := x.heap.size) f.arr
  exact ⟨_, rfl, y1, (Array.getElem?_eq_some_iff.1 h.prY).1, fun Z hZ => by subst hZ; exact ⟨y1.row f, h.next by2, by2⟩⟩
/-- A frame that was there ahead of a call stays. -/
theorem Jt.stays {j : Nat} {f : F8} (h : Jt w p its its s s ao cp ap cq x) (hK : Kp (hch p its s ao) x y) (hj : p.Y < j) (hq : Qb j f x) (hA : ∀ b ∈ blk ao, b ≠ j) : Qb j f y := by
  obtain ⟨o1, o2, o3, o4⟩ := h.ord
  refine (hK.block j hq.lt (fun hm => ?_)).trans hq
  unfold hch at hm
  simp at hm
  rcases hm with h4 | h4 | h4 | h4 | ⟨i, h4, h5⟩
  · omega
  · omega
  · omega
  · unfold wl at h4
    split at h4
    · exact hA j h4 rfl
    · cases h4
  · have := h.pv.near i.b (List.mem_map.2 ⟨i, h4, rfl⟩); omega
end
/-- A byte of a frame is written. -/
def F8.pc (f : F8) (j : Nat) (c : UInt8) : F8 := match j with
  | 0 => { f with b0 := c }
  | 1 => { f with b1 := c }
  | 2 => { f with b2 := c }
  | 3 => { f with b3 := c }
  | 4 => { f with b4 := c }
  | 5 => { f with b5 := c }
  | 6 => { f with b6 := c }
  | 7 => { f with b7 := c }
  | _ => f
theorem F8.pc_arr (f : F8) (j : Nat) (c : UInt8) (hj : j < 8) : f.arr.setIfInBounds j (.int .u8 (c.toNat : Int)) = (f.pc j c).arr := by
  obtain rfl | rfl | rfl | rfl | rfl | rfl | rfl | rfl : j = 0 ∨ j = 1 ∨ j = 2 ∨ j = 3 ∨ j = 4 ∨ j = 5 ∨ j = 6 ∨ j = 7 := by omega
  all_goals rfl
theorem F8.pc_b0 (f : F8) (j : Nat) (c : UInt8) (hj : j < 8) (h0 : j ≠ 0) : (f.pc j c).b0 = f.b0 := by
  obtain rfl | rfl | rfl | rfl | rfl | rfl | rfl : j = 1 ∨ j = 2 ∨ j = 3 ∨ j = 4 ∨ j = 5 ∨ j = 6 ∨ j = 7 := by omega
  all_goals rfl
theorem Qb.pc {q : Nat} {f : F8} {w : World} (h : Qb q f w) (j : Nat) (hj : j < 8) (c : UInt8) : Qb q (f.pc j c) (w.setCell ⟨q, j, none⟩ (.int .u8 (c.toNat : Int))) := h.set j _ (f.pc_arr j c hj)
theorem its_one {its : List Im} {s : ByteArray} {hs : s.size ≤ maxLen} (hp : (its.map Im.e).Perm ([eD s hs].map En.plain)) (hv : ∀ i ∈ its, i.v = i.e.df) : ∃ b, its = one b s hs (vD s hs) := by
  have hl : its.length = 1 := by have := hp.length_eq; simpa only [List.length_map, List.length_cons, List.length_nil] using this
  obtain ⟨i, rfl⟩ := List.length_eq_one_iff.1 hl
  have hv := hv i (List.mem_singleton.2 rfl)
  have he : i.e = eD s hs := by
    have h2 : [i.e] = [(eD s hs).plain] := List.perm_singleton.1 hp
    rw [eD_plain] at h2
    injection h2
  obtain ⟨b, e, v⟩ := i
  simp only at hv he
  subst he
  exact ⟨b, by rw [hv]; rfl⟩
set_option maxHeartbeats 4000000 in
theorem whole_any (s : ByteArray) (hs : s.size ≤ maxLen) (w : World) : Calls Tryz.prog 20 #[.string s] w fun e w' => Below w.heap.size w w' ∧ (65536 < s.size → e = .returned (.tuple #[.pointer none, .bool true])) ∧ (s.size ≤ 65536 → ∃ p b, e = .returned (.tuple #[.pointer (some ⟨p.Y, 0, none⟩), .bool true]) ∧ Jt w p (one b s hs (vD s hs)) (one b s hs (vD s hs)) Ss.nul Ss.nul none 0 none 0 w') := by
  have hWi := wide_new DE w (eD s hs) 93
  have b1 : Below w.heap.size w (w.alloc (.cells (eD s hs).arr 93)) := (Below.refl _ _).alloc (Nat.le_refl _) _
  have hB := Begins10_any _ _ _ hWi (by show 1 ≤ _; decide)
  have HC := hidOf2 (eD_chk s hs)
  have HB1 := hidOf2 b1
  obtain ⟨W, hW⟩ : ∃ x, w.alloc (.cells (eD s hs).arr 93) = x := ⟨_, rfl⟩
  have hb1 := build_vD s hs
  have hb2 := build_eD s hs
  clear hWi b1
  go_enter Tryz.func20, Tryz.ntmps20
  go_wp2_with (first | (refine one_bs DE (eD s hs) 22 93 _ 120 rfl _ rfl rfl Tryz.underlying22 infoEz (by decide) ?_))
  refine hB.mono ?_
  rintro e w2 ⟨B2, hbad, hgood⟩
  have B3 := hidOf2 (HB1.out.trans (B2.mono HB1.out.size))
  by_cases hc : s.size ≤ 65536
  · obtain ⟨p, its, rfl, hJ, hp, hv⟩ := hgood (by rw [HC.out, if_neg (by omega)])
    have HX := hidOf2 (And.intro hJ (And.intro hp hv))
    clear hgood hbad hJ hp hv hB hb1 hb2 B2
    go_wp2
    go_ret2
    obtain ⟨b, rfl⟩ := its_one HX.out.2.1 HX.out.2.2
    exact ⟨B3.out, fun h => absurd h (by omega), fun _ => ⟨p, b, rfl, HX.out.1.rebase HB1.out⟩⟩
  · obtain rfl := hbad (by rw [HC.out, if_pos (by omega)]; decide)
    clear hgood hbad hB hb1 hb2 B2
    go_wp2
    go_ret2
    exact ⟨B3.out, fun _ => rfl, fun h => absurd h hc⟩
end Go.Proofs.YtahfnknbmikmkaaGreat
namespace Go.Proofs.YtahfnknbmikmkaaGreat
open Go.RowKit Go.Proofs.Ty
set_option linter.unusedVariables false
set_option maxRecDepth 1000000
set_option linter.unusedSimpArgs false
theorem exec_neq8 {a : Act} {o : Oper} {x y : Operand} {t : TypeId} (f : F8) (ho : o.op = .binOp .neq 32 x y t) (hx : a.eval x = .agg f.arr) (hy : a.eval y = .agg f.arr) (w : World) : (execOp a.eval o).run Tryz.prog w = .ok (.value (.bool false)) w := by
  have he := eq8F f 9998 w
  have hm : Tryz.prog.eqGuardType Tryz.prog.depth 32 = false := by kernel_rfl
  unfold execOp
  simp only [ho, hx, hy]
  simp [go_sem, run_eqGuard_agg w .neq 32 _ _ f.arr f.arr hm, run_eql_struct, he]
section
variable {w x y : World} {p : Pl} {its its' : List Im} {s s' : Ss} {ao ap : Option Addr} {cp cq : Nat} {r : Ro}
theorem Handles_to (h : Jt w p its its s s ao cp ap cq x) (q : F8) (he : hndO its s q = (r, its', s')) : Calls Tryz.prog 16 #[.pointer (some ⟨p.Y, 0, none⟩), .agg q.arr] x fun e x' => e = .returned (.tuple #[.agg r.f.arr, .bool true]) ∧ ∃ ao' cp' ap' cq', Jt w p its' its' s' s' ao' cp' ap' cq' x' ∧ Kp (hch p its s ao) x x' ∧ (∀ b ∈ blk ao', b ∈ blk ao ∨ x.heap.size ≤ b) ∧ (∀ b ∈ blk ap', b ∈ blk ap ∨ x.heap.size ≤ b) := by
  have := Handles_kp h q
  rw [he] at this
  exact this
theorem Jt.frame1 {j : Nat} {f : F8} (h : Jt w p its its s s ao cp ap cq x) (hj : x.heap.size = j) (hq : Qb j f y) (hy : Below x.heap.size x y) (z : World) (hK : Kp [j] y z) : Jt w p its its s s ao cp ap cq z := by
  have hy' := h.next hy
  have h1 := h.below.size
  have h2 := (Array.getElem?_eq_some_iff.1 h.prY).1
  exact hy'.frame hq (by omega) (fun b hb => by have := h.pv.lt b hb; omega) (fun b hb => by have := h.dv.lt b hb; omega) hK
theorem Jt.cX (h : Jt w p its its s s ao cp ap cq x) : x.cell? ⟨p.X, 0, none⟩ = some (.pointer (some ⟨p.D, 0, none⟩)) ∧ x.cell? ⟨p.X, 1, none⟩ = some (.pointer (some ⟨p.E, 0, none⟩)) := ⟨Lib.cell_of_heap h.prX 0, Lib.cell_of_heap h.prX 1⟩
end
/-- A value is laid into a block of its own. -/
theorem got_v (x : World) (v : Vl) : ∃ z, x.heap.size = z ∧ Va z Vl.nul (x.alloc (.cells #[.int .i64 0, .int .u64 0, .string ⟨#[]⟩] 52)) ∧ Hid (∀ Z, Z = (x.alloc (.cells #[.int .i64 0, .int .u64 0, .string ⟨#[]⟩] 52)).setRow z v.arr → Va z v Z ∧ Below x.heap.size x Z) := by
  have g0 : Va x.heap.size Vl.nul (x.alloc (.cells #[.int .i64 0, .int .u64 0, .string ⟨#[]⟩] 52)) := Va.new x Vl.nul
  have bv : Below x.heap.size x (x.alloc (.cells #[.int .i64 0, .int .u64 0, .string ⟨#[]⟩] 52)) := (Below.refl _ _).alloc (Nat.le_refl _) _
  have bv2 := below_row bv (Nat.le_refl _) (by rw [size_alloc]; omega) (q := x.heap.size) v.arr
  exact ⟨_, rfl, g0, fun Z hZ => by subst hZ; exact ⟨g0.row v, bv2⟩⟩
/-- A write in segments, so far. -/
structure Wt (st : Ss) (k : Nat) : Prop where
  dn : st.dn = 1
  ix : st.ix = 12288
  sb : st.sb = 0
  tn : st.tn = k % 2
  len : st.bs.length = 7 * k
  sz : st.sz = none
def Tg (st : Ss) (k m : Nat) : Prop := (k ≤ m → Wt st k) ∧ (m < k → st = Ss.nul)
theorem wt_step {st : Ss} {k : Nat} (h : Wt st k) (hk : k ≤ 8) (q : F8) (hq : q.b0.toNat = 16 * (k % 2)) (b : Nat) (s : ByteArray) (hs : s.size ≤ maxLen) (v : Vl) : ∃ st', hndO (one b s hs v) st q = (.ok (took (k % 2)), one b s hs v, st') ∧ Wt st' (k + 1) := by
  have hl := h.len
  have hsl : (seg q).length = 7 := by
    unfold seg
    rw [List.length_take]
    have : (q.l.drop 1).length = 7 := rfl
    rw [this, hq]
    omega
  refine ⟨{ st with bs := st.bs ++ seg q, tn := 1 - st.tn }, (one_seg (by rw [hq]; omega) h.dn (by rw [hq, h.tn]; omega) (by rw [List.length_append, hsl]; omega) (by rw [hq]; omega)).trans (by rw [h.tn]), h.dn, h.ix, h.sb, ?_, ?_, h.sz⟩
  · show 1 - st.tn = (k + 1) % 2
    rw [h.tn]
    omega
  · show (st.bs ++ seg q).length = _
    rw [List.length_append, hsl]
    omega
theorem wt_again {st : Ss} {k : Nat} (h : Wt st (k + 1)) (q : F8) (hq : q.b0.toNat = 16 * (k % 2)) (b : Nat) (s : ByteArray) (hs : s.size ≤ maxLen) (v : Vl) : hndO (one b s hs v) st q = (.bad 12288 0 84082688, one b s hs v, Ss.nul) := by
  rw [one_again (by rw [hq]; omega) h.dn (by rw [hq, h.tn]; omega), h.ix, h.sb]
end Go.Proofs.YtahfnknbmikmkaaGreat
