/- The document's gives. -/
import Derived.Test.YtahfnknbmikmkaaGreatZs
import Derived.Test.YtahfnknbmikmkaaGreatKb32
import Derived.Test.YtahfnknbmikmkaaGreatKb24
namespace Go.Proofs.YtahfnknbmikmkaaGreat
open Go.RowKit Go.Proofs.Ty
set_option linter.unusedVariables false
set_option maxRecDepth 1000000
set_option linter.unusedSimpArgs false
theorem gs_results {Q : Nat} {f : F8} {w : World} (h : Qb Q f w) (tmps : Array Value) (h2 : tmps[4]?.getD undef = .pointer (some ⟨Q, 0, none⟩)) :
    (results Tryz.f71 tmps).run Tryz.prog w = .ok (.agg f.arr) w := by
  have l0 := h.load
  simp [Go.results, Tryz.results71, h2, asAddr, l0]
/-- A frame with the first j of the next bytes laid. -/
def gk (s : Ss) (j : Nat) : F8 := ⟨0, if 0 < j then s.bs.getD 0 0 else 0, if 1 < j then s.bs.getD 1 0 else 0, if 2 < j then s.bs.getD 2 0 else 0, if 3 < j then s.bs.getD 3 0 else 0, if 4 < j then s.bs.getD 4 0 else 0, if 5 < j then s.bs.getD 5 0 else 0, if 6 < j then s.bs.getD 6 0 else 0⟩
theorem gk_end (s : Ss) (j : Nat) (h1 : j = 7 ∨ j = s.bs.length) (h2 : j ≤ 7) : gk s j = pn s := by
  have hg : ∀ i, i < 7 → (if i < j then s.bs.getD i 0 else 0) = s.bs.getD i 0 := fun i hi => by
    by_cases h : i < j
    · rw [if_pos h]
    · rw [if_neg h]
      have : s.bs.length ≤ i := by omega
      simp [List.getElem?_eq_none this]
  unfold gk pn
  rw [hg 0 (by omega), hg 1 (by omega), hg 2 (by omega), hg 3 (by omega), hg 4 (by omega), hg 5 (by omega), hg 6 (by omega)]
theorem gk_step (s : Ss) (j : Nat) (hj : j < s.bs.length) (h7 : j < 7) : (gk s j).arr.setIfInBounds (1 + j) (.int .u8 (s.bs[j].toNat : Int)) = (gk s (j + 1)).arr := by
  have hg : s.bs.getD j 0 = s.bs[j] := by simp [hj]
  obtain rfl | rfl | rfl | rfl | rfl | rfl | rfl : j = 0 ∨ j = 1 ∨ j = 2 ∨ j = 3 ∨ j = 4 ∨ j = 5 ∨ j = 6 := by omega
  all_goals rw [← hg]
  all_goals simp [gk, F8.arr, F8.c]
theorem exec_sliceT {a : Act} {o : Oper} {x y : Operand} {v u lo : Value} (ho : o.op = .slice 47 x (some y) none none) (hx : a.eval x = v) (hy : a.eval y = lo) (hr : ∀ W, (Instr.sliceAt 47 v (some lo) none none).run Tryz.prog W = .ok u W) (w : World) : (execOp a.eval o).run Tryz.prog w = .ok (.value u) w := by
  have hr := hr w
  unfold execOp
  simp only [ho, hx, hy, Option.map_some, Option.map_none, Sem.run_bind, hr, Result.andThen_ok, Sem.run_pure]
theorem exec_sub8 {a : Act} {o : Oper} {x y : Operand} {t tv : Nat} (ho : o.op = .binOp .sub 5 x y 5) (hx : a.eval x = .int .u8 1) (hy : a.eval y = .int .u8 (t : Int)) (h : IntKind.u8.wrap ((1 : Int) - (t : Int)) = (tv : Int)) (w : World) : (execOp a.eval o).run Tryz.prog w = .ok (.value (.int .u8 (tv : Int))) w := by
  unfold execOp
  simp only [ho, hx, hy]
  simp [go_sem, run_underlying Tryz.underlying5, h]
theorem store_u8 (w : World) (b k : Nat) (v : Int) (u : Value) (hc : w.cell? ⟨b, k, none⟩ = some u) (hz : w.frozen? ⟨b, k, none⟩ = false) : (storeVar 5 ⟨b, k, none⟩ (.int .u8 v)).run Tryz.prog w = .ok () (w.setCell ⟨b, k, none⟩ (.int .u8 v)) := by
  simp [storeVar, isAgg, run_underlying Tryz.underlying5, go_sem, hc, hz]
theorem mf_cell {T E k z : Nat} {its : List Im} {q f : F8} {s : Ss} {ao : Option Addr} {cp : Nat} {V x y : World} (h : Mf T E k its q s ao cp V x) (hq : Qb z f x) (hz : V.heap.size ≤ z ∧ T ≠ z ∧ k ≠ z ∧ k + 1 ≠ z) (KB : Kp [z] x y) : Mf T E k its q s ao cp V y := by
  have hne : ∀ (b : Nat) (A' : Array Value) (U : TypeId) (fr : Nat × Nat), x.heap[b]? = some (Obj.cells A' U fr) → U ≠ 32 → y.heap[b]? = x.heap[b]? := fun b A' U fr hb hU => KB.block b (Array.getElem?_eq_some_iff.1 hb).1 (by
    rw [List.mem_singleton]
    rintro rfl
    rw [show x.heap[b]? = some (.cells f.arr 32 (0, 0)) from hq] at hb
    injection hb with hb
    injection hb with _ hb2
    exact hU hb2.symm)
  refine ⟨?_, (KB.block _ h.head.lt (by simp; exact hz.2.1)).trans h.head, (KB.block _ h.fr.lt (by simp; exact hz.2.2.1)).trans h.fr, (KB.block _ h.an.lt (by simp; exact hz.2.2.2)).trans h.an, h.kp.fresh KB (fun b hb => .inr (by simp at hb; rw [hb]; exact hz.1))⟩
  obtain ⟨vL, vV, hr⟩ := h.rd
  exact ⟨vL, vV, (hne _ _ _ _ hr.head (by decide)).trans hr.head, hr.rowL.same KB.size (fun b A' fr _ h1 => hne _ _ _ _ h1 (by decide)), hr.rowV.same KB.size (fun b A' fr _ h1 => hne _ _ _ _ h1 (by decide))⟩
theorem Mf.setB2 {T E k n : Nat} {its : List Im} {q : F8} {s : Ss} {ao ap : Option Addr} {cp cq : Nat} {V x : World} (h : Mf T E k its q s ao cp V x) (l : List UInt8) (hl : l.length = n) (hT : T < k) : Mf T E k its q { s with bs := l } ap cq V (x.setCell ⟨T, 5, none⟩ (.slice ap n cq)) := by
  subst hl
  exact h.setB l hT
theorem Mf.setT {T E k : Nat} {its : List Im} {q : F8} {s : Ss} {ao : Option Addr} {cp : Nat} {V x : World} (h : Mf T E k its q s ao cp V x) (t : Nat) (hT : T < k) : Mf T E k its q { s with tn := t } ao cp V (x.setCell ⟨T, 4, none⟩ (.int .u8 (t : Int))) := by
  have KB := Kp.cell1 x T 4 (.int .u8 (t : Int))
  refine ⟨?_, ?_, (KB.block _ h.fr.lt (by simp; omega)).trans h.fr, (KB.block _ h.an.lt (by simp; omega)).trans h.an, h.kp.trans KB⟩
  · obtain ⟨vL, vV, hd⟩ := h.rd
    exact ⟨vL, vV, hd.kpT h.head KB⟩
  · have h9 : x.heap[T]? = some (.cells (dsC E s ao cp).toArray 85 (0, 0)) := h.head
    unfold Db
    simp [World.setCell, Array.getElem?_modify, h9, dsC, szI]
section
variable {T E : Nat} {s : Ss} {ao : Option Addr} {cp : Nat} {its : List Im} {w : World}
set_option maxHeartbeats 32000000 in
theorem gives_any (h : Dv T E its s ao cp w) (q : F8) : Calls Tryz.prog 71 #[.pointer (some ⟨T, 0, none⟩), .agg q.arr] w (DPost T E ao (telO its s q) w) := by
  obtain ⟨W, hW⟩ : ∃ W, w.alloc (.cells q.arr 32) = W := ⟨_, rfl⟩
  obtain ⟨k, hk⟩ : ∃ k, w.heap.size = k := ⟨_, rfl⟩
  have hWs : W.heap.size = k + 1 := by rw [← hW, size_alloc, hk]
  have b0 : Below w.heap.size w (W.alloc (.cells zA8 32)) := (hW ▸ (Below.refl _ _).alloc (Nat.le_refl _) _).alloc (by rw [hWs, hk]; omega) _
  have q0 : Qb k q (W.alloc (.cells zA8 32)) := (Lib.alloc_old W _ k (by omega)).trans (by rw [← hk, ← hW]; exact Qb.new w q)
  have r0 : Qb (k + 1) F8.nul (W.alloc (.cells zA8 32)) := by rw [← hWs]; exact heap_alloc_new W _
  have h0 := h.below b0
  have hTk : T < k := by rw [← hk]; exact h.head.lt
  have hET := h.et
  have hok := h.ok
  have HLW := hidOf2 (show ∀ b ∈ blk ao, b < k from fun b hb => by rw [← hk]; exact h.lt b hb)
  have HB0 := hidOf2 b0
  obtain ⟨EE, hEE⟩ : ∃ e, DPost T E ao (telO its s q) w = e := ⟨_, rfl⟩
  have HRP : Hid (∀ O, telO its s q = O → ∀ e w', DPost T E ao O w e w' → EE e w') := fun O hO e w' hh => by rw [← hEE, hO]; exact hh
  rw [hEE]
  have hb0 := q.b0.toNat_lt
  have hcap := hidOf2 h.cap
  clear h hEE b0
  obtain ⟨V, hV⟩ : ∃ V, W.alloc (.cells zA8 32) = V := ⟨_, rfl⟩
  have hVs : V.heap.size = k + 2 := by rw [← hV, size_alloc, hWs]
  rw [hV] at q0 r0 HB0 h0
  have HH0 := hidOf2 h0
  obtain ⟨cT0, cT1, cT2, cT3, cT4, cT5, cT6⟩ := h0.head.c
  have c00 := q0.c0
  have HR0 := hidOf2 r0
  have HQ0 := hidOf2 q0
  clear h0 q0 r0
  go_enter Tryz.func71, Tryz.ntmps71
  go_upto_region 1 with fail
  change Code.wp Tryz.prog _ _ _ (W.alloc (.cells zA8 32))
  rw [hV]
  by_cases hdn : s.dn = 2
  · have e1 : ((s.dn : Int) != 2) = false := by simp; omega
    have hLq := Later.some V
    have k0 : ∀ x : Later V, x.now.cell? ⟨k, 0, none⟩ = some (.int .u8 (q.b0.toNat : Int)) := fun x => (HQ0.out.below x.below).c0
    have k4 : ∀ x : Later V, x.now.cell? ⟨T, 4, none⟩ = some (.int .u8 (s.tn : Int)) := fun x => (HH0.out.head.below x.below).c.2.2.2.2.1
    obtain ⟨bv, hbv⟩ : ∃ n, q.b0.toNat = n := ⟨_, rfl⟩
    rw [hbv] at k0 c00 hb0
    go_upto_region 3 with fail
    by_cases ht : bv / 16 % 2 ≠ s.tn
    · have hto : telO its s q = (.bad s.ix s.sb 84082688, its, Ss.nul) := by unfold telO; rw [if_neg (by simp [hdn]), if_pos (by rw [hbv]; exact ht)]
      have e2 : (((bv : Int) / 16 % 2) != (s.tn : Int)) = true := by simp; omega
      refine wp_region_later (by kernel_rfl) (by kernel_rfl) ?_
      repeat (go_big_quiet_step (fail))
      refine wpQuiet_nil ?_
      rintro _ ⟨x1, rfl⟩
      obtain ⟨Z, hZ⟩ : ∃ z, x1.now = z := ⟨_, rfl⟩
      have DZ := hidOf2 (HH0.out.below x1.below)
      have RZ := hidOf2 (HR0.out.below x1.below)
      have BZ := hidOf2 (HB0.out.trans (x1.below.mono HB0.out.size))
      rw [hZ] at DZ RZ BZ ⊢
      have hE := ends_any DZ.out.head 84082688 hok.ix hok.sb (by decide)
      clear k0 k4 hLq cT0 cT1 cT2 cT3 cT4 cT5 cT6 c00
      go_wp2_with fail
      refine hE.mono ?_
      rintro e w7 ⟨rfl, d7, K7⟩
      have r7 : Qb (k + 1) F8.nul w7 := (K7.block _ RZ.out.lt (by simp; omega)).trans RZ.out
      have r8 := r7.row (frm 128 s.ix s.sb 84082688)
      have r7l := r7.lt
      have HZ : Hid (Dv T E its Ss.nul none 0 (w7.setRow (k + 1) (frm 128 s.ix s.sb 84082688).arr) ∧ Kp [T, E] w (w7.setRow (k + 1) (frm 128 s.ix s.sb 84082688).arr)) := by
        obtain ⟨vL, vV, hr⟩ := DZ.out.rd
        exact ⟨Dv.nul ⟨vL, vV, (hr.kpT DZ.out.head K7).row r7 _⟩ ((setRow_other _ _ _ _ (by omega)).trans d7) hET DZ.out.len DZ.out.oks DZ.out.nod, ((Kp.of_below (bs := [T, E]) BZ.out).fresh K7 (fun b hb => .inl (by simp at hb; simp [hb]))).fresh (Kp.setRow1 _ _ _) (fun b hb => .inr (by simp at hb; omega))⟩
      clear hE d7 K7 HH0 HR0 HQ0 HB0
      go_wp2_with (first | (refine sdF (g := frm 128 s.ix s.sb 84082688) r7 rfl _ _ rfl rfl rfl ?_))
      exact bodyPost_ret (gs_results r8 _ rfl) rfl (HRP.out _ hto _ _ ⟨rfl, none, 0, HZ.out.1, HZ.out.2, fun b hb => by simp [blk] at hb⟩)
    · have hto9 : telO its s q = (.ok (told s), its, if s.bs.length ≤ 7 then Ss.nul else { s with bs := s.bs.drop 7, tn := 1 - s.tn }) := by unfold telO; rw [if_neg (by simp [hdn]), if_neg (by rw [hbv]; exact ht)]
      have HTO := hidOf2 hto9
      have e2 : (((bv : Int) / 16 % 2) != (s.tn : Int)) = false := by simp at ht ⊢; omega
      clear hto9
      refine wp_region_later (by kernel_rfl) (by kernel_rfl) ?_
      repeat (go_big_quiet_step (fail))
      refine wpQuiet_nil ?_
      rintro _ ⟨x1, rfl⟩
      obtain ⟨Z, hZ⟩ : ∃ z, x1.now = z := ⟨_, rfl⟩
      have DZ := hidOf2 (HH0.out.below x1.below)
      have RZ := hidOf2 (HR0.out.below x1.below)
      have QZ := hidOf2 (HQ0.out.below x1.below)
      have BZ := hidOf2 x1.below
      rw [hZ] at DZ RZ BZ QZ ⊢
      clear k0 k4 hLq cT0 cT1 cT2 cT3 cT4 cT5 cT6 c00
      have HBV := hidOf2 HH0.out.by_
      have HFA := hidOf2 HH0.out.far
      have HBY : Hid (∀ x, Mf T E k its q s ao cp V x → Bytes x (.slice ao s.bs.length cp) s.bs) := fun x hx => bytes_same HBV.out hx.kp.size (fun b hb hl => hx.kp.block b hl (by have := HFA.out b ((own_blk _ _ _ _).1 hb); simp; omega))
      obtain ⟨z, hz⟩ : ∃ z, Z.heap.size = z := ⟨_, rfl⟩
      have hzV : V.heap.size ≤ z ∧ T ≠ z ∧ k ≠ z ∧ k + 1 ≠ z := by have := BZ.out.size; omega
      have y1 : Qb z F8.nul (Z.alloc (.cells zA8 32)) := by rw [← hz]; exact heap_alloc_new Z _
      have ba : Below Z.heap.size Z (Z.alloc (.cells zA8 32)) := (Below.refl _ _).alloc (Nat.le_refl _) _
      have MA : Mf T E k its q s ao cp V (Z.alloc (.cells zA8 32)) := (⟨DZ.out.rd, DZ.out.head, QZ.out, RZ.out, Kp.of_below BZ.out⟩ : Mf T E k its q s ao cp V Z).below ba
      have MB := mf_cell MA y1 hzV (Kp.setRow1 _ z F8.nul.arr)
      have y2 : Qb z (gk s 0) ((Z.alloc (.cells zA8 32)).setRow z F8.nul.arr) := y1.row F8.nul
      have Hy : Hid (∀ X, X = (Z.alloc (.cells zA8 32)).setRow z F8.nul.arr → Qb z (gk s 0) X ∧ Mf T E k its q s ao cp V X) := fun X hX => by subst hX; exact ⟨y2, MB⟩
      clear y2 MB MA ba
      go_upto_region 6 with (first | (refine sdF (g := F8.nul) y1 rfl _ _ rfl rfl rfl ?_))
      change Code.wp Tryz.prog _ _ _ ((Z.alloc (.cells zA8 32)).setRow z F8.nul.arr)
      generalize hX : (Z.alloc (.cells zA8 32)).setRow z F8.nul.arr = X
      obtain ⟨y3, MX0⟩ := Hy.out X hX.symm
      have HY3 := hidOf2 y3
      have MX := hidOf2 MX0
      clear Hy hX y1 y3 MX0 DZ RZ QZ BZ
      obtain ⟨nn, hnn⟩ : ∃ n, s.bs.length = n := ⟨_, rfl⟩
      have hT1 := hok.tn
      obtain ⟨T0, hT0⟩ : ∃ m, 16 * s.tn = m := ⟨_, rfl⟩
      obtain ⟨tv, htv⟩ : ∃ n, 1 - s.tn = n := ⟨_, rfl⟩
      have hTl : T0 ≤ 16 := by omega
      have hmul : (16 : Int) * (s.tn : Int) = (T0 : Int) := by omega
      have hsub8 : IntKind.u8.wrap ((1 : Int) - (s.tn : Int)) = (tv : Int) := by
        have : (1 : Int) - (s.tn : Int) = (tv : Int) := by omega
        rw [this]
        simp [IntKind.wrap, IntKind.bits, IntKind.signed]
        omega
      go_wp2_with fail
      go_loopw [6] (fun i x => ∃ j : Nat, j ≤ 7 ∧ j ≤ nn ∧ i = .int .i64 j ∧ Hid (Qb z (gk s j) x) ∧ Hid (Kp [z] X x)) (fun i _ => 7 - (intOf i).toNat)
      case atStart => exact ⟨0, Nat.zero_le _, Nat.zero_le _, rfl, HY3, Kp.refl _ _⟩
      case round =>
        obtain ⟨j, hj7, hjn, rfl, HQ, HK⟩ := hrel
        have Mr := mf_cell MX.out HY3.out hzV HK.out
        obtain ⟨cT0, cT1, cT2, cT3, cT4, cT5, cT6⟩ := Mr.head.c
        rw [hnn] at cT5
        have HMR := hidOf2 Mr
        clear Mr
        by_cases h7 : j < 7
        · by_cases hjl : j < nn
          · have hjb : j < s.bs.length := by omega
            obtain ⟨ao', cap', hv', h00, hcell⟩ := HBY.out _ HMR.out
            injection hv' with g1 _ g3
            obtain ⟨bb, off, ha, hlt, hcj⟩ := hcell j hjb
            rw [ha] at g1
            subst g1
            have HN : Hid (∀ Y, Y = wr.setCell ⟨z, 1 + j, none⟩ (.int .u8 (s.bs[j].toNat : Int)) → Qb z (gk s (j + 1)) Y ∧ Kp [z] X Y) := fun Y hY => by
              subst hY
              exact ⟨HQ.out.set (1 + j) _ (gk_step s j hjb h7), HK.out.trans (Kp.cell1 wr z (1 + j) _)⟩
            obtain ⟨vz, hvz⟩ := HQ.out.any8 (1 + j) (by omega)
            have hzz := HQ.out.zz (1 + j)
            have hlt8 := s.bs[j].toNat_lt
            obtain ⟨lv, hlv⟩ : ∃ v, s.bs[j].toNat = v := ⟨_, rfl⟩
            rw [hlv] at hcj HN hlt8
            clear hlv hcell h00 hjb HMR
            have HJN := hidOf2 hjl
            rcases (show j = 0 ∨ j = 1 ∨ j = 2 ∨ j = 3 ∨ j = 4 ∨ j = 5 ∨ j = 6 by omega) with rfl | rfl | rfl | rfl | rfl | rfl | rfl
            all_goals
              first | rw [show ((0 : Nat) : Int) = 0 from rfl] | rw [show ((1 : Nat) : Int) = 1 from rfl] | rw [show ((2 : Nat) : Int) = 2 from rfl] | rw [show ((3 : Nat) : Int) = 3 from rfl] | rw [show ((4 : Nat) : Int) = 4 from rfl] | rw [show ((5 : Nat) : Int) = 5 from rfl] | rw [show ((6 : Nat) : Int) = 6 from rfl]
              try simp only [Nat.reduceAdd, Nat.add_zero] at hvz hzz HN hcj
              go_wp2
              go_roundw
              case rel =>
                obtain ⟨n1, n2⟩ := HN.out _ rfl
                exact ⟨_, (by omega), (by have := HJN.out; omega), by go_num, n1, n2⟩
              case measure => simp [intOf]
          · obtain hc | hc | hc | hc | hc | hc | hc : nn = 0 ∨ nn = 1 ∨ nn = 2 ∨ nn = 3 ∨ nn = 4 ∨ nn = 5 ∨ nn = 6 := by omega
            · subst hc
              obtain rfl : j = 0 := by omega
              rw [show ((0 : Nat) : Int) = 0 from rfl]
              have hn0 : s.bs.length = 0 := by omega
              have hgk := gk_end s 0 (by omega) (by omega)
              rw [hgk] at HQ
              have M3 := hidOf2 (mf_cell MX.out HY3.out hzV HK.out)
              have x0 := HQ.out.c0
              have z0 := HQ.out.zz 0
              have q5 : Qb z { pn s with b0 := .ofNat (T0 + 14) } (wr.setCell ⟨z, 0, none⟩ (.int .u8 ((T0 : Int) + 14))) := HQ.out.set 0 _ (by
                have : ((UInt8.ofNat (T0 + 14)).toNat : Int) = (T0 : Int) + 14 := by rw [un _ (by omega)] <;> omega
                exact F8.set0 _ _ _ this.symm)
              have M5 := mf_cell M3.out HQ.out hzV (Kp.cell1 wr z 0 (.int .u8 ((T0 : Int) + 14)))
              have B5 : Bytes (wr.setCell ⟨z, 0, none⟩ (.int .u8 ((T0 : Int) + 14))) (.slice ao s.bs.length cp) s.bs := HBY.out _ M5
              obtain ⟨a2, c2, hsl, hB4, hC4, hO4⟩ := bslice_t B5 hcap.out 0 (by omega)
              obtain ⟨w5, hw5⟩ : ∃ x, wr.setCell ⟨z, 0, none⟩ (.int .u8 ((T0 : Int) + 14)) = x := ⟨_, rfl⟩
              rw [hw5] at q5 M5 B5
              obtain ⟨m2, hm2⟩ : ∃ x, s.bs.length - 0 = x := ⟨_, rfl⟩
              rw [hm2] at hsl hB4 hC4 hO4
              obtain ⟨vv, hvv⟩ : ∃ v, Value.slice ao s.bs.length cp = v := ⟨_, rfl⟩
              rw [hvv] at hsl
              change ∀ W, (Instr.sliceAt 47 vv (some (.int .i64 0)) none none).run Tryz.prog W = .ok (.slice a2 m2 c2) W at hsl
              have D5 : Mf T E k its q s ao cp V w5.drew := M5.below (bdr (Below.refl _ w5) 1)
              have kB : w5.drew.cell? ⟨T, 5, none⟩ = some vv := by rw [← hvv]; exact D5.head.c.2.2.2.2.2.1
              have zB := D5.head.zz 5
              have lB : (loadVar 47 ⟨T, 5, none⟩).run Tryz.prog w5.drew = .ok vv w5.drew := by rw [← hvv]; exact load_bytes _ _ _ _ _ _ D5.head.c.2.2.2.2.2.1
              have kT := D5.head.c.2.2.2.2.1
              have kT2 : (w5.drew.setCell ⟨T, 5, none⟩ (.slice a2 m2 c2)).cell? ⟨T, 4, none⟩ = some (.int .u8 (s.tn : Int)) := (D5.setB2 (n := m2) (ap := a2) (cq := c2) (s.bs.drop 0) (by rw [List.length_drop]; exact hm2) hTk).head.c.2.2.2.2.1
              have zT2 := (D5.setB2 (n := m2) (ap := a2) (cq := c2) (s.bs.drop 0) (by rw [List.length_drop]; exact hm2) hTk).head.zz 4
              have M6 := hidOf2 ((D5.setB2 (n := m2) (ap := a2) (cq := c2) (s.bs.drop 0) (by rw [List.length_drop]; exact hm2) hTk).setT tv hTk)
              have q6 : Qb z { pn s with b0 := .ofNat (T0 + 14) } ((w5.drew.setCell ⟨T, 5, none⟩ (.slice a2 m2 c2)).setCell ⟨T, 4, none⟩ (.int .u8 (tv : Int))) := ((q5.below (bdr (Below.refl _ w5) 1)).other (by show z ≠ T; omega) _).other (by show z ≠ T; omega) _
              have HQ6 := hidOf2 q6
              have HM5 := hidOf2 M5
              clear hgk M3 q5 q6 M5 B5 hvv HK HQ HY3 MX
              go_upto_region 10 with fail
              refine wp_cut (α := Nat) (fun u y => y = (w5.drew.setCell ⟨T, 5, none⟩ (.slice a2 m2 c2)).setCell ⟨T, 4, none⟩ (.int .u8 (tv : Int))) (fun a u => (((((((((((((((((a.put (some 59) (.pointer (some ⟨T, 0, none⟩))).put (some 60) (.pointer (some ⟨T, 0, none⟩))).put (some 61) (.pointer (some ⟨T, 0, none⟩))).put (some 62) (.pointer (some ⟨T, 0, none⟩))).put (some 63) (.pointer (some ⟨T, 5, none⟩))).put (some 64) (vv)).put (some 65) (.int .i64 0)).put (some 66) (.slice a2 m2 c2)).put (some 67) (.pointer (some ⟨T, 0, none⟩))).put (some 68) (.pointer (some ⟨T, 0, none⟩))).put (some 69) (.pointer (some ⟨T, 4, none⟩))).put (some 70) (.int .u8 (s.tn : Int))).put (some 71) (.int .u8 (tv : Int))).put (some 72) (.pointer (some ⟨T, 0, none⟩))).put (some 73) (.pointer (some ⟨T, 5, none⟩))).put (some 74) (.pointer (some ⟨T, 0, none⟩))).put (some 75) (.pointer (some ⟨T, 4, none⟩)))) ?_ ?_
              · refine wp_region_held (S := fun _ => True) (by kernel_rfl) ?_
                change wpAnyH _ _ _ _ _ _ _ _ w5.drew
                refine tk 0 (.pointer (some ⟨T, 0, none⟩)) rfl (by kernel_rfl) (fun _ _ _ h => nomatch h.1) rfl (fun _ hS => rfl) trivial ?_
                simp only [zzA, zzB, zzC, Act.put, zzD, zzE, zzF]
                refine tk 1 (.pointer (some ⟨T, 0, none⟩)) rfl (by kernel_rfl) (fun _ _ _ h => nomatch h.1) rfl (fun _ hS => rfl) trivial ?_
                simp only [zzA, zzB, zzC, Act.put, zzD, zzE, zzF]
                refine tk 2 (.pointer (some ⟨T, 0, none⟩)) rfl (by kernel_rfl) (fun _ _ _ h => nomatch h.1) rfl (fun _ hS => rfl) trivial ?_
                simp only [zzA, zzB, zzC, Act.put, zzD, zzE, zzF]
                refine tk 3 (.pointer (some ⟨T, 0, none⟩)) rfl (by kernel_rfl) (fun _ _ _ h => nomatch h.1) rfl (fun _ hS => by simp [execOp, go_sem, Act.eval]) trivial ?_
                simp only [zzA, zzB, zzC, Act.put, zzD, zzE, zzF]
                refine tk 4 (.pointer (some ⟨T, 5, none⟩)) rfl (by kernel_rfl) (fun _ _ _ h => nomatch h.1) rfl (fun _ hS => by simp [execOp, go_sem, Act.eval]) trivial ?_
                simp only [zzA, zzB, zzC, Act.put, zzD, zzE, zzF]
                refine tk 6 (.int .i64 0) rfl (by kernel_rfl) (fun _ _ _ h => nomatch h.1) rfl (fun _ hS => rfl) trivial ?_
                simp only [zzA, zzB, zzC, Act.put, zzD, zzE, zzF]
                refine tk 8 (.pointer (some ⟨T, 0, none⟩)) rfl (by kernel_rfl) (fun _ _ _ h => nomatch h.1) rfl (fun _ hS => rfl) trivial ?_
                simp only [zzA, zzB, zzC, Act.put, zzD, zzE, zzF]
                refine tk 9 (.pointer (some ⟨T, 0, none⟩)) rfl (by kernel_rfl) (fun _ _ _ h => nomatch h.1) rfl (fun _ hS => by simp [execOp, go_sem, Act.eval]) trivial ?_
                simp only [zzA, zzB, zzC, Act.put, zzD, zzE, zzF]
                refine tk 10 (.pointer (some ⟨T, 4, none⟩)) rfl (by kernel_rfl) (fun _ _ _ h => nomatch h.1) rfl (fun _ hS => by simp [execOp, go_sem, Act.eval]) trivial ?_
                simp only [zzA, zzB, zzC, Act.put, zzD, zzE, zzF]
                refine wpAnyH_all (rs := [5, 11]) (by kernel_rfl) (by simp) ?_
                intro k hk
                simp only [List.mem_cons, List.mem_nil_iff, or_false] at hk
                rcases hk with rfl | rfl
                · refine wpOp_run rfl rfl (wp_ldG lB _ rfl rfl ?_)
                  refine ⟨trivial, ?_⟩
                  simp only [zzA, zzB, zzC, Act.put, zzD, zzE, zzF]
                  refine tk 7 (.slice a2 m2 c2) rfl (by kernel_rfl) (fun _ _ _ h => nomatch h.1) rfl (fun _ hS => exec_sliceT (v := vv) (lo := .int .i64 0) rfl rfl rfl hsl _) trivial ?_
                  simp only [zzA, zzB, zzC, Act.put, zzD, zzE, zzF]
                  refine wpAnyH_all (rs := [11]) (by kernel_rfl) (by simp) ?_
                  intro k hk
                  simp only [List.mem_cons, List.mem_nil_iff, or_false] at hk
                  subst hk
                  refine wpOp_run rfl rfl (wp_ldG (load_u8 _ _ _ _ kT) _ rfl rfl ?_)
                  refine ⟨trivial, ?_⟩
                  simp only [zzA, zzB, zzC, Act.put, zzD, zzE, zzF]
                  refine tk 12 (.int .u8 (tv : Int)) rfl (by kernel_rfl) (fun _ _ _ h => nomatch h.1) rfl (fun _ hS => exec_sub8 rfl rfl rfl hsub8 _) trivial ?_
                  simp only [zzA, zzB, zzC, Act.put, zzD, zzE, zzF]
                  refine tk 13 (.pointer (some ⟨T, 0, none⟩)) rfl (by kernel_rfl) (fun _ _ _ h => nomatch h.1) rfl (fun _ hS => by simp [execOp, go_sem, Act.eval]) trivial ?_
                  simp only [zzA, zzB, zzC, Act.put, zzD, zzE, zzF]
                  refine tk 14 (.pointer (some ⟨T, 5, none⟩)) rfl (by kernel_rfl) (fun _ _ _ h => nomatch h.1) rfl (fun _ hS => by simp [execOp, go_sem, Act.eval]) trivial ?_
                  simp only [zzA, zzB, zzC, Act.put, zzD, zzE, zzF]
                  refine wpAnyH_all (rs := [15]) (by kernel_rfl) (by simp) ?_
                  intro k hk
                  simp only [List.mem_cons, List.mem_nil_iff, or_false] at hk
                  subst hk
                  refine wpOp_run rfl rfl (wp_store_cell 47 _ _ rfl T 5 rfl (.slice a2 m2 c2) rfl (store_bytes _ T 5 _ _ _ _ kB zB) ?_)
                  refine ⟨trivial, ?_⟩
                  simp only [zzA, zzB, zzC, Act.put, zzD, zzE, zzF]
                  refine tk 16 (.pointer (some ⟨T, 0, none⟩)) rfl (by kernel_rfl) (fun _ _ _ h => nomatch h.1) rfl (fun _ hS => by simp [execOp, go_sem, Act.eval]) trivial ?_
                  simp only [zzA, zzB, zzC, Act.put, zzD, zzE, zzF]
                  refine tk 17 (.pointer (some ⟨T, 4, none⟩)) rfl (by kernel_rfl) (fun _ _ _ h => nomatch h.1) rfl (fun _ hS => by simp [execOp, go_sem, Act.eval]) trivial ?_
                  simp only [zzA, zzB, zzC, Act.put, zzD, zzE, zzF]
                  refine wpAnyH_all (rs := [18]) (by kernel_rfl) (by simp) ?_
                  intro k hk
                  simp only [List.mem_cons, List.mem_nil_iff, or_false] at hk
                  subst hk
                  refine wpOp_run rfl rfl (wp_store_cell 5 _ _ rfl T 4 rfl (.int .u8 (tv : Int)) rfl (store_u8 _ T 4 _ _ kT2 zT2) ?_)
                  refine ⟨trivial, ?_⟩
                  simp only [zzA, zzB, zzC, Act.put, zzD, zzE, zzF]
                  refine wpAnyH_done (by kernel_rfl) ?_ _
                  exact ⟨rfl, 0, rfl, rfl⟩
                · refine wpOp_run rfl rfl (wp_ldG (load_u8 _ _ _ _ kT) _ rfl rfl ?_)
                  refine ⟨trivial, ?_⟩
                  simp only [zzA, zzB, zzC, Act.put, zzD, zzE, zzF]
                  refine tk 12 (.int .u8 (tv : Int)) rfl (by kernel_rfl) (fun _ _ _ h => nomatch h.1) rfl (fun _ hS => exec_sub8 rfl rfl rfl hsub8 _) trivial ?_
                  simp only [zzA, zzB, zzC, Act.put, zzD, zzE, zzF]
                  refine wpAnyH_all (rs := [5]) (by kernel_rfl) (by simp) ?_
                  intro k hk
                  simp only [List.mem_cons, List.mem_nil_iff, or_false] at hk
                  subst hk
                  refine wpOp_run rfl rfl (wp_ldG lB _ rfl rfl ?_)
                  refine ⟨trivial, ?_⟩
                  simp only [zzA, zzB, zzC, Act.put, zzD, zzE, zzF]
                  refine tk 7 (.slice a2 m2 c2) rfl (by kernel_rfl) (fun _ _ _ h => nomatch h.1) rfl (fun _ hS => exec_sliceT (v := vv) (lo := .int .i64 0) rfl rfl rfl hsl _) trivial ?_
                  simp only [zzA, zzB, zzC, Act.put, zzD, zzE, zzF]
                  refine tk 13 (.pointer (some ⟨T, 0, none⟩)) rfl (by kernel_rfl) (fun _ _ _ h => nomatch h.1) rfl (fun _ hS => by simp [execOp, go_sem, Act.eval]) trivial ?_
                  simp only [zzA, zzB, zzC, Act.put, zzD, zzE, zzF]
                  refine tk 14 (.pointer (some ⟨T, 5, none⟩)) rfl (by kernel_rfl) (fun _ _ _ h => nomatch h.1) rfl (fun _ hS => by simp [execOp, go_sem, Act.eval]) trivial ?_
                  simp only [zzA, zzB, zzC, Act.put, zzD, zzE, zzF]
                  refine wpAnyH_all (rs := [15]) (by kernel_rfl) (by simp) ?_
                  intro k hk
                  simp only [List.mem_cons, List.mem_nil_iff, or_false] at hk
                  subst hk
                  refine wpOp_run rfl rfl (wp_store_cell 47 _ _ rfl T 5 rfl (.slice a2 m2 c2) rfl (store_bytes _ T 5 _ _ _ _ kB zB) ?_)
                  refine ⟨trivial, ?_⟩
                  simp only [zzA, zzB, zzC, Act.put, zzD, zzE, zzF]
                  refine tk 16 (.pointer (some ⟨T, 0, none⟩)) rfl (by kernel_rfl) (fun _ _ _ h => nomatch h.1) rfl (fun _ hS => by simp [execOp, go_sem, Act.eval]) trivial ?_
                  simp only [zzA, zzB, zzC, Act.put, zzD, zzE, zzF]
                  refine tk 17 (.pointer (some ⟨T, 4, none⟩)) rfl (by kernel_rfl) (fun _ _ _ h => nomatch h.1) rfl (fun _ hS => by simp [execOp, go_sem, Act.eval]) trivial ?_
                  simp only [zzA, zzB, zzC, Act.put, zzD, zzE, zzF]
                  refine wpAnyH_all (rs := [18]) (by kernel_rfl) (by simp) ?_
                  intro k hk
                  simp only [List.mem_cons, List.mem_nil_iff, or_false] at hk
                  subst hk
                  refine wpOp_run rfl rfl (wp_store_cell 5 _ _ rfl T 4 rfl (.int .u8 (tv : Int)) rfl (store_u8 _ T 4 _ _ kT2 zT2) ?_)
                  refine ⟨trivial, ?_⟩
                  simp only [zzA, zzB, zzC, Act.put, zzD, zzE, zzF]
                  refine wpAnyH_done (by kernel_rfl) ?_ _
                  exact ⟨rfl, 0, rfl, rfl⟩
              intro u y hI
              simp only [Act.put, List.setIfInBounds_toArray, List.set_cons_succ, List.set_cons_zero]
              rw [← hI] at M6 HQ6
              clear hI kB zB kT kT2 zT2 D5 hsl lB
              obtain ⟨cT0, cT1, cT2, cT3, cT4, cT5, cT6⟩ := M6.out.head.c
              have x6 := HQ6.out.c0
              have z6 := HQ6.out.zz 0
              have e60 : (({ pn s with b0 := .ofNat (T0 + 14) } : F8).b0.toNat : Int) = (T0 : Int) + 14 := by show ((UInt8.ofNat (T0 + 14)).toNat : Int) = _; rw [un _ (by omega)] <;> omega
              rw [e60] at x6
              have cT5' : y.cell? ⟨T, 5, none⟩ = some (.slice a2 m2 c2) := by
                have h9 : y.cell? ⟨T, 5, none⟩ = some (.slice a2 (s.bs.drop 0).length c2) := cT5
                rw [List.length_drop, hm2] at h9
                exact h9
              clear cT5
              clear e60 x0 z0
              have hm0 : m2 = 0 := by omega
              subst hm0
              have q7 : Qb z (told s) (y.setCell ⟨z, 0, none⟩ (.int .u8 ((T0 : Int) + 15))) := HQ6.out.set 0 _ (by
                have h1 : ((UInt8.ofNat (T0 + 15)).toNat : Int) = (T0 : Int) + 15 := by rw [un _ (by omega)] <;> omega
                have h2 : told s = { pn s with b0 := .ofNat (T0 + 15) } := by unfold told pn; rw [hn0, hT0]; rfl
                rw [h2]
                exact F8.set0 _ _ _ h1.symm)
              have M7 := mf_cell M6.out HQ6.out hzV (Kp.cell1 y z 0 (.int .u8 ((T0 : Int) + 15)))
              have hadd1 : (T0 : Int) + 14 + 1 = (T0 : Int) + 15 := by omega
              obtain ⟨w7, hw7⟩ : ∃ x, y.setCell ⟨z, 0, none⟩ (.int .u8 ((T0 : Int) + 15)) = x := ⟨_, rfl⟩
              rw [hw7] at q7 M7
              have hRs := Rests_any M7.head
              have HTO2 := hidOf2 (show telO its s q = (.ok (told s), its, Ss.nul) from by rw [HTO.out, if_pos (by omega)])
              have HM7 := hidOf2 M7
              have HQ7 := hidOf2 q7
              have o9 : IntKind.u8.wrap ((T0 : Int) + 14 + 1) = (T0 : Int) + 15 := by simp [IntKind.wrap, IntKind.bits, IntKind.signed]; omega
              clear M7 q7 M6 HQ6 cT0 cT1 cT2 cT3 cT4 cT6 hadd1
              go_wp2_with fail
              refine hRs.mono ?_
              rintro e w8 ⟨rfl, d8, K8⟩
              have q8 : Qb z (told s) w8 := (K8.block _ HQ7.out.lt (by simp; omega)).trans HQ7.out
              have r8 : Qb (k + 1) F8.nul w8 := (K8.block _ HM7.out.an.lt (by simp; omega)).trans HM7.out.an
              have l8 := q8.load
              have r9 := r8.row (told s)
              have r8l := r8.lt
              have HZ : Hid (Dv T E its Ss.nul none 0 (w8.setRow (k + 1) (told s).arr) ∧ Kp [T, E] w (w8.setRow (k + 1) (told s).arr)) := by
                obtain ⟨vL, vV, hr⟩ := HM7.out.rd
                exact ⟨Dv.nul ⟨vL, vV, (hr.kpT HM7.out.head K8).row r8 _⟩ ((setRow_other _ _ _ _ (by omega)).trans d8) hET HH0.out.len HH0.out.oks HH0.out.nod, (((Kp.of_below (bs := [T, E]) HB0.out).fresh HM7.out.kp (fun b hb => .inl (by simp at hb; simp [hb]))).fresh K8 (fun b hb => .inl (by simp at hb; simp [hb]))).fresh (Kp.setRow1 _ _ _) (fun b hb => .inr (by simp at hb; omega))⟩
              clear hRs d8 K8 HM7 HQ7
              go_wp2_with (first | (refine ldG l8 rfl _ rfl rfl ?_) | (refine sdF (g := told s) r8 rfl _ _ rfl rfl rfl ?_))
              exact bodyPost_ret (gs_results r9 _ rfl) rfl (HRP.out _ HTO2.out _ _ ⟨rfl, none, 0, HZ.out.1, HZ.out.2, fun b hb => by simp [blk] at hb⟩)
            · subst hc
              obtain rfl : j = 1 := by omega
              rw [show ((1 : Nat) : Int) = 1 from rfl]
              have hn0 : s.bs.length = 1 := by omega
              have hgk := gk_end s 1 (by omega) (by omega)
              rw [hgk] at HQ
              have M3 := hidOf2 (mf_cell MX.out HY3.out hzV HK.out)
              have x0 := HQ.out.c0
              have z0 := HQ.out.zz 0
              have q5 : Qb z { pn s with b0 := .ofNat (T0 + 12) } (wr.setCell ⟨z, 0, none⟩ (.int .u8 ((T0 : Int) + 12))) := HQ.out.set 0 _ (by
                have : ((UInt8.ofNat (T0 + 12)).toNat : Int) = (T0 : Int) + 12 := by rw [un _ (by omega)] <;> omega
                exact F8.set0 _ _ _ this.symm)
              have M5 := mf_cell M3.out HQ.out hzV (Kp.cell1 wr z 0 (.int .u8 ((T0 : Int) + 12)))
              have B5 : Bytes (wr.setCell ⟨z, 0, none⟩ (.int .u8 ((T0 : Int) + 12))) (.slice ao s.bs.length cp) s.bs := HBY.out _ M5
              obtain ⟨a2, c2, hsl, hB4, hC4, hO4⟩ := bslice_t B5 hcap.out 1 (by omega)
              obtain ⟨w5, hw5⟩ : ∃ x, wr.setCell ⟨z, 0, none⟩ (.int .u8 ((T0 : Int) + 12)) = x := ⟨_, rfl⟩
              rw [hw5] at q5 M5 B5
              obtain ⟨m2, hm2⟩ : ∃ x, s.bs.length - 1 = x := ⟨_, rfl⟩
              rw [hm2] at hsl hB4 hC4 hO4
              obtain ⟨vv, hvv⟩ : ∃ v, Value.slice ao s.bs.length cp = v := ⟨_, rfl⟩
              rw [hvv] at hsl
              change ∀ W, (Instr.sliceAt 47 vv (some (.int .i64 1)) none none).run Tryz.prog W = .ok (.slice a2 m2 c2) W at hsl
              have D5 : Mf T E k its q s ao cp V w5.drew := M5.below (bdr (Below.refl _ w5) 1)
              have kB : w5.drew.cell? ⟨T, 5, none⟩ = some vv := by rw [← hvv]; exact D5.head.c.2.2.2.2.2.1
              have zB := D5.head.zz 5
              have lB : (loadVar 47 ⟨T, 5, none⟩).run Tryz.prog w5.drew = .ok vv w5.drew := by rw [← hvv]; exact load_bytes _ _ _ _ _ _ D5.head.c.2.2.2.2.2.1
              have kT := D5.head.c.2.2.2.2.1
              have kT2 : (w5.drew.setCell ⟨T, 5, none⟩ (.slice a2 m2 c2)).cell? ⟨T, 4, none⟩ = some (.int .u8 (s.tn : Int)) := (D5.setB2 (n := m2) (ap := a2) (cq := c2) (s.bs.drop 1) (by rw [List.length_drop]; exact hm2) hTk).head.c.2.2.2.2.1
              have zT2 := (D5.setB2 (n := m2) (ap := a2) (cq := c2) (s.bs.drop 1) (by rw [List.length_drop]; exact hm2) hTk).head.zz 4
              have M6 := hidOf2 ((D5.setB2 (n := m2) (ap := a2) (cq := c2) (s.bs.drop 1) (by rw [List.length_drop]; exact hm2) hTk).setT tv hTk)
              have q6 : Qb z { pn s with b0 := .ofNat (T0 + 12) } ((w5.drew.setCell ⟨T, 5, none⟩ (.slice a2 m2 c2)).setCell ⟨T, 4, none⟩ (.int .u8 (tv : Int))) := ((q5.below (bdr (Below.refl _ w5) 1)).other (by show z ≠ T; omega) _).other (by show z ≠ T; omega) _
              have HQ6 := hidOf2 q6
              have HM5 := hidOf2 M5
              clear hgk M3 q5 q6 M5 B5 hvv HK HQ HY3 MX
              go_upto_region 10 with fail
              refine wp_cut (α := Nat) (fun u y => y = (w5.drew.setCell ⟨T, 5, none⟩ (.slice a2 m2 c2)).setCell ⟨T, 4, none⟩ (.int .u8 (tv : Int))) (fun a u => (((((((((((((((((a.put (some 59) (.pointer (some ⟨T, 0, none⟩))).put (some 60) (.pointer (some ⟨T, 0, none⟩))).put (some 61) (.pointer (some ⟨T, 0, none⟩))).put (some 62) (.pointer (some ⟨T, 0, none⟩))).put (some 63) (.pointer (some ⟨T, 5, none⟩))).put (some 64) (vv)).put (some 65) (.int .i64 1)).put (some 66) (.slice a2 m2 c2)).put (some 67) (.pointer (some ⟨T, 0, none⟩))).put (some 68) (.pointer (some ⟨T, 0, none⟩))).put (some 69) (.pointer (some ⟨T, 4, none⟩))).put (some 70) (.int .u8 (s.tn : Int))).put (some 71) (.int .u8 (tv : Int))).put (some 72) (.pointer (some ⟨T, 0, none⟩))).put (some 73) (.pointer (some ⟨T, 5, none⟩))).put (some 74) (.pointer (some ⟨T, 0, none⟩))).put (some 75) (.pointer (some ⟨T, 4, none⟩)))) ?_ ?_
              · refine wp_region_held (S := fun _ => True) (by kernel_rfl) ?_
                change wpAnyH _ _ _ _ _ _ _ _ w5.drew
                refine tk 0 (.pointer (some ⟨T, 0, none⟩)) rfl (by kernel_rfl) (fun _ _ _ h => nomatch h.1) rfl (fun _ hS => rfl) trivial ?_
                simp only [zzA, zzB, zzC, Act.put, zzD, zzE, zzF]
                refine tk 1 (.pointer (some ⟨T, 0, none⟩)) rfl (by kernel_rfl) (fun _ _ _ h => nomatch h.1) rfl (fun _ hS => rfl) trivial ?_
                simp only [zzA, zzB, zzC, Act.put, zzD, zzE, zzF]
                refine tk 2 (.pointer (some ⟨T, 0, none⟩)) rfl (by kernel_rfl) (fun _ _ _ h => nomatch h.1) rfl (fun _ hS => rfl) trivial ?_
                simp only [zzA, zzB, zzC, Act.put, zzD, zzE, zzF]
                refine tk 3 (.pointer (some ⟨T, 0, none⟩)) rfl (by kernel_rfl) (fun _ _ _ h => nomatch h.1) rfl (fun _ hS => by simp [execOp, go_sem, Act.eval]) trivial ?_
                simp only [zzA, zzB, zzC, Act.put, zzD, zzE, zzF]
                refine tk 4 (.pointer (some ⟨T, 5, none⟩)) rfl (by kernel_rfl) (fun _ _ _ h => nomatch h.1) rfl (fun _ hS => by simp [execOp, go_sem, Act.eval]) trivial ?_
                simp only [zzA, zzB, zzC, Act.put, zzD, zzE, zzF]
                refine tk 6 (.int .i64 1) rfl (by kernel_rfl) (fun _ _ _ h => nomatch h.1) rfl (fun _ hS => rfl) trivial ?_
                simp only [zzA, zzB, zzC, Act.put, zzD, zzE, zzF]
                refine tk 8 (.pointer (some ⟨T, 0, none⟩)) rfl (by kernel_rfl) (fun _ _ _ h => nomatch h.1) rfl (fun _ hS => rfl) trivial ?_
                simp only [zzA, zzB, zzC, Act.put, zzD, zzE, zzF]
                refine tk 9 (.pointer (some ⟨T, 0, none⟩)) rfl (by kernel_rfl) (fun _ _ _ h => nomatch h.1) rfl (fun _ hS => by simp [execOp, go_sem, Act.eval]) trivial ?_
                simp only [zzA, zzB, zzC, Act.put, zzD, zzE, zzF]
                refine tk 10 (.pointer (some ⟨T, 4, none⟩)) rfl (by kernel_rfl) (fun _ _ _ h => nomatch h.1) rfl (fun _ hS => by simp [execOp, go_sem, Act.eval]) trivial ?_
                simp only [zzA, zzB, zzC, Act.put, zzD, zzE, zzF]
                refine wpAnyH_all (rs := [5, 11]) (by kernel_rfl) (by simp) ?_
                intro k hk
                simp only [List.mem_cons, List.mem_nil_iff, or_false] at hk
                rcases hk with rfl | rfl
                · refine wpOp_run rfl rfl (wp_ldG lB _ rfl rfl ?_)
                  refine ⟨trivial, ?_⟩
                  simp only [zzA, zzB, zzC, Act.put, zzD, zzE, zzF]
                  refine tk 7 (.slice a2 m2 c2) rfl (by kernel_rfl) (fun _ _ _ h => nomatch h.1) rfl (fun _ hS => exec_sliceT (v := vv) (lo := .int .i64 1) rfl rfl rfl hsl _) trivial ?_
                  simp only [zzA, zzB, zzC, Act.put, zzD, zzE, zzF]
                  refine wpAnyH_all (rs := [11]) (by kernel_rfl) (by simp) ?_
                  intro k hk
                  simp only [List.mem_cons, List.mem_nil_iff, or_false] at hk
                  subst hk
                  refine wpOp_run rfl rfl (wp_ldG (load_u8 _ _ _ _ kT) _ rfl rfl ?_)
                  refine ⟨trivial, ?_⟩
                  simp only [zzA, zzB, zzC, Act.put, zzD, zzE, zzF]
                  refine tk 12 (.int .u8 (tv : Int)) rfl (by kernel_rfl) (fun _ _ _ h => nomatch h.1) rfl (fun _ hS => exec_sub8 rfl rfl rfl hsub8 _) trivial ?_
                  simp only [zzA, zzB, zzC, Act.put, zzD, zzE, zzF]
                  refine tk 13 (.pointer (some ⟨T, 0, none⟩)) rfl (by kernel_rfl) (fun _ _ _ h => nomatch h.1) rfl (fun _ hS => by simp [execOp, go_sem, Act.eval]) trivial ?_
                  simp only [zzA, zzB, zzC, Act.put, zzD, zzE, zzF]
                  refine tk 14 (.pointer (some ⟨T, 5, none⟩)) rfl (by kernel_rfl) (fun _ _ _ h => nomatch h.1) rfl (fun _ hS => by simp [execOp, go_sem, Act.eval]) trivial ?_
                  simp only [zzA, zzB, zzC, Act.put, zzD, zzE, zzF]
                  refine wpAnyH_all (rs := [15]) (by kernel_rfl) (by simp) ?_
                  intro k hk
                  simp only [List.mem_cons, List.mem_nil_iff, or_false] at hk
                  subst hk
                  refine wpOp_run rfl rfl (wp_store_cell 47 _ _ rfl T 5 rfl (.slice a2 m2 c2) rfl (store_bytes _ T 5 _ _ _ _ kB zB) ?_)
                  refine ⟨trivial, ?_⟩
                  simp only [zzA, zzB, zzC, Act.put, zzD, zzE, zzF]
                  refine tk 16 (.pointer (some ⟨T, 0, none⟩)) rfl (by kernel_rfl) (fun _ _ _ h => nomatch h.1) rfl (fun _ hS => by simp [execOp, go_sem, Act.eval]) trivial ?_
                  simp only [zzA, zzB, zzC, Act.put, zzD, zzE, zzF]
                  refine tk 17 (.pointer (some ⟨T, 4, none⟩)) rfl (by kernel_rfl) (fun _ _ _ h => nomatch h.1) rfl (fun _ hS => by simp [execOp, go_sem, Act.eval]) trivial ?_
                  simp only [zzA, zzB, zzC, Act.put, zzD, zzE, zzF]
                  refine wpAnyH_all (rs := [18]) (by kernel_rfl) (by simp) ?_
                  intro k hk
                  simp only [List.mem_cons, List.mem_nil_iff, or_false] at hk
                  subst hk
                  refine wpOp_run rfl rfl (wp_store_cell 5 _ _ rfl T 4 rfl (.int .u8 (tv : Int)) rfl (store_u8 _ T 4 _ _ kT2 zT2) ?_)
                  refine ⟨trivial, ?_⟩
                  simp only [zzA, zzB, zzC, Act.put, zzD, zzE, zzF]
                  refine wpAnyH_done (by kernel_rfl) ?_ _
                  exact ⟨rfl, 0, rfl, rfl⟩
                · refine wpOp_run rfl rfl (wp_ldG (load_u8 _ _ _ _ kT) _ rfl rfl ?_)
                  refine ⟨trivial, ?_⟩
                  simp only [zzA, zzB, zzC, Act.put, zzD, zzE, zzF]
                  refine tk 12 (.int .u8 (tv : Int)) rfl (by kernel_rfl) (fun _ _ _ h => nomatch h.1) rfl (fun _ hS => exec_sub8 rfl rfl rfl hsub8 _) trivial ?_
                  simp only [zzA, zzB, zzC, Act.put, zzD, zzE, zzF]
                  refine wpAnyH_all (rs := [5]) (by kernel_rfl) (by simp) ?_
                  intro k hk
                  simp only [List.mem_cons, List.mem_nil_iff, or_false] at hk
                  subst hk
                  refine wpOp_run rfl rfl (wp_ldG lB _ rfl rfl ?_)
                  refine ⟨trivial, ?_⟩
                  simp only [zzA, zzB, zzC, Act.put, zzD, zzE, zzF]
                  refine tk 7 (.slice a2 m2 c2) rfl (by kernel_rfl) (fun _ _ _ h => nomatch h.1) rfl (fun _ hS => exec_sliceT (v := vv) (lo := .int .i64 1) rfl rfl rfl hsl _) trivial ?_
                  simp only [zzA, zzB, zzC, Act.put, zzD, zzE, zzF]
                  refine tk 13 (.pointer (some ⟨T, 0, none⟩)) rfl (by kernel_rfl) (fun _ _ _ h => nomatch h.1) rfl (fun _ hS => by simp [execOp, go_sem, Act.eval]) trivial ?_
                  simp only [zzA, zzB, zzC, Act.put, zzD, zzE, zzF]
                  refine tk 14 (.pointer (some ⟨T, 5, none⟩)) rfl (by kernel_rfl) (fun _ _ _ h => nomatch h.1) rfl (fun _ hS => by simp [execOp, go_sem, Act.eval]) trivial ?_
                  simp only [zzA, zzB, zzC, Act.put, zzD, zzE, zzF]
                  refine wpAnyH_all (rs := [15]) (by kernel_rfl) (by simp) ?_
                  intro k hk
                  simp only [List.mem_cons, List.mem_nil_iff, or_false] at hk
                  subst hk
                  refine wpOp_run rfl rfl (wp_store_cell 47 _ _ rfl T 5 rfl (.slice a2 m2 c2) rfl (store_bytes _ T 5 _ _ _ _ kB zB) ?_)
                  refine ⟨trivial, ?_⟩
                  simp only [zzA, zzB, zzC, Act.put, zzD, zzE, zzF]
                  refine tk 16 (.pointer (some ⟨T, 0, none⟩)) rfl (by kernel_rfl) (fun _ _ _ h => nomatch h.1) rfl (fun _ hS => by simp [execOp, go_sem, Act.eval]) trivial ?_
                  simp only [zzA, zzB, zzC, Act.put, zzD, zzE, zzF]
                  refine tk 17 (.pointer (some ⟨T, 4, none⟩)) rfl (by kernel_rfl) (fun _ _ _ h => nomatch h.1) rfl (fun _ hS => by simp [execOp, go_sem, Act.eval]) trivial ?_
                  simp only [zzA, zzB, zzC, Act.put, zzD, zzE, zzF]
                  refine wpAnyH_all (rs := [18]) (by kernel_rfl) (by simp) ?_
                  intro k hk
                  simp only [List.mem_cons, List.mem_nil_iff, or_false] at hk
                  subst hk
                  refine wpOp_run rfl rfl (wp_store_cell 5 _ _ rfl T 4 rfl (.int .u8 (tv : Int)) rfl (store_u8 _ T 4 _ _ kT2 zT2) ?_)
                  refine ⟨trivial, ?_⟩
                  simp only [zzA, zzB, zzC, Act.put, zzD, zzE, zzF]
                  refine wpAnyH_done (by kernel_rfl) ?_ _
                  exact ⟨rfl, 0, rfl, rfl⟩
              intro u y hI
              simp only [Act.put, List.setIfInBounds_toArray, List.set_cons_succ, List.set_cons_zero]
              rw [← hI] at M6 HQ6
              clear hI kB zB kT kT2 zT2 D5 hsl lB
              obtain ⟨cT0, cT1, cT2, cT3, cT4, cT5, cT6⟩ := M6.out.head.c
              have x6 := HQ6.out.c0
              have z6 := HQ6.out.zz 0
              have e60 : (({ pn s with b0 := .ofNat (T0 + 12) } : F8).b0.toNat : Int) = (T0 : Int) + 12 := by show ((UInt8.ofNat (T0 + 12)).toNat : Int) = _; rw [un _ (by omega)] <;> omega
              rw [e60] at x6
              have cT5' : y.cell? ⟨T, 5, none⟩ = some (.slice a2 m2 c2) := by
                have h9 : y.cell? ⟨T, 5, none⟩ = some (.slice a2 (s.bs.drop 1).length c2) := cT5
                rw [List.length_drop, hm2] at h9
                exact h9
              clear cT5
              clear e60 x0 z0
              have hm0 : m2 = 0 := by omega
              subst hm0
              have q7 : Qb z (told s) (y.setCell ⟨z, 0, none⟩ (.int .u8 ((T0 : Int) + 13))) := HQ6.out.set 0 _ (by
                have h1 : ((UInt8.ofNat (T0 + 13)).toNat : Int) = (T0 : Int) + 13 := by rw [un _ (by omega)] <;> omega
                have h2 : told s = { pn s with b0 := .ofNat (T0 + 13) } := by unfold told pn; rw [hn0, hT0]; rfl
                rw [h2]
                exact F8.set0 _ _ _ h1.symm)
              have M7 := mf_cell M6.out HQ6.out hzV (Kp.cell1 y z 0 (.int .u8 ((T0 : Int) + 13)))
              have hadd1 : (T0 : Int) + 12 + 1 = (T0 : Int) + 13 := by omega
              obtain ⟨w7, hw7⟩ : ∃ x, y.setCell ⟨z, 0, none⟩ (.int .u8 ((T0 : Int) + 13)) = x := ⟨_, rfl⟩
              rw [hw7] at q7 M7
              have hRs := Rests_any M7.head
              have HTO2 := hidOf2 (show telO its s q = (.ok (told s), its, Ss.nul) from by rw [HTO.out, if_pos (by omega)])
              have HM7 := hidOf2 M7
              have HQ7 := hidOf2 q7
              have o9 : IntKind.u8.wrap ((T0 : Int) + 12 + 1) = (T0 : Int) + 13 := by simp [IntKind.wrap, IntKind.bits, IntKind.signed]; omega
              clear M7 q7 M6 HQ6 cT0 cT1 cT2 cT3 cT4 cT6 hadd1
              go_wp2_with fail
              refine hRs.mono ?_
              rintro e w8 ⟨rfl, d8, K8⟩
              have q8 : Qb z (told s) w8 := (K8.block _ HQ7.out.lt (by simp; omega)).trans HQ7.out
              have r8 : Qb (k + 1) F8.nul w8 := (K8.block _ HM7.out.an.lt (by simp; omega)).trans HM7.out.an
              have l8 := q8.load
              have r9 := r8.row (told s)
              have r8l := r8.lt
              have HZ : Hid (Dv T E its Ss.nul none 0 (w8.setRow (k + 1) (told s).arr) ∧ Kp [T, E] w (w8.setRow (k + 1) (told s).arr)) := by
                obtain ⟨vL, vV, hr⟩ := HM7.out.rd
                exact ⟨Dv.nul ⟨vL, vV, (hr.kpT HM7.out.head K8).row r8 _⟩ ((setRow_other _ _ _ _ (by omega)).trans d8) hET HH0.out.len HH0.out.oks HH0.out.nod, (((Kp.of_below (bs := [T, E]) HB0.out).fresh HM7.out.kp (fun b hb => .inl (by simp at hb; simp [hb]))).fresh K8 (fun b hb => .inl (by simp at hb; simp [hb]))).fresh (Kp.setRow1 _ _ _) (fun b hb => .inr (by simp at hb; omega))⟩
              clear hRs d8 K8 HM7 HQ7
              go_wp2_with (first | (refine ldG l8 rfl _ rfl rfl ?_) | (refine sdF (g := told s) r8 rfl _ _ rfl rfl rfl ?_))
              exact bodyPost_ret (gs_results r9 _ rfl) rfl (HRP.out _ HTO2.out _ _ ⟨rfl, none, 0, HZ.out.1, HZ.out.2, fun b hb => by simp [blk] at hb⟩)
            · subst hc
              obtain rfl : j = 2 := by omega
              rw [show ((2 : Nat) : Int) = 2 from rfl]
              have hn0 : s.bs.length = 2 := by omega
              have hgk := gk_end s 2 (by omega) (by omega)
              rw [hgk] at HQ
              have M3 := hidOf2 (mf_cell MX.out HY3.out hzV HK.out)
              have x0 := HQ.out.c0
              have z0 := HQ.out.zz 0
              have q5 : Qb z { pn s with b0 := .ofNat (T0 + 10) } (wr.setCell ⟨z, 0, none⟩ (.int .u8 ((T0 : Int) + 10))) := HQ.out.set 0 _ (by
                have : ((UInt8.ofNat (T0 + 10)).toNat : Int) = (T0 : Int) + 10 := by rw [un _ (by omega)] <;> omega
                exact F8.set0 _ _ _ this.symm)
              have M5 := mf_cell M3.out HQ.out hzV (Kp.cell1 wr z 0 (.int .u8 ((T0 : Int) + 10)))
              have B5 : Bytes (wr.setCell ⟨z, 0, none⟩ (.int .u8 ((T0 : Int) + 10))) (.slice ao s.bs.length cp) s.bs := HBY.out _ M5
              obtain ⟨a2, c2, hsl, hB4, hC4, hO4⟩ := bslice_t B5 hcap.out 2 (by omega)
              obtain ⟨w5, hw5⟩ : ∃ x, wr.setCell ⟨z, 0, none⟩ (.int .u8 ((T0 : Int) + 10)) = x := ⟨_, rfl⟩
              rw [hw5] at q5 M5 B5
              obtain ⟨m2, hm2⟩ : ∃ x, s.bs.length - 2 = x := ⟨_, rfl⟩
              rw [hm2] at hsl hB4 hC4 hO4
              obtain ⟨vv, hvv⟩ : ∃ v, Value.slice ao s.bs.length cp = v := ⟨_, rfl⟩
              rw [hvv] at hsl
              change ∀ W, (Instr.sliceAt 47 vv (some (.int .i64 2)) none none).run Tryz.prog W = .ok (.slice a2 m2 c2) W at hsl
              have D5 : Mf T E k its q s ao cp V w5.drew := M5.below (bdr (Below.refl _ w5) 1)
              have kB : w5.drew.cell? ⟨T, 5, none⟩ = some vv := by rw [← hvv]; exact D5.head.c.2.2.2.2.2.1
              have zB := D5.head.zz 5
              have lB : (loadVar 47 ⟨T, 5, none⟩).run Tryz.prog w5.drew = .ok vv w5.drew := by rw [← hvv]; exact load_bytes _ _ _ _ _ _ D5.head.c.2.2.2.2.2.1
              have kT := D5.head.c.2.2.2.2.1
              have kT2 : (w5.drew.setCell ⟨T, 5, none⟩ (.slice a2 m2 c2)).cell? ⟨T, 4, none⟩ = some (.int .u8 (s.tn : Int)) := (D5.setB2 (n := m2) (ap := a2) (cq := c2) (s.bs.drop 2) (by rw [List.length_drop]; exact hm2) hTk).head.c.2.2.2.2.1
              have zT2 := (D5.setB2 (n := m2) (ap := a2) (cq := c2) (s.bs.drop 2) (by rw [List.length_drop]; exact hm2) hTk).head.zz 4
              have M6 := hidOf2 ((D5.setB2 (n := m2) (ap := a2) (cq := c2) (s.bs.drop 2) (by rw [List.length_drop]; exact hm2) hTk).setT tv hTk)
              have q6 : Qb z { pn s with b0 := .ofNat (T0 + 10) } ((w5.drew.setCell ⟨T, 5, none⟩ (.slice a2 m2 c2)).setCell ⟨T, 4, none⟩ (.int .u8 (tv : Int))) := ((q5.below (bdr (Below.refl _ w5) 1)).other (by show z ≠ T; omega) _).other (by show z ≠ T; omega) _
              have HQ6 := hidOf2 q6
              have HM5 := hidOf2 M5
              clear hgk M3 q5 q6 M5 B5 hvv HK HQ HY3 MX
              go_upto_region 10 with fail
              refine wp_cut (α := Nat) (fun u y => y = (w5.drew.setCell ⟨T, 5, none⟩ (.slice a2 m2 c2)).setCell ⟨T, 4, none⟩ (.int .u8 (tv : Int))) (fun a u => (((((((((((((((((a.put (some 59) (.pointer (some ⟨T, 0, none⟩))).put (some 60) (.pointer (some ⟨T, 0, none⟩))).put (some 61) (.pointer (some ⟨T, 0, none⟩))).put (some 62) (.pointer (some ⟨T, 0, none⟩))).put (some 63) (.pointer (some ⟨T, 5, none⟩))).put (some 64) (vv)).put (some 65) (.int .i64 2)).put (some 66) (.slice a2 m2 c2)).put (some 67) (.pointer (some ⟨T, 0, none⟩))).put (some 68) (.pointer (some ⟨T, 0, none⟩))).put (some 69) (.pointer (some ⟨T, 4, none⟩))).put (some 70) (.int .u8 (s.tn : Int))).put (some 71) (.int .u8 (tv : Int))).put (some 72) (.pointer (some ⟨T, 0, none⟩))).put (some 73) (.pointer (some ⟨T, 5, none⟩))).put (some 74) (.pointer (some ⟨T, 0, none⟩))).put (some 75) (.pointer (some ⟨T, 4, none⟩)))) ?_ ?_
              · refine wp_region_held (S := fun _ => True) (by kernel_rfl) ?_
                change wpAnyH _ _ _ _ _ _ _ _ w5.drew
                refine tk 0 (.pointer (some ⟨T, 0, none⟩)) rfl (by kernel_rfl) (fun _ _ _ h => nomatch h.1) rfl (fun _ hS => rfl) trivial ?_
                simp only [zzA, zzB, zzC, Act.put, zzD, zzE, zzF]
                refine tk 1 (.pointer (some ⟨T, 0, none⟩)) rfl (by kernel_rfl) (fun _ _ _ h => nomatch h.1) rfl (fun _ hS => rfl) trivial ?_
                simp only [zzA, zzB, zzC, Act.put, zzD, zzE, zzF]
                refine tk 2 (.pointer (some ⟨T, 0, none⟩)) rfl (by kernel_rfl) (fun _ _ _ h => nomatch h.1) rfl (fun _ hS => rfl) trivial ?_
                simp only [zzA, zzB, zzC, Act.put, zzD, zzE, zzF]
                refine tk 3 (.pointer (some ⟨T, 0, none⟩)) rfl (by kernel_rfl) (fun _ _ _ h => nomatch h.1) rfl (fun _ hS => by simp [execOp, go_sem, Act.eval]) trivial ?_
                simp only [zzA, zzB, zzC, Act.put, zzD, zzE, zzF]
                refine tk 4 (.pointer (some ⟨T, 5, none⟩)) rfl (by kernel_rfl) (fun _ _ _ h => nomatch h.1) rfl (fun _ hS => by simp [execOp, go_sem, Act.eval]) trivial ?_
                simp only [zzA, zzB, zzC, Act.put, zzD, zzE, zzF]
                refine tk 6 (.int .i64 2) rfl (by kernel_rfl) (fun _ _ _ h => nomatch h.1) rfl (fun _ hS => rfl) trivial ?_
                simp only [zzA, zzB, zzC, Act.put, zzD, zzE, zzF]
                refine tk 8 (.pointer (some ⟨T, 0, none⟩)) rfl (by kernel_rfl) (fun _ _ _ h => nomatch h.1) rfl (fun _ hS => rfl) trivial ?_
                simp only [zzA, zzB, zzC, Act.put, zzD, zzE, zzF]
                refine tk 9 (.pointer (some ⟨T, 0, none⟩)) rfl (by kernel_rfl) (fun _ _ _ h => nomatch h.1) rfl (fun _ hS => by simp [execOp, go_sem, Act.eval]) trivial ?_
                simp only [zzA, zzB, zzC, Act.put, zzD, zzE, zzF]
                refine tk 10 (.pointer (some ⟨T, 4, none⟩)) rfl (by kernel_rfl) (fun _ _ _ h => nomatch h.1) rfl (fun _ hS => by simp [execOp, go_sem, Act.eval]) trivial ?_
                simp only [zzA, zzB, zzC, Act.put, zzD, zzE, zzF]
                refine wpAnyH_all (rs := [5, 11]) (by kernel_rfl) (by simp) ?_
                intro k hk
                simp only [List.mem_cons, List.mem_nil_iff, or_false] at hk
                rcases hk with rfl | rfl
                · refine wpOp_run rfl rfl (wp_ldG lB _ rfl rfl ?_)
                  refine ⟨trivial, ?_⟩
                  simp only [zzA, zzB, zzC, Act.put, zzD, zzE, zzF]
                  refine tk 7 (.slice a2 m2 c2) rfl (by kernel_rfl) (fun _ _ _ h => nomatch h.1) rfl (fun _ hS => exec_sliceT (v := vv) (lo := .int .i64 2) rfl rfl rfl hsl _) trivial ?_
                  simp only [zzA, zzB, zzC, Act.put, zzD, zzE, zzF]
                  refine wpAnyH_all (rs := [11]) (by kernel_rfl) (by simp) ?_
                  intro k hk
                  simp only [List.mem_cons, List.mem_nil_iff, or_false] at hk
                  subst hk
                  refine wpOp_run rfl rfl (wp_ldG (load_u8 _ _ _ _ kT) _ rfl rfl ?_)
                  refine ⟨trivial, ?_⟩
                  simp only [zzA, zzB, zzC, Act.put, zzD, zzE, zzF]
                  refine tk 12 (.int .u8 (tv : Int)) rfl (by kernel_rfl) (fun _ _ _ h => nomatch h.1) rfl (fun _ hS => exec_sub8 rfl rfl rfl hsub8 _) trivial ?_
                  simp only [zzA, zzB, zzC, Act.put, zzD, zzE, zzF]
                  refine tk 13 (.pointer (some ⟨T, 0, none⟩)) rfl (by kernel_rfl) (fun _ _ _ h => nomatch h.1) rfl (fun _ hS => by simp [execOp, go_sem, Act.eval]) trivial ?_
                  simp only [zzA, zzB, zzC, Act.put, zzD, zzE, zzF]
                  refine tk 14 (.pointer (some ⟨T, 5, none⟩)) rfl (by kernel_rfl) (fun _ _ _ h => nomatch h.1) rfl (fun _ hS => by simp [execOp, go_sem, Act.eval]) trivial ?_
                  simp only [zzA, zzB, zzC, Act.put, zzD, zzE, zzF]
                  refine wpAnyH_all (rs := [15]) (by kernel_rfl) (by simp) ?_
                  intro k hk
                  simp only [List.mem_cons, List.mem_nil_iff, or_false] at hk
                  subst hk
                  refine wpOp_run rfl rfl (wp_store_cell 47 _ _ rfl T 5 rfl (.slice a2 m2 c2) rfl (store_bytes _ T 5 _ _ _ _ kB zB) ?_)
                  refine ⟨trivial, ?_⟩
                  simp only [zzA, zzB, zzC, Act.put, zzD, zzE, zzF]
                  refine tk 16 (.pointer (some ⟨T, 0, none⟩)) rfl (by kernel_rfl) (fun _ _ _ h => nomatch h.1) rfl (fun _ hS => by simp [execOp, go_sem, Act.eval]) trivial ?_
                  simp only [zzA, zzB, zzC, Act.put, zzD, zzE, zzF]
                  refine tk 17 (.pointer (some ⟨T, 4, none⟩)) rfl (by kernel_rfl) (fun _ _ _ h => nomatch h.1) rfl (fun _ hS => by simp [execOp, go_sem, Act.eval]) trivial ?_
                  simp only [zzA, zzB, zzC, Act.put, zzD, zzE, zzF]
                  refine wpAnyH_all (rs := [18]) (by kernel_rfl) (by simp) ?_
                  intro k hk
                  simp only [List.mem_cons, List.mem_nil_iff, or_false] at hk
                  subst hk
                  refine wpOp_run rfl rfl (wp_store_cell 5 _ _ rfl T 4 rfl (.int .u8 (tv : Int)) rfl (store_u8 _ T 4 _ _ kT2 zT2) ?_)
                  refine ⟨trivial, ?_⟩
                  simp only [zzA, zzB, zzC, Act.put, zzD, zzE, zzF]
                  refine wpAnyH_done (by kernel_rfl) ?_ _
                  exact ⟨rfl, 0, rfl, rfl⟩
                · refine wpOp_run rfl rfl (wp_ldG (load_u8 _ _ _ _ kT) _ rfl rfl ?_)
                  refine ⟨trivial, ?_⟩
                  simp only [zzA, zzB, zzC, Act.put, zzD, zzE, zzF]
                  refine tk 12 (.int .u8 (tv : Int)) rfl (by kernel_rfl) (fun _ _ _ h => nomatch h.1) rfl (fun _ hS => exec_sub8 rfl rfl rfl hsub8 _) trivial ?_
                  simp only [zzA, zzB, zzC, Act.put, zzD, zzE, zzF]
                  refine wpAnyH_all (rs := [5]) (by kernel_rfl) (by simp) ?_
                  intro k hk
                  simp only [List.mem_cons, List.mem_nil_iff, or_false] at hk
                  subst hk
                  refine wpOp_run rfl rfl (wp_ldG lB _ rfl rfl ?_)
                  refine ⟨trivial, ?_⟩
                  simp only [zzA, zzB, zzC, Act.put, zzD, zzE, zzF]
                  refine tk 7 (.slice a2 m2 c2) rfl (by kernel_rfl) (fun _ _ _ h => nomatch h.1) rfl (fun _ hS => exec_sliceT (v := vv) (lo := .int .i64 2) rfl rfl rfl hsl _) trivial ?_
                  simp only [zzA, zzB, zzC, Act.put, zzD, zzE, zzF]
                  refine tk 13 (.pointer (some ⟨T, 0, none⟩)) rfl (by kernel_rfl) (fun _ _ _ h => nomatch h.1) rfl (fun _ hS => by simp [execOp, go_sem, Act.eval]) trivial ?_
                  simp only [zzA, zzB, zzC, Act.put, zzD, zzE, zzF]
                  refine tk 14 (.pointer (some ⟨T, 5, none⟩)) rfl (by kernel_rfl) (fun _ _ _ h => nomatch h.1) rfl (fun _ hS => by simp [execOp, go_sem, Act.eval]) trivial ?_
                  simp only [zzA, zzB, zzC, Act.put, zzD, zzE, zzF]
                  refine wpAnyH_all (rs := [15]) (by kernel_rfl) (by simp) ?_
                  intro k hk
                  simp only [List.mem_cons, List.mem_nil_iff, or_false] at hk
                  subst hk
                  refine wpOp_run rfl rfl (wp_store_cell 47 _ _ rfl T 5 rfl (.slice a2 m2 c2) rfl (store_bytes _ T 5 _ _ _ _ kB zB) ?_)
                  refine ⟨trivial, ?_⟩
                  simp only [zzA, zzB, zzC, Act.put, zzD, zzE, zzF]
                  refine tk 16 (.pointer (some ⟨T, 0, none⟩)) rfl (by kernel_rfl) (fun _ _ _ h => nomatch h.1) rfl (fun _ hS => by simp [execOp, go_sem, Act.eval]) trivial ?_
                  simp only [zzA, zzB, zzC, Act.put, zzD, zzE, zzF]
                  refine tk 17 (.pointer (some ⟨T, 4, none⟩)) rfl (by kernel_rfl) (fun _ _ _ h => nomatch h.1) rfl (fun _ hS => by simp [execOp, go_sem, Act.eval]) trivial ?_
                  simp only [zzA, zzB, zzC, Act.put, zzD, zzE, zzF]
                  refine wpAnyH_all (rs := [18]) (by kernel_rfl) (by simp) ?_
                  intro k hk
                  simp only [List.mem_cons, List.mem_nil_iff, or_false] at hk
                  subst hk
                  refine wpOp_run rfl rfl (wp_store_cell 5 _ _ rfl T 4 rfl (.int .u8 (tv : Int)) rfl (store_u8 _ T 4 _ _ kT2 zT2) ?_)
                  refine ⟨trivial, ?_⟩
                  simp only [zzA, zzB, zzC, Act.put, zzD, zzE, zzF]
                  refine wpAnyH_done (by kernel_rfl) ?_ _
                  exact ⟨rfl, 0, rfl, rfl⟩
              intro u y hI
              simp only [Act.put, List.setIfInBounds_toArray, List.set_cons_succ, List.set_cons_zero]
              rw [← hI] at M6 HQ6
              clear hI kB zB kT kT2 zT2 D5 hsl lB
              obtain ⟨cT0, cT1, cT2, cT3, cT4, cT5, cT6⟩ := M6.out.head.c
              have x6 := HQ6.out.c0
              have z6 := HQ6.out.zz 0
              have e60 : (({ pn s with b0 := .ofNat (T0 + 10) } : F8).b0.toNat : Int) = (T0 : Int) + 10 := by show ((UInt8.ofNat (T0 + 10)).toNat : Int) = _; rw [un _ (by omega)] <;> omega
              rw [e60] at x6
              have cT5' : y.cell? ⟨T, 5, none⟩ = some (.slice a2 m2 c2) := by
                have h9 : y.cell? ⟨T, 5, none⟩ = some (.slice a2 (s.bs.drop 2).length c2) := cT5
                rw [List.length_drop, hm2] at h9
                exact h9
              clear cT5
              clear e60 x0 z0
              have hm0 : m2 = 0 := by omega
              subst hm0
              have q7 : Qb z (told s) (y.setCell ⟨z, 0, none⟩ (.int .u8 ((T0 : Int) + 11))) := HQ6.out.set 0 _ (by
                have h1 : ((UInt8.ofNat (T0 + 11)).toNat : Int) = (T0 : Int) + 11 := by rw [un _ (by omega)] <;> omega
                have h2 : told s = { pn s with b0 := .ofNat (T0 + 11) } := by unfold told pn; rw [hn0, hT0]; rfl
                rw [h2]
                exact F8.set0 _ _ _ h1.symm)
              have M7 := mf_cell M6.out HQ6.out hzV (Kp.cell1 y z 0 (.int .u8 ((T0 : Int) + 11)))
              have hadd1 : (T0 : Int) + 10 + 1 = (T0 : Int) + 11 := by omega
              obtain ⟨w7, hw7⟩ : ∃ x, y.setCell ⟨z, 0, none⟩ (.int .u8 ((T0 : Int) + 11)) = x := ⟨_, rfl⟩
              rw [hw7] at q7 M7
              have hRs := Rests_any M7.head
              have HTO2 := hidOf2 (show telO its s q = (.ok (told s), its, Ss.nul) from by rw [HTO.out, if_pos (by omega)])
              have HM7 := hidOf2 M7
              have HQ7 := hidOf2 q7
              have o9 : IntKind.u8.wrap ((T0 : Int) + 10 + 1) = (T0 : Int) + 11 := by simp [IntKind.wrap, IntKind.bits, IntKind.signed]; omega
              clear M7 q7 M6 HQ6 cT0 cT1 cT2 cT3 cT4 cT6 hadd1
              go_wp2_with fail
              refine hRs.mono ?_
              rintro e w8 ⟨rfl, d8, K8⟩
              have q8 : Qb z (told s) w8 := (K8.block _ HQ7.out.lt (by simp; omega)).trans HQ7.out
              have r8 : Qb (k + 1) F8.nul w8 := (K8.block _ HM7.out.an.lt (by simp; omega)).trans HM7.out.an
              have l8 := q8.load
              have r9 := r8.row (told s)
              have r8l := r8.lt
              have HZ : Hid (Dv T E its Ss.nul none 0 (w8.setRow (k + 1) (told s).arr) ∧ Kp [T, E] w (w8.setRow (k + 1) (told s).arr)) := by
                obtain ⟨vL, vV, hr⟩ := HM7.out.rd
                exact ⟨Dv.nul ⟨vL, vV, (hr.kpT HM7.out.head K8).row r8 _⟩ ((setRow_other _ _ _ _ (by omega)).trans d8) hET HH0.out.len HH0.out.oks HH0.out.nod, (((Kp.of_below (bs := [T, E]) HB0.out).fresh HM7.out.kp (fun b hb => .inl (by simp at hb; simp [hb]))).fresh K8 (fun b hb => .inl (by simp at hb; simp [hb]))).fresh (Kp.setRow1 _ _ _) (fun b hb => .inr (by simp at hb; omega))⟩
              clear hRs d8 K8 HM7 HQ7
              go_wp2_with (first | (refine ldG l8 rfl _ rfl rfl ?_) | (refine sdF (g := told s) r8 rfl _ _ rfl rfl rfl ?_))
              exact bodyPost_ret (gs_results r9 _ rfl) rfl (HRP.out _ HTO2.out _ _ ⟨rfl, none, 0, HZ.out.1, HZ.out.2, fun b hb => by simp [blk] at hb⟩)
            · subst hc
              obtain rfl : j = 3 := by omega
              rw [show ((3 : Nat) : Int) = 3 from rfl]
              have hn0 : s.bs.length = 3 := by omega
              have hgk := gk_end s 3 (by omega) (by omega)
              rw [hgk] at HQ
              have M3 := hidOf2 (mf_cell MX.out HY3.out hzV HK.out)
              have x0 := HQ.out.c0
              have z0 := HQ.out.zz 0
              have q5 : Qb z { pn s with b0 := .ofNat (T0 + 8) } (wr.setCell ⟨z, 0, none⟩ (.int .u8 ((T0 : Int) + 8))) := HQ.out.set 0 _ (by
                have : ((UInt8.ofNat (T0 + 8)).toNat : Int) = (T0 : Int) + 8 := by rw [un _ (by omega)] <;> omega
                exact F8.set0 _ _ _ this.symm)
              have M5 := mf_cell M3.out HQ.out hzV (Kp.cell1 wr z 0 (.int .u8 ((T0 : Int) + 8)))
              have B5 : Bytes (wr.setCell ⟨z, 0, none⟩ (.int .u8 ((T0 : Int) + 8))) (.slice ao s.bs.length cp) s.bs := HBY.out _ M5
              obtain ⟨a2, c2, hsl, hB4, hC4, hO4⟩ := bslice_t B5 hcap.out 3 (by omega)
              obtain ⟨w5, hw5⟩ : ∃ x, wr.setCell ⟨z, 0, none⟩ (.int .u8 ((T0 : Int) + 8)) = x := ⟨_, rfl⟩
              rw [hw5] at q5 M5 B5
              obtain ⟨m2, hm2⟩ : ∃ x, s.bs.length - 3 = x := ⟨_, rfl⟩
              rw [hm2] at hsl hB4 hC4 hO4
              obtain ⟨vv, hvv⟩ : ∃ v, Value.slice ao s.bs.length cp = v := ⟨_, rfl⟩
              rw [hvv] at hsl
              change ∀ W, (Instr.sliceAt 47 vv (some (.int .i64 3)) none none).run Tryz.prog W = .ok (.slice a2 m2 c2) W at hsl
              have D5 : Mf T E k its q s ao cp V w5.drew := M5.below (bdr (Below.refl _ w5) 1)
              have kB : w5.drew.cell? ⟨T, 5, none⟩ = some vv := by rw [← hvv]; exact D5.head.c.2.2.2.2.2.1
              have zB := D5.head.zz 5
              have lB : (loadVar 47 ⟨T, 5, none⟩).run Tryz.prog w5.drew = .ok vv w5.drew := by rw [← hvv]; exact load_bytes _ _ _ _ _ _ D5.head.c.2.2.2.2.2.1
              have kT := D5.head.c.2.2.2.2.1
              have kT2 : (w5.drew.setCell ⟨T, 5, none⟩ (.slice a2 m2 c2)).cell? ⟨T, 4, none⟩ = some (.int .u8 (s.tn : Int)) := (D5.setB2 (n := m2) (ap := a2) (cq := c2) (s.bs.drop 3) (by rw [List.length_drop]; exact hm2) hTk).head.c.2.2.2.2.1
              have zT2 := (D5.setB2 (n := m2) (ap := a2) (cq := c2) (s.bs.drop 3) (by rw [List.length_drop]; exact hm2) hTk).head.zz 4
              have M6 := hidOf2 ((D5.setB2 (n := m2) (ap := a2) (cq := c2) (s.bs.drop 3) (by rw [List.length_drop]; exact hm2) hTk).setT tv hTk)
              have q6 : Qb z { pn s with b0 := .ofNat (T0 + 8) } ((w5.drew.setCell ⟨T, 5, none⟩ (.slice a2 m2 c2)).setCell ⟨T, 4, none⟩ (.int .u8 (tv : Int))) := ((q5.below (bdr (Below.refl _ w5) 1)).other (by show z ≠ T; omega) _).other (by show z ≠ T; omega) _
              have HQ6 := hidOf2 q6
              have HM5 := hidOf2 M5
              clear hgk M3 q5 q6 M5 B5 hvv HK HQ HY3 MX
              go_upto_region 10 with fail
              refine wp_cut (α := Nat) (fun u y => y = (w5.drew.setCell ⟨T, 5, none⟩ (.slice a2 m2 c2)).setCell ⟨T, 4, none⟩ (.int .u8 (tv : Int))) (fun a u => (((((((((((((((((a.put (some 59) (.pointer (some ⟨T, 0, none⟩))).put (some 60) (.pointer (some ⟨T, 0, none⟩))).put (some 61) (.pointer (some ⟨T, 0, none⟩))).put (some 62) (.pointer (some ⟨T, 0, none⟩))).put (some 63) (.pointer (some ⟨T, 5, none⟩))).put (some 64) (vv)).put (some 65) (.int .i64 3)).put (some 66) (.slice a2 m2 c2)).put (some 67) (.pointer (some ⟨T, 0, none⟩))).put (some 68) (.pointer (some ⟨T, 0, none⟩))).put (some 69) (.pointer (some ⟨T, 4, none⟩))).put (some 70) (.int .u8 (s.tn : Int))).put (some 71) (.int .u8 (tv : Int))).put (some 72) (.pointer (some ⟨T, 0, none⟩))).put (some 73) (.pointer (some ⟨T, 5, none⟩))).put (some 74) (.pointer (some ⟨T, 0, none⟩))).put (some 75) (.pointer (some ⟨T, 4, none⟩)))) ?_ ?_
              · refine wp_region_held (S := fun _ => True) (by kernel_rfl) ?_
                change wpAnyH _ _ _ _ _ _ _ _ w5.drew
                refine tk 0 (.pointer (some ⟨T, 0, none⟩)) rfl (by kernel_rfl) (fun _ _ _ h => nomatch h.1) rfl (fun _ hS => rfl) trivial ?_
                simp only [zzA, zzB, zzC, Act.put, zzD, zzE, zzF]
                refine tk 1 (.pointer (some ⟨T, 0, none⟩)) rfl (by kernel_rfl) (fun _ _ _ h => nomatch h.1) rfl (fun _ hS => rfl) trivial ?_
                simp only [zzA, zzB, zzC, Act.put, zzD, zzE, zzF]
                refine tk 2 (.pointer (some ⟨T, 0, none⟩)) rfl (by kernel_rfl) (fun _ _ _ h => nomatch h.1) rfl (fun _ hS => rfl) trivial ?_
                simp only [zzA, zzB, zzC, Act.put, zzD, zzE, zzF]
                refine tk 3 (.pointer (some ⟨T, 0, none⟩)) rfl (by kernel_rfl) (fun _ _ _ h => nomatch h.1) rfl (fun _ hS => by simp [execOp, go_sem, Act.eval]) trivial ?_
                simp only [zzA, zzB, zzC, Act.put, zzD, zzE, zzF]
                refine tk 4 (.pointer (some ⟨T, 5, none⟩)) rfl (by kernel_rfl) (fun _ _ _ h => nomatch h.1) rfl (fun _ hS => by simp [execOp, go_sem, Act.eval]) trivial ?_
                simp only [zzA, zzB, zzC, Act.put, zzD, zzE, zzF]
                refine tk 6 (.int .i64 3) rfl (by kernel_rfl) (fun _ _ _ h => nomatch h.1) rfl (fun _ hS => rfl) trivial ?_
                simp only [zzA, zzB, zzC, Act.put, zzD, zzE, zzF]
                refine tk 8 (.pointer (some ⟨T, 0, none⟩)) rfl (by kernel_rfl) (fun _ _ _ h => nomatch h.1) rfl (fun _ hS => rfl) trivial ?_
                simp only [zzA, zzB, zzC, Act.put, zzD, zzE, zzF]
                refine tk 9 (.pointer (some ⟨T, 0, none⟩)) rfl (by kernel_rfl) (fun _ _ _ h => nomatch h.1) rfl (fun _ hS => by simp [execOp, go_sem, Act.eval]) trivial ?_
                simp only [zzA, zzB, zzC, Act.put, zzD, zzE, zzF]
                refine tk 10 (.pointer (some ⟨T, 4, none⟩)) rfl (by kernel_rfl) (fun _ _ _ h => nomatch h.1) rfl (fun _ hS => by simp [execOp, go_sem, Act.eval]) trivial ?_
                simp only [zzA, zzB, zzC, Act.put, zzD, zzE, zzF]
                refine wpAnyH_all (rs := [5, 11]) (by kernel_rfl) (by simp) ?_
                intro k hk
                simp only [List.mem_cons, List.mem_nil_iff, or_false] at hk
                rcases hk with rfl | rfl
                · refine wpOp_run rfl rfl (wp_ldG lB _ rfl rfl ?_)
                  refine ⟨trivial, ?_⟩
                  simp only [zzA, zzB, zzC, Act.put, zzD, zzE, zzF]
                  refine tk 7 (.slice a2 m2 c2) rfl (by kernel_rfl) (fun _ _ _ h => nomatch h.1) rfl (fun _ hS => exec_sliceT (v := vv) (lo := .int .i64 3) rfl rfl rfl hsl _) trivial ?_
                  simp only [zzA, zzB, zzC, Act.put, zzD, zzE, zzF]
                  refine wpAnyH_all (rs := [11]) (by kernel_rfl) (by simp) ?_
                  intro k hk
                  simp only [List.mem_cons, List.mem_nil_iff, or_false] at hk
                  subst hk
                  refine wpOp_run rfl rfl (wp_ldG (load_u8 _ _ _ _ kT) _ rfl rfl ?_)
                  refine ⟨trivial, ?_⟩
                  simp only [zzA, zzB, zzC, Act.put, zzD, zzE, zzF]
                  refine tk 12 (.int .u8 (tv : Int)) rfl (by kernel_rfl) (fun _ _ _ h => nomatch h.1) rfl (fun _ hS => exec_sub8 rfl rfl rfl hsub8 _) trivial ?_
                  simp only [zzA, zzB, zzC, Act.put, zzD, zzE, zzF]
                  refine tk 13 (.pointer (some ⟨T, 0, none⟩)) rfl (by kernel_rfl) (fun _ _ _ h => nomatch h.1) rfl (fun _ hS => by simp [execOp, go_sem, Act.eval]) trivial ?_
                  simp only [zzA, zzB, zzC, Act.put, zzD, zzE, zzF]
                  refine tk 14 (.pointer (some ⟨T, 5, none⟩)) rfl (by kernel_rfl) (fun _ _ _ h => nomatch h.1) rfl (fun _ hS => by simp [execOp, go_sem, Act.eval]) trivial ?_
                  simp only [zzA, zzB, zzC, Act.put, zzD, zzE, zzF]
                  refine wpAnyH_all (rs := [15]) (by kernel_rfl) (by simp) ?_
                  intro k hk
                  simp only [List.mem_cons, List.mem_nil_iff, or_false] at hk
                  subst hk
                  refine wpOp_run rfl rfl (wp_store_cell 47 _ _ rfl T 5 rfl (.slice a2 m2 c2) rfl (store_bytes _ T 5 _ _ _ _ kB zB) ?_)
                  refine ⟨trivial, ?_⟩
                  simp only [zzA, zzB, zzC, Act.put, zzD, zzE, zzF]
                  refine tk 16 (.pointer (some ⟨T, 0, none⟩)) rfl (by kernel_rfl) (fun _ _ _ h => nomatch h.1) rfl (fun _ hS => by simp [execOp, go_sem, Act.eval]) trivial ?_
                  simp only [zzA, zzB, zzC, Act.put, zzD, zzE, zzF]
                  refine tk 17 (.pointer (some ⟨T, 4, none⟩)) rfl (by kernel_rfl) (fun _ _ _ h => nomatch h.1) rfl (fun _ hS => by simp [execOp, go_sem, Act.eval]) trivial ?_
                  simp only [zzA, zzB, zzC, Act.put, zzD, zzE, zzF]
                  refine wpAnyH_all (rs := [18]) (by kernel_rfl) (by simp) ?_
                  intro k hk
                  simp only [List.mem_cons, List.mem_nil_iff, or_false] at hk
                  subst hk
                  refine wpOp_run rfl rfl (wp_store_cell 5 _ _ rfl T 4 rfl (.int .u8 (tv : Int)) rfl (store_u8 _ T 4 _ _ kT2 zT2) ?_)
                  refine ⟨trivial, ?_⟩
                  simp only [zzA, zzB, zzC, Act.put, zzD, zzE, zzF]
                  refine wpAnyH_done (by kernel_rfl) ?_ _
                  exact ⟨rfl, 0, rfl, rfl⟩
                · refine wpOp_run rfl rfl (wp_ldG (load_u8 _ _ _ _ kT) _ rfl rfl ?_)
                  refine ⟨trivial, ?_⟩
                  simp only [zzA, zzB, zzC, Act.put, zzD, zzE, zzF]
                  refine tk 12 (.int .u8 (tv : Int)) rfl (by kernel_rfl) (fun _ _ _ h => nomatch h.1) rfl (fun _ hS => exec_sub8 rfl rfl rfl hsub8 _) trivial ?_
                  simp only [zzA, zzB, zzC, Act.put, zzD, zzE, zzF]
                  refine wpAnyH_all (rs := [5]) (by kernel_rfl) (by simp) ?_
                  intro k hk
                  simp only [List.mem_cons, List.mem_nil_iff, or_false] at hk
                  subst hk
                  refine wpOp_run rfl rfl (wp_ldG lB _ rfl rfl ?_)
                  refine ⟨trivial, ?_⟩
                  simp only [zzA, zzB, zzC, Act.put, zzD, zzE, zzF]
                  refine tk 7 (.slice a2 m2 c2) rfl (by kernel_rfl) (fun _ _ _ h => nomatch h.1) rfl (fun _ hS => exec_sliceT (v := vv) (lo := .int .i64 3) rfl rfl rfl hsl _) trivial ?_
                  simp only [zzA, zzB, zzC, Act.put, zzD, zzE, zzF]
                  refine tk 13 (.pointer (some ⟨T, 0, none⟩)) rfl (by kernel_rfl) (fun _ _ _ h => nomatch h.1) rfl (fun _ hS => by simp [execOp, go_sem, Act.eval]) trivial ?_
                  simp only [zzA, zzB, zzC, Act.put, zzD, zzE, zzF]
                  refine tk 14 (.pointer (some ⟨T, 5, none⟩)) rfl (by kernel_rfl) (fun _ _ _ h => nomatch h.1) rfl (fun _ hS => by simp [execOp, go_sem, Act.eval]) trivial ?_
                  simp only [zzA, zzB, zzC, Act.put, zzD, zzE, zzF]
                  refine wpAnyH_all (rs := [15]) (by kernel_rfl) (by simp) ?_
                  intro k hk
                  simp only [List.mem_cons, List.mem_nil_iff, or_false] at hk
                  subst hk
                  refine wpOp_run rfl rfl (wp_store_cell 47 _ _ rfl T 5 rfl (.slice a2 m2 c2) rfl (store_bytes _ T 5 _ _ _ _ kB zB) ?_)
                  refine ⟨trivial, ?_⟩
                  simp only [zzA, zzB, zzC, Act.put, zzD, zzE, zzF]
                  refine tk 16 (.pointer (some ⟨T, 0, none⟩)) rfl (by kernel_rfl) (fun _ _ _ h => nomatch h.1) rfl (fun _ hS => by simp [execOp, go_sem, Act.eval]) trivial ?_
                  simp only [zzA, zzB, zzC, Act.put, zzD, zzE, zzF]
                  refine tk 17 (.pointer (some ⟨T, 4, none⟩)) rfl (by kernel_rfl) (fun _ _ _ h => nomatch h.1) rfl (fun _ hS => by simp [execOp, go_sem, Act.eval]) trivial ?_
                  simp only [zzA, zzB, zzC, Act.put, zzD, zzE, zzF]
                  refine wpAnyH_all (rs := [18]) (by kernel_rfl) (by simp) ?_
                  intro k hk
                  simp only [List.mem_cons, List.mem_nil_iff, or_false] at hk
                  subst hk
                  refine wpOp_run rfl rfl (wp_store_cell 5 _ _ rfl T 4 rfl (.int .u8 (tv : Int)) rfl (store_u8 _ T 4 _ _ kT2 zT2) ?_)
                  refine ⟨trivial, ?_⟩
                  simp only [zzA, zzB, zzC, Act.put, zzD, zzE, zzF]
                  refine wpAnyH_done (by kernel_rfl) ?_ _
                  exact ⟨rfl, 0, rfl, rfl⟩
              intro u y hI
              simp only [Act.put, List.setIfInBounds_toArray, List.set_cons_succ, List.set_cons_zero]
              rw [← hI] at M6 HQ6
              clear hI kB zB kT kT2 zT2 D5 hsl lB
              obtain ⟨cT0, cT1, cT2, cT3, cT4, cT5, cT6⟩ := M6.out.head.c
              have x6 := HQ6.out.c0
              have z6 := HQ6.out.zz 0
              have e60 : (({ pn s with b0 := .ofNat (T0 + 8) } : F8).b0.toNat : Int) = (T0 : Int) + 8 := by show ((UInt8.ofNat (T0 + 8)).toNat : Int) = _; rw [un _ (by omega)] <;> omega
              rw [e60] at x6
              have cT5' : y.cell? ⟨T, 5, none⟩ = some (.slice a2 m2 c2) := by
                have h9 : y.cell? ⟨T, 5, none⟩ = some (.slice a2 (s.bs.drop 3).length c2) := cT5
                rw [List.length_drop, hm2] at h9
                exact h9
              clear cT5
              clear e60 x0 z0
              have hm0 : m2 = 0 := by omega
              subst hm0
              have q7 : Qb z (told s) (y.setCell ⟨z, 0, none⟩ (.int .u8 ((T0 : Int) + 9))) := HQ6.out.set 0 _ (by
                have h1 : ((UInt8.ofNat (T0 + 9)).toNat : Int) = (T0 : Int) + 9 := by rw [un _ (by omega)] <;> omega
                have h2 : told s = { pn s with b0 := .ofNat (T0 + 9) } := by unfold told pn; rw [hn0, hT0]; rfl
                rw [h2]
                exact F8.set0 _ _ _ h1.symm)
              have M7 := mf_cell M6.out HQ6.out hzV (Kp.cell1 y z 0 (.int .u8 ((T0 : Int) + 9)))
              have hadd1 : (T0 : Int) + 8 + 1 = (T0 : Int) + 9 := by omega
              obtain ⟨w7, hw7⟩ : ∃ x, y.setCell ⟨z, 0, none⟩ (.int .u8 ((T0 : Int) + 9)) = x := ⟨_, rfl⟩
              rw [hw7] at q7 M7
              have hRs := Rests_any M7.head
              have HTO2 := hidOf2 (show telO its s q = (.ok (told s), its, Ss.nul) from by rw [HTO.out, if_pos (by omega)])
              have HM7 := hidOf2 M7
              have HQ7 := hidOf2 q7
              have o9 : IntKind.u8.wrap ((T0 : Int) + 8 + 1) = (T0 : Int) + 9 := by simp [IntKind.wrap, IntKind.bits, IntKind.signed]; omega
              clear M7 q7 M6 HQ6 cT0 cT1 cT2 cT3 cT4 cT6 hadd1
              go_wp2_with fail
              refine hRs.mono ?_
              rintro e w8 ⟨rfl, d8, K8⟩
              have q8 : Qb z (told s) w8 := (K8.block _ HQ7.out.lt (by simp; omega)).trans HQ7.out
              have r8 : Qb (k + 1) F8.nul w8 := (K8.block _ HM7.out.an.lt (by simp; omega)).trans HM7.out.an
              have l8 := q8.load
              have r9 := r8.row (told s)
              have r8l := r8.lt
              have HZ : Hid (Dv T E its Ss.nul none 0 (w8.setRow (k + 1) (told s).arr) ∧ Kp [T, E] w (w8.setRow (k + 1) (told s).arr)) := by
                obtain ⟨vL, vV, hr⟩ := HM7.out.rd
                exact ⟨Dv.nul ⟨vL, vV, (hr.kpT HM7.out.head K8).row r8 _⟩ ((setRow_other _ _ _ _ (by omega)).trans d8) hET HH0.out.len HH0.out.oks HH0.out.nod, (((Kp.of_below (bs := [T, E]) HB0.out).fresh HM7.out.kp (fun b hb => .inl (by simp at hb; simp [hb]))).fresh K8 (fun b hb => .inl (by simp at hb; simp [hb]))).fresh (Kp.setRow1 _ _ _) (fun b hb => .inr (by simp at hb; omega))⟩
              clear hRs d8 K8 HM7 HQ7
              go_wp2_with (first | (refine ldG l8 rfl _ rfl rfl ?_) | (refine sdF (g := told s) r8 rfl _ _ rfl rfl rfl ?_))
              exact bodyPost_ret (gs_results r9 _ rfl) rfl (HRP.out _ HTO2.out _ _ ⟨rfl, none, 0, HZ.out.1, HZ.out.2, fun b hb => by simp [blk] at hb⟩)
            · subst hc
              obtain rfl : j = 4 := by omega
              rw [show ((4 : Nat) : Int) = 4 from rfl]
              have hn0 : s.bs.length = 4 := by omega
              have hgk := gk_end s 4 (by omega) (by omega)
              rw [hgk] at HQ
              have M3 := hidOf2 (mf_cell MX.out HY3.out hzV HK.out)
              have x0 := HQ.out.c0
              have z0 := HQ.out.zz 0
              have q5 : Qb z { pn s with b0 := .ofNat (T0 + 6) } (wr.setCell ⟨z, 0, none⟩ (.int .u8 ((T0 : Int) + 6))) := HQ.out.set 0 _ (by
                have : ((UInt8.ofNat (T0 + 6)).toNat : Int) = (T0 : Int) + 6 := by rw [un _ (by omega)] <;> omega
                exact F8.set0 _ _ _ this.symm)
              have M5 := mf_cell M3.out HQ.out hzV (Kp.cell1 wr z 0 (.int .u8 ((T0 : Int) + 6)))
              have B5 : Bytes (wr.setCell ⟨z, 0, none⟩ (.int .u8 ((T0 : Int) + 6))) (.slice ao s.bs.length cp) s.bs := HBY.out _ M5
              obtain ⟨a2, c2, hsl, hB4, hC4, hO4⟩ := bslice_t B5 hcap.out 4 (by omega)
              obtain ⟨w5, hw5⟩ : ∃ x, wr.setCell ⟨z, 0, none⟩ (.int .u8 ((T0 : Int) + 6)) = x := ⟨_, rfl⟩
              rw [hw5] at q5 M5 B5
              obtain ⟨m2, hm2⟩ : ∃ x, s.bs.length - 4 = x := ⟨_, rfl⟩
              rw [hm2] at hsl hB4 hC4 hO4
              obtain ⟨vv, hvv⟩ : ∃ v, Value.slice ao s.bs.length cp = v := ⟨_, rfl⟩
              rw [hvv] at hsl
              change ∀ W, (Instr.sliceAt 47 vv (some (.int .i64 4)) none none).run Tryz.prog W = .ok (.slice a2 m2 c2) W at hsl
              have D5 : Mf T E k its q s ao cp V w5.drew := M5.below (bdr (Below.refl _ w5) 1)
              have kB : w5.drew.cell? ⟨T, 5, none⟩ = some vv := by rw [← hvv]; exact D5.head.c.2.2.2.2.2.1
              have zB := D5.head.zz 5
              have lB : (loadVar 47 ⟨T, 5, none⟩).run Tryz.prog w5.drew = .ok vv w5.drew := by rw [← hvv]; exact load_bytes _ _ _ _ _ _ D5.head.c.2.2.2.2.2.1
              have kT := D5.head.c.2.2.2.2.1
              have kT2 : (w5.drew.setCell ⟨T, 5, none⟩ (.slice a2 m2 c2)).cell? ⟨T, 4, none⟩ = some (.int .u8 (s.tn : Int)) := (D5.setB2 (n := m2) (ap := a2) (cq := c2) (s.bs.drop 4) (by rw [List.length_drop]; exact hm2) hTk).head.c.2.2.2.2.1
              have zT2 := (D5.setB2 (n := m2) (ap := a2) (cq := c2) (s.bs.drop 4) (by rw [List.length_drop]; exact hm2) hTk).head.zz 4
              have M6 := hidOf2 ((D5.setB2 (n := m2) (ap := a2) (cq := c2) (s.bs.drop 4) (by rw [List.length_drop]; exact hm2) hTk).setT tv hTk)
              have q6 : Qb z { pn s with b0 := .ofNat (T0 + 6) } ((w5.drew.setCell ⟨T, 5, none⟩ (.slice a2 m2 c2)).setCell ⟨T, 4, none⟩ (.int .u8 (tv : Int))) := ((q5.below (bdr (Below.refl _ w5) 1)).other (by show z ≠ T; omega) _).other (by show z ≠ T; omega) _
              have HQ6 := hidOf2 q6
              have HM5 := hidOf2 M5
              clear hgk M3 q5 q6 M5 B5 hvv HK HQ HY3 MX
              go_upto_region 10 with fail
              refine wp_cut (α := Nat) (fun u y => y = (w5.drew.setCell ⟨T, 5, none⟩ (.slice a2 m2 c2)).setCell ⟨T, 4, none⟩ (.int .u8 (tv : Int))) (fun a u => (((((((((((((((((a.put (some 59) (.pointer (some ⟨T, 0, none⟩))).put (some 60) (.pointer (some ⟨T, 0, none⟩))).put (some 61) (.pointer (some ⟨T, 0, none⟩))).put (some 62) (.pointer (some ⟨T, 0, none⟩))).put (some 63) (.pointer (some ⟨T, 5, none⟩))).put (some 64) (vv)).put (some 65) (.int .i64 4)).put (some 66) (.slice a2 m2 c2)).put (some 67) (.pointer (some ⟨T, 0, none⟩))).put (some 68) (.pointer (some ⟨T, 0, none⟩))).put (some 69) (.pointer (some ⟨T, 4, none⟩))).put (some 70) (.int .u8 (s.tn : Int))).put (some 71) (.int .u8 (tv : Int))).put (some 72) (.pointer (some ⟨T, 0, none⟩))).put (some 73) (.pointer (some ⟨T, 5, none⟩))).put (some 74) (.pointer (some ⟨T, 0, none⟩))).put (some 75) (.pointer (some ⟨T, 4, none⟩)))) ?_ ?_
              · refine wp_region_held (S := fun _ => True) (by kernel_rfl) ?_
                change wpAnyH _ _ _ _ _ _ _ _ w5.drew
                refine tk 0 (.pointer (some ⟨T, 0, none⟩)) rfl (by kernel_rfl) (fun _ _ _ h => nomatch h.1) rfl (fun _ hS => rfl) trivial ?_
                simp only [zzA, zzB, zzC, Act.put, zzD, zzE, zzF]
                refine tk 1 (.pointer (some ⟨T, 0, none⟩)) rfl (by kernel_rfl) (fun _ _ _ h => nomatch h.1) rfl (fun _ hS => rfl) trivial ?_
                simp only [zzA, zzB, zzC, Act.put, zzD, zzE, zzF]
                refine tk 2 (.pointer (some ⟨T, 0, none⟩)) rfl (by kernel_rfl) (fun _ _ _ h => nomatch h.1) rfl (fun _ hS => rfl) trivial ?_
                simp only [zzA, zzB, zzC, Act.put, zzD, zzE, zzF]
                refine tk 3 (.pointer (some ⟨T, 0, none⟩)) rfl (by kernel_rfl) (fun _ _ _ h => nomatch h.1) rfl (fun _ hS => by simp [execOp, go_sem, Act.eval]) trivial ?_
                simp only [zzA, zzB, zzC, Act.put, zzD, zzE, zzF]
                refine tk 4 (.pointer (some ⟨T, 5, none⟩)) rfl (by kernel_rfl) (fun _ _ _ h => nomatch h.1) rfl (fun _ hS => by simp [execOp, go_sem, Act.eval]) trivial ?_
                simp only [zzA, zzB, zzC, Act.put, zzD, zzE, zzF]
                refine tk 6 (.int .i64 4) rfl (by kernel_rfl) (fun _ _ _ h => nomatch h.1) rfl (fun _ hS => rfl) trivial ?_
                simp only [zzA, zzB, zzC, Act.put, zzD, zzE, zzF]
                refine tk 8 (.pointer (some ⟨T, 0, none⟩)) rfl (by kernel_rfl) (fun _ _ _ h => nomatch h.1) rfl (fun _ hS => rfl) trivial ?_
                simp only [zzA, zzB, zzC, Act.put, zzD, zzE, zzF]
                refine tk 9 (.pointer (some ⟨T, 0, none⟩)) rfl (by kernel_rfl) (fun _ _ _ h => nomatch h.1) rfl (fun _ hS => by simp [execOp, go_sem, Act.eval]) trivial ?_
                simp only [zzA, zzB, zzC, Act.put, zzD, zzE, zzF]
                refine tk 10 (.pointer (some ⟨T, 4, none⟩)) rfl (by kernel_rfl) (fun _ _ _ h => nomatch h.1) rfl (fun _ hS => by simp [execOp, go_sem, Act.eval]) trivial ?_
                simp only [zzA, zzB, zzC, Act.put, zzD, zzE, zzF]
                refine wpAnyH_all (rs := [5, 11]) (by kernel_rfl) (by simp) ?_
                intro k hk
                simp only [List.mem_cons, List.mem_nil_iff, or_false] at hk
                rcases hk with rfl | rfl
                · refine wpOp_run rfl rfl (wp_ldG lB _ rfl rfl ?_)
                  refine ⟨trivial, ?_⟩
                  simp only [zzA, zzB, zzC, Act.put, zzD, zzE, zzF]
                  refine tk 7 (.slice a2 m2 c2) rfl (by kernel_rfl) (fun _ _ _ h => nomatch h.1) rfl (fun _ hS => exec_sliceT (v := vv) (lo := .int .i64 4) rfl rfl rfl hsl _) trivial ?_
                  simp only [zzA, zzB, zzC, Act.put, zzD, zzE, zzF]
                  refine wpAnyH_all (rs := [11]) (by kernel_rfl) (by simp) ?_
                  intro k hk
                  simp only [List.mem_cons, List.mem_nil_iff, or_false] at hk
                  subst hk
                  refine wpOp_run rfl rfl (wp_ldG (load_u8 _ _ _ _ kT) _ rfl rfl ?_)
                  refine ⟨trivial, ?_⟩
                  simp only [zzA, zzB, zzC, Act.put, zzD, zzE, zzF]
                  refine tk 12 (.int .u8 (tv : Int)) rfl (by kernel_rfl) (fun _ _ _ h => nomatch h.1) rfl (fun _ hS => exec_sub8 rfl rfl rfl hsub8 _) trivial ?_
                  simp only [zzA, zzB, zzC, Act.put, zzD, zzE, zzF]
                  refine tk 13 (.pointer (some ⟨T, 0, none⟩)) rfl (by kernel_rfl) (fun _ _ _ h => nomatch h.1) rfl (fun _ hS => by simp [execOp, go_sem, Act.eval]) trivial ?_
                  simp only [zzA, zzB, zzC, Act.put, zzD, zzE, zzF]
                  refine tk 14 (.pointer (some ⟨T, 5, none⟩)) rfl (by kernel_rfl) (fun _ _ _ h => nomatch h.1) rfl (fun _ hS => by simp [execOp, go_sem, Act.eval]) trivial ?_
                  simp only [zzA, zzB, zzC, Act.put, zzD, zzE, zzF]
                  refine wpAnyH_all (rs := [15]) (by kernel_rfl) (by simp) ?_
                  intro k hk
                  simp only [List.mem_cons, List.mem_nil_iff, or_false] at hk
                  subst hk
                  refine wpOp_run rfl rfl (wp_store_cell 47 _ _ rfl T 5 rfl (.slice a2 m2 c2) rfl (store_bytes _ T 5 _ _ _ _ kB zB) ?_)
                  refine ⟨trivial, ?_⟩
                  simp only [zzA, zzB, zzC, Act.put, zzD, zzE, zzF]
                  refine tk 16 (.pointer (some ⟨T, 0, none⟩)) rfl (by kernel_rfl) (fun _ _ _ h => nomatch h.1) rfl (fun _ hS => by simp [execOp, go_sem, Act.eval]) trivial ?_
                  simp only [zzA, zzB, zzC, Act.put, zzD, zzE, zzF]
                  refine tk 17 (.pointer (some ⟨T, 4, none⟩)) rfl (by kernel_rfl) (fun _ _ _ h => nomatch h.1) rfl (fun _ hS => by simp [execOp, go_sem, Act.eval]) trivial ?_
                  simp only [zzA, zzB, zzC, Act.put, zzD, zzE, zzF]
                  refine wpAnyH_all (rs := [18]) (by kernel_rfl) (by simp) ?_
                  intro k hk
                  simp only [List.mem_cons, List.mem_nil_iff, or_false] at hk
                  subst hk
                  refine wpOp_run rfl rfl (wp_store_cell 5 _ _ rfl T 4 rfl (.int .u8 (tv : Int)) rfl (store_u8 _ T 4 _ _ kT2 zT2) ?_)
                  refine ⟨trivial, ?_⟩
                  simp only [zzA, zzB, zzC, Act.put, zzD, zzE, zzF]
                  refine wpAnyH_done (by kernel_rfl) ?_ _
                  exact ⟨rfl, 0, rfl, rfl⟩
                · refine wpOp_run rfl rfl (wp_ldG (load_u8 _ _ _ _ kT) _ rfl rfl ?_)
                  refine ⟨trivial, ?_⟩
                  simp only [zzA, zzB, zzC, Act.put, zzD, zzE, zzF]
                  refine tk 12 (.int .u8 (tv : Int)) rfl (by kernel_rfl) (fun _ _ _ h => nomatch h.1) rfl (fun _ hS => exec_sub8 rfl rfl rfl hsub8 _) trivial ?_
                  simp only [zzA, zzB, zzC, Act.put, zzD, zzE, zzF]
                  refine wpAnyH_all (rs := [5]) (by kernel_rfl) (by simp) ?_
                  intro k hk
                  simp only [List.mem_cons, List.mem_nil_iff, or_false] at hk
                  subst hk
                  refine wpOp_run rfl rfl (wp_ldG lB _ rfl rfl ?_)
                  refine ⟨trivial, ?_⟩
                  simp only [zzA, zzB, zzC, Act.put, zzD, zzE, zzF]
                  refine tk 7 (.slice a2 m2 c2) rfl (by kernel_rfl) (fun _ _ _ h => nomatch h.1) rfl (fun _ hS => exec_sliceT (v := vv) (lo := .int .i64 4) rfl rfl rfl hsl _) trivial ?_
                  simp only [zzA, zzB, zzC, Act.put, zzD, zzE, zzF]
                  refine tk 13 (.pointer (some ⟨T, 0, none⟩)) rfl (by kernel_rfl) (fun _ _ _ h => nomatch h.1) rfl (fun _ hS => by simp [execOp, go_sem, Act.eval]) trivial ?_
                  simp only [zzA, zzB, zzC, Act.put, zzD, zzE, zzF]
                  refine tk 14 (.pointer (some ⟨T, 5, none⟩)) rfl (by kernel_rfl) (fun _ _ _ h => nomatch h.1) rfl (fun _ hS => by simp [execOp, go_sem, Act.eval]) trivial ?_
                  simp only [zzA, zzB, zzC, Act.put, zzD, zzE, zzF]
                  refine wpAnyH_all (rs := [15]) (by kernel_rfl) (by simp) ?_
                  intro k hk
                  simp only [List.mem_cons, List.mem_nil_iff, or_false] at hk
                  subst hk
                  refine wpOp_run rfl rfl (wp_store_cell 47 _ _ rfl T 5 rfl (.slice a2 m2 c2) rfl (store_bytes _ T 5 _ _ _ _ kB zB) ?_)
                  refine ⟨trivial, ?_⟩
                  simp only [zzA, zzB, zzC, Act.put, zzD, zzE, zzF]
                  refine tk 16 (.pointer (some ⟨T, 0, none⟩)) rfl (by kernel_rfl) (fun _ _ _ h => nomatch h.1) rfl (fun _ hS => by simp [execOp, go_sem, Act.eval]) trivial ?_
                  simp only [zzA, zzB, zzC, Act.put, zzD, zzE, zzF]
                  refine tk 17 (.pointer (some ⟨T, 4, none⟩)) rfl (by kernel_rfl) (fun _ _ _ h => nomatch h.1) rfl (fun _ hS => by simp [execOp, go_sem, Act.eval]) trivial ?_
                  simp only [zzA, zzB, zzC, Act.put, zzD, zzE, zzF]
                  refine wpAnyH_all (rs := [18]) (by kernel_rfl) (by simp) ?_
                  intro k hk
                  simp only [List.mem_cons, List.mem_nil_iff, or_false] at hk
                  subst hk
                  refine wpOp_run rfl rfl (wp_store_cell 5 _ _ rfl T 4 rfl (.int .u8 (tv : Int)) rfl (store_u8 _ T 4 _ _ kT2 zT2) ?_)
                  refine ⟨trivial, ?_⟩
                  simp only [zzA, zzB, zzC, Act.put, zzD, zzE, zzF]
                  refine wpAnyH_done (by kernel_rfl) ?_ _
                  exact ⟨rfl, 0, rfl, rfl⟩
              intro u y hI
              simp only [Act.put, List.setIfInBounds_toArray, List.set_cons_succ, List.set_cons_zero]
              rw [← hI] at M6 HQ6
              clear hI kB zB kT kT2 zT2 D5 hsl lB
              obtain ⟨cT0, cT1, cT2, cT3, cT4, cT5, cT6⟩ := M6.out.head.c
              have x6 := HQ6.out.c0
              have z6 := HQ6.out.zz 0
              have e60 : (({ pn s with b0 := .ofNat (T0 + 6) } : F8).b0.toNat : Int) = (T0 : Int) + 6 := by show ((UInt8.ofNat (T0 + 6)).toNat : Int) = _; rw [un _ (by omega)] <;> omega
              rw [e60] at x6
              have cT5' : y.cell? ⟨T, 5, none⟩ = some (.slice a2 m2 c2) := by
                have h9 : y.cell? ⟨T, 5, none⟩ = some (.slice a2 (s.bs.drop 4).length c2) := cT5
                rw [List.length_drop, hm2] at h9
                exact h9
              clear cT5
              clear e60 x0 z0
              have hm0 : m2 = 0 := by omega
              subst hm0
              have q7 : Qb z (told s) (y.setCell ⟨z, 0, none⟩ (.int .u8 ((T0 : Int) + 7))) := HQ6.out.set 0 _ (by
                have h1 : ((UInt8.ofNat (T0 + 7)).toNat : Int) = (T0 : Int) + 7 := by rw [un _ (by omega)] <;> omega
                have h2 : told s = { pn s with b0 := .ofNat (T0 + 7) } := by unfold told pn; rw [hn0, hT0]; rfl
                rw [h2]
                exact F8.set0 _ _ _ h1.symm)
              have M7 := mf_cell M6.out HQ6.out hzV (Kp.cell1 y z 0 (.int .u8 ((T0 : Int) + 7)))
              have hadd1 : (T0 : Int) + 6 + 1 = (T0 : Int) + 7 := by omega
              obtain ⟨w7, hw7⟩ : ∃ x, y.setCell ⟨z, 0, none⟩ (.int .u8 ((T0 : Int) + 7)) = x := ⟨_, rfl⟩
              rw [hw7] at q7 M7
              have hRs := Rests_any M7.head
              have HTO2 := hidOf2 (show telO its s q = (.ok (told s), its, Ss.nul) from by rw [HTO.out, if_pos (by omega)])
              have HM7 := hidOf2 M7
              have HQ7 := hidOf2 q7
              have o9 : IntKind.u8.wrap ((T0 : Int) + 6 + 1) = (T0 : Int) + 7 := by simp [IntKind.wrap, IntKind.bits, IntKind.signed]; omega
              clear M7 q7 M6 HQ6 cT0 cT1 cT2 cT3 cT4 cT6 hadd1
              go_wp2_with fail
              refine hRs.mono ?_
              rintro e w8 ⟨rfl, d8, K8⟩
              have q8 : Qb z (told s) w8 := (K8.block _ HQ7.out.lt (by simp; omega)).trans HQ7.out
              have r8 : Qb (k + 1) F8.nul w8 := (K8.block _ HM7.out.an.lt (by simp; omega)).trans HM7.out.an
              have l8 := q8.load
              have r9 := r8.row (told s)
              have r8l := r8.lt
              have HZ : Hid (Dv T E its Ss.nul none 0 (w8.setRow (k + 1) (told s).arr) ∧ Kp [T, E] w (w8.setRow (k + 1) (told s).arr)) := by
                obtain ⟨vL, vV, hr⟩ := HM7.out.rd
                exact ⟨Dv.nul ⟨vL, vV, (hr.kpT HM7.out.head K8).row r8 _⟩ ((setRow_other _ _ _ _ (by omega)).trans d8) hET HH0.out.len HH0.out.oks HH0.out.nod, (((Kp.of_below (bs := [T, E]) HB0.out).fresh HM7.out.kp (fun b hb => .inl (by simp at hb; simp [hb]))).fresh K8 (fun b hb => .inl (by simp at hb; simp [hb]))).fresh (Kp.setRow1 _ _ _) (fun b hb => .inr (by simp at hb; omega))⟩
              clear hRs d8 K8 HM7 HQ7
              go_wp2_with (first | (refine ldG l8 rfl _ rfl rfl ?_) | (refine sdF (g := told s) r8 rfl _ _ rfl rfl rfl ?_))
              exact bodyPost_ret (gs_results r9 _ rfl) rfl (HRP.out _ HTO2.out _ _ ⟨rfl, none, 0, HZ.out.1, HZ.out.2, fun b hb => by simp [blk] at hb⟩)
            · subst hc
              obtain rfl : j = 5 := by omega
              rw [show ((5 : Nat) : Int) = 5 from rfl]
              have hn0 : s.bs.length = 5 := by omega
              have hgk := gk_end s 5 (by omega) (by omega)
              rw [hgk] at HQ
              have M3 := hidOf2 (mf_cell MX.out HY3.out hzV HK.out)
              have x0 := HQ.out.c0
              have z0 := HQ.out.zz 0
              have q5 : Qb z { pn s with b0 := .ofNat (T0 + 4) } (wr.setCell ⟨z, 0, none⟩ (.int .u8 ((T0 : Int) + 4))) := HQ.out.set 0 _ (by
                have : ((UInt8.ofNat (T0 + 4)).toNat : Int) = (T0 : Int) + 4 := by rw [un _ (by omega)] <;> omega
                exact F8.set0 _ _ _ this.symm)
              have M5 := mf_cell M3.out HQ.out hzV (Kp.cell1 wr z 0 (.int .u8 ((T0 : Int) + 4)))
              have B5 : Bytes (wr.setCell ⟨z, 0, none⟩ (.int .u8 ((T0 : Int) + 4))) (.slice ao s.bs.length cp) s.bs := HBY.out _ M5
              obtain ⟨a2, c2, hsl, hB4, hC4, hO4⟩ := bslice_t B5 hcap.out 5 (by omega)
              obtain ⟨w5, hw5⟩ : ∃ x, wr.setCell ⟨z, 0, none⟩ (.int .u8 ((T0 : Int) + 4)) = x := ⟨_, rfl⟩
              rw [hw5] at q5 M5 B5
              obtain ⟨m2, hm2⟩ : ∃ x, s.bs.length - 5 = x := ⟨_, rfl⟩
              rw [hm2] at hsl hB4 hC4 hO4
              obtain ⟨vv, hvv⟩ : ∃ v, Value.slice ao s.bs.length cp = v := ⟨_, rfl⟩
              rw [hvv] at hsl
              change ∀ W, (Instr.sliceAt 47 vv (some (.int .i64 5)) none none).run Tryz.prog W = .ok (.slice a2 m2 c2) W at hsl
              have D5 : Mf T E k its q s ao cp V w5.drew := M5.below (bdr (Below.refl _ w5) 1)
              have kB : w5.drew.cell? ⟨T, 5, none⟩ = some vv := by rw [← hvv]; exact D5.head.c.2.2.2.2.2.1
              have zB := D5.head.zz 5
              have lB : (loadVar 47 ⟨T, 5, none⟩).run Tryz.prog w5.drew = .ok vv w5.drew := by rw [← hvv]; exact load_bytes _ _ _ _ _ _ D5.head.c.2.2.2.2.2.1
              have kT := D5.head.c.2.2.2.2.1
              have kT2 : (w5.drew.setCell ⟨T, 5, none⟩ (.slice a2 m2 c2)).cell? ⟨T, 4, none⟩ = some (.int .u8 (s.tn : Int)) := (D5.setB2 (n := m2) (ap := a2) (cq := c2) (s.bs.drop 5) (by rw [List.length_drop]; exact hm2) hTk).head.c.2.2.2.2.1
              have zT2 := (D5.setB2 (n := m2) (ap := a2) (cq := c2) (s.bs.drop 5) (by rw [List.length_drop]; exact hm2) hTk).head.zz 4
              have M6 := hidOf2 ((D5.setB2 (n := m2) (ap := a2) (cq := c2) (s.bs.drop 5) (by rw [List.length_drop]; exact hm2) hTk).setT tv hTk)
              have q6 : Qb z { pn s with b0 := .ofNat (T0 + 4) } ((w5.drew.setCell ⟨T, 5, none⟩ (.slice a2 m2 c2)).setCell ⟨T, 4, none⟩ (.int .u8 (tv : Int))) := ((q5.below (bdr (Below.refl _ w5) 1)).other (by show z ≠ T; omega) _).other (by show z ≠ T; omega) _
              have HQ6 := hidOf2 q6
              have HM5 := hidOf2 M5
              clear hgk M3 q5 q6 M5 B5 hvv HK HQ HY3 MX
              go_upto_region 10 with fail
              refine wp_cut (α := Nat) (fun u y => y = (w5.drew.setCell ⟨T, 5, none⟩ (.slice a2 m2 c2)).setCell ⟨T, 4, none⟩ (.int .u8 (tv : Int))) (fun a u => (((((((((((((((((a.put (some 59) (.pointer (some ⟨T, 0, none⟩))).put (some 60) (.pointer (some ⟨T, 0, none⟩))).put (some 61) (.pointer (some ⟨T, 0, none⟩))).put (some 62) (.pointer (some ⟨T, 0, none⟩))).put (some 63) (.pointer (some ⟨T, 5, none⟩))).put (some 64) (vv)).put (some 65) (.int .i64 5)).put (some 66) (.slice a2 m2 c2)).put (some 67) (.pointer (some ⟨T, 0, none⟩))).put (some 68) (.pointer (some ⟨T, 0, none⟩))).put (some 69) (.pointer (some ⟨T, 4, none⟩))).put (some 70) (.int .u8 (s.tn : Int))).put (some 71) (.int .u8 (tv : Int))).put (some 72) (.pointer (some ⟨T, 0, none⟩))).put (some 73) (.pointer (some ⟨T, 5, none⟩))).put (some 74) (.pointer (some ⟨T, 0, none⟩))).put (some 75) (.pointer (some ⟨T, 4, none⟩)))) ?_ ?_
              · refine wp_region_held (S := fun _ => True) (by kernel_rfl) ?_
                change wpAnyH _ _ _ _ _ _ _ _ w5.drew
                refine tk 0 (.pointer (some ⟨T, 0, none⟩)) rfl (by kernel_rfl) (fun _ _ _ h => nomatch h.1) rfl (fun _ hS => rfl) trivial ?_
                simp only [zzA, zzB, zzC, Act.put, zzD, zzE, zzF]
                refine tk 1 (.pointer (some ⟨T, 0, none⟩)) rfl (by kernel_rfl) (fun _ _ _ h => nomatch h.1) rfl (fun _ hS => rfl) trivial ?_
                simp only [zzA, zzB, zzC, Act.put, zzD, zzE, zzF]
                refine tk 2 (.pointer (some ⟨T, 0, none⟩)) rfl (by kernel_rfl) (fun _ _ _ h => nomatch h.1) rfl (fun _ hS => rfl) trivial ?_
                simp only [zzA, zzB, zzC, Act.put, zzD, zzE, zzF]
                refine tk 3 (.pointer (some ⟨T, 0, none⟩)) rfl (by kernel_rfl) (fun _ _ _ h => nomatch h.1) rfl (fun _ hS => by simp [execOp, go_sem, Act.eval]) trivial ?_
                simp only [zzA, zzB, zzC, Act.put, zzD, zzE, zzF]
                refine tk 4 (.pointer (some ⟨T, 5, none⟩)) rfl (by kernel_rfl) (fun _ _ _ h => nomatch h.1) rfl (fun _ hS => by simp [execOp, go_sem, Act.eval]) trivial ?_
                simp only [zzA, zzB, zzC, Act.put, zzD, zzE, zzF]
                refine tk 6 (.int .i64 5) rfl (by kernel_rfl) (fun _ _ _ h => nomatch h.1) rfl (fun _ hS => rfl) trivial ?_
                simp only [zzA, zzB, zzC, Act.put, zzD, zzE, zzF]
                refine tk 8 (.pointer (some ⟨T, 0, none⟩)) rfl (by kernel_rfl) (fun _ _ _ h => nomatch h.1) rfl (fun _ hS => rfl) trivial ?_
                simp only [zzA, zzB, zzC, Act.put, zzD, zzE, zzF]
                refine tk 9 (.pointer (some ⟨T, 0, none⟩)) rfl (by kernel_rfl) (fun _ _ _ h => nomatch h.1) rfl (fun _ hS => by simp [execOp, go_sem, Act.eval]) trivial ?_
                simp only [zzA, zzB, zzC, Act.put, zzD, zzE, zzF]
                refine tk 10 (.pointer (some ⟨T, 4, none⟩)) rfl (by kernel_rfl) (fun _ _ _ h => nomatch h.1) rfl (fun _ hS => by simp [execOp, go_sem, Act.eval]) trivial ?_
                simp only [zzA, zzB, zzC, Act.put, zzD, zzE, zzF]
                refine wpAnyH_all (rs := [5, 11]) (by kernel_rfl) (by simp) ?_
                intro k hk
                simp only [List.mem_cons, List.mem_nil_iff, or_false] at hk
                rcases hk with rfl | rfl
                · refine wpOp_run rfl rfl (wp_ldG lB _ rfl rfl ?_)
                  refine ⟨trivial, ?_⟩
                  simp only [zzA, zzB, zzC, Act.put, zzD, zzE, zzF]
                  refine tk 7 (.slice a2 m2 c2) rfl (by kernel_rfl) (fun _ _ _ h => nomatch h.1) rfl (fun _ hS => exec_sliceT (v := vv) (lo := .int .i64 5) rfl rfl rfl hsl _) trivial ?_
                  simp only [zzA, zzB, zzC, Act.put, zzD, zzE, zzF]
                  refine wpAnyH_all (rs := [11]) (by kernel_rfl) (by simp) ?_
                  intro k hk
                  simp only [List.mem_cons, List.mem_nil_iff, or_false] at hk
                  subst hk
                  refine wpOp_run rfl rfl (wp_ldG (load_u8 _ _ _ _ kT) _ rfl rfl ?_)
                  refine ⟨trivial, ?_⟩
                  simp only [zzA, zzB, zzC, Act.put, zzD, zzE, zzF]
                  refine tk 12 (.int .u8 (tv : Int)) rfl (by kernel_rfl) (fun _ _ _ h => nomatch h.1) rfl (fun _ hS => exec_sub8 rfl rfl rfl hsub8 _) trivial ?_
                  simp only [zzA, zzB, zzC, Act.put, zzD, zzE, zzF]
                  refine tk 13 (.pointer (some ⟨T, 0, none⟩)) rfl (by kernel_rfl) (fun _ _ _ h => nomatch h.1) rfl (fun _ hS => by simp [execOp, go_sem, Act.eval]) trivial ?_
                  simp only [zzA, zzB, zzC, Act.put, zzD, zzE, zzF]
                  refine tk 14 (.pointer (some ⟨T, 5, none⟩)) rfl (by kernel_rfl) (fun _ _ _ h => nomatch h.1) rfl (fun _ hS => by simp [execOp, go_sem, Act.eval]) trivial ?_
                  simp only [zzA, zzB, zzC, Act.put, zzD, zzE, zzF]
                  refine wpAnyH_all (rs := [15]) (by kernel_rfl) (by simp) ?_
                  intro k hk
                  simp only [List.mem_cons, List.mem_nil_iff, or_false] at hk
                  subst hk
                  refine wpOp_run rfl rfl (wp_store_cell 47 _ _ rfl T 5 rfl (.slice a2 m2 c2) rfl (store_bytes _ T 5 _ _ _ _ kB zB) ?_)
                  refine ⟨trivial, ?_⟩
                  simp only [zzA, zzB, zzC, Act.put, zzD, zzE, zzF]
                  refine tk 16 (.pointer (some ⟨T, 0, none⟩)) rfl (by kernel_rfl) (fun _ _ _ h => nomatch h.1) rfl (fun _ hS => by simp [execOp, go_sem, Act.eval]) trivial ?_
                  simp only [zzA, zzB, zzC, Act.put, zzD, zzE, zzF]
                  refine tk 17 (.pointer (some ⟨T, 4, none⟩)) rfl (by kernel_rfl) (fun _ _ _ h => nomatch h.1) rfl (fun _ hS => by simp [execOp, go_sem, Act.eval]) trivial ?_
                  simp only [zzA, zzB, zzC, Act.put, zzD, zzE, zzF]
                  refine wpAnyH_all (rs := [18]) (by kernel_rfl) (by simp) ?_
                  intro k hk
                  simp only [List.mem_cons, List.mem_nil_iff, or_false] at hk
                  subst hk
                  refine wpOp_run rfl rfl (wp_store_cell 5 _ _ rfl T 4 rfl (.int .u8 (tv : Int)) rfl (store_u8 _ T 4 _ _ kT2 zT2) ?_)
                  refine ⟨trivial, ?_⟩
                  simp only [zzA, zzB, zzC, Act.put, zzD, zzE, zzF]
                  refine wpAnyH_done (by kernel_rfl) ?_ _
                  exact ⟨rfl, 0, rfl, rfl⟩
                · refine wpOp_run rfl rfl (wp_ldG (load_u8 _ _ _ _ kT) _ rfl rfl ?_)
                  refine ⟨trivial, ?_⟩
                  simp only [zzA, zzB, zzC, Act.put, zzD, zzE, zzF]
                  refine tk 12 (.int .u8 (tv : Int)) rfl (by kernel_rfl) (fun _ _ _ h => nomatch h.1) rfl (fun _ hS => exec_sub8 rfl rfl rfl hsub8 _) trivial ?_
                  simp only [zzA, zzB, zzC, Act.put, zzD, zzE, zzF]
                  refine wpAnyH_all (rs := [5]) (by kernel_rfl) (by simp) ?_
                  intro k hk
                  simp only [List.mem_cons, List.mem_nil_iff, or_false] at hk
                  subst hk
                  refine wpOp_run rfl rfl (wp_ldG lB _ rfl rfl ?_)
                  refine ⟨trivial, ?_⟩
                  simp only [zzA, zzB, zzC, Act.put, zzD, zzE, zzF]
                  refine tk 7 (.slice a2 m2 c2) rfl (by kernel_rfl) (fun _ _ _ h => nomatch h.1) rfl (fun _ hS => exec_sliceT (v := vv) (lo := .int .i64 5) rfl rfl rfl hsl _) trivial ?_
                  simp only [zzA, zzB, zzC, Act.put, zzD, zzE, zzF]
                  refine tk 13 (.pointer (some ⟨T, 0, none⟩)) rfl (by kernel_rfl) (fun _ _ _ h => nomatch h.1) rfl (fun _ hS => by simp [execOp, go_sem, Act.eval]) trivial ?_
                  simp only [zzA, zzB, zzC, Act.put, zzD, zzE, zzF]
                  refine tk 14 (.pointer (some ⟨T, 5, none⟩)) rfl (by kernel_rfl) (fun _ _ _ h => nomatch h.1) rfl (fun _ hS => by simp [execOp, go_sem, Act.eval]) trivial ?_
                  simp only [zzA, zzB, zzC, Act.put, zzD, zzE, zzF]
                  refine wpAnyH_all (rs := [15]) (by kernel_rfl) (by simp) ?_
                  intro k hk
                  simp only [List.mem_cons, List.mem_nil_iff, or_false] at hk
                  subst hk
                  refine wpOp_run rfl rfl (wp_store_cell 47 _ _ rfl T 5 rfl (.slice a2 m2 c2) rfl (store_bytes _ T 5 _ _ _ _ kB zB) ?_)
                  refine ⟨trivial, ?_⟩
                  simp only [zzA, zzB, zzC, Act.put, zzD, zzE, zzF]
                  refine tk 16 (.pointer (some ⟨T, 0, none⟩)) rfl (by kernel_rfl) (fun _ _ _ h => nomatch h.1) rfl (fun _ hS => by simp [execOp, go_sem, Act.eval]) trivial ?_
                  simp only [zzA, zzB, zzC, Act.put, zzD, zzE, zzF]
                  refine tk 17 (.pointer (some ⟨T, 4, none⟩)) rfl (by kernel_rfl) (fun _ _ _ h => nomatch h.1) rfl (fun _ hS => by simp [execOp, go_sem, Act.eval]) trivial ?_
                  simp only [zzA, zzB, zzC, Act.put, zzD, zzE, zzF]
                  refine wpAnyH_all (rs := [18]) (by kernel_rfl) (by simp) ?_
                  intro k hk
                  simp only [List.mem_cons, List.mem_nil_iff, or_false] at hk
                  subst hk
                  refine wpOp_run rfl rfl (wp_store_cell 5 _ _ rfl T 4 rfl (.int .u8 (tv : Int)) rfl (store_u8 _ T 4 _ _ kT2 zT2) ?_)
                  refine ⟨trivial, ?_⟩
                  simp only [zzA, zzB, zzC, Act.put, zzD, zzE, zzF]
                  refine wpAnyH_done (by kernel_rfl) ?_ _
                  exact ⟨rfl, 0, rfl, rfl⟩
              intro u y hI
              simp only [Act.put, List.setIfInBounds_toArray, List.set_cons_succ, List.set_cons_zero]
              rw [← hI] at M6 HQ6
              clear hI kB zB kT kT2 zT2 D5 hsl lB
              obtain ⟨cT0, cT1, cT2, cT3, cT4, cT5, cT6⟩ := M6.out.head.c
              have x6 := HQ6.out.c0
              have z6 := HQ6.out.zz 0
              have e60 : (({ pn s with b0 := .ofNat (T0 + 4) } : F8).b0.toNat : Int) = (T0 : Int) + 4 := by show ((UInt8.ofNat (T0 + 4)).toNat : Int) = _; rw [un _ (by omega)] <;> omega
              rw [e60] at x6
              have cT5' : y.cell? ⟨T, 5, none⟩ = some (.slice a2 m2 c2) := by
                have h9 : y.cell? ⟨T, 5, none⟩ = some (.slice a2 (s.bs.drop 5).length c2) := cT5
                rw [List.length_drop, hm2] at h9
                exact h9
              clear cT5
              clear e60 x0 z0
              have hm0 : m2 = 0 := by omega
              subst hm0
              have q7 : Qb z (told s) (y.setCell ⟨z, 0, none⟩ (.int .u8 ((T0 : Int) + 5))) := HQ6.out.set 0 _ (by
                have h1 : ((UInt8.ofNat (T0 + 5)).toNat : Int) = (T0 : Int) + 5 := by rw [un _ (by omega)] <;> omega
                have h2 : told s = { pn s with b0 := .ofNat (T0 + 5) } := by unfold told pn; rw [hn0, hT0]; rfl
                rw [h2]
                exact F8.set0 _ _ _ h1.symm)
              have M7 := mf_cell M6.out HQ6.out hzV (Kp.cell1 y z 0 (.int .u8 ((T0 : Int) + 5)))
              have hadd1 : (T0 : Int) + 4 + 1 = (T0 : Int) + 5 := by omega
              obtain ⟨w7, hw7⟩ : ∃ x, y.setCell ⟨z, 0, none⟩ (.int .u8 ((T0 : Int) + 5)) = x := ⟨_, rfl⟩
              rw [hw7] at q7 M7
              have hRs := Rests_any M7.head
              have HTO2 := hidOf2 (show telO its s q = (.ok (told s), its, Ss.nul) from by rw [HTO.out, if_pos (by omega)])
              have HM7 := hidOf2 M7
              have HQ7 := hidOf2 q7
              have o9 : IntKind.u8.wrap ((T0 : Int) + 4 + 1) = (T0 : Int) + 5 := by simp [IntKind.wrap, IntKind.bits, IntKind.signed]; omega
              clear M7 q7 M6 HQ6 cT0 cT1 cT2 cT3 cT4 cT6 hadd1
              go_wp2_with fail
              refine hRs.mono ?_
              rintro e w8 ⟨rfl, d8, K8⟩
              have q8 : Qb z (told s) w8 := (K8.block _ HQ7.out.lt (by simp; omega)).trans HQ7.out
              have r8 : Qb (k + 1) F8.nul w8 := (K8.block _ HM7.out.an.lt (by simp; omega)).trans HM7.out.an
              have l8 := q8.load
              have r9 := r8.row (told s)
              have r8l := r8.lt
              have HZ : Hid (Dv T E its Ss.nul none 0 (w8.setRow (k + 1) (told s).arr) ∧ Kp [T, E] w (w8.setRow (k + 1) (told s).arr)) := by
                obtain ⟨vL, vV, hr⟩ := HM7.out.rd
                exact ⟨Dv.nul ⟨vL, vV, (hr.kpT HM7.out.head K8).row r8 _⟩ ((setRow_other _ _ _ _ (by omega)).trans d8) hET HH0.out.len HH0.out.oks HH0.out.nod, (((Kp.of_below (bs := [T, E]) HB0.out).fresh HM7.out.kp (fun b hb => .inl (by simp at hb; simp [hb]))).fresh K8 (fun b hb => .inl (by simp at hb; simp [hb]))).fresh (Kp.setRow1 _ _ _) (fun b hb => .inr (by simp at hb; omega))⟩
              clear hRs d8 K8 HM7 HQ7
              go_wp2_with (first | (refine ldG l8 rfl _ rfl rfl ?_) | (refine sdF (g := told s) r8 rfl _ _ rfl rfl rfl ?_))
              exact bodyPost_ret (gs_results r9 _ rfl) rfl (HRP.out _ HTO2.out _ _ ⟨rfl, none, 0, HZ.out.1, HZ.out.2, fun b hb => by simp [blk] at hb⟩)
            · subst hc
              obtain rfl : j = 6 := by omega
              rw [show ((6 : Nat) : Int) = 6 from rfl]
              have hn0 : s.bs.length = 6 := by omega
              have hgk := gk_end s 6 (by omega) (by omega)
              rw [hgk] at HQ
              have M3 := hidOf2 (mf_cell MX.out HY3.out hzV HK.out)
              have x0 := HQ.out.c0
              have z0 := HQ.out.zz 0
              have q5 : Qb z { pn s with b0 := .ofNat (T0 + 2) } (wr.setCell ⟨z, 0, none⟩ (.int .u8 ((T0 : Int) + 2))) := HQ.out.set 0 _ (by
                have : ((UInt8.ofNat (T0 + 2)).toNat : Int) = (T0 : Int) + 2 := by rw [un _ (by omega)] <;> omega
                exact F8.set0 _ _ _ this.symm)
              have M5 := mf_cell M3.out HQ.out hzV (Kp.cell1 wr z 0 (.int .u8 ((T0 : Int) + 2)))
              have B5 : Bytes (wr.setCell ⟨z, 0, none⟩ (.int .u8 ((T0 : Int) + 2))) (.slice ao s.bs.length cp) s.bs := HBY.out _ M5
              obtain ⟨a2, c2, hsl, hB4, hC4, hO4⟩ := bslice_t B5 hcap.out 6 (by omega)
              obtain ⟨w5, hw5⟩ : ∃ x, wr.setCell ⟨z, 0, none⟩ (.int .u8 ((T0 : Int) + 2)) = x := ⟨_, rfl⟩
              rw [hw5] at q5 M5 B5
              obtain ⟨m2, hm2⟩ : ∃ x, s.bs.length - 6 = x := ⟨_, rfl⟩
              rw [hm2] at hsl hB4 hC4 hO4
              obtain ⟨vv, hvv⟩ : ∃ v, Value.slice ao s.bs.length cp = v := ⟨_, rfl⟩
              rw [hvv] at hsl
              change ∀ W, (Instr.sliceAt 47 vv (some (.int .i64 6)) none none).run Tryz.prog W = .ok (.slice a2 m2 c2) W at hsl
              have D5 : Mf T E k its q s ao cp V w5.drew := M5.below (bdr (Below.refl _ w5) 1)
              have kB : w5.drew.cell? ⟨T, 5, none⟩ = some vv := by rw [← hvv]; exact D5.head.c.2.2.2.2.2.1
              have zB := D5.head.zz 5
              have lB : (loadVar 47 ⟨T, 5, none⟩).run Tryz.prog w5.drew = .ok vv w5.drew := by rw [← hvv]; exact load_bytes _ _ _ _ _ _ D5.head.c.2.2.2.2.2.1
              have kT := D5.head.c.2.2.2.2.1
              have kT2 : (w5.drew.setCell ⟨T, 5, none⟩ (.slice a2 m2 c2)).cell? ⟨T, 4, none⟩ = some (.int .u8 (s.tn : Int)) := (D5.setB2 (n := m2) (ap := a2) (cq := c2) (s.bs.drop 6) (by rw [List.length_drop]; exact hm2) hTk).head.c.2.2.2.2.1
              have zT2 := (D5.setB2 (n := m2) (ap := a2) (cq := c2) (s.bs.drop 6) (by rw [List.length_drop]; exact hm2) hTk).head.zz 4
              have M6 := hidOf2 ((D5.setB2 (n := m2) (ap := a2) (cq := c2) (s.bs.drop 6) (by rw [List.length_drop]; exact hm2) hTk).setT tv hTk)
              have q6 : Qb z { pn s with b0 := .ofNat (T0 + 2) } ((w5.drew.setCell ⟨T, 5, none⟩ (.slice a2 m2 c2)).setCell ⟨T, 4, none⟩ (.int .u8 (tv : Int))) := ((q5.below (bdr (Below.refl _ w5) 1)).other (by show z ≠ T; omega) _).other (by show z ≠ T; omega) _
              have HQ6 := hidOf2 q6
              have HM5 := hidOf2 M5
              clear hgk M3 q5 q6 M5 B5 hvv HK HQ HY3 MX
              go_upto_region 10 with fail
              refine wp_cut (α := Nat) (fun u y => y = (w5.drew.setCell ⟨T, 5, none⟩ (.slice a2 m2 c2)).setCell ⟨T, 4, none⟩ (.int .u8 (tv : Int))) (fun a u => (((((((((((((((((a.put (some 59) (.pointer (some ⟨T, 0, none⟩))).put (some 60) (.pointer (some ⟨T, 0, none⟩))).put (some 61) (.pointer (some ⟨T, 0, none⟩))).put (some 62) (.pointer (some ⟨T, 0, none⟩))).put (some 63) (.pointer (some ⟨T, 5, none⟩))).put (some 64) (vv)).put (some 65) (.int .i64 6)).put (some 66) (.slice a2 m2 c2)).put (some 67) (.pointer (some ⟨T, 0, none⟩))).put (some 68) (.pointer (some ⟨T, 0, none⟩))).put (some 69) (.pointer (some ⟨T, 4, none⟩))).put (some 70) (.int .u8 (s.tn : Int))).put (some 71) (.int .u8 (tv : Int))).put (some 72) (.pointer (some ⟨T, 0, none⟩))).put (some 73) (.pointer (some ⟨T, 5, none⟩))).put (some 74) (.pointer (some ⟨T, 0, none⟩))).put (some 75) (.pointer (some ⟨T, 4, none⟩)))) ?_ ?_
              · refine wp_region_held (S := fun _ => True) (by kernel_rfl) ?_
                change wpAnyH _ _ _ _ _ _ _ _ w5.drew
                refine tk 0 (.pointer (some ⟨T, 0, none⟩)) rfl (by kernel_rfl) (fun _ _ _ h => nomatch h.1) rfl (fun _ hS => rfl) trivial ?_
                simp only [zzA, zzB, zzC, Act.put, zzD, zzE, zzF]
                refine tk 1 (.pointer (some ⟨T, 0, none⟩)) rfl (by kernel_rfl) (fun _ _ _ h => nomatch h.1) rfl (fun _ hS => rfl) trivial ?_
                simp only [zzA, zzB, zzC, Act.put, zzD, zzE, zzF]
                refine tk 2 (.pointer (some ⟨T, 0, none⟩)) rfl (by kernel_rfl) (fun _ _ _ h => nomatch h.1) rfl (fun _ hS => rfl) trivial ?_
                simp only [zzA, zzB, zzC, Act.put, zzD, zzE, zzF]
                refine tk 3 (.pointer (some ⟨T, 0, none⟩)) rfl (by kernel_rfl) (fun _ _ _ h => nomatch h.1) rfl (fun _ hS => by simp [execOp, go_sem, Act.eval]) trivial ?_
                simp only [zzA, zzB, zzC, Act.put, zzD, zzE, zzF]
                refine tk 4 (.pointer (some ⟨T, 5, none⟩)) rfl (by kernel_rfl) (fun _ _ _ h => nomatch h.1) rfl (fun _ hS => by simp [execOp, go_sem, Act.eval]) trivial ?_
                simp only [zzA, zzB, zzC, Act.put, zzD, zzE, zzF]
                refine tk 6 (.int .i64 6) rfl (by kernel_rfl) (fun _ _ _ h => nomatch h.1) rfl (fun _ hS => rfl) trivial ?_
                simp only [zzA, zzB, zzC, Act.put, zzD, zzE, zzF]
                refine tk 8 (.pointer (some ⟨T, 0, none⟩)) rfl (by kernel_rfl) (fun _ _ _ h => nomatch h.1) rfl (fun _ hS => rfl) trivial ?_
                simp only [zzA, zzB, zzC, Act.put, zzD, zzE, zzF]
                refine tk 9 (.pointer (some ⟨T, 0, none⟩)) rfl (by kernel_rfl) (fun _ _ _ h => nomatch h.1) rfl (fun _ hS => by simp [execOp, go_sem, Act.eval]) trivial ?_
                simp only [zzA, zzB, zzC, Act.put, zzD, zzE, zzF]
                refine tk 10 (.pointer (some ⟨T, 4, none⟩)) rfl (by kernel_rfl) (fun _ _ _ h => nomatch h.1) rfl (fun _ hS => by simp [execOp, go_sem, Act.eval]) trivial ?_
                simp only [zzA, zzB, zzC, Act.put, zzD, zzE, zzF]
                refine wpAnyH_all (rs := [5, 11]) (by kernel_rfl) (by simp) ?_
                intro k hk
                simp only [List.mem_cons, List.mem_nil_iff, or_false] at hk
                rcases hk with rfl | rfl
                · refine wpOp_run rfl rfl (wp_ldG lB _ rfl rfl ?_)
                  refine ⟨trivial, ?_⟩
                  simp only [zzA, zzB, zzC, Act.put, zzD, zzE, zzF]
                  refine tk 7 (.slice a2 m2 c2) rfl (by kernel_rfl) (fun _ _ _ h => nomatch h.1) rfl (fun _ hS => exec_sliceT (v := vv) (lo := .int .i64 6) rfl rfl rfl hsl _) trivial ?_
                  simp only [zzA, zzB, zzC, Act.put, zzD, zzE, zzF]
                  refine wpAnyH_all (rs := [11]) (by kernel_rfl) (by simp) ?_
                  intro k hk
                  simp only [List.mem_cons, List.mem_nil_iff, or_false] at hk
                  subst hk
                  refine wpOp_run rfl rfl (wp_ldG (load_u8 _ _ _ _ kT) _ rfl rfl ?_)
                  refine ⟨trivial, ?_⟩
                  simp only [zzA, zzB, zzC, Act.put, zzD, zzE, zzF]
                  refine tk 12 (.int .u8 (tv : Int)) rfl (by kernel_rfl) (fun _ _ _ h => nomatch h.1) rfl (fun _ hS => exec_sub8 rfl rfl rfl hsub8 _) trivial ?_
                  simp only [zzA, zzB, zzC, Act.put, zzD, zzE, zzF]
                  refine tk 13 (.pointer (some ⟨T, 0, none⟩)) rfl (by kernel_rfl) (fun _ _ _ h => nomatch h.1) rfl (fun _ hS => by simp [execOp, go_sem, Act.eval]) trivial ?_
                  simp only [zzA, zzB, zzC, Act.put, zzD, zzE, zzF]
                  refine tk 14 (.pointer (some ⟨T, 5, none⟩)) rfl (by kernel_rfl) (fun _ _ _ h => nomatch h.1) rfl (fun _ hS => by simp [execOp, go_sem, Act.eval]) trivial ?_
                  simp only [zzA, zzB, zzC, Act.put, zzD, zzE, zzF]
                  refine wpAnyH_all (rs := [15]) (by kernel_rfl) (by simp) ?_
                  intro k hk
                  simp only [List.mem_cons, List.mem_nil_iff, or_false] at hk
                  subst hk
                  refine wpOp_run rfl rfl (wp_store_cell 47 _ _ rfl T 5 rfl (.slice a2 m2 c2) rfl (store_bytes _ T 5 _ _ _ _ kB zB) ?_)
                  refine ⟨trivial, ?_⟩
                  simp only [zzA, zzB, zzC, Act.put, zzD, zzE, zzF]
                  refine tk 16 (.pointer (some ⟨T, 0, none⟩)) rfl (by kernel_rfl) (fun _ _ _ h => nomatch h.1) rfl (fun _ hS => by simp [execOp, go_sem, Act.eval]) trivial ?_
                  simp only [zzA, zzB, zzC, Act.put, zzD, zzE, zzF]
                  refine tk 17 (.pointer (some ⟨T, 4, none⟩)) rfl (by kernel_rfl) (fun _ _ _ h => nomatch h.1) rfl (fun _ hS => by simp [execOp, go_sem, Act.eval]) trivial ?_
                  simp only [zzA, zzB, zzC, Act.put, zzD, zzE, zzF]
                  refine wpAnyH_all (rs := [18]) (by kernel_rfl) (by simp) ?_
                  intro k hk
                  simp only [List.mem_cons, List.mem_nil_iff, or_false] at hk
                  subst hk
                  refine wpOp_run rfl rfl (wp_store_cell 5 _ _ rfl T 4 rfl (.int .u8 (tv : Int)) rfl (store_u8 _ T 4 _ _ kT2 zT2) ?_)
                  refine ⟨trivial, ?_⟩
                  simp only [zzA, zzB, zzC, Act.put, zzD, zzE, zzF]
                  refine wpAnyH_done (by kernel_rfl) ?_ _
                  exact ⟨rfl, 0, rfl, rfl⟩
                · refine wpOp_run rfl rfl (wp_ldG (load_u8 _ _ _ _ kT) _ rfl rfl ?_)
                  refine ⟨trivial, ?_⟩
                  simp only [zzA, zzB, zzC, Act.put, zzD, zzE, zzF]
                  refine tk 12 (.int .u8 (tv : Int)) rfl (by kernel_rfl) (fun _ _ _ h => nomatch h.1) rfl (fun _ hS => exec_sub8 rfl rfl rfl hsub8 _) trivial ?_
                  simp only [zzA, zzB, zzC, Act.put, zzD, zzE, zzF]
                  refine wpAnyH_all (rs := [5]) (by kernel_rfl) (by simp) ?_
                  intro k hk
                  simp only [List.mem_cons, List.mem_nil_iff, or_false] at hk
                  subst hk
                  refine wpOp_run rfl rfl (wp_ldG lB _ rfl rfl ?_)
                  refine ⟨trivial, ?_⟩
                  simp only [zzA, zzB, zzC, Act.put, zzD, zzE, zzF]
                  refine tk 7 (.slice a2 m2 c2) rfl (by kernel_rfl) (fun _ _ _ h => nomatch h.1) rfl (fun _ hS => exec_sliceT (v := vv) (lo := .int .i64 6) rfl rfl rfl hsl _) trivial ?_
                  simp only [zzA, zzB, zzC, Act.put, zzD, zzE, zzF]
                  refine tk 13 (.pointer (some ⟨T, 0, none⟩)) rfl (by kernel_rfl) (fun _ _ _ h => nomatch h.1) rfl (fun _ hS => by simp [execOp, go_sem, Act.eval]) trivial ?_
                  simp only [zzA, zzB, zzC, Act.put, zzD, zzE, zzF]
                  refine tk 14 (.pointer (some ⟨T, 5, none⟩)) rfl (by kernel_rfl) (fun _ _ _ h => nomatch h.1) rfl (fun _ hS => by simp [execOp, go_sem, Act.eval]) trivial ?_
                  simp only [zzA, zzB, zzC, Act.put, zzD, zzE, zzF]
                  refine wpAnyH_all (rs := [15]) (by kernel_rfl) (by simp) ?_
                  intro k hk
                  simp only [List.mem_cons, List.mem_nil_iff, or_false] at hk
                  subst hk
                  refine wpOp_run rfl rfl (wp_store_cell 47 _ _ rfl T 5 rfl (.slice a2 m2 c2) rfl (store_bytes _ T 5 _ _ _ _ kB zB) ?_)
                  refine ⟨trivial, ?_⟩
                  simp only [zzA, zzB, zzC, Act.put, zzD, zzE, zzF]
                  refine tk 16 (.pointer (some ⟨T, 0, none⟩)) rfl (by kernel_rfl) (fun _ _ _ h => nomatch h.1) rfl (fun _ hS => by simp [execOp, go_sem, Act.eval]) trivial ?_
                  simp only [zzA, zzB, zzC, Act.put, zzD, zzE, zzF]
                  refine tk 17 (.pointer (some ⟨T, 4, none⟩)) rfl (by kernel_rfl) (fun _ _ _ h => nomatch h.1) rfl (fun _ hS => by simp [execOp, go_sem, Act.eval]) trivial ?_
                  simp only [zzA, zzB, zzC, Act.put, zzD, zzE, zzF]
                  refine wpAnyH_all (rs := [18]) (by kernel_rfl) (by simp) ?_
                  intro k hk
                  simp only [List.mem_cons, List.mem_nil_iff, or_false] at hk
                  subst hk
                  refine wpOp_run rfl rfl (wp_store_cell 5 _ _ rfl T 4 rfl (.int .u8 (tv : Int)) rfl (store_u8 _ T 4 _ _ kT2 zT2) ?_)
                  refine ⟨trivial, ?_⟩
                  simp only [zzA, zzB, zzC, Act.put, zzD, zzE, zzF]
                  refine wpAnyH_done (by kernel_rfl) ?_ _
                  exact ⟨rfl, 0, rfl, rfl⟩
              intro u y hI
              simp only [Act.put, List.setIfInBounds_toArray, List.set_cons_succ, List.set_cons_zero]
              rw [← hI] at M6 HQ6
              clear hI kB zB kT kT2 zT2 D5 hsl lB
              obtain ⟨cT0, cT1, cT2, cT3, cT4, cT5, cT6⟩ := M6.out.head.c
              have x6 := HQ6.out.c0
              have z6 := HQ6.out.zz 0
              have e60 : (({ pn s with b0 := .ofNat (T0 + 2) } : F8).b0.toNat : Int) = (T0 : Int) + 2 := by show ((UInt8.ofNat (T0 + 2)).toNat : Int) = _; rw [un _ (by omega)] <;> omega
              rw [e60] at x6
              have cT5' : y.cell? ⟨T, 5, none⟩ = some (.slice a2 m2 c2) := by
                have h9 : y.cell? ⟨T, 5, none⟩ = some (.slice a2 (s.bs.drop 6).length c2) := cT5
                rw [List.length_drop, hm2] at h9
                exact h9
              clear cT5
              clear e60 x0 z0
              have hm0 : m2 = 0 := by omega
              subst hm0
              have q7 : Qb z (told s) (y.setCell ⟨z, 0, none⟩ (.int .u8 ((T0 : Int) + 3))) := HQ6.out.set 0 _ (by
                have h1 : ((UInt8.ofNat (T0 + 3)).toNat : Int) = (T0 : Int) + 3 := by rw [un _ (by omega)] <;> omega
                have h2 : told s = { pn s with b0 := .ofNat (T0 + 3) } := by unfold told pn; rw [hn0, hT0]; rfl
                rw [h2]
                exact F8.set0 _ _ _ h1.symm)
              have M7 := mf_cell M6.out HQ6.out hzV (Kp.cell1 y z 0 (.int .u8 ((T0 : Int) + 3)))
              have hadd1 : (T0 : Int) + 2 + 1 = (T0 : Int) + 3 := by omega
              obtain ⟨w7, hw7⟩ : ∃ x, y.setCell ⟨z, 0, none⟩ (.int .u8 ((T0 : Int) + 3)) = x := ⟨_, rfl⟩
              rw [hw7] at q7 M7
              have hRs := Rests_any M7.head
              have HTO2 := hidOf2 (show telO its s q = (.ok (told s), its, Ss.nul) from by rw [HTO.out, if_pos (by omega)])
              have HM7 := hidOf2 M7
              have HQ7 := hidOf2 q7
              have o9 : IntKind.u8.wrap ((T0 : Int) + 2 + 1) = (T0 : Int) + 3 := by simp [IntKind.wrap, IntKind.bits, IntKind.signed]; omega
              clear M7 q7 M6 HQ6 cT0 cT1 cT2 cT3 cT4 cT6 hadd1
              go_wp2_with fail
              refine hRs.mono ?_
              rintro e w8 ⟨rfl, d8, K8⟩
              have q8 : Qb z (told s) w8 := (K8.block _ HQ7.out.lt (by simp; omega)).trans HQ7.out
              have r8 : Qb (k + 1) F8.nul w8 := (K8.block _ HM7.out.an.lt (by simp; omega)).trans HM7.out.an
              have l8 := q8.load
              have r9 := r8.row (told s)
              have r8l := r8.lt
              have HZ : Hid (Dv T E its Ss.nul none 0 (w8.setRow (k + 1) (told s).arr) ∧ Kp [T, E] w (w8.setRow (k + 1) (told s).arr)) := by
                obtain ⟨vL, vV, hr⟩ := HM7.out.rd
                exact ⟨Dv.nul ⟨vL, vV, (hr.kpT HM7.out.head K8).row r8 _⟩ ((setRow_other _ _ _ _ (by omega)).trans d8) hET HH0.out.len HH0.out.oks HH0.out.nod, (((Kp.of_below (bs := [T, E]) HB0.out).fresh HM7.out.kp (fun b hb => .inl (by simp at hb; simp [hb]))).fresh K8 (fun b hb => .inl (by simp at hb; simp [hb]))).fresh (Kp.setRow1 _ _ _) (fun b hb => .inr (by simp at hb; omega))⟩
              clear hRs d8 K8 HM7 HQ7
              go_wp2_with (first | (refine ldG l8 rfl _ rfl rfl ?_) | (refine sdF (g := told s) r8 rfl _ _ rfl rfl rfl ?_))
              exact bodyPost_ret (gs_results r9 _ rfl) rfl (HRP.out _ HTO2.out _ _ ⟨rfl, none, 0, HZ.out.1, HZ.out.2, fun b hb => by simp [blk] at hb⟩)
        · obtain rfl : j = 7 := by omega
          rw [show ((7 : Nat) : Int) = 7 from rfl]
          obtain hc | hc : nn = 7 ∨ 7 < nn := by omega
          · subst hc
            have hn0 : s.bs.length = 7 := by omega
            have hgk := gk_end s 7 (by omega) (by omega)
            rw [hgk] at HQ
            have M3 := hidOf2 (mf_cell MX.out HY3.out hzV HK.out)
            have x0 := HQ.out.c0
            have z0 := HQ.out.zz 0
            have q5 : Qb z { pn s with b0 := .ofNat (T0) } (wr.setCell ⟨z, 0, none⟩ (.int .u8 ((T0 : Int)))) := HQ.out.set 0 _ (by
              have : ((UInt8.ofNat (T0)).toNat : Int) = (T0 : Int) := by rw [un _ (by omega)] <;> omega
              exact F8.set0 _ _ _ this.symm)
            have M5 := mf_cell M3.out HQ.out hzV (Kp.cell1 wr z 0 (.int .u8 ((T0 : Int))))
            have B5 : Bytes (wr.setCell ⟨z, 0, none⟩ (.int .u8 ((T0 : Int)))) (.slice ao s.bs.length cp) s.bs := HBY.out _ M5
            obtain ⟨a2, c2, hsl, hB4, hC4, hO4⟩ := bslice_t B5 hcap.out 7 (by omega)
            obtain ⟨w5, hw5⟩ : ∃ x, wr.setCell ⟨z, 0, none⟩ (.int .u8 ((T0 : Int))) = x := ⟨_, rfl⟩
            rw [hw5] at q5 M5 B5
            obtain ⟨m2, hm2⟩ : ∃ x, s.bs.length - 7 = x := ⟨_, rfl⟩
            rw [hm2] at hsl hB4 hC4 hO4
            obtain ⟨vv, hvv⟩ : ∃ v, Value.slice ao s.bs.length cp = v := ⟨_, rfl⟩
            rw [hvv] at hsl
            change ∀ W, (Instr.sliceAt 47 vv (some (.int .i64 7)) none none).run Tryz.prog W = .ok (.slice a2 m2 c2) W at hsl
            have D5 : Mf T E k its q s ao cp V w5.drew := M5.below (bdr (Below.refl _ w5) 1)
            have kB : w5.drew.cell? ⟨T, 5, none⟩ = some vv := by rw [← hvv]; exact D5.head.c.2.2.2.2.2.1
            have zB := D5.head.zz 5
            have lB : (loadVar 47 ⟨T, 5, none⟩).run Tryz.prog w5.drew = .ok vv w5.drew := by rw [← hvv]; exact load_bytes _ _ _ _ _ _ D5.head.c.2.2.2.2.2.1
            have kT := D5.head.c.2.2.2.2.1
            have kT2 : (w5.drew.setCell ⟨T, 5, none⟩ (.slice a2 m2 c2)).cell? ⟨T, 4, none⟩ = some (.int .u8 (s.tn : Int)) := (D5.setB2 (n := m2) (ap := a2) (cq := c2) (s.bs.drop 7) (by rw [List.length_drop]; exact hm2) hTk).head.c.2.2.2.2.1
            have zT2 := (D5.setB2 (n := m2) (ap := a2) (cq := c2) (s.bs.drop 7) (by rw [List.length_drop]; exact hm2) hTk).head.zz 4
            have M6 := hidOf2 ((D5.setB2 (n := m2) (ap := a2) (cq := c2) (s.bs.drop 7) (by rw [List.length_drop]; exact hm2) hTk).setT tv hTk)
            have q6 : Qb z { pn s with b0 := .ofNat (T0) } ((w5.drew.setCell ⟨T, 5, none⟩ (.slice a2 m2 c2)).setCell ⟨T, 4, none⟩ (.int .u8 (tv : Int))) := ((q5.below (bdr (Below.refl _ w5) 1)).other (by show z ≠ T; omega) _).other (by show z ≠ T; omega) _
            have HQ6 := hidOf2 q6
            have HM5 := hidOf2 M5
            clear hgk M3 q5 q6 M5 B5 hvv HK HQ HY3 MX
            go_upto_region 10 with fail
            refine wp_cut (α := Nat) (fun u y => y = (w5.drew.setCell ⟨T, 5, none⟩ (.slice a2 m2 c2)).setCell ⟨T, 4, none⟩ (.int .u8 (tv : Int))) (fun a u => (((((((((((((((((a.put (some 59) (.pointer (some ⟨T, 0, none⟩))).put (some 60) (.pointer (some ⟨T, 0, none⟩))).put (some 61) (.pointer (some ⟨T, 0, none⟩))).put (some 62) (.pointer (some ⟨T, 0, none⟩))).put (some 63) (.pointer (some ⟨T, 5, none⟩))).put (some 64) (vv)).put (some 65) (.int .i64 7)).put (some 66) (.slice a2 m2 c2)).put (some 67) (.pointer (some ⟨T, 0, none⟩))).put (some 68) (.pointer (some ⟨T, 0, none⟩))).put (some 69) (.pointer (some ⟨T, 4, none⟩))).put (some 70) (.int .u8 (s.tn : Int))).put (some 71) (.int .u8 (tv : Int))).put (some 72) (.pointer (some ⟨T, 0, none⟩))).put (some 73) (.pointer (some ⟨T, 5, none⟩))).put (some 74) (.pointer (some ⟨T, 0, none⟩))).put (some 75) (.pointer (some ⟨T, 4, none⟩)))) ?_ ?_
            · refine wp_region_held (S := fun _ => True) (by kernel_rfl) ?_
              change wpAnyH _ _ _ _ _ _ _ _ w5.drew
              refine tk 0 (.pointer (some ⟨T, 0, none⟩)) rfl (by kernel_rfl) (fun _ _ _ h => nomatch h.1) rfl (fun _ hS => rfl) trivial ?_
              simp only [zzA, zzB, zzC, Act.put, zzD, zzE, zzF]
              refine tk 1 (.pointer (some ⟨T, 0, none⟩)) rfl (by kernel_rfl) (fun _ _ _ h => nomatch h.1) rfl (fun _ hS => rfl) trivial ?_
              simp only [zzA, zzB, zzC, Act.put, zzD, zzE, zzF]
              refine tk 2 (.pointer (some ⟨T, 0, none⟩)) rfl (by kernel_rfl) (fun _ _ _ h => nomatch h.1) rfl (fun _ hS => rfl) trivial ?_
              simp only [zzA, zzB, zzC, Act.put, zzD, zzE, zzF]
              refine tk 3 (.pointer (some ⟨T, 0, none⟩)) rfl (by kernel_rfl) (fun _ _ _ h => nomatch h.1) rfl (fun _ hS => by simp [execOp, go_sem, Act.eval]) trivial ?_
              simp only [zzA, zzB, zzC, Act.put, zzD, zzE, zzF]
              refine tk 4 (.pointer (some ⟨T, 5, none⟩)) rfl (by kernel_rfl) (fun _ _ _ h => nomatch h.1) rfl (fun _ hS => by simp [execOp, go_sem, Act.eval]) trivial ?_
              simp only [zzA, zzB, zzC, Act.put, zzD, zzE, zzF]
              refine tk 6 (.int .i64 7) rfl (by kernel_rfl) (fun _ _ _ h => nomatch h.1) rfl (fun _ hS => rfl) trivial ?_
              simp only [zzA, zzB, zzC, Act.put, zzD, zzE, zzF]
              refine tk 8 (.pointer (some ⟨T, 0, none⟩)) rfl (by kernel_rfl) (fun _ _ _ h => nomatch h.1) rfl (fun _ hS => rfl) trivial ?_
              simp only [zzA, zzB, zzC, Act.put, zzD, zzE, zzF]
              refine tk 9 (.pointer (some ⟨T, 0, none⟩)) rfl (by kernel_rfl) (fun _ _ _ h => nomatch h.1) rfl (fun _ hS => by simp [execOp, go_sem, Act.eval]) trivial ?_
              simp only [zzA, zzB, zzC, Act.put, zzD, zzE, zzF]
              refine tk 10 (.pointer (some ⟨T, 4, none⟩)) rfl (by kernel_rfl) (fun _ _ _ h => nomatch h.1) rfl (fun _ hS => by simp [execOp, go_sem, Act.eval]) trivial ?_
              simp only [zzA, zzB, zzC, Act.put, zzD, zzE, zzF]
              refine wpAnyH_all (rs := [5, 11]) (by kernel_rfl) (by simp) ?_
              intro k hk
              simp only [List.mem_cons, List.mem_nil_iff, or_false] at hk
              rcases hk with rfl | rfl
              · refine wpOp_run rfl rfl (wp_ldG lB _ rfl rfl ?_)
                refine ⟨trivial, ?_⟩
                simp only [zzA, zzB, zzC, Act.put, zzD, zzE, zzF]
                refine tk 7 (.slice a2 m2 c2) rfl (by kernel_rfl) (fun _ _ _ h => nomatch h.1) rfl (fun _ hS => exec_sliceT (v := vv) (lo := .int .i64 7) rfl rfl rfl hsl _) trivial ?_
                simp only [zzA, zzB, zzC, Act.put, zzD, zzE, zzF]
                refine wpAnyH_all (rs := [11]) (by kernel_rfl) (by simp) ?_
                intro k hk
                simp only [List.mem_cons, List.mem_nil_iff, or_false] at hk
                subst hk
                refine wpOp_run rfl rfl (wp_ldG (load_u8 _ _ _ _ kT) _ rfl rfl ?_)
                refine ⟨trivial, ?_⟩
                simp only [zzA, zzB, zzC, Act.put, zzD, zzE, zzF]
                refine tk 12 (.int .u8 (tv : Int)) rfl (by kernel_rfl) (fun _ _ _ h => nomatch h.1) rfl (fun _ hS => exec_sub8 rfl rfl rfl hsub8 _) trivial ?_
                simp only [zzA, zzB, zzC, Act.put, zzD, zzE, zzF]
                refine tk 13 (.pointer (some ⟨T, 0, none⟩)) rfl (by kernel_rfl) (fun _ _ _ h => nomatch h.1) rfl (fun _ hS => by simp [execOp, go_sem, Act.eval]) trivial ?_
                simp only [zzA, zzB, zzC, Act.put, zzD, zzE, zzF]
                refine tk 14 (.pointer (some ⟨T, 5, none⟩)) rfl (by kernel_rfl) (fun _ _ _ h => nomatch h.1) rfl (fun _ hS => by simp [execOp, go_sem, Act.eval]) trivial ?_
                simp only [zzA, zzB, zzC, Act.put, zzD, zzE, zzF]
                refine wpAnyH_all (rs := [15]) (by kernel_rfl) (by simp) ?_
                intro k hk
                simp only [List.mem_cons, List.mem_nil_iff, or_false] at hk
                subst hk
                refine wpOp_run rfl rfl (wp_store_cell 47 _ _ rfl T 5 rfl (.slice a2 m2 c2) rfl (store_bytes _ T 5 _ _ _ _ kB zB) ?_)
                refine ⟨trivial, ?_⟩
                simp only [zzA, zzB, zzC, Act.put, zzD, zzE, zzF]
                refine tk 16 (.pointer (some ⟨T, 0, none⟩)) rfl (by kernel_rfl) (fun _ _ _ h => nomatch h.1) rfl (fun _ hS => by simp [execOp, go_sem, Act.eval]) trivial ?_
                simp only [zzA, zzB, zzC, Act.put, zzD, zzE, zzF]
                refine tk 17 (.pointer (some ⟨T, 4, none⟩)) rfl (by kernel_rfl) (fun _ _ _ h => nomatch h.1) rfl (fun _ hS => by simp [execOp, go_sem, Act.eval]) trivial ?_
                simp only [zzA, zzB, zzC, Act.put, zzD, zzE, zzF]
                refine wpAnyH_all (rs := [18]) (by kernel_rfl) (by simp) ?_
                intro k hk
                simp only [List.mem_cons, List.mem_nil_iff, or_false] at hk
                subst hk
                refine wpOp_run rfl rfl (wp_store_cell 5 _ _ rfl T 4 rfl (.int .u8 (tv : Int)) rfl (store_u8 _ T 4 _ _ kT2 zT2) ?_)
                refine ⟨trivial, ?_⟩
                simp only [zzA, zzB, zzC, Act.put, zzD, zzE, zzF]
                refine wpAnyH_done (by kernel_rfl) ?_ _
                exact ⟨rfl, 0, rfl, rfl⟩
              · refine wpOp_run rfl rfl (wp_ldG (load_u8 _ _ _ _ kT) _ rfl rfl ?_)
                refine ⟨trivial, ?_⟩
                simp only [zzA, zzB, zzC, Act.put, zzD, zzE, zzF]
                refine tk 12 (.int .u8 (tv : Int)) rfl (by kernel_rfl) (fun _ _ _ h => nomatch h.1) rfl (fun _ hS => exec_sub8 rfl rfl rfl hsub8 _) trivial ?_
                simp only [zzA, zzB, zzC, Act.put, zzD, zzE, zzF]
                refine wpAnyH_all (rs := [5]) (by kernel_rfl) (by simp) ?_
                intro k hk
                simp only [List.mem_cons, List.mem_nil_iff, or_false] at hk
                subst hk
                refine wpOp_run rfl rfl (wp_ldG lB _ rfl rfl ?_)
                refine ⟨trivial, ?_⟩
                simp only [zzA, zzB, zzC, Act.put, zzD, zzE, zzF]
                refine tk 7 (.slice a2 m2 c2) rfl (by kernel_rfl) (fun _ _ _ h => nomatch h.1) rfl (fun _ hS => exec_sliceT (v := vv) (lo := .int .i64 7) rfl rfl rfl hsl _) trivial ?_
                simp only [zzA, zzB, zzC, Act.put, zzD, zzE, zzF]
                refine tk 13 (.pointer (some ⟨T, 0, none⟩)) rfl (by kernel_rfl) (fun _ _ _ h => nomatch h.1) rfl (fun _ hS => by simp [execOp, go_sem, Act.eval]) trivial ?_
                simp only [zzA, zzB, zzC, Act.put, zzD, zzE, zzF]
                refine tk 14 (.pointer (some ⟨T, 5, none⟩)) rfl (by kernel_rfl) (fun _ _ _ h => nomatch h.1) rfl (fun _ hS => by simp [execOp, go_sem, Act.eval]) trivial ?_
                simp only [zzA, zzB, zzC, Act.put, zzD, zzE, zzF]
                refine wpAnyH_all (rs := [15]) (by kernel_rfl) (by simp) ?_
                intro k hk
                simp only [List.mem_cons, List.mem_nil_iff, or_false] at hk
                subst hk
                refine wpOp_run rfl rfl (wp_store_cell 47 _ _ rfl T 5 rfl (.slice a2 m2 c2) rfl (store_bytes _ T 5 _ _ _ _ kB zB) ?_)
                refine ⟨trivial, ?_⟩
                simp only [zzA, zzB, zzC, Act.put, zzD, zzE, zzF]
                refine tk 16 (.pointer (some ⟨T, 0, none⟩)) rfl (by kernel_rfl) (fun _ _ _ h => nomatch h.1) rfl (fun _ hS => by simp [execOp, go_sem, Act.eval]) trivial ?_
                simp only [zzA, zzB, zzC, Act.put, zzD, zzE, zzF]
                refine tk 17 (.pointer (some ⟨T, 4, none⟩)) rfl (by kernel_rfl) (fun _ _ _ h => nomatch h.1) rfl (fun _ hS => by simp [execOp, go_sem, Act.eval]) trivial ?_
                simp only [zzA, zzB, zzC, Act.put, zzD, zzE, zzF]
                refine wpAnyH_all (rs := [18]) (by kernel_rfl) (by simp) ?_
                intro k hk
                simp only [List.mem_cons, List.mem_nil_iff, or_false] at hk
                subst hk
                refine wpOp_run rfl rfl (wp_store_cell 5 _ _ rfl T 4 rfl (.int .u8 (tv : Int)) rfl (store_u8 _ T 4 _ _ kT2 zT2) ?_)
                refine ⟨trivial, ?_⟩
                simp only [zzA, zzB, zzC, Act.put, zzD, zzE, zzF]
                refine wpAnyH_done (by kernel_rfl) ?_ _
                exact ⟨rfl, 0, rfl, rfl⟩
            intro u y hI
            simp only [Act.put, List.setIfInBounds_toArray, List.set_cons_succ, List.set_cons_zero]
            rw [← hI] at M6 HQ6
            clear hI kB zB kT kT2 zT2 D5 hsl lB
            obtain ⟨cT0, cT1, cT2, cT3, cT4, cT5, cT6⟩ := M6.out.head.c
            have x6 := HQ6.out.c0
            have z6 := HQ6.out.zz 0
            have e60 : (({ pn s with b0 := .ofNat (T0) } : F8).b0.toNat : Int) = (T0 : Int) := by show ((UInt8.ofNat (T0)).toNat : Int) = _; rw [un _ (by omega)] <;> omega
            rw [e60] at x6
            have cT5' : y.cell? ⟨T, 5, none⟩ = some (.slice a2 m2 c2) := by
              have h9 : y.cell? ⟨T, 5, none⟩ = some (.slice a2 (s.bs.drop 7).length c2) := cT5
              rw [List.length_drop, hm2] at h9
              exact h9
            clear cT5
            clear e60 x0 z0
            have hm0 : m2 = 0 := by omega
            subst hm0
            have q7 : Qb z (told s) (y.setCell ⟨z, 0, none⟩ (.int .u8 ((T0 : Int) + 1))) := HQ6.out.set 0 _ (by
              have h1 : ((UInt8.ofNat (T0 + 1)).toNat : Int) = (T0 : Int) + 1 := by rw [un _ (by omega)] <;> omega
              have h2 : told s = { pn s with b0 := .ofNat (T0 + 1) } := by unfold told pn; rw [hn0, hT0]; rfl
              rw [h2]
              exact F8.set0 _ _ _ h1.symm)
            have M7 := mf_cell M6.out HQ6.out hzV (Kp.cell1 y z 0 (.int .u8 ((T0 : Int) + 1)))
            have hadd1 : (T0 : Int) + 1 = (T0 : Int) + 1 := by omega
            obtain ⟨w7, hw7⟩ : ∃ x, y.setCell ⟨z, 0, none⟩ (.int .u8 ((T0 : Int) + 1)) = x := ⟨_, rfl⟩
            rw [hw7] at q7 M7
            have hRs := Rests_any M7.head
            have HTO2 := hidOf2 (show telO its s q = (.ok (told s), its, Ss.nul) from by rw [HTO.out, if_pos (by omega)])
            have HM7 := hidOf2 M7
            have HQ7 := hidOf2 q7
            have o9 : IntKind.u8.wrap ((T0 : Int) + 1) = (T0 : Int) + 1 := by simp [IntKind.wrap, IntKind.bits, IntKind.signed]; omega
            clear M7 q7 M6 HQ6 cT0 cT1 cT2 cT3 cT4 cT6 hadd1
            go_wp2_with fail
            refine hRs.mono ?_
            rintro e w8 ⟨rfl, d8, K8⟩
            have q8 : Qb z (told s) w8 := (K8.block _ HQ7.out.lt (by simp; omega)).trans HQ7.out
            have r8 : Qb (k + 1) F8.nul w8 := (K8.block _ HM7.out.an.lt (by simp; omega)).trans HM7.out.an
            have l8 := q8.load
            have r9 := r8.row (told s)
            have r8l := r8.lt
            have HZ : Hid (Dv T E its Ss.nul none 0 (w8.setRow (k + 1) (told s).arr) ∧ Kp [T, E] w (w8.setRow (k + 1) (told s).arr)) := by
              obtain ⟨vL, vV, hr⟩ := HM7.out.rd
              exact ⟨Dv.nul ⟨vL, vV, (hr.kpT HM7.out.head K8).row r8 _⟩ ((setRow_other _ _ _ _ (by omega)).trans d8) hET HH0.out.len HH0.out.oks HH0.out.nod, (((Kp.of_below (bs := [T, E]) HB0.out).fresh HM7.out.kp (fun b hb => .inl (by simp at hb; simp [hb]))).fresh K8 (fun b hb => .inl (by simp at hb; simp [hb]))).fresh (Kp.setRow1 _ _ _) (fun b hb => .inr (by simp at hb; omega))⟩
            clear hRs d8 K8 HM7 HQ7
            go_wp2_with (first | (refine ldG l8 rfl _ rfl rfl ?_) | (refine sdF (g := told s) r8 rfl _ _ rfl rfl rfl ?_))
            exact bodyPost_ret (gs_results r9 _ rfl) rfl (HRP.out _ HTO2.out _ _ ⟨rfl, none, 0, HZ.out.1, HZ.out.2, fun b hb => by simp [blk] at hb⟩)
          · have hn0 : s.bs.length = nn := by omega
            have hgk := gk_end s 7 (by omega) (by omega)
            rw [hgk] at HQ
            have M3 := hidOf2 (mf_cell MX.out HY3.out hzV HK.out)
            have x0 := HQ.out.c0
            have z0 := HQ.out.zz 0
            have q5 : Qb z { pn s with b0 := .ofNat (T0) } (wr.setCell ⟨z, 0, none⟩ (.int .u8 ((T0 : Int)))) := HQ.out.set 0 _ (by
              have : ((UInt8.ofNat (T0)).toNat : Int) = (T0 : Int) := by rw [un _ (by omega)] <;> omega
              exact F8.set0 _ _ _ this.symm)
            have M5 := mf_cell M3.out HQ.out hzV (Kp.cell1 wr z 0 (.int .u8 ((T0 : Int))))
            have B5 : Bytes (wr.setCell ⟨z, 0, none⟩ (.int .u8 ((T0 : Int)))) (.slice ao s.bs.length cp) s.bs := HBY.out _ M5
            obtain ⟨a2, c2, hsl, hB4, hC4, hO4⟩ := bslice_t B5 hcap.out 7 (by omega)
            obtain ⟨w5, hw5⟩ : ∃ x, wr.setCell ⟨z, 0, none⟩ (.int .u8 ((T0 : Int))) = x := ⟨_, rfl⟩
            rw [hw5] at q5 M5 B5
            obtain ⟨m2, hm2⟩ : ∃ x, s.bs.length - 7 = x := ⟨_, rfl⟩
            rw [hm2] at hsl hB4 hC4 hO4
            obtain ⟨vv, hvv⟩ : ∃ v, Value.slice ao s.bs.length cp = v := ⟨_, rfl⟩
            rw [hvv] at hsl
            change ∀ W, (Instr.sliceAt 47 vv (some (.int .i64 7)) none none).run Tryz.prog W = .ok (.slice a2 m2 c2) W at hsl
            have D5 : Mf T E k its q s ao cp V w5.drew := M5.below (bdr (Below.refl _ w5) 1)
            have kB : w5.drew.cell? ⟨T, 5, none⟩ = some vv := by rw [← hvv]; exact D5.head.c.2.2.2.2.2.1
            have zB := D5.head.zz 5
            have lB : (loadVar 47 ⟨T, 5, none⟩).run Tryz.prog w5.drew = .ok vv w5.drew := by rw [← hvv]; exact load_bytes _ _ _ _ _ _ D5.head.c.2.2.2.2.2.1
            have kT := D5.head.c.2.2.2.2.1
            have kT2 : (w5.drew.setCell ⟨T, 5, none⟩ (.slice a2 m2 c2)).cell? ⟨T, 4, none⟩ = some (.int .u8 (s.tn : Int)) := (D5.setB2 (n := m2) (ap := a2) (cq := c2) (s.bs.drop 7) (by rw [List.length_drop]; exact hm2) hTk).head.c.2.2.2.2.1
            have zT2 := (D5.setB2 (n := m2) (ap := a2) (cq := c2) (s.bs.drop 7) (by rw [List.length_drop]; exact hm2) hTk).head.zz 4
            have M6 := hidOf2 ((D5.setB2 (n := m2) (ap := a2) (cq := c2) (s.bs.drop 7) (by rw [List.length_drop]; exact hm2) hTk).setT tv hTk)
            have q6 : Qb z { pn s with b0 := .ofNat (T0) } ((w5.drew.setCell ⟨T, 5, none⟩ (.slice a2 m2 c2)).setCell ⟨T, 4, none⟩ (.int .u8 (tv : Int))) := ((q5.below (bdr (Below.refl _ w5) 1)).other (by show z ≠ T; omega) _).other (by show z ≠ T; omega) _
            have HQ6 := hidOf2 q6
            have HM5 := hidOf2 M5
            clear hgk M3 q5 q6 M5 B5 hvv HK HQ HY3 MX
            go_upto_region 10 with fail
            refine wp_cut (α := Nat) (fun u y => y = (w5.drew.setCell ⟨T, 5, none⟩ (.slice a2 m2 c2)).setCell ⟨T, 4, none⟩ (.int .u8 (tv : Int))) (fun a u => (((((((((((((((((a.put (some 59) (.pointer (some ⟨T, 0, none⟩))).put (some 60) (.pointer (some ⟨T, 0, none⟩))).put (some 61) (.pointer (some ⟨T, 0, none⟩))).put (some 62) (.pointer (some ⟨T, 0, none⟩))).put (some 63) (.pointer (some ⟨T, 5, none⟩))).put (some 64) (vv)).put (some 65) (.int .i64 7)).put (some 66) (.slice a2 m2 c2)).put (some 67) (.pointer (some ⟨T, 0, none⟩))).put (some 68) (.pointer (some ⟨T, 0, none⟩))).put (some 69) (.pointer (some ⟨T, 4, none⟩))).put (some 70) (.int .u8 (s.tn : Int))).put (some 71) (.int .u8 (tv : Int))).put (some 72) (.pointer (some ⟨T, 0, none⟩))).put (some 73) (.pointer (some ⟨T, 5, none⟩))).put (some 74) (.pointer (some ⟨T, 0, none⟩))).put (some 75) (.pointer (some ⟨T, 4, none⟩)))) ?_ ?_
            · refine wp_region_held (S := fun _ => True) (by kernel_rfl) ?_
              change wpAnyH _ _ _ _ _ _ _ _ w5.drew
              refine tk 0 (.pointer (some ⟨T, 0, none⟩)) rfl (by kernel_rfl) (fun _ _ _ h => nomatch h.1) rfl (fun _ hS => rfl) trivial ?_
              simp only [zzA, zzB, zzC, Act.put, zzD, zzE, zzF]
              refine tk 1 (.pointer (some ⟨T, 0, none⟩)) rfl (by kernel_rfl) (fun _ _ _ h => nomatch h.1) rfl (fun _ hS => rfl) trivial ?_
              simp only [zzA, zzB, zzC, Act.put, zzD, zzE, zzF]
              refine tk 2 (.pointer (some ⟨T, 0, none⟩)) rfl (by kernel_rfl) (fun _ _ _ h => nomatch h.1) rfl (fun _ hS => rfl) trivial ?_
              simp only [zzA, zzB, zzC, Act.put, zzD, zzE, zzF]
              refine tk 3 (.pointer (some ⟨T, 0, none⟩)) rfl (by kernel_rfl) (fun _ _ _ h => nomatch h.1) rfl (fun _ hS => by simp [execOp, go_sem, Act.eval]) trivial ?_
              simp only [zzA, zzB, zzC, Act.put, zzD, zzE, zzF]
              refine tk 4 (.pointer (some ⟨T, 5, none⟩)) rfl (by kernel_rfl) (fun _ _ _ h => nomatch h.1) rfl (fun _ hS => by simp [execOp, go_sem, Act.eval]) trivial ?_
              simp only [zzA, zzB, zzC, Act.put, zzD, zzE, zzF]
              refine tk 6 (.int .i64 7) rfl (by kernel_rfl) (fun _ _ _ h => nomatch h.1) rfl (fun _ hS => rfl) trivial ?_
              simp only [zzA, zzB, zzC, Act.put, zzD, zzE, zzF]
              refine tk 8 (.pointer (some ⟨T, 0, none⟩)) rfl (by kernel_rfl) (fun _ _ _ h => nomatch h.1) rfl (fun _ hS => rfl) trivial ?_
              simp only [zzA, zzB, zzC, Act.put, zzD, zzE, zzF]
              refine tk 9 (.pointer (some ⟨T, 0, none⟩)) rfl (by kernel_rfl) (fun _ _ _ h => nomatch h.1) rfl (fun _ hS => by simp [execOp, go_sem, Act.eval]) trivial ?_
              simp only [zzA, zzB, zzC, Act.put, zzD, zzE, zzF]
              refine tk 10 (.pointer (some ⟨T, 4, none⟩)) rfl (by kernel_rfl) (fun _ _ _ h => nomatch h.1) rfl (fun _ hS => by simp [execOp, go_sem, Act.eval]) trivial ?_
              simp only [zzA, zzB, zzC, Act.put, zzD, zzE, zzF]
              refine wpAnyH_all (rs := [5, 11]) (by kernel_rfl) (by simp) ?_
              intro k hk
              simp only [List.mem_cons, List.mem_nil_iff, or_false] at hk
              rcases hk with rfl | rfl
              · refine wpOp_run rfl rfl (wp_ldG lB _ rfl rfl ?_)
                refine ⟨trivial, ?_⟩
                simp only [zzA, zzB, zzC, Act.put, zzD, zzE, zzF]
                refine tk 7 (.slice a2 m2 c2) rfl (by kernel_rfl) (fun _ _ _ h => nomatch h.1) rfl (fun _ hS => exec_sliceT (v := vv) (lo := .int .i64 7) rfl rfl rfl hsl _) trivial ?_
                simp only [zzA, zzB, zzC, Act.put, zzD, zzE, zzF]
                refine wpAnyH_all (rs := [11]) (by kernel_rfl) (by simp) ?_
                intro k hk
                simp only [List.mem_cons, List.mem_nil_iff, or_false] at hk
                subst hk
                refine wpOp_run rfl rfl (wp_ldG (load_u8 _ _ _ _ kT) _ rfl rfl ?_)
                refine ⟨trivial, ?_⟩
                simp only [zzA, zzB, zzC, Act.put, zzD, zzE, zzF]
                refine tk 12 (.int .u8 (tv : Int)) rfl (by kernel_rfl) (fun _ _ _ h => nomatch h.1) rfl (fun _ hS => exec_sub8 rfl rfl rfl hsub8 _) trivial ?_
                simp only [zzA, zzB, zzC, Act.put, zzD, zzE, zzF]
                refine tk 13 (.pointer (some ⟨T, 0, none⟩)) rfl (by kernel_rfl) (fun _ _ _ h => nomatch h.1) rfl (fun _ hS => by simp [execOp, go_sem, Act.eval]) trivial ?_
                simp only [zzA, zzB, zzC, Act.put, zzD, zzE, zzF]
                refine tk 14 (.pointer (some ⟨T, 5, none⟩)) rfl (by kernel_rfl) (fun _ _ _ h => nomatch h.1) rfl (fun _ hS => by simp [execOp, go_sem, Act.eval]) trivial ?_
                simp only [zzA, zzB, zzC, Act.put, zzD, zzE, zzF]
                refine wpAnyH_all (rs := [15]) (by kernel_rfl) (by simp) ?_
                intro k hk
                simp only [List.mem_cons, List.mem_nil_iff, or_false] at hk
                subst hk
                refine wpOp_run rfl rfl (wp_store_cell 47 _ _ rfl T 5 rfl (.slice a2 m2 c2) rfl (store_bytes _ T 5 _ _ _ _ kB zB) ?_)
                refine ⟨trivial, ?_⟩
                simp only [zzA, zzB, zzC, Act.put, zzD, zzE, zzF]
                refine tk 16 (.pointer (some ⟨T, 0, none⟩)) rfl (by kernel_rfl) (fun _ _ _ h => nomatch h.1) rfl (fun _ hS => by simp [execOp, go_sem, Act.eval]) trivial ?_
                simp only [zzA, zzB, zzC, Act.put, zzD, zzE, zzF]
                refine tk 17 (.pointer (some ⟨T, 4, none⟩)) rfl (by kernel_rfl) (fun _ _ _ h => nomatch h.1) rfl (fun _ hS => by simp [execOp, go_sem, Act.eval]) trivial ?_
                simp only [zzA, zzB, zzC, Act.put, zzD, zzE, zzF]
                refine wpAnyH_all (rs := [18]) (by kernel_rfl) (by simp) ?_
                intro k hk
                simp only [List.mem_cons, List.mem_nil_iff, or_false] at hk
                subst hk
                refine wpOp_run rfl rfl (wp_store_cell 5 _ _ rfl T 4 rfl (.int .u8 (tv : Int)) rfl (store_u8 _ T 4 _ _ kT2 zT2) ?_)
                refine ⟨trivial, ?_⟩
                simp only [zzA, zzB, zzC, Act.put, zzD, zzE, zzF]
                refine wpAnyH_done (by kernel_rfl) ?_ _
                exact ⟨rfl, 0, rfl, rfl⟩
              · refine wpOp_run rfl rfl (wp_ldG (load_u8 _ _ _ _ kT) _ rfl rfl ?_)
                refine ⟨trivial, ?_⟩
                simp only [zzA, zzB, zzC, Act.put, zzD, zzE, zzF]
                refine tk 12 (.int .u8 (tv : Int)) rfl (by kernel_rfl) (fun _ _ _ h => nomatch h.1) rfl (fun _ hS => exec_sub8 rfl rfl rfl hsub8 _) trivial ?_
                simp only [zzA, zzB, zzC, Act.put, zzD, zzE, zzF]
                refine wpAnyH_all (rs := [5]) (by kernel_rfl) (by simp) ?_
                intro k hk
                simp only [List.mem_cons, List.mem_nil_iff, or_false] at hk
                subst hk
                refine wpOp_run rfl rfl (wp_ldG lB _ rfl rfl ?_)
                refine ⟨trivial, ?_⟩
                simp only [zzA, zzB, zzC, Act.put, zzD, zzE, zzF]
                refine tk 7 (.slice a2 m2 c2) rfl (by kernel_rfl) (fun _ _ _ h => nomatch h.1) rfl (fun _ hS => exec_sliceT (v := vv) (lo := .int .i64 7) rfl rfl rfl hsl _) trivial ?_
                simp only [zzA, zzB, zzC, Act.put, zzD, zzE, zzF]
                refine tk 13 (.pointer (some ⟨T, 0, none⟩)) rfl (by kernel_rfl) (fun _ _ _ h => nomatch h.1) rfl (fun _ hS => by simp [execOp, go_sem, Act.eval]) trivial ?_
                simp only [zzA, zzB, zzC, Act.put, zzD, zzE, zzF]
                refine tk 14 (.pointer (some ⟨T, 5, none⟩)) rfl (by kernel_rfl) (fun _ _ _ h => nomatch h.1) rfl (fun _ hS => by simp [execOp, go_sem, Act.eval]) trivial ?_
                simp only [zzA, zzB, zzC, Act.put, zzD, zzE, zzF]
                refine wpAnyH_all (rs := [15]) (by kernel_rfl) (by simp) ?_
                intro k hk
                simp only [List.mem_cons, List.mem_nil_iff, or_false] at hk
                subst hk
                refine wpOp_run rfl rfl (wp_store_cell 47 _ _ rfl T 5 rfl (.slice a2 m2 c2) rfl (store_bytes _ T 5 _ _ _ _ kB zB) ?_)
                refine ⟨trivial, ?_⟩
                simp only [zzA, zzB, zzC, Act.put, zzD, zzE, zzF]
                refine tk 16 (.pointer (some ⟨T, 0, none⟩)) rfl (by kernel_rfl) (fun _ _ _ h => nomatch h.1) rfl (fun _ hS => by simp [execOp, go_sem, Act.eval]) trivial ?_
                simp only [zzA, zzB, zzC, Act.put, zzD, zzE, zzF]
                refine tk 17 (.pointer (some ⟨T, 4, none⟩)) rfl (by kernel_rfl) (fun _ _ _ h => nomatch h.1) rfl (fun _ hS => by simp [execOp, go_sem, Act.eval]) trivial ?_
                simp only [zzA, zzB, zzC, Act.put, zzD, zzE, zzF]
                refine wpAnyH_all (rs := [18]) (by kernel_rfl) (by simp) ?_
                intro k hk
                simp only [List.mem_cons, List.mem_nil_iff, or_false] at hk
                subst hk
                refine wpOp_run rfl rfl (wp_store_cell 5 _ _ rfl T 4 rfl (.int .u8 (tv : Int)) rfl (store_u8 _ T 4 _ _ kT2 zT2) ?_)
                refine ⟨trivial, ?_⟩
                simp only [zzA, zzB, zzC, Act.put, zzD, zzE, zzF]
                refine wpAnyH_done (by kernel_rfl) ?_ _
                exact ⟨rfl, 0, rfl, rfl⟩
            intro u y hI
            simp only [Act.put, List.setIfInBounds_toArray, List.set_cons_succ, List.set_cons_zero]
            rw [← hI] at M6 HQ6
            clear hI kB zB kT kT2 zT2 D5 hsl lB
            obtain ⟨cT0, cT1, cT2, cT3, cT4, cT5, cT6⟩ := M6.out.head.c
            have x6 := HQ6.out.c0
            have z6 := HQ6.out.zz 0
            have e60 : (({ pn s with b0 := .ofNat (T0) } : F8).b0.toNat : Int) = (T0 : Int) := by show ((UInt8.ofNat (T0)).toNat : Int) = _; rw [un _ (by omega)] <;> omega
            rw [e60] at x6
            have cT5' : y.cell? ⟨T, 5, none⟩ = some (.slice a2 m2 c2) := by
              have h9 : y.cell? ⟨T, 5, none⟩ = some (.slice a2 (s.bs.drop 7).length c2) := cT5
              rw [List.length_drop, hm2] at h9
              exact h9
            clear cT5
            clear e60 x0 z0
            have d7 : ((m2 : Int) == 0) = false := by simp; omega
            have h2 : ({ pn s with b0 := .ofNat (T0) } : F8) = told s := by
              unfold told pn
              rw [hn0, hT0, if_neg (by omega), show min 7 nn = 7 by omega]
              rfl
            have HTO2 := hidOf2 (show telO its s q = (.ok (told s), its, { s with bs := s.bs.drop 7, tn := 1 - s.tn }) from by rw [HTO.out, if_neg (by omega)])
            rw [h2] at HQ6
            have l8 := HQ6.out.load
            have r8 := M6.out.an
            have r9 := r8.row (told s)
            have r8l := r8.lt
            have hbl4 : ∀ b ∈ blk a2, b ∈ blk ao := fun b hb => (own_blk ao s.bs.length cp b).1 (hO4 b ((own_blk a2 _ c2 b).2 hb))
            have HZ : Hid (Dv T E its { s with bs := s.bs.drop 7, tn := 1 - s.tn } a2 c2 (y.setRow (k + 1) (told s).arr) ∧ Kp [T, E] w (y.setRow (k + 1) (told s).arr)) := by
              obtain ⟨vL, vV, hr⟩ := M6.out.rd
              have hby : Bytes y (.slice a2 m2 c2) (s.bs.drop 7) := hB4 y (bytes_same HBV.out M6.out.kp.size (fun b hb hl => M6.out.kp.block b hl (by have := HFA.out b ((own_blk _ _ _ _).1 hb); simp; omega)))
              have hl2 : (s.bs.drop 7).length = m2 := by rw [List.length_drop]; exact hm2
              refine ⟨⟨⟨vL, vV, hr.row r8 _⟩, ?_, ?_, ?_, fun b hb => HFA.out b (hbl4 b hb), fun b hb => ?_, hET, HH0.out.len, HH0.out.oks, HH0.out.nod, ⟨hok.dn, hok.ix, hok.sb, (show 1 - s.tn ≤ 1 by omega), (show (s.bs.drop 7).length ≤ 65536 by rw [List.length_drop]; have := hok.len; omega), hok.sz⟩⟩, ((Kp.of_below (bs := [T, E]) HB0.out).fresh M6.out.kp (fun b hb => .inl (by simp at hb; simp [hb]))).fresh (Kp.setRow1 _ _ _) (fun b hb => .inr (by simp at hb; omega))⟩
              · have h9 := M6.out.head
                rw [← htv] at h9
                exact (setRow_other _ _ _ _ (by omega)).trans h9
              · show Bytes _ (.slice a2 (s.bs.drop 7).length c2) (s.bs.drop 7)
                rw [hl2]
                exact bytes_same hby (by simp) (fun b hb _ => setRow_other _ _ _ _ (by have := HLW.out b (hbl4 b ((own_blk _ _ _ _).1 hb)); omega))
              · show Cp (.slice a2 (s.bs.drop 7).length c2)
                rw [hl2]
                exact hC4
              · have h1 := HLW.out b (hbl4 b hb)
                have h3 := M6.out.an.lt
                simp only [World.setRow, Array.size_modify]
                omega
            clear M6 HQ6 cT0 cT1 cT2 cT3 cT4 cT6 h2
            go_wp2_with (first | (refine ldG l8 rfl _ rfl rfl ?_) | (refine sdF (g := told s) r8 rfl _ _ rfl rfl rfl ?_))
            exact bodyPost_ret (gs_results r9 _ rfl) rfl (HRP.out _ HTO2.out _ _ ⟨rfl, a2, c2, HZ.out.1, HZ.out.2, fun b hb => .inl (hbl4 b hb)⟩)
  · have hto : telO its s q = (.bad 0 0 84148225, its, s) := by unfold telO; rw [if_pos hdn]
    have e1 : ((s.dn : Int) != 2) = true := by simp; omega
    have hF := r10Frame_any 128 0 0 84148225 V (by decide) (by decide) (by decide) (by decide)
    go_wp2_with fail
    refine hF.mono ?_
    rintro e w7 ⟨rfl, b7⟩
    have r7 := HR0.out.below b7
    have r8 := r7.row (frm 128 0 0 84148225)
    have r7l := r7.lt
    have HZ : Hid (Dv T E its s ao cp (w7.setRow (k + 1) (frm 128 0 0 84148225).arr) ∧ Kp [T, E] w (w7.setRow (k + 1) (frm 128 0 0 84148225).arr)) := by
      have d7 := HH0.out.below b7
      obtain ⟨vL, vV, hr⟩ := d7.rd
      refine ⟨⟨⟨vL, vV, hr.row r7 _⟩, (setRow_other _ _ _ _ (by omega)).trans d7.head, bytes_same d7.by_ (by simp) (fun b hb _ => setRow_other _ _ _ _ ?_), d7.cap, d7.far, (fun b hb => by have := d7.lt b hb; simp only [World.setRow, Array.size_modify]; exact this), d7.et, d7.len, d7.oks, d7.nod, d7.ok⟩, (Kp.of_below (HB0.out.trans (b7.mono HB0.out.size))).fresh (Kp.setRow1 _ _ _) (fun b hb => .inr (by simp at hb; omega))⟩
      have := HLW.out b ((own_blk _ _ _ _).1 hb)
      omega
    clear hF HH0 HR0 HQ0 HB0
    go_wp2_with (first | (refine sdF (g := frm 128 0 0 84148225) r7 rfl _ _ rfl rfl rfl ?_))
    exact bodyPost_ret (gs_results r8 _ rfl) rfl (HRP.out _ hto _ _ ⟨rfl, ao, cp, HZ.out.1, HZ.out.2, fun b hb => .inl hb⟩)
end
end Go.Proofs.YtahfnknbmikmkaaGreat
