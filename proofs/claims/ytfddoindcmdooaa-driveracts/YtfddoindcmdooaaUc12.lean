/- The law DriverRoom returns true whatever comes in. -/
import Derived.Test.YtfddoindcmdooaaUc11
namespace Go.Proofs.Ytfddoindcmdooaa
open Go.RowKit Go.Proofs.Bits
set_option linter.unusedVariables false
set_option maxRecDepth 1000000
set_option linter.unusedSimpArgs false

def formA (bx rm : Int) (vf : Value) : Array Value := #[.int .i64 bx, .int .i64 rm, vf]
/-- The form in its box. -/
def Fo (p : Nat) (bx rm : Int) (vf : Value) (w : World) : Prop := w.heap[p]? = some (.cells (formA bx rm vf) 24 (0, 0))
theorem Fo.c {p : Nat} {bx rm : Int} {vf : Value} {w : World} (h : Fo p bx rm vf w) : w.cell? ⟨p, 0, none⟩ = some (.int .i64 bx) ∧ w.cell? ⟨p, 1, none⟩ = some (.int .i64 rm) ∧ w.cell? ⟨p, 2, none⟩ = some vf :=
  ⟨(Lib.cell_of_heap h 0).trans rfl, (Lib.cell_of_heap h 1).trans rfl, (Lib.cell_of_heap h 2).trans rfl⟩
theorem Fo.lt {p : Nat} {bx rm : Int} {vf : Value} {w : World} (h : Fo p bx rm vf w) : p < w.heap.size := (Array.getElem?_eq_some_iff.1 h).1
theorem Fo.below {p B : Nat} {bx rm : Int} {vf : Value} {w w' : World} (h : Fo p bx rm vf w) (hb : Below B w w') (hp : p < B) : Fo p bx rm vf w' := (hb.block p hp).trans h
theorem enterNew : ∀ args x, (callFunc 7 args).run Try.prog x = .ok (.enter 7 args) x := fun _ _ => by rfl
theorem Wide.belowA {w w' : World} {v : Value} {l : List Ax} (h : Wide 14 Ax.cells w v l) (hb : Below w.heap.size w w') : Wide 14 Ax.cells w' v l := by
  obtain ⟨ao, cap, rfl, h0, hc⟩ := h
  exact ⟨ao, cap, rfl, h0, fun k hk => by
    obtain ⟨b, off, ha, hlt, hr⟩ := hc k hk
    exact ⟨b, off, ha, Nat.lt_of_lt_of_le hlt hb.size, fun j u hj => (hb.cell (p := ⟨b, off + k * 14 + j, none⟩) hlt).trans (hr j u hj)⟩⟩
theorem fld_ldw5 {w : World} {ops : Array Oper} {rest : List Oper} {p : Oper} {a : Act} {Q : Exit → Act → World → Prop} {b o : Nat} {f : Fr} (h : w.rangeAt b o f.cells) (hgd : Region.wanted p (yielded ops a.tmps) = true) (x : Operand) (ho : p.op = .load 45 x) (hx : a.eval x = .pointer (some ⟨b, o, none⟩))
    (hh : wpList Try.prog ops Q rest (a.put p.dst (.agg f.arr)) w) : wpList Try.prog ops Q (p :: rest) a w :=
  BigFrame.wpList_want hgd fun _ hK => wp_load_mid 45 x ho b o hx f.cells _ h Try.underlying45 rfl (by rw [infoF]; simp [Fr.cells, f.hdata]) (hK _ _ hh)
theorem G7 {D p : Nat} {bx rm : Int} {l : List Fi} {z : Int} {vf vm vc : Value} {s : Dv} {w4 x y : World} (h : s.bx = bx ∧ s.rm = rm ∧ s.l = l ∧ s.tk ≤ z ∧ DvW D s vm vc x ∧ Below D w4 x ∧ Fo p bx rm vf x) (hb : Below x.heap.size x y) : s.bx = bx ∧ s.rm = rm ∧ s.l = l ∧ s.tk ≤ z ∧ DvW D s vm vc y ∧ Below D w4 y ∧ Fo p bx rm vf y := by
  obtain ⟨a, b, c, d, e, f, g⟩ := h
  exact ⟨a, b, c, d, e.below hb, f.trans (hb.mono (Nat.le_of_lt e.lt)), g.below hb g.lt⟩
set_option maxHeartbeats 8000000 in
theorem droom_walk (bx rm : Int) (vf : Value) (l : List Fi) (va : Value) (xa : List Ax) (w : World) (hz : l.length * 12 ≤ 140737488351232) (hz2 : xa.length ≤ 140737488351232) (hF : FiIn w vf l) (hS : Wide 14 Ax.cells w va xa) :
    Calls Try.prog 5 #[.agg #[.int .i64 bx, .int .i64 rm, vf], va] w fun e w' => e = .returned (.bool true) ∧ Below w.heap.size w w' := by
  obtain ⟨wa, hwa⟩ : ∃ wa, w.alloc (.cells (formA bx rm vf) 24) = wa := ⟨_, rfl⟩
  have ba : Below w.heap.size w wa := by rw [← hwa]; exact (Below.refl _ _).alloc (Nat.le_refl _) _
  have fa : Fo w.heap.size bx rm vf wa := by rw [← hwa]; exact heap_alloc_new w _
  have HI : Hid (∀ x, Below w.heap.size w x → Wide 14 Ax.cells x va xa) := fun x hx => hS.belowA hx
  have HF : Hid (∀ x, Below w.heap.size w x → FiIn x vf l) := fun x hx => hF.below hx
  obtain ⟨ao, cap, rfl, _⟩ := hS
  obtain ⟨af, cf, rfl, _⟩ := hF
  obtain ⟨p, hp⟩ : ∃ p, w.heap.size = p := ⟨_, rfl⟩
  rw [hp] at fa ba HI HF
  have hwa2 : w.alloc (.cells #[.int .i64 bx, .int .i64 rm, .slice af l.length cf] 24) = wa := hwa
  have sa : p < wa.heap.size := fa.lt
  clear hwa
  go_enter Try.func5, Try.ntmps5
  go_wp2_with fail
  refine wp_region_held (S := Fo p bx rm (.slice af l.length cf)) (by kernel_rfl) ?_
  obtain ⟨w1, hw1⟩ : ∃ x : World, { wa with drawn := wa.drawn + 1 } = x := ⟨_, rfl⟩
  rw [hw1]
  have b1 : Below p w w1 := ba.trans (by rw [← hw1]; exact (below_drawn (Below.refl wa.heap.size wa) 1).mono (Nat.le_of_lt sa))
  have f1 : Fo p bx rm (.slice af l.length cf) w1 := by rw [← hw1]; exact fa
  have s1 : p < w1.heap.size := f1.lt
  refine wpAnyH_take (i := 0) (v := (.pointer (some ⟨p, 0, none⟩))) rfl (by kernel_rfl) (by kernel_rfl) (by kernel_rfl) (fun _ _ _ h => h) (.inl ⟨rfl, fun _ hS => by simp [execOp, go_sem, Act.eval]⟩) f1 ?_
  simp only [List.getElem_toArray, List.getElem_cons_succ, List.getElem_cons_zero, Act.put, List.setIfInBounds_toArray, List.set_cons_succ, List.set_cons_zero]
  refine wpAnyH_take (i := 1) (v := (.int .i64 bx)) rfl (by kernel_rfl) (by kernel_rfl) (by kernel_rfl) (fun _ _ _ h => h) (.inl ⟨rfl, fun _ hS => exec_load rfl rfl (load_int _ p 0 _ hS.c.1)⟩) f1 ?_
  simp only [List.getElem_toArray, List.getElem_cons_succ, List.getElem_cons_zero, Act.put, List.setIfInBounds_toArray, List.set_cons_succ, List.set_cons_zero]
  refine wpAnyH_take (i := 2) (v := (.pointer (some ⟨p, 1, none⟩))) rfl (by kernel_rfl) (by kernel_rfl) (by kernel_rfl) (fun _ _ _ h => h) (.inl ⟨rfl, fun _ hS => by simp [execOp, go_sem, Act.eval]⟩) f1 ?_
  simp only [List.getElem_toArray, List.getElem_cons_succ, List.getElem_cons_zero, Act.put, List.setIfInBounds_toArray, List.set_cons_succ, List.set_cons_zero]
  refine wpAnyH_take (i := 3) (v := (.int .i64 rm)) rfl (by kernel_rfl) (by kernel_rfl) (by kernel_rfl) (fun _ _ _ h => h) (.inl ⟨rfl, fun _ hS => exec_load rfl rfl (load_int _ p 1 _ hS.c.2.1)⟩) f1 ?_
  simp only [List.getElem_toArray, List.getElem_cons_succ, List.getElem_cons_zero, Act.put, List.setIfInBounds_toArray, List.set_cons_succ, List.set_cons_zero]
  refine wpAnyH_take (i := 5) (v := (.pointer (some ⟨p, 2, none⟩))) rfl (by kernel_rfl) (by kernel_rfl) (by kernel_rfl) (fun _ _ _ h => h) (.inl ⟨rfl, fun _ hS => by simp [execOp, go_sem, Act.eval]⟩) f1 ?_
  simp only [List.getElem_toArray, List.getElem_cons_succ, List.getElem_cons_zero, Act.put, List.setIfInBounds_toArray, List.set_cons_succ, List.set_cons_zero]
  refine wpAnyH_take (i := 6) (v := (.slice af l.length cf)) rfl (by kernel_rfl) (by kernel_rfl) (by kernel_rfl) (fun _ _ _ h => h) (.inl ⟨rfl, fun _ hS => exec_load rfl rfl (load_fils _ p 2 _ _ _ hS.c.2.2)⟩) f1 ?_
  simp only [List.getElem_toArray, List.getElem_cons_succ, List.getElem_cons_zero, Act.put, List.setIfInBounds_toArray, List.set_cons_succ, List.set_cons_zero]
  refine wpAnyH_all (rs := [4]) (by kernel_rfl) (by simp) ?_
  intro k hk
  simp only [List.mem_cons, List.mem_nil_iff, or_false] at hk
  subst hk
  refine wpOp_run rfl rfl (wp_bs0 rfl ?_)
  have f2 : Fo p bx rm (.slice af l.length cf) (w1.alloc (.cells #[] 60)) := f1.below ((Below.refl _ w1).alloc (Nat.le_refl _) _) s1
  have b2 : Below p w (w1.alloc (.cells #[] 60)) := b1.alloc (by omega) _
  refine ⟨f2, ?_⟩
  simp only [List.getElem_toArray, List.getElem_cons_succ, List.getElem_cons_zero, Act.put, List.setIfInBounds_toArray, List.set_cons_succ, List.set_cons_zero]
  refine wpAnyH_all (rs := [7]) (by kernel_rfl) (by simp) ?_
  intro k hk
  simp only [List.mem_cons, List.mem_nil_iff, or_false] at hk
  subst hk
  refine wpOp_run rfl rfl (wp_append_wide DFi _ _ 22 60 _ _ Try.underlying22 infoFiZ rfl rfl w1.heap.size (.slice (some ⟨w1.heap.size, 0, none⟩) 0 0) [] rfl (by exact own_empty_e w1 60 3) _ l rfl (HF.out _ b2) (by unfold maxLen; simp; omega) (by simp; omega) (by rw [size_alloc]; omega) ?_)
  intro v3 w3 P3 G3
  have b3 : Below w1.heap.size w1 w3 := ((Below.refl _ w1).alloc (Nat.le_refl _) (.cells #[] 60)).grown G3 (by simp) (by simp [Value.ownBlock])
  have f3 : Fo p bx rm (.slice af l.length cf) w3 := f1.below b3 s1
  have B3 : Below p w w3 := b1.trans (b3.mono (by omega))
  have P3' : FiIn w3 v3 l := wide_of_own DFi (l := l) P3
  have hN := New_all bx rm w3 P3'
  refine ⟨f3, ?_⟩
  simp only [List.getElem_toArray, List.getElem_cons_succ, List.getElem_cons_zero, Act.put, List.setIfInBounds_toArray, List.set_cons_succ, List.set_cons_zero]
  refine wpAnyH_all (rs := [8]) (by kernel_rfl) (by simp) ?_
  intro k hk
  simp only [List.mem_cons, List.mem_nil_iff, or_false] at hk
  subst hk
  refine wpOp_run rfl rfl (wp_call_fn 7 #[.int .i64 bx, .int .i64 rm, v3] (by simp [execOp, go_sem, Act.eval, resolve, invoke, enterNew]) (hN.mono ?_))
  rintro e w4 ⟨b4, ⟨hE, rfl⟩ | ⟨hE, ⟨hb1, hr1⟩, D, rfl, hD, D4⟩⟩
  · have f4 : Fo p bx rm (.slice af l.length cf) w4 := f3.below b4 f3.lt
    refine ⟨f4, ?_⟩
    simp only [List.getElem_toArray, List.getElem_cons_succ, List.getElem_cons_zero, Act.put, List.setIfInBounds_toArray, List.set_cons_succ, List.set_cons_zero]
    refine wpAnyH_take (i := 9) (v := (.tuple #[.pointer none, .int .i64 (newE bx rm l)])) rfl (by kernel_rfl) (by kernel_rfl) (by kernel_rfl) (fun _ _ _ h => h) (.inl ⟨rfl, fun _ hS => rfl⟩) f4 ?_
    simp only [List.getElem_toArray, List.getElem_cons_succ, List.getElem_cons_zero, Act.put, List.setIfInBounds_toArray, List.set_cons_succ, List.set_cons_zero]
    refine wpAnyH_take (i := 10) (v := (.pointer none)) rfl (by kernel_rfl) (by kernel_rfl) (by kernel_rfl) (fun _ _ _ h => h) (.inl ⟨rfl, fun _ hS => by simp [execOp, go_sem, Act.eval]⟩) f4 ?_
    simp only [List.getElem_toArray, List.getElem_cons_succ, List.getElem_cons_zero, Act.put, List.setIfInBounds_toArray, List.set_cons_succ, List.set_cons_zero]
    refine wpAnyH_take (i := 12) (v := (.pointer none)) rfl (by kernel_rfl) (by kernel_rfl) (by kernel_rfl) (fun _ _ _ h => h) (.inl ⟨rfl, fun _ hS => rfl⟩) f4 ?_
    simp only [List.getElem_toArray, List.getElem_cons_succ, List.getElem_cons_zero, Act.put, List.setIfInBounds_toArray, List.set_cons_succ, List.set_cons_zero]
    refine wpAnyH_take (i := 11) (v := (.int .i64 (newE bx rm l))) rfl (by kernel_rfl) (by kernel_rfl) (by kernel_rfl) (fun _ _ _ h => h) (.inl ⟨rfl, fun _ hS => by simp [execOp, go_sem, Act.eval]⟩) f4 ?_
    simp only [List.getElem_toArray, List.getElem_cons_succ, List.getElem_cons_zero, Act.put, List.setIfInBounds_toArray, List.set_cons_succ, List.set_cons_zero]
    refine wpAnyH_take (i := 13) (v := (.int .i64 (newE bx rm l))) rfl (by kernel_rfl) (by kernel_rfl) (by kernel_rfl) (fun _ _ _ h => h) (.inl ⟨rfl, fun _ hS => rfl⟩) f4 ?_
    simp only [List.getElem_toArray, List.getElem_cons_succ, List.getElem_cons_zero, Act.put, List.setIfInBounds_toArray, List.set_cons_succ, List.set_cons_zero]
    refine wpAnyH_done (by kernel_rfl) ?_ _
    have B4 : Below p w w4 := B3.trans (b4.mono (by have := f3.lt; omega))
    have hL := lives5_any w4
    have hne : (newE bx rm l != 0) = true := by simpa using hE
    generalize newE bx rm l = ze at *
    clear hN P3 G3 P3' HF HI f3 f2 f1 B3 b3 b2 b1
    go_wp2_with fail
    refine hL.mono ?_
    rintro e w5 ⟨rfl, b5⟩
    have B5 : Below p w w5 := B4.trans (b5.mono (by have := B4.size; omega))
    go_wp2
    go_ret
    exact ⟨rfl, by rw [hp]; exact B5⟩
  · have f4 : Fo p bx rm (.slice af l.length cf) w4 := f3.below b4 f3.lt
    refine ⟨f4, ?_⟩
    simp only [List.getElem_toArray, List.getElem_cons_succ, List.getElem_cons_zero, Act.put, List.setIfInBounds_toArray, List.set_cons_succ, List.set_cons_zero]
    refine wpAnyH_take (i := 9) (v := (.tuple #[.pointer (some ⟨D, 0, none⟩), .int .i64 0])) rfl (by kernel_rfl) (by kernel_rfl) (by kernel_rfl) (fun _ _ _ h => h) (.inl ⟨rfl, fun _ hS => rfl⟩) f4 ?_
    simp only [List.getElem_toArray, List.getElem_cons_succ, List.getElem_cons_zero, Act.put, List.setIfInBounds_toArray, List.set_cons_succ, List.set_cons_zero]
    refine wpAnyH_take (i := 10) (v := (.pointer (some ⟨D, 0, none⟩))) rfl (by kernel_rfl) (by kernel_rfl) (by kernel_rfl) (fun _ _ _ h => h) (.inl ⟨rfl, fun _ hS => by simp [execOp, go_sem, Act.eval]⟩) f4 ?_
    simp only [List.getElem_toArray, List.getElem_cons_succ, List.getElem_cons_zero, Act.put, List.setIfInBounds_toArray, List.set_cons_succ, List.set_cons_zero]
    refine wpAnyH_take (i := 12) (v := (.pointer (some ⟨D, 0, none⟩))) rfl (by kernel_rfl) (by kernel_rfl) (by kernel_rfl) (fun _ _ _ h => h) (.inl ⟨rfl, fun _ hS => rfl⟩) f4 ?_
    simp only [List.getElem_toArray, List.getElem_cons_succ, List.getElem_cons_zero, Act.put, List.setIfInBounds_toArray, List.set_cons_succ, List.set_cons_zero]
    refine wpAnyH_take (i := 11) (v := (.int .i64 0)) rfl (by kernel_rfl) (by kernel_rfl) (by kernel_rfl) (fun _ _ _ h => h) (.inl ⟨rfl, fun _ hS => by simp [execOp, go_sem, Act.eval]⟩) f4 ?_
    simp only [List.getElem_toArray, List.getElem_cons_succ, List.getElem_cons_zero, Act.put, List.setIfInBounds_toArray, List.set_cons_succ, List.set_cons_zero]
    refine wpAnyH_take (i := 13) (v := (.int .i64 0)) rfl (by kernel_rfl) (by kernel_rfl) (by kernel_rfl) (fun _ _ _ h => h) (.inl ⟨rfl, fun _ hS => rfl⟩) f4 ?_
    simp only [List.getElem_toArray, List.getElem_cons_succ, List.getElem_cons_zero, Act.put, List.setIfInBounds_toArray, List.set_cons_succ, List.set_cons_zero]
    refine wpAnyH_done (by kernel_rfl) ?_ _
    have B4 : Below p w w4 := B3.trans (b4.mono (by have := f3.lt; omega))
    have lD := D4.lt
    have hpD : p < D := by have := f3.lt; omega
    clear hN P3 G3 P3' HF f3 f2 f1 B3 b3 b2 b1 hE
    go_wp2
    go_loopw [7, 8] (fun lv iv x => ∃ (k : Nat) (s : Dv) (vm vc : Value), k ≤ xa.length ∧ iv = .int .i64 k ∧ lv = .int .i64 s.lo ∧ s.bx = bx ∧ s.rm = rm ∧ s.l = l ∧ 0 ≤ s.lo ∧ s.lo ≤ k ∧ s.tk ≤ k ∧ DvW D s vm vc x ∧ Below D w4 x) (fun _ iv _ => xa.length - (intOf iv).toNat)
    case atStart => exact ⟨0, _, _, _, Nat.zero_le _, rfl, rfl, rfl, rfl, rfl, by simp, by simp, by simp, D4, Below.refl _ _⟩
    case round =>
      obtain ⟨k, s, vm, vc, hk, rfl, rfl, h1, h2, h3, hlo, hlk, htk, DW, BW⟩ := hrel
      have BX : Below p w wr := B4.trans (BW.mono (by omega))
      have foX : Fo p bx rm (.slice af l.length cf) wr := f4.below BW hpD
      by_cases hkl : k < xa.length
      · obtain ⟨ao', cap', hv', _, hc⟩ := HI.out wr BX
        obtain ⟨b, off, hao, hb, hR⟩ := hc k hkl
        have hao2 : ao = some ⟨b, off, none⟩ := by injection hv' with e1; rw [e1]; exact hao
        subst hao2
        clear hc hao hv' HI
        generalize xa[k] = a at *
        obtain ⟨wq, hwq⟩ : ∃ x, (wr.alloc (.cells Ax.nul.arr 47)).setRow wr.heap.size a.arr = x := ⟨_, rfl⟩
        have qn := Aq.new wr Ax.nul
        have qa : Aq wr.heap.size a wq := by rw [← hwq]; exact qn.row a
        have bq : Below wr.heap.size wr wq := by rw [← hwq]; exact below_row ((Below.refl _ wr).alloc (Nat.le_refl _) _) (Nat.le_refl _) (by rw [size_alloc]; omega) _
        have DQ := DW.below bq
        have BQ : Below D w4 wq := BW.trans (bq.mono (by have := BW.size; omega))
        obtain ⟨q, hq⟩ : ∃ q, wr.heap.size = q := ⟨_, rfl⟩
        rw [hq] at qn qa hwq
        have kq := qa.k
        have foQ : Fo p bx rm (.slice af l.length cf) wq := f4.below BQ hpD
        have HG : Hid (∀ (s' : Dv) (vm' vc' : Value) (x : World), Same4 s s' → DvW D s' vm' vc' x → Kz D vc vc' wq x → s'.bx = bx ∧ s'.rm = rm ∧ s'.l = l ∧ s'.tk ≤ k + 1 ∧ DvW D s' vm' vc' x ∧ Below D w4 x ∧ Fo p bx rm (.slice af l.length cf) x) := fun s' vm' vc' x h4 d kz => by
          obtain ⟨e1, e2, e3, e4⟩ := h4
          have bz := BQ.trans (kz.belowD (Nat.le_of_lt DQ.lt))
          exact ⟨e1.trans h1, e2.trans h2, e3.trans h3, by omega, d, bz, f4.below bz hpD⟩
        clear BX foX DW bq BW
        go_upto_region 9 with (first | refine ax_ld hR rfl _ rfl rfl ?_ | refine qn.sd a rfl _ _ rfl rfl rfl ?_)
        rw [hwq]
        clear hR qn hwq
        by_cases k0 : a.kd = 0
        · have d0 : (a.kd == 0) = true := by simpa using k0
          have hSd := Send_dv a.f DQ (by omega)
          have hfr := qa.fr
          have HS := send_same s a.f
          generalize sendS s a.f = r at *
          unfold Fr.val at hSd
          clear k0
          go_wp2_with (refine fld_ld5 hfr rfl _ rfl rfl ?_)
          refine hSd.mono ?_
          rintro e w5 ⟨rfl, vm5, D5, K5⟩
          have GG := HG.out _ _ _ _ HS.1 D5 K5
          have hl5 := HS.2
          obtain ⟨g1, g2, g3, g4, g5, g6, g7⟩ := GG
          have hWx := Waiting_dv g5
          have HLo : Hid (∀ y, Below w5.heap.size w5 y → Calls Try.prog 11 #[.pointer (some ⟨D, 0, none⟩)] y fun e w' => e = .returned (.int .i64 (s.lo)) ∧ w' = y) := fun y hy => by
            have := Lost_dv (g5.below hy)
            rw [hl5] at this
            exact this
          have e0 : decide (bx < ((r.1).ms.length : Int)) = false := by have := g5.b0; rw [g1] at this; simp; omega
          have e1 : decide (rm < ((r.1).cs.length : Int)) = false := by have := g5.r0; rw [g2] at this; simp; omega
          generalize (r.1).ms.length = nm at *
          generalize (r.1).cs.length = nc at *
          go_wp2_with fail
          refine hWx.mono ?_
          rintro e wy ⟨rfl, bY⟩
          have hLx := HLo.out wy bY
          have foY := g7.below bY g7.lt
          obtain ⟨c0, c1, c2⟩ := foY.c
          have HX : Hid (DvW D (r.1) vm5 vc wy ∧ Below D w4 wy) := ⟨g5.below bY, g6.trans (bY.mono (Nat.le_of_lt g5.lt))⟩
          have HY : Hid ((r.1).bx = bx ∧ (r.1).rm = rm ∧ (r.1).l = l ∧ (r.1).tk ≤ ((k + 1 : Nat) : Int) ∧ (r.1).lo = s.lo) := ⟨g1, g2, g3, by omega, hl5⟩
          clear hWx HLo g5 g6 g7 foY bY HG
          go_wp2_with fail
          refine hLx.mono ?_
          rintro e wz ⟨rfl, rfl⟩
          clear hLx c0 c1 c2
          go_wp2
          go_roundw
          case rel => exact ⟨k + 1, r.1, vm5, vc, by omega, by go_num, by rw [HY.out.2.2.2.2], HY.out.1, HY.out.2.1, HY.out.2.2.1, by rw [HY.out.2.2.2.2]; omega, by rw [HY.out.2.2.2.2]; omega, HY.out.2.2.2.1, HX.out⟩
          case measure => simp [intOf]; omega
        · have d0 : (a.kd == 0) = false := by simpa using k0
          by_cases k2 : a.kd = 2
          · have d2 : (a.kd == 2) = true := by simpa using k2
            have hSd := Done_dv DQ
            have HS := done_same s
            generalize doneS s = r at *
            clear k0 k2
            go_wp2_with fail
            refine hSd.mono ?_
            rintro e w5 ⟨rfl, vm5, D5, K5⟩
            have GG := HG.out _ _ _ _ HS.1 D5 K5
            have hl5 := HS.2
            obtain ⟨g1, g2, g3, g4, g5, g6, g7⟩ := GG
            have hWx := Waiting_dv g5
            have HLo : Hid (∀ y, Below w5.heap.size w5 y → Calls Try.prog 11 #[.pointer (some ⟨D, 0, none⟩)] y fun e w' => e = .returned (.int .i64 (s.lo)) ∧ w' = y) := fun y hy => by
              have := Lost_dv (g5.below hy)
              rw [hl5] at this
              exact this
            have e0 : decide (bx < ((r.1).ms.length : Int)) = false := by have := g5.b0; rw [g1] at this; simp; omega
            have e1 : decide (rm < ((r.1).cs.length : Int)) = false := by have := g5.r0; rw [g2] at this; simp; omega
            generalize (r.1).ms.length = nm at *
            generalize (r.1).cs.length = nc at *
            go_wp2_with fail
            refine hWx.mono ?_
            rintro e wy ⟨rfl, bY⟩
            have hLx := HLo.out wy bY
            have foY := g7.below bY g7.lt
            obtain ⟨c0, c1, c2⟩ := foY.c
            have HX : Hid (DvW D (r.1) vm5 vc wy ∧ Below D w4 wy) := ⟨g5.below bY, g6.trans (bY.mono (Nat.le_of_lt g5.lt))⟩
            have HY : Hid ((r.1).bx = bx ∧ (r.1).rm = rm ∧ (r.1).l = l ∧ (r.1).tk ≤ ((k + 1 : Nat) : Int) ∧ (r.1).lo = s.lo) := ⟨g1, g2, g3, by omega, hl5⟩
            clear hWx HLo g5 g6 g7 foY bY HG
            go_wp2_with fail
            refine hLx.mono ?_
            rintro e wz ⟨rfl, rfl⟩
            clear hLx c0 c1 c2
            go_wp2
            go_roundw
            case rel => exact ⟨k + 1, r.1, vm5, vc, by omega, by go_num, by rw [HY.out.2.2.2.2], HY.out.1, HY.out.2.1, HY.out.2.2.1, by rw [HY.out.2.2.2.2]; omega, by rw [HY.out.2.2.2.2]; omega, HY.out.2.2.2.1, HX.out⟩
            case measure => simp [intOf]; omega
          · have d2 : (a.kd == 2) = false := by simpa using k2
            by_cases k4 : a.kd = 4
            · have d4 : (a.kd == 4) = true := by simpa using k4
              have hWt := Waiting_dv DQ
              clear k0 k2 k4
              go_wp2_with fail
              refine hWt.mono ?_
              rintro e w5 ⟨rfl, b5⟩
              have D5 := DQ.below b5
              have q5 := qa.below b5
              have hfr := q5.fr
              have hTk := Take_dv a.f D5 (by omega)
              unfold Fr.val at hTk
              clear hWt
              go_wp2_with (refine fld_ld5 hfr rfl _ rfl rfl ?_)
              refine hTk.mono ?_
              rintro e w6 ⟨rfl, vc6, D6, K6⟩
              have q6 := q5.kz D5 K6
              have HS := take_same s a.f
              have hFy := take_fifty s a.f
              have GG := HG.out _ _ _ _ HS.1 D6 ((Kz.below b5).trans K6)
              have cf1 := GG.2.2.2.2.2.2.c.2.1
              have hfr6 := q6.fr
              have hP6 : ∀ x, pasV s.l a.f = x → Calls Try.prog 19 #[.pointer (some ⟨D, 0, none⟩), .agg a.f.arr] w6 fun e w' => e = .returned (.bool x) ∧ Below w6.heap.size w6 w' := fun x hx => by
                obtain ⟨g6, a6, k6⟩ := D6.at'
                obtain ⟨gs, fs6⟩ := k6.fis
                have hl32 := D6.l0
                have := Passes_any a.f hl32 a6 fs6
                rw [HS.1.2.2.1, hx] at this
                exact this
              have hl5 := HS.2
              clear hTk hfr q5 D5
              by_cases hin : (s.cs.length : Int) = rm
              · have i1 : ((s.cs.length : Int) == rm) = true := by simpa using hin
                have hFy2 : ((takeS s a.f).2 == 50) = pasV s.l a.f := by rw [hFy, h2, decide_eq_true hin, Bool.true_and]
                have hP := hP6 _ rfl
                cases hpv : pasV s.l a.f
                · rw [hpv] at hFy2 hP
                  have hl6 : (takeS s a.f).1.lo = s.lo := by rw [hl5, if_neg (by simpa using hFy2)]; omega
                  clear hFy hl5 hP6 hpv hin HS
                  generalize takeS s a.f = r at *
                  go_wp2_with (refine fld_ldw5 hfr6 rfl _ rfl rfl ?_)
                  refine hP.mono ?_
                  rintro e w7 ⟨rfl, b7⟩
                  have hl5 := hl6
                  have GG := G7 GG b7
                  obtain ⟨g1, g2, g3, g4, g5, g6, g7⟩ := GG
                  have hWx := Waiting_dv g5
                  have HLo : Hid (∀ y, Below w7.heap.size w7 y → Calls Try.prog 11 #[.pointer (some ⟨D, 0, none⟩)] y fun e w' => e = .returned (.int .i64 (s.lo)) ∧ w' = y) := fun y hy => by
                    have := Lost_dv (g5.below hy)
                    rw [hl5] at this
                    exact this
                  have e0 : decide (bx < ((r.1).ms.length : Int)) = false := by have := g5.b0; rw [g1] at this; simp; omega
                  have e1 : decide (rm < ((r.1).cs.length : Int)) = false := by have := g5.r0; rw [g2] at this; simp; omega
                  generalize (r.1).ms.length = nm at *
                  generalize (r.1).cs.length = nc at *
                  go_wp2_with fail
                  refine hWx.mono ?_
                  rintro e wy ⟨rfl, bY⟩
                  have hLx := HLo.out wy bY
                  have foY := g7.below bY g7.lt
                  obtain ⟨c0, c1, c2⟩ := foY.c
                  have HX : Hid (DvW D (r.1) vm vc6 wy ∧ Below D w4 wy) := ⟨g5.below bY, g6.trans (bY.mono (Nat.le_of_lt g5.lt))⟩
                  have HY : Hid ((r.1).bx = bx ∧ (r.1).rm = rm ∧ (r.1).l = l ∧ (r.1).tk ≤ ((k + 1 : Nat) : Int) ∧ (r.1).lo = s.lo) := ⟨g1, g2, g3, by omega, hl5⟩
                  clear hWx HLo g5 g6 g7 foY bY HG
                  go_wp2_with fail
                  refine hLx.mono ?_
                  rintro e wz ⟨rfl, rfl⟩
                  clear hLx c0 c1 c2
                  go_wp2
                  go_roundw
                  case rel => exact ⟨k + 1, r.1, vm, vc6, by omega, by go_num, by rw [HY.out.2.2.2.2], HY.out.1, HY.out.2.1, HY.out.2.2.1, by rw [HY.out.2.2.2.2]; omega, by rw [HY.out.2.2.2.2]; omega, HY.out.2.2.2.1, HX.out⟩
                  case measure => simp [intOf]; omega
                · rw [hpv] at hFy2 hP
                  have hl6 : (takeS s a.f).1.lo = s.lo + 1 := by rw [hl5, if_pos (by simpa using hFy2)]
                  clear hFy hl5 hP6 hpv hin HS
                  generalize takeS s a.f = r at *
                  go_wp2_with (refine fld_ldw5 hfr6 rfl _ rfl rfl ?_)
                  refine hP.mono ?_
                  rintro e w7 ⟨rfl, b7⟩
                  have hl5 := hl6
                  have GG := G7 GG b7
                  obtain ⟨g1, g2, g3, g4, g5, g6, g7⟩ := GG
                  have hWx := Waiting_dv g5
                  have HLo : Hid (∀ y, Below w7.heap.size w7 y → Calls Try.prog 11 #[.pointer (some ⟨D, 0, none⟩)] y fun e w' => e = .returned (.int .i64 (s.lo + 1)) ∧ w' = y) := fun y hy => by
                    have := Lost_dv (g5.below hy)
                    rw [hl5] at this
                    exact this
                  have e0 : decide (bx < ((r.1).ms.length : Int)) = false := by have := g5.b0; rw [g1] at this; simp; omega
                  have e1 : decide (rm < ((r.1).cs.length : Int)) = false := by have := g5.r0; rw [g2] at this; simp; omega
                  generalize (r.1).ms.length = nm at *
                  generalize (r.1).cs.length = nc at *
                  go_wp2_with fail
                  refine hWx.mono ?_
                  rintro e wy ⟨rfl, bY⟩
                  have hLx := HLo.out wy bY
                  have foY := g7.below bY g7.lt
                  obtain ⟨c0, c1, c2⟩ := foY.c
                  have HX : Hid (DvW D (r.1) vm vc6 wy ∧ Below D w4 wy) := ⟨g5.below bY, g6.trans (bY.mono (Nat.le_of_lt g5.lt))⟩
                  have HY : Hid ((r.1).bx = bx ∧ (r.1).rm = rm ∧ (r.1).l = l ∧ (r.1).tk ≤ ((k + 1 : Nat) : Int) ∧ (r.1).lo = s.lo + 1) := ⟨g1, g2, g3, by omega, hl5⟩
                  clear hWx HLo g5 g6 g7 foY bY HG
                  go_wp2_with fail
                  refine hLx.mono ?_
                  rintro e wz ⟨rfl, rfl⟩
                  clear hLx c0 c1 c2
                  go_wp2
                  go_roundw
                  case rel => exact ⟨k + 1, r.1, vm, vc6, by omega, by go_num, by rw [HY.out.2.2.2.2], HY.out.1, HY.out.2.1, HY.out.2.2.1, by rw [HY.out.2.2.2.2]; omega, by rw [HY.out.2.2.2.2]; omega, HY.out.2.2.2.1, HX.out⟩
                  case measure => simp [intOf]; omega
              · have i1 : ((s.cs.length : Int) == rm) = false := by simpa using hin
                have hFy2 : ((takeS s a.f).2 == 50) = false := by rw [hFy, h2, decide_eq_false hin, Bool.false_and]
                have hl6 : (takeS s a.f).1.lo = s.lo := by rw [hl5, if_neg (by simpa using hFy2)]; omega
                clear hFy hl5 hP6 hin HS
                generalize takeS s a.f = r at *
                have hl5 := hl6
                obtain ⟨g1, g2, g3, g4, g5, g6, g7⟩ := GG
                have hWx := Waiting_dv g5
                have HLo : Hid (∀ y, Below w6.heap.size w6 y → Calls Try.prog 11 #[.pointer (some ⟨D, 0, none⟩)] y fun e w' => e = .returned (.int .i64 (s.lo)) ∧ w' = y) := fun y hy => by
                  have := Lost_dv (g5.below hy)
                  rw [hl5] at this
                  exact this
                have e0 : decide (bx < ((r.1).ms.length : Int)) = false := by have := g5.b0; rw [g1] at this; simp; omega
                have e1 : decide (rm < ((r.1).cs.length : Int)) = false := by have := g5.r0; rw [g2] at this; simp; omega
                generalize (r.1).ms.length = nm at *
                generalize (r.1).cs.length = nc at *
                go_wp2_with fail
                refine hWx.mono ?_
                rintro e wy ⟨rfl, bY⟩
                have hLx := HLo.out wy bY
                have foY := g7.below bY g7.lt
                obtain ⟨c0, c1, c2⟩ := foY.c
                have HX : Hid (DvW D (r.1) vm vc6 wy ∧ Below D w4 wy) := ⟨g5.below bY, g6.trans (bY.mono (Nat.le_of_lt g5.lt))⟩
                have HY : Hid ((r.1).bx = bx ∧ (r.1).rm = rm ∧ (r.1).l = l ∧ (r.1).tk ≤ ((k + 1 : Nat) : Int) ∧ (r.1).lo = s.lo) := ⟨g1, g2, g3, by omega, hl5⟩
                clear hWx HLo g5 g6 g7 foY bY HG
                go_wp2_with fail
                refine hLx.mono ?_
                rintro e wz ⟨rfl, rfl⟩
                clear hLx c0 c1 c2
                go_wp2
                go_roundw
                case rel => exact ⟨k + 1, r.1, vm, vc6, by omega, by go_num, by rw [HY.out.2.2.2.2], HY.out.1, HY.out.2.1, HY.out.2.2.1, by rw [HY.out.2.2.2.2]; omega, by rw [HY.out.2.2.2.2]; omega, HY.out.2.2.2.1, HX.out⟩
                case measure => simp [intOf]; omega
            · have d4 : (a.kd == 4) = false := by simpa using k4
              by_cases k5 : a.kd = 5
              · have d5 : (a.kd == 5) = true := by simpa using k5
                have hSd := Fetch_dv DQ
                have HS := fetch_same s
                generalize fetchS s = r at *
                clear k0 k2 k4 k5
                go_wp2_with fail
                refine hSd.mono ?_
                rintro e w5 ⟨rfl, vc5, D5, K5⟩
                have GG := HG.out _ _ _ _ HS.1 D5 K5
                have hl5 := HS.2
                obtain ⟨g1, g2, g3, g4, g5, g6, g7⟩ := GG
                have hWx := Waiting_dv g5
                have HLo : Hid (∀ y, Below w5.heap.size w5 y → Calls Try.prog 11 #[.pointer (some ⟨D, 0, none⟩)] y fun e w' => e = .returned (.int .i64 (s.lo)) ∧ w' = y) := fun y hy => by
                  have := Lost_dv (g5.below hy)
                  rw [hl5] at this
                  exact this
                have e0 : decide (bx < ((r.1).ms.length : Int)) = false := by have := g5.b0; rw [g1] at this; simp; omega
                have e1 : decide (rm < ((r.1).cs.length : Int)) = false := by have := g5.r0; rw [g2] at this; simp; omega
                generalize (r.1).ms.length = nm at *
                generalize (r.1).cs.length = nc at *
                go_wp2_with fail
                refine hWx.mono ?_
                rintro e wy ⟨rfl, bY⟩
                have hLx := HLo.out wy bY
                have foY := g7.below bY g7.lt
                obtain ⟨c0, c1, c2⟩ := foY.c
                have HX : Hid (DvW D (r.1) vm vc5 wy ∧ Below D w4 wy) := ⟨g5.below bY, g6.trans (bY.mono (Nat.le_of_lt g5.lt))⟩
                have HY : Hid ((r.1).bx = bx ∧ (r.1).rm = rm ∧ (r.1).l = l ∧ (r.1).tk ≤ ((k + 1 : Nat) : Int) ∧ (r.1).lo = s.lo) := ⟨g1, g2, g3, by omega, hl5⟩
                clear hWx HLo g5 g6 g7 foY bY HG
                go_wp2_with fail
                refine hLx.mono ?_
                rintro e wz ⟨rfl, rfl⟩
                clear hLx c0 c1 c2
                go_wp2
                go_roundw
                case rel => exact ⟨k + 1, r.1, vm, vc5, by omega, by go_num, by rw [HY.out.2.2.2.2], HY.out.1, HY.out.2.1, HY.out.2.2.1, by rw [HY.out.2.2.2.2]; omega, by rw [HY.out.2.2.2.2]; omega, HY.out.2.2.2.1, HX.out⟩
                case measure => simp [intOf]; omega
              · have d5 : (a.kd == 5) = false := by simpa using k5
                obtain ⟨r, hr⟩ : ∃ r : Dv × Nat, r = (s, 0) := ⟨_, rfl⟩
                have e9 : r.1 = s := by rw [hr]
                have GG := HG.out r.1 vm vc wq (by rw [e9]; exact ⟨rfl, rfl, rfl, by omega⟩) (by rw [e9]; exact DQ) (Kz.below (Below.refl _ _))
                have hl5 : r.1.lo = s.lo := by rw [e9]
                clear k0 k2 k4 k5 hr e9
                obtain ⟨g1, g2, g3, g4, g5, g6, g7⟩ := GG
                have hWx := Waiting_dv g5
                have HLo : Hid (∀ y, Below wq.heap.size wq y → Calls Try.prog 11 #[.pointer (some ⟨D, 0, none⟩)] y fun e w' => e = .returned (.int .i64 (s.lo)) ∧ w' = y) := fun y hy => by
                  have := Lost_dv (g5.below hy)
                  rw [hl5] at this
                  exact this
                have e0 : decide (bx < ((r.1).ms.length : Int)) = false := by have := g5.b0; rw [g1] at this; simp; omega
                have e1 : decide (rm < ((r.1).cs.length : Int)) = false := by have := g5.r0; rw [g2] at this; simp; omega
                generalize (r.1).ms.length = nm at *
                generalize (r.1).cs.length = nc at *
                go_wp2_with fail
                refine hWx.mono ?_
                rintro e wy ⟨rfl, bY⟩
                have hLx := HLo.out wy bY
                have foY := g7.below bY g7.lt
                obtain ⟨c0, c1, c2⟩ := foY.c
                have HX : Hid (DvW D (r.1) vm vc wy ∧ Below D w4 wy) := ⟨g5.below bY, g6.trans (bY.mono (Nat.le_of_lt g5.lt))⟩
                have HY : Hid ((r.1).bx = bx ∧ (r.1).rm = rm ∧ (r.1).l = l ∧ (r.1).tk ≤ ((k + 1 : Nat) : Int) ∧ (r.1).lo = s.lo) := ⟨g1, g2, g3, by omega, hl5⟩
                clear hWx HLo g5 g6 g7 foY bY HG
                go_wp2_with fail
                refine hLx.mono ?_
                rintro e wz ⟨rfl, rfl⟩
                clear hLx c0 c1 c2
                go_wp2
                go_roundw
                case rel => exact ⟨k + 1, r.1, vm, vc, by omega, by go_num, by rw [HY.out.2.2.2.2], HY.out.1, HY.out.2.1, HY.out.2.2.1, by rw [HY.out.2.2.2.2]; omega, by rw [HY.out.2.2.2.2]; omega, HY.out.2.2.2.1, HX.out⟩
                case measure => simp [intOf]; omega
      · have hkl2 : decide (k < xa.length) = false := by simp; omega
        have hL := lives5_any wr
        clear HI hkl foX DW BW
        go_wp2_with fail
        refine hL.mono ?_
        rintro e w5 ⟨rfl, b5⟩
        have B5 : Below p w w5 := BX.trans (b5.mono (by have := BX.size; omega))
        go_wp2
        go_ret
        exact ⟨rfl, by rw [hp]; exact B5⟩
end Go.Proofs.Ytfddoindcmdooaa
