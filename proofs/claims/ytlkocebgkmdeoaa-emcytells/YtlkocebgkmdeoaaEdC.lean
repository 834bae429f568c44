/- The document's Raise. -/
import Derived.Test.YtlkocebgkmdeoaaEdB
import Derived.Deep.DeepCutAuto
namespace Go.Proofs.Ytlkocebgkmdeoaa
open Go.RowKit
set_option linter.unusedVariables false
set_option maxRecDepth 1000000
set_option linter.unusedSimpArgs false
theorem Bc.own1 {q : Nat} {x : Tr} {w : World} (h : Bc 37 q x.arr w) : w.ownsRow q 37 7 (.slice (some ⟨q, 0, none⟩) 1 1) [x].length (flatW DT [x]) := by
  refine ⟨by rw [flatW_len]; rfl, .inr ⟨q, 1, x.arr, rfl, Nat.le_refl _, h, Nat.le_refl _, by decide, rfl, ?_⟩⟩
  show x.arr.toList.take 7 = flatW DT [x]
  simp [flatW, DT, Tr.arr, Tr.cs]
theorem cap_of {w : World} {B k n c : Nat} {a9 : Option Addr} {T : TypeId} {xs : List Value} {m : Nat} (ho : w.ownsRow B T k (.slice a9 n c) m xs) : ∀ ao n' c', Value.slice a9 n c = .slice ao n' c' → n' ≤ c' := fun ao n' c' e => by
  injection e with e1 e2 e3
  subst e1 e2 e3
  rcases ho.2 with ⟨e1, h0⟩ | ⟨g', cap, cur, e1, _, _, h1, _⟩
  · injection e1 with _ e2 e3; omega
  · injection e1 with _ e2 e3; omega
theorem cut_toA {T e : TypeId} {z : Value} {c y : Nat} (hu : Try.prog.underlying T = some (.slice e)) (hinfo : (Try.prog.info? e).map (fun i => (i.zero, i.size, i.bytes)) = some (some z, c, y)) (ao : Option Addr) (n cap i : Nat) (h : i ≤ cap) (W : World) : (Instr.sliceAt T (.slice ao n cap) none (some (.int .i64 i)) none).run Try.prog W = .ok (.slice ao i cap) W := by
  obtain ⟨i0, hi, hz0, hz1, hz2⟩ := info_parts hinfo
  have h1 : (i : Int) ≤ (cap : Int) := by omega
  cases ao with
  | none => simp [Instr.sliceAt, Instr.slice, Instr.sliceBounds, run_underlying hu, go_sem, sizeOf, typeInfo, hi, hz1, Addr.add, h1, h]
  | some a => simp [Instr.sliceAt, Instr.slice, Instr.sliceBounds, run_underlying hu, go_sem, sizeOf, typeInfo, hi, hz1, Addr.add, h1, h]
section
variable {d : Nat} {D : Nat → Prop} {s : Te} {vn vo vf v : Value} {w x y : World}
theorem Dtv.newN (h : Dtv d D s vn vo vf w) {B n c : Nat} {a9 : Option Addr} (l : List Tr) (hB : w.heap.size ≤ B) (hK : Below w.heap.size w y) (ho : y.ownsRow B 37 7 (.slice a9 n c) l.length (flatW DT l)) : Dtv d (fun k => D k ∨ w.heap.size ≤ k) { s with now := l } (.slice a9 n c) vo vf (y.setCell ⟨d, 3, none⟩ (.slice a9 n c)) ∧ Kq (fun k => k = d) w (y.setCell ⟨d, 3, none⟩ (.slice a9 n c)) := by
  have K3 := Kq.one y d 3 (.slice a9 n c)
  have h2 := h.below hK
  have hlt := h.blk.lt
  have hb : ∀ k, (Value.slice a9 n c).ownBlock = some k → B ≤ k := fun k e => (own_lt2 ho e).1
  exact ⟨⟨h2.blk.set 3 _, (wide_of_own DT ho).kq K3 (fun k e => by have := hb k e; omega), h2.ro.kq K3 (fun k e => (h.bo k e).2), h2.rf.kq K3 (fun k e => (h.bf k e).2), .inl h.pd, fun k e => ⟨.inr (by have := hb k e; omega), by have := hb k e; omega⟩, fun k e => ⟨.inl (h.bo k e).1, (h.bo k e).2⟩, fun k e => ⟨.inl (h.bf k e).1, (h.bf k e).2⟩, cap_of ho, h.co, h.cf, fun k e => Nat.lt_of_lt_of_le (own_lt2 ho e).2 K3.size, fun k e => Nat.lt_of_lt_of_le (h.lo k e) (Nat.le_trans hK.size K3.size), fun k e => Nat.lt_of_lt_of_le (h.lf k e) (Nat.le_trans hK.size K3.size)⟩, (Kq.of_below (P := fun k => k = d) hK).trans K3⟩
theorem Dtv.newO (h : Dtv d D s vn vo vf w) {B n c : Nat} {a9 : Option Addr} (l : List Tr) (hB : w.heap.size ≤ B) (hK : Below w.heap.size w y) (ho : y.ownsRow B 37 7 (.slice a9 n c) l.length (flatW DT l)) : Dtv d (fun k => D k ∨ w.heap.size ≤ k) { s with past := l } vn (.slice a9 n c) vf (y.setCell ⟨d, 4, none⟩ (.slice a9 n c)) ∧ Kq (fun k => k = d) w (y.setCell ⟨d, 4, none⟩ (.slice a9 n c)) := by
  have K3 := Kq.one y d 4 (.slice a9 n c)
  have h2 := h.below hK
  have hlt := h.blk.lt
  have hb : ∀ k, (Value.slice a9 n c).ownBlock = some k → B ≤ k := fun k e => (own_lt2 ho e).1
  exact ⟨⟨h2.blk.set 4 _, h2.rn.kq K3 (fun k e => (h.bn k e).2), (wide_of_own DT ho).kq K3 (fun k e => by have := hb k e; omega), h2.rf.kq K3 (fun k e => (h.bf k e).2), .inl h.pd, fun k e => ⟨.inl (h.bn k e).1, (h.bn k e).2⟩, fun k e => ⟨.inr (by have := hb k e; omega), by have := hb k e; omega⟩, fun k e => ⟨.inl (h.bf k e).1, (h.bf k e).2⟩, h.cn, cap_of ho, h.cf, fun k e => Nat.lt_of_lt_of_le (h.ln k e) (Nat.le_trans hK.size K3.size), fun k e => Nat.lt_of_lt_of_le (own_lt2 ho e).2 K3.size, fun k e => Nat.lt_of_lt_of_le (h.lf k e) (Nat.le_trans hK.size K3.size)⟩, (Kq.of_below (P := fun k => k = d) hK).trans K3⟩
/-- What is old is cut. -/
theorem Dtv.cutO {ao : Option Addr} {n c : Nat} (h : Dtv d D s vn (.slice ao n c) vf w) (m : Nat) (hm : m ≤ s.past.length) : Dtv d D { s with past := s.past.take m } vn (.slice ao m c) vf (w.setCell ⟨d, 4, none⟩ (.slice ao m c)) ∧ Kq (fun k => k = d) w (w.setCell ⟨d, 4, none⟩ (.slice ao m c)) := by
  have K3 := Kq.one w d 4 (.slice ao m c)
  obtain ⟨a1, c1, e1, h0, hc⟩ := h.ro
  injection e1 with e2 e3 e4
  subst e2 e3 e4
  have hob : ∀ k, (Value.slice ao m c).ownBlock = some k → (Value.slice ao s.past.length c).ownBlock = some k := fun k e => by
    cases ao with
    | none => exact e
    | some a => exact e
  have hl : (s.past.take m).length = m := by rw [List.length_take]; omega
  have hw : Wide 7 Tr.cs w (.slice ao m c) (s.past.take m) := by
    refine ⟨ao, c, by rw [hl], fun e => ⟨by rw [(h0 e).1]; simp, (h0 e).2⟩, fun k hk => ?_⟩
    rw [hl] at hk
    obtain ⟨b, off, e, hlt, hr⟩ := hc k (by omega)
    exact ⟨b, off, e, hlt, by rw [List.getElem_take]; exact hr⟩
  refine ⟨⟨h.blk.set 4 _, h.rn.kq K3 (fun k e => (h.bn k e).2), hw.kq K3 (fun k e => (h.bo k (hob k e)).2), h.rf.kq K3 (fun k e => (h.bf k e).2), h.pd, h.bn, fun k e => h.bo k (hob k e), h.bf, h.cn, fun a2 n2 c2 e => ?_, h.cf, fun k e => Nat.lt_of_lt_of_le (h.ln k e) K3.size, fun k e => Nat.lt_of_lt_of_le (h.lo k (hob k e)) K3.size, fun k e => Nat.lt_of_lt_of_le (h.lf k e) K3.size⟩, K3⟩
  injection e with e1 e2 e3
  have := h.co _ _ _ rfl
  omega
set_option maxHeartbeats 4000000 in
theorem draise_any (h : Dtv d D s vn vo vf w) (hl : (s.now.length + 1) * 8 ≤ 140737488355328) (hf : s.Fit) (hh : s.hist ≤ 254) (x : Tr) :
    Calls Try.prog 10 #[.pointer (some ⟨d, 0, none⟩), .agg x.arr] w fun e w' => e = .returned (.bool (s.can x)) ∧ Dt d (fun k => D k ∨ w.heap.size ≤ k) (s.raise x) w' ∧ Kq (fun k => k = d) w w' := by
  obtain ⟨q, hq⟩ : ∃ q, w.heap.size = q := ⟨_, rfl⟩
  obtain ⟨D1, hD1⟩ : ∃ P : Nat → Prop, P = fun k => D k ∨ w.heap.size ≤ k := ⟨_, rfl⟩
  have HD1 : Hid (∀ k, w.heap.size ≤ k → D1 k) := fun k hk => by rw [hD1]; exact .inr hk
  have h := h.wide (Q := D1) (fun k hk => by rw [hD1]; exact .inl hk)
  rw [← hD1]
  clear hD1
  obtain ⟨w0, hw0⟩ : ∃ y, w.alloc (.cells #[.int .u16 x.c, .int .u8 x.r, .int .u8 x.x0, .int .u8 x.x1, .int .u8 x.x2, .int .u8 x.x3, .int .u8 x.x4] 37) = y := ⟨_, rfl⟩
  have b0 : Below w.heap.size w w0 := by rw [← hw0]; exact (Below.refl _ _).alloc (Nat.le_refl _) _
  have S0 : Bc 37 q x.arr w0 := by rw [← hw0, ← hq]; exact heap_alloc_new w _
  have h0 := h.below b0
  have K0 : Kq (fun k => k = d) w w0 := Kq.of_below b0
  have hgq : d ≠ q := by have := h.blk.lt; omega
  have HSS : Hid (∀ (u u' : World), Bc 37 q x.arr u → Below u.heap.size u u' → Bc 37 q x.arr u') := fun u u' h1 h2 => Bc.below h1 h2
  have HSC : Hid (∀ (u : World) (i : Nat) (v : Value), Bc 37 q x.arr u → Bc 37 q x.arr (u.setCell ⟨d, i, none⟩ v)) := fun u i v h1 => Bc.kq h1 (Kq.one u d i v) (fun e => hgq e.symm)
  have x0 : w0.cell? ⟨q, 0, none⟩ = some (.int .u16 x.c) := S0.cell 0
  unfold Tr.arr
  by_cases h256 : x.c < 256
  · have hr : s.raise x = s := by unfold Te.raise; rw [Te.can_small h256]; rfl
    rw [Te.can_small h256, hr]
    have HH := hidOf2 (And.intro h0 K0)
    have hd : decide ((x.c : Int) < 256) = true := by simp; omega
    generalize x.c = c at *
    clear hr h h0 K0 b0 S0 HSS HSC h256
    go_enter Try.func10, Try.ntmps10
    go_wp2
    go_ret
    exact ⟨rfl, ⟨_, _, _, HH.out.1⟩, HH.out.2⟩
  · have hd : decide ((x.c : Int) < 256) = false := by simp; omega
    have hF := dfind_any h0 (by omega) x.c
    rw [Te.can_big (by omega)]
    by_cases hi : ix s.now x.c < 0
    · have hr : s.raise x = s.rs x := by unfold Te.raise; rw [Te.can_big (by omega), decide_eq_true hi]; rfl
      rw [hr, decide_eq_true hi]
      have hd2 : decide (0 ≤ ix s.now x.c) = false := by simp; omega
      generalize ix s.now x.c = I at *
      obtain ⟨an, cn, hv⟩ := h0.rn.shape
      subst hv
      clear hr h256 hi h b0
      go_enter Try.func10, Try.ntmps10
      go_upto_region 3 with (go_at_call 27; refine hF.mono ?_; rintro e w1 ⟨rfl, hw1⟩; rw [hw1])
      clear hF x0 hw0
      go_cut [] (fun wx => ∃ v', Dtv d D1 { s with now := s.now ++ [x] } v' vo vf wx ∧ Kq (fun k => k = d) w wx ∧ Bc 37 q x.arr wx)
      case first =>
        refine wp_region_held (S := fun y => Bc 37 q x.arr y) (by kernel_rfl) ?_
        change wpAnyH _ _ _ _ _ _ _ _ w0.drew
        replace h0 : Dtv d D1 s (.slice an s.now.length cn) vo vf w0.drew := h0.kq (Q := fun _ => False) ((Kq.refl _ _).drawn 1) (fun _ _ h => h)
        replace S0 : Bc 37 q x.arr w0.drew := S0
        replace K0 : Kq (fun k => k = d) w w0.drew := ⟨K0.os, K0.tape, K0.output, K0.size, K0.block⟩
        generalize w0.drew = w1 at *
        have HDD : Hid (∀ k, (D1 k ∨ w1.heap.size ≤ k) → D1 k) := fun k hk => hk.elim id (fun e => HD1.out k (Nat.le_trans K0.size e))
        have HKK : Hid (∀ z, Kq (fun k => k = d) w1 z → Kq (fun k => k = d) w z) := fun z hz => K0.trans hz
        have k0 : Below w1.heap.size w1 w1 := Below.refl _ _

        refine wpAnyH_take (i := 0) (v := (.pointer (some ⟨d, 0, none⟩))) rfl (by kernel_rfl) (by kernel_rfl) (by kernel_rfl) (fun _ _ _ h => h) (.inl ⟨rfl, fun _ hS => rfl⟩) S0 ?_
        simp only [List.getElem_toArray, List.getElem_cons_succ, List.getElem_cons_zero, Act.put, List.setIfInBounds_toArray, List.set_cons_succ, List.set_cons_zero]
        refine wpAnyH_take (i := 2) (v := (.pointer (some ⟨d, 0, none⟩))) rfl (by kernel_rfl) (by kernel_rfl) (by kernel_rfl) (fun _ _ _ h => h) (.inl ⟨rfl, fun _ hS => rfl⟩) S0 ?_
        simp only [List.getElem_toArray, List.getElem_cons_succ, List.getElem_cons_zero, Act.put, List.setIfInBounds_toArray, List.set_cons_succ, List.set_cons_zero]
        refine wpAnyH_take (i := 3) (v := (.pointer (some ⟨d, 0, none⟩))) rfl (by kernel_rfl) (by kernel_rfl) (by kernel_rfl) (fun _ _ _ h => h) (.inl ⟨rfl, fun _ hS => by simp [execOp, go_sem, Act.eval]⟩) S0 ?_
        simp only [List.getElem_toArray, List.getElem_cons_succ, List.getElem_cons_zero, Act.put, List.setIfInBounds_toArray, List.set_cons_succ, List.set_cons_zero]
        refine wpAnyH_take (i := 4) (v := (.pointer (some ⟨d, 3, none⟩))) rfl (by kernel_rfl) (by kernel_rfl) (by kernel_rfl) (fun _ _ _ h => h) (.inl ⟨rfl, fun _ hS => by simp [execOp, go_sem, Act.eval]⟩) S0 ?_
        simp only [List.getElem_toArray, List.getElem_cons_succ, List.getElem_cons_zero, Act.put, List.setIfInBounds_toArray, List.set_cons_succ, List.set_cons_zero]
        refine wpAnyH_take (i := 7) (v := (.agg x.arr)) rfl (by kernel_rfl) (by kernel_rfl) (by kernel_rfl) (fun _ _ _ h => h) (.inl ⟨rfl, fun _ hS => exec_load rfl rfl (Bc.ldT hS rfl)⟩) S0 ?_
        simp only [List.getElem_toArray, List.getElem_cons_succ, List.getElem_cons_zero, Act.put, List.setIfInBounds_toArray, List.set_cons_succ, List.set_cons_zero]
        refine wpAnyH_all (rs := [1, 5, 8]) (by kernel_rfl) (by simp) ?_
        intro k hk
        simp only [List.mem_cons, List.mem_nil_iff, or_false] at hk
        rcases hk with rfl | rfl | rfl
        · refine wpOp_run rfl rfl (wp_bs0g Try.underlying30 infoT rfl ?_)
          obtain ⟨qa, hqa⟩ : ∃ q, w1.heap.size = q := ⟨_, rfl⟩
          have b1 : Below w1.heap.size w1 (w1.alloc (.cells #[] 37)) := (Below.refl _ _).alloc (Nat.le_refl _) _
          have z1 : (w1.alloc (.cells #[] 37)).ownsRow qa 37 7 (.slice (some ⟨qa, 0, none⟩) 0 0) ([] : List Tr).length (flatW DT []) := by rw [← hqa]; exact own_empty_e w1 37 7
          have hqa0 : w1.heap.size ≤ qa := by rw [← hqa]; exact k0.size
          have y1 : qa ≤ (w1.alloc (.cells #[] 37)).heap.size := by rw [← hqa]; simp
          have h1 := h0.below b1
          have s1 := HSS.out _ _ S0 b1
          have k1 := k0.trans (b1.mono k0.size)
          rw [hqa]
          clear hqa
          generalize w1.alloc (.cells #[] 37) = u1 at *
          refine ⟨s1, ?_⟩
          simp only [List.getElem_toArray, List.getElem_cons_succ, List.getElem_cons_zero, Act.put, List.setIfInBounds_toArray, List.set_cons_succ, List.set_cons_zero]
          refine wpAnyH_all (rs := [5, 8]) (by kernel_rfl) (by simp) ?_
          intro k hk
          simp only [List.mem_cons, List.mem_nil_iff, or_false] at hk
          rcases hk with rfl | rfl
          · refine wpOp_run rfl rfl (wp_load_run 30 _ rfl ⟨d, 3, none⟩ rfl _ (load_ts h1.cells.2.2.2.1) ?_)
            refine ⟨s1, ?_⟩
            simp only [List.getElem_toArray, List.getElem_cons_succ, List.getElem_cons_zero, Act.put, List.setIfInBounds_toArray, List.set_cons_succ, List.set_cons_zero]
            refine wpAnyH_all (rs := [6, 8]) (by kernel_rfl) (by simp) ?_
            intro k hk
            simp only [List.mem_cons, List.mem_nil_iff, or_false] at hk
            rcases hk with rfl | rfl
            · refine wpOp_run rfl rfl (wp_appW DT _ _ 30 37 _ 8 Try.underlying30 infoT rfl rfl qa _ [] rfl z1 _ s.now rfl h1.rn (by unfold maxLen; simp; omega) (by simp; omega) y1 ?_)
              intro a8 c8 u2 o8 g8
              have b2 : Below w1.heap.size u1 u2 := (Below.refl _ _ : Below w1.heap.size u1 u1).grown g8 k1.size (fun k e => Nat.le_trans hqa0 (own_lt z1 k e))
              have k2 := k1.trans b2
              have h2 := h0.below k2
              have s2 := HSS.out _ _ S0 k2
              have q2 := Nat.le_trans y1 g8.size
              refine ⟨s2, ?_⟩
              simp only [List.getElem_toArray, List.getElem_cons_succ, List.getElem_cons_zero, Act.put, List.setIfInBounds_toArray, List.set_cons_succ, List.set_cons_zero]
              refine wpAnyH_all (rs := [8]) (by kernel_rfl) (by simp) ?_
              intro k hk
              simp only [List.mem_cons, List.mem_nil_iff, or_false] at hk
              subst hk
              refine wpOp_run rfl rfl (wp_one DT x 30 37 _ 8 _ rfl rfl Try.underlying30 infoT (by decide) ?_)
              obtain ⟨qb, hqb⟩ : ∃ q, u2.heap.size = q := ⟨_, rfl⟩
              have b3 : Below u2.heap.size u2 (u2.alloc (.cells (DT.dec x).toArray 37)) := (Below.refl _ _).alloc (Nat.le_refl _) _
              have p3 : Bc 37 qb x.arr (u2.alloc (.cells (DT.dec x).toArray 37)) := by rw [← hqb]; exact heap_alloc_new _ _
              have hqb0 : w1.heap.size ≤ qb := by rw [← hqb]; exact k2.size
              have h3 := h2.below b3
              have s3 := HSS.out _ _ s2 b3
              have k3 := k2.trans (b3.mono k2.size)
              have q3 := Nat.le_trans q2 b3.size
              have row3 := own_belowE o8 b3
              rw [hqb]
              clear hqb
              generalize u2.alloc (.cells (DT.dec x).toArray 37) = u3 at *
              refine ⟨s3, ?_⟩
              simp only [List.getElem_toArray, List.getElem_cons_succ, List.getElem_cons_zero, Act.put, List.setIfInBounds_toArray, List.set_cons_succ, List.set_cons_zero]
              refine wpAnyH_all (rs := [9]) (by kernel_rfl) (by simp) ?_
              intro k hk
              simp only [List.mem_cons, List.mem_nil_iff, or_false] at hk
              subst hk
              refine wpOp_run rfl rfl (wp_appW DT _ _ 30 37 _ 8 Try.underlying30 infoT rfl rfl qa _ ([] ++ s.now) rfl row3 _ [x] rfl (wide_of_own DT (Bc.own1 p3)) (by unfold maxLen; simp; omega) (by simp; omega) q3 ?_)
              intro a9 c9 y9 o9 g9
              have b9 : Below w1.heap.size w1 y9 := k3.grown g9 k3.size (fun k e => Nat.le_trans hqa0 (own_lt row3 k e))
              have z9 := h0.newN (s.now ++ [x]) hqa0 b9 o9
              have h9 := h0.below b9
              have cc9 := h9.cells.2.2.2.1
              have f9 := h9.cells.2.2.2.2.2.2 3
              have s9 := HSS.out _ _ S0 b9
              refine ⟨s9, ?_⟩
              simp only [List.getElem_toArray, List.getElem_cons_succ, List.getElem_cons_zero, Act.put, List.setIfInBounds_toArray, List.set_cons_succ, List.set_cons_zero]
              refine wpAnyH_take (i := 10) (v := (.pointer (some ⟨d, 0, none⟩))) rfl (by kernel_rfl) (by kernel_rfl) (by kernel_rfl) (fun _ _ _ h => h) (.inl ⟨rfl, fun _ hS => by simp [execOp, go_sem, Act.eval]⟩) s9 ?_
              simp only [List.getElem_toArray, List.getElem_cons_succ, List.getElem_cons_zero, Act.put, List.setIfInBounds_toArray, List.set_cons_succ, List.set_cons_zero]
              refine wpAnyH_take (i := 11) (v := (.pointer (some ⟨d, 3, none⟩))) rfl (by kernel_rfl) (by kernel_rfl) (by kernel_rfl) (fun _ _ _ h => h) (.inl ⟨rfl, fun _ hS => by simp [execOp, go_sem, Act.eval]⟩) s9 ?_
              simp only [List.getElem_toArray, List.getElem_cons_succ, List.getElem_cons_zero, Act.put, List.setIfInBounds_toArray, List.set_cons_succ, List.set_cons_zero]
              refine wpAnyH_all (rs := [12]) (by kernel_rfl) (by simp) ?_
              intro k hk
              simp only [List.mem_cons, List.mem_nil_iff, or_false] at hk
              subst hk
              refine wpOp_run rfl rfl (wp_store_run 30 _ _ rfl ⟨d, 3, none⟩ rfl _ rfl (store_ts cc9 f9) ?_)
              have s10 := HSC.out _ 3 (.slice a9 (([] ++ s.now) ++ [x]).length c9) s9
              refine ⟨s10, ?_⟩
              simp only [List.getElem_toArray, List.getElem_cons_succ, List.getElem_cons_zero, Act.put, List.setIfInBounds_toArray, List.set_cons_succ, List.set_cons_zero]
              refine wpAnyH_done (by kernel_rfl) ?_ _
              go_wp2_with fail
              go_meet
              case rel => exact ⟨_, z9.1.wide HDD.out, HKK.out _ z9.2, s10⟩
            · refine wpOp_run rfl rfl (wp_one DT x 30 37 _ 8 _ rfl rfl Try.underlying30 infoT (by decide) ?_)
              obtain ⟨qb, hqb⟩ : ∃ q, u1.heap.size = q := ⟨_, rfl⟩
              have b2 : Below u1.heap.size u1 (u1.alloc (.cells (DT.dec x).toArray 37)) := (Below.refl _ _).alloc (Nat.le_refl _) _
              have p2 : Bc 37 qb x.arr (u1.alloc (.cells (DT.dec x).toArray 37)) := by rw [← hqb]; exact heap_alloc_new _ _
              have hqb0 : w1.heap.size ≤ qb := by rw [← hqb]; exact k1.size
              have hab : qb ≠ qa := by have := (own_lt2 z1 (k := qa) rfl).2; omega
              have h2 := h1.below b2
              have s2 := HSS.out _ _ s1 b2
              have k2 := k1.trans (b2.mono k1.size)
              have q2 := Nat.le_trans y1 b2.size
              have e02 := own_belowE z1 b2
              rw [hqb]
              clear hqb
              generalize u1.alloc (.cells (DT.dec x).toArray 37) = u2 at *
              refine ⟨s2, ?_⟩
              simp only [List.getElem_toArray, List.getElem_cons_succ, List.getElem_cons_zero, Act.put, List.setIfInBounds_toArray, List.set_cons_succ, List.set_cons_zero]
              refine wpAnyH_all (rs := [6]) (by kernel_rfl) (by simp) ?_
              intro k hk
              simp only [List.mem_cons, List.mem_nil_iff, or_false] at hk
              subst hk
              refine wpOp_run rfl rfl (wp_appW DT _ _ 30 37 _ 8 Try.underlying30 infoT rfl rfl qa _ [] rfl e02 _ s.now rfl h2.rn (by unfold maxLen; simp; omega) (by simp; omega) q2 ?_)
              intro a8 c8 u3 o8 g8
              have b3 : Below w1.heap.size u2 u3 := (Below.refl _ _ : Below w1.heap.size u2 u2).grown g8 k2.size (fun k e => Nat.le_trans hqa0 (own_lt e02 k e))
              have k3 := k2.trans b3
              have h3 := h0.below k3
              have s3 := HSS.out _ _ S0 k3
              have q3 := Nat.le_trans q2 g8.size
              have t3 := Bc.kq p2 ((Kq.refl (fun k => k = qa) _).grown g8 (fun k e => by have e9 : some qa = some k := e; injection e9 with e9; exact e9.symm)) hab
              refine ⟨s3, ?_⟩
              simp only [List.getElem_toArray, List.getElem_cons_succ, List.getElem_cons_zero, Act.put, List.setIfInBounds_toArray, List.set_cons_succ, List.set_cons_zero]
              refine wpAnyH_all (rs := [9]) (by kernel_rfl) (by simp) ?_
              intro k hk
              simp only [List.mem_cons, List.mem_nil_iff, or_false] at hk
              subst hk
              refine wpOp_run rfl rfl (wp_appW DT _ _ 30 37 _ 8 Try.underlying30 infoT rfl rfl qa _ ([] ++ s.now) rfl o8 _ [x] rfl (wide_of_own DT (Bc.own1 t3)) (by unfold maxLen; simp; omega) (by simp; omega) q3 ?_)
              intro a9 c9 y9 o9 g9
              have b9 : Below w1.heap.size w1 y9 := k3.grown g9 k3.size (fun k e => Nat.le_trans hqa0 (own_lt o8 k e))
              have z9 := h0.newN (s.now ++ [x]) hqa0 b9 o9
              have h9 := h0.below b9
              have cc9 := h9.cells.2.2.2.1
              have f9 := h9.cells.2.2.2.2.2.2 3
              have s9 := HSS.out _ _ S0 b9
              refine ⟨s9, ?_⟩
              simp only [List.getElem_toArray, List.getElem_cons_succ, List.getElem_cons_zero, Act.put, List.setIfInBounds_toArray, List.set_cons_succ, List.set_cons_zero]
              refine wpAnyH_take (i := 10) (v := (.pointer (some ⟨d, 0, none⟩))) rfl (by kernel_rfl) (by kernel_rfl) (by kernel_rfl) (fun _ _ _ h => h) (.inl ⟨rfl, fun _ hS => by simp [execOp, go_sem, Act.eval]⟩) s9 ?_
              simp only [List.getElem_toArray, List.getElem_cons_succ, List.getElem_cons_zero, Act.put, List.setIfInBounds_toArray, List.set_cons_succ, List.set_cons_zero]
              refine wpAnyH_take (i := 11) (v := (.pointer (some ⟨d, 3, none⟩))) rfl (by kernel_rfl) (by kernel_rfl) (by kernel_rfl) (fun _ _ _ h => h) (.inl ⟨rfl, fun _ hS => by simp [execOp, go_sem, Act.eval]⟩) s9 ?_
              simp only [List.getElem_toArray, List.getElem_cons_succ, List.getElem_cons_zero, Act.put, List.setIfInBounds_toArray, List.set_cons_succ, List.set_cons_zero]
              refine wpAnyH_all (rs := [12]) (by kernel_rfl) (by simp) ?_
              intro k hk
              simp only [List.mem_cons, List.mem_nil_iff, or_false] at hk
              subst hk
              refine wpOp_run rfl rfl (wp_store_run 30 _ _ rfl ⟨d, 3, none⟩ rfl _ rfl (store_ts cc9 f9) ?_)
              have s10 := HSC.out _ 3 (.slice a9 (([] ++ s.now) ++ [x]).length c9) s9
              refine ⟨s10, ?_⟩
              simp only [List.getElem_toArray, List.getElem_cons_succ, List.getElem_cons_zero, Act.put, List.setIfInBounds_toArray, List.set_cons_succ, List.set_cons_zero]
              refine wpAnyH_done (by kernel_rfl) ?_ _
              go_wp2_with fail
              go_meet
              case rel => exact ⟨_, z9.1.wide HDD.out, HKK.out _ z9.2, s10⟩
          · refine wpOp_run rfl rfl (wp_one DT x 30 37 _ 8 _ rfl rfl Try.underlying30 infoT (by decide) ?_)
            obtain ⟨qb, hqb⟩ : ∃ q, u1.heap.size = q := ⟨_, rfl⟩
            have b2 : Below u1.heap.size u1 (u1.alloc (.cells (DT.dec x).toArray 37)) := (Below.refl _ _).alloc (Nat.le_refl _) _
            have p2 : Bc 37 qb x.arr (u1.alloc (.cells (DT.dec x).toArray 37)) := by rw [← hqb]; exact heap_alloc_new _ _
            have hqb0 : w1.heap.size ≤ qb := by rw [← hqb]; exact k1.size
            have hab : qb ≠ qa := by have := (own_lt2 z1 (k := qa) rfl).2; omega
            have h2 := h1.below b2
            have s2 := HSS.out _ _ s1 b2
            have k2 := k1.trans (b2.mono k1.size)
            have q2 := Nat.le_trans y1 b2.size
            have e02 := own_belowE z1 b2
            rw [hqb]
            clear hqb
            generalize u1.alloc (.cells (DT.dec x).toArray 37) = u2 at *
            refine ⟨s2, ?_⟩
            simp only [List.getElem_toArray, List.getElem_cons_succ, List.getElem_cons_zero, Act.put, List.setIfInBounds_toArray, List.set_cons_succ, List.set_cons_zero]
            refine wpAnyH_all (rs := [5]) (by kernel_rfl) (by simp) ?_
            intro k hk
            simp only [List.mem_cons, List.mem_nil_iff, or_false] at hk
            subst hk
            refine wpOp_run rfl rfl (wp_load_run 30 _ rfl ⟨d, 3, none⟩ rfl _ (load_ts h2.cells.2.2.2.1) ?_)
            refine ⟨s2, ?_⟩
            simp only [List.getElem_toArray, List.getElem_cons_succ, List.getElem_cons_zero, Act.put, List.setIfInBounds_toArray, List.set_cons_succ, List.set_cons_zero]
            refine wpAnyH_all (rs := [6]) (by kernel_rfl) (by simp) ?_
            intro k hk
            simp only [List.mem_cons, List.mem_nil_iff, or_false] at hk
            subst hk
            refine wpOp_run rfl rfl (wp_appW DT _ _ 30 37 _ 8 Try.underlying30 infoT rfl rfl qa _ [] rfl e02 _ s.now rfl h2.rn (by unfold maxLen; simp; omega) (by simp; omega) q2 ?_)
            intro a8 c8 u3 o8 g8
            have b3 : Below w1.heap.size u2 u3 := (Below.refl _ _ : Below w1.heap.size u2 u2).grown g8 k2.size (fun k e => Nat.le_trans hqa0 (own_lt e02 k e))
            have k3 := k2.trans b3
            have h3 := h0.below k3
            have s3 := HSS.out _ _ S0 k3
            have q3 := Nat.le_trans q2 g8.size
            have t3 := Bc.kq p2 ((Kq.refl (fun k => k = qa) _).grown g8 (fun k e => by have e9 : some qa = some k := e; injection e9 with e9; exact e9.symm)) hab
            refine ⟨s3, ?_⟩
            simp only [List.getElem_toArray, List.getElem_cons_succ, List.getElem_cons_zero, Act.put, List.setIfInBounds_toArray, List.set_cons_succ, List.set_cons_zero]
            refine wpAnyH_all (rs := [9]) (by kernel_rfl) (by simp) ?_
            intro k hk
            simp only [List.mem_cons, List.mem_nil_iff, or_false] at hk
            subst hk
            refine wpOp_run rfl rfl (wp_appW DT _ _ 30 37 _ 8 Try.underlying30 infoT rfl rfl qa _ ([] ++ s.now) rfl o8 _ [x] rfl (wide_of_own DT (Bc.own1 t3)) (by unfold maxLen; simp; omega) (by simp; omega) q3 ?_)
            intro a9 c9 y9 o9 g9
            have b9 : Below w1.heap.size w1 y9 := k3.grown g9 k3.size (fun k e => Nat.le_trans hqa0 (own_lt o8 k e))
            have z9 := h0.newN (s.now ++ [x]) hqa0 b9 o9
            have h9 := h0.below b9
            have cc9 := h9.cells.2.2.2.1
            have f9 := h9.cells.2.2.2.2.2.2 3
            have s9 := HSS.out _ _ S0 b9
            refine ⟨s9, ?_⟩
            simp only [List.getElem_toArray, List.getElem_cons_succ, List.getElem_cons_zero, Act.put, List.setIfInBounds_toArray, List.set_cons_succ, List.set_cons_zero]
            refine wpAnyH_take (i := 10) (v := (.pointer (some ⟨d, 0, none⟩))) rfl (by kernel_rfl) (by kernel_rfl) (by kernel_rfl) (fun _ _ _ h => h) (.inl ⟨rfl, fun _ hS => by simp [execOp, go_sem, Act.eval]⟩) s9 ?_
            simp only [List.getElem_toArray, List.getElem_cons_succ, List.getElem_cons_zero, Act.put, List.setIfInBounds_toArray, List.set_cons_succ, List.set_cons_zero]
            refine wpAnyH_take (i := 11) (v := (.pointer (some ⟨d, 3, none⟩))) rfl (by kernel_rfl) (by kernel_rfl) (by kernel_rfl) (fun _ _ _ h => h) (.inl ⟨rfl, fun _ hS => by simp [execOp, go_sem, Act.eval]⟩) s9 ?_
            simp only [List.getElem_toArray, List.getElem_cons_succ, List.getElem_cons_zero, Act.put, List.setIfInBounds_toArray, List.set_cons_succ, List.set_cons_zero]
            refine wpAnyH_all (rs := [12]) (by kernel_rfl) (by simp) ?_
            intro k hk
            simp only [List.mem_cons, List.mem_nil_iff, or_false] at hk
            subst hk
            refine wpOp_run rfl rfl (wp_store_run 30 _ _ rfl ⟨d, 3, none⟩ rfl _ rfl (store_ts cc9 f9) ?_)
            have s10 := HSC.out _ 3 (.slice a9 (([] ++ s.now) ++ [x]).length c9) s9
            refine ⟨s10, ?_⟩
            simp only [List.getElem_toArray, List.getElem_cons_succ, List.getElem_cons_zero, Act.put, List.setIfInBounds_toArray, List.set_cons_succ, List.set_cons_zero]
            refine wpAnyH_done (by kernel_rfl) ?_ _
            go_wp2_with fail
            go_meet
            case rel => exact ⟨_, z9.1.wide HDD.out, HKK.out _ z9.2, s10⟩
        · refine wpOp_run rfl rfl (wp_load_run 30 _ rfl ⟨d, 3, none⟩ rfl _ (load_ts h0.cells.2.2.2.1) ?_)
          refine ⟨S0, ?_⟩
          simp only [List.getElem_toArray, List.getElem_cons_succ, List.getElem_cons_zero, Act.put, List.setIfInBounds_toArray, List.set_cons_succ, List.set_cons_zero]
          refine wpAnyH_all (rs := [1, 8]) (by kernel_rfl) (by simp) ?_
          intro k hk
          simp only [List.mem_cons, List.mem_nil_iff, or_false] at hk
          rcases hk with rfl | rfl
          · refine wpOp_run rfl rfl (wp_bs0g Try.underlying30 infoT rfl ?_)
            obtain ⟨qa, hqa⟩ : ∃ q, w1.heap.size = q := ⟨_, rfl⟩
            have b1 : Below w1.heap.size w1 (w1.alloc (.cells #[] 37)) := (Below.refl _ _).alloc (Nat.le_refl _) _
            have z1 : (w1.alloc (.cells #[] 37)).ownsRow qa 37 7 (.slice (some ⟨qa, 0, none⟩) 0 0) ([] : List Tr).length (flatW DT []) := by rw [← hqa]; exact own_empty_e w1 37 7
            have hqa0 : w1.heap.size ≤ qa := by rw [← hqa]; exact k0.size
            have y1 : qa ≤ (w1.alloc (.cells #[] 37)).heap.size := by rw [← hqa]; simp
            have h1 := h0.below b1
            have s1 := HSS.out _ _ S0 b1
            have k1 := k0.trans (b1.mono k0.size)
            rw [hqa]
            clear hqa
            generalize w1.alloc (.cells #[] 37) = u1 at *
            refine ⟨s1, ?_⟩
            simp only [List.getElem_toArray, List.getElem_cons_succ, List.getElem_cons_zero, Act.put, List.setIfInBounds_toArray, List.set_cons_succ, List.set_cons_zero]
            refine wpAnyH_all (rs := [6, 8]) (by kernel_rfl) (by simp) ?_
            intro k hk
            simp only [List.mem_cons, List.mem_nil_iff, or_false] at hk
            rcases hk with rfl | rfl
            · refine wpOp_run rfl rfl (wp_appW DT _ _ 30 37 _ 8 Try.underlying30 infoT rfl rfl qa _ [] rfl z1 _ s.now rfl h1.rn (by unfold maxLen; simp; omega) (by simp; omega) y1 ?_)
              intro a8 c8 u2 o8 g8
              have b2 : Below w1.heap.size u1 u2 := (Below.refl _ _ : Below w1.heap.size u1 u1).grown g8 k1.size (fun k e => Nat.le_trans hqa0 (own_lt z1 k e))
              have k2 := k1.trans b2
              have h2 := h0.below k2
              have s2 := HSS.out _ _ S0 k2
              have q2 := Nat.le_trans y1 g8.size
              refine ⟨s2, ?_⟩
              simp only [List.getElem_toArray, List.getElem_cons_succ, List.getElem_cons_zero, Act.put, List.setIfInBounds_toArray, List.set_cons_succ, List.set_cons_zero]
              refine wpAnyH_all (rs := [8]) (by kernel_rfl) (by simp) ?_
              intro k hk
              simp only [List.mem_cons, List.mem_nil_iff, or_false] at hk
              subst hk
              refine wpOp_run rfl rfl (wp_one DT x 30 37 _ 8 _ rfl rfl Try.underlying30 infoT (by decide) ?_)
              obtain ⟨qb, hqb⟩ : ∃ q, u2.heap.size = q := ⟨_, rfl⟩
              have b3 : Below u2.heap.size u2 (u2.alloc (.cells (DT.dec x).toArray 37)) := (Below.refl _ _).alloc (Nat.le_refl _) _
              have p3 : Bc 37 qb x.arr (u2.alloc (.cells (DT.dec x).toArray 37)) := by rw [← hqb]; exact heap_alloc_new _ _
              have hqb0 : w1.heap.size ≤ qb := by rw [← hqb]; exact k2.size
              have h3 := h2.below b3
              have s3 := HSS.out _ _ s2 b3
              have k3 := k2.trans (b3.mono k2.size)
              have q3 := Nat.le_trans q2 b3.size
              have row3 := own_belowE o8 b3
              rw [hqb]
              clear hqb
              generalize u2.alloc (.cells (DT.dec x).toArray 37) = u3 at *
              refine ⟨s3, ?_⟩
              simp only [List.getElem_toArray, List.getElem_cons_succ, List.getElem_cons_zero, Act.put, List.setIfInBounds_toArray, List.set_cons_succ, List.set_cons_zero]
              refine wpAnyH_all (rs := [9]) (by kernel_rfl) (by simp) ?_
              intro k hk
              simp only [List.mem_cons, List.mem_nil_iff, or_false] at hk
              subst hk
              refine wpOp_run rfl rfl (wp_appW DT _ _ 30 37 _ 8 Try.underlying30 infoT rfl rfl qa _ ([] ++ s.now) rfl row3 _ [x] rfl (wide_of_own DT (Bc.own1 p3)) (by unfold maxLen; simp; omega) (by simp; omega) q3 ?_)
              intro a9 c9 y9 o9 g9
              have b9 : Below w1.heap.size w1 y9 := k3.grown g9 k3.size (fun k e => Nat.le_trans hqa0 (own_lt row3 k e))
              have z9 := h0.newN (s.now ++ [x]) hqa0 b9 o9
              have h9 := h0.below b9
              have cc9 := h9.cells.2.2.2.1
              have f9 := h9.cells.2.2.2.2.2.2 3
              have s9 := HSS.out _ _ S0 b9
              refine ⟨s9, ?_⟩
              simp only [List.getElem_toArray, List.getElem_cons_succ, List.getElem_cons_zero, Act.put, List.setIfInBounds_toArray, List.set_cons_succ, List.set_cons_zero]
              refine wpAnyH_take (i := 10) (v := (.pointer (some ⟨d, 0, none⟩))) rfl (by kernel_rfl) (by kernel_rfl) (by kernel_rfl) (fun _ _ _ h => h) (.inl ⟨rfl, fun _ hS => by simp [execOp, go_sem, Act.eval]⟩) s9 ?_
              simp only [List.getElem_toArray, List.getElem_cons_succ, List.getElem_cons_zero, Act.put, List.setIfInBounds_toArray, List.set_cons_succ, List.set_cons_zero]
              refine wpAnyH_take (i := 11) (v := (.pointer (some ⟨d, 3, none⟩))) rfl (by kernel_rfl) (by kernel_rfl) (by kernel_rfl) (fun _ _ _ h => h) (.inl ⟨rfl, fun _ hS => by simp [execOp, go_sem, Act.eval]⟩) s9 ?_
              simp only [List.getElem_toArray, List.getElem_cons_succ, List.getElem_cons_zero, Act.put, List.setIfInBounds_toArray, List.set_cons_succ, List.set_cons_zero]
              refine wpAnyH_all (rs := [12]) (by kernel_rfl) (by simp) ?_
              intro k hk
              simp only [List.mem_cons, List.mem_nil_iff, or_false] at hk
              subst hk
              refine wpOp_run rfl rfl (wp_store_run 30 _ _ rfl ⟨d, 3, none⟩ rfl _ rfl (store_ts cc9 f9) ?_)
              have s10 := HSC.out _ 3 (.slice a9 (([] ++ s.now) ++ [x]).length c9) s9
              refine ⟨s10, ?_⟩
              simp only [List.getElem_toArray, List.getElem_cons_succ, List.getElem_cons_zero, Act.put, List.setIfInBounds_toArray, List.set_cons_succ, List.set_cons_zero]
              refine wpAnyH_done (by kernel_rfl) ?_ _
              go_wp2_with fail
              go_meet
              case rel => exact ⟨_, z9.1.wide HDD.out, HKK.out _ z9.2, s10⟩
            · refine wpOp_run rfl rfl (wp_one DT x 30 37 _ 8 _ rfl rfl Try.underlying30 infoT (by decide) ?_)
              obtain ⟨qb, hqb⟩ : ∃ q, u1.heap.size = q := ⟨_, rfl⟩
              have b2 : Below u1.heap.size u1 (u1.alloc (.cells (DT.dec x).toArray 37)) := (Below.refl _ _).alloc (Nat.le_refl _) _
              have p2 : Bc 37 qb x.arr (u1.alloc (.cells (DT.dec x).toArray 37)) := by rw [← hqb]; exact heap_alloc_new _ _
              have hqb0 : w1.heap.size ≤ qb := by rw [← hqb]; exact k1.size
              have hab : qb ≠ qa := by have := (own_lt2 z1 (k := qa) rfl).2; omega
              have h2 := h1.below b2
              have s2 := HSS.out _ _ s1 b2
              have k2 := k1.trans (b2.mono k1.size)
              have q2 := Nat.le_trans y1 b2.size
              have e02 := own_belowE z1 b2
              rw [hqb]
              clear hqb
              generalize u1.alloc (.cells (DT.dec x).toArray 37) = u2 at *
              refine ⟨s2, ?_⟩
              simp only [List.getElem_toArray, List.getElem_cons_succ, List.getElem_cons_zero, Act.put, List.setIfInBounds_toArray, List.set_cons_succ, List.set_cons_zero]
              refine wpAnyH_all (rs := [6]) (by kernel_rfl) (by simp) ?_
              intro k hk
              simp only [List.mem_cons, List.mem_nil_iff, or_false] at hk
              subst hk
              refine wpOp_run rfl rfl (wp_appW DT _ _ 30 37 _ 8 Try.underlying30 infoT rfl rfl qa _ [] rfl e02 _ s.now rfl h2.rn (by unfold maxLen; simp; omega) (by simp; omega) q2 ?_)
              intro a8 c8 u3 o8 g8
              have b3 : Below w1.heap.size u2 u3 := (Below.refl _ _ : Below w1.heap.size u2 u2).grown g8 k2.size (fun k e => Nat.le_trans hqa0 (own_lt e02 k e))
              have k3 := k2.trans b3
              have h3 := h0.below k3
              have s3 := HSS.out _ _ S0 k3
              have q3 := Nat.le_trans q2 g8.size
              have t3 := Bc.kq p2 ((Kq.refl (fun k => k = qa) _).grown g8 (fun k e => by have e9 : some qa = some k := e; injection e9 with e9; exact e9.symm)) hab
              refine ⟨s3, ?_⟩
              simp only [List.getElem_toArray, List.getElem_cons_succ, List.getElem_cons_zero, Act.put, List.setIfInBounds_toArray, List.set_cons_succ, List.set_cons_zero]
              refine wpAnyH_all (rs := [9]) (by kernel_rfl) (by simp) ?_
              intro k hk
              simp only [List.mem_cons, List.mem_nil_iff, or_false] at hk
              subst hk
              refine wpOp_run rfl rfl (wp_appW DT _ _ 30 37 _ 8 Try.underlying30 infoT rfl rfl qa _ ([] ++ s.now) rfl o8 _ [x] rfl (wide_of_own DT (Bc.own1 t3)) (by unfold maxLen; simp; omega) (by simp; omega) q3 ?_)
              intro a9 c9 y9 o9 g9
              have b9 : Below w1.heap.size w1 y9 := k3.grown g9 k3.size (fun k e => Nat.le_trans hqa0 (own_lt o8 k e))
              have z9 := h0.newN (s.now ++ [x]) hqa0 b9 o9
              have h9 := h0.below b9
              have cc9 := h9.cells.2.2.2.1
              have f9 := h9.cells.2.2.2.2.2.2 3
              have s9 := HSS.out _ _ S0 b9
              refine ⟨s9, ?_⟩
              simp only [List.getElem_toArray, List.getElem_cons_succ, List.getElem_cons_zero, Act.put, List.setIfInBounds_toArray, List.set_cons_succ, List.set_cons_zero]
              refine wpAnyH_take (i := 10) (v := (.pointer (some ⟨d, 0, none⟩))) rfl (by kernel_rfl) (by kernel_rfl) (by kernel_rfl) (fun _ _ _ h => h) (.inl ⟨rfl, fun _ hS => by simp [execOp, go_sem, Act.eval]⟩) s9 ?_
              simp only [List.getElem_toArray, List.getElem_cons_succ, List.getElem_cons_zero, Act.put, List.setIfInBounds_toArray, List.set_cons_succ, List.set_cons_zero]
              refine wpAnyH_take (i := 11) (v := (.pointer (some ⟨d, 3, none⟩))) rfl (by kernel_rfl) (by kernel_rfl) (by kernel_rfl) (fun _ _ _ h => h) (.inl ⟨rfl, fun _ hS => by simp [execOp, go_sem, Act.eval]⟩) s9 ?_
              simp only [List.getElem_toArray, List.getElem_cons_succ, List.getElem_cons_zero, Act.put, List.setIfInBounds_toArray, List.set_cons_succ, List.set_cons_zero]
              refine wpAnyH_all (rs := [12]) (by kernel_rfl) (by simp) ?_
              intro k hk
              simp only [List.mem_cons, List.mem_nil_iff, or_false] at hk
              subst hk
              refine wpOp_run rfl rfl (wp_store_run 30 _ _ rfl ⟨d, 3, none⟩ rfl _ rfl (store_ts cc9 f9) ?_)
              have s10 := HSC.out _ 3 (.slice a9 (([] ++ s.now) ++ [x]).length c9) s9
              refine ⟨s10, ?_⟩
              simp only [List.getElem_toArray, List.getElem_cons_succ, List.getElem_cons_zero, Act.put, List.setIfInBounds_toArray, List.set_cons_succ, List.set_cons_zero]
              refine wpAnyH_done (by kernel_rfl) ?_ _
              go_wp2_with fail
              go_meet
              case rel => exact ⟨_, z9.1.wide HDD.out, HKK.out _ z9.2, s10⟩
          · refine wpOp_run rfl rfl (wp_one DT x 30 37 _ 8 _ rfl rfl Try.underlying30 infoT (by decide) ?_)
            obtain ⟨qb, hqb⟩ : ∃ q, w1.heap.size = q := ⟨_, rfl⟩
            have b1 : Below w1.heap.size w1 (w1.alloc (.cells (DT.dec x).toArray 37)) := (Below.refl _ _).alloc (Nat.le_refl _) _
            have p1 : Bc 37 qb x.arr (w1.alloc (.cells (DT.dec x).toArray 37)) := by rw [← hqb]; exact heap_alloc_new _ _
            have hqb0 : w1.heap.size ≤ qb := by rw [← hqb]; exact k0.size
            have h1 := h0.below b1
            have s1 := HSS.out _ _ S0 b1
            have k1 := k0.trans (b1.mono k0.size)
            rw [hqb]
            clear hqb
            generalize w1.alloc (.cells (DT.dec x).toArray 37) = u1 at *
            refine ⟨s1, ?_⟩
            simp only [List.getElem_toArray, List.getElem_cons_succ, List.getElem_cons_zero, Act.put, List.setIfInBounds_toArray, List.set_cons_succ, List.set_cons_zero]
            refine wpAnyH_all (rs := [1]) (by kernel_rfl) (by simp) ?_
            intro k hk
            simp only [List.mem_cons, List.mem_nil_iff, or_false] at hk
            subst hk
            refine wpOp_run rfl rfl (wp_bs0g Try.underlying30 infoT rfl ?_)
            obtain ⟨qa, hqa⟩ : ∃ q, u1.heap.size = q := ⟨_, rfl⟩
            have b2 : Below u1.heap.size u1 (u1.alloc (.cells #[] 37)) := (Below.refl _ _).alloc (Nat.le_refl _) _
            have z2 : (u1.alloc (.cells #[] 37)).ownsRow qa 37 7 (.slice (some ⟨qa, 0, none⟩) 0 0) ([] : List Tr).length (flatW DT []) := by rw [← hqa]; exact own_empty_e u1 37 7
            have hqa0 : w1.heap.size ≤ qa := by rw [← hqa]; exact k1.size
            have y2 : qa ≤ (u1.alloc (.cells #[] 37)).heap.size := by rw [← hqa]; simp
            have hab : qb ≠ qa := by have := p1.lt; omega
            have h2 := h1.below b2
            have s2 := HSS.out _ _ s1 b2
            have k2 := k1.trans (b2.mono k1.size)
            have t2 := Bc.below p1 b2
            rw [hqa]
            clear hqa
            generalize u1.alloc (.cells #[] 37) = u2 at *
            refine ⟨s2, ?_⟩
            simp only [List.getElem_toArray, List.getElem_cons_succ, List.getElem_cons_zero, Act.put, List.setIfInBounds_toArray, List.set_cons_succ, List.set_cons_zero]
            refine wpAnyH_all (rs := [6]) (by kernel_rfl) (by simp) ?_
            intro k hk
            simp only [List.mem_cons, List.mem_nil_iff, or_false] at hk
            subst hk
            refine wpOp_run rfl rfl (wp_appW DT _ _ 30 37 _ 8 Try.underlying30 infoT rfl rfl qa _ [] rfl z2 _ s.now rfl h2.rn (by unfold maxLen; simp; omega) (by simp; omega) y2 ?_)
            intro a8 c8 u3 o8 g8
            have b3 : Below w1.heap.size u2 u3 := (Below.refl _ _ : Below w1.heap.size u2 u2).grown g8 k2.size (fun k e => Nat.le_trans hqa0 (own_lt z2 k e))
            have k3 := k2.trans b3
            have h3 := h0.below k3
            have s3 := HSS.out _ _ S0 k3
            have q3 := Nat.le_trans y2 g8.size
            have t3 := Bc.kq t2 ((Kq.refl (fun k => k = qa) _).grown g8 (fun k e => by have e9 : some qa = some k := e; injection e9 with e9; exact e9.symm)) hab
            refine ⟨s3, ?_⟩
            simp only [List.getElem_toArray, List.getElem_cons_succ, List.getElem_cons_zero, Act.put, List.setIfInBounds_toArray, List.set_cons_succ, List.set_cons_zero]
            refine wpAnyH_all (rs := [9]) (by kernel_rfl) (by simp) ?_
            intro k hk
            simp only [List.mem_cons, List.mem_nil_iff, or_false] at hk
            subst hk
            refine wpOp_run rfl rfl (wp_appW DT _ _ 30 37 _ 8 Try.underlying30 infoT rfl rfl qa _ ([] ++ s.now) rfl o8 _ [x] rfl (wide_of_own DT (Bc.own1 t3)) (by unfold maxLen; simp; omega) (by simp; omega) q3 ?_)
            intro a9 c9 y9 o9 g9
            have b9 : Below w1.heap.size w1 y9 := k3.grown g9 k3.size (fun k e => Nat.le_trans hqa0 (own_lt o8 k e))
            have z9 := h0.newN (s.now ++ [x]) hqa0 b9 o9
            have h9 := h0.below b9
            have cc9 := h9.cells.2.2.2.1
            have f9 := h9.cells.2.2.2.2.2.2 3
            have s9 := HSS.out _ _ S0 b9
            refine ⟨s9, ?_⟩
            simp only [List.getElem_toArray, List.getElem_cons_succ, List.getElem_cons_zero, Act.put, List.setIfInBounds_toArray, List.set_cons_succ, List.set_cons_zero]
            refine wpAnyH_take (i := 10) (v := (.pointer (some ⟨d, 0, none⟩))) rfl (by kernel_rfl) (by kernel_rfl) (by kernel_rfl) (fun _ _ _ h => h) (.inl ⟨rfl, fun _ hS => by simp [execOp, go_sem, Act.eval]⟩) s9 ?_
            simp only [List.getElem_toArray, List.getElem_cons_succ, List.getElem_cons_zero, Act.put, List.setIfInBounds_toArray, List.set_cons_succ, List.set_cons_zero]
            refine wpAnyH_take (i := 11) (v := (.pointer (some ⟨d, 3, none⟩))) rfl (by kernel_rfl) (by kernel_rfl) (by kernel_rfl) (fun _ _ _ h => h) (.inl ⟨rfl, fun _ hS => by simp [execOp, go_sem, Act.eval]⟩) s9 ?_
            simp only [List.getElem_toArray, List.getElem_cons_succ, List.getElem_cons_zero, Act.put, List.setIfInBounds_toArray, List.set_cons_succ, List.set_cons_zero]
            refine wpAnyH_all (rs := [12]) (by kernel_rfl) (by simp) ?_
            intro k hk
            simp only [List.mem_cons, List.mem_nil_iff, or_false] at hk
            subst hk
            refine wpOp_run rfl rfl (wp_store_run 30 _ _ rfl ⟨d, 3, none⟩ rfl _ rfl (store_ts cc9 f9) ?_)
            have s10 := HSC.out _ 3 (.slice a9 (([] ++ s.now) ++ [x]).length c9) s9
            refine ⟨s10, ?_⟩
            simp only [List.getElem_toArray, List.getElem_cons_succ, List.getElem_cons_zero, Act.put, List.setIfInBounds_toArray, List.set_cons_succ, List.set_cons_zero]
            refine wpAnyH_done (by kernel_rfl) ?_ _
            go_wp2_with fail
            go_meet
            case rel => exact ⟨_, z9.1.wide HDD.out, HKK.out _ z9.2, s10⟩
        · refine wpOp_run rfl rfl (wp_one DT x 30 37 _ 8 _ rfl rfl Try.underlying30 infoT (by decide) ?_)
          obtain ⟨qb, hqb⟩ : ∃ q, w1.heap.size = q := ⟨_, rfl⟩
          have b1 : Below w1.heap.size w1 (w1.alloc (.cells (DT.dec x).toArray 37)) := (Below.refl _ _).alloc (Nat.le_refl _) _
          have p1 : Bc 37 qb x.arr (w1.alloc (.cells (DT.dec x).toArray 37)) := by rw [← hqb]; exact heap_alloc_new _ _
          have hqb0 : w1.heap.size ≤ qb := by rw [← hqb]; exact k0.size
          have h1 := h0.below b1
          have s1 := HSS.out _ _ S0 b1
          have k1 := k0.trans (b1.mono k0.size)
          rw [hqb]
          clear hqb
          generalize w1.alloc (.cells (DT.dec x).toArray 37) = u1 at *
          refine ⟨s1, ?_⟩
          simp only [List.getElem_toArray, List.getElem_cons_succ, List.getElem_cons_zero, Act.put, List.setIfInBounds_toArray, List.set_cons_succ, List.set_cons_zero]
          refine wpAnyH_all (rs := [1, 5]) (by kernel_rfl) (by simp) ?_
          intro k hk
          simp only [List.mem_cons, List.mem_nil_iff, or_false] at hk
          rcases hk with rfl | rfl
          · refine wpOp_run rfl rfl (wp_bs0g Try.underlying30 infoT rfl ?_)
            obtain ⟨qa, hqa⟩ : ∃ q, u1.heap.size = q := ⟨_, rfl⟩
            have b2 : Below u1.heap.size u1 (u1.alloc (.cells #[] 37)) := (Below.refl _ _).alloc (Nat.le_refl _) _
            have z2 : (u1.alloc (.cells #[] 37)).ownsRow qa 37 7 (.slice (some ⟨qa, 0, none⟩) 0 0) ([] : List Tr).length (flatW DT []) := by rw [← hqa]; exact own_empty_e u1 37 7
            have hqa0 : w1.heap.size ≤ qa := by rw [← hqa]; exact k1.size
            have y2 : qa ≤ (u1.alloc (.cells #[] 37)).heap.size := by rw [← hqa]; simp
            have hab : qb ≠ qa := by have := p1.lt; omega
            have h2 := h1.below b2
            have s2 := HSS.out _ _ s1 b2
            have k2 := k1.trans (b2.mono k1.size)
            have t2 := Bc.below p1 b2
            rw [hqa]
            clear hqa
            generalize u1.alloc (.cells #[] 37) = u2 at *
            refine ⟨s2, ?_⟩
            simp only [List.getElem_toArray, List.getElem_cons_succ, List.getElem_cons_zero, Act.put, List.setIfInBounds_toArray, List.set_cons_succ, List.set_cons_zero]
            refine wpAnyH_all (rs := [5]) (by kernel_rfl) (by simp) ?_
            intro k hk
            simp only [List.mem_cons, List.mem_nil_iff, or_false] at hk
            subst hk
            refine wpOp_run rfl rfl (wp_load_run 30 _ rfl ⟨d, 3, none⟩ rfl _ (load_ts h2.cells.2.2.2.1) ?_)
            refine ⟨s2, ?_⟩
            simp only [List.getElem_toArray, List.getElem_cons_succ, List.getElem_cons_zero, Act.put, List.setIfInBounds_toArray, List.set_cons_succ, List.set_cons_zero]
            refine wpAnyH_all (rs := [6]) (by kernel_rfl) (by simp) ?_
            intro k hk
            simp only [List.mem_cons, List.mem_nil_iff, or_false] at hk
            subst hk
            refine wpOp_run rfl rfl (wp_appW DT _ _ 30 37 _ 8 Try.underlying30 infoT rfl rfl qa _ [] rfl z2 _ s.now rfl h2.rn (by unfold maxLen; simp; omega) (by simp; omega) y2 ?_)
            intro a8 c8 u3 o8 g8
            have b3 : Below w1.heap.size u2 u3 := (Below.refl _ _ : Below w1.heap.size u2 u2).grown g8 k2.size (fun k e => Nat.le_trans hqa0 (own_lt z2 k e))
            have k3 := k2.trans b3
            have h3 := h0.below k3
            have s3 := HSS.out _ _ S0 k3
            have q3 := Nat.le_trans y2 g8.size
            have t3 := Bc.kq t2 ((Kq.refl (fun k => k = qa) _).grown g8 (fun k e => by have e9 : some qa = some k := e; injection e9 with e9; exact e9.symm)) hab
            refine ⟨s3, ?_⟩
            simp only [List.getElem_toArray, List.getElem_cons_succ, List.getElem_cons_zero, Act.put, List.setIfInBounds_toArray, List.set_cons_succ, List.set_cons_zero]
            refine wpAnyH_all (rs := [9]) (by kernel_rfl) (by simp) ?_
            intro k hk
            simp only [List.mem_cons, List.mem_nil_iff, or_false] at hk
            subst hk
            refine wpOp_run rfl rfl (wp_appW DT _ _ 30 37 _ 8 Try.underlying30 infoT rfl rfl qa _ ([] ++ s.now) rfl o8 _ [x] rfl (wide_of_own DT (Bc.own1 t3)) (by unfold maxLen; simp; omega) (by simp; omega) q3 ?_)
            intro a9 c9 y9 o9 g9
            have b9 : Below w1.heap.size w1 y9 := k3.grown g9 k3.size (fun k e => Nat.le_trans hqa0 (own_lt o8 k e))
            have z9 := h0.newN (s.now ++ [x]) hqa0 b9 o9
            have h9 := h0.below b9
            have cc9 := h9.cells.2.2.2.1
            have f9 := h9.cells.2.2.2.2.2.2 3
            have s9 := HSS.out _ _ S0 b9
            refine ⟨s9, ?_⟩
            simp only [List.getElem_toArray, List.getElem_cons_succ, List.getElem_cons_zero, Act.put, List.setIfInBounds_toArray, List.set_cons_succ, List.set_cons_zero]
            refine wpAnyH_take (i := 10) (v := (.pointer (some ⟨d, 0, none⟩))) rfl (by kernel_rfl) (by kernel_rfl) (by kernel_rfl) (fun _ _ _ h => h) (.inl ⟨rfl, fun _ hS => by simp [execOp, go_sem, Act.eval]⟩) s9 ?_
            simp only [List.getElem_toArray, List.getElem_cons_succ, List.getElem_cons_zero, Act.put, List.setIfInBounds_toArray, List.set_cons_succ, List.set_cons_zero]
            refine wpAnyH_take (i := 11) (v := (.pointer (some ⟨d, 3, none⟩))) rfl (by kernel_rfl) (by kernel_rfl) (by kernel_rfl) (fun _ _ _ h => h) (.inl ⟨rfl, fun _ hS => by simp [execOp, go_sem, Act.eval]⟩) s9 ?_
            simp only [List.getElem_toArray, List.getElem_cons_succ, List.getElem_cons_zero, Act.put, List.setIfInBounds_toArray, List.set_cons_succ, List.set_cons_zero]
            refine wpAnyH_all (rs := [12]) (by kernel_rfl) (by simp) ?_
            intro k hk
            simp only [List.mem_cons, List.mem_nil_iff, or_false] at hk
            subst hk
            refine wpOp_run rfl rfl (wp_store_run 30 _ _ rfl ⟨d, 3, none⟩ rfl _ rfl (store_ts cc9 f9) ?_)
            have s10 := HSC.out _ 3 (.slice a9 (([] ++ s.now) ++ [x]).length c9) s9
            refine ⟨s10, ?_⟩
            simp only [List.getElem_toArray, List.getElem_cons_succ, List.getElem_cons_zero, Act.put, List.setIfInBounds_toArray, List.set_cons_succ, List.set_cons_zero]
            refine wpAnyH_done (by kernel_rfl) ?_ _
            go_wp2_with fail
            go_meet
            case rel => exact ⟨_, z9.1.wide HDD.out, HKK.out _ z9.2, s10⟩
          · refine wpOp_run rfl rfl (wp_load_run 30 _ rfl ⟨d, 3, none⟩ rfl _ (load_ts h1.cells.2.2.2.1) ?_)
            refine ⟨s1, ?_⟩
            simp only [List.getElem_toArray, List.getElem_cons_succ, List.getElem_cons_zero, Act.put, List.setIfInBounds_toArray, List.set_cons_succ, List.set_cons_zero]
            refine wpAnyH_all (rs := [1]) (by kernel_rfl) (by simp) ?_
            intro k hk
            simp only [List.mem_cons, List.mem_nil_iff, or_false] at hk
            subst hk
            refine wpOp_run rfl rfl (wp_bs0g Try.underlying30 infoT rfl ?_)
            obtain ⟨qa, hqa⟩ : ∃ q, u1.heap.size = q := ⟨_, rfl⟩
            have b2 : Below u1.heap.size u1 (u1.alloc (.cells #[] 37)) := (Below.refl _ _).alloc (Nat.le_refl _) _
            have z2 : (u1.alloc (.cells #[] 37)).ownsRow qa 37 7 (.slice (some ⟨qa, 0, none⟩) 0 0) ([] : List Tr).length (flatW DT []) := by rw [← hqa]; exact own_empty_e u1 37 7
            have hqa0 : w1.heap.size ≤ qa := by rw [← hqa]; exact k1.size
            have y2 : qa ≤ (u1.alloc (.cells #[] 37)).heap.size := by rw [← hqa]; simp
            have hab : qb ≠ qa := by have := p1.lt; omega
            have h2 := h1.below b2
            have s2 := HSS.out _ _ s1 b2
            have k2 := k1.trans (b2.mono k1.size)
            have t2 := Bc.below p1 b2
            rw [hqa]
            clear hqa
            generalize u1.alloc (.cells #[] 37) = u2 at *
            refine ⟨s2, ?_⟩
            simp only [List.getElem_toArray, List.getElem_cons_succ, List.getElem_cons_zero, Act.put, List.setIfInBounds_toArray, List.set_cons_succ, List.set_cons_zero]
            refine wpAnyH_all (rs := [6]) (by kernel_rfl) (by simp) ?_
            intro k hk
            simp only [List.mem_cons, List.mem_nil_iff, or_false] at hk
            subst hk
            refine wpOp_run rfl rfl (wp_appW DT _ _ 30 37 _ 8 Try.underlying30 infoT rfl rfl qa _ [] rfl z2 _ s.now rfl h2.rn (by unfold maxLen; simp; omega) (by simp; omega) y2 ?_)
            intro a8 c8 u3 o8 g8
            have b3 : Below w1.heap.size u2 u3 := (Below.refl _ _ : Below w1.heap.size u2 u2).grown g8 k2.size (fun k e => Nat.le_trans hqa0 (own_lt z2 k e))
            have k3 := k2.trans b3
            have h3 := h0.below k3
            have s3 := HSS.out _ _ S0 k3
            have q3 := Nat.le_trans y2 g8.size
            have t3 := Bc.kq t2 ((Kq.refl (fun k => k = qa) _).grown g8 (fun k e => by have e9 : some qa = some k := e; injection e9 with e9; exact e9.symm)) hab
            refine ⟨s3, ?_⟩
            simp only [List.getElem_toArray, List.getElem_cons_succ, List.getElem_cons_zero, Act.put, List.setIfInBounds_toArray, List.set_cons_succ, List.set_cons_zero]
            refine wpAnyH_all (rs := [9]) (by kernel_rfl) (by simp) ?_
            intro k hk
            simp only [List.mem_cons, List.mem_nil_iff, or_false] at hk
            subst hk
            refine wpOp_run rfl rfl (wp_appW DT _ _ 30 37 _ 8 Try.underlying30 infoT rfl rfl qa _ ([] ++ s.now) rfl o8 _ [x] rfl (wide_of_own DT (Bc.own1 t3)) (by unfold maxLen; simp; omega) (by simp; omega) q3 ?_)
            intro a9 c9 y9 o9 g9
            have b9 : Below w1.heap.size w1 y9 := k3.grown g9 k3.size (fun k e => Nat.le_trans hqa0 (own_lt o8 k e))
            have z9 := h0.newN (s.now ++ [x]) hqa0 b9 o9
            have h9 := h0.below b9
            have cc9 := h9.cells.2.2.2.1
            have f9 := h9.cells.2.2.2.2.2.2 3
            have s9 := HSS.out _ _ S0 b9
            refine ⟨s9, ?_⟩
            simp only [List.getElem_toArray, List.getElem_cons_succ, List.getElem_cons_zero, Act.put, List.setIfInBounds_toArray, List.set_cons_succ, List.set_cons_zero]
            refine wpAnyH_take (i := 10) (v := (.pointer (some ⟨d, 0, none⟩))) rfl (by kernel_rfl) (by kernel_rfl) (by kernel_rfl) (fun _ _ _ h => h) (.inl ⟨rfl, fun _ hS => by simp [execOp, go_sem, Act.eval]⟩) s9 ?_
            simp only [List.getElem_toArray, List.getElem_cons_succ, List.getElem_cons_zero, Act.put, List.setIfInBounds_toArray, List.set_cons_succ, List.set_cons_zero]
            refine wpAnyH_take (i := 11) (v := (.pointer (some ⟨d, 3, none⟩))) rfl (by kernel_rfl) (by kernel_rfl) (by kernel_rfl) (fun _ _ _ h => h) (.inl ⟨rfl, fun _ hS => by simp [execOp, go_sem, Act.eval]⟩) s9 ?_
            simp only [List.getElem_toArray, List.getElem_cons_succ, List.getElem_cons_zero, Act.put, List.setIfInBounds_toArray, List.set_cons_succ, List.set_cons_zero]
            refine wpAnyH_all (rs := [12]) (by kernel_rfl) (by simp) ?_
            intro k hk
            simp only [List.mem_cons, List.mem_nil_iff, or_false] at hk
            subst hk
            refine wpOp_run rfl rfl (wp_store_run 30 _ _ rfl ⟨d, 3, none⟩ rfl _ rfl (store_ts cc9 f9) ?_)
            have s10 := HSC.out _ 3 (.slice a9 (([] ++ s.now) ++ [x]).length c9) s9
            refine ⟨s10, ?_⟩
            simp only [List.getElem_toArray, List.getElem_cons_succ, List.getElem_cons_zero, Act.put, List.setIfInBounds_toArray, List.set_cons_succ, List.set_cons_zero]
            refine wpAnyH_done (by kernel_rfl) ?_ _
            go_wp2_with fail
            go_meet
            case rel => exact ⟨_, z9.1.wide HDD.out, HKK.out _ z9.2, s10⟩
      case rest =>
      obtain ⟨v1, h0, K0, S0⟩ := hcut
      obtain ⟨st1, hs1⟩ : ∃ t : Te, { s with now := s.now ++ [x] } = t := ⟨_, rfl⟩
      have e1 : s.past.length = st1.past.length := by rw [← hs1]
      have e2 : s.hist = st1.hist := by rw [← hs1]
      have hf1 : st1.past.length ≤ st1.hist := by rw [← e1, ← e2]; exact hf
      have hh1 : st1.hist ≤ 254 := by rw [← e2]; exact hh
      rw [hs1] at h0
      obtain ⟨ao9, co9, hv⟩ := h0.ro.shape
      subst hv
      have HS1 := hidOf2 hs1
      clear e1 e2 hs1 hf hh
      obtain ⟨w2, hw2⟩ : ∃ x, x = wc := ⟨_, rfl⟩
      subst hw2
      go_upto_region 4 with fail
      go_cut [] (fun wx => ∃ v', Dtv d D1 { st1 with past := x :: st1.past } v1 v' vf wx ∧ Kq (fun k => k = d) w wx ∧ Bc 37 q x.arr wx)
      case first =>
        refine wp_region_held (S := fun y => Bc 37 q x.arr y) (by kernel_rfl) ?_
        change wpAnyH _ _ _ _ _ _ _ _ w2.drew
        replace h0 : Dtv d D1 st1 v1 (.slice ao9 st1.past.length co9) vf w2.drew := h0.kq (Q := fun _ => False) ((Kq.refl _ _).drawn 1) (fun _ _ h => h)
        replace S0 : Bc 37 q x.arr w2.drew := S0
        replace K0 : Kq (fun k => k = d) w w2.drew := ⟨K0.os, K0.tape, K0.output, K0.size, K0.block⟩
        generalize w2.drew = w1 at *
        have HDD : Hid (∀ k, (D1 k ∨ w1.heap.size ≤ k) → D1 k) := fun k hk => hk.elim id (fun e => HD1.out k (Nat.le_trans K0.size e))
        have HKK : Hid (∀ z, Kq (fun k => k = d) w1 z → Kq (fun k => k = d) w z) := fun z hz => K0.trans hz
        have k0 : Below w1.heap.size w1 w1 := Below.refl _ _

        refine wpAnyH_take (i := 0) (v := (.pointer (some ⟨d, 0, none⟩))) rfl (by kernel_rfl) (by kernel_rfl) (by kernel_rfl) (fun _ _ _ h => h) (.inl ⟨rfl, fun _ hS => rfl⟩) S0 ?_
        simp only [List.getElem_toArray, List.getElem_cons_succ, List.getElem_cons_zero, Act.put, List.setIfInBounds_toArray, List.set_cons_succ, List.set_cons_zero]
        refine wpAnyH_take (i := 1) (v := (.agg x.arr)) rfl (by kernel_rfl) (by kernel_rfl) (by kernel_rfl) (fun _ _ _ h => h) (.inl ⟨rfl, fun _ hS => exec_load rfl rfl (Bc.ldT hS rfl)⟩) S0 ?_
        simp only [List.getElem_toArray, List.getElem_cons_succ, List.getElem_cons_zero, Act.put, List.setIfInBounds_toArray, List.set_cons_succ, List.set_cons_zero]
        refine wpAnyH_take (i := 3) (v := (.pointer (some ⟨d, 0, none⟩))) rfl (by kernel_rfl) (by kernel_rfl) (by kernel_rfl) (fun _ _ _ h => h) (.inl ⟨rfl, fun _ hS => rfl⟩) S0 ?_
        simp only [List.getElem_toArray, List.getElem_cons_succ, List.getElem_cons_zero, Act.put, List.setIfInBounds_toArray, List.set_cons_succ, List.set_cons_zero]
        refine wpAnyH_take (i := 4) (v := (.pointer (some ⟨d, 0, none⟩))) rfl (by kernel_rfl) (by kernel_rfl) (by kernel_rfl) (fun _ _ _ h => h) (.inl ⟨rfl, fun _ hS => by simp [execOp, go_sem, Act.eval]⟩) S0 ?_
        simp only [List.getElem_toArray, List.getElem_cons_succ, List.getElem_cons_zero, Act.put, List.setIfInBounds_toArray, List.set_cons_succ, List.set_cons_zero]
        refine wpAnyH_take (i := 5) (v := (.pointer (some ⟨d, 4, none⟩))) rfl (by kernel_rfl) (by kernel_rfl) (by kernel_rfl) (fun _ _ _ h => h) (.inl ⟨rfl, fun _ hS => by simp [execOp, go_sem, Act.eval]⟩) S0 ?_
        simp only [List.getElem_toArray, List.getElem_cons_succ, List.getElem_cons_zero, Act.put, List.setIfInBounds_toArray, List.set_cons_succ, List.set_cons_zero]
        refine wpAnyH_all (rs := [2, 6]) (by kernel_rfl) (by simp) ?_
        intro k hk
        simp only [List.mem_cons, List.mem_nil_iff, or_false] at hk
        rcases hk with rfl | rfl
        · refine wpOp_run rfl rfl (wp_one DT x 30 37 _ 8 _ rfl rfl Try.underlying30 infoT (by decide) ?_)
          obtain ⟨qb, hqb⟩ : ∃ q, w1.heap.size = q := ⟨_, rfl⟩
          have b1 : Below w1.heap.size w1 (w1.alloc (.cells (DT.dec x).toArray 37)) := (Below.refl _ _).alloc (Nat.le_refl _) _
          have p1 : Bc 37 qb x.arr (w1.alloc (.cells (DT.dec x).toArray 37)) := by rw [← hqb]; exact heap_alloc_new _ _
          have hqb0 : w1.heap.size ≤ qb := by rw [← hqb]; exact k0.size
          have h1 := h0.below b1
          have s1 := HSS.out _ _ S0 b1
          have k1 := k0.trans (b1.mono k0.size)
          rw [hqb]
          clear hqb
          generalize w1.alloc (.cells (DT.dec x).toArray 37) = u1 at *
          refine ⟨s1, ?_⟩
          simp only [List.getElem_toArray, List.getElem_cons_succ, List.getElem_cons_zero, Act.put, List.setIfInBounds_toArray, List.set_cons_succ, List.set_cons_zero]
          refine wpAnyH_all (rs := [6]) (by kernel_rfl) (by simp) ?_
          intro k hk
          simp only [List.mem_cons, List.mem_nil_iff, or_false] at hk
          subst hk
          refine wpOp_run rfl rfl (wp_load_run 30 _ rfl ⟨d, 4, none⟩ rfl _ (load_ts h1.cells.2.2.2.2.1) ?_)
          refine ⟨s1, ?_⟩
          simp only [List.getElem_toArray, List.getElem_cons_succ, List.getElem_cons_zero, Act.put, List.setIfInBounds_toArray, List.set_cons_succ, List.set_cons_zero]
          refine wpAnyH_all (rs := [7]) (by kernel_rfl) (by simp) ?_
          intro k hk
          simp only [List.mem_cons, List.mem_nil_iff, or_false] at hk
          subst hk
          refine wpOp_run rfl rfl (wp_appW DT _ _ 30 37 _ 8 Try.underlying30 infoT rfl rfl qb _ [x] rfl (Bc.own1 p1) _ st1.past rfl h1.ro (by unfold maxLen; simp; omega) (by simp; omega) (Nat.le_of_lt p1.lt) ?_)
          intro a9 c9 y9 o9 g9
          have b9 : Below w1.heap.size w1 y9 := k1.grown g9 k1.size (fun k e => Nat.le_trans hqb0 (own_lt (Bc.own1 p1) k e))
          have z9 := h0.newO (x :: st1.past) hqb0 b9 o9
          have h9 := h0.below b9
          have cc9 := h9.cells.2.2.2.2.1
          have f9 := h9.cells.2.2.2.2.2.2 4
          have s9 := HSS.out _ _ S0 b9
          refine ⟨s9, ?_⟩
          simp only [List.getElem_toArray, List.getElem_cons_succ, List.getElem_cons_zero, Act.put, List.setIfInBounds_toArray, List.set_cons_succ, List.set_cons_zero]
          refine wpAnyH_take (i := 8) (v := (.pointer (some ⟨d, 0, none⟩))) rfl (by kernel_rfl) (by kernel_rfl) (by kernel_rfl) (fun _ _ _ h => h) (.inl ⟨rfl, fun _ hS => by simp [execOp, go_sem, Act.eval]⟩) s9 ?_
          simp only [List.getElem_toArray, List.getElem_cons_succ, List.getElem_cons_zero, Act.put, List.setIfInBounds_toArray, List.set_cons_succ, List.set_cons_zero]
          refine wpAnyH_take (i := 9) (v := (.pointer (some ⟨d, 4, none⟩))) rfl (by kernel_rfl) (by kernel_rfl) (by kernel_rfl) (fun _ _ _ h => h) (.inl ⟨rfl, fun _ hS => by simp [execOp, go_sem, Act.eval]⟩) s9 ?_
          simp only [List.getElem_toArray, List.getElem_cons_succ, List.getElem_cons_zero, Act.put, List.setIfInBounds_toArray, List.set_cons_succ, List.set_cons_zero]
          refine wpAnyH_all (rs := [10]) (by kernel_rfl) (by simp) ?_
          intro k hk
          simp only [List.mem_cons, List.mem_nil_iff, or_false] at hk
          subst hk
          refine wpOp_run rfl rfl (wp_store_run 30 _ _ rfl ⟨d, 4, none⟩ rfl _ rfl (store_ts cc9 f9) ?_)
          have s10 := HSC.out _ 4 (.slice a9 ([x] ++ st1.past).length c9) s9
          refine ⟨s10, ?_⟩
          simp only [List.getElem_toArray, List.getElem_cons_succ, List.getElem_cons_zero, Act.put, List.setIfInBounds_toArray, List.set_cons_succ, List.set_cons_zero]
          refine wpAnyH_done (by kernel_rfl) ?_ _
          go_wp2_with fail
          go_meet
          case rel => exact ⟨_, z9.1.wide HDD.out, HKK.out _ z9.2, s10⟩
        · refine wpOp_run rfl rfl (wp_load_run 30 _ rfl ⟨d, 4, none⟩ rfl _ (load_ts h0.cells.2.2.2.2.1) ?_)
          refine ⟨S0, ?_⟩
          simp only [List.getElem_toArray, List.getElem_cons_succ, List.getElem_cons_zero, Act.put, List.setIfInBounds_toArray, List.set_cons_succ, List.set_cons_zero]
          refine wpAnyH_all (rs := [2]) (by kernel_rfl) (by simp) ?_
          intro k hk
          simp only [List.mem_cons, List.mem_nil_iff, or_false] at hk
          subst hk
          refine wpOp_run rfl rfl (wp_one DT x 30 37 _ 8 _ rfl rfl Try.underlying30 infoT (by decide) ?_)
          obtain ⟨qb, hqb⟩ : ∃ q, w1.heap.size = q := ⟨_, rfl⟩
          have b1 : Below w1.heap.size w1 (w1.alloc (.cells (DT.dec x).toArray 37)) := (Below.refl _ _).alloc (Nat.le_refl _) _
          have p1 : Bc 37 qb x.arr (w1.alloc (.cells (DT.dec x).toArray 37)) := by rw [← hqb]; exact heap_alloc_new _ _
          have hqb0 : w1.heap.size ≤ qb := by rw [← hqb]; exact k0.size
          have h1 := h0.below b1
          have s1 := HSS.out _ _ S0 b1
          have k1 := k0.trans (b1.mono k0.size)
          rw [hqb]
          clear hqb
          generalize w1.alloc (.cells (DT.dec x).toArray 37) = u1 at *
          refine ⟨s1, ?_⟩
          simp only [List.getElem_toArray, List.getElem_cons_succ, List.getElem_cons_zero, Act.put, List.setIfInBounds_toArray, List.set_cons_succ, List.set_cons_zero]
          refine wpAnyH_all (rs := [7]) (by kernel_rfl) (by simp) ?_
          intro k hk
          simp only [List.mem_cons, List.mem_nil_iff, or_false] at hk
          subst hk
          refine wpOp_run rfl rfl (wp_appW DT _ _ 30 37 _ 8 Try.underlying30 infoT rfl rfl qb _ [x] rfl (Bc.own1 p1) _ st1.past rfl h1.ro (by unfold maxLen; simp; omega) (by simp; omega) (Nat.le_of_lt p1.lt) ?_)
          intro a9 c9 y9 o9 g9
          have b9 : Below w1.heap.size w1 y9 := k1.grown g9 k1.size (fun k e => Nat.le_trans hqb0 (own_lt (Bc.own1 p1) k e))
          have z9 := h0.newO (x :: st1.past) hqb0 b9 o9
          have h9 := h0.below b9
          have cc9 := h9.cells.2.2.2.2.1
          have f9 := h9.cells.2.2.2.2.2.2 4
          have s9 := HSS.out _ _ S0 b9
          refine ⟨s9, ?_⟩
          simp only [List.getElem_toArray, List.getElem_cons_succ, List.getElem_cons_zero, Act.put, List.setIfInBounds_toArray, List.set_cons_succ, List.set_cons_zero]
          refine wpAnyH_take (i := 8) (v := (.pointer (some ⟨d, 0, none⟩))) rfl (by kernel_rfl) (by kernel_rfl) (by kernel_rfl) (fun _ _ _ h => h) (.inl ⟨rfl, fun _ hS => by simp [execOp, go_sem, Act.eval]⟩) s9 ?_
          simp only [List.getElem_toArray, List.getElem_cons_succ, List.getElem_cons_zero, Act.put, List.setIfInBounds_toArray, List.set_cons_succ, List.set_cons_zero]
          refine wpAnyH_take (i := 9) (v := (.pointer (some ⟨d, 4, none⟩))) rfl (by kernel_rfl) (by kernel_rfl) (by kernel_rfl) (fun _ _ _ h => h) (.inl ⟨rfl, fun _ hS => by simp [execOp, go_sem, Act.eval]⟩) s9 ?_
          simp only [List.getElem_toArray, List.getElem_cons_succ, List.getElem_cons_zero, Act.put, List.setIfInBounds_toArray, List.set_cons_succ, List.set_cons_zero]
          refine wpAnyH_all (rs := [10]) (by kernel_rfl) (by simp) ?_
          intro k hk
          simp only [List.mem_cons, List.mem_nil_iff, or_false] at hk
          subst hk
          refine wpOp_run rfl rfl (wp_store_run 30 _ _ rfl ⟨d, 4, none⟩ rfl _ rfl (store_ts cc9 f9) ?_)
          have s10 := HSC.out _ 4 (.slice a9 ([x] ++ st1.past).length c9) s9
          refine ⟨s10, ?_⟩
          simp only [List.getElem_toArray, List.getElem_cons_succ, List.getElem_cons_zero, Act.put, List.setIfInBounds_toArray, List.set_cons_succ, List.set_cons_zero]
          refine wpAnyH_done (by kernel_rfl) ?_ _
          go_wp2_with fail
          go_meet
          case rel => exact ⟨_, z9.1.wide HDD.out, HKK.out _ z9.2, s10⟩
      case rest =>
      obtain ⟨v2, h0, K0, S0⟩ := hcut
      obtain ⟨st2, hs2⟩ : ∃ t : Te, { st1 with past := x :: st1.past } = t := ⟨_, rfl⟩
      have e1 : st2.past.length = st1.past.length + 1 := by rw [← hs2]; rfl
      have e2 : st2.hist = st1.hist := by rw [← hs2]
      have hf2 : st2.past.length ≤ 255 := by omega
      have hh2 : st2.hist ≤ 254 := by omega
      rw [hs2] at h0
      obtain ⟨aq, cq, hv⟩ := h0.ro.shape
      subst hv
      have HS2 := hidOf2 hs2
      have hq1 := h0.co _ _ _ rfl
      clear e1 e2 hs2 hf1 hh1
      obtain ⟨w3, hw3⟩ : ∃ x, x = wc := ⟨_, rfl⟩
      subst hw3
      have HT : Hid (∀ (z : World) v3, Dtv d D1 { st2 with past := st2.past.take st2.hist } v1 v3 vf z → Kq (fun k => k = d) w z → Calls Try.prog 28 #[.pointer (some ⟨d, 0, none⟩), .int .u16 x.c, .agg #[.int .u8 x.x0, .int .u8 x.x1, .int .u8 x.x2, .int .u8 x.x3, .int .u8 x.x4]] z fun e w' => e = .returned (.tuple #[]) ∧ Dt d D1 (s.rs x) w' ∧ Kq (fun k => k = d) w w') := fun z v3 hz kz => by
        have hn : st2.now = s.now ++ [x] := by rw [← HS2.out, ← HS1.out]
        have := dframe_any hz (by show st2.now.length ≤ _; rw [hn]; simp; omega) x.c x.hc x.x0 x.x1 x.x2 x.x3 x.x4
        refine this.mono ?_
        rintro e w' ⟨rfl, vf', h9, k9⟩
        have e9 : { st2 with past := st2.past.take st2.hist, waits := push st2.waits (tl x.c x.hc st2.now x.x0 x.x1 x.x2 x.x3 x.x4) } = s.rs x := by rw [← HS2.out, ← HS1.out]; rfl
        refine ⟨rfl, ?_, kz.trans k9⟩
        rw [← e9]
        exact ⟨_, _, _, h9.wide (fun k hk => hk.elim id (fun e => HD1.out k (Nat.le_trans kz.size e)))⟩
      have c4 := h0.cells.2.2.2.2.1
      have c0 := h0.cells.1
      have f4 := h0.cells.2.2.2.2.2.2 4
      have HH := hidOf2 h0
      have HK := hidOf2 K0
      have HB : Hid (∀ z : World, Kq (fun k => k = d) w3 z → Bc 37 q x.arr z) := fun z hz => Bc.kq S0 hz (fun e => hgq e.symm)
      obtain ⟨n, hn⟩ : ∃ n, st2.past.length = n := ⟨_, rfl⟩
      rw [hn] at c4 hq1 hf2
      clear S0 h0 K0
      go_upto_region 5 with fail
      by_cases hm : n ≤ st2.hist
      · have hd5 : decide ((st2.hist : Int) < (n : Int)) = false := decide_eq_false (by omega)
        have hd6 : decide (st2.hist < n) = false := decide_eq_false (by omega)
        have ht : st2.past.take st2.hist = st2.past := List.take_of_length_le (by omega)
        rw [ht] at HT
        have hT := HT.out w3.drew (.slice aq st2.past.length cq) (HH.out.kq (Q := fun _ => False) ((Kq.refl _ _).drawn 1) (fun _ _ h => h)) (HK.out.drawn 1)
        have HB3 := HB.out w3.drew ((Kq.refl _ _).drawn 1)
        have q0 : w3.drew.cell? ⟨q, 0, none⟩ = some (.int .u16 x.c) := HB3.cell 0
        have q2 : w3.drew.cell? ⟨q, 2, none⟩ = some (.int .u8 x.x0) := HB3.cell 2
        have q3 : w3.drew.cell? ⟨q, 3, none⟩ = some (.int .u8 x.x1) := HB3.cell 3
        have q4 : w3.drew.cell? ⟨q, 4, none⟩ = some (.int .u8 x.x2) := HB3.cell 4
        have q5 : w3.drew.cell? ⟨q, 5, none⟩ = some (.int .u8 x.x3) := HB3.cell 5
        have q6 : w3.drew.cell? ⟨q, 6, none⟩ = some (.int .u8 x.x4) := HB3.cell 6
        clear hm
        go_region
        generalize w3.drew = z at *
        go_wp2_with (go_at_call 28; refine hT.mono ?_; rintro e w' ⟨rfl, h9, k9⟩)
        go_ret
        exact ⟨rfl, h9, k9⟩
      · have hd5 : decide ((st2.hist : Int) < (n : Int)) = true := decide_eq_true (by omega)
        have hd6 : decide (st2.hist < n) = true := decide_eq_true (by omega)
        have hcq9 : st2.hist ≤ cq := by omega
        have ct := cut_toA Try.underlying30 infoT aq n cq st2.hist hcq9
        have hle9 : st2.hist ≤ st2.past.length := by omega
        have z12 := Dtv.cutO (D := D1) (vn := v1) (vf := vf) (ao := aq) (n := st2.past.length) (c := cq) HH.out st2.hist hle9
        have z1 := z12.1
        have z2 := z12.2
        clear z12
        have hT := HT.out (w3.setCell ⟨d, 4, none⟩ (.slice aq st2.hist cq)).drew.drew (.slice aq st2.hist cq) (z1.kq (Q := fun _ => False) ((Kq.refl _ _).drawn 2) (fun _ _ h => h)) ((Kq.trans HK.out z2).drawn 2)
        have HB3 := HB.out (w3.setCell ⟨d, 4, none⟩ (.slice aq st2.hist cq)).drew.drew (z2.drawn 2)
        have q0 : (w3.setCell ⟨d, 4, none⟩ (.slice aq st2.hist cq)).drew.drew.cell? ⟨q, 0, none⟩ = some (.int .u16 x.c) := HB3.cell 0
        have q2 : (w3.setCell ⟨d, 4, none⟩ (.slice aq st2.hist cq)).drew.drew.cell? ⟨q, 2, none⟩ = some (.int .u8 x.x0) := HB3.cell 2
        have q3 : (w3.setCell ⟨d, 4, none⟩ (.slice aq st2.hist cq)).drew.drew.cell? ⟨q, 3, none⟩ = some (.int .u8 x.x1) := HB3.cell 3
        have q4 : (w3.setCell ⟨d, 4, none⟩ (.slice aq st2.hist cq)).drew.drew.cell? ⟨q, 4, none⟩ = some (.int .u8 x.x2) := HB3.cell 4
        have q5 : (w3.setCell ⟨d, 4, none⟩ (.slice aq st2.hist cq)).drew.drew.cell? ⟨q, 5, none⟩ = some (.int .u8 x.x3) := HB3.cell 5
        have q6 : (w3.setCell ⟨d, 4, none⟩ (.slice aq st2.hist cq)).drew.drew.cell? ⟨q, 6, none⟩ = some (.int .u8 x.x4) := HB3.cell 6
        clear hm z1 z2
        go_region
        go_wp2_with fail
        go_region
        generalize (w3.setCell ⟨d, 4, none⟩ (.slice aq st2.hist cq)).drew.drew = z at *
        go_wp2_with (go_at_call 28; refine hT.mono ?_; rintro e w' ⟨rfl, h9, k9⟩)
        go_ret
        exact ⟨rfl, h9, k9⟩
    · have hr : s.raise x = s := by unfold Te.raise; rw [Te.can_big (by omega), decide_eq_false hi]; rfl
      rw [hr, decide_eq_false hi]
      have hd2 : decide (0 ≤ ix s.now x.c) = true := by simp; omega
      have HH := hidOf2 (And.intro h0 K0)
      generalize ix s.now x.c = I at *
      generalize x.c = c at *
      clear hr h h0 K0 b0 S0 HSS HSC h256 hi
      go_enter Try.func10, Try.ntmps10
      go_wp2_with (go_at_call 27; refine hF.mono ?_; rintro e w1 ⟨rfl, hw1⟩; rw [hw1])
      go_ret
      exact ⟨rfl, ⟨_, _, _, HH.out.1⟩, HH.out.2⟩
end
end Go.Proofs.Ytlkocebgkmdeoaa
