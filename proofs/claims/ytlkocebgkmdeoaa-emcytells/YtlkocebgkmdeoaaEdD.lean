/- The document's Clear. -/
import Derived.Test.YtlkocebgkmdeoaaEdC
import Derived.Deep.DeepCutAuto
namespace Go.Proofs.Ytlkocebgkmdeoaa
open Go.RowKit
set_option linter.unusedVariables false
set_option maxRecDepth 1000000
set_option linter.unusedSimpArgs false
theorem cut_fromA {T e : TypeId} {z : Value} {c y : Nat} (hu : Try.prog.underlying T = some (.slice e)) (hinfo : (Try.prog.info? e).map (fun i => (i.zero, i.size, i.bytes)) = some (some z, c, y)) (b off n cap i : Nat) (h : i ≤ n) (hc : n ≤ cap) (W : World) : (Instr.sliceAt T (.slice (some ⟨b, off, none⟩) n cap) (some (.int .i64 i)) none none).run Try.prog W = .ok (.slice (some ⟨b, if cap = i then off else off + i * c, none⟩) (n - i) (cap - i)) W := by
  obtain ⟨i0, hi, hz0, hz1, hz2⟩ := info_parts hinfo
  have h1 : (i : Int) ≤ (n : Int) := by omega
  have h2 : (n : Int) ≤ (cap : Int) := by omega
  simp [Instr.sliceAt, Instr.slice, Instr.sliceBounds, run_underlying hu, go_sem, sizeOf, typeInfo, hi, hz1, Addr.add, h1, h2]
  by_cases h3 : cap = i
  · simp [h3]
  · simp only [h3, if_false]
    by_cases h0 : i * c = 0
    · rw [if_pos h0, h0, Nat.add_zero]
    · rw [if_neg h0]
theorem wide_take {α : Type} {c : Nat} {dec : α → List Value} {w : World} {ao : Option Addr} {n cap : Nat} {l : List α} (h : Wide c dec w (.slice ao n cap) l) (i : Nat) (hi : i ≤ l.length) : Wide c dec w (.slice ao i cap) (l.take i) := by
  obtain ⟨a1, c1, e1, h0, hc⟩ := h
  injection e1 with e2 e3 e4
  subst e2 e3 e4
  have hl : (l.take i).length = i := by rw [List.length_take]; omega
  refine ⟨ao, cap, by rw [hl], fun e => ⟨by rw [(h0 e).1]; simp, (h0 e).2⟩, fun k hk => ?_⟩
  rw [hl] at hk
  obtain ⟨b, off, e, hlt, hr⟩ := hc k (by omega)
  exact ⟨b, off, e, hlt, by rw [List.getElem_take]; exact hr⟩
theorem wide_drop {α : Type} {c : Nat} {dec : α → List Value} {w : World} {b off n cap : Nat} {l : List α} (h : Wide c dec w (.slice (some ⟨b, off, none⟩) n cap) l) (i : Nat) (hi : i ≤ n) (hc : n ≤ cap) : Wide c dec w (.slice (some ⟨b, if cap = i then off else off + i * c, none⟩) (n - i) (cap - i)) (l.drop i) := by
  obtain ⟨a1, c1, e1, h0, hcc⟩ := h
  injection e1 with e2 e3 e4
  subst e2 e3 e4
  have hl : (l.drop i).length = l.length - i := List.length_drop
  refine ⟨_, cap - i, by rw [hl], fun e => by simp at e, fun k hk => ?_⟩
  rw [hl] at hk
  obtain ⟨b9, o9, e, hlt, hr⟩ := hcc (i + k) (by omega)
  injection e with e
  injection e with e5 e6 e7
  subst e5 e6
  rw [if_neg (by omega)]
  refine ⟨b, off + i * c, rfl, hlt, ?_⟩
  rw [List.getElem_drop]
  have e9 : off + i * c + k * c = off + (i + k) * c := by rw [Nat.add_mul, Nat.add_assoc]
  rw [e9]
  exact hr
theorem exec_slT {a : Act} {o : Oper} {x y : Operand} {v u hi : Value} (hr : ∀ W, (Instr.sliceAt 30 v none (some hi) none).run Try.prog W = .ok u W) (ho : o.op = .slice 30 x none (some y) none) (hx : a.eval x = v) (hy : a.eval y = hi) (w : World) : (execOp a.eval o).run Try.prog w = .ok (.value u) w := by
  have hr := hr w
  unfold execOp
  simp only [ho, hx, hy, Option.map_some, Option.map_none, Sem.run_bind, hr, Result.andThen_ok, Sem.run_pure]
theorem exec_slF {a : Act} {o : Oper} {x y : Operand} {v u lo : Value} (hr : ∀ W, (Instr.sliceAt 30 v (some lo) none none).run Try.prog W = .ok u W) (ho : o.op = .slice 30 x (some y) none none) (hx : a.eval x = v) (hy : a.eval y = lo) (w : World) : (execOp a.eval o).run Try.prog w = .ok (.value u) w := by
  have hr := hr w
  unfold execOp
  simp only [ho, hx, hy, Option.map_some, Option.map_none, Sem.run_bind, hr, Result.andThen_ok, Sem.run_pure]
theorem exec_addN {a : Act} {o : Oper} {x y : Operand} {n : Nat} {t : TypeId} (ho : o.op = .binOp .add 3 x y t) (hx : a.eval x = .int .i64 (n : Int)) (hy : a.eval y = .int .i64 1) (hn : n < 9223372036854775807) (w : World) : (execOp a.eval o).run Try.prog w = .ok (.value (.int .i64 ((n + 1 : Nat) : Int))) w := by
  have : IntKind.i64.wrap ((n : Int) + 1) = (n : Int) + 1 := by simp [IntKind.wrap, IntKind.bits, IntKind.signed]; omega
  unfold execOp
  simp only [ho, hx, hy]
  simp [go_sem, binOp, eqGuard, run_underlying Try.underlying3, this]
section
variable {d : Nat} {D : Nat → Prop} {s : Te} {vn vo vf v : Value} {w x y : World}
theorem hd_get (l : List Tr) (h : 0 < l.length) : l[0].c = hd l := by
  cases l with
  | nil => simp at h
  | cons a l => rfl
set_option maxHeartbeats 4000000 in
theorem dclear_any (h : Dtv d D s vn vo vf w) (hl : s.now.length * 8 ≤ 140737488355328) (c : Nat) :
    Calls Try.prog 12 #[.pointer (some ⟨d, 0, none⟩), .int .u16 c] w fun e w' => e = .returned (.bool (s.there c)) ∧ Dt d (fun k => D k ∨ w.heap.size ≤ k) (s.clear c) w' ∧ Kq (fun k => k = d) w w' := by
  obtain ⟨D1, hD1⟩ : ∃ P : Nat → Prop, P = fun k => D k ∨ w.heap.size ≤ k := ⟨_, rfl⟩
  have HD1 : Hid (∀ k, w.heap.size ≤ k → D1 k) := fun k hk => by rw [hD1]; exact .inr hk
  have h := h.wide (Q := D1) (fun k hk => by rw [hD1]; exact .inl hk)
  rw [← hD1]
  clear hD1
  have hF := dfind_any h (by omega) c
  by_cases hi : ix s.now c < 0
  · have ht : s.there c = false := by unfold Te.there; exact decide_eq_false (by omega)
    have hr : s.clear c = s := by unfold Te.clear; rw [ht]; rfl
    rw [hr, ht]
    have hd1 : decide (ix s.now c < 0) = true := decide_eq_true hi
    have HH := hidOf2 h
    generalize ix s.now c = I at *
    clear hr ht h hi
    go_enter Try.func12, Try.ntmps12
    go_wp2_with (go_at_call 27; refine hF.mono ?_; rintro e w1 ⟨rfl, hw1⟩; rw [hw1])
    go_ret
    exact ⟨rfl, ⟨_, _, _, HH.out⟩, Kq.refl _ _⟩
  · have ht : s.there c = true := by unfold Te.there; exact decide_eq_true (by omega)
    have hlt : fi s.now c < s.now.length := by
      unfold ix at hi
      split at hi
      · assumption
      · omega
    have hI : ix s.now c = ((fi s.now c : Nat) : Int) := by unfold ix; rw [if_pos hlt]
    have hr : s.clear c = s.cl (fi s.now c) := by unfold Te.clear; rw [ht]; rfl
    rw [hr, ht]
    rw [hI] at hF
    generalize fi s.now c = i at *
    have hi0 : i ≤ s.now.length := by omega
    have hi1 : i + 1 ≤ s.now.length := hlt
    have HE : Hid (([] ++ s.now.take i) ++ s.now.drop (i + 1) = s.now.eraseIdx i) := by
      show _ = _
      rw [List.nil_append, List.eraseIdx_eq_take_drop_succ]
    obtain ⟨b, off, cn, hv, _, hrx⟩ := h.rn.at0 i hlt
    clear hrx
    subst hv
    have hcn : s.now.length ≤ cn := h.cn _ _ _ rfl
    have ct := cut_toA Try.underlying30 infoT (some ⟨b, off, none⟩) s.now.length cn i (by omega)
    have cf := cut_fromA Try.underlying30 infoT b off s.now.length cn (i + 1) hi1 hcn
    have HWD : Hid (∀ z, Wide 7 Tr.cs z (.slice (some ⟨b, off, none⟩) s.now.length cn) s.now → Wide 7 Tr.cs z (.slice (some ⟨b, if cn = i + 1 then off else off + (i + 1) * 7, none⟩) (s.now.length - (i + 1)) (cn - (i + 1))) (s.now.drop (i + 1))) := fun z hz => wide_drop hz (i + 1) hi1 hcn
    generalize (if cn = i + 1 then off else off + (i + 1) * 7) = o2 at *
    have hd1 : decide ((i : Int) < 0) = false := by simp
    have h0 := h
    obtain ⟨SC, hSC⟩ : ∃ t, s.cl i = t := ⟨_, rfl⟩
    rw [hSC]
    have HSC := hidOf2 hSC
    have K0 : Kq (fun k => k = d) w w := Kq.refl _ _
    clear hr ht hi hI h hSC
    go_enter Try.func12, Try.ntmps12
    go_upto_region 4 with (go_at_call 27; refine hF.mono ?_; rintro e w1 ⟨rfl, hw1⟩; rw [hw1])
    clear hF
    go_cut [] (fun wx => ∃ v', Dtv d D1 { s with now := s.now.eraseIdx i } v' vo vf wx ∧ Kq (fun k => k = d) w wx)
    case first =>
        refine wp_region_held (S := fun y => True) (by kernel_rfl) ?_
        change wpAnyH _ _ _ _ _ _ _ _ w.drew
        replace h0 : Dtv d D1 s (.slice (some ⟨b, off, none⟩) s.now.length cn) vo vf w.drew := h0.kq (Q := fun _ => False) ((Kq.refl _ _).drawn 1) (fun _ _ h => h)
        replace K0 : Kq (fun k => k = d) w w.drew := ⟨K0.os, K0.tape, K0.output, K0.size, K0.block⟩
        generalize hww : w.drew = w1 at *
        have HDD : Hid (∀ k, (D1 k ∨ w1.heap.size ≤ k) → D1 k) := fun k hk => hk.elim id (fun e => HD1.out k (Nat.le_trans K0.size e))
        have HKK : Hid (∀ z, Kq (fun k => k = d) w1 z → Kq (fun k => k = d) w z) := fun z hz => K0.trans hz
        have k0 : Below w1.heap.size w1 w1 := Below.refl _ _
        refine wpAnyH_take (i := 0) (v := (.pointer (some ⟨d, 0, none⟩))) rfl (by kernel_rfl) (by kernel_rfl) (by kernel_rfl) (fun _ _ _ h => h) (.inl ⟨rfl, fun _ hS => rfl⟩) trivial ?_
        simp only [List.getElem_toArray, List.getElem_cons_succ, List.getElem_cons_zero, Act.put, List.setIfInBounds_toArray, List.set_cons_succ, List.set_cons_zero]
        refine wpAnyH_take (i := 2) (v := (.pointer (some ⟨d, 0, none⟩))) rfl (by kernel_rfl) (by kernel_rfl) (by kernel_rfl) (fun _ _ _ h => h) (.inl ⟨rfl, fun _ hS => rfl⟩) trivial ?_
        simp only [List.getElem_toArray, List.getElem_cons_succ, List.getElem_cons_zero, Act.put, List.setIfInBounds_toArray, List.set_cons_succ, List.set_cons_zero]
        refine wpAnyH_take (i := 3) (v := (.pointer (some ⟨d, 0, none⟩))) rfl (by kernel_rfl) (by kernel_rfl) (by kernel_rfl) (fun _ _ _ h => h) (.inl ⟨rfl, fun _ hS => by simp [execOp, go_sem, Act.eval]⟩) trivial ?_
        simp only [List.getElem_toArray, List.getElem_cons_succ, List.getElem_cons_zero, Act.put, List.setIfInBounds_toArray, List.set_cons_succ, List.set_cons_zero]
        refine wpAnyH_take (i := 4) (v := (.pointer (some ⟨d, 3, none⟩))) rfl (by kernel_rfl) (by kernel_rfl) (by kernel_rfl) (fun _ _ _ h => h) (.inl ⟨rfl, fun _ hS => by simp [execOp, go_sem, Act.eval]⟩) trivial ?_
        simp only [List.getElem_toArray, List.getElem_cons_succ, List.getElem_cons_zero, Act.put, List.setIfInBounds_toArray, List.set_cons_succ, List.set_cons_zero]
        refine wpAnyH_take (i := 6) (v := (.int .i64 ((i : Nat) : Int))) rfl (by kernel_rfl) (by kernel_rfl) (by kernel_rfl) (fun _ _ _ h => h) (.inl ⟨rfl, fun _ hS => rfl⟩) trivial ?_
        simp only [List.getElem_toArray, List.getElem_cons_succ, List.getElem_cons_zero, Act.put, List.setIfInBounds_toArray, List.set_cons_succ, List.set_cons_zero]
        refine wpAnyH_take (i := 9) (v := (.pointer (some ⟨d, 0, none⟩))) rfl (by kernel_rfl) (by kernel_rfl) (by kernel_rfl) (fun _ _ _ h => h) (.inl ⟨rfl, fun _ hS => rfl⟩) trivial ?_
        simp only [List.getElem_toArray, List.getElem_cons_succ, List.getElem_cons_zero, Act.put, List.setIfInBounds_toArray, List.set_cons_succ, List.set_cons_zero]
        refine wpAnyH_take (i := 10) (v := (.pointer (some ⟨d, 0, none⟩))) rfl (by kernel_rfl) (by kernel_rfl) (by kernel_rfl) (fun _ _ _ h => h) (.inl ⟨rfl, fun _ hS => by simp [execOp, go_sem, Act.eval]⟩) trivial ?_
        simp only [List.getElem_toArray, List.getElem_cons_succ, List.getElem_cons_zero, Act.put, List.setIfInBounds_toArray, List.set_cons_succ, List.set_cons_zero]
        refine wpAnyH_take (i := 11) (v := (.pointer (some ⟨d, 3, none⟩))) rfl (by kernel_rfl) (by kernel_rfl) (by kernel_rfl) (fun _ _ _ h => h) (.inl ⟨rfl, fun _ hS => by simp [execOp, go_sem, Act.eval]⟩) trivial ?_
        simp only [List.getElem_toArray, List.getElem_cons_succ, List.getElem_cons_zero, Act.put, List.setIfInBounds_toArray, List.set_cons_succ, List.set_cons_zero]
        refine wpAnyH_take (i := 13) (v := (.int .i64 ((i : Nat) : Int))) rfl (by kernel_rfl) (by kernel_rfl) (by kernel_rfl) (fun _ _ _ h => h) (.inl ⟨rfl, fun _ hS => rfl⟩) trivial ?_
        simp only [List.getElem_toArray, List.getElem_cons_succ, List.getElem_cons_zero, Act.put, List.setIfInBounds_toArray, List.set_cons_succ, List.set_cons_zero]
        refine wpAnyH_take (i := 14) (v := (.int .i64 ((i + 1 : Nat) : Int))) rfl (by kernel_rfl) (by kernel_rfl) (by kernel_rfl) (fun _ _ _ h => h) (.inl ⟨rfl, fun _ hS => exec_addN rfl rfl rfl (by omega) _⟩) trivial ?_
        simp only [List.getElem_toArray, List.getElem_cons_succ, List.getElem_cons_zero, Act.put, List.setIfInBounds_toArray, List.set_cons_succ, List.set_cons_zero]
        refine wpAnyH_all (rs := [1, 5, 12]) (by kernel_rfl) (by simp) ?_
        intro k hk
        simp only [List.mem_cons, List.mem_nil_iff, or_false] at hk
        rcases hk with rfl | rfl | rfl
        · refine wpOp_run rfl rfl (wp_bs0g Try.underlying30 infoT rfl ?_)
          obtain ⟨qa, hqa⟩ : ∃ q, w1.heap.size = q := ⟨_, rfl⟩
          have b1 : Below w1.heap.size w1 (w1.alloc (.cells #[] 37)) := (Below.refl _ _).alloc (Nat.le_refl _) _
          have z1 : (w1.alloc (.cells #[] 37)).ownsRow qa 37 7 (.slice (some ⟨qa, 0, none⟩) 0 0) ([] : List Tr).length (flatW DT []) := by rw [← hqa]; exact own_empty_e w1 37 7
          have hqa0 : w1.heap.size ≤ qa := by rw [← hqa]; exact k0.size
          have y1 : qa ≤ (w1.alloc (.cells #[] 37)).heap.size := by rw [← hqa]; simp
          have h1 := h0.below b1
          have k1 := k0.trans (b1.mono k0.size)
          rw [hqa]
          clear hqa
          generalize w1.alloc (.cells #[] 37) = u1 at *
          refine ⟨trivial, ?_⟩
          simp only [List.getElem_toArray, List.getElem_cons_succ, List.getElem_cons_zero, Act.put, List.setIfInBounds_toArray, List.set_cons_succ, List.set_cons_zero]
          refine wpAnyH_all (rs := [5, 12]) (by kernel_rfl) (by simp) ?_
          intro k hk
          simp only [List.mem_cons, List.mem_nil_iff, or_false] at hk
          rcases hk with rfl | rfl
          · refine wpOp_run rfl rfl (wp_load_run 30 _ rfl ⟨d, 3, none⟩ rfl _ (load_ts h1.cells.2.2.2.1) ?_)
            refine ⟨trivial, ?_⟩
            simp only [List.getElem_toArray, List.getElem_cons_succ, List.getElem_cons_zero, Act.put, List.setIfInBounds_toArray, List.set_cons_succ, List.set_cons_zero]
            refine wpAnyH_take (i := 7) (v := (.slice (some ⟨b, off, none⟩) i cn)) rfl (by kernel_rfl) (by kernel_rfl) (by kernel_rfl) (fun _ _ _ h => h) (.inl ⟨rfl, fun _ hS => exec_slT ct rfl rfl rfl _⟩) trivial ?_
            simp only [List.getElem_toArray, List.getElem_cons_succ, List.getElem_cons_zero, Act.put, List.setIfInBounds_toArray, List.set_cons_succ, List.set_cons_zero]
            refine wpAnyH_all (rs := [8, 12]) (by kernel_rfl) (by simp) ?_
            intro k hk
            simp only [List.mem_cons, List.mem_nil_iff, or_false] at hk
            rcases hk with rfl | rfl
            · refine wpOp_run rfl rfl (wp_appW DT _ _ 30 37 _ 8 Try.underlying30 infoT rfl rfl qa _ [] rfl z1 _ (s.now.take i) rfl (wide_take h1.rn i hi0) (by unfold maxLen; simp; omega) (by simp; omega) y1 ?_)
              intro a8 c8 u2 o8 g8
              have b2 : Below w1.heap.size u1 u2 := (Below.refl _ _ : Below w1.heap.size u1 u1).grown g8 k1.size (fun k e => Nat.le_trans hqa0 (own_lt z1 k e))
              have k2 := k1.trans b2
              have h2 := h0.below k2
              have q2 := Nat.le_trans y1 g8.size
              refine ⟨trivial, ?_⟩
              simp only [List.getElem_toArray, List.getElem_cons_succ, List.getElem_cons_zero, Act.put, List.setIfInBounds_toArray, List.set_cons_succ, List.set_cons_zero]
              refine wpAnyH_all (rs := [12]) (by kernel_rfl) (by simp) ?_
              intro k hk
              simp only [List.mem_cons, List.mem_nil_iff, or_false] at hk
              subst hk
              refine wpOp_run rfl rfl (wp_load_run 30 _ rfl ⟨d, 3, none⟩ rfl _ (load_ts h2.cells.2.2.2.1) ?_)
              refine ⟨trivial, ?_⟩
              simp only [List.getElem_toArray, List.getElem_cons_succ, List.getElem_cons_zero, Act.put, List.setIfInBounds_toArray, List.set_cons_succ, List.set_cons_zero]
              refine wpAnyH_take (i := 15) (v := (.slice (some ⟨b, o2, none⟩) (s.now.length - (i + 1)) (cn - (i + 1)))) rfl (by kernel_rfl) (by kernel_rfl) (by kernel_rfl) (fun _ _ _ h => h) (.inl ⟨rfl, fun _ hS => exec_slF cf rfl rfl rfl _⟩) trivial ?_
              simp only [List.getElem_toArray, List.getElem_cons_succ, List.getElem_cons_zero, Act.put, List.setIfInBounds_toArray, List.set_cons_succ, List.set_cons_zero]
              refine wpAnyH_all (rs := [16]) (by kernel_rfl) (by simp) ?_
              intro k hk
              simp only [List.mem_cons, List.mem_nil_iff, or_false] at hk
              subst hk
              refine wpOp_run rfl rfl (wp_appW DT _ _ 30 37 _ 8 Try.underlying30 infoT rfl rfl qa _ ([] ++ s.now.take i) rfl o8 _ (s.now.drop (i + 1)) rfl (HWD.out _ h2.rn) (by unfold maxLen; simp; omega) (by simp; omega) q2 ?_)
              intro a9 c9 y9 o9 g9
              have b9 : Below w1.heap.size w1 y9 := k2.grown g9 k2.size (fun k e => Nat.le_trans hqa0 (own_lt o8 k e))
              have z9 := h0.newN (([] ++ s.now.take i) ++ s.now.drop (i + 1)) hqa0 b9 o9
              have h9 := h0.below b9
              have cc9 := h9.cells.2.2.2.1
              have f9 := h9.cells.2.2.2.2.2.2 3
              clear o9
              generalize hnl : (([] ++ s.now.take i) ++ s.now.drop (i + 1)).length = nl at *
              clear hnl
              refine ⟨trivial, ?_⟩
              simp only [List.getElem_toArray, List.getElem_cons_succ, List.getElem_cons_zero, Act.put, List.setIfInBounds_toArray, List.set_cons_succ, List.set_cons_zero]
              refine wpAnyH_take (i := 17) (v := (.pointer (some ⟨d, 0, none⟩))) rfl (by kernel_rfl) (by kernel_rfl) (by kernel_rfl) (fun _ _ _ h => h) (.inl ⟨rfl, fun _ hS => by simp [execOp, go_sem, Act.eval]⟩) trivial ?_
              simp only [List.getElem_toArray, List.getElem_cons_succ, List.getElem_cons_zero, Act.put, List.setIfInBounds_toArray, List.set_cons_succ, List.set_cons_zero]
              refine wpAnyH_take (i := 18) (v := (.pointer (some ⟨d, 3, none⟩))) rfl (by kernel_rfl) (by kernel_rfl) (by kernel_rfl) (fun _ _ _ h => h) (.inl ⟨rfl, fun _ hS => by simp [execOp, go_sem, Act.eval]⟩) trivial ?_
              simp only [List.getElem_toArray, List.getElem_cons_succ, List.getElem_cons_zero, Act.put, List.setIfInBounds_toArray, List.set_cons_succ, List.set_cons_zero]
              refine wpAnyH_all (rs := [19]) (by kernel_rfl) (by simp) ?_
              intro k hk
              simp only [List.mem_cons, List.mem_nil_iff, or_false] at hk
              subst hk
              refine wpOp_run rfl rfl (wp_store_run 30 _ _ rfl ⟨d, 3, none⟩ rfl _ rfl (store_ts cc9 f9) ?_)
              refine ⟨trivial, ?_⟩
              simp only [List.getElem_toArray, List.getElem_cons_succ, List.getElem_cons_zero, Act.put, List.setIfInBounds_toArray, List.set_cons_succ, List.set_cons_zero]
              refine wpAnyH_done (by kernel_rfl) ?_ _
              go_wp2_with fail
              go_meet
              case rel => exact ⟨_, by rw [← HE.out]; exact z9.1.wide HDD.out, HKK.out _ z9.2⟩
            · refine wpOp_run rfl rfl (wp_load_run 30 _ rfl ⟨d, 3, none⟩ rfl _ (load_ts h1.cells.2.2.2.1) ?_)
              refine ⟨trivial, ?_⟩
              simp only [List.getElem_toArray, List.getElem_cons_succ, List.getElem_cons_zero, Act.put, List.setIfInBounds_toArray, List.set_cons_succ, List.set_cons_zero]
              refine wpAnyH_take (i := 15) (v := (.slice (some ⟨b, o2, none⟩) (s.now.length - (i + 1)) (cn - (i + 1)))) rfl (by kernel_rfl) (by kernel_rfl) (by kernel_rfl) (fun _ _ _ h => h) (.inl ⟨rfl, fun _ hS => exec_slF cf rfl rfl rfl _⟩) trivial ?_
              simp only [List.getElem_toArray, List.getElem_cons_succ, List.getElem_cons_zero, Act.put, List.setIfInBounds_toArray, List.set_cons_succ, List.set_cons_zero]
              refine wpAnyH_all (rs := [8]) (by kernel_rfl) (by simp) ?_
              intro k hk
              simp only [List.mem_cons, List.mem_nil_iff, or_false] at hk
              subst hk
              refine wpOp_run rfl rfl (wp_appW DT _ _ 30 37 _ 8 Try.underlying30 infoT rfl rfl qa _ [] rfl z1 _ (s.now.take i) rfl (wide_take h1.rn i hi0) (by unfold maxLen; simp; omega) (by simp; omega) y1 ?_)
              intro a8 c8 u2 o8 g8
              have b2 : Below w1.heap.size u1 u2 := (Below.refl _ _ : Below w1.heap.size u1 u1).grown g8 k1.size (fun k e => Nat.le_trans hqa0 (own_lt z1 k e))
              have k2 := k1.trans b2
              have h2 := h0.below k2
              have q2 := Nat.le_trans y1 g8.size
              refine ⟨trivial, ?_⟩
              simp only [List.getElem_toArray, List.getElem_cons_succ, List.getElem_cons_zero, Act.put, List.setIfInBounds_toArray, List.set_cons_succ, List.set_cons_zero]
              refine wpAnyH_all (rs := [16]) (by kernel_rfl) (by simp) ?_
              intro k hk
              simp only [List.mem_cons, List.mem_nil_iff, or_false] at hk
              subst hk
              refine wpOp_run rfl rfl (wp_appW DT _ _ 30 37 _ 8 Try.underlying30 infoT rfl rfl qa _ ([] ++ s.now.take i) rfl o8 _ (s.now.drop (i + 1)) rfl (HWD.out _ h2.rn) (by unfold maxLen; simp; omega) (by simp; omega) q2 ?_)
              intro a9 c9 y9 o9 g9
              have b9 : Below w1.heap.size w1 y9 := k2.grown g9 k2.size (fun k e => Nat.le_trans hqa0 (own_lt o8 k e))
              have z9 := h0.newN (([] ++ s.now.take i) ++ s.now.drop (i + 1)) hqa0 b9 o9
              have h9 := h0.below b9
              have cc9 := h9.cells.2.2.2.1
              have f9 := h9.cells.2.2.2.2.2.2 3
              clear o9
              generalize hnl : (([] ++ s.now.take i) ++ s.now.drop (i + 1)).length = nl at *
              clear hnl
              refine ⟨trivial, ?_⟩
              simp only [List.getElem_toArray, List.getElem_cons_succ, List.getElem_cons_zero, Act.put, List.setIfInBounds_toArray, List.set_cons_succ, List.set_cons_zero]
              refine wpAnyH_take (i := 17) (v := (.pointer (some ⟨d, 0, none⟩))) rfl (by kernel_rfl) (by kernel_rfl) (by kernel_rfl) (fun _ _ _ h => h) (.inl ⟨rfl, fun _ hS => by simp [execOp, go_sem, Act.eval]⟩) trivial ?_
              simp only [List.getElem_toArray, List.getElem_cons_succ, List.getElem_cons_zero, Act.put, List.setIfInBounds_toArray, List.set_cons_succ, List.set_cons_zero]
              refine wpAnyH_take (i := 18) (v := (.pointer (some ⟨d, 3, none⟩))) rfl (by kernel_rfl) (by kernel_rfl) (by kernel_rfl) (fun _ _ _ h => h) (.inl ⟨rfl, fun _ hS => by simp [execOp, go_sem, Act.eval]⟩) trivial ?_
              simp only [List.getElem_toArray, List.getElem_cons_succ, List.getElem_cons_zero, Act.put, List.setIfInBounds_toArray, List.set_cons_succ, List.set_cons_zero]
              refine wpAnyH_all (rs := [19]) (by kernel_rfl) (by simp) ?_
              intro k hk
              simp only [List.mem_cons, List.mem_nil_iff, or_false] at hk
              subst hk
              refine wpOp_run rfl rfl (wp_store_run 30 _ _ rfl ⟨d, 3, none⟩ rfl _ rfl (store_ts cc9 f9) ?_)
              refine ⟨trivial, ?_⟩
              simp only [List.getElem_toArray, List.getElem_cons_succ, List.getElem_cons_zero, Act.put, List.setIfInBounds_toArray, List.set_cons_succ, List.set_cons_zero]
              refine wpAnyH_done (by kernel_rfl) ?_ _
              go_wp2_with fail
              go_meet
              case rel => exact ⟨_, by rw [← HE.out]; exact z9.1.wide HDD.out, HKK.out _ z9.2⟩
          · refine wpOp_run rfl rfl (wp_load_run 30 _ rfl ⟨d, 3, none⟩ rfl _ (load_ts h1.cells.2.2.2.1) ?_)
            refine ⟨trivial, ?_⟩
            simp only [List.getElem_toArray, List.getElem_cons_succ, List.getElem_cons_zero, Act.put, List.setIfInBounds_toArray, List.set_cons_succ, List.set_cons_zero]
            refine wpAnyH_take (i := 15) (v := (.slice (some ⟨b, o2, none⟩) (s.now.length - (i + 1)) (cn - (i + 1)))) rfl (by kernel_rfl) (by kernel_rfl) (by kernel_rfl) (fun _ _ _ h => h) (.inl ⟨rfl, fun _ hS => exec_slF cf rfl rfl rfl _⟩) trivial ?_
            simp only [List.getElem_toArray, List.getElem_cons_succ, List.getElem_cons_zero, Act.put, List.setIfInBounds_toArray, List.set_cons_succ, List.set_cons_zero]
            refine wpAnyH_all (rs := [5]) (by kernel_rfl) (by simp) ?_
            intro k hk
            simp only [List.mem_cons, List.mem_nil_iff, or_false] at hk
            subst hk
            refine wpOp_run rfl rfl (wp_load_run 30 _ rfl ⟨d, 3, none⟩ rfl _ (load_ts h1.cells.2.2.2.1) ?_)
            refine ⟨trivial, ?_⟩
            simp only [List.getElem_toArray, List.getElem_cons_succ, List.getElem_cons_zero, Act.put, List.setIfInBounds_toArray, List.set_cons_succ, List.set_cons_zero]
            refine wpAnyH_take (i := 7) (v := (.slice (some ⟨b, off, none⟩) i cn)) rfl (by kernel_rfl) (by kernel_rfl) (by kernel_rfl) (fun _ _ _ h => h) (.inl ⟨rfl, fun _ hS => exec_slT ct rfl rfl rfl _⟩) trivial ?_
            simp only [List.getElem_toArray, List.getElem_cons_succ, List.getElem_cons_zero, Act.put, List.setIfInBounds_toArray, List.set_cons_succ, List.set_cons_zero]
            refine wpAnyH_all (rs := [8]) (by kernel_rfl) (by simp) ?_
            intro k hk
            simp only [List.mem_cons, List.mem_nil_iff, or_false] at hk
            subst hk
            refine wpOp_run rfl rfl (wp_appW DT _ _ 30 37 _ 8 Try.underlying30 infoT rfl rfl qa _ [] rfl z1 _ (s.now.take i) rfl (wide_take h1.rn i hi0) (by unfold maxLen; simp; omega) (by simp; omega) y1 ?_)
            intro a8 c8 u2 o8 g8
            have b2 : Below w1.heap.size u1 u2 := (Below.refl _ _ : Below w1.heap.size u1 u1).grown g8 k1.size (fun k e => Nat.le_trans hqa0 (own_lt z1 k e))
            have k2 := k1.trans b2
            have h2 := h0.below k2
            have q2 := Nat.le_trans y1 g8.size
            refine ⟨trivial, ?_⟩
            simp only [List.getElem_toArray, List.getElem_cons_succ, List.getElem_cons_zero, Act.put, List.setIfInBounds_toArray, List.set_cons_succ, List.set_cons_zero]
            refine wpAnyH_all (rs := [16]) (by kernel_rfl) (by simp) ?_
            intro k hk
            simp only [List.mem_cons, List.mem_nil_iff, or_false] at hk
            subst hk
            refine wpOp_run rfl rfl (wp_appW DT _ _ 30 37 _ 8 Try.underlying30 infoT rfl rfl qa _ ([] ++ s.now.take i) rfl o8 _ (s.now.drop (i + 1)) rfl (HWD.out _ h2.rn) (by unfold maxLen; simp; omega) (by simp; omega) q2 ?_)
            intro a9 c9 y9 o9 g9
            have b9 : Below w1.heap.size w1 y9 := k2.grown g9 k2.size (fun k e => Nat.le_trans hqa0 (own_lt o8 k e))
            have z9 := h0.newN (([] ++ s.now.take i) ++ s.now.drop (i + 1)) hqa0 b9 o9
            have h9 := h0.below b9
            have cc9 := h9.cells.2.2.2.1
            have f9 := h9.cells.2.2.2.2.2.2 3
            clear o9
            generalize hnl : (([] ++ s.now.take i) ++ s.now.drop (i + 1)).length = nl at *
            clear hnl
            refine ⟨trivial, ?_⟩
            simp only [List.getElem_toArray, List.getElem_cons_succ, List.getElem_cons_zero, Act.put, List.setIfInBounds_toArray, List.set_cons_succ, List.set_cons_zero]
            refine wpAnyH_take (i := 17) (v := (.pointer (some ⟨d, 0, none⟩))) rfl (by kernel_rfl) (by kernel_rfl) (by kernel_rfl) (fun _ _ _ h => h) (.inl ⟨rfl, fun _ hS => by simp [execOp, go_sem, Act.eval]⟩) trivial ?_
            simp only [List.getElem_toArray, List.getElem_cons_succ, List.getElem_cons_zero, Act.put, List.setIfInBounds_toArray, List.set_cons_succ, List.set_cons_zero]
            refine wpAnyH_take (i := 18) (v := (.pointer (some ⟨d, 3, none⟩))) rfl (by kernel_rfl) (by kernel_rfl) (by kernel_rfl) (fun _ _ _ h => h) (.inl ⟨rfl, fun _ hS => by simp [execOp, go_sem, Act.eval]⟩) trivial ?_
            simp only [List.getElem_toArray, List.getElem_cons_succ, List.getElem_cons_zero, Act.put, List.setIfInBounds_toArray, List.set_cons_succ, List.set_cons_zero]
            refine wpAnyH_all (rs := [19]) (by kernel_rfl) (by simp) ?_
            intro k hk
            simp only [List.mem_cons, List.mem_nil_iff, or_false] at hk
            subst hk
            refine wpOp_run rfl rfl (wp_store_run 30 _ _ rfl ⟨d, 3, none⟩ rfl _ rfl (store_ts cc9 f9) ?_)
            refine ⟨trivial, ?_⟩
            simp only [List.getElem_toArray, List.getElem_cons_succ, List.getElem_cons_zero, Act.put, List.setIfInBounds_toArray, List.set_cons_succ, List.set_cons_zero]
            refine wpAnyH_done (by kernel_rfl) ?_ _
            go_wp2_with fail
            go_meet
            case rel => exact ⟨_, by rw [← HE.out]; exact z9.1.wide HDD.out, HKK.out _ z9.2⟩
        · refine wpOp_run rfl rfl (wp_load_run 30 _ rfl ⟨d, 3, none⟩ rfl _ (load_ts h0.cells.2.2.2.1) ?_)
          refine ⟨trivial, ?_⟩
          simp only [List.getElem_toArray, List.getElem_cons_succ, List.getElem_cons_zero, Act.put, List.setIfInBounds_toArray, List.set_cons_succ, List.set_cons_zero]
          refine wpAnyH_take (i := 7) (v := (.slice (some ⟨b, off, none⟩) i cn)) rfl (by kernel_rfl) (by kernel_rfl) (by kernel_rfl) (fun _ _ _ h => h) (.inl ⟨rfl, fun _ hS => exec_slT ct rfl rfl rfl _⟩) trivial ?_
          simp only [List.getElem_toArray, List.getElem_cons_succ, List.getElem_cons_zero, Act.put, List.setIfInBounds_toArray, List.set_cons_succ, List.set_cons_zero]
          refine wpAnyH_all (rs := [1, 12]) (by kernel_rfl) (by simp) ?_
          intro k hk
          simp only [List.mem_cons, List.mem_nil_iff, or_false] at hk
          rcases hk with rfl | rfl
          · refine wpOp_run rfl rfl (wp_bs0g Try.underlying30 infoT rfl ?_)
            obtain ⟨qa, hqa⟩ : ∃ q, w1.heap.size = q := ⟨_, rfl⟩
            have b1 : Below w1.heap.size w1 (w1.alloc (.cells #[] 37)) := (Below.refl _ _).alloc (Nat.le_refl _) _
            have z1 : (w1.alloc (.cells #[] 37)).ownsRow qa 37 7 (.slice (some ⟨qa, 0, none⟩) 0 0) ([] : List Tr).length (flatW DT []) := by rw [← hqa]; exact own_empty_e w1 37 7
            have hqa0 : w1.heap.size ≤ qa := by rw [← hqa]; exact k0.size
            have y1 : qa ≤ (w1.alloc (.cells #[] 37)).heap.size := by rw [← hqa]; simp
            have h1 := h0.below b1
            have k1 := k0.trans (b1.mono k0.size)
            rw [hqa]
            clear hqa
            generalize w1.alloc (.cells #[] 37) = u1 at *
            refine ⟨trivial, ?_⟩
            simp only [List.getElem_toArray, List.getElem_cons_succ, List.getElem_cons_zero, Act.put, List.setIfInBounds_toArray, List.set_cons_succ, List.set_cons_zero]
            refine wpAnyH_all (rs := [8, 12]) (by kernel_rfl) (by simp) ?_
            intro k hk
            simp only [List.mem_cons, List.mem_nil_iff, or_false] at hk
            rcases hk with rfl | rfl
            · refine wpOp_run rfl rfl (wp_appW DT _ _ 30 37 _ 8 Try.underlying30 infoT rfl rfl qa _ [] rfl z1 _ (s.now.take i) rfl (wide_take h1.rn i hi0) (by unfold maxLen; simp; omega) (by simp; omega) y1 ?_)
              intro a8 c8 u2 o8 g8
              have b2 : Below w1.heap.size u1 u2 := (Below.refl _ _ : Below w1.heap.size u1 u1).grown g8 k1.size (fun k e => Nat.le_trans hqa0 (own_lt z1 k e))
              have k2 := k1.trans b2
              have h2 := h0.below k2
              have q2 := Nat.le_trans y1 g8.size
              refine ⟨trivial, ?_⟩
              simp only [List.getElem_toArray, List.getElem_cons_succ, List.getElem_cons_zero, Act.put, List.setIfInBounds_toArray, List.set_cons_succ, List.set_cons_zero]
              refine wpAnyH_all (rs := [12]) (by kernel_rfl) (by simp) ?_
              intro k hk
              simp only [List.mem_cons, List.mem_nil_iff, or_false] at hk
              subst hk
              refine wpOp_run rfl rfl (wp_load_run 30 _ rfl ⟨d, 3, none⟩ rfl _ (load_ts h2.cells.2.2.2.1) ?_)
              refine ⟨trivial, ?_⟩
              simp only [List.getElem_toArray, List.getElem_cons_succ, List.getElem_cons_zero, Act.put, List.setIfInBounds_toArray, List.set_cons_succ, List.set_cons_zero]
              refine wpAnyH_take (i := 15) (v := (.slice (some ⟨b, o2, none⟩) (s.now.length - (i + 1)) (cn - (i + 1)))) rfl (by kernel_rfl) (by kernel_rfl) (by kernel_rfl) (fun _ _ _ h => h) (.inl ⟨rfl, fun _ hS => exec_slF cf rfl rfl rfl _⟩) trivial ?_
              simp only [List.getElem_toArray, List.getElem_cons_succ, List.getElem_cons_zero, Act.put, List.setIfInBounds_toArray, List.set_cons_succ, List.set_cons_zero]
              refine wpAnyH_all (rs := [16]) (by kernel_rfl) (by simp) ?_
              intro k hk
              simp only [List.mem_cons, List.mem_nil_iff, or_false] at hk
              subst hk
              refine wpOp_run rfl rfl (wp_appW DT _ _ 30 37 _ 8 Try.underlying30 infoT rfl rfl qa _ ([] ++ s.now.take i) rfl o8 _ (s.now.drop (i + 1)) rfl (HWD.out _ h2.rn) (by unfold maxLen; simp; omega) (by simp; omega) q2 ?_)
              intro a9 c9 y9 o9 g9
              have b9 : Below w1.heap.size w1 y9 := k2.grown g9 k2.size (fun k e => Nat.le_trans hqa0 (own_lt o8 k e))
              have z9 := h0.newN (([] ++ s.now.take i) ++ s.now.drop (i + 1)) hqa0 b9 o9
              have h9 := h0.below b9
              have cc9 := h9.cells.2.2.2.1
              have f9 := h9.cells.2.2.2.2.2.2 3
              clear o9
              generalize hnl : (([] ++ s.now.take i) ++ s.now.drop (i + 1)).length = nl at *
              clear hnl
              refine ⟨trivial, ?_⟩
              simp only [List.getElem_toArray, List.getElem_cons_succ, List.getElem_cons_zero, Act.put, List.setIfInBounds_toArray, List.set_cons_succ, List.set_cons_zero]
              refine wpAnyH_take (i := 17) (v := (.pointer (some ⟨d, 0, none⟩))) rfl (by kernel_rfl) (by kernel_rfl) (by kernel_rfl) (fun _ _ _ h => h) (.inl ⟨rfl, fun _ hS => by simp [execOp, go_sem, Act.eval]⟩) trivial ?_
              simp only [List.getElem_toArray, List.getElem_cons_succ, List.getElem_cons_zero, Act.put, List.setIfInBounds_toArray, List.set_cons_succ, List.set_cons_zero]
              refine wpAnyH_take (i := 18) (v := (.pointer (some ⟨d, 3, none⟩))) rfl (by kernel_rfl) (by kernel_rfl) (by kernel_rfl) (fun _ _ _ h => h) (.inl ⟨rfl, fun _ hS => by simp [execOp, go_sem, Act.eval]⟩) trivial ?_
              simp only [List.getElem_toArray, List.getElem_cons_succ, List.getElem_cons_zero, Act.put, List.setIfInBounds_toArray, List.set_cons_succ, List.set_cons_zero]
              refine wpAnyH_all (rs := [19]) (by kernel_rfl) (by simp) ?_
              intro k hk
              simp only [List.mem_cons, List.mem_nil_iff, or_false] at hk
              subst hk
              refine wpOp_run rfl rfl (wp_store_run 30 _ _ rfl ⟨d, 3, none⟩ rfl _ rfl (store_ts cc9 f9) ?_)
              refine ⟨trivial, ?_⟩
              simp only [List.getElem_toArray, List.getElem_cons_succ, List.getElem_cons_zero, Act.put, List.setIfInBounds_toArray, List.set_cons_succ, List.set_cons_zero]
              refine wpAnyH_done (by kernel_rfl) ?_ _
              go_wp2_with fail
              go_meet
              case rel => exact ⟨_, by rw [← HE.out]; exact z9.1.wide HDD.out, HKK.out _ z9.2⟩
            · refine wpOp_run rfl rfl (wp_load_run 30 _ rfl ⟨d, 3, none⟩ rfl _ (load_ts h1.cells.2.2.2.1) ?_)
              refine ⟨trivial, ?_⟩
              simp only [List.getElem_toArray, List.getElem_cons_succ, List.getElem_cons_zero, Act.put, List.setIfInBounds_toArray, List.set_cons_succ, List.set_cons_zero]
              refine wpAnyH_take (i := 15) (v := (.slice (some ⟨b, o2, none⟩) (s.now.length - (i + 1)) (cn - (i + 1)))) rfl (by kernel_rfl) (by kernel_rfl) (by kernel_rfl) (fun _ _ _ h => h) (.inl ⟨rfl, fun _ hS => exec_slF cf rfl rfl rfl _⟩) trivial ?_
              simp only [List.getElem_toArray, List.getElem_cons_succ, List.getElem_cons_zero, Act.put, List.setIfInBounds_toArray, List.set_cons_succ, List.set_cons_zero]
              refine wpAnyH_all (rs := [8]) (by kernel_rfl) (by simp) ?_
              intro k hk
              simp only [List.mem_cons, List.mem_nil_iff, or_false] at hk
              subst hk
              refine wpOp_run rfl rfl (wp_appW DT _ _ 30 37 _ 8 Try.underlying30 infoT rfl rfl qa _ [] rfl z1 _ (s.now.take i) rfl (wide_take h1.rn i hi0) (by unfold maxLen; simp; omega) (by simp; omega) y1 ?_)
              intro a8 c8 u2 o8 g8
              have b2 : Below w1.heap.size u1 u2 := (Below.refl _ _ : Below w1.heap.size u1 u1).grown g8 k1.size (fun k e => Nat.le_trans hqa0 (own_lt z1 k e))
              have k2 := k1.trans b2
              have h2 := h0.below k2
              have q2 := Nat.le_trans y1 g8.size
              refine ⟨trivial, ?_⟩
              simp only [List.getElem_toArray, List.getElem_cons_succ, List.getElem_cons_zero, Act.put, List.setIfInBounds_toArray, List.set_cons_succ, List.set_cons_zero]
              refine wpAnyH_all (rs := [16]) (by kernel_rfl) (by simp) ?_
              intro k hk
              simp only [List.mem_cons, List.mem_nil_iff, or_false] at hk
              subst hk
              refine wpOp_run rfl rfl (wp_appW DT _ _ 30 37 _ 8 Try.underlying30 infoT rfl rfl qa _ ([] ++ s.now.take i) rfl o8 _ (s.now.drop (i + 1)) rfl (HWD.out _ h2.rn) (by unfold maxLen; simp; omega) (by simp; omega) q2 ?_)
              intro a9 c9 y9 o9 g9
              have b9 : Below w1.heap.size w1 y9 := k2.grown g9 k2.size (fun k e => Nat.le_trans hqa0 (own_lt o8 k e))
              have z9 := h0.newN (([] ++ s.now.take i) ++ s.now.drop (i + 1)) hqa0 b9 o9
              have h9 := h0.below b9
              have cc9 := h9.cells.2.2.2.1
              have f9 := h9.cells.2.2.2.2.2.2 3
              clear o9
              generalize hnl : (([] ++ s.now.take i) ++ s.now.drop (i + 1)).length = nl at *
              clear hnl
              refine ⟨trivial, ?_⟩
              simp only [List.getElem_toArray, List.getElem_cons_succ, List.getElem_cons_zero, Act.put, List.setIfInBounds_toArray, List.set_cons_succ, List.set_cons_zero]
              refine wpAnyH_take (i := 17) (v := (.pointer (some ⟨d, 0, none⟩))) rfl (by kernel_rfl) (by kernel_rfl) (by kernel_rfl) (fun _ _ _ h => h) (.inl ⟨rfl, fun _ hS => by simp [execOp, go_sem, Act.eval]⟩) trivial ?_
              simp only [List.getElem_toArray, List.getElem_cons_succ, List.getElem_cons_zero, Act.put, List.setIfInBounds_toArray, List.set_cons_succ, List.set_cons_zero]
              refine wpAnyH_take (i := 18) (v := (.pointer (some ⟨d, 3, none⟩))) rfl (by kernel_rfl) (by kernel_rfl) (by kernel_rfl) (fun _ _ _ h => h) (.inl ⟨rfl, fun _ hS => by simp [execOp, go_sem, Act.eval]⟩) trivial ?_
              simp only [List.getElem_toArray, List.getElem_cons_succ, List.getElem_cons_zero, Act.put, List.setIfInBounds_toArray, List.set_cons_succ, List.set_cons_zero]
              refine wpAnyH_all (rs := [19]) (by kernel_rfl) (by simp) ?_
              intro k hk
              simp only [List.mem_cons, List.mem_nil_iff, or_false] at hk
              subst hk
              refine wpOp_run rfl rfl (wp_store_run 30 _ _ rfl ⟨d, 3, none⟩ rfl _ rfl (store_ts cc9 f9) ?_)
              refine ⟨trivial, ?_⟩
              simp only [List.getElem_toArray, List.getElem_cons_succ, List.getElem_cons_zero, Act.put, List.setIfInBounds_toArray, List.set_cons_succ, List.set_cons_zero]
              refine wpAnyH_done (by kernel_rfl) ?_ _
              go_wp2_with fail
              go_meet
              case rel => exact ⟨_, by rw [← HE.out]; exact z9.1.wide HDD.out, HKK.out _ z9.2⟩
          · refine wpOp_run rfl rfl (wp_load_run 30 _ rfl ⟨d, 3, none⟩ rfl _ (load_ts h0.cells.2.2.2.1) ?_)
            refine ⟨trivial, ?_⟩
            simp only [List.getElem_toArray, List.getElem_cons_succ, List.getElem_cons_zero, Act.put, List.setIfInBounds_toArray, List.set_cons_succ, List.set_cons_zero]
            refine wpAnyH_take (i := 15) (v := (.slice (some ⟨b, o2, none⟩) (s.now.length - (i + 1)) (cn - (i + 1)))) rfl (by kernel_rfl) (by kernel_rfl) (by kernel_rfl) (fun _ _ _ h => h) (.inl ⟨rfl, fun _ hS => exec_slF cf rfl rfl rfl _⟩) trivial ?_
            simp only [List.getElem_toArray, List.getElem_cons_succ, List.getElem_cons_zero, Act.put, List.setIfInBounds_toArray, List.set_cons_succ, List.set_cons_zero]
            refine wpAnyH_all (rs := [1]) (by kernel_rfl) (by simp) ?_
            intro k hk
            simp only [List.mem_cons, List.mem_nil_iff, or_false] at hk
            subst hk
            refine wpOp_run rfl rfl (wp_bs0g Try.underlying30 infoT rfl ?_)
            obtain ⟨qa, hqa⟩ : ∃ q, w1.heap.size = q := ⟨_, rfl⟩
            have b1 : Below w1.heap.size w1 (w1.alloc (.cells #[] 37)) := (Below.refl _ _).alloc (Nat.le_refl _) _
            have z1 : (w1.alloc (.cells #[] 37)).ownsRow qa 37 7 (.slice (some ⟨qa, 0, none⟩) 0 0) ([] : List Tr).length (flatW DT []) := by rw [← hqa]; exact own_empty_e w1 37 7
            have hqa0 : w1.heap.size ≤ qa := by rw [← hqa]; exact k0.size
            have y1 : qa ≤ (w1.alloc (.cells #[] 37)).heap.size := by rw [← hqa]; simp
            have h1 := h0.below b1
            have k1 := k0.trans (b1.mono k0.size)
            rw [hqa]
            clear hqa
            generalize w1.alloc (.cells #[] 37) = u1 at *
            refine ⟨trivial, ?_⟩
            simp only [List.getElem_toArray, List.getElem_cons_succ, List.getElem_cons_zero, Act.put, List.setIfInBounds_toArray, List.set_cons_succ, List.set_cons_zero]
            refine wpAnyH_all (rs := [8]) (by kernel_rfl) (by simp) ?_
            intro k hk
            simp only [List.mem_cons, List.mem_nil_iff, or_false] at hk
            subst hk
            refine wpOp_run rfl rfl (wp_appW DT _ _ 30 37 _ 8 Try.underlying30 infoT rfl rfl qa _ [] rfl z1 _ (s.now.take i) rfl (wide_take h1.rn i hi0) (by unfold maxLen; simp; omega) (by simp; omega) y1 ?_)
            intro a8 c8 u2 o8 g8
            have b2 : Below w1.heap.size u1 u2 := (Below.refl _ _ : Below w1.heap.size u1 u1).grown g8 k1.size (fun k e => Nat.le_trans hqa0 (own_lt z1 k e))
            have k2 := k1.trans b2
            have h2 := h0.below k2
            have q2 := Nat.le_trans y1 g8.size
            refine ⟨trivial, ?_⟩
            simp only [List.getElem_toArray, List.getElem_cons_succ, List.getElem_cons_zero, Act.put, List.setIfInBounds_toArray, List.set_cons_succ, List.set_cons_zero]
            refine wpAnyH_all (rs := [16]) (by kernel_rfl) (by simp) ?_
            intro k hk
            simp only [List.mem_cons, List.mem_nil_iff, or_false] at hk
            subst hk
            refine wpOp_run rfl rfl (wp_appW DT _ _ 30 37 _ 8 Try.underlying30 infoT rfl rfl qa _ ([] ++ s.now.take i) rfl o8 _ (s.now.drop (i + 1)) rfl (HWD.out _ h2.rn) (by unfold maxLen; simp; omega) (by simp; omega) q2 ?_)
            intro a9 c9 y9 o9 g9
            have b9 : Below w1.heap.size w1 y9 := k2.grown g9 k2.size (fun k e => Nat.le_trans hqa0 (own_lt o8 k e))
            have z9 := h0.newN (([] ++ s.now.take i) ++ s.now.drop (i + 1)) hqa0 b9 o9
            have h9 := h0.below b9
            have cc9 := h9.cells.2.2.2.1
            have f9 := h9.cells.2.2.2.2.2.2 3
            clear o9
            generalize hnl : (([] ++ s.now.take i) ++ s.now.drop (i + 1)).length = nl at *
            clear hnl
            refine ⟨trivial, ?_⟩
            simp only [List.getElem_toArray, List.getElem_cons_succ, List.getElem_cons_zero, Act.put, List.setIfInBounds_toArray, List.set_cons_succ, List.set_cons_zero]
            refine wpAnyH_take (i := 17) (v := (.pointer (some ⟨d, 0, none⟩))) rfl (by kernel_rfl) (by kernel_rfl) (by kernel_rfl) (fun _ _ _ h => h) (.inl ⟨rfl, fun _ hS => by simp [execOp, go_sem, Act.eval]⟩) trivial ?_
            simp only [List.getElem_toArray, List.getElem_cons_succ, List.getElem_cons_zero, Act.put, List.setIfInBounds_toArray, List.set_cons_succ, List.set_cons_zero]
            refine wpAnyH_take (i := 18) (v := (.pointer (some ⟨d, 3, none⟩))) rfl (by kernel_rfl) (by kernel_rfl) (by kernel_rfl) (fun _ _ _ h => h) (.inl ⟨rfl, fun _ hS => by simp [execOp, go_sem, Act.eval]⟩) trivial ?_
            simp only [List.getElem_toArray, List.getElem_cons_succ, List.getElem_cons_zero, Act.put, List.setIfInBounds_toArray, List.set_cons_succ, List.set_cons_zero]
            refine wpAnyH_all (rs := [19]) (by kernel_rfl) (by simp) ?_
            intro k hk
            simp only [List.mem_cons, List.mem_nil_iff, or_false] at hk
            subst hk
            refine wpOp_run rfl rfl (wp_store_run 30 _ _ rfl ⟨d, 3, none⟩ rfl _ rfl (store_ts cc9 f9) ?_)
            refine ⟨trivial, ?_⟩
            simp only [List.getElem_toArray, List.getElem_cons_succ, List.getElem_cons_zero, Act.put, List.setIfInBounds_toArray, List.set_cons_succ, List.set_cons_zero]
            refine wpAnyH_done (by kernel_rfl) ?_ _
            go_wp2_with fail
            go_meet
            case rel => exact ⟨_, by rw [← HE.out]; exact z9.1.wide HDD.out, HKK.out _ z9.2⟩
        · refine wpOp_run rfl rfl (wp_load_run 30 _ rfl ⟨d, 3, none⟩ rfl _ (load_ts h0.cells.2.2.2.1) ?_)
          refine ⟨trivial, ?_⟩
          simp only [List.getElem_toArray, List.getElem_cons_succ, List.getElem_cons_zero, Act.put, List.setIfInBounds_toArray, List.set_cons_succ, List.set_cons_zero]
          refine wpAnyH_take (i := 15) (v := (.slice (some ⟨b, o2, none⟩) (s.now.length - (i + 1)) (cn - (i + 1)))) rfl (by kernel_rfl) (by kernel_rfl) (by kernel_rfl) (fun _ _ _ h => h) (.inl ⟨rfl, fun _ hS => exec_slF cf rfl rfl rfl _⟩) trivial ?_
          simp only [List.getElem_toArray, List.getElem_cons_succ, List.getElem_cons_zero, Act.put, List.setIfInBounds_toArray, List.set_cons_succ, List.set_cons_zero]
          refine wpAnyH_all (rs := [1, 5]) (by kernel_rfl) (by simp) ?_
          intro k hk
          simp only [List.mem_cons, List.mem_nil_iff, or_false] at hk
          rcases hk with rfl | rfl
          · refine wpOp_run rfl rfl (wp_bs0g Try.underlying30 infoT rfl ?_)
            obtain ⟨qa, hqa⟩ : ∃ q, w1.heap.size = q := ⟨_, rfl⟩
            have b1 : Below w1.heap.size w1 (w1.alloc (.cells #[] 37)) := (Below.refl _ _).alloc (Nat.le_refl _) _
            have z1 : (w1.alloc (.cells #[] 37)).ownsRow qa 37 7 (.slice (some ⟨qa, 0, none⟩) 0 0) ([] : List Tr).length (flatW DT []) := by rw [← hqa]; exact own_empty_e w1 37 7
            have hqa0 : w1.heap.size ≤ qa := by rw [← hqa]; exact k0.size
            have y1 : qa ≤ (w1.alloc (.cells #[] 37)).heap.size := by rw [← hqa]; simp
            have h1 := h0.below b1
            have k1 := k0.trans (b1.mono k0.size)
            rw [hqa]
            clear hqa
            generalize w1.alloc (.cells #[] 37) = u1 at *
            refine ⟨trivial, ?_⟩
            simp only [List.getElem_toArray, List.getElem_cons_succ, List.getElem_cons_zero, Act.put, List.setIfInBounds_toArray, List.set_cons_succ, List.set_cons_zero]
            refine wpAnyH_all (rs := [5]) (by kernel_rfl) (by simp) ?_
            intro k hk
            simp only [List.mem_cons, List.mem_nil_iff, or_false] at hk
            subst hk
            refine wpOp_run rfl rfl (wp_load_run 30 _ rfl ⟨d, 3, none⟩ rfl _ (load_ts h1.cells.2.2.2.1) ?_)
            refine ⟨trivial, ?_⟩
            simp only [List.getElem_toArray, List.getElem_cons_succ, List.getElem_cons_zero, Act.put, List.setIfInBounds_toArray, List.set_cons_succ, List.set_cons_zero]
            refine wpAnyH_take (i := 7) (v := (.slice (some ⟨b, off, none⟩) i cn)) rfl (by kernel_rfl) (by kernel_rfl) (by kernel_rfl) (fun _ _ _ h => h) (.inl ⟨rfl, fun _ hS => exec_slT ct rfl rfl rfl _⟩) trivial ?_
            simp only [List.getElem_toArray, List.getElem_cons_succ, List.getElem_cons_zero, Act.put, List.setIfInBounds_toArray, List.set_cons_succ, List.set_cons_zero]
            refine wpAnyH_all (rs := [8]) (by kernel_rfl) (by simp) ?_
            intro k hk
            simp only [List.mem_cons, List.mem_nil_iff, or_false] at hk
            subst hk
            refine wpOp_run rfl rfl (wp_appW DT _ _ 30 37 _ 8 Try.underlying30 infoT rfl rfl qa _ [] rfl z1 _ (s.now.take i) rfl (wide_take h1.rn i hi0) (by unfold maxLen; simp; omega) (by simp; omega) y1 ?_)
            intro a8 c8 u2 o8 g8
            have b2 : Below w1.heap.size u1 u2 := (Below.refl _ _ : Below w1.heap.size u1 u1).grown g8 k1.size (fun k e => Nat.le_trans hqa0 (own_lt z1 k e))
            have k2 := k1.trans b2
            have h2 := h0.below k2
            have q2 := Nat.le_trans y1 g8.size
            refine ⟨trivial, ?_⟩
            simp only [List.getElem_toArray, List.getElem_cons_succ, List.getElem_cons_zero, Act.put, List.setIfInBounds_toArray, List.set_cons_succ, List.set_cons_zero]
            refine wpAnyH_all (rs := [16]) (by kernel_rfl) (by simp) ?_
            intro k hk
            simp only [List.mem_cons, List.mem_nil_iff, or_false] at hk
            subst hk
            refine wpOp_run rfl rfl (wp_appW DT _ _ 30 37 _ 8 Try.underlying30 infoT rfl rfl qa _ ([] ++ s.now.take i) rfl o8 _ (s.now.drop (i + 1)) rfl (HWD.out _ h2.rn) (by unfold maxLen; simp; omega) (by simp; omega) q2 ?_)
            intro a9 c9 y9 o9 g9
            have b9 : Below w1.heap.size w1 y9 := k2.grown g9 k2.size (fun k e => Nat.le_trans hqa0 (own_lt o8 k e))
            have z9 := h0.newN (([] ++ s.now.take i) ++ s.now.drop (i + 1)) hqa0 b9 o9
            have h9 := h0.below b9
            have cc9 := h9.cells.2.2.2.1
            have f9 := h9.cells.2.2.2.2.2.2 3
            clear o9
            generalize hnl : (([] ++ s.now.take i) ++ s.now.drop (i + 1)).length = nl at *
            clear hnl
            refine ⟨trivial, ?_⟩
            simp only [List.getElem_toArray, List.getElem_cons_succ, List.getElem_cons_zero, Act.put, List.setIfInBounds_toArray, List.set_cons_succ, List.set_cons_zero]
            refine wpAnyH_take (i := 17) (v := (.pointer (some ⟨d, 0, none⟩))) rfl (by kernel_rfl) (by kernel_rfl) (by kernel_rfl) (fun _ _ _ h => h) (.inl ⟨rfl, fun _ hS => by simp [execOp, go_sem, Act.eval]⟩) trivial ?_
            simp only [List.getElem_toArray, List.getElem_cons_succ, List.getElem_cons_zero, Act.put, List.setIfInBounds_toArray, List.set_cons_succ, List.set_cons_zero]
            refine wpAnyH_take (i := 18) (v := (.pointer (some ⟨d, 3, none⟩))) rfl (by kernel_rfl) (by kernel_rfl) (by kernel_rfl) (fun _ _ _ h => h) (.inl ⟨rfl, fun _ hS => by simp [execOp, go_sem, Act.eval]⟩) trivial ?_
            simp only [List.getElem_toArray, List.getElem_cons_succ, List.getElem_cons_zero, Act.put, List.setIfInBounds_toArray, List.set_cons_succ, List.set_cons_zero]
            refine wpAnyH_all (rs := [19]) (by kernel_rfl) (by simp) ?_
            intro k hk
            simp only [List.mem_cons, List.mem_nil_iff, or_false] at hk
            subst hk
            refine wpOp_run rfl rfl (wp_store_run 30 _ _ rfl ⟨d, 3, none⟩ rfl _ rfl (store_ts cc9 f9) ?_)
            refine ⟨trivial, ?_⟩
            simp only [List.getElem_toArray, List.getElem_cons_succ, List.getElem_cons_zero, Act.put, List.setIfInBounds_toArray, List.set_cons_succ, List.set_cons_zero]
            refine wpAnyH_done (by kernel_rfl) ?_ _
            go_wp2_with fail
            go_meet
            case rel => exact ⟨_, by rw [← HE.out]; exact z9.1.wide HDD.out, HKK.out _ z9.2⟩
          · refine wpOp_run rfl rfl (wp_load_run 30 _ rfl ⟨d, 3, none⟩ rfl _ (load_ts h0.cells.2.2.2.1) ?_)
            refine ⟨trivial, ?_⟩
            simp only [List.getElem_toArray, List.getElem_cons_succ, List.getElem_cons_zero, Act.put, List.setIfInBounds_toArray, List.set_cons_succ, List.set_cons_zero]
            refine wpAnyH_take (i := 7) (v := (.slice (some ⟨b, off, none⟩) i cn)) rfl (by kernel_rfl) (by kernel_rfl) (by kernel_rfl) (fun _ _ _ h => h) (.inl ⟨rfl, fun _ hS => exec_slT ct rfl rfl rfl _⟩) trivial ?_
            simp only [List.getElem_toArray, List.getElem_cons_succ, List.getElem_cons_zero, Act.put, List.setIfInBounds_toArray, List.set_cons_succ, List.set_cons_zero]
            refine wpAnyH_all (rs := [1]) (by kernel_rfl) (by simp) ?_
            intro k hk
            simp only [List.mem_cons, List.mem_nil_iff, or_false] at hk
            subst hk
            refine wpOp_run rfl rfl (wp_bs0g Try.underlying30 infoT rfl ?_)
            obtain ⟨qa, hqa⟩ : ∃ q, w1.heap.size = q := ⟨_, rfl⟩
            have b1 : Below w1.heap.size w1 (w1.alloc (.cells #[] 37)) := (Below.refl _ _).alloc (Nat.le_refl _) _
            have z1 : (w1.alloc (.cells #[] 37)).ownsRow qa 37 7 (.slice (some ⟨qa, 0, none⟩) 0 0) ([] : List Tr).length (flatW DT []) := by rw [← hqa]; exact own_empty_e w1 37 7
            have hqa0 : w1.heap.size ≤ qa := by rw [← hqa]; exact k0.size
            have y1 : qa ≤ (w1.alloc (.cells #[] 37)).heap.size := by rw [← hqa]; simp
            have h1 := h0.below b1
            have k1 := k0.trans (b1.mono k0.size)
            rw [hqa]
            clear hqa
            generalize w1.alloc (.cells #[] 37) = u1 at *
            refine ⟨trivial, ?_⟩
            simp only [List.getElem_toArray, List.getElem_cons_succ, List.getElem_cons_zero, Act.put, List.setIfInBounds_toArray, List.set_cons_succ, List.set_cons_zero]
            refine wpAnyH_all (rs := [8]) (by kernel_rfl) (by simp) ?_
            intro k hk
            simp only [List.mem_cons, List.mem_nil_iff, or_false] at hk
            subst hk
            refine wpOp_run rfl rfl (wp_appW DT _ _ 30 37 _ 8 Try.underlying30 infoT rfl rfl qa _ [] rfl z1 _ (s.now.take i) rfl (wide_take h1.rn i hi0) (by unfold maxLen; simp; omega) (by simp; omega) y1 ?_)
            intro a8 c8 u2 o8 g8
            have b2 : Below w1.heap.size u1 u2 := (Below.refl _ _ : Below w1.heap.size u1 u1).grown g8 k1.size (fun k e => Nat.le_trans hqa0 (own_lt z1 k e))
            have k2 := k1.trans b2
            have h2 := h0.below k2
            have q2 := Nat.le_trans y1 g8.size
            refine ⟨trivial, ?_⟩
            simp only [List.getElem_toArray, List.getElem_cons_succ, List.getElem_cons_zero, Act.put, List.setIfInBounds_toArray, List.set_cons_succ, List.set_cons_zero]
            refine wpAnyH_all (rs := [16]) (by kernel_rfl) (by simp) ?_
            intro k hk
            simp only [List.mem_cons, List.mem_nil_iff, or_false] at hk
            subst hk
            refine wpOp_run rfl rfl (wp_appW DT _ _ 30 37 _ 8 Try.underlying30 infoT rfl rfl qa _ ([] ++ s.now.take i) rfl o8 _ (s.now.drop (i + 1)) rfl (HWD.out _ h2.rn) (by unfold maxLen; simp; omega) (by simp; omega) q2 ?_)
            intro a9 c9 y9 o9 g9
            have b9 : Below w1.heap.size w1 y9 := k2.grown g9 k2.size (fun k e => Nat.le_trans hqa0 (own_lt o8 k e))
            have z9 := h0.newN (([] ++ s.now.take i) ++ s.now.drop (i + 1)) hqa0 b9 o9
            have h9 := h0.below b9
            have cc9 := h9.cells.2.2.2.1
            have f9 := h9.cells.2.2.2.2.2.2 3
            clear o9
            generalize hnl : (([] ++ s.now.take i) ++ s.now.drop (i + 1)).length = nl at *
            clear hnl
            refine ⟨trivial, ?_⟩
            simp only [List.getElem_toArray, List.getElem_cons_succ, List.getElem_cons_zero, Act.put, List.setIfInBounds_toArray, List.set_cons_succ, List.set_cons_zero]
            refine wpAnyH_take (i := 17) (v := (.pointer (some ⟨d, 0, none⟩))) rfl (by kernel_rfl) (by kernel_rfl) (by kernel_rfl) (fun _ _ _ h => h) (.inl ⟨rfl, fun _ hS => by simp [execOp, go_sem, Act.eval]⟩) trivial ?_
            simp only [List.getElem_toArray, List.getElem_cons_succ, List.getElem_cons_zero, Act.put, List.setIfInBounds_toArray, List.set_cons_succ, List.set_cons_zero]
            refine wpAnyH_take (i := 18) (v := (.pointer (some ⟨d, 3, none⟩))) rfl (by kernel_rfl) (by kernel_rfl) (by kernel_rfl) (fun _ _ _ h => h) (.inl ⟨rfl, fun _ hS => by simp [execOp, go_sem, Act.eval]⟩) trivial ?_
            simp only [List.getElem_toArray, List.getElem_cons_succ, List.getElem_cons_zero, Act.put, List.setIfInBounds_toArray, List.set_cons_succ, List.set_cons_zero]
            refine wpAnyH_all (rs := [19]) (by kernel_rfl) (by simp) ?_
            intro k hk
            simp only [List.mem_cons, List.mem_nil_iff, or_false] at hk
            subst hk
            refine wpOp_run rfl rfl (wp_store_run 30 _ _ rfl ⟨d, 3, none⟩ rfl _ rfl (store_ts cc9 f9) ?_)
            refine ⟨trivial, ?_⟩
            simp only [List.getElem_toArray, List.getElem_cons_succ, List.getElem_cons_zero, Act.put, List.setIfInBounds_toArray, List.set_cons_succ, List.set_cons_zero]
            refine wpAnyH_done (by kernel_rfl) ?_ _
            go_wp2_with fail
            go_meet
            case rel => exact ⟨_, by rw [← HE.out]; exact z9.1.wide HDD.out, HKK.out _ z9.2⟩
    case rest =>
      obtain ⟨v1, h0, K0⟩ := hcut
      obtain ⟨st1, hs1⟩ : ∃ t : Te, { s with now := s.now.eraseIdx i } = t := ⟨_, rfl⟩
      rw [hs1] at h0
      have hfin : SC = { st1 with waits := push st1.waits (tl (hd st1.now) (hd_lt _) st1.now 0 0 0 0 0) } := by rw [← HSC.out, ← hs1]; rfl
      have hl1 : st1.now.length ≤ 2305843009213693951 := by
        rw [← hs1]
        show (s.now.eraseIdx i).length ≤ _
        rw [List.length_eraseIdx]
        split <;> omega
      clear hs1 HE HSC HWD ct cf hcn hi0 hi1 hl
      obtain ⟨w2, hw2⟩ : ∃ x, x = wc := ⟨_, rfl⟩
      subst hw2
      have hT := dframe_any h0 hl1 (hd st1.now) (hd_lt _) 0 0 0 0 0
      have HFin : Hid (∀ z, (∃ vf', Dtv d (fun k => D1 k ∨ w2.heap.size ≤ k) { st1 with waits := push st1.waits (tl (hd st1.now) (hd_lt _) st1.now 0 0 0 0 0) } v1 vo vf' z) → Kq (fun k => k = d) w2 z → Dt d D1 SC z ∧ Kq (fun k => k = d) w z) := fun z ⟨vf', hz⟩ kz => ⟨by rw [hfin]; exact ⟨_, _, _, hz.wide (fun k hk => hk.elim id (fun e => HD1.out k (Nat.le_trans K0.size e)))⟩, K0.trans kz⟩
      clear hfin
      go_upto_region 5 with fail
      obtain ⟨_, _, _, c3, _⟩ := h0.cells
      obtain ⟨a1, c1, hv1⟩ := h0.rn.shape
      subst hv1
      by_cases h9 : 0 < st1.now.length
      · have hd9 : decide ((0 : Int) < (st1.now.length : Int)) = true := decide_eq_true (by omega)
        have hd9' : decide (0 < st1.now.length) = true := decide_eq_true (by omega)
        obtain ⟨b9, o9, c9, e9, _, hR9⟩ := h0.rn.at0 0 h9
        injection e9 with e1 e2 e3
        subst e1
        have r9 := hR9 0 (.int .u16 st1.now[0].c) rfl
        have hz : o9 + 0 * 7 + 0 = o9 := by omega
        rw [hz] at r9
        have hhd : (st1.now[0].c : Nat) = hd st1.now := hd_get st1.now h9
        rw [hhd] at r9
        have HZ := HFin
        have hn9 : (0 : Int) < (st1.now.length : Int) := by omega
        clear hR9 hhd hz h0 HFin hl1 h9 e2
        generalize { st1 with waits := push st1.waits (tl (hd st1.now) (hd_lt _) st1.now 0 0 0 0 0) } = S9 at *
        generalize hd st1.now = c0 at *
        generalize st1.now.length = n9 at *
        go_wp2_with (go_at_call 28; refine hT.mono ?_; rintro e w' ⟨rfl, vf9, h9, k9⟩)
        go_ret
        exact ⟨rfl, HZ.out _ ⟨vf9, h9⟩ k9⟩
      · have h99 : st1.now.length = 0 := by omega
        have hd9 : decide ((0 : Int) < (st1.now.length : Int)) = false := decide_eq_false (by omega)
        have hd9' : decide (0 < st1.now.length) = false := decide_eq_false (by omega)
        have hhd : hd st1.now = 0 := by
          cases hn : st1.now with
          | nil => rfl
          | cons a l => rw [hn] at h99; simp at h99
        have HZ := HFin
        clear h0 HFin hl1 h9 h99
        generalize { st1 with waits := push st1.waits (tl (hd st1.now) (hd_lt _) st1.now 0 0 0 0 0) } = S9 at *
        rw [hhd, show ((0 : Nat) : Int) = 0 from rfl] at hT
        clear hhd
        generalize st1.now.length = n9 at *
        go_wp2_with (go_at_call 28; refine hT.mono ?_; rintro e w' ⟨rfl, vf9, h9, k9⟩)
        go_ret
        exact ⟨rfl, HZ.out _ ⟨vf9, h9⟩ k9⟩
end
end Go.Proofs.Ytlkocebgkmdeoaa
