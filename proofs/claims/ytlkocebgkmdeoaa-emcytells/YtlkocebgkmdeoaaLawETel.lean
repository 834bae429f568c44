/- The law EmcyTells returns true whatever numbers and acts come in. -/
import Derived.Test.YtlkocebgkmdeoaaEtJ
import Derived.Deep.RegionHeld3
namespace Go.Proofs.Ytlkocebgkmdeoaa
open Go.RowKit
set_option linter.unusedVariables false
set_option maxRecDepth 1000000
set_option linter.unusedSimpArgs false
theorem enTReg : ∀ args x, (callFunc 18 args).run Try.prog x = .ok (.enter 18 args) x := fun _ _ => by rfl
theorem enTDReg : ∀ args x, (callFunc 19 args).run Try.prog x = .ok (.enter 19 args) x := fun _ _ => by rfl
theorem enTHis : ∀ args x, (callFunc 21 args).run Try.prog x = .ok (.enter 21 args) x := fun _ _ => by rfl
theorem enTNow : ∀ args x, (callFunc 22 args).run Try.prog x = .ok (.enter 22 args) x := fun _ _ => by rfl
theorem enTSame : ∀ args x, (callFunc 20 args).run Try.prog x = .ok (.enter 20 args) x := fun _ _ => by rfl
theorem enTRa : ∀ args x, (callFunc 9 args).run Try.prog x = .ok (.enter 9 args) x := fun _ _ => by rfl
theorem enTDRa : ∀ args x, (callFunc 10 args).run Try.prog x = .ok (.enter 10 args) x := fun _ _ => by rfl
theorem enTCl : ∀ args x, (callFunc 11 args).run Try.prog x = .ok (.enter 11 args) x := fun _ _ => by rfl
theorem enTDCl : ∀ args x, (callFunc 12 args).run Try.prog x = .ok (.enter 12 args) x := fun _ _ => by rfl
theorem exec_idxA16 {a : Act} {o : Oper} {s i : Operand} {b off n c k : Nat} (ho : o.op = .indexAddr 23 s i) (hs : a.eval s = .slice (some ⟨b, off, none⟩) n c) (hi : a.eval i = .int .i64 (k : Int)) (hk : k < n) (w : World) : (execOp a.eval o).run Try.prog w = .ok (.value (.pointer (some ⟨b, off + k * 8, none⟩))) w := by
  have h1 : (0 : Int) ≤ (k : Int) := by omega
  have h2 : (k : Int) < (n : Int) := by omega
  have hsz : (Try.prog.info? 39).map (·.size) = some 8 := by kernel_rfl
  obtain ⟨i0, hi0, hz1⟩ : ∃ i0, Try.prog.info? 39 = some i0 ∧ i0.size = 8 := by
    cases hh : Try.prog.info? 39 with
    | none => rw [hh] at hsz; cases hsz
    | some i0 => rw [hh] at hsz; exact ⟨i0, rfl, by simpa using hsz⟩
  unfold execOp
  simp only [ho, hs, hi]
  simp [go_sem, run_underlying Try.underlying23, sizeOf, typeInfo, hi0, hz1, h1, h2, Addr.add_mid]
theorem load_u16 (x : World) (D k : Nat) (z : Int) (hc : x.cell? ⟨D, k, none⟩ = some (.int .u16 z)) : (loadVar 34 ⟨D, k, none⟩).run Try.prog x = .ok (.int .u16 z) x := by
  simp [go_sem, run_underlying Try.underlying34, hc]
theorem exec_lenT {a : Act} {o : Oper} {x : Operand} {ao : Option Addr} {L cap : Nat} (ho : o.op = .call { callee := .builtin .len, args := #[x], argTypes := #[30] }) (hx : a.eval x = .slice ao L cap) (w : World) : (execOp a.eval o).run Try.prog w = .ok (.value (.int .i64 (L : Int))) w := by
  unfold execOp
  simp only [ho, resolve, invoke, builtin, Sem.run_bind, Sem.run_pure, Result.andThen_ok, List.map_toArray, List.map_cons, List.map_nil, hx]
  simp [go_sem, Builtin.len_]
theorem Te.fa_shape (s : Te) : ∃ z0 z1 z2 z3 z4 z5 z6 z7 : Int, s.fa = #[.int .u8 z0, .int .u8 z1, .int .u8 z2, .int .u8 z3, .int .u8 z4, .int .u8 z5, .int .u8 z6, .int .u8 z7] := by
  unfold Te.fa
  split
  · split
    · exact ⟨_, _, _, _, _, _, _, _, rfl⟩
    · exact ⟨_, _, _, _, _, _, _, _, rfl⟩
  · exact ⟨_, _, _, _, _, _, _, _, rfl⟩
theorem etel_bad (h : Int) (i : Nat) (v : Value) (hh : (decide (1 ≤ h) && decide (h ≤ 254) && decide (i ≤ 4294967296)) = false) (w : World) : Calls Try.prog 3 #[.int .i64 h, .int .u64 i, v] w fun r w' => r = .returned (.bool true) ∧ Below w.heap.size w w' := by
  have hN := new_bad h i hh w
  have hL := lives_any w
  by_cases h1 : h < 1
  · have d1 : decide (h < 1) = true := by simp; omega
    clear h1 hh
    go_enter Try.func3, Try.ntmps3
    go_wp2_with (first | (go_at_call 7; refine hN.mono ?_; rintro r w1 ⟨rfl, hw⟩; rw [hw]) | (go_at_call 8; refine hL.mono ?_; rintro r w9 ⟨rfl, B9⟩))
    go_ret
    exact ⟨rfl, B9⟩
  · have d1 : decide (h < 1) = false := by simp; omega
    by_cases h2 : 254 < h
    · have d2 : decide (254 < h) = true := by simp; omega
      clear h1 h2 hh
      go_enter Try.func3, Try.ntmps3
      go_wp2_with (first | (go_at_call 7; refine hN.mono ?_; rintro r w1 ⟨rfl, hw⟩; rw [hw]) | (go_at_call 8; refine hL.mono ?_; rintro r w9 ⟨rfl, B9⟩))
      go_ret
      exact ⟨rfl, B9⟩
    · have d2 : decide (254 < h) = false := by simp; omega
      have h3 : 4294967296 < i := by
        have e1 : decide (1 ≤ h) = true := by simp; omega
        have e2 : decide (h ≤ 254) = true := by simp; omega
        rw [e1, e2] at hh
        simp at hh
        exact hh
      have d3 : decide ((4294967296 : Int) < (i : Int)) = true := by simp; omega
      have d3' : decide (4294967296 < i) = true := by simp; omega
      clear h1 h2 hh h3
      go_enter Try.func3, Try.ntmps3
      go_wp2_with (first | (go_at_call 7; refine hN.mono ?_; rintro r w1 ⟨rfl, hw⟩; rw [hw]) | (go_at_call 8; refine hL.mono ?_; rintro r w9 ⟨rfl, B9⟩))
      go_ret
      exact ⟨rfl, B9⟩
set_option maxHeartbeats 16000000 in
theorem etel_ok (h i : Nat) (v : Value) (l : List A16) (h1 : 1 ≤ h) (h2 : h ≤ 254) (h3 : i ≤ 4294967296) (hl : l.length ≤ 8796093021952) (w : World) (hB : Wide 8 A16.c w v l) :
    Calls Try.prog 3 #[.int .i64 h, .int .u64 i, v] w fun r w' => r = .returned (.bool true) ∧ Below w.heap.size w w' := by
  obtain ⟨ao, cap, rfl, _, hc⟩ := hB
  have HC : Hid (∀ (wr : World), Below w.heap.size w wr → ∀ k (hk : k < l.length), ∃ b off, ao = some ⟨b, off, none⟩ ∧ b < w.heap.size ∧ wr.rangeAt b (off + k * 8) (A16.c l[k])) := fun wr hb k hk => Wide.at hc hb k hk
  clear hc
  obtain ⟨p, hp⟩ : ∃ p, w.heap.size = p := ⟨_, rfl⟩
  rw [hp] at HC ⊢
  have hN : ∀ P : Nat → Prop, P p → Calls Try.prog 7 #[.int .i64 (h : Int), .int .u64 (i : Int)] w fun e w' => e = .returned (.tuple #[.pointer (some ⟨p, 0, none⟩), .int .i64 0]) ∧ Pt p P ⟨h, i, [], [], [], 0⟩ w' ∧ Below p w w' := fun P hP => by
    have := newP h i h1 h2 h3 w P (by rw [hp]; exact hP)
    rw [hp] at this
    exact this
  have hN1 := hN (fun z => z = p) rfl
  have d1 : decide ((h : Int) < 1) = false := by simp; omega
  have d2 : decide ((254 : Int) < (h : Int)) = false := by simp; omega
  have d3 : decide ((4294967296 : Int) < (i : Int)) = false := by simp; omega
  have d2' : decide (254 < h) = false := by simp; omega
  have d3' : decide (4294967296 < i) = false := by simp; omega
  clear hN
  go_enter Try.func3, Try.ntmps3
  go_upto_region 2 with (go_at_call 7; refine hN1.mono ?_; rintro r w1 ⟨rfl, N1, B1⟩)
  obtain ⟨q, hq⟩ : ∃ q, w1.heap.size = q := ⟨_, rfl⟩
  have lq : p < q := by rw [← hq]; exact N1.lt
  obtain ⟨w2, hw2⟩ : ∃ x, w1.alloc (.cells #[.int .i64 h, .int .u64 i, .int .u64 0, .slice none 0 0, .slice none 0 0, .slice none 0 0] 33) = x := ⟨_, rfl⟩
  have B2 : Below w1.heap.size w1 w2 := by rw [← hw2]; exact (Below.refl _ _).alloc (Nat.le_refl _) _
  have D2 : Dt q (fun z => z = q) ⟨h, i, [], [], [], 0⟩ w2 := by rw [← hw2, ← hq]; exact Dt.new w1 h i _ rfl
  have hs2 : w2.heap.size = q + 1 := by rw [← hw2, ← hq]; simp
  have HI : Hid (Jt p p q 0 w w2 (fun z => z = q) ⟨h, i, [], [], [], 0⟩) := ⟨(N1.below B2).wide (fun z _ e => by show p ≤ z ∧ ¬ z = q; omega), D2, fun z e => by have e : z = q := e; omega, B1.trans (B2.mono (by omega)), Nat.le_refl _, Nat.zero_le _, by omega⟩
  clear N1 B1 B2 D2 hN1 hs2
  go_upto_region 7 with fail
  clear hw2
  go_wp2_with fail
  go_loopw [10] (fun s10 x => ∃ k D s, k ≤ l.length ∧ s10 = .int .i64 (k : Nat) ∧ Jt p p q k w x D s) (fun s10 _ => l.length - (intOf s10).toNat)
  case atStart => exact ⟨0, _, _, by omega, rfl, HI.out⟩
  case round =>
    clear HI
    obtain ⟨k, D, s, hk, rfl, hJ⟩ := hrel
    have B5 := hJ.below
    have hszp := hJ.hp
    by_cases hkl : k < l.length
    · have hd : decide ((k : Int) < (l.length : Int)) = true := by simp; omega
      obtain ⟨b, off, rfl, hb, hR0⟩ := HC.out wr B5 k hkl
      have HX : Hid (∀ z, Below p w z → z.rangeAt b (off + k * 8 + 1) l[k].x.cs) := fun z hz => by
        obtain ⟨b', off', e, _, h9⟩ := HC.out z hz k hkl
        injection e with e; injection e with e1 e2; subst e1; subst e2
        intro j u hj
        have := h9 (j + 1) u hj
        rwa [show off + k * 8 + (j + 1) = off + k * 8 + 1 + j by omega] at this
      have r0 := hR0 0 (.int .i64 l[k].k) rfl
      rw [Nat.add_zero] at r0
      generalize l[k] = a at *
      obtain ⟨kd, X, hkd⟩ := a
      simp only at r0 HX
      have hok := hJ.pt.ok
      have hh := hok.h2
      have hqq : s.quiet ≤ 4294967296 := Nat.le_trans hok.h6 hok.h3
      have hln := hJ.len
      have hft := hJ.fit
      have hbk : (k + 1) * 8 ≤ 140737488355328 := by omega
      have hL16 : s.now.length ≤ 2305843009213693951 := by omega
      clear hR0 hok
      go_upto_region 12 with fail
      by_cases h0 : kd = 0
      · subst h0
        have hJd : Jt p p q k w wr.drew D s := hJ.same (below_drawn (Below.refl _ _) 1)
        have hP1 := raiseP hJd.pt hJd.room (by omega) hft X
        have HD2 : Hid (∀ u, Jh p p q w u D s (s.raise X) → Calls Try.prog 10 #[.pointer (some ⟨q, 0, none⟩), .agg X.arr] u fun e w' => e = .returned (.bool (s.can X)) ∧ ∃ D', Jt p p q (k + 1) w w' D' (s.raise X)) := fun u j => j.raise hln hbk hft hh
        have HX9 := HX
        have s0 := HX9.out wr.drew hJd.below
        generalize s.can X = cb at *
        go_upto_region 13 with fail
        refine wp_region_held (S := fun z : World => z.rangeAt b (off + k * 8 + 1) X.cs) (by kernel_rfl) ?_
        change wpAnyH _ _ _ _ _ _ _ _ wr.drew
        refine wpAnyH_take (i := 0) (v := (.pointer (some ⟨p, 0, none⟩))) rfl (by kernel_rfl) (by kernel_rfl) (by kernel_rfl) (fun _ _ _ h => h) (.inl ⟨rfl, fun _ hS => rfl⟩) s0 ?_
        simp only [List.getElem_toArray, List.getElem_cons_succ, List.getElem_cons_zero, Act.put, List.setIfInBounds_toArray, List.set_cons_succ, List.set_cons_zero]
        refine wpAnyH_take (i := 1) (v := (.slice (some ⟨b, off, none⟩) l.length cap)) rfl (by kernel_rfl) (by kernel_rfl) (by kernel_rfl) (fun _ _ _ h => h) (.inl ⟨rfl, fun _ hS => rfl⟩) s0 ?_
        simp only [List.getElem_toArray, List.getElem_cons_succ, List.getElem_cons_zero, Act.put, List.setIfInBounds_toArray, List.set_cons_succ, List.set_cons_zero]
        refine wpAnyH_take (i := 2) (v := (.int .i64 (k : Nat))) rfl (by kernel_rfl) (by kernel_rfl) (by kernel_rfl) (fun _ _ _ h => h) (.inl ⟨rfl, fun _ hS => rfl⟩) s0 ?_
        simp only [List.getElem_toArray, List.getElem_cons_succ, List.getElem_cons_zero, Act.put, List.setIfInBounds_toArray, List.set_cons_succ, List.set_cons_zero]
        refine wpAnyH_take (i := 3) (v := (.pointer (some ⟨b, off + k * 8, none⟩))) rfl (by kernel_rfl) (by kernel_rfl) (by kernel_rfl) (fun _ _ _ h => h) (.inl ⟨rfl, fun _ hS => exec_idxA16 rfl rfl rfl hkl _⟩) s0 ?_
        simp only [List.getElem_toArray, List.getElem_cons_succ, List.getElem_cons_zero, Act.put, List.setIfInBounds_toArray, List.set_cons_succ, List.set_cons_zero]
        refine wpAnyH_take (i := 4) (v := (.pointer (some ⟨b, off + k * 8 + 1, none⟩))) rfl (by kernel_rfl) (by kernel_rfl) (by kernel_rfl) (fun _ _ _ h => h) (.inl ⟨rfl, fun _ hS => by simp [execOp, go_sem, Act.eval]⟩) s0 ?_
        simp only [List.getElem_toArray, List.getElem_cons_succ, List.getElem_cons_zero, Act.put, List.setIfInBounds_toArray, List.set_cons_succ, List.set_cons_zero]
        refine wpAnyH_take (i := 5) (v := (.agg X.arr)) rfl (by kernel_rfl) (by kernel_rfl) (by kernel_rfl) (fun _ _ _ h => h) (.inl ⟨rfl, fun _ hS => exec_load rfl rfl (ldMid hS)⟩) s0 ?_
        simp only [List.getElem_toArray, List.getElem_cons_succ, List.getElem_cons_zero, Act.put, List.setIfInBounds_toArray, List.set_cons_succ, List.set_cons_zero]
        refine wpAnyH_take (i := 7) (v := (.pointer (some ⟨q, 0, none⟩))) rfl (by kernel_rfl) (by kernel_rfl) (by kernel_rfl) (fun _ _ _ h => h) (.inl ⟨rfl, fun _ hS => rfl⟩) s0 ?_
        simp only [List.getElem_toArray, List.getElem_cons_succ, List.getElem_cons_zero, Act.put, List.setIfInBounds_toArray, List.set_cons_succ, List.set_cons_zero]
        refine wpAnyH_take (i := 8) (v := (.slice (some ⟨b, off, none⟩) l.length cap)) rfl (by kernel_rfl) (by kernel_rfl) (by kernel_rfl) (fun _ _ _ h => h) (.inl ⟨rfl, fun _ hS => rfl⟩) s0 ?_
        simp only [List.getElem_toArray, List.getElem_cons_succ, List.getElem_cons_zero, Act.put, List.setIfInBounds_toArray, List.set_cons_succ, List.set_cons_zero]
        refine wpAnyH_take (i := 9) (v := (.int .i64 (k : Nat))) rfl (by kernel_rfl) (by kernel_rfl) (by kernel_rfl) (fun _ _ _ h => h) (.inl ⟨rfl, fun _ hS => rfl⟩) s0 ?_
        simp only [List.getElem_toArray, List.getElem_cons_succ, List.getElem_cons_zero, Act.put, List.setIfInBounds_toArray, List.set_cons_succ, List.set_cons_zero]
        refine wpAnyH_take (i := 10) (v := (.pointer (some ⟨b, off + k * 8, none⟩))) rfl (by kernel_rfl) (by kernel_rfl) (by kernel_rfl) (fun _ _ _ h => h) (.inl ⟨rfl, fun _ hS => exec_idxA16 rfl rfl rfl hkl _⟩) s0 ?_
        simp only [List.getElem_toArray, List.getElem_cons_succ, List.getElem_cons_zero, Act.put, List.setIfInBounds_toArray, List.set_cons_succ, List.set_cons_zero]
        refine wpAnyH_take (i := 11) (v := (.pointer (some ⟨b, off + k * 8 + 1, none⟩))) rfl (by kernel_rfl) (by kernel_rfl) (by kernel_rfl) (fun _ _ _ h => h) (.inl ⟨rfl, fun _ hS => by simp [execOp, go_sem, Act.eval]⟩) s0 ?_
        simp only [List.getElem_toArray, List.getElem_cons_succ, List.getElem_cons_zero, Act.put, List.setIfInBounds_toArray, List.set_cons_succ, List.set_cons_zero]
        refine wpAnyH_take (i := 12) (v := (.agg X.arr)) rfl (by kernel_rfl) (by kernel_rfl) (by kernel_rfl) (fun _ _ _ h => h) (.inl ⟨rfl, fun _ hS => exec_load rfl rfl (ldMid hS)⟩) s0 ?_
        simp only [List.getElem_toArray, List.getElem_cons_succ, List.getElem_cons_zero, Act.put, List.setIfInBounds_toArray, List.set_cons_succ, List.set_cons_zero]
        refine wpAnyH_all (rs := [6]) (by kernel_rfl) (by simp) ?_
        intro k hk
        simp only [List.mem_cons, List.mem_nil_iff, or_false] at hk
        subst hk
        refine wpOp_runw rfl rfl (wp_call_fn 9 #[.pointer (some ⟨p, 0, none⟩), .agg X.arr] (by simp [execOp, go_sem, Act.eval, resolve, invoke, enTRa]) ?_)
        refine hP1.mono ?_
        rintro e u1 ⟨rfl, t1, k1⟩
        have j1 := hJd.first t1 k1
        have s1 := HX9.out u1 j1.below
        have hD2 := HD2.out u1 j1
        refine ⟨s1, ?_⟩
        simp only [List.getElem_toArray, List.getElem_cons_succ, List.getElem_cons_zero, Act.put, List.setIfInBounds_toArray, List.set_cons_succ, List.set_cons_zero]
        refine wpAnyH_all (rs := [13]) (by kernel_rfl) (by simp) ?_
        intro k hk
        simp only [List.mem_cons, List.mem_nil_iff, or_false] at hk
        subst hk
        refine wpOp_runw rfl rfl (wp_call_fn 10 #[.pointer (some ⟨q, 0, none⟩), .agg X.arr] (by simp [execOp, go_sem, Act.eval, resolve, invoke, enTDRa]) ?_)
        refine hD2.mono ?_
        rintro e u2 ⟨rfl, D2, j2⟩
        have s2 := HX9.out u2 j2.below
        refine ⟨s2, ?_⟩
        simp only [List.getElem_toArray, List.getElem_cons_succ, List.getElem_cons_zero, Act.put, List.setIfInBounds_toArray, List.set_cons_succ, List.set_cons_zero]
        refine wpAnyH_take (i := 14) (v := (.bool true)) rfl (by kernel_rfl) (by kernel_rfl) (by kernel_rfl) (fun _ _ _ h => h) (.inl ⟨rfl, fun _ hS => by go_simp⟩) s2 ?_
        simp only [List.getElem_toArray, List.getElem_cons_succ, List.getElem_cons_zero, Act.put, List.setIfInBounds_toArray, List.set_cons_succ, List.set_cons_zero]
        refine wpAnyH_take (i := 15) (v := (.bool true)) rfl (by kernel_rfl) (by kernel_rfl) (by kernel_rfl) (fun _ _ _ h => h) (.inl ⟨rfl, fun _ hS => rfl⟩) s2 ?_
        simp only [List.getElem_toArray, List.getElem_cons_succ, List.getElem_cons_zero, Act.put, List.setIfInBounds_toArray, List.set_cons_succ, List.set_cons_zero]
        refine wpAnyH_done (by kernel_rfl) ?_ _
        have HJ := hidOf2 (show ∃ D' S, Jt p p q (k + 1) w u2 D' S from ⟨_, _, j2⟩)
        clear hJd hP1 HD2 HX9 HX s0 s1 s2 t1 k1 j1 hD2 j2 hJ r0 hln hft hh hqq hL16
        go_upto_region 25 with fail
        obtain ⟨D9, S, J⟩ := HJ.out
        obtain ⟨vn, vo, vf, hdv⟩ := J.dt
        obtain ⟨an, cn, hvn⟩ := hdv.rn.shape
        subst hvn
        obtain ⟨a9, c9, hvo⟩ := hdv.ro.shape
        subst hvo
        have hl1 := J.len
        have hl9 : S.now.length ≤ 2305843009213693951 := by omega
        have hl8 : S.now.length * 8 ≤ 140737488355328 := by omega
        have hp9 : S.past.length ≤ 2305843009213693951 := by have := J.fit; have := J.pt.ok.h2; unfold Te.Fit at *; omega
        have HS : Hid (∀ z, Below u2.heap.size u2 z → z.cell? ⟨q, 3, none⟩ = some (.slice an S.now.length cn) ∧ z.cell? ⟨q, 4, none⟩ = some (.slice a9 S.past.length c9)) := fun z hz => ⟨(hdv.below hz).cells.2.2.2.1, (hdv.below hz).cells.2.2.2.2.1⟩
        have HR : Hid (∀ z, Below u2.heap.size u2 z → Calls Try.prog 18 #[.pointer (some ⟨p, 0, none⟩)] z fun e w' => e = .returned (.int .u8 (reg S.now)) ∧ Below z.heap.size z w') := fun z hz => regP (J.same hz).pt hl9
        have HRd : Hid (∀ z, Below u2.heap.size u2 z → Calls Try.prog 19 #[.pointer (some ⟨q, 0, none⟩)] z fun e w' => e = .returned (.int .u8 (reg S.now)) ∧ w' = z) := fun z hz => dreg_any (hdv.below hz) hl9
        have HH := hidOf2 (fun (z : World) (hz : Below u2.heap.size u2 z) => histP (J.same hz).pt)
        have HNw := hidOf2 (fun (z : World) (hz : Below u2.heap.size u2 z) => nowP (J.same hz).pt hl8)
        have HSa : Hid (∀ (z : World) (va : Value), Below u2.heap.size u2 z → Wide 7 Tr.cs z va S.past → Calls Try.prog 20 #[va, .slice a9 S.past.length c9] z fun e w' => e = .returned (.bool true) ∧ ∃ n, w' = z.drewN n) := fun z va hz ha => same_any va _ S.past z ha (hdv.below hz).ro hp9
        have HSn : Hid (∀ (z : World) (va : Value), Below u2.heap.size u2 z → Wide 7 Tr.cs z va S.now → Calls Try.prog 20 #[va, .slice an S.now.length cn] z fun e w' => e = .returned (.bool true) ∧ ∃ n, w' = z.drewN n) := fun z va hz ha => same_any va _ S.now z ha (hdv.below hz).rn hl9
        obtain ⟨zb, hzb⟩ : ∃ c : Bool, decide (S.now = []) = c := ⟨_, rfl⟩
        have hz1 : (((reg S.now : Nat) : Int) == 0) = zb := by
          rw [← hzb, Bool.eq_iff_iff, beq_iff_eq, decide_eq_true_eq, ← reg_zero]
          omega
        have hz2 : (((S.now.length : Nat) : Int) == 0) = zb := by
          rw [← hzb, Bool.eq_iff_iff, beq_iff_eq, decide_eq_true_eq, ← List.length_eq_zero_iff]
          omega
        have HJ9 := hidOf2 J
        have b0 : Below u2.heap.size u2 u2.drew := below_drawn (Below.refl _ _) 1
        have s0 := HS.out _ b0
        generalize reg S.now = RG at *
        clear hzb hdv J HJ
        refine wp_region_held (S := fun z : World => z.cell? ⟨q, 3, none⟩ = some (.slice an S.now.length cn) ∧ z.cell? ⟨q, 4, none⟩ = some (.slice a9 S.past.length c9)) (by kernel_rfl) ?_
        change wpAnyH _ _ _ _ _ _ _ _ u2.drew
        refine wpAnyH_take (i := 0) (v := (.bool true)) rfl (by kernel_rfl) (by kernel_rfl) (by kernel_rfl) (fun _ _ _ h => h) (.inl ⟨rfl, fun _ hS => rfl⟩) s0 ?_
        simp only [List.getElem_toArray, List.getElem_cons_succ, List.getElem_cons_zero, Act.put, List.setIfInBounds_toArray, List.set_cons_succ, List.set_cons_zero]
        refine wpAnyH_take (i := 1) (v := (.bool false)) rfl (by kernel_rfl) (by kernel_rfl) (by kernel_rfl) (fun _ _ _ h => h) (.inl ⟨rfl, fun _ hS => by go_simp⟩) s0 ?_
        simp only [List.getElem_toArray, List.getElem_cons_succ, List.getElem_cons_zero, Act.put, List.setIfInBounds_toArray, List.set_cons_succ, List.set_cons_zero]
        refine wpAnyH_take (i := 2) (v := (.bool false)) rfl (by kernel_rfl) (by kernel_rfl) (by kernel_rfl) (fun _ _ _ h => h) (.inl ⟨rfl, fun _ hS => rfl⟩) s0 ?_
        simp only [List.getElem_toArray, List.getElem_cons_succ, List.getElem_cons_zero, Act.put, List.setIfInBounds_toArray, List.set_cons_succ, List.set_cons_zero]
        refine wpAnyH_take (i := 3) (v := (.pointer (some ⟨p, 0, none⟩))) rfl (by kernel_rfl) (by kernel_rfl) (by kernel_rfl) (fun _ _ _ h => h) (.inl ⟨rfl, fun _ hS => rfl⟩) s0 ?_
        simp only [List.getElem_toArray, List.getElem_cons_succ, List.getElem_cons_zero, Act.put, List.setIfInBounds_toArray, List.set_cons_succ, List.set_cons_zero]
        refine wpAnyH_take (i := 5) (v := (.pointer (some ⟨q, 0, none⟩))) rfl (by kernel_rfl) (by kernel_rfl) (by kernel_rfl) (fun _ _ _ h => h) (.inl ⟨rfl, fun _ hS => rfl⟩) s0 ?_
        simp only [List.getElem_toArray, List.getElem_cons_succ, List.getElem_cons_zero, Act.put, List.setIfInBounds_toArray, List.set_cons_succ, List.set_cons_zero]
        refine wpAnyH_all (rs := [4]) (by kernel_rfl) (by simp) ?_
        intro k hk
        simp only [List.mem_cons, List.mem_nil_iff, or_false] at hk
        subst hk
        refine wpOp_runw rfl rfl (wp_call_fn 18 #[.pointer (some ⟨p, 0, none⟩)] (by simp [execOp, go_sem, Act.eval, resolve, invoke, enTReg]) ?_)
        refine (HR.out _ b0).mono ?_
        rintro e u1 ⟨rfl, y1⟩
        have b1 := b0.trans (y1.mono b0.size)
        have s1 := HS.out _ b1
        refine ⟨s1, ?_⟩
        simp only [List.getElem_toArray, List.getElem_cons_succ, List.getElem_cons_zero, Act.put, List.setIfInBounds_toArray, List.set_cons_succ, List.set_cons_zero]
        refine wpAnyH_all (rs := [6]) (by kernel_rfl) (by simp) ?_
        intro k hk
        simp only [List.mem_cons, List.mem_nil_iff, or_false] at hk
        subst hk
        refine wpOp_runw rfl rfl (wp_call_fn 19 #[.pointer (some ⟨q, 0, none⟩)] (by simp [execOp, go_sem, Act.eval, resolve, invoke, enTDReg]) ?_)
        refine (HRd.out _ b1).mono ?_
        rintro e u ⟨rfl, hu⟩
        rw [hu]
        clear hu
        refine ⟨s1, ?_⟩
        simp only [List.getElem_toArray, List.getElem_cons_succ, List.getElem_cons_zero, Act.put, List.setIfInBounds_toArray, List.set_cons_succ, List.set_cons_zero]
        refine wpAnyH_take (i := 7) (v := (.bool false)) rfl (by kernel_rfl) (by kernel_rfl) (by kernel_rfl) (fun _ _ _ h => h) (.inl ⟨rfl, fun _ hS => by go_simp⟩) s1 ?_
        simp only [List.getElem_toArray, List.getElem_cons_succ, List.getElem_cons_zero, Act.put, List.setIfInBounds_toArray, List.set_cons_succ, List.set_cons_zero]
        refine wpAnyH_take (i := 8) (v := (.bool false)) rfl (by kernel_rfl) (by kernel_rfl) (by kernel_rfl) (fun _ _ _ h => h) (.inl ⟨rfl, fun _ hS => by go_simp⟩) s1 ?_
        simp only [List.getElem_toArray, List.getElem_cons_succ, List.getElem_cons_zero, Act.put, List.setIfInBounds_toArray, List.set_cons_succ, List.set_cons_zero]
        refine wpAnyH_take (i := 9) (v := (.bool false)) rfl (by kernel_rfl) (by kernel_rfl) (by kernel_rfl) (fun _ _ _ h => h) (.inl ⟨rfl, fun _ hS => rfl⟩) s1 ?_
        simp only [List.getElem_toArray, List.getElem_cons_succ, List.getElem_cons_zero, Act.put, List.setIfInBounds_toArray, List.set_cons_succ, List.set_cons_zero]
        refine wpAnyH_take (i := 10) (v := (.pointer (some ⟨p, 0, none⟩))) rfl (by kernel_rfl) (by kernel_rfl) (by kernel_rfl) (fun _ _ _ h => h) (.inl ⟨rfl, fun _ hS => rfl⟩) s1 ?_
        simp only [List.getElem_toArray, List.getElem_cons_succ, List.getElem_cons_zero, Act.put, List.setIfInBounds_toArray, List.set_cons_succ, List.set_cons_zero]
        refine wpAnyH_take (i := 13) (v := (.pointer (some ⟨q, 0, none⟩))) rfl (by kernel_rfl) (by kernel_rfl) (by kernel_rfl) (fun _ _ _ h => h) (.inl ⟨rfl, fun _ hS => rfl⟩) s1 ?_
        simp only [List.getElem_toArray, List.getElem_cons_succ, List.getElem_cons_zero, Act.put, List.setIfInBounds_toArray, List.set_cons_succ, List.set_cons_zero]
        refine wpAnyH_take (i := 14) (v := (.pointer (some ⟨q, 0, none⟩))) rfl (by kernel_rfl) (by kernel_rfl) (by kernel_rfl) (fun _ _ _ h => h) (.inl ⟨rfl, fun _ hS => by simp [execOp, go_sem, Act.eval]⟩) s1 ?_
        simp only [List.getElem_toArray, List.getElem_cons_succ, List.getElem_cons_zero, Act.put, List.setIfInBounds_toArray, List.set_cons_succ, List.set_cons_zero]
        refine wpAnyH_take (i := 15) (v := (.pointer (some ⟨q, 3, none⟩))) rfl (by kernel_rfl) (by kernel_rfl) (by kernel_rfl) (fun _ _ _ h => h) (.inl ⟨rfl, fun _ hS => by simp [execOp, go_sem, Act.eval]⟩) s1 ?_
        simp only [List.getElem_toArray, List.getElem_cons_succ, List.getElem_cons_zero, Act.put, List.setIfInBounds_toArray, List.set_cons_succ, List.set_cons_zero]
        refine wpAnyH_take (i := 16) (v := (.slice an S.now.length cn)) rfl (by kernel_rfl) (by kernel_rfl) (by kernel_rfl) (fun _ _ _ h => h) (.inl ⟨rfl, fun _ hS => exec_load rfl rfl (load_ts hS.1)⟩) s1 ?_
        simp only [List.getElem_toArray, List.getElem_cons_succ, List.getElem_cons_zero, Act.put, List.setIfInBounds_toArray, List.set_cons_succ, List.set_cons_zero]
        refine wpAnyH_take (i := 17) (v := (.int .i64 (S.now.length : Nat))) rfl (by kernel_rfl) (by kernel_rfl) (by kernel_rfl) (fun _ _ _ h => h) (.inl ⟨rfl, fun _ hS => exec_lenT rfl rfl _⟩) s1 ?_
        simp only [List.getElem_toArray, List.getElem_cons_succ, List.getElem_cons_zero, Act.put, List.setIfInBounds_toArray, List.set_cons_succ, List.set_cons_zero]
        refine wpAnyH_take (i := 18) (v := (.bool zb)) rfl (by kernel_rfl) (by kernel_rfl) (by kernel_rfl) (fun _ _ _ h => h) (.inl ⟨rfl, fun _ hS => by go_simp⟩) s1 ?_
        simp only [List.getElem_toArray, List.getElem_cons_succ, List.getElem_cons_zero, Act.put, List.setIfInBounds_toArray, List.set_cons_succ, List.set_cons_zero]
        refine wpAnyH_all (rs := [11]) (by kernel_rfl) (by simp) ?_
        intro k hk
        simp only [List.mem_cons, List.mem_nil_iff, or_false] at hk
        subst hk
        refine wpOp_runw rfl rfl (wp_call_fn 18 #[.pointer (some ⟨p, 0, none⟩)] (by simp [execOp, go_sem, Act.eval, resolve, invoke, enTReg]) ?_)
        refine (HR.out _ b1).mono ?_
        rintro e u3 ⟨rfl, y3⟩
        have b3 := b1.trans (y3.mono b1.size)
        have s3 := HS.out _ b3
        refine ⟨s3, ?_⟩
        simp only [List.getElem_toArray, List.getElem_cons_succ, List.getElem_cons_zero, Act.put, List.setIfInBounds_toArray, List.set_cons_succ, List.set_cons_zero]
        refine wpAnyH_take (i := 12) (v := (.bool zb)) rfl (by kernel_rfl) (by kernel_rfl) (by kernel_rfl) (fun _ _ _ h => h) (.inl ⟨rfl, fun _ hS => by go_simp⟩) s3 ?_
        simp only [List.getElem_toArray, List.getElem_cons_succ, List.getElem_cons_zero, Act.put, List.setIfInBounds_toArray, List.set_cons_succ, List.set_cons_zero]
        refine wpAnyH_take (i := 19) (v := (.bool false)) rfl (by kernel_rfl) (by kernel_rfl) (by kernel_rfl) (fun _ _ _ h => h) (.inl ⟨rfl, fun _ hS => by cases zb <;> go_simp⟩) s3 ?_
        simp only [List.getElem_toArray, List.getElem_cons_succ, List.getElem_cons_zero, Act.put, List.setIfInBounds_toArray, List.set_cons_succ, List.set_cons_zero]
        refine wpAnyH_take (i := 20) (v := (.bool false)) rfl (by kernel_rfl) (by kernel_rfl) (by kernel_rfl) (fun _ _ _ h => h) (.inl ⟨rfl, fun _ hS => by go_simp⟩) s3 ?_
        simp only [List.getElem_toArray, List.getElem_cons_succ, List.getElem_cons_zero, Act.put, List.setIfInBounds_toArray, List.set_cons_succ, List.set_cons_zero]
        refine wpAnyH_take (i := 21) (v := (.bool false)) rfl (by kernel_rfl) (by kernel_rfl) (by kernel_rfl) (fun _ _ _ h => h) (.inl ⟨rfl, fun _ hS => rfl⟩) s3 ?_
        simp only [List.getElem_toArray, List.getElem_cons_succ, List.getElem_cons_zero, Act.put, List.setIfInBounds_toArray, List.set_cons_succ, List.set_cons_zero]
        refine wpAnyH_take (i := 22) (v := (.pointer (some ⟨p, 0, none⟩))) rfl (by kernel_rfl) (by kernel_rfl) (by kernel_rfl) (fun _ _ _ h => h) (.inl ⟨rfl, fun _ hS => rfl⟩) s3 ?_
        simp only [List.getElem_toArray, List.getElem_cons_succ, List.getElem_cons_zero, Act.put, List.setIfInBounds_toArray, List.set_cons_succ, List.set_cons_zero]
        refine wpAnyH_take (i := 24) (v := (.pointer (some ⟨q, 0, none⟩))) rfl (by kernel_rfl) (by kernel_rfl) (by kernel_rfl) (fun _ _ _ h => h) (.inl ⟨rfl, fun _ hS => rfl⟩) s3 ?_
        simp only [List.getElem_toArray, List.getElem_cons_succ, List.getElem_cons_zero, Act.put, List.setIfInBounds_toArray, List.set_cons_succ, List.set_cons_zero]
        refine wpAnyH_take (i := 25) (v := (.pointer (some ⟨q, 0, none⟩))) rfl (by kernel_rfl) (by kernel_rfl) (by kernel_rfl) (fun _ _ _ h => h) (.inl ⟨rfl, fun _ hS => by simp [execOp, go_sem, Act.eval]⟩) s3 ?_
        simp only [List.getElem_toArray, List.getElem_cons_succ, List.getElem_cons_zero, Act.put, List.setIfInBounds_toArray, List.set_cons_succ, List.set_cons_zero]
        refine wpAnyH_take (i := 26) (v := (.pointer (some ⟨q, 4, none⟩))) rfl (by kernel_rfl) (by kernel_rfl) (by kernel_rfl) (fun _ _ _ h => h) (.inl ⟨rfl, fun _ hS => by simp [execOp, go_sem, Act.eval]⟩) s3 ?_
        simp only [List.getElem_toArray, List.getElem_cons_succ, List.getElem_cons_zero, Act.put, List.setIfInBounds_toArray, List.set_cons_succ, List.set_cons_zero]
        refine wpAnyH_take (i := 27) (v := (.slice a9 S.past.length c9)) rfl (by kernel_rfl) (by kernel_rfl) (by kernel_rfl) (fun _ _ _ h => h) (.inl ⟨rfl, fun _ hS => exec_load rfl rfl (load_ts hS.2)⟩) s3 ?_
        simp only [List.getElem_toArray, List.getElem_cons_succ, List.getElem_cons_zero, Act.put, List.setIfInBounds_toArray, List.set_cons_succ, List.set_cons_zero]
        refine wpAnyH_all (rs := [23]) (by kernel_rfl) (by simp) ?_
        intro k hk
        simp only [List.mem_cons, List.mem_nil_iff, or_false] at hk
        subst hk
        refine wpOp_runw rfl rfl (wp_call_fn 21 #[.pointer (some ⟨p, 0, none⟩)] (by simp [execOp, go_sem, Act.eval, resolve, invoke, enTHis]) ?_)
        refine (HH.out _ b3).mono ?_
        rintro e u4 ⟨ah, ch, rfl, w4h, y4⟩
        have b4 := b3.trans (y4.mono b3.size)
        have s4 := HS.out _ b4
        refine ⟨s4, ?_⟩
        simp only [List.getElem_toArray, List.getElem_cons_succ, List.getElem_cons_zero, Act.put, List.setIfInBounds_toArray, List.set_cons_succ, List.set_cons_zero]
        refine wpAnyH_all (rs := [28]) (by kernel_rfl) (by simp) ?_
        intro k hk
        simp only [List.mem_cons, List.mem_nil_iff, or_false] at hk
        subst hk
        refine wpOp_runw rfl rfl (wp_call_fn 20 #[.slice ah S.past.length ch, .slice a9 S.past.length c9] (by simp [execOp, go_sem, Act.eval, resolve, invoke, enTSame]) ?_)
        refine (HSa.out _ _ b4 w4h).mono ?_
        rintro e u5 ⟨rfl, n5, hu5⟩
        have b5 : Below u2.heap.size u2 u5 := by rw [hu5]; exact below_drawn b4 n5
        have s5 := HS.out _ b5
        clear hu5
        refine ⟨s5, ?_⟩
        simp only [List.getElem_toArray, List.getElem_cons_succ, List.getElem_cons_zero, Act.put, List.setIfInBounds_toArray, List.set_cons_succ, List.set_cons_zero]
        refine wpAnyH_take (i := 29) (v := (.bool false)) rfl (by kernel_rfl) (by kernel_rfl) (by kernel_rfl) (fun _ _ _ h => h) (.inl ⟨rfl, fun _ hS => by go_simp⟩) s5 ?_
        simp only [List.getElem_toArray, List.getElem_cons_succ, List.getElem_cons_zero, Act.put, List.setIfInBounds_toArray, List.set_cons_succ, List.set_cons_zero]
        refine wpAnyH_take (i := 30) (v := (.bool false)) rfl (by kernel_rfl) (by kernel_rfl) (by kernel_rfl) (fun _ _ _ h => h) (.inl ⟨rfl, fun _ hS => by go_simp⟩) s5 ?_
        simp only [List.getElem_toArray, List.getElem_cons_succ, List.getElem_cons_zero, Act.put, List.setIfInBounds_toArray, List.set_cons_succ, List.set_cons_zero]
        refine wpAnyH_take (i := 31) (v := (.bool false)) rfl (by kernel_rfl) (by kernel_rfl) (by kernel_rfl) (fun _ _ _ h => h) (.inl ⟨rfl, fun _ hS => rfl⟩) s5 ?_
        simp only [List.getElem_toArray, List.getElem_cons_succ, List.getElem_cons_zero, Act.put, List.setIfInBounds_toArray, List.set_cons_succ, List.set_cons_zero]
        refine wpAnyH_take (i := 32) (v := (.pointer (some ⟨p, 0, none⟩))) rfl (by kernel_rfl) (by kernel_rfl) (by kernel_rfl) (fun _ _ _ h => h) (.inl ⟨rfl, fun _ hS => rfl⟩) s5 ?_
        simp only [List.getElem_toArray, List.getElem_cons_succ, List.getElem_cons_zero, Act.put, List.setIfInBounds_toArray, List.set_cons_succ, List.set_cons_zero]
        refine wpAnyH_take (i := 34) (v := (.pointer (some ⟨q, 0, none⟩))) rfl (by kernel_rfl) (by kernel_rfl) (by kernel_rfl) (fun _ _ _ h => h) (.inl ⟨rfl, fun _ hS => rfl⟩) s5 ?_
        simp only [List.getElem_toArray, List.getElem_cons_succ, List.getElem_cons_zero, Act.put, List.setIfInBounds_toArray, List.set_cons_succ, List.set_cons_zero]
        refine wpAnyH_take (i := 35) (v := (.pointer (some ⟨q, 0, none⟩))) rfl (by kernel_rfl) (by kernel_rfl) (by kernel_rfl) (fun _ _ _ h => h) (.inl ⟨rfl, fun _ hS => by simp [execOp, go_sem, Act.eval]⟩) s5 ?_
        simp only [List.getElem_toArray, List.getElem_cons_succ, List.getElem_cons_zero, Act.put, List.setIfInBounds_toArray, List.set_cons_succ, List.set_cons_zero]
        refine wpAnyH_take (i := 36) (v := (.pointer (some ⟨q, 3, none⟩))) rfl (by kernel_rfl) (by kernel_rfl) (by kernel_rfl) (fun _ _ _ h => h) (.inl ⟨rfl, fun _ hS => by simp [execOp, go_sem, Act.eval]⟩) s5 ?_
        simp only [List.getElem_toArray, List.getElem_cons_succ, List.getElem_cons_zero, Act.put, List.setIfInBounds_toArray, List.set_cons_succ, List.set_cons_zero]
        refine wpAnyH_take (i := 37) (v := (.slice an S.now.length cn)) rfl (by kernel_rfl) (by kernel_rfl) (by kernel_rfl) (fun _ _ _ h => h) (.inl ⟨rfl, fun _ hS => exec_load rfl rfl (load_ts hS.1)⟩) s5 ?_
        simp only [List.getElem_toArray, List.getElem_cons_succ, List.getElem_cons_zero, Act.put, List.setIfInBounds_toArray, List.set_cons_succ, List.set_cons_zero]
        refine wpAnyH_all (rs := [33]) (by kernel_rfl) (by simp) ?_
        intro k hk
        simp only [List.mem_cons, List.mem_nil_iff, or_false] at hk
        subst hk
        refine wpOp_runw rfl rfl (wp_call_fn 22 #[.pointer (some ⟨p, 0, none⟩)] (by simp [execOp, go_sem, Act.eval, resolve, invoke, enTNow]) ?_)
        refine (HNw.out _ b5).mono ?_
        rintro e u6 ⟨ah6, ch6, rfl, w6h, y6⟩
        have b6 := b5.trans (y6.mono b5.size)
        have s6 := HS.out _ b6
        refine ⟨s6, ?_⟩
        simp only [List.getElem_toArray, List.getElem_cons_succ, List.getElem_cons_zero, Act.put, List.setIfInBounds_toArray, List.set_cons_succ, List.set_cons_zero]
        refine wpAnyH_all (rs := [38]) (by kernel_rfl) (by simp) ?_
        intro k hk
        simp only [List.mem_cons, List.mem_nil_iff, or_false] at hk
        subst hk
        refine wpOp_runw rfl rfl (wp_call_fn 20 #[.slice ah6 S.now.length ch6, .slice an S.now.length cn] (by simp [execOp, go_sem, Act.eval, resolve, invoke, enTSame]) ?_)
        refine (HSn.out _ _ b6 w6h).mono ?_
        rintro e u7 ⟨rfl, n7, hu7⟩
        have b7 : Below u2.heap.size u2 u7 := by rw [hu7]; exact below_drawn b6 n7
        have s7 := HS.out _ b7
        clear hu7
        refine ⟨s7, ?_⟩
        simp only [List.getElem_toArray, List.getElem_cons_succ, List.getElem_cons_zero, Act.put, List.setIfInBounds_toArray, List.set_cons_succ, List.set_cons_zero]
        refine wpAnyH_take (i := 39) (v := (.bool false)) rfl (by kernel_rfl) (by kernel_rfl) (by kernel_rfl) (fun _ _ _ h => h) (.inl ⟨rfl, fun _ hS => by go_simp⟩) s7 ?_
        simp only [List.getElem_toArray, List.getElem_cons_succ, List.getElem_cons_zero, Act.put, List.setIfInBounds_toArray, List.set_cons_succ, List.set_cons_zero]
        refine wpAnyH_take (i := 40) (v := (.bool false)) rfl (by kernel_rfl) (by kernel_rfl) (by kernel_rfl) (fun _ _ _ h => h) (.inl ⟨rfl, fun _ hS => by go_simp⟩) s7 ?_
        simp only [List.getElem_toArray, List.getElem_cons_succ, List.getElem_cons_zero, Act.put, List.setIfInBounds_toArray, List.set_cons_succ, List.set_cons_zero]
        refine wpAnyH_done (by kernel_rfl) ?_ _
        have HF := hidOf2 (HJ9.out.same b7)
        clear HJ9 HS HR HRd HH HNw HSa HSn b0 b1 b3 b4 b5 b6 b7 s0 s1 s3 s4 s5 s6 s7 w4h w6h y1 y3 y4 y6 hz1 hz2
        go_wp2_with fail
        go_roundw
        case rel => exact ⟨k + 1, _, _, by omega, rfl, HF.out⟩
        case measure => simp [intOf]; omega
      · have d09 : (kd == 0) = false := by simp [h0]
        by_cases h1 : kd = 1
        · subst h1
          clear h0 d09
          have hJd : Jt p p q k w wr.drew D s := hJ.same (below_drawn (Below.refl _ _) 1)
          have hP1 := clearP hJd.pt hJd.room hL16 X.c
          have HD2 : Hid (∀ u, Jh p p q w u D s (s.clear X.c) → Calls Try.prog 12 #[.pointer (some ⟨q, 0, none⟩), .int .u16 X.c] u fun e w' => e = .returned (.bool (s.there X.c)) ∧ ∃ D', Jt p p q (k + 1) w w' D' (s.clear X.c)) := fun u j => j.clear hln hbk hft
          have HX9 : Hid (∀ z, Below p w z → z.cell? ⟨b, off + k * 8 + 1, none⟩ = some (.int .u16 X.c)) := fun z hz => by
            have := HX.out z hz 0 (.int .u16 X.c) rfl
            rwa [Nat.add_zero] at this
          have s0 := HX9.out wr.drew hJd.below
          generalize s.there X.c = cb at *
          go_upto_region 15 with fail
          refine wp_region_held (S := fun z : World => z.cell? ⟨b, off + k * 8 + 1, none⟩ = some (.int .u16 X.c)) (by kernel_rfl) ?_
          change wpAnyH _ _ _ _ _ _ _ _ wr.drew
          refine wpAnyH_take (i := 0) (v := (.pointer (some ⟨p, 0, none⟩))) rfl (by kernel_rfl) (by kernel_rfl) (by kernel_rfl) (fun _ _ _ h => h) (.inl ⟨rfl, fun _ hS => rfl⟩) s0 ?_
          simp only [List.getElem_toArray, List.getElem_cons_succ, List.getElem_cons_zero, Act.put, List.setIfInBounds_toArray, List.set_cons_succ, List.set_cons_zero]
          refine wpAnyH_take (i := 1) (v := (.slice (some ⟨b, off, none⟩) l.length cap)) rfl (by kernel_rfl) (by kernel_rfl) (by kernel_rfl) (fun _ _ _ h => h) (.inl ⟨rfl, fun _ hS => rfl⟩) s0 ?_
          simp only [List.getElem_toArray, List.getElem_cons_succ, List.getElem_cons_zero, Act.put, List.setIfInBounds_toArray, List.set_cons_succ, List.set_cons_zero]
          refine wpAnyH_take (i := 2) (v := (.int .i64 (k : Nat))) rfl (by kernel_rfl) (by kernel_rfl) (by kernel_rfl) (fun _ _ _ h => h) (.inl ⟨rfl, fun _ hS => rfl⟩) s0 ?_
          simp only [List.getElem_toArray, List.getElem_cons_succ, List.getElem_cons_zero, Act.put, List.setIfInBounds_toArray, List.set_cons_succ, List.set_cons_zero]
          refine wpAnyH_take (i := 3) (v := (.pointer (some ⟨b, off + k * 8, none⟩))) rfl (by kernel_rfl) (by kernel_rfl) (by kernel_rfl) (fun _ _ _ h => h) (.inl ⟨rfl, fun _ hS => exec_idxA16 rfl rfl rfl hkl _⟩) s0 ?_
          simp only [List.getElem_toArray, List.getElem_cons_succ, List.getElem_cons_zero, Act.put, List.setIfInBounds_toArray, List.set_cons_succ, List.set_cons_zero]
          refine wpAnyH_take (i := 4) (v := (.pointer (some ⟨b, off + k * 8 + 1, none⟩))) rfl (by kernel_rfl) (by kernel_rfl) (by kernel_rfl) (fun _ _ _ h => h) (.inl ⟨rfl, fun _ hS => by simp [execOp, go_sem, Act.eval]⟩) s0 ?_
          simp only [List.getElem_toArray, List.getElem_cons_succ, List.getElem_cons_zero, Act.put, List.setIfInBounds_toArray, List.set_cons_succ, List.set_cons_zero]
          refine wpAnyH_take (i := 5) (v := (.pointer (some ⟨b, off + k * 8 + 1, none⟩))) rfl (by kernel_rfl) (by kernel_rfl) (by kernel_rfl) (fun _ _ _ h => h) (.inl ⟨rfl, fun _ hS => by simp [execOp, go_sem, Act.eval]⟩) s0 ?_
          simp only [List.getElem_toArray, List.getElem_cons_succ, List.getElem_cons_zero, Act.put, List.setIfInBounds_toArray, List.set_cons_succ, List.set_cons_zero]
          refine wpAnyH_take (i := 6) (v := (.int .u16 (X.c : Nat))) rfl (by kernel_rfl) (by kernel_rfl) (by kernel_rfl) (fun _ _ _ h => h) (.inl ⟨rfl, fun _ hS => exec_load rfl rfl (load_u16 _ _ _ _ hS)⟩) s0 ?_
          simp only [List.getElem_toArray, List.getElem_cons_succ, List.getElem_cons_zero, Act.put, List.setIfInBounds_toArray, List.set_cons_succ, List.set_cons_zero]
          refine wpAnyH_take (i := 8) (v := (.pointer (some ⟨q, 0, none⟩))) rfl (by kernel_rfl) (by kernel_rfl) (by kernel_rfl) (fun _ _ _ h => h) (.inl ⟨rfl, fun _ hS => rfl⟩) s0 ?_
          simp only [List.getElem_toArray, List.getElem_cons_succ, List.getElem_cons_zero, Act.put, List.setIfInBounds_toArray, List.set_cons_succ, List.set_cons_zero]
          refine wpAnyH_take (i := 9) (v := (.slice (some ⟨b, off, none⟩) l.length cap)) rfl (by kernel_rfl) (by kernel_rfl) (by kernel_rfl) (fun _ _ _ h => h) (.inl ⟨rfl, fun _ hS => rfl⟩) s0 ?_
          simp only [List.getElem_toArray, List.getElem_cons_succ, List.getElem_cons_zero, Act.put, List.setIfInBounds_toArray, List.set_cons_succ, List.set_cons_zero]
          refine wpAnyH_take (i := 10) (v := (.int .i64 (k : Nat))) rfl (by kernel_rfl) (by kernel_rfl) (by kernel_rfl) (fun _ _ _ h => h) (.inl ⟨rfl, fun _ hS => rfl⟩) s0 ?_
          simp only [List.getElem_toArray, List.getElem_cons_succ, List.getElem_cons_zero, Act.put, List.setIfInBounds_toArray, List.set_cons_succ, List.set_cons_zero]
          refine wpAnyH_take (i := 11) (v := (.pointer (some ⟨b, off + k * 8, none⟩))) rfl (by kernel_rfl) (by kernel_rfl) (by kernel_rfl) (fun _ _ _ h => h) (.inl ⟨rfl, fun _ hS => exec_idxA16 rfl rfl rfl hkl _⟩) s0 ?_
          simp only [List.getElem_toArray, List.getElem_cons_succ, List.getElem_cons_zero, Act.put, List.setIfInBounds_toArray, List.set_cons_succ, List.set_cons_zero]
          refine wpAnyH_take (i := 12) (v := (.pointer (some ⟨b, off + k * 8 + 1, none⟩))) rfl (by kernel_rfl) (by kernel_rfl) (by kernel_rfl) (fun _ _ _ h => h) (.inl ⟨rfl, fun _ hS => by simp [execOp, go_sem, Act.eval]⟩) s0 ?_
          simp only [List.getElem_toArray, List.getElem_cons_succ, List.getElem_cons_zero, Act.put, List.setIfInBounds_toArray, List.set_cons_succ, List.set_cons_zero]
          refine wpAnyH_take (i := 13) (v := (.pointer (some ⟨b, off + k * 8 + 1, none⟩))) rfl (by kernel_rfl) (by kernel_rfl) (by kernel_rfl) (fun _ _ _ h => h) (.inl ⟨rfl, fun _ hS => by simp [execOp, go_sem, Act.eval]⟩) s0 ?_
          simp only [List.getElem_toArray, List.getElem_cons_succ, List.getElem_cons_zero, Act.put, List.setIfInBounds_toArray, List.set_cons_succ, List.set_cons_zero]
          refine wpAnyH_take (i := 14) (v := (.int .u16 (X.c : Nat))) rfl (by kernel_rfl) (by kernel_rfl) (by kernel_rfl) (fun _ _ _ h => h) (.inl ⟨rfl, fun _ hS => exec_load rfl rfl (load_u16 _ _ _ _ hS)⟩) s0 ?_
          simp only [List.getElem_toArray, List.getElem_cons_succ, List.getElem_cons_zero, Act.put, List.setIfInBounds_toArray, List.set_cons_succ, List.set_cons_zero]
          refine wpAnyH_all (rs := [7]) (by kernel_rfl) (by simp) ?_
          intro k hk
          simp only [List.mem_cons, List.mem_nil_iff, or_false] at hk
          subst hk
          refine wpOp_runw rfl rfl (wp_call_fn 11 #[.pointer (some ⟨p, 0, none⟩), .int .u16 (X.c : Nat)] (by simp [execOp, go_sem, Act.eval, resolve, invoke, enTCl]) ?_)
          refine hP1.mono ?_
          rintro e u1 ⟨rfl, t1, k1⟩
          have j1 := hJd.first t1 k1
          have s1 := HX9.out u1 j1.below
          have hD2 := HD2.out u1 j1
          refine ⟨s1, ?_⟩
          simp only [List.getElem_toArray, List.getElem_cons_succ, List.getElem_cons_zero, Act.put, List.setIfInBounds_toArray, List.set_cons_succ, List.set_cons_zero]
          refine wpAnyH_all (rs := [15]) (by kernel_rfl) (by simp) ?_
          intro k hk
          simp only [List.mem_cons, List.mem_nil_iff, or_false] at hk
          subst hk
          refine wpOp_runw rfl rfl (wp_call_fn 12 #[.pointer (some ⟨q, 0, none⟩), .int .u16 (X.c : Nat)] (by simp [execOp, go_sem, Act.eval, resolve, invoke, enTDCl]) ?_)
          refine hD2.mono ?_
          rintro e u2 ⟨rfl, D2, j2⟩
          have s2 := HX9.out u2 j2.below
          refine ⟨s2, ?_⟩
          simp only [List.getElem_toArray, List.getElem_cons_succ, List.getElem_cons_zero, Act.put, List.setIfInBounds_toArray, List.set_cons_succ, List.set_cons_zero]
          refine wpAnyH_take (i := 16) (v := (.bool true)) rfl (by kernel_rfl) (by kernel_rfl) (by kernel_rfl) (fun _ _ _ h => h) (.inl ⟨rfl, fun _ hS => by go_simp⟩) s2 ?_
          simp only [List.getElem_toArray, List.getElem_cons_succ, List.getElem_cons_zero, Act.put, List.setIfInBounds_toArray, List.set_cons_succ, List.set_cons_zero]
          refine wpAnyH_take (i := 17) (v := (.bool true)) rfl (by kernel_rfl) (by kernel_rfl) (by kernel_rfl) (fun _ _ _ h => h) (.inl ⟨rfl, fun _ hS => rfl⟩) s2 ?_
          simp only [List.getElem_toArray, List.getElem_cons_succ, List.getElem_cons_zero, Act.put, List.setIfInBounds_toArray, List.set_cons_succ, List.set_cons_zero]
          refine wpAnyH_done (by kernel_rfl) ?_ _
          have HJ := hidOf2 (show ∃ D' S, Jt p p q (k + 1) w u2 D' S from ⟨_, _, j2⟩)
          clear hJd hP1 HD2 HX9 HX s0 s1 s2 t1 k1 j1 hD2 j2 hJ r0 hln hft hh hqq hL16
          go_upto_region 25 with fail
          obtain ⟨D9, S, J⟩ := HJ.out
          obtain ⟨vn, vo, vf, hdv⟩ := J.dt
          obtain ⟨an, cn, hvn⟩ := hdv.rn.shape
          subst hvn
          obtain ⟨a9, c9, hvo⟩ := hdv.ro.shape
          subst hvo
          have hl1 := J.len
          have hl9 : S.now.length ≤ 2305843009213693951 := by omega
          have hl8 : S.now.length * 8 ≤ 140737488355328 := by omega
          have hp9 : S.past.length ≤ 2305843009213693951 := by have := J.fit; have := J.pt.ok.h2; unfold Te.Fit at *; omega
          have HS : Hid (∀ z, Below u2.heap.size u2 z → z.cell? ⟨q, 3, none⟩ = some (.slice an S.now.length cn) ∧ z.cell? ⟨q, 4, none⟩ = some (.slice a9 S.past.length c9)) := fun z hz => ⟨(hdv.below hz).cells.2.2.2.1, (hdv.below hz).cells.2.2.2.2.1⟩
          have HR : Hid (∀ z, Below u2.heap.size u2 z → Calls Try.prog 18 #[.pointer (some ⟨p, 0, none⟩)] z fun e w' => e = .returned (.int .u8 (reg S.now)) ∧ Below z.heap.size z w') := fun z hz => regP (J.same hz).pt hl9
          have HRd : Hid (∀ z, Below u2.heap.size u2 z → Calls Try.prog 19 #[.pointer (some ⟨q, 0, none⟩)] z fun e w' => e = .returned (.int .u8 (reg S.now)) ∧ w' = z) := fun z hz => dreg_any (hdv.below hz) hl9
          have HH := hidOf2 (fun (z : World) (hz : Below u2.heap.size u2 z) => histP (J.same hz).pt)
          have HNw := hidOf2 (fun (z : World) (hz : Below u2.heap.size u2 z) => nowP (J.same hz).pt hl8)
          have HSa : Hid (∀ (z : World) (va : Value), Below u2.heap.size u2 z → Wide 7 Tr.cs z va S.past → Calls Try.prog 20 #[va, .slice a9 S.past.length c9] z fun e w' => e = .returned (.bool true) ∧ ∃ n, w' = z.drewN n) := fun z va hz ha => same_any va _ S.past z ha (hdv.below hz).ro hp9
          have HSn : Hid (∀ (z : World) (va : Value), Below u2.heap.size u2 z → Wide 7 Tr.cs z va S.now → Calls Try.prog 20 #[va, .slice an S.now.length cn] z fun e w' => e = .returned (.bool true) ∧ ∃ n, w' = z.drewN n) := fun z va hz ha => same_any va _ S.now z ha (hdv.below hz).rn hl9
          obtain ⟨zb, hzb⟩ : ∃ c : Bool, decide (S.now = []) = c := ⟨_, rfl⟩
          have hz1 : (((reg S.now : Nat) : Int) == 0) = zb := by
            rw [← hzb, Bool.eq_iff_iff, beq_iff_eq, decide_eq_true_eq, ← reg_zero]
            omega
          have hz2 : (((S.now.length : Nat) : Int) == 0) = zb := by
            rw [← hzb, Bool.eq_iff_iff, beq_iff_eq, decide_eq_true_eq, ← List.length_eq_zero_iff]
            omega
          have HJ9 := hidOf2 J
          have b0 : Below u2.heap.size u2 u2.drew := below_drawn (Below.refl _ _) 1
          have s0 := HS.out _ b0
          generalize reg S.now = RG at *
          clear hzb hdv J HJ
          refine wp_region_held (S := fun z : World => z.cell? ⟨q, 3, none⟩ = some (.slice an S.now.length cn) ∧ z.cell? ⟨q, 4, none⟩ = some (.slice a9 S.past.length c9)) (by kernel_rfl) ?_
          change wpAnyH _ _ _ _ _ _ _ _ u2.drew
          refine wpAnyH_take (i := 0) (v := (.bool true)) rfl (by kernel_rfl) (by kernel_rfl) (by kernel_rfl) (fun _ _ _ h => h) (.inl ⟨rfl, fun _ hS => rfl⟩) s0 ?_
          simp only [List.getElem_toArray, List.getElem_cons_succ, List.getElem_cons_zero, Act.put, List.setIfInBounds_toArray, List.set_cons_succ, List.set_cons_zero]
          refine wpAnyH_take (i := 1) (v := (.bool false)) rfl (by kernel_rfl) (by kernel_rfl) (by kernel_rfl) (fun _ _ _ h => h) (.inl ⟨rfl, fun _ hS => by go_simp⟩) s0 ?_
          simp only [List.getElem_toArray, List.getElem_cons_succ, List.getElem_cons_zero, Act.put, List.setIfInBounds_toArray, List.set_cons_succ, List.set_cons_zero]
          refine wpAnyH_take (i := 2) (v := (.bool false)) rfl (by kernel_rfl) (by kernel_rfl) (by kernel_rfl) (fun _ _ _ h => h) (.inl ⟨rfl, fun _ hS => rfl⟩) s0 ?_
          simp only [List.getElem_toArray, List.getElem_cons_succ, List.getElem_cons_zero, Act.put, List.setIfInBounds_toArray, List.set_cons_succ, List.set_cons_zero]
          refine wpAnyH_take (i := 3) (v := (.pointer (some ⟨p, 0, none⟩))) rfl (by kernel_rfl) (by kernel_rfl) (by kernel_rfl) (fun _ _ _ h => h) (.inl ⟨rfl, fun _ hS => rfl⟩) s0 ?_
          simp only [List.getElem_toArray, List.getElem_cons_succ, List.getElem_cons_zero, Act.put, List.setIfInBounds_toArray, List.set_cons_succ, List.set_cons_zero]
          refine wpAnyH_take (i := 5) (v := (.pointer (some ⟨q, 0, none⟩))) rfl (by kernel_rfl) (by kernel_rfl) (by kernel_rfl) (fun _ _ _ h => h) (.inl ⟨rfl, fun _ hS => rfl⟩) s0 ?_
          simp only [List.getElem_toArray, List.getElem_cons_succ, List.getElem_cons_zero, Act.put, List.setIfInBounds_toArray, List.set_cons_succ, List.set_cons_zero]
          refine wpAnyH_all (rs := [4]) (by kernel_rfl) (by simp) ?_
          intro k hk
          simp only [List.mem_cons, List.mem_nil_iff, or_false] at hk
          subst hk
          refine wpOp_runw rfl rfl (wp_call_fn 18 #[.pointer (some ⟨p, 0, none⟩)] (by simp [execOp, go_sem, Act.eval, resolve, invoke, enTReg]) ?_)
          refine (HR.out _ b0).mono ?_
          rintro e u1 ⟨rfl, y1⟩
          have b1 := b0.trans (y1.mono b0.size)
          have s1 := HS.out _ b1
          refine ⟨s1, ?_⟩
          simp only [List.getElem_toArray, List.getElem_cons_succ, List.getElem_cons_zero, Act.put, List.setIfInBounds_toArray, List.set_cons_succ, List.set_cons_zero]
          refine wpAnyH_all (rs := [6]) (by kernel_rfl) (by simp) ?_
          intro k hk
          simp only [List.mem_cons, List.mem_nil_iff, or_false] at hk
          subst hk
          refine wpOp_runw rfl rfl (wp_call_fn 19 #[.pointer (some ⟨q, 0, none⟩)] (by simp [execOp, go_sem, Act.eval, resolve, invoke, enTDReg]) ?_)
          refine (HRd.out _ b1).mono ?_
          rintro e u ⟨rfl, hu⟩
          rw [hu]
          clear hu
          refine ⟨s1, ?_⟩
          simp only [List.getElem_toArray, List.getElem_cons_succ, List.getElem_cons_zero, Act.put, List.setIfInBounds_toArray, List.set_cons_succ, List.set_cons_zero]
          refine wpAnyH_take (i := 7) (v := (.bool false)) rfl (by kernel_rfl) (by kernel_rfl) (by kernel_rfl) (fun _ _ _ h => h) (.inl ⟨rfl, fun _ hS => by go_simp⟩) s1 ?_
          simp only [List.getElem_toArray, List.getElem_cons_succ, List.getElem_cons_zero, Act.put, List.setIfInBounds_toArray, List.set_cons_succ, List.set_cons_zero]
          refine wpAnyH_take (i := 8) (v := (.bool false)) rfl (by kernel_rfl) (by kernel_rfl) (by kernel_rfl) (fun _ _ _ h => h) (.inl ⟨rfl, fun _ hS => by go_simp⟩) s1 ?_
          simp only [List.getElem_toArray, List.getElem_cons_succ, List.getElem_cons_zero, Act.put, List.setIfInBounds_toArray, List.set_cons_succ, List.set_cons_zero]
          refine wpAnyH_take (i := 9) (v := (.bool false)) rfl (by kernel_rfl) (by kernel_rfl) (by kernel_rfl) (fun _ _ _ h => h) (.inl ⟨rfl, fun _ hS => rfl⟩) s1 ?_
          simp only [List.getElem_toArray, List.getElem_cons_succ, List.getElem_cons_zero, Act.put, List.setIfInBounds_toArray, List.set_cons_succ, List.set_cons_zero]
          refine wpAnyH_take (i := 10) (v := (.pointer (some ⟨p, 0, none⟩))) rfl (by kernel_rfl) (by kernel_rfl) (by kernel_rfl) (fun _ _ _ h => h) (.inl ⟨rfl, fun _ hS => rfl⟩) s1 ?_
          simp only [List.getElem_toArray, List.getElem_cons_succ, List.getElem_cons_zero, Act.put, List.setIfInBounds_toArray, List.set_cons_succ, List.set_cons_zero]
          refine wpAnyH_take (i := 13) (v := (.pointer (some ⟨q, 0, none⟩))) rfl (by kernel_rfl) (by kernel_rfl) (by kernel_rfl) (fun _ _ _ h => h) (.inl ⟨rfl, fun _ hS => rfl⟩) s1 ?_
          simp only [List.getElem_toArray, List.getElem_cons_succ, List.getElem_cons_zero, Act.put, List.setIfInBounds_toArray, List.set_cons_succ, List.set_cons_zero]
          refine wpAnyH_take (i := 14) (v := (.pointer (some ⟨q, 0, none⟩))) rfl (by kernel_rfl) (by kernel_rfl) (by kernel_rfl) (fun _ _ _ h => h) (.inl ⟨rfl, fun _ hS => by simp [execOp, go_sem, Act.eval]⟩) s1 ?_
          simp only [List.getElem_toArray, List.getElem_cons_succ, List.getElem_cons_zero, Act.put, List.setIfInBounds_toArray, List.set_cons_succ, List.set_cons_zero]
          refine wpAnyH_take (i := 15) (v := (.pointer (some ⟨q, 3, none⟩))) rfl (by kernel_rfl) (by kernel_rfl) (by kernel_rfl) (fun _ _ _ h => h) (.inl ⟨rfl, fun _ hS => by simp [execOp, go_sem, Act.eval]⟩) s1 ?_
          simp only [List.getElem_toArray, List.getElem_cons_succ, List.getElem_cons_zero, Act.put, List.setIfInBounds_toArray, List.set_cons_succ, List.set_cons_zero]
          refine wpAnyH_take (i := 16) (v := (.slice an S.now.length cn)) rfl (by kernel_rfl) (by kernel_rfl) (by kernel_rfl) (fun _ _ _ h => h) (.inl ⟨rfl, fun _ hS => exec_load rfl rfl (load_ts hS.1)⟩) s1 ?_
          simp only [List.getElem_toArray, List.getElem_cons_succ, List.getElem_cons_zero, Act.put, List.setIfInBounds_toArray, List.set_cons_succ, List.set_cons_zero]
          refine wpAnyH_take (i := 17) (v := (.int .i64 (S.now.length : Nat))) rfl (by kernel_rfl) (by kernel_rfl) (by kernel_rfl) (fun _ _ _ h => h) (.inl ⟨rfl, fun _ hS => exec_lenT rfl rfl _⟩) s1 ?_
          simp only [List.getElem_toArray, List.getElem_cons_succ, List.getElem_cons_zero, Act.put, List.setIfInBounds_toArray, List.set_cons_succ, List.set_cons_zero]
          refine wpAnyH_take (i := 18) (v := (.bool zb)) rfl (by kernel_rfl) (by kernel_rfl) (by kernel_rfl) (fun _ _ _ h => h) (.inl ⟨rfl, fun _ hS => by go_simp⟩) s1 ?_
          simp only [List.getElem_toArray, List.getElem_cons_succ, List.getElem_cons_zero, Act.put, List.setIfInBounds_toArray, List.set_cons_succ, List.set_cons_zero]
          refine wpAnyH_all (rs := [11]) (by kernel_rfl) (by simp) ?_
          intro k hk
          simp only [List.mem_cons, List.mem_nil_iff, or_false] at hk
          subst hk
          refine wpOp_runw rfl rfl (wp_call_fn 18 #[.pointer (some ⟨p, 0, none⟩)] (by simp [execOp, go_sem, Act.eval, resolve, invoke, enTReg]) ?_)
          refine (HR.out _ b1).mono ?_
          rintro e u3 ⟨rfl, y3⟩
          have b3 := b1.trans (y3.mono b1.size)
          have s3 := HS.out _ b3
          refine ⟨s3, ?_⟩
          simp only [List.getElem_toArray, List.getElem_cons_succ, List.getElem_cons_zero, Act.put, List.setIfInBounds_toArray, List.set_cons_succ, List.set_cons_zero]
          refine wpAnyH_take (i := 12) (v := (.bool zb)) rfl (by kernel_rfl) (by kernel_rfl) (by kernel_rfl) (fun _ _ _ h => h) (.inl ⟨rfl, fun _ hS => by go_simp⟩) s3 ?_
          simp only [List.getElem_toArray, List.getElem_cons_succ, List.getElem_cons_zero, Act.put, List.setIfInBounds_toArray, List.set_cons_succ, List.set_cons_zero]
          refine wpAnyH_take (i := 19) (v := (.bool false)) rfl (by kernel_rfl) (by kernel_rfl) (by kernel_rfl) (fun _ _ _ h => h) (.inl ⟨rfl, fun _ hS => by cases zb <;> go_simp⟩) s3 ?_
          simp only [List.getElem_toArray, List.getElem_cons_succ, List.getElem_cons_zero, Act.put, List.setIfInBounds_toArray, List.set_cons_succ, List.set_cons_zero]
          refine wpAnyH_take (i := 20) (v := (.bool false)) rfl (by kernel_rfl) (by kernel_rfl) (by kernel_rfl) (fun _ _ _ h => h) (.inl ⟨rfl, fun _ hS => by go_simp⟩) s3 ?_
          simp only [List.getElem_toArray, List.getElem_cons_succ, List.getElem_cons_zero, Act.put, List.setIfInBounds_toArray, List.set_cons_succ, List.set_cons_zero]
          refine wpAnyH_take (i := 21) (v := (.bool false)) rfl (by kernel_rfl) (by kernel_rfl) (by kernel_rfl) (fun _ _ _ h => h) (.inl ⟨rfl, fun _ hS => rfl⟩) s3 ?_
          simp only [List.getElem_toArray, List.getElem_cons_succ, List.getElem_cons_zero, Act.put, List.setIfInBounds_toArray, List.set_cons_succ, List.set_cons_zero]
          refine wpAnyH_take (i := 22) (v := (.pointer (some ⟨p, 0, none⟩))) rfl (by kernel_rfl) (by kernel_rfl) (by kernel_rfl) (fun _ _ _ h => h) (.inl ⟨rfl, fun _ hS => rfl⟩) s3 ?_
          simp only [List.getElem_toArray, List.getElem_cons_succ, List.getElem_cons_zero, Act.put, List.setIfInBounds_toArray, List.set_cons_succ, List.set_cons_zero]
          refine wpAnyH_take (i := 24) (v := (.pointer (some ⟨q, 0, none⟩))) rfl (by kernel_rfl) (by kernel_rfl) (by kernel_rfl) (fun _ _ _ h => h) (.inl ⟨rfl, fun _ hS => rfl⟩) s3 ?_
          simp only [List.getElem_toArray, List.getElem_cons_succ, List.getElem_cons_zero, Act.put, List.setIfInBounds_toArray, List.set_cons_succ, List.set_cons_zero]
          refine wpAnyH_take (i := 25) (v := (.pointer (some ⟨q, 0, none⟩))) rfl (by kernel_rfl) (by kernel_rfl) (by kernel_rfl) (fun _ _ _ h => h) (.inl ⟨rfl, fun _ hS => by simp [execOp, go_sem, Act.eval]⟩) s3 ?_
          simp only [List.getElem_toArray, List.getElem_cons_succ, List.getElem_cons_zero, Act.put, List.setIfInBounds_toArray, List.set_cons_succ, List.set_cons_zero]
          refine wpAnyH_take (i := 26) (v := (.pointer (some ⟨q, 4, none⟩))) rfl (by kernel_rfl) (by kernel_rfl) (by kernel_rfl) (fun _ _ _ h => h) (.inl ⟨rfl, fun _ hS => by simp [execOp, go_sem, Act.eval]⟩) s3 ?_
          simp only [List.getElem_toArray, List.getElem_cons_succ, List.getElem_cons_zero, Act.put, List.setIfInBounds_toArray, List.set_cons_succ, List.set_cons_zero]
          refine wpAnyH_take (i := 27) (v := (.slice a9 S.past.length c9)) rfl (by kernel_rfl) (by kernel_rfl) (by kernel_rfl) (fun _ _ _ h => h) (.inl ⟨rfl, fun _ hS => exec_load rfl rfl (load_ts hS.2)⟩) s3 ?_
          simp only [List.getElem_toArray, List.getElem_cons_succ, List.getElem_cons_zero, Act.put, List.setIfInBounds_toArray, List.set_cons_succ, List.set_cons_zero]
          refine wpAnyH_all (rs := [23]) (by kernel_rfl) (by simp) ?_
          intro k hk
          simp only [List.mem_cons, List.mem_nil_iff, or_false] at hk
          subst hk
          refine wpOp_runw rfl rfl (wp_call_fn 21 #[.pointer (some ⟨p, 0, none⟩)] (by simp [execOp, go_sem, Act.eval, resolve, invoke, enTHis]) ?_)
          refine (HH.out _ b3).mono ?_
          rintro e u4 ⟨ah, ch, rfl, w4h, y4⟩
          have b4 := b3.trans (y4.mono b3.size)
          have s4 := HS.out _ b4
          refine ⟨s4, ?_⟩
          simp only [List.getElem_toArray, List.getElem_cons_succ, List.getElem_cons_zero, Act.put, List.setIfInBounds_toArray, List.set_cons_succ, List.set_cons_zero]
          refine wpAnyH_all (rs := [28]) (by kernel_rfl) (by simp) ?_
          intro k hk
          simp only [List.mem_cons, List.mem_nil_iff, or_false] at hk
          subst hk
          refine wpOp_runw rfl rfl (wp_call_fn 20 #[.slice ah S.past.length ch, .slice a9 S.past.length c9] (by simp [execOp, go_sem, Act.eval, resolve, invoke, enTSame]) ?_)
          refine (HSa.out _ _ b4 w4h).mono ?_
          rintro e u5 ⟨rfl, n5, hu5⟩
          have b5 : Below u2.heap.size u2 u5 := by rw [hu5]; exact below_drawn b4 n5
          have s5 := HS.out _ b5
          clear hu5
          refine ⟨s5, ?_⟩
          simp only [List.getElem_toArray, List.getElem_cons_succ, List.getElem_cons_zero, Act.put, List.setIfInBounds_toArray, List.set_cons_succ, List.set_cons_zero]
          refine wpAnyH_take (i := 29) (v := (.bool false)) rfl (by kernel_rfl) (by kernel_rfl) (by kernel_rfl) (fun _ _ _ h => h) (.inl ⟨rfl, fun _ hS => by go_simp⟩) s5 ?_
          simp only [List.getElem_toArray, List.getElem_cons_succ, List.getElem_cons_zero, Act.put, List.setIfInBounds_toArray, List.set_cons_succ, List.set_cons_zero]
          refine wpAnyH_take (i := 30) (v := (.bool false)) rfl (by kernel_rfl) (by kernel_rfl) (by kernel_rfl) (fun _ _ _ h => h) (.inl ⟨rfl, fun _ hS => by go_simp⟩) s5 ?_
          simp only [List.getElem_toArray, List.getElem_cons_succ, List.getElem_cons_zero, Act.put, List.setIfInBounds_toArray, List.set_cons_succ, List.set_cons_zero]
          refine wpAnyH_take (i := 31) (v := (.bool false)) rfl (by kernel_rfl) (by kernel_rfl) (by kernel_rfl) (fun _ _ _ h => h) (.inl ⟨rfl, fun _ hS => rfl⟩) s5 ?_
          simp only [List.getElem_toArray, List.getElem_cons_succ, List.getElem_cons_zero, Act.put, List.setIfInBounds_toArray, List.set_cons_succ, List.set_cons_zero]
          refine wpAnyH_take (i := 32) (v := (.pointer (some ⟨p, 0, none⟩))) rfl (by kernel_rfl) (by kernel_rfl) (by kernel_rfl) (fun _ _ _ h => h) (.inl ⟨rfl, fun _ hS => rfl⟩) s5 ?_
          simp only [List.getElem_toArray, List.getElem_cons_succ, List.getElem_cons_zero, Act.put, List.setIfInBounds_toArray, List.set_cons_succ, List.set_cons_zero]
          refine wpAnyH_take (i := 34) (v := (.pointer (some ⟨q, 0, none⟩))) rfl (by kernel_rfl) (by kernel_rfl) (by kernel_rfl) (fun _ _ _ h => h) (.inl ⟨rfl, fun _ hS => rfl⟩) s5 ?_
          simp only [List.getElem_toArray, List.getElem_cons_succ, List.getElem_cons_zero, Act.put, List.setIfInBounds_toArray, List.set_cons_succ, List.set_cons_zero]
          refine wpAnyH_take (i := 35) (v := (.pointer (some ⟨q, 0, none⟩))) rfl (by kernel_rfl) (by kernel_rfl) (by kernel_rfl) (fun _ _ _ h => h) (.inl ⟨rfl, fun _ hS => by simp [execOp, go_sem, Act.eval]⟩) s5 ?_
          simp only [List.getElem_toArray, List.getElem_cons_succ, List.getElem_cons_zero, Act.put, List.setIfInBounds_toArray, List.set_cons_succ, List.set_cons_zero]
          refine wpAnyH_take (i := 36) (v := (.pointer (some ⟨q, 3, none⟩))) rfl (by kernel_rfl) (by kernel_rfl) (by kernel_rfl) (fun _ _ _ h => h) (.inl ⟨rfl, fun _ hS => by simp [execOp, go_sem, Act.eval]⟩) s5 ?_
          simp only [List.getElem_toArray, List.getElem_cons_succ, List.getElem_cons_zero, Act.put, List.setIfInBounds_toArray, List.set_cons_succ, List.set_cons_zero]
          refine wpAnyH_take (i := 37) (v := (.slice an S.now.length cn)) rfl (by kernel_rfl) (by kernel_rfl) (by kernel_rfl) (fun _ _ _ h => h) (.inl ⟨rfl, fun _ hS => exec_load rfl rfl (load_ts hS.1)⟩) s5 ?_
          simp only [List.getElem_toArray, List.getElem_cons_succ, List.getElem_cons_zero, Act.put, List.setIfInBounds_toArray, List.set_cons_succ, List.set_cons_zero]
          refine wpAnyH_all (rs := [33]) (by kernel_rfl) (by simp) ?_
          intro k hk
          simp only [List.mem_cons, List.mem_nil_iff, or_false] at hk
          subst hk
          refine wpOp_runw rfl rfl (wp_call_fn 22 #[.pointer (some ⟨p, 0, none⟩)] (by simp [execOp, go_sem, Act.eval, resolve, invoke, enTNow]) ?_)
          refine (HNw.out _ b5).mono ?_
          rintro e u6 ⟨ah6, ch6, rfl, w6h, y6⟩
          have b6 := b5.trans (y6.mono b5.size)
          have s6 := HS.out _ b6
          refine ⟨s6, ?_⟩
          simp only [List.getElem_toArray, List.getElem_cons_succ, List.getElem_cons_zero, Act.put, List.setIfInBounds_toArray, List.set_cons_succ, List.set_cons_zero]
          refine wpAnyH_all (rs := [38]) (by kernel_rfl) (by simp) ?_
          intro k hk
          simp only [List.mem_cons, List.mem_nil_iff, or_false] at hk
          subst hk
          refine wpOp_runw rfl rfl (wp_call_fn 20 #[.slice ah6 S.now.length ch6, .slice an S.now.length cn] (by simp [execOp, go_sem, Act.eval, resolve, invoke, enTSame]) ?_)
          refine (HSn.out _ _ b6 w6h).mono ?_
          rintro e u7 ⟨rfl, n7, hu7⟩
          have b7 : Below u2.heap.size u2 u7 := by rw [hu7]; exact below_drawn b6 n7
          have s7 := HS.out _ b7
          clear hu7
          refine ⟨s7, ?_⟩
          simp only [List.getElem_toArray, List.getElem_cons_succ, List.getElem_cons_zero, Act.put, List.setIfInBounds_toArray, List.set_cons_succ, List.set_cons_zero]
          refine wpAnyH_take (i := 39) (v := (.bool false)) rfl (by kernel_rfl) (by kernel_rfl) (by kernel_rfl) (fun _ _ _ h => h) (.inl ⟨rfl, fun _ hS => by go_simp⟩) s7 ?_
          simp only [List.getElem_toArray, List.getElem_cons_succ, List.getElem_cons_zero, Act.put, List.setIfInBounds_toArray, List.set_cons_succ, List.set_cons_zero]
          refine wpAnyH_take (i := 40) (v := (.bool false)) rfl (by kernel_rfl) (by kernel_rfl) (by kernel_rfl) (fun _ _ _ h => h) (.inl ⟨rfl, fun _ hS => by go_simp⟩) s7 ?_
          simp only [List.getElem_toArray, List.getElem_cons_succ, List.getElem_cons_zero, Act.put, List.setIfInBounds_toArray, List.set_cons_succ, List.set_cons_zero]
          refine wpAnyH_done (by kernel_rfl) ?_ _
          have HF := hidOf2 (HJ9.out.same b7)
          clear HJ9 HS HR HRd HH HNw HSa HSn b0 b1 b3 b4 b5 b6 b7 s0 s1 s3 s4 s5 s6 s7 w4h w6h y1 y3 y4 y6 hz1 hz2
          go_wp2_with fail
          go_roundw
          case rel => exact ⟨k + 1, _, _, by omega, rfl, HF.out⟩
          case measure => simp [intOf]; omega
        · have d19 : (kd == 1) = false := by simp [h1]
          by_cases h2 : kd = 2
          · subst h2
            clear h0 d09 h1 d19
            have hP1 := tickP hJ.pt
            have HD2 : Hid (∀ u, Jh p p q w u D s s.tick → Calls Try.prog 14 #[.pointer (some ⟨q, 0, none⟩)] u fun e w' => e = .returned (.bool s.tick.may) ∧ ∃ D', Jt p p q (k + 1) w w' D' s.tick) := fun u j => j.tick hln hft hqq
            have HJ1 := hidOf2 hJ
            generalize s.tick.may = cb at *
            clear hJ r0 HX hln hft hh hqq hL16
            go_upto_region 25 with (first | (go_at_call 13; refine hP1.mono ?_; rintro e u1 ⟨rfl, t1, k1⟩; have hD2 := HD2.out u1 (HJ1.out.first t1 k1); clear t1 k1) | (go_at_call 14; refine hD2.mono ?_; rintro e u2 ⟨rfl, D2, j2⟩))
            have HJ := hidOf2 (show ∃ D' S, Jt p p q (k + 1) w u2 D' S from ⟨_, _, j2⟩)
            clear hP1 HD2 HJ1 hD2 j2
            obtain ⟨D9, S, J⟩ := HJ.out
            obtain ⟨vn, vo, vf, hdv⟩ := J.dt
            obtain ⟨an, cn, hvn⟩ := hdv.rn.shape
            subst hvn
            obtain ⟨a9, c9, hvo⟩ := hdv.ro.shape
            subst hvo
            have hl1 := J.len
            have hl9 : S.now.length ≤ 2305843009213693951 := by omega
            have hl8 : S.now.length * 8 ≤ 140737488355328 := by omega
            have hp9 : S.past.length ≤ 2305843009213693951 := by have := J.fit; have := J.pt.ok.h2; unfold Te.Fit at *; omega
            have HS : Hid (∀ z, Below u2.heap.size u2 z → z.cell? ⟨q, 3, none⟩ = some (.slice an S.now.length cn) ∧ z.cell? ⟨q, 4, none⟩ = some (.slice a9 S.past.length c9)) := fun z hz => ⟨(hdv.below hz).cells.2.2.2.1, (hdv.below hz).cells.2.2.2.2.1⟩
            have HR : Hid (∀ z, Below u2.heap.size u2 z → Calls Try.prog 18 #[.pointer (some ⟨p, 0, none⟩)] z fun e w' => e = .returned (.int .u8 (reg S.now)) ∧ Below z.heap.size z w') := fun z hz => regP (J.same hz).pt hl9
            have HRd : Hid (∀ z, Below u2.heap.size u2 z → Calls Try.prog 19 #[.pointer (some ⟨q, 0, none⟩)] z fun e w' => e = .returned (.int .u8 (reg S.now)) ∧ w' = z) := fun z hz => dreg_any (hdv.below hz) hl9
            have HH := hidOf2 (fun (z : World) (hz : Below u2.heap.size u2 z) => histP (J.same hz).pt)
            have HNw := hidOf2 (fun (z : World) (hz : Below u2.heap.size u2 z) => nowP (J.same hz).pt hl8)
            have HSa : Hid (∀ (z : World) (va : Value), Below u2.heap.size u2 z → Wide 7 Tr.cs z va S.past → Calls Try.prog 20 #[va, .slice a9 S.past.length c9] z fun e w' => e = .returned (.bool true) ∧ ∃ n, w' = z.drewN n) := fun z va hz ha => same_any va _ S.past z ha (hdv.below hz).ro hp9
            have HSn : Hid (∀ (z : World) (va : Value), Below u2.heap.size u2 z → Wide 7 Tr.cs z va S.now → Calls Try.prog 20 #[va, .slice an S.now.length cn] z fun e w' => e = .returned (.bool true) ∧ ∃ n, w' = z.drewN n) := fun z va hz ha => same_any va _ S.now z ha (hdv.below hz).rn hl9
            obtain ⟨zb, hzb⟩ : ∃ c : Bool, decide (S.now = []) = c := ⟨_, rfl⟩
            have hz1 : (((reg S.now : Nat) : Int) == 0) = zb := by
              rw [← hzb, Bool.eq_iff_iff, beq_iff_eq, decide_eq_true_eq, ← reg_zero]
              omega
            have hz2 : (((S.now.length : Nat) : Int) == 0) = zb := by
              rw [← hzb, Bool.eq_iff_iff, beq_iff_eq, decide_eq_true_eq, ← List.length_eq_zero_iff]
              omega
            have HJ9 := hidOf2 J
            have b0 : Below u2.heap.size u2 u2.drew := below_drawn (Below.refl _ _) 1
            have s0 := HS.out _ b0
            generalize reg S.now = RG at *
            clear hzb hdv J HJ
            refine wp_region_held (S := fun z : World => z.cell? ⟨q, 3, none⟩ = some (.slice an S.now.length cn) ∧ z.cell? ⟨q, 4, none⟩ = some (.slice a9 S.past.length c9)) (by kernel_rfl) ?_
            change wpAnyH _ _ _ _ _ _ _ _ u2.drew
            refine wpAnyH_take (i := 0) (v := (.bool true)) rfl (by kernel_rfl) (by kernel_rfl) (by kernel_rfl) (fun _ _ _ h => h) (.inl ⟨rfl, fun _ hS => rfl⟩) s0 ?_
            simp only [List.getElem_toArray, List.getElem_cons_succ, List.getElem_cons_zero, Act.put, List.setIfInBounds_toArray, List.set_cons_succ, List.set_cons_zero]
            refine wpAnyH_take (i := 1) (v := (.bool false)) rfl (by kernel_rfl) (by kernel_rfl) (by kernel_rfl) (fun _ _ _ h => h) (.inl ⟨rfl, fun _ hS => by go_simp⟩) s0 ?_
            simp only [List.getElem_toArray, List.getElem_cons_succ, List.getElem_cons_zero, Act.put, List.setIfInBounds_toArray, List.set_cons_succ, List.set_cons_zero]
            refine wpAnyH_take (i := 2) (v := (.bool false)) rfl (by kernel_rfl) (by kernel_rfl) (by kernel_rfl) (fun _ _ _ h => h) (.inl ⟨rfl, fun _ hS => rfl⟩) s0 ?_
            simp only [List.getElem_toArray, List.getElem_cons_succ, List.getElem_cons_zero, Act.put, List.setIfInBounds_toArray, List.set_cons_succ, List.set_cons_zero]
            refine wpAnyH_take (i := 3) (v := (.pointer (some ⟨p, 0, none⟩))) rfl (by kernel_rfl) (by kernel_rfl) (by kernel_rfl) (fun _ _ _ h => h) (.inl ⟨rfl, fun _ hS => rfl⟩) s0 ?_
            simp only [List.getElem_toArray, List.getElem_cons_succ, List.getElem_cons_zero, Act.put, List.setIfInBounds_toArray, List.set_cons_succ, List.set_cons_zero]
            refine wpAnyH_take (i := 5) (v := (.pointer (some ⟨q, 0, none⟩))) rfl (by kernel_rfl) (by kernel_rfl) (by kernel_rfl) (fun _ _ _ h => h) (.inl ⟨rfl, fun _ hS => rfl⟩) s0 ?_
            simp only [List.getElem_toArray, List.getElem_cons_succ, List.getElem_cons_zero, Act.put, List.setIfInBounds_toArray, List.set_cons_succ, List.set_cons_zero]
            refine wpAnyH_all (rs := [4]) (by kernel_rfl) (by simp) ?_
            intro k hk
            simp only [List.mem_cons, List.mem_nil_iff, or_false] at hk
            subst hk
            refine wpOp_runw rfl rfl (wp_call_fn 18 #[.pointer (some ⟨p, 0, none⟩)] (by simp [execOp, go_sem, Act.eval, resolve, invoke, enTReg]) ?_)
            refine (HR.out _ b0).mono ?_
            rintro e u1 ⟨rfl, y1⟩
            have b1 := b0.trans (y1.mono b0.size)
            have s1 := HS.out _ b1
            refine ⟨s1, ?_⟩
            simp only [List.getElem_toArray, List.getElem_cons_succ, List.getElem_cons_zero, Act.put, List.setIfInBounds_toArray, List.set_cons_succ, List.set_cons_zero]
            refine wpAnyH_all (rs := [6]) (by kernel_rfl) (by simp) ?_
            intro k hk
            simp only [List.mem_cons, List.mem_nil_iff, or_false] at hk
            subst hk
            refine wpOp_runw rfl rfl (wp_call_fn 19 #[.pointer (some ⟨q, 0, none⟩)] (by simp [execOp, go_sem, Act.eval, resolve, invoke, enTDReg]) ?_)
            refine (HRd.out _ b1).mono ?_
            rintro e u ⟨rfl, hu⟩
            rw [hu]
            clear hu
            refine ⟨s1, ?_⟩
            simp only [List.getElem_toArray, List.getElem_cons_succ, List.getElem_cons_zero, Act.put, List.setIfInBounds_toArray, List.set_cons_succ, List.set_cons_zero]
            refine wpAnyH_take (i := 7) (v := (.bool false)) rfl (by kernel_rfl) (by kernel_rfl) (by kernel_rfl) (fun _ _ _ h => h) (.inl ⟨rfl, fun _ hS => by go_simp⟩) s1 ?_
            simp only [List.getElem_toArray, List.getElem_cons_succ, List.getElem_cons_zero, Act.put, List.setIfInBounds_toArray, List.set_cons_succ, List.set_cons_zero]
            refine wpAnyH_take (i := 8) (v := (.bool false)) rfl (by kernel_rfl) (by kernel_rfl) (by kernel_rfl) (fun _ _ _ h => h) (.inl ⟨rfl, fun _ hS => by go_simp⟩) s1 ?_
            simp only [List.getElem_toArray, List.getElem_cons_succ, List.getElem_cons_zero, Act.put, List.setIfInBounds_toArray, List.set_cons_succ, List.set_cons_zero]
            refine wpAnyH_take (i := 9) (v := (.bool false)) rfl (by kernel_rfl) (by kernel_rfl) (by kernel_rfl) (fun _ _ _ h => h) (.inl ⟨rfl, fun _ hS => rfl⟩) s1 ?_
            simp only [List.getElem_toArray, List.getElem_cons_succ, List.getElem_cons_zero, Act.put, List.setIfInBounds_toArray, List.set_cons_succ, List.set_cons_zero]
            refine wpAnyH_take (i := 10) (v := (.pointer (some ⟨p, 0, none⟩))) rfl (by kernel_rfl) (by kernel_rfl) (by kernel_rfl) (fun _ _ _ h => h) (.inl ⟨rfl, fun _ hS => rfl⟩) s1 ?_
            simp only [List.getElem_toArray, List.getElem_cons_succ, List.getElem_cons_zero, Act.put, List.setIfInBounds_toArray, List.set_cons_succ, List.set_cons_zero]
            refine wpAnyH_take (i := 13) (v := (.pointer (some ⟨q, 0, none⟩))) rfl (by kernel_rfl) (by kernel_rfl) (by kernel_rfl) (fun _ _ _ h => h) (.inl ⟨rfl, fun _ hS => rfl⟩) s1 ?_
            simp only [List.getElem_toArray, List.getElem_cons_succ, List.getElem_cons_zero, Act.put, List.setIfInBounds_toArray, List.set_cons_succ, List.set_cons_zero]
            refine wpAnyH_take (i := 14) (v := (.pointer (some ⟨q, 0, none⟩))) rfl (by kernel_rfl) (by kernel_rfl) (by kernel_rfl) (fun _ _ _ h => h) (.inl ⟨rfl, fun _ hS => by simp [execOp, go_sem, Act.eval]⟩) s1 ?_
            simp only [List.getElem_toArray, List.getElem_cons_succ, List.getElem_cons_zero, Act.put, List.setIfInBounds_toArray, List.set_cons_succ, List.set_cons_zero]
            refine wpAnyH_take (i := 15) (v := (.pointer (some ⟨q, 3, none⟩))) rfl (by kernel_rfl) (by kernel_rfl) (by kernel_rfl) (fun _ _ _ h => h) (.inl ⟨rfl, fun _ hS => by simp [execOp, go_sem, Act.eval]⟩) s1 ?_
            simp only [List.getElem_toArray, List.getElem_cons_succ, List.getElem_cons_zero, Act.put, List.setIfInBounds_toArray, List.set_cons_succ, List.set_cons_zero]
            refine wpAnyH_take (i := 16) (v := (.slice an S.now.length cn)) rfl (by kernel_rfl) (by kernel_rfl) (by kernel_rfl) (fun _ _ _ h => h) (.inl ⟨rfl, fun _ hS => exec_load rfl rfl (load_ts hS.1)⟩) s1 ?_
            simp only [List.getElem_toArray, List.getElem_cons_succ, List.getElem_cons_zero, Act.put, List.setIfInBounds_toArray, List.set_cons_succ, List.set_cons_zero]
            refine wpAnyH_take (i := 17) (v := (.int .i64 (S.now.length : Nat))) rfl (by kernel_rfl) (by kernel_rfl) (by kernel_rfl) (fun _ _ _ h => h) (.inl ⟨rfl, fun _ hS => exec_lenT rfl rfl _⟩) s1 ?_
            simp only [List.getElem_toArray, List.getElem_cons_succ, List.getElem_cons_zero, Act.put, List.setIfInBounds_toArray, List.set_cons_succ, List.set_cons_zero]
            refine wpAnyH_take (i := 18) (v := (.bool zb)) rfl (by kernel_rfl) (by kernel_rfl) (by kernel_rfl) (fun _ _ _ h => h) (.inl ⟨rfl, fun _ hS => by go_simp⟩) s1 ?_
            simp only [List.getElem_toArray, List.getElem_cons_succ, List.getElem_cons_zero, Act.put, List.setIfInBounds_toArray, List.set_cons_succ, List.set_cons_zero]
            refine wpAnyH_all (rs := [11]) (by kernel_rfl) (by simp) ?_
            intro k hk
            simp only [List.mem_cons, List.mem_nil_iff, or_false] at hk
            subst hk
            refine wpOp_runw rfl rfl (wp_call_fn 18 #[.pointer (some ⟨p, 0, none⟩)] (by simp [execOp, go_sem, Act.eval, resolve, invoke, enTReg]) ?_)
            refine (HR.out _ b1).mono ?_
            rintro e u3 ⟨rfl, y3⟩
            have b3 := b1.trans (y3.mono b1.size)
            have s3 := HS.out _ b3
            refine ⟨s3, ?_⟩
            simp only [List.getElem_toArray, List.getElem_cons_succ, List.getElem_cons_zero, Act.put, List.setIfInBounds_toArray, List.set_cons_succ, List.set_cons_zero]
            refine wpAnyH_take (i := 12) (v := (.bool zb)) rfl (by kernel_rfl) (by kernel_rfl) (by kernel_rfl) (fun _ _ _ h => h) (.inl ⟨rfl, fun _ hS => by go_simp⟩) s3 ?_
            simp only [List.getElem_toArray, List.getElem_cons_succ, List.getElem_cons_zero, Act.put, List.setIfInBounds_toArray, List.set_cons_succ, List.set_cons_zero]
            refine wpAnyH_take (i := 19) (v := (.bool false)) rfl (by kernel_rfl) (by kernel_rfl) (by kernel_rfl) (fun _ _ _ h => h) (.inl ⟨rfl, fun _ hS => by cases zb <;> go_simp⟩) s3 ?_
            simp only [List.getElem_toArray, List.getElem_cons_succ, List.getElem_cons_zero, Act.put, List.setIfInBounds_toArray, List.set_cons_succ, List.set_cons_zero]
            refine wpAnyH_take (i := 20) (v := (.bool false)) rfl (by kernel_rfl) (by kernel_rfl) (by kernel_rfl) (fun _ _ _ h => h) (.inl ⟨rfl, fun _ hS => by go_simp⟩) s3 ?_
            simp only [List.getElem_toArray, List.getElem_cons_succ, List.getElem_cons_zero, Act.put, List.setIfInBounds_toArray, List.set_cons_succ, List.set_cons_zero]
            refine wpAnyH_take (i := 21) (v := (.bool false)) rfl (by kernel_rfl) (by kernel_rfl) (by kernel_rfl) (fun _ _ _ h => h) (.inl ⟨rfl, fun _ hS => rfl⟩) s3 ?_
            simp only [List.getElem_toArray, List.getElem_cons_succ, List.getElem_cons_zero, Act.put, List.setIfInBounds_toArray, List.set_cons_succ, List.set_cons_zero]
            refine wpAnyH_take (i := 22) (v := (.pointer (some ⟨p, 0, none⟩))) rfl (by kernel_rfl) (by kernel_rfl) (by kernel_rfl) (fun _ _ _ h => h) (.inl ⟨rfl, fun _ hS => rfl⟩) s3 ?_
            simp only [List.getElem_toArray, List.getElem_cons_succ, List.getElem_cons_zero, Act.put, List.setIfInBounds_toArray, List.set_cons_succ, List.set_cons_zero]
            refine wpAnyH_take (i := 24) (v := (.pointer (some ⟨q, 0, none⟩))) rfl (by kernel_rfl) (by kernel_rfl) (by kernel_rfl) (fun _ _ _ h => h) (.inl ⟨rfl, fun _ hS => rfl⟩) s3 ?_
            simp only [List.getElem_toArray, List.getElem_cons_succ, List.getElem_cons_zero, Act.put, List.setIfInBounds_toArray, List.set_cons_succ, List.set_cons_zero]
            refine wpAnyH_take (i := 25) (v := (.pointer (some ⟨q, 0, none⟩))) rfl (by kernel_rfl) (by kernel_rfl) (by kernel_rfl) (fun _ _ _ h => h) (.inl ⟨rfl, fun _ hS => by simp [execOp, go_sem, Act.eval]⟩) s3 ?_
            simp only [List.getElem_toArray, List.getElem_cons_succ, List.getElem_cons_zero, Act.put, List.setIfInBounds_toArray, List.set_cons_succ, List.set_cons_zero]
            refine wpAnyH_take (i := 26) (v := (.pointer (some ⟨q, 4, none⟩))) rfl (by kernel_rfl) (by kernel_rfl) (by kernel_rfl) (fun _ _ _ h => h) (.inl ⟨rfl, fun _ hS => by simp [execOp, go_sem, Act.eval]⟩) s3 ?_
            simp only [List.getElem_toArray, List.getElem_cons_succ, List.getElem_cons_zero, Act.put, List.setIfInBounds_toArray, List.set_cons_succ, List.set_cons_zero]
            refine wpAnyH_take (i := 27) (v := (.slice a9 S.past.length c9)) rfl (by kernel_rfl) (by kernel_rfl) (by kernel_rfl) (fun _ _ _ h => h) (.inl ⟨rfl, fun _ hS => exec_load rfl rfl (load_ts hS.2)⟩) s3 ?_
            simp only [List.getElem_toArray, List.getElem_cons_succ, List.getElem_cons_zero, Act.put, List.setIfInBounds_toArray, List.set_cons_succ, List.set_cons_zero]
            refine wpAnyH_all (rs := [23]) (by kernel_rfl) (by simp) ?_
            intro k hk
            simp only [List.mem_cons, List.mem_nil_iff, or_false] at hk
            subst hk
            refine wpOp_runw rfl rfl (wp_call_fn 21 #[.pointer (some ⟨p, 0, none⟩)] (by simp [execOp, go_sem, Act.eval, resolve, invoke, enTHis]) ?_)
            refine (HH.out _ b3).mono ?_
            rintro e u4 ⟨ah, ch, rfl, w4h, y4⟩
            have b4 := b3.trans (y4.mono b3.size)
            have s4 := HS.out _ b4
            refine ⟨s4, ?_⟩
            simp only [List.getElem_toArray, List.getElem_cons_succ, List.getElem_cons_zero, Act.put, List.setIfInBounds_toArray, List.set_cons_succ, List.set_cons_zero]
            refine wpAnyH_all (rs := [28]) (by kernel_rfl) (by simp) ?_
            intro k hk
            simp only [List.mem_cons, List.mem_nil_iff, or_false] at hk
            subst hk
            refine wpOp_runw rfl rfl (wp_call_fn 20 #[.slice ah S.past.length ch, .slice a9 S.past.length c9] (by simp [execOp, go_sem, Act.eval, resolve, invoke, enTSame]) ?_)
            refine (HSa.out _ _ b4 w4h).mono ?_
            rintro e u5 ⟨rfl, n5, hu5⟩
            have b5 : Below u2.heap.size u2 u5 := by rw [hu5]; exact below_drawn b4 n5
            have s5 := HS.out _ b5
            clear hu5
            refine ⟨s5, ?_⟩
            simp only [List.getElem_toArray, List.getElem_cons_succ, List.getElem_cons_zero, Act.put, List.setIfInBounds_toArray, List.set_cons_succ, List.set_cons_zero]
            refine wpAnyH_take (i := 29) (v := (.bool false)) rfl (by kernel_rfl) (by kernel_rfl) (by kernel_rfl) (fun _ _ _ h => h) (.inl ⟨rfl, fun _ hS => by go_simp⟩) s5 ?_
            simp only [List.getElem_toArray, List.getElem_cons_succ, List.getElem_cons_zero, Act.put, List.setIfInBounds_toArray, List.set_cons_succ, List.set_cons_zero]
            refine wpAnyH_take (i := 30) (v := (.bool false)) rfl (by kernel_rfl) (by kernel_rfl) (by kernel_rfl) (fun _ _ _ h => h) (.inl ⟨rfl, fun _ hS => by go_simp⟩) s5 ?_
            simp only [List.getElem_toArray, List.getElem_cons_succ, List.getElem_cons_zero, Act.put, List.setIfInBounds_toArray, List.set_cons_succ, List.set_cons_zero]
            refine wpAnyH_take (i := 31) (v := (.bool false)) rfl (by kernel_rfl) (by kernel_rfl) (by kernel_rfl) (fun _ _ _ h => h) (.inl ⟨rfl, fun _ hS => rfl⟩) s5 ?_
            simp only [List.getElem_toArray, List.getElem_cons_succ, List.getElem_cons_zero, Act.put, List.setIfInBounds_toArray, List.set_cons_succ, List.set_cons_zero]
            refine wpAnyH_take (i := 32) (v := (.pointer (some ⟨p, 0, none⟩))) rfl (by kernel_rfl) (by kernel_rfl) (by kernel_rfl) (fun _ _ _ h => h) (.inl ⟨rfl, fun _ hS => rfl⟩) s5 ?_
            simp only [List.getElem_toArray, List.getElem_cons_succ, List.getElem_cons_zero, Act.put, List.setIfInBounds_toArray, List.set_cons_succ, List.set_cons_zero]
            refine wpAnyH_take (i := 34) (v := (.pointer (some ⟨q, 0, none⟩))) rfl (by kernel_rfl) (by kernel_rfl) (by kernel_rfl) (fun _ _ _ h => h) (.inl ⟨rfl, fun _ hS => rfl⟩) s5 ?_
            simp only [List.getElem_toArray, List.getElem_cons_succ, List.getElem_cons_zero, Act.put, List.setIfInBounds_toArray, List.set_cons_succ, List.set_cons_zero]
            refine wpAnyH_take (i := 35) (v := (.pointer (some ⟨q, 0, none⟩))) rfl (by kernel_rfl) (by kernel_rfl) (by kernel_rfl) (fun _ _ _ h => h) (.inl ⟨rfl, fun _ hS => by simp [execOp, go_sem, Act.eval]⟩) s5 ?_
            simp only [List.getElem_toArray, List.getElem_cons_succ, List.getElem_cons_zero, Act.put, List.setIfInBounds_toArray, List.set_cons_succ, List.set_cons_zero]
            refine wpAnyH_take (i := 36) (v := (.pointer (some ⟨q, 3, none⟩))) rfl (by kernel_rfl) (by kernel_rfl) (by kernel_rfl) (fun _ _ _ h => h) (.inl ⟨rfl, fun _ hS => by simp [execOp, go_sem, Act.eval]⟩) s5 ?_
            simp only [List.getElem_toArray, List.getElem_cons_succ, List.getElem_cons_zero, Act.put, List.setIfInBounds_toArray, List.set_cons_succ, List.set_cons_zero]
            refine wpAnyH_take (i := 37) (v := (.slice an S.now.length cn)) rfl (by kernel_rfl) (by kernel_rfl) (by kernel_rfl) (fun _ _ _ h => h) (.inl ⟨rfl, fun _ hS => exec_load rfl rfl (load_ts hS.1)⟩) s5 ?_
            simp only [List.getElem_toArray, List.getElem_cons_succ, List.getElem_cons_zero, Act.put, List.setIfInBounds_toArray, List.set_cons_succ, List.set_cons_zero]
            refine wpAnyH_all (rs := [33]) (by kernel_rfl) (by simp) ?_
            intro k hk
            simp only [List.mem_cons, List.mem_nil_iff, or_false] at hk
            subst hk
            refine wpOp_runw rfl rfl (wp_call_fn 22 #[.pointer (some ⟨p, 0, none⟩)] (by simp [execOp, go_sem, Act.eval, resolve, invoke, enTNow]) ?_)
            refine (HNw.out _ b5).mono ?_
            rintro e u6 ⟨ah6, ch6, rfl, w6h, y6⟩
            have b6 := b5.trans (y6.mono b5.size)
            have s6 := HS.out _ b6
            refine ⟨s6, ?_⟩
            simp only [List.getElem_toArray, List.getElem_cons_succ, List.getElem_cons_zero, Act.put, List.setIfInBounds_toArray, List.set_cons_succ, List.set_cons_zero]
            refine wpAnyH_all (rs := [38]) (by kernel_rfl) (by simp) ?_
            intro k hk
            simp only [List.mem_cons, List.mem_nil_iff, or_false] at hk
            subst hk
            refine wpOp_runw rfl rfl (wp_call_fn 20 #[.slice ah6 S.now.length ch6, .slice an S.now.length cn] (by simp [execOp, go_sem, Act.eval, resolve, invoke, enTSame]) ?_)
            refine (HSn.out _ _ b6 w6h).mono ?_
            rintro e u7 ⟨rfl, n7, hu7⟩
            have b7 : Below u2.heap.size u2 u7 := by rw [hu7]; exact below_drawn b6 n7
            have s7 := HS.out _ b7
            clear hu7
            refine ⟨s7, ?_⟩
            simp only [List.getElem_toArray, List.getElem_cons_succ, List.getElem_cons_zero, Act.put, List.setIfInBounds_toArray, List.set_cons_succ, List.set_cons_zero]
            refine wpAnyH_take (i := 39) (v := (.bool false)) rfl (by kernel_rfl) (by kernel_rfl) (by kernel_rfl) (fun _ _ _ h => h) (.inl ⟨rfl, fun _ hS => by go_simp⟩) s7 ?_
            simp only [List.getElem_toArray, List.getElem_cons_succ, List.getElem_cons_zero, Act.put, List.setIfInBounds_toArray, List.set_cons_succ, List.set_cons_zero]
            refine wpAnyH_take (i := 40) (v := (.bool false)) rfl (by kernel_rfl) (by kernel_rfl) (by kernel_rfl) (fun _ _ _ h => h) (.inl ⟨rfl, fun _ hS => by go_simp⟩) s7 ?_
            simp only [List.getElem_toArray, List.getElem_cons_succ, List.getElem_cons_zero, Act.put, List.setIfInBounds_toArray, List.set_cons_succ, List.set_cons_zero]
            refine wpAnyH_done (by kernel_rfl) ?_ _
            have HF := hidOf2 (HJ9.out.same b7)
            clear HJ9 HS HR HRd HH HNw HSa HSn b0 b1 b3 b4 b5 b6 b7 s0 s1 s3 s4 s5 s6 s7 w4h w6h y1 y3 y4 y6 hz1 hz2
            go_wp2_with fail
            go_roundw
            case rel => exact ⟨k + 1, _, _, by omega, rfl, HF.out⟩
            case measure => simp [intOf]; omega
          · have d29 : (kd == 2) = false := by simp [h2]
            by_cases h3 : kd = 3
            · subst h3
              clear h0 d09 h1 d19 h2 d29
              obtain ⟨z0, z1, z2, z3, z4, z5, z6, z7, hfa⟩ := s.fa_shape
              have hP1 := frameP hJ.pt hJ.room
              have HD2 : Hid (∀ u, Jh p p q w u D s s.frame → Calls Try.prog 16 #[.pointer (some ⟨q, 0, none⟩)] u fun e w' => e = .returned (.tuple #[.agg s.fa, .bool s.may]) ∧ Kq (fun z => z = q ∨ u.heap.size ≤ z) u w' ∧ ∃ D', Jt p p q (k + 1) w w' D' s.frame) := fun u j => j.frame hln hft
              have HJ1 := hidOf2 hJ
              rw [hfa] at hP1 HD2
              generalize s.may = cb at *
              clear hJ r0 HX hln hft hh hqq hL16 hfa
              go_upto_region 20 with (go_at_call 15; refine hP1.mono ?_; rintro e u1 ⟨rfl, t1, k1⟩)
              have j1 := HJ1.out.first t1 k1
              obtain ⟨Y1, hY1⟩ : ∃ x, u1.alloc (.cells #[.int .u8 z0, .int .u8 z1, .int .u8 z2, .int .u8 z3, .int .u8 z4, .int .u8 z5, .int .u8 z6, .int .u8 z7] 42) = x := ⟨_, rfl⟩
              have bY : Below u1.heap.size u1 Y1 := by rw [← hY1]; exact (Below.refl _ _).alloc (Nat.le_refl _) _
              have jY := j1.same bY
              have lqu := (j1.dD q j1.dt.has.1).2
              obtain ⟨e1, he1⟩ : ∃ x, u1.heap.size = x := ⟨_, rfl⟩
              have F1 : Bc 42 e1 #[.int .u8 z0, .int .u8 z1, .int .u8 z2, .int .u8 z3, .int .u8 z4, .int .u8 z5, .int .u8 z6, .int .u8 z7] Y1 := by rw [← hY1, ← he1]; exact heap_alloc_new u1 _
              have lF1 := F1.lt
              have hD2 := HD2.out Y1 jY
              change Code.wp Try.prog _ _ _ (u1.alloc (.cells #[.int .u8 z0, .int .u8 z1, .int .u8 z2, .int .u8 z3, .int .u8 z4, .int .u8 z5, .int .u8 z6, .int .u8 z7] 42))
              rw [hY1]
              clear hY1 bY jY j1 t1 k1 HJ1 HD2 hP1
              go_upto_region 21 with (go_at_call 16; refine hD2.mono ?_; rintro e u2 ⟨rfl, kq2, D2, j2⟩)
              have F2 : Bc 42 e1 #[.int .u8 z0, .int .u8 z1, .int .u8 z2, .int .u8 z3, .int .u8 z4, .int .u8 z5, .int .u8 z6, .int .u8 z7] u2 := Bc.kq F1 kq2 (by omega)
              obtain ⟨Y2, hY2⟩ : ∃ x, u2.alloc (.cells #[.int .u8 z0, .int .u8 z1, .int .u8 z2, .int .u8 z3, .int .u8 z4, .int .u8 z5, .int .u8 z6, .int .u8 z7] 42) = x := ⟨_, rfl⟩
              have bY2 : Below u2.heap.size u2 Y2 := by rw [← hY2]; exact (Below.refl _ _).alloc (Nat.le_refl _) _
              obtain ⟨e2, he2⟩ : ∃ x, u2.heap.size = x := ⟨_, rfl⟩
              have F3 : Bc 42 e1 #[.int .u8 z0, .int .u8 z1, .int .u8 z2, .int .u8 z3, .int .u8 z4, .int .u8 z5, .int .u8 z6, .int .u8 z7] Y2 := F2.below bY2
              have F4 : Bc 42 e2 #[.int .u8 z0, .int .u8 z1, .int .u8 z2, .int .u8 z3, .int .u8 z4, .int .u8 z5, .int .u8 z6, .int .u8 z7] Y2 := by rw [← hY2, ← he2]; exact heap_alloc_new u2 _
              have HJ := hidOf2 (show ∃ D' S, Jt p p q (k + 1) w Y2 D' S from ⟨_, _, j2.same bY2⟩)
              change Code.wp Try.prog _ _ _ (u2.alloc (.cells #[.int .u8 z0, .int .u8 z1, .int .u8 z2, .int .u8 z3, .int .u8 z4, .int .u8 z5, .int .u8 z6, .int .u8 z7] 42))
              rw [hY2]
              have x0 := F3.cell 0
              have y0 := F4.cell 0
              have x1 := F3.cell 1
              have y1 := F4.cell 1
              have x2 := F3.cell 2
              have y2 := F4.cell 2
              have x3 := F3.cell 3
              have y3 := F4.cell 3
              have x4 := F3.cell 4
              have y4 := F4.cell 4
              have x5 := F3.cell 5
              have y5 := F4.cell 5
              have x6 := F3.cell 6
              have y6 := F4.cell 6
              have x7 := F3.cell 7
              have y7 := F4.cell 7
              clear hY2 bY2 F1 F2 kq2 j2 hD2 lqu lF1
              go_upto_region 25 with (refine opE (.bool true) rfl (exec_eqlF #[.int .u8 z0, .int .u8 z1, .int .u8 z2, .int .u8 z3, .int .u8 z4, .int .u8 z5, .int .u8 z6, .int .u8 z7] (by intro k hk; match k, hk with | 0, _ => exact ⟨_, rfl⟩ | 1, _ => exact ⟨_, rfl⟩ | 2, _ => exact ⟨_, rfl⟩ | 3, _ => exact ⟨_, rfl⟩ | 4, _ => exact ⟨_, rfl⟩ | 5, _ => exact ⟨_, rfl⟩ | 6, _ => exact ⟨_, rfl⟩ | 7, _ => exact ⟨_, rfl⟩) rfl rfl rfl _) ?_)
              clear F3 F4 x0 x1 x2 x3 x4 x5 x6 x7 y0 y1 y2 y3 y4 y5 y6 y7
              obtain ⟨D9, S, J⟩ := HJ.out
              obtain ⟨vn, vo, vf, hdv⟩ := J.dt
              obtain ⟨an, cn, hvn⟩ := hdv.rn.shape
              subst hvn
              obtain ⟨a9, c9, hvo⟩ := hdv.ro.shape
              subst hvo
              have hl1 := J.len
              have hl9 : S.now.length ≤ 2305843009213693951 := by omega
              have hl8 : S.now.length * 8 ≤ 140737488355328 := by omega
              have hp9 : S.past.length ≤ 2305843009213693951 := by have := J.fit; have := J.pt.ok.h2; unfold Te.Fit at *; omega
              have HS : Hid (∀ z, Below Y2.heap.size Y2 z → z.cell? ⟨q, 3, none⟩ = some (.slice an S.now.length cn) ∧ z.cell? ⟨q, 4, none⟩ = some (.slice a9 S.past.length c9)) := fun z hz => ⟨(hdv.below hz).cells.2.2.2.1, (hdv.below hz).cells.2.2.2.2.1⟩
              have HR : Hid (∀ z, Below Y2.heap.size Y2 z → Calls Try.prog 18 #[.pointer (some ⟨p, 0, none⟩)] z fun e w' => e = .returned (.int .u8 (reg S.now)) ∧ Below z.heap.size z w') := fun z hz => regP (J.same hz).pt hl9
              have HRd : Hid (∀ z, Below Y2.heap.size Y2 z → Calls Try.prog 19 #[.pointer (some ⟨q, 0, none⟩)] z fun e w' => e = .returned (.int .u8 (reg S.now)) ∧ w' = z) := fun z hz => dreg_any (hdv.below hz) hl9
              have HH := hidOf2 (fun (z : World) (hz : Below Y2.heap.size Y2 z) => histP (J.same hz).pt)
              have HNw := hidOf2 (fun (z : World) (hz : Below Y2.heap.size Y2 z) => nowP (J.same hz).pt hl8)
              have HSa : Hid (∀ (z : World) (va : Value), Below Y2.heap.size Y2 z → Wide 7 Tr.cs z va S.past → Calls Try.prog 20 #[va, .slice a9 S.past.length c9] z fun e w' => e = .returned (.bool true) ∧ ∃ n, w' = z.drewN n) := fun z va hz ha => same_any va _ S.past z ha (hdv.below hz).ro hp9
              have HSn : Hid (∀ (z : World) (va : Value), Below Y2.heap.size Y2 z → Wide 7 Tr.cs z va S.now → Calls Try.prog 20 #[va, .slice an S.now.length cn] z fun e w' => e = .returned (.bool true) ∧ ∃ n, w' = z.drewN n) := fun z va hz ha => same_any va _ S.now z ha (hdv.below hz).rn hl9
              obtain ⟨zb, hzb⟩ : ∃ c : Bool, decide (S.now = []) = c := ⟨_, rfl⟩
              have hz1 : (((reg S.now : Nat) : Int) == 0) = zb := by
                rw [← hzb, Bool.eq_iff_iff, beq_iff_eq, decide_eq_true_eq, ← reg_zero]
                omega
              have hz2 : (((S.now.length : Nat) : Int) == 0) = zb := by
                rw [← hzb, Bool.eq_iff_iff, beq_iff_eq, decide_eq_true_eq, ← List.length_eq_zero_iff]
                omega
              have HJ9 := hidOf2 J
              have b0 : Below Y2.heap.size Y2 Y2.drew := below_drawn (Below.refl _ _) 1
              have s0 := HS.out _ b0
              generalize reg S.now = RG at *
              clear hzb hdv J HJ
              refine wp_region_held (S := fun z : World => z.cell? ⟨q, 3, none⟩ = some (.slice an S.now.length cn) ∧ z.cell? ⟨q, 4, none⟩ = some (.slice a9 S.past.length c9)) (by kernel_rfl) ?_
              change wpAnyH _ _ _ _ _ _ _ _ Y2.drew
              refine wpAnyH_take (i := 0) (v := (.bool true)) rfl (by kernel_rfl) (by kernel_rfl) (by kernel_rfl) (fun _ _ _ h => h) (.inl ⟨rfl, fun _ hS => rfl⟩) s0 ?_
              simp only [List.getElem_toArray, List.getElem_cons_succ, List.getElem_cons_zero, Act.put, List.setIfInBounds_toArray, List.set_cons_succ, List.set_cons_zero]
              refine wpAnyH_take (i := 1) (v := (.bool false)) rfl (by kernel_rfl) (by kernel_rfl) (by kernel_rfl) (fun _ _ _ h => h) (.inl ⟨rfl, fun _ hS => by go_simp⟩) s0 ?_
              simp only [List.getElem_toArray, List.getElem_cons_succ, List.getElem_cons_zero, Act.put, List.setIfInBounds_toArray, List.set_cons_succ, List.set_cons_zero]
              refine wpAnyH_take (i := 2) (v := (.bool false)) rfl (by kernel_rfl) (by kernel_rfl) (by kernel_rfl) (fun _ _ _ h => h) (.inl ⟨rfl, fun _ hS => rfl⟩) s0 ?_
              simp only [List.getElem_toArray, List.getElem_cons_succ, List.getElem_cons_zero, Act.put, List.setIfInBounds_toArray, List.set_cons_succ, List.set_cons_zero]
              refine wpAnyH_take (i := 3) (v := (.pointer (some ⟨p, 0, none⟩))) rfl (by kernel_rfl) (by kernel_rfl) (by kernel_rfl) (fun _ _ _ h => h) (.inl ⟨rfl, fun _ hS => rfl⟩) s0 ?_
              simp only [List.getElem_toArray, List.getElem_cons_succ, List.getElem_cons_zero, Act.put, List.setIfInBounds_toArray, List.set_cons_succ, List.set_cons_zero]
              refine wpAnyH_take (i := 5) (v := (.pointer (some ⟨q, 0, none⟩))) rfl (by kernel_rfl) (by kernel_rfl) (by kernel_rfl) (fun _ _ _ h => h) (.inl ⟨rfl, fun _ hS => rfl⟩) s0 ?_
              simp only [List.getElem_toArray, List.getElem_cons_succ, List.getElem_cons_zero, Act.put, List.setIfInBounds_toArray, List.set_cons_succ, List.set_cons_zero]
              refine wpAnyH_all (rs := [4]) (by kernel_rfl) (by simp) ?_
              intro k hk
              simp only [List.mem_cons, List.mem_nil_iff, or_false] at hk
              subst hk
              refine wpOp_runw rfl rfl (wp_call_fn 18 #[.pointer (some ⟨p, 0, none⟩)] (by simp [execOp, go_sem, Act.eval, resolve, invoke, enTReg]) ?_)
              refine (HR.out _ b0).mono ?_
              rintro e u1 ⟨rfl, y1⟩
              have b1 := b0.trans (y1.mono b0.size)
              have s1 := HS.out _ b1
              refine ⟨s1, ?_⟩
              simp only [List.getElem_toArray, List.getElem_cons_succ, List.getElem_cons_zero, Act.put, List.setIfInBounds_toArray, List.set_cons_succ, List.set_cons_zero]
              refine wpAnyH_all (rs := [6]) (by kernel_rfl) (by simp) ?_
              intro k hk
              simp only [List.mem_cons, List.mem_nil_iff, or_false] at hk
              subst hk
              refine wpOp_runw rfl rfl (wp_call_fn 19 #[.pointer (some ⟨q, 0, none⟩)] (by simp [execOp, go_sem, Act.eval, resolve, invoke, enTDReg]) ?_)
              refine (HRd.out _ b1).mono ?_
              rintro e u ⟨rfl, hu⟩
              rw [hu]
              clear hu
              refine ⟨s1, ?_⟩
              simp only [List.getElem_toArray, List.getElem_cons_succ, List.getElem_cons_zero, Act.put, List.setIfInBounds_toArray, List.set_cons_succ, List.set_cons_zero]
              refine wpAnyH_take (i := 7) (v := (.bool false)) rfl (by kernel_rfl) (by kernel_rfl) (by kernel_rfl) (fun _ _ _ h => h) (.inl ⟨rfl, fun _ hS => by go_simp⟩) s1 ?_
              simp only [List.getElem_toArray, List.getElem_cons_succ, List.getElem_cons_zero, Act.put, List.setIfInBounds_toArray, List.set_cons_succ, List.set_cons_zero]
              refine wpAnyH_take (i := 8) (v := (.bool false)) rfl (by kernel_rfl) (by kernel_rfl) (by kernel_rfl) (fun _ _ _ h => h) (.inl ⟨rfl, fun _ hS => by go_simp⟩) s1 ?_
              simp only [List.getElem_toArray, List.getElem_cons_succ, List.getElem_cons_zero, Act.put, List.setIfInBounds_toArray, List.set_cons_succ, List.set_cons_zero]
              refine wpAnyH_take (i := 9) (v := (.bool false)) rfl (by kernel_rfl) (by kernel_rfl) (by kernel_rfl) (fun _ _ _ h => h) (.inl ⟨rfl, fun _ hS => rfl⟩) s1 ?_
              simp only [List.getElem_toArray, List.getElem_cons_succ, List.getElem_cons_zero, Act.put, List.setIfInBounds_toArray, List.set_cons_succ, List.set_cons_zero]
              refine wpAnyH_take (i := 10) (v := (.pointer (some ⟨p, 0, none⟩))) rfl (by kernel_rfl) (by kernel_rfl) (by kernel_rfl) (fun _ _ _ h => h) (.inl ⟨rfl, fun _ hS => rfl⟩) s1 ?_
              simp only [List.getElem_toArray, List.getElem_cons_succ, List.getElem_cons_zero, Act.put, List.setIfInBounds_toArray, List.set_cons_succ, List.set_cons_zero]
              refine wpAnyH_take (i := 13) (v := (.pointer (some ⟨q, 0, none⟩))) rfl (by kernel_rfl) (by kernel_rfl) (by kernel_rfl) (fun _ _ _ h => h) (.inl ⟨rfl, fun _ hS => rfl⟩) s1 ?_
              simp only [List.getElem_toArray, List.getElem_cons_succ, List.getElem_cons_zero, Act.put, List.setIfInBounds_toArray, List.set_cons_succ, List.set_cons_zero]
              refine wpAnyH_take (i := 14) (v := (.pointer (some ⟨q, 0, none⟩))) rfl (by kernel_rfl) (by kernel_rfl) (by kernel_rfl) (fun _ _ _ h => h) (.inl ⟨rfl, fun _ hS => by simp [execOp, go_sem, Act.eval]⟩) s1 ?_
              simp only [List.getElem_toArray, List.getElem_cons_succ, List.getElem_cons_zero, Act.put, List.setIfInBounds_toArray, List.set_cons_succ, List.set_cons_zero]
              refine wpAnyH_take (i := 15) (v := (.pointer (some ⟨q, 3, none⟩))) rfl (by kernel_rfl) (by kernel_rfl) (by kernel_rfl) (fun _ _ _ h => h) (.inl ⟨rfl, fun _ hS => by simp [execOp, go_sem, Act.eval]⟩) s1 ?_
              simp only [List.getElem_toArray, List.getElem_cons_succ, List.getElem_cons_zero, Act.put, List.setIfInBounds_toArray, List.set_cons_succ, List.set_cons_zero]
              refine wpAnyH_take (i := 16) (v := (.slice an S.now.length cn)) rfl (by kernel_rfl) (by kernel_rfl) (by kernel_rfl) (fun _ _ _ h => h) (.inl ⟨rfl, fun _ hS => exec_load rfl rfl (load_ts hS.1)⟩) s1 ?_
              simp only [List.getElem_toArray, List.getElem_cons_succ, List.getElem_cons_zero, Act.put, List.setIfInBounds_toArray, List.set_cons_succ, List.set_cons_zero]
              refine wpAnyH_take (i := 17) (v := (.int .i64 (S.now.length : Nat))) rfl (by kernel_rfl) (by kernel_rfl) (by kernel_rfl) (fun _ _ _ h => h) (.inl ⟨rfl, fun _ hS => exec_lenT rfl rfl _⟩) s1 ?_
              simp only [List.getElem_toArray, List.getElem_cons_succ, List.getElem_cons_zero, Act.put, List.setIfInBounds_toArray, List.set_cons_succ, List.set_cons_zero]
              refine wpAnyH_take (i := 18) (v := (.bool zb)) rfl (by kernel_rfl) (by kernel_rfl) (by kernel_rfl) (fun _ _ _ h => h) (.inl ⟨rfl, fun _ hS => by go_simp⟩) s1 ?_
              simp only [List.getElem_toArray, List.getElem_cons_succ, List.getElem_cons_zero, Act.put, List.setIfInBounds_toArray, List.set_cons_succ, List.set_cons_zero]
              refine wpAnyH_all (rs := [11]) (by kernel_rfl) (by simp) ?_
              intro k hk
              simp only [List.mem_cons, List.mem_nil_iff, or_false] at hk
              subst hk
              refine wpOp_runw rfl rfl (wp_call_fn 18 #[.pointer (some ⟨p, 0, none⟩)] (by simp [execOp, go_sem, Act.eval, resolve, invoke, enTReg]) ?_)
              refine (HR.out _ b1).mono ?_
              rintro e u3 ⟨rfl, y3⟩
              have b3 := b1.trans (y3.mono b1.size)
              have s3 := HS.out _ b3
              refine ⟨s3, ?_⟩
              simp only [List.getElem_toArray, List.getElem_cons_succ, List.getElem_cons_zero, Act.put, List.setIfInBounds_toArray, List.set_cons_succ, List.set_cons_zero]
              refine wpAnyH_take (i := 12) (v := (.bool zb)) rfl (by kernel_rfl) (by kernel_rfl) (by kernel_rfl) (fun _ _ _ h => h) (.inl ⟨rfl, fun _ hS => by go_simp⟩) s3 ?_
              simp only [List.getElem_toArray, List.getElem_cons_succ, List.getElem_cons_zero, Act.put, List.setIfInBounds_toArray, List.set_cons_succ, List.set_cons_zero]
              refine wpAnyH_take (i := 19) (v := (.bool false)) rfl (by kernel_rfl) (by kernel_rfl) (by kernel_rfl) (fun _ _ _ h => h) (.inl ⟨rfl, fun _ hS => by cases zb <;> go_simp⟩) s3 ?_
              simp only [List.getElem_toArray, List.getElem_cons_succ, List.getElem_cons_zero, Act.put, List.setIfInBounds_toArray, List.set_cons_succ, List.set_cons_zero]
              refine wpAnyH_take (i := 20) (v := (.bool false)) rfl (by kernel_rfl) (by kernel_rfl) (by kernel_rfl) (fun _ _ _ h => h) (.inl ⟨rfl, fun _ hS => by go_simp⟩) s3 ?_
              simp only [List.getElem_toArray, List.getElem_cons_succ, List.getElem_cons_zero, Act.put, List.setIfInBounds_toArray, List.set_cons_succ, List.set_cons_zero]
              refine wpAnyH_take (i := 21) (v := (.bool false)) rfl (by kernel_rfl) (by kernel_rfl) (by kernel_rfl) (fun _ _ _ h => h) (.inl ⟨rfl, fun _ hS => rfl⟩) s3 ?_
              simp only [List.getElem_toArray, List.getElem_cons_succ, List.getElem_cons_zero, Act.put, List.setIfInBounds_toArray, List.set_cons_succ, List.set_cons_zero]
              refine wpAnyH_take (i := 22) (v := (.pointer (some ⟨p, 0, none⟩))) rfl (by kernel_rfl) (by kernel_rfl) (by kernel_rfl) (fun _ _ _ h => h) (.inl ⟨rfl, fun _ hS => rfl⟩) s3 ?_
              simp only [List.getElem_toArray, List.getElem_cons_succ, List.getElem_cons_zero, Act.put, List.setIfInBounds_toArray, List.set_cons_succ, List.set_cons_zero]
              refine wpAnyH_take (i := 24) (v := (.pointer (some ⟨q, 0, none⟩))) rfl (by kernel_rfl) (by kernel_rfl) (by kernel_rfl) (fun _ _ _ h => h) (.inl ⟨rfl, fun _ hS => rfl⟩) s3 ?_
              simp only [List.getElem_toArray, List.getElem_cons_succ, List.getElem_cons_zero, Act.put, List.setIfInBounds_toArray, List.set_cons_succ, List.set_cons_zero]
              refine wpAnyH_take (i := 25) (v := (.pointer (some ⟨q, 0, none⟩))) rfl (by kernel_rfl) (by kernel_rfl) (by kernel_rfl) (fun _ _ _ h => h) (.inl ⟨rfl, fun _ hS => by simp [execOp, go_sem, Act.eval]⟩) s3 ?_
              simp only [List.getElem_toArray, List.getElem_cons_succ, List.getElem_cons_zero, Act.put, List.setIfInBounds_toArray, List.set_cons_succ, List.set_cons_zero]
              refine wpAnyH_take (i := 26) (v := (.pointer (some ⟨q, 4, none⟩))) rfl (by kernel_rfl) (by kernel_rfl) (by kernel_rfl) (fun _ _ _ h => h) (.inl ⟨rfl, fun _ hS => by simp [execOp, go_sem, Act.eval]⟩) s3 ?_
              simp only [List.getElem_toArray, List.getElem_cons_succ, List.getElem_cons_zero, Act.put, List.setIfInBounds_toArray, List.set_cons_succ, List.set_cons_zero]
              refine wpAnyH_take (i := 27) (v := (.slice a9 S.past.length c9)) rfl (by kernel_rfl) (by kernel_rfl) (by kernel_rfl) (fun _ _ _ h => h) (.inl ⟨rfl, fun _ hS => exec_load rfl rfl (load_ts hS.2)⟩) s3 ?_
              simp only [List.getElem_toArray, List.getElem_cons_succ, List.getElem_cons_zero, Act.put, List.setIfInBounds_toArray, List.set_cons_succ, List.set_cons_zero]
              refine wpAnyH_all (rs := [23]) (by kernel_rfl) (by simp) ?_
              intro k hk
              simp only [List.mem_cons, List.mem_nil_iff, or_false] at hk
              subst hk
              refine wpOp_runw rfl rfl (wp_call_fn 21 #[.pointer (some ⟨p, 0, none⟩)] (by simp [execOp, go_sem, Act.eval, resolve, invoke, enTHis]) ?_)
              refine (HH.out _ b3).mono ?_
              rintro e u4 ⟨ah, ch, rfl, w4h, y4⟩
              have b4 := b3.trans (y4.mono b3.size)
              have s4 := HS.out _ b4
              refine ⟨s4, ?_⟩
              simp only [List.getElem_toArray, List.getElem_cons_succ, List.getElem_cons_zero, Act.put, List.setIfInBounds_toArray, List.set_cons_succ, List.set_cons_zero]
              refine wpAnyH_all (rs := [28]) (by kernel_rfl) (by simp) ?_
              intro k hk
              simp only [List.mem_cons, List.mem_nil_iff, or_false] at hk
              subst hk
              refine wpOp_runw rfl rfl (wp_call_fn 20 #[.slice ah S.past.length ch, .slice a9 S.past.length c9] (by simp [execOp, go_sem, Act.eval, resolve, invoke, enTSame]) ?_)
              refine (HSa.out _ _ b4 w4h).mono ?_
              rintro e u5 ⟨rfl, n5, hu5⟩
              have b5 : Below Y2.heap.size Y2 u5 := by rw [hu5]; exact below_drawn b4 n5
              have s5 := HS.out _ b5
              clear hu5
              refine ⟨s5, ?_⟩
              simp only [List.getElem_toArray, List.getElem_cons_succ, List.getElem_cons_zero, Act.put, List.setIfInBounds_toArray, List.set_cons_succ, List.set_cons_zero]
              refine wpAnyH_take (i := 29) (v := (.bool false)) rfl (by kernel_rfl) (by kernel_rfl) (by kernel_rfl) (fun _ _ _ h => h) (.inl ⟨rfl, fun _ hS => by go_simp⟩) s5 ?_
              simp only [List.getElem_toArray, List.getElem_cons_succ, List.getElem_cons_zero, Act.put, List.setIfInBounds_toArray, List.set_cons_succ, List.set_cons_zero]
              refine wpAnyH_take (i := 30) (v := (.bool false)) rfl (by kernel_rfl) (by kernel_rfl) (by kernel_rfl) (fun _ _ _ h => h) (.inl ⟨rfl, fun _ hS => by go_simp⟩) s5 ?_
              simp only [List.getElem_toArray, List.getElem_cons_succ, List.getElem_cons_zero, Act.put, List.setIfInBounds_toArray, List.set_cons_succ, List.set_cons_zero]
              refine wpAnyH_take (i := 31) (v := (.bool false)) rfl (by kernel_rfl) (by kernel_rfl) (by kernel_rfl) (fun _ _ _ h => h) (.inl ⟨rfl, fun _ hS => rfl⟩) s5 ?_
              simp only [List.getElem_toArray, List.getElem_cons_succ, List.getElem_cons_zero, Act.put, List.setIfInBounds_toArray, List.set_cons_succ, List.set_cons_zero]
              refine wpAnyH_take (i := 32) (v := (.pointer (some ⟨p, 0, none⟩))) rfl (by kernel_rfl) (by kernel_rfl) (by kernel_rfl) (fun _ _ _ h => h) (.inl ⟨rfl, fun _ hS => rfl⟩) s5 ?_
              simp only [List.getElem_toArray, List.getElem_cons_succ, List.getElem_cons_zero, Act.put, List.setIfInBounds_toArray, List.set_cons_succ, List.set_cons_zero]
              refine wpAnyH_take (i := 34) (v := (.pointer (some ⟨q, 0, none⟩))) rfl (by kernel_rfl) (by kernel_rfl) (by kernel_rfl) (fun _ _ _ h => h) (.inl ⟨rfl, fun _ hS => rfl⟩) s5 ?_
              simp only [List.getElem_toArray, List.getElem_cons_succ, List.getElem_cons_zero, Act.put, List.setIfInBounds_toArray, List.set_cons_succ, List.set_cons_zero]
              refine wpAnyH_take (i := 35) (v := (.pointer (some ⟨q, 0, none⟩))) rfl (by kernel_rfl) (by kernel_rfl) (by kernel_rfl) (fun _ _ _ h => h) (.inl ⟨rfl, fun _ hS => by simp [execOp, go_sem, Act.eval]⟩) s5 ?_
              simp only [List.getElem_toArray, List.getElem_cons_succ, List.getElem_cons_zero, Act.put, List.setIfInBounds_toArray, List.set_cons_succ, List.set_cons_zero]
              refine wpAnyH_take (i := 36) (v := (.pointer (some ⟨q, 3, none⟩))) rfl (by kernel_rfl) (by kernel_rfl) (by kernel_rfl) (fun _ _ _ h => h) (.inl ⟨rfl, fun _ hS => by simp [execOp, go_sem, Act.eval]⟩) s5 ?_
              simp only [List.getElem_toArray, List.getElem_cons_succ, List.getElem_cons_zero, Act.put, List.setIfInBounds_toArray, List.set_cons_succ, List.set_cons_zero]
              refine wpAnyH_take (i := 37) (v := (.slice an S.now.length cn)) rfl (by kernel_rfl) (by kernel_rfl) (by kernel_rfl) (fun _ _ _ h => h) (.inl ⟨rfl, fun _ hS => exec_load rfl rfl (load_ts hS.1)⟩) s5 ?_
              simp only [List.getElem_toArray, List.getElem_cons_succ, List.getElem_cons_zero, Act.put, List.setIfInBounds_toArray, List.set_cons_succ, List.set_cons_zero]
              refine wpAnyH_all (rs := [33]) (by kernel_rfl) (by simp) ?_
              intro k hk
              simp only [List.mem_cons, List.mem_nil_iff, or_false] at hk
              subst hk
              refine wpOp_runw rfl rfl (wp_call_fn 22 #[.pointer (some ⟨p, 0, none⟩)] (by simp [execOp, go_sem, Act.eval, resolve, invoke, enTNow]) ?_)
              refine (HNw.out _ b5).mono ?_
              rintro e u6 ⟨ah6, ch6, rfl, w6h, y6⟩
              have b6 := b5.trans (y6.mono b5.size)
              have s6 := HS.out _ b6
              refine ⟨s6, ?_⟩
              simp only [List.getElem_toArray, List.getElem_cons_succ, List.getElem_cons_zero, Act.put, List.setIfInBounds_toArray, List.set_cons_succ, List.set_cons_zero]
              refine wpAnyH_all (rs := [38]) (by kernel_rfl) (by simp) ?_
              intro k hk
              simp only [List.mem_cons, List.mem_nil_iff, or_false] at hk
              subst hk
              refine wpOp_runw rfl rfl (wp_call_fn 20 #[.slice ah6 S.now.length ch6, .slice an S.now.length cn] (by simp [execOp, go_sem, Act.eval, resolve, invoke, enTSame]) ?_)
              refine (HSn.out _ _ b6 w6h).mono ?_
              rintro e u7 ⟨rfl, n7, hu7⟩
              have b7 : Below Y2.heap.size Y2 u7 := by rw [hu7]; exact below_drawn b6 n7
              have s7 := HS.out _ b7
              clear hu7
              refine ⟨s7, ?_⟩
              simp only [List.getElem_toArray, List.getElem_cons_succ, List.getElem_cons_zero, Act.put, List.setIfInBounds_toArray, List.set_cons_succ, List.set_cons_zero]
              refine wpAnyH_take (i := 39) (v := (.bool false)) rfl (by kernel_rfl) (by kernel_rfl) (by kernel_rfl) (fun _ _ _ h => h) (.inl ⟨rfl, fun _ hS => by go_simp⟩) s7 ?_
              simp only [List.getElem_toArray, List.getElem_cons_succ, List.getElem_cons_zero, Act.put, List.setIfInBounds_toArray, List.set_cons_succ, List.set_cons_zero]
              refine wpAnyH_take (i := 40) (v := (.bool false)) rfl (by kernel_rfl) (by kernel_rfl) (by kernel_rfl) (fun _ _ _ h => h) (.inl ⟨rfl, fun _ hS => by go_simp⟩) s7 ?_
              simp only [List.getElem_toArray, List.getElem_cons_succ, List.getElem_cons_zero, Act.put, List.setIfInBounds_toArray, List.set_cons_succ, List.set_cons_zero]
              refine wpAnyH_done (by kernel_rfl) ?_ _
              have HF := hidOf2 (HJ9.out.same b7)
              clear HJ9 HS HR HRd HH HNw HSa HSn b0 b1 b3 b4 b5 b6 b7 s0 s1 s3 s4 s5 s6 s7 w4h w6h y1 y3 y4 y6 hz1 hz2
              go_wp2_with fail
              go_roundw
              case rel => exact ⟨k + 1, _, _, by omega, rfl, HF.out⟩
              case measure => simp [intOf]; omega
            · have d39 : (kd == 3) = false := by simp [h3]
              by_cases h4 : kd = 4
              · subst h4
                clear h0 d09 h1 d19 h2 d29 h3 d39
                have hP1 := forgetP hJ.pt
                have HD2 : Hid (∀ u, Jh p p q w u D s s.forget → u.cell? ⟨q, 4, none⟩ ≠ none ∧ ∃ D', Jt p p q (k + 1) w (u.setCell ⟨q, 4, none⟩ (.slice none 0 0)) D' s.forget) := fun u j => ⟨by
                  obtain ⟨_, _, _, hd⟩ := j.dt
                  rw [hd.cells.2.2.2.2.1]
                  simp, j.forget hln⟩
                have HJ1 := hidOf2 hJ
                have HC4 : Hid (∀ u, Jh p p q w u D s s.forget → ∃ a c, u.cell? ⟨q, 4, none⟩ = some (.slice a s.past.length c) ∧ u.frozen? ⟨q, 4, none⟩ = false) := fun u j => by
                  obtain ⟨_, vo, _, hd⟩ := j.dt
                  obtain ⟨a, c, hv⟩ := hd.ro.shape
                  subst hv
                  exact ⟨a, c, hd.cells.2.2.2.2.1, hd.cells.2.2.2.2.2.2 4⟩
                clear hJ r0 HX hln hft hh hqq hL16
                go_upto_region 24 with (go_at_call 17; refine hP1.mono ?_; rintro e u1 ⟨rfl, t1, k1⟩)
                have j1 := HJ1.out.first t1 k1
                obtain ⟨a4, c4, x4, f4⟩ := HC4.out u1 j1
                have HJ := hidOf2 (show ∃ D' S, Jt p p q (k + 1) w (u1.setCell ⟨q, 4, none⟩ (.slice none 0 0)) D' S from by
                  obtain ⟨D', j2⟩ := (HD2.out u1 j1).2
                  exact ⟨_, _, j2⟩)
                clear HD2 HJ1 HC4 hP1 t1 k1 j1
                go_upto_region 25 with fail
                obtain ⟨W9, hW9⟩ : ∃ x, u1.setCell ⟨q, 4, none⟩ (.slice none 0 0) = x := ⟨_, rfl⟩
                rw [hW9] at HJ ⊢
                clear hW9 x4 f4
                obtain ⟨D9, S, J⟩ := HJ.out
                obtain ⟨vn, vo, vf, hdv⟩ := J.dt
                obtain ⟨an, cn, hvn⟩ := hdv.rn.shape
                subst hvn
                obtain ⟨a9, c9, hvo⟩ := hdv.ro.shape
                subst hvo
                have hl1 := J.len
                have hl9 : S.now.length ≤ 2305843009213693951 := by omega
                have hl8 : S.now.length * 8 ≤ 140737488355328 := by omega
                have hp9 : S.past.length ≤ 2305843009213693951 := by have := J.fit; have := J.pt.ok.h2; unfold Te.Fit at *; omega
                have HS : Hid (∀ z, Below W9.heap.size W9 z → z.cell? ⟨q, 3, none⟩ = some (.slice an S.now.length cn) ∧ z.cell? ⟨q, 4, none⟩ = some (.slice a9 S.past.length c9)) := fun z hz => ⟨(hdv.below hz).cells.2.2.2.1, (hdv.below hz).cells.2.2.2.2.1⟩
                have HR : Hid (∀ z, Below W9.heap.size W9 z → Calls Try.prog 18 #[.pointer (some ⟨p, 0, none⟩)] z fun e w' => e = .returned (.int .u8 (reg S.now)) ∧ Below z.heap.size z w') := fun z hz => regP (J.same hz).pt hl9
                have HRd : Hid (∀ z, Below W9.heap.size W9 z → Calls Try.prog 19 #[.pointer (some ⟨q, 0, none⟩)] z fun e w' => e = .returned (.int .u8 (reg S.now)) ∧ w' = z) := fun z hz => dreg_any (hdv.below hz) hl9
                have HH := hidOf2 (fun (z : World) (hz : Below W9.heap.size W9 z) => histP (J.same hz).pt)
                have HNw := hidOf2 (fun (z : World) (hz : Below W9.heap.size W9 z) => nowP (J.same hz).pt hl8)
                have HSa : Hid (∀ (z : World) (va : Value), Below W9.heap.size W9 z → Wide 7 Tr.cs z va S.past → Calls Try.prog 20 #[va, .slice a9 S.past.length c9] z fun e w' => e = .returned (.bool true) ∧ ∃ n, w' = z.drewN n) := fun z va hz ha => same_any va _ S.past z ha (hdv.below hz).ro hp9
                have HSn : Hid (∀ (z : World) (va : Value), Below W9.heap.size W9 z → Wide 7 Tr.cs z va S.now → Calls Try.prog 20 #[va, .slice an S.now.length cn] z fun e w' => e = .returned (.bool true) ∧ ∃ n, w' = z.drewN n) := fun z va hz ha => same_any va _ S.now z ha (hdv.below hz).rn hl9
                obtain ⟨zb, hzb⟩ : ∃ c : Bool, decide (S.now = []) = c := ⟨_, rfl⟩
                have hz1 : (((reg S.now : Nat) : Int) == 0) = zb := by
                  rw [← hzb, Bool.eq_iff_iff, beq_iff_eq, decide_eq_true_eq, ← reg_zero]
                  omega
                have hz2 : (((S.now.length : Nat) : Int) == 0) = zb := by
                  rw [← hzb, Bool.eq_iff_iff, beq_iff_eq, decide_eq_true_eq, ← List.length_eq_zero_iff]
                  omega
                have HJ9 := hidOf2 J
                have b0 : Below W9.heap.size W9 W9.drew := below_drawn (Below.refl _ _) 1
                have s0 := HS.out _ b0
                generalize reg S.now = RG at *
                clear hzb hdv J HJ
                refine wp_region_held (S := fun z : World => z.cell? ⟨q, 3, none⟩ = some (.slice an S.now.length cn) ∧ z.cell? ⟨q, 4, none⟩ = some (.slice a9 S.past.length c9)) (by kernel_rfl) ?_
                change wpAnyH _ _ _ _ _ _ _ _ W9.drew
                refine wpAnyH_take (i := 0) (v := (.bool true)) rfl (by kernel_rfl) (by kernel_rfl) (by kernel_rfl) (fun _ _ _ h => h) (.inl ⟨rfl, fun _ hS => rfl⟩) s0 ?_
                simp only [List.getElem_toArray, List.getElem_cons_succ, List.getElem_cons_zero, Act.put, List.setIfInBounds_toArray, List.set_cons_succ, List.set_cons_zero]
                refine wpAnyH_take (i := 1) (v := (.bool false)) rfl (by kernel_rfl) (by kernel_rfl) (by kernel_rfl) (fun _ _ _ h => h) (.inl ⟨rfl, fun _ hS => by go_simp⟩) s0 ?_
                simp only [List.getElem_toArray, List.getElem_cons_succ, List.getElem_cons_zero, Act.put, List.setIfInBounds_toArray, List.set_cons_succ, List.set_cons_zero]
                refine wpAnyH_take (i := 2) (v := (.bool false)) rfl (by kernel_rfl) (by kernel_rfl) (by kernel_rfl) (fun _ _ _ h => h) (.inl ⟨rfl, fun _ hS => rfl⟩) s0 ?_
                simp only [List.getElem_toArray, List.getElem_cons_succ, List.getElem_cons_zero, Act.put, List.setIfInBounds_toArray, List.set_cons_succ, List.set_cons_zero]
                refine wpAnyH_take (i := 3) (v := (.pointer (some ⟨p, 0, none⟩))) rfl (by kernel_rfl) (by kernel_rfl) (by kernel_rfl) (fun _ _ _ h => h) (.inl ⟨rfl, fun _ hS => rfl⟩) s0 ?_
                simp only [List.getElem_toArray, List.getElem_cons_succ, List.getElem_cons_zero, Act.put, List.setIfInBounds_toArray, List.set_cons_succ, List.set_cons_zero]
                refine wpAnyH_take (i := 5) (v := (.pointer (some ⟨q, 0, none⟩))) rfl (by kernel_rfl) (by kernel_rfl) (by kernel_rfl) (fun _ _ _ h => h) (.inl ⟨rfl, fun _ hS => rfl⟩) s0 ?_
                simp only [List.getElem_toArray, List.getElem_cons_succ, List.getElem_cons_zero, Act.put, List.setIfInBounds_toArray, List.set_cons_succ, List.set_cons_zero]
                refine wpAnyH_all (rs := [4]) (by kernel_rfl) (by simp) ?_
                intro k hk
                simp only [List.mem_cons, List.mem_nil_iff, or_false] at hk
                subst hk
                refine wpOp_runw rfl rfl (wp_call_fn 18 #[.pointer (some ⟨p, 0, none⟩)] (by simp [execOp, go_sem, Act.eval, resolve, invoke, enTReg]) ?_)
                refine (HR.out _ b0).mono ?_
                rintro e u1 ⟨rfl, y1⟩
                have b1 := b0.trans (y1.mono b0.size)
                have s1 := HS.out _ b1
                refine ⟨s1, ?_⟩
                simp only [List.getElem_toArray, List.getElem_cons_succ, List.getElem_cons_zero, Act.put, List.setIfInBounds_toArray, List.set_cons_succ, List.set_cons_zero]
                refine wpAnyH_all (rs := [6]) (by kernel_rfl) (by simp) ?_
                intro k hk
                simp only [List.mem_cons, List.mem_nil_iff, or_false] at hk
                subst hk
                refine wpOp_runw rfl rfl (wp_call_fn 19 #[.pointer (some ⟨q, 0, none⟩)] (by simp [execOp, go_sem, Act.eval, resolve, invoke, enTDReg]) ?_)
                refine (HRd.out _ b1).mono ?_
                rintro e u ⟨rfl, hu⟩
                rw [hu]
                clear hu
                refine ⟨s1, ?_⟩
                simp only [List.getElem_toArray, List.getElem_cons_succ, List.getElem_cons_zero, Act.put, List.setIfInBounds_toArray, List.set_cons_succ, List.set_cons_zero]
                refine wpAnyH_take (i := 7) (v := (.bool false)) rfl (by kernel_rfl) (by kernel_rfl) (by kernel_rfl) (fun _ _ _ h => h) (.inl ⟨rfl, fun _ hS => by go_simp⟩) s1 ?_
                simp only [List.getElem_toArray, List.getElem_cons_succ, List.getElem_cons_zero, Act.put, List.setIfInBounds_toArray, List.set_cons_succ, List.set_cons_zero]
                refine wpAnyH_take (i := 8) (v := (.bool false)) rfl (by kernel_rfl) (by kernel_rfl) (by kernel_rfl) (fun _ _ _ h => h) (.inl ⟨rfl, fun _ hS => by go_simp⟩) s1 ?_
                simp only [List.getElem_toArray, List.getElem_cons_succ, List.getElem_cons_zero, Act.put, List.setIfInBounds_toArray, List.set_cons_succ, List.set_cons_zero]
                refine wpAnyH_take (i := 9) (v := (.bool false)) rfl (by kernel_rfl) (by kernel_rfl) (by kernel_rfl) (fun _ _ _ h => h) (.inl ⟨rfl, fun _ hS => rfl⟩) s1 ?_
                simp only [List.getElem_toArray, List.getElem_cons_succ, List.getElem_cons_zero, Act.put, List.setIfInBounds_toArray, List.set_cons_succ, List.set_cons_zero]
                refine wpAnyH_take (i := 10) (v := (.pointer (some ⟨p, 0, none⟩))) rfl (by kernel_rfl) (by kernel_rfl) (by kernel_rfl) (fun _ _ _ h => h) (.inl ⟨rfl, fun _ hS => rfl⟩) s1 ?_
                simp only [List.getElem_toArray, List.getElem_cons_succ, List.getElem_cons_zero, Act.put, List.setIfInBounds_toArray, List.set_cons_succ, List.set_cons_zero]
                refine wpAnyH_take (i := 13) (v := (.pointer (some ⟨q, 0, none⟩))) rfl (by kernel_rfl) (by kernel_rfl) (by kernel_rfl) (fun _ _ _ h => h) (.inl ⟨rfl, fun _ hS => rfl⟩) s1 ?_
                simp only [List.getElem_toArray, List.getElem_cons_succ, List.getElem_cons_zero, Act.put, List.setIfInBounds_toArray, List.set_cons_succ, List.set_cons_zero]
                refine wpAnyH_take (i := 14) (v := (.pointer (some ⟨q, 0, none⟩))) rfl (by kernel_rfl) (by kernel_rfl) (by kernel_rfl) (fun _ _ _ h => h) (.inl ⟨rfl, fun _ hS => by simp [execOp, go_sem, Act.eval]⟩) s1 ?_
                simp only [List.getElem_toArray, List.getElem_cons_succ, List.getElem_cons_zero, Act.put, List.setIfInBounds_toArray, List.set_cons_succ, List.set_cons_zero]
                refine wpAnyH_take (i := 15) (v := (.pointer (some ⟨q, 3, none⟩))) rfl (by kernel_rfl) (by kernel_rfl) (by kernel_rfl) (fun _ _ _ h => h) (.inl ⟨rfl, fun _ hS => by simp [execOp, go_sem, Act.eval]⟩) s1 ?_
                simp only [List.getElem_toArray, List.getElem_cons_succ, List.getElem_cons_zero, Act.put, List.setIfInBounds_toArray, List.set_cons_succ, List.set_cons_zero]
                refine wpAnyH_take (i := 16) (v := (.slice an S.now.length cn)) rfl (by kernel_rfl) (by kernel_rfl) (by kernel_rfl) (fun _ _ _ h => h) (.inl ⟨rfl, fun _ hS => exec_load rfl rfl (load_ts hS.1)⟩) s1 ?_
                simp only [List.getElem_toArray, List.getElem_cons_succ, List.getElem_cons_zero, Act.put, List.setIfInBounds_toArray, List.set_cons_succ, List.set_cons_zero]
                refine wpAnyH_take (i := 17) (v := (.int .i64 (S.now.length : Nat))) rfl (by kernel_rfl) (by kernel_rfl) (by kernel_rfl) (fun _ _ _ h => h) (.inl ⟨rfl, fun _ hS => exec_lenT rfl rfl _⟩) s1 ?_
                simp only [List.getElem_toArray, List.getElem_cons_succ, List.getElem_cons_zero, Act.put, List.setIfInBounds_toArray, List.set_cons_succ, List.set_cons_zero]
                refine wpAnyH_take (i := 18) (v := (.bool zb)) rfl (by kernel_rfl) (by kernel_rfl) (by kernel_rfl) (fun _ _ _ h => h) (.inl ⟨rfl, fun _ hS => by go_simp⟩) s1 ?_
                simp only [List.getElem_toArray, List.getElem_cons_succ, List.getElem_cons_zero, Act.put, List.setIfInBounds_toArray, List.set_cons_succ, List.set_cons_zero]
                refine wpAnyH_all (rs := [11]) (by kernel_rfl) (by simp) ?_
                intro k hk
                simp only [List.mem_cons, List.mem_nil_iff, or_false] at hk
                subst hk
                refine wpOp_runw rfl rfl (wp_call_fn 18 #[.pointer (some ⟨p, 0, none⟩)] (by simp [execOp, go_sem, Act.eval, resolve, invoke, enTReg]) ?_)
                refine (HR.out _ b1).mono ?_
                rintro e u3 ⟨rfl, y3⟩
                have b3 := b1.trans (y3.mono b1.size)
                have s3 := HS.out _ b3
                refine ⟨s3, ?_⟩
                simp only [List.getElem_toArray, List.getElem_cons_succ, List.getElem_cons_zero, Act.put, List.setIfInBounds_toArray, List.set_cons_succ, List.set_cons_zero]
                refine wpAnyH_take (i := 12) (v := (.bool zb)) rfl (by kernel_rfl) (by kernel_rfl) (by kernel_rfl) (fun _ _ _ h => h) (.inl ⟨rfl, fun _ hS => by go_simp⟩) s3 ?_
                simp only [List.getElem_toArray, List.getElem_cons_succ, List.getElem_cons_zero, Act.put, List.setIfInBounds_toArray, List.set_cons_succ, List.set_cons_zero]
                refine wpAnyH_take (i := 19) (v := (.bool false)) rfl (by kernel_rfl) (by kernel_rfl) (by kernel_rfl) (fun _ _ _ h => h) (.inl ⟨rfl, fun _ hS => by cases zb <;> go_simp⟩) s3 ?_
                simp only [List.getElem_toArray, List.getElem_cons_succ, List.getElem_cons_zero, Act.put, List.setIfInBounds_toArray, List.set_cons_succ, List.set_cons_zero]
                refine wpAnyH_take (i := 20) (v := (.bool false)) rfl (by kernel_rfl) (by kernel_rfl) (by kernel_rfl) (fun _ _ _ h => h) (.inl ⟨rfl, fun _ hS => by go_simp⟩) s3 ?_
                simp only [List.getElem_toArray, List.getElem_cons_succ, List.getElem_cons_zero, Act.put, List.setIfInBounds_toArray, List.set_cons_succ, List.set_cons_zero]
                refine wpAnyH_take (i := 21) (v := (.bool false)) rfl (by kernel_rfl) (by kernel_rfl) (by kernel_rfl) (fun _ _ _ h => h) (.inl ⟨rfl, fun _ hS => rfl⟩) s3 ?_
                simp only [List.getElem_toArray, List.getElem_cons_succ, List.getElem_cons_zero, Act.put, List.setIfInBounds_toArray, List.set_cons_succ, List.set_cons_zero]
                refine wpAnyH_take (i := 22) (v := (.pointer (some ⟨p, 0, none⟩))) rfl (by kernel_rfl) (by kernel_rfl) (by kernel_rfl) (fun _ _ _ h => h) (.inl ⟨rfl, fun _ hS => rfl⟩) s3 ?_
                simp only [List.getElem_toArray, List.getElem_cons_succ, List.getElem_cons_zero, Act.put, List.setIfInBounds_toArray, List.set_cons_succ, List.set_cons_zero]
                refine wpAnyH_take (i := 24) (v := (.pointer (some ⟨q, 0, none⟩))) rfl (by kernel_rfl) (by kernel_rfl) (by kernel_rfl) (fun _ _ _ h => h) (.inl ⟨rfl, fun _ hS => rfl⟩) s3 ?_
                simp only [List.getElem_toArray, List.getElem_cons_succ, List.getElem_cons_zero, Act.put, List.setIfInBounds_toArray, List.set_cons_succ, List.set_cons_zero]
                refine wpAnyH_take (i := 25) (v := (.pointer (some ⟨q, 0, none⟩))) rfl (by kernel_rfl) (by kernel_rfl) (by kernel_rfl) (fun _ _ _ h => h) (.inl ⟨rfl, fun _ hS => by simp [execOp, go_sem, Act.eval]⟩) s3 ?_
                simp only [List.getElem_toArray, List.getElem_cons_succ, List.getElem_cons_zero, Act.put, List.setIfInBounds_toArray, List.set_cons_succ, List.set_cons_zero]
                refine wpAnyH_take (i := 26) (v := (.pointer (some ⟨q, 4, none⟩))) rfl (by kernel_rfl) (by kernel_rfl) (by kernel_rfl) (fun _ _ _ h => h) (.inl ⟨rfl, fun _ hS => by simp [execOp, go_sem, Act.eval]⟩) s3 ?_
                simp only [List.getElem_toArray, List.getElem_cons_succ, List.getElem_cons_zero, Act.put, List.setIfInBounds_toArray, List.set_cons_succ, List.set_cons_zero]
                refine wpAnyH_take (i := 27) (v := (.slice a9 S.past.length c9)) rfl (by kernel_rfl) (by kernel_rfl) (by kernel_rfl) (fun _ _ _ h => h) (.inl ⟨rfl, fun _ hS => exec_load rfl rfl (load_ts hS.2)⟩) s3 ?_
                simp only [List.getElem_toArray, List.getElem_cons_succ, List.getElem_cons_zero, Act.put, List.setIfInBounds_toArray, List.set_cons_succ, List.set_cons_zero]
                refine wpAnyH_all (rs := [23]) (by kernel_rfl) (by simp) ?_
                intro k hk
                simp only [List.mem_cons, List.mem_nil_iff, or_false] at hk
                subst hk
                refine wpOp_runw rfl rfl (wp_call_fn 21 #[.pointer (some ⟨p, 0, none⟩)] (by simp [execOp, go_sem, Act.eval, resolve, invoke, enTHis]) ?_)
                refine (HH.out _ b3).mono ?_
                rintro e u4 ⟨ah, ch, rfl, w4h, y4⟩
                have b4 := b3.trans (y4.mono b3.size)
                have s4 := HS.out _ b4
                refine ⟨s4, ?_⟩
                simp only [List.getElem_toArray, List.getElem_cons_succ, List.getElem_cons_zero, Act.put, List.setIfInBounds_toArray, List.set_cons_succ, List.set_cons_zero]
                refine wpAnyH_all (rs := [28]) (by kernel_rfl) (by simp) ?_
                intro k hk
                simp only [List.mem_cons, List.mem_nil_iff, or_false] at hk
                subst hk
                refine wpOp_runw rfl rfl (wp_call_fn 20 #[.slice ah S.past.length ch, .slice a9 S.past.length c9] (by simp [execOp, go_sem, Act.eval, resolve, invoke, enTSame]) ?_)
                refine (HSa.out _ _ b4 w4h).mono ?_
                rintro e u5 ⟨rfl, n5, hu5⟩
                have b5 : Below W9.heap.size W9 u5 := by rw [hu5]; exact below_drawn b4 n5
                have s5 := HS.out _ b5
                clear hu5
                refine ⟨s5, ?_⟩
                simp only [List.getElem_toArray, List.getElem_cons_succ, List.getElem_cons_zero, Act.put, List.setIfInBounds_toArray, List.set_cons_succ, List.set_cons_zero]
                refine wpAnyH_take (i := 29) (v := (.bool false)) rfl (by kernel_rfl) (by kernel_rfl) (by kernel_rfl) (fun _ _ _ h => h) (.inl ⟨rfl, fun _ hS => by go_simp⟩) s5 ?_
                simp only [List.getElem_toArray, List.getElem_cons_succ, List.getElem_cons_zero, Act.put, List.setIfInBounds_toArray, List.set_cons_succ, List.set_cons_zero]
                refine wpAnyH_take (i := 30) (v := (.bool false)) rfl (by kernel_rfl) (by kernel_rfl) (by kernel_rfl) (fun _ _ _ h => h) (.inl ⟨rfl, fun _ hS => by go_simp⟩) s5 ?_
                simp only [List.getElem_toArray, List.getElem_cons_succ, List.getElem_cons_zero, Act.put, List.setIfInBounds_toArray, List.set_cons_succ, List.set_cons_zero]
                refine wpAnyH_take (i := 31) (v := (.bool false)) rfl (by kernel_rfl) (by kernel_rfl) (by kernel_rfl) (fun _ _ _ h => h) (.inl ⟨rfl, fun _ hS => rfl⟩) s5 ?_
                simp only [List.getElem_toArray, List.getElem_cons_succ, List.getElem_cons_zero, Act.put, List.setIfInBounds_toArray, List.set_cons_succ, List.set_cons_zero]
                refine wpAnyH_take (i := 32) (v := (.pointer (some ⟨p, 0, none⟩))) rfl (by kernel_rfl) (by kernel_rfl) (by kernel_rfl) (fun _ _ _ h => h) (.inl ⟨rfl, fun _ hS => rfl⟩) s5 ?_
                simp only [List.getElem_toArray, List.getElem_cons_succ, List.getElem_cons_zero, Act.put, List.setIfInBounds_toArray, List.set_cons_succ, List.set_cons_zero]
                refine wpAnyH_take (i := 34) (v := (.pointer (some ⟨q, 0, none⟩))) rfl (by kernel_rfl) (by kernel_rfl) (by kernel_rfl) (fun _ _ _ h => h) (.inl ⟨rfl, fun _ hS => rfl⟩) s5 ?_
                simp only [List.getElem_toArray, List.getElem_cons_succ, List.getElem_cons_zero, Act.put, List.setIfInBounds_toArray, List.set_cons_succ, List.set_cons_zero]
                refine wpAnyH_take (i := 35) (v := (.pointer (some ⟨q, 0, none⟩))) rfl (by kernel_rfl) (by kernel_rfl) (by kernel_rfl) (fun _ _ _ h => h) (.inl ⟨rfl, fun _ hS => by simp [execOp, go_sem, Act.eval]⟩) s5 ?_
                simp only [List.getElem_toArray, List.getElem_cons_succ, List.getElem_cons_zero, Act.put, List.setIfInBounds_toArray, List.set_cons_succ, List.set_cons_zero]
                refine wpAnyH_take (i := 36) (v := (.pointer (some ⟨q, 3, none⟩))) rfl (by kernel_rfl) (by kernel_rfl) (by kernel_rfl) (fun _ _ _ h => h) (.inl ⟨rfl, fun _ hS => by simp [execOp, go_sem, Act.eval]⟩) s5 ?_
                simp only [List.getElem_toArray, List.getElem_cons_succ, List.getElem_cons_zero, Act.put, List.setIfInBounds_toArray, List.set_cons_succ, List.set_cons_zero]
                refine wpAnyH_take (i := 37) (v := (.slice an S.now.length cn)) rfl (by kernel_rfl) (by kernel_rfl) (by kernel_rfl) (fun _ _ _ h => h) (.inl ⟨rfl, fun _ hS => exec_load rfl rfl (load_ts hS.1)⟩) s5 ?_
                simp only [List.getElem_toArray, List.getElem_cons_succ, List.getElem_cons_zero, Act.put, List.setIfInBounds_toArray, List.set_cons_succ, List.set_cons_zero]
                refine wpAnyH_all (rs := [33]) (by kernel_rfl) (by simp) ?_
                intro k hk
                simp only [List.mem_cons, List.mem_nil_iff, or_false] at hk
                subst hk
                refine wpOp_runw rfl rfl (wp_call_fn 22 #[.pointer (some ⟨p, 0, none⟩)] (by simp [execOp, go_sem, Act.eval, resolve, invoke, enTNow]) ?_)
                refine (HNw.out _ b5).mono ?_
                rintro e u6 ⟨ah6, ch6, rfl, w6h, y6⟩
                have b6 := b5.trans (y6.mono b5.size)
                have s6 := HS.out _ b6
                refine ⟨s6, ?_⟩
                simp only [List.getElem_toArray, List.getElem_cons_succ, List.getElem_cons_zero, Act.put, List.setIfInBounds_toArray, List.set_cons_succ, List.set_cons_zero]
                refine wpAnyH_all (rs := [38]) (by kernel_rfl) (by simp) ?_
                intro k hk
                simp only [List.mem_cons, List.mem_nil_iff, or_false] at hk
                subst hk
                refine wpOp_runw rfl rfl (wp_call_fn 20 #[.slice ah6 S.now.length ch6, .slice an S.now.length cn] (by simp [execOp, go_sem, Act.eval, resolve, invoke, enTSame]) ?_)
                refine (HSn.out _ _ b6 w6h).mono ?_
                rintro e u7 ⟨rfl, n7, hu7⟩
                have b7 : Below W9.heap.size W9 u7 := by rw [hu7]; exact below_drawn b6 n7
                have s7 := HS.out _ b7
                clear hu7
                refine ⟨s7, ?_⟩
                simp only [List.getElem_toArray, List.getElem_cons_succ, List.getElem_cons_zero, Act.put, List.setIfInBounds_toArray, List.set_cons_succ, List.set_cons_zero]
                refine wpAnyH_take (i := 39) (v := (.bool false)) rfl (by kernel_rfl) (by kernel_rfl) (by kernel_rfl) (fun _ _ _ h => h) (.inl ⟨rfl, fun _ hS => by go_simp⟩) s7 ?_
                simp only [List.getElem_toArray, List.getElem_cons_succ, List.getElem_cons_zero, Act.put, List.setIfInBounds_toArray, List.set_cons_succ, List.set_cons_zero]
                refine wpAnyH_take (i := 40) (v := (.bool false)) rfl (by kernel_rfl) (by kernel_rfl) (by kernel_rfl) (fun _ _ _ h => h) (.inl ⟨rfl, fun _ hS => by go_simp⟩) s7 ?_
                simp only [List.getElem_toArray, List.getElem_cons_succ, List.getElem_cons_zero, Act.put, List.setIfInBounds_toArray, List.set_cons_succ, List.set_cons_zero]
                refine wpAnyH_done (by kernel_rfl) ?_ _
                have HF := hidOf2 (HJ9.out.same b7)
                clear HJ9 HS HR HRd HH HNw HSa HSn b0 b1 b3 b4 b5 b6 b7 s0 s1 s3 s4 s5 s6 s7 w4h w6h y1 y3 y4 y6 hz1 hz2
                go_wp2_with fail
                go_roundw
                case rel => exact ⟨k + 1, _, _, by omega, rfl, HF.out⟩
                case measure => simp [intOf]; omega
              · have d49 : (kd == 4) = false := by simp [h4]
                have HJ := hidOf2 (show ∃ D' S, Jt p p q (k + 1) w wr D' S from ⟨_, _, hJ.more⟩)
                clear hJ r0 HX hln hft hh hqq hL16 h0 h1 h2 h3 h4
                go_upto_region 25 with fail
                obtain ⟨D9, S, J⟩ := HJ.out
                obtain ⟨vn, vo, vf, hdv⟩ := J.dt
                obtain ⟨an, cn, hvn⟩ := hdv.rn.shape
                subst hvn
                obtain ⟨a9, c9, hvo⟩ := hdv.ro.shape
                subst hvo
                have hl1 := J.len
                have hl9 : S.now.length ≤ 2305843009213693951 := by omega
                have hl8 : S.now.length * 8 ≤ 140737488355328 := by omega
                have hp9 : S.past.length ≤ 2305843009213693951 := by have := J.fit; have := J.pt.ok.h2; unfold Te.Fit at *; omega
                have HS : Hid (∀ z, Below wr.heap.size wr z → z.cell? ⟨q, 3, none⟩ = some (.slice an S.now.length cn) ∧ z.cell? ⟨q, 4, none⟩ = some (.slice a9 S.past.length c9)) := fun z hz => ⟨(hdv.below hz).cells.2.2.2.1, (hdv.below hz).cells.2.2.2.2.1⟩
                have HR : Hid (∀ z, Below wr.heap.size wr z → Calls Try.prog 18 #[.pointer (some ⟨p, 0, none⟩)] z fun e w' => e = .returned (.int .u8 (reg S.now)) ∧ Below z.heap.size z w') := fun z hz => regP (J.same hz).pt hl9
                have HRd : Hid (∀ z, Below wr.heap.size wr z → Calls Try.prog 19 #[.pointer (some ⟨q, 0, none⟩)] z fun e w' => e = .returned (.int .u8 (reg S.now)) ∧ w' = z) := fun z hz => dreg_any (hdv.below hz) hl9
                have HH := hidOf2 (fun (z : World) (hz : Below wr.heap.size wr z) => histP (J.same hz).pt)
                have HNw := hidOf2 (fun (z : World) (hz : Below wr.heap.size wr z) => nowP (J.same hz).pt hl8)
                have HSa : Hid (∀ (z : World) (va : Value), Below wr.heap.size wr z → Wide 7 Tr.cs z va S.past → Calls Try.prog 20 #[va, .slice a9 S.past.length c9] z fun e w' => e = .returned (.bool true) ∧ ∃ n, w' = z.drewN n) := fun z va hz ha => same_any va _ S.past z ha (hdv.below hz).ro hp9
                have HSn : Hid (∀ (z : World) (va : Value), Below wr.heap.size wr z → Wide 7 Tr.cs z va S.now → Calls Try.prog 20 #[va, .slice an S.now.length cn] z fun e w' => e = .returned (.bool true) ∧ ∃ n, w' = z.drewN n) := fun z va hz ha => same_any va _ S.now z ha (hdv.below hz).rn hl9
                obtain ⟨zb, hzb⟩ : ∃ c : Bool, decide (S.now = []) = c := ⟨_, rfl⟩
                have hz1 : (((reg S.now : Nat) : Int) == 0) = zb := by
                  rw [← hzb, Bool.eq_iff_iff, beq_iff_eq, decide_eq_true_eq, ← reg_zero]
                  omega
                have hz2 : (((S.now.length : Nat) : Int) == 0) = zb := by
                  rw [← hzb, Bool.eq_iff_iff, beq_iff_eq, decide_eq_true_eq, ← List.length_eq_zero_iff]
                  omega
                have HJ9 := hidOf2 J
                have b0 : Below wr.heap.size wr wr.drew := below_drawn (Below.refl _ _) 1
                have s0 := HS.out _ b0
                generalize reg S.now = RG at *
                clear hzb hdv J HJ
                refine wp_region_held (S := fun z : World => z.cell? ⟨q, 3, none⟩ = some (.slice an S.now.length cn) ∧ z.cell? ⟨q, 4, none⟩ = some (.slice a9 S.past.length c9)) (by kernel_rfl) ?_
                change wpAnyH _ _ _ _ _ _ _ _ wr.drew
                refine wpAnyH_take (i := 0) (v := (.bool true)) rfl (by kernel_rfl) (by kernel_rfl) (by kernel_rfl) (fun _ _ _ h => h) (.inl ⟨rfl, fun _ hS => rfl⟩) s0 ?_
                simp only [List.getElem_toArray, List.getElem_cons_succ, List.getElem_cons_zero, Act.put, List.setIfInBounds_toArray, List.set_cons_succ, List.set_cons_zero]
                refine wpAnyH_take (i := 1) (v := (.bool false)) rfl (by kernel_rfl) (by kernel_rfl) (by kernel_rfl) (fun _ _ _ h => h) (.inl ⟨rfl, fun _ hS => by go_simp⟩) s0 ?_
                simp only [List.getElem_toArray, List.getElem_cons_succ, List.getElem_cons_zero, Act.put, List.setIfInBounds_toArray, List.set_cons_succ, List.set_cons_zero]
                refine wpAnyH_take (i := 2) (v := (.bool false)) rfl (by kernel_rfl) (by kernel_rfl) (by kernel_rfl) (fun _ _ _ h => h) (.inl ⟨rfl, fun _ hS => rfl⟩) s0 ?_
                simp only [List.getElem_toArray, List.getElem_cons_succ, List.getElem_cons_zero, Act.put, List.setIfInBounds_toArray, List.set_cons_succ, List.set_cons_zero]
                refine wpAnyH_take (i := 3) (v := (.pointer (some ⟨p, 0, none⟩))) rfl (by kernel_rfl) (by kernel_rfl) (by kernel_rfl) (fun _ _ _ h => h) (.inl ⟨rfl, fun _ hS => rfl⟩) s0 ?_
                simp only [List.getElem_toArray, List.getElem_cons_succ, List.getElem_cons_zero, Act.put, List.setIfInBounds_toArray, List.set_cons_succ, List.set_cons_zero]
                refine wpAnyH_take (i := 5) (v := (.pointer (some ⟨q, 0, none⟩))) rfl (by kernel_rfl) (by kernel_rfl) (by kernel_rfl) (fun _ _ _ h => h) (.inl ⟨rfl, fun _ hS => rfl⟩) s0 ?_
                simp only [List.getElem_toArray, List.getElem_cons_succ, List.getElem_cons_zero, Act.put, List.setIfInBounds_toArray, List.set_cons_succ, List.set_cons_zero]
                refine wpAnyH_all (rs := [4]) (by kernel_rfl) (by simp) ?_
                intro k hk
                simp only [List.mem_cons, List.mem_nil_iff, or_false] at hk
                subst hk
                refine wpOp_runw rfl rfl (wp_call_fn 18 #[.pointer (some ⟨p, 0, none⟩)] (by simp [execOp, go_sem, Act.eval, resolve, invoke, enTReg]) ?_)
                refine (HR.out _ b0).mono ?_
                rintro e u1 ⟨rfl, y1⟩
                have b1 := b0.trans (y1.mono b0.size)
                have s1 := HS.out _ b1
                refine ⟨s1, ?_⟩
                simp only [List.getElem_toArray, List.getElem_cons_succ, List.getElem_cons_zero, Act.put, List.setIfInBounds_toArray, List.set_cons_succ, List.set_cons_zero]
                refine wpAnyH_all (rs := [6]) (by kernel_rfl) (by simp) ?_
                intro k hk
                simp only [List.mem_cons, List.mem_nil_iff, or_false] at hk
                subst hk
                refine wpOp_runw rfl rfl (wp_call_fn 19 #[.pointer (some ⟨q, 0, none⟩)] (by simp [execOp, go_sem, Act.eval, resolve, invoke, enTDReg]) ?_)
                refine (HRd.out _ b1).mono ?_
                rintro e u ⟨rfl, hu⟩
                rw [hu]
                clear hu
                refine ⟨s1, ?_⟩
                simp only [List.getElem_toArray, List.getElem_cons_succ, List.getElem_cons_zero, Act.put, List.setIfInBounds_toArray, List.set_cons_succ, List.set_cons_zero]
                refine wpAnyH_take (i := 7) (v := (.bool false)) rfl (by kernel_rfl) (by kernel_rfl) (by kernel_rfl) (fun _ _ _ h => h) (.inl ⟨rfl, fun _ hS => by go_simp⟩) s1 ?_
                simp only [List.getElem_toArray, List.getElem_cons_succ, List.getElem_cons_zero, Act.put, List.setIfInBounds_toArray, List.set_cons_succ, List.set_cons_zero]
                refine wpAnyH_take (i := 8) (v := (.bool false)) rfl (by kernel_rfl) (by kernel_rfl) (by kernel_rfl) (fun _ _ _ h => h) (.inl ⟨rfl, fun _ hS => by go_simp⟩) s1 ?_
                simp only [List.getElem_toArray, List.getElem_cons_succ, List.getElem_cons_zero, Act.put, List.setIfInBounds_toArray, List.set_cons_succ, List.set_cons_zero]
                refine wpAnyH_take (i := 9) (v := (.bool false)) rfl (by kernel_rfl) (by kernel_rfl) (by kernel_rfl) (fun _ _ _ h => h) (.inl ⟨rfl, fun _ hS => rfl⟩) s1 ?_
                simp only [List.getElem_toArray, List.getElem_cons_succ, List.getElem_cons_zero, Act.put, List.setIfInBounds_toArray, List.set_cons_succ, List.set_cons_zero]
                refine wpAnyH_take (i := 10) (v := (.pointer (some ⟨p, 0, none⟩))) rfl (by kernel_rfl) (by kernel_rfl) (by kernel_rfl) (fun _ _ _ h => h) (.inl ⟨rfl, fun _ hS => rfl⟩) s1 ?_
                simp only [List.getElem_toArray, List.getElem_cons_succ, List.getElem_cons_zero, Act.put, List.setIfInBounds_toArray, List.set_cons_succ, List.set_cons_zero]
                refine wpAnyH_take (i := 13) (v := (.pointer (some ⟨q, 0, none⟩))) rfl (by kernel_rfl) (by kernel_rfl) (by kernel_rfl) (fun _ _ _ h => h) (.inl ⟨rfl, fun _ hS => rfl⟩) s1 ?_
                simp only [List.getElem_toArray, List.getElem_cons_succ, List.getElem_cons_zero, Act.put, List.setIfInBounds_toArray, List.set_cons_succ, List.set_cons_zero]
                refine wpAnyH_take (i := 14) (v := (.pointer (some ⟨q, 0, none⟩))) rfl (by kernel_rfl) (by kernel_rfl) (by kernel_rfl) (fun _ _ _ h => h) (.inl ⟨rfl, fun _ hS => by simp [execOp, go_sem, Act.eval]⟩) s1 ?_
                simp only [List.getElem_toArray, List.getElem_cons_succ, List.getElem_cons_zero, Act.put, List.setIfInBounds_toArray, List.set_cons_succ, List.set_cons_zero]
                refine wpAnyH_take (i := 15) (v := (.pointer (some ⟨q, 3, none⟩))) rfl (by kernel_rfl) (by kernel_rfl) (by kernel_rfl) (fun _ _ _ h => h) (.inl ⟨rfl, fun _ hS => by simp [execOp, go_sem, Act.eval]⟩) s1 ?_
                simp only [List.getElem_toArray, List.getElem_cons_succ, List.getElem_cons_zero, Act.put, List.setIfInBounds_toArray, List.set_cons_succ, List.set_cons_zero]
                refine wpAnyH_take (i := 16) (v := (.slice an S.now.length cn)) rfl (by kernel_rfl) (by kernel_rfl) (by kernel_rfl) (fun _ _ _ h => h) (.inl ⟨rfl, fun _ hS => exec_load rfl rfl (load_ts hS.1)⟩) s1 ?_
                simp only [List.getElem_toArray, List.getElem_cons_succ, List.getElem_cons_zero, Act.put, List.setIfInBounds_toArray, List.set_cons_succ, List.set_cons_zero]
                refine wpAnyH_take (i := 17) (v := (.int .i64 (S.now.length : Nat))) rfl (by kernel_rfl) (by kernel_rfl) (by kernel_rfl) (fun _ _ _ h => h) (.inl ⟨rfl, fun _ hS => exec_lenT rfl rfl _⟩) s1 ?_
                simp only [List.getElem_toArray, List.getElem_cons_succ, List.getElem_cons_zero, Act.put, List.setIfInBounds_toArray, List.set_cons_succ, List.set_cons_zero]
                refine wpAnyH_take (i := 18) (v := (.bool zb)) rfl (by kernel_rfl) (by kernel_rfl) (by kernel_rfl) (fun _ _ _ h => h) (.inl ⟨rfl, fun _ hS => by go_simp⟩) s1 ?_
                simp only [List.getElem_toArray, List.getElem_cons_succ, List.getElem_cons_zero, Act.put, List.setIfInBounds_toArray, List.set_cons_succ, List.set_cons_zero]
                refine wpAnyH_all (rs := [11]) (by kernel_rfl) (by simp) ?_
                intro k hk
                simp only [List.mem_cons, List.mem_nil_iff, or_false] at hk
                subst hk
                refine wpOp_runw rfl rfl (wp_call_fn 18 #[.pointer (some ⟨p, 0, none⟩)] (by simp [execOp, go_sem, Act.eval, resolve, invoke, enTReg]) ?_)
                refine (HR.out _ b1).mono ?_
                rintro e u3 ⟨rfl, y3⟩
                have b3 := b1.trans (y3.mono b1.size)
                have s3 := HS.out _ b3
                refine ⟨s3, ?_⟩
                simp only [List.getElem_toArray, List.getElem_cons_succ, List.getElem_cons_zero, Act.put, List.setIfInBounds_toArray, List.set_cons_succ, List.set_cons_zero]
                refine wpAnyH_take (i := 12) (v := (.bool zb)) rfl (by kernel_rfl) (by kernel_rfl) (by kernel_rfl) (fun _ _ _ h => h) (.inl ⟨rfl, fun _ hS => by go_simp⟩) s3 ?_
                simp only [List.getElem_toArray, List.getElem_cons_succ, List.getElem_cons_zero, Act.put, List.setIfInBounds_toArray, List.set_cons_succ, List.set_cons_zero]
                refine wpAnyH_take (i := 19) (v := (.bool false)) rfl (by kernel_rfl) (by kernel_rfl) (by kernel_rfl) (fun _ _ _ h => h) (.inl ⟨rfl, fun _ hS => by cases zb <;> go_simp⟩) s3 ?_
                simp only [List.getElem_toArray, List.getElem_cons_succ, List.getElem_cons_zero, Act.put, List.setIfInBounds_toArray, List.set_cons_succ, List.set_cons_zero]
                refine wpAnyH_take (i := 20) (v := (.bool false)) rfl (by kernel_rfl) (by kernel_rfl) (by kernel_rfl) (fun _ _ _ h => h) (.inl ⟨rfl, fun _ hS => by go_simp⟩) s3 ?_
                simp only [List.getElem_toArray, List.getElem_cons_succ, List.getElem_cons_zero, Act.put, List.setIfInBounds_toArray, List.set_cons_succ, List.set_cons_zero]
                refine wpAnyH_take (i := 21) (v := (.bool false)) rfl (by kernel_rfl) (by kernel_rfl) (by kernel_rfl) (fun _ _ _ h => h) (.inl ⟨rfl, fun _ hS => rfl⟩) s3 ?_
                simp only [List.getElem_toArray, List.getElem_cons_succ, List.getElem_cons_zero, Act.put, List.setIfInBounds_toArray, List.set_cons_succ, List.set_cons_zero]
                refine wpAnyH_take (i := 22) (v := (.pointer (some ⟨p, 0, none⟩))) rfl (by kernel_rfl) (by kernel_rfl) (by kernel_rfl) (fun _ _ _ h => h) (.inl ⟨rfl, fun _ hS => rfl⟩) s3 ?_
                simp only [List.getElem_toArray, List.getElem_cons_succ, List.getElem_cons_zero, Act.put, List.setIfInBounds_toArray, List.set_cons_succ, List.set_cons_zero]
                refine wpAnyH_take (i := 24) (v := (.pointer (some ⟨q, 0, none⟩))) rfl (by kernel_rfl) (by kernel_rfl) (by kernel_rfl) (fun _ _ _ h => h) (.inl ⟨rfl, fun _ hS => rfl⟩) s3 ?_
                simp only [List.getElem_toArray, List.getElem_cons_succ, List.getElem_cons_zero, Act.put, List.setIfInBounds_toArray, List.set_cons_succ, List.set_cons_zero]
                refine wpAnyH_take (i := 25) (v := (.pointer (some ⟨q, 0, none⟩))) rfl (by kernel_rfl) (by kernel_rfl) (by kernel_rfl) (fun _ _ _ h => h) (.inl ⟨rfl, fun _ hS => by simp [execOp, go_sem, Act.eval]⟩) s3 ?_
                simp only [List.getElem_toArray, List.getElem_cons_succ, List.getElem_cons_zero, Act.put, List.setIfInBounds_toArray, List.set_cons_succ, List.set_cons_zero]
                refine wpAnyH_take (i := 26) (v := (.pointer (some ⟨q, 4, none⟩))) rfl (by kernel_rfl) (by kernel_rfl) (by kernel_rfl) (fun _ _ _ h => h) (.inl ⟨rfl, fun _ hS => by simp [execOp, go_sem, Act.eval]⟩) s3 ?_
                simp only [List.getElem_toArray, List.getElem_cons_succ, List.getElem_cons_zero, Act.put, List.setIfInBounds_toArray, List.set_cons_succ, List.set_cons_zero]
                refine wpAnyH_take (i := 27) (v := (.slice a9 S.past.length c9)) rfl (by kernel_rfl) (by kernel_rfl) (by kernel_rfl) (fun _ _ _ h => h) (.inl ⟨rfl, fun _ hS => exec_load rfl rfl (load_ts hS.2)⟩) s3 ?_
                simp only [List.getElem_toArray, List.getElem_cons_succ, List.getElem_cons_zero, Act.put, List.setIfInBounds_toArray, List.set_cons_succ, List.set_cons_zero]
                refine wpAnyH_all (rs := [23]) (by kernel_rfl) (by simp) ?_
                intro k hk
                simp only [List.mem_cons, List.mem_nil_iff, or_false] at hk
                subst hk
                refine wpOp_runw rfl rfl (wp_call_fn 21 #[.pointer (some ⟨p, 0, none⟩)] (by simp [execOp, go_sem, Act.eval, resolve, invoke, enTHis]) ?_)
                refine (HH.out _ b3).mono ?_
                rintro e u4 ⟨ah, ch, rfl, w4h, y4⟩
                have b4 := b3.trans (y4.mono b3.size)
                have s4 := HS.out _ b4
                refine ⟨s4, ?_⟩
                simp only [List.getElem_toArray, List.getElem_cons_succ, List.getElem_cons_zero, Act.put, List.setIfInBounds_toArray, List.set_cons_succ, List.set_cons_zero]
                refine wpAnyH_all (rs := [28]) (by kernel_rfl) (by simp) ?_
                intro k hk
                simp only [List.mem_cons, List.mem_nil_iff, or_false] at hk
                subst hk
                refine wpOp_runw rfl rfl (wp_call_fn 20 #[.slice ah S.past.length ch, .slice a9 S.past.length c9] (by simp [execOp, go_sem, Act.eval, resolve, invoke, enTSame]) ?_)
                refine (HSa.out _ _ b4 w4h).mono ?_
                rintro e u5 ⟨rfl, n5, hu5⟩
                have b5 : Below wr.heap.size wr u5 := by rw [hu5]; exact below_drawn b4 n5
                have s5 := HS.out _ b5
                clear hu5
                refine ⟨s5, ?_⟩
                simp only [List.getElem_toArray, List.getElem_cons_succ, List.getElem_cons_zero, Act.put, List.setIfInBounds_toArray, List.set_cons_succ, List.set_cons_zero]
                refine wpAnyH_take (i := 29) (v := (.bool false)) rfl (by kernel_rfl) (by kernel_rfl) (by kernel_rfl) (fun _ _ _ h => h) (.inl ⟨rfl, fun _ hS => by go_simp⟩) s5 ?_
                simp only [List.getElem_toArray, List.getElem_cons_succ, List.getElem_cons_zero, Act.put, List.setIfInBounds_toArray, List.set_cons_succ, List.set_cons_zero]
                refine wpAnyH_take (i := 30) (v := (.bool false)) rfl (by kernel_rfl) (by kernel_rfl) (by kernel_rfl) (fun _ _ _ h => h) (.inl ⟨rfl, fun _ hS => by go_simp⟩) s5 ?_
                simp only [List.getElem_toArray, List.getElem_cons_succ, List.getElem_cons_zero, Act.put, List.setIfInBounds_toArray, List.set_cons_succ, List.set_cons_zero]
                refine wpAnyH_take (i := 31) (v := (.bool false)) rfl (by kernel_rfl) (by kernel_rfl) (by kernel_rfl) (fun _ _ _ h => h) (.inl ⟨rfl, fun _ hS => rfl⟩) s5 ?_
                simp only [List.getElem_toArray, List.getElem_cons_succ, List.getElem_cons_zero, Act.put, List.setIfInBounds_toArray, List.set_cons_succ, List.set_cons_zero]
                refine wpAnyH_take (i := 32) (v := (.pointer (some ⟨p, 0, none⟩))) rfl (by kernel_rfl) (by kernel_rfl) (by kernel_rfl) (fun _ _ _ h => h) (.inl ⟨rfl, fun _ hS => rfl⟩) s5 ?_
                simp only [List.getElem_toArray, List.getElem_cons_succ, List.getElem_cons_zero, Act.put, List.setIfInBounds_toArray, List.set_cons_succ, List.set_cons_zero]
                refine wpAnyH_take (i := 34) (v := (.pointer (some ⟨q, 0, none⟩))) rfl (by kernel_rfl) (by kernel_rfl) (by kernel_rfl) (fun _ _ _ h => h) (.inl ⟨rfl, fun _ hS => rfl⟩) s5 ?_
                simp only [List.getElem_toArray, List.getElem_cons_succ, List.getElem_cons_zero, Act.put, List.setIfInBounds_toArray, List.set_cons_succ, List.set_cons_zero]
                refine wpAnyH_take (i := 35) (v := (.pointer (some ⟨q, 0, none⟩))) rfl (by kernel_rfl) (by kernel_rfl) (by kernel_rfl) (fun _ _ _ h => h) (.inl ⟨rfl, fun _ hS => by simp [execOp, go_sem, Act.eval]⟩) s5 ?_
                simp only [List.getElem_toArray, List.getElem_cons_succ, List.getElem_cons_zero, Act.put, List.setIfInBounds_toArray, List.set_cons_succ, List.set_cons_zero]
                refine wpAnyH_take (i := 36) (v := (.pointer (some ⟨q, 3, none⟩))) rfl (by kernel_rfl) (by kernel_rfl) (by kernel_rfl) (fun _ _ _ h => h) (.inl ⟨rfl, fun _ hS => by simp [execOp, go_sem, Act.eval]⟩) s5 ?_
                simp only [List.getElem_toArray, List.getElem_cons_succ, List.getElem_cons_zero, Act.put, List.setIfInBounds_toArray, List.set_cons_succ, List.set_cons_zero]
                refine wpAnyH_take (i := 37) (v := (.slice an S.now.length cn)) rfl (by kernel_rfl) (by kernel_rfl) (by kernel_rfl) (fun _ _ _ h => h) (.inl ⟨rfl, fun _ hS => exec_load rfl rfl (load_ts hS.1)⟩) s5 ?_
                simp only [List.getElem_toArray, List.getElem_cons_succ, List.getElem_cons_zero, Act.put, List.setIfInBounds_toArray, List.set_cons_succ, List.set_cons_zero]
                refine wpAnyH_all (rs := [33]) (by kernel_rfl) (by simp) ?_
                intro k hk
                simp only [List.mem_cons, List.mem_nil_iff, or_false] at hk
                subst hk
                refine wpOp_runw rfl rfl (wp_call_fn 22 #[.pointer (some ⟨p, 0, none⟩)] (by simp [execOp, go_sem, Act.eval, resolve, invoke, enTNow]) ?_)
                refine (HNw.out _ b5).mono ?_
                rintro e u6 ⟨ah6, ch6, rfl, w6h, y6⟩
                have b6 := b5.trans (y6.mono b5.size)
                have s6 := HS.out _ b6
                refine ⟨s6, ?_⟩
                simp only [List.getElem_toArray, List.getElem_cons_succ, List.getElem_cons_zero, Act.put, List.setIfInBounds_toArray, List.set_cons_succ, List.set_cons_zero]
                refine wpAnyH_all (rs := [38]) (by kernel_rfl) (by simp) ?_
                intro k hk
                simp only [List.mem_cons, List.mem_nil_iff, or_false] at hk
                subst hk
                refine wpOp_runw rfl rfl (wp_call_fn 20 #[.slice ah6 S.now.length ch6, .slice an S.now.length cn] (by simp [execOp, go_sem, Act.eval, resolve, invoke, enTSame]) ?_)
                refine (HSn.out _ _ b6 w6h).mono ?_
                rintro e u7 ⟨rfl, n7, hu7⟩
                have b7 : Below wr.heap.size wr u7 := by rw [hu7]; exact below_drawn b6 n7
                have s7 := HS.out _ b7
                clear hu7
                refine ⟨s7, ?_⟩
                simp only [List.getElem_toArray, List.getElem_cons_succ, List.getElem_cons_zero, Act.put, List.setIfInBounds_toArray, List.set_cons_succ, List.set_cons_zero]
                refine wpAnyH_take (i := 39) (v := (.bool false)) rfl (by kernel_rfl) (by kernel_rfl) (by kernel_rfl) (fun _ _ _ h => h) (.inl ⟨rfl, fun _ hS => by go_simp⟩) s7 ?_
                simp only [List.getElem_toArray, List.getElem_cons_succ, List.getElem_cons_zero, Act.put, List.setIfInBounds_toArray, List.set_cons_succ, List.set_cons_zero]
                refine wpAnyH_take (i := 40) (v := (.bool false)) rfl (by kernel_rfl) (by kernel_rfl) (by kernel_rfl) (fun _ _ _ h => h) (.inl ⟨rfl, fun _ hS => by go_simp⟩) s7 ?_
                simp only [List.getElem_toArray, List.getElem_cons_succ, List.getElem_cons_zero, Act.put, List.setIfInBounds_toArray, List.set_cons_succ, List.set_cons_zero]
                refine wpAnyH_done (by kernel_rfl) ?_ _
                have HF := hidOf2 (HJ9.out.same b7)
                clear HJ9 HS HR HRd HH HNw HSa HSn b0 b1 b3 b4 b5 b6 b7 s0 s1 s3 s4 s5 s6 s7 w4h w6h y1 y3 y4 y6 hz1 hz2
                go_wp2_with fail
                go_roundw
                case rel => exact ⟨k + 1, _, _, by omega, rfl, HF.out⟩
                case measure => simp [intOf]; omega
    · have hd : decide ((k : Int) < (l.length : Int)) = false := by simp; omega
      have hL := lives_any wr
      clear hJ
      go_wp2_with (go_at_call 8; refine hL.mono ?_; rintro r w7 ⟨rfl, B7⟩)
      go_ret
      exact ⟨rfl, B5.trans (B7.mono hszp)⟩
theorem etel_walk (a0 a1 : Int) (v2 : Value) (l2 : List A16) (w0 : -9223372036854775808 ≤ a0 ∧ a0 < 9223372036854775808) (w1 : 0 ≤ a1 ∧ a1 < 18446744073709551616) (hl : l2.length ≤ 8796093021952) (w : World) (hB : Wide 8 A16.c w v2 l2) :
    Calls Try.prog 3 #[.int .i64 a0, .int .u64 a1, v2] w fun r w' => r = .returned (.bool true) ∧ Below w.heap.size w w' := by
  obtain ⟨i, rfl⟩ : ∃ i : Nat, a1 = i := ⟨a1.toNat, by omega⟩
  cases hh : (decide (1 ≤ a0) && decide (a0 ≤ 254) && decide (i ≤ 4294967296))
  · exact etel_bad a0 i v2 hh w
  · simp only [Bool.and_eq_true, decide_eq_true_eq] at hh
    obtain ⟨n, rfl⟩ : ∃ n : Nat, a0 = n := ⟨a0.toNat, by omega⟩
    exact etel_ok n i v2 l2 (by omega) (by omega) hh.2 hl w hB
end Go.Proofs.Ytlkocebgkmdeoaa
