/- One act on both wheels. -/
import Derived.Test.YtjkkclojidhgdaaX8
namespace Go.Proofs.Ytjkkclojidhgdaa
open Go.RowKit Go.Maps Go.WideMaps
set_option linter.unusedVariables false
set_option maxRecDepth 1000000
set_option linter.unusedSimpArgs false
theorem enterXC : ∀ args z, (callFunc 21 args).run Try.prog z = .ok (.enter 21 args) z := fun _ _ => by rfl
theorem enterXT : ∀ args z, (callFunc 23 args).run Try.prog z = .ok (.enter 23 args) z := fun _ _ => by rfl
def DoesP (gx E : Nat) (w0 : World) (nb given : Nat) (w' : World) : Prop := ∃ x' now' given' es' v', Jj gx E w0 x' now' given' es' v' w' ∧ now' ≤ nb ∧ given' ≤ given + 1
section
variable {gx E now given : Nat} {w0 w : World} {x : Wl} {es : List Tm} {v : Value}
set_option maxHeartbeats 4000000 in
theorem does_0 (h : Jj gx E w0 x now given es v w) (timer what : Int) (A B : Nat) (hti : -9223372036854775808 ≤ timer ∧ timer < 9223372036854775808) (hAb : A < 18446744073709551616) (hBb : B < 18446744073709551616) (hno : now < 576460752303423488) (hgv : given < 2305843009213693952) :
    Calls Try.prog 10 #[.pointer (some ⟨gx, 0, none⟩), .pointer (some ⟨E, 0, none⟩), .agg #[.int .i64 0, .int .i64 timer, .int .i64 what, .int .u64 A, .int .u64 B]] w fun e w' => e = .returned (.bool true) ∧ DoesP gx E w0 now given w' := by
  have M1 := h.jd #[.int .i64 0, .int .i64 timer, .int .i64 what, .int .u64 A, .int .u64 B]
  have hF : (addF now given es (decide (1 ≤ A ∧ A ≤ 4294967296)) A 0 what).1 ≤ given + 1 := addF_le
  have hA := Add_at M1.ax A what hgv
  rw [M1.gx] at hA
  have hX : ∀ (u : World) (vv : Value), Xw E (dts now es) now given vv u → Calls Try.prog 20 #[.pointer (some ⟨E, 0, none⟩), .int .u64 A, .int .u64 0, .bool false, .int .i64 what] u fun e u' => ∃ v', e = .returned (.tuple #[.int .i64 (addF now given es (decide (1 ≤ A ∧ A ≤ 4294967296)) A 0 what).2.2.1, .int .i64 (addF now given es (decide (1 ≤ A ∧ A ≤ 4294967296)) A 0 what).2.2.2]) ∧ Xw E (dts now (addF now given es (decide (1 ≤ A ∧ A ≤ 4294967296)) A 0 what).2.1) now (addF now given es (decide (1 ≤ A ∧ A ≤ 4294967296)) A 0 what).1 v' u' ∧ u.grownBy u' (some E) := fun u vv hh => XAdd_at hh A 0 0 false _ what (by simp) rfl (by omega)
  generalize addF now given es (decide (1 ≤ A ∧ A ≤ 4294967296)) A 0 what = F at *
  obtain ⟨gv2, es2, rn, re⟩ := F
  simp only at hA hF hX
  have HXX := toHid hX
  have HM1 := toHid M1
  have q1 : (rn == rn) = true := by simp
  have q2 : (re == re) = true := by simp
  clear M1 h hX
  go_enter Try.func10, Try.ntmps10
  go_wp2_with fail
  refine hA.mono ?_
  rintro e w2 ⟨x2, rfl, a2, m2⟩
  have M2 := HM1.out.left a2 m2
  have hD := HXX.out _ _ M2.xd
  obtain ⟨d0, d1, d2, d3, d4⟩ := ak_cells M2.cb
  have HM2 := toHid M2
  clear hA a2 m2 M2 HM1 HXX
  go_wp2_with fail
  refine hD.mono ?_
  rintro e w3 ⟨v3, rfl, x3, g3⟩
  have HP : Hid (DoesP gx E w0 now given w3) := ⟨x2, now, gv2, es2, v3, (HM2.out.doc x3 g3).jj, by omega, by omega⟩
  clear hD x3 g3 HM2 d0 d1 d2 d3 d4
  go_wp2
  go_ret
  exact ⟨rfl, HP.out⟩
set_option maxHeartbeats 4000000 in
theorem does_1 (h : Jj gx E w0 x now given es v w) (timer what : Int) (A B : Nat) (hti : -9223372036854775808 ≤ timer ∧ timer < 9223372036854775808) (hAb : A < 18446744073709551616) (hBb : B < 18446744073709551616) (hno : now < 576460752303423488) (hgv : given < 2305843009213693952) :
    Calls Try.prog 10 #[.pointer (some ⟨gx, 0, none⟩), .pointer (some ⟨E, 0, none⟩), .agg #[.int .i64 1, .int .i64 timer, .int .i64 what, .int .u64 A, .int .u64 B]] w fun e w' => e = .returned (.bool true) ∧ DoesP gx E w0 now given w' := by
  have M1 := h.jd #[.int .i64 1, .int .i64 timer, .int .i64 what, .int .u64 A, .int .u64 B]
  have hF : (addF now given es (decide ((1 ≤ A ∧ A ≤ 4294967296) ∧ (1 ≤ B ∧ B ≤ 4294967296))) A B what).1 ≤ given + 1 := addF_le
  have hA := Every_at M1.ax A B what hgv
  rw [M1.gx] at hA
  have hX : ∀ (u : World) (vv : Value), Xw E (dts now es) now given vv u → Calls Try.prog 20 #[.pointer (some ⟨E, 0, none⟩), .int .u64 A, .int .u64 B, .bool true, .int .i64 what] u fun e u' => ∃ v', e = .returned (.tuple #[.int .i64 (addF now given es (decide ((1 ≤ A ∧ A ≤ 4294967296) ∧ (1 ≤ B ∧ B ≤ 4294967296))) A B what).2.2.1, .int .i64 (addF now given es (decide ((1 ≤ A ∧ A ≤ 4294967296) ∧ (1 ≤ B ∧ B ≤ 4294967296))) A B what).2.2.2]) ∧ Xw E (dts now (addF now given es (decide ((1 ≤ A ∧ A ≤ 4294967296) ∧ (1 ≤ B ∧ B ≤ 4294967296))) A B what).2.1) now (addF now given es (decide ((1 ≤ A ∧ A ≤ 4294967296) ∧ (1 ≤ B ∧ B ≤ 4294967296))) A B what).1 v' u' ∧ u.grownBy u' (some E) := fun u vv hh => XAdd_at hh A B B true _ what (by simp) rfl (by omega)
  generalize addF now given es (decide ((1 ≤ A ∧ A ≤ 4294967296) ∧ (1 ≤ B ∧ B ≤ 4294967296))) A B what = F at *
  obtain ⟨gv2, es2, rn, re⟩ := F
  simp only at hA hF hX
  have HXX := toHid hX
  have HM1 := toHid M1
  have q1 : (rn == rn) = true := by simp
  have q2 : (re == re) = true := by simp
  clear M1 h hX
  go_enter Try.func10, Try.ntmps10
  go_wp2_with fail
  refine hA.mono ?_
  rintro e w2 ⟨x2, rfl, a2, m2⟩
  have M2 := HM1.out.left a2 m2
  have hD := HXX.out _ _ M2.xd
  obtain ⟨d0, d1, d2, d3, d4⟩ := ak_cells M2.cb
  have HM2 := toHid M2
  clear hA a2 m2 M2 HM1 HXX
  go_wp2_with fail
  refine hD.mono ?_
  rintro e w3 ⟨v3, rfl, x3, g3⟩
  have HP : Hid (DoesP gx E w0 now given w3) := ⟨x2, now, gv2, es2, v3, (HM2.out.doc x3 g3).jj, by omega, by omega⟩
  clear hD x3 g3 HM2 d0 d1 d2 d3 d4
  go_wp2
  go_ret
  exact ⟨rfl, HP.out⟩
set_option maxHeartbeats 4000000 in
theorem does_2 (h : Jj gx E w0 x now given es v w) (timer what : Int) (A B : Nat) (hti : -9223372036854775808 ≤ timer ∧ timer < 9223372036854775808) (hAb : A < 18446744073709551616) (hBb : B < 18446744073709551616) (hno : now < 576460752303423488) (hgv : given < 2305843009213693952) :
    Calls Try.prog 10 #[.pointer (some ⟨gx, 0, none⟩), .pointer (some ⟨E, 0, none⟩), .agg #[.int .i64 2, .int .i64 timer, .int .i64 what, .int .u64 A, .int .u64 B]] w fun e w' => e = .returned (.bool true) ∧ DoesP gx E w0 now given w' := by
  have M0 := h.jd #[.int .i64 2, .int .i64 timer, .int .i64 what, .int .u64 A, .int .u64 B]
  have HM0 := toHid M0
  have HRi : Hid (Rise es) := by rw [← h.ax.es]; exact er_rise h.ax.wh.up
  clear M0 h
  go_enter Try.func10, Try.ntmps10
  go_wp2_with fail
  refine wp_region_held (S := fun z => z.cell? ⟨w.heap.size, 1, none⟩ = some (.int .i64 timer)) (by kernel_rfl) ?_
  obtain ⟨w1, hw1⟩ : ∃ z : World, { (w.alloc (.cells #[.int .i64 2, .int .i64 timer, .int .i64 what, .int .u64 A, .int .u64 B] 34)) with drawn := (w.alloc (.cells #[.int .i64 2, .int .i64 timer, .int .i64 what, .int .u64 A, .int .u64 B] 34)).drawn + 1 } = z := ⟨_, rfl⟩
  rw [hw1]
  have M1 := HM0.out.below (w' := w1) (by rw [← hw1]; exact ⟨rfl, rfl, rfl, Nat.le_refl _, fun _ _ => rfl⟩)
  clear hw1 HM0
  have s1 := (ak_cells M1.cb).2.1
  have hCx := Cancel_at M1.ax timer hti
  rw [M1.gx] at hCx
  obtain ⟨F, hcan⟩ : ∃ F, canF es timer = F := ⟨_, rfl⟩
  rw [hcan] at hCx
  obtain ⟨es2, rb⟩ := F
  have HM1 := toHid M1
  clear M1
  refine wpAnyH_take (i := 0) (v := (.pointer (some ⟨gx, 0, none⟩))) rfl (by kernel_rfl) (by kernel_rfl) (by kernel_rfl) (fun _ _ _ h => h) (.inl ⟨rfl, fun _ hS => rfl⟩) s1 ?_
  simp only [List.getElem_toArray, List.getElem_cons_succ, List.getElem_cons_zero, Act.put, List.setIfInBounds_toArray, List.set_cons_succ, List.set_cons_zero]
  refine wpAnyH_take (i := 1) (v := (.pointer (some ⟨w.heap.size, 1, none⟩))) rfl (by kernel_rfl) (by kernel_rfl) (by kernel_rfl) (fun _ _ _ h => h) (.inl ⟨rfl, fun _ hS => by simp [execOp, go_sem, Act.eval]⟩) s1 ?_
  simp only [List.getElem_toArray, List.getElem_cons_succ, List.getElem_cons_zero, Act.put, List.setIfInBounds_toArray, List.set_cons_succ, List.set_cons_zero]
  refine wpAnyH_take (i := 2) (v := (.int .i64 timer)) rfl (by kernel_rfl) (by kernel_rfl) (by kernel_rfl) (fun _ _ _ h => h) (.inl ⟨rfl, fun _ hS => exec_load rfl rfl (load_int _ w.heap.size 1 _ hS)⟩) s1 ?_
  simp only [List.getElem_toArray, List.getElem_cons_succ, List.getElem_cons_zero, Act.put, List.setIfInBounds_toArray, List.set_cons_succ, List.set_cons_zero]
  refine wpAnyH_take (i := 4) (v := (.pointer (some ⟨E, 0, none⟩))) rfl (by kernel_rfl) (by kernel_rfl) (by kernel_rfl) (fun _ _ _ h => h) (.inl ⟨rfl, fun _ hS => rfl⟩) s1 ?_
  simp only [List.getElem_toArray, List.getElem_cons_succ, List.getElem_cons_zero, Act.put, List.setIfInBounds_toArray, List.set_cons_succ, List.set_cons_zero]
  refine wpAnyH_take (i := 5) (v := (.pointer (some ⟨w.heap.size, 1, none⟩))) rfl (by kernel_rfl) (by kernel_rfl) (by kernel_rfl) (fun _ _ _ h => h) (.inl ⟨rfl, fun _ hS => by simp [execOp, go_sem, Act.eval]⟩) s1 ?_
  simp only [List.getElem_toArray, List.getElem_cons_succ, List.getElem_cons_zero, Act.put, List.setIfInBounds_toArray, List.set_cons_succ, List.set_cons_zero]
  refine wpAnyH_take (i := 6) (v := (.int .i64 timer)) rfl (by kernel_rfl) (by kernel_rfl) (by kernel_rfl) (fun _ _ _ h => h) (.inl ⟨rfl, fun _ hS => exec_load rfl rfl (load_int _ w.heap.size 1 _ hS)⟩) s1 ?_
  simp only [List.getElem_toArray, List.getElem_cons_succ, List.getElem_cons_zero, Act.put, List.setIfInBounds_toArray, List.set_cons_succ, List.set_cons_zero]
  refine wpAnyH_all (rs := [3]) (by kernel_rfl) (by simp) ?_
  intro k hk
  simp only [List.mem_cons, List.mem_nil_iff, or_false] at hk
  subst hk
  refine wpOp_run rfl rfl (wp_call_fn 19 #[.pointer (some ⟨gx, 0, none⟩), .int .i64 timer] (by simp [execOp, go_sem, Act.eval, resolve, invoke, enterCan]) (hCx.mono ?_))
  rintro e w2 ⟨x2, rfl, a2, m2⟩
  have M2 := HM1.out.left a2 m2
  have s2 := (ak_cells M2.cb).2.1
  have hCy := XCancel_at M2.xd HRi.out timer
  rw [hcan] at hCy
  refine ⟨s2, ?_⟩
  simp only [List.getElem_toArray, List.getElem_cons_succ, List.getElem_cons_zero, Act.put, List.setIfInBounds_toArray, List.set_cons_succ, List.set_cons_zero]
  refine wpAnyH_all (rs := [7]) (by kernel_rfl) (by simp) ?_
  intro k hk
  simp only [List.mem_cons, List.mem_nil_iff, or_false] at hk
  subst hk
  refine wpOp_run rfl rfl (wp_call_fn 21 #[.pointer (some ⟨E, 0, none⟩), .int .i64 timer] (by simp [execOp, go_sem, Act.eval, resolve, invoke, enterXC]) (hCy.mono ?_))
  rintro e w3 ⟨v3, rfl, x3, g3⟩
  have M3 := M2.doc x3 g3
  have s3 := (ak_cells M3.cb).2.1
  refine ⟨s3, ?_⟩
  simp only [List.getElem_toArray, List.getElem_cons_succ, List.getElem_cons_zero, Act.put, List.setIfInBounds_toArray, List.set_cons_succ, List.set_cons_zero]
  refine wpAnyH_take (i := 8) (v := (.bool true)) rfl (by kernel_rfl) (by kernel_rfl) (by kernel_rfl) (fun _ _ _ h => h) (.inl ⟨rfl, fun _ hS => by simp [execOp, go_sem, Act.eval]⟩) s3 ?_
  simp only [List.getElem_toArray, List.getElem_cons_succ, List.getElem_cons_zero, Act.put, List.setIfInBounds_toArray, List.set_cons_succ, List.set_cons_zero]
  refine wpAnyH_take (i := 9) (v := (.bool true)) rfl (by kernel_rfl) (by kernel_rfl) (by kernel_rfl) (fun _ _ _ h => h) (.inl ⟨rfl, fun _ hS => rfl⟩) s3 ?_
  simp only [List.getElem_toArray, List.getElem_cons_succ, List.getElem_cons_zero, Act.put, List.setIfInBounds_toArray, List.set_cons_succ, List.set_cons_zero]
  refine wpAnyH_done (by kernel_rfl) ?_ _
  have HP : Hid (DoesP gx E w0 now given w3) := ⟨x2, now, given, es2, v3, M3.jj, by omega, by omega⟩
  clear hCx hCy a2 m2 x3 g3 M2 M3 HM1 s1 s2 s3 hcan
  go_wp2
  go_ret
  exact ⟨rfl, HP.out⟩
set_option maxHeartbeats 4000000 in
theorem does_3 (h : Jj gx E w0 x now given es v w) (timer what : Int) (A B : Nat) (hti : -9223372036854775808 ≤ timer ∧ timer < 9223372036854775808) (hAb : A < 18446744073709551616) (hBb : B < 18446744073709551616) (hno : now < 576460752303423488) (hgv : given < 2305843009213693952) :
    Calls Try.prog 10 #[.pointer (some ⟨gx, 0, none⟩), .pointer (some ⟨E, 0, none⟩), .agg #[.int .i64 3, .int .i64 timer, .int .i64 what, .int .u64 A, .int .u64 B]] w fun e w' => e = .returned (.bool true) ∧ DoesP gx E w0 now given w' := by
  have M1 := h.jd #[.int .i64 3, .int .i64 timer, .int .i64 what, .int .u64 A, .int .u64 B]
  have hL := Left_any M1.ax.wh timer hti (fun t ht => by have := M1.ax.good.all t ht; omega)
  rw [M1.gx] at hL
  have el : leftF now x.ts timer = leftF now es timer := by
    unfold leftF
    rw [← h.ax.es, er_find]
    cases findT x.ts timer <;> rfl
  rw [el] at hL
  have HM1 := toHid M1
  obtain ⟨F, hFF⟩ : ∃ F, leftF now es timer = F := ⟨_, rfl⟩
  rw [hFF] at hL
  obtain ⟨fl, fb⟩ := F
  have q1 : ((fl : Int) == (fl : Int)) = true := by simp
  have q2 : (fb == fb) = true := by simp
  clear M1 h el
  go_enter Try.func10, Try.ntmps10
  go_wp2_with fail
  refine hL.mono ?_
  rintro e w2 ⟨rfl, b2⟩
  have M2 := HM1.out.below b2
  have hD := XLeft_at M2.xd timer
  rw [hFF] at hD
  obtain ⟨d0, d1, d2, d3, d4⟩ := ak_cells M2.cb
  have HM2 := toHid M2
  clear hL b2 M2 HM1 hFF
  go_wp2_with fail
  refine hD.mono ?_
  rintro e w3 ⟨ew, rfl⟩
  rw [ew]
  have HP : Hid (DoesP gx E w0 now given w2) := ⟨x, now, given, es, v, HM2.out.jj, by omega, by omega⟩
  clear hD HM2 d0 d1 d2 d3 d4 ew
  go_wp2
  go_ret
  exact ⟨rfl, HP.out⟩
set_option maxHeartbeats 4000000 in
theorem does_4 (h : Jj gx E w0 x now given es v w) (timer what : Int) (A B : Nat) (hti : -9223372036854775808 ≤ timer ∧ timer < 9223372036854775808) (hAb : A < 18446744073709551616) (hBb : B < 18446744073709551616) (hno : now < 576460752303423488) (hgv : given < 2305843009213693952) (m : Nat) (hAm : min A 1048576 = m) :
    Calls Try.prog 10 #[.pointer (some ⟨gx, 0, none⟩), .pointer (some ⟨E, 0, none⟩), .agg #[.int .i64 4, .int .i64 timer, .int .i64 what, .int .u64 A, .int .u64 B]] w fun e w' => e = .returned (.bool true) ∧ DoesP gx E w0 (now + m) given w' := by
  have M0 := h.jd #[.int .i64 4, .int .i64 timer, .int .i64 what, .int .u64 A, .int .u64 B]
  have HM0 := toHid M0
  have HRG : Hid (Rise x.ts ∧ Good now x.ts ∧ x.ts.map er = es) := ⟨h.ax.wh.up, h.ax.good, h.ax.es⟩
  have hmb : m ≤ 1048576 := by omega
  clear M0 h
  go_enter Try.func10, Try.ntmps10
  go_wp2_with fail
  refine wp_region_held (S := fun z => z.cell? ⟨w.heap.size, 3, none⟩ = some (.int .u64 A)) (by kernel_rfl) ?_
  obtain ⟨w1, hw1⟩ : ∃ z : World, { (w.alloc (.cells #[.int .i64 4, .int .i64 timer, .int .i64 what, .int .u64 A, .int .u64 B] 34)) with drawn := (w.alloc (.cells #[.int .i64 4, .int .i64 timer, .int .i64 what, .int .u64 A, .int .u64 B] 34)).drawn + 1 } = z := ⟨_, rfl⟩
  rw [hw1]
  have M1 := HM0.out.below (w' := w1) (by rw [← hw1]; exact ⟨rfl, rfl, rfl, Nat.le_refl _, fun _ _ => rfl⟩)
  clear hw1 HM0
  have s1 := (ak_cells M1.cb).2.2.2.1
  have hTx := Tick_at2 M1.ax A m hAm (by omega)
  rw [M1.gx] at hTx
  have HM1 := toHid M1
  clear M1
  refine wpAnyH_take (i := 0) (v := (.pointer (some ⟨gx, 0, none⟩))) rfl (by kernel_rfl) (by kernel_rfl) (by kernel_rfl) (fun _ _ _ h => h) (.inl ⟨rfl, fun _ hS => rfl⟩) s1 ?_
  simp only [List.getElem_toArray, List.getElem_cons_succ, List.getElem_cons_zero, Act.put, List.setIfInBounds_toArray, List.set_cons_succ, List.set_cons_zero]
  refine wpAnyH_take (i := 1) (v := (.pointer (some ⟨w.heap.size, 3, none⟩))) rfl (by kernel_rfl) (by kernel_rfl) (by kernel_rfl) (fun _ _ _ h => h) (.inl ⟨rfl, fun _ hS => by simp [execOp, go_sem, Act.eval]⟩) s1 ?_
  simp only [List.getElem_toArray, List.getElem_cons_succ, List.getElem_cons_zero, Act.put, List.setIfInBounds_toArray, List.set_cons_succ, List.set_cons_zero]
  refine wpAnyH_take (i := 2) (v := (.int .u64 A)) rfl (by kernel_rfl) (by kernel_rfl) (by kernel_rfl) (fun _ _ _ h => h) (.inl ⟨rfl, fun _ hS => exec_load rfl rfl (load_u64 _ w.heap.size 3 _ hS)⟩) s1 ?_
  simp only [List.getElem_toArray, List.getElem_cons_succ, List.getElem_cons_zero, Act.put, List.setIfInBounds_toArray, List.set_cons_succ, List.set_cons_zero]
  refine wpAnyH_take (i := 4) (v := (.pointer (some ⟨E, 0, none⟩))) rfl (by kernel_rfl) (by kernel_rfl) (by kernel_rfl) (fun _ _ _ h => h) (.inl ⟨rfl, fun _ hS => rfl⟩) s1 ?_
  simp only [List.getElem_toArray, List.getElem_cons_succ, List.getElem_cons_zero, Act.put, List.setIfInBounds_toArray, List.set_cons_succ, List.set_cons_zero]
  refine wpAnyH_take (i := 5) (v := (.pointer (some ⟨w.heap.size, 3, none⟩))) rfl (by kernel_rfl) (by kernel_rfl) (by kernel_rfl) (fun _ _ _ h => h) (.inl ⟨rfl, fun _ hS => by simp [execOp, go_sem, Act.eval]⟩) s1 ?_
  simp only [List.getElem_toArray, List.getElem_cons_succ, List.getElem_cons_zero, Act.put, List.setIfInBounds_toArray, List.set_cons_succ, List.set_cons_zero]
  refine wpAnyH_take (i := 6) (v := (.int .u64 A)) rfl (by kernel_rfl) (by kernel_rfl) (by kernel_rfl) (fun _ _ _ h => h) (.inl ⟨rfl, fun _ hS => exec_load rfl rfl (load_u64 _ w.heap.size 3 _ hS)⟩) s1 ?_
  simp only [List.getElem_toArray, List.getElem_cons_succ, List.getElem_cons_zero, Act.put, List.setIfInBounds_toArray, List.set_cons_succ, List.set_cons_zero]
  refine wpAnyH_all (rs := [3]) (by kernel_rfl) (by simp) ?_
  intro k hk
  simp only [List.mem_cons, List.mem_nil_iff, or_false] at hk
  subst hk
  refine wpOp_run rfl rfl (wp_call_fn 18 #[.pointer (some ⟨gx, 0, none⟩), .int .u64 A] (by simp [execOp, go_sem, Act.eval, resolve, invoke, enterTick]) (hTx.mono ?_))
  rintro e w2 ⟨tv2, x2, rfl, r2, a2, m2⟩
  have M2 := HM1.out.left a2 m2
  have s2 := (ak_cells M2.cb).2.2.2.1
  have hTy := XTick_at HRG.out M2.xd A m hAm (by omega)
  refine ⟨s2, ?_⟩
  simp only [List.getElem_toArray, List.getElem_cons_succ, List.getElem_cons_zero, Act.put, List.setIfInBounds_toArray, List.set_cons_succ, List.set_cons_zero]
  refine wpAnyH_all (rs := [7]) (by kernel_rfl) (by simp) ?_
  intro k hk
  simp only [List.mem_cons, List.mem_nil_iff, or_false] at hk
  subst hk
  refine wpOp_run rfl rfl (wp_call_fn 23 #[.pointer (some ⟨E, 0, none⟩), .int .u64 A] (by simp [execOp, go_sem, Act.eval, resolve, invoke, enterXT]) (hTy.mono ?_))
  rintro e w3 ⟨tv3, v3, rfl, x3, r3, g3⟩
  have M3 := M2.doc x3 g3
  have s3 := (ak_cells M3.cb).2.2.2.1
  have r2' := row_apart r2 (fun q cur _ hq => g3.block q (Array.getElem?_eq_some_iff.1 hq).1 (fun e => by cases e; rw [M2.xd.head] at hq; cases hq))
  have hSm := same_row r2' r3 rfl (by rw [List.length_take]; omega)
  rw [decide_eq_true rfl] at hSm
  refine ⟨s3, ?_⟩
  simp only [List.getElem_toArray, List.getElem_cons_succ, List.getElem_cons_zero, Act.put, List.setIfInBounds_toArray, List.set_cons_succ, List.set_cons_zero]
  refine wpAnyH_all (rs := [8]) (by kernel_rfl) (by simp) ?_
  intro k hk
  simp only [List.mem_cons, List.mem_nil_iff, or_false] at hk
  subst hk
  refine wpOp_run rfl rfl (wp_call_fn 17 #[tv2, tv3] (by simp [execOp, go_sem, Act.eval, resolve, invoke, enterSame]) (hSm.mono ?_))
  rintro e w4 ⟨rfl, b4⟩
  have M4 := M3.below b4
  have s4 := (ak_cells M4.cb).2.2.2.1
  refine ⟨s4, ?_⟩
  simp only [List.getElem_toArray, List.getElem_cons_succ, List.getElem_cons_zero, Act.put, List.setIfInBounds_toArray, List.set_cons_succ, List.set_cons_zero]
  refine wpAnyH_take (i := 9) (v := (.bool true)) rfl (by kernel_rfl) (by kernel_rfl) (by kernel_rfl) (fun _ _ _ h => h) (.inl ⟨rfl, fun _ hS => rfl⟩) s4 ?_
  simp only [List.getElem_toArray, List.getElem_cons_succ, List.getElem_cons_zero, Act.put, List.setIfInBounds_toArray, List.set_cons_succ, List.set_cons_zero]
  refine wpAnyH_done (by kernel_rfl) ?_ _
  have HP : Hid (DoesP gx E w0 (now + m) given w4) := ⟨x2, now + m, given, _, v3, M4.jj, by omega, by omega⟩
  clear hTx hTy hSm a2 m2 x3 g3 M2 M3 M4 HM1 s1 s2 s3 s4 r2 r2' r3 b4
  go_wp2
  go_ret
  exact ⟨rfl, HP.out⟩
set_option maxHeartbeats 4000000 in
theorem does_5 (h : Jj gx E w0 x now given es v w) (timer what : Int) (A B : Nat) (hti : -9223372036854775808 ≤ timer ∧ timer < 9223372036854775808) (hAb : A < 18446744073709551616) (hBb : B < 18446744073709551616) (hno : now < 576460752303423488) (hgv : given < 2305843009213693952) :
    Calls Try.prog 10 #[.pointer (some ⟨gx, 0, none⟩), .pointer (some ⟨E, 0, none⟩), .agg #[.int .i64 5, .int .i64 timer, .int .i64 what, .int .u64 A, .int .u64 B]] w fun e w' => e = .returned (.bool true) ∧ DoesP gx E w0 now given w' := by
  have M1 := h.jd #[.int .i64 5, .int .i64 timer, .int .i64 what, .int .u64 A, .int .u64 B]
  have hL : ∀ u, At x now given es u → Calls Try.prog 24 #[.pointer (some ⟨gx, 0, none⟩)] u fun e u' => e = .returned (.tuple #[.int .u64 (lstN (dts now es)), .bool (decide (0 < (dts now es).length))]) ∧ Below u.heap.size u u' := fun u hu => by
    rw [← h.gx]
    by_cases hne : x.ts = []
    · have he : es = [] := by rw [← hu.es, hne]; rfl
      subst he
      have hw := hu.wh
      rw [hne] at hw
      refine (Next_none hw).mono ?_
      rintro e u' ⟨rfl, rfl⟩
      exact ⟨rfl, Below.refl _ _⟩
    · have hne2 : es ≠ [] := fun e => hne (by rw [← hu.es] at e; exact List.map_eq_nil_iff.1 e)
      have e1 : lstN (dts now es) = nextF now x.ts := by
        rw [next_same hne2 (fun t ht => by rw [← hu.es] at ht; exact (er_good hu.good t ht).2.2)]
        rw [← hu.es]
        unfold nextF
        rw [List.foldl_map]
        rfl
      have e2 : decide (0 < (dts now es).length) = true := by
        rw [dts_len]
        have := List.length_pos_iff.2 hne2
        simp; omega
      rw [e1, e2]
      exact Next_some hu.wh hne (by have := hu.good.len; omega) (fun t ht => by have := hu.good.all t ht; have := hu.wh.w1; omega)
  have hLx := hL _ M1.ax
  have HM1 := toHid M1
  have hX : ∀ u vv, Xw E (dts now es) now given vv u → Calls Try.prog 25 #[.pointer (some ⟨E, 0, none⟩)] u fun e u' => e = .returned (.tuple #[.int .u64 (lstN (dts now es)), .bool (decide (0 < (dts now es).length))]) ∧ Below u.heap.size u u' := fun u vv hh => XNext_any hh
  have HXX := toHid hX
  obtain ⟨fl, hfl⟩ : ∃ F, lstN (dts now es) = F := ⟨_, rfl⟩
  obtain ⟨fb, hfb⟩ : ∃ F, decide (0 < (dts now es).length) = F := ⟨_, rfl⟩
  rw [hfl, hfb] at hLx
  have q1 : ((fl : Int) == (fl : Int)) = true := by simp
  have q2 : (fb == fb) = true := by simp
  clear M1 h hL hX
  go_enter Try.func10, Try.ntmps10
  go_wp2_with fail
  refine hLx.mono ?_
  rintro e w2 ⟨rfl, b2⟩
  have M2 := HM1.out.below b2
  have hD := HXX.out _ _ M2.xd
  rw [hfl, hfb] at hD
  have HM2 := toHid M2
  clear hLx b2 M2 HM1 hfl hfb HXX
  go_wp2_with fail
  refine hD.mono ?_
  rintro e w3 ⟨rfl, b3⟩
  have HP : Hid (DoesP gx E w0 now given w3) := ⟨x, now, given, es, v, (HM2.out.below b3).jj, by omega, by omega⟩
  clear hD HM2 b3
  go_wp2
  go_ret
  exact ⟨rfl, HP.out⟩
set_option maxHeartbeats 4000000 in
theorem does_x (h : Jj gx E w0 x now given es v w) (kind : Int) (timer what : Int) (A B : Nat) (hti : -9223372036854775808 ≤ timer ∧ timer < 9223372036854775808) (hAb : A < 18446744073709551616) (hBb : B < 18446744073709551616) (hno : now < 576460752303423488) (hgv : given < 2305843009213693952) (k0 : kind ≠ 0) (k1 : kind ≠ 1) (k2 : kind ≠ 2) (k3 : kind ≠ 3) (k4 : kind ≠ 4) (k5 : kind ≠ 5) :
    Calls Try.prog 10 #[.pointer (some ⟨gx, 0, none⟩), .pointer (some ⟨E, 0, none⟩), .agg #[.int .i64 kind, .int .i64 timer, .int .i64 what, .int .u64 A, .int .u64 B]] w fun e w' => e = .returned (.bool true) ∧ DoesP gx E w0 now given w' := by
  have M1 := h.jd #[.int .i64 kind, .int .i64 timer, .int .i64 what, .int .u64 A, .int .u64 B]
  have HP : Hid (DoesP gx E w0 now given (w.alloc (.cells #[.int .i64 kind, .int .i64 timer, .int .i64 what, .int .u64 A, .int .u64 B] 34))) := ⟨x, now, given, es, v, M1.jj, by omega, by omega⟩
  clear M1 h
  have u0 : (kind == 0) = false := by rw [beq_eq_false_iff_ne]; exact k0
  have u1 : (kind == 1) = false := by rw [beq_eq_false_iff_ne]; exact k1
  have u2 : (kind == 2) = false := by rw [beq_eq_false_iff_ne]; exact k2
  have u3 : (kind == 3) = false := by rw [beq_eq_false_iff_ne]; exact k3
  have u4 : (kind == 4) = false := by rw [beq_eq_false_iff_ne]; exact k4
  have u5 : (kind == 5) = false := by rw [beq_eq_false_iff_ne]; exact k5
  go_enter Try.func10, Try.ntmps10
  go_wp2
  go_ret
  exact ⟨rfl, HP.out⟩
end
end Go.Proofs.Ytjkkclojidhgdaa
