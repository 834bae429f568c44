/- WheelActs: the law's walk. -/
import Derived.Test.YtjkkclojidhgdaaX9
namespace Go.Proofs.Ytjkkclojidhgdaa
open Go.RowKit Go.Maps Go.WideMaps
set_option linter.unusedVariables false
set_option maxRecDepth 1000000
set_option linter.unusedSimpArgs false
theorem wpOp_runw {ops : Array Oper} {Q : Exit → Act → World → Prop} {K : Act → World → Prop} {a : Act} {w : World} {i : Nat} {o : Oper} (hi : ops[i]? = some o) (hg : Region.wanted o (yielded ops a.tmps) = true) (h : o.wp Try.prog a w K Q) : wpOp Try.prog ops Q i K a w := by
  unfold Go.wpOp
  simp only [hi]
  rw [if_pos hg]
  exact .inl h
theorem enterDo : ∀ args z, (callFunc 10 args).run Try.prog z = .ok (.enter 10 args) z := fun _ _ => by rfl
theorem enterNw : ∀ args z, (callFunc 11 args).run Try.prog z = .ok (.enter 11 args) z := fun _ _ => by rfl
theorem enterLn : ∀ args z, (callFunc 12 args).run Try.prog z = .ok (.enter 12 args) z := fun _ _ => by rfl
theorem New_out (n : Int) (h : n < 1 ∨ 4096 < n) (w : World) : Calls Try.prog 7 #[.int .i64 n] w fun e w' => e = .returned (.tuple #[.pointer none, .int .i64 1]) ∧ w' = w := by
  by_cases h1 : n < 1
  · have d1 : decide (n < 1) = true := by simp; omega
    go_enter Try.func7, Try.ntmps7
    go_wp2
    go_ret2
    exact ⟨rfl, rfl⟩
  · have d1 : decide (n < 1) = false := by simp; omega
    have d2 : decide (4096 < n) = true := by simp; omega
    go_enter Try.func7, Try.ntmps7
    go_wp2
    go_ret2
    exact ⟨rfl, rfl⟩
set_option maxHeartbeats 2000000 in
theorem calm_any {E : Nat} {l : List Dt} {now last : Nat} {v : Value} {w : World} (h : Xw E l now last v w) :
    Calls Try.prog 9 #[.pointer (some ⟨E, 0, none⟩)] w fun e w' => w' = w ∧ ∃ b, e = .returned (.bool b) := by
  obtain ⟨c0, c1, c2⟩ := h.c
  obtain ⟨ao, cap, rfl⟩ := h.row.wide.shape
  have hlen := h.len
  have HW : Hid (Wide 4 dtC w (.slice ao l.length cap) l) := h.row.wide
  clear h
  go_enter Try.func9, Try.ntmps9
  go_wp2
  go_loopw [3] (fun i x => ∃ k : Nat, k ≤ l.length ∧ i = .int .i64 k ∧ x = w) (fun i _ => l.length - (intOf i).toNat)
  case atStart => exact ⟨0, by omega, rfl, rfl⟩
  case round =>
    obtain ⟨k, hk, rfl, rfl⟩ := hrel
    by_cases hkl : k < l.length
    · obtain ⟨b, off, cap', hv, hb, hR⟩ := HW.out.at0 k hkl
      have hao : ao = some ⟨b, off, none⟩ := by injection hv
      subst hao
      obtain ⟨d0, d1, d2, d3⟩ := dt_cells hR
      clear hv hR
      generalize l[k].per = z at *
      by_cases hz : 0 < z
      · have hz1 : decide ((0 : Int) < (z : Int)) = true := by simp; omega
        by_cases hz2 : z < 100
        · have hz3 : decide ((z : Int) < 100) = true := by simp; omega
          go_wp2
          go_ret
          exact ⟨rfl, _, rfl⟩
        · have hz3 : decide ((z : Int) < 100) = false := by simp; omega
          go_wp2
          go_roundw
          case rel => exact ⟨k + 1, by omega, by go_num, by trivial⟩
          case measure => simp [intOf]; omega
      · have hz1 : decide ((0 : Int) < (z : Int)) = false := by simp; omega
        go_wp2
        go_roundw
        case rel => exact ⟨k + 1, by omega, by go_num, by trivial⟩
        case measure => simp [intOf]; omega
    · go_wp2
      go_ret
      exact ⟨rfl, _, rfl⟩
theorem does_k {gx E now given : Nat} {w0 w : World} {x : Wl} {es : List Tm} {v : Value} (h : Jj gx E w0 x now given es v w) (kind timer what : Int) (A B : Nat) (hti : -9223372036854775808 ≤ timer ∧ timer < 9223372036854775808) (hAb : A < 18446744073709551616) (hBb : B < 18446744073709551616) (hno : now < 576460752303423488) (hgv : given < 2305843009213693952) (hk4 : kind ≠ 4) :
    Calls Try.prog 10 #[.pointer (some ⟨gx, 0, none⟩), .pointer (some ⟨E, 0, none⟩), .agg #[.int .i64 kind, .int .i64 timer, .int .i64 what, .int .u64 A, .int .u64 B]] w fun e w' => e = .returned (.bool true) ∧ DoesP gx E w0 now given w' := by
  by_cases k0 : kind = 0
  · subst k0; exact does_0 h timer what A B hti hAb hBb hno hgv
  by_cases k1 : kind = 1
  · subst k1; exact does_1 h timer what A B hti hAb hBb hno hgv
  by_cases k2 : kind = 2
  · subst k2; exact does_2 h timer what A B hti hAb hBb hno hgv
  by_cases k3 : kind = 3
  · subst k3; exact does_3 h timer what A B hti hAb hBb hno hgv
  by_cases k5 : kind = 5
  · subst k5; exact does_5 h timer what A B hti hAb hBb hno hgv
  exact does_x h kind timer what A B hti hAb hBb hno hgv k0 k1 k2 k3 hk4 k5
set_option maxHeartbeats 8000000 in
theorem wacts_walk (z : Int) (hz : -9223372036854775808 ≤ z ∧ z < 9223372036854775808) (v0 : Value) (l : List Ak) (w : World) (hl : l.length ≤ 3518437208781) (hB : Acts w v0 l) :
    Calls Try.prog 3 #[.int .i64 z, v0] w fun e w' => e = .returned (.bool true) ∧ Below w.heap.size w w' := by
  obtain ⟨ao, cap, rfl, _, hc⟩ := hB
  have HC : Hid (∀ (wr : World), Below w.heap.size w wr → ∀ k (hk : k < l.length), ∃ b off, ao = some ⟨b, off, none⟩ ∧ b < w.heap.size ∧ wr.rangeAt b (off + k * 5) (decK l[k])) := fun wr hb k hk => Wide.at hc hb k hk
  clear hc
  by_cases hr : z < 1 ∨ 4096 < z
  · have hN := New_out z hr w
    have hLi := lives6_any w
    by_cases h1 : z < 1
    · have d1 : decide (z < 1) = true := by simp; omega
      go_enter Try.func3, Try.ntmps3
      go_wp2_with fail
      refine hN.mono ?_
      rintro e w1 ⟨rfl, rfl⟩
      go_wp2_with fail
      refine hLi.mono ?_
      rintro e w5 ⟨rfl, d5⟩
      have HB5 := toHid d5
      clear hLi d5 hN
      go_wp2
      go_ret
      exact ⟨rfl, HB5.out⟩
    · have d1 : decide (z < 1) = false := by simp; omega
      have d2 : decide (4096 < z) = true := by simp; omega
      go_enter Try.func3, Try.ntmps3
      go_wp2_with fail
      refine hN.mono ?_
      rintro e w1 ⟨rfl, rfl⟩
      go_wp2_with fail
      refine hLi.mono ?_
      rintro e w5 ⟨rfl, d5⟩
      have HB5 := toHid d5
      clear hLi d5 hN
      go_wp2
      go_ret
      exact ⟨rfl, HB5.out⟩
  · obtain ⟨p, rfl⟩ : ∃ p : Nat, z = (p : Int) := ⟨z.toNat, by omega⟩
    have d1 : decide ((p : Int) < 1) = false := by simp; omega
    have d2 : decide ((4096 : Int) < (p : Int)) = false := by simp; omega
    have hp : 1 ≤ p ∧ p ≤ 4096 := by omega
    have hN := New_at p (by omega) (by omega) w
    clear hr hz
    go_enter Try.func3, Try.ntmps3
    go_wp2_with fail
    refine hN.mono ?_
    rintro e w1 ⟨x1, rfl, a1, b1, o1⟩
    have HJ1 : Hid (Jj x1.g w1.heap.size w x1 0 0 [] (.slice none 0 0) (w1.alloc (.cells #[.slice none 0 0, .int .u64 0, .int .i64 0] 32))) := by
      have b2 := one_alloc w1 (.cells #[.slice none 0 0, .int .u64 0, .int .i64 0] 32)
      exact ⟨a1.below b2, ⟨heap_alloc_new w1 _, RT.nil _ _ _ _, by show (0 : Nat) ≤ 1024; omega⟩, b1.trans (b2.mono b1.size), o1, b1.size, rfl⟩
    clear hN a1 b1 o1
    generalize x1.g = gx at *
    go_wp2
    obtain ⟨E, hE⟩ : ∃ E, w1.heap.size = E := ⟨_, rfl⟩
    rw [hE] at HJ1 ⊢
    go_loopw [8, 9] (fun tv i wr => ∃ (k tk now given : Nat) (es : List Tm) (x : Wl) (v : Value), k ≤ l.length ∧ i = .int .i64 k ∧ tv = .int .u64 tk ∧ tk ≤ k ∧ now ≤ 1000 * k + (if tk = 0 then 0 else 1048576) ∧ given ≤ k ∧ Jj gx E w x now given es v wr) (fun _ i _ => l.length - (intOf i).toNat)
    case atStart => exact ⟨0, 0, 0, 0, [], x1, _, by omega, rfl, rfl, by omega, by omega, by omega, HJ1.out⟩
    case round =>
      obtain ⟨k, tk, now, given, es, x, v, hk, rfl, rfl, htk, hno, hgi, hJ⟩ := hrel
      clear HJ1
      have HJ : Hid (Jj gx E w x now given es v wr) := hJ
      have hgv : given < 2305843009213693952 := by omega
      have hnb : now < 576460752303423488 := by split at hno <;> omega
      by_cases hkl : k < l.length
      · obtain ⟨bA, off, rfl, hbA, hR⟩ := HC.out wr hJ.bel k hkl
        clear hJ
        generalize l[k] = ak at *
        obtain ⟨kind, timer, what, A, B, i1, hti, i3, hAb, hBb⟩ := ak
        by_cases k4 : kind = 4
        · subst k4
          by_cases hA : 1000 < A
          · have hgA : decide ((1000 : Int) < (A : Int)) = true := by simp; omega
            have htk1 : (tk : Int) + 1 = ((tk + 1 : Nat) : Int) := by omega
            obtain ⟨tk2, htk2⟩ : ∃ x, tk + 1 = x := ⟨_, rfl⟩
            rw [htk2] at htk1
            have htb : tk2 < 9223372036854775808 := by omega
            obtain ⟨m, hm⟩ : ∃ m, A % 1000 = m := ⟨_, rfl⟩
            have hm5 : m < 1000 := by rw [← hm]; exact Nat.mod_lt _ (by omega)
            have hrem : (A : Int).tmod 1000 = (m : Int) := by rw [← hm]; rfl
            clear hm
            by_cases ht1 : 1 < tk2
            · have hgt : decide ((1 : Int) < (tk2 : Int)) = true := by simp; omega
              go_wp2_with (refine ak_ld hR rfl _ rfl rfl ?_)
              refine wp_region_any (by kernel_rfl) ?_
              obtain ⟨w1, hw1⟩ : ∃ z : World, { (wr.alloc (.cells #[.int .i64 4, .int .i64 timer, .int .i64 what, .int .u64 m, .int .u64 B] 34)) with drawn := (wr.alloc (.cells #[.int .i64 4, .int .i64 timer, .int .i64 what, .int .u64 m, .int .u64 B] 34)).drawn + 1 } = z := ⟨_, rfl⟩
              rw [hw1]
              have b1 : Below wr.heap.size wr w1 := (one_alloc wr _).trans ((show Below (wr.alloc (.cells #[.int .i64 4, .int .i64 timer, .int .i64 what, .int .u64 m, .int .u64 B] 34)).heap.size (wr.alloc (.cells #[.int .i64 4, .int .i64 timer, .int .i64 what, .int .u64 m, .int .u64 B] 34)) w1 by rw [← hw1]; exact ⟨rfl, rfl, rfl, Nat.le_refl _, fun _ _ => rfl⟩).mono (by rw [size_alloc]; omega))
              have cR : w1.rangeAt wr.heap.size 0 [.int .i64 4, .int .i64 timer, .int .i64 what, .int .u64 m, .int .u64 B] := by
                have hb : w1.heap[wr.heap.size]? = some (.cells #[.int .i64 4, .int .i64 timer, .int .i64 what, .int .u64 m, .int .u64 B] 34 (0, 0)) := by rw [← hw1]; exact heap_alloc_new wr _
                intro j u hj
                rw [Lib.cell_of_heap hb, Nat.zero_add]
                simpa using hj
              have J1 := HJ.out.below b1
              have hD := does_4 J1 timer what m B hti (by omega) hBb (by omega) hgv m (by omega)
              clear hw1 b1 J1
              refine wpAny_take (i := 0) (v := (.pointer (some ⟨gx, 0, none⟩))) rfl (by kernel_rfl) (by kernel_rfl) (by kernel_rfl) (fun _ _ _ h => h) (.inl ⟨rfl, fun _ => rfl⟩) ?_
              simp only [List.getElem_toArray, List.getElem_cons_succ, List.getElem_cons_zero, Act.put, List.setIfInBounds_toArray, List.set_cons_succ, List.set_cons_zero]
              refine wpAny_take (i := 1) (v := (.pointer (some ⟨E, 0, none⟩))) rfl (by kernel_rfl) (by kernel_rfl) (by kernel_rfl) (fun _ _ _ h => h) (.inl ⟨rfl, fun _ => rfl⟩) ?_
              simp only [List.getElem_toArray, List.getElem_cons_succ, List.getElem_cons_zero, Act.put, List.setIfInBounds_toArray, List.set_cons_succ, List.set_cons_zero]
              refine wpAny_all (rs := [2]) (by kernel_rfl) (by simp) ?_
              intro k hk
              simp only [List.mem_cons, List.mem_nil_iff, or_false] at hk
              subst hk
              refine wpOp_run rfl rfl (wp_load_cell 34 _ rfl wr.heap.size 0 rfl (.agg #[.int .i64 4, .int .i64 timer, .int .i64 what, .int .u64 m, .int .u64 B]) (run_loadVar_mid (P := Try.prog) w1 wr.heap.size 0 34 [.int .i64 4, .int .i64 timer, .int .i64 what, .int .u64 m, .int .u64 B] _ cR Try.underlying34 rfl infoK) ?_)
              simp only [List.getElem_toArray, List.getElem_cons_succ, List.getElem_cons_zero, Act.put, List.setIfInBounds_toArray, List.set_cons_succ, List.set_cons_zero]
              refine wpAny_all (rs := [3]) (by kernel_rfl) (by simp) ?_
              intro k hk
              simp only [List.mem_cons, List.mem_nil_iff, or_false] at hk
              subst hk
              refine wpOp_run rfl rfl (wp_call_fn 10 #[.pointer (some ⟨gx, 0, none⟩), .pointer (some ⟨E, 0, none⟩), .agg #[.int .i64 4, .int .i64 timer, .int .i64 what, .int .u64 m, .int .u64 B]] (by simp [execOp, go_sem, Act.eval, resolve, invoke, enterDo]) (hD.mono ?_))
              rintro e w2 ⟨rfl, x2, now2, given2, es2, v2, J2, hn2, hg2⟩
              obtain ⟨d0, d1, d2⟩ := J2.xd.c
              obtain ⟨ao2, cap2, hv2⟩ := J2.xd.row.wide.shape
              subst hv2
              have hNw := Now_any J2.ax.wh
              rw [J2.gx] at hNw
              have hLn := Len_at J2.ax
              rw [J2.gx] at hLn
              have hlen2 := dts_len now2 es2
              simp only [List.getElem_toArray, List.getElem_cons_succ, List.getElem_cons_zero, Act.put, List.setIfInBounds_toArray, List.set_cons_succ, List.set_cons_zero]
              refine wpAny_take (i := 4) (v := (.bool false)) rfl (by kernel_rfl) (by kernel_rfl) (by kernel_rfl) (fun _ _ _ h => h) (.inl ⟨rfl, fun _ => by simp [execOp, go_sem, Act.eval]⟩) ?_
              simp only [List.getElem_toArray, List.getElem_cons_succ, List.getElem_cons_zero, Act.put, List.setIfInBounds_toArray, List.set_cons_succ, List.set_cons_zero]
              refine wpAny_take (i := 5) (v := (.bool false)) rfl (by kernel_rfl) (by kernel_rfl) (by kernel_rfl) (fun _ _ _ h => h) (.inl ⟨rfl, fun _ => rfl⟩) ?_
              simp only [List.getElem_toArray, List.getElem_cons_succ, List.getElem_cons_zero, Act.put, List.setIfInBounds_toArray, List.set_cons_succ, List.set_cons_zero]
              refine wpAny_take (i := 6) (v := (.pointer (some ⟨gx, 0, none⟩))) rfl (by kernel_rfl) (by kernel_rfl) (by kernel_rfl) (fun _ _ _ h => h) (.inl ⟨rfl, fun _ => rfl⟩) ?_
              simp only [List.getElem_toArray, List.getElem_cons_succ, List.getElem_cons_zero, Act.put, List.setIfInBounds_toArray, List.set_cons_succ, List.set_cons_zero]
              refine wpAny_take (i := 8) (v := (.pointer (some ⟨E, 0, none⟩))) rfl (by kernel_rfl) (by kernel_rfl) (by kernel_rfl) (fun _ _ _ h => h) (.inl ⟨rfl, fun _ => rfl⟩) ?_
              simp only [List.getElem_toArray, List.getElem_cons_succ, List.getElem_cons_zero, Act.put, List.setIfInBounds_toArray, List.set_cons_succ, List.set_cons_zero]
              refine wpAny_take (i := 9) (v := (.pointer (some ⟨E, 0, none⟩))) rfl (by kernel_rfl) (by kernel_rfl) (by kernel_rfl) (fun _ _ _ h => h) (.inl ⟨rfl, fun _ => by simp [execOp, go_sem, Act.eval]⟩) ?_
              simp only [List.getElem_toArray, List.getElem_cons_succ, List.getElem_cons_zero, Act.put, List.setIfInBounds_toArray, List.set_cons_succ, List.set_cons_zero]
              refine wpAny_take (i := 10) (v := (.pointer (some ⟨E, 1, none⟩))) rfl (by kernel_rfl) (by kernel_rfl) (by kernel_rfl) (fun _ _ _ h => h) (.inl ⟨rfl, fun _ => by simp [execOp, go_sem, Act.eval]⟩) ?_
              simp only [List.getElem_toArray, List.getElem_cons_succ, List.getElem_cons_zero, Act.put, List.setIfInBounds_toArray, List.set_cons_succ, List.set_cons_zero]
              refine wpAny_all (rs := [7, 11]) (by kernel_rfl) (by simp) ?_
              intro k hk
              simp only [List.mem_cons, List.mem_nil_iff, or_false] at hk
              rcases hk with rfl | rfl
              · refine wpOp_runw rfl rfl (wp_call_fn 11 #[.pointer (some ⟨gx, 0, none⟩)] (by simp [execOp, go_sem, Act.eval, resolve, invoke, enterNw]) (hNw.mono ?_))
                rintro e w3 ⟨rfl, ew3⟩
                rw [ew3]
                simp only [List.getElem_toArray, List.getElem_cons_succ, List.getElem_cons_zero, Act.put, List.setIfInBounds_toArray, List.set_cons_succ, List.set_cons_zero]
                refine wpAny_all (rs := [11]) (by kernel_rfl) (by simp) ?_
                intro k hk
                simp only [List.mem_cons, List.mem_nil_iff, or_false] at hk
                subst hk
                refine wpOp_runw rfl rfl (wp_load_cell 30 _ rfl E 1 rfl (.int .u64 now2) (load_u64 _ E 1 _ d1) ?_)
                simp only [List.getElem_toArray, List.getElem_cons_succ, List.getElem_cons_zero, Act.put, List.setIfInBounds_toArray, List.set_cons_succ, List.set_cons_zero]
                refine wpAny_take (i := 12) (v := (.bool false)) rfl (by kernel_rfl) (by kernel_rfl) (by kernel_rfl) (fun _ _ _ h => h) (.inl ⟨rfl, fun _ => by simp [execOp, go_sem, Act.eval]⟩) ?_
                simp only [List.getElem_toArray, List.getElem_cons_succ, List.getElem_cons_zero, Act.put, List.setIfInBounds_toArray, List.set_cons_succ, List.set_cons_zero]
                refine wpAny_take (i := 13) (v := (.bool false)) rfl (by kernel_rfl) (by kernel_rfl) (by kernel_rfl) (fun _ _ _ h => h) (.inl ⟨rfl, fun _ => by simp [execOp, go_sem, Act.eval]⟩) ?_
                simp only [List.getElem_toArray, List.getElem_cons_succ, List.getElem_cons_zero, Act.put, List.setIfInBounds_toArray, List.set_cons_succ, List.set_cons_zero]
                refine wpAny_take (i := 14) (v := (.bool false)) rfl (by kernel_rfl) (by kernel_rfl) (by kernel_rfl) (fun _ _ _ h => h) (.inl ⟨rfl, fun _ => rfl⟩) ?_
                simp only [List.getElem_toArray, List.getElem_cons_succ, List.getElem_cons_zero, Act.put, List.setIfInBounds_toArray, List.set_cons_succ, List.set_cons_zero]
                refine wpAny_take (i := 15) (v := (.pointer (some ⟨gx, 0, none⟩))) rfl (by kernel_rfl) (by kernel_rfl) (by kernel_rfl) (fun _ _ _ h => h) (.inl ⟨rfl, fun _ => rfl⟩) ?_
                simp only [List.getElem_toArray, List.getElem_cons_succ, List.getElem_cons_zero, Act.put, List.setIfInBounds_toArray, List.set_cons_succ, List.set_cons_zero]
                refine wpAny_take (i := 17) (v := (.pointer (some ⟨E, 0, none⟩))) rfl (by kernel_rfl) (by kernel_rfl) (by kernel_rfl) (fun _ _ _ h => h) (.inl ⟨rfl, fun _ => rfl⟩) ?_
                simp only [List.getElem_toArray, List.getElem_cons_succ, List.getElem_cons_zero, Act.put, List.setIfInBounds_toArray, List.set_cons_succ, List.set_cons_zero]
                refine wpAny_take (i := 18) (v := (.pointer (some ⟨E, 0, none⟩))) rfl (by kernel_rfl) (by kernel_rfl) (by kernel_rfl) (fun _ _ _ h => h) (.inl ⟨rfl, fun _ => by simp [execOp, go_sem, Act.eval]⟩) ?_
                simp only [List.getElem_toArray, List.getElem_cons_succ, List.getElem_cons_zero, Act.put, List.setIfInBounds_toArray, List.set_cons_succ, List.set_cons_zero]
                refine wpAny_take (i := 19) (v := (.pointer (some ⟨E, 0, none⟩))) rfl (by kernel_rfl) (by kernel_rfl) (by kernel_rfl) (fun _ _ _ h => h) (.inl ⟨rfl, fun _ => by simp [execOp, go_sem, Act.eval]⟩) ?_
                simp only [List.getElem_toArray, List.getElem_cons_succ, List.getElem_cons_zero, Act.put, List.setIfInBounds_toArray, List.set_cons_succ, List.set_cons_zero]
                refine wpAny_all (rs := [16, 20]) (by kernel_rfl) (by simp) ?_
                intro k hk
                simp only [List.mem_cons, List.mem_nil_iff, or_false] at hk
                rcases hk with rfl | rfl
                · refine wpOp_runw rfl rfl (wp_call_fn 12 #[.pointer (some ⟨gx, 0, none⟩)] (by simp [execOp, go_sem, Act.eval, resolve, invoke, enterLn]) (hLn.mono ?_))
                  rintro e w4 ⟨rfl, ew4⟩
                  rw [ew4]
                  simp only [List.getElem_toArray, List.getElem_cons_succ, List.getElem_cons_zero, Act.put, List.setIfInBounds_toArray, List.set_cons_succ, List.set_cons_zero]
                  refine wpAny_all (rs := [20]) (by kernel_rfl) (by simp) ?_
                  intro k hk
                  simp only [List.mem_cons, List.mem_nil_iff, or_false] at hk
                  subst hk
                  refine wpOp_runw rfl rfl (wp_load_cell 29 _ rfl E 0 rfl (.slice ao2 (dts now2 es2).length cap2) (load_tms _ E 0 _ _ _ d0) ?_)
                  simp only [List.getElem_toArray, List.getElem_cons_succ, List.getElem_cons_zero, Act.put, List.setIfInBounds_toArray, List.set_cons_succ, List.set_cons_zero]
                  refine wpAny_take (i := 21) (v := (.int .i64 es2.length)) rfl (by kernel_rfl) (by kernel_rfl) (by kernel_rfl) (fun _ _ _ h => h) (.inl ⟨rfl, fun _ => by simp [execOp, go_sem, Act.eval, resolve, invoke, builtin, hlen2]⟩) ?_
                  simp only [List.getElem_toArray, List.getElem_cons_succ, List.getElem_cons_zero, Act.put, List.setIfInBounds_toArray, List.set_cons_succ, List.set_cons_zero]
                  refine wpAny_take (i := 22) (v := (.bool false)) rfl (by kernel_rfl) (by kernel_rfl) (by kernel_rfl) (fun _ _ _ h => h) (.inl ⟨rfl, fun _ => by simp [execOp, go_sem, Act.eval]⟩) ?_
                  simp only [List.getElem_toArray, List.getElem_cons_succ, List.getElem_cons_zero, Act.put, List.setIfInBounds_toArray, List.set_cons_succ, List.set_cons_zero]
                  refine wpAny_take (i := 23) (v := (.bool false)) rfl (by kernel_rfl) (by kernel_rfl) (by kernel_rfl) (fun _ _ _ h => h) (.inl ⟨rfl, fun _ => by simp [execOp, go_sem, Act.eval]⟩) ?_
                  simp only [List.getElem_toArray, List.getElem_cons_succ, List.getElem_cons_zero, Act.put, List.setIfInBounds_toArray, List.set_cons_succ, List.set_cons_zero]
                  refine wpAny_done (by kernel_rfl) ?_ _
                  have HP : Hid (Jj gx E w x2 now2 given2 es2 _ w2) := J2
                  have HB : Hid (now2 ≤ 1000 * (k + 1) + (if tk2 = 0 then 0 else 1048576) ∧ given2 ≤ k + 1) := ⟨by have := hn2; rw [if_neg (by omega)]; split at hno <;> omega, by omega⟩
                  clear J2 d0 d1 d2 hNw hLn hD cR HJ hlen2 hn2 hg2
                  go_wp2
                  go_roundw
                  case rel => exact ⟨k + 1, tk2, now2, given2, es2, x2, _, by omega, by go_num, by first | rfl | go_num, by omega, HB.out.1, HB.out.2, HP.out⟩
                  case measure => simp [intOf]; omega
                · refine wpOp_runw rfl rfl (wp_load_cell 29 _ rfl E 0 rfl (.slice ao2 (dts now2 es2).length cap2) (load_tms _ E 0 _ _ _ d0) ?_)
                  simp only [List.getElem_toArray, List.getElem_cons_succ, List.getElem_cons_zero, Act.put, List.setIfInBounds_toArray, List.set_cons_succ, List.set_cons_zero]
                  refine wpAny_take (i := 21) (v := (.int .i64 es2.length)) rfl (by kernel_rfl) (by kernel_rfl) (by kernel_rfl) (fun _ _ _ h => h) (.inl ⟨rfl, fun _ => by simp [execOp, go_sem, Act.eval, resolve, invoke, builtin, hlen2]⟩) ?_
                  simp only [List.getElem_toArray, List.getElem_cons_succ, List.getElem_cons_zero, Act.put, List.setIfInBounds_toArray, List.set_cons_succ, List.set_cons_zero]
                  refine wpAny_all (rs := [16]) (by kernel_rfl) (by simp) ?_
                  intro k hk
                  simp only [List.mem_cons, List.mem_nil_iff, or_false] at hk
                  subst hk
                  refine wpOp_runw rfl rfl (wp_call_fn 12 #[.pointer (some ⟨gx, 0, none⟩)] (by simp [execOp, go_sem, Act.eval, resolve, invoke, enterLn]) (hLn.mono ?_))
                  rintro e w4 ⟨rfl, ew4⟩
                  rw [ew4]
                  simp only [List.getElem_toArray, List.getElem_cons_succ, List.getElem_cons_zero, Act.put, List.setIfInBounds_toArray, List.set_cons_succ, List.set_cons_zero]
                  refine wpAny_take (i := 22) (v := (.bool false)) rfl (by kernel_rfl) (by kernel_rfl) (by kernel_rfl) (fun _ _ _ h => h) (.inl ⟨rfl, fun _ => by simp [execOp, go_sem, Act.eval]⟩) ?_
                  simp only [List.getElem_toArray, List.getElem_cons_succ, List.getElem_cons_zero, Act.put, List.setIfInBounds_toArray, List.set_cons_succ, List.set_cons_zero]
                  refine wpAny_take (i := 23) (v := (.bool false)) rfl (by kernel_rfl) (by kernel_rfl) (by kernel_rfl) (fun _ _ _ h => h) (.inl ⟨rfl, fun _ => by simp [execOp, go_sem, Act.eval]⟩) ?_
                  simp only [List.getElem_toArray, List.getElem_cons_succ, List.getElem_cons_zero, Act.put, List.setIfInBounds_toArray, List.set_cons_succ, List.set_cons_zero]
                  refine wpAny_done (by kernel_rfl) ?_ _
                  have HP : Hid (Jj gx E w x2 now2 given2 es2 _ w2) := J2
                  have HB : Hid (now2 ≤ 1000 * (k + 1) + (if tk2 = 0 then 0 else 1048576) ∧ given2 ≤ k + 1) := ⟨by have := hn2; rw [if_neg (by omega)]; split at hno <;> omega, by omega⟩
                  clear J2 d0 d1 d2 hNw hLn hD cR HJ hlen2 hn2 hg2
                  go_wp2
                  go_roundw
                  case rel => exact ⟨k + 1, tk2, now2, given2, es2, x2, _, by omega, by go_num, by first | rfl | go_num, by omega, HB.out.1, HB.out.2, HP.out⟩
                  case measure => simp [intOf]; omega
              · refine wpOp_runw rfl rfl (wp_load_cell 30 _ rfl E 1 rfl (.int .u64 now2) (load_u64 _ E 1 _ d1) ?_)
                simp only [List.getElem_toArray, List.getElem_cons_succ, List.getElem_cons_zero, Act.put, List.setIfInBounds_toArray, List.set_cons_succ, List.set_cons_zero]
                refine wpAny_all (rs := [7]) (by kernel_rfl) (by simp) ?_
                intro k hk
                simp only [List.mem_cons, List.mem_nil_iff, or_false] at hk
                subst hk
                refine wpOp_runw rfl rfl (wp_call_fn 11 #[.pointer (some ⟨gx, 0, none⟩)] (by simp [execOp, go_sem, Act.eval, resolve, invoke, enterNw]) (hNw.mono ?_))
                rintro e w3 ⟨rfl, ew3⟩
                rw [ew3]
                simp only [List.getElem_toArray, List.getElem_cons_succ, List.getElem_cons_zero, Act.put, List.setIfInBounds_toArray, List.set_cons_succ, List.set_cons_zero]
                refine wpAny_take (i := 12) (v := (.bool false)) rfl (by kernel_rfl) (by kernel_rfl) (by kernel_rfl) (fun _ _ _ h => h) (.inl ⟨rfl, fun _ => by simp [execOp, go_sem, Act.eval]⟩) ?_
                simp only [List.getElem_toArray, List.getElem_cons_succ, List.getElem_cons_zero, Act.put, List.setIfInBounds_toArray, List.set_cons_succ, List.set_cons_zero]
                refine wpAny_take (i := 13) (v := (.bool false)) rfl (by kernel_rfl) (by kernel_rfl) (by kernel_rfl) (fun _ _ _ h => h) (.inl ⟨rfl, fun _ => by simp [execOp, go_sem, Act.eval]⟩) ?_
                simp only [List.getElem_toArray, List.getElem_cons_succ, List.getElem_cons_zero, Act.put, List.setIfInBounds_toArray, List.set_cons_succ, List.set_cons_zero]
                refine wpAny_take (i := 14) (v := (.bool false)) rfl (by kernel_rfl) (by kernel_rfl) (by kernel_rfl) (fun _ _ _ h => h) (.inl ⟨rfl, fun _ => rfl⟩) ?_
                simp only [List.getElem_toArray, List.getElem_cons_succ, List.getElem_cons_zero, Act.put, List.setIfInBounds_toArray, List.set_cons_succ, List.set_cons_zero]
                refine wpAny_take (i := 15) (v := (.pointer (some ⟨gx, 0, none⟩))) rfl (by kernel_rfl) (by kernel_rfl) (by kernel_rfl) (fun _ _ _ h => h) (.inl ⟨rfl, fun _ => rfl⟩) ?_
                simp only [List.getElem_toArray, List.getElem_cons_succ, List.getElem_cons_zero, Act.put, List.setIfInBounds_toArray, List.set_cons_succ, List.set_cons_zero]
                refine wpAny_take (i := 17) (v := (.pointer (some ⟨E, 0, none⟩))) rfl (by kernel_rfl) (by kernel_rfl) (by kernel_rfl) (fun _ _ _ h => h) (.inl ⟨rfl, fun _ => rfl⟩) ?_
                simp only [List.getElem_toArray, List.getElem_cons_succ, List.getElem_cons_zero, Act.put, List.setIfInBounds_toArray, List.set_cons_succ, List.set_cons_zero]
                refine wpAny_take (i := 18) (v := (.pointer (some ⟨E, 0, none⟩))) rfl (by kernel_rfl) (by kernel_rfl) (by kernel_rfl) (fun _ _ _ h => h) (.inl ⟨rfl, fun _ => by simp [execOp, go_sem, Act.eval]⟩) ?_
                simp only [List.getElem_toArray, List.getElem_cons_succ, List.getElem_cons_zero, Act.put, List.setIfInBounds_toArray, List.set_cons_succ, List.set_cons_zero]
                refine wpAny_take (i := 19) (v := (.pointer (some ⟨E, 0, none⟩))) rfl (by kernel_rfl) (by kernel_rfl) (by kernel_rfl) (fun _ _ _ h => h) (.inl ⟨rfl, fun _ => by simp [execOp, go_sem, Act.eval]⟩) ?_
                simp only [List.getElem_toArray, List.getElem_cons_succ, List.getElem_cons_zero, Act.put, List.setIfInBounds_toArray, List.set_cons_succ, List.set_cons_zero]
                refine wpAny_all (rs := [16, 20]) (by kernel_rfl) (by simp) ?_
                intro k hk
                simp only [List.mem_cons, List.mem_nil_iff, or_false] at hk
                rcases hk with rfl | rfl
                · refine wpOp_runw rfl rfl (wp_call_fn 12 #[.pointer (some ⟨gx, 0, none⟩)] (by simp [execOp, go_sem, Act.eval, resolve, invoke, enterLn]) (hLn.mono ?_))
                  rintro e w4 ⟨rfl, ew4⟩
                  rw [ew4]
                  simp only [List.getElem_toArray, List.getElem_cons_succ, List.getElem_cons_zero, Act.put, List.setIfInBounds_toArray, List.set_cons_succ, List.set_cons_zero]
                  refine wpAny_all (rs := [20]) (by kernel_rfl) (by simp) ?_
                  intro k hk
                  simp only [List.mem_cons, List.mem_nil_iff, or_false] at hk
                  subst hk
                  refine wpOp_runw rfl rfl (wp_load_cell 29 _ rfl E 0 rfl (.slice ao2 (dts now2 es2).length cap2) (load_tms _ E 0 _ _ _ d0) ?_)
                  simp only [List.getElem_toArray, List.getElem_cons_succ, List.getElem_cons_zero, Act.put, List.setIfInBounds_toArray, List.set_cons_succ, List.set_cons_zero]
                  refine wpAny_take (i := 21) (v := (.int .i64 es2.length)) rfl (by kernel_rfl) (by kernel_rfl) (by kernel_rfl) (fun _ _ _ h => h) (.inl ⟨rfl, fun _ => by simp [execOp, go_sem, Act.eval, resolve, invoke, builtin, hlen2]⟩) ?_
                  simp only [List.getElem_toArray, List.getElem_cons_succ, List.getElem_cons_zero, Act.put, List.setIfInBounds_toArray, List.set_cons_succ, List.set_cons_zero]
                  refine wpAny_take (i := 22) (v := (.bool false)) rfl (by kernel_rfl) (by kernel_rfl) (by kernel_rfl) (fun _ _ _ h => h) (.inl ⟨rfl, fun _ => by simp [execOp, go_sem, Act.eval]⟩) ?_
                  simp only [List.getElem_toArray, List.getElem_cons_succ, List.getElem_cons_zero, Act.put, List.setIfInBounds_toArray, List.set_cons_succ, List.set_cons_zero]
                  refine wpAny_take (i := 23) (v := (.bool false)) rfl (by kernel_rfl) (by kernel_rfl) (by kernel_rfl) (fun _ _ _ h => h) (.inl ⟨rfl, fun _ => by simp [execOp, go_sem, Act.eval]⟩) ?_
                  simp only [List.getElem_toArray, List.getElem_cons_succ, List.getElem_cons_zero, Act.put, List.setIfInBounds_toArray, List.set_cons_succ, List.set_cons_zero]
                  refine wpAny_done (by kernel_rfl) ?_ _
                  have HP : Hid (Jj gx E w x2 now2 given2 es2 _ w2) := J2
                  have HB : Hid (now2 ≤ 1000 * (k + 1) + (if tk2 = 0 then 0 else 1048576) ∧ given2 ≤ k + 1) := ⟨by have := hn2; rw [if_neg (by omega)]; split at hno <;> omega, by omega⟩
                  clear J2 d0 d1 d2 hNw hLn hD cR HJ hlen2 hn2 hg2
                  go_wp2
                  go_roundw
                  case rel => exact ⟨k + 1, tk2, now2, given2, es2, x2, _, by omega, by go_num, by first | rfl | go_num, by omega, HB.out.1, HB.out.2, HP.out⟩
                  case measure => simp [intOf]; omega
                · refine wpOp_runw rfl rfl (wp_load_cell 29 _ rfl E 0 rfl (.slice ao2 (dts now2 es2).length cap2) (load_tms _ E 0 _ _ _ d0) ?_)
                  simp only [List.getElem_toArray, List.getElem_cons_succ, List.getElem_cons_zero, Act.put, List.setIfInBounds_toArray, List.set_cons_succ, List.set_cons_zero]
                  refine wpAny_take (i := 21) (v := (.int .i64 es2.length)) rfl (by kernel_rfl) (by kernel_rfl) (by kernel_rfl) (fun _ _ _ h => h) (.inl ⟨rfl, fun _ => by simp [execOp, go_sem, Act.eval, resolve, invoke, builtin, hlen2]⟩) ?_
                  simp only [List.getElem_toArray, List.getElem_cons_succ, List.getElem_cons_zero, Act.put, List.setIfInBounds_toArray, List.set_cons_succ, List.set_cons_zero]
                  refine wpAny_all (rs := [16]) (by kernel_rfl) (by simp) ?_
                  intro k hk
                  simp only [List.mem_cons, List.mem_nil_iff, or_false] at hk
                  subst hk
                  refine wpOp_runw rfl rfl (wp_call_fn 12 #[.pointer (some ⟨gx, 0, none⟩)] (by simp [execOp, go_sem, Act.eval, resolve, invoke, enterLn]) (hLn.mono ?_))
                  rintro e w4 ⟨rfl, ew4⟩
                  rw [ew4]
                  simp only [List.getElem_toArray, List.getElem_cons_succ, List.getElem_cons_zero, Act.put, List.setIfInBounds_toArray, List.set_cons_succ, List.set_cons_zero]
                  refine wpAny_take (i := 22) (v := (.bool false)) rfl (by kernel_rfl) (by kernel_rfl) (by kernel_rfl) (fun _ _ _ h => h) (.inl ⟨rfl, fun _ => by simp [execOp, go_sem, Act.eval]⟩) ?_
                  simp only [List.getElem_toArray, List.getElem_cons_succ, List.getElem_cons_zero, Act.put, List.setIfInBounds_toArray, List.set_cons_succ, List.set_cons_zero]
                  refine wpAny_take (i := 23) (v := (.bool false)) rfl (by kernel_rfl) (by kernel_rfl) (by kernel_rfl) (fun _ _ _ h => h) (.inl ⟨rfl, fun _ => by simp [execOp, go_sem, Act.eval]⟩) ?_
                  simp only [List.getElem_toArray, List.getElem_cons_succ, List.getElem_cons_zero, Act.put, List.setIfInBounds_toArray, List.set_cons_succ, List.set_cons_zero]
                  refine wpAny_done (by kernel_rfl) ?_ _
                  have HP : Hid (Jj gx E w x2 now2 given2 es2 _ w2) := J2
                  have HB : Hid (now2 ≤ 1000 * (k + 1) + (if tk2 = 0 then 0 else 1048576) ∧ given2 ≤ k + 1) := ⟨by have := hn2; rw [if_neg (by omega)]; split at hno <;> omega, by omega⟩
                  clear J2 d0 d1 d2 hNw hLn hD cR HJ hlen2 hn2 hg2
                  go_wp2
                  go_roundw
                  case rel => exact ⟨k + 1, tk2, now2, given2, es2, x2, _, by omega, by go_num, by first | rfl | go_num, by omega, HB.out.1, HB.out.2, HP.out⟩
                  case measure => simp [intOf]; omega
            · have hgt : decide ((1 : Int) < (tk2 : Int)) = false := by simp; omega
              have hCa := calm_any (HJ.out.below (one_alloc wr (.cells #[.int .i64 4, .int .i64 timer, .int .i64 what, .int .u64 A, .int .u64 B] 34))).xd
              go_wp2_with (refine ak_ld hR rfl _ rfl rfl ?_)
              refine hCa.mono ?_
              rintro e wc ⟨ew, bb, rfl⟩
              rw [ew]
              clear hCa ew
              cases bb with
              | true =>
                go_wp2_with fail
                refine wp_region_any (by kernel_rfl) ?_
                obtain ⟨w1, hw1⟩ : ∃ z : World, { (wr.alloc (.cells #[.int .i64 4, .int .i64 timer, .int .i64 what, .int .u64 A, .int .u64 B] 34)) with drawn := (wr.alloc (.cells #[.int .i64 4, .int .i64 timer, .int .i64 what, .int .u64 A, .int .u64 B] 34)).drawn + 1 } = z := ⟨_, rfl⟩
                rw [hw1]
                have b1 : Below wr.heap.size wr w1 := (one_alloc wr _).trans ((show Below (wr.alloc (.cells #[.int .i64 4, .int .i64 timer, .int .i64 what, .int .u64 A, .int .u64 B] 34)).heap.size (wr.alloc (.cells #[.int .i64 4, .int .i64 timer, .int .i64 what, .int .u64 A, .int .u64 B] 34)) w1 by rw [← hw1]; exact ⟨rfl, rfl, rfl, Nat.le_refl _, fun _ _ => rfl⟩).mono (by rw [size_alloc]; omega))
                have cR : w1.rangeAt wr.heap.size 0 [.int .i64 4, .int .i64 timer, .int .i64 what, .int .u64 A, .int .u64 B] := by
                  have hb : w1.heap[wr.heap.size]? = some (.cells #[.int .i64 4, .int .i64 timer, .int .i64 what, .int .u64 A, .int .u64 B] 34 (0, 0)) := by rw [← hw1]; exact heap_alloc_new wr _
                  intro j u hj
                  rw [Lib.cell_of_heap hb, Nat.zero_add]
                  simpa using hj
                have J1 := HJ.out.below b1
                have hD := does_4 J1 timer what A B hti (by omega) hBb (by omega) hgv (min A 1048576) (by omega)
                clear hw1 b1 J1
                refine wpAny_take (i := 0) (v := (.pointer (some ⟨gx, 0, none⟩))) rfl (by kernel_rfl) (by kernel_rfl) (by kernel_rfl) (fun _ _ _ h => h) (.inl ⟨rfl, fun _ => rfl⟩) ?_
                simp only [List.getElem_toArray, List.getElem_cons_succ, List.getElem_cons_zero, Act.put, List.setIfInBounds_toArray, List.set_cons_succ, List.set_cons_zero]
                refine wpAny_take (i := 1) (v := (.pointer (some ⟨E, 0, none⟩))) rfl (by kernel_rfl) (by kernel_rfl) (by kernel_rfl) (fun _ _ _ h => h) (.inl ⟨rfl, fun _ => rfl⟩) ?_
                simp only [List.getElem_toArray, List.getElem_cons_succ, List.getElem_cons_zero, Act.put, List.setIfInBounds_toArray, List.set_cons_succ, List.set_cons_zero]
                refine wpAny_all (rs := [2]) (by kernel_rfl) (by simp) ?_
                intro k hk
                simp only [List.mem_cons, List.mem_nil_iff, or_false] at hk
                subst hk
                refine wpOp_run rfl rfl (wp_load_cell 34 _ rfl wr.heap.size 0 rfl (.agg #[.int .i64 4, .int .i64 timer, .int .i64 what, .int .u64 A, .int .u64 B]) (run_loadVar_mid (P := Try.prog) w1 wr.heap.size 0 34 [.int .i64 4, .int .i64 timer, .int .i64 what, .int .u64 A, .int .u64 B] _ cR Try.underlying34 rfl infoK) ?_)
                simp only [List.getElem_toArray, List.getElem_cons_succ, List.getElem_cons_zero, Act.put, List.setIfInBounds_toArray, List.set_cons_succ, List.set_cons_zero]
                refine wpAny_all (rs := [3]) (by kernel_rfl) (by simp) ?_
                intro k hk
                simp only [List.mem_cons, List.mem_nil_iff, or_false] at hk
                subst hk
                refine wpOp_run rfl rfl (wp_call_fn 10 #[.pointer (some ⟨gx, 0, none⟩), .pointer (some ⟨E, 0, none⟩), .agg #[.int .i64 4, .int .i64 timer, .int .i64 what, .int .u64 A, .int .u64 B]] (by simp [execOp, go_sem, Act.eval, resolve, invoke, enterDo]) (hD.mono ?_))
                rintro e w2 ⟨rfl, x2, now2, given2, es2, v2, J2, hn2, hg2⟩
                obtain ⟨d0, d1, d2⟩ := J2.xd.c
                obtain ⟨ao2, cap2, hv2⟩ := J2.xd.row.wide.shape
                subst hv2
                have hNw := Now_any J2.ax.wh
                rw [J2.gx] at hNw
                have hLn := Len_at J2.ax
                rw [J2.gx] at hLn
                have hlen2 := dts_len now2 es2
                simp only [List.getElem_toArray, List.getElem_cons_succ, List.getElem_cons_zero, Act.put, List.setIfInBounds_toArray, List.set_cons_succ, List.set_cons_zero]
                refine wpAny_take (i := 4) (v := (.bool false)) rfl (by kernel_rfl) (by kernel_rfl) (by kernel_rfl) (fun _ _ _ h => h) (.inl ⟨rfl, fun _ => by simp [execOp, go_sem, Act.eval]⟩) ?_
                simp only [List.getElem_toArray, List.getElem_cons_succ, List.getElem_cons_zero, Act.put, List.setIfInBounds_toArray, List.set_cons_succ, List.set_cons_zero]
                refine wpAny_take (i := 5) (v := (.bool false)) rfl (by kernel_rfl) (by kernel_rfl) (by kernel_rfl) (fun _ _ _ h => h) (.inl ⟨rfl, fun _ => rfl⟩) ?_
                simp only [List.getElem_toArray, List.getElem_cons_succ, List.getElem_cons_zero, Act.put, List.setIfInBounds_toArray, List.set_cons_succ, List.set_cons_zero]
                refine wpAny_take (i := 6) (v := (.pointer (some ⟨gx, 0, none⟩))) rfl (by kernel_rfl) (by kernel_rfl) (by kernel_rfl) (fun _ _ _ h => h) (.inl ⟨rfl, fun _ => rfl⟩) ?_
                simp only [List.getElem_toArray, List.getElem_cons_succ, List.getElem_cons_zero, Act.put, List.setIfInBounds_toArray, List.set_cons_succ, List.set_cons_zero]
                refine wpAny_take (i := 8) (v := (.pointer (some ⟨E, 0, none⟩))) rfl (by kernel_rfl) (by kernel_rfl) (by kernel_rfl) (fun _ _ _ h => h) (.inl ⟨rfl, fun _ => rfl⟩) ?_
                simp only [List.getElem_toArray, List.getElem_cons_succ, List.getElem_cons_zero, Act.put, List.setIfInBounds_toArray, List.set_cons_succ, List.set_cons_zero]
                refine wpAny_take (i := 9) (v := (.pointer (some ⟨E, 0, none⟩))) rfl (by kernel_rfl) (by kernel_rfl) (by kernel_rfl) (fun _ _ _ h => h) (.inl ⟨rfl, fun _ => by simp [execOp, go_sem, Act.eval]⟩) ?_
                simp only [List.getElem_toArray, List.getElem_cons_succ, List.getElem_cons_zero, Act.put, List.setIfInBounds_toArray, List.set_cons_succ, List.set_cons_zero]
                refine wpAny_take (i := 10) (v := (.pointer (some ⟨E, 1, none⟩))) rfl (by kernel_rfl) (by kernel_rfl) (by kernel_rfl) (fun _ _ _ h => h) (.inl ⟨rfl, fun _ => by simp [execOp, go_sem, Act.eval]⟩) ?_
                simp only [List.getElem_toArray, List.getElem_cons_succ, List.getElem_cons_zero, Act.put, List.setIfInBounds_toArray, List.set_cons_succ, List.set_cons_zero]
                refine wpAny_all (rs := [7, 11]) (by kernel_rfl) (by simp) ?_
                intro k hk
                simp only [List.mem_cons, List.mem_nil_iff, or_false] at hk
                rcases hk with rfl | rfl
                · refine wpOp_runw rfl rfl (wp_call_fn 11 #[.pointer (some ⟨gx, 0, none⟩)] (by simp [execOp, go_sem, Act.eval, resolve, invoke, enterNw]) (hNw.mono ?_))
                  rintro e w3 ⟨rfl, ew3⟩
                  rw [ew3]
                  simp only [List.getElem_toArray, List.getElem_cons_succ, List.getElem_cons_zero, Act.put, List.setIfInBounds_toArray, List.set_cons_succ, List.set_cons_zero]
                  refine wpAny_all (rs := [11]) (by kernel_rfl) (by simp) ?_
                  intro k hk
                  simp only [List.mem_cons, List.mem_nil_iff, or_false] at hk
                  subst hk
                  refine wpOp_runw rfl rfl (wp_load_cell 30 _ rfl E 1 rfl (.int .u64 now2) (load_u64 _ E 1 _ d1) ?_)
                  simp only [List.getElem_toArray, List.getElem_cons_succ, List.getElem_cons_zero, Act.put, List.setIfInBounds_toArray, List.set_cons_succ, List.set_cons_zero]
                  refine wpAny_take (i := 12) (v := (.bool false)) rfl (by kernel_rfl) (by kernel_rfl) (by kernel_rfl) (fun _ _ _ h => h) (.inl ⟨rfl, fun _ => by simp [execOp, go_sem, Act.eval]⟩) ?_
                  simp only [List.getElem_toArray, List.getElem_cons_succ, List.getElem_cons_zero, Act.put, List.setIfInBounds_toArray, List.set_cons_succ, List.set_cons_zero]
                  refine wpAny_take (i := 13) (v := (.bool false)) rfl (by kernel_rfl) (by kernel_rfl) (by kernel_rfl) (fun _ _ _ h => h) (.inl ⟨rfl, fun _ => by simp [execOp, go_sem, Act.eval]⟩) ?_
                  simp only [List.getElem_toArray, List.getElem_cons_succ, List.getElem_cons_zero, Act.put, List.setIfInBounds_toArray, List.set_cons_succ, List.set_cons_zero]
                  refine wpAny_take (i := 14) (v := (.bool false)) rfl (by kernel_rfl) (by kernel_rfl) (by kernel_rfl) (fun _ _ _ h => h) (.inl ⟨rfl, fun _ => rfl⟩) ?_
                  simp only [List.getElem_toArray, List.getElem_cons_succ, List.getElem_cons_zero, Act.put, List.setIfInBounds_toArray, List.set_cons_succ, List.set_cons_zero]
                  refine wpAny_take (i := 15) (v := (.pointer (some ⟨gx, 0, none⟩))) rfl (by kernel_rfl) (by kernel_rfl) (by kernel_rfl) (fun _ _ _ h => h) (.inl ⟨rfl, fun _ => rfl⟩) ?_
                  simp only [List.getElem_toArray, List.getElem_cons_succ, List.getElem_cons_zero, Act.put, List.setIfInBounds_toArray, List.set_cons_succ, List.set_cons_zero]
                  refine wpAny_take (i := 17) (v := (.pointer (some ⟨E, 0, none⟩))) rfl (by kernel_rfl) (by kernel_rfl) (by kernel_rfl) (fun _ _ _ h => h) (.inl ⟨rfl, fun _ => rfl⟩) ?_
                  simp only [List.getElem_toArray, List.getElem_cons_succ, List.getElem_cons_zero, Act.put, List.setIfInBounds_toArray, List.set_cons_succ, List.set_cons_zero]
                  refine wpAny_take (i := 18) (v := (.pointer (some ⟨E, 0, none⟩))) rfl (by kernel_rfl) (by kernel_rfl) (by kernel_rfl) (fun _ _ _ h => h) (.inl ⟨rfl, fun _ => by simp [execOp, go_sem, Act.eval]⟩) ?_
                  simp only [List.getElem_toArray, List.getElem_cons_succ, List.getElem_cons_zero, Act.put, List.setIfInBounds_toArray, List.set_cons_succ, List.set_cons_zero]
                  refine wpAny_take (i := 19) (v := (.pointer (some ⟨E, 0, none⟩))) rfl (by kernel_rfl) (by kernel_rfl) (by kernel_rfl) (fun _ _ _ h => h) (.inl ⟨rfl, fun _ => by simp [execOp, go_sem, Act.eval]⟩) ?_
                  simp only [List.getElem_toArray, List.getElem_cons_succ, List.getElem_cons_zero, Act.put, List.setIfInBounds_toArray, List.set_cons_succ, List.set_cons_zero]
                  refine wpAny_all (rs := [16, 20]) (by kernel_rfl) (by simp) ?_
                  intro k hk
                  simp only [List.mem_cons, List.mem_nil_iff, or_false] at hk
                  rcases hk with rfl | rfl
                  · refine wpOp_runw rfl rfl (wp_call_fn 12 #[.pointer (some ⟨gx, 0, none⟩)] (by simp [execOp, go_sem, Act.eval, resolve, invoke, enterLn]) (hLn.mono ?_))
                    rintro e w4 ⟨rfl, ew4⟩
                    rw [ew4]
                    simp only [List.getElem_toArray, List.getElem_cons_succ, List.getElem_cons_zero, Act.put, List.setIfInBounds_toArray, List.set_cons_succ, List.set_cons_zero]
                    refine wpAny_all (rs := [20]) (by kernel_rfl) (by simp) ?_
                    intro k hk
                    simp only [List.mem_cons, List.mem_nil_iff, or_false] at hk
                    subst hk
                    refine wpOp_runw rfl rfl (wp_load_cell 29 _ rfl E 0 rfl (.slice ao2 (dts now2 es2).length cap2) (load_tms _ E 0 _ _ _ d0) ?_)
                    simp only [List.getElem_toArray, List.getElem_cons_succ, List.getElem_cons_zero, Act.put, List.setIfInBounds_toArray, List.set_cons_succ, List.set_cons_zero]
                    refine wpAny_take (i := 21) (v := (.int .i64 es2.length)) rfl (by kernel_rfl) (by kernel_rfl) (by kernel_rfl) (fun _ _ _ h => h) (.inl ⟨rfl, fun _ => by simp [execOp, go_sem, Act.eval, resolve, invoke, builtin, hlen2]⟩) ?_
                    simp only [List.getElem_toArray, List.getElem_cons_succ, List.getElem_cons_zero, Act.put, List.setIfInBounds_toArray, List.set_cons_succ, List.set_cons_zero]
                    refine wpAny_take (i := 22) (v := (.bool false)) rfl (by kernel_rfl) (by kernel_rfl) (by kernel_rfl) (fun _ _ _ h => h) (.inl ⟨rfl, fun _ => by simp [execOp, go_sem, Act.eval]⟩) ?_
                    simp only [List.getElem_toArray, List.getElem_cons_succ, List.getElem_cons_zero, Act.put, List.setIfInBounds_toArray, List.set_cons_succ, List.set_cons_zero]
                    refine wpAny_take (i := 23) (v := (.bool false)) rfl (by kernel_rfl) (by kernel_rfl) (by kernel_rfl) (fun _ _ _ h => h) (.inl ⟨rfl, fun _ => by simp [execOp, go_sem, Act.eval]⟩) ?_
                    simp only [List.getElem_toArray, List.getElem_cons_succ, List.getElem_cons_zero, Act.put, List.setIfInBounds_toArray, List.set_cons_succ, List.set_cons_zero]
                    refine wpAny_done (by kernel_rfl) ?_ _
                    have HP : Hid (Jj gx E w x2 now2 given2 es2 _ w2) := J2
                    have HB : Hid (now2 ≤ 1000 * (k + 1) + (if tk2 = 0 then 0 else 1048576) ∧ given2 ≤ k + 1) := ⟨by have := hn2; rw [if_neg (by omega)]; rw [if_pos (by omega)] at hno; omega, by omega⟩
                    clear J2 d0 d1 d2 hNw hLn hD cR HJ hlen2 hn2 hg2
                    go_wp2
                    go_roundw
                    case rel => exact ⟨k + 1, tk2, now2, given2, es2, x2, _, by omega, by go_num, by first | rfl | go_num, by omega, HB.out.1, HB.out.2, HP.out⟩
                    case measure => simp [intOf]; omega
                  · refine wpOp_runw rfl rfl (wp_load_cell 29 _ rfl E 0 rfl (.slice ao2 (dts now2 es2).length cap2) (load_tms _ E 0 _ _ _ d0) ?_)
                    simp only [List.getElem_toArray, List.getElem_cons_succ, List.getElem_cons_zero, Act.put, List.setIfInBounds_toArray, List.set_cons_succ, List.set_cons_zero]
                    refine wpAny_take (i := 21) (v := (.int .i64 es2.length)) rfl (by kernel_rfl) (by kernel_rfl) (by kernel_rfl) (fun _ _ _ h => h) (.inl ⟨rfl, fun _ => by simp [execOp, go_sem, Act.eval, resolve, invoke, builtin, hlen2]⟩) ?_
                    simp only [List.getElem_toArray, List.getElem_cons_succ, List.getElem_cons_zero, Act.put, List.setIfInBounds_toArray, List.set_cons_succ, List.set_cons_zero]
                    refine wpAny_all (rs := [16]) (by kernel_rfl) (by simp) ?_
                    intro k hk
                    simp only [List.mem_cons, List.mem_nil_iff, or_false] at hk
                    subst hk
                    refine wpOp_runw rfl rfl (wp_call_fn 12 #[.pointer (some ⟨gx, 0, none⟩)] (by simp [execOp, go_sem, Act.eval, resolve, invoke, enterLn]) (hLn.mono ?_))
                    rintro e w4 ⟨rfl, ew4⟩
                    rw [ew4]
                    simp only [List.getElem_toArray, List.getElem_cons_succ, List.getElem_cons_zero, Act.put, List.setIfInBounds_toArray, List.set_cons_succ, List.set_cons_zero]
                    refine wpAny_take (i := 22) (v := (.bool false)) rfl (by kernel_rfl) (by kernel_rfl) (by kernel_rfl) (fun _ _ _ h => h) (.inl ⟨rfl, fun _ => by simp [execOp, go_sem, Act.eval]⟩) ?_
                    simp only [List.getElem_toArray, List.getElem_cons_succ, List.getElem_cons_zero, Act.put, List.setIfInBounds_toArray, List.set_cons_succ, List.set_cons_zero]
                    refine wpAny_take (i := 23) (v := (.bool false)) rfl (by kernel_rfl) (by kernel_rfl) (by kernel_rfl) (fun _ _ _ h => h) (.inl ⟨rfl, fun _ => by simp [execOp, go_sem, Act.eval]⟩) ?_
                    simp only [List.getElem_toArray, List.getElem_cons_succ, List.getElem_cons_zero, Act.put, List.setIfInBounds_toArray, List.set_cons_succ, List.set_cons_zero]
                    refine wpAny_done (by kernel_rfl) ?_ _
                    have HP : Hid (Jj gx E w x2 now2 given2 es2 _ w2) := J2
                    have HB : Hid (now2 ≤ 1000 * (k + 1) + (if tk2 = 0 then 0 else 1048576) ∧ given2 ≤ k + 1) := ⟨by have := hn2; rw [if_neg (by omega)]; rw [if_pos (by omega)] at hno; omega, by omega⟩
                    clear J2 d0 d1 d2 hNw hLn hD cR HJ hlen2 hn2 hg2
                    go_wp2
                    go_roundw
                    case rel => exact ⟨k + 1, tk2, now2, given2, es2, x2, _, by omega, by go_num, by first | rfl | go_num, by omega, HB.out.1, HB.out.2, HP.out⟩
                    case measure => simp [intOf]; omega
                · refine wpOp_runw rfl rfl (wp_load_cell 30 _ rfl E 1 rfl (.int .u64 now2) (load_u64 _ E 1 _ d1) ?_)
                  simp only [List.getElem_toArray, List.getElem_cons_succ, List.getElem_cons_zero, Act.put, List.setIfInBounds_toArray, List.set_cons_succ, List.set_cons_zero]
                  refine wpAny_all (rs := [7]) (by kernel_rfl) (by simp) ?_
                  intro k hk
                  simp only [List.mem_cons, List.mem_nil_iff, or_false] at hk
                  subst hk
                  refine wpOp_runw rfl rfl (wp_call_fn 11 #[.pointer (some ⟨gx, 0, none⟩)] (by simp [execOp, go_sem, Act.eval, resolve, invoke, enterNw]) (hNw.mono ?_))
                  rintro e w3 ⟨rfl, ew3⟩
                  rw [ew3]
                  simp only [List.getElem_toArray, List.getElem_cons_succ, List.getElem_cons_zero, Act.put, List.setIfInBounds_toArray, List.set_cons_succ, List.set_cons_zero]
                  refine wpAny_take (i := 12) (v := (.bool false)) rfl (by kernel_rfl) (by kernel_rfl) (by kernel_rfl) (fun _ _ _ h => h) (.inl ⟨rfl, fun _ => by simp [execOp, go_sem, Act.eval]⟩) ?_
                  simp only [List.getElem_toArray, List.getElem_cons_succ, List.getElem_cons_zero, Act.put, List.setIfInBounds_toArray, List.set_cons_succ, List.set_cons_zero]
                  refine wpAny_take (i := 13) (v := (.bool false)) rfl (by kernel_rfl) (by kernel_rfl) (by kernel_rfl) (fun _ _ _ h => h) (.inl ⟨rfl, fun _ => by simp [execOp, go_sem, Act.eval]⟩) ?_
                  simp only [List.getElem_toArray, List.getElem_cons_succ, List.getElem_cons_zero, Act.put, List.setIfInBounds_toArray, List.set_cons_succ, List.set_cons_zero]
                  refine wpAny_take (i := 14) (v := (.bool false)) rfl (by kernel_rfl) (by kernel_rfl) (by kernel_rfl) (fun _ _ _ h => h) (.inl ⟨rfl, fun _ => rfl⟩) ?_
                  simp only [List.getElem_toArray, List.getElem_cons_succ, List.getElem_cons_zero, Act.put, List.setIfInBounds_toArray, List.set_cons_succ, List.set_cons_zero]
                  refine wpAny_take (i := 15) (v := (.pointer (some ⟨gx, 0, none⟩))) rfl (by kernel_rfl) (by kernel_rfl) (by kernel_rfl) (fun _ _ _ h => h) (.inl ⟨rfl, fun _ => rfl⟩) ?_
                  simp only [List.getElem_toArray, List.getElem_cons_succ, List.getElem_cons_zero, Act.put, List.setIfInBounds_toArray, List.set_cons_succ, List.set_cons_zero]
                  refine wpAny_take (i := 17) (v := (.pointer (some ⟨E, 0, none⟩))) rfl (by kernel_rfl) (by kernel_rfl) (by kernel_rfl) (fun _ _ _ h => h) (.inl ⟨rfl, fun _ => rfl⟩) ?_
                  simp only [List.getElem_toArray, List.getElem_cons_succ, List.getElem_cons_zero, Act.put, List.setIfInBounds_toArray, List.set_cons_succ, List.set_cons_zero]
                  refine wpAny_take (i := 18) (v := (.pointer (some ⟨E, 0, none⟩))) rfl (by kernel_rfl) (by kernel_rfl) (by kernel_rfl) (fun _ _ _ h => h) (.inl ⟨rfl, fun _ => by simp [execOp, go_sem, Act.eval]⟩) ?_
                  simp only [List.getElem_toArray, List.getElem_cons_succ, List.getElem_cons_zero, Act.put, List.setIfInBounds_toArray, List.set_cons_succ, List.set_cons_zero]
                  refine wpAny_take (i := 19) (v := (.pointer (some ⟨E, 0, none⟩))) rfl (by kernel_rfl) (by kernel_rfl) (by kernel_rfl) (fun _ _ _ h => h) (.inl ⟨rfl, fun _ => by simp [execOp, go_sem, Act.eval]⟩) ?_
                  simp only [List.getElem_toArray, List.getElem_cons_succ, List.getElem_cons_zero, Act.put, List.setIfInBounds_toArray, List.set_cons_succ, List.set_cons_zero]
                  refine wpAny_all (rs := [16, 20]) (by kernel_rfl) (by simp) ?_
                  intro k hk
                  simp only [List.mem_cons, List.mem_nil_iff, or_false] at hk
                  rcases hk with rfl | rfl
                  · refine wpOp_runw rfl rfl (wp_call_fn 12 #[.pointer (some ⟨gx, 0, none⟩)] (by simp [execOp, go_sem, Act.eval, resolve, invoke, enterLn]) (hLn.mono ?_))
                    rintro e w4 ⟨rfl, ew4⟩
                    rw [ew4]
                    simp only [List.getElem_toArray, List.getElem_cons_succ, List.getElem_cons_zero, Act.put, List.setIfInBounds_toArray, List.set_cons_succ, List.set_cons_zero]
                    refine wpAny_all (rs := [20]) (by kernel_rfl) (by simp) ?_
                    intro k hk
                    simp only [List.mem_cons, List.mem_nil_iff, or_false] at hk
                    subst hk
                    refine wpOp_runw rfl rfl (wp_load_cell 29 _ rfl E 0 rfl (.slice ao2 (dts now2 es2).length cap2) (load_tms _ E 0 _ _ _ d0) ?_)
                    simp only [List.getElem_toArray, List.getElem_cons_succ, List.getElem_cons_zero, Act.put, List.setIfInBounds_toArray, List.set_cons_succ, List.set_cons_zero]
                    refine wpAny_take (i := 21) (v := (.int .i64 es2.length)) rfl (by kernel_rfl) (by kernel_rfl) (by kernel_rfl) (fun _ _ _ h => h) (.inl ⟨rfl, fun _ => by simp [execOp, go_sem, Act.eval, resolve, invoke, builtin, hlen2]⟩) ?_
                    simp only [List.getElem_toArray, List.getElem_cons_succ, List.getElem_cons_zero, Act.put, List.setIfInBounds_toArray, List.set_cons_succ, List.set_cons_zero]
                    refine wpAny_take (i := 22) (v := (.bool false)) rfl (by kernel_rfl) (by kernel_rfl) (by kernel_rfl) (fun _ _ _ h => h) (.inl ⟨rfl, fun _ => by simp [execOp, go_sem, Act.eval]⟩) ?_
                    simp only [List.getElem_toArray, List.getElem_cons_succ, List.getElem_cons_zero, Act.put, List.setIfInBounds_toArray, List.set_cons_succ, List.set_cons_zero]
                    refine wpAny_take (i := 23) (v := (.bool false)) rfl (by kernel_rfl) (by kernel_rfl) (by kernel_rfl) (fun _ _ _ h => h) (.inl ⟨rfl, fun _ => by simp [execOp, go_sem, Act.eval]⟩) ?_
                    simp only [List.getElem_toArray, List.getElem_cons_succ, List.getElem_cons_zero, Act.put, List.setIfInBounds_toArray, List.set_cons_succ, List.set_cons_zero]
                    refine wpAny_done (by kernel_rfl) ?_ _
                    have HP : Hid (Jj gx E w x2 now2 given2 es2 _ w2) := J2
                    have HB : Hid (now2 ≤ 1000 * (k + 1) + (if tk2 = 0 then 0 else 1048576) ∧ given2 ≤ k + 1) := ⟨by have := hn2; rw [if_neg (by omega)]; rw [if_pos (by omega)] at hno; omega, by omega⟩
                    clear J2 d0 d1 d2 hNw hLn hD cR HJ hlen2 hn2 hg2
                    go_wp2
                    go_roundw
                    case rel => exact ⟨k + 1, tk2, now2, given2, es2, x2, _, by omega, by go_num, by first | rfl | go_num, by omega, HB.out.1, HB.out.2, HP.out⟩
                    case measure => simp [intOf]; omega
                  · refine wpOp_runw rfl rfl (wp_load_cell 29 _ rfl E 0 rfl (.slice ao2 (dts now2 es2).length cap2) (load_tms _ E 0 _ _ _ d0) ?_)
                    simp only [List.getElem_toArray, List.getElem_cons_succ, List.getElem_cons_zero, Act.put, List.setIfInBounds_toArray, List.set_cons_succ, List.set_cons_zero]
                    refine wpAny_take (i := 21) (v := (.int .i64 es2.length)) rfl (by kernel_rfl) (by kernel_rfl) (by kernel_rfl) (fun _ _ _ h => h) (.inl ⟨rfl, fun _ => by simp [execOp, go_sem, Act.eval, resolve, invoke, builtin, hlen2]⟩) ?_
                    simp only [List.getElem_toArray, List.getElem_cons_succ, List.getElem_cons_zero, Act.put, List.setIfInBounds_toArray, List.set_cons_succ, List.set_cons_zero]
                    refine wpAny_all (rs := [16]) (by kernel_rfl) (by simp) ?_
                    intro k hk
                    simp only [List.mem_cons, List.mem_nil_iff, or_false] at hk
                    subst hk
                    refine wpOp_runw rfl rfl (wp_call_fn 12 #[.pointer (some ⟨gx, 0, none⟩)] (by simp [execOp, go_sem, Act.eval, resolve, invoke, enterLn]) (hLn.mono ?_))
                    rintro e w4 ⟨rfl, ew4⟩
                    rw [ew4]
                    simp only [List.getElem_toArray, List.getElem_cons_succ, List.getElem_cons_zero, Act.put, List.setIfInBounds_toArray, List.set_cons_succ, List.set_cons_zero]
                    refine wpAny_take (i := 22) (v := (.bool false)) rfl (by kernel_rfl) (by kernel_rfl) (by kernel_rfl) (fun _ _ _ h => h) (.inl ⟨rfl, fun _ => by simp [execOp, go_sem, Act.eval]⟩) ?_
                    simp only [List.getElem_toArray, List.getElem_cons_succ, List.getElem_cons_zero, Act.put, List.setIfInBounds_toArray, List.set_cons_succ, List.set_cons_zero]
                    refine wpAny_take (i := 23) (v := (.bool false)) rfl (by kernel_rfl) (by kernel_rfl) (by kernel_rfl) (fun _ _ _ h => h) (.inl ⟨rfl, fun _ => by simp [execOp, go_sem, Act.eval]⟩) ?_
                    simp only [List.getElem_toArray, List.getElem_cons_succ, List.getElem_cons_zero, Act.put, List.setIfInBounds_toArray, List.set_cons_succ, List.set_cons_zero]
                    refine wpAny_done (by kernel_rfl) ?_ _
                    have HP : Hid (Jj gx E w x2 now2 given2 es2 _ w2) := J2
                    have HB : Hid (now2 ≤ 1000 * (k + 1) + (if tk2 = 0 then 0 else 1048576) ∧ given2 ≤ k + 1) := ⟨by have := hn2; rw [if_neg (by omega)]; rw [if_pos (by omega)] at hno; omega, by omega⟩
                    clear J2 d0 d1 d2 hNw hLn hD cR HJ hlen2 hn2 hg2
                    go_wp2
                    go_roundw
                    case rel => exact ⟨k + 1, tk2, now2, given2, es2, x2, _, by omega, by go_num, by first | rfl | go_num, by omega, HB.out.1, HB.out.2, HP.out⟩
                    case measure => simp [intOf]; omega
              | false =>
                go_wp2_with fail
                refine wp_region_any (by kernel_rfl) ?_
                obtain ⟨w1, hw1⟩ : ∃ z : World, { (wr.alloc (.cells #[.int .i64 4, .int .i64 timer, .int .i64 what, .int .u64 m, .int .u64 B] 34)) with drawn := (wr.alloc (.cells #[.int .i64 4, .int .i64 timer, .int .i64 what, .int .u64 m, .int .u64 B] 34)).drawn + 1 } = z := ⟨_, rfl⟩
                rw [hw1]
                have b1 : Below wr.heap.size wr w1 := (one_alloc wr _).trans ((show Below (wr.alloc (.cells #[.int .i64 4, .int .i64 timer, .int .i64 what, .int .u64 m, .int .u64 B] 34)).heap.size (wr.alloc (.cells #[.int .i64 4, .int .i64 timer, .int .i64 what, .int .u64 m, .int .u64 B] 34)) w1 by rw [← hw1]; exact ⟨rfl, rfl, rfl, Nat.le_refl _, fun _ _ => rfl⟩).mono (by rw [size_alloc]; omega))
                have cR : w1.rangeAt wr.heap.size 0 [.int .i64 4, .int .i64 timer, .int .i64 what, .int .u64 m, .int .u64 B] := by
                  have hb : w1.heap[wr.heap.size]? = some (.cells #[.int .i64 4, .int .i64 timer, .int .i64 what, .int .u64 m, .int .u64 B] 34 (0, 0)) := by rw [← hw1]; exact heap_alloc_new wr _
                  intro j u hj
                  rw [Lib.cell_of_heap hb, Nat.zero_add]
                  simpa using hj
                have J1 := HJ.out.below b1
                have hD := does_4 J1 timer what m B hti (by omega) hBb (by omega) hgv m (by omega)
                clear hw1 b1 J1
                refine wpAny_take (i := 0) (v := (.pointer (some ⟨gx, 0, none⟩))) rfl (by kernel_rfl) (by kernel_rfl) (by kernel_rfl) (fun _ _ _ h => h) (.inl ⟨rfl, fun _ => rfl⟩) ?_
                simp only [List.getElem_toArray, List.getElem_cons_succ, List.getElem_cons_zero, Act.put, List.setIfInBounds_toArray, List.set_cons_succ, List.set_cons_zero]
                refine wpAny_take (i := 1) (v := (.pointer (some ⟨E, 0, none⟩))) rfl (by kernel_rfl) (by kernel_rfl) (by kernel_rfl) (fun _ _ _ h => h) (.inl ⟨rfl, fun _ => rfl⟩) ?_
                simp only [List.getElem_toArray, List.getElem_cons_succ, List.getElem_cons_zero, Act.put, List.setIfInBounds_toArray, List.set_cons_succ, List.set_cons_zero]
                refine wpAny_all (rs := [2]) (by kernel_rfl) (by simp) ?_
                intro k hk
                simp only [List.mem_cons, List.mem_nil_iff, or_false] at hk
                subst hk
                refine wpOp_run rfl rfl (wp_load_cell 34 _ rfl wr.heap.size 0 rfl (.agg #[.int .i64 4, .int .i64 timer, .int .i64 what, .int .u64 m, .int .u64 B]) (run_loadVar_mid (P := Try.prog) w1 wr.heap.size 0 34 [.int .i64 4, .int .i64 timer, .int .i64 what, .int .u64 m, .int .u64 B] _ cR Try.underlying34 rfl infoK) ?_)
                simp only [List.getElem_toArray, List.getElem_cons_succ, List.getElem_cons_zero, Act.put, List.setIfInBounds_toArray, List.set_cons_succ, List.set_cons_zero]
                refine wpAny_all (rs := [3]) (by kernel_rfl) (by simp) ?_
                intro k hk
                simp only [List.mem_cons, List.mem_nil_iff, or_false] at hk
                subst hk
                refine wpOp_run rfl rfl (wp_call_fn 10 #[.pointer (some ⟨gx, 0, none⟩), .pointer (some ⟨E, 0, none⟩), .agg #[.int .i64 4, .int .i64 timer, .int .i64 what, .int .u64 m, .int .u64 B]] (by simp [execOp, go_sem, Act.eval, resolve, invoke, enterDo]) (hD.mono ?_))
                rintro e w2 ⟨rfl, x2, now2, given2, es2, v2, J2, hn2, hg2⟩
                obtain ⟨d0, d1, d2⟩ := J2.xd.c
                obtain ⟨ao2, cap2, hv2⟩ := J2.xd.row.wide.shape
                subst hv2
                have hNw := Now_any J2.ax.wh
                rw [J2.gx] at hNw
                have hLn := Len_at J2.ax
                rw [J2.gx] at hLn
                have hlen2 := dts_len now2 es2
                simp only [List.getElem_toArray, List.getElem_cons_succ, List.getElem_cons_zero, Act.put, List.setIfInBounds_toArray, List.set_cons_succ, List.set_cons_zero]
                refine wpAny_take (i := 4) (v := (.bool false)) rfl (by kernel_rfl) (by kernel_rfl) (by kernel_rfl) (fun _ _ _ h => h) (.inl ⟨rfl, fun _ => by simp [execOp, go_sem, Act.eval]⟩) ?_
                simp only [List.getElem_toArray, List.getElem_cons_succ, List.getElem_cons_zero, Act.put, List.setIfInBounds_toArray, List.set_cons_succ, List.set_cons_zero]
                refine wpAny_take (i := 5) (v := (.bool false)) rfl (by kernel_rfl) (by kernel_rfl) (by kernel_rfl) (fun _ _ _ h => h) (.inl ⟨rfl, fun _ => rfl⟩) ?_
                simp only [List.getElem_toArray, List.getElem_cons_succ, List.getElem_cons_zero, Act.put, List.setIfInBounds_toArray, List.set_cons_succ, List.set_cons_zero]
                refine wpAny_take (i := 6) (v := (.pointer (some ⟨gx, 0, none⟩))) rfl (by kernel_rfl) (by kernel_rfl) (by kernel_rfl) (fun _ _ _ h => h) (.inl ⟨rfl, fun _ => rfl⟩) ?_
                simp only [List.getElem_toArray, List.getElem_cons_succ, List.getElem_cons_zero, Act.put, List.setIfInBounds_toArray, List.set_cons_succ, List.set_cons_zero]
                refine wpAny_take (i := 8) (v := (.pointer (some ⟨E, 0, none⟩))) rfl (by kernel_rfl) (by kernel_rfl) (by kernel_rfl) (fun _ _ _ h => h) (.inl ⟨rfl, fun _ => rfl⟩) ?_
                simp only [List.getElem_toArray, List.getElem_cons_succ, List.getElem_cons_zero, Act.put, List.setIfInBounds_toArray, List.set_cons_succ, List.set_cons_zero]
                refine wpAny_take (i := 9) (v := (.pointer (some ⟨E, 0, none⟩))) rfl (by kernel_rfl) (by kernel_rfl) (by kernel_rfl) (fun _ _ _ h => h) (.inl ⟨rfl, fun _ => by simp [execOp, go_sem, Act.eval]⟩) ?_
                simp only [List.getElem_toArray, List.getElem_cons_succ, List.getElem_cons_zero, Act.put, List.setIfInBounds_toArray, List.set_cons_succ, List.set_cons_zero]
                refine wpAny_take (i := 10) (v := (.pointer (some ⟨E, 1, none⟩))) rfl (by kernel_rfl) (by kernel_rfl) (by kernel_rfl) (fun _ _ _ h => h) (.inl ⟨rfl, fun _ => by simp [execOp, go_sem, Act.eval]⟩) ?_
                simp only [List.getElem_toArray, List.getElem_cons_succ, List.getElem_cons_zero, Act.put, List.setIfInBounds_toArray, List.set_cons_succ, List.set_cons_zero]
                refine wpAny_all (rs := [7, 11]) (by kernel_rfl) (by simp) ?_
                intro k hk
                simp only [List.mem_cons, List.mem_nil_iff, or_false] at hk
                rcases hk with rfl | rfl
                · refine wpOp_runw rfl rfl (wp_call_fn 11 #[.pointer (some ⟨gx, 0, none⟩)] (by simp [execOp, go_sem, Act.eval, resolve, invoke, enterNw]) (hNw.mono ?_))
                  rintro e w3 ⟨rfl, ew3⟩
                  rw [ew3]
                  simp only [List.getElem_toArray, List.getElem_cons_succ, List.getElem_cons_zero, Act.put, List.setIfInBounds_toArray, List.set_cons_succ, List.set_cons_zero]
                  refine wpAny_all (rs := [11]) (by kernel_rfl) (by simp) ?_
                  intro k hk
                  simp only [List.mem_cons, List.mem_nil_iff, or_false] at hk
                  subst hk
                  refine wpOp_runw rfl rfl (wp_load_cell 30 _ rfl E 1 rfl (.int .u64 now2) (load_u64 _ E 1 _ d1) ?_)
                  simp only [List.getElem_toArray, List.getElem_cons_succ, List.getElem_cons_zero, Act.put, List.setIfInBounds_toArray, List.set_cons_succ, List.set_cons_zero]
                  refine wpAny_take (i := 12) (v := (.bool false)) rfl (by kernel_rfl) (by kernel_rfl) (by kernel_rfl) (fun _ _ _ h => h) (.inl ⟨rfl, fun _ => by simp [execOp, go_sem, Act.eval]⟩) ?_
                  simp only [List.getElem_toArray, List.getElem_cons_succ, List.getElem_cons_zero, Act.put, List.setIfInBounds_toArray, List.set_cons_succ, List.set_cons_zero]
                  refine wpAny_take (i := 13) (v := (.bool false)) rfl (by kernel_rfl) (by kernel_rfl) (by kernel_rfl) (fun _ _ _ h => h) (.inl ⟨rfl, fun _ => by simp [execOp, go_sem, Act.eval]⟩) ?_
                  simp only [List.getElem_toArray, List.getElem_cons_succ, List.getElem_cons_zero, Act.put, List.setIfInBounds_toArray, List.set_cons_succ, List.set_cons_zero]
                  refine wpAny_take (i := 14) (v := (.bool false)) rfl (by kernel_rfl) (by kernel_rfl) (by kernel_rfl) (fun _ _ _ h => h) (.inl ⟨rfl, fun _ => rfl⟩) ?_
                  simp only [List.getElem_toArray, List.getElem_cons_succ, List.getElem_cons_zero, Act.put, List.setIfInBounds_toArray, List.set_cons_succ, List.set_cons_zero]
                  refine wpAny_take (i := 15) (v := (.pointer (some ⟨gx, 0, none⟩))) rfl (by kernel_rfl) (by kernel_rfl) (by kernel_rfl) (fun _ _ _ h => h) (.inl ⟨rfl, fun _ => rfl⟩) ?_
                  simp only [List.getElem_toArray, List.getElem_cons_succ, List.getElem_cons_zero, Act.put, List.setIfInBounds_toArray, List.set_cons_succ, List.set_cons_zero]
                  refine wpAny_take (i := 17) (v := (.pointer (some ⟨E, 0, none⟩))) rfl (by kernel_rfl) (by kernel_rfl) (by kernel_rfl) (fun _ _ _ h => h) (.inl ⟨rfl, fun _ => rfl⟩) ?_
                  simp only [List.getElem_toArray, List.getElem_cons_succ, List.getElem_cons_zero, Act.put, List.setIfInBounds_toArray, List.set_cons_succ, List.set_cons_zero]
                  refine wpAny_take (i := 18) (v := (.pointer (some ⟨E, 0, none⟩))) rfl (by kernel_rfl) (by kernel_rfl) (by kernel_rfl) (fun _ _ _ h => h) (.inl ⟨rfl, fun _ => by simp [execOp, go_sem, Act.eval]⟩) ?_
                  simp only [List.getElem_toArray, List.getElem_cons_succ, List.getElem_cons_zero, Act.put, List.setIfInBounds_toArray, List.set_cons_succ, List.set_cons_zero]
                  refine wpAny_take (i := 19) (v := (.pointer (some ⟨E, 0, none⟩))) rfl (by kernel_rfl) (by kernel_rfl) (by kernel_rfl) (fun _ _ _ h => h) (.inl ⟨rfl, fun _ => by simp [execOp, go_sem, Act.eval]⟩) ?_
                  simp only [List.getElem_toArray, List.getElem_cons_succ, List.getElem_cons_zero, Act.put, List.setIfInBounds_toArray, List.set_cons_succ, List.set_cons_zero]
                  refine wpAny_all (rs := [16, 20]) (by kernel_rfl) (by simp) ?_
                  intro k hk
                  simp only [List.mem_cons, List.mem_nil_iff, or_false] at hk
                  rcases hk with rfl | rfl
                  · refine wpOp_runw rfl rfl (wp_call_fn 12 #[.pointer (some ⟨gx, 0, none⟩)] (by simp [execOp, go_sem, Act.eval, resolve, invoke, enterLn]) (hLn.mono ?_))
                    rintro e w4 ⟨rfl, ew4⟩
                    rw [ew4]
                    simp only [List.getElem_toArray, List.getElem_cons_succ, List.getElem_cons_zero, Act.put, List.setIfInBounds_toArray, List.set_cons_succ, List.set_cons_zero]
                    refine wpAny_all (rs := [20]) (by kernel_rfl) (by simp) ?_
                    intro k hk
                    simp only [List.mem_cons, List.mem_nil_iff, or_false] at hk
                    subst hk
                    refine wpOp_runw rfl rfl (wp_load_cell 29 _ rfl E 0 rfl (.slice ao2 (dts now2 es2).length cap2) (load_tms _ E 0 _ _ _ d0) ?_)
                    simp only [List.getElem_toArray, List.getElem_cons_succ, List.getElem_cons_zero, Act.put, List.setIfInBounds_toArray, List.set_cons_succ, List.set_cons_zero]
                    refine wpAny_take (i := 21) (v := (.int .i64 es2.length)) rfl (by kernel_rfl) (by kernel_rfl) (by kernel_rfl) (fun _ _ _ h => h) (.inl ⟨rfl, fun _ => by simp [execOp, go_sem, Act.eval, resolve, invoke, builtin, hlen2]⟩) ?_
                    simp only [List.getElem_toArray, List.getElem_cons_succ, List.getElem_cons_zero, Act.put, List.setIfInBounds_toArray, List.set_cons_succ, List.set_cons_zero]
                    refine wpAny_take (i := 22) (v := (.bool false)) rfl (by kernel_rfl) (by kernel_rfl) (by kernel_rfl) (fun _ _ _ h => h) (.inl ⟨rfl, fun _ => by simp [execOp, go_sem, Act.eval]⟩) ?_
                    simp only [List.getElem_toArray, List.getElem_cons_succ, List.getElem_cons_zero, Act.put, List.setIfInBounds_toArray, List.set_cons_succ, List.set_cons_zero]
                    refine wpAny_take (i := 23) (v := (.bool false)) rfl (by kernel_rfl) (by kernel_rfl) (by kernel_rfl) (fun _ _ _ h => h) (.inl ⟨rfl, fun _ => by simp [execOp, go_sem, Act.eval]⟩) ?_
                    simp only [List.getElem_toArray, List.getElem_cons_succ, List.getElem_cons_zero, Act.put, List.setIfInBounds_toArray, List.set_cons_succ, List.set_cons_zero]
                    refine wpAny_done (by kernel_rfl) ?_ _
                    have HP : Hid (Jj gx E w x2 now2 given2 es2 _ w2) := J2
                    have HB : Hid (now2 ≤ 1000 * (k + 1) + (if tk2 = 0 then 0 else 1048576) ∧ given2 ≤ k + 1) := ⟨by have := hn2; rw [if_neg (by omega)]; split at hno <;> omega, by omega⟩
                    clear J2 d0 d1 d2 hNw hLn hD cR HJ hlen2 hn2 hg2
                    go_wp2
                    go_roundw
                    case rel => exact ⟨k + 1, tk2, now2, given2, es2, x2, _, by omega, by go_num, by first | rfl | go_num, by omega, HB.out.1, HB.out.2, HP.out⟩
                    case measure => simp [intOf]; omega
                  · refine wpOp_runw rfl rfl (wp_load_cell 29 _ rfl E 0 rfl (.slice ao2 (dts now2 es2).length cap2) (load_tms _ E 0 _ _ _ d0) ?_)
                    simp only [List.getElem_toArray, List.getElem_cons_succ, List.getElem_cons_zero, Act.put, List.setIfInBounds_toArray, List.set_cons_succ, List.set_cons_zero]
                    refine wpAny_take (i := 21) (v := (.int .i64 es2.length)) rfl (by kernel_rfl) (by kernel_rfl) (by kernel_rfl) (fun _ _ _ h => h) (.inl ⟨rfl, fun _ => by simp [execOp, go_sem, Act.eval, resolve, invoke, builtin, hlen2]⟩) ?_
                    simp only [List.getElem_toArray, List.getElem_cons_succ, List.getElem_cons_zero, Act.put, List.setIfInBounds_toArray, List.set_cons_succ, List.set_cons_zero]
                    refine wpAny_all (rs := [16]) (by kernel_rfl) (by simp) ?_
                    intro k hk
                    simp only [List.mem_cons, List.mem_nil_iff, or_false] at hk
                    subst hk
                    refine wpOp_runw rfl rfl (wp_call_fn 12 #[.pointer (some ⟨gx, 0, none⟩)] (by simp [execOp, go_sem, Act.eval, resolve, invoke, enterLn]) (hLn.mono ?_))
                    rintro e w4 ⟨rfl, ew4⟩
                    rw [ew4]
                    simp only [List.getElem_toArray, List.getElem_cons_succ, List.getElem_cons_zero, Act.put, List.setIfInBounds_toArray, List.set_cons_succ, List.set_cons_zero]
                    refine wpAny_take (i := 22) (v := (.bool false)) rfl (by kernel_rfl) (by kernel_rfl) (by kernel_rfl) (fun _ _ _ h => h) (.inl ⟨rfl, fun _ => by simp [execOp, go_sem, Act.eval]⟩) ?_
                    simp only [List.getElem_toArray, List.getElem_cons_succ, List.getElem_cons_zero, Act.put, List.setIfInBounds_toArray, List.set_cons_succ, List.set_cons_zero]
                    refine wpAny_take (i := 23) (v := (.bool false)) rfl (by kernel_rfl) (by kernel_rfl) (by kernel_rfl) (fun _ _ _ h => h) (.inl ⟨rfl, fun _ => by simp [execOp, go_sem, Act.eval]⟩) ?_
                    simp only [List.getElem_toArray, List.getElem_cons_succ, List.getElem_cons_zero, Act.put, List.setIfInBounds_toArray, List.set_cons_succ, List.set_cons_zero]
                    refine wpAny_done (by kernel_rfl) ?_ _
                    have HP : Hid (Jj gx E w x2 now2 given2 es2 _ w2) := J2
                    have HB : Hid (now2 ≤ 1000 * (k + 1) + (if tk2 = 0 then 0 else 1048576) ∧ given2 ≤ k + 1) := ⟨by have := hn2; rw [if_neg (by omega)]; split at hno <;> omega, by omega⟩
                    clear J2 d0 d1 d2 hNw hLn hD cR HJ hlen2 hn2 hg2
                    go_wp2
                    go_roundw
                    case rel => exact ⟨k + 1, tk2, now2, given2, es2, x2, _, by omega, by go_num, by first | rfl | go_num, by omega, HB.out.1, HB.out.2, HP.out⟩
                    case measure => simp [intOf]; omega
                · refine wpOp_runw rfl rfl (wp_load_cell 30 _ rfl E 1 rfl (.int .u64 now2) (load_u64 _ E 1 _ d1) ?_)
                  simp only [List.getElem_toArray, List.getElem_cons_succ, List.getElem_cons_zero, Act.put, List.setIfInBounds_toArray, List.set_cons_succ, List.set_cons_zero]
                  refine wpAny_all (rs := [7]) (by kernel_rfl) (by simp) ?_
                  intro k hk
                  simp only [List.mem_cons, List.mem_nil_iff, or_false] at hk
                  subst hk
                  refine wpOp_runw rfl rfl (wp_call_fn 11 #[.pointer (some ⟨gx, 0, none⟩)] (by simp [execOp, go_sem, Act.eval, resolve, invoke, enterNw]) (hNw.mono ?_))
                  rintro e w3 ⟨rfl, ew3⟩
                  rw [ew3]
                  simp only [List.getElem_toArray, List.getElem_cons_succ, List.getElem_cons_zero, Act.put, List.setIfInBounds_toArray, List.set_cons_succ, List.set_cons_zero]
                  refine wpAny_take (i := 12) (v := (.bool false)) rfl (by kernel_rfl) (by kernel_rfl) (by kernel_rfl) (fun _ _ _ h => h) (.inl ⟨rfl, fun _ => by simp [execOp, go_sem, Act.eval]⟩) ?_
                  simp only [List.getElem_toArray, List.getElem_cons_succ, List.getElem_cons_zero, Act.put, List.setIfInBounds_toArray, List.set_cons_succ, List.set_cons_zero]
                  refine wpAny_take (i := 13) (v := (.bool false)) rfl (by kernel_rfl) (by kernel_rfl) (by kernel_rfl) (fun _ _ _ h => h) (.inl ⟨rfl, fun _ => by simp [execOp, go_sem, Act.eval]⟩) ?_
                  simp only [List.getElem_toArray, List.getElem_cons_succ, List.getElem_cons_zero, Act.put, List.setIfInBounds_toArray, List.set_cons_succ, List.set_cons_zero]
                  refine wpAny_take (i := 14) (v := (.bool false)) rfl (by kernel_rfl) (by kernel_rfl) (by kernel_rfl) (fun _ _ _ h => h) (.inl ⟨rfl, fun _ => rfl⟩) ?_
                  simp only [List.getElem_toArray, List.getElem_cons_succ, List.getElem_cons_zero, Act.put, List.setIfInBounds_toArray, List.set_cons_succ, List.set_cons_zero]
                  refine wpAny_take (i := 15) (v := (.pointer (some ⟨gx, 0, none⟩))) rfl (by kernel_rfl) (by kernel_rfl) (by kernel_rfl) (fun _ _ _ h => h) (.inl ⟨rfl, fun _ => rfl⟩) ?_
                  simp only [List.getElem_toArray, List.getElem_cons_succ, List.getElem_cons_zero, Act.put, List.setIfInBounds_toArray, List.set_cons_succ, List.set_cons_zero]
                  refine wpAny_take (i := 17) (v := (.pointer (some ⟨E, 0, none⟩))) rfl (by kernel_rfl) (by kernel_rfl) (by kernel_rfl) (fun _ _ _ h => h) (.inl ⟨rfl, fun _ => rfl⟩) ?_
                  simp only [List.getElem_toArray, List.getElem_cons_succ, List.getElem_cons_zero, Act.put, List.setIfInBounds_toArray, List.set_cons_succ, List.set_cons_zero]
                  refine wpAny_take (i := 18) (v := (.pointer (some ⟨E, 0, none⟩))) rfl (by kernel_rfl) (by kernel_rfl) (by kernel_rfl) (fun _ _ _ h => h) (.inl ⟨rfl, fun _ => by simp [execOp, go_sem, Act.eval]⟩) ?_
                  simp only [List.getElem_toArray, List.getElem_cons_succ, List.getElem_cons_zero, Act.put, List.setIfInBounds_toArray, List.set_cons_succ, List.set_cons_zero]
                  refine wpAny_take (i := 19) (v := (.pointer (some ⟨E, 0, none⟩))) rfl (by kernel_rfl) (by kernel_rfl) (by kernel_rfl) (fun _ _ _ h => h) (.inl ⟨rfl, fun _ => by simp [execOp, go_sem, Act.eval]⟩) ?_
                  simp only [List.getElem_toArray, List.getElem_cons_succ, List.getElem_cons_zero, Act.put, List.setIfInBounds_toArray, List.set_cons_succ, List.set_cons_zero]
                  refine wpAny_all (rs := [16, 20]) (by kernel_rfl) (by simp) ?_
                  intro k hk
                  simp only [List.mem_cons, List.mem_nil_iff, or_false] at hk
                  rcases hk with rfl | rfl
                  · refine wpOp_runw rfl rfl (wp_call_fn 12 #[.pointer (some ⟨gx, 0, none⟩)] (by simp [execOp, go_sem, Act.eval, resolve, invoke, enterLn]) (hLn.mono ?_))
                    rintro e w4 ⟨rfl, ew4⟩
                    rw [ew4]
                    simp only [List.getElem_toArray, List.getElem_cons_succ, List.getElem_cons_zero, Act.put, List.setIfInBounds_toArray, List.set_cons_succ, List.set_cons_zero]
                    refine wpAny_all (rs := [20]) (by kernel_rfl) (by simp) ?_
                    intro k hk
                    simp only [List.mem_cons, List.mem_nil_iff, or_false] at hk
                    subst hk
                    refine wpOp_runw rfl rfl (wp_load_cell 29 _ rfl E 0 rfl (.slice ao2 (dts now2 es2).length cap2) (load_tms _ E 0 _ _ _ d0) ?_)
                    simp only [List.getElem_toArray, List.getElem_cons_succ, List.getElem_cons_zero, Act.put, List.setIfInBounds_toArray, List.set_cons_succ, List.set_cons_zero]
                    refine wpAny_take (i := 21) (v := (.int .i64 es2.length)) rfl (by kernel_rfl) (by kernel_rfl) (by kernel_rfl) (fun _ _ _ h => h) (.inl ⟨rfl, fun _ => by simp [execOp, go_sem, Act.eval, resolve, invoke, builtin, hlen2]⟩) ?_
                    simp only [List.getElem_toArray, List.getElem_cons_succ, List.getElem_cons_zero, Act.put, List.setIfInBounds_toArray, List.set_cons_succ, List.set_cons_zero]
                    refine wpAny_take (i := 22) (v := (.bool false)) rfl (by kernel_rfl) (by kernel_rfl) (by kernel_rfl) (fun _ _ _ h => h) (.inl ⟨rfl, fun _ => by simp [execOp, go_sem, Act.eval]⟩) ?_
                    simp only [List.getElem_toArray, List.getElem_cons_succ, List.getElem_cons_zero, Act.put, List.setIfInBounds_toArray, List.set_cons_succ, List.set_cons_zero]
                    refine wpAny_take (i := 23) (v := (.bool false)) rfl (by kernel_rfl) (by kernel_rfl) (by kernel_rfl) (fun _ _ _ h => h) (.inl ⟨rfl, fun _ => by simp [execOp, go_sem, Act.eval]⟩) ?_
                    simp only [List.getElem_toArray, List.getElem_cons_succ, List.getElem_cons_zero, Act.put, List.setIfInBounds_toArray, List.set_cons_succ, List.set_cons_zero]
                    refine wpAny_done (by kernel_rfl) ?_ _
                    have HP : Hid (Jj gx E w x2 now2 given2 es2 _ w2) := J2
                    have HB : Hid (now2 ≤ 1000 * (k + 1) + (if tk2 = 0 then 0 else 1048576) ∧ given2 ≤ k + 1) := ⟨by have := hn2; rw [if_neg (by omega)]; split at hno <;> omega, by omega⟩
                    clear J2 d0 d1 d2 hNw hLn hD cR HJ hlen2 hn2 hg2
                    go_wp2
                    go_roundw
                    case rel => exact ⟨k + 1, tk2, now2, given2, es2, x2, _, by omega, by go_num, by first | rfl | go_num, by omega, HB.out.1, HB.out.2, HP.out⟩
                    case measure => simp [intOf]; omega
                  · refine wpOp_runw rfl rfl (wp_load_cell 29 _ rfl E 0 rfl (.slice ao2 (dts now2 es2).length cap2) (load_tms _ E 0 _ _ _ d0) ?_)
                    simp only [List.getElem_toArray, List.getElem_cons_succ, List.getElem_cons_zero, Act.put, List.setIfInBounds_toArray, List.set_cons_succ, List.set_cons_zero]
                    refine wpAny_take (i := 21) (v := (.int .i64 es2.length)) rfl (by kernel_rfl) (by kernel_rfl) (by kernel_rfl) (fun _ _ _ h => h) (.inl ⟨rfl, fun _ => by simp [execOp, go_sem, Act.eval, resolve, invoke, builtin, hlen2]⟩) ?_
                    simp only [List.getElem_toArray, List.getElem_cons_succ, List.getElem_cons_zero, Act.put, List.setIfInBounds_toArray, List.set_cons_succ, List.set_cons_zero]
                    refine wpAny_all (rs := [16]) (by kernel_rfl) (by simp) ?_
                    intro k hk
                    simp only [List.mem_cons, List.mem_nil_iff, or_false] at hk
                    subst hk
                    refine wpOp_runw rfl rfl (wp_call_fn 12 #[.pointer (some ⟨gx, 0, none⟩)] (by simp [execOp, go_sem, Act.eval, resolve, invoke, enterLn]) (hLn.mono ?_))
                    rintro e w4 ⟨rfl, ew4⟩
                    rw [ew4]
                    simp only [List.getElem_toArray, List.getElem_cons_succ, List.getElem_cons_zero, Act.put, List.setIfInBounds_toArray, List.set_cons_succ, List.set_cons_zero]
                    refine wpAny_take (i := 22) (v := (.bool false)) rfl (by kernel_rfl) (by kernel_rfl) (by kernel_rfl) (fun _ _ _ h => h) (.inl ⟨rfl, fun _ => by simp [execOp, go_sem, Act.eval]⟩) ?_
                    simp only [List.getElem_toArray, List.getElem_cons_succ, List.getElem_cons_zero, Act.put, List.setIfInBounds_toArray, List.set_cons_succ, List.set_cons_zero]
                    refine wpAny_take (i := 23) (v := (.bool false)) rfl (by kernel_rfl) (by kernel_rfl) (by kernel_rfl) (fun _ _ _ h => h) (.inl ⟨rfl, fun _ => by simp [execOp, go_sem, Act.eval]⟩) ?_
                    simp only [List.getElem_toArray, List.getElem_cons_succ, List.getElem_cons_zero, Act.put, List.setIfInBounds_toArray, List.set_cons_succ, List.set_cons_zero]
                    refine wpAny_done (by kernel_rfl) ?_ _
                    have HP : Hid (Jj gx E w x2 now2 given2 es2 _ w2) := J2
                    have HB : Hid (now2 ≤ 1000 * (k + 1) + (if tk2 = 0 then 0 else 1048576) ∧ given2 ≤ k + 1) := ⟨by have := hn2; rw [if_neg (by omega)]; split at hno <;> omega, by omega⟩
                    clear J2 d0 d1 d2 hNw hLn hD cR HJ hlen2 hn2 hg2
                    go_wp2
                    go_roundw
                    case rel => exact ⟨k + 1, tk2, now2, given2, es2, x2, _, by omega, by go_num, by first | rfl | go_num, by omega, HB.out.1, HB.out.2, HP.out⟩
                    case measure => simp [intOf]; omega
          · have hgA : decide ((1000 : Int) < (A : Int)) = false := by simp; omega
            go_wp2_with (refine ak_ld hR rfl _ rfl rfl ?_)
            refine wp_region_any (by kernel_rfl) ?_
            obtain ⟨w1, hw1⟩ : ∃ z : World, { (wr.alloc (.cells #[.int .i64 4, .int .i64 timer, .int .i64 what, .int .u64 A, .int .u64 B] 34)) with drawn := (wr.alloc (.cells #[.int .i64 4, .int .i64 timer, .int .i64 what, .int .u64 A, .int .u64 B] 34)).drawn + 1 } = z := ⟨_, rfl⟩
            rw [hw1]
            have b1 : Below wr.heap.size wr w1 := (one_alloc wr _).trans ((show Below (wr.alloc (.cells #[.int .i64 4, .int .i64 timer, .int .i64 what, .int .u64 A, .int .u64 B] 34)).heap.size (wr.alloc (.cells #[.int .i64 4, .int .i64 timer, .int .i64 what, .int .u64 A, .int .u64 B] 34)) w1 by rw [← hw1]; exact ⟨rfl, rfl, rfl, Nat.le_refl _, fun _ _ => rfl⟩).mono (by rw [size_alloc]; omega))
            have cR : w1.rangeAt wr.heap.size 0 [.int .i64 4, .int .i64 timer, .int .i64 what, .int .u64 A, .int .u64 B] := by
              have hb : w1.heap[wr.heap.size]? = some (.cells #[.int .i64 4, .int .i64 timer, .int .i64 what, .int .u64 A, .int .u64 B] 34 (0, 0)) := by rw [← hw1]; exact heap_alloc_new wr _
              intro j u hj
              rw [Lib.cell_of_heap hb, Nat.zero_add]
              simpa using hj
            have J1 := HJ.out.below b1
            have hD := does_4 J1 timer what A B hti (by omega) hBb (by omega) hgv A (by omega)
            clear hw1 b1 J1
            refine wpAny_take (i := 0) (v := (.pointer (some ⟨gx, 0, none⟩))) rfl (by kernel_rfl) (by kernel_rfl) (by kernel_rfl) (fun _ _ _ h => h) (.inl ⟨rfl, fun _ => rfl⟩) ?_
            simp only [List.getElem_toArray, List.getElem_cons_succ, List.getElem_cons_zero, Act.put, List.setIfInBounds_toArray, List.set_cons_succ, List.set_cons_zero]
            refine wpAny_take (i := 1) (v := (.pointer (some ⟨E, 0, none⟩))) rfl (by kernel_rfl) (by kernel_rfl) (by kernel_rfl) (fun _ _ _ h => h) (.inl ⟨rfl, fun _ => rfl⟩) ?_
            simp only [List.getElem_toArray, List.getElem_cons_succ, List.getElem_cons_zero, Act.put, List.setIfInBounds_toArray, List.set_cons_succ, List.set_cons_zero]
            refine wpAny_all (rs := [2]) (by kernel_rfl) (by simp) ?_
            intro k hk
            simp only [List.mem_cons, List.mem_nil_iff, or_false] at hk
            subst hk
            refine wpOp_run rfl rfl (wp_load_cell 34 _ rfl wr.heap.size 0 rfl (.agg #[.int .i64 4, .int .i64 timer, .int .i64 what, .int .u64 A, .int .u64 B]) (run_loadVar_mid (P := Try.prog) w1 wr.heap.size 0 34 [.int .i64 4, .int .i64 timer, .int .i64 what, .int .u64 A, .int .u64 B] _ cR Try.underlying34 rfl infoK) ?_)
            simp only [List.getElem_toArray, List.getElem_cons_succ, List.getElem_cons_zero, Act.put, List.setIfInBounds_toArray, List.set_cons_succ, List.set_cons_zero]
            refine wpAny_all (rs := [3]) (by kernel_rfl) (by simp) ?_
            intro k hk
            simp only [List.mem_cons, List.mem_nil_iff, or_false] at hk
            subst hk
            refine wpOp_run rfl rfl (wp_call_fn 10 #[.pointer (some ⟨gx, 0, none⟩), .pointer (some ⟨E, 0, none⟩), .agg #[.int .i64 4, .int .i64 timer, .int .i64 what, .int .u64 A, .int .u64 B]] (by simp [execOp, go_sem, Act.eval, resolve, invoke, enterDo]) (hD.mono ?_))
            rintro e w2 ⟨rfl, x2, now2, given2, es2, v2, J2, hn2, hg2⟩
            obtain ⟨d0, d1, d2⟩ := J2.xd.c
            obtain ⟨ao2, cap2, hv2⟩ := J2.xd.row.wide.shape
            subst hv2
            have hNw := Now_any J2.ax.wh
            rw [J2.gx] at hNw
            have hLn := Len_at J2.ax
            rw [J2.gx] at hLn
            have hlen2 := dts_len now2 es2
            simp only [List.getElem_toArray, List.getElem_cons_succ, List.getElem_cons_zero, Act.put, List.setIfInBounds_toArray, List.set_cons_succ, List.set_cons_zero]
            refine wpAny_take (i := 4) (v := (.bool false)) rfl (by kernel_rfl) (by kernel_rfl) (by kernel_rfl) (fun _ _ _ h => h) (.inl ⟨rfl, fun _ => by simp [execOp, go_sem, Act.eval]⟩) ?_
            simp only [List.getElem_toArray, List.getElem_cons_succ, List.getElem_cons_zero, Act.put, List.setIfInBounds_toArray, List.set_cons_succ, List.set_cons_zero]
            refine wpAny_take (i := 5) (v := (.bool false)) rfl (by kernel_rfl) (by kernel_rfl) (by kernel_rfl) (fun _ _ _ h => h) (.inl ⟨rfl, fun _ => rfl⟩) ?_
            simp only [List.getElem_toArray, List.getElem_cons_succ, List.getElem_cons_zero, Act.put, List.setIfInBounds_toArray, List.set_cons_succ, List.set_cons_zero]
            refine wpAny_take (i := 6) (v := (.pointer (some ⟨gx, 0, none⟩))) rfl (by kernel_rfl) (by kernel_rfl) (by kernel_rfl) (fun _ _ _ h => h) (.inl ⟨rfl, fun _ => rfl⟩) ?_
            simp only [List.getElem_toArray, List.getElem_cons_succ, List.getElem_cons_zero, Act.put, List.setIfInBounds_toArray, List.set_cons_succ, List.set_cons_zero]
            refine wpAny_take (i := 8) (v := (.pointer (some ⟨E, 0, none⟩))) rfl (by kernel_rfl) (by kernel_rfl) (by kernel_rfl) (fun _ _ _ h => h) (.inl ⟨rfl, fun _ => rfl⟩) ?_
            simp only [List.getElem_toArray, List.getElem_cons_succ, List.getElem_cons_zero, Act.put, List.setIfInBounds_toArray, List.set_cons_succ, List.set_cons_zero]
            refine wpAny_take (i := 9) (v := (.pointer (some ⟨E, 0, none⟩))) rfl (by kernel_rfl) (by kernel_rfl) (by kernel_rfl) (fun _ _ _ h => h) (.inl ⟨rfl, fun _ => by simp [execOp, go_sem, Act.eval]⟩) ?_
            simp only [List.getElem_toArray, List.getElem_cons_succ, List.getElem_cons_zero, Act.put, List.setIfInBounds_toArray, List.set_cons_succ, List.set_cons_zero]
            refine wpAny_take (i := 10) (v := (.pointer (some ⟨E, 1, none⟩))) rfl (by kernel_rfl) (by kernel_rfl) (by kernel_rfl) (fun _ _ _ h => h) (.inl ⟨rfl, fun _ => by simp [execOp, go_sem, Act.eval]⟩) ?_
            simp only [List.getElem_toArray, List.getElem_cons_succ, List.getElem_cons_zero, Act.put, List.setIfInBounds_toArray, List.set_cons_succ, List.set_cons_zero]
            refine wpAny_all (rs := [7, 11]) (by kernel_rfl) (by simp) ?_
            intro k hk
            simp only [List.mem_cons, List.mem_nil_iff, or_false] at hk
            rcases hk with rfl | rfl
            · refine wpOp_runw rfl rfl (wp_call_fn 11 #[.pointer (some ⟨gx, 0, none⟩)] (by simp [execOp, go_sem, Act.eval, resolve, invoke, enterNw]) (hNw.mono ?_))
              rintro e w3 ⟨rfl, ew3⟩
              rw [ew3]
              simp only [List.getElem_toArray, List.getElem_cons_succ, List.getElem_cons_zero, Act.put, List.setIfInBounds_toArray, List.set_cons_succ, List.set_cons_zero]
              refine wpAny_all (rs := [11]) (by kernel_rfl) (by simp) ?_
              intro k hk
              simp only [List.mem_cons, List.mem_nil_iff, or_false] at hk
              subst hk
              refine wpOp_runw rfl rfl (wp_load_cell 30 _ rfl E 1 rfl (.int .u64 now2) (load_u64 _ E 1 _ d1) ?_)
              simp only [List.getElem_toArray, List.getElem_cons_succ, List.getElem_cons_zero, Act.put, List.setIfInBounds_toArray, List.set_cons_succ, List.set_cons_zero]
              refine wpAny_take (i := 12) (v := (.bool false)) rfl (by kernel_rfl) (by kernel_rfl) (by kernel_rfl) (fun _ _ _ h => h) (.inl ⟨rfl, fun _ => by simp [execOp, go_sem, Act.eval]⟩) ?_
              simp only [List.getElem_toArray, List.getElem_cons_succ, List.getElem_cons_zero, Act.put, List.setIfInBounds_toArray, List.set_cons_succ, List.set_cons_zero]
              refine wpAny_take (i := 13) (v := (.bool false)) rfl (by kernel_rfl) (by kernel_rfl) (by kernel_rfl) (fun _ _ _ h => h) (.inl ⟨rfl, fun _ => by simp [execOp, go_sem, Act.eval]⟩) ?_
              simp only [List.getElem_toArray, List.getElem_cons_succ, List.getElem_cons_zero, Act.put, List.setIfInBounds_toArray, List.set_cons_succ, List.set_cons_zero]
              refine wpAny_take (i := 14) (v := (.bool false)) rfl (by kernel_rfl) (by kernel_rfl) (by kernel_rfl) (fun _ _ _ h => h) (.inl ⟨rfl, fun _ => rfl⟩) ?_
              simp only [List.getElem_toArray, List.getElem_cons_succ, List.getElem_cons_zero, Act.put, List.setIfInBounds_toArray, List.set_cons_succ, List.set_cons_zero]
              refine wpAny_take (i := 15) (v := (.pointer (some ⟨gx, 0, none⟩))) rfl (by kernel_rfl) (by kernel_rfl) (by kernel_rfl) (fun _ _ _ h => h) (.inl ⟨rfl, fun _ => rfl⟩) ?_
              simp only [List.getElem_toArray, List.getElem_cons_succ, List.getElem_cons_zero, Act.put, List.setIfInBounds_toArray, List.set_cons_succ, List.set_cons_zero]
              refine wpAny_take (i := 17) (v := (.pointer (some ⟨E, 0, none⟩))) rfl (by kernel_rfl) (by kernel_rfl) (by kernel_rfl) (fun _ _ _ h => h) (.inl ⟨rfl, fun _ => rfl⟩) ?_
              simp only [List.getElem_toArray, List.getElem_cons_succ, List.getElem_cons_zero, Act.put, List.setIfInBounds_toArray, List.set_cons_succ, List.set_cons_zero]
              refine wpAny_take (i := 18) (v := (.pointer (some ⟨E, 0, none⟩))) rfl (by kernel_rfl) (by kernel_rfl) (by kernel_rfl) (fun _ _ _ h => h) (.inl ⟨rfl, fun _ => by simp [execOp, go_sem, Act.eval]⟩) ?_
              simp only [List.getElem_toArray, List.getElem_cons_succ, List.getElem_cons_zero, Act.put, List.setIfInBounds_toArray, List.set_cons_succ, List.set_cons_zero]
              refine wpAny_take (i := 19) (v := (.pointer (some ⟨E, 0, none⟩))) rfl (by kernel_rfl) (by kernel_rfl) (by kernel_rfl) (fun _ _ _ h => h) (.inl ⟨rfl, fun _ => by simp [execOp, go_sem, Act.eval]⟩) ?_
              simp only [List.getElem_toArray, List.getElem_cons_succ, List.getElem_cons_zero, Act.put, List.setIfInBounds_toArray, List.set_cons_succ, List.set_cons_zero]
              refine wpAny_all (rs := [16, 20]) (by kernel_rfl) (by simp) ?_
              intro k hk
              simp only [List.mem_cons, List.mem_nil_iff, or_false] at hk
              rcases hk with rfl | rfl
              · refine wpOp_runw rfl rfl (wp_call_fn 12 #[.pointer (some ⟨gx, 0, none⟩)] (by simp [execOp, go_sem, Act.eval, resolve, invoke, enterLn]) (hLn.mono ?_))
                rintro e w4 ⟨rfl, ew4⟩
                rw [ew4]
                simp only [List.getElem_toArray, List.getElem_cons_succ, List.getElem_cons_zero, Act.put, List.setIfInBounds_toArray, List.set_cons_succ, List.set_cons_zero]
                refine wpAny_all (rs := [20]) (by kernel_rfl) (by simp) ?_
                intro k hk
                simp only [List.mem_cons, List.mem_nil_iff, or_false] at hk
                subst hk
                refine wpOp_runw rfl rfl (wp_load_cell 29 _ rfl E 0 rfl (.slice ao2 (dts now2 es2).length cap2) (load_tms _ E 0 _ _ _ d0) ?_)
                simp only [List.getElem_toArray, List.getElem_cons_succ, List.getElem_cons_zero, Act.put, List.setIfInBounds_toArray, List.set_cons_succ, List.set_cons_zero]
                refine wpAny_take (i := 21) (v := (.int .i64 es2.length)) rfl (by kernel_rfl) (by kernel_rfl) (by kernel_rfl) (fun _ _ _ h => h) (.inl ⟨rfl, fun _ => by simp [execOp, go_sem, Act.eval, resolve, invoke, builtin, hlen2]⟩) ?_
                simp only [List.getElem_toArray, List.getElem_cons_succ, List.getElem_cons_zero, Act.put, List.setIfInBounds_toArray, List.set_cons_succ, List.set_cons_zero]
                refine wpAny_take (i := 22) (v := (.bool false)) rfl (by kernel_rfl) (by kernel_rfl) (by kernel_rfl) (fun _ _ _ h => h) (.inl ⟨rfl, fun _ => by simp [execOp, go_sem, Act.eval]⟩) ?_
                simp only [List.getElem_toArray, List.getElem_cons_succ, List.getElem_cons_zero, Act.put, List.setIfInBounds_toArray, List.set_cons_succ, List.set_cons_zero]
                refine wpAny_take (i := 23) (v := (.bool false)) rfl (by kernel_rfl) (by kernel_rfl) (by kernel_rfl) (fun _ _ _ h => h) (.inl ⟨rfl, fun _ => by simp [execOp, go_sem, Act.eval]⟩) ?_
                simp only [List.getElem_toArray, List.getElem_cons_succ, List.getElem_cons_zero, Act.put, List.setIfInBounds_toArray, List.set_cons_succ, List.set_cons_zero]
                refine wpAny_done (by kernel_rfl) ?_ _
                have HP : Hid (Jj gx E w x2 now2 given2 es2 _ w2) := J2
                have HB : Hid (now2 ≤ 1000 * (k + 1) + (if tk = 0 then 0 else 1048576) ∧ given2 ≤ k + 1) := ⟨by have := hn2; split at hno <;> split <;> omega, by omega⟩
                clear J2 d0 d1 d2 hNw hLn hD cR HJ hlen2 hn2 hg2
                go_wp2
                go_roundw
                case rel => exact ⟨k + 1, tk, now2, given2, es2, x2, _, by omega, by go_num, by first | rfl | go_num, by omega, HB.out.1, HB.out.2, HP.out⟩
                case measure => simp [intOf]; omega
              · refine wpOp_runw rfl rfl (wp_load_cell 29 _ rfl E 0 rfl (.slice ao2 (dts now2 es2).length cap2) (load_tms _ E 0 _ _ _ d0) ?_)
                simp only [List.getElem_toArray, List.getElem_cons_succ, List.getElem_cons_zero, Act.put, List.setIfInBounds_toArray, List.set_cons_succ, List.set_cons_zero]
                refine wpAny_take (i := 21) (v := (.int .i64 es2.length)) rfl (by kernel_rfl) (by kernel_rfl) (by kernel_rfl) (fun _ _ _ h => h) (.inl ⟨rfl, fun _ => by simp [execOp, go_sem, Act.eval, resolve, invoke, builtin, hlen2]⟩) ?_
                simp only [List.getElem_toArray, List.getElem_cons_succ, List.getElem_cons_zero, Act.put, List.setIfInBounds_toArray, List.set_cons_succ, List.set_cons_zero]
                refine wpAny_all (rs := [16]) (by kernel_rfl) (by simp) ?_
                intro k hk
                simp only [List.mem_cons, List.mem_nil_iff, or_false] at hk
                subst hk
                refine wpOp_runw rfl rfl (wp_call_fn 12 #[.pointer (some ⟨gx, 0, none⟩)] (by simp [execOp, go_sem, Act.eval, resolve, invoke, enterLn]) (hLn.mono ?_))
                rintro e w4 ⟨rfl, ew4⟩
                rw [ew4]
                simp only [List.getElem_toArray, List.getElem_cons_succ, List.getElem_cons_zero, Act.put, List.setIfInBounds_toArray, List.set_cons_succ, List.set_cons_zero]
                refine wpAny_take (i := 22) (v := (.bool false)) rfl (by kernel_rfl) (by kernel_rfl) (by kernel_rfl) (fun _ _ _ h => h) (.inl ⟨rfl, fun _ => by simp [execOp, go_sem, Act.eval]⟩) ?_
                simp only [List.getElem_toArray, List.getElem_cons_succ, List.getElem_cons_zero, Act.put, List.setIfInBounds_toArray, List.set_cons_succ, List.set_cons_zero]
                refine wpAny_take (i := 23) (v := (.bool false)) rfl (by kernel_rfl) (by kernel_rfl) (by kernel_rfl) (fun _ _ _ h => h) (.inl ⟨rfl, fun _ => by simp [execOp, go_sem, Act.eval]⟩) ?_
                simp only [List.getElem_toArray, List.getElem_cons_succ, List.getElem_cons_zero, Act.put, List.setIfInBounds_toArray, List.set_cons_succ, List.set_cons_zero]
                refine wpAny_done (by kernel_rfl) ?_ _
                have HP : Hid (Jj gx E w x2 now2 given2 es2 _ w2) := J2
                have HB : Hid (now2 ≤ 1000 * (k + 1) + (if tk = 0 then 0 else 1048576) ∧ given2 ≤ k + 1) := ⟨by have := hn2; split at hno <;> split <;> omega, by omega⟩
                clear J2 d0 d1 d2 hNw hLn hD cR HJ hlen2 hn2 hg2
                go_wp2
                go_roundw
                case rel => exact ⟨k + 1, tk, now2, given2, es2, x2, _, by omega, by go_num, by first | rfl | go_num, by omega, HB.out.1, HB.out.2, HP.out⟩
                case measure => simp [intOf]; omega
            · refine wpOp_runw rfl rfl (wp_load_cell 30 _ rfl E 1 rfl (.int .u64 now2) (load_u64 _ E 1 _ d1) ?_)
              simp only [List.getElem_toArray, List.getElem_cons_succ, List.getElem_cons_zero, Act.put, List.setIfInBounds_toArray, List.set_cons_succ, List.set_cons_zero]
              refine wpAny_all (rs := [7]) (by kernel_rfl) (by simp) ?_
              intro k hk
              simp only [List.mem_cons, List.mem_nil_iff, or_false] at hk
              subst hk
              refine wpOp_runw rfl rfl (wp_call_fn 11 #[.pointer (some ⟨gx, 0, none⟩)] (by simp [execOp, go_sem, Act.eval, resolve, invoke, enterNw]) (hNw.mono ?_))
              rintro e w3 ⟨rfl, ew3⟩
              rw [ew3]
              simp only [List.getElem_toArray, List.getElem_cons_succ, List.getElem_cons_zero, Act.put, List.setIfInBounds_toArray, List.set_cons_succ, List.set_cons_zero]
              refine wpAny_take (i := 12) (v := (.bool false)) rfl (by kernel_rfl) (by kernel_rfl) (by kernel_rfl) (fun _ _ _ h => h) (.inl ⟨rfl, fun _ => by simp [execOp, go_sem, Act.eval]⟩) ?_
              simp only [List.getElem_toArray, List.getElem_cons_succ, List.getElem_cons_zero, Act.put, List.setIfInBounds_toArray, List.set_cons_succ, List.set_cons_zero]
              refine wpAny_take (i := 13) (v := (.bool false)) rfl (by kernel_rfl) (by kernel_rfl) (by kernel_rfl) (fun _ _ _ h => h) (.inl ⟨rfl, fun _ => by simp [execOp, go_sem, Act.eval]⟩) ?_
              simp only [List.getElem_toArray, List.getElem_cons_succ, List.getElem_cons_zero, Act.put, List.setIfInBounds_toArray, List.set_cons_succ, List.set_cons_zero]
              refine wpAny_take (i := 14) (v := (.bool false)) rfl (by kernel_rfl) (by kernel_rfl) (by kernel_rfl) (fun _ _ _ h => h) (.inl ⟨rfl, fun _ => rfl⟩) ?_
              simp only [List.getElem_toArray, List.getElem_cons_succ, List.getElem_cons_zero, Act.put, List.setIfInBounds_toArray, List.set_cons_succ, List.set_cons_zero]
              refine wpAny_take (i := 15) (v := (.pointer (some ⟨gx, 0, none⟩))) rfl (by kernel_rfl) (by kernel_rfl) (by kernel_rfl) (fun _ _ _ h => h) (.inl ⟨rfl, fun _ => rfl⟩) ?_
              simp only [List.getElem_toArray, List.getElem_cons_succ, List.getElem_cons_zero, Act.put, List.setIfInBounds_toArray, List.set_cons_succ, List.set_cons_zero]
              refine wpAny_take (i := 17) (v := (.pointer (some ⟨E, 0, none⟩))) rfl (by kernel_rfl) (by kernel_rfl) (by kernel_rfl) (fun _ _ _ h => h) (.inl ⟨rfl, fun _ => rfl⟩) ?_
              simp only [List.getElem_toArray, List.getElem_cons_succ, List.getElem_cons_zero, Act.put, List.setIfInBounds_toArray, List.set_cons_succ, List.set_cons_zero]
              refine wpAny_take (i := 18) (v := (.pointer (some ⟨E, 0, none⟩))) rfl (by kernel_rfl) (by kernel_rfl) (by kernel_rfl) (fun _ _ _ h => h) (.inl ⟨rfl, fun _ => by simp [execOp, go_sem, Act.eval]⟩) ?_
              simp only [List.getElem_toArray, List.getElem_cons_succ, List.getElem_cons_zero, Act.put, List.setIfInBounds_toArray, List.set_cons_succ, List.set_cons_zero]
              refine wpAny_take (i := 19) (v := (.pointer (some ⟨E, 0, none⟩))) rfl (by kernel_rfl) (by kernel_rfl) (by kernel_rfl) (fun _ _ _ h => h) (.inl ⟨rfl, fun _ => by simp [execOp, go_sem, Act.eval]⟩) ?_
              simp only [List.getElem_toArray, List.getElem_cons_succ, List.getElem_cons_zero, Act.put, List.setIfInBounds_toArray, List.set_cons_succ, List.set_cons_zero]
              refine wpAny_all (rs := [16, 20]) (by kernel_rfl) (by simp) ?_
              intro k hk
              simp only [List.mem_cons, List.mem_nil_iff, or_false] at hk
              rcases hk with rfl | rfl
              · refine wpOp_runw rfl rfl (wp_call_fn 12 #[.pointer (some ⟨gx, 0, none⟩)] (by simp [execOp, go_sem, Act.eval, resolve, invoke, enterLn]) (hLn.mono ?_))
                rintro e w4 ⟨rfl, ew4⟩
                rw [ew4]
                simp only [List.getElem_toArray, List.getElem_cons_succ, List.getElem_cons_zero, Act.put, List.setIfInBounds_toArray, List.set_cons_succ, List.set_cons_zero]
                refine wpAny_all (rs := [20]) (by kernel_rfl) (by simp) ?_
                intro k hk
                simp only [List.mem_cons, List.mem_nil_iff, or_false] at hk
                subst hk
                refine wpOp_runw rfl rfl (wp_load_cell 29 _ rfl E 0 rfl (.slice ao2 (dts now2 es2).length cap2) (load_tms _ E 0 _ _ _ d0) ?_)
                simp only [List.getElem_toArray, List.getElem_cons_succ, List.getElem_cons_zero, Act.put, List.setIfInBounds_toArray, List.set_cons_succ, List.set_cons_zero]
                refine wpAny_take (i := 21) (v := (.int .i64 es2.length)) rfl (by kernel_rfl) (by kernel_rfl) (by kernel_rfl) (fun _ _ _ h => h) (.inl ⟨rfl, fun _ => by simp [execOp, go_sem, Act.eval, resolve, invoke, builtin, hlen2]⟩) ?_
                simp only [List.getElem_toArray, List.getElem_cons_succ, List.getElem_cons_zero, Act.put, List.setIfInBounds_toArray, List.set_cons_succ, List.set_cons_zero]
                refine wpAny_take (i := 22) (v := (.bool false)) rfl (by kernel_rfl) (by kernel_rfl) (by kernel_rfl) (fun _ _ _ h => h) (.inl ⟨rfl, fun _ => by simp [execOp, go_sem, Act.eval]⟩) ?_
                simp only [List.getElem_toArray, List.getElem_cons_succ, List.getElem_cons_zero, Act.put, List.setIfInBounds_toArray, List.set_cons_succ, List.set_cons_zero]
                refine wpAny_take (i := 23) (v := (.bool false)) rfl (by kernel_rfl) (by kernel_rfl) (by kernel_rfl) (fun _ _ _ h => h) (.inl ⟨rfl, fun _ => by simp [execOp, go_sem, Act.eval]⟩) ?_
                simp only [List.getElem_toArray, List.getElem_cons_succ, List.getElem_cons_zero, Act.put, List.setIfInBounds_toArray, List.set_cons_succ, List.set_cons_zero]
                refine wpAny_done (by kernel_rfl) ?_ _
                have HP : Hid (Jj gx E w x2 now2 given2 es2 _ w2) := J2
                have HB : Hid (now2 ≤ 1000 * (k + 1) + (if tk = 0 then 0 else 1048576) ∧ given2 ≤ k + 1) := ⟨by have := hn2; split at hno <;> split <;> omega, by omega⟩
                clear J2 d0 d1 d2 hNw hLn hD cR HJ hlen2 hn2 hg2
                go_wp2
                go_roundw
                case rel => exact ⟨k + 1, tk, now2, given2, es2, x2, _, by omega, by go_num, by first | rfl | go_num, by omega, HB.out.1, HB.out.2, HP.out⟩
                case measure => simp [intOf]; omega
              · refine wpOp_runw rfl rfl (wp_load_cell 29 _ rfl E 0 rfl (.slice ao2 (dts now2 es2).length cap2) (load_tms _ E 0 _ _ _ d0) ?_)
                simp only [List.getElem_toArray, List.getElem_cons_succ, List.getElem_cons_zero, Act.put, List.setIfInBounds_toArray, List.set_cons_succ, List.set_cons_zero]
                refine wpAny_take (i := 21) (v := (.int .i64 es2.length)) rfl (by kernel_rfl) (by kernel_rfl) (by kernel_rfl) (fun _ _ _ h => h) (.inl ⟨rfl, fun _ => by simp [execOp, go_sem, Act.eval, resolve, invoke, builtin, hlen2]⟩) ?_
                simp only [List.getElem_toArray, List.getElem_cons_succ, List.getElem_cons_zero, Act.put, List.setIfInBounds_toArray, List.set_cons_succ, List.set_cons_zero]
                refine wpAny_all (rs := [16]) (by kernel_rfl) (by simp) ?_
                intro k hk
                simp only [List.mem_cons, List.mem_nil_iff, or_false] at hk
                subst hk
                refine wpOp_runw rfl rfl (wp_call_fn 12 #[.pointer (some ⟨gx, 0, none⟩)] (by simp [execOp, go_sem, Act.eval, resolve, invoke, enterLn]) (hLn.mono ?_))
                rintro e w4 ⟨rfl, ew4⟩
                rw [ew4]
                simp only [List.getElem_toArray, List.getElem_cons_succ, List.getElem_cons_zero, Act.put, List.setIfInBounds_toArray, List.set_cons_succ, List.set_cons_zero]
                refine wpAny_take (i := 22) (v := (.bool false)) rfl (by kernel_rfl) (by kernel_rfl) (by kernel_rfl) (fun _ _ _ h => h) (.inl ⟨rfl, fun _ => by simp [execOp, go_sem, Act.eval]⟩) ?_
                simp only [List.getElem_toArray, List.getElem_cons_succ, List.getElem_cons_zero, Act.put, List.setIfInBounds_toArray, List.set_cons_succ, List.set_cons_zero]
                refine wpAny_take (i := 23) (v := (.bool false)) rfl (by kernel_rfl) (by kernel_rfl) (by kernel_rfl) (fun _ _ _ h => h) (.inl ⟨rfl, fun _ => by simp [execOp, go_sem, Act.eval]⟩) ?_
                simp only [List.getElem_toArray, List.getElem_cons_succ, List.getElem_cons_zero, Act.put, List.setIfInBounds_toArray, List.set_cons_succ, List.set_cons_zero]
                refine wpAny_done (by kernel_rfl) ?_ _
                have HP : Hid (Jj gx E w x2 now2 given2 es2 _ w2) := J2
                have HB : Hid (now2 ≤ 1000 * (k + 1) + (if tk = 0 then 0 else 1048576) ∧ given2 ≤ k + 1) := ⟨by have := hn2; split at hno <;> split <;> omega, by omega⟩
                clear J2 d0 d1 d2 hNw hLn hD cR HJ hlen2 hn2 hg2
                go_wp2
                go_roundw
                case rel => exact ⟨k + 1, tk, now2, given2, es2, x2, _, by omega, by go_num, by first | rfl | go_num, by omega, HB.out.1, HB.out.2, HP.out⟩
                case measure => simp [intOf]; omega
        · have hk4 : (kind == 4) = false := by rw [beq_eq_false_iff_ne]; exact k4
          go_wp2_with (refine ak_ld hR rfl _ rfl rfl ?_)
          refine wp_region_any (by kernel_rfl) ?_
          obtain ⟨w1, hw1⟩ : ∃ z : World, { (wr.alloc (.cells #[.int .i64 kind, .int .i64 timer, .int .i64 what, .int .u64 A, .int .u64 B] 34)) with drawn := (wr.alloc (.cells #[.int .i64 kind, .int .i64 timer, .int .i64 what, .int .u64 A, .int .u64 B] 34)).drawn + 1 } = z := ⟨_, rfl⟩
          rw [hw1]
          have b1 : Below wr.heap.size wr w1 := (one_alloc wr _).trans ((show Below (wr.alloc (.cells #[.int .i64 kind, .int .i64 timer, .int .i64 what, .int .u64 A, .int .u64 B] 34)).heap.size (wr.alloc (.cells #[.int .i64 kind, .int .i64 timer, .int .i64 what, .int .u64 A, .int .u64 B] 34)) w1 by rw [← hw1]; exact ⟨rfl, rfl, rfl, Nat.le_refl _, fun _ _ => rfl⟩).mono (by rw [size_alloc]; omega))
          have cR : w1.rangeAt wr.heap.size 0 [.int .i64 kind, .int .i64 timer, .int .i64 what, .int .u64 A, .int .u64 B] := by
            have hb : w1.heap[wr.heap.size]? = some (.cells #[.int .i64 kind, .int .i64 timer, .int .i64 what, .int .u64 A, .int .u64 B] 34 (0, 0)) := by rw [← hw1]; exact heap_alloc_new wr _
            intro j u hj
            rw [Lib.cell_of_heap hb, Nat.zero_add]
            simpa using hj
          have J1 := HJ.out.below b1
          have hD := does_k J1 kind timer what A B hti hAb hBb (by omega) hgv k4
          clear hw1 b1 J1
          refine wpAny_take (i := 0) (v := (.pointer (some ⟨gx, 0, none⟩))) rfl (by kernel_rfl) (by kernel_rfl) (by kernel_rfl) (fun _ _ _ h => h) (.inl ⟨rfl, fun _ => rfl⟩) ?_
          simp only [List.getElem_toArray, List.getElem_cons_succ, List.getElem_cons_zero, Act.put, List.setIfInBounds_toArray, List.set_cons_succ, List.set_cons_zero]
          refine wpAny_take (i := 1) (v := (.pointer (some ⟨E, 0, none⟩))) rfl (by kernel_rfl) (by kernel_rfl) (by kernel_rfl) (fun _ _ _ h => h) (.inl ⟨rfl, fun _ => rfl⟩) ?_
          simp only [List.getElem_toArray, List.getElem_cons_succ, List.getElem_cons_zero, Act.put, List.setIfInBounds_toArray, List.set_cons_succ, List.set_cons_zero]
          refine wpAny_all (rs := [2]) (by kernel_rfl) (by simp) ?_
          intro k hk
          simp only [List.mem_cons, List.mem_nil_iff, or_false] at hk
          subst hk
          refine wpOp_run rfl rfl (wp_load_cell 34 _ rfl wr.heap.size 0 rfl (.agg #[.int .i64 kind, .int .i64 timer, .int .i64 what, .int .u64 A, .int .u64 B]) (run_loadVar_mid (P := Try.prog) w1 wr.heap.size 0 34 [.int .i64 kind, .int .i64 timer, .int .i64 what, .int .u64 A, .int .u64 B] _ cR Try.underlying34 rfl infoK) ?_)
          simp only [List.getElem_toArray, List.getElem_cons_succ, List.getElem_cons_zero, Act.put, List.setIfInBounds_toArray, List.set_cons_succ, List.set_cons_zero]
          refine wpAny_all (rs := [3]) (by kernel_rfl) (by simp) ?_
          intro k hk
          simp only [List.mem_cons, List.mem_nil_iff, or_false] at hk
          subst hk
          refine wpOp_run rfl rfl (wp_call_fn 10 #[.pointer (some ⟨gx, 0, none⟩), .pointer (some ⟨E, 0, none⟩), .agg #[.int .i64 kind, .int .i64 timer, .int .i64 what, .int .u64 A, .int .u64 B]] (by simp [execOp, go_sem, Act.eval, resolve, invoke, enterDo]) (hD.mono ?_))
          rintro e w2 ⟨rfl, x2, now2, given2, es2, v2, J2, hn2, hg2⟩
          obtain ⟨d0, d1, d2⟩ := J2.xd.c
          obtain ⟨ao2, cap2, hv2⟩ := J2.xd.row.wide.shape
          subst hv2
          have hNw := Now_any J2.ax.wh
          rw [J2.gx] at hNw
          have hLn := Len_at J2.ax
          rw [J2.gx] at hLn
          have hlen2 := dts_len now2 es2
          simp only [List.getElem_toArray, List.getElem_cons_succ, List.getElem_cons_zero, Act.put, List.setIfInBounds_toArray, List.set_cons_succ, List.set_cons_zero]
          refine wpAny_take (i := 4) (v := (.bool false)) rfl (by kernel_rfl) (by kernel_rfl) (by kernel_rfl) (fun _ _ _ h => h) (.inl ⟨rfl, fun _ => by simp [execOp, go_sem, Act.eval]⟩) ?_
          simp only [List.getElem_toArray, List.getElem_cons_succ, List.getElem_cons_zero, Act.put, List.setIfInBounds_toArray, List.set_cons_succ, List.set_cons_zero]
          refine wpAny_take (i := 5) (v := (.bool false)) rfl (by kernel_rfl) (by kernel_rfl) (by kernel_rfl) (fun _ _ _ h => h) (.inl ⟨rfl, fun _ => rfl⟩) ?_
          simp only [List.getElem_toArray, List.getElem_cons_succ, List.getElem_cons_zero, Act.put, List.setIfInBounds_toArray, List.set_cons_succ, List.set_cons_zero]
          refine wpAny_take (i := 6) (v := (.pointer (some ⟨gx, 0, none⟩))) rfl (by kernel_rfl) (by kernel_rfl) (by kernel_rfl) (fun _ _ _ h => h) (.inl ⟨rfl, fun _ => rfl⟩) ?_
          simp only [List.getElem_toArray, List.getElem_cons_succ, List.getElem_cons_zero, Act.put, List.setIfInBounds_toArray, List.set_cons_succ, List.set_cons_zero]
          refine wpAny_take (i := 8) (v := (.pointer (some ⟨E, 0, none⟩))) rfl (by kernel_rfl) (by kernel_rfl) (by kernel_rfl) (fun _ _ _ h => h) (.inl ⟨rfl, fun _ => rfl⟩) ?_
          simp only [List.getElem_toArray, List.getElem_cons_succ, List.getElem_cons_zero, Act.put, List.setIfInBounds_toArray, List.set_cons_succ, List.set_cons_zero]
          refine wpAny_take (i := 9) (v := (.pointer (some ⟨E, 0, none⟩))) rfl (by kernel_rfl) (by kernel_rfl) (by kernel_rfl) (fun _ _ _ h => h) (.inl ⟨rfl, fun _ => by simp [execOp, go_sem, Act.eval]⟩) ?_
          simp only [List.getElem_toArray, List.getElem_cons_succ, List.getElem_cons_zero, Act.put, List.setIfInBounds_toArray, List.set_cons_succ, List.set_cons_zero]
          refine wpAny_take (i := 10) (v := (.pointer (some ⟨E, 1, none⟩))) rfl (by kernel_rfl) (by kernel_rfl) (by kernel_rfl) (fun _ _ _ h => h) (.inl ⟨rfl, fun _ => by simp [execOp, go_sem, Act.eval]⟩) ?_
          simp only [List.getElem_toArray, List.getElem_cons_succ, List.getElem_cons_zero, Act.put, List.setIfInBounds_toArray, List.set_cons_succ, List.set_cons_zero]
          refine wpAny_all (rs := [7, 11]) (by kernel_rfl) (by simp) ?_
          intro k hk
          simp only [List.mem_cons, List.mem_nil_iff, or_false] at hk
          rcases hk with rfl | rfl
          · refine wpOp_runw rfl rfl (wp_call_fn 11 #[.pointer (some ⟨gx, 0, none⟩)] (by simp [execOp, go_sem, Act.eval, resolve, invoke, enterNw]) (hNw.mono ?_))
            rintro e w3 ⟨rfl, ew3⟩
            rw [ew3]
            simp only [List.getElem_toArray, List.getElem_cons_succ, List.getElem_cons_zero, Act.put, List.setIfInBounds_toArray, List.set_cons_succ, List.set_cons_zero]
            refine wpAny_all (rs := [11]) (by kernel_rfl) (by simp) ?_
            intro k hk
            simp only [List.mem_cons, List.mem_nil_iff, or_false] at hk
            subst hk
            refine wpOp_runw rfl rfl (wp_load_cell 30 _ rfl E 1 rfl (.int .u64 now2) (load_u64 _ E 1 _ d1) ?_)
            simp only [List.getElem_toArray, List.getElem_cons_succ, List.getElem_cons_zero, Act.put, List.setIfInBounds_toArray, List.set_cons_succ, List.set_cons_zero]
            refine wpAny_take (i := 12) (v := (.bool false)) rfl (by kernel_rfl) (by kernel_rfl) (by kernel_rfl) (fun _ _ _ h => h) (.inl ⟨rfl, fun _ => by simp [execOp, go_sem, Act.eval]⟩) ?_
            simp only [List.getElem_toArray, List.getElem_cons_succ, List.getElem_cons_zero, Act.put, List.setIfInBounds_toArray, List.set_cons_succ, List.set_cons_zero]
            refine wpAny_take (i := 13) (v := (.bool false)) rfl (by kernel_rfl) (by kernel_rfl) (by kernel_rfl) (fun _ _ _ h => h) (.inl ⟨rfl, fun _ => by simp [execOp, go_sem, Act.eval]⟩) ?_
            simp only [List.getElem_toArray, List.getElem_cons_succ, List.getElem_cons_zero, Act.put, List.setIfInBounds_toArray, List.set_cons_succ, List.set_cons_zero]
            refine wpAny_take (i := 14) (v := (.bool false)) rfl (by kernel_rfl) (by kernel_rfl) (by kernel_rfl) (fun _ _ _ h => h) (.inl ⟨rfl, fun _ => rfl⟩) ?_
            simp only [List.getElem_toArray, List.getElem_cons_succ, List.getElem_cons_zero, Act.put, List.setIfInBounds_toArray, List.set_cons_succ, List.set_cons_zero]
            refine wpAny_take (i := 15) (v := (.pointer (some ⟨gx, 0, none⟩))) rfl (by kernel_rfl) (by kernel_rfl) (by kernel_rfl) (fun _ _ _ h => h) (.inl ⟨rfl, fun _ => rfl⟩) ?_
            simp only [List.getElem_toArray, List.getElem_cons_succ, List.getElem_cons_zero, Act.put, List.setIfInBounds_toArray, List.set_cons_succ, List.set_cons_zero]
            refine wpAny_take (i := 17) (v := (.pointer (some ⟨E, 0, none⟩))) rfl (by kernel_rfl) (by kernel_rfl) (by kernel_rfl) (fun _ _ _ h => h) (.inl ⟨rfl, fun _ => rfl⟩) ?_
            simp only [List.getElem_toArray, List.getElem_cons_succ, List.getElem_cons_zero, Act.put, List.setIfInBounds_toArray, List.set_cons_succ, List.set_cons_zero]
            refine wpAny_take (i := 18) (v := (.pointer (some ⟨E, 0, none⟩))) rfl (by kernel_rfl) (by kernel_rfl) (by kernel_rfl) (fun _ _ _ h => h) (.inl ⟨rfl, fun _ => by simp [execOp, go_sem, Act.eval]⟩) ?_
            simp only [List.getElem_toArray, List.getElem_cons_succ, List.getElem_cons_zero, Act.put, List.setIfInBounds_toArray, List.set_cons_succ, List.set_cons_zero]
            refine wpAny_take (i := 19) (v := (.pointer (some ⟨E, 0, none⟩))) rfl (by kernel_rfl) (by kernel_rfl) (by kernel_rfl) (fun _ _ _ h => h) (.inl ⟨rfl, fun _ => by simp [execOp, go_sem, Act.eval]⟩) ?_
            simp only [List.getElem_toArray, List.getElem_cons_succ, List.getElem_cons_zero, Act.put, List.setIfInBounds_toArray, List.set_cons_succ, List.set_cons_zero]
            refine wpAny_all (rs := [16, 20]) (by kernel_rfl) (by simp) ?_
            intro k hk
            simp only [List.mem_cons, List.mem_nil_iff, or_false] at hk
            rcases hk with rfl | rfl
            · refine wpOp_runw rfl rfl (wp_call_fn 12 #[.pointer (some ⟨gx, 0, none⟩)] (by simp [execOp, go_sem, Act.eval, resolve, invoke, enterLn]) (hLn.mono ?_))
              rintro e w4 ⟨rfl, ew4⟩
              rw [ew4]
              simp only [List.getElem_toArray, List.getElem_cons_succ, List.getElem_cons_zero, Act.put, List.setIfInBounds_toArray, List.set_cons_succ, List.set_cons_zero]
              refine wpAny_all (rs := [20]) (by kernel_rfl) (by simp) ?_
              intro k hk
              simp only [List.mem_cons, List.mem_nil_iff, or_false] at hk
              subst hk
              refine wpOp_runw rfl rfl (wp_load_cell 29 _ rfl E 0 rfl (.slice ao2 (dts now2 es2).length cap2) (load_tms _ E 0 _ _ _ d0) ?_)
              simp only [List.getElem_toArray, List.getElem_cons_succ, List.getElem_cons_zero, Act.put, List.setIfInBounds_toArray, List.set_cons_succ, List.set_cons_zero]
              refine wpAny_take (i := 21) (v := (.int .i64 es2.length)) rfl (by kernel_rfl) (by kernel_rfl) (by kernel_rfl) (fun _ _ _ h => h) (.inl ⟨rfl, fun _ => by simp [execOp, go_sem, Act.eval, resolve, invoke, builtin, hlen2]⟩) ?_
              simp only [List.getElem_toArray, List.getElem_cons_succ, List.getElem_cons_zero, Act.put, List.setIfInBounds_toArray, List.set_cons_succ, List.set_cons_zero]
              refine wpAny_take (i := 22) (v := (.bool false)) rfl (by kernel_rfl) (by kernel_rfl) (by kernel_rfl) (fun _ _ _ h => h) (.inl ⟨rfl, fun _ => by simp [execOp, go_sem, Act.eval]⟩) ?_
              simp only [List.getElem_toArray, List.getElem_cons_succ, List.getElem_cons_zero, Act.put, List.setIfInBounds_toArray, List.set_cons_succ, List.set_cons_zero]
              refine wpAny_take (i := 23) (v := (.bool false)) rfl (by kernel_rfl) (by kernel_rfl) (by kernel_rfl) (fun _ _ _ h => h) (.inl ⟨rfl, fun _ => by simp [execOp, go_sem, Act.eval]⟩) ?_
              simp only [List.getElem_toArray, List.getElem_cons_succ, List.getElem_cons_zero, Act.put, List.setIfInBounds_toArray, List.set_cons_succ, List.set_cons_zero]
              refine wpAny_done (by kernel_rfl) ?_ _
              have HP : Hid (Jj gx E w x2 now2 given2 es2 _ w2) := J2
              have HB : Hid (now2 ≤ 1000 * (k + 1) + (if tk = 0 then 0 else 1048576) ∧ given2 ≤ k + 1) := ⟨by have := hn2; split at hno <;> split <;> omega, by omega⟩
              clear J2 d0 d1 d2 hNw hLn hD cR HJ hlen2 hn2 hg2
              go_wp2
              go_roundw
              case rel => exact ⟨k + 1, tk, now2, given2, es2, x2, _, by omega, by go_num, by first | rfl | go_num, by omega, HB.out.1, HB.out.2, HP.out⟩
              case measure => simp [intOf]; omega
            · refine wpOp_runw rfl rfl (wp_load_cell 29 _ rfl E 0 rfl (.slice ao2 (dts now2 es2).length cap2) (load_tms _ E 0 _ _ _ d0) ?_)
              simp only [List.getElem_toArray, List.getElem_cons_succ, List.getElem_cons_zero, Act.put, List.setIfInBounds_toArray, List.set_cons_succ, List.set_cons_zero]
              refine wpAny_take (i := 21) (v := (.int .i64 es2.length)) rfl (by kernel_rfl) (by kernel_rfl) (by kernel_rfl) (fun _ _ _ h => h) (.inl ⟨rfl, fun _ => by simp [execOp, go_sem, Act.eval, resolve, invoke, builtin, hlen2]⟩) ?_
              simp only [List.getElem_toArray, List.getElem_cons_succ, List.getElem_cons_zero, Act.put, List.setIfInBounds_toArray, List.set_cons_succ, List.set_cons_zero]
              refine wpAny_all (rs := [16]) (by kernel_rfl) (by simp) ?_
              intro k hk
              simp only [List.mem_cons, List.mem_nil_iff, or_false] at hk
              subst hk
              refine wpOp_runw rfl rfl (wp_call_fn 12 #[.pointer (some ⟨gx, 0, none⟩)] (by simp [execOp, go_sem, Act.eval, resolve, invoke, enterLn]) (hLn.mono ?_))
              rintro e w4 ⟨rfl, ew4⟩
              rw [ew4]
              simp only [List.getElem_toArray, List.getElem_cons_succ, List.getElem_cons_zero, Act.put, List.setIfInBounds_toArray, List.set_cons_succ, List.set_cons_zero]
              refine wpAny_take (i := 22) (v := (.bool false)) rfl (by kernel_rfl) (by kernel_rfl) (by kernel_rfl) (fun _ _ _ h => h) (.inl ⟨rfl, fun _ => by simp [execOp, go_sem, Act.eval]⟩) ?_
              simp only [List.getElem_toArray, List.getElem_cons_succ, List.getElem_cons_zero, Act.put, List.setIfInBounds_toArray, List.set_cons_succ, List.set_cons_zero]
              refine wpAny_take (i := 23) (v := (.bool false)) rfl (by kernel_rfl) (by kernel_rfl) (by kernel_rfl) (fun _ _ _ h => h) (.inl ⟨rfl, fun _ => by simp [execOp, go_sem, Act.eval]⟩) ?_
              simp only [List.getElem_toArray, List.getElem_cons_succ, List.getElem_cons_zero, Act.put, List.setIfInBounds_toArray, List.set_cons_succ, List.set_cons_zero]
              refine wpAny_done (by kernel_rfl) ?_ _
              have HP : Hid (Jj gx E w x2 now2 given2 es2 _ w2) := J2
              have HB : Hid (now2 ≤ 1000 * (k + 1) + (if tk = 0 then 0 else 1048576) ∧ given2 ≤ k + 1) := ⟨by have := hn2; split at hno <;> split <;> omega, by omega⟩
              clear J2 d0 d1 d2 hNw hLn hD cR HJ hlen2 hn2 hg2
              go_wp2
              go_roundw
              case rel => exact ⟨k + 1, tk, now2, given2, es2, x2, _, by omega, by go_num, by first | rfl | go_num, by omega, HB.out.1, HB.out.2, HP.out⟩
              case measure => simp [intOf]; omega
          · refine wpOp_runw rfl rfl (wp_load_cell 30 _ rfl E 1 rfl (.int .u64 now2) (load_u64 _ E 1 _ d1) ?_)
            simp only [List.getElem_toArray, List.getElem_cons_succ, List.getElem_cons_zero, Act.put, List.setIfInBounds_toArray, List.set_cons_succ, List.set_cons_zero]
            refine wpAny_all (rs := [7]) (by kernel_rfl) (by simp) ?_
            intro k hk
            simp only [List.mem_cons, List.mem_nil_iff, or_false] at hk
            subst hk
            refine wpOp_runw rfl rfl (wp_call_fn 11 #[.pointer (some ⟨gx, 0, none⟩)] (by simp [execOp, go_sem, Act.eval, resolve, invoke, enterNw]) (hNw.mono ?_))
            rintro e w3 ⟨rfl, ew3⟩
            rw [ew3]
            simp only [List.getElem_toArray, List.getElem_cons_succ, List.getElem_cons_zero, Act.put, List.setIfInBounds_toArray, List.set_cons_succ, List.set_cons_zero]
            refine wpAny_take (i := 12) (v := (.bool false)) rfl (by kernel_rfl) (by kernel_rfl) (by kernel_rfl) (fun _ _ _ h => h) (.inl ⟨rfl, fun _ => by simp [execOp, go_sem, Act.eval]⟩) ?_
            simp only [List.getElem_toArray, List.getElem_cons_succ, List.getElem_cons_zero, Act.put, List.setIfInBounds_toArray, List.set_cons_succ, List.set_cons_zero]
            refine wpAny_take (i := 13) (v := (.bool false)) rfl (by kernel_rfl) (by kernel_rfl) (by kernel_rfl) (fun _ _ _ h => h) (.inl ⟨rfl, fun _ => by simp [execOp, go_sem, Act.eval]⟩) ?_
            simp only [List.getElem_toArray, List.getElem_cons_succ, List.getElem_cons_zero, Act.put, List.setIfInBounds_toArray, List.set_cons_succ, List.set_cons_zero]
            refine wpAny_take (i := 14) (v := (.bool false)) rfl (by kernel_rfl) (by kernel_rfl) (by kernel_rfl) (fun _ _ _ h => h) (.inl ⟨rfl, fun _ => rfl⟩) ?_
            simp only [List.getElem_toArray, List.getElem_cons_succ, List.getElem_cons_zero, Act.put, List.setIfInBounds_toArray, List.set_cons_succ, List.set_cons_zero]
            refine wpAny_take (i := 15) (v := (.pointer (some ⟨gx, 0, none⟩))) rfl (by kernel_rfl) (by kernel_rfl) (by kernel_rfl) (fun _ _ _ h => h) (.inl ⟨rfl, fun _ => rfl⟩) ?_
            simp only [List.getElem_toArray, List.getElem_cons_succ, List.getElem_cons_zero, Act.put, List.setIfInBounds_toArray, List.set_cons_succ, List.set_cons_zero]
            refine wpAny_take (i := 17) (v := (.pointer (some ⟨E, 0, none⟩))) rfl (by kernel_rfl) (by kernel_rfl) (by kernel_rfl) (fun _ _ _ h => h) (.inl ⟨rfl, fun _ => rfl⟩) ?_
            simp only [List.getElem_toArray, List.getElem_cons_succ, List.getElem_cons_zero, Act.put, List.setIfInBounds_toArray, List.set_cons_succ, List.set_cons_zero]
            refine wpAny_take (i := 18) (v := (.pointer (some ⟨E, 0, none⟩))) rfl (by kernel_rfl) (by kernel_rfl) (by kernel_rfl) (fun _ _ _ h => h) (.inl ⟨rfl, fun _ => by simp [execOp, go_sem, Act.eval]⟩) ?_
            simp only [List.getElem_toArray, List.getElem_cons_succ, List.getElem_cons_zero, Act.put, List.setIfInBounds_toArray, List.set_cons_succ, List.set_cons_zero]
            refine wpAny_take (i := 19) (v := (.pointer (some ⟨E, 0, none⟩))) rfl (by kernel_rfl) (by kernel_rfl) (by kernel_rfl) (fun _ _ _ h => h) (.inl ⟨rfl, fun _ => by simp [execOp, go_sem, Act.eval]⟩) ?_
            simp only [List.getElem_toArray, List.getElem_cons_succ, List.getElem_cons_zero, Act.put, List.setIfInBounds_toArray, List.set_cons_succ, List.set_cons_zero]
            refine wpAny_all (rs := [16, 20]) (by kernel_rfl) (by simp) ?_
            intro k hk
            simp only [List.mem_cons, List.mem_nil_iff, or_false] at hk
            rcases hk with rfl | rfl
            · refine wpOp_runw rfl rfl (wp_call_fn 12 #[.pointer (some ⟨gx, 0, none⟩)] (by simp [execOp, go_sem, Act.eval, resolve, invoke, enterLn]) (hLn.mono ?_))
              rintro e w4 ⟨rfl, ew4⟩
              rw [ew4]
              simp only [List.getElem_toArray, List.getElem_cons_succ, List.getElem_cons_zero, Act.put, List.setIfInBounds_toArray, List.set_cons_succ, List.set_cons_zero]
              refine wpAny_all (rs := [20]) (by kernel_rfl) (by simp) ?_
              intro k hk
              simp only [List.mem_cons, List.mem_nil_iff, or_false] at hk
              subst hk
              refine wpOp_runw rfl rfl (wp_load_cell 29 _ rfl E 0 rfl (.slice ao2 (dts now2 es2).length cap2) (load_tms _ E 0 _ _ _ d0) ?_)
              simp only [List.getElem_toArray, List.getElem_cons_succ, List.getElem_cons_zero, Act.put, List.setIfInBounds_toArray, List.set_cons_succ, List.set_cons_zero]
              refine wpAny_take (i := 21) (v := (.int .i64 es2.length)) rfl (by kernel_rfl) (by kernel_rfl) (by kernel_rfl) (fun _ _ _ h => h) (.inl ⟨rfl, fun _ => by simp [execOp, go_sem, Act.eval, resolve, invoke, builtin, hlen2]⟩) ?_
              simp only [List.getElem_toArray, List.getElem_cons_succ, List.getElem_cons_zero, Act.put, List.setIfInBounds_toArray, List.set_cons_succ, List.set_cons_zero]
              refine wpAny_take (i := 22) (v := (.bool false)) rfl (by kernel_rfl) (by kernel_rfl) (by kernel_rfl) (fun _ _ _ h => h) (.inl ⟨rfl, fun _ => by simp [execOp, go_sem, Act.eval]⟩) ?_
              simp only [List.getElem_toArray, List.getElem_cons_succ, List.getElem_cons_zero, Act.put, List.setIfInBounds_toArray, List.set_cons_succ, List.set_cons_zero]
              refine wpAny_take (i := 23) (v := (.bool false)) rfl (by kernel_rfl) (by kernel_rfl) (by kernel_rfl) (fun _ _ _ h => h) (.inl ⟨rfl, fun _ => by simp [execOp, go_sem, Act.eval]⟩) ?_
              simp only [List.getElem_toArray, List.getElem_cons_succ, List.getElem_cons_zero, Act.put, List.setIfInBounds_toArray, List.set_cons_succ, List.set_cons_zero]
              refine wpAny_done (by kernel_rfl) ?_ _
              have HP : Hid (Jj gx E w x2 now2 given2 es2 _ w2) := J2
              have HB : Hid (now2 ≤ 1000 * (k + 1) + (if tk = 0 then 0 else 1048576) ∧ given2 ≤ k + 1) := ⟨by have := hn2; split at hno <;> split <;> omega, by omega⟩
              clear J2 d0 d1 d2 hNw hLn hD cR HJ hlen2 hn2 hg2
              go_wp2
              go_roundw
              case rel => exact ⟨k + 1, tk, now2, given2, es2, x2, _, by omega, by go_num, by first | rfl | go_num, by omega, HB.out.1, HB.out.2, HP.out⟩
              case measure => simp [intOf]; omega
            · refine wpOp_runw rfl rfl (wp_load_cell 29 _ rfl E 0 rfl (.slice ao2 (dts now2 es2).length cap2) (load_tms _ E 0 _ _ _ d0) ?_)
              simp only [List.getElem_toArray, List.getElem_cons_succ, List.getElem_cons_zero, Act.put, List.setIfInBounds_toArray, List.set_cons_succ, List.set_cons_zero]
              refine wpAny_take (i := 21) (v := (.int .i64 es2.length)) rfl (by kernel_rfl) (by kernel_rfl) (by kernel_rfl) (fun _ _ _ h => h) (.inl ⟨rfl, fun _ => by simp [execOp, go_sem, Act.eval, resolve, invoke, builtin, hlen2]⟩) ?_
              simp only [List.getElem_toArray, List.getElem_cons_succ, List.getElem_cons_zero, Act.put, List.setIfInBounds_toArray, List.set_cons_succ, List.set_cons_zero]
              refine wpAny_all (rs := [16]) (by kernel_rfl) (by simp) ?_
              intro k hk
              simp only [List.mem_cons, List.mem_nil_iff, or_false] at hk
              subst hk
              refine wpOp_runw rfl rfl (wp_call_fn 12 #[.pointer (some ⟨gx, 0, none⟩)] (by simp [execOp, go_sem, Act.eval, resolve, invoke, enterLn]) (hLn.mono ?_))
              rintro e w4 ⟨rfl, ew4⟩
              rw [ew4]
              simp only [List.getElem_toArray, List.getElem_cons_succ, List.getElem_cons_zero, Act.put, List.setIfInBounds_toArray, List.set_cons_succ, List.set_cons_zero]
              refine wpAny_take (i := 22) (v := (.bool false)) rfl (by kernel_rfl) (by kernel_rfl) (by kernel_rfl) (fun _ _ _ h => h) (.inl ⟨rfl, fun _ => by simp [execOp, go_sem, Act.eval]⟩) ?_
              simp only [List.getElem_toArray, List.getElem_cons_succ, List.getElem_cons_zero, Act.put, List.setIfInBounds_toArray, List.set_cons_succ, List.set_cons_zero]
              refine wpAny_take (i := 23) (v := (.bool false)) rfl (by kernel_rfl) (by kernel_rfl) (by kernel_rfl) (fun _ _ _ h => h) (.inl ⟨rfl, fun _ => by simp [execOp, go_sem, Act.eval]⟩) ?_
              simp only [List.getElem_toArray, List.getElem_cons_succ, List.getElem_cons_zero, Act.put, List.setIfInBounds_toArray, List.set_cons_succ, List.set_cons_zero]
              refine wpAny_done (by kernel_rfl) ?_ _
              have HP : Hid (Jj gx E w x2 now2 given2 es2 _ w2) := J2
              have HB : Hid (now2 ≤ 1000 * (k + 1) + (if tk = 0 then 0 else 1048576) ∧ given2 ≤ k + 1) := ⟨by have := hn2; split at hno <;> split <;> omega, by omega⟩
              clear J2 d0 d1 d2 hNw hLn hD cR HJ hlen2 hn2 hg2
              go_wp2
              go_roundw
              case rel => exact ⟨k + 1, tk, now2, given2, es2, x2, _, by omega, by go_num, by first | rfl | go_num, by omega, HB.out.1, HB.out.2, HP.out⟩
              case measure => simp [intOf]; omega
      · have HB : Hid (Below w.heap.size w wr) := hJ.bel
        clear hJ HJ
        have hLi := lives6_any wr
        go_wp2_with fail
        refine hLi.mono ?_
        rintro e w5 ⟨rfl, d5⟩
        have HB5 : Hid (Below w.heap.size w w5) := HB.out.trans (d5.mono HB.out.size)
        clear hLi d5
        go_wp2
        go_ret
        exact ⟨rfl, HB5.out⟩
end Go.Proofs.Ytjkkclojidhgdaa
