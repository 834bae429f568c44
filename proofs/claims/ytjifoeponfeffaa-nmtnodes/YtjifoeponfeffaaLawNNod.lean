/- The law NmtNodes returns true whatever number and calls come. -/
import Derived.Test.YtjifoeponfeffaaNnH
import Derived.Test.YtjifoeponfeffaaDwX
import Derived.Deep.RegionHeld3
namespace Go.Proofs.Ytjifoeponfeffaa
open Go.RowKit
set_option linter.unusedVariables false
set_option maxRecDepth 1000000
set_option linter.unusedSimpArgs false
theorem wp_appN {w : World} {o : Oper} {a : Act} {K : Act → World → Prop} {Q : Exit → Act → World → Prop} (s x : Operand)
    (ho : o.op = .call { callee := .builtin .append, args := #[s, x], argTypes := #[31, 31] })
    (base : Nat) (v : Value) (xs : List UInt8) (hs : a.eval s = v) (hown : w.ownsRow base 5 1 v xs.length (Lib.byteCells xs))
    (vx : Value) (l : List UInt8) (hx : a.eval x = vx) (hB : Bytes w vx l) (hbytes : xs.length + l.length ≤ 140737488355328) (hbase : base ≤ w.heap.size)
    (h : ∀ v' w', w'.ownsRow base 5 1 v' (xs ++ l).length (Lib.byteCells (xs ++ l)) → w.grownBy w' v.ownBlock → K (a.put o.dst v') w') : o.wp Try.prog a w K Q := by
  obtain ⟨i0, hi, hz0, hz1, hz2⟩ := info_parts info5
  obtain ⟨ao, cap, rfl, h0, hc⟩ := hB
  cases ao with
  | none =>
    obtain ⟨rfl, rfl⟩ := h0 rfl
    have hrun := run_append_owned_none (P := Try.prog) (w := w) base 31 o.type 5 i0 1 Try.underlying31 hi v xs.length (Lib.byteCells xs) hown
    unfold Oper.wp
    simp only [List.length_nil] at hx
    simp [execOp, ho, resolve, invoke, builtin, hs, hx, hrun, Result.andThen]
    refine h _ _ ?_ (grown_refl _ _)
    simpa using hown
  | some ad =>
    refine wp_append_own w s x 31 ho base 5 i0 (.int .u8 0) 1 1 Try.underlying31 hi hz0 hz1 hz2 rfl (by decide) v xs.length (Lib.byteCells xs) hs hown ad l.length cap (Lib.byteCells l) hx (by simp [Lib.byteCells_length]) ?_ (byteCells_one l) (by unfold maxLen; omega) (by omega) hbase ?_
    · intro j u hj
      have hlt : j < l.length := by
        have := (List.getElem?_eq_some_iff.1 hj).1
        rwa [Lib.byteCells_length] at this
      obtain ⟨b, off, ha, _, hcell⟩ := hc j hlt
      simp at ha
      subst ha
      rw [add_off, hcell]
      simp [Lib.byteCells, hlt] at hj
      rw [hj]
    · intro v' w' h1 h2 _
      refine h v' w' ?_ h2
      rw [List.length_append, Lib.byteCells_append]
      exact h1
theorem bs0N {o : Oper} {a : Act} {w : World} {K : Act → World → Prop} {Q : Exit → Act → World → Prop} (ho : o.op = .buildSlice 31 0 #[])
    (h : K (a.put o.dst (.slice (some ⟨w.heap.size, 0, none⟩) 0 0)) (w.alloc (.cells #[] 5))) : o.wp Try.prog a w K Q := by
  obtain ⟨i0, hi0, hz0, hz1, hz2⟩ := info_parts info5
  unfold Oper.wp execOp
  simp only [ho, List.map_toArray, List.map_nil]
  simp [Instr.buildSlice, go_sem, run_underlying Try.underlying31, zeroValue, sizeOf, typeInfo, hi0, hz0, hz1, Instr.fill, madeCells]
  exact h
theorem enterNT : ∀ args x, (callFunc 10 args).run Try.prog x = .ok (.enter 10 args) x := fun _ _ => by rfl
theorem enterDT : ∀ args x, (callFunc 11 args).run Try.prog x = .ok (.enter 11 args) x := fun _ _ => by rfl
theorem enterNS : ∀ args x, (callFunc 14 args).run Try.prog x = .ok (.enter 14 args) x := fun _ _ => by rfl
theorem enterDS : ∀ args x, (callFunc 15 args).run Try.prog x = .ok (.enter 15 args) x := fun _ _ => by rfl
theorem load_bytesN (x : World) (D k : Nat) (a : Option Addr) (n c : Nat) (hc : x.cell? ⟨D, k, none⟩ = some (.slice a n c)) : (loadVar 31 ⟨D, k, none⟩).run Try.prog x = .ok (.slice a n c) x := by
  simp [go_sem, run_underlying Try.underlying31, hc]
theorem nnod_bad (id : Int) (v : Value) (w : World) (h : isN id = false) : Calls Try.prog 3 #[.int .i64 id, v] w fun r w' => r = .returned (.bool true) ∧ Below w.heap.size w w' := by
  have hN := new_bad w id h
  have hL := lives17_any w
  have hc : id < 0 ∨ 127 < id := by simp [isN] at h; omega
  clear h
  rcases hc with hc | hc
  · have d1 : decide (id < 0) = true := by simp [hc]
    clear hc
    go_enter Try.func3, Try.ntmps3
    go_wp2_with (first | (go_at_call 8; refine hN.mono ?_; rintro r w1 ⟨rfl, hw⟩; rw [hw]) | (go_at_call 9; refine hL.mono ?_; rintro r w9 ⟨rfl, B9⟩))
    go_ret
    exact ⟨rfl, B9⟩
  · have d1 : decide (id < 0) = false := by simp; omega
    have d2 : decide (127 < id) = true := by simp [hc]
    clear hc
    go_enter Try.func3, Try.ntmps3
    go_wp2_with (first | (go_at_call 8; refine hN.mono ?_; rintro r w1 ⟨rfl, hw⟩; rw [hw]) | (go_at_call 9; refine hL.mono ?_; rintro r w9 ⟨rfl, B9⟩))
    go_ret
    exact ⟨rfl, B9⟩
/-- What stands ahead of each call. -/
structure RN (p q k : Nat) (w x : World) (s : Nd) : Prop where
  a : Na p s x
  b : Nb q s x
  below : Below p w x
  few : s.few k
  ok : s.Ok
theorem RN.after {p q k : Nat} {w x y : World} {s S : Nd} (h : RN p q k w x s) (hp : p ≤ x.heap.size) (hq : p ≤ q) (ha : Na p S y) (hb : Nb q S y) (t : Two p q x y) (hf : S.few (k + 1)) (ho : S.Ok) : RN p q (k + 1) w y S :=
  ⟨ha, hb, h.below.trans (t.below hp (Nat.le_refl _) hq), hf, ho⟩
set_option maxHeartbeats 8000000 in
theorem nnod_ok (id : Int) (v : Value) (l : List A17) (h : isN id = true) (hl : l.length ≤ 140737488351232) (w : World) (hok : ∀ a ∈ l, a.ok w) (hB : Wide 3 A17.c w v l) :
    Calls Try.prog 3 #[.int .i64 id, v] w fun r w' => r = .returned (.bool true) ∧ Below w.heap.size w w' := by
  obtain ⟨ao, cap, rfl, _, hc⟩ := hB
  have HC : Hid (∀ (wr : World), Below w.heap.size w wr → ∀ k (hk : k < l.length), ∃ b off, ao = some ⟨b, off, none⟩ ∧ b < w.heap.size ∧ wr.rangeAt b (off + k * 3) (A17.c l[k])) := fun wr hb k hk => Wide.at hc hb k hk
  have HOK : Hid (∀ k (hk : k < l.length), l[k].ok w) := fun k hk => hok _ (List.getElem_mem hk)
  clear hc hok
  have hN := new_ok w id h
  have hi : 0 ≤ id ∧ id ≤ 127 := by simpa [isN] using h
  have d1 : decide (id < 0) = false := by simp; omega
  have d2 : decide (127 < id) = false := by simp; omega
  clear hi h
  obtain ⟨p, hp⟩ : ∃ p, w.heap.size = p := ⟨_, rfl⟩
  rw [hp] at hN HC ⊢
  go_enter Try.func3, Try.ntmps3
  go_upto_region 2 with (go_at_call 8; refine hN.mono ?_; rintro r w1 ⟨rfl, N1, B1⟩)
  obtain ⟨q, hq⟩ : ∃ q, w1.heap.size = q := ⟨_, rfl⟩
  have lq : p < q := by rw [← hq]; exact Bc.lt N1
  obtain ⟨w2, hw2⟩ : ∃ x, w1.alloc (.cells #[.int .i64 id, .int .i64 id, .int .i64 0, .int .i64 0, .int .i64 0] 30) = x := ⟨_, rfl⟩
  have B2 : Below w1.heap.size w1 w2 := by rw [← hw2]; exact (Below.refl _ _).alloc (Nat.le_refl _) _
  have D2 : Nb q ⟨id, id, 0, 0, 0⟩ w2 := by rw [← hw2, ← hq]; exact Nb.new w1 id
  have HI : Hid (RN p q 0 w w2 ⟨id, id, 0, 0, 0⟩) := ⟨Bc.below N1 B2, D2, B1.trans (B2.mono (by omega)), ⟨by simp, by simp, by simp, by simp⟩, .inl rfl⟩
  clear N1 B1 B2 D2 hN
  go_upto_region 7 with fail
  clear hw2
  go_wp2_with fail
  go_loopw [8] (fun s8 x => ∃ k s, k ≤ l.length ∧ s8 = .int .i64 (k : Nat) ∧ RN p q k w x s) (fun s8 _ => l.length - (intOf s8).toNat)
  case atStart => exact ⟨0, _, by omega, rfl, HI.out⟩
  case round =>
    clear HI
    obtain ⟨k, s, hk, rfl, hR⟩ := hrel
    have B5 := hR.below
    have lqw := Bc.lt hR.b
    have hszp : p ≤ wr.heap.size := by omega
    by_cases hkl : k < l.length
    · have hd : decide ((k : Int) < (l.length : Int)) = true := by simp; omega
      obtain ⟨b, off, rfl, hb, hRb⟩ := HC.out wr B5 k hkl
      have ha := HOK.out k hkl
      generalize l[k] = a at *
      obtain ⟨kd, n, bv, bl⟩ := a
      obtain ⟨hkd, hnb, hbv, hbl⟩ := ha
      simp only at hkd hnb hbv hbl
      have HBy : Hid (∀ x, Below p w x → Bytes x bv bl) := fun x hx => hbv.below (by rw [hp]; exact hx)
      obtain ⟨ab, cb, hbv2, _⟩ := hbv
      subst hbv2
      obtain ⟨r, hr⟩ : ∃ r, wr.heap.size = r := ⟨_, rfl⟩
      obtain ⟨X, hX⟩ : ∃ x, wr.alloc (.cells #[.int .i64 kd, .int .i64 n, .slice ab bl.length cb] 33) = x := ⟨_, rfl⟩
      have lr : q < r := by rw [← hr]; exact lqw
      have BX1 : Below wr.heap.size wr X := by rw [← hX]; exact (Below.refl _ _).alloc (Nat.le_refl _) _
      have CX : Bc 33 r #[.int .i64 kd, .int .i64 n, .slice ab bl.length cb] X := by rw [← hX, ← hr]; exact heap_alloc_new wr _
      have lrX := Bc.lt CX
      have RX : RN p q k w X s := ⟨Bc.below hR.a BX1, Bc.below hR.b BX1, B5.trans (BX1.mono hszp), hR.few, hR.ok⟩
      have HK : Hid (∀ z, Two p q X z → z.cell? ⟨r, 0, none⟩ = some (.int .i64 kd) ∧ z.cell? ⟨r, 1, none⟩ = some (.int .i64 n) ∧ z.cell? ⟨r, 2, none⟩ = some (.slice ab bl.length cb)) := fun z hz => ⟨Bc.cell (Bc.two CX hz (by omega) (by omega)) 0, Bc.cell (Bc.two CX hz (by omega) (by omega)) 1, Bc.cell (Bc.two CX hz (by omega) (by omega)) 2⟩
      have hpX : p ≤ X.heap.size := by omega
      have bs : (-4611686018427387904 ≤ s.boots ∧ s.boots < 4611686018427387904) ∧ (-4611686018427387904 ≤ s.talks ∧ s.talks < 4611686018427387904) := by obtain ⟨a1, a2, a3, a4⟩ := hR.few; omega
      obtain ⟨x0, x1, x2⟩ := HK.out X (Two.refl _ _ _)
      clear hR B5 BX1 CX
      go_upto_region 11 with (first | (refine A17.ld hRb rfl _ rfl rfl ?_; unfold A17.arr; simp only))
      clear hX hRb
      by_cases h0 : kd = 0
      · subst h0
        obtain ⟨e0, he0⟩ : ∃ x, X.heap.size = x := ⟨_, rfl⟩
        have HT : Hid (∀ v1 w2, w2.ownsRow e0 5 1 v1 bl.length (Lib.byteCells bl) → (X.drew.alloc (.cells #[] 5)).grownBy w2 (some e0) → Calls Try.prog 10 #[.pointer (some ⟨p, 0, none⟩), v1] w2 fun e w' => e = .returned (.int .i64 (s.told bl)) ∧ Na p (s.take bl) w' ∧ Two p p X w') := fun v1 w2 h1 h2 => (took_any (wr := X.drew) (X1 := X.drew.alloc (.cells #[] 5)) rfl he0 (Bc.drawn RX.a 1) bl bs.1 bs.2 v1 w2 h1 h2).mono fun e w' ⟨a1, a2, a3⟩ => ⟨a1, a2, ⟨a3.os, a3.tape, a3.output, a3.size, a3.block⟩⟩
        have HO : Hid ((X.drew.alloc (.cells #[] 5)).ownsRow e0 5 1 (.slice (some ⟨e0, 0, none⟩) 0 0) 0 []) := by
          show World.ownsRow _ _ _ _ _ _ _
          rw [← he0]
          exact own_empty X.drew
        have hs1 : e0 ≤ (X.drew.alloc (.cells #[] 5)).heap.size := by
          have : (X.drew.alloc (.cells #[] 5)).heap.size = X.heap.size + 1 := size_alloc _ _
          omega
        have HB2 : Hid (Bytes (X.drew.alloc (.cells #[] 5)) (.slice ab bl.length cb) bl) := HBy.out _ (RX.below.trans (((below_drawn (Below.refl _ X) 1).alloc (Nat.le_refl _) _).mono hpX))
        have HG : Hid (∀ w2, (X.drew.alloc (.cells #[] 5)).grownBy w2 (some e0) → Two p q X w2) := fun w2 h2 => by
          have g := grown_two h2
          have h1 : Two p q X (X.drew.alloc (.cells #[] 5)) := ((Two.refl p q X).drawn 1).alloc _
          refine ⟨g.os.trans h1.os, g.tape.trans h1.tape, g.output.trans h1.output, Nat.le_trans h1.size g.size, fun k9 hk9 h3 h4 => ?_⟩
          have s1 := h1.size
          rw [g.block k9 (by omega) (by omega) (by omega), h1.block k9 hk9 h3 h4]
        have HD : Hid (∀ z, Na p (s.take bl) z → Two p p X z → Two p q X z ∧ Calls Try.prog 11 #[.pointer (some ⟨q, 0, none⟩), .slice ab bl.length cb] z fun e w' => e = .returned (.int .i64 (s.told bl)) ∧ Na p (s.take bl) w' ∧ Nb q (s.take bl) w' ∧ Two p q X w') := by
          intro z hz ht
          have tz : Two p q X z := ⟨ht.os, ht.tape, ht.output, ht.size, fun k9 hk9 h1 h2 => ht.block k9 hk9 h1 h1⟩
          refine ⟨tz, ?_⟩
          have dz : Nb q s z := Bc.two RX.b ht (by omega) (by omega)
          refine (dtake_any _ bl dz (HBy.out z (RX.below.trans (tz.below hpX (Nat.le_refl _) (by omega)))) RX.ok bs.1 bs.2).mono ?_
          rintro e w' ⟨a1, a2, a3⟩
          exact ⟨a1, Bc.two hz a3 (by omega) (by omega), a2, tz.trans ⟨a3.os, a3.tape, a3.output, a3.size, fun k9 hk9 h1 h2 => a3.block k9 hk9 h2 h2⟩⟩
        have HF : Hid (∀ z, Na p (s.take bl) z → Nb q (s.take bl) z → Two p q X z → RN p q (k + 1) w z (s.take bl)) := fun z h1 h2 h3 => RX.after hpX (by omega) h1 h2 h3 (RX.few.take bl) (Nd.take_ok RX.ok bl)
        have s0 := (HK.out X.drew ((Two.refl p q X).drawn 1)).2.2
        obtain ⟨S9, hS9⟩ : ∃ S, s.take bl = S := ⟨_, rfl⟩
        rw [hS9] at HT HD HF
        go_upto_region 13 with fail
        refine wp_region_held (S := fun z : World => z.cell? ⟨r, 2, none⟩ = some (.slice ab bl.length cb)) (by kernel_rfl) ?_
        change wpAnyH _ _ _ _ _ _ _ _ X.drew
        refine wpAnyH_take (i := 0) (v := (.pointer (some ⟨p, 0, none⟩))) rfl (by kernel_rfl) (by kernel_rfl) (by kernel_rfl) (fun _ _ _ h => h) (.inl ⟨rfl, fun _ hS => rfl⟩) s0 ?_
        simp only [List.getElem_toArray, List.getElem_cons_succ, List.getElem_cons_zero, Act.put, List.setIfInBounds_toArray, List.set_cons_succ, List.set_cons_zero]
        refine wpAnyH_take (i := 2) (v := (.pointer (some ⟨r, 2, none⟩))) rfl (by kernel_rfl) (by kernel_rfl) (by kernel_rfl) (fun _ _ _ h => h) (.inl ⟨rfl, fun _ hS => by simp [execOp, go_sem, Act.eval]⟩) s0 ?_
        simp only [List.getElem_toArray, List.getElem_cons_succ, List.getElem_cons_zero, Act.put, List.setIfInBounds_toArray, List.set_cons_succ, List.set_cons_zero]
        refine wpAnyH_take (i := 3) (v := (.slice ab bl.length cb)) rfl (by kernel_rfl) (by kernel_rfl) (by kernel_rfl) (fun _ _ _ h => h) (.inl ⟨rfl, fun _ hS => exec_load rfl rfl (load_bytesN _ _ _ _ _ _ hS)⟩) s0 ?_
        simp only [List.getElem_toArray, List.getElem_cons_succ, List.getElem_cons_zero, Act.put, List.setIfInBounds_toArray, List.set_cons_succ, List.set_cons_zero]
        refine wpAnyH_take (i := 6) (v := (.pointer (some ⟨q, 0, none⟩))) rfl (by kernel_rfl) (by kernel_rfl) (by kernel_rfl) (fun _ _ _ h => h) (.inl ⟨rfl, fun _ hS => rfl⟩) s0 ?_
        simp only [List.getElem_toArray, List.getElem_cons_succ, List.getElem_cons_zero, Act.put, List.setIfInBounds_toArray, List.set_cons_succ, List.set_cons_zero]
        refine wpAnyH_take (i := 7) (v := (.pointer (some ⟨r, 2, none⟩))) rfl (by kernel_rfl) (by kernel_rfl) (by kernel_rfl) (fun _ _ _ h => h) (.inl ⟨rfl, fun _ hS => by simp [execOp, go_sem, Act.eval]⟩) s0 ?_
        simp only [List.getElem_toArray, List.getElem_cons_succ, List.getElem_cons_zero, Act.put, List.setIfInBounds_toArray, List.set_cons_succ, List.set_cons_zero]
        refine wpAnyH_take (i := 8) (v := (.slice ab bl.length cb)) rfl (by kernel_rfl) (by kernel_rfl) (by kernel_rfl) (fun _ _ _ h => h) (.inl ⟨rfl, fun _ hS => exec_load rfl rfl (load_bytesN _ _ _ _ _ _ hS)⟩) s0 ?_
        simp only [List.getElem_toArray, List.getElem_cons_succ, List.getElem_cons_zero, Act.put, List.setIfInBounds_toArray, List.set_cons_succ, List.set_cons_zero]
        refine wpAnyH_all (rs := [1]) (by kernel_rfl) (by simp) ?_
        intro k hk
        simp only [List.mem_cons, List.mem_nil_iff, or_false] at hk
        subst hk
        refine wpOp_runw rfl rfl (bs0N rfl ?_)
        have s1 := (HK.out _ ((Two.refl p q X).drawn 1 |>.alloc (.cells #[] 5))).2.2
        rw [show X.drew.heap.size = e0 from he0]
        refine ⟨s1, ?_⟩
        simp only [List.getElem_toArray, List.getElem_cons_succ, List.getElem_cons_zero, Act.put, List.setIfInBounds_toArray, List.set_cons_succ, List.set_cons_zero]
        refine wpAnyH_all (rs := [4]) (by kernel_rfl) (by simp) ?_
        intro k hk
        simp only [List.mem_cons, List.mem_nil_iff, or_false] at hk
        subst hk
        refine wpOp_runw rfl rfl (wp_appN _ _ rfl e0 _ [] rfl (by exact HO.out) _ bl rfl (by exact HB2.out) (by simp; omega) (by exact hs1) ?_)
        intro v1 w2 ho hgr
        have s2 := (HK.out w2 (HG.out w2 hgr)).2.2
        have hT2 := HT.out v1 w2 ho hgr
        clear ho hgr
        refine ⟨s2, ?_⟩
        simp only [List.getElem_toArray, List.getElem_cons_succ, List.getElem_cons_zero, Act.put, List.setIfInBounds_toArray, List.set_cons_succ, List.set_cons_zero]
        refine wpAnyH_all (rs := [5]) (by kernel_rfl) (by simp) ?_
        intro k hk
        simp only [List.mem_cons, List.mem_nil_iff, or_false] at hk
        subst hk
        refine wpOp_runw rfl rfl (wp_call_fn 10 #[.pointer (some ⟨p, 0, none⟩), v1] (by simp [execOp, go_sem, Act.eval, resolve, invoke, enterNT]) ?_)
        refine hT2.mono ?_
        rintro e w3 ⟨rfl, N3, T3⟩
        have hD3 := HD.out w3 N3 T3
        have s3 := (HK.out w3 hD3.1).2.2
        refine ⟨s3, ?_⟩
        simp only [List.getElem_toArray, List.getElem_cons_succ, List.getElem_cons_zero, Act.put, List.setIfInBounds_toArray, List.set_cons_succ, List.set_cons_zero]
        refine wpAnyH_all (rs := [9]) (by kernel_rfl) (by simp) ?_
        intro k hk
        simp only [List.mem_cons, List.mem_nil_iff, or_false] at hk
        subst hk
        refine wpOp_runw rfl rfl (wp_call_fn 11 #[.pointer (some ⟨q, 0, none⟩), .slice ab bl.length cb] (by simp [execOp, go_sem, Act.eval, resolve, invoke, enterDT]) ?_)
        refine hD3.2.mono ?_
        rintro e w4 ⟨rfl, N4, D4, T4⟩
        have s4 := (HK.out w4 T4).2.2
        refine ⟨s4, ?_⟩
        simp only [List.getElem_toArray, List.getElem_cons_succ, List.getElem_cons_zero, Act.put, List.setIfInBounds_toArray, List.set_cons_succ, List.set_cons_zero]
        refine wpAnyH_take (i := 10) (v := (.bool true)) rfl (by kernel_rfl) (by kernel_rfl) (by kernel_rfl) (fun _ _ _ h => h) (.inl ⟨rfl, fun _ hS => by go_simp⟩) s4 ?_
        simp only [List.getElem_toArray, List.getElem_cons_succ, List.getElem_cons_zero, Act.put, List.setIfInBounds_toArray, List.set_cons_succ, List.set_cons_zero]
        refine wpAnyH_take (i := 11) (v := (.bool true)) rfl (by kernel_rfl) (by kernel_rfl) (by kernel_rfl) (fun _ _ _ h => h) (.inl ⟨rfl, fun _ hS => rfl⟩) s4 ?_
        simp only [List.getElem_toArray, List.getElem_cons_succ, List.getElem_cons_zero, Act.put, List.setIfInBounds_toArray, List.set_cons_succ, List.set_cons_zero]
        refine wpAnyH_done (by kernel_rfl) ?_ _
        have HN := hidOf2 (HF.out w4 N4 D4 T4)
        clear HT HO hs1 HB2 HG HD HF hT2 hD3 N3 T3 N4 D4 T4 s0 s1 s2 s3 s4 RX x0 x1 x2
        have hBo := boots_any HN.out.a
        go_upto_region 20 with (go_at_call 16; refine hBo.mono ?_; rintro e w8 ⟨rfl, n8, hw8⟩; have HW8 := hidOf2 hw8; clear hw8)
        have HN2 := hidOf2 (show RN p q (k + 1) w w8 S9 from by rw [HW8.out]; exact ⟨Bc.drawn HN.out.a n8, Bc.drawn HN.out.b n8, below_drawn HN.out.below n8, HN.out.few, HN.out.ok⟩)
        clear HW8
        have hSt : ∀ n, Calls Try.prog 17 #[.pointer (some ⟨p, 0, none⟩)] (w8.drewN n) fun e w' => e = .returned (.int .i64 (S9).st) ∧ w' = w8.drewN n := fun n => state_any (Bc.drawn HN2.out.a n)
        have hId : ∀ n, Calls Try.prog 18 #[.pointer (some ⟨p, 0, none⟩)] (w8.drewN n) fun e w' => e = .returned (.int .i64 (S9).id) ∧ w' = w8.drewN n := fun n => id_any (Bc.drawn HN2.out.a n)
        obtain ⟨z0, z1, z2, z3, z4, zf⟩ := Nb.cells HN2.out.b
        have q1 : ((S9).st != (S9).st) = false := by simp
        have q2 : ((S9).id != (S9).id) = false := by simp
        have q3 : ((S9).boots != (S9).boots) = false := by simp
        have q4 : ((S9).talks != (S9).talks) = false := by simp
        clear hBo HN
        go_wp2_with fail
        go_quiet (first | (go_at_call 17; exact Calls.quiet_of_same (hSt _)) | (go_at_call 18; exact Calls.quiet_of_same (hId _)))
        go_wp2_with fail
        go_roundw
        case rel => exact ⟨k + 1, S9, by omega, rfl, ⟨Bc.drawn HN2.out.a _, Bc.drawn HN2.out.b _, below_drawn HN2.out.below _, HN2.out.few, HN2.out.ok⟩⟩
        case measure => simp [intOf]; omega
      · have d0 : (kd == 0) = false := by simp [h0]
        by_cases h1 : kd = 1
        · subst h1
          clear h0 d0
          cases hg : s.goes
          · have hS : Calls Try.prog 12 #[.pointer (some ⟨p, 0, none⟩)] X fun e w' => e = .returned (.tuple #[.slice none 0 0, .bool false]) ∧ Na p s.step w' ∧ Two p p X w' := by
              refine (step_any RX.a).mono ?_
              rintro e w' ⟨r9, rfl, hst, h1, h2⟩
              unfold StA at hst
              rw [hg] at hst
              simp only [Bool.false_eq_true, if_false] at hst
              rw [hst]
              exact ⟨rfl, h1, h2⟩
            have HD : Hid (∀ z, Na p s.step z → Two p p X z → Two p q X z ∧ Calls Try.prog 13 #[.pointer (some ⟨q, 0, none⟩)] z fun e w' => e = .returned (.bool false) ∧ RN p q (k + 1) w w' s.step ∧ Two q q z w') := by
              intro z hz ht
              have tz : Two p q X z := ⟨ht.os, ht.tape, ht.output, ht.size, fun k9 hk9 h1 h2 => ht.block k9 hk9 h1 h1⟩
              have dz : Nb q s z := Bc.two RX.b ht (by omega) (by omega)
              refine ⟨tz, ?_⟩
              rw [← hg]
              refine (dstep_any dz).mono ?_
              rintro e w' ⟨a1, a2, a3⟩
              exact ⟨a1, RX.after hpX (by omega) (Bc.two hz a3 (by omega) (by omega)) a2 (tz.trans ⟨a3.os, a3.tape, a3.output, a3.size, fun k9 hk9 h1 h2 => a3.block k9 hk9 h2 h2⟩) RX.few.step (Nd.step_ok RX.ok), a3⟩
            obtain ⟨S9, hS9⟩ : ∃ S, s.step = S := ⟨_, rfl⟩
            rw [hS9] at hS HD
            clear hg hS9
            go_upto_region 15 with fail
            go_upto_region 16 with (go_at_call 12; refine hS.mono ?_; rintro e w3 ⟨rfl, N3, T3⟩)
            have hD3 := HD.out w3 N3 T3
            clear hS HD N3 T3 RX x0 x1 x2
            go_upto_region 19 with (go_at_call 13; refine hD3.2.mono ?_; rintro e w4 ⟨rfl, R4, T4⟩)
            have HN : Hid _ := hidOf2 R4
            clear R4 T4 hD3
            have hBo := boots_any HN.out.a
            go_upto_region 20 with (go_at_call 16; refine hBo.mono ?_; rintro e w8 ⟨rfl, n8, hw8⟩; have HW8 := hidOf2 hw8; clear hw8)
            have HN2 := hidOf2 (show RN p q (k + 1) w w8 S9 from by rw [HW8.out]; exact ⟨Bc.drawn HN.out.a n8, Bc.drawn HN.out.b n8, below_drawn HN.out.below n8, HN.out.few, HN.out.ok⟩)
            clear HW8
            have hSt : ∀ n, Calls Try.prog 17 #[.pointer (some ⟨p, 0, none⟩)] (w8.drewN n) fun e w' => e = .returned (.int .i64 (S9).st) ∧ w' = w8.drewN n := fun n => state_any (Bc.drawn HN2.out.a n)
            have hId : ∀ n, Calls Try.prog 18 #[.pointer (some ⟨p, 0, none⟩)] (w8.drewN n) fun e w' => e = .returned (.int .i64 (S9).id) ∧ w' = w8.drewN n := fun n => id_any (Bc.drawn HN2.out.a n)
            obtain ⟨z0, z1, z2, z3, z4, zf⟩ := Nb.cells HN2.out.b
            have q1 : ((S9).st != (S9).st) = false := by simp
            have q2 : ((S9).id != (S9).id) = false := by simp
            have q3 : ((S9).boots != (S9).boots) = false := by simp
            have q4 : ((S9).talks != (S9).talks) = false := by simp
            clear hBo HN
            go_wp2_with fail
            go_quiet (first | (go_at_call 17; exact Calls.quiet_of_same (hSt _)) | (go_at_call 18; exact Calls.quiet_of_same (hId _)))
            go_wp2_with fail
            go_roundw
            case rel => exact ⟨k + 1, S9, by omega, rfl, ⟨Bc.drawn HN2.out.a _, Bc.drawn HN2.out.b _, below_drawn HN2.out.below _, HN2.out.few, HN2.out.ok⟩⟩
            case measure => simp [intOf]; omega
          · have hS : Calls Try.prog 12 #[.pointer (some ⟨p, 0, none⟩)] X fun e w' => ∃ q9, e = .returned (.tuple #[.slice (some ⟨q9, 0, none⟩) 1 1, .bool true]) ∧ (X.heap.size ≤ q9 ∧ q9 < w'.heap.size ∧ w'.cell? ⟨q9, 0, none⟩ = some (.int .u8 0)) ∧ Na p s.step w' ∧ Two p p X w' := by
              refine (step_any RX.a).mono ?_
              rintro e w' ⟨r9, rfl, hst, h1, h2⟩
              unfold StA at hst
              rw [hg, if_pos rfl] at hst
              obtain ⟨q9, rfl, a1, a2, a3⟩ := hst
              exact ⟨q9, rfl, ⟨a1, a2, a3⟩, h1, h2⟩
            have HD : Hid (∀ z, Na p s.step z → Two p p X z → Two p q X z ∧ Calls Try.prog 13 #[.pointer (some ⟨q, 0, none⟩)] z fun e w' => e = .returned (.bool true) ∧ RN p q (k + 1) w w' s.step ∧ Two q q z w') := by
              intro z hz ht
              have tz : Two p q X z := ⟨ht.os, ht.tape, ht.output, ht.size, fun k9 hk9 h1 h2 => ht.block k9 hk9 h1 h1⟩
              have dz : Nb q s z := Bc.two RX.b ht (by omega) (by omega)
              refine ⟨tz, ?_⟩
              rw [← hg]
              refine (dstep_any dz).mono ?_
              rintro e w' ⟨a1, a2, a3⟩
              exact ⟨a1, RX.after hpX (by omega) (Bc.two hz a3 (by omega) (by omega)) a2 (tz.trans ⟨a3.os, a3.tape, a3.output, a3.size, fun k9 hk9 h1 h2 => a3.block k9 hk9 h2 h2⟩) RX.few.step (Nd.step_ok RX.ok), a3⟩
            obtain ⟨S9, hS9⟩ : ∃ S, s.step = S := ⟨_, rfl⟩
            rw [hS9] at hS HD
            clear hg hS9
            go_upto_region 15 with fail
            go_upto_region 16 with (go_at_call 12; refine hS.mono ?_; rintro e w3 ⟨q9, rfl, hq9, N3, T3⟩)
            obtain ⟨hq1, hq2, hq3⟩ := hq9
            have hD3 := HD.out w3 N3 T3
            have HTx : Hid (∀ z, Two q q w3 z → (convert 31 9 (.slice (some ⟨q9, 0, none⟩) 1 1)).run Try.prog z = .ok (.string ⟨[0].toArray⟩) z) := fun z hz => Bytes.text (l := [0]) ⟨_, 1, rfl, (fun h => by cases h), fun k9 hk9 => by
              have e9 : k9 = 0 := by simp at hk9; exact hk9
              subst e9
              refine ⟨q9, 0, rfl, Nat.lt_of_lt_of_le hq2 hz.size, ?_⟩
              rw [World.cell?_of_block (w := w3) (hz.block q9 hq2 (by omega) (by omega))]
              exact hq3⟩
            clear hS HD N3 T3 hq1 hq2 hq3 RX x0 x1 x2
            go_upto_region 19 with (go_at_call 13; refine hD3.2.mono ?_; rintro e w4 ⟨rfl, R4, T4⟩; have hTx := HTx.out w4 T4)
            have HN : Hid _ := hidOf2 R4
            clear R4 T4 hD3 HTx hTx
            have hBo := boots_any HN.out.a
            go_upto_region 20 with (go_at_call 16; refine hBo.mono ?_; rintro e w8 ⟨rfl, n8, hw8⟩; have HW8 := hidOf2 hw8; clear hw8)
            have HN2 := hidOf2 (show RN p q (k + 1) w w8 S9 from by rw [HW8.out]; exact ⟨Bc.drawn HN.out.a n8, Bc.drawn HN.out.b n8, below_drawn HN.out.below n8, HN.out.few, HN.out.ok⟩)
            clear HW8
            have hSt : ∀ n, Calls Try.prog 17 #[.pointer (some ⟨p, 0, none⟩)] (w8.drewN n) fun e w' => e = .returned (.int .i64 (S9).st) ∧ w' = w8.drewN n := fun n => state_any (Bc.drawn HN2.out.a n)
            have hId : ∀ n, Calls Try.prog 18 #[.pointer (some ⟨p, 0, none⟩)] (w8.drewN n) fun e w' => e = .returned (.int .i64 (S9).id) ∧ w' = w8.drewN n := fun n => id_any (Bc.drawn HN2.out.a n)
            obtain ⟨z0, z1, z2, z3, z4, zf⟩ := Nb.cells HN2.out.b
            have q1 : ((S9).st != (S9).st) = false := by simp
            have q2 : ((S9).id != (S9).id) = false := by simp
            have q3 : ((S9).boots != (S9).boots) = false := by simp
            have q4 : ((S9).talks != (S9).talks) = false := by simp
            clear hBo HN
            go_wp2_with fail
            go_quiet (first | (go_at_call 17; exact Calls.quiet_of_same (hSt _)) | (go_at_call 18; exact Calls.quiet_of_same (hId _)))
            go_wp2_with fail
            go_roundw
            case rel => exact ⟨k + 1, S9, by omega, rfl, ⟨Bc.drawn HN2.out.a _, Bc.drawn HN2.out.b _, below_drawn HN2.out.below _, HN2.out.few, HN2.out.ok⟩⟩
            case measure => simp [intOf]; omega
        · have d1' : (kd == 1) = false := by simp [h1]
          by_cases h2 : kd = 2
          · subst h2
            clear h0 d0 h1 d1'
            have hT2 : Calls Try.prog 14 #[.pointer (some ⟨p, 0, none⟩), .int .i64 n] X.drew fun e w' => e = .returned (.int .i64 (if isN n then 0 else 1)) ∧ Na p (s.set n) w' ∧ Two p p X w' := (set_any (Bc.drawn RX.a 1) n).mono fun e w' ⟨a1, a2, a3⟩ => ⟨a1, a2, ⟨a3.os, a3.tape, a3.output, a3.size, a3.block⟩⟩
            have HD : Hid (∀ z, Na p (s.set n) z → Two p p X z → Two p q X z ∧ Calls Try.prog 15 #[.pointer (some ⟨q, 0, none⟩), .int .i64 n] z fun e w' => e = .returned (.int .i64 (if isN n then 0 else 1)) ∧ Na p (s.set n) w' ∧ Nb q (s.set n) w' ∧ Two p q X w') := by
              intro z hz ht
              have tz : Two p q X z := ⟨ht.os, ht.tape, ht.output, ht.size, fun k9 hk9 h1 h2 => ht.block k9 hk9 h1 h1⟩
              refine ⟨tz, ?_⟩
              have dz : Nb q s z := Bc.two RX.b ht (by omega) (by omega)
              refine (dset_any dz n).mono ?_
              rintro e w' ⟨a1, a2, a3⟩
              exact ⟨a1, Bc.two hz a3 (by omega) (by omega), a2, tz.trans ⟨a3.os, a3.tape, a3.output, a3.size, fun k9 hk9 h1 h2 => a3.block k9 hk9 h2 h2⟩⟩
            have HF : Hid (∀ z, Na p (s.set n) z → Nb q (s.set n) z → Two p q X z → RN p q (k + 1) w z (s.set n)) := fun z h1 h2 h3 => RX.after hpX (by omega) h1 h2 h3 (RX.few.set n) (Nd.set_ok RX.ok n)
            have s0 := (HK.out X.drew ((Two.refl p q X).drawn 1)).2.1
            obtain ⟨S9, hS9⟩ : ∃ S, s.set n = S := ⟨_, rfl⟩
            rw [hS9] at hT2 HD HF
            generalize (if isN n = true then (0 : Int) else 1) = zz at *
            go_upto_region 18 with fail
            refine wp_region_held (S := fun z : World => z.cell? ⟨r, 1, none⟩ = some (.int .i64 n)) (by kernel_rfl) ?_
            change wpAnyH _ _ _ _ _ _ _ _ X.drew
            refine wpAnyH_take (i := 0) (v := (.pointer (some ⟨p, 0, none⟩))) rfl (by kernel_rfl) (by kernel_rfl) (by kernel_rfl) (fun _ _ _ h => h) (.inl ⟨rfl, fun _ hS => rfl⟩) s0 ?_
            simp only [List.getElem_toArray, List.getElem_cons_succ, List.getElem_cons_zero, Act.put, List.setIfInBounds_toArray, List.set_cons_succ, List.set_cons_zero]
            refine wpAnyH_take (i := 1) (v := (.pointer (some ⟨r, 1, none⟩))) rfl (by kernel_rfl) (by kernel_rfl) (by kernel_rfl) (fun _ _ _ h => h) (.inl ⟨rfl, fun _ hS => by simp [execOp, go_sem, Act.eval]⟩) s0 ?_
            simp only [List.getElem_toArray, List.getElem_cons_succ, List.getElem_cons_zero, Act.put, List.setIfInBounds_toArray, List.set_cons_succ, List.set_cons_zero]
            refine wpAnyH_take (i := 2) (v := (.int .i64 n)) rfl (by kernel_rfl) (by kernel_rfl) (by kernel_rfl) (fun _ _ _ h => h) (.inl ⟨rfl, fun _ hS => exec_load rfl rfl (load_int _ _ _ _ hS)⟩) s0 ?_
            simp only [List.getElem_toArray, List.getElem_cons_succ, List.getElem_cons_zero, Act.put, List.setIfInBounds_toArray, List.set_cons_succ, List.set_cons_zero]
            refine wpAnyH_take (i := 4) (v := (.pointer (some ⟨q, 0, none⟩))) rfl (by kernel_rfl) (by kernel_rfl) (by kernel_rfl) (fun _ _ _ h => h) (.inl ⟨rfl, fun _ hS => rfl⟩) s0 ?_
            simp only [List.getElem_toArray, List.getElem_cons_succ, List.getElem_cons_zero, Act.put, List.setIfInBounds_toArray, List.set_cons_succ, List.set_cons_zero]
            refine wpAnyH_take (i := 5) (v := (.pointer (some ⟨r, 1, none⟩))) rfl (by kernel_rfl) (by kernel_rfl) (by kernel_rfl) (fun _ _ _ h => h) (.inl ⟨rfl, fun _ hS => by simp [execOp, go_sem, Act.eval]⟩) s0 ?_
            simp only [List.getElem_toArray, List.getElem_cons_succ, List.getElem_cons_zero, Act.put, List.setIfInBounds_toArray, List.set_cons_succ, List.set_cons_zero]
            refine wpAnyH_take (i := 6) (v := (.int .i64 n)) rfl (by kernel_rfl) (by kernel_rfl) (by kernel_rfl) (fun _ _ _ h => h) (.inl ⟨rfl, fun _ hS => exec_load rfl rfl (load_int _ _ _ _ hS)⟩) s0 ?_
            simp only [List.getElem_toArray, List.getElem_cons_succ, List.getElem_cons_zero, Act.put, List.setIfInBounds_toArray, List.set_cons_succ, List.set_cons_zero]
            refine wpAnyH_all (rs := [3]) (by kernel_rfl) (by simp) ?_
            intro k hk
            simp only [List.mem_cons, List.mem_nil_iff, or_false] at hk
            subst hk
            refine wpOp_runw rfl rfl (wp_call_fn 14 #[.pointer (some ⟨p, 0, none⟩), .int .i64 n] (by simp [execOp, go_sem, Act.eval, resolve, invoke, enterNS]) ?_)
            refine hT2.mono ?_
            rintro e w3 ⟨rfl, N3, T3⟩
            have hD3 := HD.out w3 N3 T3
            have s3 := (HK.out w3 hD3.1).2.1
            refine ⟨s3, ?_⟩
            simp only [List.getElem_toArray, List.getElem_cons_succ, List.getElem_cons_zero, Act.put, List.setIfInBounds_toArray, List.set_cons_succ, List.set_cons_zero]
            refine wpAnyH_all (rs := [7]) (by kernel_rfl) (by simp) ?_
            intro k hk
            simp only [List.mem_cons, List.mem_nil_iff, or_false] at hk
            subst hk
            refine wpOp_runw rfl rfl (wp_call_fn 15 #[.pointer (some ⟨q, 0, none⟩), .int .i64 n] (by simp [execOp, go_sem, Act.eval, resolve, invoke, enterDS]) ?_)
            refine hD3.2.mono ?_
            rintro e w4 ⟨rfl, N4, D4, T4⟩
            have s4 := (HK.out w4 T4).2.1
            refine ⟨s4, ?_⟩
            simp only [List.getElem_toArray, List.getElem_cons_succ, List.getElem_cons_zero, Act.put, List.setIfInBounds_toArray, List.set_cons_succ, List.set_cons_zero]
            refine wpAnyH_take (i := 8) (v := (.bool true)) rfl (by kernel_rfl) (by kernel_rfl) (by kernel_rfl) (fun _ _ _ h => h) (.inl ⟨rfl, fun _ hS => by go_simp⟩) s4 ?_
            simp only [List.getElem_toArray, List.getElem_cons_succ, List.getElem_cons_zero, Act.put, List.setIfInBounds_toArray, List.set_cons_succ, List.set_cons_zero]
            refine wpAnyH_take (i := 9) (v := (.bool true)) rfl (by kernel_rfl) (by kernel_rfl) (by kernel_rfl) (fun _ _ _ h => h) (.inl ⟨rfl, fun _ hS => rfl⟩) s4 ?_
            simp only [List.getElem_toArray, List.getElem_cons_succ, List.getElem_cons_zero, Act.put, List.setIfInBounds_toArray, List.set_cons_succ, List.set_cons_zero]
            refine wpAnyH_done (by kernel_rfl) ?_ _
            have HN := hidOf2 (HF.out w4 N4 D4 T4)
            clear HD HF hT2 hD3 N3 T3 N4 D4 T4 s0 s3 s4 RX x0 x1 x2
            have hBo := boots_any HN.out.a
            go_upto_region 20 with (go_at_call 16; refine hBo.mono ?_; rintro e w8 ⟨rfl, n8, hw8⟩; have HW8 := hidOf2 hw8; clear hw8)
            have HN2 := hidOf2 (show RN p q (k + 1) w w8 S9 from by rw [HW8.out]; exact ⟨Bc.drawn HN.out.a n8, Bc.drawn HN.out.b n8, below_drawn HN.out.below n8, HN.out.few, HN.out.ok⟩)
            clear HW8
            have hSt : ∀ n, Calls Try.prog 17 #[.pointer (some ⟨p, 0, none⟩)] (w8.drewN n) fun e w' => e = .returned (.int .i64 (S9).st) ∧ w' = w8.drewN n := fun n => state_any (Bc.drawn HN2.out.a n)
            have hId : ∀ n, Calls Try.prog 18 #[.pointer (some ⟨p, 0, none⟩)] (w8.drewN n) fun e w' => e = .returned (.int .i64 (S9).id) ∧ w' = w8.drewN n := fun n => id_any (Bc.drawn HN2.out.a n)
            obtain ⟨z0, z1, z2, z3, z4, zf⟩ := Nb.cells HN2.out.b
            have q1 : ((S9).st != (S9).st) = false := by simp
            have q2 : ((S9).id != (S9).id) = false := by simp
            have q3 : ((S9).boots != (S9).boots) = false := by simp
            have q4 : ((S9).talks != (S9).talks) = false := by simp
            clear hBo HN
            go_wp2_with fail
            go_quiet (first | (go_at_call 17; exact Calls.quiet_of_same (hSt _)) | (go_at_call 18; exact Calls.quiet_of_same (hId _)))
            go_wp2_with fail
            go_roundw
            case rel => exact ⟨k + 1, S9, by omega, rfl, ⟨Bc.drawn HN2.out.a _, Bc.drawn HN2.out.b _, below_drawn HN2.out.below _, HN2.out.few, HN2.out.ok⟩⟩
            case measure => simp [intOf]; omega
          · have d2' : (kd == 2) = false := by simp [h2]
            have HN : Hid (RN p q (k + 1) w X s) := ⟨RX.a, RX.b, RX.below, RX.few.more, RX.ok⟩
            clear h0 h1 h2 RX
            go_upto_region 19 with fail
            have hBo := boots_any HN.out.a
            go_upto_region 20 with (go_at_call 16; refine hBo.mono ?_; rintro e w8 ⟨rfl, n8, hw8⟩; have HW8 := hidOf2 hw8; clear hw8)
            have HN2 := hidOf2 (show RN p q (k + 1) w w8 s from by rw [HW8.out]; exact ⟨Bc.drawn HN.out.a n8, Bc.drawn HN.out.b n8, below_drawn HN.out.below n8, HN.out.few, HN.out.ok⟩)
            clear HW8
            have hSt : ∀ n, Calls Try.prog 17 #[.pointer (some ⟨p, 0, none⟩)] (w8.drewN n) fun e w' => e = .returned (.int .i64 (s).st) ∧ w' = w8.drewN n := fun n => state_any (Bc.drawn HN2.out.a n)
            have hId : ∀ n, Calls Try.prog 18 #[.pointer (some ⟨p, 0, none⟩)] (w8.drewN n) fun e w' => e = .returned (.int .i64 (s).id) ∧ w' = w8.drewN n := fun n => id_any (Bc.drawn HN2.out.a n)
            obtain ⟨z0, z1, z2, z3, z4, zf⟩ := Nb.cells HN2.out.b
            have q1 : ((s).st != (s).st) = false := by simp
            have q2 : ((s).id != (s).id) = false := by simp
            have q3 : ((s).boots != (s).boots) = false := by simp
            have q4 : ((s).talks != (s).talks) = false := by simp
            clear hBo HN
            go_wp2_with fail
            go_quiet (first | (go_at_call 17; exact Calls.quiet_of_same (hSt _)) | (go_at_call 18; exact Calls.quiet_of_same (hId _)))
            go_wp2_with fail
            go_roundw
            case rel => exact ⟨k + 1, s, by omega, rfl, ⟨Bc.drawn HN2.out.a _, Bc.drawn HN2.out.b _, below_drawn HN2.out.below _, HN2.out.few, HN2.out.ok⟩⟩
            case measure => simp [intOf]; omega
    · have hd : decide ((k : Int) < (l.length : Int)) = false := by simp; omega
      have hL := lives17_any wr
      clear hR
      go_wp2_with (go_at_call 9; refine hL.mono ?_; rintro r w7 ⟨rfl, B7⟩)
      go_ret
      exact ⟨rfl, B5.trans (B7.mono hszp)⟩
theorem nnod_walk (id : Int) (v : Value) (l : List A17) (hl : l.length ≤ 140737488351232) (w : World) (hok : ∀ a ∈ l, a.ok w) (hB : Wide 3 A17.c w v l) :
    Calls Try.prog 3 #[.int .i64 id, v] w fun r w' => r = .returned (.bool true) ∧ Below w.heap.size w w' := by
  cases h : isN id
  · exact nnod_bad id v w h
  · exact nnod_ok id v l h hl w hok hB
end Go.Proofs.Ytjifoeponfeffaa
