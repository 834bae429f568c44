/- Contracts: a segment's frame. -/
import Derived.Test.YtebjofkblfmkmaaBkR
namespace Go.Proofs.Ytebjofkblfmkmaa
open Go.RowKit Go.Proofs.Ty Go.Proofs.Bits
set_option linter.unusedVariables false
set_option maxRecDepth 1000000
set_option linter.unusedSimpArgs false
theorem exec_mul7 {a : Act} {o : Oper} {x y : Operand} {m : Nat} (ho : o.op = .binOp .mul 3 x y 3) (hx : a.eval x = .int .i64 (m : Int)) (hy : a.eval y = .int .i64 7) (h : m < 100000) (w : World) : (execOp a.eval o).run Try.prog w = .ok (.value (.int .i64 ((7 * m : Nat) : Int))) w := by
  unfold execOp
  simp only [ho, hx, hy]
  have e : IntKind.i64.wrap ((m : Int) * 7) = ((7 * m : Nat) : Int) := by simp [IntKind.wrap, IntKind.bits, IntKind.signed]; omega
  simp [go_sem, run_underlying Try.underlying3, e]
theorem exec_slB {a : Act} {o : Oper} {x y : Operand} {v u lo : Value} (hr : ∀ W, (Instr.sliceAt 22 v (some lo) none none).run Try.prog W = .ok u W) (ho : o.op = .slice 22 x (some y) none none) (hx : a.eval x = v) (hy : a.eval y = lo) (w : World) : (execOp a.eval o).run Try.prog w = .ok (.value u) w := by
  have hr := hr w
  unfold execOp
  simp only [ho, hx, hy, Option.map_some, Option.map_none, Sem.run_bind, hr, Result.andThen_ok, Sem.run_pure]
theorem Qb.set0 {z : Nat} {f : F8} {w : World} (h : Qb z f w) (x : UInt8) : Qb z ⟨x, f.b1, f.b2, f.b3, f.b4, f.b5, f.b6, f.b7⟩ (w.setCell ⟨z, 0, none⟩ (.int .u8 (x.toNat : Int))) := by
  unfold Qb at *
  simp only [World.setCell, Array.getElem?_modify, h]
  simp [F8.arr, F8.c]
theorem or128 : ∀ n < 128, bits .or .u8 ((n : Nat) : Int) 128 = ((n + 128 : Nat) : Int) := by decide +kernel
theorem seg_put (b : UInt8) (bs : List UInt8) (k : Nat) : (⟨b, 0, 0, 0, 0, 0, 0, 0⟩ : F8).put 1 ((bs.drop (7 * k)).take 7) = ⟨b, sgB bs k 0, sgB bs k 1, sgB bs k 2, sgB bs k 3, sgB bs k 4, sgB bs k 5, sgB bs k 6⟩ := by
  have e : ∀ j, sgB bs k j = (bs.drop (7 * k)).getD j 0 := fun j => by
    unfold sgB
    rw [List.getD_eq_getElem?_getD, List.getD_eq_getElem?_getD, List.getElem?_drop]
  simp only [e]
  generalize bs.drop (7 * k) = l
  match l with
  | [] => rfl
  | [_] => rfl
  | [_, _] => rfl
  | [_, _, _] => rfl
  | [_, _, _, _] => rfl
  | [_, _, _, _, _] => rfl
  | [_, _, _, _, _, _] => rfl
  | _ :: _ :: _ :: _ :: _ :: _ :: _ :: _ => rfl
theorem segment_results {Q : Nat} {f : F8} {w : World} (h : Qb Q f w) (tmps : Array Value) (h2 : tmps[4]?.getD undef = .pointer (some ⟨Q, 0, none⟩)) :
    (results Try.f42 tmps).run Try.prog w = .ok (.agg f.arr) w := by
  have l0 := h.load
  simp [Go.results, Try.results42, h2, asAddr, l0]
section
variable {S : Nat} {s t : Sn} {ao ap : Option Addr} {cp cq : Nat} {w x : World}
set_option maxHeartbeats 4000000 in
theorem segment_any (h : Sd S s ao cp w) (i : Nat) (hi : s.cm + i < segs s.bs.length) (h7 : i < 127) : Calls Try.prog 42 #[.pointer (some ⟨S, 0, none⟩), .int .i64 (i : Int)] w fun e w' => e = .returned (.agg (segF s.bs s.cm i).arr) ∧ Below w.heap.size w w' := by
  have hbs := h.ok.bs
  have hsl := segs_le s.bs.length
  have hlo := segs_lo s.bs.length (s.cm + i) hi
  obtain ⟨q, hq⟩ : ∃ q, w.heap.size = q := ⟨_, rfl⟩
  obtain ⟨W, hW⟩ : ∃ W, w.alloc (.cells zA8 30) = W := ⟨_, rfl⟩
  have hWs : W.heap.size = q + 1 := by rw [← hW, size_alloc, hq]
  obtain ⟨f0, hf0⟩ : ∃ f : F8, f = ⟨.ofNat (i + 1), 0, 0, 0, 0, 0, 0, 0⟩ := ⟨_, rfl⟩
  have hA : f0.arr = #[.int .u8 ((i : Int) + 1), .int .u8 0, .int .u8 0, .int .u8 0, .int .u8 0, .int .u8 0, .int .u8 0, .int .u8 0] := by
    rw [hf0]
    simp only [F8.arr, F8.c, un (i + 1) (by omega)]
    simp
  obtain ⟨z, hz⟩ : ∃ z, W.heap.size = z := ⟨_, rfl⟩
  have hqz : q < z := by omega
  have B0 : Below w.heap.size w (W.alloc (.cells zA8 30)) := by
    rw [← hW]
    exact ((Below.refl _ _).alloc (Nat.le_refl _) _).alloc (by rw [size_alloc]; omega) _
  have Z0 : Qb z F8.nul (W.alloc (.cells zA8 30)) := by rw [← hz]; exact heap_alloc_new W _
  have Q0 : Qb q F8.nul (W.alloc (.cells zA8 30)) := by
    refine (Lib.alloc_old W _ q (by omega)).trans ?_
    rw [← hW, ← hq]
    exact heap_alloc_new w _
  obtain ⟨V, hV⟩ : ∃ V, (W.alloc (.cells zA8 30)).setRow z f0.arr = V := ⟨_, rfl⟩
  have B1 : Below w.heap.size w V := by rw [← hV]; exact below_row B0 (by omega) B0.size _
  have Z1 : Qb z f0 V := by rw [← hV]; exact Z0.row f0
  have Q1 : Qb q F8.nul V := by rw [← hV]; exact (setRow_other _ _ _ _ (by omega)).trans Q0
  have s1 := h.below B1
  have c2 := s1.c2
  have hSg := segments_any s1
  obtain ⟨at0, hat0⟩ : ∃ n, s.cm + i = n := ⟨_, rfl⟩
  have hatI : (s.cm : Int) + (i : Int) = (at0 : Int) := by omega
  have hat : at0 < 100000 := by omega
  rw [hat0] at hi hlo
  obtain ⟨aS, cs, hsl1, hsl2, _⟩ := bslice_l h.bt (fun ao n c e => by cases e; exact h.cap) (7 * at0) hlo
  have HSL := hidOf2 hsl1
  have HSB := hidOf2 (hsl2)
  have HC1 : Hid (∀ y, Below w.heap.size w y → y.cell? ⟨S, 1, none⟩ = some (.slice ao s.bs.length cp)) := fun y hy => (h.below hy).c1
  have HBT : Hid (∀ y, Below w.heap.size w y → Bytes y (.slice ao s.bs.length cp) s.bs) := fun y hy => (h.below hy).bt
  have HSEG : Hid (∀ b : UInt8, b = .ofNat (i + 1 + if s.cm + i + 1 = segs s.bs.length then 128 else 0) → (⟨b, 0, 0, 0, 0, 0, 0, 0⟩ : F8).put 1 ((s.bs.drop (7 * at0)).take 7) = segF s.bs s.cm i) := fun b hb => by
    rw [seg_put, hb, ← hat0]
    rfl
  have HV := hidOf2 hV
  clear hsl1 hsl2 h s1 B0 Q0 hWs hV
  obtain ⟨ff, hff⟩ : ∃ f, segF s.bs s.cm i = f := ⟨_, rfl⟩
  rw [hff] at HSEG ⊢
  have HAT := hidOf2 hat0
  clear hff hat0
  obtain ⟨G, hG⟩ : ∃ G, segs s.bs.length = G := ⟨_, rfl⟩
  have hG1 : G ≤ 100000 := by omega
  rw [hG] at hi HSEG hSg
  generalize s.bs = bs at *
  obtain ⟨n, hn⟩ : ∃ n, bs.length = n := ⟨_, rfl⟩
  have HN := hidOf2 hn
  rw [hn] at HSL HSB HC1 HBT hlo hbs
  obtain ⟨m, hm⟩ : ∃ m, n - 7 * at0 = m := ⟨_, rfl⟩
  rw [hm] at HSL HSB
  have HM : Hid ((bs.drop (7 * at0)).length = m) := by show _ = _; rw [List.length_drop, HN.out, hm]
  clear hG hn hm hsl
  have key : ∀ (V : World) (f1 : F8), Below w.heap.size w V → Qb z f1 V → Qb q F8.nul V → f1.put 1 ((bs.drop (7 * at0)).take 7) = ff → ∃ w', (∀ ty, (Builtin.copy_ #[22, 22] ty #[.slice (some ⟨z, 1, none⟩) 7 7, .slice aS m cs]).run Try.prog V = .ok (.int .i64 ((min m 7 : Nat) : Int)) w') ∧ Qb z ff w' ∧ Qb q F8.nul w' ∧ Below w.heap.size w w' := by
    intro V f1 hB hZ hQ hf
    obtain ⟨w', h1, h2, h3⟩ := copy8 V z 1 f1 hZ (by decide) aS m cs (bs.drop (7 * at0)) HM.out (HSB.out V (HBT.out V hB))
    refine ⟨w', h1, by rw [← hf]; exact h2, (h3.block q hQ.lt (by simp; omega)).trans hQ, h3.below hB hB.size (fun b hb => by simp at hb; omega)⟩
  have fin : ∀ (V : World), Qb z ff V → Qb q F8.nul V → Below w.heap.size w V → Qb q ff (V.setRow q ff.arr) ∧ Below w.heap.size w (V.setRow q ff.arr) := fun V h1 h2 h3 => ⟨h2.row ff, below_row h3 (by omega) h3.size _⟩
  have HKEY := hidOf2 key
  have HFIN := hidOf2 fin
  clear key fin
  by_cases hl : at0 + 1 = G
  · have hd : ((at0 : Int) == (G : Int) - 1) = true := by simp; omega
    have hor : bits .or .u8 ((i : Int) + 1) 128 = (i : Int) + 1 + 128 := by
      have e := or128 (i + 1) (by omega)
      rw [show ((i + 1 : Nat) : Int) = (i : Int) + 1 by omega] at e
      rw [e]; omega
    have HX := hidOf2 (HSEG.out (.ofNat (i + 1 + 128)) (by rw [if_pos (by rw [HAT.out]; exact hl)]))
    have Z2 := Z1.set0 (.ofNat (i + 1 + 128))
    rw [un (i + 1 + 128) (by omega)] at Z2
    have c0 := Z1.c0
    have fr0 : V.frozen? ⟨z, 0, none⟩ = false := Lib.frozen_of_heap Z1 0
    have QY : Qb q F8.nul (V.setCell ⟨z, 0, none⟩ (.int .u8 ((i + 1 + 128 : Nat) : Int))) := (Below.heap_setCell V ⟨z, 0, none⟩ _ q (by simp; omega)).trans Q1
    have BY : Below w.heap.size w (V.setCell ⟨z, 0, none⟩ (.int .u8 ((i + 1 + 128 : Nat) : Int))) := (Kp.cell1 V z 0 _).below B1 B1.size (fun b hb => by simp at hb; omega)
    have hb0 : f0.b0.toNat = i + 1 := by rw [hf0]; simp; omega
    rw [hb0] at c0
    have hpk : f0 = ⟨f0.b0, 0, 0, 0, 0, 0, 0, 0⟩ := by rw [hf0]
    have hfe := hidOf2 (show F8.put ⟨.ofNat (i + 1 + 128), f0.b1, f0.b2, f0.b3, f0.b4, f0.b5, f0.b6, f0.b7⟩ 1 ((bs.drop (7 * at0)).take 7) = ff by rw [hf0]; exact HX.out)
    have HPA := hidOf2 (And.intro Z2 (And.intro QY BY))
    have hfe := hfe.out
    clear Z2 QY BY Z1 Q1 B1 HX HSEG hpk hb0
    generalize (⟨.ofNat (i + 1 + 128), f0.b1, f0.b2, f0.b3, f0.b4, f0.b5, f0.b6, f0.b7⟩ : F8) = f1 at *
    rw [show ((i + 1 + 128 : Nat) : Int) = (i : Int) + 1 + 128 by omega] at *
    go_enter Try.func42, Try.ntmps42
    go_upto_region 1 with fail
    change Code.wp Try.prog _ _ _ (w.alloc (.cells zA8 30))
    rw [hW]
    go_upto_region 2 with (refine sdF (g := f0) Z0 rfl _ _ rfl rfl (by rw [hA]; first | rfl | (simp [Act.eval]; done)) ?_)
    change Code.wp Try.prog _ _ _ ((W.alloc (.cells zA8 30)).setRow z f0.arr)
    rw [HV.out]
    clear Z0 hA
    go_upto_region 5 with (first | (go_at_call 39; refine hSg.mono ?_; rintro e w1 ⟨rfl, hw1⟩; rw [hw1]; clear hw1 w1))
    generalize V.setCell ⟨z, 0, none⟩ (.int .u8 ((i : Int) + 1 + 128)) = Y at *
    obtain ⟨ZY, QY, BY⟩ := HPA.out
    have BV : Below w.heap.size w Y.drew := bdr BY 1
    obtain ⟨w3, hcp, y3, r3, b3⟩ := HKEY.out Y.drew f1 BV ZY QY hfe
    have BZ := b3
    have HCP : Hid (∀ ty, (Builtin.copy_ #[22, 22] ty #[.slice (some ⟨z, 1, none⟩) 7 7, .slice aS m cs]).run Try.prog Y.drew = .ok (.int .i64 ((min m 7 : Nat) : Int)) w3) := hcp
    refine wp_region_held (S := fun y => Below w.heap.size w y) (by kernel_rfl) ?_
    change wpAnyH _ _ _ _ _ _ _ _ Y.drew
    refine wpAnyH_take (i := 0) (v := (.slice (some ⟨z, 1, none⟩) 7 7)) rfl (by kernel_rfl) (by kernel_rfl) (by kernel_rfl) (fun _ _ _ h => h) (.inl ⟨rfl, fun _ hS => exec_slice8t (k := z) (lo := 1) rfl rfl rfl (by decide) _⟩) BV ?_
    simp only [List.getElem_toArray, List.getElem_cons_succ, List.getElem_cons_zero, Act.put, List.setIfInBounds_toArray, List.set_cons_succ, List.set_cons_zero]
    refine wpAnyH_take (i := 1) (v := (.pointer (some ⟨S, 0, none⟩))) rfl (by kernel_rfl) (by kernel_rfl) (by kernel_rfl) (fun _ _ _ h => h) (.inl ⟨rfl, fun _ hS => rfl⟩) BV ?_
    simp only [List.getElem_toArray, List.getElem_cons_succ, List.getElem_cons_zero, Act.put, List.setIfInBounds_toArray, List.set_cons_succ, List.set_cons_zero]
    refine wpAnyH_take (i := 2) (v := (.pointer (some ⟨S, 0, none⟩))) rfl (by kernel_rfl) (by kernel_rfl) (by kernel_rfl) (fun _ _ _ h => h) (.inl ⟨rfl, fun _ hS => by simp [execOp, go_sem, Act.eval]⟩) BV ?_
    simp only [List.getElem_toArray, List.getElem_cons_succ, List.getElem_cons_zero, Act.put, List.setIfInBounds_toArray, List.set_cons_succ, List.set_cons_zero]
    refine wpAnyH_take (i := 3) (v := (.pointer (some ⟨S, 1, none⟩))) rfl (by kernel_rfl) (by kernel_rfl) (by kernel_rfl) (fun _ _ _ h => h) (.inl ⟨rfl, fun _ hS => by simp [execOp, go_sem, Act.eval]⟩) BV ?_
    simp only [List.getElem_toArray, List.getElem_cons_succ, List.getElem_cons_zero, Act.put, List.setIfInBounds_toArray, List.set_cons_succ, List.set_cons_zero]
    refine wpAnyH_take (i := 4) (v := (.slice ao n cp)) rfl (by kernel_rfl) (by kernel_rfl) (by kernel_rfl) (fun _ _ _ h => h) (.inl ⟨rfl, fun _ hS => exec_load rfl rfl (load_bytes _ _ _ _ _ _ (HC1.out _ hS))⟩) BV ?_
    simp only [List.getElem_toArray, List.getElem_cons_succ, List.getElem_cons_zero, Act.put, List.setIfInBounds_toArray, List.set_cons_succ, List.set_cons_zero]
    refine wpAnyH_take (i := 5) (v := (.int .i64 (at0 : Int))) rfl (by kernel_rfl) (by kernel_rfl) (by kernel_rfl) (fun _ _ _ h => h) (.inl ⟨rfl, fun _ hS => rfl⟩) BV ?_
    simp only [List.getElem_toArray, List.getElem_cons_succ, List.getElem_cons_zero, Act.put, List.setIfInBounds_toArray, List.set_cons_succ, List.set_cons_zero]
    refine wpAnyH_take (i := 6) (v := (.int .i64 ((7 * at0 : Nat) : Int))) rfl (by kernel_rfl) (by kernel_rfl) (by kernel_rfl) (fun _ _ _ h => h) (.inl ⟨rfl, fun _ hS => exec_mul7 rfl rfl rfl hat _⟩) BV ?_
    simp only [List.getElem_toArray, List.getElem_cons_succ, List.getElem_cons_zero, Act.put, List.setIfInBounds_toArray, List.set_cons_succ, List.set_cons_zero]
    refine wpAnyH_take (i := 7) (v := (.slice aS m cs)) rfl (by kernel_rfl) (by kernel_rfl) (by kernel_rfl) (fun _ _ _ h => h) (.inl ⟨rfl, fun _ hS => exec_slB HSL.out rfl rfl rfl _⟩) BV ?_
    simp only [List.getElem_toArray, List.getElem_cons_succ, List.getElem_cons_zero, Act.put, List.setIfInBounds_toArray, List.set_cons_succ, List.set_cons_zero]
    refine wpAnyH_all (rs := [8]) (by kernel_rfl) (by simp) ?_
    intro k hk
    simp only [List.mem_cons, List.mem_nil_iff, or_false] at hk
    subst hk
    refine wpOp_run rfl rfl (wp_copy8 (HCP.out _) _ _ rfl rfl rfl ?_)
    refine ⟨BZ, ?_⟩
    simp only [List.getElem_toArray, List.getElem_cons_succ, List.getElem_cons_zero, Act.put, List.setIfInBounds_toArray, List.set_cons_succ, List.set_cons_zero]
    refine wpAnyH_done (by kernel_rfl) ?_ _
    obtain ⟨hr, hB⟩ := HFIN.out w3 y3 r3 b3
    have HR := hidOf2 hr
    have HB := hidOf2 hB
    have ly := y3.load
    go_wp2_with (first | (refine ldG ly rfl _ rfl rfl ?_) | (refine sdF (g := ff) r3 rfl _ _ rfl rfl rfl ?_))
    exact bodyPost_ret (segment_results HR.out _ rfl) rfl ⟨rfl, HB.out⟩
  · have hd : ((at0 : Int) == (G : Int) - 1) = false := by simp; omega
    have hfe : f0.put 1 ((bs.drop (7 * at0)).take 7) = ff := by rw [hf0]; exact HSEG.out _ (by rw [if_neg (by rw [HAT.out]; exact hl)])
    have HPA := hidOf2 (And.intro Z1 (And.intro Q1 B1))
    clear Z1 Q1 B1 HSEG
    obtain ⟨f1, hf1⟩ : ∃ f, f0 = f := ⟨_, rfl⟩
    rw [hf1] at hfe HPA
    go_enter Try.func42, Try.ntmps42
    go_upto_region 1 with fail
    change Code.wp Try.prog _ _ _ (w.alloc (.cells zA8 30))
    rw [hW]
    go_upto_region 2 with (refine sdF (g := f0) Z0 rfl _ _ rfl rfl (by rw [hA]; first | rfl | (simp [Act.eval]; done)) ?_)
    change Code.wp Try.prog _ _ _ ((W.alloc (.cells zA8 30)).setRow z f0.arr)
    rw [HV.out]
    clear Z0 hA
    go_upto_region 5 with (first | (go_at_call 39; refine hSg.mono ?_; rintro e w1 ⟨rfl, hw1⟩; rw [hw1]; clear hw1 w1))
    generalize V = Y at *
    obtain ⟨ZY, QY, BY⟩ := HPA.out
    have BV : Below w.heap.size w Y.drew := bdr BY 1
    obtain ⟨w3, hcp, y3, r3, b3⟩ := HKEY.out Y.drew f1 BV ZY QY hfe
    have BZ := b3
    have HCP : Hid (∀ ty, (Builtin.copy_ #[22, 22] ty #[.slice (some ⟨z, 1, none⟩) 7 7, .slice aS m cs]).run Try.prog Y.drew = .ok (.int .i64 ((min m 7 : Nat) : Int)) w3) := hcp
    refine wp_region_held (S := fun y => Below w.heap.size w y) (by kernel_rfl) ?_
    change wpAnyH _ _ _ _ _ _ _ _ Y.drew
    refine wpAnyH_take (i := 0) (v := (.slice (some ⟨z, 1, none⟩) 7 7)) rfl (by kernel_rfl) (by kernel_rfl) (by kernel_rfl) (fun _ _ _ h => h) (.inl ⟨rfl, fun _ hS => exec_slice8t (k := z) (lo := 1) rfl rfl rfl (by decide) _⟩) BV ?_
    simp only [List.getElem_toArray, List.getElem_cons_succ, List.getElem_cons_zero, Act.put, List.setIfInBounds_toArray, List.set_cons_succ, List.set_cons_zero]
    refine wpAnyH_take (i := 1) (v := (.pointer (some ⟨S, 0, none⟩))) rfl (by kernel_rfl) (by kernel_rfl) (by kernel_rfl) (fun _ _ _ h => h) (.inl ⟨rfl, fun _ hS => rfl⟩) BV ?_
    simp only [List.getElem_toArray, List.getElem_cons_succ, List.getElem_cons_zero, Act.put, List.setIfInBounds_toArray, List.set_cons_succ, List.set_cons_zero]
    refine wpAnyH_take (i := 2) (v := (.pointer (some ⟨S, 0, none⟩))) rfl (by kernel_rfl) (by kernel_rfl) (by kernel_rfl) (fun _ _ _ h => h) (.inl ⟨rfl, fun _ hS => by simp [execOp, go_sem, Act.eval]⟩) BV ?_
    simp only [List.getElem_toArray, List.getElem_cons_succ, List.getElem_cons_zero, Act.put, List.setIfInBounds_toArray, List.set_cons_succ, List.set_cons_zero]
    refine wpAnyH_take (i := 3) (v := (.pointer (some ⟨S, 1, none⟩))) rfl (by kernel_rfl) (by kernel_rfl) (by kernel_rfl) (fun _ _ _ h => h) (.inl ⟨rfl, fun _ hS => by simp [execOp, go_sem, Act.eval]⟩) BV ?_
    simp only [List.getElem_toArray, List.getElem_cons_succ, List.getElem_cons_zero, Act.put, List.setIfInBounds_toArray, List.set_cons_succ, List.set_cons_zero]
    refine wpAnyH_take (i := 4) (v := (.slice ao n cp)) rfl (by kernel_rfl) (by kernel_rfl) (by kernel_rfl) (fun _ _ _ h => h) (.inl ⟨rfl, fun _ hS => exec_load rfl rfl (load_bytes _ _ _ _ _ _ (HC1.out _ hS))⟩) BV ?_
    simp only [List.getElem_toArray, List.getElem_cons_succ, List.getElem_cons_zero, Act.put, List.setIfInBounds_toArray, List.set_cons_succ, List.set_cons_zero]
    refine wpAnyH_take (i := 5) (v := (.int .i64 (at0 : Int))) rfl (by kernel_rfl) (by kernel_rfl) (by kernel_rfl) (fun _ _ _ h => h) (.inl ⟨rfl, fun _ hS => rfl⟩) BV ?_
    simp only [List.getElem_toArray, List.getElem_cons_succ, List.getElem_cons_zero, Act.put, List.setIfInBounds_toArray, List.set_cons_succ, List.set_cons_zero]
    refine wpAnyH_take (i := 6) (v := (.int .i64 ((7 * at0 : Nat) : Int))) rfl (by kernel_rfl) (by kernel_rfl) (by kernel_rfl) (fun _ _ _ h => h) (.inl ⟨rfl, fun _ hS => exec_mul7 rfl rfl rfl hat _⟩) BV ?_
    simp only [List.getElem_toArray, List.getElem_cons_succ, List.getElem_cons_zero, Act.put, List.setIfInBounds_toArray, List.set_cons_succ, List.set_cons_zero]
    refine wpAnyH_take (i := 7) (v := (.slice aS m cs)) rfl (by kernel_rfl) (by kernel_rfl) (by kernel_rfl) (fun _ _ _ h => h) (.inl ⟨rfl, fun _ hS => exec_slB HSL.out rfl rfl rfl _⟩) BV ?_
    simp only [List.getElem_toArray, List.getElem_cons_succ, List.getElem_cons_zero, Act.put, List.setIfInBounds_toArray, List.set_cons_succ, List.set_cons_zero]
    refine wpAnyH_all (rs := [8]) (by kernel_rfl) (by simp) ?_
    intro k hk
    simp only [List.mem_cons, List.mem_nil_iff, or_false] at hk
    subst hk
    refine wpOp_run rfl rfl (wp_copy8 (HCP.out _) _ _ rfl rfl rfl ?_)
    refine ⟨BZ, ?_⟩
    simp only [List.getElem_toArray, List.getElem_cons_succ, List.getElem_cons_zero, Act.put, List.setIfInBounds_toArray, List.set_cons_succ, List.set_cons_zero]
    refine wpAnyH_done (by kernel_rfl) ?_ _
    obtain ⟨hr, hB⟩ := HFIN.out w3 y3 r3 b3
    have HR := hidOf2 hr
    have HB := hidOf2 hB
    have ly := y3.load
    go_wp2_with (first | (refine ldG ly rfl _ rfl rfl ?_) | (refine sdF (g := ff) r3 rfl _ _ rfl rfl rfl ?_))
    exact bodyPost_ret (segment_results HR.out _ rfl) rfl ⟨rfl, HB.out⟩
end
end Go.Proofs.Ytebjofkblfmkmaa
