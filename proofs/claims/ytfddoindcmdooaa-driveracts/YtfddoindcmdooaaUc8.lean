/- The law DriverOrder returns true whatever comes in. The document's Take. -/
import Derived.Test.YtfddoindcmdooaaUc7
namespace Go.Proofs.Ytfddoindcmdooaa
open Go.RowKit Go.Proofs.Bits
set_option linter.unusedVariables false
set_option maxRecDepth 1000000
set_option linter.unusedSimpArgs false

/-- A mail that is as Send lays it. -/
def MOk (m : Ml) : Prop := m.f.chk = 0 ∧ m.f.plain = m.f ∧ m.fld = m.f.field
theorem plain_plain (f : Fr) : f.plain.plain = f.plain := by
  have hb : f.plain.bytes = f.bytes := rfl
  have hl := f.bytes_le
  have : f.plain.plain.data = f.plain.data := by
    show (f.plain.data.take f.plain.bytes ++ List.replicate (8 - f.plain.bytes) 0) = f.plain.data
    rw [hb]
    show ((f.data.take f.bytes ++ List.replicate (8 - f.bytes) 0).take f.bytes ++ List.replicate (8 - f.bytes) 0) = f.data.take f.bytes ++ List.replicate (8 - f.bytes) 0
    rw [List.take_append_of_le_length (by rw [List.length_take, f.hdata]; omega), List.take_take, Nat.min_self]
  rw [← frB_iff]
  have e1 : f.plain.plain.id = f.plain.id := rfl
  have e2 : f.plain.plain.ext = f.plain.ext := rfl
  have e3 : f.plain.plain.rem = f.plain.rem := rfl
  have e4 : f.plain.plain.len = f.plain.len := rfl
  simp [frB, e1, e2, e3, e4, this]
theorem MOk.of (f : Fr) (hf : f.chk = 0) (z : Int) : MOk ⟨f.plain, f.field, z⟩ := ⟨hf, plain_plain f, rfl⟩
theorem wpOp_runw {ops : Array Oper} {Q : Exit → Act → World → Prop} {K : Act → World → Prop} {a : Act} {w : World} {i : Nat} {o : Oper} (hi : ops[i]? = some o) (hg : Region.wanted o (yielded ops a.tmps) = true) (h : o.wp Try.prog a w K Q) : wpOp Try.prog ops Q i K a w := by
  unfold Go.wpOp
  simp only [hi]
  rw [if_pos hg]
  exact .inl h
theorem exec_neq {a : Act} {o : Oper} {x y : Operand} {f g : Fr} (ho : o.op = .binOp .neq 45 x y 45) (hx : a.eval x = .agg f.arr) (hy : a.eval y = .agg g.arr) (w : World) (b : Bool) (hb : (!frB f g) = b) :
    (execOp a.eval o).run Try.prog w = .ok (.value (.bool b)) w := by
  subst hb
  have hl := frNeq f g w
  have hg : (eqGuard .neq 45 x y (.agg f.arr) (.agg g.arr)).run Try.prog w = .ok () w := run_eqGuard_agg w .neq 45 x y f.arr g.arr guardF
  unfold execOp
  simp only [ho, hx, hy, Sem.run_bind, Sem.run_pure, hg, Result.andThen_ok, hl]
theorem enterR2P : ∀ args x, (callFunc 16 args).run Try.prog x = .ok (.enter 16 args) x := fun _ _ => by rfl
theorem enterVD : ∀ args x, (callFunc 17 args).run Try.prog x = .ok (.enter 17 args) x := fun _ _ => by rfl
theorem Wide.below5 {w w' : World} {v : Value} {fs : List Fr} (h : Frames w v fs) (hb : Below w.heap.size w w') : Frames w' v fs := by
  obtain ⟨ao, cap, rfl, h0, hc⟩ := h
  exact ⟨ao, cap, rfl, h0, fun k hk => by
    obtain ⟨b, off, ha, hlt, hr⟩ := hc k hk
    exact ⟨b, off, ha, Nat.lt_of_lt_of_le hlt hb.size, fun j u hj => (hb.cell (p := ⟨b, off + k * 12 + j, none⟩) hlt).trans (hr j u hj)⟩⟩
set_option maxHeartbeats 4000000 in
theorem dord_walk (v : Value) (l : List Fr) (w : World) (hz : l.length * 24 ≤ 140737488351232) (hS : Frames w v l) :
    Calls Try.prog 4 #[v] w fun e w' => e = .returned (.bool true) ∧ Below w.heap.size w w' := by
  have HI : Hid (∀ x, Below w.heap.size w x → Frames x v l) := fun x hx => Wide.below5 hS hx
  obtain ⟨ao, cap, rfl, _⟩ := hS
  have hN := New_nil 64 1 (by decide) (by decide) (by decide) (by decide) w
  go_enter Try.func4, Try.ntmps4
  go_wp2_with fail
  refine hN.mono ?_
  rintro e w1 ⟨D, af, cf, rfl, hD, A1, B1⟩
  obtain ⟨B, hB⟩ : ∃ B, w.heap.size = B := ⟨_, rfl⟩
  rw [hB] at B1 hD HI
  have M1 : Mb w1 B (.slice none 0 0) [] := World.ownsRow_nil _ _ _ _
  have s1 : B ≤ w1.heap.size := by rw [← hB]; have := B1.size; exact this
  clear hN
  go_wp2
  go_loopw [5, 6] (fun nv iv x => ∃ (k : Nat) (ms : List Ml) (vm : Value), k ≤ l.length ∧ iv = .int .i64 k ∧ nv = .int .i64 ms.length ∧ ms.length ≤ 64 ∧ Hp (gM ms) ms.length ∧ (∀ m ∈ ms, MOk m) ∧ Dr D (dA 64 vm ms.length 1 (.slice none 0 0) 0 (.slice af 0 cf)) x ∧ Mb x B vm ms ∧ Kd D B w1 x) (fun _ iv _ => l.length - (intOf iv).toNat)
  case atStart => exact ⟨0, [], _, Nat.zero_le _, rfl, rfl, by simp, (fun j _ h => by simp at h), by simp, A1, M1, Kd.refl _ _ _⟩
  case round =>
    obtain ⟨k, ms, vm, hk, rfl, rfl, hl, hH, hO, A2, M2, K2⟩ := hrel
    have B2 : Below B w wr := B1.trans (K2.below5 hD s1)
    have s2 := B2.size
    by_cases hkl : k < l.length
    · obtain ⟨ao', cap', hv', _, hc⟩ := HI.out wr B2
      obtain ⟨b, off, hao, hb, hR⟩ := hc k hkl
      have hao2 : ao = some ⟨b, off, none⟩ := by injection hv' with e1; rw [e1]; exact hao
      subst hao2
      have HO : Hid (∀ z, l[k].chk = 0 → MOk ⟨l[k].plain, l[k].field, z⟩) := fun z h => MOk.of _ h z
      have HH : Hid (Hp (gM ms) ms.length) := hH
      have HB : Hid (∀ m ∈ ms, MOk m) := hO
      clear hc hao hv' HI hH hO
      generalize l[k] = f at *
      by_cases hf : f.chk = 0
      · by_cases h64 : ms.length = 64
        · obtain ⟨am, cm, rfl⟩ := own_shape5 M2
          have hSd := Send_full f A2 hf (by omega)
          clear h64
          unfold Fr.val at hSd
          go_wp2_with (refine fld_ld5 hR rfl _ rfl rfl ?_)
          refine hSd.mono ?_
          rintro e w3 ⟨rfl, b3⟩
          have HX : Hid (Dr D (dA 64 (.slice am ms.length cm) ms.length 1 (.slice none 0 0) 0 (.slice af 0 cf)) w3 ∧ Mb w3 B (.slice am ms.length cm) ms ∧ Kd D B w1 w3) := ⟨(b3.block D (Array.getElem?_eq_some_iff.1 A2).1).trans A2, own_below5 M2 b3, K2.trans (Kd.below b3)⟩
          clear hSd A2 M2 K2 b3
          go_wp2
          go_roundw
          case rel => exact ⟨k + 1, ms, _, by omega, by go_num, rfl, hl, HH.out, HB.out, HX.out⟩
          case measure => simp [intOf]; omega
        · have hSd := Send_ok f A2 M2 (by omega) hf (by omega) (by decide) (by omega) (by omega)
          have HL : Hid ((upF (ms ++ [⟨f.plain, f.field, (ms.length : Int) + 1⟩]) ms.length).length = ms.length + 1) := by show _ = _; rw [(upF_perm _ _).length_eq]; simp
          have HH2 : Hid (Hp (gM (upF (ms ++ [⟨f.plain, f.field, (ms.length : Int) + 1⟩]) ms.length)) (ms.length + 1)) := push_heap _ _ HH.out
          have HB2 : Hid (∀ m ∈ upF (ms ++ [⟨f.plain, f.field, (ms.length : Int) + 1⟩]) ms.length, MOk m) := fun m hm => by
            have := (upF_perm _ _).mem_iff.1 hm
            rcases List.mem_append.1 this with h | h
            · exact HB.out m h
            · simp at h; subst h; exact HO.out _ hf
          unfold Fr.val at hSd
          generalize upF (ms ++ [⟨f.plain, f.field, (ms.length : Int) + 1⟩]) ms.length = ns at *
          go_wp2_with (refine fld_ld5 hR rfl _ rfl rfl ?_)
          refine hSd.mono ?_
          rintro e w3 ⟨rfl, v3, A3, M3, K3⟩
          have HX : Hid (Dr D (dA 64 v3 ns.length 1 (.slice none 0 0) 0 (.slice af 0 cf)) w3 ∧ Mb w3 B v3 ns ∧ Kd D B w1 w3) := ⟨by rw [HL.out]; exact A3, M3, K2.trans K3⟩
          have HY : Hid (ns.length ≤ 64 ∧ Hp (gM ns) ns.length ∧ (∀ m ∈ ns, MOk m)) := ⟨by rw [HL.out]; omega, by rw [HL.out]; exact HH2.out, HB2.out⟩
          clear hSd A2 M2 K2 A3 M3 K3
          go_wp2
          go_roundw
          case rel => exact ⟨k + 1, ns, _, by omega, by go_num, by rw [HL.out]; go_num, HY.out.1, HY.out.2.1, HY.out.2.2, HX.out⟩
          case measure => simp [intOf]; omega
      · have hSd := Send_bad (w := wr) (D := D) f hf
        unfold Fr.val at hSd
        have hne : (f.chk == 0) = false := by simpa using hf
        generalize f.chk = z at *
        go_wp2_with (refine fld_ld5 hR rfl _ rfl rfl ?_)
        refine hSd.mono ?_
        rintro e w3 ⟨rfl, b3⟩
        have HX : Hid (Dr D (dA 64 vm ms.length 1 (.slice none 0 0) 0 (.slice af 0 cf)) w3 ∧ Mb w3 B vm ms ∧ Kd D B w1 w3) := ⟨(b3.block D (Array.getElem?_eq_some_iff.1 A2).1).trans A2, own_below5 M2 b3, K2.trans (Kd.below b3)⟩
        clear hSd A2 M2 K2 b3
        go_wp2
        go_roundw
        case rel => exact ⟨k + 1, ms, _, by omega, by go_num, rfl, hl, HH.out, HB.out, HX.out⟩
        case measure => simp [intOf]; omega
    · have hkl2 : decide (k < l.length) = false := by simp; omega
      clear HI hkl
      obtain ⟨N, hN⟩ : ∃ N, ms.length = N := ⟨_, rfl⟩
      have HO : Hid (Hp (gM ms) ms.length ∧ (∀ m ∈ ms, MOk m)) := ⟨hH, hO⟩
      have HA : Hid (Dr D (dA 64 vm N 1 (.slice none 0 0) 0 (.slice af 0 cf)) wr ∧ Mb wr B vm ms ∧ Kd D B w1 wr) := ⟨by rw [← hN]; exact A2, M2, K2⟩
      have HN : Hid (ms.length = N) := hN
      have hN64 : N ≤ 64 := by omega
      rw [hN]
      clear hH hO A2 M2 K2 B2 s2 hN hl
      go_wp2
      go_loopw [9, 10] (fun lv iv x => ∃ (j : Nat) (ls : List Ml) (lst : List UInt8) (vl : Value), j + ls.length = N ∧ iv = .int .i64 j ∧ lv = .string ⟨lst.toArray⟩ ∧ (∀ m ∈ ls, lst ≤ m.fld) ∧ Hp (gM ls) ls.length ∧ (∀ m ∈ ls, MOk m) ∧ Dr D (dA 64 vl N 1 (.slice none 0 0) 0 (.slice af 0 cf)) x ∧ Mb x B vl ls ∧ Kd D B w1 x) (fun _ iv _ => N - (intOf iv).toNat)
      case atStart => exact ⟨0, ms, [], _, by rw [HN.out]; omega, rfl, rfl, (fun m _ => by simp), HO.out.1, HO.out.2, HA.out⟩
      case round =>
        obtain ⟨j, ls, lst, vl, hj, rfl, rfl, hT, hH, hO, A3, M3, K3⟩ := hrel
        have B3 : Below B w wr := B1.trans (K3.below5 hD s1)
        by_cases h0 : 0 < ls.length
        · have hNx := Next_some A3 M3 h0
          have hjN : j < N := by omega
          have hm := hO ls[0] (List.getElem_mem _)
          have HP : Hid (∀ m ∈ popF ls h0, m ∈ ls) := fun m hm => (popF_perm ls h0).mem_iff.1 (List.mem_append_left _ hm)
          have HL : Hid ((popF ls h0).length + 1 = ls.length) := by show _ = _; rw [popF_len]; omega
          have HH2 : Hid (Hp (gM (popF ls h0)) (popF ls h0).length) := pop_heap ls h0 hH
          have HLe : Hid (∀ m ∈ popF ls h0, ls[0].fld ≤ m.fld) := fun m hm => leM_fld (pop_least ls h0 hH m (HP.out m hm))
          have HOk : Hid (∀ m ∈ popF ls h0, MOk m) := fun m hm => hO m (HP.out m hm)
          have HDn : Hid (∀ x, Dr D (dA 64 vl N 1 (.slice none 0 0) 0 (.slice af 0 cf)) x → Mb x B vl ls → Calls Try.prog 17 #[.pointer (some ⟨D, 0, none⟩)] x fun e w' => e = .returned (.bool true) ∧ ∃ v', Dr D (dA 64 v' N 1 (.slice none 0 0) 0 (.slice af 0 cf)) w' ∧ Mb w' B v' (popF ls h0) ∧ Kd D B x w') := fun x a b => Done_some a b h0 (by omega)
          have hls : lst ≤ ls[0].fld := hT _ (List.getElem_mem _)
          have HJ : Hid (j + 1 + (popF ls h0).length = N) := by have := HL.out; show _ = _; omega
          obtain ⟨hm1, hm2, hm3⟩ := hm
          have hbl : Op.bytesLess ls[0].fld lst = false := by rw [Go.Proofs.bytesLess_eq]; simpa using hls
          generalize popF ls h0 = ps at *
          rw [hm3] at hbl HLe
          unfold Fr.val at hNx
          generalize ls[0].f = f at *
          have hfl : fldV f = f.field := by unfold fldV; rw [if_pos hm1]
          clear hT hH hO hls hm3
          go_wp2_with fail
          refine hNx.mono ?_
          rintro e w4 ⟨rfl, b4⟩
          have gn := Fa.new w4 Fr.nul
          have g4 := gn.row f
          have bb : Below w4.heap.size w4 ((w4.alloc (.cells Fr.nul.arr 45)).setRow w4.heap.size f.arr) := below_row ((Below.refl _ w4).alloc (Nat.le_refl _) _) (Nat.le_refl _) (by rw [size_alloc]; omega) _
          have b5 : Below wr.heap.size wr ((w4.alloc (.cells Fr.nul.arr 45)).setRow w4.heap.size f.arr) := b4.trans (bb.mono b4.size)
          have A5 : Dr D (dA 64 vl N 1 (.slice none 0 0) 0 (.slice af 0 cf)) ((w4.alloc (.cells Fr.nul.arr 45)).setRow w4.heap.size f.arr) := (b5.block D (Array.getElem?_eq_some_iff.1 A3).1).trans A3
          have M5 : Mb ((w4.alloc (.cells Fr.nul.arr 45)).setRow w4.heap.size f.arr) B vl ls := own_below5 M3 b5
          have K5 : Kd D B w1 ((w4.alloc (.cells Fr.nul.arr 45)).setRow w4.heap.size f.arr) := K3.trans (Kd.below b5)
          generalize hW5 : (w4.alloc (.cells Fr.nul.arr 45)).setRow w4.heap.size f.arr = w5 at *
          have hFi := fField_any f w5
          rw [hm1, hfl] at hFi
          unfold Fr.val at hFi
          generalize hq : w4.heap.size = q at *
          go_upto_region 16 with (refine gn.sd f rfl _ _ rfl rfl rfl ?_)
          clear gn hNx b4 bb b5 A3 M3 K3 hW5
          go_wp2_with (refine g4.ld rfl _ rfl rfl ?_)
          refine hFi.mono ?_
          rintro e w6 ⟨rfl, b6⟩
          have A6 : Dr D (dA 64 vl N 1 (.slice none 0 0) 0 (.slice af 0 cf)) w6 := (b6.block D (Array.getElem?_eq_some_iff.1 A5).1).trans A5
          have M6 := own_below5 M5 b6
          have K6 : Kd D B w1 w6 := K5.trans (Kd.below b6)
          have f6 := g4.below5 b6
          clear A5 M5 K5 g4 b6 hFi
          go_upto_region 17 with fail
          refine wp_region_any (by kernel_rfl) ?_
          obtain ⟨w7, hw7⟩ : ∃ x : World, { w6 with drawn := w6.drawn + 1 } = x := ⟨_, rfl⟩
          rw [hw7]
          have b7 : Below w6.heap.size w6 w7 := by rw [← hw7]; exact below_drawn (Below.refl _ _) 1
          have A7 : Dr D (dA 64 vl N 1 (.slice none 0 0) 0 (.slice af 0 cf)) w7 := (b7.block D (Array.getElem?_eq_some_iff.1 A6).1).trans A6
          have M7 := own_below5 M6 b7
          have K7 : Kd D B w1 w7 := K6.trans (Kd.below b7)
          have f7 := f6.below5 b7
          have HPl : Hid (Calls Try.prog 16 #[.agg f.arr] w7 fun e w' => e = .returned (.agg f.arr) ∧ Below w7.heap.size w7 w') := by
            have := r2Plain_any f w7
            rw [hm2] at this
            exact this
          have HD2 : Hid (∀ x, Below w7.heap.size w7 x → Calls Try.prog 17 #[.pointer (some ⟨D, 0, none⟩)] x fun e w' => e = .returned (.bool true) ∧ ∃ v', Dr D (dA 64 v' N 1 (.slice none 0 0) 0 (.slice af 0 cf)) w' ∧ Mb w' B v' ps ∧ Kd D B w1 w') := fun x hx => by
            refine (HDn.out x ((hx.block D (Array.getElem?_eq_some_iff.1 A7).1).trans A7) (own_below5 M7 hx)).mono ?_
            rintro e w' ⟨rfl, v', h1, h2, h3⟩
            exact ⟨rfl, v', h1, h2, (K7.trans (Kd.below hx)).trans h3⟩
          clear A6 M6 K6 f6 A7 M7 K7 hw7 b7 HDn
          refine wpAny_take (i := 0) (v := (.bool true)) rfl (by kernel_rfl) (by kernel_rfl) (by kernel_rfl) (fun _ _ _ h => h) (.inl ⟨rfl, fun _ => rfl⟩) ?_
          simp only [List.getElem_toArray, List.getElem_cons_succ, List.getElem_cons_zero, Act.put, List.setIfInBounds_toArray, List.set_cons_succ, List.set_cons_zero]
          refine wpAny_take (i := 1) (v := (.bool false)) rfl (by kernel_rfl) (by kernel_rfl) (by kernel_rfl) (fun _ _ _ h => h) (.inl ⟨rfl, fun _ => by simp [execOp, go_sem, Act.eval]⟩) ?_
          simp only [List.getElem_toArray, List.getElem_cons_succ, List.getElem_cons_zero, Act.put, List.setIfInBounds_toArray, List.set_cons_succ, List.set_cons_zero]
          refine wpAny_take (i := 2) (v := (.bool false)) rfl (by kernel_rfl) (by kernel_rfl) (by kernel_rfl) (fun _ _ _ h => h) (.inl ⟨rfl, fun _ => by simp [execOp, go_sem, Act.eval]⟩) ?_
          simp only [List.getElem_toArray, List.getElem_cons_succ, List.getElem_cons_zero, Act.put, List.setIfInBounds_toArray, List.set_cons_succ, List.set_cons_zero]
          refine wpAny_take (i := 3) (v := (.int .i64 0)) rfl (by kernel_rfl) (by kernel_rfl) (by kernel_rfl) (fun _ _ _ h => h) (.inl ⟨rfl, fun _ => rfl⟩) ?_
          simp only [List.getElem_toArray, List.getElem_cons_succ, List.getElem_cons_zero, Act.put, List.setIfInBounds_toArray, List.set_cons_succ, List.set_cons_zero]
          refine wpAny_take (i := 4) (v := (.bool false)) rfl (by kernel_rfl) (by kernel_rfl) (by kernel_rfl) (fun _ _ _ h => h) (.inl ⟨rfl, fun _ => by simp [execOp, go_sem, Act.eval]⟩) ?_
          simp only [List.getElem_toArray, List.getElem_cons_succ, List.getElem_cons_zero, Act.put, List.setIfInBounds_toArray, List.set_cons_succ, List.set_cons_zero]
          refine wpAny_take (i := 5) (v := (.bool false)) rfl (by kernel_rfl) (by kernel_rfl) (by kernel_rfl) (fun _ _ _ h => h) (.inl ⟨rfl, fun _ => by simp [execOp, go_sem, Act.eval]⟩) ?_
          simp only [List.getElem_toArray, List.getElem_cons_succ, List.getElem_cons_zero, Act.put, List.setIfInBounds_toArray, List.set_cons_succ, List.set_cons_zero]
          refine wpAny_take (i := 6) (v := (.bool false)) rfl (by kernel_rfl) (by kernel_rfl) (by kernel_rfl) (fun _ _ _ h => h) (.inl ⟨rfl, fun _ => by simp [execOp, go_sem, Act.eval]⟩) ?_
          simp only [List.getElem_toArray, List.getElem_cons_succ, List.getElem_cons_zero, Act.put, List.setIfInBounds_toArray, List.set_cons_succ, List.set_cons_zero]
          refine wpAny_take (i := 7) (v := (.string ⟨f.field.toArray⟩)) rfl (by kernel_rfl) (by kernel_rfl) (by kernel_rfl) (fun _ _ _ h => h) (.inl ⟨rfl, fun _ => rfl⟩) ?_
          simp only [List.getElem_toArray, List.getElem_cons_succ, List.getElem_cons_zero, Act.put, List.setIfInBounds_toArray, List.set_cons_succ, List.set_cons_zero]
          refine wpAny_take (i := 8) (v := (.string ⟨lst.toArray⟩)) rfl (by kernel_rfl) (by kernel_rfl) (by kernel_rfl) (fun _ _ _ h => h) (.inl ⟨rfl, fun _ => rfl⟩) ?_
          simp only [List.getElem_toArray, List.getElem_cons_succ, List.getElem_cons_zero, Act.put, List.setIfInBounds_toArray, List.set_cons_succ, List.set_cons_zero]
          refine wpAny_take (i := 9) (v := (.bool false)) rfl (by kernel_rfl) (by kernel_rfl) (by kernel_rfl) (fun _ _ _ h => h) (.inl ⟨rfl, fun _ => by simp [execOp, go_sem, Act.eval, hbl]⟩) ?_
          simp only [List.getElem_toArray, List.getElem_cons_succ, List.getElem_cons_zero, Act.put, List.setIfInBounds_toArray, List.set_cons_succ, List.set_cons_zero]
          refine wpAny_take (i := 10) (v := (.bool false)) rfl (by kernel_rfl) (by kernel_rfl) (by kernel_rfl) (fun _ _ _ h => h) (.inl ⟨rfl, fun _ => by simp [execOp, go_sem, Act.eval]⟩) ?_
          simp only [List.getElem_toArray, List.getElem_cons_succ, List.getElem_cons_zero, Act.put, List.setIfInBounds_toArray, List.set_cons_succ, List.set_cons_zero]
          refine wpAny_take (i := 11) (v := (.bool false)) rfl (by kernel_rfl) (by kernel_rfl) (by kernel_rfl) (fun _ _ _ h => h) (.inl ⟨rfl, fun _ => by simp [execOp, go_sem, Act.eval]⟩) ?_
          simp only [List.getElem_toArray, List.getElem_cons_succ, List.getElem_cons_zero, Act.put, List.setIfInBounds_toArray, List.set_cons_succ, List.set_cons_zero]
          refine wpAny_all (rs := [12, 13]) (by kernel_rfl) (by simp) ?_
          intro k hk
          simp only [List.mem_cons, List.mem_nil_iff, or_false] at hk
          rcases hk with rfl | rfl
          · refine wpOp_runw rfl rfl (wp_load_mid 45 _ rfl q 0 rfl f.cells _ f7.range5 Try.underlying45 rfl (by rw [infoF]; simp [Fr.cells, f.hdata]) ?_)
            simp only [List.getElem_toArray, List.getElem_cons_succ, List.getElem_cons_zero, Act.put, List.setIfInBounds_toArray, List.set_cons_succ, List.set_cons_zero]
            refine wpAny_all (rs := [13]) (by kernel_rfl) (by simp) ?_
            intro k hk
            simp only [List.mem_cons, List.mem_nil_iff, or_false] at hk
            subst hk
            refine wpOp_runw rfl rfl (wp_load_mid 45 _ rfl q 0 rfl f.cells _ f7.range5 Try.underlying45 rfl (by rw [infoF]; simp [Fr.cells, f.hdata]) ?_)
            simp only [List.getElem_toArray, List.getElem_cons_succ, List.getElem_cons_zero, Act.put, List.setIfInBounds_toArray, List.set_cons_succ, List.set_cons_zero]
            refine wpAny_all (rs := [14]) (by kernel_rfl) (by simp) ?_
            intro k hk
            simp only [List.mem_cons, List.mem_nil_iff, or_false] at hk
            subst hk
            refine wpOp_runw rfl rfl (wp_call_fn 16 #[.agg f.arr] (by simp [execOp, go_sem, Act.eval, resolve, invoke, enterR2P]; rfl) (HPl.out.mono ?_))
            rintro e w8 ⟨rfl, b8⟩
            simp only [List.getElem_toArray, List.getElem_cons_succ, List.getElem_cons_zero, Act.put, List.setIfInBounds_toArray, List.set_cons_succ, List.set_cons_zero]
            refine wpAny_take (i := 15) (v := (.bool false)) rfl (by kernel_rfl) (by kernel_rfl) (by kernel_rfl) (fun _ _ _ h => h) (.inl ⟨rfl, fun _ => exec_neq rfl rfl rfl _ _ (by rw [frB_same]; rfl)⟩) ?_
            simp only [List.getElem_toArray, List.getElem_cons_succ, List.getElem_cons_zero, Act.put, List.setIfInBounds_toArray, List.set_cons_succ, List.set_cons_zero]
            refine wpAny_take (i := 16) (v := (.bool false)) rfl (by kernel_rfl) (by kernel_rfl) (by kernel_rfl) (fun _ _ _ h => h) (.inl ⟨rfl, fun _ => by simp [execOp, go_sem, Act.eval]⟩) ?_
            simp only [List.getElem_toArray, List.getElem_cons_succ, List.getElem_cons_zero, Act.put, List.setIfInBounds_toArray, List.set_cons_succ, List.set_cons_zero]
            refine wpAny_take (i := 17) (v := (.bool false)) rfl (by kernel_rfl) (by kernel_rfl) (by kernel_rfl) (fun _ _ _ h => h) (.inl ⟨rfl, fun _ => by simp [execOp, go_sem, Act.eval]⟩) ?_
            simp only [List.getElem_toArray, List.getElem_cons_succ, List.getElem_cons_zero, Act.put, List.setIfInBounds_toArray, List.set_cons_succ, List.set_cons_zero]
            refine wpAny_take (i := 18) (v := (.pointer (some ⟨D, 0, none⟩))) rfl (by kernel_rfl) (by kernel_rfl) (by kernel_rfl) (fun _ _ _ h => h) (.inl ⟨rfl, fun _ => rfl⟩) ?_
            simp only [List.getElem_toArray, List.getElem_cons_succ, List.getElem_cons_zero, Act.put, List.setIfInBounds_toArray, List.set_cons_succ, List.set_cons_zero]
            refine wpAny_all (rs := [19]) (by kernel_rfl) (by simp) ?_
            intro k hk
            simp only [List.mem_cons, List.mem_nil_iff, or_false] at hk
            subst hk
            refine wpOp_runw rfl rfl (wp_call_fn 17 #[.pointer (some ⟨D, 0, none⟩)] (by simp [execOp, go_sem, Act.eval, resolve, invoke, enterVD]) ((HD2.out w8 b8).mono ?_))
            rintro e w9 ⟨rfl, v9, A9, M9, K9⟩
            simp only [List.getElem_toArray, List.getElem_cons_succ, List.getElem_cons_zero, Act.put, List.setIfInBounds_toArray, List.set_cons_succ, List.set_cons_zero]
            refine wpAny_take (i := 20) (v := (.bool false)) rfl (by kernel_rfl) (by kernel_rfl) (by kernel_rfl) (fun _ _ _ h => h) (.inl ⟨rfl, fun _ => by simp [execOp, go_sem, Act.eval]⟩) ?_
            simp only [List.getElem_toArray, List.getElem_cons_succ, List.getElem_cons_zero, Act.put, List.setIfInBounds_toArray, List.set_cons_succ, List.set_cons_zero]
            refine wpAny_take (i := 21) (v := (.bool false)) rfl (by kernel_rfl) (by kernel_rfl) (by kernel_rfl) (fun _ _ _ h => h) (.inl ⟨rfl, fun _ => by simp [execOp, go_sem, Act.eval]⟩) ?_
            simp only [List.getElem_toArray, List.getElem_cons_succ, List.getElem_cons_zero, Act.put, List.setIfInBounds_toArray, List.set_cons_succ, List.set_cons_zero]
            refine wpAny_done (by kernel_rfl) ?_ _
            have HX : Hid (Dr D (dA 64 v9 N 1 (.slice none 0 0) 0 (.slice af 0 cf)) w9 ∧ Mb w9 B v9 ps ∧ Kd D B w1 w9) := ⟨A9, M9, K9⟩
            clear A9 M9 K9 HPl HD2 f7 b8
            go_wp2
            go_roundw
            case rel => exact ⟨j + 1, ps, f.field, _, HJ.out, by go_num, rfl, HLe.out, HH2.out, HOk.out, HX.out⟩
            case measure => simp [intOf]; omega
          · refine wpOp_runw rfl rfl (wp_load_mid 45 _ rfl q 0 rfl f.cells _ f7.range5 Try.underlying45 rfl (by rw [infoF]; simp [Fr.cells, f.hdata]) ?_)
            simp only [List.getElem_toArray, List.getElem_cons_succ, List.getElem_cons_zero, Act.put, List.setIfInBounds_toArray, List.set_cons_succ, List.set_cons_zero]
            refine wpAny_all (rs := [12, 14]) (by kernel_rfl) (by simp) ?_
            intro k hk
            simp only [List.mem_cons, List.mem_nil_iff, or_false] at hk
            rcases hk with rfl | rfl
            · refine wpOp_runw rfl rfl (wp_load_mid 45 _ rfl q 0 rfl f.cells _ f7.range5 Try.underlying45 rfl (by rw [infoF]; simp [Fr.cells, f.hdata]) ?_)
              simp only [List.getElem_toArray, List.getElem_cons_succ, List.getElem_cons_zero, Act.put, List.setIfInBounds_toArray, List.set_cons_succ, List.set_cons_zero]
              refine wpAny_all (rs := [14]) (by kernel_rfl) (by simp) ?_
              intro k hk
              simp only [List.mem_cons, List.mem_nil_iff, or_false] at hk
              subst hk
              refine wpOp_runw rfl rfl (wp_call_fn 16 #[.agg f.arr] (by simp [execOp, go_sem, Act.eval, resolve, invoke, enterR2P]; rfl) (HPl.out.mono ?_))
              rintro e w8 ⟨rfl, b8⟩
              simp only [List.getElem_toArray, List.getElem_cons_succ, List.getElem_cons_zero, Act.put, List.setIfInBounds_toArray, List.set_cons_succ, List.set_cons_zero]
              refine wpAny_take (i := 15) (v := (.bool false)) rfl (by kernel_rfl) (by kernel_rfl) (by kernel_rfl) (fun _ _ _ h => h) (.inl ⟨rfl, fun _ => exec_neq rfl rfl rfl _ _ (by rw [frB_same]; rfl)⟩) ?_
              simp only [List.getElem_toArray, List.getElem_cons_succ, List.getElem_cons_zero, Act.put, List.setIfInBounds_toArray, List.set_cons_succ, List.set_cons_zero]
              refine wpAny_take (i := 16) (v := (.bool false)) rfl (by kernel_rfl) (by kernel_rfl) (by kernel_rfl) (fun _ _ _ h => h) (.inl ⟨rfl, fun _ => by simp [execOp, go_sem, Act.eval]⟩) ?_
              simp only [List.getElem_toArray, List.getElem_cons_succ, List.getElem_cons_zero, Act.put, List.setIfInBounds_toArray, List.set_cons_succ, List.set_cons_zero]
              refine wpAny_take (i := 17) (v := (.bool false)) rfl (by kernel_rfl) (by kernel_rfl) (by kernel_rfl) (fun _ _ _ h => h) (.inl ⟨rfl, fun _ => by simp [execOp, go_sem, Act.eval]⟩) ?_
              simp only [List.getElem_toArray, List.getElem_cons_succ, List.getElem_cons_zero, Act.put, List.setIfInBounds_toArray, List.set_cons_succ, List.set_cons_zero]
              refine wpAny_take (i := 18) (v := (.pointer (some ⟨D, 0, none⟩))) rfl (by kernel_rfl) (by kernel_rfl) (by kernel_rfl) (fun _ _ _ h => h) (.inl ⟨rfl, fun _ => rfl⟩) ?_
              simp only [List.getElem_toArray, List.getElem_cons_succ, List.getElem_cons_zero, Act.put, List.setIfInBounds_toArray, List.set_cons_succ, List.set_cons_zero]
              refine wpAny_all (rs := [19]) (by kernel_rfl) (by simp) ?_
              intro k hk
              simp only [List.mem_cons, List.mem_nil_iff, or_false] at hk
              subst hk
              refine wpOp_runw rfl rfl (wp_call_fn 17 #[.pointer (some ⟨D, 0, none⟩)] (by simp [execOp, go_sem, Act.eval, resolve, invoke, enterVD]) ((HD2.out w8 b8).mono ?_))
              rintro e w9 ⟨rfl, v9, A9, M9, K9⟩
              simp only [List.getElem_toArray, List.getElem_cons_succ, List.getElem_cons_zero, Act.put, List.setIfInBounds_toArray, List.set_cons_succ, List.set_cons_zero]
              refine wpAny_take (i := 20) (v := (.bool false)) rfl (by kernel_rfl) (by kernel_rfl) (by kernel_rfl) (fun _ _ _ h => h) (.inl ⟨rfl, fun _ => by simp [execOp, go_sem, Act.eval]⟩) ?_
              simp only [List.getElem_toArray, List.getElem_cons_succ, List.getElem_cons_zero, Act.put, List.setIfInBounds_toArray, List.set_cons_succ, List.set_cons_zero]
              refine wpAny_take (i := 21) (v := (.bool false)) rfl (by kernel_rfl) (by kernel_rfl) (by kernel_rfl) (fun _ _ _ h => h) (.inl ⟨rfl, fun _ => by simp [execOp, go_sem, Act.eval]⟩) ?_
              simp only [List.getElem_toArray, List.getElem_cons_succ, List.getElem_cons_zero, Act.put, List.setIfInBounds_toArray, List.set_cons_succ, List.set_cons_zero]
              refine wpAny_done (by kernel_rfl) ?_ _
              have HX : Hid (Dr D (dA 64 v9 N 1 (.slice none 0 0) 0 (.slice af 0 cf)) w9 ∧ Mb w9 B v9 ps ∧ Kd D B w1 w9) := ⟨A9, M9, K9⟩
              clear A9 M9 K9 HPl HD2 f7 b8
              go_wp2
              go_roundw
              case rel => exact ⟨j + 1, ps, f.field, _, HJ.out, by go_num, rfl, HLe.out, HH2.out, HOk.out, HX.out⟩
              case measure => simp [intOf]; omega
            · refine wpOp_runw rfl rfl (wp_call_fn 16 #[.agg f.arr] (by simp [execOp, go_sem, Act.eval, resolve, invoke, enterR2P]; rfl) (HPl.out.mono ?_))
              rintro e w8 ⟨rfl, b8⟩
              simp only [List.getElem_toArray, List.getElem_cons_succ, List.getElem_cons_zero, Act.put, List.setIfInBounds_toArray, List.set_cons_succ, List.set_cons_zero]
              refine wpAny_all (rs := [12]) (by kernel_rfl) (by simp) ?_
              intro k hk
              simp only [List.mem_cons, List.mem_nil_iff, or_false] at hk
              subst hk
              refine wpOp_runw rfl rfl (wp_load_mid 45 _ rfl q 0 rfl f.cells _ (f7.below5 b8).range5 Try.underlying45 rfl (by rw [infoF]; simp [Fr.cells, f.hdata]) ?_)
              simp only [List.getElem_toArray, List.getElem_cons_succ, List.getElem_cons_zero, Act.put, List.setIfInBounds_toArray, List.set_cons_succ, List.set_cons_zero]
              refine wpAny_take (i := 15) (v := (.bool false)) rfl (by kernel_rfl) (by kernel_rfl) (by kernel_rfl) (fun _ _ _ h => h) (.inl ⟨rfl, fun _ => exec_neq rfl rfl rfl _ _ (by rw [frB_same]; rfl)⟩) ?_
              simp only [List.getElem_toArray, List.getElem_cons_succ, List.getElem_cons_zero, Act.put, List.setIfInBounds_toArray, List.set_cons_succ, List.set_cons_zero]
              refine wpAny_take (i := 16) (v := (.bool false)) rfl (by kernel_rfl) (by kernel_rfl) (by kernel_rfl) (fun _ _ _ h => h) (.inl ⟨rfl, fun _ => by simp [execOp, go_sem, Act.eval]⟩) ?_
              simp only [List.getElem_toArray, List.getElem_cons_succ, List.getElem_cons_zero, Act.put, List.setIfInBounds_toArray, List.set_cons_succ, List.set_cons_zero]
              refine wpAny_take (i := 17) (v := (.bool false)) rfl (by kernel_rfl) (by kernel_rfl) (by kernel_rfl) (fun _ _ _ h => h) (.inl ⟨rfl, fun _ => by simp [execOp, go_sem, Act.eval]⟩) ?_
              simp only [List.getElem_toArray, List.getElem_cons_succ, List.getElem_cons_zero, Act.put, List.setIfInBounds_toArray, List.set_cons_succ, List.set_cons_zero]
              refine wpAny_take (i := 18) (v := (.pointer (some ⟨D, 0, none⟩))) rfl (by kernel_rfl) (by kernel_rfl) (by kernel_rfl) (fun _ _ _ h => h) (.inl ⟨rfl, fun _ => rfl⟩) ?_
              simp only [List.getElem_toArray, List.getElem_cons_succ, List.getElem_cons_zero, Act.put, List.setIfInBounds_toArray, List.set_cons_succ, List.set_cons_zero]
              refine wpAny_all (rs := [19]) (by kernel_rfl) (by simp) ?_
              intro k hk
              simp only [List.mem_cons, List.mem_nil_iff, or_false] at hk
              subst hk
              refine wpOp_runw rfl rfl (wp_call_fn 17 #[.pointer (some ⟨D, 0, none⟩)] (by simp [execOp, go_sem, Act.eval, resolve, invoke, enterVD]) ((HD2.out w8 b8).mono ?_))
              rintro e w9 ⟨rfl, v9, A9, M9, K9⟩
              simp only [List.getElem_toArray, List.getElem_cons_succ, List.getElem_cons_zero, Act.put, List.setIfInBounds_toArray, List.set_cons_succ, List.set_cons_zero]
              refine wpAny_take (i := 20) (v := (.bool false)) rfl (by kernel_rfl) (by kernel_rfl) (by kernel_rfl) (fun _ _ _ h => h) (.inl ⟨rfl, fun _ => by simp [execOp, go_sem, Act.eval]⟩) ?_
              simp only [List.getElem_toArray, List.getElem_cons_succ, List.getElem_cons_zero, Act.put, List.setIfInBounds_toArray, List.set_cons_succ, List.set_cons_zero]
              refine wpAny_take (i := 21) (v := (.bool false)) rfl (by kernel_rfl) (by kernel_rfl) (by kernel_rfl) (fun _ _ _ h => h) (.inl ⟨rfl, fun _ => by simp [execOp, go_sem, Act.eval]⟩) ?_
              simp only [List.getElem_toArray, List.getElem_cons_succ, List.getElem_cons_zero, Act.put, List.setIfInBounds_toArray, List.set_cons_succ, List.set_cons_zero]
              refine wpAny_done (by kernel_rfl) ?_ _
              have HX : Hid (Dr D (dA 64 v9 N 1 (.slice none 0 0) 0 (.slice af 0 cf)) w9 ∧ Mb w9 B v9 ps ∧ Kd D B w1 w9) := ⟨A9, M9, K9⟩
              clear A9 M9 K9 HPl HD2 f7 b8
              go_wp2
              go_roundw
              case rel => exact ⟨j + 1, ps, f.field, _, HJ.out, by go_num, rfl, HLe.out, HH2.out, HOk.out, HX.out⟩
              case measure => simp [intOf]; omega
        · have e0 : ls = [] := List.length_eq_zero_iff.1 (by omega)
          subst e0
          obtain ⟨al, cl, rfl⟩ := own_shape5 M3
          have hDn := Done_none (by simpa using A3)
          have hL := lives5_any wr
          have hjN : j = N := by simpa using hj
          clear hT hH hO A3 M3 K3 HO HA HN
          subst hjN
          go_wp2_with fail
          refine hDn.mono ?_
          rintro e w4 ⟨rfl, rfl⟩
          clear hDn
          go_wp2_with fail
          refine hL.mono ?_
          rintro e w5 ⟨rfl, b5⟩
          have B5 : Below B w w5 := B3.trans (b5.mono (by rw [← hB]; exact B3.size))
          go_wp2
          go_ret
          exact ⟨rfl, by rw [hB]; exact B5⟩
end Go.Proofs.Ytfddoindcmdooaa
namespace Go.Proofs.Ytfddoindcmdooaa
open Go.RowKit Go.Proofs.Bits
set_option linter.unusedVariables false
set_option maxRecDepth 1000000
set_option linter.unusedSimpArgs false

/-- Take of the document, as a function. -/
def takeC (d : Dc) (f : Fr) : Dc × Int :=
  if f.chk = 0 then if pasV d.l f then if (d.inn.length : Int) = d.room then ({ d with lo := d.lo + 1 }, 50) else ({ d with inn := d.inn ++ [f.plain] }, 0) else (d, 4) else (d, f.chk)
theorem enterR2 : ∀ args x, (callFunc 16 args).run Try.prog x = .ok (.enter 16 args) x := fun _ _ => by rfl
/-- A new queue laid into the document's driver. -/
theorem DcW.setI {E q : Nat} {d : Dc} {vI vI' : Value} {w w1 : World} (h : DcW E d vI w) (hb : Below w.heap.size w w1) (cs : List Fr) (B : Nat) (hB : w.heap.size ≤ B) (hq : w1.ownsRow B 45 12 vI' cs.length (flatW DF cs)) (hr : (cs.length : Int) ≤ d.room) :
    DcP E { d with inn := cs } vI w (w1.setCell ⟨E, 5, none⟩ vI') := by
  have hlt := h.lt
  have h' := h.below hb
  obtain ⟨⟨vL, vO, h1, h2, h3⟩, h4, h5, h6, h7, h8, h9, h10⟩ := h'
  have hg1 : w1.grownBy (w1.setCell ⟨E, 5, none⟩ vI') (some E) := ⟨rfl, rfl, rfl, by simp [World.setCell], fun k hk hne => Below.heap_setCell w1 ⟨E, 5, none⟩ vI' k (fun e => hne (by rw [show k = E from e]))⟩
  have hI : RT 45 12 Fr.cells w1 vI' cs := RT.own DF hq
  refine ⟨vI', ⟨⟨vL, vO, h1.set 5 _, h2.grown hg1 (h2.ne h1 (by decide)), h3.grown hg1 (h3.ne h1 (by decide))⟩, hI.grown hg1 (hI.ne h1 (by decide)), h5, h6, hr, h8, h9, h10⟩, grown_trans (grown_below hb _) hg1, fun b hb' e => ?_⟩
  have := own_base hq e
  omega
theorem DcW.setLo {E : Nat} {d : Dc} {vI : Value} {w w1 : World} (h : DcW E d vI w) (hb : Below w.heap.size w w1) (z : Int) :
    DcP E { d with lo := z } vI w (w1.setCell ⟨E, 6, none⟩ (.int .i64 z)) := by
  have h' := h.below hb
  obtain ⟨⟨vL, vO, h1, h2, h3⟩, h4, h5, h6, h7, h8, h9, h10⟩ := h'
  have hg1 : w1.grownBy (w1.setCell ⟨E, 6, none⟩ (.int .i64 z)) (some E) := ⟨rfl, rfl, rfl, by simp [World.setCell], fun k hk hne => Below.heap_setCell w1 ⟨E, 6, none⟩ _ k (fun e => hne (by rw [show k = E from e]))⟩
  exact ⟨vI, ⟨⟨vL, vO, h1.set 6 _, h2.grown hg1 (h2.ne h1 (by decide)), h3.grown hg1 (h3.ne h1 (by decide))⟩, h4.grown hg1 (h4.ne h1 (by decide)), h5, h6, h7, h8, h9, h10⟩, grown_trans (grown_below hb _) hg1, fun b _ e => e⟩
set_option maxHeartbeats 4000000 in
theorem ETake_any {E : Nat} {d : Dc} {vI : Value} {w : World} (h : DcW E d vI w) (f : Fr) (hlo : 0 ≤ d.lo ∧ d.lo < 4611686018427387904) :
    Calls Try.prog 27 #[.pointer (some ⟨E, 0, none⟩), .agg f.arr] w fun e w' => e = .returned (.int .i64 (takeC d f).2) ∧ DcP E (takeC d f).1 vI w w' := by
  have hh := h
  have hlt := h.lt
  obtain ⟨wa, hwa⟩ : ∃ wa, w.alloc (.cells f.arr 45) = wa := ⟨_, rfl⟩
  have ba : Below w.heap.size w wa := by rw [← hwa]; exact (Below.refl _ _).alloc (Nat.le_refl _) _
  have fa : Fa w.heap.size f wa := by rw [← hwa]; exact Fa.new w f
  have hC := r2Check_any f wa
  unfold Fr.val at hC
  have HS : Hid (∀ x, Below w.heap.size w x → DcP E d vI w x) := fun x hx => hh.stay hx
  have HPs : Hid (∀ x, Below w.heap.size w x → Calls Try.prog 28 #[.pointer (some ⟨E, 0, none⟩), .agg f.arr] x fun e w' => e = .returned (.bool (pasV d.l f)) ∧ Below x.heap.size x w') := fun x hx => EPasses_any (hh.below hx) f
  obtain ⟨q, hq⟩ : ∃ q, w.heap.size = q := ⟨_, rfl⟩
  have sa : q < wa.heap.size := by rw [← hq]; exact fa.lt
  rw [hq] at fa ba HPs HS
  have HT : Hid (takeC d f = if f.chk = 0 then if pasV d.l f then if (d.inn.length : Int) = d.room then ({ d with lo := d.lo + 1 }, 50) else ({ d with inn := d.inn ++ [f.plain] }, 0) else (d, 4) else (d, f.chk)) := rfl
  generalize takeC d f = TC at *
  by_cases hf : f.chk = 0
  · rw [hf] at hC
    have HT1 : Hid (TC = if pasV d.l f then if (d.inn.length : Int) = d.room then ({ d with lo := d.lo + 1 }, 50) else ({ d with inn := d.inn ++ [f.plain] }, 0) else (d, 4)) := by show _ = _; rw [HT.out, if_pos hf]
    clear HT hf
    go_enter Try.func27, Try.ntmps27
    go_upto_region 1 with fail
    go_wp2_with (refine fa.ld rfl _ rfl rfl ?_)
    refine hC.mono ?_
    rintro e w2 ⟨rfl, b2⟩
    have B2 : Below q w w2 := ba.trans (b2.mono (by omega))
    have f2 := fa.below5 b2
    have hPs := HPs.out w2 B2
    clear hC fa HPs
    cases hp : pasV d.l f
    · rw [hp] at hPs
      have HR : Hid (TC = (d, 4)) := by show _ = _; rw [HT1.out, if_neg (by rw [hp]; simp)]
      clear HT1 hp
      go_upto_region 4 with fail
      go_wp2_with (refine f2.ld rfl _ rfl rfl ?_)
      refine hPs.mono ?_
      rintro e w3 ⟨rfl, b3⟩
      have B3 : Below q w w3 := B2.trans (b3.mono (by have := b2.size; omega))
      clear hPs f2
      go_wp2
      go_ret
      exact ⟨congrArg (fun r : Dc × Int => Ending.returned (Value.int .i64 r.2)) HR.out.symm, by rw [HR.out]; exact HS.out _ B3⟩
    · rw [hp] at hPs
      have HT2 : Hid (TC = if (d.inn.length : Int) = d.room then ({ d with lo := d.lo + 1 }, 50) else ({ d with inn := d.inn ++ [f.plain] }, 0)) := by show _ = _; rw [HT1.out, if_pos hp]
      clear HT1 hp
      go_upto_region 4 with fail
      go_wp2_with (refine f2.ld rfl _ rfl rfl ?_)
      refine hPs.mono ?_
      rintro e w3 ⟨rfl, b3⟩
      have B3 : Below q w w3 := B2.trans (b3.mono (by have := b2.size; omega))
      have f3 := f2.below5 b3
      have D3 := hh.below (by rw [hq]; exact B3)
      have hr0 := D3.r0
      have hr1 := D3.r1
      obtain ⟨⟨vL, vO, A3, _, _⟩, I3, _⟩ := D3
      obtain ⟨ai, ci, rfl⟩ := I3.wide.shape
      have c1 := A3.cell (k := 1) (v := .int .i64 d.room) rfl
      have c5 := A3.cell (k := 5) (v := .slice ai d.inn.length ci) rfl
      have c6 := A3.cell (k := 6) (v := .int .i64 d.lo) rfl
      have hfr := A3.free 6
      clear hPs f2 b3
      by_cases hr : (d.inn.length : Int) = d.room
      · have HR : Hid (TC = ({ d with lo := d.lo + 1 }, 50)) := by show _ = _; rw [HT2.out, if_pos hr]
        have hge : decide (d.room ≤ (d.inn.length : Int)) = true := by simp; omega
        have HX : Hid (∀ m, DcP E { d with lo := d.lo + 1 } (.slice ai d.inn.length ci) w ((w3.drewN m).setCell ⟨E, 6, none⟩ (.int .i64 (d.lo + 1)))) := fun m => hh.setLo (by rw [hq]; exact below_drawn B3 m) _
        clear HT2 hr A3 I3
        go_wp2_with fail
        go_quiet (fail)
        go_wp2
        go_ret
        exact ⟨congrArg (fun r : Dc × Int => Ending.returned (Value.int .i64 r.2)) HR.out.symm, by rw [HR.out]; exact HX.out _⟩
      · have HR : Hid (TC = ({ d with inn := d.inn ++ [f.plain] }, 0)) := by show _ = _; rw [HT2.out, if_neg hr]
        have hge : decide (d.room ≤ (d.inn.length : Int)) = false := by simp; omega
        have hlen : (d.inn.length : Int) < d.room := by omega
        clear HT2 hr
        go_wp2_with fail
        go_quiet (fail)
        go_upto_region 9 with fail
        have B4 : Below q w (w3.drewN nq) := below_drawn B3 nq
        have A4 : Er E (rA d.most d.room vL vO d.tk (.slice ai d.inn.length ci) d.lo) (w3.drewN nq) := A3
        have f4 : Fa q f (w3.drewN nq) := f3
        have I4 : Wide 12 Fr.cells (w3.drewN nq) (.slice ai d.inn.length ci) d.inn := (I3.below (below_drawn (Below.refl _ _) nq)).wide
        generalize w3.drewN nq = wb at *
        clear A3 f3 I3 c1 c5 c6 hfr B3
        refine wp_region_held (S := Fa q f) (by kernel_rfl) ?_
        obtain ⟨w5, hw5⟩ : ∃ x : World, { wb with drawn := wb.drawn + 1 } = x := ⟨_, rfl⟩
        rw [hw5]
        have b5 : Below wb.heap.size wb w5 := by rw [← hw5]; exact below_drawn (Below.refl _ _) 1
        have HW : Hid (∀ x, Below w5.heap.size w5 x → Er E (rA d.most d.room vL vO d.tk (.slice ai d.inn.length ci) d.lo) x ∧ Fa q f x ∧ Wide 12 Fr.cells x (.slice ai d.inn.length ci) d.inn ∧ Below q w x ∧ w5.heap.size ≤ x.heap.size) := fun x hx => by
          have hb : Below wb.heap.size wb x := b5.trans (hx.mono b5.size)
          exact ⟨(hb.block E (Array.getElem?_eq_some_iff.1 A4).1).trans A4, f4.below5 hb, Wide.below5 I4 hb, B4.trans (hb.mono (by have := B4.size; omega)), hx.size⟩
        have r0 := Below.refl w5.heap.size w5
        have hqs : q < w5.heap.size := (HW.out w5 r0).2.1.lt
        have HPl : Hid (∀ x, Calls Try.prog 16 #[.agg f.arr] x fun e w' => e = .returned (.agg f.plain.arr) ∧ Below x.heap.size x w') := fun x => r2Plain_any f x
        obtain ⟨i0, hi0, hz0, hz1, hz2⟩ := info_parts infoFZ
        clear A4 f4 I4 B4 b5 hw5
        refine wpAnyH_take (i := 0) (v := (.pointer (some ⟨E, 0, none⟩))) rfl (by kernel_rfl) (by kernel_rfl) (by kernel_rfl) (fun _ _ _ h => h) (.inl ⟨rfl, fun _ hS => rfl⟩) (HW.out _ r0).2.1 ?_
        simp only [List.getElem_toArray, List.getElem_cons_succ, List.getElem_cons_zero, Act.put, List.setIfInBounds_toArray, List.set_cons_succ, List.set_cons_zero]
        refine wpAnyH_take (i := 2) (v := (.pointer (some ⟨E, 0, none⟩))) rfl (by kernel_rfl) (by kernel_rfl) (by kernel_rfl) (fun _ _ _ h => h) (.inl ⟨rfl, fun _ hS => rfl⟩) (HW.out _ r0).2.1 ?_
        simp only [List.getElem_toArray, List.getElem_cons_succ, List.getElem_cons_zero, Act.put, List.setIfInBounds_toArray, List.set_cons_succ, List.set_cons_zero]
        refine wpAnyH_take (i := 3) (v := (.pointer (some ⟨E, 0, none⟩))) rfl (by kernel_rfl) (by kernel_rfl) (by kernel_rfl) (fun _ _ _ h => h) (.inl ⟨rfl, fun _ hS => by simp [execOp, go_sem, Act.eval]⟩) (HW.out _ r0).2.1 ?_
        simp only [List.getElem_toArray, List.getElem_cons_succ, List.getElem_cons_zero, Act.put, List.setIfInBounds_toArray, List.set_cons_succ, List.set_cons_zero]
        refine wpAnyH_take (i := 4) (v := (.pointer (some ⟨E, 5, none⟩))) rfl (by kernel_rfl) (by kernel_rfl) (by kernel_rfl) (fun _ _ _ h => h) (.inl ⟨rfl, fun _ hS => by simp [execOp, go_sem, Act.eval]⟩) (HW.out _ r0).2.1 ?_
        simp only [List.getElem_toArray, List.getElem_cons_succ, List.getElem_cons_zero, Act.put, List.setIfInBounds_toArray, List.set_cons_succ, List.set_cons_zero]
        refine wpAnyH_take (i := 7) (v := (.agg f.arr)) rfl (by kernel_rfl) (by kernel_rfl) (by kernel_rfl) (fun _ _ _ h => h) (.inl ⟨rfl, fun _ hS => exec_load rfl rfl (load_fa _ q f hS)⟩) (HW.out _ r0).2.1 ?_
        simp only [List.getElem_toArray, List.getElem_cons_succ, List.getElem_cons_zero, Act.put, List.setIfInBounds_toArray, List.set_cons_succ, List.set_cons_zero]
        refine wpAnyH_all (rs := [1, 5]) (by kernel_rfl) (by simp) ?_
        intro k hk
        simp only [List.mem_cons, List.mem_nil_iff, or_false] at hk
        rcases hk with rfl | rfl
        · refine wpOp_run rfl rfl (wp_bs0g Try.underlying37 infoFZ rfl ?_)
          have bz := r0.alloc r0.size (.cells #[] 45)
          refine ⟨(HW.out _ bz).2.1, ?_⟩
          simp only [List.getElem_toArray, List.getElem_cons_succ, List.getElem_cons_zero, Act.put, List.setIfInBounds_toArray, List.set_cons_succ, List.set_cons_zero]
          refine wpAnyH_all (rs := [5]) (by kernel_rfl) (by simp) ?_
          intro k hk
          simp only [List.mem_cons, List.mem_nil_iff, or_false] at hk
          subst hk
          refine wpOp_run rfl rfl (wp_load_cell 37 _ rfl E 5 rfl (.slice ai d.inn.length ci) (load_frs _ E 5 ai _ _ ((HW.out _ bz).1.cell rfl)) ?_)
          refine ⟨(HW.out _ bz).2.1, ?_⟩
          simp only [List.getElem_toArray, List.getElem_cons_succ, List.getElem_cons_zero, Act.put, List.setIfInBounds_toArray, List.set_cons_succ, List.set_cons_zero]
          refine wpAnyH_all (rs := [6]) (by kernel_rfl) (by simp) ?_
          intro k hk
          simp only [List.mem_cons, List.mem_nil_iff, or_false] at hk
          subst hk
          refine wpOp_run rfl rfl (wp_append_wide DF _ _ 37 45 _ _ Try.underlying37 infoFZ rfl rfl w5.heap.size (.slice (some ⟨w5.heap.size, 0, none⟩) 0 0) [] rfl (by exact own_empty_e w5 45 12) _ d.inn rfl (HW.out _ bz).2.2.1 (by unfold maxLen; simp; omega) (by simp; omega) (by rw [size_alloc]; omega) ?_)
          intro v6 w6 P6 G6
          have b6 : Below w5.heap.size w5 w6 := bz.trans (((Below.refl w5.heap.size _).grown G6 (by rw [size_alloc]; omega) (by simp [Value.ownBlock])).mono (by omega))
          have P6' : w6.ownsRow w5.heap.size 45 12 v6 d.inn.length (flatW DF d.inn) := ⟨P6.1, P6.2.imp id (fun ⟨g, c, cur, e1, e2, e3⟩ => ⟨g, c, cur, e1, by omega, e3⟩)⟩
          refine ⟨(HW.out _ b6).2.1, ?_⟩
          simp only [List.getElem_toArray, List.getElem_cons_succ, List.getElem_cons_zero, Act.put, List.setIfInBounds_toArray, List.set_cons_succ, List.set_cons_zero]
          refine wpAnyH_all (rs := [8]) (by kernel_rfl) (by simp) ?_
          intro k hk
          simp only [List.mem_cons, List.mem_nil_iff, or_false] at hk
          subst hk
          refine wpOp_run rfl rfl (wp_call_fn 16 #[.agg f.arr] (by simp [execOp, go_sem, Act.eval, resolve, invoke, enterR2]) ((HPl.out w6).mono ?_))
          rintro e w7 ⟨rfl, b7⟩
          have B7 : Below w5.heap.size w5 w7 := b6.trans (b7.mono b6.size)
          have P7 := own_below5 P6' b7
          refine ⟨(HW.out _ B7).2.1, ?_⟩
          simp only [List.getElem_toArray, List.getElem_cons_succ, List.getElem_cons_zero, Act.put, List.setIfInBounds_toArray, List.set_cons_succ, List.set_cons_zero]
          refine wpAnyH_all (rs := [9]) (by kernel_rfl) (by simp) ?_
          intro k hk
          simp only [List.mem_cons, List.mem_nil_iff, or_false] at hk
          subst hk
          refine wpOp_run rfl rfl (wp_buildSlice 37 45 1 _ rfl f.plain.arr i0 _ Try.underlying37 hi0 hz0 (by rw [hz1]; omega) (by rw [hz1]; omega) (by rw [hz1]; simp only [List.map_toArray, List.map_cons, List.map_nil]; exact fill_fr f.plain) ?_)
          have ba8 : Below w7.heap.size w7 (w7.alloc (.cells f.plain.arr 45)) := (Below.refl _ w7).alloc (Nat.le_refl _) _
          have B8 : Below w5.heap.size w5 (w7.alloc (.cells f.plain.arr 45)) := B7.trans (ba8.mono B7.size)
          have P8 := own_below5 P7 ba8
          refine ⟨(HW.out _ B8).2.1, ?_⟩
          simp only [List.getElem_toArray, List.getElem_cons_succ, List.getElem_cons_zero, Act.put, List.setIfInBounds_toArray, List.set_cons_succ, List.set_cons_zero]
          refine wpAnyH_all (rs := [10]) (by kernel_rfl) (by simp) ?_
          intro k hk
          simp only [List.mem_cons, List.mem_nil_iff, or_false] at hk
          subst hk
          refine wpOp_run rfl rfl (wp_append_own _ _ _ 37 rfl w5.heap.size 45 i0 _ 12 24 Try.underlying37 hi0 hz0 hz1 hz2 rfl (by omega) _ d.inn.length (flatW DF d.inn) rfl P8 ⟨w7.heap.size, 0, none⟩ 1 1 f.plain.cells rfl (by simp [Fr.cells, f.plain.hdata]) (news_fr w7 f.plain) (DF.one f.plain) (by unfold maxLen; omega) (by omega) B8.size ?_)
          intro v9 w9 o9 g9 _
          have B9 : Below w5.heap.size w5 w9 := ⟨g9.os.trans B8.os, g9.tape.trans B8.tape, g9.output.trans B8.output, Nat.le_trans B8.size g9.size, fun k hk => (g9.block k (Nat.lt_of_lt_of_le hk B8.size) (fun e => by have := own_base P8 e.symm; omega)).trans (B8.block k hk)⟩
          have A9 := (HW.out _ B9).1
          have Q9 : w9.ownsRow w5.heap.size 45 12 v9 (d.inn ++ [f.plain]).length (flatW DF (d.inn ++ [f.plain])) := by
            rw [List.length_append, flatW_append]; simpa [flatW, DF] using o9
          obtain ⟨a9, c9, rfl⟩ := own_shape5 o9
          refine ⟨(HW.out _ B9).2.1, ?_⟩
          simp only [List.getElem_toArray, List.getElem_cons_succ, List.getElem_cons_zero, Act.put, List.setIfInBounds_toArray, List.set_cons_succ, List.set_cons_zero]
          refine wpAnyH_take (i := 11) (v := (.pointer (some ⟨E, 0, none⟩))) rfl (by kernel_rfl) (by kernel_rfl) (by kernel_rfl) (fun _ _ _ h => h) (.inl ⟨rfl, fun _ hS => by simp [execOp, go_sem, Act.eval]⟩) (HW.out _ B9).2.1 ?_
          simp only [List.getElem_toArray, List.getElem_cons_succ, List.getElem_cons_zero, Act.put, List.setIfInBounds_toArray, List.set_cons_succ, List.set_cons_zero]
          refine wpAnyH_take (i := 12) (v := (.pointer (some ⟨E, 5, none⟩))) rfl (by kernel_rfl) (by kernel_rfl) (by kernel_rfl) (fun _ _ _ h => h) (.inl ⟨rfl, fun _ hS => by simp [execOp, go_sem, Act.eval]⟩) (HW.out _ B9).2.1 ?_
          simp only [List.getElem_toArray, List.getElem_cons_succ, List.getElem_cons_zero, Act.put, List.setIfInBounds_toArray, List.set_cons_succ, List.set_cons_zero]
          refine wpAnyH_all (rs := [13]) (by kernel_rfl) (by simp) ?_
          intro k hk
          simp only [List.mem_cons, List.mem_nil_iff, or_false] at hk
          subst hk
          refine wpOp_run rfl rfl (wp_store_cell 37 _ _ rfl E 5 rfl _ rfl (store_frs w9 E 5 _ a9 _ c9 (A9.cell rfl) (A9.free 5)) ?_)
          refine ⟨((HW.out _ B9).2.1.other (p := ⟨E, 5, none⟩) (by show q ≠ E; omega) _), ?_⟩
          simp only [List.getElem_toArray, List.getElem_cons_succ, List.getElem_cons_zero, Act.put, List.setIfInBounds_toArray, List.set_cons_succ, List.set_cons_zero]
          refine wpAnyH_done (by kernel_rfl) ?_ _
          have HX : Hid (DcP E { d with inn := d.inn ++ [f.plain] } (.slice ai d.inn.length ci) w (w9.setCell ⟨E, 5, none⟩ (.slice a9 (d.inn.length + 1) c9))) := hh.setI (q := q) (by rw [hq]; exact (HW.out _ B9).2.2.2.1) (d.inn ++ [f.plain]) w5.heap.size (by omega) Q9 (by simp; omega)
          clear HW HPl P8 o9 g9 Q9 A9
          go_wp2
          go_ret
          exact ⟨congrArg (fun r : Dc × Int => Ending.returned (Value.int .i64 r.2)) HR.out.symm, by rw [HR.out]; exact HX.out⟩
        · refine wpOp_run rfl rfl (wp_load_cell 37 _ rfl E 5 rfl (.slice ai d.inn.length ci) (load_frs _ E 5 ai _ _ ((HW.out _ r0).1.cell rfl)) ?_)
          refine ⟨(HW.out _ r0).2.1, ?_⟩
          simp only [List.getElem_toArray, List.getElem_cons_succ, List.getElem_cons_zero, Act.put, List.setIfInBounds_toArray, List.set_cons_succ, List.set_cons_zero]
          refine wpAnyH_all (rs := [1]) (by kernel_rfl) (by simp) ?_
          intro k hk
          simp only [List.mem_cons, List.mem_nil_iff, or_false] at hk
          subst hk
          refine wpOp_run rfl rfl (wp_bs0g Try.underlying37 infoFZ rfl ?_)
          have bz := r0.alloc r0.size (.cells #[] 45)
          refine ⟨(HW.out _ bz).2.1, ?_⟩
          simp only [List.getElem_toArray, List.getElem_cons_succ, List.getElem_cons_zero, Act.put, List.setIfInBounds_toArray, List.set_cons_succ, List.set_cons_zero]
          refine wpAnyH_all (rs := [6]) (by kernel_rfl) (by simp) ?_
          intro k hk
          simp only [List.mem_cons, List.mem_nil_iff, or_false] at hk
          subst hk
          refine wpOp_run rfl rfl (wp_append_wide DF _ _ 37 45 _ _ Try.underlying37 infoFZ rfl rfl w5.heap.size (.slice (some ⟨w5.heap.size, 0, none⟩) 0 0) [] rfl (by exact own_empty_e w5 45 12) _ d.inn rfl (HW.out _ bz).2.2.1 (by unfold maxLen; simp; omega) (by simp; omega) (by rw [size_alloc]; omega) ?_)
          intro v6 w6 P6 G6
          have b6 : Below w5.heap.size w5 w6 := bz.trans (((Below.refl w5.heap.size _).grown G6 (by rw [size_alloc]; omega) (by simp [Value.ownBlock])).mono (by omega))
          have P6' : w6.ownsRow w5.heap.size 45 12 v6 d.inn.length (flatW DF d.inn) := ⟨P6.1, P6.2.imp id (fun ⟨g, c, cur, e1, e2, e3⟩ => ⟨g, c, cur, e1, by omega, e3⟩)⟩
          refine ⟨(HW.out _ b6).2.1, ?_⟩
          simp only [List.getElem_toArray, List.getElem_cons_succ, List.getElem_cons_zero, Act.put, List.setIfInBounds_toArray, List.set_cons_succ, List.set_cons_zero]
          refine wpAnyH_all (rs := [8]) (by kernel_rfl) (by simp) ?_
          intro k hk
          simp only [List.mem_cons, List.mem_nil_iff, or_false] at hk
          subst hk
          refine wpOp_run rfl rfl (wp_call_fn 16 #[.agg f.arr] (by simp [execOp, go_sem, Act.eval, resolve, invoke, enterR2]) ((HPl.out w6).mono ?_))
          rintro e w7 ⟨rfl, b7⟩
          have B7 : Below w5.heap.size w5 w7 := b6.trans (b7.mono b6.size)
          have P7 := own_below5 P6' b7
          refine ⟨(HW.out _ B7).2.1, ?_⟩
          simp only [List.getElem_toArray, List.getElem_cons_succ, List.getElem_cons_zero, Act.put, List.setIfInBounds_toArray, List.set_cons_succ, List.set_cons_zero]
          refine wpAnyH_all (rs := [9]) (by kernel_rfl) (by simp) ?_
          intro k hk
          simp only [List.mem_cons, List.mem_nil_iff, or_false] at hk
          subst hk
          refine wpOp_run rfl rfl (wp_buildSlice 37 45 1 _ rfl f.plain.arr i0 _ Try.underlying37 hi0 hz0 (by rw [hz1]; omega) (by rw [hz1]; omega) (by rw [hz1]; simp only [List.map_toArray, List.map_cons, List.map_nil]; exact fill_fr f.plain) ?_)
          have ba8 : Below w7.heap.size w7 (w7.alloc (.cells f.plain.arr 45)) := (Below.refl _ w7).alloc (Nat.le_refl _) _
          have B8 : Below w5.heap.size w5 (w7.alloc (.cells f.plain.arr 45)) := B7.trans (ba8.mono B7.size)
          have P8 := own_below5 P7 ba8
          refine ⟨(HW.out _ B8).2.1, ?_⟩
          simp only [List.getElem_toArray, List.getElem_cons_succ, List.getElem_cons_zero, Act.put, List.setIfInBounds_toArray, List.set_cons_succ, List.set_cons_zero]
          refine wpAnyH_all (rs := [10]) (by kernel_rfl) (by simp) ?_
          intro k hk
          simp only [List.mem_cons, List.mem_nil_iff, or_false] at hk
          subst hk
          refine wpOp_run rfl rfl (wp_append_own _ _ _ 37 rfl w5.heap.size 45 i0 _ 12 24 Try.underlying37 hi0 hz0 hz1 hz2 rfl (by omega) _ d.inn.length (flatW DF d.inn) rfl P8 ⟨w7.heap.size, 0, none⟩ 1 1 f.plain.cells rfl (by simp [Fr.cells, f.plain.hdata]) (news_fr w7 f.plain) (DF.one f.plain) (by unfold maxLen; omega) (by omega) B8.size ?_)
          intro v9 w9 o9 g9 _
          have B9 : Below w5.heap.size w5 w9 := ⟨g9.os.trans B8.os, g9.tape.trans B8.tape, g9.output.trans B8.output, Nat.le_trans B8.size g9.size, fun k hk => (g9.block k (Nat.lt_of_lt_of_le hk B8.size) (fun e => by have := own_base P8 e.symm; omega)).trans (B8.block k hk)⟩
          have A9 := (HW.out _ B9).1
          have Q9 : w9.ownsRow w5.heap.size 45 12 v9 (d.inn ++ [f.plain]).length (flatW DF (d.inn ++ [f.plain])) := by
            rw [List.length_append, flatW_append]; simpa [flatW, DF] using o9
          obtain ⟨a9, c9, rfl⟩ := own_shape5 o9
          refine ⟨(HW.out _ B9).2.1, ?_⟩
          simp only [List.getElem_toArray, List.getElem_cons_succ, List.getElem_cons_zero, Act.put, List.setIfInBounds_toArray, List.set_cons_succ, List.set_cons_zero]
          refine wpAnyH_take (i := 11) (v := (.pointer (some ⟨E, 0, none⟩))) rfl (by kernel_rfl) (by kernel_rfl) (by kernel_rfl) (fun _ _ _ h => h) (.inl ⟨rfl, fun _ hS => by simp [execOp, go_sem, Act.eval]⟩) (HW.out _ B9).2.1 ?_
          simp only [List.getElem_toArray, List.getElem_cons_succ, List.getElem_cons_zero, Act.put, List.setIfInBounds_toArray, List.set_cons_succ, List.set_cons_zero]
          refine wpAnyH_take (i := 12) (v := (.pointer (some ⟨E, 5, none⟩))) rfl (by kernel_rfl) (by kernel_rfl) (by kernel_rfl) (fun _ _ _ h => h) (.inl ⟨rfl, fun _ hS => by simp [execOp, go_sem, Act.eval]⟩) (HW.out _ B9).2.1 ?_
          simp only [List.getElem_toArray, List.getElem_cons_succ, List.getElem_cons_zero, Act.put, List.setIfInBounds_toArray, List.set_cons_succ, List.set_cons_zero]
          refine wpAnyH_all (rs := [13]) (by kernel_rfl) (by simp) ?_
          intro k hk
          simp only [List.mem_cons, List.mem_nil_iff, or_false] at hk
          subst hk
          refine wpOp_run rfl rfl (wp_store_cell 37 _ _ rfl E 5 rfl _ rfl (store_frs w9 E 5 _ a9 _ c9 (A9.cell rfl) (A9.free 5)) ?_)
          refine ⟨((HW.out _ B9).2.1.other (p := ⟨E, 5, none⟩) (by show q ≠ E; omega) _), ?_⟩
          simp only [List.getElem_toArray, List.getElem_cons_succ, List.getElem_cons_zero, Act.put, List.setIfInBounds_toArray, List.set_cons_succ, List.set_cons_zero]
          refine wpAnyH_done (by kernel_rfl) ?_ _
          have HX : Hid (DcP E { d with inn := d.inn ++ [f.plain] } (.slice ai d.inn.length ci) w (w9.setCell ⟨E, 5, none⟩ (.slice a9 (d.inn.length + 1) c9))) := hh.setI (q := q) (by rw [hq]; exact (HW.out _ B9).2.2.2.1) (d.inn ++ [f.plain]) w5.heap.size (by omega) Q9 (by simp; omega)
          clear HW HPl P8 o9 g9 Q9 A9
          go_wp2
          go_ret
          exact ⟨congrArg (fun r : Dc × Int => Ending.returned (Value.int .i64 r.2)) HR.out.symm, by rw [HR.out]; exact HX.out⟩
  · have hne : (f.chk != 0) = true := by simpa using hf
    have HR : Hid (TC = (d, f.chk)) := by show _ = _; rw [HT.out, if_neg hf]
    generalize f.chk = z at *
    clear HT hf HPs
    go_enter Try.func27, Try.ntmps27
    go_upto_region 1 with fail
    go_wp2_with (refine fa.ld rfl _ rfl rfl ?_)
    refine hC.mono ?_
    rintro e w2 ⟨rfl, b2⟩
    have B2 : Below q w w2 := ba.trans (b2.mono (by omega))
    clear hC fa
    go_wp2
    go_ret
    exact ⟨congrArg (fun r : Dc × Int => Ending.returned (Value.int .i64 r.2)) HR.out.symm, by rw [HR.out]; exact HS.out _ B2⟩
end Go.Proofs.Ytfddoindcmdooaa
