/- Contracts: a receiver takes the end. -/
import Derived.Test.YtebjofkblfmkmaaBkN3
namespace Go.Proofs.Ytebjofkblfmkmaa
open Go.RowKit Go.Proofs.Ty Go.Proofs.Bits
set_option linter.unusedVariables false
set_option maxRecDepth 1000000
set_option linter.unusedSimpArgs false
theorem and7_8 : ∀ n < 256, bits .and .u8 (((n : Nat) : Int) / 4) 7 = ((n / 4 % 8 : Nat) : Int) := by decide +kernel
theorem run_cutB (g L cap n : Nat) (hn : n ≤ cap) (W : World) : (Instr.sliceAt 22 (.slice (some ⟨g, 0, none⟩) L cap) none (some (.int .i64 (n : Int))) none).run Try.prog W = .ok (.slice (some ⟨g, 0, none⟩) n cap) W := by
  obtain ⟨i0, hi0, hz0, hz1, hz2⟩ := info_parts info5
  have a0 : (0 : Int) ≤ (n : Int) := by omega
  have a2 : (n : Int) ≤ (cap : Int) := by omega
  simp [Instr.sliceAt, run_underlying Try.underlying22, go_sem, sizeOf, typeInfo, hi0, hz1, Addr.add, a0, a2]
theorem exec_cutB {a : Act} {o : Oper} {x y : Operand} {g L cap n : Nat} (ho : o.op = .slice 22 x none (some y) none) (hx : a.eval x = .slice (some ⟨g, 0, none⟩) L cap) (hy : a.eval y = .int .i64 (n : Int)) (hn : n ≤ cap) (w : World) : (execOp a.eval o).run Try.prog w = .ok (.value (.slice (some ⟨g, 0, none⟩) n cap)) w := by
  have hr := run_cutB g L cap n hn w
  unfold execOp
  simp only [ho, hx, hy, Option.map_some, Option.map_none, Sem.run_bind, hr, Result.andThen_ok, Sem.run_pure]
theorem exec_lenB {a : Act} {o : Oper} {x : Operand} {ao : Option Addr} {L cap : Nat} (ho : o.op = .call { callee := .builtin .len, args := #[x], argTypes := #[22] }) (hx : a.eval x = .slice ao L cap) (w : World) : (execOp a.eval o).run Try.prog w = .ok (.value (.int .i64 (L : Int))) w := by
  unfold execOp
  simp only [ho, resolve, invoke, builtin, Sem.run_bind, Sem.run_pure, Result.andThen_ok, List.map_toArray, List.map_cons, List.map_nil, hx]
  simp [Builtin.len_, Builtin.lenOf, go_sem]
/-- The beginning of a row of one's own. -/
theorem own_take {w : World} {g L cap : Nat} {l : List UInt8} (h : w.ownsRow 0 5 1 (.slice (some ⟨g, 0, none⟩) L cap) l.length (Lib.byteCells l)) (n : Nat) (hn : n ≤ l.length) : w.ownsRow 0 5 1 (.slice (some ⟨g, 0, none⟩) (l.take n).length cap) (l.take n).length (Lib.byteCells (l.take n)) := by
  have hln : (l.take n).length = n := by rw [List.length_take]; omega
  obtain ⟨h1, h2⟩ := h
  rcases h2 with ⟨h2, _⟩ | ⟨g', cap', cur, e1, e2, e3, e4, e5, e6, e7⟩
  · cases h2
  · injection e1 with e1 en ec
    injection e1 with e1
    injection e1 with e1 _ _
    subst e1 ec
    refine ⟨by rw [Lib.byteCells_length]; omega, .inr ⟨g, cap, cur, rfl, e2, e3, by omega, e5, e6, ?_⟩⟩
    rw [hln, Nat.mul_one]
    have e8 := congrArg (List.take n) e7
    rw [List.take_take, Nat.mul_one, Nat.min_eq_left hn] at e8
    rw [e8]
    simp [Lib.byteCells, List.map_take]
theorem finish_results {Q : Nat} {f : F8} {b : Bool} {w : World} (h : Qb Q f w) (tmps : Array Value) (h2 : tmps[4]?.getD undef = .pointer (some ⟨Q, 0, none⟩)) (h3 : tmps[5]?.getD undef = .bool b) :
    (results Try.f36 tmps).run Try.prog w = .ok (.tuple #[.agg f.arr, .bool b]) w := by
  have l0 := h.load
  simp [Go.results, Try.results36, h2, h3, asAddr, l0]
section
variable {R : Nat} {r t : Rc} {v u : Value} {w x : World}
theorem RPost.fin {V w' : World} {res : Option F8 × Rc} {e : Ending} {q : Nat} {rv : Rc} (hKV : Kp (rB R v) w V) (hOV : ∀ b, u.ownBlock = some b → v.ownBlock = some b ∨ w.heap.size ≤ b) (hRV : Rv R rv u V) (hQV : Qb q F8.nul V) (hqw : w.heap.size ≤ q) (hpost : RPost V R u res e w') : Qb q F8.nul w' ∧ ∀ g : F8, Qb q g (w'.setRow q g.arr) ∧ RPost w R v res e (w'.setRow q g.arr) := by
  have hk' : Kp (rB R u) V w' := by obtain ⟨_, _, _, hk, _⟩ := hpost; exact hk
  have q' : Qb q F8.nul w' := (hk'.block q hQV.lt (fun hm => hRV.nq hQV q hm rfl)).trans hQV
  exact ⟨q', fun g => ⟨q'.row g, (RPost.back hKV hOV hpost).store q' hqw _⟩⟩
theorem frm161 : (frm 161 0 0 0).arr = #[.int .u8 161, .int .u8 0, .int .u8 0, .int .u8 0, .int .u8 0, .int .u8 0, .int .u8 0, .int .u8 0] := by rfl
set_option maxHeartbeats 8000000 in
theorem finish_any (h : Rv R r v w) (hok : r.Ok) (h2 : r.st = 2) (f : F8) : Calls Try.prog 36 #[.pointer (some ⟨R, 0, none⟩), .agg f.arr] w fun e w' => RPost w R v (rEnd r f) e w' := by
  have h7 := hok.seven h2
  have hbl := hok.bs
  obtain ⟨g, cap, hv, hcap⟩ : ∃ g cap, v = .slice (some ⟨g, 0, none⟩) r.bs.length cap ∧ r.bs.length ≤ cap := by
    rcases h.own.2 with ⟨_, h0⟩ | ⟨g, cap, cur, e1, e2, e3, e4, _⟩
    · omega
    · exact ⟨g, cap, e1, e4⟩
  obtain ⟨p, hp⟩ : ∃ p, w.heap.size = p := ⟨_, rfl⟩
  obtain ⟨W0, hW0⟩ : ∃ W, w.alloc (.cells f.arr 30) = W := ⟨_, rfl⟩
  have hW0s : W0.heap.size = p + 1 := by rw [← hW0, size_alloc, hp]
  obtain ⟨q, hq⟩ : ∃ q, W0.heap.size = q := ⟨_, rfl⟩
  obtain ⟨W, hW⟩ : ∃ W, W0.alloc (.cells zA8 30) = W := ⟨_, rfl⟩
  have b0 : Below w.heap.size w W := by
    rw [← hW, ← hW0]
    exact ((Below.refl _ _).alloc (Nat.le_refl _) _).alloc (by rw [size_alloc]; omega) _
  have p0 : Qb p f W := by
    rw [← hW]
    refine (Lib.alloc_old W0 _ p (by omega)).trans ?_
    rw [← hW0, ← hp]
    exact Qb.new w f
  have q0 : Qb q F8.nul W := by rw [← hW, ← hq]; exact heap_alloc_new W0 _
  have hqw : w.heap.size ≤ q := by omega
  have r0 := h.below b0
  have x0 := p0.c0
  have x1 := p0.c1
  have x2 := p0.c2
  have l0 := f.b0.toNat_lt
  have l1 := f.b1.toNat_lt
  have l2 := f.b2.toNat_lt
  have ha7 := and7_8 _ f.b0.toNat_lt
  have hjo := joinIx f.b1.toNat f.b2.toNat f.b1.toNat_lt f.b2.toNat_lt
  obtain ⟨sp, hsp⟩ : ∃ k, f.b0.toNat / 4 % 8 = k := ⟨_, rfl⟩
  obtain ⟨n, hn⟩ : ∃ n, r.bs.length - f.b0.toNat / 4 % 8 = n := ⟨_, rfl⟩
  obtain ⟨sm, hsm⟩ : ∃ k, f.b1.toNat + 256 * f.b2.toNat = k := ⟨_, rfl⟩
  have hLn : r.bs.length = sp + n := by omega
  have hL6 : r.bs.length < 1000000 := by omega
  have hnc : n ≤ cap := by omega
  have HR : Hid (rEnd r f = if 65536 < r.bs.length - f.b0.toNat / 4 % 8 ∨ crc16 (r.bs.take (r.bs.length - f.b0.toNat / 4 % 8)) ≠ f.b1.toNat + 256 * f.b2.toNat then rGive 84148228
  else (some (frm 161 0 0 0), .fin 0 (r.bs.take (r.bs.length - f.b0.toNat / 4 % 8)))) := rfl
  rw [hn, hsm] at HR
  rw [hsp] at ha7
  rw [hsm] at hjo
  generalize rEnd r f = RS at *
  have HTK : Hid ((r.bs.take n).length = n) := by show _ = _; rw [List.length_take]; omega
  have HOW : Hid (∀ y, Rv R r v y → y.ownsRow 0 5 1 (.slice (some ⟨g, 0, none⟩) n cap) n (Lib.byteCells (r.bs.take n))) := fun y hy => by
    have := own_take (n := n) (by rw [← hv]; exact hy.own) (by omega)
    rwa [HTK.out] at this
  have HCR : Hid (∀ y, Rv R r v y → Calls Try.prog 45 #[.slice (some ⟨g, 0, none⟩) n cap] y fun e w' => e = .returned (.int .u16 (crc16 (r.bs.take n))) ∧ w' = y) := fun y hy => CRC16_bytes _ _ _ (by rw [HTK.out]; unfold maxLen; omega) (bytes_of_own (by rw [HTK.out]; exact HOW.out y hy))
  have hcl := crc16_lt (r.bs.take n)
  have hsl : sm < 65536 := by omega
  have HC2 : Hid (∀ y, Rv R r v y → y.cell? ⟨R, 2, none⟩ = some (.slice (some ⟨g, 0, none⟩) r.bs.length cap)) := fun y hy => by rw [← hv]; exact hy.c2
  have S0 : (fun y => Rv R r v y) W.drew := r0.drawn 1
  have HD := hidOf2 S0
  have HQ : Hid (Qb q F8.nul W.drew) := q0
  have HK : Hid (Kp (rB R v) w W.drew) := Kp.of_below (bdr b0 1)
  have HNE : Hid (g ≠ R) := fun e => (h.olt (b := g) (by rw [hv]; rfl)).2 e
  have hvb : v.ownBlock = some g := by rw [hv]; rfl
  clear q0 b0 hn hsp hsm p0 hW0s
  generalize f.b0.toNat = f0 at *
  generalize f.b1.toNat = f1 at *
  generalize f.b2.toNat = f2 at *
  obtain ⟨cr, hcr⟩ : ∃ c, crc16 (r.bs.take n) = c := ⟨_, rfl⟩
  rw [hcr] at HR HCR hcl
  clear hcr
  have HGV : Hid (RS = rGive 84148228 → Calls Try.prog 44 #[.pointer (some ⟨R, 0, none⟩), .int .u32 84148228] W.drew fun e w' => e = .returned (.tuple #[.agg (frm 128 0 0 84148228).arr, .bool true]) ∧ Qb q F8.nul w' ∧ Qb q (frm 128 0 0 84148228) (w'.setRow q (frm 128 0 0 84148228).arr) ∧ RPost w R v RS (.returned (.tuple #[.agg (frm 128 0 0 84148228).arr, .bool true])) (w'.setRow q (frm 128 0 0 84148228).arr)) := fun e1 => (rgiveUp_any HD.out 84148228 (by decide)).mono fun e w' hp => by
    obtain ⟨he, hr, hk⟩ := hp
    have HH := RPost.fin (res := rGive 84148228) (e := .returned (ansV (some (frm 128 0 0 84148228)))) HK.out (fun b hb => .inl hb) HD.out HQ.out hqw ⟨rfl, _, hr, hk.more (by simp [rB]), fun b hb => by cases hb⟩
    rw [e1]
    exact ⟨he, HH.1, HH.2 _⟩
  by_cases c1 : 65536 < n
  · have d1 : decide ((65536 : Int) < (n : Int)) = true := by simp; omega
    have hG := HGV.out (by rw [HR.out, if_pos (.inl c1)])
    clear HR HGV
    generalize frm 128 0 0 84148228 = ga at *
    go_enter Try.func36, Try.ntmps36
    go_upto_region 1 with fail
    first | (change Code.wp Try.prog _ _ _ ((w.alloc (.cells f.arr 30)).alloc (.cells zA8 30)); rw [hW0, hW]) | (change Code.wp Try.prog _ _ _ (W0.alloc (.cells zA8 30)); rw [hW]) | (change Code.wp Try.prog _ _ _ W)
    go_upto_region 3 with fail
    refine wp_region_held (S := fun y => Rv R r v y) (by kernel_rfl) ?_
    change wpAnyH _ _ _ _ _ _ _ _ W.drew
    refine wpAnyH_take (i := 0) (v := (.pointer (some ⟨R, 0, none⟩))) rfl (by kernel_rfl) (by kernel_rfl) (by kernel_rfl) (fun _ _ _ h => h) (.inl ⟨rfl, fun _ hS => rfl⟩) S0 ?_
    simp only [List.getElem_toArray, List.getElem_cons_succ, List.getElem_cons_zero, Act.put, List.setIfInBounds_toArray, List.set_cons_succ, List.set_cons_zero]
    refine wpAnyH_take (i := 1) (v := (.pointer (some ⟨R, 0, none⟩))) rfl (by kernel_rfl) (by kernel_rfl) (by kernel_rfl) (fun _ _ _ h => h) (.inl ⟨rfl, fun _ hS => by simp [execOp, go_sem, Act.eval]⟩) S0 ?_
    simp only [List.getElem_toArray, List.getElem_cons_succ, List.getElem_cons_zero, Act.put, List.setIfInBounds_toArray, List.set_cons_succ, List.set_cons_zero]
    refine wpAnyH_take (i := 2) (v := (.pointer (some ⟨R, 2, none⟩))) rfl (by kernel_rfl) (by kernel_rfl) (by kernel_rfl) (fun _ _ _ h => h) (.inl ⟨rfl, fun _ hS => by simp [execOp, go_sem, Act.eval]⟩) S0 ?_
    simp only [List.getElem_toArray, List.getElem_cons_succ, List.getElem_cons_zero, Act.put, List.setIfInBounds_toArray, List.set_cons_succ, List.set_cons_zero]
    refine wpAnyH_take (i := 3) (v := (.slice (some ⟨g, 0, none⟩) r.bs.length cap)) rfl (by kernel_rfl) (by kernel_rfl) (by kernel_rfl) (fun _ _ _ h => h) (.inl ⟨rfl, fun _ hS => exec_load rfl rfl (load_bytes _ _ _ _ _ _ (HC2.out _ hS))⟩) S0 ?_
    simp only [List.getElem_toArray, List.getElem_cons_succ, List.getElem_cons_zero, Act.put, List.setIfInBounds_toArray, List.set_cons_succ, List.set_cons_zero]
    refine wpAnyH_take (i := 4) (v := (.pointer (some ⟨R, 0, none⟩))) rfl (by kernel_rfl) (by kernel_rfl) (by kernel_rfl) (fun _ _ _ h => h) (.inl ⟨rfl, fun _ hS => rfl⟩) S0 ?_
    simp only [List.getElem_toArray, List.getElem_cons_succ, List.getElem_cons_zero, Act.put, List.setIfInBounds_toArray, List.set_cons_succ, List.set_cons_zero]
    refine wpAnyH_take (i := 5) (v := (.pointer (some ⟨R, 0, none⟩))) rfl (by kernel_rfl) (by kernel_rfl) (by kernel_rfl) (fun _ _ _ h => h) (.inl ⟨rfl, fun _ hS => by simp [execOp, go_sem, Act.eval]⟩) S0 ?_
    simp only [List.getElem_toArray, List.getElem_cons_succ, List.getElem_cons_zero, Act.put, List.setIfInBounds_toArray, List.set_cons_succ, List.set_cons_zero]
    refine wpAnyH_take (i := 6) (v := (.pointer (some ⟨R, 2, none⟩))) rfl (by kernel_rfl) (by kernel_rfl) (by kernel_rfl) (fun _ _ _ h => h) (.inl ⟨rfl, fun _ hS => by simp [execOp, go_sem, Act.eval]⟩) S0 ?_
    simp only [List.getElem_toArray, List.getElem_cons_succ, List.getElem_cons_zero, Act.put, List.setIfInBounds_toArray, List.set_cons_succ, List.set_cons_zero]
    refine wpAnyH_take (i := 7) (v := (.slice (some ⟨g, 0, none⟩) r.bs.length cap)) rfl (by kernel_rfl) (by kernel_rfl) (by kernel_rfl) (fun _ _ _ h => h) (.inl ⟨rfl, fun _ hS => exec_load rfl rfl (load_bytes _ _ _ _ _ _ (HC2.out _ hS))⟩) S0 ?_
    simp only [List.getElem_toArray, List.getElem_cons_succ, List.getElem_cons_zero, Act.put, List.setIfInBounds_toArray, List.set_cons_succ, List.set_cons_zero]
    refine wpAnyH_take (i := 8) (v := (.int .i64 ((r.bs.length : Nat) : Int))) rfl (by kernel_rfl) (by kernel_rfl) (by kernel_rfl) (fun _ _ _ h => h) (.inl ⟨rfl, fun _ hS => exec_lenB rfl rfl _⟩) S0 ?_
    simp only [List.getElem_toArray, List.getElem_cons_succ, List.getElem_cons_zero, Act.put, List.setIfInBounds_toArray, List.set_cons_succ, List.set_cons_zero]
    refine wpAnyH_take (i := 9) (v := (.int .i64 (sp : Int))) rfl (by kernel_rfl) (by kernel_rfl) (by kernel_rfl) (fun _ _ _ h => h) (.inl ⟨rfl, fun _ hS => rfl⟩) S0 ?_
    simp only [List.getElem_toArray, List.getElem_cons_succ, List.getElem_cons_zero, Act.put, List.setIfInBounds_toArray, List.set_cons_succ, List.set_cons_zero]
    refine wpAnyH_take (i := 10) (v := (.int .i64 (n : Int))) rfl (by kernel_rfl) (by kernel_rfl) (by kernel_rfl) (fun _ _ _ h => h) (.inl ⟨rfl, fun _ hS => exec_subI rfl rfl rfl hLn hL6 _⟩) S0 ?_
    simp only [List.getElem_toArray, List.getElem_cons_succ, List.getElem_cons_zero, Act.put, List.setIfInBounds_toArray, List.set_cons_succ, List.set_cons_zero]
    refine wpAnyH_take (i := 11) (v := (.slice (some ⟨g, 0, none⟩) n cap)) rfl (by kernel_rfl) (by kernel_rfl) (by kernel_rfl) (fun _ _ _ h => h) (.inl ⟨rfl, fun _ hS => exec_cutB rfl rfl rfl hnc _⟩) S0 ?_
    simp only [List.getElem_toArray, List.getElem_cons_succ, List.getElem_cons_zero, Act.put, List.setIfInBounds_toArray, List.set_cons_succ, List.set_cons_zero]
    refine wpAnyH_take (i := 12) (v := (.slice (some ⟨g, 0, none⟩) n cap)) rfl (by kernel_rfl) (by kernel_rfl) (by kernel_rfl) (fun _ _ _ h => h) (.inl ⟨rfl, fun _ hS => rfl⟩) S0 ?_
    simp only [List.getElem_toArray, List.getElem_cons_succ, List.getElem_cons_zero, Act.put, List.setIfInBounds_toArray, List.set_cons_succ, List.set_cons_zero]
    refine wpAnyH_done (by kernel_rfl) ?_ _
    clear S0
    go_wp2_with (first | (go_at_call 44; refine hG.mono ?_; rintro e w3 ⟨rfl, q3, hz3, hp3⟩; have HZ := hidOf2 hz3; have HP := hidOf2 hp3; clear hz3 hp3) | (refine sdF (g := ga) q3 rfl _ _ rfl rfl rfl ?_))
    exact bodyPost_ret (finish_results HZ.out _ rfl rfl) rfl HP.out
  · have d1 : decide ((65536 : Int) < (n : Int)) = false := by simp; omega
    have hC := HCR.out W.drew HD.out
    by_cases c2 : cr = sm
    · have d2 : ((cr : Int) != (sm : Int)) = false := by simp; omega
      have e1 : RS = (some (frm 161 0 0 0), .fin 0 (r.bs.take n)) := by rw [HR.out, if_neg (by intro hh; rcases hh with hh | hh; exact c1 hh; exact hh c2)]
      have hE : Calls Try.prog 34 #[.pointer (some ⟨R, 0, none⟩), .int .u32 0, .slice (some ⟨g, 0, none⟩) n cap] W.drew fun e w' => e = .returned (.tuple #[]) ∧ Qb q F8.nul w' ∧ Qb q (frm 161 0 0 0) (w'.setRow q (frm 161 0 0 0).arr) ∧ RPost w R v RS (.returned (.tuple #[.agg (frm 161 0 0 0).arr, .bool true])) (w'.setRow q (frm 161 0 0 0).arr) := by
        have hE := rend_any HD.out 0 (by decide) (r.bs.take n) (by rw [HTK.out]; omega) (some ⟨g, 0, none⟩) cap (by rw [HTK.out]; exact HOW.out _ HD.out) (by simpa using HNE.out)
        rw [HTK.out] at hE
        refine hE.mono fun e w' hp => ?_
        obtain ⟨he, hr, hk⟩ := hp
        have HH := RPost.fin (res := (some (frm 161 0 0 0), .fin 0 (r.bs.take n))) (e := .returned (ansV (some (frm 161 0 0 0)))) HK.out (fun b hb => .inl hb) HD.out HQ.out hqw ⟨rfl, _, hr, hk.more (by simp [rB]), fun b hb => .inl (by rw [hvb]; exact hb)⟩
        rw [e1]
        exact ⟨he, HH.1, HH.2 _⟩
      have HFA := hidOf2 frm161
      clear HR HGV e1 HCR HOW HTK
      generalize frm 161 0 0 0 = ga at *
      go_enter Try.func36, Try.ntmps36
      go_upto_region 1 with fail
      first | (change Code.wp Try.prog _ _ _ ((w.alloc (.cells f.arr 30)).alloc (.cells zA8 30)); rw [hW0, hW]) | (change Code.wp Try.prog _ _ _ (W0.alloc (.cells zA8 30)); rw [hW]) | (change Code.wp Try.prog _ _ _ W)
      go_upto_region 3 with fail
      refine wp_region_held (S := fun y => Rv R r v y) (by kernel_rfl) ?_
      change wpAnyH _ _ _ _ _ _ _ _ W.drew
      refine wpAnyH_take (i := 0) (v := (.pointer (some ⟨R, 0, none⟩))) rfl (by kernel_rfl) (by kernel_rfl) (by kernel_rfl) (fun _ _ _ h => h) (.inl ⟨rfl, fun _ hS => rfl⟩) S0 ?_
      simp only [List.getElem_toArray, List.getElem_cons_succ, List.getElem_cons_zero, Act.put, List.setIfInBounds_toArray, List.set_cons_succ, List.set_cons_zero]
      refine wpAnyH_take (i := 1) (v := (.pointer (some ⟨R, 0, none⟩))) rfl (by kernel_rfl) (by kernel_rfl) (by kernel_rfl) (fun _ _ _ h => h) (.inl ⟨rfl, fun _ hS => by simp [execOp, go_sem, Act.eval]⟩) S0 ?_
      simp only [List.getElem_toArray, List.getElem_cons_succ, List.getElem_cons_zero, Act.put, List.setIfInBounds_toArray, List.set_cons_succ, List.set_cons_zero]
      refine wpAnyH_take (i := 2) (v := (.pointer (some ⟨R, 2, none⟩))) rfl (by kernel_rfl) (by kernel_rfl) (by kernel_rfl) (fun _ _ _ h => h) (.inl ⟨rfl, fun _ hS => by simp [execOp, go_sem, Act.eval]⟩) S0 ?_
      simp only [List.getElem_toArray, List.getElem_cons_succ, List.getElem_cons_zero, Act.put, List.setIfInBounds_toArray, List.set_cons_succ, List.set_cons_zero]
      refine wpAnyH_take (i := 3) (v := (.slice (some ⟨g, 0, none⟩) r.bs.length cap)) rfl (by kernel_rfl) (by kernel_rfl) (by kernel_rfl) (fun _ _ _ h => h) (.inl ⟨rfl, fun _ hS => exec_load rfl rfl (load_bytes _ _ _ _ _ _ (HC2.out _ hS))⟩) S0 ?_
      simp only [List.getElem_toArray, List.getElem_cons_succ, List.getElem_cons_zero, Act.put, List.setIfInBounds_toArray, List.set_cons_succ, List.set_cons_zero]
      refine wpAnyH_take (i := 4) (v := (.pointer (some ⟨R, 0, none⟩))) rfl (by kernel_rfl) (by kernel_rfl) (by kernel_rfl) (fun _ _ _ h => h) (.inl ⟨rfl, fun _ hS => rfl⟩) S0 ?_
      simp only [List.getElem_toArray, List.getElem_cons_succ, List.getElem_cons_zero, Act.put, List.setIfInBounds_toArray, List.set_cons_succ, List.set_cons_zero]
      refine wpAnyH_take (i := 5) (v := (.pointer (some ⟨R, 0, none⟩))) rfl (by kernel_rfl) (by kernel_rfl) (by kernel_rfl) (fun _ _ _ h => h) (.inl ⟨rfl, fun _ hS => by simp [execOp, go_sem, Act.eval]⟩) S0 ?_
      simp only [List.getElem_toArray, List.getElem_cons_succ, List.getElem_cons_zero, Act.put, List.setIfInBounds_toArray, List.set_cons_succ, List.set_cons_zero]
      refine wpAnyH_take (i := 6) (v := (.pointer (some ⟨R, 2, none⟩))) rfl (by kernel_rfl) (by kernel_rfl) (by kernel_rfl) (fun _ _ _ h => h) (.inl ⟨rfl, fun _ hS => by simp [execOp, go_sem, Act.eval]⟩) S0 ?_
      simp only [List.getElem_toArray, List.getElem_cons_succ, List.getElem_cons_zero, Act.put, List.setIfInBounds_toArray, List.set_cons_succ, List.set_cons_zero]
      refine wpAnyH_take (i := 7) (v := (.slice (some ⟨g, 0, none⟩) r.bs.length cap)) rfl (by kernel_rfl) (by kernel_rfl) (by kernel_rfl) (fun _ _ _ h => h) (.inl ⟨rfl, fun _ hS => exec_load rfl rfl (load_bytes _ _ _ _ _ _ (HC2.out _ hS))⟩) S0 ?_
      simp only [List.getElem_toArray, List.getElem_cons_succ, List.getElem_cons_zero, Act.put, List.setIfInBounds_toArray, List.set_cons_succ, List.set_cons_zero]
      refine wpAnyH_take (i := 8) (v := (.int .i64 ((r.bs.length : Nat) : Int))) rfl (by kernel_rfl) (by kernel_rfl) (by kernel_rfl) (fun _ _ _ h => h) (.inl ⟨rfl, fun _ hS => exec_lenB rfl rfl _⟩) S0 ?_
      simp only [List.getElem_toArray, List.getElem_cons_succ, List.getElem_cons_zero, Act.put, List.setIfInBounds_toArray, List.set_cons_succ, List.set_cons_zero]
      refine wpAnyH_take (i := 9) (v := (.int .i64 (sp : Int))) rfl (by kernel_rfl) (by kernel_rfl) (by kernel_rfl) (fun _ _ _ h => h) (.inl ⟨rfl, fun _ hS => rfl⟩) S0 ?_
      simp only [List.getElem_toArray, List.getElem_cons_succ, List.getElem_cons_zero, Act.put, List.setIfInBounds_toArray, List.set_cons_succ, List.set_cons_zero]
      refine wpAnyH_take (i := 10) (v := (.int .i64 (n : Int))) rfl (by kernel_rfl) (by kernel_rfl) (by kernel_rfl) (fun _ _ _ h => h) (.inl ⟨rfl, fun _ hS => exec_subI rfl rfl rfl hLn hL6 _⟩) S0 ?_
      simp only [List.getElem_toArray, List.getElem_cons_succ, List.getElem_cons_zero, Act.put, List.setIfInBounds_toArray, List.set_cons_succ, List.set_cons_zero]
      refine wpAnyH_take (i := 11) (v := (.slice (some ⟨g, 0, none⟩) n cap)) rfl (by kernel_rfl) (by kernel_rfl) (by kernel_rfl) (fun _ _ _ h => h) (.inl ⟨rfl, fun _ hS => exec_cutB rfl rfl rfl hnc _⟩) S0 ?_
      simp only [List.getElem_toArray, List.getElem_cons_succ, List.getElem_cons_zero, Act.put, List.setIfInBounds_toArray, List.set_cons_succ, List.set_cons_zero]
      refine wpAnyH_take (i := 12) (v := (.slice (some ⟨g, 0, none⟩) n cap)) rfl (by kernel_rfl) (by kernel_rfl) (by kernel_rfl) (fun _ _ _ h => h) (.inl ⟨rfl, fun _ hS => rfl⟩) S0 ?_
      simp only [List.getElem_toArray, List.getElem_cons_succ, List.getElem_cons_zero, Act.put, List.setIfInBounds_toArray, List.set_cons_succ, List.set_cons_zero]
      refine wpAnyH_done (by kernel_rfl) ?_ _
      clear S0
      go_wp2_with (first | (go_at_call 45; refine hC.mono ?_; rintro e w2 ⟨rfl, hw2⟩; rw [hw2]; clear hw2 w2) | (go_at_call 34; refine hE.mono ?_; rintro e w3 ⟨rfl, q3, hz3, hp3⟩; have HZ := hidOf2 hz3; have HP := hidOf2 hp3; clear hz3 hp3) | (refine sdF (g := ga) q3 rfl _ _ rfl rfl (by rw [HFA.out]; first | rfl | (simp [Act.eval]; done)) ?_))
      exact bodyPost_ret (finish_results HZ.out _ rfl rfl) rfl HP.out
    · have d2 : ((cr : Int) != (sm : Int)) = true := by simp; omega
      have hG := HGV.out (by rw [HR.out, if_pos (.inr c2)])
      clear HR HGV HCR HOW HTK
      generalize frm 128 0 0 84148228 = ga at *
      go_enter Try.func36, Try.ntmps36
      go_upto_region 1 with fail
      first | (change Code.wp Try.prog _ _ _ ((w.alloc (.cells f.arr 30)).alloc (.cells zA8 30)); rw [hW0, hW]) | (change Code.wp Try.prog _ _ _ (W0.alloc (.cells zA8 30)); rw [hW]) | (change Code.wp Try.prog _ _ _ W)
      go_upto_region 3 with fail
      refine wp_region_held (S := fun y => Rv R r v y) (by kernel_rfl) ?_
      change wpAnyH _ _ _ _ _ _ _ _ W.drew
      refine wpAnyH_take (i := 0) (v := (.pointer (some ⟨R, 0, none⟩))) rfl (by kernel_rfl) (by kernel_rfl) (by kernel_rfl) (fun _ _ _ h => h) (.inl ⟨rfl, fun _ hS => rfl⟩) S0 ?_
      simp only [List.getElem_toArray, List.getElem_cons_succ, List.getElem_cons_zero, Act.put, List.setIfInBounds_toArray, List.set_cons_succ, List.set_cons_zero]
      refine wpAnyH_take (i := 1) (v := (.pointer (some ⟨R, 0, none⟩))) rfl (by kernel_rfl) (by kernel_rfl) (by kernel_rfl) (fun _ _ _ h => h) (.inl ⟨rfl, fun _ hS => by simp [execOp, go_sem, Act.eval]⟩) S0 ?_
      simp only [List.getElem_toArray, List.getElem_cons_succ, List.getElem_cons_zero, Act.put, List.setIfInBounds_toArray, List.set_cons_succ, List.set_cons_zero]
      refine wpAnyH_take (i := 2) (v := (.pointer (some ⟨R, 2, none⟩))) rfl (by kernel_rfl) (by kernel_rfl) (by kernel_rfl) (fun _ _ _ h => h) (.inl ⟨rfl, fun _ hS => by simp [execOp, go_sem, Act.eval]⟩) S0 ?_
      simp only [List.getElem_toArray, List.getElem_cons_succ, List.getElem_cons_zero, Act.put, List.setIfInBounds_toArray, List.set_cons_succ, List.set_cons_zero]
      refine wpAnyH_take (i := 3) (v := (.slice (some ⟨g, 0, none⟩) r.bs.length cap)) rfl (by kernel_rfl) (by kernel_rfl) (by kernel_rfl) (fun _ _ _ h => h) (.inl ⟨rfl, fun _ hS => exec_load rfl rfl (load_bytes _ _ _ _ _ _ (HC2.out _ hS))⟩) S0 ?_
      simp only [List.getElem_toArray, List.getElem_cons_succ, List.getElem_cons_zero, Act.put, List.setIfInBounds_toArray, List.set_cons_succ, List.set_cons_zero]
      refine wpAnyH_take (i := 4) (v := (.pointer (some ⟨R, 0, none⟩))) rfl (by kernel_rfl) (by kernel_rfl) (by kernel_rfl) (fun _ _ _ h => h) (.inl ⟨rfl, fun _ hS => rfl⟩) S0 ?_
      simp only [List.getElem_toArray, List.getElem_cons_succ, List.getElem_cons_zero, Act.put, List.setIfInBounds_toArray, List.set_cons_succ, List.set_cons_zero]
      refine wpAnyH_take (i := 5) (v := (.pointer (some ⟨R, 0, none⟩))) rfl (by kernel_rfl) (by kernel_rfl) (by kernel_rfl) (fun _ _ _ h => h) (.inl ⟨rfl, fun _ hS => by simp [execOp, go_sem, Act.eval]⟩) S0 ?_
      simp only [List.getElem_toArray, List.getElem_cons_succ, List.getElem_cons_zero, Act.put, List.setIfInBounds_toArray, List.set_cons_succ, List.set_cons_zero]
      refine wpAnyH_take (i := 6) (v := (.pointer (some ⟨R, 2, none⟩))) rfl (by kernel_rfl) (by kernel_rfl) (by kernel_rfl) (fun _ _ _ h => h) (.inl ⟨rfl, fun _ hS => by simp [execOp, go_sem, Act.eval]⟩) S0 ?_
      simp only [List.getElem_toArray, List.getElem_cons_succ, List.getElem_cons_zero, Act.put, List.setIfInBounds_toArray, List.set_cons_succ, List.set_cons_zero]
      refine wpAnyH_take (i := 7) (v := (.slice (some ⟨g, 0, none⟩) r.bs.length cap)) rfl (by kernel_rfl) (by kernel_rfl) (by kernel_rfl) (fun _ _ _ h => h) (.inl ⟨rfl, fun _ hS => exec_load rfl rfl (load_bytes _ _ _ _ _ _ (HC2.out _ hS))⟩) S0 ?_
      simp only [List.getElem_toArray, List.getElem_cons_succ, List.getElem_cons_zero, Act.put, List.setIfInBounds_toArray, List.set_cons_succ, List.set_cons_zero]
      refine wpAnyH_take (i := 8) (v := (.int .i64 ((r.bs.length : Nat) : Int))) rfl (by kernel_rfl) (by kernel_rfl) (by kernel_rfl) (fun _ _ _ h => h) (.inl ⟨rfl, fun _ hS => exec_lenB rfl rfl _⟩) S0 ?_
      simp only [List.getElem_toArray, List.getElem_cons_succ, List.getElem_cons_zero, Act.put, List.setIfInBounds_toArray, List.set_cons_succ, List.set_cons_zero]
      refine wpAnyH_take (i := 9) (v := (.int .i64 (sp : Int))) rfl (by kernel_rfl) (by kernel_rfl) (by kernel_rfl) (fun _ _ _ h => h) (.inl ⟨rfl, fun _ hS => rfl⟩) S0 ?_
      simp only [List.getElem_toArray, List.getElem_cons_succ, List.getElem_cons_zero, Act.put, List.setIfInBounds_toArray, List.set_cons_succ, List.set_cons_zero]
      refine wpAnyH_take (i := 10) (v := (.int .i64 (n : Int))) rfl (by kernel_rfl) (by kernel_rfl) (by kernel_rfl) (fun _ _ _ h => h) (.inl ⟨rfl, fun _ hS => exec_subI rfl rfl rfl hLn hL6 _⟩) S0 ?_
      simp only [List.getElem_toArray, List.getElem_cons_succ, List.getElem_cons_zero, Act.put, List.setIfInBounds_toArray, List.set_cons_succ, List.set_cons_zero]
      refine wpAnyH_take (i := 11) (v := (.slice (some ⟨g, 0, none⟩) n cap)) rfl (by kernel_rfl) (by kernel_rfl) (by kernel_rfl) (fun _ _ _ h => h) (.inl ⟨rfl, fun _ hS => exec_cutB rfl rfl rfl hnc _⟩) S0 ?_
      simp only [List.getElem_toArray, List.getElem_cons_succ, List.getElem_cons_zero, Act.put, List.setIfInBounds_toArray, List.set_cons_succ, List.set_cons_zero]
      refine wpAnyH_take (i := 12) (v := (.slice (some ⟨g, 0, none⟩) n cap)) rfl (by kernel_rfl) (by kernel_rfl) (by kernel_rfl) (fun _ _ _ h => h) (.inl ⟨rfl, fun _ hS => rfl⟩) S0 ?_
      simp only [List.getElem_toArray, List.getElem_cons_succ, List.getElem_cons_zero, Act.put, List.setIfInBounds_toArray, List.set_cons_succ, List.set_cons_zero]
      refine wpAnyH_done (by kernel_rfl) ?_ _
      clear S0
      go_wp2_with (first | (go_at_call 45; refine hC.mono ?_; rintro e w2 ⟨rfl, hw2⟩; rw [hw2]; clear hw2 w2) | (go_at_call 44; refine hG.mono ?_; rintro e w3 ⟨rfl, q3, hz3, hp3⟩; have HZ := hidOf2 hz3; have HP := hidOf2 hp3; clear hz3 hp3) | (refine sdF (g := ga) q3 rfl _ _ rfl rfl rfl ?_))
      exact bodyPost_ret (finish_results HZ.out _ rfl rfl) rfl HP.out
end
end Go.Proofs.Ytebjofkblfmkmaa
