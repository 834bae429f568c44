/- The law TypesEncodes returns true whatever comes in. -/
import Derived.Test.YtffajokpfobalaaTy8
import Derived.OrdersHeld
import Derived.Deep.Cut
import Derived.Deep.CutRange
import Derived.Test.YtffajokpfobalaaTyD
import Derived.Test.YtffajokpfobalaaTyL
import Derived.Test.YtffajokpfobalaaTyLa
namespace Go.Proofs.Ytffajokpfobalaa.Tv
open Go.RowKit Go.Proofs.Ty
set_option linter.unusedVariables false
set_option maxRecDepth 1000000
set_option linter.unusedSimpArgs false

theorem wpOp_run {ops : Array Oper} {Q : Exit → Act → World → Prop} {K : Act → World → Prop} {a : Act} {w : World} {i : Nat} {o : Oper} (hi : ops[i]? = some o) (hg : o.guard = none) (h : o.wp Try.prog a w K Q) : wpOp Try.prog ops Q i K a w := by
  unfold Go.wpOp
  simp only [hi]
  rw [if_pos (by simp [Region.wanted, hg])]
  exact .inl h
theorem wp_call_fn {o : Oper} {a : Act} {w : World} {K : Act → World → Prop} {Q : Exit → Act → World → Prop} (g : Nat) (args : Array Value) (hr : (execOp a.eval o).run Try.prog w = .ok (.enter g args) w)
    (h : Calls Try.prog g args w fun
      | .returned v, w'' => K (a.put o.dst v) w''
      | .panicked chain, w'' => Q (.panic chain) a w''
      | .outgrown, _ => LetsOut Q) : o.wp Try.prog a w K Q := by
  unfold Oper.wp
  rw [hr]
  exact h
theorem exec_load {a : Act} {o : Oper} {x : Operand} {ty : TypeId} {ad : Addr} {v : Value} {w : World} (ho : o.op = .load ty x) (hx : a.eval x = .pointer (some ad)) (hr : (loadVar ty ad).run Try.prog w = .ok v w) :
    (execOp a.eval o).run Try.prog w = .ok (.value v) w := by
  unfold execOp
  simp only [ho, hx, Instr.loadAt, Instr.sureAddr, Sem.run_bind, Sem.run_pure, Result.andThen_ok, hr]
theorem load_u64 (x : World) (D k : Nat) (z : Int) (hc : x.cell? ⟨D, k, none⟩ = some (.int .u64 z)) : (loadVar 22 ⟨D, k, none⟩).run Try.prog x = .ok (.int .u64 z) x := by
  simp [go_sem, run_underlying Try.underlying22, hc]
theorem load_int (x : World) (D k : Nat) (z : Int) (hc : x.cell? ⟨D, k, none⟩ = some (.int .i64 z)) : (loadVar 3 ⟨D, k, none⟩).run Try.prog x = .ok (.int .i64 z) x := by
  simp [go_sem, run_underlying Try.underlying3, hc]
theorem enterLow : ∀ args x, (callFunc 13 args).run Try.prog x = .ok (.enter 13 args) x := fun _ _ => by rfl
theorem enterWide : ∀ args x, (callFunc 24 args).run Try.prog x = .ok (.enter 24 args) x := fun _ _ => by rfl
/-- A number told by its bytes. -/
def wv (v : Vl) : Nat := wideN (kind v.t == 2) (lowL v.n (siz v.t))
set_option maxHeartbeats 2000000 in
theorem r7Check_ne (v : Vl) (hz : 0 < siz v.t) (hne : wv v ≠ v.n) (w : World) :
    Calls Try.prog 11 #[.agg v.arr] w fun e w' => e = .returned (.int .i64 (1)) ∧ Below w.heap.size w w' := by
  have fA := Va.new w v
  have bA : Below w.heap.size w (w.alloc (.cells v.arr 24)) := (Below.refl _ _).alloc (Nat.le_refl _) _
  have hI := r7Is_any v.t
  have hS7 := r7Size_any v.t
  have hk : (kind v.t != 0) = true := by
    have := siz_zero v.t
    simp
    omega
  rw [hk] at hI
  have h8 := siz_le v.t
  have hLow := fun w => r7low_any v.n (siz v.t) h8 w
  have hWide := fun x w => r7Wide_v v.t x (lowL v.n (siz v.t)) w (by rw [lowL_length]; exact h8)
  have hwv : wideN (kind v.t == 2) (lowL v.n (siz v.t)) = wv v := rfl
  rw [hwv] at hWide
  obtain ⟨W, hW⟩ : ∃ W, w.alloc (.cells v.arr 24) = W := ⟨_, rfl⟩
  obtain ⟨q, hq⟩ : ∃ q, w.heap.size = q := ⟨_, rfl⟩
  rw [hW, hq] at fA
  rw [hW] at bA
  have c0 := fA.c0
  have dz : decide ((0 : Int) < (siz v.t : Int)) = true := decide_eq_true (by omega)
  have hne : (((wv v : Nat) : Int) != (v.n : Int)) = true := by simp; omega
  clear hk hwv
  generalize wv v = V at *
  generalize siz v.t = z at *
  go_enter Try.func11, Try.ntmps11
  go_upto_region 5 with (first | (go_at_call 23; refine (hI _).mono ?_; rintro e w1 ⟨rfl, rfl⟩) | (go_at_call 12; refine (hS7 _).mono ?_; rintro e w1 ⟨rfl, rfl⟩))
  refine wp_region_held (S := fun x => Va q v x) (by kernel_rfl) ?_
  obtain ⟨y, hy⟩ : ∃ y : World, { w1 with drawn := w1.drawn + 1 } = y := ⟨_, rfl⟩
  rw [hy]
  have f1 : Va q v y := by rw [← hy]; exact fA
  have B1 : Below q w y := by rw [← hy, ← hq]; exact ⟨bA.os, bA.tape, bA.output, bA.size, bA.block⟩
  clear hy hW fA bA hI hS7 c0
  refine wpAnyH_take (i := 0) (v := (.pointer (some ⟨q, 0, none⟩))) rfl (by kernel_rfl) (by kernel_rfl) (by kernel_rfl) (fun _ _ _ h => h) (.inl ⟨rfl, fun _ hS => by simp [execOp, go_sem, Act.eval]⟩) f1 ?_
  simp only [List.getElem_toArray, List.getElem_cons_succ, List.getElem_cons_zero, Act.put, List.setIfInBounds_toArray, List.set_cons_succ, List.set_cons_zero]
  refine wpAnyH_take (i := 1) (v := (.int .i64 v.t)) rfl (by kernel_rfl) (by kernel_rfl) (by kernel_rfl) (fun _ _ _ h => h) (.inl ⟨rfl, fun _ hS => exec_load rfl rfl (load_int _ q 0 _ hS.c0)⟩) f1 ?_
  simp only [List.getElem_toArray, List.getElem_cons_succ, List.getElem_cons_zero, Act.put, List.setIfInBounds_toArray, List.set_cons_succ, List.set_cons_zero]
  refine wpAnyH_take (i := 2) (v := (.pointer (some ⟨q, 1, none⟩))) rfl (by kernel_rfl) (by kernel_rfl) (by kernel_rfl) (fun _ _ _ h => h) (.inl ⟨rfl, fun _ hS => by simp [execOp, go_sem, Act.eval]⟩) f1 ?_
  simp only [List.getElem_toArray, List.getElem_cons_succ, List.getElem_cons_zero, Act.put, List.setIfInBounds_toArray, List.set_cons_succ, List.set_cons_zero]
  refine wpAnyH_take (i := 3) (v := (.int .u64 v.n)) rfl (by kernel_rfl) (by kernel_rfl) (by kernel_rfl) (fun _ _ _ h => h) (.inl ⟨rfl, fun _ hS => exec_load rfl rfl (load_u64 _ q 1 _ hS.c1)⟩) f1 ?_
  simp only [List.getElem_toArray, List.getElem_cons_succ, List.getElem_cons_zero, Act.put, List.setIfInBounds_toArray, List.set_cons_succ, List.set_cons_zero]
  refine wpAnyH_take (i := 4) (v := (.int .i64 z)) rfl (by kernel_rfl) (by kernel_rfl) (by kernel_rfl) (fun _ _ _ h => h) (.inl ⟨rfl, fun _ hS => rfl⟩) f1 ?_
  simp only [List.getElem_toArray, List.getElem_cons_succ, List.getElem_cons_zero, Act.put, List.setIfInBounds_toArray, List.set_cons_succ, List.set_cons_zero]
  refine wpAnyH_take (i := 7) (v := (.pointer (some ⟨q, 1, none⟩))) rfl (by kernel_rfl) (by kernel_rfl) (by kernel_rfl) (fun _ _ _ h => h) (.inl ⟨rfl, fun _ hS => by simp [execOp, go_sem, Act.eval]⟩) f1 ?_
  simp only [List.getElem_toArray, List.getElem_cons_succ, List.getElem_cons_zero, Act.put, List.setIfInBounds_toArray, List.set_cons_succ, List.set_cons_zero]
  refine wpAnyH_take (i := 8) (v := (.int .u64 v.n)) rfl (by kernel_rfl) (by kernel_rfl) (by kernel_rfl) (fun _ _ _ h => h) (.inl ⟨rfl, fun _ hS => exec_load rfl rfl (load_u64 _ q 1 _ hS.c1)⟩) f1 ?_
  simp only [List.getElem_toArray, List.getElem_cons_succ, List.getElem_cons_zero, Act.put, List.setIfInBounds_toArray, List.set_cons_succ, List.set_cons_zero]
  refine wpAnyH_all (rs := [5]) (by kernel_rfl) (by simp) ?_
  intro k hk
  simp only [List.mem_cons, List.mem_nil_iff, or_false] at hk
  subst hk
  refine wpOp_run rfl rfl (wp_call_fn 13 #[.int .u64 v.n, .int .i64 z] (by simp [execOp, go_sem, Act.eval, resolve, invoke, enterLow]) ((hLow _).mono ?_))
  rintro e w2 ⟨x, rfl, hB2, b2⟩
  have f2 := f1.below b2
  have B2 := B1.trans (b2.mono (by have := f1.lt; omega))
  have hWd := hWide x w2 hB2
  refine ⟨f2, ?_⟩
  simp only [List.getElem_toArray, List.getElem_cons_succ, List.getElem_cons_zero, Act.put, List.setIfInBounds_toArray, List.set_cons_succ, List.set_cons_zero]
  refine wpAnyH_all (rs := [6]) (by kernel_rfl) (by simp) ?_
  intro k hk
  simp only [List.mem_cons, List.mem_nil_iff, or_false] at hk
  subst hk
  refine wpOp_run rfl rfl (wp_call_fn 24 #[.int .i64 v.t, x] (by simp [execOp, go_sem, Act.eval, resolve, invoke, enterWide]) (hWd.mono ?_))
  rintro e w2 ⟨rfl, rfl⟩
  refine ⟨f2, ?_⟩
  simp only [List.getElem_toArray, List.getElem_cons_succ, List.getElem_cons_zero, Act.put, List.setIfInBounds_toArray, List.set_cons_succ, List.set_cons_zero]
  refine wpAnyH_take (i := 9) (v := (.bool true)) rfl (by kernel_rfl) (by kernel_rfl) (by kernel_rfl) (fun _ _ _ h => h) (.inl ⟨rfl, fun _ hS => by simp [execOp, go_sem, Act.eval, run_underlying Try.underlying22, run_underlying Try.underlying3, run_underlying Try.underlying4, hne]⟩) f2 ?_
  simp only [List.getElem_toArray, List.getElem_cons_succ, List.getElem_cons_zero, Act.put, List.setIfInBounds_toArray, List.set_cons_succ, List.set_cons_zero]
  refine wpAnyH_take (i := 10) (v := (.bool true)) rfl (by kernel_rfl) (by kernel_rfl) (by kernel_rfl) (fun _ _ _ h => h) (.inl ⟨rfl, fun _ hS => rfl⟩) f2 ?_
  simp only [List.getElem_toArray, List.getElem_cons_succ, List.getElem_cons_zero, Act.put, List.setIfInBounds_toArray, List.set_cons_succ, List.set_cons_zero]
  refine wpAnyH_take (i := 11) (v := undef) rfl (by kernel_rfl) (by kernel_rfl) (by kernel_rfl) (fun _ _ _ h => h) (.inr ⟨rfl, rfl⟩) f2 ?_
  simp only [List.getElem_toArray, List.getElem_cons_succ, List.getElem_cons_zero, Act.put, List.setIfInBounds_toArray, List.set_cons_succ, List.set_cons_zero]
  refine wpAnyH_take (i := 12) (v := undef) rfl (by kernel_rfl) (by kernel_rfl) (by kernel_rfl) (fun _ _ _ h => h) (.inr ⟨rfl, rfl⟩) f2 ?_
  simp only [List.getElem_toArray, List.getElem_cons_succ, List.getElem_cons_zero, Act.put, List.setIfInBounds_toArray, List.set_cons_succ, List.set_cons_zero]
  refine wpAnyH_take (i := 13) (v := undef) rfl (by kernel_rfl) (by kernel_rfl) (by kernel_rfl) (fun _ _ _ h => h) (.inr ⟨rfl, rfl⟩) f2 ?_
  simp only [List.getElem_toArray, List.getElem_cons_succ, List.getElem_cons_zero, Act.put, List.setIfInBounds_toArray, List.set_cons_succ, List.set_cons_zero]
  refine wpAnyH_take (i := 14) (v := undef) rfl (by kernel_rfl) (by kernel_rfl) (by kernel_rfl) (fun _ _ _ h => h) (.inr ⟨rfl, rfl⟩) f2 ?_
  simp only [List.getElem_toArray, List.getElem_cons_succ, List.getElem_cons_zero, Act.put, List.setIfInBounds_toArray, List.set_cons_succ, List.set_cons_zero]
  refine wpAnyH_take (i := 15) (v := undef) rfl (by kernel_rfl) (by kernel_rfl) (by kernel_rfl) (fun _ _ _ h => h) (.inr ⟨rfl, rfl⟩) f2 ?_
  simp only [List.getElem_toArray, List.getElem_cons_succ, List.getElem_cons_zero, Act.put, List.setIfInBounds_toArray, List.set_cons_succ, List.set_cons_zero]
  refine wpAnyH_take (i := 16) (v := undef) rfl (by kernel_rfl) (by kernel_rfl) (by kernel_rfl) (fun _ _ _ h => h) (.inr ⟨rfl, rfl⟩) f2 ?_
  simp only [List.getElem_toArray, List.getElem_cons_succ, List.getElem_cons_zero, Act.put, List.setIfInBounds_toArray, List.set_cons_succ, List.set_cons_zero]
  refine wpAnyH_take (i := 17) (v := undef) rfl (by kernel_rfl) (by kernel_rfl) (by kernel_rfl) (fun _ _ _ h => h) (.inr ⟨rfl, rfl⟩) f2 ?_
  simp only [List.getElem_toArray, List.getElem_cons_succ, List.getElem_cons_zero, Act.put, List.setIfInBounds_toArray, List.set_cons_succ, List.set_cons_zero]
  refine wpAnyH_take (i := 18) (v := undef) rfl (by kernel_rfl) (by kernel_rfl) (by kernel_rfl) (fun _ _ _ h => h) (.inr ⟨rfl, rfl⟩) f2 ?_
  simp only [List.getElem_toArray, List.getElem_cons_succ, List.getElem_cons_zero, Act.put, List.setIfInBounds_toArray, List.set_cons_succ, List.set_cons_zero]
  refine wpAnyH_take (i := 19) (v := (.bool true)) rfl (by kernel_rfl) (by kernel_rfl) (by kernel_rfl) (fun _ _ _ h => h) (.inl ⟨rfl, fun _ hS => by simp [execOp, go_sem, Act.eval, run_underlying Try.underlying22, run_underlying Try.underlying3, run_underlying Try.underlying4, hne]⟩) f2 ?_
  simp only [List.getElem_toArray, List.getElem_cons_succ, List.getElem_cons_zero, Act.put, List.setIfInBounds_toArray, List.set_cons_succ, List.set_cons_zero]
  refine wpAnyH_done (by kernel_rfl) ?_ _
  go_wp2
  go_ret
  exact ⟨rfl, by rw [hq]; exact B2⟩
set_option maxHeartbeats 2000000 in
theorem r7Check_other (v : Vl) (hz : 0 < siz v.t) (heq : wv v = v.n) (h1 : v.t ≠ 1) (w : World) :
    Calls Try.prog 11 #[.agg v.arr] w fun e w' => e = .returned (.int .i64 (0)) ∧ Below w.heap.size w w' := by
  have fA := Va.new w v
  have bA : Below w.heap.size w (w.alloc (.cells v.arr 24)) := (Below.refl _ _).alloc (Nat.le_refl _) _
  have hI := r7Is_any v.t
  have hS7 := r7Size_any v.t
  have hk : (kind v.t != 0) = true := by
    have := siz_zero v.t
    simp
    omega
  rw [hk] at hI
  have h8 := siz_le v.t
  have hLow := fun w => r7low_any v.n (siz v.t) h8 w
  have hWide := fun x w => r7Wide_v v.t x (lowL v.n (siz v.t)) w (by rw [lowL_length]; exact h8)
  have hwv : wideN (kind v.t == 2) (lowL v.n (siz v.t)) = wv v := rfl
  rw [hwv] at hWide
  obtain ⟨W, hW⟩ : ∃ W, w.alloc (.cells v.arr 24) = W := ⟨_, rfl⟩
  obtain ⟨q, hq⟩ : ∃ q, w.heap.size = q := ⟨_, rfl⟩
  rw [hW, hq] at fA
  rw [hW] at bA
  have c0 := fA.c0
  have dz : decide ((0 : Int) < (siz v.t : Int)) = true := decide_eq_true (by omega)
  have hne : (((wv v : Nat) : Int) != (v.n : Int)) = false := by simp; omega
  have ht1 : (v.t == 1) = false := by simpa using h1
  clear hk hwv
  generalize wv v = V at *
  generalize siz v.t = z at *
  go_enter Try.func11, Try.ntmps11
  go_upto_region 5 with (first | (go_at_call 23; refine (hI _).mono ?_; rintro e w1 ⟨rfl, rfl⟩) | (go_at_call 12; refine (hS7 _).mono ?_; rintro e w1 ⟨rfl, rfl⟩))
  refine wp_region_held (S := fun x => Va q v x) (by kernel_rfl) ?_
  obtain ⟨y, hy⟩ : ∃ y : World, { w1 with drawn := w1.drawn + 1 } = y := ⟨_, rfl⟩
  rw [hy]
  have f1 : Va q v y := by rw [← hy]; exact fA
  have B1 : Below q w y := by rw [← hy, ← hq]; exact ⟨bA.os, bA.tape, bA.output, bA.size, bA.block⟩
  clear hy hW fA bA hI hS7 c0
  refine wpAnyH_take (i := 0) (v := (.pointer (some ⟨q, 0, none⟩))) rfl (by kernel_rfl) (by kernel_rfl) (by kernel_rfl) (fun _ _ _ h => h) (.inl ⟨rfl, fun _ hS => by simp [execOp, go_sem, Act.eval]⟩) f1 ?_
  simp only [List.getElem_toArray, List.getElem_cons_succ, List.getElem_cons_zero, Act.put, List.setIfInBounds_toArray, List.set_cons_succ, List.set_cons_zero]
  refine wpAnyH_take (i := 1) (v := (.int .i64 v.t)) rfl (by kernel_rfl) (by kernel_rfl) (by kernel_rfl) (fun _ _ _ h => h) (.inl ⟨rfl, fun _ hS => exec_load rfl rfl (load_int _ q 0 _ hS.c0)⟩) f1 ?_
  simp only [List.getElem_toArray, List.getElem_cons_succ, List.getElem_cons_zero, Act.put, List.setIfInBounds_toArray, List.set_cons_succ, List.set_cons_zero]
  refine wpAnyH_take (i := 2) (v := (.pointer (some ⟨q, 1, none⟩))) rfl (by kernel_rfl) (by kernel_rfl) (by kernel_rfl) (fun _ _ _ h => h) (.inl ⟨rfl, fun _ hS => by simp [execOp, go_sem, Act.eval]⟩) f1 ?_
  simp only [List.getElem_toArray, List.getElem_cons_succ, List.getElem_cons_zero, Act.put, List.setIfInBounds_toArray, List.set_cons_succ, List.set_cons_zero]
  refine wpAnyH_take (i := 3) (v := (.int .u64 v.n)) rfl (by kernel_rfl) (by kernel_rfl) (by kernel_rfl) (fun _ _ _ h => h) (.inl ⟨rfl, fun _ hS => exec_load rfl rfl (load_u64 _ q 1 _ hS.c1)⟩) f1 ?_
  simp only [List.getElem_toArray, List.getElem_cons_succ, List.getElem_cons_zero, Act.put, List.setIfInBounds_toArray, List.set_cons_succ, List.set_cons_zero]
  refine wpAnyH_take (i := 4) (v := (.int .i64 z)) rfl (by kernel_rfl) (by kernel_rfl) (by kernel_rfl) (fun _ _ _ h => h) (.inl ⟨rfl, fun _ hS => rfl⟩) f1 ?_
  simp only [List.getElem_toArray, List.getElem_cons_succ, List.getElem_cons_zero, Act.put, List.setIfInBounds_toArray, List.set_cons_succ, List.set_cons_zero]
  refine wpAnyH_take (i := 7) (v := (.pointer (some ⟨q, 1, none⟩))) rfl (by kernel_rfl) (by kernel_rfl) (by kernel_rfl) (fun _ _ _ h => h) (.inl ⟨rfl, fun _ hS => by simp [execOp, go_sem, Act.eval]⟩) f1 ?_
  simp only [List.getElem_toArray, List.getElem_cons_succ, List.getElem_cons_zero, Act.put, List.setIfInBounds_toArray, List.set_cons_succ, List.set_cons_zero]
  refine wpAnyH_take (i := 8) (v := (.int .u64 v.n)) rfl (by kernel_rfl) (by kernel_rfl) (by kernel_rfl) (fun _ _ _ h => h) (.inl ⟨rfl, fun _ hS => exec_load rfl rfl (load_u64 _ q 1 _ hS.c1)⟩) f1 ?_
  simp only [List.getElem_toArray, List.getElem_cons_succ, List.getElem_cons_zero, Act.put, List.setIfInBounds_toArray, List.set_cons_succ, List.set_cons_zero]
  refine wpAnyH_all (rs := [5]) (by kernel_rfl) (by simp) ?_
  intro k hk
  simp only [List.mem_cons, List.mem_nil_iff, or_false] at hk
  subst hk
  refine wpOp_run rfl rfl (wp_call_fn 13 #[.int .u64 v.n, .int .i64 z] (by simp [execOp, go_sem, Act.eval, resolve, invoke, enterLow]) ((hLow _).mono ?_))
  rintro e w2 ⟨x, rfl, hB2, b2⟩
  have f2 := f1.below b2
  have B2 := B1.trans (b2.mono (by have := f1.lt; omega))
  have hWd := hWide x w2 hB2
  refine ⟨f2, ?_⟩
  simp only [List.getElem_toArray, List.getElem_cons_succ, List.getElem_cons_zero, Act.put, List.setIfInBounds_toArray, List.set_cons_succ, List.set_cons_zero]
  refine wpAnyH_all (rs := [6]) (by kernel_rfl) (by simp) ?_
  intro k hk
  simp only [List.mem_cons, List.mem_nil_iff, or_false] at hk
  subst hk
  refine wpOp_run rfl rfl (wp_call_fn 24 #[.int .i64 v.t, x] (by simp [execOp, go_sem, Act.eval, resolve, invoke, enterWide]) (hWd.mono ?_))
  rintro e w2 ⟨rfl, rfl⟩
  refine ⟨f2, ?_⟩
  simp only [List.getElem_toArray, List.getElem_cons_succ, List.getElem_cons_zero, Act.put, List.setIfInBounds_toArray, List.set_cons_succ, List.set_cons_zero]
  refine wpAnyH_take (i := 9) (v := (.bool false)) rfl (by kernel_rfl) (by kernel_rfl) (by kernel_rfl) (fun _ _ _ h => h) (.inl ⟨rfl, fun _ hS => by simp [execOp, go_sem, Act.eval, run_underlying Try.underlying22, run_underlying Try.underlying3, run_underlying Try.underlying4, hne]⟩) f2 ?_
  simp only [List.getElem_toArray, List.getElem_cons_succ, List.getElem_cons_zero, Act.put, List.setIfInBounds_toArray, List.set_cons_succ, List.set_cons_zero]
  refine wpAnyH_take (i := 10) (v := (.bool false)) rfl (by kernel_rfl) (by kernel_rfl) (by kernel_rfl) (fun _ _ _ h => h) (.inl ⟨rfl, fun _ hS => rfl⟩) f2 ?_
  simp only [List.getElem_toArray, List.getElem_cons_succ, List.getElem_cons_zero, Act.put, List.setIfInBounds_toArray, List.set_cons_succ, List.set_cons_zero]
  refine wpAnyH_take (i := 11) (v := (.pointer (some ⟨q, 0, none⟩))) rfl (by kernel_rfl) (by kernel_rfl) (by kernel_rfl) (fun _ _ _ h => h) (.inl ⟨rfl, fun _ hS => by simp [execOp, go_sem, Act.eval]⟩) f2 ?_
  simp only [List.getElem_toArray, List.getElem_cons_succ, List.getElem_cons_zero, Act.put, List.setIfInBounds_toArray, List.set_cons_succ, List.set_cons_zero]
  refine wpAnyH_take (i := 12) (v := (.int .i64 v.t)) rfl (by kernel_rfl) (by kernel_rfl) (by kernel_rfl) (fun _ _ _ h => h) (.inl ⟨rfl, fun _ hS => exec_load rfl rfl (load_int _ q 0 _ hS.c0)⟩) f2 ?_
  simp only [List.getElem_toArray, List.getElem_cons_succ, List.getElem_cons_zero, Act.put, List.setIfInBounds_toArray, List.set_cons_succ, List.set_cons_zero]
  refine wpAnyH_take (i := 13) (v := (.bool false)) rfl (by kernel_rfl) (by kernel_rfl) (by kernel_rfl) (fun _ _ _ h => h) (.inl ⟨rfl, fun _ hS => by simp [execOp, go_sem, Act.eval, run_underlying Try.underlying22, run_underlying Try.underlying3, run_underlying Try.underlying4, ht1]⟩) f2 ?_
  simp only [List.getElem_toArray, List.getElem_cons_succ, List.getElem_cons_zero, Act.put, List.setIfInBounds_toArray, List.set_cons_succ, List.set_cons_zero]
  refine wpAnyH_take (i := 14) (v := (.bool false)) rfl (by kernel_rfl) (by kernel_rfl) (by kernel_rfl) (fun _ _ _ h => h) (.inl ⟨rfl, fun _ hS => rfl⟩) f2 ?_
  simp only [List.getElem_toArray, List.getElem_cons_succ, List.getElem_cons_zero, Act.put, List.setIfInBounds_toArray, List.set_cons_succ, List.set_cons_zero]
  refine wpAnyH_take (i := 15) (v := undef) rfl (by kernel_rfl) (by kernel_rfl) (by kernel_rfl) (fun _ _ _ h => h) (.inr ⟨rfl, rfl⟩) f2 ?_
  simp only [List.getElem_toArray, List.getElem_cons_succ, List.getElem_cons_zero, Act.put, List.setIfInBounds_toArray, List.set_cons_succ, List.set_cons_zero]
  refine wpAnyH_take (i := 16) (v := undef) rfl (by kernel_rfl) (by kernel_rfl) (by kernel_rfl) (fun _ _ _ h => h) (.inr ⟨rfl, rfl⟩) f2 ?_
  simp only [List.getElem_toArray, List.getElem_cons_succ, List.getElem_cons_zero, Act.put, List.setIfInBounds_toArray, List.set_cons_succ, List.set_cons_zero]
  refine wpAnyH_take (i := 17) (v := undef) rfl (by kernel_rfl) (by kernel_rfl) (by kernel_rfl) (fun _ _ _ h => h) (.inr ⟨rfl, rfl⟩) f2 ?_
  simp only [List.getElem_toArray, List.getElem_cons_succ, List.getElem_cons_zero, Act.put, List.setIfInBounds_toArray, List.set_cons_succ, List.set_cons_zero]
  refine wpAnyH_take (i := 18) (v := (.bool false)) rfl (by kernel_rfl) (by kernel_rfl) (by kernel_rfl) (fun _ _ _ h => h) (.inl ⟨rfl, fun _ hS => by simp [execOp, go_sem, Act.eval, run_underlying Try.underlying22, run_underlying Try.underlying3, run_underlying Try.underlying4, ht1]⟩) f2 ?_
  simp only [List.getElem_toArray, List.getElem_cons_succ, List.getElem_cons_zero, Act.put, List.setIfInBounds_toArray, List.set_cons_succ, List.set_cons_zero]
  refine wpAnyH_take (i := 19) (v := (.bool false)) rfl (by kernel_rfl) (by kernel_rfl) (by kernel_rfl) (fun _ _ _ h => h) (.inl ⟨rfl, fun _ hS => by simp [execOp, go_sem, Act.eval, run_underlying Try.underlying22, run_underlying Try.underlying3, run_underlying Try.underlying4, ht1]⟩) f2 ?_
  simp only [List.getElem_toArray, List.getElem_cons_succ, List.getElem_cons_zero, Act.put, List.setIfInBounds_toArray, List.set_cons_succ, List.set_cons_zero]
  refine wpAnyH_done (by kernel_rfl) ?_ _
  go_wp2
  go_ret
  exact ⟨rfl, by rw [hq]; exact B2⟩
end Go.Proofs.Ytffajokpfobalaa.Tv
namespace Go.Proofs.Ytffajokpfobalaa.Tv
open Go.RowKit Go.Proofs.Ty
set_option linter.unusedVariables false
set_option maxRecDepth 1000000
set_option linter.unusedSimpArgs false
set_option maxHeartbeats 2000000 in
theorem r7Check_b1 (v : Vl) (hz : 0 < siz v.t) (heq : wv v = v.n) (h1 : v.t = 1) (hn : 1 < v.n) (w : World) :
    Calls Try.prog 11 #[.agg v.arr] w fun e w' => e = .returned (.int .i64 (1)) ∧ Below w.heap.size w w' := by
  have fA := Va.new w v
  have bA : Below w.heap.size w (w.alloc (.cells v.arr 24)) := (Below.refl _ _).alloc (Nat.le_refl _) _
  have hI := r7Is_any v.t
  have hS7 := r7Size_any v.t
  have hk : (kind v.t != 0) = true := by
    have := siz_zero v.t
    simp
    omega
  rw [hk] at hI
  have h8 := siz_le v.t
  have hLow := fun w => r7low_any v.n (siz v.t) h8 w
  have hWide := fun x w => r7Wide_v v.t x (lowL v.n (siz v.t)) w (by rw [lowL_length]; exact h8)
  have hwv : wideN (kind v.t == 2) (lowL v.n (siz v.t)) = wv v := rfl
  rw [hwv] at hWide
  obtain ⟨W, hW⟩ : ∃ W, w.alloc (.cells v.arr 24) = W := ⟨_, rfl⟩
  obtain ⟨q, hq⟩ : ∃ q, w.heap.size = q := ⟨_, rfl⟩
  rw [hW, hq] at fA
  rw [hW] at bA
  have c0 := fA.c0
  have dz : decide ((0 : Int) < (siz v.t : Int)) = true := decide_eq_true (by omega)
  have hne : (((wv v : Nat) : Int) != (v.n : Int)) = false := by simp; omega
  have ht1 : (v.t == 1) = true := by simpa using h1
  have hbb : decide ((1 : Int) < (v.n : Int)) = true := decide_eq_true (by omega)
  clear h1 heq hn
  clear hk hwv
  generalize wv v = V at *
  generalize siz v.t = z at *
  go_enter Try.func11, Try.ntmps11
  go_upto_region 5 with (first | (go_at_call 23; refine (hI _).mono ?_; rintro e w1 ⟨rfl, rfl⟩) | (go_at_call 12; refine (hS7 _).mono ?_; rintro e w1 ⟨rfl, rfl⟩))
  refine wp_region_held (S := fun x => Va q v x) (by kernel_rfl) ?_
  obtain ⟨y, hy⟩ : ∃ y : World, { w1 with drawn := w1.drawn + 1 } = y := ⟨_, rfl⟩
  rw [hy]
  have f1 : Va q v y := by rw [← hy]; exact fA
  have B1 : Below q w y := by rw [← hy, ← hq]; exact ⟨bA.os, bA.tape, bA.output, bA.size, bA.block⟩
  clear hy hW fA bA hI hS7 c0
  refine wpAnyH_take (i := 0) (v := (.pointer (some ⟨q, 0, none⟩))) rfl (by kernel_rfl) (by kernel_rfl) (by kernel_rfl) (fun _ _ _ h => h) (.inl ⟨rfl, fun _ hS => by simp [execOp, go_sem, Act.eval]⟩) f1 ?_
  simp only [List.getElem_toArray, List.getElem_cons_succ, List.getElem_cons_zero, Act.put, List.setIfInBounds_toArray, List.set_cons_succ, List.set_cons_zero]
  refine wpAnyH_take (i := 1) (v := (.int .i64 v.t)) rfl (by kernel_rfl) (by kernel_rfl) (by kernel_rfl) (fun _ _ _ h => h) (.inl ⟨rfl, fun _ hS => exec_load rfl rfl (load_int _ q 0 _ hS.c0)⟩) f1 ?_
  simp only [List.getElem_toArray, List.getElem_cons_succ, List.getElem_cons_zero, Act.put, List.setIfInBounds_toArray, List.set_cons_succ, List.set_cons_zero]
  refine wpAnyH_take (i := 2) (v := (.pointer (some ⟨q, 1, none⟩))) rfl (by kernel_rfl) (by kernel_rfl) (by kernel_rfl) (fun _ _ _ h => h) (.inl ⟨rfl, fun _ hS => by simp [execOp, go_sem, Act.eval]⟩) f1 ?_
  simp only [List.getElem_toArray, List.getElem_cons_succ, List.getElem_cons_zero, Act.put, List.setIfInBounds_toArray, List.set_cons_succ, List.set_cons_zero]
  refine wpAnyH_take (i := 3) (v := (.int .u64 v.n)) rfl (by kernel_rfl) (by kernel_rfl) (by kernel_rfl) (fun _ _ _ h => h) (.inl ⟨rfl, fun _ hS => exec_load rfl rfl (load_u64 _ q 1 _ hS.c1)⟩) f1 ?_
  simp only [List.getElem_toArray, List.getElem_cons_succ, List.getElem_cons_zero, Act.put, List.setIfInBounds_toArray, List.set_cons_succ, List.set_cons_zero]
  refine wpAnyH_take (i := 4) (v := (.int .i64 z)) rfl (by kernel_rfl) (by kernel_rfl) (by kernel_rfl) (fun _ _ _ h => h) (.inl ⟨rfl, fun _ hS => rfl⟩) f1 ?_
  simp only [List.getElem_toArray, List.getElem_cons_succ, List.getElem_cons_zero, Act.put, List.setIfInBounds_toArray, List.set_cons_succ, List.set_cons_zero]
  refine wpAnyH_take (i := 7) (v := (.pointer (some ⟨q, 1, none⟩))) rfl (by kernel_rfl) (by kernel_rfl) (by kernel_rfl) (fun _ _ _ h => h) (.inl ⟨rfl, fun _ hS => by simp [execOp, go_sem, Act.eval]⟩) f1 ?_
  simp only [List.getElem_toArray, List.getElem_cons_succ, List.getElem_cons_zero, Act.put, List.setIfInBounds_toArray, List.set_cons_succ, List.set_cons_zero]
  refine wpAnyH_take (i := 8) (v := (.int .u64 v.n)) rfl (by kernel_rfl) (by kernel_rfl) (by kernel_rfl) (fun _ _ _ h => h) (.inl ⟨rfl, fun _ hS => exec_load rfl rfl (load_u64 _ q 1 _ hS.c1)⟩) f1 ?_
  simp only [List.getElem_toArray, List.getElem_cons_succ, List.getElem_cons_zero, Act.put, List.setIfInBounds_toArray, List.set_cons_succ, List.set_cons_zero]
  refine wpAnyH_all (rs := [5]) (by kernel_rfl) (by simp) ?_
  intro k hk
  simp only [List.mem_cons, List.mem_nil_iff, or_false] at hk
  subst hk
  refine wpOp_run rfl rfl (wp_call_fn 13 #[.int .u64 v.n, .int .i64 z] (by simp [execOp, go_sem, Act.eval, resolve, invoke, enterLow]) ((hLow _).mono ?_))
  rintro e w2 ⟨x, rfl, hB2, b2⟩
  have f2 := f1.below b2
  have B2 := B1.trans (b2.mono (by have := f1.lt; omega))
  have hWd := hWide x w2 hB2
  refine ⟨f2, ?_⟩
  simp only [List.getElem_toArray, List.getElem_cons_succ, List.getElem_cons_zero, Act.put, List.setIfInBounds_toArray, List.set_cons_succ, List.set_cons_zero]
  refine wpAnyH_all (rs := [6]) (by kernel_rfl) (by simp) ?_
  intro k hk
  simp only [List.mem_cons, List.mem_nil_iff, or_false] at hk
  subst hk
  refine wpOp_run rfl rfl (wp_call_fn 24 #[.int .i64 v.t, x] (by simp [execOp, go_sem, Act.eval, resolve, invoke, enterWide]) (hWd.mono ?_))
  rintro e w2 ⟨rfl, rfl⟩
  refine ⟨f2, ?_⟩
  simp only [List.getElem_toArray, List.getElem_cons_succ, List.getElem_cons_zero, Act.put, List.setIfInBounds_toArray, List.set_cons_succ, List.set_cons_zero]
  refine wpAnyH_take (i := 9) (v := (.bool false)) rfl (by kernel_rfl) (by kernel_rfl) (by kernel_rfl) (fun _ _ _ h => h) (.inl ⟨rfl, fun _ hS => by simp [execOp, go_sem, Act.eval, run_underlying Try.underlying22, run_underlying Try.underlying3, run_underlying Try.underlying4, hne]⟩) f2 ?_
  simp only [List.getElem_toArray, List.getElem_cons_succ, List.getElem_cons_zero, Act.put, List.setIfInBounds_toArray, List.set_cons_succ, List.set_cons_zero]
  refine wpAnyH_take (i := 10) (v := (.bool false)) rfl (by kernel_rfl) (by kernel_rfl) (by kernel_rfl) (fun _ _ _ h => h) (.inl ⟨rfl, fun _ hS => rfl⟩) f2 ?_
  simp only [List.getElem_toArray, List.getElem_cons_succ, List.getElem_cons_zero, Act.put, List.setIfInBounds_toArray, List.set_cons_succ, List.set_cons_zero]
  refine wpAnyH_take (i := 11) (v := (.pointer (some ⟨q, 0, none⟩))) rfl (by kernel_rfl) (by kernel_rfl) (by kernel_rfl) (fun _ _ _ h => h) (.inl ⟨rfl, fun _ hS => by simp [execOp, go_sem, Act.eval]⟩) f2 ?_
  simp only [List.getElem_toArray, List.getElem_cons_succ, List.getElem_cons_zero, Act.put, List.setIfInBounds_toArray, List.set_cons_succ, List.set_cons_zero]
  refine wpAnyH_take (i := 12) (v := (.int .i64 v.t)) rfl (by kernel_rfl) (by kernel_rfl) (by kernel_rfl) (fun _ _ _ h => h) (.inl ⟨rfl, fun _ hS => exec_load rfl rfl (load_int _ q 0 _ hS.c0)⟩) f2 ?_
  simp only [List.getElem_toArray, List.getElem_cons_succ, List.getElem_cons_zero, Act.put, List.setIfInBounds_toArray, List.set_cons_succ, List.set_cons_zero]
  refine wpAnyH_take (i := 13) (v := (.bool true)) rfl (by kernel_rfl) (by kernel_rfl) (by kernel_rfl) (fun _ _ _ h => h) (.inl ⟨rfl, fun _ hS => by simp [execOp, go_sem, Act.eval, run_underlying Try.underlying22, run_underlying Try.underlying3, run_underlying Try.underlying4, ht1]⟩) f2 ?_
  simp only [List.getElem_toArray, List.getElem_cons_succ, List.getElem_cons_zero, Act.put, List.setIfInBounds_toArray, List.set_cons_succ, List.set_cons_zero]
  refine wpAnyH_take (i := 14) (v := (.bool true)) rfl (by kernel_rfl) (by kernel_rfl) (by kernel_rfl) (fun _ _ _ h => h) (.inl ⟨rfl, fun _ hS => rfl⟩) f2 ?_
  simp only [List.getElem_toArray, List.getElem_cons_succ, List.getElem_cons_zero, Act.put, List.setIfInBounds_toArray, List.set_cons_succ, List.set_cons_zero]
  refine wpAnyH_take (i := 15) (v := (.pointer (some ⟨q, 1, none⟩))) rfl (by kernel_rfl) (by kernel_rfl) (by kernel_rfl) (fun _ _ _ h => h) (.inl ⟨rfl, fun _ hS => by simp [execOp, go_sem, Act.eval]⟩) f2 ?_
  simp only [List.getElem_toArray, List.getElem_cons_succ, List.getElem_cons_zero, Act.put, List.setIfInBounds_toArray, List.set_cons_succ, List.set_cons_zero]
  refine wpAnyH_take (i := 16) (v := (.int .u64 v.n)) rfl (by kernel_rfl) (by kernel_rfl) (by kernel_rfl) (fun _ _ _ h => h) (.inl ⟨rfl, fun _ hS => exec_load rfl rfl (load_u64 _ q 1 _ hS.c1)⟩) f2 ?_
  simp only [List.getElem_toArray, List.getElem_cons_succ, List.getElem_cons_zero, Act.put, List.setIfInBounds_toArray, List.set_cons_succ, List.set_cons_zero]
  refine wpAnyH_take (i := 17) (v := (.bool true)) rfl (by kernel_rfl) (by kernel_rfl) (by kernel_rfl) (fun _ _ _ h => h) (.inl ⟨rfl, fun _ hS => by simp [execOp, go_sem, Act.eval, run_underlying Try.underlying22, run_underlying Try.underlying3, run_underlying Try.underlying4, hbb]⟩) f2 ?_
  simp only [List.getElem_toArray, List.getElem_cons_succ, List.getElem_cons_zero, Act.put, List.setIfInBounds_toArray, List.set_cons_succ, List.set_cons_zero]
  refine wpAnyH_take (i := 18) (v := (.bool true)) rfl (by kernel_rfl) (by kernel_rfl) (by kernel_rfl) (fun _ _ _ h => h) (.inl ⟨rfl, fun _ hS => by simp [execOp, go_sem, Act.eval, run_underlying Try.underlying22, run_underlying Try.underlying3, run_underlying Try.underlying4, hbb]⟩) f2 ?_
  simp only [List.getElem_toArray, List.getElem_cons_succ, List.getElem_cons_zero, Act.put, List.setIfInBounds_toArray, List.set_cons_succ, List.set_cons_zero]
  refine wpAnyH_take (i := 19) (v := (.bool true)) rfl (by kernel_rfl) (by kernel_rfl) (by kernel_rfl) (fun _ _ _ h => h) (.inl ⟨rfl, fun _ hS => by simp [execOp, go_sem, Act.eval, run_underlying Try.underlying22, run_underlying Try.underlying3, run_underlying Try.underlying4, hbb]⟩) f2 ?_
  simp only [List.getElem_toArray, List.getElem_cons_succ, List.getElem_cons_zero, Act.put, List.setIfInBounds_toArray, List.set_cons_succ, List.set_cons_zero]
  refine wpAnyH_done (by kernel_rfl) ?_ _
  go_wp2
  go_ret
  exact ⟨rfl, by rw [hq]; exact B2⟩
set_option maxHeartbeats 2000000 in
theorem r7Check_b0 (v : Vl) (hz : 0 < siz v.t) (heq : wv v = v.n) (h1 : v.t = 1) (hn : ¬ 1 < v.n) (w : World) :
    Calls Try.prog 11 #[.agg v.arr] w fun e w' => e = .returned (.int .i64 (0)) ∧ Below w.heap.size w w' := by
  have fA := Va.new w v
  have bA : Below w.heap.size w (w.alloc (.cells v.arr 24)) := (Below.refl _ _).alloc (Nat.le_refl _) _
  have hI := r7Is_any v.t
  have hS7 := r7Size_any v.t
  have hk : (kind v.t != 0) = true := by
    have := siz_zero v.t
    simp
    omega
  rw [hk] at hI
  have h8 := siz_le v.t
  have hLow := fun w => r7low_any v.n (siz v.t) h8 w
  have hWide := fun x w => r7Wide_v v.t x (lowL v.n (siz v.t)) w (by rw [lowL_length]; exact h8)
  have hwv : wideN (kind v.t == 2) (lowL v.n (siz v.t)) = wv v := rfl
  rw [hwv] at hWide
  obtain ⟨W, hW⟩ : ∃ W, w.alloc (.cells v.arr 24) = W := ⟨_, rfl⟩
  obtain ⟨q, hq⟩ : ∃ q, w.heap.size = q := ⟨_, rfl⟩
  rw [hW, hq] at fA
  rw [hW] at bA
  have c0 := fA.c0
  have dz : decide ((0 : Int) < (siz v.t : Int)) = true := decide_eq_true (by omega)
  have hne : (((wv v : Nat) : Int) != (v.n : Int)) = false := by simp; omega
  have ht1 : (v.t == 1) = true := by simpa using h1
  have hbb : decide ((1 : Int) < (v.n : Int)) = false := decide_eq_false (by omega)
  clear h1 heq hn
  clear hk hwv
  generalize wv v = V at *
  generalize siz v.t = z at *
  go_enter Try.func11, Try.ntmps11
  go_upto_region 5 with (first | (go_at_call 23; refine (hI _).mono ?_; rintro e w1 ⟨rfl, rfl⟩) | (go_at_call 12; refine (hS7 _).mono ?_; rintro e w1 ⟨rfl, rfl⟩))
  refine wp_region_held (S := fun x => Va q v x) (by kernel_rfl) ?_
  obtain ⟨y, hy⟩ : ∃ y : World, { w1 with drawn := w1.drawn + 1 } = y := ⟨_, rfl⟩
  rw [hy]
  have f1 : Va q v y := by rw [← hy]; exact fA
  have B1 : Below q w y := by rw [← hy, ← hq]; exact ⟨bA.os, bA.tape, bA.output, bA.size, bA.block⟩
  clear hy hW fA bA hI hS7 c0
  refine wpAnyH_take (i := 0) (v := (.pointer (some ⟨q, 0, none⟩))) rfl (by kernel_rfl) (by kernel_rfl) (by kernel_rfl) (fun _ _ _ h => h) (.inl ⟨rfl, fun _ hS => by simp [execOp, go_sem, Act.eval]⟩) f1 ?_
  simp only [List.getElem_toArray, List.getElem_cons_succ, List.getElem_cons_zero, Act.put, List.setIfInBounds_toArray, List.set_cons_succ, List.set_cons_zero]
  refine wpAnyH_take (i := 1) (v := (.int .i64 v.t)) rfl (by kernel_rfl) (by kernel_rfl) (by kernel_rfl) (fun _ _ _ h => h) (.inl ⟨rfl, fun _ hS => exec_load rfl rfl (load_int _ q 0 _ hS.c0)⟩) f1 ?_
  simp only [List.getElem_toArray, List.getElem_cons_succ, List.getElem_cons_zero, Act.put, List.setIfInBounds_toArray, List.set_cons_succ, List.set_cons_zero]
  refine wpAnyH_take (i := 2) (v := (.pointer (some ⟨q, 1, none⟩))) rfl (by kernel_rfl) (by kernel_rfl) (by kernel_rfl) (fun _ _ _ h => h) (.inl ⟨rfl, fun _ hS => by simp [execOp, go_sem, Act.eval]⟩) f1 ?_
  simp only [List.getElem_toArray, List.getElem_cons_succ, List.getElem_cons_zero, Act.put, List.setIfInBounds_toArray, List.set_cons_succ, List.set_cons_zero]
  refine wpAnyH_take (i := 3) (v := (.int .u64 v.n)) rfl (by kernel_rfl) (by kernel_rfl) (by kernel_rfl) (fun _ _ _ h => h) (.inl ⟨rfl, fun _ hS => exec_load rfl rfl (load_u64 _ q 1 _ hS.c1)⟩) f1 ?_
  simp only [List.getElem_toArray, List.getElem_cons_succ, List.getElem_cons_zero, Act.put, List.setIfInBounds_toArray, List.set_cons_succ, List.set_cons_zero]
  refine wpAnyH_take (i := 4) (v := (.int .i64 z)) rfl (by kernel_rfl) (by kernel_rfl) (by kernel_rfl) (fun _ _ _ h => h) (.inl ⟨rfl, fun _ hS => rfl⟩) f1 ?_
  simp only [List.getElem_toArray, List.getElem_cons_succ, List.getElem_cons_zero, Act.put, List.setIfInBounds_toArray, List.set_cons_succ, List.set_cons_zero]
  refine wpAnyH_take (i := 7) (v := (.pointer (some ⟨q, 1, none⟩))) rfl (by kernel_rfl) (by kernel_rfl) (by kernel_rfl) (fun _ _ _ h => h) (.inl ⟨rfl, fun _ hS => by simp [execOp, go_sem, Act.eval]⟩) f1 ?_
  simp only [List.getElem_toArray, List.getElem_cons_succ, List.getElem_cons_zero, Act.put, List.setIfInBounds_toArray, List.set_cons_succ, List.set_cons_zero]
  refine wpAnyH_take (i := 8) (v := (.int .u64 v.n)) rfl (by kernel_rfl) (by kernel_rfl) (by kernel_rfl) (fun _ _ _ h => h) (.inl ⟨rfl, fun _ hS => exec_load rfl rfl (load_u64 _ q 1 _ hS.c1)⟩) f1 ?_
  simp only [List.getElem_toArray, List.getElem_cons_succ, List.getElem_cons_zero, Act.put, List.setIfInBounds_toArray, List.set_cons_succ, List.set_cons_zero]
  refine wpAnyH_all (rs := [5]) (by kernel_rfl) (by simp) ?_
  intro k hk
  simp only [List.mem_cons, List.mem_nil_iff, or_false] at hk
  subst hk
  refine wpOp_run rfl rfl (wp_call_fn 13 #[.int .u64 v.n, .int .i64 z] (by simp [execOp, go_sem, Act.eval, resolve, invoke, enterLow]) ((hLow _).mono ?_))
  rintro e w2 ⟨x, rfl, hB2, b2⟩
  have f2 := f1.below b2
  have B2 := B1.trans (b2.mono (by have := f1.lt; omega))
  have hWd := hWide x w2 hB2
  refine ⟨f2, ?_⟩
  simp only [List.getElem_toArray, List.getElem_cons_succ, List.getElem_cons_zero, Act.put, List.setIfInBounds_toArray, List.set_cons_succ, List.set_cons_zero]
  refine wpAnyH_all (rs := [6]) (by kernel_rfl) (by simp) ?_
  intro k hk
  simp only [List.mem_cons, List.mem_nil_iff, or_false] at hk
  subst hk
  refine wpOp_run rfl rfl (wp_call_fn 24 #[.int .i64 v.t, x] (by simp [execOp, go_sem, Act.eval, resolve, invoke, enterWide]) (hWd.mono ?_))
  rintro e w2 ⟨rfl, rfl⟩
  refine ⟨f2, ?_⟩
  simp only [List.getElem_toArray, List.getElem_cons_succ, List.getElem_cons_zero, Act.put, List.setIfInBounds_toArray, List.set_cons_succ, List.set_cons_zero]
  refine wpAnyH_take (i := 9) (v := (.bool false)) rfl (by kernel_rfl) (by kernel_rfl) (by kernel_rfl) (fun _ _ _ h => h) (.inl ⟨rfl, fun _ hS => by simp [execOp, go_sem, Act.eval, run_underlying Try.underlying22, run_underlying Try.underlying3, run_underlying Try.underlying4, hne]⟩) f2 ?_
  simp only [List.getElem_toArray, List.getElem_cons_succ, List.getElem_cons_zero, Act.put, List.setIfInBounds_toArray, List.set_cons_succ, List.set_cons_zero]
  refine wpAnyH_take (i := 10) (v := (.bool false)) rfl (by kernel_rfl) (by kernel_rfl) (by kernel_rfl) (fun _ _ _ h => h) (.inl ⟨rfl, fun _ hS => rfl⟩) f2 ?_
  simp only [List.getElem_toArray, List.getElem_cons_succ, List.getElem_cons_zero, Act.put, List.setIfInBounds_toArray, List.set_cons_succ, List.set_cons_zero]
  refine wpAnyH_take (i := 11) (v := (.pointer (some ⟨q, 0, none⟩))) rfl (by kernel_rfl) (by kernel_rfl) (by kernel_rfl) (fun _ _ _ h => h) (.inl ⟨rfl, fun _ hS => by simp [execOp, go_sem, Act.eval]⟩) f2 ?_
  simp only [List.getElem_toArray, List.getElem_cons_succ, List.getElem_cons_zero, Act.put, List.setIfInBounds_toArray, List.set_cons_succ, List.set_cons_zero]
  refine wpAnyH_take (i := 12) (v := (.int .i64 v.t)) rfl (by kernel_rfl) (by kernel_rfl) (by kernel_rfl) (fun _ _ _ h => h) (.inl ⟨rfl, fun _ hS => exec_load rfl rfl (load_int _ q 0 _ hS.c0)⟩) f2 ?_
  simp only [List.getElem_toArray, List.getElem_cons_succ, List.getElem_cons_zero, Act.put, List.setIfInBounds_toArray, List.set_cons_succ, List.set_cons_zero]
  refine wpAnyH_take (i := 13) (v := (.bool true)) rfl (by kernel_rfl) (by kernel_rfl) (by kernel_rfl) (fun _ _ _ h => h) (.inl ⟨rfl, fun _ hS => by simp [execOp, go_sem, Act.eval, run_underlying Try.underlying22, run_underlying Try.underlying3, run_underlying Try.underlying4, ht1]⟩) f2 ?_
  simp only [List.getElem_toArray, List.getElem_cons_succ, List.getElem_cons_zero, Act.put, List.setIfInBounds_toArray, List.set_cons_succ, List.set_cons_zero]
  refine wpAnyH_take (i := 14) (v := (.bool true)) rfl (by kernel_rfl) (by kernel_rfl) (by kernel_rfl) (fun _ _ _ h => h) (.inl ⟨rfl, fun _ hS => rfl⟩) f2 ?_
  simp only [List.getElem_toArray, List.getElem_cons_succ, List.getElem_cons_zero, Act.put, List.setIfInBounds_toArray, List.set_cons_succ, List.set_cons_zero]
  refine wpAnyH_take (i := 15) (v := (.pointer (some ⟨q, 1, none⟩))) rfl (by kernel_rfl) (by kernel_rfl) (by kernel_rfl) (fun _ _ _ h => h) (.inl ⟨rfl, fun _ hS => by simp [execOp, go_sem, Act.eval]⟩) f2 ?_
  simp only [List.getElem_toArray, List.getElem_cons_succ, List.getElem_cons_zero, Act.put, List.setIfInBounds_toArray, List.set_cons_succ, List.set_cons_zero]
  refine wpAnyH_take (i := 16) (v := (.int .u64 v.n)) rfl (by kernel_rfl) (by kernel_rfl) (by kernel_rfl) (fun _ _ _ h => h) (.inl ⟨rfl, fun _ hS => exec_load rfl rfl (load_u64 _ q 1 _ hS.c1)⟩) f2 ?_
  simp only [List.getElem_toArray, List.getElem_cons_succ, List.getElem_cons_zero, Act.put, List.setIfInBounds_toArray, List.set_cons_succ, List.set_cons_zero]
  refine wpAnyH_take (i := 17) (v := (.bool false)) rfl (by kernel_rfl) (by kernel_rfl) (by kernel_rfl) (fun _ _ _ h => h) (.inl ⟨rfl, fun _ hS => by simp [execOp, go_sem, Act.eval, run_underlying Try.underlying22, run_underlying Try.underlying3, run_underlying Try.underlying4, hbb]⟩) f2 ?_
  simp only [List.getElem_toArray, List.getElem_cons_succ, List.getElem_cons_zero, Act.put, List.setIfInBounds_toArray, List.set_cons_succ, List.set_cons_zero]
  refine wpAnyH_take (i := 18) (v := (.bool false)) rfl (by kernel_rfl) (by kernel_rfl) (by kernel_rfl) (fun _ _ _ h => h) (.inl ⟨rfl, fun _ hS => by simp [execOp, go_sem, Act.eval, run_underlying Try.underlying22, run_underlying Try.underlying3, run_underlying Try.underlying4, hbb]⟩) f2 ?_
  simp only [List.getElem_toArray, List.getElem_cons_succ, List.getElem_cons_zero, Act.put, List.setIfInBounds_toArray, List.set_cons_succ, List.set_cons_zero]
  refine wpAnyH_take (i := 19) (v := (.bool false)) rfl (by kernel_rfl) (by kernel_rfl) (by kernel_rfl) (fun _ _ _ h => h) (.inl ⟨rfl, fun _ hS => by simp [execOp, go_sem, Act.eval, run_underlying Try.underlying22, run_underlying Try.underlying3, run_underlying Try.underlying4, hbb]⟩) f2 ?_
  simp only [List.getElem_toArray, List.getElem_cons_succ, List.getElem_cons_zero, Act.put, List.setIfInBounds_toArray, List.set_cons_succ, List.set_cons_zero]
  refine wpAnyH_done (by kernel_rfl) ?_ _
  go_wp2
  go_ret
  exact ⟨rfl, by rw [hq]; exact B2⟩
end Go.Proofs.Ytffajokpfobalaa.Tv
namespace Go.Proofs.Ytffajokpfobalaa.Tv
open Go.RowKit Go.Proofs.Ty
set_option linter.unusedVariables false
set_option maxRecDepth 1000000

theorem low_last (n k : Nat) : ((lowL n (k + 1)).getLast?.getD 0).toNat = n / 256 ^ k % 256 := by
  rw [lowL_snoc, List.getLast?_concat]
  show (UInt8.ofNat (n / 256 ^ k)).toNat = _
  rw [ofNat_toNat]
theorem wide_low (n z : Nat) (b : Nat) (h : (z = 1 ∧ b = 8) ∨ (z = 2 ∧ b = 16) ∨ (z = 4 ∧ b = 32) ∨ (z = 8 ∧ b = 64)) : wideN true (lowL n z) = extN b n := by
  rcases h with ⟨rfl, rfl⟩ | ⟨rfl, rfl⟩ | ⟨rfl, rfl⟩ | ⟨rfl, rfl⟩
  · unfold wideN extN
    rw [lowL_length, join_low, low_last n 0]
    by_cases h : n % 2 ^ 8 < 2 ^ (8 - 1)
    · rw [if_pos h, if_neg (by omega)]
    · rw [if_neg h, if_pos ⟨rfl, by omega, by omega⟩]
  · unfold wideN extN
    rw [lowL_length, join_low, low_last n 1]
    by_cases h : n % 2 ^ 16 < 2 ^ (16 - 1)
    · rw [if_pos h, if_neg (by omega)]
    · rw [if_neg h, if_pos ⟨rfl, by omega, by omega⟩]
  · unfold wideN extN
    rw [lowL_length, join_low, low_last n 3]
    by_cases h : n % 2 ^ 32 < 2 ^ (32 - 1)
    · rw [if_pos h, if_neg (by omega)]
    · rw [if_neg h, if_pos ⟨rfl, by omega, by omega⟩]
  · unfold wideN extN
    rw [lowL_length, join_low, low_last n 7]
    by_cases h : n % 2 ^ 64 < 2 ^ (64 - 1)
    · rw [if_pos h, if_neg (by omega)]
    · rw [if_neg h, if_pos ⟨rfl, by omega, by omega⟩]
theorem sz2 {t : Int} (h : kind t = 2) : (siz t = 1 ∧ wid t = 8) ∨ (siz t = 2 ∧ wid t = 16) ∨ (siz t = 4 ∧ wid t = 32) ∨ (siz t = 8 ∧ wid t = 64) := by
  unfold kind at h; unfold siz wid; (repeat' split at h) <;> (repeat' split) <;> omega
theorem sz1 {t : Int} (h : kind t = 1) (h1 : t ≠ 1) : (siz t = 1 ∧ wid t = 8) ∨ (siz t = 2 ∧ wid t = 16) ∨ (siz t = 4 ∧ wid t = 32) ∨ (siz t = 8 ∧ wid t = 64) := by
  unfold kind at h; unfold siz wid; (repeat' split at h) <;> (repeat' split) <;> omega
theorem wv_signed {v : Vl} (h : kind v.t = 2) : wv v = extN (wid v.t) v.n := by
  unfold wv
  rw [h]
  exact wide_low _ _ _ (sz2 h)
theorem wv_unsigned {v : Vl} (h : kind v.t = 1) : wv v = v.n % 256 ^ siz v.t := by
  unfold wv wideN
  rw [h, if_neg (by simp), join_low]
theorem chk_num2 {v : Vl} (h : kind v.t = 2) : v.chk = if wv v = v.n then 0 else 1 := by
  unfold Vl.chk chk
  rw [if_neg (by omega), if_pos h, wv_signed h]
theorem chk_num1 {v : Vl} (h : kind v.t = 1) (h1 : v.t ≠ 1) : v.chk = if wv v = v.n then 0 else 1 := by
  unfold Vl.chk chk
  rw [if_pos h, wv_unsigned h]
  rcases sz1 h h1 with ⟨e1, e2⟩ | ⟨e1, e2⟩ | ⟨e1, e2⟩ | ⟨e1, e2⟩ <;> rw [e1, e2] <;> rfl
theorem chk_bool {v : Vl} (h : v.t = 1) : v.chk = if wv v = v.n ∧ ¬ 1 < v.n then 0 else 1 := by
  have hk : kind v.t = 1 := by rw [h]; rfl
  have hw : wid v.t = 1 := by rw [h]; rfl
  have hs : siz v.t = 1 := by rw [h]; rfl
  unfold Vl.chk chk
  rw [if_pos hk, wv_unsigned hk, hw, hs]
  by_cases hn : v.n % 2 ^ 1 = v.n
  · rw [if_pos hn, if_pos (by omega)]
  · rw [if_neg hn, if_neg (by omega)]
theorem r7Check_num (v : Vl) (hz : 0 < siz v.t) (w : World) :
    Calls Try.prog 11 #[.agg v.arr] w fun e w' => e = .returned (.int .i64 v.chk) ∧ Below w.heap.size w w' := by
  have hk : kind v.t = 1 ∨ kind v.t = 2 := by
    have := siz_zero v.t
    omega
  by_cases he : wv v = v.n
  · by_cases h1 : v.t = 1
    · by_cases hn : 1 < v.n
      · have := r7Check_b1 v hz he h1 hn w
        rw [chk_bool h1, if_neg (fun h => h.2 hn)]
        exact this
      · have := r7Check_b0 v hz he h1 hn w
        rw [chk_bool h1, if_pos ⟨he, hn⟩]
        exact this
    · have := r7Check_other v hz he h1 w
      have e : v.chk = 0 := by
        rcases hk with hk | hk
        · rw [chk_num1 hk h1, if_pos he]
        · rw [chk_num2 hk, if_pos he]
      rw [e]
      exact this
  · have := r7Check_ne v hz he w
    have e : v.chk = 1 := by
      by_cases h1 : v.t = 1
      · rw [chk_bool h1, if_neg (fun h => he h.1)]
      · rcases hk with hk | hk
        · rw [chk_num1 hk h1, if_neg he]
        · rw [chk_num2 hk, if_neg he]
    rw [e]
    exact this
set_option maxHeartbeats 1000000 in
theorem r7Check_txt (v : Vl) (hz : ¬ 0 < siz v.t) (w : World) :
    Calls Try.prog 11 #[.agg v.arr] w fun e w' => e = .returned (.int .i64 v.chk) ∧ Below w.heap.size w w' := by
  have fA := Va.new w v
  have bA : Below w.heap.size w (w.alloc (.cells v.arr 24)) := (Below.refl _ _).alloc (Nat.le_refl _) _
  have hI := r7Is_any v.t
  have hS7 := r7Size_any v.t
  have hk := siz_zero v.t
  have hz0 : siz v.t = 0 := by omega
  rw [hz0] at hS7
  have HT := hidOf (kind_text v.t)
  have HV : Hid (v.chk = if kind v.t = 1 then (if v.n % 2 ^ wid v.t = v.n then 0 else 1)
      else if kind v.t = 2 then (if extN (wid v.t) v.n = v.n then 0 else 1)
      else if kind v.t = 0 then 1
      else if 65536 < v.s.size then 2 else if v.t = 9 ∧ prn v.s.data.toList = false then 1 else 0) := rfl
  obtain ⟨W, hW⟩ : ∃ W, w.alloc (.cells v.arr 24) = W := ⟨_, rfl⟩
  obtain ⟨q, hq⟩ : ∃ q, w.heap.size = q := ⟨_, rfl⟩
  rw [hW, hq] at fA
  rw [hW] at bA
  have bq : Below q w W := by rw [← hq]; exact bA
  have c0 := fA.c0
  have c2 := fA.c2
  have hk1 : kind v.t ≠ 1 := by omega
  have hk2 : kind v.t ≠ 2 := by omega
  generalize v.chk = C at *
  by_cases h0 : kind v.t = 0
  · have e1 := hidOf (show C = 1 by rw [HV.out]; simp [h0])
    have dk : (kind v.t != 0) = false := by simp [h0]
    rw [dk] at hI
    clear HV
    go_enter Try.func11, Try.ntmps11
    go_wp2_with (first | (go_at_call 23; refine (hI _).mono ?_; rintro e w1 ⟨rfl, rfl⟩) | (go_at_call 12; refine (hS7 _).mono ?_; rintro e w1 ⟨rfl, rfl⟩))
    go_ret
    exact ⟨ret_int (by rw [e1.out]; rfl), by first | exact bA | exact bq⟩
  · have dk : (kind v.t != 0) = true := by simp [h0]
    rw [dk] at hI
    by_cases hl : 65536 < v.s.size
    · have e1 := hidOf (show C = 2 by rw [HV.out]; simp [h0, hk1, hk2, hl])
      clear HV
      go_enter Try.func11, Try.ntmps11
      go_wp2_with (first | (go_at_call 23; refine (hI _).mono ?_; rintro e w1 ⟨rfl, rfl⟩) | (go_at_call 12; refine (hS7 _).mono ?_; rintro e w1 ⟨rfl, rfl⟩))
      go_ret
      exact ⟨ret_int (by rw [e1.out]; rfl), by first | exact bA | exact bq⟩
    · by_cases h9 : v.t = 9
      · have e1 := hidOf (show C = if prn v.s.data.toList = false then 1 else 0 by rw [HV.out, if_neg hk1, if_neg hk2, if_neg h0, if_neg hl]; simp [h9])
        clear HV HT
        generalize hs : v.s = s at *
        rw [h9] at c0 hI hS7
        go_enter Try.func11, Try.ntmps11
        go_wp2_with (first | (go_at_call 23; refine (hI _).mono ?_; rintro e w1 ⟨rfl, rfl⟩) | (go_at_call 12; refine (hS7 _).mono ?_; rintro e w1 ⟨rfl, rfl⟩))
        go_loop [4] (fun i => ∃ k : Nat, k ≤ s.size ∧ i = .int .i64 k ∧ prn (s.data.toList.take k) = true) (fun i => s.size - (intOf i).toNat)
        case atStart => exact ⟨0, Nat.zero_le _, rfl, by simp [prn]⟩
        case round =>
          obtain ⟨k, hle, rfl, hall⟩ := hrel
          by_cases hp : k < s.size
          · have dp : decide ((k : Int) < (s.size : Int)) = true := decide_eq_true (by omega)
            by_cases g1 : s[k].toNat < 32
            · have H : Hid (prn s.data.toList = false) := prn_not k hp (.inl g1)
              have d1 : decide ((s[k].toNat : Int) < 32) = true := by simp; omega
              go_wp2
              go_ret
              exact ⟨ret_int (by rw [e1.out, H.out]; rfl), by first | exact bA | exact bq⟩
            · have d1 : decide ((s[k].toNat : Int) < 32) = false := by simp; omega
              by_cases g2 : 126 < s[k].toNat
              · have H : Hid (prn s.data.toList = false) := prn_not k hp (.inr g2)
                have d2 : decide (126 < (s[k].toNat : Int)) = true := by simp; omega
                go_wp2
                go_ret
                exact ⟨ret_int (by rw [e1.out, H.out]; rfl), by first | exact bA | exact bq⟩
              · have d2 : decide (126 < (s[k].toNat : Int)) = false := by simp; omega
                have H : Hid (prn (s.data.toList.take (k + 1)) = true) := by
                  show prn _ = true
                  rw [take_snoc s k hp]; exact prn_snoc hall (by omega) (by omega)
                go_wp2
                go_round
                case rel => exact ⟨k + 1, by omega, by go_num, H.out⟩
                case measure => simp [intOf]; omega
          · have dp : decide ((k : Int) < (s.size : Int)) = false := decide_eq_false (by omega)
            go_wp2
            go_ret
            obtain rfl : k = s.size := by omega
            rw [take_all] at hall
            exact ⟨ret_int (by rw [e1.out, hall]; rfl), by first | exact bA | exact bq⟩
      · have e1 := hidOf (show C = 0 by rw [HV.out]; simp [h0, hk1, hk2, hl, h9])
        have d9 : (v.t == 9) = false := by simpa using h9
        clear HV HT
        go_enter Try.func11, Try.ntmps11
        go_wp2_with (first | (go_at_call 23; refine (hI _).mono ?_; rintro e w1 ⟨rfl, rfl⟩) | (go_at_call 12; refine (hS7 _).mono ?_; rintro e w1 ⟨rfl, rfl⟩))
        go_loop [4] (fun i => i = .int .i64 0) (fun i => 0)
        case atStart => rfl
        case round =>
          obtain rfl := hrel
          by_cases hp : 0 < v.s.size
          · have dp : decide ((0 : Int) < (v.s.size : Int)) = true := decide_eq_true (by omega)
            go_wp2
            go_ret
            exact ⟨ret_int (by rw [e1.out]; rfl), by first | exact bA | exact bq⟩
          · have dp : decide ((0 : Int) < (v.s.size : Int)) = false := decide_eq_false (by omega)
            go_wp2
            go_ret
            exact ⟨ret_int (by rw [e1.out]; rfl), by first | exact bA | exact bq⟩
theorem r7Check_v (v : Vl) (w : World) : Calls Try.prog 11 #[.agg v.arr] w fun e w' => e = .returned (.int .i64 v.chk) ∧ Below w.heap.size w w' := by
  by_cases hz : 0 < siz v.t
  · exact r7Check_num v hz w
  · exact r7Check_txt v hz w
end Go.Proofs.Ytffajokpfobalaa.Tv
namespace Go.Proofs.Ytffajokpfobalaa.Tv
open Go.RowKit Go.Proofs.Ty
set_option linter.unusedVariables false
set_option maxRecDepth 1000000
theorem wide_dec {t : Int} {l : List UInt8} (h : 0 < siz t) (hl : l.length = siz t) : wideN (kind t == 2) l = decN t l := by
  have hk : kind t = 1 ∨ kind t = 2 := by
    have := siz_zero t
    omega
  rcases hk with hk | hk
  · rw [hk, decN, if_pos hk, wideN, if_neg (by simp)]
  · rw [hk, decN, if_neg (by omega), if_pos hk]
    have e := low_join l
    rw [hl] at e
    rw [← wide_low (joinL l) (siz t) (wid t) (sz2 hk), e]
    rfl
theorem decN_lt {t : Int} {l : List UInt8} (h : 0 < siz t) (hl : l.length = siz t) : decN t l < 18446744073709551616 := by
  have h8 := siz_le t
  unfold decN
  split
  · exact join8 (by omega)
  · split
    · rename_i h1 h2
      exact extN_lt _ _ (kind_wid2 h2)
    · omega
theorem rdec_results {Q : Nat} {v : Vl} {e : Int} {w : World} (h : Va Q v w) (tmps : Array Value) (h4 : tmps[4]?.getD undef = .pointer (some ⟨Q, 0, none⟩)) (h5 : tmps[5]?.getD undef = .int .i64 e) :
    (results Try.f9 tmps).run Try.prog w = .ok (.tuple #[.agg v.arr, .int .i64 e]) w := by
  have l0 := h.load
  simp [Go.results, Try.results9, h4, h5, asAddr, l0]
set_option maxHeartbeats 1000000 in
theorem r7Decode_v (t : Int) (ht : -9223372036854775808 ≤ t ∧ t < 9223372036854775808) (x : Value) (l : List UInt8) (w : World) (hB : Bytes w x l) :
    Calls Try.prog 9 #[.int .i64 t, x] w fun e w' => e = .returned (.tuple #[.agg (decW t l).arr, .int .i64 (decE t l)]) ∧ Below w.heap.size w w' := by
  have fA : Va w.heap.size Vl.nul (w.alloc (.cells #[.int .i64 0, .int .u64 0, .string ⟨#[]⟩] 24)) := Va.new w Vl.nul
  have bA : Below w.heap.size w (w.alloc (.cells #[.int .i64 0, .int .u64 0, .string ⟨#[]⟩] 24)) := (Below.refl _ _).alloc (Nat.le_refl _) _
  have sA := size_alloc w (.cells #[.int .i64 0, .int .u64 0, .string ⟨#[]⟩] 24)
  obtain ⟨W, hW⟩ : ∃ W, w.alloc (.cells #[.int .i64 0, .int .u64 0, .string ⟨#[]⟩] 24) = W := ⟨_, rfl⟩
  rw [hW] at fA bA sA
  have BW := hB.below bA
  have hI := r7Is_any t
  have hS := r7Size_any t
  have HF : Hid (fitE t l.length = if kind t = 0 then 1 else if l.length < siz t then 3 else if (0 < siz t ∧ siz t < l.length) ∨ 65536 < l.length then 2 else 0) := rfl
  have HE : Hid (decE t l = if fitE t l.length ≠ 0 then fitE t l.length else if chk t (decN t l) (decS t l) ≠ 0 then 8 else 0) := rfl
  have HW : Hid (decW t l = if decE t l = 0 then mkV t (decN t l) (decS t l) else Vl.nul) := rfl
  have hx : ∃ ao cap, x = .slice ao l.length cap := by obtain ⟨ao, cap, h, _⟩ := hB; exact ⟨ao, cap, h⟩
  obtain ⟨ao, cap, rfl⟩ := hx
  have hWd := hidOf (@wide_dec t l)
  have hDl := hidOf (@decN_lt t l)
  have hDS := hidOf (show 0 < siz t → decS t l = ⟨#[]⟩ by
    intro h
    have := siz_zero t
    unfold decS
    rw [if_pos (by omega)])
  have hDT := hidOf (show ¬ 0 < siz t → decS t l = ⟨l.toArray⟩ ∧ decN t l = 0 by
    intro h
    have := siz_zero t
    unfold decS decN
    rw [if_neg (by omega), if_neg (by omega), if_neg (by omega)]
    exact ⟨rfl, rfl⟩)
  have hwide := fun h w hB => r7Wide_v t (.slice ao l.length cap) l w h hB
  have h8 := siz_le t
  generalize hdE : decE t l = E at *
  generalize decW t l = V at *
  generalize fitE t l.length = F at *
  obtain ⟨q, hq⟩ : ∃ q, w.heap.size = q := ⟨_, rfl⟩
  rw [hq] at fA sA
  have D4 := fA.row Vl.nul
  have B4 := below_row bA (by omega : w.heap.size ≤ q) (by omega) Vl.nul.arr
  go_enter Try.func9, Try.ntmps9
  by_cases h0 : kind t = 0
  · have dk : (kind t != 0) = false := by simp [h0]
    rw [dk] at hI
    have e0 := hidOf (show F = 1 by rw [HF.out, if_pos h0])
    have e1 := hidOf (show E = 1 by rw [HE.out, e0.out]; simp)
    have e2 := hidOf (show V = Vl.nul by rw [HW.out, if_neg (by rw [e1.out]; decide)])
    clear HE HW HF
    go_wp2_with (first | (go_at_call 23; refine (hI _).mono ?_; rintro e w2 ⟨rfl, rfl⟩) | refine fA.sd Vl.nul rfl _ _ rfl rfl rfl ?_)
    exact bodyPost_ret (rdec_results D4 _ rfl rfl) rfl ⟨by rw [e1.out, e2.out]; rfl, B4⟩
  · have dk : (kind t != 0) = true := by simp [h0]
    rw [dk] at hI
    have f1 := fA.alloc (.cells #[.int .i64 t, .int .u64 0, .string ⟨#[]⟩] 24)
    have g1 : Va W.heap.size (⟨t, 0, ⟨#[]⟩, ht, by decide, by decide⟩ : Vl) (W.alloc (.cells #[.int .i64 t, .int .u64 0, .string ⟨#[]⟩] 24)) := Va.new W _
    have b1 : Below W.heap.size W (W.alloc (.cells #[.int .i64 t, .int .u64 0, .string ⟨#[]⟩] 24)) := (Below.refl _ _).alloc (Nat.le_refl _) _
    have B1 := bA.trans (b1.mono (by omega))
    have BY := BW.below b1
    rw [sA] at g1
    have l1 := f1.lt
    clear D4 B4
    have D5 := f1.row Vl.nul
    have B5 := below_row B1 (by omega : w.heap.size ≤ q) (by omega) Vl.nul.arr
    have HR := hidOf (And.intro f1 (And.intro g1 (And.intro B1 BY)))
    by_cases hs3 : l.length < siz t
    · have e0 := hidOf (show F = 3 by rw [HF.out, if_neg h0, if_pos hs3])
      have e1 := hidOf (show E = 3 by rw [HE.out, e0.out]; simp)
      have e2 := hidOf (show V = Vl.nul by rw [HW.out, if_neg (by rw [e1.out]; decide)])
      have d3 : decide ((l.length : Int) < (siz t : Int)) = true := decide_eq_true (by omega)
      clear HE HW HF
      go_wp2_with (first | (go_at_call 23; refine (hI _).mono ?_; rintro e w2 ⟨rfl, rfl⟩) | (go_at_call 12; refine (hS _).mono ?_; rintro e w2 ⟨rfl, rfl⟩) | refine f1.sd Vl.nul rfl _ _ rfl rfl rfl ?_)
      exact bodyPost_ret (rdec_results D5 _ rfl rfl) rfl ⟨by rw [e1.out, e2.out]; rfl, B5⟩
    · have d3 : decide ((l.length : Int) < (siz t : Int)) = false := decide_eq_false (by omega)
      by_cases hz : 0 < siz t
      · have dz : decide ((0 : Int) < (siz t : Int)) = true := decide_eq_true (by omega)
        by_cases hg : siz t < l.length
        · have dg : decide ((siz t : Int) < (l.length : Int)) = true := decide_eq_true (by omega)
          have e0 := hidOf (show F = 2 by rw [HF.out, if_neg h0, if_neg hs3, if_pos (.inl ⟨hz, hg⟩)])
          have e1 := hidOf (show E = 2 by rw [HE.out, e0.out]; simp)
          have e2 := hidOf (show V = Vl.nul by rw [HW.out, if_neg (by rw [e1.out]; decide)])
          clear HE HW HF
          go_wp2_with (first | (go_at_call 23; refine (hI _).mono ?_; rintro e w2 ⟨rfl, rfl⟩) | (go_at_call 12; refine (hS _).mono ?_; rintro e w2 ⟨rfl, rfl⟩) | refine f1.sd Vl.nul rfl _ _ rfl rfl rfl ?_)
          exact bodyPost_ret (rdec_results D5 _ rfl rfl) rfl ⟨by rw [e1.out, e2.out]; rfl, B5⟩
        · have dg : decide ((siz t : Int) < (l.length : Int)) = false := decide_eq_false (by omega)
          have dm : decide ((65536 : Int) < (l.length : Int)) = false := decide_eq_false (by omega)
          have hls : l.length = siz t := by omega
          have e0 := hidOf (show F = 0 by rw [HF.out, if_neg h0, if_neg hs3, if_neg (by omega)])
          rw [e0.out] at HE
          have hd := hDl.out hz hls
          have hw2 := hwide (by omega)
          rw [hWd.out hz hls] at hw2
          have hSS := hDS.out hz
          clear hls HF e0 hWd hDl hDS hDT hwide D5 B5 f1 g1 b1 B1 BY fA bA
          go_wp2_with (first | (go_at_call 23; refine (hI _).mono ?_; rintro e w2 ⟨rfl, rfl⟩) | (go_at_call 12; refine (hS _).mono ?_; rintro e w2 ⟨rfl, rfl⟩))
          obtain ⟨f1, g1, B1, BY⟩ := HR.out
          clear HR
          generalize w2.alloc (.cells #[.int .i64 t, .int .u64 0, .string ⟨#[]⟩] 24) = w5 at *
          have c1 := g1.c1
          have c2 := g1.c2
          have fr := g1.frozen
          have fX := f1.other (p := ⟨q + 1, 1, none⟩) (by simp) (.int .u64 (decN t l))
          have gX : Va (q + 1) (⟨t, decN t l, ⟨#[]⟩, ht, hd, by decide⟩ : Vl) (w5.setCell ⟨q + 1, 1, none⟩ (.int .u64 (decN t l))) := g1.setN (decN t l) hd
          have BX := B1.setCell (p := ⟨q + 1, 1, none⟩) (by omega : w.heap.size ≤ q + 1) (.int .u64 (decN t l))
          have hC := r7Check_v (⟨t, decN t l, ⟨#[]⟩, ht, hd, by decide⟩ : Vl)
          have hu : (⟨t, decN t l, ⟨#[]⟩, ht, hd, by decide⟩ : Vl).chk = chk t (decN t l) (decS t l) := by rw [hSS]; rfl
          have hV : mkV t (decN t l) (decS t l) = (⟨t, decN t l, ⟨#[]⟩, ht, hd, by decide⟩ : Vl) := by rw [hSS]; exact mkV_eq _ _ _
          rw [hu] at hC
          rw [hV] at HW
          clear hu hV
          generalize hUU : (⟨t, decN t l, ⟨#[]⟩, ht, hd, by decide⟩ : Vl) = U at *
          clear hUU
          refine (hw2 _ BY).mono ?_
          rintro e w5 ⟨rfl, rfl⟩
          go_wp2_with (refine gX.ld rfl _ rfl rfl ?_)
          refine (hC _).mono ?_
          rintro e w3 ⟨rfl, b3⟩
          have f3 := fX.below b3
          have g3 := gX.below b3
          have B3 := BX.trans (b3.mono (by have := fX.lt; omega))
          have s3 := b3.size
          by_cases hc : chk t (decN t l) (decS t l) = 0
          · have e1 := hidOf (show E = 0 by rw [HE.out]; simp [hc])
            have e2 := hidOf (show V = U by rw [HW.out, if_pos e1.out])
            rw [hc]
            have D4 := f3.row U
            have B4 := below_row B3 (by omega : w.heap.size ≤ q) (by have := f3.lt; omega) U.arr
            clear HE HW
            go_wp2_with (first | refine g3.ld rfl _ rfl rfl ?_ | refine f3.sd U rfl _ _ rfl rfl rfl ?_)
            exact bodyPost_ret (rdec_results D4 _ rfl rfl) rfl ⟨by rw [e1.out, e2.out]; rfl, B4⟩
          · have e1 := hidOf (show E = 8 by rw [HE.out]; simp [hc])
            have e2 := hidOf (show V = Vl.nul by rw [HW.out, if_neg (by rw [e1.out]; decide)])
            have d0 : ((chk t (decN t l) (decS t l) : Int) != 0) = true := by simpa using hc
            generalize chk t (decN t l) (decS t l) = C at *
            have D4 := f3.row Vl.nul
            have B4 := below_row B3 (by omega : w.heap.size ≤ q) (by have := f3.lt; omega) Vl.nul.arr
            clear HE HW
            go_wp2_with (first | refine f3.sd Vl.nul rfl _ _ rfl rfl rfl ?_)
            exact bodyPost_ret (rdec_results D4 _ rfl rfl) rfl ⟨by rw [e1.out, e2.out]; rfl, B4⟩
      · have dz : decide ((0 : Int) < (siz t : Int)) = false := decide_eq_false (by omega)
        by_cases hg : 65536 < l.length
        · have dg : decide ((65536 : Int) < (l.length : Int)) = true := decide_eq_true (by omega)
          have e0 := hidOf (show F = 2 by rw [HF.out, if_neg h0, if_neg hs3, if_pos (.inr hg)])
          have e1 := hidOf (show E = 2 by rw [HE.out, e0.out]; simp)
          have e2 := hidOf (show V = Vl.nul by rw [HW.out, if_neg (by rw [e1.out]; decide)])
          clear HE HW HF
          go_wp2_with (first | (go_at_call 23; refine (hI _).mono ?_; rintro e w2 ⟨rfl, rfl⟩) | (go_at_call 12; refine (hS _).mono ?_; rintro e w2 ⟨rfl, rfl⟩) | refine f1.sd Vl.nul rfl _ _ rfl rfl rfl ?_)
          exact bodyPost_ret (rdec_results D5 _ rfl rfl) rfl ⟨by rw [e1.out, e2.out]; rfl, B5⟩
        · have dg : decide ((65536 : Int) < (l.length : Int)) = false := decide_eq_false (by omega)
          have e0 := hidOf (show F = 0 by rw [HF.out, if_neg h0, if_neg hs3, if_neg (by omega)])
          rw [e0.out] at HE
          obtain ⟨hSS, hNN⟩ := hDT.out hz
          have hTx := hidOf BY.text
          have hs : (⟨l.toArray⟩ : ByteArray).size ≤ maxLen := by
            simp only [ByteArray.size, List.size_toArray, maxLen]
            omega
          clear HF e0 hWd hDl hDS hDT hwide D5 B5
          have fr := g1.frozen
          have c2 := g1.c2
          have hTy := hTx.out
          have fX := fA.alloc (.cells #[.int .i64 t, .int .u64 0, .string ⟨l.toArray⟩] 24)
          have gX : Va (q + 1) (⟨t, 0, ⟨l.toArray⟩, ht, by decide, hs⟩ : Vl) (W.alloc (.cells #[.int .i64 t, .int .u64 0, .string ⟨l.toArray⟩] 24)) := by have := Va.new W (⟨t, 0, ⟨l.toArray⟩, ht, by decide, hs⟩ : Vl); rw [sA] at this; exact this
          have BX := bA.trans (((Below.refl _ _).alloc (Nat.le_refl _) (.cells #[.int .i64 t, .int .u64 0, .string ⟨l.toArray⟩] 24)).mono (by omega))
          have hC := r7Check_v (⟨t, 0, ⟨l.toArray⟩, ht, by decide, hs⟩ : Vl)
          have hu : (⟨t, 0, ⟨l.toArray⟩, ht, by decide, hs⟩ : Vl).chk = chk t (decN t l) (decS t l) := by rw [hSS, hNN]; rfl
          have hV : mkV t (decN t l) (decS t l) = (⟨t, 0, ⟨l.toArray⟩, ht, by decide, hs⟩ : Vl) := by rw [hSS, hNN]; exact mkV_eq _ _ _
          rw [hu] at hC
          rw [hV] at HW
          clear hu hV
          generalize hUU : (⟨t, 0, ⟨l.toArray⟩, ht, by decide, hs⟩ : Vl) = U at *
          clear hUU
          go_wp2_with (first | (go_at_call 23; refine (hI _).mono ?_; rintro e w2 ⟨rfl, rfl⟩) | (go_at_call 12; refine (hS _).mono ?_; rintro e w2 ⟨rfl, rfl⟩) | refine gX.ld rfl _ rfl rfl ?_)
          refine (hC _).mono ?_
          rintro e w3 ⟨rfl, b3⟩
          have f3 := fX.below b3
          have g3 := gX.below b3
          have B3 := BX.trans (b3.mono (by have := fX.lt; omega))
          have s3 := b3.size
          by_cases hc : chk t (decN t l) (decS t l) = 0
          · have e1 := hidOf (show E = 0 by rw [HE.out]; simp [hc])
            have e2 := hidOf (show V = U by rw [HW.out, if_pos e1.out])
            rw [hc]
            have D4 := f3.row U
            have B4 := below_row B3 (by omega : w.heap.size ≤ q) (by have := f3.lt; omega) U.arr
            clear HE HW
            go_wp2_with (first | refine g3.ld rfl _ rfl rfl ?_ | refine f3.sd U rfl _ _ rfl rfl rfl ?_)
            exact bodyPost_ret (rdec_results D4 _ rfl rfl) rfl ⟨by rw [e1.out, e2.out]; rfl, B4⟩
          · have e1 := hidOf (show E = 8 by rw [HE.out]; simp [hc])
            have e2 := hidOf (show V = Vl.nul by rw [HW.out, if_neg (by rw [e1.out]; decide)])
            have d0 : ((chk t (decN t l) (decS t l) : Int) != 0) = true := by simpa using hc
            generalize chk t (decN t l) (decS t l) = C at *
            have D4 := f3.row Vl.nul
            have B4 := below_row B3 (by omega : w.heap.size ≤ q) (by have := f3.lt; omega) Vl.nul.arr
            clear HE HW
            go_wp2_with (first | refine f3.sd Vl.nul rfl _ _ rfl rfl rfl ?_)
            exact bodyPost_ret (rdec_results D4 _ rfl rfl) rfl ⟨by rw [e1.out, e2.out]; rfl, B4⟩
end Go.Proofs.Ytffajokpfobalaa.Tv
namespace Go.Proofs.Ytffajokpfobalaa.Tv
open Go.RowKit Go.Proofs.Ty
set_option linter.unusedVariables false
set_option maxRecDepth 1000000
set_option maxHeartbeats 1000000 in
theorem r7Plain_v (v : Vl) (w : World) :
    Calls Try.prog 10 #[.agg v.arr] w fun e w' => e = .returned (.agg v.plain.arr) ∧ Below w.heap.size w w' := by
  have fA : Va w.heap.size v ((w.alloc (.cells v.arr 24)).alloc (.cells Vl.nul.arr 24)) := (Va.new w v).alloc _
  have fB : Va (w.heap.size + 1) Vl.nul ((w.alloc (.cells v.arr 24)).alloc (.cells Vl.nul.arr 24)) := by
    have := Va.new (w.alloc (.cells v.arr 24)) Vl.nul
    rw [size_alloc] at this
    exact this
  have bA : Below w.heap.size w ((w.alloc (.cells v.arr 24)).alloc (.cells Vl.nul.arr 24)) := ((Below.refl _ _).alloc (Nat.le_refl _) _).alloc (by rw [size_alloc]; omega) _
  have hI := r7Is_any v.t
  have hS := r7Size_any v.t
  have hz := siz_zero v.t
  have hk := kind_le v.t
  have H1 := hidOf (@Vl.plain_num v)
  have H3 := hidOf (@Vl.plain_txt v)
  have H0 := hidOf (@Vl.plain_none v)
  obtain ⟨A, hA⟩ : ∃ A, (w.alloc (.cells v.arr 24)).alloc (.cells #[.int .i64 0, .int .u64 0, .string ⟨#[]⟩] 24) = A := ⟨_, rfl⟩
  change Va _ _ ((w.alloc (.cells v.arr 24)).alloc (.cells #[.int .i64 0, .int .u64 0, .string ⟨#[]⟩] 24)) at fA fB
  change Below _ _ ((w.alloc (.cells v.arr 24)).alloc (.cells #[.int .i64 0, .int .u64 0, .string ⟨#[]⟩] 24)) at bA
  rw [hA] at fA fB bA
  have c0 := fA.c0
  have c1 := fA.c1
  have c2 := fA.c2
  have fr := fA.frozen
  have lA := fB.lt
  have fin : ∀ (u : Vl) (x : World), Va w.heap.size u x → Va (w.heap.size + 1) Vl.nul x → Below w.heap.size w x → Va (w.heap.size + 1) u (x.setRow (w.heap.size + 1) u.arr) ∧ Below w.heap.size w (x.setRow (w.heap.size + 1) u.arr) := fun u x h1 h2 h3 => ⟨h2.row u, below_row h3 (by omega) (by have := h1.lt; omega) _⟩
  go_enter Try.func10, Try.ntmps10
  generalize hq : w.heap.size = q at *
  by_cases hn : 0 < siz v.t
  · have dn : decide ((0 : Int) < (siz v.t : Int)) = true := decide_eq_true (by omega)
    have f2 := fA.setB ⟨#[]⟩ (by decide)
    have g2 := fB.other (p := ⟨q, 2, none⟩) (by simp) (.string ⟨#[]⟩)
    have B2 := bA.setCell (p := ⟨q, 2, none⟩) (Nat.le_refl _) (.string ⟨#[]⟩)
    have e1 := hidOf (H1.out (by omega))
    obtain ⟨D3, B3⟩ := fin _ _ f2 g2 B2
    go_wp2_with (first | (go_at_call 12; refine (hS _).mono ?_; rintro e w2 ⟨rfl, rfl⟩) | refine f2.ld rfl _ rfl rfl ?_ | refine g2.sd (v.setB ⟨#[]⟩ (by decide)) rfl _ _ rfl rfl rfl ?_)
    refine bodyPost_ret (v := .agg (v.setB ⟨#[]⟩ (by decide)).arr) (results_cell_row rfl _ _ (q + 1) 24 _ (0, 0) _ rfl D3 Try.underlying24 rfl infoV) rfl ⟨by rw [e1.out], by first | exact B3 | (rw [hq]; exact B3)⟩
  · have dn : decide ((0 : Int) < (siz v.t : Int)) = false := decide_eq_false (by omega)
    by_cases h0 : kind v.t = 0
    · have dk : (kind v.t != 0) = false := by simp [h0]
      rw [dk] at hI
      have e1 := hidOf (H0.out h0)
      obtain ⟨D3, B3⟩ := fin _ _ fA fB bA
      go_wp2_with (first | (go_at_call 12; refine (hS _).mono ?_; rintro e w2 ⟨rfl, rfl⟩) | (go_at_call 23; refine (hI _).mono ?_; rintro e w2 ⟨rfl, rfl⟩) | refine fA.ld rfl _ rfl rfl ?_ | refine fB.sd v rfl _ _ rfl rfl rfl ?_)
      refine bodyPost_ret (v := .agg v.arr) (results_cell_row rfl _ _ (q + 1) 24 _ (0, 0) _ rfl D3 Try.underlying24 rfl infoV) rfl ⟨by rw [e1.out], by first | exact B3 | (rw [hq]; exact B3)⟩
    · have dk : (kind v.t != 0) = true := by simp [h0]
      rw [dk] at hI
      have f2 := fA.setN 0 (by decide)
      have g2 := fB.other (p := ⟨q, 1, none⟩) (by simp) (.int .u64 ((0 : Nat) : Int))
      have B2 := bA.setCell (p := ⟨q, 1, none⟩) (Nat.le_refl _) (.int .u64 ((0 : Nat) : Int))
      have e1 := hidOf (H3.out (by omega))
      obtain ⟨D3, B3⟩ := fin _ _ f2 g2 B2
      go_wp2_with (first | (go_at_call 12; refine (hS _).mono ?_; rintro e w2 ⟨rfl, rfl⟩) | (go_at_call 23; refine (hI _).mono ?_; rintro e w2 ⟨rfl, rfl⟩) | refine f2.ld rfl _ rfl rfl ?_ | refine g2.sd (v.setN 0 (by decide)) rfl _ _ rfl rfl rfl ?_)
      refine bodyPost_ret (v := .agg (v.setN 0 (by decide)).arr) (results_cell_row rfl _ _ (q + 1) 24 _ (0, 0) _ rfl D3 Try.underlying24 rfl infoV) rfl ⟨by rw [e1.out], by first | exact B3 | (rw [hq]; exact B3)⟩
set_option maxHeartbeats 1000000 in
theorem r7Encode_v (v : Vl) (w : World) :
    Calls Try.prog 5 #[.agg v.arr] w fun e w' => ∃ x, e = .returned (.tuple #[x, .int .i64 v.chk]) ∧ Bytes w' x v.enc ∧ Below w.heap.size w w' := by
  have fA := Va.new w v
  have bA : Below w.heap.size w (w.alloc (.cells v.arr 24)) := (Below.refl _ _).alloc (Nat.le_refl _) _
  have sA := size_alloc w (.cells v.arr 24)
  have hC := r7Check_v v
  have hS := r7Size_any v.t
  have hE : Hid (v.enc = if v.chk = 0 then (if 0 < siz v.t then lowL v.n (siz v.t) else v.s.data.toList) else []) := rfl
  have hLow := fun w => r7low_any v.n (siz v.t) (siz_le v.t) w
  generalize v.chk = C at *
  generalize siz v.t = z at *
  go_enter Try.func5, Try.ntmps5
  generalize hW : w.alloc (.cells v.arr 24) = W at *
  generalize hq : w.heap.size = q at *
  go_wp2_with (refine fA.ld rfl _ rfl rfl ?_)
  refine (hC _).mono ?_
  rintro e w1 ⟨rfl, b1⟩
  have f1 := fA.below b1
  have B1 := bA.trans (b1.mono (by omega))
  have s1 := b1.size
  have c0 := f1.c0
  have c1 := f1.c1
  have c2 := f1.c2
  clear hC fA bA b1
  by_cases h0 : C = 0
  · subst h0
    by_cases hz : 0 < z
    · have dz : decide ((0 : Int) < (z : Int)) = true := decide_eq_true (by omega)
      have e1 := hidOf (show v.enc = lowL v.n z by rw [hE.out]; simp [hz])
      clear hE
      go_wp2_with (first | (go_at_call 12; refine (hS _).mono ?_; rintro e w2 ⟨rfl, rfl⟩))
      refine (hLow _).mono ?_
      rintro e w3 ⟨x, rfl, hB3, b3⟩
      have B3 := B1.trans (b3.mono (by omega))
      go_wp2
      go_ret2
      exact ⟨_, rfl, by rw [e1.out]; exact hB3, B3⟩
    · have dz : decide ((0 : Int) < (z : Int)) = false := decide_eq_false (by omega)
      have e1 := hidOf (show v.enc = v.s.data.toList by rw [hE.out]; simp [hz])
      clear hE
      have hconv := run_bytes_of_string (P := Try.prog) w1 9 27 5 v.s Try.underlying9 Try.underlying27 Try.underlying5
      have hR0 := Row.ofText w1 v.s (grownCap w1 v.s.size 0 5) 5
      go_wp2_with (go_at_call 12; refine (hS _).mono ?_; rintro e w2 ⟨rfl, rfl⟩)
      go_ret2
      refine ⟨_, rfl, ?_, (B1.trans ((Below.refl _ _).alloc (by omega) _)).drew⟩
      rw [e1.out]
      have := Bytes.of_row (l := v.s.data.toList) hR0 (grownCap w2 v.s.size 0 5)
      rw [show v.s.data.toList.length = v.s.size by simp] at this
      exact this
  · have dz : ((C : Int) != 0) = true := by simpa using h0
    have e1 := hidOf (show v.enc = [] by rw [hE.out]; simp [h0])
    clear hE
    go_wp2
    go_ret2
    exact ⟨_, rfl, by rw [e1.out]; exact Bytes.nil _, B1⟩
end Go.Proofs.Ytffajokpfobalaa.Tv
namespace Go.Proofs.Ytffajokpfobalaa.Tv
open Go.RowKit Go.Proofs.Ty
set_option linter.unusedVariables false
set_option maxRecDepth 1000000
/-- What was written is read as it was. -/
theorem chk_plain (v : Vl) : v.plain.chk = v.chk := by
  have hk := kind_le v.t
  by_cases h : kind v.t = 1 ∨ kind v.t = 2
  · rw [Vl.plain_num h]
    unfold Vl.chk chk Vl.setB
    rcases h with h | h <;> simp [h]
  · by_cases h3 : kind v.t = 3 ∨ kind v.t = 4
    · rw [Vl.plain_txt h3]
      unfold Vl.chk chk Vl.setN
      rcases h3 with h | h <;> simp [h]
    · rw [Vl.plain_none (by omega)]
theorem enc_dec (v : Vl) (h : v.chk = 0) : decE v.t v.enc = 0 ∧ decW v.t v.enc = v.plain := by
  have hE : v.enc = if 0 < siz v.t then lowL v.n (siz v.t) else v.s.data.toList := by
    show encV v.t v.n v.s = _
    unfold encV
    rw [if_pos (show chk v.t v.n v.s = 0 from h)]
    rfl
  have hk0 : kind v.t ≠ 0 := by
    intro e
    have : v.chk = 1 := by unfold Vl.chk chk; simp [e]
    omega
  have hz := siz_zero v.t
  have hp := chk_plain v
  rw [h] at hp
  by_cases hs : 0 < siz v.t
  · rw [if_pos hs] at hE
    have hl : v.enc.length = siz v.t := by rw [hE, lowL_length]
    have hk : kind v.t = 1 ∨ kind v.t = 2 := by omega
    have hN : decN v.t v.enc = v.n := by
      rw [← wide_dec hs hl, hE]
      show wv v = v.n
      rcases hk with hk | hk
      · by_cases h1 : v.t = 1
        · have := chk_bool h1
          rw [h] at this
          by_cases hc : wv v = v.n ∧ ¬ 1 < v.n
          · exact hc.1
          · rw [if_neg hc] at this; omega
        · have := chk_num1 hk h1
          rw [h] at this
          by_cases hc : wv v = v.n
          · exact hc
          · rw [if_neg hc] at this; omega
      · have := chk_num2 hk
        rw [h] at this
        by_cases hc : wv v = v.n
        · exact hc
        · rw [if_neg hc] at this; omega
    have hS : decS v.t v.enc = ⟨#[]⟩ := by unfold decS; rw [if_pos hk]
    have hF : fitE v.t v.enc.length = 0 := by
      have := siz_le v.t
      rw [hl]
      unfold fitE
      rw [if_neg hk0, if_neg (by omega), if_neg (by omega)]
    have e1 : decE v.t v.enc = 0 := by
      unfold decE
      rw [hF, hN, hS, if_neg (by simp)]
      rw [Vl.plain_num hk] at hp
      have : chk v.t v.n ⟨#[]⟩ = 0 := hp
      rw [this, if_neg (by simp)]
    refine ⟨e1, ?_⟩
    unfold decW
    rw [if_pos e1, hN, hS, Vl.plain_num hk]
    exact mkV_eq _ _ _
  · rw [if_neg hs] at hE
    have hk : kind v.t = 3 ∨ kind v.t = 4 := by
      have := kind_le v.t
      omega
    have hle : v.s.size ≤ 65536 := by
      have h' : Ty.chk v.t v.n v.s = 0 := h
      unfold chk at h'
      rw [if_neg (by omega), if_neg (by omega), if_neg hk0] at h'
      by_cases hc : 65536 < v.s.size
      · rw [if_pos hc] at h'; omega
      · omega
    have hN : decN v.t v.enc = 0 := by unfold decN; rw [if_neg (by omega), if_neg (by omega)]
    have hS : decS v.t v.enc = v.s := by
      unfold decS
      rw [if_neg (by omega), hE]
    have hF : fitE v.t v.enc.length = 0 := by
      rw [hE]
      unfold fitE
      rw [if_neg hk0, if_neg (by omega), if_neg (by simp; omega)]
    have e1 : decE v.t v.enc = 0 := by
      unfold decE
      rw [hF, hN, hS, if_neg (by simp)]
      rw [Vl.plain_txt hk] at hp
      have : chk v.t 0 v.s = 0 := hp
      rw [this, if_neg (by simp)]
    refine ⟨e1, ?_⟩
    unfold decW
    rw [if_pos e1, hN, hS, Vl.plain_txt hk]
    exact mkV_eq _ _ _
theorem bne_self_int (a : Int) : (a != a) = false := by simp
end Go.Proofs.Ytffajokpfobalaa.Tv
