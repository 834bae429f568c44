/- Contracts of the document's own: Check of a number. Contracts: beyond, weigh. -/
import Derived.Test.YtahfnknbmikmkaaGreatZs
import Derived.Test.YtahfnknbmikmkaaGreatKb7
import Derived.Test.YtahfnknbmikmkaaGreatKb3
import Derived.OrdersHeld
import Derived.Deep.Cut
import Derived.Deep.CutRange
namespace Go.Proofs.YtahfnknbmikmkaaGreat
open Go.RowKit Go.Proofs.Ty
set_option linter.unusedVariables false
set_option maxRecDepth 1000000
set_option linter.unusedSimpArgs false

theorem wpOp_run {ops : Array Oper} {Q : Exit → Act → World → Prop} {K : Act → World → Prop} {a : Act} {w : World} {i : Nat} {o : Oper} (hi : ops[i]? = some o) (hg : o.guard = none) (h : o.wp Tryz.prog a w K Q) : wpOp Tryz.prog ops Q i K a w := by
  unfold Go.wpOp
  simp only [hi]
  rw [if_pos (by simp [Region.wanted, hg])]
  exact .inl h
theorem wp_call_fn {o : Oper} {a : Act} {w : World} {K : Act → World → Prop} {Q : Exit → Act → World → Prop} (g : Nat) (args : Array Value) (hr : (execOp a.eval o).run Tryz.prog w = .ok (.enter g args) w)
    (h : Calls Tryz.prog g args w fun
      | .returned v, w'' => K (a.put o.dst v) w''
      | .panicked chain, w'' => Q (.panic chain) a w''
      | .outgrown, _ => LetsOut Q) : o.wp Tryz.prog a w K Q := by
  unfold Oper.wp
  rw [hr]
  exact h
theorem exec_load {a : Act} {o : Oper} {x : Operand} {ty : TypeId} {ad : Addr} {v : Value} {w : World} (ho : o.op = .load ty x) (hx : a.eval x = .pointer (some ad)) (hr : (loadVar ty ad).run Tryz.prog w = .ok v w) :
    (execOp a.eval o).run Tryz.prog w = .ok (.value v) w := by
  unfold execOp
  simp only [ho, hx, Instr.loadAt, Instr.sureAddr, Sem.run_bind, Sem.run_pure, Result.andThen_ok, hr]
theorem load_u64 (x : World) (D k : Nat) (z : Int) (hc : x.cell? ⟨D, k, none⟩ = some (.int .u64 z)) : (loadVar 50 ⟨D, k, none⟩).run Tryz.prog x = .ok (.int .u64 z) x := by
  simp [go_sem, run_underlying Tryz.underlying50, hc]
theorem load_int (x : World) (D k : Nat) (z : Int) (hc : x.cell? ⟨D, k, none⟩ = some (.int .i64 z)) : (loadVar 3 ⟨D, k, none⟩).run Tryz.prog x = .ok (.int .i64 z) x := by
  simp [go_sem, run_underlying Tryz.underlying3, hc]
theorem enterLow : ∀ args x, (callFunc 87 args).run Tryz.prog x = .ok (.enter 87 args) x := fun _ _ => by rfl
theorem enterWide : ∀ args x, (callFunc 86 args).run Tryz.prog x = .ok (.enter 86 args) x := fun _ _ => by rfl
/-- A number told by its bytes. -/
def wv (v : Vl) : Nat := wideN (kind v.t == 2) (lowL v.n (siz v.t))
set_option maxHeartbeats 2000000 in
theorem r7Check_ne (v : Vl) (hz : 0 < siz v.t) (hne : wv v ≠ v.n) (w : World) :
    Calls Tryz.prog 46 #[.agg v.arr] w fun e w' => e = .returned (.int .i64 (1)) ∧ Below w.heap.size w w' := by
  have fA := Va.new w v
  have bA : Below w.heap.size w (w.alloc (.cells v.arr 52)) := (Below.refl _ _).alloc (Nat.le_refl _) _
  have hI := r7Is_any v.t
  have hS7 := r7Size_any v.t
  have hk : (kind v.t != 0) = true := by
    have := siz_zero v.t
    simp
    omega
  rw [hk] at hI
  have h8 := siz_le v.t
  have hLow := fun w => r7low_any v.n (siz v.t) h8 w
  have hWide := fun x w => r7Wide_v v.t x (lowL v.n (siz v.t)) w (by rw [lowL_length]; exact h8)
  have hwv : wideN (kind v.t == 2) (lowL v.n (siz v.t)) = wv v := rfl
  rw [hwv] at hWide
  obtain ⟨W, hW⟩ : ∃ W, w.alloc (.cells v.arr 52) = W := ⟨_, rfl⟩
  obtain ⟨q, hq⟩ : ∃ q, w.heap.size = q := ⟨_, rfl⟩
  rw [hW, hq] at fA
  rw [hW] at bA
  have c0 := fA.c0
  have dz : decide ((0 : Int) < (siz v.t : Int)) = true := decide_eq_true (by omega)
  have hne : (((wv v : Nat) : Int) != (v.n : Int)) = true := by simp; omega
  clear hk hwv
  generalize wv v = V at *
  generalize siz v.t = z at *
  go_enter Tryz.func46, Tryz.ntmps46
  go_upto_region 5 with (first | (go_at_call 84; refine (hI _).mono ?_; rintro e w1 ⟨rfl, rfl⟩) | (go_at_call 85; refine (hS7 _).mono ?_; rintro e w1 ⟨rfl, rfl⟩))
  refine wp_region_held (S := fun x => Va q v x) (by kernel_rfl) ?_
  obtain ⟨y, hy⟩ : ∃ y : World, { w1 with drawn := w1.drawn + 1 } = y := ⟨_, rfl⟩
  rw [hy]
  have f1 : Va q v y := by rw [← hy]; exact fA
  have B1 : Below q w y := by rw [← hy, ← hq]; exact ⟨bA.os, bA.tape, bA.output, bA.size, bA.block⟩
  clear hy hW fA bA hI hS7 c0
  refine tk 0 (.pointer (some ⟨q, 0, none⟩)) rfl (by kernel_rfl) (fun _ _ _ h => h) rfl (fun _ hS => by simp [execOp, go_sem, Act.eval]) f1 ?_
  simp only [zzA, zzB, zzC, Act.put, zzD, zzE, zzF]
  refine tk 1 (.int .i64 v.t) rfl (by kernel_rfl) (fun _ _ _ h => h) rfl (fun _ hS => exec_load rfl rfl (load_int _ q 0 _ hS.c0)) f1 ?_
  simp only [zzA, zzB, zzC, Act.put, zzD, zzE, zzF]
  refine tk 2 (.pointer (some ⟨q, 1, none⟩)) rfl (by kernel_rfl) (fun _ _ _ h => h) rfl (fun _ hS => by simp [execOp, go_sem, Act.eval]) f1 ?_
  simp only [zzA, zzB, zzC, Act.put, zzD, zzE, zzF]
  refine tk 3 (.int .u64 v.n) rfl (by kernel_rfl) (fun _ _ _ h => h) rfl (fun _ hS => exec_load rfl rfl (load_u64 _ q 1 _ hS.c1)) f1 ?_
  simp only [zzA, zzB, zzC, Act.put, zzD, zzE, zzF]
  refine tk 4 (.int .i64 z) rfl (by kernel_rfl) (fun _ _ _ h => h) rfl (fun _ hS => rfl) f1 ?_
  simp only [zzA, zzB, zzC, Act.put, zzD, zzE, zzF]
  refine tk 7 (.pointer (some ⟨q, 1, none⟩)) rfl (by kernel_rfl) (fun _ _ _ h => h) rfl (fun _ hS => by simp [execOp, go_sem, Act.eval]) f1 ?_
  simp only [zzA, zzB, zzC, Act.put, zzD, zzE, zzF]
  refine tk 8 (.int .u64 v.n) rfl (by kernel_rfl) (fun _ _ _ h => h) rfl (fun _ hS => exec_load rfl rfl (load_u64 _ q 1 _ hS.c1)) f1 ?_
  simp only [zzA, zzB, zzC, Act.put, zzD, zzE, zzF]
  refine wpAnyH_all (rs := [5]) (by kernel_rfl) (by simp) ?_
  intro k hk
  simp only [List.mem_cons, List.mem_nil_iff, or_false] at hk
  subst hk
  refine wpOp_run rfl rfl (wp_call_fn 87 #[.int .u64 v.n, .int .i64 z] (by simp [execOp, go_sem, Act.eval, resolve, invoke, enterLow]) ((hLow _).mono ?_))
  rintro e w2 ⟨x, rfl, hB2, b2⟩
  have f2 := f1.below b2
  have B2 := B1.trans (b2.mono (by have := f1.lt; omega))
  have hWd := hWide x w2 hB2
  refine ⟨f2, ?_⟩
  simp only [zzA, zzB, zzC, Act.put, zzD, zzE, zzF]
  refine wpAnyH_all (rs := [6]) (by kernel_rfl) (by simp) ?_
  intro k hk
  simp only [List.mem_cons, List.mem_nil_iff, or_false] at hk
  subst hk
  refine wpOp_run rfl rfl (wp_call_fn 86 #[.int .i64 v.t, x] (by simp [execOp, go_sem, Act.eval, resolve, invoke, enterWide]) (hWd.mono ?_))
  rintro e w2 ⟨rfl, rfl⟩
  refine ⟨f2, ?_⟩
  simp only [zzA, zzB, zzC, Act.put, zzD, zzE, zzF]
  refine tk 9 (.bool true) rfl (by kernel_rfl) (fun _ _ _ h => h) rfl (fun _ hS => by simp [execOp, go_sem, Act.eval, run_underlying Tryz.underlying50, run_underlying Tryz.underlying3, run_underlying Tryz.underlying4, hne]) f2 ?_
  simp only [zzA, zzB, zzC, Act.put, zzD, zzE, zzF]
  refine tk 10 (.bool true) rfl (by kernel_rfl) (fun _ _ _ h => h) rfl (fun _ hS => rfl) f2 ?_
  simp only [zzA, zzB, zzC, Act.put, zzD, zzE, zzF]
  refine wpAnyH_take (i := 11) (v := undef) rfl (by kernel_rfl) (by kernel_rfl) (by kernel_rfl) (fun _ _ _ h => h) (.inr ⟨rfl, rfl⟩) f2 ?_
  simp only [zzA, zzB, zzC, Act.put, zzD, zzE, zzF]
  refine wpAnyH_take (i := 12) (v := undef) rfl (by kernel_rfl) (by kernel_rfl) (by kernel_rfl) (fun _ _ _ h => h) (.inr ⟨rfl, rfl⟩) f2 ?_
  simp only [zzA, zzB, zzC, Act.put, zzD, zzE, zzF]
  refine wpAnyH_take (i := 13) (v := undef) rfl (by kernel_rfl) (by kernel_rfl) (by kernel_rfl) (fun _ _ _ h => h) (.inr ⟨rfl, rfl⟩) f2 ?_
  simp only [zzA, zzB, zzC, Act.put, zzD, zzE, zzF]
  refine wpAnyH_take (i := 14) (v := undef) rfl (by kernel_rfl) (by kernel_rfl) (by kernel_rfl) (fun _ _ _ h => h) (.inr ⟨rfl, rfl⟩) f2 ?_
  simp only [zzA, zzB, zzC, Act.put, zzD, zzE, zzF]
  refine wpAnyH_take (i := 15) (v := undef) rfl (by kernel_rfl) (by kernel_rfl) (by kernel_rfl) (fun _ _ _ h => h) (.inr ⟨rfl, rfl⟩) f2 ?_
  simp only [zzA, zzB, zzC, Act.put, zzD, zzE, zzF]
  refine wpAnyH_take (i := 16) (v := undef) rfl (by kernel_rfl) (by kernel_rfl) (by kernel_rfl) (fun _ _ _ h => h) (.inr ⟨rfl, rfl⟩) f2 ?_
  simp only [zzA, zzB, zzC, Act.put, zzD, zzE, zzF]
  refine wpAnyH_take (i := 17) (v := undef) rfl (by kernel_rfl) (by kernel_rfl) (by kernel_rfl) (fun _ _ _ h => h) (.inr ⟨rfl, rfl⟩) f2 ?_
  simp only [zzA, zzB, zzC, Act.put, zzD, zzE, zzF]
  refine wpAnyH_take (i := 18) (v := undef) rfl (by kernel_rfl) (by kernel_rfl) (by kernel_rfl) (fun _ _ _ h => h) (.inr ⟨rfl, rfl⟩) f2 ?_
  simp only [zzA, zzB, zzC, Act.put, zzD, zzE, zzF]
  refine tk 19 (.bool true) rfl (by kernel_rfl) (fun _ _ _ h => h) rfl (fun _ hS => by simp [execOp, go_sem, Act.eval, run_underlying Tryz.underlying50, run_underlying Tryz.underlying3, run_underlying Tryz.underlying4, hne]) f2 ?_
  simp only [zzA, zzB, zzC, Act.put, zzD, zzE, zzF]
  refine wpAnyH_done (by kernel_rfl) ?_ _
  go_wp2
  go_ret
  exact ⟨rfl, by rw [hq]; exact B2⟩
set_option maxHeartbeats 2000000 in
theorem r7Check_other (v : Vl) (hz : 0 < siz v.t) (heq : wv v = v.n) (h1 : v.t ≠ 1) (w : World) :
    Calls Tryz.prog 46 #[.agg v.arr] w fun e w' => e = .returned (.int .i64 (0)) ∧ Below w.heap.size w w' := by
  have fA := Va.new w v
  have bA : Below w.heap.size w (w.alloc (.cells v.arr 52)) := (Below.refl _ _).alloc (Nat.le_refl _) _
  have hI := r7Is_any v.t
  have hS7 := r7Size_any v.t
  have hk : (kind v.t != 0) = true := by
    have := siz_zero v.t
    simp
    omega
  rw [hk] at hI
  have h8 := siz_le v.t
  have hLow := fun w => r7low_any v.n (siz v.t) h8 w
  have hWide := fun x w => r7Wide_v v.t x (lowL v.n (siz v.t)) w (by rw [lowL_length]; exact h8)
  have hwv : wideN (kind v.t == 2) (lowL v.n (siz v.t)) = wv v := rfl
  rw [hwv] at hWide
  obtain ⟨W, hW⟩ : ∃ W, w.alloc (.cells v.arr 52) = W := ⟨_, rfl⟩
  obtain ⟨q, hq⟩ : ∃ q, w.heap.size = q := ⟨_, rfl⟩
  rw [hW, hq] at fA
  rw [hW] at bA
  have c0 := fA.c0
  have dz : decide ((0 : Int) < (siz v.t : Int)) = true := decide_eq_true (by omega)
  have hne : (((wv v : Nat) : Int) != (v.n : Int)) = false := by simp; omega
  have ht1 : (v.t == 1) = false := by simpa using h1
  clear hk hwv
  generalize wv v = V at *
  generalize siz v.t = z at *
  go_enter Tryz.func46, Tryz.ntmps46
  go_upto_region 5 with (first | (go_at_call 84; refine (hI _).mono ?_; rintro e w1 ⟨rfl, rfl⟩) | (go_at_call 85; refine (hS7 _).mono ?_; rintro e w1 ⟨rfl, rfl⟩))
  refine wp_region_held (S := fun x => Va q v x) (by kernel_rfl) ?_
  obtain ⟨y, hy⟩ : ∃ y : World, { w1 with drawn := w1.drawn + 1 } = y := ⟨_, rfl⟩
  rw [hy]
  have f1 : Va q v y := by rw [← hy]; exact fA
  have B1 : Below q w y := by rw [← hy, ← hq]; exact ⟨bA.os, bA.tape, bA.output, bA.size, bA.block⟩
  clear hy hW fA bA hI hS7 c0
  refine tk 0 (.pointer (some ⟨q, 0, none⟩)) rfl (by kernel_rfl) (fun _ _ _ h => h) rfl (fun _ hS => by simp [execOp, go_sem, Act.eval]) f1 ?_
  simp only [zzA, zzB, zzC, Act.put, zzD, zzE, zzF]
  refine tk 1 (.int .i64 v.t) rfl (by kernel_rfl) (fun _ _ _ h => h) rfl (fun _ hS => exec_load rfl rfl (load_int _ q 0 _ hS.c0)) f1 ?_
  simp only [zzA, zzB, zzC, Act.put, zzD, zzE, zzF]
  refine tk 2 (.pointer (some ⟨q, 1, none⟩)) rfl (by kernel_rfl) (fun _ _ _ h => h) rfl (fun _ hS => by simp [execOp, go_sem, Act.eval]) f1 ?_
  simp only [zzA, zzB, zzC, Act.put, zzD, zzE, zzF]
  refine tk 3 (.int .u64 v.n) rfl (by kernel_rfl) (fun _ _ _ h => h) rfl (fun _ hS => exec_load rfl rfl (load_u64 _ q 1 _ hS.c1)) f1 ?_
  simp only [zzA, zzB, zzC, Act.put, zzD, zzE, zzF]
  refine tk 4 (.int .i64 z) rfl (by kernel_rfl) (fun _ _ _ h => h) rfl (fun _ hS => rfl) f1 ?_
  simp only [zzA, zzB, zzC, Act.put, zzD, zzE, zzF]
  refine tk 7 (.pointer (some ⟨q, 1, none⟩)) rfl (by kernel_rfl) (fun _ _ _ h => h) rfl (fun _ hS => by simp [execOp, go_sem, Act.eval]) f1 ?_
  simp only [zzA, zzB, zzC, Act.put, zzD, zzE, zzF]
  refine tk 8 (.int .u64 v.n) rfl (by kernel_rfl) (fun _ _ _ h => h) rfl (fun _ hS => exec_load rfl rfl (load_u64 _ q 1 _ hS.c1)) f1 ?_
  simp only [zzA, zzB, zzC, Act.put, zzD, zzE, zzF]
  refine wpAnyH_all (rs := [5]) (by kernel_rfl) (by simp) ?_
  intro k hk
  simp only [List.mem_cons, List.mem_nil_iff, or_false] at hk
  subst hk
  refine wpOp_run rfl rfl (wp_call_fn 87 #[.int .u64 v.n, .int .i64 z] (by simp [execOp, go_sem, Act.eval, resolve, invoke, enterLow]) ((hLow _).mono ?_))
  rintro e w2 ⟨x, rfl, hB2, b2⟩
  have f2 := f1.below b2
  have B2 := B1.trans (b2.mono (by have := f1.lt; omega))
  have hWd := hWide x w2 hB2
  refine ⟨f2, ?_⟩
  simp only [zzA, zzB, zzC, Act.put, zzD, zzE, zzF]
  refine wpAnyH_all (rs := [6]) (by kernel_rfl) (by simp) ?_
  intro k hk
  simp only [List.mem_cons, List.mem_nil_iff, or_false] at hk
  subst hk
  refine wpOp_run rfl rfl (wp_call_fn 86 #[.int .i64 v.t, x] (by simp [execOp, go_sem, Act.eval, resolve, invoke, enterWide]) (hWd.mono ?_))
  rintro e w2 ⟨rfl, rfl⟩
  refine ⟨f2, ?_⟩
  simp only [zzA, zzB, zzC, Act.put, zzD, zzE, zzF]
  refine tk 9 (.bool false) rfl (by kernel_rfl) (fun _ _ _ h => h) rfl (fun _ hS => by simp [execOp, go_sem, Act.eval, run_underlying Tryz.underlying50, run_underlying Tryz.underlying3, run_underlying Tryz.underlying4, hne]) f2 ?_
  simp only [zzA, zzB, zzC, Act.put, zzD, zzE, zzF]
  refine tk 10 (.bool false) rfl (by kernel_rfl) (fun _ _ _ h => h) rfl (fun _ hS => rfl) f2 ?_
  simp only [zzA, zzB, zzC, Act.put, zzD, zzE, zzF]
  refine tk 11 (.pointer (some ⟨q, 0, none⟩)) rfl (by kernel_rfl) (fun _ _ _ h => h) rfl (fun _ hS => by simp [execOp, go_sem, Act.eval]) f2 ?_
  simp only [zzA, zzB, zzC, Act.put, zzD, zzE, zzF]
  refine tk 12 (.int .i64 v.t) rfl (by kernel_rfl) (fun _ _ _ h => h) rfl (fun _ hS => exec_load rfl rfl (load_int _ q 0 _ hS.c0)) f2 ?_
  simp only [zzA, zzB, zzC, Act.put, zzD, zzE, zzF]
  refine tk 13 (.bool false) rfl (by kernel_rfl) (fun _ _ _ h => h) rfl (fun _ hS => by simp [execOp, go_sem, Act.eval, run_underlying Tryz.underlying50, run_underlying Tryz.underlying3, run_underlying Tryz.underlying4, ht1]) f2 ?_
  simp only [zzA, zzB, zzC, Act.put, zzD, zzE, zzF]
  refine tk 14 (.bool false) rfl (by kernel_rfl) (fun _ _ _ h => h) rfl (fun _ hS => rfl) f2 ?_
  simp only [zzA, zzB, zzC, Act.put, zzD, zzE, zzF]
  refine wpAnyH_take (i := 15) (v := undef) rfl (by kernel_rfl) (by kernel_rfl) (by kernel_rfl) (fun _ _ _ h => h) (.inr ⟨rfl, rfl⟩) f2 ?_
  simp only [zzA, zzB, zzC, Act.put, zzD, zzE, zzF]
  refine wpAnyH_take (i := 16) (v := undef) rfl (by kernel_rfl) (by kernel_rfl) (by kernel_rfl) (fun _ _ _ h => h) (.inr ⟨rfl, rfl⟩) f2 ?_
  simp only [zzA, zzB, zzC, Act.put, zzD, zzE, zzF]
  refine wpAnyH_take (i := 17) (v := undef) rfl (by kernel_rfl) (by kernel_rfl) (by kernel_rfl) (fun _ _ _ h => h) (.inr ⟨rfl, rfl⟩) f2 ?_
  simp only [zzA, zzB, zzC, Act.put, zzD, zzE, zzF]
  refine tk 18 (.bool false) rfl (by kernel_rfl) (fun _ _ _ h => h) rfl (fun _ hS => by simp [execOp, go_sem, Act.eval, run_underlying Tryz.underlying50, run_underlying Tryz.underlying3, run_underlying Tryz.underlying4, ht1]) f2 ?_
  simp only [zzA, zzB, zzC, Act.put, zzD, zzE, zzF]
  refine tk 19 (.bool false) rfl (by kernel_rfl) (fun _ _ _ h => h) rfl (fun _ hS => by simp [execOp, go_sem, Act.eval, run_underlying Tryz.underlying50, run_underlying Tryz.underlying3, run_underlying Tryz.underlying4, ht1]) f2 ?_
  simp only [zzA, zzB, zzC, Act.put, zzD, zzE, zzF]
  refine wpAnyH_done (by kernel_rfl) ?_ _
  go_wp2
  go_ret
  exact ⟨rfl, by rw [hq]; exact B2⟩
end Go.Proofs.YtahfnknbmikmkaaGreat
namespace Go.Proofs.YtahfnknbmikmkaaGreat
open Go.RowKit Go.Proofs.Ty Go.Sort Go.Lib
set_option linter.unusedVariables false
set_option maxRecDepth 1000000
set_option linter.unusedSimpArgs false
theorem wpOp_runw {ops : Array Oper} {Q : Exit → Act → World → Prop} {K : Act → World → Prop} {a : Act} {w : World} {i : Nat} {o : Oper} (hi : ops[i]? = some o) (hg : Region.wanted o (yielded ops a.tmps) = true) (h : o.wp Tryz.prog a w K Q) : wpOp Tryz.prog ops Q i K a w := by
  unfold Go.wpOp
  simp only [hi]
  rw [if_pos hg]
  exact .inl h
theorem run_ldV {w : World} {b o : Nat} {v : Vl} (h : w.rangeAt b o (vlC v)) : (loadVar 52 ⟨b, o, none⟩).run Tryz.prog w = .ok (.agg v.arr) w :=
  run_loadVar_mid w b o 52 (vlC v) _ h Tryz.underlying52 rfl (by rw [infoV]; rfl)
theorem run_ldE {w : World} {b o : Nat} {e : En} (h : w.rangeAt b o (enC e)) : (loadVar 93 ⟨b, o, none⟩).run Tryz.prog w = .ok (.agg e.arr) w :=
  run_loadVar_mid w b o 93 (enC e) _ h Tryz.underlying93 rfl (by rw [infoE]; rfl)
theorem quiet_ldV {W : World} {ops : Array Oper} {rest : List Oper} {p : Oper} {a : Act} {Q : Act → Prop} {b o : Nat} {v : Vl} (h : W.rangeAt b o (vlC v)) (hl : b < W.heap.size) (hgd : Region.wanted p (yielded ops a.tmps) = true) (x : Operand) (ho : p.op = .load 52 x) (hx : a.eval x = .pointer (some ⟨b, o, none⟩))
    (hh : wpQuiet Tryz.prog ops (fun w' => ∃ x : Later W, w' = x.now) Q rest (a.put p.dst (.agg v.arr))) : wpQuiet Tryz.prog ops (fun w' => ∃ x : Later W, w' = x.now) Q (p :: rest) a := by
  unfold wpQuiet
  rw [if_pos hgd]
  refine ⟨.agg v.arr, ?_, hh⟩
  rintro w' ⟨y, rfl⟩
  have hl := run_ldV (rng_below h y.below hl)
  unfold Oper.quietAt execOp
  simp only [ho, hx, Instr.loadAt, Instr.sureAddr, Sem.run_bind, Sem.run_pure, Result.andThen_ok, hl]
  exact ⟨rfl, rfl⟩
theorem quiet_ldE {W : World} {ops : Array Oper} {rest : List Oper} {p : Oper} {a : Act} {Q : Act → Prop} {b o : Nat} {e : En} (h : W.rangeAt b o (enC e)) (hl : b < W.heap.size) (hgd : Region.wanted p (yielded ops a.tmps) = true) (x : Operand) (ho : p.op = .load 93 x) (hx : a.eval x = .pointer (some ⟨b, o, none⟩))
    (hh : wpQuiet Tryz.prog ops (fun w' => ∃ x : Later W, w' = x.now) Q rest (a.put p.dst (.agg e.arr))) : wpQuiet Tryz.prog ops (fun w' => ∃ x : Later W, w' = x.now) Q (p :: rest) a := by
  unfold wpQuiet
  rw [if_pos hgd]
  refine ⟨.agg e.arr, ?_, hh⟩
  rintro w' ⟨y, rfl⟩
  have hl := run_ldE (rng_below h y.below hl)
  unfold Oper.quietAt execOp
  simp only [ho, hx, Instr.loadAt, Instr.sureAddr, Sem.run_bind, Sem.run_pure, Result.andThen_ok, hl]
  exact ⟨rfl, rfl⟩
theorem bdrw {w x : World} (h : Below w.drew.heap.size w.drew x) : Below w.heap.size w x := ⟨h.os, h.tape, h.output, h.size, h.block⟩
/-- The code by which limits refuse a value. -/
def bey (e : En) (v : Vl) : Nat := if e.li = false then 0 else if 0 < ordN v e.mx then 101253169 else if ordN v e.mn < 0 then 101253170 else 0
set_option maxHeartbeats 4000000 in
theorem beyond_any {b : Nat} {e : En} {u : Vl} {w : World} (h : Ib b e u w) (v : Vl) :
    Calls Tryz.prog 135 #[ptrI b, .agg v.arr] w fun x w' => x = .returned (.int .u32 (bey e v)) ∧ Below w.heap.size w w' := by
  have HB : Hid (bey e v = if e.li = false then 0 else if 0 < ordN v e.mx then 101253169 else if ordN v e.mn < 0 then 101253170 else 0) := rfl
  have hO1 := Order_v v e.mx
  have hO2 := Order_v v e.mn
  have B0 : Below w.heap.size w (w.alloc (.cells v.arr 52)) := (Below.refl _ _).alloc (Nat.le_refl _) _
  have f1 := Va.new w v
  have h0 := h.below B0
  clear h
  generalize bey e v = R at *
  generalize ordN v e.mx = N1 at *
  generalize ordN v e.mn = N2 at *
  generalize ordE v e.mx = E1 at *
  generalize ordE v e.mn = E2 at *
  unfold ptrI
  go_enter Tryz.func135, Tryz.ntmps135
  go_upto_region 1 with fail
  generalize w.alloc (.cells v.arr 52) = W at *
  obtain ⟨q, hq⟩ : ∃ q, w.heap.size = q := ⟨_, rfl⟩
  simp only [hq] at f1 ⊢
  obtain ⟨c0, c1, c2, c3, c4, c11⟩ := h0.c
  have r1 := h0.r8
  have hb1 := h0.lt
  cases hli : e.li
  · rw [hli] at c4
    have e1 := hidOf2 (show R = 0 by rw [HB.out, if_pos hli])
    clear HB
    go_wp2
    go_ret
    exact ⟨ret_int (by rw [e1.out]; rfl), B0⟩
  · rw [hli] at c4
    rw [if_neg (by rw [hli]; simp)] at HB
    have hL := Later.some W
    go_upto_region 3 with fail
    clear c0 c1 c2 c3 c4 c11
    refine wp_region_later (by kernel_rfl) (by kernel_rfl) ?_
    refine quiet_ldv f1 rfl _ rfl rfl ?_
    simp only [Act.put, List.setIfInBounds_toArray, List.set_cons_succ, List.set_cons_zero]
    go_big_quiet_step (fail)
    go_big_quiet_step (fail)
    go_big_quiet_step (fail)
    go_big_quiet_step (fail)
    refine quiet_ldV r1 hb1 rfl _ rfl rfl ?_
    simp only [Act.put, List.setIfInBounds_toArray, List.set_cons_succ, List.set_cons_zero]
    repeat (go_big_quiet_step (first | (go_at_call 133; with_reducible exact later (hO1 _))))
    refine wpQuiet_nil ?_
    rintro _ ⟨x1, rfl⟩
    have h2 := h0.below x1.below
    have f2 := f1.below x1.below
    have B2 := B0.trans (x1.below.mono (by have := B0.size; omega))
    clear h0 f1 B0 hL hO1 r1 hb1
    generalize x1.now = W2 at *
    clear x1
    have r2 := h2.r5
    have hb2 := h2.lt
    by_cases hn1 : 0 < N1
    · have d1 : decide (0 < N1) = true := decide_eq_true hn1
      have e1 := hidOf2 (show R = 101253169 by rw [HB.out, if_pos hn1])
      clear HB
      go_wp2
      go_ret
      exact ⟨ret_int (by rw [e1.out]; rfl), B2⟩
    · have d1 : decide (0 < N1) = false := decide_eq_false hn1
      rw [if_neg hn1] at HB
      have hL := Later.some W2
      go_upto_region 6 with fail
      refine wp_region_later (by kernel_rfl) (by kernel_rfl) ?_
      refine quiet_ldv f2 rfl _ rfl rfl ?_
      simp only [Act.put, List.setIfInBounds_toArray, List.set_cons_succ, List.set_cons_zero]
      go_big_quiet_step (fail)
      go_big_quiet_step (fail)
      go_big_quiet_step (fail)
      go_big_quiet_step (fail)
      refine quiet_ldV r2 hb2 rfl _ rfl rfl ?_
      simp only [Act.put, List.setIfInBounds_toArray, List.set_cons_succ, List.set_cons_zero]
      repeat (go_big_quiet_step (first | (go_at_call 133; with_reducible exact later (hO2 _))))
      refine wpQuiet_nil ?_
      rintro _ ⟨x1, rfl⟩
      have B3 := B2.trans (x1.below.mono (by have := B2.size; omega))
      clear B2 h2 f2 hL r2 hb2 hO2
      generalize x1.now = W3 at *
      clear x1
      by_cases hn2 : N2 < 0
      · have d2 : decide (N2 < 0) = true := decide_eq_true hn2
        have e1 := hidOf2 (show R = 101253170 by rw [HB.out, if_pos hn2])
        clear HB
        go_wp2
        go_ret
        exact ⟨ret_int (by rw [e1.out]; rfl), by first | exact B3 | (rw [← hq]; exact B3)⟩
      · have d2 : decide (N2 < 0) = false := decide_eq_false hn2
        have e1 := hidOf2 (show R = 0 by rw [HB.out, if_neg hn2])
        clear HB
        go_wp2
        go_ret
        exact ⟨ret_int (by rw [e1.out]; rfl), by first | exact B3 | (rw [← hq]; exact B3)⟩
end Go.Proofs.YtahfnknbmikmkaaGreat
