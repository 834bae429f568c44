/- Contracts of the document's own: Check of a Bool. Contracts of the document's own: Check, Plain, Encode. Contracts: the document's own Order. -/
import Derived.Test.YtahfnknbmikmkaaGreatZs
import Derived.Test.YtahfnknbmikmkaaGreatKa8
import Derived.Test.YtahfnknbmikmkaaGreatKa2
namespace Go.Proofs.YtahfnknbmikmkaaGreat
open Go.RowKit Go.Proofs.Ty
set_option linter.unusedVariables false
set_option maxRecDepth 1000000
set_option linter.unusedSimpArgs false
set_option maxHeartbeats 2000000 in
theorem r7Check_b1 (v : Vl) (hz : 0 < siz v.t) (heq : wv v = v.n) (h1 : v.t = 1) (hn : 1 < v.n) (w : World) :
    Calls Tryz.prog 46 #[.agg v.arr] w fun e w' => e = .returned (.int .i64 (1)) ∧ Below w.heap.size w w' := by
  have fA := Va.new w v
  have bA : Below w.heap.size w (w.alloc (.cells v.arr 52)) := (Below.refl _ _).alloc (Nat.le_refl _) _
  have hI := r7Is_any v.t
  have hS7 := r7Size_any v.t
  have hk : (kind v.t != 0) = true := by
    have := siz_zero v.t
    simp
    omega
  rw [hk] at hI
  have h8 := siz_le v.t
  have hLow := fun w => r7low_any v.n (siz v.t) h8 w
  have hWide := fun x w => r7Wide_v v.t x (lowL v.n (siz v.t)) w (by rw [lowL_length]; exact h8)
  have hwv : wideN (kind v.t == 2) (lowL v.n (siz v.t)) = wv v := rfl
  rw [hwv] at hWide
  obtain ⟨W, hW⟩ : ∃ W, w.alloc (.cells v.arr 52) = W := ⟨_, rfl⟩
  obtain ⟨q, hq⟩ : ∃ q, w.heap.size = q := ⟨_, rfl⟩
  rw [hW, hq] at fA
  rw [hW] at bA
  have c0 := fA.c0
  have dz : decide ((0 : Int) < (siz v.t : Int)) = true := decide_eq_true (by omega)
  have hne : (((wv v : Nat) : Int) != (v.n : Int)) = false := by simp; omega
  have ht1 : (v.t == 1) = true := by simpa using h1
  have hbb : decide ((1 : Int) < (v.n : Int)) = true := decide_eq_true (by omega)
  clear h1 heq hn
  clear hk hwv
  generalize wv v = V at *
  generalize siz v.t = z at *
  go_enter Tryz.func46, Tryz.ntmps46
  go_upto_region 5 with (first | (go_at_call 84; refine (hI _).mono ?_; rintro e w1 ⟨rfl, rfl⟩) | (go_at_call 85; refine (hS7 _).mono ?_; rintro e w1 ⟨rfl, rfl⟩))
  refine wp_region_held (S := fun x => Va q v x) (by kernel_rfl) ?_
  obtain ⟨y, hy⟩ : ∃ y : World, { w1 with drawn := w1.drawn + 1 } = y := ⟨_, rfl⟩
  rw [hy]
  have f1 : Va q v y := by rw [← hy]; exact fA
  have B1 : Below q w y := by rw [← hy, ← hq]; exact ⟨bA.os, bA.tape, bA.output, bA.size, bA.block⟩
  clear hy hW fA bA hI hS7 c0
  refine tk 0 (.pointer (some ⟨q, 0, none⟩)) rfl (by kernel_rfl) (fun _ _ _ h => h) rfl (fun _ hS => by simp [execOp, go_sem, Act.eval]) f1 ?_
  simp only [zzA, zzB, zzC, Act.put, zzD, zzE, zzF]
  refine tk 1 (.int .i64 v.t) rfl (by kernel_rfl) (fun _ _ _ h => h) rfl (fun _ hS => exec_load rfl rfl (load_int _ q 0 _ hS.c0)) f1 ?_
  simp only [zzA, zzB, zzC, Act.put, zzD, zzE, zzF]
  refine tk 2 (.pointer (some ⟨q, 1, none⟩)) rfl (by kernel_rfl) (fun _ _ _ h => h) rfl (fun _ hS => by simp [execOp, go_sem, Act.eval]) f1 ?_
  simp only [zzA, zzB, zzC, Act.put, zzD, zzE, zzF]
  refine tk 3 (.int .u64 v.n) rfl (by kernel_rfl) (fun _ _ _ h => h) rfl (fun _ hS => exec_load rfl rfl (load_u64 _ q 1 _ hS.c1)) f1 ?_
  simp only [zzA, zzB, zzC, Act.put, zzD, zzE, zzF]
  refine tk 4 (.int .i64 z) rfl (by kernel_rfl) (fun _ _ _ h => h) rfl (fun _ hS => rfl) f1 ?_
  simp only [zzA, zzB, zzC, Act.put, zzD, zzE, zzF]
  refine tk 7 (.pointer (some ⟨q, 1, none⟩)) rfl (by kernel_rfl) (fun _ _ _ h => h) rfl (fun _ hS => by simp [execOp, go_sem, Act.eval]) f1 ?_
  simp only [zzA, zzB, zzC, Act.put, zzD, zzE, zzF]
  refine tk 8 (.int .u64 v.n) rfl (by kernel_rfl) (fun _ _ _ h => h) rfl (fun _ hS => exec_load rfl rfl (load_u64 _ q 1 _ hS.c1)) f1 ?_
  simp only [zzA, zzB, zzC, Act.put, zzD, zzE, zzF]
  refine wpAnyH_all (rs := [5]) (by kernel_rfl) (by simp) ?_
  intro k hk
  simp only [List.mem_cons, List.mem_nil_iff, or_false] at hk
  subst hk
  refine wpOp_run rfl rfl (wp_call_fn 87 #[.int .u64 v.n, .int .i64 z] (by simp [execOp, go_sem, Act.eval, resolve, invoke, enterLow]) ((hLow _).mono ?_))
  rintro e w2 ⟨x, rfl, hB2, b2⟩
  have f2 := f1.below b2
  have B2 := B1.trans (b2.mono (by have := f1.lt; omega))
  have hWd := hWide x w2 hB2
  refine ⟨f2, ?_⟩
  simp only [zzA, zzB, zzC, Act.put, zzD, zzE, zzF]
  refine wpAnyH_all (rs := [6]) (by kernel_rfl) (by simp) ?_
  intro k hk
  simp only [List.mem_cons, List.mem_nil_iff, or_false] at hk
  subst hk
  refine wpOp_run rfl rfl (wp_call_fn 86 #[.int .i64 v.t, x] (by simp [execOp, go_sem, Act.eval, resolve, invoke, enterWide]) (hWd.mono ?_))
  rintro e w2 ⟨rfl, rfl⟩
  refine ⟨f2, ?_⟩
  simp only [zzA, zzB, zzC, Act.put, zzD, zzE, zzF]
  refine tk 9 (.bool false) rfl (by kernel_rfl) (fun _ _ _ h => h) rfl (fun _ hS => by simp [execOp, go_sem, Act.eval, run_underlying Tryz.underlying50, run_underlying Tryz.underlying3, run_underlying Tryz.underlying4, hne]) f2 ?_
  simp only [zzA, zzB, zzC, Act.put, zzD, zzE, zzF]
  refine tk 10 (.bool false) rfl (by kernel_rfl) (fun _ _ _ h => h) rfl (fun _ hS => rfl) f2 ?_
  simp only [zzA, zzB, zzC, Act.put, zzD, zzE, zzF]
  refine tk 11 (.pointer (some ⟨q, 0, none⟩)) rfl (by kernel_rfl) (fun _ _ _ h => h) rfl (fun _ hS => by simp [execOp, go_sem, Act.eval]) f2 ?_
  simp only [zzA, zzB, zzC, Act.put, zzD, zzE, zzF]
  refine tk 12 (.int .i64 v.t) rfl (by kernel_rfl) (fun _ _ _ h => h) rfl (fun _ hS => exec_load rfl rfl (load_int _ q 0 _ hS.c0)) f2 ?_
  simp only [zzA, zzB, zzC, Act.put, zzD, zzE, zzF]
  refine tk 13 (.bool true) rfl (by kernel_rfl) (fun _ _ _ h => h) rfl (fun _ hS => by simp [execOp, go_sem, Act.eval, run_underlying Tryz.underlying50, run_underlying Tryz.underlying3, run_underlying Tryz.underlying4, ht1]) f2 ?_
  simp only [zzA, zzB, zzC, Act.put, zzD, zzE, zzF]
  refine tk 14 (.bool true) rfl (by kernel_rfl) (fun _ _ _ h => h) rfl (fun _ hS => rfl) f2 ?_
  simp only [zzA, zzB, zzC, Act.put, zzD, zzE, zzF]
  refine tk 15 (.pointer (some ⟨q, 1, none⟩)) rfl (by kernel_rfl) (fun _ _ _ h => h) rfl (fun _ hS => by simp [execOp, go_sem, Act.eval]) f2 ?_
  simp only [zzA, zzB, zzC, Act.put, zzD, zzE, zzF]
  refine tk 16 (.int .u64 v.n) rfl (by kernel_rfl) (fun _ _ _ h => h) rfl (fun _ hS => exec_load rfl rfl (load_u64 _ q 1 _ hS.c1)) f2 ?_
  simp only [zzA, zzB, zzC, Act.put, zzD, zzE, zzF]
  refine tk 17 (.bool true) rfl (by kernel_rfl) (fun _ _ _ h => h) rfl (fun _ hS => by simp [execOp, go_sem, Act.eval, run_underlying Tryz.underlying50, run_underlying Tryz.underlying3, run_underlying Tryz.underlying4, hbb]) f2 ?_
  simp only [zzA, zzB, zzC, Act.put, zzD, zzE, zzF]
  refine tk 18 (.bool true) rfl (by kernel_rfl) (fun _ _ _ h => h) rfl (fun _ hS => by simp [execOp, go_sem, Act.eval, run_underlying Tryz.underlying50, run_underlying Tryz.underlying3, run_underlying Tryz.underlying4, hbb]) f2 ?_
  simp only [zzA, zzB, zzC, Act.put, zzD, zzE, zzF]
  refine tk 19 (.bool true) rfl (by kernel_rfl) (fun _ _ _ h => h) rfl (fun _ hS => by simp [execOp, go_sem, Act.eval, run_underlying Tryz.underlying50, run_underlying Tryz.underlying3, run_underlying Tryz.underlying4, hbb]) f2 ?_
  simp only [zzA, zzB, zzC, Act.put, zzD, zzE, zzF]
  refine wpAnyH_done (by kernel_rfl) ?_ _
  go_wp2
  go_ret
  exact ⟨rfl, by rw [hq]; exact B2⟩
set_option maxHeartbeats 2000000 in
theorem r7Check_b0 (v : Vl) (hz : 0 < siz v.t) (heq : wv v = v.n) (h1 : v.t = 1) (hn : ¬ 1 < v.n) (w : World) :
    Calls Tryz.prog 46 #[.agg v.arr] w fun e w' => e = .returned (.int .i64 (0)) ∧ Below w.heap.size w w' := by
  have fA := Va.new w v
  have bA : Below w.heap.size w (w.alloc (.cells v.arr 52)) := (Below.refl _ _).alloc (Nat.le_refl _) _
  have hI := r7Is_any v.t
  have hS7 := r7Size_any v.t
  have hk : (kind v.t != 0) = true := by
    have := siz_zero v.t
    simp
    omega
  rw [hk] at hI
  have h8 := siz_le v.t
  have hLow := fun w => r7low_any v.n (siz v.t) h8 w
  have hWide := fun x w => r7Wide_v v.t x (lowL v.n (siz v.t)) w (by rw [lowL_length]; exact h8)
  have hwv : wideN (kind v.t == 2) (lowL v.n (siz v.t)) = wv v := rfl
  rw [hwv] at hWide
  obtain ⟨W, hW⟩ : ∃ W, w.alloc (.cells v.arr 52) = W := ⟨_, rfl⟩
  obtain ⟨q, hq⟩ : ∃ q, w.heap.size = q := ⟨_, rfl⟩
  rw [hW, hq] at fA
  rw [hW] at bA
  have c0 := fA.c0
  have dz : decide ((0 : Int) < (siz v.t : Int)) = true := decide_eq_true (by omega)
  have hne : (((wv v : Nat) : Int) != (v.n : Int)) = false := by simp; omega
  have ht1 : (v.t == 1) = true := by simpa using h1
  have hbb : decide ((1 : Int) < (v.n : Int)) = false := decide_eq_false (by omega)
  clear h1 heq hn
  clear hk hwv
  generalize wv v = V at *
  generalize siz v.t = z at *
  go_enter Tryz.func46, Tryz.ntmps46
  go_upto_region 5 with (first | (go_at_call 84; refine (hI _).mono ?_; rintro e w1 ⟨rfl, rfl⟩) | (go_at_call 85; refine (hS7 _).mono ?_; rintro e w1 ⟨rfl, rfl⟩))
  refine wp_region_held (S := fun x => Va q v x) (by kernel_rfl) ?_
  obtain ⟨y, hy⟩ : ∃ y : World, { w1 with drawn := w1.drawn + 1 } = y := ⟨_, rfl⟩
  rw [hy]
  have f1 : Va q v y := by rw [← hy]; exact fA
  have B1 : Below q w y := by rw [← hy, ← hq]; exact ⟨bA.os, bA.tape, bA.output, bA.size, bA.block⟩
  clear hy hW fA bA hI hS7 c0
  refine tk 0 (.pointer (some ⟨q, 0, none⟩)) rfl (by kernel_rfl) (fun _ _ _ h => h) rfl (fun _ hS => by simp [execOp, go_sem, Act.eval]) f1 ?_
  simp only [zzA, zzB, zzC, Act.put, zzD, zzE, zzF]
  refine tk 1 (.int .i64 v.t) rfl (by kernel_rfl) (fun _ _ _ h => h) rfl (fun _ hS => exec_load rfl rfl (load_int _ q 0 _ hS.c0)) f1 ?_
  simp only [zzA, zzB, zzC, Act.put, zzD, zzE, zzF]
  refine tk 2 (.pointer (some ⟨q, 1, none⟩)) rfl (by kernel_rfl) (fun _ _ _ h => h) rfl (fun _ hS => by simp [execOp, go_sem, Act.eval]) f1 ?_
  simp only [zzA, zzB, zzC, Act.put, zzD, zzE, zzF]
  refine tk 3 (.int .u64 v.n) rfl (by kernel_rfl) (fun _ _ _ h => h) rfl (fun _ hS => exec_load rfl rfl (load_u64 _ q 1 _ hS.c1)) f1 ?_
  simp only [zzA, zzB, zzC, Act.put, zzD, zzE, zzF]
  refine tk 4 (.int .i64 z) rfl (by kernel_rfl) (fun _ _ _ h => h) rfl (fun _ hS => rfl) f1 ?_
  simp only [zzA, zzB, zzC, Act.put, zzD, zzE, zzF]
  refine tk 7 (.pointer (some ⟨q, 1, none⟩)) rfl (by kernel_rfl) (fun _ _ _ h => h) rfl (fun _ hS => by simp [execOp, go_sem, Act.eval]) f1 ?_
  simp only [zzA, zzB, zzC, Act.put, zzD, zzE, zzF]
  refine tk 8 (.int .u64 v.n) rfl (by kernel_rfl) (fun _ _ _ h => h) rfl (fun _ hS => exec_load rfl rfl (load_u64 _ q 1 _ hS.c1)) f1 ?_
  simp only [zzA, zzB, zzC, Act.put, zzD, zzE, zzF]
  refine wpAnyH_all (rs := [5]) (by kernel_rfl) (by simp) ?_
  intro k hk
  simp only [List.mem_cons, List.mem_nil_iff, or_false] at hk
  subst hk
  refine wpOp_run rfl rfl (wp_call_fn 87 #[.int .u64 v.n, .int .i64 z] (by simp [execOp, go_sem, Act.eval, resolve, invoke, enterLow]) ((hLow _).mono ?_))
  rintro e w2 ⟨x, rfl, hB2, b2⟩
  have f2 := f1.below b2
  have B2 := B1.trans (b2.mono (by have := f1.lt; omega))
  have hWd := hWide x w2 hB2
  refine ⟨f2, ?_⟩
  simp only [zzA, zzB, zzC, Act.put, zzD, zzE, zzF]
  refine wpAnyH_all (rs := [6]) (by kernel_rfl) (by simp) ?_
  intro k hk
  simp only [List.mem_cons, List.mem_nil_iff, or_false] at hk
  subst hk
  refine wpOp_run rfl rfl (wp_call_fn 86 #[.int .i64 v.t, x] (by simp [execOp, go_sem, Act.eval, resolve, invoke, enterWide]) (hWd.mono ?_))
  rintro e w2 ⟨rfl, rfl⟩
  refine ⟨f2, ?_⟩
  simp only [zzA, zzB, zzC, Act.put, zzD, zzE, zzF]
  refine tk 9 (.bool false) rfl (by kernel_rfl) (fun _ _ _ h => h) rfl (fun _ hS => by simp [execOp, go_sem, Act.eval, run_underlying Tryz.underlying50, run_underlying Tryz.underlying3, run_underlying Tryz.underlying4, hne]) f2 ?_
  simp only [zzA, zzB, zzC, Act.put, zzD, zzE, zzF]
  refine tk 10 (.bool false) rfl (by kernel_rfl) (fun _ _ _ h => h) rfl (fun _ hS => rfl) f2 ?_
  simp only [zzA, zzB, zzC, Act.put, zzD, zzE, zzF]
  refine tk 11 (.pointer (some ⟨q, 0, none⟩)) rfl (by kernel_rfl) (fun _ _ _ h => h) rfl (fun _ hS => by simp [execOp, go_sem, Act.eval]) f2 ?_
  simp only [zzA, zzB, zzC, Act.put, zzD, zzE, zzF]
  refine tk 12 (.int .i64 v.t) rfl (by kernel_rfl) (fun _ _ _ h => h) rfl (fun _ hS => exec_load rfl rfl (load_int _ q 0 _ hS.c0)) f2 ?_
  simp only [zzA, zzB, zzC, Act.put, zzD, zzE, zzF]
  refine tk 13 (.bool true) rfl (by kernel_rfl) (fun _ _ _ h => h) rfl (fun _ hS => by simp [execOp, go_sem, Act.eval, run_underlying Tryz.underlying50, run_underlying Tryz.underlying3, run_underlying Tryz.underlying4, ht1]) f2 ?_
  simp only [zzA, zzB, zzC, Act.put, zzD, zzE, zzF]
  refine tk 14 (.bool true) rfl (by kernel_rfl) (fun _ _ _ h => h) rfl (fun _ hS => rfl) f2 ?_
  simp only [zzA, zzB, zzC, Act.put, zzD, zzE, zzF]
  refine tk 15 (.pointer (some ⟨q, 1, none⟩)) rfl (by kernel_rfl) (fun _ _ _ h => h) rfl (fun _ hS => by simp [execOp, go_sem, Act.eval]) f2 ?_
  simp only [zzA, zzB, zzC, Act.put, zzD, zzE, zzF]
  refine tk 16 (.int .u64 v.n) rfl (by kernel_rfl) (fun _ _ _ h => h) rfl (fun _ hS => exec_load rfl rfl (load_u64 _ q 1 _ hS.c1)) f2 ?_
  simp only [zzA, zzB, zzC, Act.put, zzD, zzE, zzF]
  refine tk 17 (.bool false) rfl (by kernel_rfl) (fun _ _ _ h => h) rfl (fun _ hS => by simp [execOp, go_sem, Act.eval, run_underlying Tryz.underlying50, run_underlying Tryz.underlying3, run_underlying Tryz.underlying4, hbb]) f2 ?_
  simp only [zzA, zzB, zzC, Act.put, zzD, zzE, zzF]
  refine tk 18 (.bool false) rfl (by kernel_rfl) (fun _ _ _ h => h) rfl (fun _ hS => by simp [execOp, go_sem, Act.eval, run_underlying Tryz.underlying50, run_underlying Tryz.underlying3, run_underlying Tryz.underlying4, hbb]) f2 ?_
  simp only [zzA, zzB, zzC, Act.put, zzD, zzE, zzF]
  refine tk 19 (.bool false) rfl (by kernel_rfl) (fun _ _ _ h => h) rfl (fun _ hS => by simp [execOp, go_sem, Act.eval, run_underlying Tryz.underlying50, run_underlying Tryz.underlying3, run_underlying Tryz.underlying4, hbb]) f2 ?_
  simp only [zzA, zzB, zzC, Act.put, zzD, zzE, zzF]
  refine wpAnyH_done (by kernel_rfl) ?_ _
  go_wp2
  go_ret
  exact ⟨rfl, by rw [hq]; exact B2⟩
end Go.Proofs.YtahfnknbmikmkaaGreat
namespace Go.Proofs.YtahfnknbmikmkaaGreat
open Go.RowKit Go.Proofs.Ty
set_option linter.unusedVariables false
set_option maxRecDepth 1000000

theorem low_last (n k : Nat) : ((lowL n (k + 1)).getLast?.getD 0).toNat = n / 256 ^ k % 256 := by
  rw [lowL_snoc, List.getLast?_concat]
  show (UInt8.ofNat (n / 256 ^ k)).toNat = _
  rw [ofNat_toNat]
theorem wide_low (n z : Nat) (b : Nat) (h : (z = 1 ∧ b = 8) ∨ (z = 2 ∧ b = 16) ∨ (z = 4 ∧ b = 32) ∨ (z = 8 ∧ b = 64)) : wideN true (lowL n z) = extN b n := by
  rcases h with ⟨rfl, rfl⟩ | ⟨rfl, rfl⟩ | ⟨rfl, rfl⟩ | ⟨rfl, rfl⟩
  · unfold wideN extN
    rw [lowL_length, join_low, low_last n 0]
    by_cases h : n % 2 ^ 8 < 2 ^ (8 - 1)
    · rw [if_pos h, if_neg (by omega)]
    · rw [if_neg h, if_pos ⟨rfl, by omega, by omega⟩]
  · unfold wideN extN
    rw [lowL_length, join_low, low_last n 1]
    by_cases h : n % 2 ^ 16 < 2 ^ (16 - 1)
    · rw [if_pos h, if_neg (by omega)]
    · rw [if_neg h, if_pos ⟨rfl, by omega, by omega⟩]
  · unfold wideN extN
    rw [lowL_length, join_low, low_last n 3]
    by_cases h : n % 2 ^ 32 < 2 ^ (32 - 1)
    · rw [if_pos h, if_neg (by omega)]
    · rw [if_neg h, if_pos ⟨rfl, by omega, by omega⟩]
  · unfold wideN extN
    rw [lowL_length, join_low, low_last n 7]
    by_cases h : n % 2 ^ 64 < 2 ^ (64 - 1)
    · rw [if_pos h, if_neg (by omega)]
    · rw [if_neg h, if_pos ⟨rfl, by omega, by omega⟩]
theorem sz2 {t : Int} (h : kind t = 2) : (siz t = 1 ∧ wid t = 8) ∨ (siz t = 2 ∧ wid t = 16) ∨ (siz t = 4 ∧ wid t = 32) ∨ (siz t = 8 ∧ wid t = 64) := by
  unfold kind at h; unfold siz wid; (repeat' split at h) <;> (repeat' split) <;> omega
theorem sz1 {t : Int} (h : kind t = 1) (h1 : t ≠ 1) : (siz t = 1 ∧ wid t = 8) ∨ (siz t = 2 ∧ wid t = 16) ∨ (siz t = 4 ∧ wid t = 32) ∨ (siz t = 8 ∧ wid t = 64) := by
  unfold kind at h; unfold siz wid; (repeat' split at h) <;> (repeat' split) <;> omega
theorem wv_signed {v : Vl} (h : kind v.t = 2) : wv v = extN (wid v.t) v.n := by
  unfold wv
  rw [h]
  exact wide_low _ _ _ (sz2 h)
theorem wv_unsigned {v : Vl} (h : kind v.t = 1) : wv v = v.n % 256 ^ siz v.t := by
  unfold wv wideN
  rw [h, if_neg (by simp), join_low]
theorem chk_num2 {v : Vl} (h : kind v.t = 2) : v.chk = if wv v = v.n then 0 else 1 := by
  unfold Vl.chk chk
  rw [if_neg (by omega), if_pos h, wv_signed h]
theorem chk_num1 {v : Vl} (h : kind v.t = 1) (h1 : v.t ≠ 1) : v.chk = if wv v = v.n then 0 else 1 := by
  unfold Vl.chk chk
  rw [if_pos h, wv_unsigned h]
  rcases sz1 h h1 with ⟨e1, e2⟩ | ⟨e1, e2⟩ | ⟨e1, e2⟩ | ⟨e1, e2⟩ <;> rw [e1, e2] <;> rfl
theorem chk_bool {v : Vl} (h : v.t = 1) : v.chk = if wv v = v.n ∧ ¬ 1 < v.n then 0 else 1 := by
  have hk : kind v.t = 1 := by rw [h]; rfl
  have hw : wid v.t = 1 := by rw [h]; rfl
  have hs : siz v.t = 1 := by rw [h]; rfl
  unfold Vl.chk chk
  rw [if_pos hk, wv_unsigned hk, hw, hs]
  by_cases hn : v.n % 2 ^ 1 = v.n
  · rw [if_pos hn, if_pos (by omega)]
  · rw [if_neg hn, if_neg (by omega)]
theorem r7Check_num (v : Vl) (hz : 0 < siz v.t) (w : World) :
    Calls Tryz.prog 46 #[.agg v.arr] w fun e w' => e = .returned (.int .i64 v.chk) ∧ Below w.heap.size w w' := by
  have hk : kind v.t = 1 ∨ kind v.t = 2 := by
    have := siz_zero v.t
    omega
  by_cases he : wv v = v.n
  · by_cases h1 : v.t = 1
    · by_cases hn : 1 < v.n
      · have := r7Check_b1 v hz he h1 hn w
        rw [chk_bool h1, if_neg (fun h => h.2 hn)]
        exact this
      · have := r7Check_b0 v hz he h1 hn w
        rw [chk_bool h1, if_pos ⟨he, hn⟩]
        exact this
    · have := r7Check_other v hz he h1 w
      have e : v.chk = 0 := by
        rcases hk with hk | hk
        · rw [chk_num1 hk h1, if_pos he]
        · rw [chk_num2 hk, if_pos he]
      rw [e]
      exact this
  · have := r7Check_ne v hz he w
    have e : v.chk = 1 := by
      by_cases h1 : v.t = 1
      · rw [chk_bool h1, if_neg (fun h => he h.1)]
      · rcases hk with hk | hk
        · rw [chk_num1 hk h1, if_neg he]
        · rw [chk_num2 hk, if_neg he]
    rw [e]
    exact this
set_option maxHeartbeats 1000000 in
theorem r7Check_txt (v : Vl) (hz : ¬ 0 < siz v.t) (w : World) :
    Calls Tryz.prog 46 #[.agg v.arr] w fun e w' => e = .returned (.int .i64 v.chk) ∧ Below w.heap.size w w' := by
  have fA := Va.new w v
  have bA : Below w.heap.size w (w.alloc (.cells v.arr 52)) := (Below.refl _ _).alloc (Nat.le_refl _) _
  have hI := r7Is_any v.t
  have hS7 := r7Size_any v.t
  have hk := siz_zero v.t
  have hz0 : siz v.t = 0 := by omega
  rw [hz0] at hS7
  have HT := hidOf (kind_text v.t)
  have HV : Hid (v.chk = if kind v.t = 1 then (if v.n % 2 ^ wid v.t = v.n then 0 else 1)
      else if kind v.t = 2 then (if extN (wid v.t) v.n = v.n then 0 else 1)
      else if kind v.t = 0 then 1
      else if 65536 < v.s.size then 2 else if v.t = 9 ∧ prn v.s.data.toList = false then 1 else 0) := rfl
  obtain ⟨W, hW⟩ : ∃ W, w.alloc (.cells v.arr 52) = W := ⟨_, rfl⟩
  obtain ⟨q, hq⟩ : ∃ q, w.heap.size = q := ⟨_, rfl⟩
  rw [hW, hq] at fA
  rw [hW] at bA
  have bq : Below q w W := by rw [← hq]; exact bA
  have c0 := fA.c0
  have c2 := fA.c2
  have hk1 : kind v.t ≠ 1 := by omega
  have hk2 : kind v.t ≠ 2 := by omega
  generalize v.chk = C at *
  by_cases h0 : kind v.t = 0
  · have e1 := hidOf (show C = 1 by rw [HV.out]; simp [h0])
    have dk : (kind v.t != 0) = false := by simp [h0]
    rw [dk] at hI
    clear HV
    go_enter Tryz.func46, Tryz.ntmps46
    go_wp2_with (first | (go_at_call 84; refine (hI _).mono ?_; rintro e w1 ⟨rfl, rfl⟩) | (go_at_call 85; refine (hS7 _).mono ?_; rintro e w1 ⟨rfl, rfl⟩))
    go_ret
    exact ⟨ret_int (by rw [e1.out]; rfl), by first | exact bA | exact bq⟩
  · have dk : (kind v.t != 0) = true := by simp [h0]
    rw [dk] at hI
    by_cases hl : 65536 < v.s.size
    · have e1 := hidOf (show C = 2 by rw [HV.out]; simp [h0, hk1, hk2, hl])
      clear HV
      go_enter Tryz.func46, Tryz.ntmps46
      go_wp2_with (first | (go_at_call 84; refine (hI _).mono ?_; rintro e w1 ⟨rfl, rfl⟩) | (go_at_call 85; refine (hS7 _).mono ?_; rintro e w1 ⟨rfl, rfl⟩))
      go_ret
      exact ⟨ret_int (by rw [e1.out]; rfl), by first | exact bA | exact bq⟩
    · by_cases h9 : v.t = 9
      · have e1 := hidOf (show C = if prn v.s.data.toList = false then 1 else 0 by rw [HV.out, if_neg hk1, if_neg hk2, if_neg h0, if_neg hl]; simp [h9])
        clear HV HT
        generalize hs : v.s = s at *
        rw [h9] at c0 hI hS7
        go_enter Tryz.func46, Tryz.ntmps46
        go_wp2_with (first | (go_at_call 84; refine (hI _).mono ?_; rintro e w1 ⟨rfl, rfl⟩) | (go_at_call 85; refine (hS7 _).mono ?_; rintro e w1 ⟨rfl, rfl⟩))
        go_loop [4] (fun i => ∃ k : Nat, k ≤ s.size ∧ i = .int .i64 k ∧ prn (s.data.toList.take k) = true) (fun i => s.size - (intOf i).toNat)
        case atStart => exact ⟨0, Nat.zero_le _, rfl, by simp [prn]⟩
        case round =>
          obtain ⟨k, hle, rfl, hall⟩ := hrel
          by_cases hp : k < s.size
          · have dp : decide ((k : Int) < (s.size : Int)) = true := decide_eq_true (by omega)
            by_cases g1 : s[k].toNat < 32
            · have H : Hid (prn s.data.toList = false) := prn_not k hp (.inl g1)
              have d1 : decide ((s[k].toNat : Int) < 32) = true := by simp; omega
              go_wp2
              go_ret
              exact ⟨ret_int (by rw [e1.out, H.out]; rfl), by first | exact bA | exact bq⟩
            · have d1 : decide ((s[k].toNat : Int) < 32) = false := by simp; omega
              by_cases g2 : 126 < s[k].toNat
              · have H : Hid (prn s.data.toList = false) := prn_not k hp (.inr g2)
                have d2 : decide (126 < (s[k].toNat : Int)) = true := by simp; omega
                go_wp2
                go_ret
                exact ⟨ret_int (by rw [e1.out, H.out]; rfl), by first | exact bA | exact bq⟩
              · have d2 : decide (126 < (s[k].toNat : Int)) = false := by simp; omega
                have H : Hid (prn (s.data.toList.take (k + 1)) = true) := by
                  show prn _ = true
                  rw [take_snoc s k hp]; exact prn_snoc hall (by omega) (by omega)
                go_wp2
                go_round
                case rel => exact ⟨k + 1, by omega, by go_num, H.out⟩
                case measure => simp [intOf]; omega
          · have dp : decide ((k : Int) < (s.size : Int)) = false := decide_eq_false (by omega)
            go_wp2
            go_ret
            obtain rfl : k = s.size := by omega
            rw [take_all] at hall
            exact ⟨ret_int (by rw [e1.out, hall]; rfl), by first | exact bA | exact bq⟩
      · have e1 := hidOf (show C = 0 by rw [HV.out]; simp [h0, hk1, hk2, hl, h9])
        have d9 : (v.t == 9) = false := by simpa using h9
        clear HV HT
        go_enter Tryz.func46, Tryz.ntmps46
        go_wp2_with (first | (go_at_call 84; refine (hI _).mono ?_; rintro e w1 ⟨rfl, rfl⟩) | (go_at_call 85; refine (hS7 _).mono ?_; rintro e w1 ⟨rfl, rfl⟩))
        go_loop [4] (fun i => i = .int .i64 0) (fun i => 0)
        case atStart => rfl
        case round =>
          obtain rfl := hrel
          by_cases hp : 0 < v.s.size
          · have dp : decide ((0 : Int) < (v.s.size : Int)) = true := decide_eq_true (by omega)
            go_wp2
            go_ret
            exact ⟨ret_int (by rw [e1.out]; rfl), by first | exact bA | exact bq⟩
          · have dp : decide ((0 : Int) < (v.s.size : Int)) = false := decide_eq_false (by omega)
            go_wp2
            go_ret
            exact ⟨ret_int (by rw [e1.out]; rfl), by first | exact bA | exact bq⟩
theorem r7Check_v (v : Vl) (w : World) : Calls Tryz.prog 46 #[.agg v.arr] w fun e w' => e = .returned (.int .i64 v.chk) ∧ Below w.heap.size w w' := by
  by_cases hz : 0 < siz v.t
  · exact r7Check_num v hz w
  · exact r7Check_txt v hz w
end Go.Proofs.YtahfnknbmikmkaaGreat
namespace Go.Proofs.YtahfnknbmikmkaaGreat
open Go.RowKit Go.Proofs.Ty
set_option linter.unusedVariables false
set_option maxRecDepth 1000000
theorem xor_top (x : Nat) (h : x < 9223372036854775808) : x ^^^ 9223372036854775808 = x + 9223372036854775808 := by
  have e : x + 9223372036854775808 = 2 ^ 63 * 1 ||| x := by
    rw [← Nat.two_pow_add_eq_or_of_lt (i := 63) (by simpa using h)]
    omega
  rw [e]
  apply Nat.eq_of_testBit_eq
  intro i
  rw [show (9223372036854775808 : Nat) = 2 ^ 63 from rfl, Nat.mul_one, Nat.testBit_xor, Nat.testBit_or, Nat.testBit_two_pow]
  by_cases hi : 63 = i
  · subst hi
    rw [Nat.testBit_lt_two_pow (by simpa using h)]
    simp
  · simp [hi]
theorem xor_low (x : Nat) (h : 9223372036854775808 ≤ x) (h2 : x < 18446744073709551616) : x ^^^ 9223372036854775808 = x - 9223372036854775808 := by
  have e := xor_top (x - 9223372036854775808) (by omega)
  have e2 : x = (x - 9223372036854775808) ^^^ 9223372036854775808 := by rw [e]; omega
  rw [e2, Nat.xor_assoc, Nat.xor_self, Nat.xor_zero]
  omega
theorem bias (n : Nat) (h : n < 18446744073709551616) : bits BinOp.xor IntKind.u64 (n : Int) 9223372036854775808 = sgnN n + 9223372036854775808 := by
  rw [show (9223372036854775808 : Int) = ((9223372036854775808 : Nat) : Int) from rfl, u64_xor_nat _ _ h (by omega)]
  unfold sgnN
  split
  · rw [xor_top _ (by assumption)]; omega
  · rw [xor_low _ (by omega) h]; omega
theorem bdr2 {B : Nat} {a w : World} (h : Below B a w) (n m : Nat) : Below B a ((w.drewN n).drewN m) := bdr (bdr h n) m
theorem cmp_ways (l g : Prop) [Decidable l] [Decidable g] {C : Int} (h : C = if l then -1 else if g then 1 else 0) : (l ∧ C = -1) ∨ (¬ l ∧ g ∧ C = 1) ∨ (¬ l ∧ ¬ g ∧ C = 0) := by
  by_cases h1 : l
  · exact .inl ⟨h1, by rw [h, if_pos h1]⟩
  · by_cases h2 : g
    · exact .inr (.inl ⟨h1, h2, by rw [h, if_neg h1, if_pos h2]⟩)
    · exact .inr (.inr ⟨h1, h2, by rw [h, if_neg h1, if_neg h2]⟩)
set_option maxHeartbeats 4000000 in
theorem r7Order_v (a b : Vl) (w : World) :
    Calls Tryz.prog 98 #[.agg a.arr, .agg b.arr] w fun e w' => e = .returned (.tuple #[.int .i64 (ordN a b), .int .i64 (ordE a b)]) ∧ Below w.heap.size w w' := by
  have hCa := r7Check_v a
  have hCb := r7Check_v b
  have hG := r7Signed_any a.t
  have hS := r7Size_any a.t
  have HE : Hid (ordE a b = if a.chk ≠ 0 then a.chk else if b.chk ≠ 0 then b.chk else if a.t ≠ b.t then 1 else 0) := rfl
  have HN : Hid (ordN a b = if ordE a b = 0 then ordR a b else 0) := rfl
  have hba := bias a.n a.hn
  have hbb := bias b.n b.hn
  have hsz := siz_zero a.t
  have hR : ordR a b = if kind a.t = 1 then cmpI a.n b.n else if kind a.t = 2 then cmpI (sgnN a.n) (sgnN b.n) else cmpL a.s.data.toList b.s.data.toList := rfl
  have hRL := less_eq a.s b.s
  have hRG := run_gtr a.s b.s
  obtain ⟨fa, fb, B0⟩ := two_vals w a b
  generalize ordE a b = E at *
  generalize ordN a b = N at *
  generalize ordR a b = R at *
  generalize a.chk = Ca at *
  generalize b.chk = Cb at *
  go_enter Tryz.func98, Tryz.ntmps98
  go_upto_region 1 with fail
  generalize (w.alloc (.cells a.arr 52)).alloc (.cells b.arr 52) = W at *
  obtain ⟨q, hq⟩ : ∃ q, w.heap.size = q := ⟨_, rfl⟩
  have lb := fb.lt
  simp only [hq] at fa fb lb ⊢
  go_wp2_with (refine fa.ld rfl _ rfl rfl ?_)
  refine (hCa _).mono ?_
  rintro e w1 ⟨rfl, b1⟩
  have fa1 := fa.below b1
  have fb1 := fb.below b1
  have B1 := B0.trans (b1.mono (by omega))
  have s1 := b1.size
  clear fa fb B0 b1 hCa
  by_cases ha : Ca = 0
  · subst ha
    go_wp2_with (refine fb1.ld rfl _ rfl rfl ?_)
    refine (hCb _).mono ?_
    rintro e w2 ⟨rfl, b2⟩
    have fa2 := fa1.below b2
    have fb2 := fb1.below b2
    have B2 := B1.trans (b2.mono (by omega))
    clear fa1 fb1 B1 b2 hCb
    have a0 := fa2.c0
    have a1 := fa2.c1
    have a2 := fa2.c2
    have b0 := fb2.c0
    have b1 := fb2.c1
    have b2 := fb2.c2
    by_cases hb : Cb = 0
    · subst hb
      by_cases ht : a.t = b.t
      · have dt : (a.t != b.t) = false := by simpa using ht
        have e0 := hidOf (show E = 0 by rw [HE.out]; simp [ht])
        rw [e0.out, if_pos rfl] at HN
        clear HE ht
        by_cases hz : 0 < siz a.t
        · have dz : ((siz a.t : Int) == 0) = false := by simp; omega
          by_cases h1 : kind a.t = 1
          · have dk : (kind a.t == 2) = false := by rw [h1]; rfl
            rw [dk] at hG
            rw [if_pos h1] at hR
            have hw := cmp_ways ((a.n : Int) < b.n) ((b.n : Int) < a.n) hR
            clear hR hRL hRG hsz hba hbb
            go_upto_region 9 with fail
            go_quiet (fail)
            rcases hw with ⟨l1, e2⟩ | ⟨l1, g1, e2⟩ | ⟨l1, g1, e2⟩
            · have e3 := hidOf (HN.out.trans e2)
              have dl : decide ((a.n : Int) < (b.n : Int)) = true := decide_eq_true (by omega)
              have dn : decide (a.n < b.n) = true := decide_eq_true (by omega)
              clear e2 HN
              go_wp2_with (first | (go_at_call 117; refine (hG _).mono ?_; rintro e w3 ⟨rfl, rfl⟩) | (go_at_call 85; refine (hS _).mono ?_; rintro e w3 ⟨rfl, rfl⟩))
              go_ret2
              exact ⟨by rw [e0.out, e3.out]; rfl, bdr B2 _⟩
            · have e3 := hidOf (HN.out.trans e2)
              have dl : decide ((a.n : Int) < (b.n : Int)) = false := decide_eq_false (by omega)
              have dn : decide (a.n < b.n) = false := decide_eq_false (by omega)
              have dg : decide ((b.n : Int) < (a.n : Int)) = true := decide_eq_true (by omega)
              have dm : decide (b.n < a.n) = true := decide_eq_true (by omega)
              clear e2 HN
              go_wp2_with (first | (go_at_call 117; refine (hG _).mono ?_; rintro e w3 ⟨rfl, rfl⟩) | (go_at_call 85; refine (hS _).mono ?_; rintro e w3 ⟨rfl, rfl⟩))
              go_ret2
              exact ⟨by rw [e0.out, e3.out]; rfl, bdr B2 _⟩
            · have e3 := hidOf (HN.out.trans e2)
              have dl : decide ((a.n : Int) < (b.n : Int)) = false := decide_eq_false (by omega)
              have dn : decide (a.n < b.n) = false := decide_eq_false (by omega)
              have dg : decide ((b.n : Int) < (a.n : Int)) = false := decide_eq_false (by omega)
              have dm : decide (b.n < a.n) = false := decide_eq_false (by omega)
              clear e2 HN
              go_wp2_with (first | (go_at_call 117; refine (hG _).mono ?_; rintro e w3 ⟨rfl, rfl⟩) | (go_at_call 85; refine (hS _).mono ?_; rintro e w3 ⟨rfl, rfl⟩))
              go_ret2
              exact ⟨by rw [e0.out, e3.out]; rfl, bdr B2 _⟩
          · have h2 : kind a.t = 2 := by omega
            have dk : (kind a.t == 2) = true := by rw [h2]; rfl
            rw [dk] at hG
            rw [if_neg h1, if_pos h2] at hR
            have hw := cmp_ways (sgnN a.n < sgnN b.n) (sgnN b.n < sgnN a.n) hR
            clear hR hRL hRG hsz
            go_upto_region 9 with fail
            go_quiet (fail)
            rcases hw with ⟨l1, e2⟩ | ⟨l1, g1, e2⟩ | ⟨l1, g1, e2⟩
            · have e3 := hidOf (HN.out.trans e2)
              have dl : decide (sgnN a.n < sgnN b.n) = true := decide_eq_true (by omega)
              have dl' : decide (sgnN a.n + 9223372036854775808 < sgnN b.n + 9223372036854775808) = true := decide_eq_true (by omega)
              clear e2 HN
              go_wp2_with (first | (go_at_call 117; refine (hG _).mono ?_; rintro e w3 ⟨rfl, rfl⟩) | (go_at_call 85; refine (hS _).mono ?_; rintro e w3 ⟨rfl, rfl⟩))
              go_ret2
              exact ⟨by rw [e0.out, e3.out]; rfl, bdr B2 _⟩
            · have e3 := hidOf (HN.out.trans e2)
              have dl : decide (sgnN a.n < sgnN b.n) = false := decide_eq_false (by omega)
              have dl' : decide (sgnN a.n + 9223372036854775808 < sgnN b.n + 9223372036854775808) = false := decide_eq_false (by omega)
              have dg : decide (sgnN b.n < sgnN a.n) = true := decide_eq_true (by omega)
              have dg' : decide (sgnN b.n + 9223372036854775808 < sgnN a.n + 9223372036854775808) = true := decide_eq_true (by omega)
              clear e2 HN
              go_wp2_with (first | (go_at_call 117; refine (hG _).mono ?_; rintro e w3 ⟨rfl, rfl⟩) | (go_at_call 85; refine (hS _).mono ?_; rintro e w3 ⟨rfl, rfl⟩))
              go_ret2
              exact ⟨by rw [e0.out, e3.out]; rfl, bdr B2 _⟩
            · have e3 := hidOf (HN.out.trans e2)
              have dl : decide (sgnN a.n < sgnN b.n) = false := decide_eq_false (by omega)
              have dl' : decide (sgnN a.n + 9223372036854775808 < sgnN b.n + 9223372036854775808) = false := decide_eq_false (by omega)
              have dg : decide (sgnN b.n < sgnN a.n) = false := decide_eq_false (by omega)
              have dg' : decide (sgnN b.n + 9223372036854775808 < sgnN a.n + 9223372036854775808) = false := decide_eq_false (by omega)
              clear e2 HN
              go_wp2_with (first | (go_at_call 117; refine (hG _).mono ?_; rintro e w3 ⟨rfl, rfl⟩) | (go_at_call 85; refine (hS _).mono ?_; rintro e w3 ⟨rfl, rfl⟩))
              go_ret2
              exact ⟨by rw [e0.out, e3.out]; rfl, bdr B2 _⟩
        · have dz : ((siz a.t : Int) == 0) = true := by simp; omega
          have h1 : kind a.t ≠ 1 := by omega
          have h2 : kind a.t ≠ 2 := by omega
          have dk : (kind a.t == 2) = false := by simpa using h2
          rw [dk] at hG
          rw [if_neg h1, if_neg h2] at hR
          have hw := cmp_ways (a.s.data.toList < b.s.data.toList) (b.s.data.toList < a.s.data.toList) hR
          clear hR hsz hba hbb
          go_upto_region 9 with fail
          go_quiet (fail)
          rcases hw with ⟨l1, e2⟩ | ⟨l1, g1, e2⟩ | ⟨l1, g1, e2⟩
          · have e3 := hidOf (HN.out.trans e2)
            have dl : Op.bytesLess a.s.toList b.s.toList = true := hRL.trans (decide_eq_true l1)
            have dl' := dl
            rw [toL, toL] at dl'
            obtain ⟨bg, hbg⟩ : ∃ bg, decide (b.s.data.toList < a.s.data.toList) = bg := ⟨_, rfl⟩
            rw [hbg] at hRG
            clear hRL
            clear e2 HN
            go_wp2_with (first | (go_at_call 117; refine (hG _).mono ?_; rintro e w3 ⟨rfl, rfl⟩) | (go_at_call 85; refine (hS _).mono ?_; rintro e w3 ⟨rfl, rfl⟩))
            go_quiet (fail)
            go_wp2
            go_ret2
            exact ⟨by rw [e0.out, e3.out]; rfl, bdr2 B2 _ _⟩
          · have e3 := hidOf (HN.out.trans e2)
            have dl : Op.bytesLess a.s.toList b.s.toList = false := hRL.trans (decide_eq_false l1)
            have dl' := dl
            rw [toL, toL] at dl'
            have dg : decide (b.s.data.toList < a.s.data.toList) = true := decide_eq_true g1
            rw [dg] at hRG
            clear hRL
            clear e2 HN
            go_wp2_with (first | (go_at_call 117; refine (hG _).mono ?_; rintro e w3 ⟨rfl, rfl⟩) | (go_at_call 85; refine (hS _).mono ?_; rintro e w3 ⟨rfl, rfl⟩))
            go_quiet (fail)
            go_wp2
            go_ret2
            exact ⟨by rw [e0.out, e3.out]; rfl, bdr2 B2 _ _⟩
          · have e3 := hidOf (HN.out.trans e2)
            have dl : Op.bytesLess a.s.toList b.s.toList = false := hRL.trans (decide_eq_false l1)
            have dl' := dl
            rw [toL, toL] at dl'
            have dg : decide (b.s.data.toList < a.s.data.toList) = false := decide_eq_false g1
            rw [dg] at hRG
            clear hRL
            clear e2 HN
            go_wp2_with (first | (go_at_call 117; refine (hG _).mono ?_; rintro e w3 ⟨rfl, rfl⟩) | (go_at_call 85; refine (hS _).mono ?_; rintro e w3 ⟨rfl, rfl⟩))
            go_quiet (fail)
            go_wp2
            go_ret2
            exact ⟨by rw [e0.out, e3.out]; rfl, bdr2 B2 _ _⟩
      · have dt : (a.t != b.t) = true := by simpa using ht
        have e0 := hidOf (show E = 1 by rw [HE.out]; simp [ht])
        have e1 := hidOf (show N = 0 by rw [HN.out, if_neg (by rw [e0.out]; decide)])
        clear HE HN
        go_wp2
        go_ret2
        exact ⟨by rw [e0.out, e1.out]; rfl, B2⟩
    · have db : ((Cb : Int) != 0) = true := by simpa using hb
      have e0 := hidOf (show E = Cb by rw [HE.out]; simp [hb])
      have e1 := hidOf (show N = 0 by rw [HN.out, if_neg (by rw [e0.out]; exact hb)])
      clear HE HN
      go_wp2
      go_ret2
      exact ⟨by rw [e0.out, e1.out]; rfl, B2⟩
  · have da : ((Ca : Int) != 0) = true := by simpa using ha
    have e0 := hidOf (show E = Ca by rw [HE.out]; simp [ha])
    have e1 := hidOf (show N = 0 by rw [HN.out, if_neg (by rw [e0.out]; exact ha)])
    clear HE HN
    go_wp2
    go_ret2
    exact ⟨by rw [e0.out, e1.out]; rfl, B1⟩
end Go.Proofs.YtahfnknbmikmkaaGreat
