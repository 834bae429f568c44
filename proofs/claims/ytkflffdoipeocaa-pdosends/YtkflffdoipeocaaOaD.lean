/- Forms that can be: Check, the document's Check, NewSender. -/
import Derived.Test.YtkflffdoipeocaaOaC
namespace Go.Proofs.Ytkflffdoipeocaa
open Go.RowKit
set_option linter.unusedVariables false
set_option maxRecDepth 1000000
/-- A form as it is handed in. -/
def frmV (t : Int) (i e : Nat) : Value := .agg #[.int .i64 t, .int .u64 i, .int .u64 e]
theorem wf_ld (w : World) (cs : Array Value) (T : TypeId) (k : Nat) : (w.alloc (.cells cs T)).cell? ⟨w.heap.size, k, none⟩ = cs[k]? := Lib.cell_of_heap (heap_alloc_new w (.cells cs T)) k
theorem chk_any (w : World) (t : Int) (i e : Nat) : Calls Try.prog 10 #[frmV t i e] w fun r w' => r = .returned (.int .i64 (if frmO t i e then 0 else 1)) ∧ Below w.heap.size w w' := by
  obtain ⟨w0, hw0⟩ : ∃ x, w.alloc (.cells #[.int .i64 t, .int .u64 i, .int .u64 e] 24) = x := ⟨_, rfl⟩
  have HM := may_any w0 t
  have HB : Hid (Below w.heap.size w w0) := by
    show Below _ _ _
    rw [← hw0]
    exact (Below.refl _ _).alloc (Nat.le_refl _) _
  have c0 := wf_ld w #[.int .i64 t, .int .u64 i, .int .u64 e] 24 0
  have c1 := wf_ld w #[.int .i64 t, .int .u64 i, .int .u64 e] 24 1
  have c2 := wf_ld w #[.int .i64 t, .int .u64 i, .int .u64 e] 24 2
  rw [hw0] at c0 c1 c2
  replace c0 : w0.cell? ⟨w.heap.size, 0, none⟩ = some (.int .i64 t) := c0
  replace c1 : w0.cell? ⟨w.heap.size, 1, none⟩ = some (.int .u64 i) := c1
  replace c2 : w0.cell? ⟨w.heap.size, 2, none⟩ = some (.int .u64 e) := c2
  unfold frmV
  have HO : Hid ((if frmO t i e then (0 : Int) else 1) = if (isO t && decide (i ≤ 4294967296) && decide (e ≤ 4294967296)) then 0 else 1) := rfl
  generalize (if frmO t i e then (0 : Int) else 1) = o at *
  generalize isO t = b at *
  generalize hq : w.heap.size = q at *
  cases b
  · replace HO : Hid (o = 1) := by show _ = _; rw [HO.out]; rfl
    go_enter Try.func10, Try.ntmps10
    go_upto_region 1 with fail
    try rw [hw0]
    try rw [hq]
    go_wp2_with (go_at_call 24; refine HM.mono ?_; rintro e w' ⟨rfl, rfl⟩)
    go_ret
    rw [HO.out]
    exact ⟨rfl, HB.out⟩
  · by_cases h1 : i ≤ 4294967296
    · have d1 : decide ((4294967296 : Int) < (i : Int)) = false := by simp; omega
      by_cases h2 : e ≤ 4294967296
      · have d2 : decide ((4294967296 : Int) < (e : Int)) = false := by simp; omega
        replace HO : Hid (o = 0) := by show _ = _; rw [HO.out]; simp [h1, h2]
        clear h1 h2
        go_enter Try.func10, Try.ntmps10
        go_upto_region 1 with fail
        try rw [hw0]
        try rw [hq]
        go_wp2_with (go_at_call 24; refine HM.mono ?_; rintro e w' ⟨rfl, rfl⟩)
        go_ret
        rw [HO.out]
        exact ⟨rfl, HB.out⟩
      · have d2 : decide ((4294967296 : Int) < (e : Int)) = true := by simp; omega
        replace HO : Hid (o = 1) := by show _ = _; rw [HO.out]; simp [h2]
        clear h1 h2
        go_enter Try.func10, Try.ntmps10
        go_upto_region 1 with fail
        try rw [hw0]
        try rw [hq]
        go_wp2_with (go_at_call 24; refine HM.mono ?_; rintro e w' ⟨rfl, rfl⟩)
        go_ret
        rw [HO.out]
        exact ⟨rfl, HB.out⟩
    · have d1 : decide ((4294967296 : Int) < (i : Int)) = true := by simp; omega
      replace HO : Hid (o = 1) := by show _ = _; rw [HO.out]; simp [h1]
      clear h1
      go_enter Try.func10, Try.ntmps10
      go_upto_region 1 with fail
      try rw [hw0]
      try rw [hq]
      go_wp2_with (go_at_call 24; refine HM.mono ?_; rintro e w' ⟨rfl, rfl⟩)
      go_ret
      rw [HO.out]
      exact ⟨rfl, HB.out⟩
theorem dchk_any (w : World) (t : Int) (i e : Nat) : Calls Try.prog 9 #[frmV t i e] w fun r w' => r = .returned (.int .i64 (if frmO t i e then 0 else 1)) ∧ Below w.heap.size w w' := by
  obtain ⟨w0, hw0⟩ : ∃ x, w.alloc (.cells #[.int .i64 t, .int .u64 i, .int .u64 e] 24) = x := ⟨_, rfl⟩
  have HM := dis_any w0 t
  have HB : Hid (Below w.heap.size w w0) := by
    show Below _ _ _
    rw [← hw0]
    exact (Below.refl _ _).alloc (Nat.le_refl _) _
  have c0 := wf_ld w #[.int .i64 t, .int .u64 i, .int .u64 e] 24 0
  have c1 := wf_ld w #[.int .i64 t, .int .u64 i, .int .u64 e] 24 1
  have c2 := wf_ld w #[.int .i64 t, .int .u64 i, .int .u64 e] 24 2
  rw [hw0] at c0 c1 c2
  replace c0 : w0.cell? ⟨w.heap.size, 0, none⟩ = some (.int .i64 t) := c0
  replace c1 : w0.cell? ⟨w.heap.size, 1, none⟩ = some (.int .u64 i) := c1
  replace c2 : w0.cell? ⟨w.heap.size, 2, none⟩ = some (.int .u64 e) := c2
  unfold frmV
  have HO : Hid ((if frmO t i e then (0 : Int) else 1) = if (isO t && decide (i ≤ 4294967296) && decide (e ≤ 4294967296)) then 0 else 1) := rfl
  generalize (if frmO t i e then (0 : Int) else 1) = o at *
  generalize isO t = b at *
  generalize hq : w.heap.size = q at *
  cases b
  · replace HO : Hid (o = 1) := by show _ = _; rw [HO.out]; rfl
    go_enter Try.func9, Try.ntmps9
    go_upto_region 1 with fail
    try rw [hw0]
    try rw [hq]
    go_wp2_with (go_at_call 20; refine HM.mono ?_; rintro e w' ⟨rfl, rfl⟩)
    go_ret
    rw [HO.out]
    exact ⟨rfl, HB.out⟩
  · by_cases h1 : i ≤ 4294967296
    · have d1 : decide ((4294967296 : Int) < (i : Int)) = false := by simp; omega
      by_cases h2 : e ≤ 4294967296
      · have d2 : decide ((4294967296 : Int) < (e : Int)) = false := by simp; omega
        replace HO : Hid (o = 0) := by show _ = _; rw [HO.out]; simp [h1, h2]
        clear h1 h2
        go_enter Try.func9, Try.ntmps9
        go_upto_region 1 with fail
        try rw [hw0]
        try rw [hq]
        go_wp2_with (go_at_call 20; refine HM.mono ?_; rintro e w' ⟨rfl, rfl⟩)
        go_ret
        rw [HO.out]
        exact ⟨rfl, HB.out⟩
      · have d2 : decide ((4294967296 : Int) < (e : Int)) = true := by simp; omega
        replace HO : Hid (o = 1) := by show _ = _; rw [HO.out]; simp [h2]
        clear h1 h2
        go_enter Try.func9, Try.ntmps9
        go_upto_region 1 with fail
        try rw [hw0]
        try rw [hq]
        go_wp2_with (go_at_call 20; refine HM.mono ?_; rintro e w' ⟨rfl, rfl⟩)
        go_ret
        rw [HO.out]
        exact ⟨rfl, HB.out⟩
    · have d1 : decide ((4294967296 : Int) < (i : Int)) = true := by simp; omega
      replace HO : Hid (o = 1) := by show _ = _; rw [HO.out]; simp [h1]
      clear h1
      go_enter Try.func9, Try.ntmps9
      go_upto_region 1 with fail
      try rw [hw0]
      try rw [hq]
      go_wp2_with (go_at_call 20; refine HM.mono ?_; rintro e w' ⟨rfl, rfl⟩)
      go_ret
      rw [HO.out]
      exact ⟨rfl, HB.out⟩
theorem newS_ok (w : World) (t i e : Nat) (h : frmO t i e = true) : Calls Try.prog 8 #[frmV t i e] w fun r w' => ∃ g, r = .returned (.tuple #[.pointer (some ⟨g, 0, none⟩), .int .i64 0]) ∧ w.heap.size ≤ g ∧ Oa g ⟨t, i, e, false, false, 0, false, 0⟩ w' ∧ Below w.heap.size w w' := by
  obtain ⟨w0, hw0⟩ : ∃ x, w.alloc (.cells #[.int .i64 t, .int .u64 i, .int .u64 e] 24) = x := ⟨_, rfl⟩
  have HC := chk_any w0 t i e
  rw [h] at HC
  have HB : Hid (Below w.heap.size w w0 ∧ w.heap.size < w0.heap.size) := by
    show _ ∧ _
    rw [← hw0]
    exact ⟨(Below.refl _ _).alloc (Nat.le_refl _) _, by simp⟩
  have HL : Hid (Bc 24 w.heap.size #[.int .i64 t, .int .u64 i, .int .u64 e] w0) := by
    show Bc _ _ _ _
    rw [← hw0]
    exact heap_alloc_new w _
  unfold frmV at HC ⊢
  have L0 := HL.out
  have c0 := Bc.cell L0 0
  have c1 := Bc.cell L0 1
  have c2 := Bc.cell L0 2
  replace c0 : w0.cell? ⟨w.heap.size, 0, none⟩ = some (.int .i64 t) := c0
  replace c1 : w0.cell? ⟨w.heap.size, 1, none⟩ = some (.int .u64 i) := c1
  replace c2 : w0.cell? ⟨w.heap.size, 2, none⟩ = some (.int .u64 e) := c2
  clear L0 h
  generalize hq : w.heap.size = q at *
  go_enter Try.func8, Try.ntmps8
  go_upto_region 1 with fail
  try rw [hw0]
  try rw [hq]
  go_wp2_with fail
  refine HC.mono ?_
  rintro r w1 ⟨rfl, B1⟩
  have L1 := Bc.below HL.out B1
  have HN := Oa.new w1 t i e
  have b1 : Below q w w1 := HB.out.1.trans (B1.mono (by have := HB.out.2; omega))
  have c0' := Bc.cell L1 0
  have c1' := Bc.cell L1 1
  have c2' := Bc.cell L1 2
  replace c0' : w1.cell? ⟨q, 0, none⟩ = some (.int .i64 t) := c0'
  replace c1' : w1.cell? ⟨q, 1, none⟩ = some (.int .u64 i) := c1'
  replace c2' : w1.cell? ⟨q, 2, none⟩ = some (.int .u64 e) := c2'
  clear L1 c0 c1 c2 HC B1
  go_wp2_with fail
  go_ret2
  exact ⟨_, rfl, by have := b1.size; omega, HN, b1.alloc (by have := b1.size; omega) _⟩
theorem newS_bad (w : World) (t : Int) (i e : Nat) (h : frmO t i e = false) : Calls Try.prog 8 #[frmV t i e] w fun r w' => r = .returned (.tuple #[.pointer none, .int .i64 1]) ∧ Below w.heap.size w w' := by
  obtain ⟨w0, hw0⟩ : ∃ x, w.alloc (.cells #[.int .i64 t, .int .u64 i, .int .u64 e] 24) = x := ⟨_, rfl⟩
  have HC := chk_any w0 t i e
  rw [h] at HC
  have HB : Hid (Below w.heap.size w w0 ∧ w.heap.size < w0.heap.size) := by
    show _ ∧ _
    rw [← hw0]
    exact ⟨(Below.refl _ _).alloc (Nat.le_refl _) _, by simp⟩
  have HL : Hid (Bc 24 w.heap.size #[.int .i64 t, .int .u64 i, .int .u64 e] w0) := by
    show Bc _ _ _ _
    rw [← hw0]
    exact heap_alloc_new w _
  unfold frmV at HC ⊢
  have L0 := HL.out
  have c0 := Bc.cell L0 0
  have c1 := Bc.cell L0 1
  have c2 := Bc.cell L0 2
  replace c0 : w0.cell? ⟨w.heap.size, 0, none⟩ = some (.int .i64 t) := c0
  replace c1 : w0.cell? ⟨w.heap.size, 1, none⟩ = some (.int .u64 i) := c1
  replace c2 : w0.cell? ⟨w.heap.size, 2, none⟩ = some (.int .u64 e) := c2
  clear L0 h
  generalize hq : w.heap.size = q at *
  go_enter Try.func8, Try.ntmps8
  go_upto_region 1 with fail
  try rw [hw0]
  try rw [hq]
  go_wp2_with fail
  refine HC.mono ?_
  rintro r w1 ⟨rfl, B1⟩
  have b1 : Below q w w1 := HB.out.1.trans (B1.mono (by have := HB.out.2; omega))
  go_wp2_with fail
  go_ret2
  exact ⟨rfl, b1⟩
theorem frmO_nat {t : Int} {i e : Nat} (h : frmO t i e = true) : ∃ n : Nat, t = n := ⟨t.toNat, by simp [frmO, isO, freeO] at h; omega⟩
theorem frmO_ok {t i e : Nat} (h : frmO t i e = true) (o a c : Bool) (b d : Nat) : (⟨t, i, e, o, a, b, c, d⟩ : Os).ok := by
  simp only [frmO, Bool.and_eq_true, decide_eq_true_eq] at h
  exact ⟨h.1.1, h.1.2, h.2⟩
end Go.Proofs.Ytkflffdoipeocaa
