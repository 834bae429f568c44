/- The small living call of layer 19; what both tell. -/
import Derived.Test.YthbmbabndhpdkaaLsH
import Derived.Test.YthbmbabndhpdkaaLsI
namespace Go.Proofs.Ythbmbabndhpdkaa
open Go.RowKit
open Classical
set_option linter.unusedVariables false
set_option maxRecDepth 1000000
set_option linter.unusedSimpArgs false
section
variable {g n : Nat} {p : Option Nat} {s : Ls} {d : Ld} {w x : World}
set_option maxHeartbeats 4000000 in
theorem tells_any (h : Sa g n p s w) (hd : Da n d w) (hr : R s d) : Calls Try.prog 12 #[.pointer (some ⟨g, 0, none⟩), .pointer (some ⟨n, 0, none⟩)] w fun e w' => e = .returned (.bool true) ∧ ∃ m, w' = w.drewN m := by
  obtain ⟨_, _, _, _, k4, k5, k6, k7, k8, k9, k10, _, k12, _, _, _⟩ := hd.cells
  obtain ⟨r1, r2, r3, r4, r5, r6, r7, r8, r9, r10⟩ := hr
  rw [r2] at k4
  rw [r4] at k5
  rw [r3] at k6
  rw [r5] at k7
  rw [r8] at k12
  have HI : ∀ m, Calls Try.prog 17 #[.pointer (some ⟨g, 0, none⟩)] (w.drewN m) fun e w' => e = .returned (.tuple #[.int .i64 s.ip, .int .i64 s.iu]) ∧ ∃ n, w' = (w.drewN m).drewN n := fun m => lid_any (h.drawn m)
  have HR : ∀ m, Calls Try.prog 21 #[.pointer (some ⟨g, 0, none⟩)] (w.drewN m) fun e w' => e = .returned (.tuple #[.int .i64 s.rp, .int .i64 s.ru]) ∧ ∃ n, w' = (w.drewN m).drewN n := fun m => lrate_any (h.drawn m)
  have HT : ∀ m, Calls Try.prog 18 #[.pointer (some ⟨g, 0, none⟩)] (w.drewN m) fun e w' => e = .returned (.tuple #[.int .i64 d.si, .int .i64 d.sr, .bool d.has]) ∧ ∃ n, w' = (w.drewN m).drewN n := fun m => by
    have := lstored_any (h.drawn m)
    have E : s.sto = .tuple #[.int .i64 d.si, .int .i64 d.sr, .bool d.has] := by
      rcases r6 with ⟨e1, e2, e3, e4⟩ | ⟨x, y, e1, e2, e3, e4⟩
      · unfold Ls.sto; rw [e1, e2, e3, e4]
      · unfold Ls.sto; rw [e1, e2, e3, e4]
    rw [E] at this
    exact this
  have HM : ∀ m k, Calls Try.prog 16 #[.pointer (some ⟨g, 0, none⟩)] ((w.drewN m).drewN k) fun e w' => e = .returned (.int .i64 s.mode) ∧ w' = (w.drewN m).drewN k := fun m k => lmode_any ((h.drawn m).drawn k)
  have HM1 : ∀ m, Calls Try.prog 16 #[.pointer (some ⟨g, 0, none⟩)] (w.drewN m) fun e w' => e = .returned (.int .i64 s.mode) ∧ w' = w.drewN m := fun m => lmode_any (h.drawn m)
  have HI0 := lid_any h
  clear h hd r1 r2 r3 r4 r5 r6 r7 r8 r9 r10
  go_enter Try.func12, Try.ntmps12
  go_wp2_with fail
  refine HI0.mono ?_
  rintro e w1 ⟨rfl, m1, rfl⟩
  have HR1 := HR m1
  go_wp2_with fail
  refine HR1.mono ?_
  rintro e w2 ⟨rfl, m2, rfl⟩
  have HT2 := HT (m1 + m2)
  go_wp2_with fail
  refine HT2.mono ?_
  rintro e w3 ⟨rfl, m3, rfl⟩
  obtain ⟨Y, hY⟩ : ∃ Y, w.drewN (m1 + m2 + m3) = Y := ⟨_, rfl⟩
  have HMY : ∀ k, Calls Try.prog 16 #[.pointer (some ⟨g, 0, none⟩)] (Y.drewN k) fun e w' => e = .returned (.int .i64 s.mode) ∧ w' = Y.drewN k := by
    intro k
    rw [← hY]
    exact HM _ _
  have y4 : Y.cell? ⟨n, 4, none⟩ = some (.int .i64 s.ip) := by rw [← hY]; exact k4
  have y5 : Y.cell? ⟨n, 5, none⟩ = some (.int .i64 s.rp) := by rw [← hY]; exact k5
  have y6 : Y.cell? ⟨n, 6, none⟩ = some (.int .i64 s.iu) := by rw [← hY]; exact k6
  have y7 : Y.cell? ⟨n, 7, none⟩ = some (.int .i64 s.ru) := by rw [← hY]; exact k7
  have y8 : Y.cell? ⟨n, 8, none⟩ = some (.int .i64 d.si) := by rw [← hY]; exact k8
  have y9 : Y.cell? ⟨n, 9, none⟩ = some (.int .i64 d.sr) := by rw [← hY]; exact k9
  have y10 : Y.cell? ⟨n, 10, none⟩ = some (.bool d.has) := by rw [← hY]; exact k10
  have y12 : Y.cell? ⟨n, 12, none⟩ = some (.int .i64 s.mode) := by rw [← hY]; exact k12
  have HY := hidOf2 hY
  clear hY HM HM1 HI HR HR1 HT HT2 HI0 k4 k5 k6 k7 k8 k9 k10 k12
  go_wp2_with fail
  have E : (w.drewN (m1 + m2)).drewN m3 = Y := by rw [← HY.out]; simp [World.drewN, Nat.add_assoc]
  first | rw [HY.out] | rw [E]
  go_quiet ((go_at_call 16; exact Calls.quiet_of_same (HMY _)))
  go_wp2
  go_ret
  exact ⟨rfl, m1 + m2 + m3 + nq, by rw [← HY.out]; simp [World.drewN, Nat.add_assoc]⟩
end
def a19 : A4 := ⟨1, 2, 3, 4⟩
def q41 : F8 := ⟨4, 1, 0, 0, 0, 0, 0, 0⟩
def q175 : F8 := ⟨17, 5, 0, 0, 0, 0, 0, 0⟩
def q40 : F8 := ⟨4, 0, 0, 0, 0, 0, 0, 0⟩
def q17 : F8 := ⟨17, 0, 0, 0, 0, 0, 0, 0⟩
set_option maxHeartbeats 4000000 in
theorem lives19_any (w : World) : Calls Try.prog 10 #[] w fun e w' => e = .returned (.bool true) ∧ Below w.heap.size w w' := by
  have hN := lnew_ok a19 0 (by decide) w
  obtain ⟨g, hg⟩ : ∃ g, w.heap.size + 1 = g := ⟨_, rfl⟩
  rw [hg] at hN
  go_enter Try.func10, Try.ntmps10
  go_wp2_with fail
  refine hN.mono ?_
  rintro e w1 ⟨rfl, N0, b1⟩
  obtain ⟨n, hn⟩ : ∃ n, w.heap.size = n := ⟨_, rfl⟩
  rw [hn] at b1
  have N1 := N0 n (by omega)
  have hnw : n < w1.heap.size := by have := N1.lt; omega
  have o1 : (Ls.new a19 0).Ok := Ls.new_ok ⟨by decide, by decide, by decide, by decide⟩ ⟨by omega, by omega⟩
  have hT1 := take_any N1 hnw o1 q41
  have o2 := o1.takeS q41
  obtain ⟨s2, hs2⟩ : ∃ s, (Ls.new a19 0).takeS q41 = s := ⟨_, rfl⟩
  rw [hs2] at hT1 o2
  have HB1 := hidOf2 b1
  clear hN N0 N1 b1
  go_wp2_with fail
  refine hT1.mono ?_
  rintro e w2 ⟨rfl, ⟨p2, N2⟩, T2⟩
  have HN2 := hidOf2 N2
  have hT2 := take_any N2 (by have := T2.size; omega) o2 q175
  have o3 := o2.takeS q175
  have eA : s2.takeA q175 = (q17, true) := by rw [← hs2]; rfl
  rw [eA] at hT2
  obtain ⟨s3, hs3⟩ : ∃ s, s2.takeS q175 = s := ⟨_, rfl⟩
  rw [hs3] at hT2 o3
  clear N2 hT1
  go_wp2_with fail
  refine hT2.mono ?_
  rintro e w3 ⟨rfl, ⟨p3, N3⟩, T3⟩
  obtain ⟨k, hk⟩ : ∃ k, w3.heap.size = k := ⟨_, rfl⟩
  have hlt3 := N3.lt
  have z3 : Qb k F8.nul (w3.alloc (.cells zA8 34)) := by rw [← hk]; exact heap_alloc_new w3 _
  obtain ⟨X, hX⟩ : ∃ X, (w3.alloc (.cells zA8 34)).setRow k q17.arr = X := ⟨_, rfl⟩
  have qX : Qb k q17 X := by rw [← hX]; exact z3.row q17
  have NX : Sa g n p3 s3 X := by rw [← hX]; exact (N3.alloc _).row z3 _
  have TX : Two g g w3 X := by rw [← hX]; exact two_row ((Two.refl _ _ _).alloc _) k (by omega) _
  have hT3 := take_any NX (by have := T2.size; have := T3.size; have := TX.size; omega) o3 q40
  have hX2 := hX
  unfold zA8 at hX2
  have HX := hidOf2 hX2
  clear hX2
  obtain ⟨s4, hs4⟩ : ∃ s, s3.takeS q40 = s := ⟨_, rfl⟩
  rw [hs4] at hT3
  have HE : Hid (s4.ip = 5 ∧ s4.iu = 5) := by rw [← hs4, ← hs3, ← hs2]; exact ⟨by decide, by decide⟩
  clear hT2 eA N3 NX hX
  go_wp2_with (first | (refine sdF (g := q17) z3 rfl _ _ rfl rfl rfl ?_))
  rw [HX.out]
  refine hT3.mono ?_
  rintro e w5 ⟨rfl, ⟨p5, N5⟩, T5⟩
  have hI := lid_any N5
  rw [HE.out.1, HE.out.2] at hI
  have q5 : Qb k q17 w5 := qX.two T5 (by omega) (by omega)
  have q17l : Hid (q17.arr = #[.int .u8 17, .int .u8 0, .int .u8 0, .int .u8 0, .int .u8 0, .int .u8 0, .int .u8 0, .int .u8 0]) := rfl
  have HB : Hid (Below w.heap.size w w5) := by
    have e1 := HB1.out
    have e2 := e1.trans (T2.below (by have := e1.size; omega) (by omega) (by omega))
    have e3 := e2.trans (T3.below (by have := e2.size; omega) (by omega) (by omega))
    have e4 := e3.trans (TX.below (by have := e3.size; omega) (by omega) (by omega))
    have e5 := e4.trans (T5.below (by have := e4.size; omega) (by omega) (by omega))
    rw [hn]
    exact e5
  go_wp2_with fail
  refine hI.mono ?_
  rintro e w6 ⟨rfl, m6, rfl⟩
  have q6 := Qb.drawn q5 m6
  go_wp2_with (first | (refine ldG q6.load rfl _ rfl rfl ?_) | (refine eqF q17 q17 rfl _ _ rfl rfl rfl ?_; simp only [decide_true]))
  go_ret
  exact ⟨rfl, below_drawn HB.out _⟩
end Go.Proofs.Ythbmbabndhpdkaa
