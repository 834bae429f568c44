/- The document's receiver in memory; tells, gives, Ask. -/
import Derived.Test.YtebjofkblfmkmaaBkN5
import Derived.Test.YtebjofkblfmkmaaBkH3
namespace Go.Proofs.Ytebjofkblfmkmaa
open Go.RowKit Go.Proofs.Ty Go.Proofs.Bits
set_option linter.unusedVariables false
set_option maxRecDepth 1000000
set_option linter.unusedSimpArgs false
def drA (sz does cm : Nat) (l : F8) (v : Value) (cd : Nat) : Array Value := #[.int .i64 (sz : Int), .int .i64 (does : Int), .int .i64 (cm : Int), .int .u8 (l.b0.toNat : Int), .int .u8 (l.b1.toNat : Int), .int .u8 (l.b2.toNat : Int), .int .u8 (l.b3.toNat : Int), .int .u8 (l.b4.toNat : Int), .int .u8 (l.b5.toNat : Int), .int .u8 (l.b6.toNat : Int), .int .u8 (l.b7.toNat : Int), v, .int .u32 (cd : Int)]
/-- The document's receiver in block D. -/
structure Dq (D sz does cm : Nat) (l : F8) (v : Value) (cd : Nat) (bs : List UInt8) (w : World) : Prop where
  hd : w.heap[D]? = some (.cells (drA sz does cm l v cd) 47 (0, 0))
  bt : Bytes w v bs
  cap : ∀ ao n c, v = .slice ao n c → n ≤ c
  ty : ∀ b, v.ownBlock = some b → ∃ A fr, w.heap[b]? = some (.cells A 5 fr)
section
variable {D sz does cm cd sz1 does1 cm1 cd1 : Nat} {l l1 : F8} {v v1 : Value} {bs : List UInt8} {w x : World}
theorem Dq.lt (h : Dq D sz does cm l v cd bs w) : D < w.heap.size := (Array.getElem?_eq_some_iff.1 h.hd).1
theorem Dq.c0 (h : Dq D sz does cm l v cd bs w) : w.cell? ⟨D, 0, none⟩ = some (.int .i64 (sz : Int)) := Lib.cell_of_heap h.hd 0
theorem Dq.c1 (h : Dq D sz does cm l v cd bs w) : w.cell? ⟨D, 1, none⟩ = some (.int .i64 (does : Int)) := Lib.cell_of_heap h.hd 1
theorem Dq.c2 (h : Dq D sz does cm l v cd bs w) : w.cell? ⟨D, 2, none⟩ = some (.int .i64 (cm : Int)) := Lib.cell_of_heap h.hd 2
theorem Dq.c11 (h : Dq D sz does cm l v cd bs w) : w.cell? ⟨D, 11, none⟩ = some v := Lib.cell_of_heap h.hd 11
theorem Dq.c12 (h : Dq D sz does cm l v cd bs w) : w.cell? ⟨D, 12, none⟩ = some (.int .u32 (cd : Int)) := Lib.cell_of_heap h.hd 12
theorem Dq.fr (h : Dq D sz does cm l v cd bs w) (k : Nat) : w.frozen? ⟨D, k, none⟩ = false := Lib.frozen_of_heap h.hd k
theorem Dq.rng (h : Dq D sz does cm l v cd bs w) : w.rangeAt D 3 l.c := fun j u hj => by
  have hlt : j < 8 := (List.getElem?_eq_some_iff.1 hj).1
  rw [Lib.cell_of_heap h.hd]
  match j, hlt with
  | 0, _ => simpa [drA, F8.c] using hj
  | 1, _ => simpa [drA, F8.c] using hj
  | 2, _ => simpa [drA, F8.c] using hj
  | 3, _ => simpa [drA, F8.c] using hj
  | 4, _ => simpa [drA, F8.c] using hj
  | 5, _ => simpa [drA, F8.c] using hj
  | 6, _ => simpa [drA, F8.c] using hj
  | 7, _ => simpa [drA, F8.c] using hj
theorem Dq.there (h : Dq D sz does cm l v cd bs w) : w.there D 3 8 := fun j hj => ⟨by
  rw [Lib.cell_of_heap h.hd, Array.getElem?_eq_getElem (by simp [drA]; omega)]
  rfl, h.fr _⟩
theorem Dq.neD (h : Dq D sz does cm l v cd bs w) {b : Nat} (hb : v.ownBlock = some b) : b ≠ D := by
  obtain ⟨A, fr, hA⟩ := h.ty b hb
  rintro rfl
  rw [h.hd] at hA
  simp at hA
theorem Dq.blt (h : Dq D sz does cm l v cd bs w) {b : Nat} (hb : v.ownBlock = some b) : b < w.heap.size := by
  obtain ⟨A, fr, hA⟩ := h.ty b hb
  exact (Array.getElem?_eq_some_iff.1 hA).1
theorem Dq.neq (h : Dq D sz does cm l v cd bs w) {q : Nat} {g : F8} (hq : Qb q g w) {b : Nat} (hb : v.ownBlock = some b) : b ≠ q := by
  obtain ⟨A, fr, hA⟩ := h.ty b hb
  rintro rfl
  rw [show w.heap[b]? = _ from hq] at hA
  simp at hA
theorem Dq.nq (h : Dq D sz does cm l v cd bs w) {q : Nat} {g : F8} (hq : Qb q g w) : q ≠ D := by
  rintro rfl
  have := h.hd
  rw [show w.heap[q]? = _ from hq] at this
  simp at this
/-- Whatever else is written. -/
theorem Dq.kp {L : List Nat} (h : Dq D sz does cm l v cd bs w) (hK : Kp L w x) (h1 : D ∉ L) (h2 : ∀ b, v.ownBlock = some b → b ∉ L) : Dq D sz does cm l v cd bs x :=
  ⟨(hK.block D h.lt h1).trans h.hd, h.bt.same hK.size (fun b _ _ hb he _ => hK.block b hb (h2 b he)), h.cap, fun b hb => by
    obtain ⟨A, fr, hA⟩ := h.ty b hb
    exact ⟨A, fr, (hK.block b (h.blt hb) (h2 b hb)).trans hA⟩⟩
theorem Dq.below (h : Dq D sz does cm l v cd bs w) (hb : Below w.heap.size w x) : Dq D sz does cm l v cd bs x := h.kp (Kp.of_below (bs := []) hb) (by simp) (by simp)
theorem Dq.drawn (h : Dq D sz does cm l v cd bs w) (n : Nat) : Dq D sz does cm l v cd bs (w.drewN n) := ⟨h.hd, h.bt, h.cap, h.ty⟩
theorem Dq.put (h : Dq D sz does cm l v cd bs w) (hK : Kp [D] w x) (hd : x.heap[D]? = some (.cells (drA sz1 does1 cm1 l1 v cd1) 47 (0, 0))) : Dq D sz1 does1 cm1 l1 v cd1 bs x :=
  ⟨hd, h.bt.same hK.size (fun b _ _ hb he _ => hK.block b hb (by simpa using h.neD he)), h.cap, fun b hb => by
    obtain ⟨A, fr, hA⟩ := h.ty b hb
    exact ⟨A, fr, (hK.block b (h.blt hb) (by simpa using h.neD hb)).trans hA⟩⟩
theorem Dq.set (h : Dq D sz does cm l v cd bs w) (k : Nat) (z : Value) (hA : (drA sz does cm l v cd).setIfInBounds k z = drA sz1 does1 cm1 l v cd1) : Dq D sz1 does1 cm1 l v cd1 bs (w.setCell ⟨D, k, none⟩ z) :=
  h.put (Kp.cell1 _ _ _ _) (by
    simp only [World.setCell, Array.getElem?_modify, h.hd]
    simp [hA])
theorem Dq.setL (h : Dq D sz does cm l v cd bs w) (f : F8) : Dq D sz does cm f v cd bs (w.setCells D 3 f.c) :=
  h.put (Kp.cells _ _ _ _) (by
    show ((((((((w.setCell ⟨D, 3, none⟩ (.int .u8 (f.b0.toNat : Int))).setCell ⟨D, 3 + 1, none⟩ (.int .u8 (f.b1.toNat : Int))).setCell ⟨D, 3 + 1 + 1, none⟩ (.int .u8 (f.b2.toNat : Int))).setCell ⟨D, 3 + 1 + 1 + 1, none⟩ (.int .u8 (f.b3.toNat : Int))).setCell ⟨D, 3 + 1 + 1 + 1 + 1, none⟩ (.int .u8 (f.b4.toNat : Int))).setCell ⟨D, 3 + 1 + 1 + 1 + 1 + 1, none⟩ (.int .u8 (f.b5.toNat : Int))).setCell ⟨D, 3 + 1 + 1 + 1 + 1 + 1 + 1, none⟩ (.int .u8 (f.b6.toNat : Int))).setCell ⟨D, 3 + 1 + 1 + 1 + 1 + 1 + 1 + 1, none⟩ (.int .u8 (f.b7.toNat : Int))).heap[D]? = _
    simp only [World.setCell, Array.getElem?_modify, h.hd]
    simp [drA])
theorem Dq.setV (h : Dq D sz does cm l v cd bs w) (v1 : Value) (bs1 : List UInt8) (hb : Bytes w v1 bs1) (hc : ∀ ao n c, v1 = .slice ao n c → n ≤ c) (hy : ∀ b, v1.ownBlock = some b → ∃ A fr, w.heap[b]? = some (.cells A 5 fr)) : Dq D sz does cm l v1 cd bs1 (w.setCell ⟨D, 11, none⟩ v1) := by
  have hne : ∀ b, v1.ownBlock = some b → b ≠ D := fun b hb => by
    obtain ⟨A, fr, hA⟩ := hy b hb
    rintro rfl
    rw [h.hd] at hA
    simp at hA
  refine ⟨?_, hb.same (by simp [World.setCell]) (fun b _ _ _ he _ => Below.heap_setCell w _ _ b (hne b he)), hc, fun b hb => ?_⟩
  · simp only [World.setCell, Array.getElem?_modify, h.hd]
    simp [drA]
  · obtain ⟨A, fr, hA⟩ := hy b hb
    exact ⟨A, fr, (Below.heap_setCell w _ _ b (hne b hb)).trans hA⟩
theorem dtells_results {Q : Nat} {f : F8} {b : Bool} {w : World} (h : Qb Q f w) (tmps : Array Value) (h2 : tmps[2]?.getD undef = .pointer (some ⟨Q, 0, none⟩)) (h3 : tmps[3]?.getD undef = .bool b) :
    (results Try.f38 tmps).run Try.prog w = .ok (.tuple #[.agg f.arr, .bool b]) w := by
  have l0 := h.load
  simp [Go.results, Try.results38, h2, h3, asAddr, l0]
theorem dask_results {Q : Nat} {f : F8} {b : Bool} {w : World} (h : Qb Q f w) (tmps : Array Value) (h2 : tmps[2]?.getD undef = .pointer (some ⟨Q, 0, none⟩)) (h3 : tmps[3]?.getD undef = .bool b) :
    (results Try.f18 tmps).run Try.prog w = .ok (.tuple #[.agg f.arr, .bool b]) w := by
  have l0 := h.load
  simp [Go.results, Try.results18, h2, h3, asAddr, l0]
theorem dgivesR_results {Q : Nat} {f : F8} {b : Bool} {w : World} (h : Qb Q f w) (tmps : Array Value) (h2 : tmps[4]?.getD undef = .pointer (some ⟨Q, 0, none⟩)) (h3 : tmps[5]?.getD undef = .bool b) :
    (results Try.f37 tmps).run Try.prog w = .ok (.tuple #[.agg f.arr, .bool b]) w := by
  have l0 := h.load
  simp [Go.results, Try.results37, h2, h3, asAddr, l0]
theorem Qb.kq {q : Nat} {f : F8} {L : List Nat} (h : Qb q f w) (hK : Kp L w x) (hn : q ∉ L) : Qb q f x := (hK.block q h.lt hn).trans h
set_option maxHeartbeats 4000000 in
theorem dtells_any (h : Dq D sz does cm l v cd bs w) (hcm : cm < 256) (hsz : sz < 256) : Calls Try.prog 38 #[.pointer (some ⟨D, 0, none⟩)] w fun e w' => e = .returned (.tuple #[.agg (rAns cm sz).arr, .bool true]) ∧ Dq D sz does 0 (rAns cm sz) v cd bs w' ∧ Kp [D] w w' := by
  obtain ⟨q, hq⟩ : ∃ q, w.heap.size = q := ⟨_, rfl⟩
  obtain ⟨V, hV⟩ : ∃ V, w.alloc (.cells zA8 30) = V := ⟨_, rfl⟩
  have b0 : Below w.heap.size w V := by rw [← hV]; exact (Below.refl _ _).alloc (Nat.le_refl _) _
  have q0 : Qb q F8.nul V := by rw [← hV, ← hq]; exact heap_alloc_new w _
  have d0 := (h.below b0).drawn 1
  have dX := d0.setL (rAns cm sz)
  have hqD := d0.nq (q := q) (g := F8.nul) q0
  have HD0 := hidOf2 d0
  have S0 : (fun y : World => y.cell? ⟨D, 2, none⟩ = some (.int .i64 (cm : Int)) ∧ y.cell? ⟨D, 0, none⟩ = some (.int .i64 (sz : Int))) V.drew := ⟨d0.c2, d0.c0⟩
  have ht : V.drew.there D 3 (rAns cm sz).arr.size := d0.there
  have SX : (fun y : World => y.cell? ⟨D, 2, none⟩ = some (.int .i64 (cm : Int)) ∧ y.cell? ⟨D, 0, none⟩ = some (.int .i64 (sz : Int))) (V.drew.setCells D 3 (rAns cm sz).arr.toList) := ⟨dX.c2, dX.c0⟩
  have HX : Hid (∀ X, V.drew.setCells D 3 (rAns cm sz).arr.toList = X → Dq D sz does cm (rAns cm sz) v cd bs X ∧ Qb q F8.nul X ∧ Kp [D] w X) := fun X hX => by
    subst hX
    have hk : Kp [D] V.drew (V.drew.setCells D 3 (rAns cm sz).arr.toList) := Kp.cells _ _ _ _
    exact ⟨dX, Qb.kq (show Qb q F8.nul V.drew from q0) hk (by simpa using hqD), (Kp.of_below (bdr b0 1)).trans hk⟩
  clear d0 dX b0 q0 h
  go_enter Try.func38, Try.ntmps38
  go_upto_region 1 with fail
  first | (change Code.wp Try.prog _ _ _ (w.alloc (.cells zA8 30)); rw [hV]) | (change Code.wp Try.prog _ _ _ V)
  refine wp_region_held (S := fun y : World => y.cell? ⟨D, 2, none⟩ = some (.int .i64 (cm : Int)) ∧ y.cell? ⟨D, 0, none⟩ = some (.int .i64 (sz : Int))) (by kernel_rfl) ?_
  change wpAnyH _ _ _ _ _ _ _ _ V.drew
  refine wpAnyH_take (i := 0) (v := (.pointer (some ⟨D, 0, none⟩))) rfl (by kernel_rfl) (by kernel_rfl) (by kernel_rfl) (fun _ _ _ h => h) (.inl ⟨rfl, fun _ hS => rfl⟩) S0 ?_
  simp only [List.getElem_toArray, List.getElem_cons_succ, List.getElem_cons_zero, Act.put, List.setIfInBounds_toArray, List.set_cons_succ, List.set_cons_zero]
  refine wpAnyH_take (i := 1) (v := (.pointer (some ⟨D, 0, none⟩))) rfl (by kernel_rfl) (by kernel_rfl) (by kernel_rfl) (fun _ _ _ h => h) (.inl ⟨rfl, fun _ hS => rfl⟩) S0 ?_
  simp only [List.getElem_toArray, List.getElem_cons_succ, List.getElem_cons_zero, Act.put, List.setIfInBounds_toArray, List.set_cons_succ, List.set_cons_zero]
  refine wpAnyH_take (i := 2) (v := (.pointer (some ⟨D, 0, none⟩))) rfl (by kernel_rfl) (by kernel_rfl) (by kernel_rfl) (fun _ _ _ h => h) (.inl ⟨rfl, fun _ hS => by simp [execOp, go_sem, Act.eval]⟩) S0 ?_
  simp only [List.getElem_toArray, List.getElem_cons_succ, List.getElem_cons_zero, Act.put, List.setIfInBounds_toArray, List.set_cons_succ, List.set_cons_zero]
  refine wpAnyH_take (i := 3) (v := (.pointer (some ⟨D, 2, none⟩))) rfl (by kernel_rfl) (by kernel_rfl) (by kernel_rfl) (fun _ _ _ h => h) (.inl ⟨rfl, fun _ hS => by simp [execOp, go_sem, Act.eval]⟩) S0 ?_
  simp only [List.getElem_toArray, List.getElem_cons_succ, List.getElem_cons_zero, Act.put, List.setIfInBounds_toArray, List.set_cons_succ, List.set_cons_zero]
  refine wpAnyH_take (i := 4) (v := (.int .i64 (cm : Int))) rfl (by kernel_rfl) (by kernel_rfl) (by kernel_rfl) (fun _ _ _ h => h) (.inl ⟨rfl, fun _ hS => exec_load rfl rfl (load_int _ _ _ _ hS.1)⟩) S0 ?_
  simp only [List.getElem_toArray, List.getElem_cons_succ, List.getElem_cons_zero, Act.put, List.setIfInBounds_toArray, List.set_cons_succ, List.set_cons_zero]
  refine wpAnyH_take (i := 5) (v := (.int .u8 (cm : Int))) rfl (by kernel_rfl) (by kernel_rfl) (by kernel_rfl) (fun _ _ _ h => h) (.inl ⟨rfl, fun _ hS => exec_convU rfl rfl hcm _⟩) S0 ?_
  simp only [List.getElem_toArray, List.getElem_cons_succ, List.getElem_cons_zero, Act.put, List.setIfInBounds_toArray, List.set_cons_succ, List.set_cons_zero]
  refine wpAnyH_take (i := 6) (v := (.pointer (some ⟨D, 0, none⟩))) rfl (by kernel_rfl) (by kernel_rfl) (by kernel_rfl) (fun _ _ _ h => h) (.inl ⟨rfl, fun _ hS => rfl⟩) S0 ?_
  simp only [List.getElem_toArray, List.getElem_cons_succ, List.getElem_cons_zero, Act.put, List.setIfInBounds_toArray, List.set_cons_succ, List.set_cons_zero]
  refine wpAnyH_take (i := 7) (v := (.pointer (some ⟨D, 0, none⟩))) rfl (by kernel_rfl) (by kernel_rfl) (by kernel_rfl) (fun _ _ _ h => h) (.inl ⟨rfl, fun _ hS => by simp [execOp, go_sem, Act.eval]⟩) S0 ?_
  simp only [List.getElem_toArray, List.getElem_cons_succ, List.getElem_cons_zero, Act.put, List.setIfInBounds_toArray, List.set_cons_succ, List.set_cons_zero]
  refine wpAnyH_take (i := 8) (v := (.pointer (some ⟨D, 0, none⟩))) rfl (by kernel_rfl) (by kernel_rfl) (by kernel_rfl) (fun _ _ _ h => h) (.inl ⟨rfl, fun _ hS => by simp [execOp, go_sem, Act.eval]⟩) S0 ?_
  simp only [List.getElem_toArray, List.getElem_cons_succ, List.getElem_cons_zero, Act.put, List.setIfInBounds_toArray, List.set_cons_succ, List.set_cons_zero]
  refine wpAnyH_take (i := 9) (v := (.int .i64 (sz : Int))) rfl (by kernel_rfl) (by kernel_rfl) (by kernel_rfl) (fun _ _ _ h => h) (.inl ⟨rfl, fun _ hS => exec_load rfl rfl (load_int _ _ _ _ hS.2)⟩) S0 ?_
  simp only [List.getElem_toArray, List.getElem_cons_succ, List.getElem_cons_zero, Act.put, List.setIfInBounds_toArray, List.set_cons_succ, List.set_cons_zero]
  refine wpAnyH_take (i := 10) (v := (.int .u8 (sz : Int))) rfl (by kernel_rfl) (by kernel_rfl) (by kernel_rfl) (fun _ _ _ h => h) (.inl ⟨rfl, fun _ hS => exec_convU rfl rfl hsz _⟩) S0 ?_
  simp only [List.getElem_toArray, List.getElem_cons_succ, List.getElem_cons_zero, Act.put, List.setIfInBounds_toArray, List.set_cons_succ, List.set_cons_zero]
  refine wpAnyH_take (i := 11) (v := (.agg (rAns cm sz).arr)) rfl (by kernel_rfl) (by kernel_rfl) (by kernel_rfl) (fun _ _ _ h => h) (.inl ⟨rfl, fun _ hS => exec_buildA rfl rfl rfl rfl hcm hsz _⟩) S0 ?_
  simp only [List.getElem_toArray, List.getElem_cons_succ, List.getElem_cons_zero, Act.put, List.setIfInBounds_toArray, List.set_cons_succ, List.set_cons_zero]
  refine wpAnyH_take (i := 12) (v := (.pointer (some ⟨D, 0, none⟩))) rfl (by kernel_rfl) (by kernel_rfl) (by kernel_rfl) (fun _ _ _ h => h) (.inl ⟨rfl, fun _ hS => by simp [execOp, go_sem, Act.eval]⟩) S0 ?_
  simp only [List.getElem_toArray, List.getElem_cons_succ, List.getElem_cons_zero, Act.put, List.setIfInBounds_toArray, List.set_cons_succ, List.set_cons_zero]
  refine wpAnyH_take (i := 13) (v := (.pointer (some ⟨D, 3, none⟩))) rfl (by kernel_rfl) (by kernel_rfl) (by kernel_rfl) (fun _ _ _ h => h) (.inl ⟨rfl, fun _ hS => by simp [execOp, go_sem, Act.eval]⟩) S0 ?_
  simp only [List.getElem_toArray, List.getElem_cons_succ, List.getElem_cons_zero, Act.put, List.setIfInBounds_toArray, List.set_cons_succ, List.set_cons_zero]
  refine wpAnyH_all (rs := [14]) (by kernel_rfl) (by simp) ?_
  intro k hk
  simp only [List.mem_cons, List.mem_nil_iff, or_false] at hk
  subst hk
  refine wpOp_run rfl rfl (wp_store_mid 30 _ _ rfl D 3 (rAns cm sz).arr rfl rfl ht (by rw [F8.size]; exact infoA8s) (F8.one _) ?_)
  refine ⟨SX, ?_⟩
  simp only [List.getElem_toArray, List.getElem_cons_succ, List.getElem_cons_zero, Act.put, List.setIfInBounds_toArray, List.set_cons_succ, List.set_cons_zero]
  refine wpAnyH_done (by kernel_rfl) ?_ _
  obtain ⟨X, hX⟩ : ∃ X, V.drew.setCells D 3 (rAns cm sz).arr.toList = X := ⟨_, rfl⟩
  rw [hX]
  obtain ⟨dX, qX, kX⟩ := HX.out X hX
  clear HX hX S0 SX ht HD0
  obtain ⟨ff, hff⟩ : ∃ f, rAns cm sz = f := ⟨_, rfl⟩
  rw [hff] at dX ⊢
  have y2 := dX.c2
  have f2 := dX.fr 2
  have HY : Hid (∀ Y, Y = X.setCell ⟨D, 2, none⟩ (.int .i64 0) → Dq D sz does 0 ff v cd bs Y ∧ Qb q F8.nul Y ∧ Kp [D] w Y) := fun Y hY => by
    subst hY
    have hk := Kp.cell1 X D 2 (.int .i64 0)
    exact ⟨dX.set 2 _ (by simp [drA]), qX.kq hk (by simpa using hqD), kX.trans hk⟩
  clear dX qX kX
  go_upto_region 3 with fail
  obtain ⟨Y, hY⟩ : ∃ Y, X.setCell ⟨D, 2, none⟩ (.int .i64 0) = Y := ⟨_, rfl⟩
  rw [hY]
  obtain ⟨dY, qY, kY⟩ := HY.out Y hY.symm
  have ly := load_mid8 dY.rng
  have HZ : Hid (∀ Z, Z = Y.setRow q ff.arr → Qb q ff Z ∧ Dq D sz does 0 ff v cd bs Z ∧ Kp [D] w Z) := fun Z hZ => by
    subst hZ
    have hk := Kp.setRow1 Y q ff.arr
    refine ⟨qY.row ff, dY.kp hk (by simpa using hqD.symm) (fun b hb => by simpa using dY.neq qY hb), kY.fresh hk (fun b hb => by simp at hb; right; omega)⟩
  have HQ := hidOf2 qY
  clear HY hY dY kY y2 f2
  go_wp2_with (first | (refine ldG ly rfl _ rfl rfl ?_) | (refine sdF (g := ff) qY rfl _ _ rfl rfl rfl ?_))
  obtain ⟨r1, r2, r3⟩ := HZ.out _ rfl
  exact bodyPost_ret (dtells_results r1 _ rfl rfl) rfl ⟨by rw [hff], by rw [hff]; exact r2, r3⟩
set_option maxHeartbeats 4000000 in
theorem dgivesR_any (h : Dq D sz does cm l v cd bs w) (c : Nat) (hc : c < 4294967296) : Calls Try.prog 37 #[.pointer (some ⟨D, 0, none⟩), .int .u32 (c : Int)] w fun e w' => e = .returned (.tuple #[.agg (frm 128 0 0 c).arr, .bool true]) ∧ Dq D sz 2 cm l (.slice none 0 0) c [] w' ∧ Kp [D] w w' := by
  obtain ⟨q, hq⟩ : ∃ q, w.heap.size = q := ⟨_, rfl⟩
  obtain ⟨V, hV⟩ : ∃ V, w.alloc (.cells zA8 30) = V := ⟨_, rfl⟩
  have b0 : Below w.heap.size w V := by rw [← hV]; exact (Below.refl _ _).alloc (Nat.le_refl _) _
  have q0 : Qb q F8.nul V := by rw [← hV, ← hq]; exact heap_alloc_new w _
  have d0 := h.below b0
  have hqD := d0.nq q0
  have y1 := d0.c1
  have y12 := d0.c12
  obtain ⟨av, nv, cv, hv⟩ : ∃ a n c, v = .slice a n c := by obtain ⟨ao, cap, h, _⟩ := d0.bt; exact ⟨_, _, _, h⟩
  have y11 : V.cell? ⟨D, 11, none⟩ = some (.slice av nv cv) := by rw [← hv]; exact d0.c11
  have f1 := d0.fr 1
  have f11 := d0.fr 11
  have f12 := d0.fr 12
  have HX : Hid (∀ X, X = ((V.setCell ⟨D, 1, none⟩ (.int .i64 2)).setCell ⟨D, 12, none⟩ (.int .u32 (c : Int))).setCell ⟨D, 11, none⟩ (.slice none 0 0) → Dq D sz 2 cm l (.slice none 0 0) c [] X ∧ Qb q F8.nul X ∧ Kp [D] w X) := fun X hX => by
    subst hX
    have h1 := d0.set (sz1 := sz) (does1 := 2) (cm1 := cm) (cd1 := cd) 1 (.int .i64 2) (by simp [drA])
    have h2 := h1.set (sz1 := sz) (does1 := 2) (cm1 := cm) (cd1 := c) 12 (.int .u32 (c : Int)) (by simp [drA])
    have h3 := h2.setV (.slice none 0 0) [] (Bytes.nil _) (fun ao n c e => by injection e; omega) (fun b e => by cases e)
    have k1 := Kp.cell1 V D 1 (.int .i64 2)
    have k2 := Kp.cell1 (V.setCell ⟨D, 1, none⟩ (.int .i64 2)) D 12 (.int .u32 (c : Int))
    have k3 := Kp.cell1 ((V.setCell ⟨D, 1, none⟩ (.int .i64 2)).setCell ⟨D, 12, none⟩ (.int .u32 (c : Int))) D 11 (.slice none 0 0)
    have k := (k1.trans k2).trans k3
    exact ⟨h3, q0.kq k (by simpa using hqD), (Kp.of_below b0).trans k⟩
  have hF := fun y => r10Frame_any 128 0 0 c y (by decide) (by decide) (by decide) hc
  obtain ⟨ff, hff⟩ : ∃ f, frm 128 0 0 c = f := ⟨_, rfl⟩
  rw [hff] at hF ⊢
  clear hff d0 b0 q0 h hv
  go_enter Try.func37, Try.ntmps37
  go_upto_region 1 with fail
  first | (change Code.wp Try.prog _ _ _ (w.alloc (.cells zA8 30)); rw [hV]) | (change Code.wp Try.prog _ _ _ V)
  go_upto_region 2 with fail
  obtain ⟨X, hX⟩ : ∃ Z, ((V.setCell ⟨D, 1, none⟩ (.int .i64 2)).setCell ⟨D, 12, none⟩ (.int .u32 (c : Int))).setCell ⟨D, 11, none⟩ (.slice none 0 0) = Z := ⟨_, rfl⟩
  rw [hX]
  obtain ⟨dX, qX, kX⟩ := HX.out X hX.symm
  have HD := hidOf2 dX
  have HQ := hidOf2 qX
  have HK := hidOf2 kX
  have hF := hF X
  clear HX hX dX qX kX y1 y12 y11 f1 f11 f12
  go_wp2_with fail
  refine hF.mono ?_
  rintro e w2 ⟨rfl, b2⟩
  have q2 := HQ.out.below b2
  have HZ : Hid (∀ Z, Z = w2.setRow q ff.arr → Qb q ff Z ∧ Dq D sz 2 cm l (.slice none 0 0) c [] Z ∧ Kp [D] w Z) := fun Z hZ => by
    subst hZ
    have hk := Kp.setRow1 w2 q ff.arr
    have d2 := HD.out.below b2
    exact ⟨q2.row ff, d2.kp hk (by simpa using hqD.symm) (fun b hb => by simpa using d2.neq q2 hb), (HK.out.trans (Kp.of_below b2)).fresh hk (fun b hb => by simp at hb; right; omega)⟩
  clear hF b2 HD HQ HK
  go_wp2_with (first | (refine sdF (g := ff) q2 rfl _ _ rfl rfl rfl ?_))
  obtain ⟨r1, r2, r3⟩ := HZ.out _ rfl
  exact bodyPost_ret (dgivesR_results r1 _ rfl rfl) rfl ⟨rfl, r2, r3⟩
/-- How the document's receiver goes with the plain one. -/
structure Dl (t : Rc) (sz does cm : Nat) (l : F8) (cd : Nat) : Prop where
  st : does + 1 = t.st
  not3 : t.st ≠ 3 → sz = t.sz ∧ cd = 0 ∧ t.cd = 0
  one : t.st = 1 → cm = t.cm
  two : t.st = 2 → l = rAns t.cm t.sz
  three : t.st = 3 → cd = t.cd
def Dw (D : Nat) (t : Rc) (v : Value) (w : World) : Prop := ∃ sz does cm l cd, Dq D sz does cm l v cd t.bs w ∧ Dl t sz does cm l cd
/-- What it answers, and how it is then. -/
def DwPost (w : World) (D : Nat) (v : Value) (r : Option F8 × Rc) (e : Ending) (w' : World) : Prop :=
  e = .returned (.tuple #[.agg (r.1.getD F8.nul).arr, .bool r.1.isSome]) ∧ ∃ v', Dw D r.2 v' w' ∧ Kp [D] w w' ∧ ∀ b, v'.ownBlock = some b → v.ownBlock = some b ∨ w.heap.size ≤ b
/-- The answer is laid into the result's frame. -/
theorem Dw.lay {q : Nat} {t : Rc} {y : World} (hd : Dw D t v1 y) (hq : Qb q F8.nul y) (hk : Kp [D] w y) (hw : w.heap.size ≤ q) (ho : ∀ b, v1.ownBlock = some b → v.ownBlock = some b ∨ w.heap.size ≤ b) (g : F8) (b : Bool) (r : Option F8) (hr : g = r.getD F8.nul) (hb : b = r.isSome) : ∀ Z, Z = y.setRow q g.arr → Qb q g Z ∧ DwPost w D v (r, t) (.returned (.tuple #[.agg g.arr, .bool b])) Z := fun Z hZ => by
  subst hZ hr hb
  obtain ⟨sz, does, cm, l, cd, hq1, hl⟩ := hd
  have hk2 := Kp.setRow1 y q (r.getD F8.nul).arr
  exact ⟨hq.row _, rfl, v1, ⟨sz, does, cm, l, cd, hq1.kp hk2 (by simpa using (hq1.nq hq).symm) (fun b hb => by simpa using hq1.neq hq hb), hl⟩, hk.fresh hk2 (fun b hb => by simp at hb; right; omega), ho⟩
theorem nul_arr : F8.nul.arr = #[.int .u8 0, .int .u8 0, .int .u8 0, .int .u8 0, .int .u8 0, .int .u8 0, .int .u8 0, .int .u8 0] := rfl
set_option maxHeartbeats 4000000 in
theorem dAsk_any {t : Rc} (h : Dw D t v w) (hok : t.Ok) : Calls Try.prog 18 #[.pointer (some ⟨D, 0, none⟩)] w fun e w' => DwPost w D v (rAsk t) e w' := by
  obtain ⟨sz, does, cm, l, cd, hq, hl⟩ := h
  obtain ⟨q, hqq⟩ : ∃ q, w.heap.size = q := ⟨_, rfl⟩
  obtain ⟨V, hV⟩ : ∃ V, w.alloc (.cells zA8 30) = V := ⟨_, rfl⟩
  have b0 : Below w.heap.size w V := by rw [← hV]; exact (Below.refl _ _).alloc (Nat.le_refl _) _
  have q0 : Qb q F8.nul V := by rw [← hV, ← hqq]; exact heap_alloc_new w _
  have d0 := hq.below b0
  have y1 := d0.c1
  have HK := hidOf2 (Kp.of_below (bs := [D]) b0)
  have HD := hidOf2 d0
  have hst := hok.st
  have hwq : w.heap.size ≤ q := by omega
  have hds := hl.st
  by_cases c3 : t.st = 3
  · have e1 : ((does : Int) == 0) = false := by simp; omega
    have e2 : ((does : Int) == 1) = false := by simp; omega
    have HP := hidOf2 (Dw.lay (v := v) (t := t) ⟨sz, does, cm, l, cd, HD.out, hl⟩ q0 HK.out hwq (fun b hb => .inl hb) F8.nul false none rfl rfl)
    rw [show rAsk t = (none, t) by unfold rAsk; rw [if_pos c3]]
    have hna := nul_arr
    clear HD HK d0 b0 hq
    go_enter Try.func18, Try.ntmps18
    go_upto_region 1 with fail
    first | (change Code.wp Try.prog _ _ _ (w.alloc (.cells zA8 30)); rw [hV]) | (change Code.wp Try.prog _ _ _ V)
    go_wp2_with (first | (refine sdF (g := F8.nul) q0 rfl _ _ rfl rfl (by rw [hna]; first | rfl | (simp [Act.eval]; done)) ?_))
    obtain ⟨r1, r2⟩ := HP.out _ rfl
    exact bodyPost_ret (dask_results r1 _ rfl rfl) rfl r2
  · obtain ⟨hsz, hcd, htc⟩ := hl.not3 c3
    have hs2 := hok.sz
    by_cases c1 : t.st = 1
    · have e1 : ((does : Int) == 0) = true := by simp; omega
      have hcm := hl.one c1
      have hlt := hok.lt c1
      have hT := dtells_any d0 (by omega) (by omega)
      have HP : Hid (∀ y, Dq D sz does 0 (rAns cm sz) v cd t.bs y → Kp [D] V y → Qb q F8.nul y ∧ ∀ Z, Z = y.setRow q (rAns cm sz).arr → Qb q (rAns cm sz) Z ∧ DwPost w D v (rAsk t) (.returned (.tuple #[.agg (rAns cm sz).arr, .bool true])) Z) := fun y hy hk => by
        have hqy := q0.kq hk (by simpa using d0.nq q0)
        refine ⟨hqy, ?_⟩
        have e : rAsk t = (some (rAns cm sz), ⟨1, t.sz, t.bs, 0, t.cd⟩) := by unfold rAsk; rw [if_neg c3, if_pos c1, c1, hcm, hsz]
        rw [e]
        refine Dw.lay (t := ⟨1, t.sz, t.bs, 0, t.cd⟩) (v1 := v) ⟨sz, does, 0, _, cd, hy, ⟨by show does + 1 = 1; omega, fun _ => ⟨hsz, hcd, htc⟩, fun _ => rfl, (fun h => by simp at h), (fun h => by simp at h)⟩⟩ hqy (HK.out.trans hk) hwq (fun b hb => .inl hb) _ _ _ rfl rfl
      obtain ⟨ff, hff⟩ : ∃ f, rAns cm sz = f := ⟨_, rfl⟩
      rw [hff] at hT HP
      clear HD HK d0 b0 hq hff
      go_enter Try.func18, Try.ntmps18
      go_upto_region 1 with fail
      first | (change Code.wp Try.prog _ _ _ (w.alloc (.cells zA8 30)); rw [hV]) | (change Code.wp Try.prog _ _ _ V)
      go_wp2_with (first | (go_at_call 38; refine hT.mono ?_; rintro e w2 ⟨rfl, d2, k2⟩; obtain ⟨q2, HP2⟩ := HP.out w2 d2 k2; have HP2 := hidOf2 HP2; clear d2 k2) | (refine sdF (g := ff) q2 rfl _ _ rfl rfl rfl ?_))
      obtain ⟨r1, r2⟩ := HP2.out _ rfl
      exact bodyPost_ret (dask_results r1 _ rfl rfl) rfl r2
    · have e1 : ((does : Int) == 0) = false := by simp; omega
      have e2 : ((does : Int) == 1) = true := by simp; omega
      have hll := hl.two (by omega)
      have e : rAsk t = (some l, t) := by unfold rAsk; rw [if_neg c3, if_neg c1, ← hll]
      have ly := load_mid8 d0.rng
      have HP := hidOf2 (Dw.lay (v := v) (t := t) ⟨sz, does, cm, l, cd, HD.out, hl⟩ q0 HK.out hwq (fun b hb => .inl hb) l true (some l) rfl rfl)
      rw [e]
      clear HD HK d0 b0 hq e hll hl
      go_enter Try.func18, Try.ntmps18
      go_upto_region 1 with fail
      first | (change Code.wp Try.prog _ _ _ (w.alloc (.cells zA8 30)); rw [hV]) | (change Code.wp Try.prog _ _ _ V)
      go_wp2_with (first | (refine ldG ly rfl _ rfl rfl ?_) | (refine sdF (g := l) q0 rfl _ _ rfl rfl rfl ?_))
      obtain ⟨r1, r2⟩ := HP.out _ rfl
      exact bodyPost_ret (dask_results r1 _ rfl rfl) rfl r2
end
end Go.Proofs.Ytebjofkblfmkmaa
