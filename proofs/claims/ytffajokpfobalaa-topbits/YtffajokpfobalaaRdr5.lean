/- Contracts of a reader's end, and of Decode. -/
import Derived.Test.YtffajokpfobalaaRdr4
import Derived.Defers
import Derived.Recover
import Derived.Deep.RegionLaw
namespace Go.Proofs.Ytffajokpfobalaa
open Go.RowKit Go.Proofs.Bits
set_option linter.unusedVariables false
set_option maxRecDepth 1000000

section
variable {t : List UInt8} {s : RS} {g : Nat} {w w' : World}

set_option maxHeartbeats 2000000 in
theorem end_any {r : Except Flt (Unit × RS)} (ht : t.length ≤ 65536) (h : Rd t s g w) (hr : endS t s = r) :
    Calls Try.prog 22 #[.pointer (some ⟨g, 0, none⟩)] w (PostR g t w unitV r) := by
  have HR : Hid (endS t s = r) := hr
  clear hr
  go_enter Try.func22, Try.ntmps22
  go_wp2_with fail
  refine (fixed_any 49 22 ht h rfl).mono ?_
  intro e w1 hP
  rcases hP.cases HR.out (Kp.refl _ _) with ⟨f, rfl, hG⟩ | ⟨_, s1, rfl, e1, HR1, h1, b1, k1⟩
  · exact ⟨rfl, hG⟩
  unfold unitV
  clear hP HR e1 k1
  go_wp2_with fail
  refine (fixed_any 48 23 ht h1 rfl).mono ?_
  intro e w2 hP
  rcases hP.cases HR1.out b1 with ⟨f, rfl, hG⟩ | ⟨_, s2, rfl, e2, HR2, h2, b2, k2⟩
  · exact ⟨rfl, hG⟩
  unfold unitV
  clear hP HR1 e2 k2 h1 b1
  have HR2 : Hid (fixN t 49 22 8 s2 = r) := HR2
  go_wp2_with fail
  go_loopw [6] (fun i wr => ∃ (k : Nat) (s3 : RS), k ≤ 8 ∧ i = .int .i64 k ∧ Hid (fixN t 49 22 k s2 = .ok ((), s3)) ∧ Rd t s3 g wr ∧ Kp g w wr) (fun i _ => 8 - (intOf i).toNat)
  case atStart => exact ⟨0, s2, Nat.zero_le _, rfl, rfl, h2, b2⟩
  case round =>
    obtain ⟨k, s3, hk, rfl, HD, h3, b3⟩ := hrel
    clear h2 b2
    by_cases hkN : k < 8
    · go_wp2_with fail
      refine (fixed_any 49 22 ht h3 rfl).mono ?_
      intro e w5 hP
      cases hm : fixS t 49 22 s3 with
      | error f =>
        rw [hm] at hP
        obtain ⟨rfl, b5⟩ := hP.error
        have hF : r = .error f := by
          rw [← HR2.out, show 8 = (k + 1) + (8 - (k + 1)) by omega]
          exact fixN_stays (fixN_fault HD.out hm) _
        exact ⟨rfl, PostR.of_error hF (b3.trans b5)⟩
      | ok q =>
        obtain ⟨_, s5⟩ := q
        rw [hm] at hP
        obtain ⟨rfl, h5, b5⟩ := hP.ok
        have HD2 : Hid (fixN t 49 22 (k + 1) s2 = .ok ((), s5)) := fixN_next HD.out hm
        unfold unitV
        clear hP hm HD HR2
        go_wp2
        go_roundw
        case rel => exact ⟨k + 1, s5, by omega, by go_num, HD2, h5, b3.trans b5⟩
        case measure => simp [intOf]; omega
    · obtain rfl : k = 8 := by omega
      have HF : Hid (r = .ok ((), s3)) := HR2.out.symm.trans HD.out
      clear HR2 HD
      go_wp2
      go_end0
      exact PostR.of_ok HF.out rfl h3 b3

/-- Decode's three results, in blocks q, q + 1, q + 2. -/
def Ns (q : Nat) (f : Fr) (n e : Int) (w : World) : Prop :=
  Fa q f w ∧ w.heap[q + 1]? = some (.cells #[.int .i64 n] 3 (0, 0)) ∧ w.heap[q + 2]? = some (.cells #[.int .i64 e] 28 (0, 0))
theorem Ns.new (w : World) : Ns w.heap.size Fr.nul 0 0 (((w.alloc (.cells Fr.nul.arr 33)).alloc (.cells #[.int .i64 0] 3)).alloc (.cells #[.int .i64 0] 28)) := by
  refine ⟨((Fa.new w Fr.nul).alloc _).alloc _, ?_, ?_⟩
  · have := heap_alloc_new (w.alloc (.cells Fr.nul.arr 33)) (.cells #[.int .i64 0] 3)
    rw [size_alloc] at this
    rw [Lib.alloc_old _ _ _ (by rw [size_alloc, size_alloc]; omega)]
    exact this
  · have := heap_alloc_new ((w.alloc (.cells Fr.nul.arr 33)).alloc (.cells #[.int .i64 0] 3)) (.cells #[.int .i64 0] 28)
    rw [size_alloc, size_alloc] at this
    exact this
section
variable {q : Nat} {f : Fr} {n e : Int}
theorem Ns.lt (h : Ns q f n e w) : q + 2 < w.heap.size := (Array.getElem?_eq_some_iff.1 h.2.2).1
theorem Ns.below {B : Nat} (h : Ns q f n e w) (hb : Below B w w') (hB : q + 2 < B) : Ns q f n e w' :=
  ⟨(hb.block q (by omega)).trans h.1, (hb.block _ (by omega)).trans h.2.1, (hb.block _ (by omega)).trans h.2.2⟩
theorem Ns.row (h : Ns q f n e w) (f' : Fr) : Ns q f' n e (w.setRow q f'.arr) :=
  ⟨h.1.row f', (setRow_other _ _ _ _ (by omega)).trans h.2.1, (setRow_other _ _ _ _ (by omega)).trans h.2.2⟩
theorem Ns.setN (h : Ns q f n e w) (n' : Int) : Ns q f n' e (w.setCell ⟨q + 1, 0, none⟩ (.int .i64 n')) := by
  refine ⟨h.1.other (p := ⟨q + 1, 0, none⟩) (by simp) _, ?_, ?_⟩
  · simp [World.setCell, Array.getElem?_modify, h.2.1]
  · rw [Below.heap_setCell _ _ _ _ (by simp)]; exact h.2.2
theorem Ns.setE (h : Ns q f n e w) (e' : Int) : Ns q f n e' (w.setCell ⟨q + 2, 0, none⟩ (.int .i64 e')) := by
  refine ⟨h.1.other (p := ⟨q + 2, 0, none⟩) (by simp) _, ?_, ?_⟩
  · rw [Below.heap_setCell _ _ _ _ (by simp)]; exact h.2.1
  · simp [World.setCell, Array.getElem?_modify, h.2.2]
theorem Ns.drew (h : Ns q f n e w) : Ns q f n e w.drew := h
theorem Ns.cn (h : Ns q f n e w) : w.cell? ⟨q + 1, 0, none⟩ = some (.int .i64 n) := Lib.cell_of_heap h.2.1 0
theorem Ns.ce (h : Ns q f n e w) : w.cell? ⟨q + 2, 0, none⟩ = some (.int .i64 e) := Lib.cell_of_heap h.2.2 0
theorem Ns.zn (h : Ns q f n e w) : w.frozen? ⟨q + 1, 0, none⟩ = false := Lib.frozen_of_heap h.2.1 0
theorem Ns.ze (h : Ns q f n e w) : w.frozen? ⟨q + 2, 0, none⟩ = false := Lib.frozen_of_heap h.2.2 0
theorem below_row {B : Nat} {a : World} (h : Below B a w) (hq : B ≤ q) (hl : B ≤ w.heap.size) (c : Array Value) : Below B a (w.setRow q c) := h.grown (setRow_kept w q c) hl (fun k hk => by cases hk; omega)
theorem Ns.results (h : Ns q f n e w) (tmps : Array Value) (h2 : tmps[2]?.getD undef = .pointer (some ⟨q, 0, none⟩)) (h3 : tmps[3]?.getD undef = .pointer (some ⟨q + 1, 0, none⟩)) (h4 : tmps[4]?.getD undef = .pointer (some ⟨q + 2, 0, none⟩)) :
    (results Try.f8 tmps).run Try.prog w = .ok (.tuple #[f.val, .int .i64 n, .int .i64 e]) w := by
  have l0 := h.1.load
  have cn := h.cn
  have ce := h.ce
  have l1 : (loadVar 3 ⟨q + 1, 0, none⟩).run Try.prog w = .ok (.int .i64 n) w := by simp [loadVar, isAgg, run_underlying Try.underlying3, go_sem, cn]
  have l2 : (loadVar 28 ⟨q + 2, 0, none⟩).run Try.prog w = .ok (.int .i64 e) w := by simp [loadVar, isAgg, run_underlying Try.underlying28, go_sem, ce]
  simp [Go.results, Try.results8, h2, h3, h4, asAddr, l0, l1, l2, Fr.val]
end

set_option maxHeartbeats 2000000 in
theorem Decode_bad (S : ByteArray) (w : World) (h0 : err S.data.toList ≠ 0) :
    Calls Try.prog 8 #[.string S] w fun e w' => e = .returned (.tuple #[Fr.nul.val, .int .i64 0, .int .i64 (err S.data.toList)]) ∧ Below w.heap.size w w' := by
  have hmf : ∀ (fn : Fn) (first cap : Array Value) (w : World), (Instr.makeFunc fn first cap).run Try.prog w = .ok (.func fn first cap) w := fun _ _ _ _ => rfl
  have hne : (err S.data.toList == 0) = false := by simp [h0]
  have hN := Ns.new w
  have hBl : Below w.heap.size w (((w.alloc (.cells Fr.nul.arr 33)).alloc (.cells #[.int .i64 0] 3)).alloc (.cells #[.int .i64 0] 28)) := (((Below.refl _ _).alloc (Nat.le_refl _) _).alloc (by rw [size_alloc]; omega) _).alloc (by rw [size_alloc, size_alloc]; omega) _
  go_enter_defers Try.func8, Try.ntmps8
  go_wp2_with fail
  change Calls Try.prog 19 _ (((w.alloc (.cells Fr.nul.arr 33)).alloc (.cells #[.int .i64 0] 3)).alloc (.cells #[.int .i64 0] 28)) _
  generalize (((w.alloc (.cells Fr.nul.arr 33)).alloc (.cells #[.int .i64 0] 3)).alloc (.cells #[.int .i64 0] 28)) = W at *
  refine (flook_any S _).mono ?_
  rintro e w1 ⟨rfl, b1⟩
  have hl := hN.lt
  have N1 := hN.below b1 hl
  have f1 := N1.1
  have B1 := hBl.trans (b1.mono (by omega))
  have s1 := b1.size
  have N2 := N1.row Fr.nul
  have cn := N2.cn
  have ce := N2.ce
  have zn := N2.zn
  have ze := N2.ze
  have N3 := (N2.setN 0).setE (err S.data.toList)
  have B3 : Below w.heap.size w (((w1.setRow w.heap.size Fr.nul.arr).setCell ⟨w.heap.size + 1, 0, none⟩ (.int .i64 0)).setCell ⟨w.heap.size + 2, 0, none⟩ (.int .i64 (err S.data.toList))) := ((below_row B1 (Nat.le_refl _) (by omega) _).setCell (p := ⟨w.heap.size + 1, 0, none⟩) (by simp) _).setCell (p := ⟨w.heap.size + 2, 0, none⟩) (by simp) _
  generalize hq : w.heap.size = q at *
  clear hN N1 N2 hBl b1
  go_wp2_with (refine f1.sd Fr.nul rfl _ _ rfl rfl rfl ?_)
  exact ⟨_, N3.results _ rfl rfl rfl, rfl, by rw [hq]; exact B3⟩

theorem infoFault : (Try.prog.info? 61).map (·.zero) = some (some (.agg #[.int .i64 0, .int .i64 0])) := by kernel_rfl
theorem ta_none (xT : TypeId) (w : World) : (Instr.typeAssert .nilIface xT 61 true).run Try.prog w = .ok (.tuple #[.agg #[.int .i64 0, .int .i64 0], .bool false]) w := by
  obtain ⟨i, hi, hz⟩ := Option.map_eq_some_iff.1 infoFault
  simp [Instr.typeAssert, run_underlying Try.underlying61, zeroValue, typeInfo, hi, hz]
theorem ta_some (xT : TypeId) (v : Value) (w : World) : (Instr.typeAssert (.iface 61 v) xT 61 true).run Try.prog w = .ok (.tuple #[v, .bool true]) w := by
  simp [Instr.typeAssert, run_underlying Try.underlying61]

set_option maxHeartbeats 2000000 in
theorem catch_idle (q : Nat) (w : World) :
    CallsD Try.prog 20 #[.pointer (some ⟨q, 0, none⟩), .pointer (some ⟨q + 1, 0, none⟩), .pointer (some ⟨q + 2, 0, none⟩)] .returning w fun e u' w' => e = .returned (.tuple #[]) ∧ u' = .returning ∧ Below w.heap.size w w' := by
  refine callsD_of_wpS Try.func20 rfl fun c₀ cs hu => ?_
  apply wpS_seq
  apply wpS_region
  simp [wpOpsS, go_sem, recoverD, hu, Try.ntmps20, Exit.thenS, ta_none]
  refine wpS_of_wp ?_
  change Code.wp Try.prog _ _ ⟨#[.pointer (some ⟨q, 0, none⟩), .pointer (some ⟨q + 1, 0, none⟩), .pointer (some ⟨q + 2, 0, none⟩), .pointer (some ⟨w.heap.size, 0, none⟩), .bool false, .tuple #[.agg #[.int .i64 0, .int .i64 0], .bool false], .nilIface, .tuple #[.agg #[.int .i64 0, .int .i64 0], .bool false], .agg #[.int .i64 0, .int .i64 0], .bool false, undef, undef, undef, undef, undef, undef], []⟩ _
  go_wp2
  exact ⟨rfl, .returning, by rw [← hu], _, results_none rfl _ _ _, rfl, rfl, (Below.refl _ _).alloc (Nat.le_refl _) _⟩

theorem arr_lit (f : Fr) : ∃ a0 a1 a2 a3 a4 a5 a6 a7 a8 a9 a10 a11 : Value, f.arr = #[a0, a1, a2, a3, a4, a5, a6, a7, a8, a9, a10, a11] := by
  obtain ⟨id, ext, rem, len, data, h1, h2, h3⟩ := f
  match data, h3 with
  | [d0, d1, d2, d3, d4, d5, d6, d7], _ => exact ⟨_, _, _, _, _, _, _, _, _, _, _, _, rfl⟩
theorem heap_set {q i : Nat} {A : Array Value} {T : TypeId} {z : Nat × Nat} (h : w.heap[q]? = some (.cells A T z)) (v : Value) : (w.setCell ⟨q, i, none⟩ v).heap[q]? = some (.cells (A.setIfInBounds i v) T z) := by
  simp [World.setCell, Array.getElem?_modify, h]
theorem heap_drew (q : Nat) : w.drew.heap[q]? = w.heap[q]? := rfl
def wipe (w : World) (q : Nat) : World := (((((((((((w.setCell ⟨q, 0, none⟩ (.int .u32 0)).setCell ⟨q, 1, none⟩ (.bool false)).setCell ⟨q, 2, none⟩ (.bool false)).setCell ⟨q, 3, none⟩ (.int .i64 0)).setCell ⟨q, 4, none⟩ (.int .u8 0)).setCell ⟨q, 5, none⟩ (.int .u8 0)).setCell ⟨q, 6, none⟩ (.int .u8 0)).setCell ⟨q, 7, none⟩ (.int .u8 0)).setCell ⟨q, 8, none⟩ (.int .u8 0)).setCell ⟨q, 9, none⟩ (.int .u8 0)).setCell ⟨q, 10, none⟩ (.int .u8 0)).setCell ⟨q, 11, none⟩ (.int .u8 0)
theorem Ns.wiped {q : Nat} {f : Fr} {n e : Int} (h : Ns q f n e w) : Ns q Fr.nul n e (wipe w q) := by
  obtain ⟨a0, a1, a2, a3, a4, a5, a6, a7, a8, a9, a10, a11, hA⟩ := arr_lit f
  obtain ⟨h0, h1, h2⟩ := h
  unfold Fa at h0
  rw [hA] at h0
  have o : ∀ (V : World) (p : Addr) (v : Value) (k : Nat), k ≠ p.block → (V.setCell p v).heap[k]? = V.heap[k]? := fun V p v k hk => Below.heap_setCell V p v k hk
  have e : ((((((((((((#[a0, a1, a2, a3, a4, a5, a6, a7, a8, a9, a10, a11] : Array Value).setIfInBounds 0 (.int .u32 0)).setIfInBounds 1 (.bool false)).setIfInBounds 2 (.bool false)).setIfInBounds 3 (.int .i64 0)).setIfInBounds 4 (.int .u8 0)).setIfInBounds 5 (.int .u8 0)).setIfInBounds 6 (.int .u8 0)).setIfInBounds 7 (.int .u8 0)).setIfInBounds 8 (.int .u8 0)).setIfInBounds 9 (.int .u8 0)).setIfInBounds 10 (.int .u8 0)).setIfInBounds 11 (.int .u8 0) = Fr.nul.arr := by
    simp [Fr.nul, Fr.arr, Fr.cells]
  have g := heap_set (i := 11) (heap_set (i := 10) (heap_set (i := 9) (heap_set (i := 8) (heap_set (i := 7) (heap_set (i := 6) (heap_set (i := 5) (heap_set (i := 4) (heap_set (i := 3) (heap_set (i := 2) (heap_set (i := 1) (heap_set (i := 0) h0 (.int .u32 0)) (.bool false)) (.bool false)) (.int .i64 0)) (.int .u8 0)) (.int .u8 0)) (.int .u8 0)) (.int .u8 0)) (.int .u8 0)) (.int .u8 0)) (.int .u8 0)) (.int .u8 0)
  rw [e] at g
  refine ⟨g, ?_, ?_⟩
  · unfold wipe
    rw [o _ _ _ _ (by simp), o _ _ _ _ (by simp), o _ _ _ _ (by simp), o _ _ _ _ (by simp), o _ _ _ _ (by simp), o _ _ _ _ (by simp), o _ _ _ _ (by simp), o _ _ _ _ (by simp), o _ _ _ _ (by simp), o _ _ _ _ (by simp), o _ _ _ _ (by simp), o _ _ _ _ (by simp)]
    exact h1
  · unfold wipe
    rw [o _ _ _ _ (by simp), o _ _ _ _ (by simp), o _ _ _ _ (by simp), o _ _ _ _ (by simp), o _ _ _ _ (by simp), o _ _ _ _ (by simp), o _ _ _ _ (by simp), o _ _ _ _ (by simp), o _ _ _ _ (by simp), o _ _ _ _ (by simp), o _ _ _ _ (by simp), o _ _ _ _ (by simp)]
    exact h2
theorem below_wipe {B q : Nat} {a : World} (h : Below B a w) (hq : B ≤ q) : Below B a (wipe w q) :=
  (((((((((((h.setCell (p := ⟨q, 0, none⟩) hq _).setCell (p := ⟨q, 1, none⟩) hq _).setCell (p := ⟨q, 2, none⟩) hq _).setCell (p := ⟨q, 3, none⟩) hq _).setCell (p := ⟨q, 4, none⟩) hq _).setCell (p := ⟨q, 5, none⟩) hq _).setCell (p := ⟨q, 6, none⟩) hq _).setCell (p := ⟨q, 7, none⟩) hq _).setCell (p := ⟨q, 8, none⟩) hq _).setCell (p := ⟨q, 9, none⟩) hq _).setCell (p := ⟨q, 10, none⟩) hq _).setCell (p := ⟨q, 11, none⟩) hq _

set_option maxHeartbeats 2000000 in
theorem catch_fault (q : Nat) (f : Fr) (n e : Int) (x : Flt) (w : World) (h : Ns q f n e w) :
    CallsD Try.prog 20 #[.pointer (some ⟨q, 0, none⟩), .pointer (some ⟨q + 1, 0, none⟩), .pointer (some ⟨q + 2, 0, none⟩)] (.panicking [{ v := faultV x, recovered := false }]) w fun e u' w' => e = .returned (.tuple #[]) ∧ u' = .panicking [{ v := faultV x, recovered := true }] ∧ Ns q Fr.nul x.1 x.2 w' ∧ Below q w w' := by
  suffices H : ∀ R : Ending → FrameMode → World → Prop, (∀ w', Ns q Fr.nul x.1 x.2 w' → Below q w w' → R (.returned (.tuple #[])) (.panicking [{ v := faultV x, recovered := true }]) w') →
      CallsD Try.prog 20 #[.pointer (some ⟨q, 0, none⟩), .pointer (some ⟨q + 1, 0, none⟩), .pointer (some ⟨q + 2, 0, none⟩)] (.panicking [{ v := faultV x, recovered := false }]) w R from H _ (fun w' a b => ⟨rfl, rfl, a, b⟩)
  intro R HR0
  have hlt := h.lt
  have hA : Ns q f n e (w.alloc (.cells #[.int .i64 x.1, .int .i64 x.2] 61)) := h.below ((Below.refl w.heap.size w).alloc (Nat.le_refl _) _) hlt
  have hBl : Below q w (w.alloc (.cells #[.int .i64 x.1, .int .i64 x.2] 61)) := (Below.refl q w).alloc (by omega) _
  have HR : Hid (∀ w', Ns q Fr.nul x.1 x.2 w' → Below q w w' → R (.returned (.tuple #[])) (.panicking [{ v := faultV x, recovered := true }]) w') := HR0
  clear h HR0
  obtain ⟨pl, er⟩ := x
  refine callsD_of_wpS Try.func20 rfl fun c₀ cs hu => ?_
  unfold faultV at *
  simp only at hA hBl hu HR
  generalize ((pl : Nat) : Int) = P at *
  apply wpS_seq
  apply wpS_region
  simp [wpOpsS, go_sem, recoverD, hu, Try.ntmps20, Exit.thenS, ta_some]
  refine wpS_of_wp ?_
  simp [Array.replicate, List.replicate]
  have k0 : (w.alloc (.cells #[.int .i64 P, .int .i64 er] 61)).cell? ⟨w.heap.size, 0, none⟩ = some (.int .i64 P) := Lib.cell_of_heap (heap_alloc_new w _) 0
  have k1 : (w.alloc (.cells #[.int .i64 P, .int .i64 er] 61)).cell? ⟨w.heap.size, 1, none⟩ = some (.int .i64 er) := Lib.cell_of_heap (heap_alloc_new w _) 1
  generalize w.alloc (.cells #[.int .i64 P, .int .i64 er] 61) = W at *
  generalize w.heap.size = k at *
  have N3 := (hA.wiped.setN P).setE er
  have B3 : Below q w (((wipe W q).setCell ⟨q + 1, 0, none⟩ (.int .i64 P)).setCell ⟨q + 2, 0, none⟩ (.int .i64 er)) := ((below_wipe hBl (Nat.le_refl _)).setCell (p := ⟨q + 1, 0, none⟩) (by simp) _).setCell (p := ⟨q + 2, 0, none⟩) (by simp) _
  have hN : Hid (Ns q Fr.nul P er (((wipe W q).setCell ⟨q + 1, 0, none⟩ (.int .i64 P)).setCell ⟨q + 2, 0, none⟩ (.int .i64 er)).drew) := N3.drew
  have hB : Hid (Below q w (((wipe W q).setCell ⟨q + 1, 0, none⟩ (.int .i64 P)).setCell ⟨q + 2, 0, none⟩ (.int .i64 er)).drew) := B3.drew
  clear N3 B3
  obtain ⟨a0, a1, a2, a3, a4, a5, a6, a7, a8, a9, a10, a11, hL⟩ := arr_lit f
  have h0 := hA.1
  unfold Fa at h0
  rw [hL] at h0
  have x0 : W.cell? ⟨q, 0, none⟩ = some a0 := Lib.cell_of_heap h0 0
  have x1 : W.cell? ⟨q, 1, none⟩ = some a1 := Lib.cell_of_heap h0 1
  have x2 : W.cell? ⟨q, 2, none⟩ = some a2 := Lib.cell_of_heap h0 2
  have x3 : W.cell? ⟨q, 3, none⟩ = some a3 := Lib.cell_of_heap h0 3
  have x4 : W.cell? ⟨q, 4, none⟩ = some a4 := Lib.cell_of_heap h0 4
  have x5 : W.cell? ⟨q, 5, none⟩ = some a5 := Lib.cell_of_heap h0 5
  have x6 : W.cell? ⟨q, 6, none⟩ = some a6 := Lib.cell_of_heap h0 6
  have x7 : W.cell? ⟨q, 7, none⟩ = some a7 := Lib.cell_of_heap h0 7
  have x8 : W.cell? ⟨q, 8, none⟩ = some a8 := Lib.cell_of_heap h0 8
  have x9 : W.cell? ⟨q, 9, none⟩ = some a9 := Lib.cell_of_heap h0 9
  have x10 : W.cell? ⟨q, 10, none⟩ = some a10 := Lib.cell_of_heap h0 10
  have x11 : W.cell? ⟨q, 11, none⟩ = some a11 := Lib.cell_of_heap h0 11
  have z0 : ∀ j, W.frozen? ⟨q, j, none⟩ = false := fun j => Lib.frozen_of_heap h0 j
  have cn := hA.cn
  have ce := hA.ce
  have zn := hA.zn
  have ze := hA.ze
  have hkq : k ≠ q := by omega
  have hkq1 : k ≠ q + 1 := by omega
  have hkq2 : k ≠ q + 2 := by omega
  have hkq' : q ≠ k := by omega
  have hkq1' : q + 1 ≠ k := by omega
  have hkq2' : q + 2 ≠ k := by omega
  clear hA h0 hL hBl
  go_wp2_with fail
  go_region
  unfold wipe at hN hB
  exact ⟨rfl, _, rfl, _, results_none rfl _ _ _, HR.out _ hN.out hB.out⟩
end
end Go.Proofs.Ytffajokpfobalaa
