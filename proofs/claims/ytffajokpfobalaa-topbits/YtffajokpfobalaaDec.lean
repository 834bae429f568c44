/- Contract of Decode. -/
import Derived.Test.YtffajokpfobalaaRdr5
namespace Go.Proofs.Ytffajokpfobalaa
open Go.RowKit Go.Proofs.Bits
set_option linter.unusedVariables false
set_option maxRecDepth 1000000

/-- What Decode answers: the frame, a place, an error. -/
def decF (t : List UInt8) : Fr := if err t = 0 then (match decS t with | .error _ => Fr.nul | .ok (f, _) => toldF f) else Fr.nul
def decN (t : List UInt8) : Int := if err t = 0 then (match decS t with | .error f => f.1 | .ok (_, s) => s.pos) else 0
def decE (t : List UInt8) : Int := if err t = 0 then (match decS t with | .error f => f.2 | .ok _ => 0) else err t
def decV (t : List UInt8) : Value := .tuple #[(decF t).val, .int .i64 (decN t), .int .i64 (decE t)]

theorem cellsR : (Try.prog.info? 64).map (·.size) = some 6 := by kernel_rfl
theorem Rd.new (t : List UInt8) (w : World) : Rd t Bits.start w.heap.size (w.alloc (.cells #[.string ⟨t.toArray⟩, .int .i64 0, .int .u8 0, .int .i64 0, .pointer none, .slice none 0 0] 64)) := by
  refine ⟨⟨Nat.zero_le _, by decide, Nat.le_refl _, rfl⟩, _, rfl, ⟨Nat.le_refl _, heap_alloc_new w _, .inl rfl, _, rfl, World.ownsRowF_nil _ _ _ _⟩, rfl, rfl, rfl, rfl⟩

theorem PostR.which {α : Type} {t : List UInt8} {g : Nat} {w w' : World} {enc : α → Value} {r : Except Flt (α × RS)} {f : Flt} (h : PostR g t w enc r (.panicked [{ v := faultV f, recovered := false }]) w') : r = .error f := by
  cases r with
  | error f' =>
    obtain ⟨h, _⟩ := h.error
    simp [faultV] at h
    rw [show f = f' from Prod.ext (by omega) h.2]
  | ok v => obtain ⟨h, _⟩ := h.ok; cases h
theorem Rd.rows {t : List UInt8} {s : RS} {g q : Nat} {w : World} {f : Fr} (h : Rd t s g w) (hf : Fa q f w) (hq : q ≠ g) {A : Array Value} : Rd t s g (w.setRow q A) := by
  obtain ⟨ok, cs, hc, ⟨hB, hg, hpp, u, hu, hown⟩, hx0, hx1, hx2, hx3⟩ := h
  refine ⟨ok, cs, hc, ⟨hB, ?_, hpp, u, hu, ?_⟩, hx0, hx1, hx2, hx3⟩
  · rw [setRow_other w q g _ (by omega)]; exact hg
  · exact hown.kept (setRow_kept w q _) (Or.inr (Lib.ownBlock_neF hown hf (by decide)))

theorem arr_full (f : Fr) : ∃ (i : Int) (x r : Bool) (n d0 d1 d2 d3 d4 d5 d6 d7 : Int), f.arr = #[.int .u32 i, .bool x, .bool r, .int .i64 n, .int .u8 d0, .int .u8 d1, .int .u8 d2, .int .u8 d3, .int .u8 d4, .int .u8 d5, .int .u8 d6, .int .u8 d7] := by
  obtain ⟨id, ext, rem, len, data, h1, h2, h3⟩ := f
  match data, h3 with
  | [d0, d1, d2, d3, d4, d5, d6, d7], _ => exact ⟨_, _, _, _, _, _, _, _, _, _, _, _, rfl⟩
def fill (w : World) (q : Nat) (i : Int) (x r : Bool) (n d0 d1 d2 d3 d4 d5 d6 d7 : Int) : World := ((((((((((((((((((((((((w).setCell ⟨q, 0, none⟩ (.int .u32 i))).setCell ⟨q, 1, none⟩ (.bool x))).setCell ⟨q, 2, none⟩ (.bool r))).setCell ⟨q, 3, none⟩ (.int .i64 n))).setCell ⟨q, 4, none⟩ (.int .u8 d0))).setCell ⟨q, 5, none⟩ (.int .u8 d1))).setCell ⟨q, 6, none⟩ (.int .u8 d2))).setCell ⟨q, 7, none⟩ (.int .u8 d3))).setCell ⟨q, 8, none⟩ (.int .u8 d4))).setCell ⟨q, 9, none⟩ (.int .u8 d5))).setCell ⟨q, 10, none⟩ (.int .u8 d6))).setCell ⟨q, 11, none⟩ (.int .u8 d7))
theorem Ns.filled {q : Nat} {f : Fr} {m e : Int} {w : World} (i : Int) (x r : Bool) (n d0 d1 d2 d3 d4 d5 d6 d7 : Int) (hA : f.arr = #[.int .u32 i, .bool x, .bool r, .int .i64 n, .int .u8 d0, .int .u8 d1, .int .u8 d2, .int .u8 d3, .int .u8 d4, .int .u8 d5, .int .u8 d6, .int .u8 d7]) (h : Ns q f m e w) : Ns q f m e (fill w q i x r n d0 d1 d2 d3 d4 d5 d6 d7) := by
  obtain ⟨h0, h1, h2⟩ := h
  unfold Fa at h0
  rw [hA] at h0
  have o : ∀ (V : World) (p : Addr) (v : Value) (k : Nat), k ≠ p.block → (V.setCell p v).heap[k]? = V.heap[k]? := fun V p v k hk => Below.heap_setCell V p v k hk
  have ee : (((((((((((((((((((((((((#[.int .u32 i, .bool x, .bool r, .int .i64 n, .int .u8 d0, .int .u8 d1, .int .u8 d2, .int .u8 d3, .int .u8 d4, .int .u8 d5, .int .u8 d6, .int .u8 d7] : Array Value)).setIfInBounds 0 (.int .u32 i))).setIfInBounds 1 (.bool x))).setIfInBounds 2 (.bool r))).setIfInBounds 3 (.int .i64 n))).setIfInBounds 4 (.int .u8 d0))).setIfInBounds 5 (.int .u8 d1))).setIfInBounds 6 (.int .u8 d2))).setIfInBounds 7 (.int .u8 d3))).setIfInBounds 8 (.int .u8 d4))).setIfInBounds 9 (.int .u8 d5))).setIfInBounds 10 (.int .u8 d6))).setIfInBounds 11 (.int .u8 d7)) = #[.int .u32 i, .bool x, .bool r, .int .i64 n, .int .u8 d0, .int .u8 d1, .int .u8 d2, .int .u8 d3, .int .u8 d4, .int .u8 d5, .int .u8 d6, .int .u8 d7] := by simp
  have g := (heap_set (i := 11) (heap_set (i := 10) (heap_set (i := 9) (heap_set (i := 8) (heap_set (i := 7) (heap_set (i := 6) (heap_set (i := 5) (heap_set (i := 4) (heap_set (i := 3) (heap_set (i := 2) (heap_set (i := 1) (heap_set (i := 0) h0 (.int .u32 i)) (.bool x)) (.bool r)) (.int .i64 n)) (.int .u8 d0)) (.int .u8 d1)) (.int .u8 d2)) (.int .u8 d3)) (.int .u8 d4)) (.int .u8 d5)) (.int .u8 d6)) (.int .u8 d7))
  rw [ee, ← hA] at g
  refine ⟨g, ?_, ?_⟩
  · unfold fill
    rw [o _ _ _ _ (by simp), o _ _ _ _ (by simp), o _ _ _ _ (by simp), o _ _ _ _ (by simp), o _ _ _ _ (by simp), o _ _ _ _ (by simp), o _ _ _ _ (by simp), o _ _ _ _ (by simp), o _ _ _ _ (by simp), o _ _ _ _ (by simp), o _ _ _ _ (by simp), o _ _ _ _ (by simp)]
    exact h1
  · unfold fill
    rw [o _ _ _ _ (by simp), o _ _ _ _ (by simp), o _ _ _ _ (by simp), o _ _ _ _ (by simp), o _ _ _ _ (by simp), o _ _ _ _ (by simp), o _ _ _ _ (by simp), o _ _ _ _ (by simp), o _ _ _ _ (by simp), o _ _ _ _ (by simp), o _ _ _ _ (by simp), o _ _ _ _ (by simp)]
    exact h2
theorem below_fill {B q : Nat} {a w : World} (i : Int) (x r : Bool) (n d0 d1 d2 d3 d4 d5 d6 d7 : Int) (h : Below B a w) (hq : B ≤ q) : Below B a (fill w q i x r n d0 d1 d2 d3 d4 d5 d6 d7) :=
  ((((((((((((h.setCell (p := ⟨q, 0, none⟩) hq _).setCell (p := ⟨q, 1, none⟩) hq _).setCell (p := ⟨q, 2, none⟩) hq _).setCell (p := ⟨q, 3, none⟩) hq _).setCell (p := ⟨q, 4, none⟩) hq _).setCell (p := ⟨q, 5, none⟩) hq _).setCell (p := ⟨q, 6, none⟩) hq _).setCell (p := ⟨q, 7, none⟩) hq _).setCell (p := ⟨q, 8, none⟩) hq _).setCell (p := ⟨q, 9, none⟩) hq _).setCell (p := ⟨q, 10, none⟩) hq _).setCell (p := ⟨q, 11, none⟩) hq _)

set_option maxHeartbeats 4000000 in
theorem Decode_ok (t : List UInt8) (w : World) (h0 : err t = 0) :
    Calls Try.prog 8 #[.string ⟨t.toArray⟩] w fun e w' => e = .returned (decV t) ∧ Below w.heap.size w w' := by
  have hmf : ∀ (fn : Fn) (first cap : Array Value) (w : World), (Instr.makeFunc fn first cap).run Try.prog w = .ok (.func fn first cap) w := fun _ _ _ _ => rfl
  obtain ⟨ht, hall⟩ := err_zero h0
  have HF : Hid (decF t = match decS t with | .error _ => Fr.nul | .ok (f, _) => toldF f) := by show decF t = _; rw [decF, if_pos h0]
  have HNN : Hid (decN t = match decS t with | .error f => (f.1 : Int) | .ok (_, s) => (s.pos : Int)) := by show decN t = _; rw [decN, if_pos h0]
  have HE : Hid (decE t = match decS t with | .error f => f.2 | .ok _ => 0) := by show decE t = _; rw [decE, if_pos h0]
  have HL : ∀ W, Calls Try.prog 19 #[.string ⟨t.toArray⟩] W fun e w' => e = .returned (.int .i64 0) ∧ Below W.heap.size W w' := fun W => h0 ▸ flook_any ⟨t.toArray⟩ W
  unfold decV
  generalize decF t = F at *
  generalize decN t = N at *
  generalize decE t = E at *
  have hN := Ns.new w
  have hBl : Below w.heap.size w (((w.alloc (.cells Fr.nul.arr 33)).alloc (.cells #[.int .i64 0] 3)).alloc (.cells #[.int .i64 0] 28)) := (((Below.refl _ _).alloc (Nat.le_refl _) _).alloc (by rw [size_alloc]; omega) _).alloc (by rw [size_alloc, size_alloc]; omega) _
  clear h0
  go_enter_defers Try.func8, Try.ntmps8
  go_wp2_with fail
  change Calls Try.prog 19 _ (((w.alloc (.cells Fr.nul.arr 33)).alloc (.cells #[.int .i64 0] 3)).alloc (.cells #[.int .i64 0] 28)) _
  generalize (((w.alloc (.cells Fr.nul.arr 33)).alloc (.cells #[.int .i64 0] 3)).alloc (.cells #[.int .i64 0] 28)) = W at *
  refine (HL _).mono ?_
  rintro e w1 ⟨rfl, b1⟩
  have hl := hN.lt
  have N1 := hN.below b1 hl
  have B1 := hBl.trans (b1.mono (by omega))
  have s1 := b1.size
  generalize hq : w.heap.size = q at *
  clear hN hBl b1 HL
  go_wp2_with fail
  have hR := Rd.new t w1
  have lt1 := N1.lt
  have N2 : Ns q Fr.nul 0 0 (w1.alloc (.cells #[.string ⟨t.toArray⟩, .int .i64 0, .int .u8 0, .int .i64 0, .pointer none, .slice none 0 0] 64)) := N1.below ((Below.refl w1.heap.size w1).alloc (Nat.le_refl _) _) lt1
  have B2 : Below q w (w1.alloc (.cells #[.string ⟨t.toArray⟩, .int .i64 0, .int .u8 0, .int .i64 0, .pointer none, .slice none 0 0] 64)) := B1.alloc (by omega) _
  generalize hW2 : w1.alloc (.cells #[.string ⟨t.toArray⟩, .int .i64 0, .int .u8 0, .int .i64 0, .pointer none, .slice none 0 0] 64) = W2 at *
  generalize w1.heap.size = g at *
  clear hW2
  refine (body_any ht hall hR (by decide) rfl).mono ?_
  intro e w2 hP
  have HD : Hid (bindR (bodyS t) (fun f => bindR (endS t) fun _ => retR f) Bits.start = decS t) := rfl
  generalize hr : decS t = r at *
  rcases hP.cases (enc' := toldV) HD.out (Kp.refl _ _) with ⟨f, rfl, hG⟩ | ⟨a, s2, rfl, e2, HR2, h2, b2, k2⟩
  · have hre := PostR.which hG
    subst hre
    obtain ⟨_, hK⟩ := hG.error
    have N3 := N2.below hK.1 (by omega)
    have B3 := B2.trans (hK.1.mono (by omega))
    refine leaves_cons (f := 20) (args := #[.pointer (some ⟨q, 0, none⟩), .pointer (some ⟨q + 1, 0, none⟩), .pointer (some ⟨q + 2, 0, none⟩)]) (by simp) (by simp [go_sem]) ?_
    refine (catch_fault q _ _ _ f w2 N3).mono ?_
    rintro e u' w3 ⟨rfl, rfl, N4, B4⟩
    exact ⟨_, N4.results _ rfl rfl rfl, by rw [HF.out, HNN.out, HE.out], by rw [hq]; exact B3.trans B4⟩
  · have N3 := N2.below b2.1 (by omega)
    have B3 := B2.trans (b2.1.mono (by omega))
    have N4 := N3.row (toldF a)
    have h3 : Rd t s2 g (w2.setRow q (toldF a).arr) := h2.rows N3.1 (by omega)
    have B4 := below_row (q := q) B3 (Nat.le_refl _) (by have := N3.lt; omega) (toldF a).arr
    have f3 := N3.1
    unfold toldV Fr.val
    clear hP b2 k2 h2 N3 B3 N2 B2 N1 B1 hR e2
    go_wp2_with (refine f3.sd (toldF a) rfl _ _ rfl rfl rfl ?_)
    refine (end_any ht h3 rfl).mono ?_
    intro e w4 hP
    rcases hP.cases (enc' := toldV) HR2.out (Kp.refl _ _) with ⟨f, rfl, hG⟩ | ⟨_, s4, rfl, e4, HR4, h4, b4, k4⟩
    · have hre := PostR.which hG
      subst hre
      obtain ⟨_, hK⟩ := hG.error
      have N5 := N4.below hK.1 (by omega)
      have B5 := B4.trans (hK.1.mono (by omega))
      refine leaves_cons (f := 20) (args := #[.pointer (some ⟨q, 0, none⟩), .pointer (some ⟨q + 1, 0, none⟩), .pointer (some ⟨q + 2, 0, none⟩)]) (by simp) (by simp [go_sem]) ?_
      refine (catch_fault q _ _ _ f w4 N5).mono ?_
      rintro e u' w5 ⟨rfl, rfl, N6, B6⟩
      exact ⟨_, N6.results _ rfl rfl rfl, by rw [HF.out, HNN.out, HE.out], by rw [hq]; exact B5.trans B6⟩
    · have N5 := N4.below b4.1 (by omega)
      have B5 := B4.trans (b4.1.mono (by omega))
      have HR4 : Hid (r = .ok (a, s4)) := HR4.out.symm
      obtain ⟨d0, d1, d2, d3, df⟩ := h4.cells
      have f5 := N5.1
      obtain ⟨i, x, r', n, d0', d1', d2', d3', d4', d5', d6', d7', hL⟩ := arr_full (toldF a)
      have N6 := ((N5.filled i x r' n d0' d1' d2' d3' d4' d5' d6' d7' hL).setN s4.pos).setE 0
      have B6 : Below q w (((fill w4 q i x r' n d0' d1' d2' d3' d4' d5' d6' d7').setCell ⟨q + 1, 0, none⟩ (.int .i64 s4.pos)).setCell ⟨q + 2, 0, none⟩ (.int .i64 0)) := ((below_fill i x r' n d0' d1' d2' d3' d4' d5' d6' d7' B5 (Nat.le_refl _)).setCell (p := ⟨q + 1, 0, none⟩) (by simp) _).setCell (p := ⟨q + 2, 0, none⟩) (by simp) _
      have N7 := N6.drew
      have B7 := B6.drew
      have cn := N5.cn
      have ce := N5.ce
      have zn := N5.zn
      have ze := N5.ze
      unfold Fa at f5
      rw [hL] at f5
      have x0 : w4.cell? ⟨q, 0, none⟩ = some (.int .u32 i) := Lib.cell_of_heap f5 0
      have x1 : w4.cell? ⟨q, 1, none⟩ = some (.bool x) := Lib.cell_of_heap f5 1
      have x2 : w4.cell? ⟨q, 2, none⟩ = some (.bool r') := Lib.cell_of_heap f5 2
      have x3 : w4.cell? ⟨q, 3, none⟩ = some (.int .i64 n) := Lib.cell_of_heap f5 3
      have x4 : w4.cell? ⟨q, 4, none⟩ = some (.int .u8 d0') := Lib.cell_of_heap f5 4
      have x5 : w4.cell? ⟨q, 5, none⟩ = some (.int .u8 d1') := Lib.cell_of_heap f5 5
      have x6 : w4.cell? ⟨q, 6, none⟩ = some (.int .u8 d2') := Lib.cell_of_heap f5 6
      have x7 : w4.cell? ⟨q, 7, none⟩ = some (.int .u8 d3') := Lib.cell_of_heap f5 7
      have x8 : w4.cell? ⟨q, 8, none⟩ = some (.int .u8 d4') := Lib.cell_of_heap f5 8
      have x9 : w4.cell? ⟨q, 9, none⟩ = some (.int .u8 d5') := Lib.cell_of_heap f5 9
      have x10 : w4.cell? ⟨q, 10, none⟩ = some (.int .u8 d6') := Lib.cell_of_heap f5 10
      have x11 : w4.cell? ⟨q, 11, none⟩ = some (.int .u8 d7') := Lib.cell_of_heap f5 11
      have zz : ∀ j, w4.frozen? ⟨q, j, none⟩ = false := fun j => Lib.frozen_of_heap f5 j
      have hkq : g ≠ q := by omega
      have hkq' : q ≠ g := by omega
      have hN7 : Hid (Ns q (toldF a) s4.pos 0 (((fill w4 q i x r' n d0' d1' d2' d3' d4' d5' d6' d7').setCell ⟨q + 1, 0, none⟩ (.int .i64 s4.pos)).setCell ⟨q + 2, 0, none⟩ (.int .i64 0)).drew) := N7
      have hB7 : Hid (Below q w (((fill w4 q i x r' n d0' d1' d2' d3' d4' d5' d6' d7').setCell ⟨q + 1, 0, none⟩ (.int .i64 s4.pos)).setCell ⟨q + 2, 0, none⟩ (.int .i64 0)).drew) := B7
      unfold unitV
      clear hP b4 k4 N4 B4 h3 f3 e4 HR2 d0 d2 d3 df N5 N6 B6 f5 N7 B7 hL
      go_wp2_with fail
      go_region
      unfold fill at hN7 hB7
      go_wp2
      refine leaves_cons (f := 20) (args := #[.pointer (some ⟨q, 0, none⟩), .pointer (some ⟨q + 1, 0, none⟩), .pointer (some ⟨q + 2, 0, none⟩)]) (by simp) (by simp [go_sem]) ?_
      refine (catch_idle q _).mono ?_
      rintro e u' w8 ⟨rfl, rfl, b8⟩
      have N8 := hN7.out.below b8 hN7.out.lt
      have l8 := hN7.out.lt
      refine ⟨_, N8.results _ rfl rfl rfl, ?_, by rw [hq]; exact hB7.out.trans (b8.mono (Nat.le_trans (by omega : q ≤ q + 2) (Nat.le_of_lt l8)))⟩
      rw [HF.out, HNN.out, HE.out, HR4.out]

theorem Decode_any (t : List UInt8) (w : World) :
    Calls Try.prog 8 #[.string ⟨t.toArray⟩] w fun e w' => e = .returned (decV t) ∧ Below w.heap.size w w' := by
  by_cases h0 : err t = 0
  · exact Decode_ok t w h0
  · refine (Decode_bad ⟨t.toArray⟩ w h0).mono ?_
    rintro e w1 ⟨rfl, b1⟩
    refine ⟨?_, b1⟩
    simp only [decV, decF, decN, decE, if_neg h0]
end Go.Proofs.Ytffajokpfobalaa
