/- lives: whether any bytes come. -/
import Derived.Test.YtebjofkblfmkmaaBkL0
import Derived.Test.YtebjofkblfmkmaaBkF2
import Derived.Test.YtebjofkblfmkmaaBkN1
import Derived.Lib.SlBytesConst
namespace Go.Proofs.Ytebjofkblfmkmaa
open Go.RowKit Go.Proofs.Ty Go.Proofs.Bits
set_option linter.unusedVariables false
set_option maxRecDepth 1000000
set_option linter.unusedSimpArgs false
def l8 : List UInt8 := [49, 50, 51, 52, 53, 54, 55, 56]
def fA : F8 := ⟨1, 49, 50, 51, 52, 53, 54, 55⟩
def fB : F8 := ⟨130, 56, 0, 0, 0, 0, 0, 0⟩
theorem blk8 : blkF l8 0 4 = [fA, fB] := by rfl
theorem bs2 {w : World} {ops : Array Oper} {rest : List Oper} {o : Oper} {a : Act} {Q : Exit → Act → World → Prop} (f g : F8) (hgd : Region.wanted o (yielded ops a.tmps) = true) (x y : Operand) (ho : o.op = .buildSlice 23 2 #[(0, x), (1, y)]) (hx : a.eval x = .agg f.arr) (hy : a.eval y = .agg g.arr)
    (h : wpList Try.prog ops Q rest (a.put o.dst (.slice (some ⟨w.heap.size, 0, none⟩) 2 2)) (w.alloc (.cells (f.c ++ g.c).toArray 30))) : wpList Try.prog ops Q (o :: rest) a w := by
  obtain ⟨i0, hi, hz0, hz1, hz2⟩ := info_parts info8
  refine BigFrame.wpList_want hgd fun K hK => ?_
  refine wp_buildSlice 23 30 2 _ ho (f.c ++ g.c).toArray i0 _ Try.underlying23 hi hz0 (by rw [hz1]; decide) (by rw [hz1]; decide) ?_ (hK _ _ h)
  rw [hz1]
  have := Go.Great.fill_whole (by decide : 0 < 8) [Value.agg f.arr, Value.agg g.arr] ((Array.range (2 * 8)).map ((Value.agg zA8).cells[· % (Value.agg zA8).cells.size]!)) (by intro v hv; simp at hv; rcases hv with rfl | rfl <;> rfl) (by simp)
  simpa [hx, hy, Value.cells, F8.arr] using this
theorem Lf.two (w : World) (f g : F8) : Lf w.heap.size (w.alloc (.cells (f.c ++ g.c).toArray 30)) (.slice (some ⟨w.heap.size, 0, none⟩) 2 2) [f, g] := by
  refine ⟨⟨⟨some ⟨w.heap.size, 0, none⟩, 2, rfl, (fun h => by cases h), fun k hk => ⟨w.heap.size, 0, rfl, by rw [size_alloc]; omega, ?_⟩⟩, fun b e => by cases e; exact ⟨_, _, heap_alloc_new w _⟩, fun ao n k e => by cases e; exact Nat.le_refl _⟩, fun b e => by cases e; exact Nat.le_refl _⟩
  intro j v hj
  have hjl : j < 8 := by
    have := (List.getElem?_eq_some_iff.1 hj).1
    exact this
  rw [Lib.cell_of_heap (heap_alloc_new w _)]
  match k, hk with
  | 0, _ =>
    rw [List.getElem?_toArray, List.getElem?_append_left (by show _ < 8; omega)]
    simpa using hj
  | 1, _ =>
    rw [List.getElem?_toArray, List.getElem?_append_right (by show 8 ≤ _; omega)]
    rw [show 0 + 1 * 8 + j - f.c.length = j by show 0 + 1 * 8 + j - 8 = j; omega]
    simpa using hj
def c8 : Array Value := #[.int .u8 49, .int .u8 50, .int .u8 51, .int .u8 52, .int .u8 53, .int .u8 54, .int .u8 55, .int .u8 56]
set_option maxHeartbeats 8000000 in
theorem lives12_any (w : World) : Calls Try.prog 7 #[] w fun e w' => e = .returned (.bool true) ∧ Below w.heap.size w w' := by
  obtain ⟨WA, hWA⟩ : ∃ x, w.alloc (.cells c8 5) = x := ⟨_, rfl⟩
  obtain ⟨WB, hWB⟩ : ∃ x, w.alloc (.cells c8 5 (8, 9)) = x := ⟨_, rfl⟩
  obtain ⟨q, hq⟩ : ∃ q, w.heap.size = q := ⟨_, rfl⟩
  have hcv : (convert 22 22 (.slice (some ⟨q, 0, none⟩) 8 8)).run Try.prog WA = .ok (.slice (some ⟨q, 0, none⟩) 8 8) WB := by
    rw [← hWA, ← hWB, ← hq]
    exact Lib.run_convert_bytes_const w 22 5 c8 8 8 Try.underlying22 Try.underlying5
  have hB0 : Bytes WB (.slice (some ⟨q, 0, none⟩) 8 8) l8 := by
    have hh : WB.heap[q]? = some (.cells c8 5 (8, 9)) := by rw [← hWB, ← hq]; exact heap_alloc_new w _
    refine ⟨some ⟨q, 0, none⟩, 8, rfl, (fun h => by cases h), fun k hk => ⟨q, 0, rfl, (Array.getElem?_eq_some_iff.1 hh).1, ?_⟩⟩
    rw [Lib.cell_of_heap hh]
    have hk8 : k < 8 := hk
    match k, hk8 with
    | 0, _ => rfl
    | 1, _ => rfl
    | 2, _ => rfl
    | 3, _ => rfl
    | 4, _ => rfl
    | 5, _ => rfl
    | 6, _ => rfl
    | 7, _ => rfl
  have b0 : Below w.heap.size w WB := by rw [← hWB]; exact (Below.refl _ _).alloc (Nat.le_refl _) _
  have hN := NewSender_any _ l8 WB hB0 (by decide)
  have HB0 := hidOf2 b0
  have hl8 : l8.length = 8 := rfl
  unfold c8 at hWA
  clear hB0 b0 hWB
  go_enter Try.func7, Try.ntmps7
  go_upto_region 2 with (first | (go_at_call 6; refine hN.mono ?_; rintro e w1 ⟨S, ao, cp, rfl, s1, hS1, _, b1⟩; have HSw := hidOf2 (Nat.le_trans HB0.out.size hS1); clear hS1; have HS1 := hidOf2 s1; have HB1 := hidOf2 (HB0.out.trans (b1.mono HB0.out.size)); clear s1 b1))
  have hR := NewReceiver_any 4 (by decide) (by decide) w1
  go_upto_region 3 with (first | (go_at_call 14; refine hR.mono ?_; rintro e w2 ⟨rfl, r2, b2⟩; have hBg := sBegin_any (t := Sn.new l8) (HS1.out.below b2) 4 (by decide) (by decide); have HB2 := hidOf2 (HB1.out.trans (b2.mono HB1.out.size)); clear r2 b2))
  go_upto_region 6 with (first | (go_at_call 9; refine hBg.mono ?_; rintro e w3 ⟨v, rfl, l3, s3, k3⟩))
  have B3 := k3.below HB2.out HB2.out.size (fun b hb => by simp at hb; rw [hb]; exact HSw.out)
  rw [show (Sn.new l8).bs = l8 from rfl, blk8] at l3
  have b4 : Below w3.heap.size w3 (w3.alloc (.cells (fA.c ++ fB.c).toArray 30)) := (Below.refl _ _).alloc (Nat.le_refl _) _
  have hS := same_any (l3.below b4) (Lf.two w3 fA fB) (by simp)
  have HB4 := hidOf2 (B3.trans (b4.mono B3.size))
  obtain ⟨q4, hq4⟩ : ∃ q, w3.heap.size = q := ⟨_, rfl⟩
  rw [hq4] at hS
  clear hN hR hBg HS1 HB1 HB2 l3 s3 k3 B3 b4
  go_wp2_with (first | (refine bs2 fA fB rfl _ _ rfl rfl rfl ?_) | (go_at_call 11; refine hS.mono ?_; rintro e w5 ⟨rfl, n5, hw5⟩; rw [hw5]; clear hw5 w5))
  go_ret
  exact ⟨rfl, bdr HB4.out n5⟩
end Go.Proofs.Ytebjofkblfmkmaa
