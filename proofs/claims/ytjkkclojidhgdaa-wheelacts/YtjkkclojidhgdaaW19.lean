/- The small living call of a wheel. -/
import Derived.Test.YtjkkclojidhgdaaW18
namespace Go.Proofs.Ytjkkclojidhgdaa
open Go.RowKit Go.Maps Go.WideMaps
set_option linter.unusedVariables false
set_option maxRecDepth 1000000
set_option linter.unusedSimpArgs false
theorem fold_len (now : Nat) : ∀ (l ts : List Tm), (l.foldl (run1 now) ts).length ≤ ts.length
  | [], _ => Nat.le_refl _
  | t :: r, ts => Nat.le_trans (fold_len now r (run1 now ts t)) (run1_len now ts t)
theorem tkT_len (now : Nat) (ts : List Tm) : ∀ c, (tkT c now ts).length ≤ ts.length
  | 0 => Nat.le_refl _
  | c + 1 => Nat.le_trans (fold_len _ _ _) (tkT_len now ts c)
theorem tkW_len (now : Nat) (ts : List Tm) : ∀ c, (tkW c now ts).length ≤ c * ts.length
  | 0 => Nat.zero_le _
  | c + 1 => by
    have h1 := tkW_len now ts c
    have h2 : (outs (now + c + 1) (tkT c now ts)).length ≤ ts.length := Nat.le_trans (List.length_filter_le _ _) (tkT_len now ts c)
    show (tkW c now ts ++ (outs (now + c + 1) (tkT c now ts)).map (·.what)).length ≤ _
    rw [List.length_append, List.length_map, Nat.succ_mul]
    omega
theorem kw_below {O : Nat → Prop} {w x y : World} (hb : Below w.heap.size w x) (h : Kw O x y) (hO : ∀ k, k < w.heap.size → ¬ O k) : Below w.heap.size w y :=
  ⟨h.os.trans hb.os, h.tape.trans hb.tape, h.output.trans hb.output, Nat.le_trans hb.size h.size, fun k hk => (h.keep k (Nat.lt_of_lt_of_le hk hb.size) (hO k hk)).trans (hb.block k hk)⟩
theorem row_three (w : World) (x y z : Int) : (w.alloc (.cells #[.int .i64 x, .int .i64 y, .int .i64 z] 3)).ownsRow w.heap.size 3 1 (.slice (some ⟨w.heap.size, 0, none⟩) 3 3) 3 ([x, y, z].map (Value.int .i64)) :=
  ⟨rfl, .inr ⟨w.heap.size, 3, _, rfl, Nat.le_refl _, heap_alloc_new w _, Nat.le_refl _, by unfold maxLen; omega, rfl, rfl⟩⟩
def lv6 (b1 b2 : Nat) : List Tm := [⟨1, 3, 0, 7, b1⟩, ⟨2, 1, 2, 5, b2⟩]
theorem lv6_W (b1 b2 : Nat) : tkW 4 0 (lv6 b1 b2) = [5, 7, 5] := by simp [tkW, tkT, aft, outs, run1, without, replT, nextDue, lv6]
theorem lv6_T (b1 b2 : Nat) : tkT 4 0 (lv6 b1 b2) = [⟨2, 5, 2, 5, b2⟩] := by simp [tkW, tkT, aft, outs, run1, without, replT, nextDue, lv6, List.filter]
theorem lv6_good {b1 b2 : Nat} (h : b1 ≠ b2) : Good 0 (lv6 b1 b2) := by
  refine ⟨?_, by simp [lv6], ?_⟩
  · intro a ha b hb e
    simp [lv6] at ha hb
    rcases ha with rfl | rfl <;> rcases hb with rfl | rfl <;> simp at e ⊢ <;> omega
  · intro t ht
    simp [lv6] at ht
    rcases ht with rfl | rfl <;> simp
set_option maxHeartbeats 4000000 in
theorem lives6_any (w : World) : Calls Try.prog 8 #[] w fun e w' => e = .returned (.bool true) ∧ Below w.heap.size w w' := by
  have hN : Calls Try.prog 7 #[.int .i64 3] w _ := New_any 3 (by omega) (by omega) w
  go_enter Try.func8, Try.ntmps8
  go_wp2_with fail
  refine hN.mono ?_
  rintro e w1 ⟨g, bt, S, rfl, l1, l2, l3, h1, b1⟩
  clear hN
  have hA : Calls Try.prog 13 #[.pointer (some ⟨g, 0, none⟩), .int .u64 3, .int .i64 7] w1 _ := Add_ok h1 3 7 (by omega) (by decide) (by omega)
  clear h1
  go_wp2_with fail
  refine hA.mono ?_
  rintro e w2 ⟨rfl, sm2, h2, k2, m2⟩
  clear hA
  have hbk : w1.heap.size < w2.heap.size := (Array.getElem?_eq_some_iff.1 (h2.rts _ (List.mem_append_right _ (List.mem_singleton.2 rfl)))).1
  have hV : Calls Try.prog 14 #[.pointer (some ⟨g, 0, none⟩), .int .u64 1, .int .u64 2, .int .i64 5] w2 _ := Every_ok h2 1 2 5 (by omega) (by omega) (by simp) (by omega)
  have b2 : Below w.heap.size w w2 := kw_below b1 k2 (fun k hk e => by
    rcases e with e | e | e | ⟨i, hi, e⟩
    · omega
    · omega
    · omega
    · cases e)
  have s1 := b1.size
  clear h2 k2
  go_wp2_with fail
  refine hV.mono ?_
  rintro e w3 ⟨rfl, sm3, h3, k3, m3⟩
  clear hV
  have b3 : Below w.heap.size w w3 := kw_below b2 k3 (fun k hk e => by
    rcases e with e | e | e | ⟨i, hi, e⟩
    · omega
    · omega
    · omega
    · rcases m2 i k hi e with e | e
      · cases e
      · omega)
  have hW3 : Wh g 0 2 3 (lv6 w1.heap.size w2.heap.size) (lv6 w1.heap.size w2.heap.size) bt S sm3 w3 := h3
  have hTk : Calls Try.prog 18 #[.pointer (some ⟨g, 0, none⟩), .int .u64 4] w3 _ := Tick_calm hW3 (lv6_good (by omega)) 4 (by omega) (by omega) (fun c hc => by
    have h9 := tkW_len 0 (lv6 w1.heap.size w2.heap.size) c
    have h8 : (lv6 w1.heap.size w2.heap.size).length = 2 := rfl
    rw [h8] at h9
    omega)
  have s2 := b2.size
  have s3 := b3.size
  clear h3 k3
  go_wp2_with fail
  refine hTk.mono ?_
  rintro e w4 ⟨tv4, sm4, rfl, T4⟩
  have r4 := T4.row
  rw [lv6_W] at r4
  have b4 : Below w.heap.size w w4 := kw_below b3 T4.kw (fun k hk e => by
    rcases e with ((e | e | e | ⟨i, hi, e⟩) | ⟨y, hy, e⟩) | e
    · omega
    · omega
    · omega
    · rcases m3 i k hi e with e | e
      · rcases m2 i k hi e with e | e
        · cases e
        · omega
      · omega
    · simp [lv6] at hy
      rcases hy with rfl | rfl <;> simp at e <;> omega
    · cases e)
  have hW4 := T4.wh
  rw [lv6_T] at hW4
  have hSa : Calls Try.prog 17 #[tv4, .slice (some ⟨w4.heap.size, 0, none⟩) 3 3] (w4.alloc (.cells #[.int .i64 5, .int .i64 7, .int .i64 5] 3)) _ := same_row (zs := [5, 7, 5]) (ys := [5, 7, 5]) (r4.alloc _) (row_three w4 5 7 5) rfl (by simp)
  have bA : Below w4.heap.size w4 (w4.alloc (.cells #[.int .i64 5, .int .i64 7, .int .i64 5] 3)) := (Below.refl _ _).alloc (Nat.le_refl _) _
  have HY : Hid (Wh g (0 + 4) 2 3 [⟨2, 5, 2, 5, w2.heap.size⟩] [⟨2, 5, 2, 5, w2.heap.size⟩] bt S sm4 w4 ∧ Below w.heap.size w w4 ∧ Below w4.heap.size w4 (w4.alloc (.cells #[.int .i64 5, .int .i64 7, .int .i64 5] 3))) := ⟨hW4, b4, bA⟩
  clear hTk T4 r4 b4 hW4 hW3 m2 m3 b1 b2 b3 bA
  go_wp2_with fail
  refine hSa.mono ?_
  rintro e w5 ⟨rfl, b5⟩
  obtain ⟨y1, y2, y3⟩ := HY.out
  have hW5 := (y1.below y3).below b5
  have b6 : Below w.heap.size w w5 := (y2.trans (y3.mono y2.size)).trans (b5.mono (Nat.le_trans y2.size y3.size))
  have hNo := Now_any hW5
  have hLe := Len_any hW5
  clear hSa y1 y2 y3 hW5 HY b5
  go_wp2_with fail
  refine hNo.mono ?_
  rintro e w6 ⟨rfl, rfl⟩
  clear hNo
  go_wp2_with fail
  refine hLe.mono ?_
  rintro e w7 ⟨rfl, rfl⟩
  clear hLe
  go_wp2
  go_ret
  exact ⟨rfl, b6⟩
end Go.Proofs.Ytjkkclojidhgdaa
