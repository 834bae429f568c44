/- The program's watcher in memory; where a node is. -/
import Derived.Test.YtceomfefffngaaaBwA
import Derived.Test.YtceomfefffngaaaDwX
namespace Go.Proofs.Ytceomfefffngaaa
open Go.RowKit
set_option linter.unusedVariables false
set_option maxRecDepth 1000000
set_option linter.unusedSimpArgs false
structure Wa (g : Nat) (v : Value) (l : List Wt) (w : World) : Prop where
  blk : Bc 81 g #[v] w
  row : w.ownsRow 0 84 6 v l.length (flatW DW l)
theorem ty_wd : (84 : Nat) ≠ 81 := by decide
section
variable {g : Nat} {v : Value} {l : List Wt} {w x : World}
theorem Wa.cell (h : Wa g v l w) : w.cell? ⟨g, 0, none⟩ = some v ∧ w.frozen? ⟨g, 0, none⟩ = false := ⟨h.blk.cell 0, h.blk.frozen 0⟩
theorem Wa.ne (h : Wa g v l w) : ∀ k, v.ownBlock = some k → k ≠ g := fun k hk e => by
  obtain ⟨_, cur, hc⟩ := own_of h.row hk
  have := h.blk
  unfold Bc at this
  rw [← e, hc] at this
  simp at this
theorem Wa.wide (h : Wa g v l w) : Wide 6 Wt.cs w v l := wide_of_own DW h.row
theorem Wa.shape (h : Wa g v l w) : ∃ ao cap, v = .slice ao l.length cap := own_shape5 h.row
theorem Wa.kq {P : Nat → Prop} (h : Wa g v l w) (t : Kq P w x) (h1 : ¬ P g) (h2 : ∀ k, v.ownBlock = some k → ¬ P k) : Wa g v l x := ⟨h.blk.kq t h1, own_kq h.row t h2⟩
theorem Wa.below (h : Wa g v l w) (t : Below w.heap.size w x) : Wa g v l x := h.kq (P := fun _ => False) (.of_below t) (fun h => h) (fun _ _ h => h)
theorem Wa.drawn (h : Wa g v l w) (n : Nat) : Wa g v l (w.drewN n) := h.kq (P := fun _ => False) ((Kq.refl _ _).drawn n) (fun h => h) (fun _ _ h => h)
end
theorem Wt.ld {w : World} {b o : Nat} {a : Wt} {ops : Array Oper} {rest : List Oper} {p : Oper} {f : Act} {Q : Exit → Act → World → Prop} (h : w.rangeAt b o a.cs) (hgd : p.guard = none) (x : Operand) (ho : p.op = .load 84 x) (hx : f.eval x = .pointer (some ⟨b, o, none⟩))
    (hh : wpList Try.prog ops Q rest (f.put p.dst (.agg a.arr)) w) : wpList Try.prog ops Q (p :: rest) f w :=
  wpList_load_mid hgd 84 x ho b o hx a.cs _ h Try.underlying84 rfl infoWd1 hh
theorem place1_any (x : Wt) (q : Nat) (c : Int) (w : World) (hq : w.cell? ⟨q, 0, none⟩ = some (.int .i64 c)) (hlt : q < w.heap.size) : Calls Try.prog 39 #[.agg x.arr, .pointer (some ⟨q, 0, none⟩)] w fun e w' => e = .returned (.bool (decide (x.nd = c))) ∧ Below w.heap.size w w' := by
  obtain ⟨p, hp⟩ : ∃ p, w.heap.size = p := ⟨_, rfl⟩
  obtain ⟨W, hW⟩ : ∃ x', w.alloc (.cells x.arr 84) = x' := ⟨_, rfl⟩
  have B : Bc 84 p x.arr W := by rw [← hW, ← hp]; exact heap_alloc_new w _
  have hb : Below w.heap.size w W := by rw [← hW]; exact (Below.refl _ _).alloc (Nat.le_refl _) _
  have HB := hidOf2 hb
  have c0 : W.cell? ⟨p, 0, none⟩ = some (.int .i64 x.nd) := B.cell 0
  have c1 : W.cell? ⟨q, 0, none⟩ = some (.int .i64 c) := (hb.cell (p := ⟨q, 0, none⟩) hlt).trans hq
  have hd : decide (x.nd = c) = (x.nd == c) := by
    rw [Bool.eq_iff_iff]
    simp only [decide_eq_true_eq, beq_iff_eq]
  rw [hd]
  rw [hp] at HB
  generalize x.nd = X at *
  generalize x.arr = A at *
  clear B hb hd hlt hq
  go_enter Try.func39, Try.ntmps39
  go_wp2
  go_ret
  exact ⟨rfl, by rw [hp]; exact HB.out⟩
theorem enterPl : ∀ args x, (callFunc 39 args).run Try.prog x = .ok (.enter 39 args) x := fun _ _ => by rfl
theorem idxw_any (v : Value) (l : List Wt) (q : Nat) (c : Int) (w : World) (hB : Wide 6 Wt.cs w v l) (hl : l.length ≤ 2305843009213693951) (hq : w.cell? ⟨q, 0, none⟩ = some (.int .i64 c)) (hlt : q < w.heap.size) :
    Calls Try.prog 38 #[v, .func (.func 39) #[] #[.pointer (some ⟨q, 0, none⟩)]] w fun e w' => e = .returned (.int .i64 (ixw l c)) ∧ Below w.heap.size w w' := by
  obtain ⟨ao, cap, rfl, _, hc⟩ := hB
  obtain ⟨p, hp⟩ : ∃ p, w.heap.size = p := ⟨_, rfl⟩
  have HC : Hid (∀ (wr : World), Below w.heap.size w wr → ∀ k (hk : k < l.length), ∃ b off, ao = some ⟨b, off, none⟩ ∧ b < w.heap.size ∧ wr.rangeAt b (off + k * 6) (Wt.cs l[k])) := fun wr hb k hk => Wide.at hc hb k hk
  have HF : Hid (∀ (x : Wt) (y : World), Below p w y → Calls Try.prog 39 #[.agg x.arr, .pointer (some ⟨q, 0, none⟩)] y fun e w' => e = .returned (.bool (decide (x.nd = c))) ∧ Below y.heap.size y w') := fun x y hy => place1_any x q c y ((by rw [← hp] at hy; exact (hy.cell (p := ⟨q, 0, none⟩) hlt).trans hq)) (by have := hy.size; omega)
  clear hc hq hlt
  have hen := enterPl
  rw [hp] at HC ⊢
  have HI : Hid (Below p w w) := Below.refl _ _
  go_enter Try.func38, Try.ntmps38
  go_wp2_with fail
  go_loopw [5, 8] (fun _ s8 x => ∃ k, k ≤ l.length ∧ s8 = .int .i64 (k : Nat) ∧ Below p w x ∧ ∀ j (hj : j < l.length), j < k → l[j].nd ≠ c) (fun _ s8 _ => l.length - (intOf s8).toNat)
  case atStart => exact ⟨0, by omega, rfl, HI.out, fun j _ h => absurd h (by omega)⟩
  case round =>
    clear HI
    obtain ⟨k, hk, rfl, hb, hn⟩ := hrel
    have HN := hidOf2 hn
    have HBw := hidOf2 hb
    clear hn
    by_cases hkl : k < l.length
    · have hd : decide ((k : Int) < (l.length : Int)) = true := by simp; omega
      obtain ⟨b, off, rfl, hbl, hR⟩ := HC.out wr hb k hkl
      have hf := HF.out l[k] wr hb
      have HK := hidOf2 (show ∀ z : Wt, l[k] = z → (∀ j (hj : j < l.length), j < k → l[j].nd ≠ c) ∧ (z.nd = c → ixw l c = k) ∧ (z.nd ≠ c → ∀ j (hj : j < l.length), j < k + 1 → l[j].nd ≠ c) from fun z hz => ⟨HN.out, fun h => fw_hit l c k hkl (by rw [hz]; exact h) (fun j hj => HN.out j (by omega) hj), fun h j hj hjk => by
        rcases Nat.lt_succ_iff_lt_or_eq.1 hjk with h1 | rfl
        · exact HN.out j hj h1
        · rw [hz]; exact h⟩)
      obtain ⟨z, hz⟩ : ∃ z, l[k] = z := ⟨_, rfl⟩
      have HK2 := hidOf2 (HK.out z hz)
      rw [hz] at hf hR
      clear HK hz HN HC HF hb
      by_cases hcz : z.nd = c
      · rw [decide_eq_true hcz] at hf
        have HE := hidOf2 (HK2.out.2.1 hcz)
        clear HK2 hcz
        go_wp2_with (first | (refine Wt.ld hR rfl _ rfl rfl ?_) | (go_at_call 39; refine hf.mono ?_; rintro e w' ⟨rfl, hb2⟩))
        go_ret
        exact ⟨ret_int (by rw [HE.out]), HBw.out.trans (hb2.mono (by have := HBw.out.size; omega))⟩
      · rw [decide_eq_false hcz] at hf
        have HE := hidOf2 (HK2.out.2.2 hcz)
        clear HK2 hcz
        go_wp2_with (first | (refine Wt.ld hR rfl _ rfl rfl ?_) | (go_at_call 39; refine hf.mono ?_; rintro e w' ⟨rfl, hb2⟩))
        go_roundw
        case measure => simp [intOf]; omega
        case rel => exact ⟨k + 1, by omega, rfl, HBw.out.trans (hb2.mono (by have := HBw.out.size; omega)), HE.out⟩
    · obtain rfl : k = l.length := by omega
      have hd : decide ((l.length : Int) < (l.length : Int)) = false := by simp
      have HE := hidOf2 (fw_miss l c (fun j hj => HN.out j hj hj))
      clear HN
      go_wp2
      go_ret
      exact ⟨ret_int (by rw [HE.out]), HBw.out⟩
theorem hmfW : ∀ (fn : Fn) (first cap : Array Value) (w : World), (Instr.makeFunc fn first cap).run Try.prog w = .ok (.func fn first cap) w := fun _ _ _ _ => rfl
section
variable {g : Nat} {v : Value} {l : List Wt} {w : World}
theorem place_any (h : Wa g v l w) (hl : l.length ≤ 2305843009213693951) (c : Int) : Calls Try.prog 29 #[.pointer (some ⟨g, 0, none⟩), .int .i64 c] w fun e w' => e = .returned (.int .i64 (ixw l c)) ∧ Below w.heap.size w w' := by
  obtain ⟨p, hp⟩ : ∃ p, w.heap.size = p := ⟨_, rfl⟩
  obtain ⟨W, hW⟩ : ∃ x', w.alloc (.cells #[.int .i64 c] 3) = x' := ⟨_, rfl⟩
  have B : Bc 3 p #[.int .i64 c] W := by rw [← hW, ← hp]; exact heap_alloc_new w _
  have hb : Below w.heap.size w W := by rw [← hW]; exact (Below.refl _ _).alloc (Nat.le_refl _) _
  have H := h.below hb
  have hI := idxw_any v l p c W H.wide hl (B.cell 0) B.lt
  have d2 : W.cell? ⟨g, 0, none⟩ = some v := H.cell.1
  have HB := hidOf2 hb
  have hm := hmfW
  obtain ⟨ao, cap, hv⟩ := h.shape
  subst hv
  generalize ixw l c = I at *
  generalize l.length = n at *
  clear B H hb h
  go_enter Try.func29, Try.ntmps29
  go_wp2_with (go_at_call 38; refine hI.mono ?_; rintro e w' ⟨rfl, hb2⟩)
  go_ret
  exact ⟨rfl, HB.out.trans (hb2.mono HB.out.size)⟩
end
end Go.Proofs.Ytceomfefffngaaa
