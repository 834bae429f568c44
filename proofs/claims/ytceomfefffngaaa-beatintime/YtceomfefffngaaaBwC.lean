/- A beat of a watched node; Take. -/
import Derived.Test.YtceomfefffngaaaBwB
import Derived.Deep.RegionHeld3
import Derived.Deep.DeepCutAuto
namespace Go.Proofs.Ytceomfefffngaaa
open Go.RowKit
set_option linter.unusedVariables false
set_option maxRecDepth 1000000
set_option linter.unusedSimpArgs false
theorem isThere_at {q o : Nat} {a b : Bool} {w : World} (c1 : w.cell? ⟨q, o + 2, none⟩ = some (.bool a)) (c2 : w.cell? ⟨q, o + 3, none⟩ = some (.bool b)) : Calls Try.prog 32 #[.pointer (some ⟨q, o, none⟩)] w fun e w' => e = .returned (.bool (a && !b)) ∧ w' = w := by
  cases a
  · go_enter Try.func32, Try.ntmps32
    go_wp2
    go_ret
    exact ⟨rfl, rfl⟩
  · go_enter Try.func32, Try.ntmps32
    go_wp2
    go_ret
    exact ⟨ret_bool (by simp), rfl⟩
theorem there_is {x : Wt} (h : x.is ≤ 2) : (decide (x.is ≠ 0) && !decide (x.is = 2)) = decide (x.is = 1) := by
  rw [Bool.eq_iff_iff]
  simp
  omega
theorem isThere_x {q o : Nat} {x : Wt} {w : World} (hR : w.rangeAt q o x.cs) (h : x.is ≤ 2) : Calls Try.prog 32 #[.pointer (some ⟨q, o, none⟩)] w fun e w' => e = .returned (.bool (decide (x.is = 1))) ∧ w' = w := by
  rw [← there_is h]
  exact isThere_at (hR 2 _ rfl) (hR 3 _ rfl)
theorem Wt.cells6 {w : World} {b o : Nat} {a : Wt} (h : w.rangeAt b o a.cs) : w.cell? ⟨b, o, none⟩ = some (.int .i64 a.nd) ∧ w.cell? ⟨b, o + 1, none⟩ = some (.int .u64 a.tk) ∧ w.cell? ⟨b, o + 2, none⟩ = some (.bool (decide (a.is ≠ 0))) ∧ w.cell? ⟨b, o + 3, none⟩ = some (.bool (decide (a.is = 2))) ∧ w.cell? ⟨b, o + 4, none⟩ = some (.int .i64 a.st) ∧ w.cell? ⟨b, o + 5, none⟩ = some (.int .u64 a.si) :=
  ⟨h 0 _ rfl, h 1 _ rfl, h 2 _ rfl, h 3 _ rfl, h 4 _ rfl, h 5 _ rfl⟩
theorem Wq.ld {w : World} {b o : Nat} {n : Int} {t : Nat} {ops : Array Oper} {rest : List Oper} {p : Oper} {f : Act} {Q : Exit → Act → World → Prop} (h : w.rangeAt b o [.int .i64 n, .int .u64 t]) (hgd : p.guard = none) (x : Operand) (ho : p.op = .load 59 x) (hx : f.eval x = .pointer (some ⟨b, o, none⟩))
    (hh : wpList Try.prog ops Q rest (f.put p.dst (.agg #[.int .i64 n, .int .u64 t])) w) : wpList Try.prog ops Q (p :: rest) f w :=
  wpList_load_mid hgd 59 x ho b o hx [.int .i64 n, .int .u64 t] _ h Try.underlying59 rfl infoWq1 hh
section
variable {g q n c : Nat} {l : List Wt} {w : World}
theorem Wa.at (h : Wa g (.slice (some ⟨q, 0, none⟩) n c) l w) {k : Nat} (hk : k < l.length) : w.rangeAt q (k * 6) l[k].cs ∧ ∀ j, j < 6 → w.frozen? ⟨q, k * 6 + j, none⟩ = false :=
  ⟨own_getW DW h.row hk, fun j hj => (own_thereW DW h.row hk j hj).2⟩
theorem Wa.put (h : Wa g (.slice (some ⟨q, 0, none⟩) n c) l w) {k : Nat} (hk : k < l.length) (j : Nat) (vs : List Value) (a : Wt) (hj : j + vs.length ≤ 6)
    (hd : ∀ i, i < 6 → a.cs[i]? = if j ≤ i ∧ i < j + vs.length then vs[i - j]? else l[k].cs[i]?) : Wa g (.slice (some ⟨q, 0, none⟩) n c) (l.set k a) (w.setCells q (k * 6 + j) vs) := by
  refine ⟨?_, own_setW DW h.row hk vs a hd hj⟩
  have := h.ne q rfl
  exact (heap_cn_other (fun e => this e.symm) vs _ w).trans h.blk
theorem grown_put (w : World) (q o : Nat) (vs : List Value) : w.grownBy (w.setCells q o vs) (some q) := grown_cn ⟨rfl, rfl, rfl, Nat.le_refl _, fun _ _ _ => rfl⟩ o vs
theorem grown_all {a b : World} {r : Option Nat} (h : a.grownBy b r) (o : Obj) : a.grownBy (b.alloc o) r := ⟨h.os, h.tape, h.output, Nat.le_trans h.size (by simp), fun k hk hn => (Below.heap_alloc b o k (Nat.lt_of_lt_of_le hk h.size)).trans (h.block k hk hn)⟩
theorem grown_dr {a b : World} {r : Option Nat} (h : a.grownBy b r) (n : Nat) : a.grownBy (b.drewN n) r := ⟨h.os, h.tape, h.output, h.size, h.block⟩
theorem grown_dr0 {a b : World} {r : Option Nat} (n : Nat) (h : (a.drewN n).grownBy b r) : a.grownBy b r := ⟨h.os, h.tape, h.output, h.size, h.block⟩
end
section
variable {g q n c : Nat} {l : List Wt} {w : World}
theorem six_set (w : World) (q o : Nat) (v0 v1 v2 v3 v4 v5 : Value) : ((((((w.setCell ⟨q, o, none⟩ v0).setCell ⟨q, o + 1, none⟩ v1).setCell ⟨q, o + 2, none⟩ v2).setCell ⟨q, o + 3, none⟩ v3).setCell ⟨q, o + 4, none⟩ v4).setCell ⟨q, o + 5, none⟩ v5) = w.setCells q o [v0, v1, v2, v3, v4, v5] := rfl
/-- The six cells of a node that beats. -/
theorem Wt.beat_cs (x : Wt) (b : Nat) (hb : b ≠ 0) : (x.beat b).cs = [.int .i64 x.nd, .int .u64 x.tk, .bool true, .bool false, .int .i64 b, .int .u64 0] := by
  unfold Wt.beat
  rw [if_neg hb]
  rfl
theorem Wt.boot_cs (x : Wt) : (x.beat 0).cs = [.int .i64 x.nd, .int .u64 x.tk, .bool false, .bool false, .int .i64 0, .int .u64 0] := rfl
theorem Wa.beats (h : Wa g (.slice (some ⟨q, 0, none⟩) n c) l w) {k : Nat} (hk : k < l.length) (b : Nat) : Wa g (.slice (some ⟨q, 0, none⟩) n c) (l.set k (l[k].beat b)) (w.setCells q (k * 6) (l[k].beat b).cs) :=
  h.put hk 0 (l[k].beat b).cs _ (by simp [Wt.cs]) (fun i hi => by rw [if_pos (by simp [Wt.cs]; omega)]; rfl)
theorem news_end {w W : World} {g : Nat} {v : Value} {l : List Wt} {r : Option Nat} (h : Wa g v l W) (hg : w.grownBy W r) (hs : W.heap.size = w.heap.size) (a : Ne) :
    Nw w.heap.size (.slice (some ⟨w.heap.size, 0, none⟩) 1 1) [a] (W.alloc (.cells #[.int .i64 a.nd, .int .i64 a.wh, .int .i64 a.st] 55)) ∧ Wa g v l (W.alloc (.cells #[.int .i64 a.nd, .int .i64 a.wh, .int .i64 a.st] 55)) ∧ w.grownBy (W.alloc (.cells #[.int .i64 a.nd, .int .i64 a.wh, .int .i64 a.st] 55)) r := by
  refine ⟨?_, h.below ((Below.refl _ _).alloc (Nat.le_refl _) _), grown_all hg _⟩
  rw [← hs]
  exact Nw.one W a
set_option maxHeartbeats 1000000 in
theorem beat_any (h : Wa g (.slice (some ⟨q, 0, none⟩) n c) l w) {k : Nat} (hk : k < l.length) (hi : l[k].is ≤ 2) (b : Nat) (hb : b ≠ 0) (o : Nat) (ho : o = k * 6) :
    Calls Try.prog 30 #[.pointer (some ⟨q, o, none⟩), .int .i64 b] w fun e w' => ∃ r, e = .returned r ∧ Nw w.heap.size r (l[k].says b) w' ∧ Wa g (.slice (some ⟨q, 0, none⟩) n c) (l.set k (l[k].beat b)) w' ∧ w.grownBy w' (some q) := by
  subst ho
  obtain ⟨hR, hF⟩ := h.at hk
  have HJ : Hid (∀ m, Wa g (.slice (some ⟨q, 0, none⟩) n c) (l.set k (l[k].beat b)) ((w.drewN m).setCells q (k * 6) (l[k].beat b).cs)) := fun m => (h.drawn m).beats hk b
  have hne := Wt.beat_cs l[k] b hb
  rw [hne] at HJ
  have HS : Hid (l[k].says b = if l[k].is ≠ 1 then [⟨l[k].nd, 1, b⟩] else if l[k].st ≠ b then [⟨l[k].nd, 2, b⟩] else []) := by show _ = _; unfold Wt.says; rw [if_neg hb]
  obtain ⟨z, hz⟩ : ∃ z, l[k] = z := ⟨_, rfl⟩
  rw [hz] at hR HJ HS hi hne ⊢
  obtain ⟨o, ho⟩ : ∃ o, k * 6 = o := ⟨_, rfl⟩
  rw [ho] at hR hF HJ ⊢
  have f0 := hF 0 (by omega)
  have f1 := hF 1 (by omega)
  have f2 := hF 2 (by omega)
  have f3 := hF 3 (by omega)
  have f4 := hF 4 (by omega)
  have f5 := hF 5 (by omega)
  rw [Nat.add_zero] at f0
  have hT := fun (m : Nat) => isThere_x (w := w.drewN m) (x := z) hR hi
  obtain ⟨c0, c1, c2, c3, c4, c5⟩ := Wt.cells6 hR
  have hR2 : ∀ m, (w.drewN m).rangeAt q o [.int .i64 z.nd, .int .u64 z.tk] := fun m j v hj => by
    match j, hj with
    | 0, hj => simp at hj; subst hj; exact c0
    | 1, hj => simp at hj; subst hj; exact c1
  have HW : Hid (∀ m, Wa g (.slice (some ⟨q, 0, none⟩) n c) (l.set k (z.beat b)) (((((((w.drewN m).setCell ⟨q, o, none⟩ (.int .i64 z.nd)).setCell ⟨q, o + 1, none⟩ (.int .u64 z.tk)).setCell ⟨q, o + 2, none⟩ (.bool true)).setCell ⟨q, o + 3, none⟩ (.bool false)).setCell ⟨q, o + 4, none⟩ (.int .i64 b)).setCell ⟨q, o + 5, none⟩ (.int .u64 0)) ∧ w.grownBy (((((((w.drewN m).setCell ⟨q, o, none⟩ (.int .i64 z.nd)).setCell ⟨q, o + 1, none⟩ (.int .u64 z.tk)).setCell ⟨q, o + 2, none⟩ (.bool true)).setCell ⟨q, o + 3, none⟩ (.bool false)).setCell ⟨q, o + 4, none⟩ (.int .i64 b)).setCell ⟨q, o + 5, none⟩ (.int .u64 0)) (some q)) :=
    fun m => by rw [six_set]; exact ⟨HJ.out m, grown_dr0 m (grown_put _ _ _ _)⟩
  have HE : Hid (∀ m (a : Ne), Nw w.heap.size (.slice (some ⟨w.heap.size, 0, none⟩) 1 1) [a] ((((((((w.drewN m).setCell ⟨q, o, none⟩ (.int .i64 z.nd)).setCell ⟨q, o + 1, none⟩ (.int .u64 z.tk)).setCell ⟨q, o + 2, none⟩ (.bool true)).setCell ⟨q, o + 3, none⟩ (.bool false)).setCell ⟨q, o + 4, none⟩ (.int .i64 b)).setCell ⟨q, o + 5, none⟩ (.int .u64 0)).alloc (.cells #[.int .i64 a.nd, .int .i64 a.wh, .int .i64 a.st] 55)) ∧ Wa g (.slice (some ⟨q, 0, none⟩) n c) (l.set k (z.beat b)) ((((((((w.drewN m).setCell ⟨q, o, none⟩ (.int .i64 z.nd)).setCell ⟨q, o + 1, none⟩ (.int .u64 z.tk)).setCell ⟨q, o + 2, none⟩ (.bool true)).setCell ⟨q, o + 3, none⟩ (.bool false)).setCell ⟨q, o + 4, none⟩ (.int .i64 b)).setCell ⟨q, o + 5, none⟩ (.int .u64 0)).alloc (.cells #[.int .i64 a.nd, .int .i64 a.wh, .int .i64 a.st] 55)) ∧ w.grownBy ((((((((w.drewN m).setCell ⟨q, o, none⟩ (.int .i64 z.nd)).setCell ⟨q, o + 1, none⟩ (.int .u64 z.tk)).setCell ⟨q, o + 2, none⟩ (.bool true)).setCell ⟨q, o + 3, none⟩ (.bool false)).setCell ⟨q, o + 4, none⟩ (.int .i64 b)).setCell ⟨q, o + 5, none⟩ (.int .u64 0)).alloc (.cells #[.int .i64 a.nd, .int .i64 a.wh, .int .i64 a.st] 55)) (some q)) :=
    fun m a => news_end (HW.out m).1 (HW.out m).2 (by rw [six_set, (cn_same _ _ _ _).2.2.2]; rfl) a
  generalize z.says b = sa at *
  generalize z.beat b = zb at *
  by_cases h1 : z.is = 1
  · rw [decide_eq_true h1] at hT
    by_cases h2 : z.st = b
    · have HS2 : Hid (sa = []) := by show _ = _; rw [HS.out, if_neg (by omega), if_neg (by omega)]
      have d2 : (z.st != (b : Int)) = false := by simp [h2]
      clear h hk hz HS HJ h1 h2 hi hF hne
      go_enter Try.func30, Try.ntmps30
      go_wp2_with fail
      go_quiet (first | (go_at_call 32; exact Calls.quiet_of_same (hT _)))
      go_wp2_with (refine Wq.ld (hR2 _) rfl _ rfl rfl ?_; clear hR2)
      go_ret
      refine ⟨_, rfl, by rw [HS2.out]; exact Nw.nil _ _, ?_⟩
      exact HW.out _
    · have HS2 : Hid (sa = [⟨z.nd, 2, b⟩]) := by show _ = _; rw [HS.out, if_neg (by omega), if_pos h2]
      have d2 : (z.st != (b : Int)) = true := by simp [h2]
      clear h hk hz HS HJ h1 h2 hi hF hne
      go_enter Try.func30, Try.ntmps30
      go_wp2_with fail
      go_quiet (first | (go_at_call 32; exact Calls.quiet_of_same (hT _)))
      go_wp2_with (refine Wq.ld (hR2 _) rfl _ rfl rfl ?_; clear hR2)
      go_ret
      refine ⟨_, rfl, ?_⟩
      rw [HS2.out]
      exact HE.out _ ⟨z.nd, 2, b⟩
  · have HS2 : Hid (sa = [⟨z.nd, 1, b⟩]) := by show _ = _; rw [HS.out, if_pos h1]
    rw [decide_eq_false h1] at hT
    clear h hk hz HS HJ h1 hi hF hne
    go_enter Try.func30, Try.ntmps30
    go_wp2_with fail
    go_quiet (first | (go_at_call 32; exact Calls.quiet_of_same (hT _)))
    go_wp2_with (refine Wq.ld (hR2 _) rfl _ rfl rfl ?_; clear hR2)
    go_ret
    refine ⟨_, rfl, ?_⟩
    rw [HS2.out]
    exact HE.out _ ⟨z.nd, 1, b⟩
end
end Go.Proofs.Ytceomfefffngaaa
