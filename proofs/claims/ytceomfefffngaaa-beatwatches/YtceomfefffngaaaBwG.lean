/- Rows of numbers of one's own, sorted; Lost; same. -/
import Derived.Test.YtceomfefffngaaaBwF
import Derived.Test.YtceomfefffngaaaShelf
import Derived.Sort.OwnSortedInts
namespace Go.Proofs.Ytceomfefffngaaa
open Go.RowKit
set_option linter.unusedVariables false
set_option maxRecDepth 1000000
set_option linter.unusedSimpArgs false
def DI : Dec Int := ⟨fun z => [.int .i64 z], 1, by decide, fun _ => rfl, fun a u hu => by simp at hu; subst hu; rfl⟩
theorem flatI (l : List Int) : flatW DI l = l.map (Value.int .i64) := by
  induction l with
  | nil => rfl
  | cons x r ih => rw [List.map_cons, ← ih]; rfl
theorem infoI : (Try.prog.info? 3).map (fun i => (i.zero, i.size, i.bytes)) = some (some (.int .i64 0), 1, 8) := by kernel_rfl
theorem wpList_app {α : Type} (D : Dec α) (t e : TypeId) (z : Value) (bytes : Nat) (ht : Try.prog.underlying t = some (.slice e)) (hinfo : (Try.prog.info? e).map (fun i => (i.zero, i.size, i.bytes)) = some (some z, D.c, bytes)) (hzs : z.cells.size = D.c)
    {w : World} {ops : Array Oper} {rest : List Oper} {o : Oper} {a : Act} {Q : Exit → Act → World → Prop} (hgd : Region.wanted o (yielded ops a.tmps) = true) (s x : Operand) (ho : o.op = .call { callee := .builtin .append, args := #[s, x], argTypes := #[t, t] })
    (base : Nat) (v : Value) (xs : List α) (hs : a.eval s = v) (hown : w.ownsRow base e D.c v xs.length (flatW D xs))
    (vx : Value) (l : List α) (hx : a.eval x = vx) (hB : Wide D.c D.dec w vx l) (h63 : xs.length + l.length ≤ maxLen) (hbytes : (xs.length + l.length) * bytes ≤ 140737488355328) (hbase : base ≤ w.heap.size)
    (h : ∀ v' w', w'.ownsRow base e D.c v' (xs ++ l).length (flatW D (xs ++ l)) → w.grownBy w' v.ownBlock → wpList Try.prog ops Q rest (a.put o.dst v') w') : wpList Try.prog ops Q (o :: rest) a w := by
  refine BigFrame.wpList_want hgd fun K hK => ?_
  exact wp_append_wide D s x t e z bytes ht hinfo hzs ho base v xs hs hown vx l hx hB h63 hbytes hbase (fun v' w' h1 h2 => hK _ _ (h v' w' h1 h2))
/-- Rows of numbers that a call made. -/
def Ir (B : Nat) (v : Value) (l : List Int) (w : World) : Prop := w.ownsRow B 3 1 v l.length (flatW DI l)
theorem wide_i (w : World) (z : Int) : Wide 1 DI.dec (w.alloc (.cells #[.int .i64 z] 3)) (.slice (some ⟨w.heap.size, 0, none⟩) 1 1) [z] := wide_new DI w z 3
/-- The sort of a row of one's own. -/
theorem sort_row {w : World} {B : Nat} {ov : Value} {zs : List Int} (hrow : Ir B ov zs w) (hl : zs.length < 4611686018427387904) :
    Calls Try.prog 34 #[ov] w fun e w' => e = .returned (.tuple #[]) ∧ Ir B ov (zs.mergeSort fun x y => decide (x ≤ y)) w' ∧ w.grownBy w' ov.ownBlock := by
  unfold Ir at *
  rw [flatI] at *
  rcases hrow.2 with ⟨rfl, h0⟩ | ⟨q, cap, cur, rfl, hbase, hb, h1, h2, h3, h4⟩
  · have hz : zs = [] := List.eq_nil_of_length_eq_zero h0
    subst hz
    refine (Try.slices_Sort_int_none none 0 w).mono ?_
    rintro e w' ⟨rfl, rfl⟩
    exact ⟨rfl, by simpa using hrow, ⟨rfl, rfl, rfl, Nat.le_refl _, fun _ _ _ => rfl⟩⟩
  · have hH : Go.Sort.Holds (Value.int .i64) w q 0 zs.toArray := Go.holds_of_blockI hb (by simpa using h4)
    refine (Try.slices_Sort_int q 0 cap zs w hH (Array.getElem?_eq_some_iff.1 hb).1 hl).mono ?_
    rintro e w' ⟨rfl, nn, os, rfl⟩
    exact ⟨rfl, by rw [List.length_mergeSort]; exact Go.ownsRow_sortedI (by simp) hbase hb h1 h2 h3, Go.grownBy_sortedI _⟩
def lostK (l : List Wt) (k : Nat) : List Int := lostW (l.take k)
theorem lost_len (l : List Wt) : (lostW l).length ≤ l.length := by
  unfold lostW
  rw [List.length_map]
  exact List.length_filter_le _ _
theorem lost_next (l : List Wt) (k : Nat) (h : k < l.length) : lostW (l.take (k + 1)) = lostW (l.take k) ++ (if l[k].is = 2 then [l[k].nd] else []) := by
  unfold lostW
  rw [List.take_succ_eq_append_getElem h, List.filter_append, List.map_append]
  congr 1
  by_cases h2 : l[k].is = 2 <;> simp [h2]
section
variable {g : Nat} {v : Value} {l : List Wt} {w : World}
theorem Ir.apart {B : Nat} {nv : Value} {ns : List Int} (h : Ir B nv ns w) (hW : Wa g v l w) : nv.ownBlock ≠ some g ∧ ∀ k, v.ownBlock = some k → nv.ownBlock ≠ some k := by
  refine ⟨fun e => ?_, fun k hk e => ?_⟩
  · obtain ⟨_, cur, hc⟩ := own_of h e
    have := hW.blk
    unfold Bc at this
    rw [hc] at this
    simp at this
  · obtain ⟨_, cur, hc⟩ := own_of h e
    obtain ⟨_, cur2, hc2⟩ := own_of hW.row hk
    rw [hc] at hc2
    simp at hc2
set_option maxHeartbeats 2000000 in
theorem lost_any (h : Wa g v l w) (hO : OkW l) : Calls Try.prog 21 #[.pointer (some ⟨g, 0, none⟩)] w fun e w' => ∃ nv, e = .returned nv ∧ Ir w.heap.size nv ((lostW l).mergeSort fun x y => decide (x ≤ y)) w' ∧ Below w.heap.size w w' := by
  have hll := hO.len
  obtain ⟨ao, cap, hv, _, hc⟩ := h.wide
  obtain ⟨c0, _⟩ := h.cell
  rw [hv] at c0
  obtain ⟨p, hp⟩ : ∃ p, w.heap.size = p := ⟨_, rfl⟩
  have HC : Hid (∀ (wr : World), Below w.heap.size w wr → ∀ k (hk : k < l.length), ∃ b off, ao = some ⟨b, off, none⟩ ∧ b < w.heap.size ∧ wr.rangeAt b (off + k * 6) (Wt.cs l[k])) := fun wr hb k hk => Wide.at hc hb k hk
  rw [hp] at HC ⊢
  obtain ⟨L, hL⟩ : ∃ L, l.length = L := ⟨_, rfl⟩
  have HL := hidOf2 hL
  rw [hL] at c0 hll
  have HI : Hid (Below p w w) := Below.refl _ _
  clear h hv hO hL hc
  go_enter Try.func21, Try.ntmps21
  go_wp2_with fail
  go_loopw [3, 11] (fun a s11 x => ∃ k, k ≤ L ∧ s11 = .int .i64 (k : Nat) ∧ Ir p a (lostW (l.take k)) x ∧ Below p w x) (fun _ s11 _ => L - (intOf s11).toNat)
  case atStart => exact ⟨0, by omega, rfl, World.ownsRow_nil _ _ _ _, HI.out⟩
  case round =>
    clear HI
    obtain ⟨k, hk, rfl, hN, hb⟩ := hrel
    have HBw := hidOf2 hb
    have hpw : p ≤ wr.heap.size := by have := hb.size; omega
    by_cases hkl : k < L
    · have hd : decide ((k : Int) < (L : Int)) = true := by simp; omega
      have hkL : k < l.length := by rw [HL.out]; exact hkl
      obtain ⟨b, off, rfl, hbl, hR⟩ := HC.out wr hb k hkL
      have e1 := lost_next l k hkL
      have hln : (lostW (l.take k)).length ≤ 1000 := by have h3 := lost_len (l.take k); rw [List.length_take] at h3; omega
      obtain ⟨z, hz⟩ : ∃ z, l[k] = z := ⟨_, rfl⟩
      rw [hz] at hR e1
      obtain ⟨bc, hbc⟩ : ∃ x, decide (z.is ≠ 0) = x := ⟨_, rfl⟩
      obtain ⟨bl, hbl2⟩ : ∃ x, decide (z.is = 2) = x := ⟨_, rfl⟩
      have hA : z.arr = #[.int .i64 z.nd, .int .u64 z.tk, .bool bc, .bool bl, .int .i64 z.st, .int .u64 z.si] := by unfold Wt.arr; rw [hbc, hbl2]
      obtain ⟨X1, hX1⟩ : ∃ X, wr.alloc (.cells #[.int .i64 z.nd, .int .u64 z.tk, .bool bc, .bool bl, .int .i64 z.st, .int .u64 z.si] 84) = X := ⟨_, rfl⟩
      have BX1 : Below wr.heap.size wr X1 := by rw [← hX1]; exact (Below.refl _ _).alloc (Nat.le_refl _) _
      obtain ⟨e, he⟩ : ∃ e, wr.heap.size = e := ⟨_, rfl⟩
      have C1 : Bc 84 e #[.int .i64 z.nd, .int .u64 z.tk, .bool bc, .bool bl, .int .i64 z.st, .int .u64 z.si] X1 := by rw [← hX1, ← he]; exact heap_alloc_new wr _
      have HB1 := hidOf2 (hb.trans (BX1.mono hpw))
      have HN1 := hidOf2 (own_belowE hN BX1)
      have k3 : X1.cell? ⟨e, 3, none⟩ = some (.bool bl) := C1.cell 3
      have k0 : X1.cell? ⟨e, 0, none⟩ = some (.int .i64 z.nd) := C1.cell 0
      have E1 := hidOf2 e1
      have HA := hidOf2 hA
      clear hA hbc
      by_cases h2 : z.is = 2
      · obtain rfl : bl = true := by rw [← hbl2, decide_eq_true h2]
        have E2 : Hid (lostW (l.take (k + 1)) = lostW (l.take k) ++ [z.nd]) := by show _ = _; rw [E1.out, if_pos h2]
        clear C1 BX1 e1 E1 hN hb hz h2 HBw hbl2
        go_upto_region 6 with (refine Wt.ld hR rfl _ rfl rfl ?_; clear hR; rw [HA.out])
        obtain ⟨X2, hX2⟩ : ∃ X, X1.alloc (.cells #[.int .i64 z.nd] 3) = X := ⟨_, rfl⟩
        have BX2 : Below X1.heap.size X1 X2 := by rw [← hX2]; exact (Below.refl _ _).alloc (Nat.le_refl _) _
        have HN2 := hidOf2 (own_belowE HN1.out BX2)
        have HB2 := hidOf2 (HB1.out.trans (BX2.mono (by have := HB1.out.size; omega)))
        have HX2 : Hid (Wide 1 DI.dec X2 (.slice (some ⟨X1.heap.size, 0, none⟩) 1 1) [z.nd]) := by rw [← hX2]; exact wide_i X1 z.nd
        have hp2 : p ≤ X2.heap.size := by have := HB2.out.size; omega
        obtain ⟨x1, hx1⟩ : ∃ x, X1.heap.size = x := ⟨_, rfl⟩
        rw [hx1] at HX2
        clear BX2
        go_wp2_with (at_builtin; refine wpList_app DI 62 3 _ 8 Try.underlying62 infoI rfl rfl _ _ rfl p u3 (lostW (l.take k)) rfl (by exact HN2.out) _ [z.nd] rfl (by exact HX2.out) (by simp [maxLen]; omega) (by simp; omega) hp2 ?_; intro v' w' a1 a2; have HN3 := hidOf2 a1; have HB3 := hidOf2 (HB2.out.grown a2 (by have := HB2.out.size; omega) (fun j hj => own_base HN2.out hj)); clear a1 a2)
        go_roundw
        case rel => exact ⟨k + 1, by omega, rfl, by rw [E2.out]; exact HN3.out, HB3.out⟩
        case measure => simp [intOf]; omega
      · obtain rfl : bl = false := by rw [← hbl2, decide_eq_false h2]
        have E2 : Hid (lostW (l.take (k + 1)) = lostW (l.take k)) := by show _ = _; rw [E1.out, if_neg h2, List.append_nil]
        clear C1 BX1 e1 E1 hN hb hz h2 HBw hbl2 k0
        go_wp2_with (refine Wt.ld hR rfl _ rfl rfl ?_; clear hR; rw [HA.out])
        go_roundw
        case rel => exact ⟨k + 1, by omega, rfl, by rw [E2.out]; exact HN1.out, HB1.out⟩
        case measure => simp [intOf]; omega
    · obtain rfl : k = L := by omega
      have hd : decide ((k : Int) < (k : Int)) = false := by simp
      have h4 := HL.out
      rw [List.take_of_length_le (by omega)] at hN
      have hS := sort_row hN (by have := lost_len l; omega)
      have HBs := hidOf2 (fun k (h : u3.ownBlock = some k) => own_base hN h)
      clear hN hb HC h4
      go_wp2_with (go_at_call 34; refine hS.mono ?_; rintro e w' ⟨rfl, a1, a2⟩)
      go_ret
      exact ⟨_, rfl, a1, HBw.out.grown a2 (by omega) (fun j hj => HBs.out j hj)⟩
end
end Go.Proofs.Ytceomfefffngaaa
