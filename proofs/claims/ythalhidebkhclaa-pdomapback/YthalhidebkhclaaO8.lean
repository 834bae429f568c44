/- Contracts: itemsOf, New. -/
import Derived.Test.YthalhidebkhclaaO7
namespace Go.Proofs.Ythalhidebkhclaa
open Go.RowKit Go.Proofs.Ty Go.Sort Go.Lib
set_option linter.unusedVariables false
set_option maxRecDepth 1000000
set_option linter.unusedSimpArgs false
theorem Eb.frozen {q : Nat} {e : En} {w : World} (h : Eb q e w) (k : Nat) : w.frozen? ⟨q, k, none⟩ = false := Lib.frozen_of_heap h k
theorem Eb.there {q : Nat} {e : En} {w : World} (h : Eb q e w) : w.there q 11 3 := by
  intro j hj
  refine ⟨?_, h.frozen _⟩
  exact h.r11.isSome j (by simpa [vlC] using hj)
theorem Eb.setdf {q : Nat} {e : En} {w : World} (h : Eb q e w) : Eb q e.plain (w.setCells q 11 (vlC e.plain.df)) := by
  have h : w.heap[q]? = some (.cells (enC e).toArray 59 (0, 0)) := h
  unfold Eb
  show (((w.setCell ⟨q, 11, none⟩ (.int .i64 e.plain.df.t)).setCell ⟨q, 12, none⟩ (.int .u64 e.plain.df.n)).setCell ⟨q, 13, none⟩ (.string e.plain.df.s)).heap[q]? = _
  simp only [World.setCell, Array.getElem?_modify, h]
  simp [En.arr, enC, En.plain]
theorem sdV {w : World} {b o : Nat} (ht : w.there b o 3) {ops : Array Oper} {rest : List Oper} {p : Oper} {a : Act} {Q : Exit → Act → World → Prop} (v : Vl) (hgd : p.guard = none) (x y : Operand) (ho : p.op = .store 42 x y) (hx : a.eval x = .pointer (some ⟨b, o, none⟩)) (hy : a.eval y = .agg v.arr)
    (hh : wpList Try.prog ops Q rest (a.put p.dst undef) (w.setCells b o (vlC v))) : wpList Try.prog ops Q (p :: rest) a w :=
  wpList_store_mid hgd 42 x y ho b o v.arr hx hy (by rw [v.arr_size]; exact ht) (by rw [v.arr_size]; exact infoV) v.one hh
theorem bdI {w : World} {ops : Array Oper} {rest : List Oper} {p : Oper} {a : Act} {Q : Exit → Act → World → Prop} (e : En) (v : Vl) (hgd : Region.wanted p (yielded ops a.tmps) = true) (x y : Operand) (ho : p.op = .build 76 #[(0, x), (1, y)]) (hx : a.eval x = .agg e.arr) (hy : a.eval y = .agg v.arr)
    (hh : wpList Try.prog ops Q rest (a.put p.dst (.agg (imC e v).toArray)) w) : wpList Try.prog ops Q (p :: rest) a w := by
  refine BigFrame.wpList_want hgd fun K hK => ?_
  have hl := build_im e v w
  unfold Oper.wp execOp
  simp only [ho, List.map_toArray, List.map_cons, List.map_nil, hx, hy, Sem.run_bind, hl, Result.andThen_ok, Sem.run_pure]
  exact hK _ _ hh
theorem Mk.aside {w x : World} {R : Nat} {l : List En} {k : Nat} {its : List Im} (h : Mk w R l k its x) (q o : Nat) (cs : List Value) (hR : R < q) (hi : ∀ i ∈ its, i.b < q) : Mk w R l k its (x.setCells q o cs) :=
  ⟨(setCells_heap x q o cs R (by omega)).trans h.row, h.len, h.ents, h.vals, fun i hm => (h.items i hm).same (setCells_heap x q o cs i.b (by have := hi i hm; omega)), h.fresh, h.apart, h.base,
   h.below.grown (setCells_kept x q o cs) h.below.size (fun j hj => by cases hj; have := h.base; omega)⟩
theorem Mk.start (w : World) (l : List En) : Mk w w.heap.size l 0 [] (w.alloc (.cells (madeCells #[.pointer none] l.length) 72)) := by
  refine ⟨?_, rfl, by simp, (fun i hi => by simp at hi), (fun i hi => by simp at hi), (fun i hi => by simp at hi), by simp, Nat.le_refl _, (Below.refl _ _).alloc (Nat.le_refl _) _⟩
  rw [heap_alloc_new]
  have : madeCells #[Value.pointer none] l.length = (ptrs [] ++ List.replicate (l.length - 0) (Value.pointer none)).toArray := by
    apply Array.toList_inj.1
    rw [toList_madeCells_one]
    simp [ptrs]
  rw [this]
set_option maxHeartbeats 4000000 in
theorem itemsOf_any (v : Value) (l : List En) (w : World) (hW : Wide 14 enC w v l) (hn : (l.map En.pl).Nodup) (hl : l.length ≤ 1024) :
    Calls Try.prog 28 #[v] w fun x w' => ∃ R its, x = .returned (.slice (some ⟨R, 0, none⟩) l.length l.length) ∧ Srt w R its l w' := by
  obtain ⟨ao, cp, rfl, _, hc⟩ := hW
  have HC : Hid (∀ (wr : World), Below w.heap.size w wr → ∀ k (hk : k < l.length), ∃ b off, ao = some ⟨b, off, none⟩ ∧ b < w.heap.size ∧ wr.rangeAt b (off + k * 14) (enC l[k])) := fun wr hb k hk => Wide.at hc hb k hk
  have HS : Hid (∀ its x, Mk w w.heap.size l l.length its x → Calls Try.prog 47 #[.slice (some ⟨w.heap.size, 0, none⟩) l.length l.length, .func (.func 48) #[] #[]] x fun e w' => e = .returned (.tuple #[]) ∧ ∃ its', Srt w w.heap.size its' l w') := fun its x h => sort_its h hn hl
  have HM := hidOf2 (Mk.start w l)
  have hm : ∀ x, (Instr.makeSlice 81 (.int .i64 l.length) (.int .i64 l.length)).run Try.prog x = .ok (.slice (some ⟨x.heap.size, 0, none⟩) l.length l.length) (x.alloc (.cells (madeCells #[.pointer none] l.length) 72)) := fun x => run_make_row' (P := Try.prog) 81 72 (.pointer none) 8 Try.underlying81 infoP rfl .i64 .i64 l.length (by omega) (by omega) x
  clear hc hn
  obtain ⟨R, hRR⟩ : ∃ R, w.heap.size = R := ⟨_, rfl⟩
  go_enter Try.func28, Try.ntmps28
  go_wp2
  generalize (w.alloc (.cells (madeCells #[.pointer none] l.length) 72)) = w1 at *
  simp only [hRR] at HM HS
  try simp only [hRR]
  go_loopw [11] (fun i x => ∃ (k : Nat) (its : List Im), k ≤ l.length ∧ i = .int .i64 k ∧ Hid (Mk w R l k its x)) (fun i _ => l.length - (intOf i).toNat)
  case atStart => exact ⟨0, [], Nat.zero_le _, rfl, HM⟩
  case round =>
    clear HM
    obtain ⟨k, its, hk, rfl, MK⟩ := hrel
    by_cases hkl : k < l.length
    · obtain ⟨b, off, rfl, hb, hR⟩ := HC.out wr MK.out.below k hkl
      have HT : Hid (∀ x, Mk w R l k its x → Mk w R l (k + 1) (its ++ [⟨x.heap.size, l[k].plain, l[k].plain.df⟩]) ((x.alloc (.cells (imC l[k].plain l[k].plain.df).toArray 76)).setCell ⟨R, k, none⟩ (ptrI x.heap.size))) := fun x h => h.step hkl
      generalize l[k] = e at *
      obtain ⟨q, hq⟩ : ∃ q, wr.heap.size = q := ⟨_, rfl⟩
      have hh : (wr.alloc (.cells #[.int .u16 0, .int .u8 0, .int .i64 0, .bool false, .bool false, .int .i64 0, .int .u64 0, .string ⟨#[]⟩, .int .i64 0, .int .u64 0, .string ⟨#[]⟩, .int .i64 0, .int .u64 0, .string ⟨#[]⟩] 59)).heap[q]? = some (.cells #[.int .u16 0, .int .u8 0, .int .i64 0, .bool false, .bool false, .int .i64 0, .int .u64 0, .string ⟨#[]⟩, .int .i64 0, .int .u64 0, .string ⟨#[]⟩, .int .i64 0, .int .u64 0, .string ⟨#[]⟩] 59 (0, 0)) := by rw [← hq]; exact heap_alloc_new _ _
      have hE := Eb.row hh e
      have BA : Below wr.heap.size wr (wr.alloc (.cells #[.int .u16 0, .int .u8 0, .int .i64 0, .bool false, .bool false, .int .i64 0, .int .u64 0, .string ⟨#[]⟩, .int .i64 0, .int .u64 0, .string ⟨#[]⟩, .int .i64 0, .int .u64 0, .string ⟨#[]⟩] 59)) := (Below.refl _ _).alloc (Nat.le_refl _) _
      have BB := below_row BA (by rw [← hq]; exact Nat.le_refl _) (by rw [size_alloc]; omega) (q := q) e.arr
      go_upto_region 5 with (first | (refine ldE hR rfl _ rfl rfl ?_) | (refine sdE hh rfl e rfl _ _ rfl rfl rfl ?_))
      try simp only [hq]
      generalize ((wr.alloc (.cells #[.int .u16 0, .int .u8 0, .int .i64 0, .bool false, .bool false, .int .i64 0, .int .u64 0, .string ⟨#[]⟩, .int .i64 0, .int .u64 0, .string ⟨#[]⟩, .int .i64 0, .int .u64 0, .string ⟨#[]⟩] 59)).setRow q e.arr) = W1 at *
      have M1 := hidOf2 (MK.out.next BB)
      have hRq : R < q := by have := MK.out.lt; omega
      have Hiq : Hid (∀ i ∈ its, i.b < q) := fun i hi => by have := (MK.out.items i hi).lt; omega
      have q1 := hE.lt
      clear hh BA hR MK hb BB hq
      have r1 := hE.r11
      have hPl := Plain_v e.df W1
      go_wp2_with (first | (refine ldV r1 rfl _ rfl rfl ?_))
      refine hPl.mono ?_
      rintro x w2 ⟨rfl, b2⟩
      have hE2 := hE.below b2
      have M2 := hidOf2 (M1.out.next b2)
      clear hE M1 b2 r1 hPl
      have ht := hE2.there
      have hE3 := hE2.setdf
      have M3 := hidOf2 (M2.out.aside q 11 (vlC e.plain.df) hRq Hiq.out)
      go_upto_region 6 with (first | (refine sdV ht e.plain.df rfl _ _ rfl rfl rfl ?_))
      generalize (w2.setCells q 11 (vlC e.plain.df)) = W3 at *
      have r0 := hE3.r0
      have r1 := hE3.r11
      have M4 := hidOf2 (HT.out W3 M3.out)
      have hRl := M3.out.lt
      have hce : (W3.alloc (.cells (imC e.plain e.plain.df).toArray 76)).cell? ⟨R, k, none⟩ = some (.pointer none) := by
        rw [← M3.out.cell hkl]
        exact World.cell?_of_block (a := ⟨R, k, none⟩) (Lib.alloc_old W3 _ R hRl)
      have hfr : (W3.alloc (.cells (imC e.plain e.plain.df).toArray 76)).frozen? ⟨R, k, none⟩ = false := Lib.frozen_of_heap ((Lib.alloc_old W3 _ R hRl).trans M3.out.row) k
      unfold ptrI at M4
      rw [World.setCell_alloc_past _ R k _ hRl] at M4
      clear hE2 M2 ht hE3 HT M3
      generalize e.plain = pe at *
      have HM4 : Hid _ := M4
      clear M4
      go_wp2_with (first | (refine ldE r0 rfl _ rfl rfl ?_) | (refine ldV r1 rfl _ rfl rfl ?_) | (refine bdI pe pe.df rfl _ _ rfl rfl rfl ?_; generalize (imC pe pe.df).toArray = IA at *))
      go_roundw
      case rel => exact ⟨k + 1, _, by omega, by go_num, HM4⟩
      case measure => simp [intOf]; omega
    · have e1 := hidOf2 (show Mk w R l l.length its wr from by
        have : k = l.length := by omega
        exact this ▸ MK.out)
      clear MK
      have hS := HS.out its wr e1.out
      clear HS
      go_wp2_with fail
      refine hS.mono ?_
      rintro x w2 ⟨rfl, its', HZ⟩
      have HZ : Hid _ := HZ
      go_wp2
      go_ret
      exact ⟨R, its', rfl, HZ.out⟩
/-- A dictionary in memory. -/
structure Dct (D R : Nat) (its : List Im) (w : World) : Prop where
  head : w.heap[D]? = some (.cells #[.slice (some ⟨R, 0, none⟩) its.length its.length] 84 (0, 0))
  row : w.heap[R]? = some (.cells (ptrs its).toArray 72 (0, 0))
  items : ∀ i ∈ its, Ib i.b i.e i.v w
  apart : (its.map Im.b).Nodup
  sorted : its.Pairwise (fun a b => a.e.pl < b.e.pl)
  len : its.length ≤ 1024
/-- What New leaves, of entries that can be. -/
structure Nw (w : World) (D R : Nat) (its : List Im) (l : List En) (x : World) : Prop where
  dct : Dct D R its x
  vals : ∀ i ∈ its, i.v = i.e.df
  perm : (its.map Im.e).Perm (l.map En.plain)
  base : ∀ i ∈ its, w.heap.size ≤ i.b
  bD : w.heap.size ≤ D
  bR : w.heap.size ≤ R
  below : Below w.heap.size w x
theorem chkG_nodup (s l : List En) (h : chkG s l = 0) (hs : (s.map En.pl).Nodup) : ((s ++ l).map En.pl).Nodup := by
  induction l generalizing s with
  | nil => simpa using hs
  | cons e r ih =>
    rw [chkG] at h
    split at h
    · rename_i h1; exact absurd h h1
    · split at h
      · exact absurd h (by decide)
      · rename_i h2
        have := ih (s ++ [e]) h (by
          rw [List.map_append, List.nodup_append]
          refine ⟨hs, by simp, ?_⟩
          intro a ha b hb
          simp at hb
          subst hb
          obtain ⟨y, hy, rfl⟩ := List.mem_map.1 ha
          intro e2
          exact h2 (List.any_eq_true.2 ⟨y, hy, by simpa using e2⟩))
        simpa using this
theorem chkL_ok {l : List En} (h : chkL l = 0) : l.length ≤ 1024 ∧ (l.map En.pl).Nodup ∧ chkG [] l = 0 := by
  unfold chkL at h
  split at h
  · exact absurd h (by decide)
  · exact ⟨by omega, by simpa using chkG_nodup [] l h (by simp), h⟩
theorem build_dict (v : Value) (x : World) (h : v.oneCell' = true) (hs : ∃ a n c, v = .slice a n c) : (Instr.build 84 #[(0, v)]).run Try.prog x = .ok (.agg #[v]) x := by
  obtain ⟨a, n, c, rfl⟩ := hs
  kernel_rfl
set_option maxHeartbeats 4000000 in
theorem oNew_any (v : Value) (l : List En) (w : World) (hW : Wide 14 enC w v l) (hn : l.length ≤ 4000000000000) :
    Calls Try.prog 15 #[v] w fun x w' => (chkL l ≠ 0 → x = .returned (.tuple #[.pointer none, .int .i64 (chkL l)]) ∧ Below w.heap.size w w') ∧ (chkL l = 0 → ∃ D R its, x = .returned (.tuple #[.pointer (some ⟨D, 0, none⟩), .int .i64 0]) ∧ Nw w D R its l w') := by
  have hC := oCheck_any v l w hW hn
  obtain ⟨ao, cp, rfl⟩ := hW.shape
  have HW : Hid (Wide 14 enC w (.slice ao l.length cp) l) := hW
  clear hW
  by_cases hc : chkL l = 0
  · have HI : Hid (∀ x, Below w.heap.size w x → Calls Try.prog 28 #[.slice ao l.length cp] x fun y w' => ∃ R its, y = .returned (.slice (some ⟨R, 0, none⟩) l.length l.length) ∧ Srt x R its l w') := fun x hb =>
      itemsOf_any _ l x (HW.out.same hb.size (fun b _ hl => hb.block b hl)) (chkL_ok hc).2.1 (chkL_ok hc).1
    have hl := (chkL_ok hc).1
    rw [hc] at hC ⊢
    clear hc
    go_enter Try.func15, Try.ntmps15
    go_wp2_with fail
    refine hC.mono ?_
    rintro x w1 ⟨rfl, b1⟩
    have hI := HI.out w1 b1
    clear HI HW hC
    go_wp2_with fail
    refine hI.mono ?_
    rintro x w2 ⟨R, its, rfl, S⟩
    have HS : Hid _ := S
    have b2 := S.below
    clear S hI
    have hbd := fun x => build_dict (.slice (some ⟨R, 0, none⟩) l.length l.length) x rfl ⟨_, _, _, rfl⟩
    go_wp2
    go_ret2
    refine ⟨fun h => absurd rfl h, fun _ => ⟨w2.heap.size, R, its, rfl, ?_⟩⟩
    have S := HS.out
    have hlen : its.length = l.length := by have := S.perm.length_eq; simpa using this
    have s1 := b1.size
    have s2 := b2.size
    have bA : Below w2.heap.size w2 (w2.alloc (.cells #[.slice (some ⟨R, 0, none⟩) l.length l.length] 84)) := (Below.refl _ _).alloc (Nat.le_refl _) _
    have hR := (Array.getElem?_eq_some_iff.1 S.row).1
    refine ⟨⟨by rw [heap_alloc_new, hlen], (bA.block R hR).trans S.row, fun i hi => (S.items i hi).below bA, S.apart, S.sorted, by rw [hlen]; exact hl⟩, S.vals, S.perm, fun i hi => by have := S.base.1; have := S.base.2 i hi; omega, by omega, by have := S.base.1; omega, (b1.trans (b2.mono (by omega))).trans (bA.mono (by omega))⟩
  · have d1 : ((chkL l : Int) != 0) = true := by simpa using hc
    have HC : Hid (¬ chkL l = 0) := hc
    clear hc HW
    generalize chkL l = C at *
    go_enter Try.func15, Try.ntmps15
    go_wp2_with fail
    refine hC.mono ?_
    rintro x w1 ⟨rfl, b1⟩
    clear hC
    go_wp2
    go_ret2
    exact ⟨fun _ => ⟨rfl, b1⟩, fun h => absurd h HC.out⟩
end Go.Proofs.Ythalhidebkhclaa
