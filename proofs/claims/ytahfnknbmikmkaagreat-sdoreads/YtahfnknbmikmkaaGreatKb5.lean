/- Contracts: itemsOf, and the library's sorting of nothing. Contracts: itemsOf, New. Entries and acts that came in, opened. Bytes cut out of bytes. Acts that came in, opened: their bytes have room for what they hold. What is written: a job that came in, opened; bytes with room. Frames of layer 10: plain, and the contracts of what is made of them. -/
import Derived.Test.YtahfnknbmikmkaaGreatKb4
import Derived.Test.YtahfnknbmikmkaaGreatShelf
import Derived.Test.YtahfnknbmikmkaaGreatKb3
import Derived.Test.YtahfnknbmikmkaaGreatKb2
import Derived.Deep.MidRow
import Derived.Laws.BitsAllLaws
namespace Go.Proofs.YtahfnknbmikmkaaGreat
open Go.RowKit Go.Proofs.Ty Go.Sort Go.Lib
set_option linter.unusedVariables false
set_option maxRecDepth 1000000
set_option linter.unusedSimpArgs false
theorem ins_zero (p : Option Addr) (cap : Nat) (fv : Value) (w : World) : Calls Tryz.prog 137 #[.slice p 0 cap, .int .i64 0, .int .i64 0, fv] w fun e w' => e = .returned (.tuple #[]) ∧ w' = w := by
  go_enter Tryz.func137, Tryz.ntmps137
  go_wp2
  go_loopw [8] (fun i x => i = .int .i64 1 ∧ x = w) (fun _ _ => 0)
  case atStart => exact ⟨rfl, rfl⟩
  case round =>
    obtain ⟨rfl, rfl⟩ := hrel
    go_wp2
    go_end0
    exact ⟨rfl, rfl⟩
theorem pdq_zero (p : Option Addr) (cap : Nat) (lim : Int) (fv : Value) (w : World) : Calls Tryz.prog 131 #[.slice p 0 cap, .int .i64 0, .int .i64 0, .int .i64 lim, fv] w fun e w' => e = .returned (.tuple #[]) ∧ w' = w := by
  have hi := ins_zero p cap fv
  go_enter Tryz.func131, Tryz.ntmps131
  go_wp2
  refine wp_loop_rounds 1 ?_
  rw [rounds_succ]
  go_wp2_with (go_at_call 137; refine (hi _).mono ?_; rintro e w' ⟨rfl, rfl⟩)
  (try simp only [Exit.inBlock, Exit.then]); refine bodyPost_ret (results_none rfl _ _ _) rfl ?_
  exact ⟨rfl, rfl⟩
theorem len64_zero (w : World) : Calls Tryz.prog 146 #[.int .u64 0] w fun e w' => e = .returned (.int .i64 0) ∧ w' = w := by
  go_enter Tryz.func146, Tryz.ntmps146
  go_wp2
  go_ret
  exact ⟨ret_int (by kernel_rfl), rfl⟩
theorem len_zero (w : World) : Calls Tryz.prog 132 #[.int .u64 0] w fun e w' => e = .returned (.int .i64 0) ∧ w' = w := by
  have h := len64_zero
  go_enter Tryz.func132, Tryz.ntmps132
  go_wp2_with (go_at_call 146; refine (h _).mono ?_; rintro e w' ⟨rfl, rfl⟩)
  go_ret
  exact ⟨rfl, rfl⟩
theorem sort_zero (p : Option Addr) (cap : Nat) (fv : Value) (w : World) : Calls Tryz.prog 124 #[.slice p 0 cap, fv] w fun e w' => e = .returned (.tuple #[]) ∧ w' = w := by
  have h1 := len_zero
  have h2 := fun lim => pdq_zero p cap lim fv
  go_enter Tryz.func124, Tryz.ntmps124
  go_wp2_with (first | (go_at_call 132; refine (h1 _).mono ?_; rintro e w' ⟨rfl, rfl⟩) | (go_at_call 131; refine (h2 _ _).mono ?_; rintro e w' ⟨rfl, rfl⟩))
  go_end0
  exact ⟨rfl, rfl⟩
theorem enterS : ∀ args x, (callFunc 125 args).run Tryz.prog x = .ok (.enter 125 args) x := fun _ _ => by rfl
theorem enterF1 : ∀ args x, (callFunc 75 args).run Tryz.prog x = .ok (.enter 75 args) x := fun _ _ => by rfl
theorem enterF2 : ∀ args x, (callFunc 79 args).run Tryz.prog x = .ok (.enter 79 args) x := fun _ _ => by rfl
/-- Items in order. -/
structure Srt (w : World) (R : Nat) (its : List Im) (l : List En) (x : World) : Prop where
  row : x.heap[R]? = some (.cells (ptrs its).toArray 102 (0, 0))
  items : ∀ i ∈ its, Ib i.b i.e i.v x
  vals : ∀ i ∈ its, i.v = i.e.df
  apart : (its.map Im.b).Nodup
  sorted : its.Pairwise (fun a b => a.e.pl < b.e.pl)
  perm : (its.map Im.e).Perm (l.map En.plain)
  base : w.heap.size ≤ R ∧ ∀ i ∈ its, R < i.b
  below : Below w.heap.size w x
theorem plains (l : List En) : (l.map En.plain).map En.pl = l.map En.pl := by rw [List.map_map]; rfl
theorem sort_its {w x : World} {R : Nat} {l : List En} {its : List Im} (h : Mk w R l l.length its x) (hn : (l.map En.pl).Nodup) (hl : l.length ≤ 1024) :
    Calls Tryz.prog 124 #[.slice (some ⟨R, 0, none⟩) l.length l.length, .func (.func 125) #[] #[]] x fun e w' => e = .returned (.tuple #[]) ∧ ∃ its', Srt w R its' l w' := by
  have hrow := h.row
  rw [Nat.sub_self, List.replicate_zero, List.append_nil] at hrow
  have hents := h.ents
  rw [List.take_length] at hents
  have hlen := h.len
  have hpl : (its.map (fun i : Im => i.e.pl)) = l.map En.pl := by
    rw [← plains, ← hents, List.map_map]; rfl
  by_cases h0 : its = []
  · subst h0
    have : l = [] := List.eq_nil_of_length_eq_zero (by simpa using hlen.symm)
    subst this
    refine (sort_zero _ _ _ _).mono ?_
    rintro e w' ⟨rfl, rfl⟩
    exact ⟨rfl, [], hrow, (fun i hi => by simp at hi), (fun i hi => by simp at hi), by simp, .nil, by simp, ⟨h.base, fun i hi => by simp at hi⟩, h.below⟩
  · obtain ⟨i0, hi0⟩ := List.exists_mem_of_ne_nil its h0
    haveI : Inhabited (Am its) := ⟨⟨i0, hi0⟩⟩
    have hne : ∀ i ∈ its, i.b ≠ R := fun i hi => by have := h.fresh i hi; omega
    have hcmp : CmpLays1 Tryz.prog 125 #[] (encA (its := its)) cfA R 0 (arrA its).size x := by
      intro m os dk hdk a b
      have ha := (h.items a.1 a.2).same (sortWorld_block encA x R 0 m dk os a.1.b (hne _ a.2) (h.items a.1 a.2).lt)
      have hb := (h.items b.1 b.2).same (sortWorld_block encA x R 0 m dk os b.1.b (hne _ b.2) (h.items b.1 b.2).lt)
      refine (sort_cmp ha hb).mono ?_
      rintro e w' ⟨rfl, n, rfl⟩
      exact ⟨rfl, n, #[], by rw [grow_empty]⟩
    have hcon := Any.slices_SortFunc Tryz.sortL encA one_encA cfA swoA 125 #[] R 0 l.length (arrA its) x enterS hcmp (holdsA hrow) h.lt (by rw [arrA_size]; omega)
    rw [arrA_size, hlen] at hcon
    change Calls Tryz.prog 124 _ _ _ at hcon
    refine hcon.mono ?_
    rintro e w' ⟨rfl, d', n, os, hp, hs, rfl⟩
    rw [← hlen, ← arrA_size its] at hp hs
    have hsz := hp.1
    have hpm := perm_its (perm_all hp)
    have hnd : ((d'.toList.map (·.1)).map (fun i : Im => i.e.pl)).Nodup := by
      refine (hpm.map _).nodup_iff.2 ?_
      rw [hpl]; exact hn
    refine ⟨rfl, d'.toList.map (·.1), ?_, ?_, ?_, ?_, ?_, ?_, ⟨h.base, ?_⟩, ?_⟩
    · exact sortWorld_row x R n d' os hrow (by rw [hsz, arrA_size]) rfl
    · intro i hi
      have hi := hpm.mem_iff.1 hi
      exact (h.items i hi).same (sortWorld_block encA x R 0 n d' os i.b (hne i hi) (h.items i hi).lt)
    · exact fun i hi => h.vals i (hpm.mem_iff.1 hi)
    · exact (hpm.map Im.b).nodup_iff.2 h.apart
    · exact sorted_its hs hsz hnd
    · rw [← hents]; exact hpm.map Im.e
    · exact fun i hi => h.fresh i (hpm.mem_iff.1 hi)
    · exact h.below.grown (sortWorld_grown encA x R 0 n d' os) h.below.size (fun j hj => by cases hj; exact h.base)
end Go.Proofs.YtahfnknbmikmkaaGreat
namespace Go.Proofs.YtahfnknbmikmkaaGreat
open Go.RowKit Go.Proofs.Ty Go.Sort Go.Lib
set_option linter.unusedVariables false
set_option maxRecDepth 1000000
set_option linter.unusedSimpArgs false
theorem Eb.frozen {q : Nat} {e : En} {w : World} (h : Eb q e w) (k : Nat) : w.frozen? ⟨q, k, none⟩ = false := Lib.frozen_of_heap h k
theorem Eb.there {q : Nat} {e : En} {w : World} (h : Eb q e w) : w.there q 11 3 := by
  intro j hj
  refine ⟨?_, h.frozen _⟩
  exact h.r11.isSome j (by simpa [vlC] using hj)
theorem Eb.setdf {q : Nat} {e : En} {w : World} (h : Eb q e w) : Eb q e.plain (w.setCells q 11 (vlC e.plain.df)) := by
  have h : w.heap[q]? = some (.cells (enC e).toArray 93 (0, 0)) := h
  unfold Eb
  show (((w.setCell ⟨q, 11, none⟩ (.int .i64 e.plain.df.t)).setCell ⟨q, 12, none⟩ (.int .u64 e.plain.df.n)).setCell ⟨q, 13, none⟩ (.string e.plain.df.s)).heap[q]? = _
  simp only [World.setCell, Array.getElem?_modify, h]
  simp [En.arr, enC, En.plain]
theorem sdV {w : World} {b o : Nat} (ht : w.there b o 3) {ops : Array Oper} {rest : List Oper} {p : Oper} {a : Act} {Q : Exit → Act → World → Prop} (v : Vl) (hgd : p.guard = none) (x y : Operand) (ho : p.op = .store 52 x y) (hx : a.eval x = .pointer (some ⟨b, o, none⟩)) (hy : a.eval y = .agg v.arr)
    (hh : wpList Tryz.prog ops Q rest (a.put p.dst undef) (w.setCells b o (vlC v))) : wpList Tryz.prog ops Q (p :: rest) a w :=
  wpList_store_mid hgd 52 x y ho b o v.arr hx hy (by rw [v.arr_size]; exact ht) (by rw [v.arr_size]; exact infoV) v.one hh
theorem bdI {w : World} {ops : Array Oper} {rest : List Oper} {p : Oper} {a : Act} {Q : Exit → Act → World → Prop} (e : En) (v : Vl) (hgd : Region.wanted p (yielded ops a.tmps) = true) (x y : Operand) (ho : p.op = .build 106 #[(0, x), (1, y)]) (hx : a.eval x = .agg e.arr) (hy : a.eval y = .agg v.arr)
    (hh : wpList Tryz.prog ops Q rest (a.put p.dst (.agg (imC e v).toArray)) w) : wpList Tryz.prog ops Q (p :: rest) a w := by
  refine BigFrame.wpList_want hgd fun K hK => ?_
  have hl := build_im e v w
  unfold Oper.wp execOp
  simp only [ho, List.map_toArray, List.map_cons, List.map_nil, hx, hy, Sem.run_bind, hl, Result.andThen_ok, Sem.run_pure]
  exact hK _ _ hh
theorem Mk.aside {w x : World} {R : Nat} {l : List En} {k : Nat} {its : List Im} (h : Mk w R l k its x) (q o : Nat) (cs : List Value) (hR : R < q) (hi : ∀ i ∈ its, i.b < q) : Mk w R l k its (x.setCells q o cs) :=
  ⟨(setCells_heap x q o cs R (by omega)).trans h.row, h.len, h.ents, h.vals, fun i hm => (h.items i hm).same (setCells_heap x q o cs i.b (by have := hi i hm; omega)), h.fresh, h.apart, h.base,
   h.below.grown (setCells_kept x q o cs) h.below.size (fun j hj => by cases hj; have := h.base; omega)⟩
theorem Mk.start (w : World) (l : List En) : Mk w w.heap.size l 0 [] (w.alloc (.cells (madeCells #[.pointer none] l.length) 102)) := by
  refine ⟨?_, rfl, by simp, (fun i hi => by simp at hi), (fun i hi => by simp at hi), (fun i hi => by simp at hi), by simp, Nat.le_refl _, (Below.refl _ _).alloc (Nat.le_refl _) _⟩
  rw [heap_alloc_new]
  have : madeCells #[Value.pointer none] l.length = (ptrs [] ++ List.replicate (l.length - 0) (Value.pointer none)).toArray := by
    apply Array.toList_inj.1
    rw [toList_madeCells_one]
    simp [ptrs]
  rw [this]
set_option maxHeartbeats 4000000 in
theorem itemsOf_any (v : Value) (l : List En) (w : World) (hW : Wide 14 enC w v l) (hn : (l.map En.pl).Nodup) (hl : l.length ≤ 1024) :
    Calls Tryz.prog 99 #[v] w fun x w' => ∃ R its, x = .returned (.slice (some ⟨R, 0, none⟩) l.length l.length) ∧ Srt w R its l w' := by
  obtain ⟨ao, cp, rfl, _, hc⟩ := hW
  have HC : Hid (∀ (wr : World), Below w.heap.size w wr → ∀ k (hk : k < l.length), ∃ b off, ao = some ⟨b, off, none⟩ ∧ b < w.heap.size ∧ wr.rangeAt b (off + k * 14) (enC l[k])) := fun wr hb k hk => Wide.at hc hb k hk
  have HS : Hid (∀ its x, Mk w w.heap.size l l.length its x → Calls Tryz.prog 124 #[.slice (some ⟨w.heap.size, 0, none⟩) l.length l.length, .func (.func 125) #[] #[]] x fun e w' => e = .returned (.tuple #[]) ∧ ∃ its', Srt w w.heap.size its' l w') := fun its x h => sort_its h hn hl
  have HM := hidOf2 (Mk.start w l)
  have hm : ∀ x, (Instr.makeSlice 111 (.int .i64 l.length) (.int .i64 l.length)).run Tryz.prog x = .ok (.slice (some ⟨x.heap.size, 0, none⟩) l.length l.length) (x.alloc (.cells (madeCells #[.pointer none] l.length) 102)) := fun x => run_make_row' (P := Tryz.prog) 111 102 (.pointer none) 8 Tryz.underlying111 infoP rfl .i64 .i64 l.length (by omega) (by omega) x
  clear hc hn
  obtain ⟨R, hRR⟩ : ∃ R, w.heap.size = R := ⟨_, rfl⟩
  go_enter Tryz.func99, Tryz.ntmps99
  go_wp2
  generalize (w.alloc (.cells (madeCells #[.pointer none] l.length) 102)) = w1 at *
  simp only [hRR] at HM HS
  try simp only [hRR]
  go_loopw [11] (fun i x => ∃ (k : Nat) (its : List Im), k ≤ l.length ∧ i = .int .i64 k ∧ Hid (Mk w R l k its x)) (fun i _ => l.length - (intOf i).toNat)
  case atStart => exact ⟨0, [], Nat.zero_le _, rfl, HM⟩
  case round =>
    clear HM
    obtain ⟨k, its, hk, rfl, MK⟩ := hrel
    by_cases hkl : k < l.length
    · obtain ⟨b, off, rfl, hb, hR⟩ := HC.out wr MK.out.below k hkl
      have HT : Hid (∀ x, Mk w R l k its x → Mk w R l (k + 1) (its ++ [⟨x.heap.size, l[k].plain, l[k].plain.df⟩]) ((x.alloc (.cells (imC l[k].plain l[k].plain.df).toArray 106)).setCell ⟨R, k, none⟩ (ptrI x.heap.size))) := fun x h => h.step hkl
      generalize l[k] = e at *
      obtain ⟨q, hq⟩ : ∃ q, wr.heap.size = q := ⟨_, rfl⟩
      have hh : (wr.alloc (.cells #[.int .u16 0, .int .u8 0, .int .i64 0, .bool false, .bool false, .int .i64 0, .int .u64 0, .string ⟨#[]⟩, .int .i64 0, .int .u64 0, .string ⟨#[]⟩, .int .i64 0, .int .u64 0, .string ⟨#[]⟩] 93)).heap[q]? = some (.cells #[.int .u16 0, .int .u8 0, .int .i64 0, .bool false, .bool false, .int .i64 0, .int .u64 0, .string ⟨#[]⟩, .int .i64 0, .int .u64 0, .string ⟨#[]⟩, .int .i64 0, .int .u64 0, .string ⟨#[]⟩] 93 (0, 0)) := by rw [← hq]; exact heap_alloc_new _ _
      have hE := Eb.row hh e
      have BA : Below wr.heap.size wr (wr.alloc (.cells #[.int .u16 0, .int .u8 0, .int .i64 0, .bool false, .bool false, .int .i64 0, .int .u64 0, .string ⟨#[]⟩, .int .i64 0, .int .u64 0, .string ⟨#[]⟩, .int .i64 0, .int .u64 0, .string ⟨#[]⟩] 93)) := (Below.refl _ _).alloc (Nat.le_refl _) _
      have BB := below_row BA (by rw [← hq]; exact Nat.le_refl _) (by rw [size_alloc]; omega) (q := q) e.arr
      go_upto_region 5 with (first | (refine ldE hR rfl _ rfl rfl ?_) | (refine sdE hh rfl e rfl _ _ rfl rfl rfl ?_))
      try simp only [hq]
      generalize ((wr.alloc (.cells #[.int .u16 0, .int .u8 0, .int .i64 0, .bool false, .bool false, .int .i64 0, .int .u64 0, .string ⟨#[]⟩, .int .i64 0, .int .u64 0, .string ⟨#[]⟩, .int .i64 0, .int .u64 0, .string ⟨#[]⟩] 93)).setRow q e.arr) = W1 at *
      have M1 := hidOf2 (MK.out.next BB)
      have hRq : R < q := by have := MK.out.lt; omega
      have Hiq : Hid (∀ i ∈ its, i.b < q) := fun i hi => by have := (MK.out.items i hi).lt; omega
      have q1 := hE.lt
      clear hh BA hR MK hb BB hq
      have r1 := hE.r11
      have hPl := Plain_v e.df W1
      go_wp2_with (first | (refine ldV r1 rfl _ rfl rfl ?_))
      refine hPl.mono ?_
      rintro x w2 ⟨rfl, b2⟩
      have hE2 := hE.below b2
      have M2 := hidOf2 (M1.out.next b2)
      clear hE M1 b2 r1 hPl
      have ht := hE2.there
      have hE3 := hE2.setdf
      have M3 := hidOf2 (M2.out.aside q 11 (vlC e.plain.df) hRq Hiq.out)
      go_upto_region 6 with (first | (refine sdV ht e.plain.df rfl _ _ rfl rfl rfl ?_))
      generalize (w2.setCells q 11 (vlC e.plain.df)) = W3 at *
      have r0 := hE3.r0
      have r1 := hE3.r11
      have M4 := hidOf2 (HT.out W3 M3.out)
      have hRl := M3.out.lt
      have hce : (W3.alloc (.cells (imC e.plain e.plain.df).toArray 106)).cell? ⟨R, k, none⟩ = some (.pointer none) := by
        rw [← M3.out.cell hkl]
        exact World.cell?_of_block (a := ⟨R, k, none⟩) (Lib.alloc_old W3 _ R hRl)
      have hfr : (W3.alloc (.cells (imC e.plain e.plain.df).toArray 106)).frozen? ⟨R, k, none⟩ = false := Lib.frozen_of_heap ((Lib.alloc_old W3 _ R hRl).trans M3.out.row) k
      unfold ptrI at M4
      rw [World.setCell_alloc_past _ R k _ hRl] at M4
      clear hE2 M2 ht hE3 HT M3
      generalize e.plain = pe at *
      have HM4 : Hid _ := M4
      clear M4
      go_wp2_with (first | (refine ldE r0 rfl _ rfl rfl ?_) | (refine ldV r1 rfl _ rfl rfl ?_) | (refine bdI pe pe.df rfl _ _ rfl rfl rfl ?_; generalize (imC pe pe.df).toArray = IA at *))
      go_roundw
      case rel => exact ⟨k + 1, _, by omega, by go_num, HM4⟩
      case measure => simp [intOf]; omega
    · have e1 := hidOf2 (show Mk w R l l.length its wr from by
        have : k = l.length := by omega
        exact this ▸ MK.out)
      clear MK
      have hS := HS.out its wr e1.out
      clear HS
      go_wp2_with fail
      refine hS.mono ?_
      rintro x w2 ⟨rfl, its', HZ⟩
      have HZ : Hid _ := HZ
      go_wp2
      go_ret
      exact ⟨R, its', rfl, HZ.out⟩
/-- A dictionary in memory. -/
structure Dct (D R : Nat) (its : List Im) (w : World) : Prop where
  head : w.heap[D]? = some (.cells #[.slice (some ⟨R, 0, none⟩) its.length its.length] 113 (0, 0))
  row : w.heap[R]? = some (.cells (ptrs its).toArray 102 (0, 0))
  items : ∀ i ∈ its, Ib i.b i.e i.v w
  apart : (its.map Im.b).Nodup
  sorted : its.Pairwise (fun a b => a.e.pl < b.e.pl)
  len : its.length ≤ 1024
/-- What New leaves, of entries that can be. -/
structure Nw (w : World) (D R : Nat) (its : List Im) (l : List En) (x : World) : Prop where
  dct : Dct D R its x
  vals : ∀ i ∈ its, i.v = i.e.df
  perm : (its.map Im.e).Perm (l.map En.plain)
  base : ∀ i ∈ its, w.heap.size ≤ i.b
  bD : w.heap.size ≤ D
  bR : w.heap.size ≤ R
  below : Below w.heap.size w x
theorem chkG_nodup (s l : List En) (h : chkG s l = 0) (hs : (s.map En.pl).Nodup) : ((s ++ l).map En.pl).Nodup := by
  induction l generalizing s with
  | nil => simpa using hs
  | cons e r ih =>
    rw [chkG] at h
    split at h
    · rename_i h1; exact absurd h h1
    · split at h
      · exact absurd h (by decide)
      · rename_i h2
        have := ih (s ++ [e]) h (by
          rw [List.map_append, List.nodup_append]
          refine ⟨hs, by simp, ?_⟩
          intro a ha b hb
          simp at hb
          subst hb
          obtain ⟨y, hy, rfl⟩ := List.mem_map.1 ha
          intro e2
          exact h2 (List.any_eq_true.2 ⟨y, hy, by simpa using e2⟩))
        simpa using this
theorem chkL_ok {l : List En} (h : chkL l = 0) : l.length ≤ 1024 ∧ (l.map En.pl).Nodup ∧ chkG [] l = 0 := by
  unfold chkL at h
  split at h
  · exact absurd h (by decide)
  · exact ⟨by omega, by simpa using chkG_nodup [] l h (by simp), h⟩
theorem build_dict (v : Value) (x : World) (h : v.oneCell' = true) (hs : ∃ a n c, v = .slice a n c) : (Instr.build 113 #[(0, v)]).run Tryz.prog x = .ok (.agg #[v]) x := by
  obtain ⟨a, n, c, rfl⟩ := hs
  kernel_rfl
set_option maxHeartbeats 4000000 in
theorem oNew_any (v : Value) (l : List En) (w : World) (hW : Wide 14 enC w v l) (hn : l.length ≤ 4000000000000) :
    Calls Tryz.prog 57 #[v] w fun x w' => (chkL l ≠ 0 → x = .returned (.tuple #[.pointer none, .int .i64 (chkL l)]) ∧ Below w.heap.size w w') ∧ (chkL l = 0 → ∃ D R its, x = .returned (.tuple #[.pointer (some ⟨D, 0, none⟩), .int .i64 0]) ∧ Nw w D R its l w') := by
  have hC := oCheck_any v l w hW hn
  obtain ⟨ao, cp, rfl⟩ := hW.shape
  have HW : Hid (Wide 14 enC w (.slice ao l.length cp) l) := hW
  clear hW
  by_cases hc : chkL l = 0
  · have HI : Hid (∀ x, Below w.heap.size w x → Calls Tryz.prog 99 #[.slice ao l.length cp] x fun y w' => ∃ R its, y = .returned (.slice (some ⟨R, 0, none⟩) l.length l.length) ∧ Srt x R its l w') := fun x hb =>
      itemsOf_any _ l x (HW.out.same hb.size (fun b _ hl => hb.block b hl)) (chkL_ok hc).2.1 (chkL_ok hc).1
    have hl := (chkL_ok hc).1
    rw [hc] at hC ⊢
    clear hc
    go_enter Tryz.func57, Tryz.ntmps57
    go_wp2_with fail
    refine hC.mono ?_
    rintro x w1 ⟨rfl, b1⟩
    have hI := HI.out w1 b1
    clear HI HW hC
    go_wp2_with fail
    refine hI.mono ?_
    rintro x w2 ⟨R, its, rfl, S⟩
    have HS : Hid _ := S
    have b2 := S.below
    clear S hI
    have hbd := fun x => build_dict (.slice (some ⟨R, 0, none⟩) l.length l.length) x rfl ⟨_, _, _, rfl⟩
    go_wp2
    go_ret2
    refine ⟨fun h => absurd rfl h, fun _ => ⟨w2.heap.size, R, its, rfl, ?_⟩⟩
    have S := HS.out
    have hlen : its.length = l.length := by have := S.perm.length_eq; simpa using this
    have s1 := b1.size
    have s2 := b2.size
    have bA : Below w2.heap.size w2 (w2.alloc (.cells #[.slice (some ⟨R, 0, none⟩) l.length l.length] 113)) := (Below.refl _ _).alloc (Nat.le_refl _) _
    have hR := (Array.getElem?_eq_some_iff.1 S.row).1
    refine ⟨⟨by rw [heap_alloc_new, hlen], (bA.block R hR).trans S.row, fun i hi => (S.items i hi).below bA, S.apart, S.sorted, by rw [hlen]; exact hl⟩, S.vals, S.perm, fun i hi => by have := S.base.1; have := S.base.2 i hi; omega, by omega, by have := S.base.1; omega, (b1.trans (b2.mono (by omega))).trans (bA.mono (by omega))⟩
  · have d1 : ((chkL l : Int) != 0) = true := by simpa using hc
    have HC : Hid (¬ chkL l = 0) := hc
    clear hc HW
    generalize chkL l = C at *
    go_enter Tryz.func57, Tryz.ntmps57
    go_wp2_with fail
    refine hC.mono ?_
    rintro x w1 ⟨rfl, b1⟩
    clear hC
    go_wp2
    go_ret2
    exact ⟨fun _ => ⟨rfl, b1⟩, fun h => absurd h HC.out⟩
end Go.Proofs.YtahfnknbmikmkaaGreat
namespace Go.Proofs.YtahfnknbmikmkaaGreat
open Go.ChangeShapes Go.WideShapes Go.ChangeAt Go.RowKit Go.Proofs.Ty
set_option linter.unusedVariables false
set_option maxRecDepth 1000000
set_option linter.unusedSimpArgs false
theorem cells1bool : Tryz.prog.cellsOf 4 = 1 := by kernel_rfl
theorem cells1bytes : Tryz.prog.cellsOf 47 = 1 := by kernel_rfl
/-- An act: its kind, index, sub-index, bytes, value, number. -/
structure A8 where
  kind : Int
  ix : Nat
  sb : Nat
  bv : Value
  bl : List UInt8
  v : Vl
  n : Nat
  hk : -9223372036854775808 ≤ kind ∧ kind < 9223372036854775808
  hix : ix < 65536
  hsb : sb < 256
  hn : n < 65536
def acC (a : A8) : List Value := [.int .i64 a.kind, .int .u16 a.ix, .int .u8 a.sb, a.bv, .int .i64 a.v.t, .int .u64 a.v.n, .string a.v.s, .int .u16 a.n]
def A8.arr (a : A8) : Array Value := (acC a).toArray
end Go.Proofs.YtahfnknbmikmkaaGreat
namespace Go.Proofs.YtahfnknbmikmkaaGreat
open Go.RowKit Go.Proofs.Ty Go.Sort Go.Lib
set_option linter.unusedVariables false
set_option maxRecDepth 1000000
set_option linter.unusedSimpArgs false
/-- A slice that has room for what it holds. -/
def Cp (v : Value) : Prop := ∀ ao n c, v = .slice ao n c → n ≤ c
theorem own_cp {w : World} {B : Nat} {e : TypeId} {c n : Nat} {v : Value} {xs : List Value} (h : w.ownsRow B e c v n xs) : Cp v := by
  rintro ao m k rfl
  rcases h.2 with ⟨h1, h2⟩ | ⟨g, cap, cur, h1, _, _, h2, _⟩
  · injection h1 with e1 e2 e3; omega
  · injection h1 with e1 e2 e3; omega
/-- Where a part of bytes begins. -/
def adB (a : Addr) (lo cap : Nat) : Addr := if cap = lo then a else if lo = 0 then a else ⟨a.block, a.off + lo, none⟩
theorem bytes_part {x : World} {a : Addr} {cap : Nat} {l : List UInt8} (hx : Bytes x (.slice (some a) l.length cap) l) (lo hi : Nat) (h1 : lo ≤ hi) (h2 : hi ≤ l.length) (hc : l.length ≤ cap) (c2 : Nat) : Bytes x (.slice (some (adB a lo cap)) (hi - lo) c2) ((l.drop lo).take (hi - lo)) := by
  obtain ⟨ao', cap', hv, h0, hcell⟩ := hx
  injection hv with e1 _ e3
  subst e1 e3
  have hlen : ((l.drop lo).take (hi - lo)).length = hi - lo := by rw [List.length_take, List.length_drop]; omega
  refine ⟨_, _, by rw [hlen], (fun h => by cases h), fun j hj => ?_⟩
  rw [hlen] at hj
  obtain ⟨b, off, e, hlt, hr⟩ := hcell (lo + j) (by omega)
  injection e with e
  subst e
  unfold adB
  rw [if_neg (by omega)]
  by_cases hk0 : lo = 0
  · rw [if_pos hk0]
    subst hk0
    refine ⟨b, off, rfl, hlt, ?_⟩
    simp only [Nat.zero_add] at hr
    simp only [List.getElem_take, List.getElem_drop, Nat.zero_add]
    exact hr
  · rw [if_neg hk0]
    refine ⟨b, off + lo, rfl, hlt, ?_⟩
    simp only [List.getElem_take, List.getElem_drop]
    rw [show off + lo + j = off + (lo + j) by omega]
    exact hr
section
variable {w : World} {v : Value} {l : List UInt8}
theorem bslice_nil (h : Bytes w v l) (hao : ∃ cap, v = .slice none l.length cap) : l = [] ∧ v = .slice none 0 0 := by
  obtain ⟨cap, rfl⟩ := hao
  obtain ⟨ao', cap', hv, h0, _⟩ := h
  injection hv with e1 _ e3
  obtain ⟨rfl, rfl⟩ := h0 e1.symm
  subst e3
  exact ⟨rfl, rfl⟩
theorem bslice_l (h : Bytes w v l) (hc : Cp v) (lo : Nat) (h1 : lo ≤ l.length) : ∃ a c, (∀ W, (Instr.sliceAt 47 v (some (.int .i64 lo)) none none).run Tryz.prog W = .ok (.slice a (l.length - lo) c) W) ∧ (∀ x, Bytes x v l → Bytes x (.slice a (l.length - lo) c) (l.drop lo)) ∧ Cp (.slice a (l.length - lo) c) := by
  obtain ⟨i0, hi0, hz0, hz1, hz2⟩ := info_parts info5
  obtain ⟨ao, cap, rfl⟩ : ∃ ao cap, v = .slice ao l.length cap := by obtain ⟨ao, cap, h, _⟩ := h; exact ⟨ao, cap, h⟩
  have hcap := hc _ _ _ rfl
  have a0 : (0 : Int) ≤ (lo : Int) := by omega
  have a1 : (lo : Int) ≤ (l.length : Int) := by omega
  have a2 : (l.length : Int) ≤ (cap : Int) := by omega
  cases ao with
  | none =>
    obtain ⟨rfl, hv⟩ := bslice_nil h ⟨_, rfl⟩
    injection hv with _ _ e3
    subst e3
    obtain rfl : lo = 0 := by simpa using h1
    refine ⟨none, 0, fun W => ?_, fun x hx => by simpa using hx, fun _ _ _ e => by injection e; omega⟩
    simp [Instr.sliceAt, run_underlying Tryz.underlying47, go_sem, sizeOf, typeInfo, hi0, hz1, Addr.add]
  | some a =>
    refine ⟨some (adB a lo cap), cap - lo, fun W => ?_, fun x hx => ?_, fun _ _ _ e => by injection e; omega⟩
    · simp [Instr.sliceAt, run_underlying Tryz.underlying47, go_sem, sizeOf, typeInfo, hi0, hz1, Addr.add, a0, a1, a2, adB]
      try (split <;> rfl)
    · have := bytes_part hx lo l.length h1 (Nat.le_refl _) hcap (cap - lo)
      rw [List.take_of_length_le (by rw [List.length_drop]; omega)] at this
      exact this
end
end Go.Proofs.YtahfnknbmikmkaaGreat
namespace Go.Proofs.YtahfnknbmikmkaaGreat
open Go.ChangeShapes Go.WideShapes Go.ChangeAt Go.RowKit Go.Proofs.Ty
set_option linter.unusedVariables false
set_option maxRecDepth 1000000
set_option linter.unusedSimpArgs false
/-- Bytes within what came in. -/
theorem one_bytesc {H : Type} {enc : TypeId × Value → H} {W : World} (n : Nat) (c : Value) (y : DataW H × List MemPlace) (h : DataW.trod enc Tryz.prog W 0 (fun _ => true) true n 47 [c] = some y) (hlt : ∀ x ∈ y.2, x.block < W.heap.size) :
    ∃ l : List UInt8, (Bytes W c l ∧ Cp c) ∧ ((y.1 = .nil ∧ l = []) ∨ ∃ e s, y.1 = .slice e s ∧ e.length = l.length) := by
  rcases open_ints Tryz.underlying47 Tryz.underlying5 (by kernel_rfl) h with ⟨hcs, hx⟩ | ⟨x, len, cap, zs, hcs, _, hl, hm, hz, hx, hcell, hwz⟩
  · simp at hcs
    subst hcs
    exact ⟨[], ⟨⟨none, 0, rfl, fun _ => ⟨rfl, rfl⟩, fun k hk => by simp at hk⟩, fun _ _ _ e => by injection e; omega⟩, .inl ⟨by rw [hx], rfl⟩⟩
  · simp at hcs
    subst hcs
    have hz' : zs.length = cap := by simpa using hz
    have hlen : (zs.take len).length = len := by simp; omega
    refine ⟨(zs.take len).map (fun z => z.toNat.toUInt8), ⟨⟨some x, cap, by rw [List.length_map, hlen], (fun h => by cases h), fun k hk => ?_⟩, fun _ _ _ e => by injection e; omega⟩, .inr ⟨_, _, by rw [hx], by simp [lits]⟩⟩
    rw [List.length_map, hlen] at hk
    obtain ⟨b, off, rfl, hc⟩ := ints_at hcell (by omega)
    refine ⟨b, off, rfl, ?_, ?_⟩
    · have := hlt (.cell b (off + k)) (by rw [hx]; simp [MemPlace.row]; omega)
      exact this
    · rw [hc k (by omega)]
      have hk' : k < zs.length := by omega
      have hw := hwz zs[k] (List.getElem_mem hk')
      simp only [List.getElem_map, List.getElem_take]
      rw [u8_of_int hw]
      simp [hk']
end Go.Proofs.YtahfnknbmikmkaaGreat
namespace Go.Proofs.YtahfnknbmikmkaaGreat
open Go.ChangeShapes Go.WideShapes Go.ChangeAt Go.RowKit Go.Proofs.Ty
set_option linter.unusedVariables false
set_option maxRecDepth 1000000
set_option linter.unusedSimpArgs false
/-- A job: bytes, what was there, whether it is said how many come. -/
structure Jb where
  bv : Value
  bl : List UInt8
  s : ByteArray
  sd : Bool
def Jb.c (a : Jb) : List Value := [a.bv, .string a.s, .bool a.sd]
def Jb.arr (a : Jb) : Array Value := #[a.bv, .string a.s, .bool a.sd]
def Gj {H : Type} (W : World) (d : DataW H) (a : Jb) : Prop := (Bytes W a.bv a.bl ∧ Cp a.bv) ∧ ∃ d0 d1 d2, d = .agg [d0, d1, d2] ∧ ((d0 = .nil ∧ a.bl = []) ∨ ∃ e s, d0 = .slice e s ∧ e.length = a.bl.length) ∧ a.s.size ≤ maxLen
theorem Gj.hs {H : Type} {W : World} {d : DataW H} {a : Jb} (h : Gj W d a) : a.s.size ≤ maxLen := by obtain ⟨_, _, _, _, _, _, h⟩ := h; exact h
theorem cellsJb : Tryz.prog.cellsOf 61 = 3 := by kernel_rfl
theorem one_jb {H : Type} {enc : TypeId × Value → H} {W : World} (n : Nat) (cs : List Value) (y : DataW H × List MemPlace) (h : DataW.trod enc Tryz.prog W 0 (fun _ => true) true n 61 cs = some y) (hlt : ∀ x ∈ y.2, x.block < W.heap.size) : ∃ a : Jb, cs = a.c ∧ Gj W y.1 a := by
  obtain ⟨xs, m, _, hd, hn, hl, hfs⟩ := DataW.trod_struct Tryz.underlying61 h
  rw [cellsJb] at hn
  obtain ⟨c0, c1, c2, rfl⟩ := list3 hn
  have g0 := hfs 0 _ rfl
  have g1 := hfs 1 _ rfl
  have g2 := hfs 2 _ rfl
  simp [cells1bytes, cells1str, cells1bool] at g0 g1 g2
  match xs, hl with
  | [y0, y1, y2], _ =>
    simp at g0 g1 g2
    obtain ⟨l0, hB0, hl0⟩ := one_bytesc _ _ _ g0 (fun x hx => hlt x (by rw [hd]; simp [hx]))
    obtain ⟨s, e1, _, hs⟩ := DataW.trod_string Tryz.underlying9 g1
    obtain ⟨b, e2, _⟩ := DataW.trod_bool Tryz.underlying4 g2
    simp at e1 e2
    subst e1 e2
    exact ⟨⟨c0, l0, s, b⟩, rfl, hB0, y0.1, y1.1, y2.1, by rw [hd]; simp, hl0, hs⟩
theorem open_jb {H : Type} {enc : TypeId × Value → H} {W : World} {base : Nat} {v : Value} {d : DataW H} {ps : List MemPlace}
    (hval : Value.okWide Tryz.prog W .any base 61 v) (h : DataW.Trod enc Tryz.prog W 0 (fun _ => true) true 61 v d ps) (hlt : ∀ x ∈ ps, x.block < W.heap.size) : ∃ a : Jb, v = .agg a.arr ∧ Gj W d a := by
  obtain ⟨cs, rfl, hsz⟩ := okWide_struct Tryz.underlying61 hval
  obtain ⟨fuel, hf⟩ := h
  obtain ⟨a, ha, hG⟩ := one_jb _ _ _ hf hlt
  refine ⟨a, ?_, hG⟩
  simp only [Value.cells] at ha
  show Value.agg cs = Value.agg a.c.toArray
  rw [← ha]
theorem weight_jb {H : Type} {W : World} {d : DataW H} {a : Jb} (h : Gj W d a) : a.bl = [] ∨ ∃ n, a.bl.length ≤ n ∧ n ∈ d.weights Tryz.prog 61 := by
  obtain ⟨_, d0, d1, d2, rfl, h3, _⟩ := h
  rcases h3 with ⟨_, h⟩ | ⟨e, s, rfl, h⟩
  · exact .inl h
  · right
    refine ⟨(e.length + s.length) * Tryz.prog.bytesOf 5, by rw [bytes5]; omega, ?_⟩
    simp only [DataW.weights, Tryz.underlying61]
    refine DataW.weights_mem_each (j := 0) rfl rfl _ ?_
    simp [DataW.weights, Tryz.underlying47]
theorem size_jb {H : Type} {W : World} {ts : List TypeId} {ds : List (DataW H)} {j : Nat} {d : DataW H} {a : Jb} (h : (DataW.weightsEach Tryz.prog ts ds).all (· ≤ reachBytes) = true) (ht : ts[j]? = some 61) (hd : ds[j]? = some d) (e : Gj W d a) : a.bl.length ≤ 140737488351232 := by
  have hr : reachBytes = 140737488351232 := by decide
  rcases weight_jb e with h0 | ⟨n, hn, hm⟩
  · rw [h0]; simp
  · have := List.all_eq_true.1 h _ (DataW.weights_mem_each ht hd _ hm)
    simp at this
    omega
end Go.Proofs.YtahfnknbmikmkaaGreat
namespace Go.Proofs.YtahfnknbmikmkaaGreat
open Go.RowKit Go.Proofs.Ty
set_option linter.unusedVariables false
set_option maxRecDepth 1000000
set_option linter.unusedSimpArgs false
/-- A frame: eight bytes. -/
structure F8 where
  b0 : UInt8
  b1 : UInt8
  b2 : UInt8
  b3 : UInt8
  b4 : UInt8
  b5 : UInt8
  b6 : UInt8
  b7 : UInt8
def F8.c (f : F8) : List Value := [.int .u8 (f.b0.toNat : Int), .int .u8 (f.b1.toNat : Int), .int .u8 (f.b2.toNat : Int), .int .u8 (f.b3.toNat : Int), .int .u8 (f.b4.toNat : Int), .int .u8 (f.b5.toNat : Int), .int .u8 (f.b6.toNat : Int), .int .u8 (f.b7.toNat : Int)]
def F8.arr (f : F8) : Array Value := f.c.toArray
def F8.l (f : F8) : List UInt8 := [f.b0, f.b1, f.b2, f.b3, f.b4, f.b5, f.b6, f.b7]
def F8.nul : F8 := ⟨0, 0, 0, 0, 0, 0, 0, 0⟩
theorem F8.size (f : F8) : f.arr.size = 8 := rfl
theorem F8.one (f : F8) : (f.arr.all fun x => x.oneCell') = true := by
  simp [F8.arr, F8.c, Value.oneCell']
/-- A frame of a first byte, a place and a number. -/
def frm (a ix sb n : Nat) : F8 := ⟨.ofNat a, .ofNat (ix % 256), .ofNat (ix / 256), .ofNat sb, .ofNat (n % 256), .ofNat (n / 256 % 256), .ofNat (n / 65536 % 256), .ofNat (n / 16777216)⟩
def pix (q : F8) : Nat := q.b1.toNat + 256 * q.b2.toNat
def psb (q : F8) : Nat := q.b3.toNat
def num4 (q : F8) : Nat := q.b4.toNat + 256 * q.b5.toNat + 65536 * q.b6.toNat + 16777216 * q.b7.toNat
theorem pix_lt (q : F8) : pix q < 65536 := by have := q.b1.toNat_lt; have := q.b2.toNat_lt; unfold pix; omega
theorem psb_lt (q : F8) : psb q < 256 := q.b3.toNat_lt
theorem num4_lt (q : F8) : num4 q < 4294967296 := by have := q.b4.toNat_lt; have := q.b5.toNat_lt; have := q.b6.toNat_lt; have := q.b7.toNat_lt; unfold num4; omega
theorem un (n : Nat) (h : n < 256) : ((UInt8.ofNat n).toNat : Int) = (n : Int) := by
  have : (UInt8.ofNat n).toNat = n := by simp; omega
  rw [this]
theorem frm_c (a ix sb n : Nat) (h0 : a < 256) (h1 : ix < 65536) (h2 : sb < 256) (h3 : n < 4294967296) : (frm a ix sb n).c = [.int .u8 (a : Int), .int .u8 ((ix : Int) % 256), .int .u8 ((ix : Int) / 256), .int .u8 (sb : Int), .int .u8 ((n : Int) % 256), .int .u8 ((n : Int) / 256 % 256), .int .u8 ((n : Int) / 65536 % 256), .int .u8 ((n : Int) / 16777216)] := by
  unfold F8.c frm
  simp only [un a h0, un (ix % 256) (by omega), un (ix / 256) (by omega), un sb h2, un (n % 256) (by omega), un (n / 256 % 256) (by omega), un (n / 65536 % 256) (by omega), un (n / 16777216) (by omega)]
  rfl
theorem infoA8s : (Tryz.prog.info? 32).map (·.size) = some 8 := by kernel_rfl
theorem infoSp : (Tryz.prog.info? 87).map (·.size) = some 2 := by kernel_rfl
theorem infoTr : (Tryz.prog.info? 89).map (·.size) = some 7 := by kernel_rfl
theorem infoFl : (Tryz.prog.info? 136).map (·.size) = some 3 := by kernel_rfl
/-- A frame in a block of its own. -/
def Qb (q : Nat) (f : F8) (w : World) : Prop := w.heap[q]? = some (.cells f.arr 32 (0, 0))
theorem Qb.new (w : World) (f : F8) : Qb w.heap.size f (w.alloc (.cells f.arr 32)) := heap_alloc_new w _
section
variable {q : Nat} {f : F8} {w x : World}
theorem Qb.lt (h : Qb q f w) : q < w.heap.size := (Array.getElem?_eq_some_iff.1 h).1
theorem Qb.below (h : Qb q f w) (hb : Below w.heap.size w x) : Qb q f x := (hb.block q h.lt).trans h
theorem Qb.c0 (h : Qb q f w) : w.cell? ⟨q, 0, none⟩ = some (.int .u8 (f.b0.toNat : Int)) := Lib.cell_of_heap h 0
theorem Qb.c1 (h : Qb q f w) : w.cell? ⟨q, 1, none⟩ = some (.int .u8 (f.b1.toNat : Int)) := Lib.cell_of_heap h 1
theorem Qb.c2 (h : Qb q f w) : w.cell? ⟨q, 2, none⟩ = some (.int .u8 (f.b2.toNat : Int)) := Lib.cell_of_heap h 2
theorem Qb.c3 (h : Qb q f w) : w.cell? ⟨q, 3, none⟩ = some (.int .u8 (f.b3.toNat : Int)) := Lib.cell_of_heap h 3
theorem Qb.c4 (h : Qb q f w) : w.cell? ⟨q, 4, none⟩ = some (.int .u8 (f.b4.toNat : Int)) := Lib.cell_of_heap h 4
theorem Qb.c5 (h : Qb q f w) : w.cell? ⟨q, 5, none⟩ = some (.int .u8 (f.b5.toNat : Int)) := Lib.cell_of_heap h 5
theorem Qb.c6 (h : Qb q f w) : w.cell? ⟨q, 6, none⟩ = some (.int .u8 (f.b6.toNat : Int)) := Lib.cell_of_heap h 6
theorem Qb.c7 (h : Qb q f w) : w.cell? ⟨q, 7, none⟩ = some (.int .u8 (f.b7.toNat : Int)) := Lib.cell_of_heap h 7
theorem Qb.rng (h : Qb q f w) : w.rangeAt q 0 f.c := fun j u hj => by
  rw [Lib.cell_of_heap h]
  simpa [F8.arr] using hj
theorem Qb.load (h : Qb q f w) : (loadVar 32 ⟨q, 0, none⟩).run Tryz.prog w = .ok (.agg f.arr) w :=
  run_loadVar_row w q 32 32 f.arr (0, 0) _ h Tryz.underlying32 rfl (by rw [f.size]; exact infoA8s)
end
section
variable {w : World} {ops : Array Oper} {rest : List Oper} {p : Oper} {a : Act} {Q : Exit → Act → World → Prop} {b : Nat}
/-- A load, told by its run. -/
theorem ldG {ty : TypeId} {ad : Addr} {v : Value} (hr : (loadVar ty ad).run Tryz.prog w = .ok v w) (hgd : Region.wanted p (yielded ops a.tmps) = true) (x : Operand) (ho : p.op = .load ty x) (hx : a.eval x = .pointer (some ad))
    (hh : wpList Tryz.prog ops Q rest (a.put p.dst v) w) : wpList Tryz.prog ops Q (p :: rest) a w := by
  refine BigFrame.wpList_want hgd fun K hK => ?_
  unfold Oper.wp execOp
  simp only [ho, hx, Instr.loadAt, Instr.sureAddr, Sem.run_bind, Sem.run_pure, Result.andThen_ok, hr]
  exact hK _ _ hh
/-- A store of a whole frame into its block. -/
theorem sdF {f g : F8} (h : Qb b f w) (hgd : p.guard = none) (x y : Operand) (ho : p.op = .store 32 x y) (hx : a.eval x = .pointer (some ⟨b, 0, none⟩)) (hy : a.eval y = .agg g.arr)
    (hh : wpList Tryz.prog ops Q rest (a.put p.dst undef) (w.setRow b g.arr)) : wpList Tryz.prog ops Q (p :: rest) a w :=
  wpList_store_row hgd 32 x y ho b g.arr hx hy 32 _ h (by rw [g.size]; exact infoA8s) rfl g.one hh
end
theorem Qb.row {q : Nat} {f : F8} {w : World} (h : Qb q f w) (g : F8) : Qb q g (w.setRow q g.arr) := setRow_heap w q f.arr _ 32 _ h
end Go.Proofs.YtahfnknbmikmkaaGreat
