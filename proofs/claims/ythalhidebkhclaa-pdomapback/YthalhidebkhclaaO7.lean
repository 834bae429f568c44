/- Contracts: itemsOf, and the library's sorting of nothing. -/
import Derived.Test.YthalhidebkhclaaO6
import Derived.Test.YthalhidebkhclaaShelf
namespace Go.Proofs.Ythalhidebkhclaa
open Go.RowKit Go.Proofs.Ty Go.Sort Go.Lib
set_option linter.unusedVariables false
set_option maxRecDepth 1000000
set_option linter.unusedSimpArgs false
theorem ins_zero (p : Option Addr) (cap : Nat) (fv : Value) (w : World) : Calls Try.prog 72 #[.slice p 0 cap, .int .i64 0, .int .i64 0, fv] w fun e w' => e = .returned (.tuple #[]) ∧ w' = w := by
  go_enter Try.func72, Try.ntmps72
  go_wp2
  go_loopw [8] (fun i x => i = .int .i64 1 ∧ x = w) (fun _ _ => 0)
  case atStart => exact ⟨rfl, rfl⟩
  case round =>
    obtain ⟨rfl, rfl⟩ := hrel
    go_wp2
    go_end0
    exact ⟨rfl, rfl⟩
theorem pdq_zero (p : Option Addr) (cap : Nat) (lim : Int) (fv : Value) (w : World) : Calls Try.prog 61 #[.slice p 0 cap, .int .i64 0, .int .i64 0, .int .i64 lim, fv] w fun e w' => e = .returned (.tuple #[]) ∧ w' = w := by
  have hi := ins_zero p cap fv
  go_enter Try.func61, Try.ntmps61
  go_wp2
  refine wp_loop_rounds 1 ?_
  rw [rounds_succ]
  go_wp2_with (go_at_call 72; refine (hi _).mono ?_; rintro e w' ⟨rfl, rfl⟩)
  (try simp only [Exit.inBlock, Exit.then]); refine bodyPost_ret (results_none rfl _ _ _) rfl ?_
  exact ⟨rfl, rfl⟩
theorem len64_zero (w : World) : Calls Try.prog 81 #[.int .u64 0] w fun e w' => e = .returned (.int .i64 0) ∧ w' = w := by
  go_enter Try.func81, Try.ntmps81
  go_wp2
  go_ret
  exact ⟨ret_int (by kernel_rfl), rfl⟩
theorem len_zero (w : World) : Calls Try.prog 62 #[.int .u64 0] w fun e w' => e = .returned (.int .i64 0) ∧ w' = w := by
  have h := len64_zero
  go_enter Try.func62, Try.ntmps62
  go_wp2_with (go_at_call 81; refine (h _).mono ?_; rintro e w' ⟨rfl, rfl⟩)
  go_ret
  exact ⟨rfl, rfl⟩
theorem sort_zero (p : Option Addr) (cap : Nat) (fv : Value) (w : World) : Calls Try.prog 47 #[.slice p 0 cap, fv] w fun e w' => e = .returned (.tuple #[]) ∧ w' = w := by
  have h1 := len_zero
  have h2 := fun lim => pdq_zero p cap lim fv
  go_enter Try.func47, Try.ntmps47
  go_wp2_with (first | (go_at_call 62; refine (h1 _).mono ?_; rintro e w' ⟨rfl, rfl⟩) | (go_at_call 61; refine (h2 _ _).mono ?_; rintro e w' ⟨rfl, rfl⟩))
  go_end0
  exact ⟨rfl, rfl⟩
theorem enterS : ∀ args x, (callFunc 48 args).run Try.prog x = .ok (.enter 48 args) x := fun _ _ => by rfl
theorem enterF1 : ∀ args x, (callFunc 40 args).run Try.prog x = .ok (.enter 40 args) x := fun _ _ => by rfl
theorem enterF2 : ∀ args x, (callFunc 44 args).run Try.prog x = .ok (.enter 44 args) x := fun _ _ => by rfl
/-- Items in order. -/
structure Srt (w : World) (R : Nat) (its : List Im) (l : List En) (x : World) : Prop where
  row : x.heap[R]? = some (.cells (ptrs its).toArray 72 (0, 0))
  items : ∀ i ∈ its, Ib i.b i.e i.v x
  vals : ∀ i ∈ its, i.v = i.e.df
  apart : (its.map Im.b).Nodup
  sorted : its.Pairwise (fun a b => a.e.pl < b.e.pl)
  perm : (its.map Im.e).Perm (l.map En.plain)
  base : w.heap.size ≤ R ∧ ∀ i ∈ its, R < i.b
  below : Below w.heap.size w x
theorem pl_plain (e : En) : e.plain.pl = e.pl := rfl
theorem plains (l : List En) : (l.map En.plain).map En.pl = l.map En.pl := by rw [List.map_map]; rfl
theorem sort_its {w x : World} {R : Nat} {l : List En} {its : List Im} (h : Mk w R l l.length its x) (hn : (l.map En.pl).Nodup) (hl : l.length ≤ 1024) :
    Calls Try.prog 47 #[.slice (some ⟨R, 0, none⟩) l.length l.length, .func (.func 48) #[] #[]] x fun e w' => e = .returned (.tuple #[]) ∧ ∃ its', Srt w R its' l w' := by
  have hrow := h.row
  rw [Nat.sub_self, List.replicate_zero, List.append_nil] at hrow
  have hents := h.ents
  rw [List.take_length] at hents
  have hlen := h.len
  have hpl : (its.map (fun i : Im => i.e.pl)) = l.map En.pl := by
    rw [← plains, ← hents, List.map_map]; rfl
  by_cases h0 : its = []
  · subst h0
    have : l = [] := List.eq_nil_of_length_eq_zero (by simpa using hlen.symm)
    subst this
    refine (sort_zero _ _ _ _).mono ?_
    rintro e w' ⟨rfl, rfl⟩
    exact ⟨rfl, [], hrow, (fun i hi => by simp at hi), (fun i hi => by simp at hi), by simp, .nil, by simp, ⟨h.base, fun i hi => by simp at hi⟩, h.below⟩
  · obtain ⟨i0, hi0⟩ := List.exists_mem_of_ne_nil its h0
    haveI : Inhabited (Am its) := ⟨⟨i0, hi0⟩⟩
    have hne : ∀ i ∈ its, i.b ≠ R := fun i hi => by have := h.fresh i hi; omega
    have hcmp : CmpLays1 Try.prog 48 #[] (encA (its := its)) cfA R 0 (arrA its).size x := by
      intro m os dk hdk a b
      have ha := (h.items a.1 a.2).same (sortWorld_block encA x R 0 m dk os a.1.b (hne _ a.2) (h.items a.1 a.2).lt)
      have hb := (h.items b.1 b.2).same (sortWorld_block encA x R 0 m dk os b.1.b (hne _ b.2) (h.items b.1 b.2).lt)
      refine (sort_cmp ha hb).mono ?_
      rintro e w' ⟨rfl, n, rfl⟩
      exact ⟨rfl, n, #[], by rw [grow_empty]⟩
    have hcon := Any.slices_SortFunc Try.sortL encA one_encA cfA swoA 48 #[] R 0 l.length (arrA its) x enterS hcmp (holdsA hrow) h.lt (by rw [arrA_size]; omega)
    rw [arrA_size, hlen] at hcon
    change Calls Try.prog 47 _ _ _ at hcon
    refine hcon.mono ?_
    rintro e w' ⟨rfl, d', n, os, hp, hs, rfl⟩
    rw [← hlen, ← arrA_size its] at hp hs
    have hsz := hp.1
    have hpm := perm_its (perm_all hp)
    have hnd : ((d'.toList.map (·.1)).map (fun i : Im => i.e.pl)).Nodup := by
      refine (hpm.map _).nodup_iff.2 ?_
      rw [hpl]; exact hn
    refine ⟨rfl, d'.toList.map (·.1), ?_, ?_, ?_, ?_, ?_, ?_, ⟨h.base, ?_⟩, ?_⟩
    · exact sortWorld_row x R n d' os hrow (by rw [hsz, arrA_size]) rfl
    · intro i hi
      have hi := hpm.mem_iff.1 hi
      exact (h.items i hi).same (sortWorld_block encA x R 0 n d' os i.b (hne i hi) (h.items i hi).lt)
    · exact fun i hi => h.vals i (hpm.mem_iff.1 hi)
    · exact (hpm.map Im.b).nodup_iff.2 h.apart
    · exact sorted_its hs hsz hnd
    · rw [← hents]; exact hpm.map Im.e
    · exact fun i hi => h.fresh i (hpm.mem_iff.1 hi)
    · exact h.below.grown (sortWorld_grown encA x R 0 n d' os) h.below.size (fun j hj => by cases hj; exact h.base)
end Go.Proofs.Ythalhidebkhclaa
