/- Contracts of Stuff and of what it calls. -/
import Derived.Test.YtffajokpfobalaaBuild
import Derived.Test.YtffajokpfobalaaMathB
namespace Go.Proofs.Ytffajokpfobalaa
open Go.RowKit Go.Proofs.Bits
set_option linter.unusedVariables false
set_option maxRecDepth 1000000

theorem other_any (c : UInt8) (hc : c.toNat = 48 ∨ c.toNat = 49) (w : World) :
    Calls Try.prog 32 #[.int .i32 c.toNat] w fun e w' => e = .returned (.int .i32 (oth c).toNat) ∧ w' = w := by
  rcases hc with hc | hc
  · have H : Hid ((oth c).toNat = 49) := by
      show (oth c).toNat = 49
      rw [oth, if_pos (UInt8.toNat_inj.1 hc)]; rfl
    go_enter Try.func32, Try.ntmps32
    go_wp2
    go_ret
    exact ⟨ret_int (by rw [H.out]; rfl), rfl⟩
  · have H : Hid ((oth c).toNat = 48) := by
      show (oth c).toNat = 48
      rw [oth, if_neg (by intro e; rw [e] at hc; simp at hc)]; rfl
    go_enter Try.func32, Try.ntmps32
    go_wp2
    go_ret
    exact ⟨ret_int (by rw [H.out]; rfl), rfl⟩

theorem with_any (a c lv : Int) (h0 : 0 ≤ c) (h1 : c ≤ 1000) (w : World) :
    Calls Try.prog 31 #[.agg #[.int .i32 a, .int .i64 c], .int .i32 lv] w fun e w' => e = .returned (.agg #[.int .i32 lv, .int .i64 (if lv = a then c + 1 else 1)]) ∧ Below w.heap.size w w' := by
  by_cases h : lv = a
  · subst h
    rw [if_pos rfl]
    go_enter Try.func31, Try.ntmps31
    go_wp2
    exact bodyPost_ret (v := .agg #[.int .i32 lv, .int .i64 (c + 1)]) (by simp [results, Try.results31, go_sem]) rfl ⟨rfl, ((Below.refl _ _).alloc (Nat.le_refl _) _).alloc (by simp) _⟩
  · rw [if_neg h]
    have hn : (lv != a) = true := by simp [h]
    go_enter Try.func31, Try.ntmps31
    go_wp2
    exact bodyPost_ret (v := .agg #[.int .i32 lv, .int .i64 1]) (by simp [results, Try.results31, go_sem]) rfl ⟨rfl, ((Below.refl _ _).alloc (Nat.le_refl _) _).alloc (by simp) _⟩

theorem with_byte (acc : List UInt8) (lv : UInt8) (ct : Nat) (c : UInt8) (h : ct ≤ 10) (w : World) :
    Calls Try.prog 31 #[.agg #[.int .i32 lv.toNat, .int .i64 ct], .int .i32 c.toNat] w fun e w' => e = .returned (.agg #[.int .i32 c.toNat, .int .i64 (cnt (acc, lv, ct) c)]) ∧ Below w.heap.size w w' := by
  refine (with_any lv.toNat ct c.toNat (by omega) (by omega) w).mono ?_
  rintro e w1 ⟨rfl, hb⟩
  refine ⟨?_, hb⟩
  have : (if ((c.toNat : Int) = (lv.toNat : Int)) then ((ct : Int) + 1) else 1) = ((cnt (acc, lv, ct) c : Nat) : Int) := by
    unfold cnt
    by_cases e : c = lv
    · rw [if_pos e, if_pos (by rw [e])]; simp
    · rw [if_neg e, if_neg (fun h => e (UInt8.toNat_inj.1 (by omega)))]; simp
  rw [this]
/-- All blocks but that of r stand as they stood. -/
def But (r : Nat) (w w' : World) : Prop := ∀ k, k < w.heap.size → k ≠ r → w'.heap[k]? = w.heap[k]?
theorem at_other {T e : TypeId} {B b r : Nat} {p : Value} {bs : List Value} {w w' : World} (h : Lib.BuilderAtF T e B b p bs w) (hk : But r w w') (hr : ∀ c fz, w.heap[r]? ≠ some (.cells c T fz)) (hr2 : ∀ c fz, w.heap[r]? ≠ some (.cells c e fz)) : Lib.BuilderAtF T e B b p bs w' := by
  obtain ⟨hB, v, hb, hown, hne⟩ := h
  have lt : ∀ {k : Nat} {o : Obj}, w.heap[k]? = some o → k < w.heap.size := fun h => (Array.getElem?_eq_some_iff.1 h).1
  refine ⟨hB, v, ?_, ⟨hown.1, ?_⟩, hne⟩
  · rw [hk b (lt hb) (by rintro rfl; exact hr _ _ hb)]; exact hb
  · rcases hown.2 with hn | ⟨g, cap, cur, fz, hv, hbg, hg, rest⟩
    · exact .inl hn
    · refine .inr ⟨g, cap, cur, fz, hv, hbg, ?_, rest⟩
      rw [hk g (lt hg) (by rintro rfl; exact hr2 _ _ hg)]; exact hg
theorem is_other {T e : TypeId} {B b r : Nat} {bs : List Value} {w w' : World} (h : Lib.IsBuilderF T e B b bs w) (hk : But r w w') (hr : ∀ c fz, w.heap[r]? ≠ some (.cells c T fz)) (hr2 : ∀ c fz, w.heap[r]? ≠ some (.cells c e fz)) : Lib.IsBuilderF T e B b bs w' :=
  h.elim (fun x => .inl (at_other x hk hr hr2)) (fun x => .inr (at_other x hk hr hr2))
theorem heap_set2 {w : World} {r : Nat} {x y x' y' : Value} {T : TypeId} (h : w.heap[r]? = some (.cells #[x, y] T (0, 0))) :
    ((w.setCell ⟨r, 0, none⟩ x').setCell ⟨r, 1, none⟩ y').heap[r]? = some (.cells #[x', y'] T (0, 0)) := by
  simp [World.setCell, Array.getElem?_modify, h]
theorem but_set2 (w : World) (r : Nat) (x' y' : Value) : But r w ((w.setCell ⟨r, 0, none⟩ x').setCell ⟨r, 1, none⟩ y') := by
  intro k hk hne
  rw [Below.heap_setCell _ _ _ _ hne, Below.heap_setCell _ _ _ _ hne]


theorem But.below {r : Nat} {w w' : World} (h : Below w.heap.size w w') : But r w w' := fun k hk _ => h.block k hk

/-- A Builder, the row's two cells behind it, the iterator behind that; all older blocks stand. -/
def Inv (w1 : World) (s : ByteArray) (acc : List UInt8) (lv : UInt8) (ct pos : Nat) (wr : World) : Prop :=
  Lib.IsBuilderF 48 5 w1.heap.size w1.heap.size (Lib.byteCells acc) wr ∧ wr.heap[w1.heap.size + 1]? = some (.cells #[.int .i32 lv.toNat, .int .i64 ct] 76 (0, 0)) ∧ wr.heap[w1.heap.size + 2]? = some (.stringIter s pos) ∧ Below w1.heap.size w1 wr
section
variable {w1 wr w' : World} {s : ByteArray} {acc : List UInt8} {lv : UInt8} {ct pos : Nat}
theorem Inv.lt (h : Inv w1 s acc lv ct pos wr) : w1.heap.size + 2 < wr.heap.size := (Array.getElem?_eq_some_iff.1 h.2.2.1).1
theorem Inv.next (h : Inv w1 s acc lv ct pos wr) (pos' : Nat) : Inv w1 s acc lv ct pos' (wr.iterAt (w1.heap.size + 2) s pos') :=
  ⟨h.1.iterAt h.2.2.1 _, (Lib.iterAt_other wr (w1.heap.size + 2) (w1.heap.size + 1) s pos' (by omega)).trans h.2.1, Lib.iterAt_heap wr (w1.heap.size + 2) s pos pos' h.2.2.1, Lib.below_iterAt h.2.2.2 (k := w1.heap.size + 2) (by omega) s pos'⟩
theorem Inv.write (h : Inv w1 s acc lv ct pos wr) (c : UInt8) (h7 : c.toNat ≤ 127) (hl : acc.length ≤ 1000000) :
    Calls Try.prog 30 #[.pointer (some ⟨w1.heap.size, 0, none⟩), .int .i32 c.toNat] wr fun e w' => e = .returned (.tuple #[.int .i64 1, .nilIface]) ∧ Inv w1 s (acc ++ [c]) lv ct pos w' := by
  have := h.lt
  refine (WriteRune_byte w1.heap.size w1.heap.size acc c _ rfl h7 wr h.1 (by omega) (by omega)).mono ?_
  rintro e w2 ⟨rfl, h3, b3, k3⟩
  exact ⟨rfl, h3, k3 _ _ h.2.1 (by simp) (by simp), k3.iter h.2.2.1 (by omega), h.2.2.2.trans b3⟩
theorem Inv.below (h : Inv w1 s acc lv ct pos wr) (hb : Below wr.heap.size wr w') : Inv w1 s acc lv ct pos w' := by
  have := h.lt
  exact ⟨is_other (r := w1.heap.size + 1) h.1 (But.below hb) (by rw [h.2.1]; simp) (by rw [h.2.1]; simp), (hb.block _ (by omega)).trans h.2.1, (hb.block _ (by omega)).trans h.2.2.1, h.2.2.2.trans (hb.mono (by omega))⟩
theorem Inv.row (h : Inv w1 s acc lv ct pos wr) (lv' : UInt8) (ct' : Nat) : Inv w1 s acc lv' ct' pos ((wr.setCell ⟨w1.heap.size + 1, 0, none⟩ (.int .i32 lv'.toNat)).setCell ⟨w1.heap.size + 1, 1, none⟩ (.int .i64 ct')) := by
  have := h.lt
  exact ⟨is_other (r := w1.heap.size + 1) h.1 (but_set2 _ _ _ _) (by rw [h.2.1]; simp) (by rw [h.2.1]; simp), heap_set2 h.2.1, (but_set2 wr (w1.heap.size + 1) _ _ (w1.heap.size + 2) (by omega) (by omega)).trans h.2.2.1, (h.2.2.2.setCell (p := ⟨w1.heap.size + 1, 0, none⟩) (by show w1.heap.size ≤ w1.heap.size + 1; omega) _).setCell (p := ⟨w1.heap.size + 1, 1, none⟩) (by show w1.heap.size ≤ w1.heap.size + 1; omega) _⟩
theorem Inv.cells (h : Inv w1 s acc lv ct pos wr) : (wr.cell? ⟨w1.heap.size + 1, 0, none⟩ = some (.int .i32 lv.toNat) ∧ wr.cell? ⟨w1.heap.size + 1, 1, none⟩ = some (.int .i64 ct)) ∧ wr.frozen? ⟨w1.heap.size + 1, 0, none⟩ = false ∧ wr.frozen? ⟨w1.heap.size + 1, 1, none⟩ = false :=
  ⟨⟨by rw [Lib.cell_of_heap h.2.1]; rfl, by rw [Lib.cell_of_heap h.2.1]; rfl⟩, Lib.frozen_of_heap h.2.1 0, Lib.frozen_of_heap h.2.1 1⟩
theorem Inv.place (h : Inv w1 s acc lv ct pos wr) : wr.iterPos (w1.heap.size + 2) = pos := by simp [World.iterPos, h.2.2.1]
end
theorem Inv.start (w1 : World) (s : ByteArray) : Inv w1 s [] 0 0 0 (((w1.alloc (.cells #[.pointer none, .slice none 0 0] 48)).alloc (.cells #[.int .i32 0, .int .i64 0] 76)).iter s 0) := by
  refine ⟨((Lib.IsBuilderF.of (Lib.fresh_isBuilder 48 5 w1)).alloc _).alloc _, ?_, ?_, (((Below.refl _ w1).alloc (Nat.le_refl _) _).alloc (by simp) _).alloc (by simp; omega) _⟩
  · show (((w1.heap.push (.cells #[.pointer none, .slice none 0 0] 48)).push (.cells #[.int .i32 0, .int .i64 0] 76)).push (.stringIter s 0))[w1.heap.size + 1]? = _
    rw [Array.getElem?_push, if_neg (by simp), Array.getElem?_push, if_pos (by simp)]
    rfl
  · have := World.iter_heap ((w1.alloc (.cells #[.pointer none, .slice none 0 0] 48)).alloc (.cells #[.int .i32 0, .int .i64 0] 76)) s 0
    simpa using this

set_option maxHeartbeats 4000000 in
set_option maxRecDepth 1000000 in
theorem Stuff_ok (s : ByteArray) (w : World) (h0 : err s.data.toList = 0) :
    Calls Try.prog 15 #[.string s] w fun e w' => e = .returned (.tuple #[.string ⟨(stuff s.data.toList).toArray⟩, .int .i64 0]) ∧ Below w.heap.size w w' := by
  obtain ⟨hl, hall⟩ := err_zero h0
  have hs : s.size ≤ 65536 := by simpa using hl
  have H0 : Hid (err s.data.toList = 0) := h0
  clear h0 hl
  go_enter Try.func15, Try.ntmps15
  go_wp2_with (go_at_call 29; refine (look_any s _).mono ?_; rintro e w1 ⟨rfl, hb⟩; rw [H0.out])
  go_loopw [] (fun wr => ∃ (pos : Nat), pos ≤ s.size ∧ Inv w1 s (st (s.data.toList.take pos)).1 (st (s.data.toList.take pos)).2.1 (st (s.data.toList.take pos)).2.2 pos wr) (fun wr => s.size - wr.iterPos (w1.heap.size + 2))
  case atStart => exact ⟨0, Nat.zero_le _, Inv.start w1 s⟩
  case round =>
    obtain ⟨pos, hle, hI⟩ := hrel
    by_cases hp : pos < s.size
    · have hbit := all_at hall pos hp
      have HS : Hid (st (s.data.toList.take (pos + 1)) = stStep (st (s.data.toList.take pos)) s[pos]) := by
        show st _ = _
        rw [take_snoc s pos hp, st_snoc]
      have hcn := st_count (s.data.toList.take pos)
      have hln := st_length (s.data.toList.take pos)
      have hlt : (s.data.toList.take pos).length ≤ pos := List.length_take_le _ _
      generalize st (s.data.toList.take pos) = t at hcn hln HS hI
      obtain ⟨acc, lv, ct⟩ := t
      simp only at hcn hln HS hI
      have hit := hI.2.2.1
      have hpo := hI.place
      have hnx : ∀ ty, (Instr.next (.pointer (some ⟨w1.heap.size + 2, 0, none⟩)) true ty).run Try.prog wr = _ := fun ty => Lib.run_next_ascii_at wr (w1.heap.size + 2) s pos ty hit hp (by omega)
      have hI2 := hI.next (pos + 1)
      go_wp2_with (go_at_call 30; refine (hI2.write s[pos] (by omega) (by omega)).mono ?_)
      rintro e w2 ⟨rfl, hI3⟩
      obtain ⟨⟨c0, c1⟩, f0, f1⟩ := hI3.cells
      go_wp2_with (go_at_call 31; refine (with_byte acc lv ct s[pos] (by omega) _).mono ?_)
      rintro e w3 ⟨rfl, b4⟩
      have hI4 := hI3.below b4
      clear c0 c1 f0 f1
      obtain ⟨⟨c0, c1⟩, f0, f1⟩ := hI4.cells
      have hcl := cnt_le (acc, lv, ct) s[pos] hcn
      by_cases h5 : cnt (acc, lv, ct) s[pos] = 5
      · rw [stStep_full h5] at HS
        rw [h5]
        have hI5 := hI4.row s[pos] 5
        go_wp2_with (go_at_call 32; refine (other_any s[pos] hbit _).mono ?_)
        rintro e w4 ⟨rfl, rfl⟩
        have ho := oth_bit s[pos]
        go_wp2_with (go_at_call 30; refine (hI5.write (oth s[pos]) (by omega) (by simp; omega)).mono ?_)
        rintro e w5 ⟨rfl, hI6⟩
        clear c0 c1 f0 f1
        obtain ⟨⟨c0, c1⟩, f0, f1⟩ := hI6.cells
        have hc1 : cnt (acc, s[pos], 5) (oth s[pos]) = 1 := by simp [cnt, oth_ne]
        go_wp2_with (go_at_call 31; refine (with_byte acc s[pos] 5 (oth s[pos]) (by omega) _).mono ?_)
        rintro e w6 ⟨rfl, b7⟩
        have hI7 := hI6.below b7
        clear c0 c1 f0 f1
        obtain ⟨⟨c0, c1⟩, f0, f1⟩ := hI7.cells
        have hI8 := hI7.row (oth s[pos]) 1
        rw [hc1]
        go_wp2
        go_roundw
        case rel => exact ⟨pos + 1, by omega, by rw [HS.out]; exact hI8⟩
        case measure =>
          have hpl := hI8.place
          simp only [Int.natCast_one] at hpl
          rw [hpl, hpo]; omega
      · rw [stStep_open h5] at HS
        have h5b : ((cnt (acc, lv, ct) s[pos] : Int) == 5) = false := by simp; omega
        generalize cnt (acc, lv, ct) s[pos] = n at hcl h5 h5b HS
        have hI5 := hI4.row s[pos] n
        go_wp2
        go_roundw
        case rel => exact ⟨pos + 1, by omega, by rw [HS.out]; exact hI5⟩
        case measure => rw [hI5.place, hpo]; omega
    · have hit := hI.2.2.1
      have hnx : ∀ ty, (Instr.next (.pointer (some ⟨w1.heap.size + 2, 0, none⟩)) true ty).run Try.prog wr = _ := fun ty => Lib.run_next_end_at wr (w1.heap.size + 2) s pos ty hit hp
      have hlt := hI.lt
      go_wp2_with (go_at_call 16; refine (Try.Builder_String_any_k w1.heap.size w1.heap.size _ _ hI.1 (by omega)).mono ?_)
      rintro e w2 ⟨rfl, _, b2, _⟩
      go_wp2
      go_ret2
      obtain rfl : pos = s.size := by omega
      rw [take_all]
      exact ⟨rfl, hb.trans ((hI.2.2.2.trans b2).mono hb.size)⟩

theorem Stuff_any (s : ByteArray) (w : World) :
    Calls Try.prog 15 #[.string s] w fun e w' => e = .returned (.tuple #[.string ⟨(stuffV s.data.toList).toArray⟩, .int .i64 (err s.data.toList)]) ∧ Below w.heap.size w w' := by
  by_cases h0 : err s.data.toList = 0
  · rw [stuffV, if_pos h0, h0]
    exact Stuff_ok s w h0
  · have HF : Hid (stuffV s.data.toList = []) := by show stuffV _ = []; simp [stuffV, h0]
    have hn : (err s.data.toList != 0) = true := by simp [h0]
    go_enter Try.func15, Try.ntmps15
    go_wp2_with (go_at_call 29; refine (look_any s _).mono ?_; rintro e w1 ⟨rfl, hb⟩)
    go_ret2
    refine ⟨?_, hb⟩
    rw [HF.out]
    rfl
end Go.Proofs.Ytffajokpfobalaa
