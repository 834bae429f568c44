/- The contract of Wired. -/
import Derived.Test.YthcigoijkohihaaSlots
import Derived.Test.YthcigoijkohihaaMathW
import Derived.Test.YthcigoijkohihaaStuff
namespace Go.Proofs.Ythcigoijkohihaa
open Go.RowKit Go.Proofs.Bits
set_option linter.unusedVariables false
set_option maxRecDepth 1000000

theorem info21 : (Try.prog.info? 21).map (fun i => (i.zero, i.size, i.bytes)) = some (some (.int .i32 0), 1, 4) := by kernel_rfl
/-- The texts as bytes. -/
def txt (ls : List ByteArray) : List (List UInt8) := ls.map fun s => s.data.toList
theorem txt_length (ls : List ByteArray) : (txt ls).length = ls.length := by simp [txt]
theorem txt_take (ls : List ByteArray) (k : Nat) : (txt ls).take k = txt (ls.take k) := by simp [txt, List.map_take]
theorem txt_next (ls : List ByteArray) (k : Nat) (h : k < ls.length) : txt (ls.take (k + 1)) = txt (ls.take k) ++ [ls[k].data.toList] := by
  rw [ltake_snoc ls k h]; unfold txt; rw [List.map_append]; rfl
def runes (n : Nat) (F : Nat → UInt8) : List Value := runeCells ((List.range n).map F)
theorem runes_length (n : Nat) (F : Nat → UInt8) : (runes n F).length = n := by simp [runes, runeCells]
theorem runes_set (n p : Nat) (F : Nat → UInt8) (v : UInt8) : (runes n F).set p (.int .i32 v.toNat) = runes n fun j => if j = p then v else F j := by
  unfold runes runeCells
  rw [← map_set_range, List.map_set]
theorem runes_congr {n : Nat} {F G : Nat → UInt8} (h : ∀ j, j < n → F j = G j) : runes n F = runes n G := by
  unfold runes
  congr 1
  apply List.map_congr_left
  intro j hj
  exact h j (by simpa using hj)
theorem runes_made (n : Nat) : List.replicate n (Value.int .i32 0) = runes n fun _ => 0 := by
  apply List.ext_getElem
  · simp [runes_length]
  · intro i h1 h2; simp [runes, runeCells]

set_option maxHeartbeats 2000000 in
set_option maxRecDepth 1000000 in
theorem Wired_any (v : Value) (ls : List ByteArray) (w : World) (hS : Slots w v (ls.map Value.string)) (hz : ls.length ≤ 140737488355328) :
    Calls Try.prog 54 #[v] w fun e w' => e = .returned (.tuple #[.string ⟨(wiredV (txt ls)).toArray⟩, .int .i64 (errs (txt ls))]) ∧ Below w.heap.size w w' := by
  obtain ⟨ao, cap, rfl, HAT⟩ := hS.map
  clear hS
  obtain ⟨i0, hi, hz0, hz1, hz2⟩ := info_parts info21
  go_enter Try.func54, Try.ntmps54
  go_wp2_with fail
  go_loopw [4, 16] (fun m i wr => ∃ k : Nat, k ≤ ls.length ∧ i = .int .i64 k ∧ m = .int .i64 (longest (txt (ls.take k))) ∧ errs (txt (ls.take k)) = 0 ∧ Below w.heap.size w wr) (fun _ i _ => ls.length - (intOf i).toNat)
  case atStart => exact ⟨0, Nat.zero_le _, rfl, rfl, rfl, Below.refl _ _⟩
  case round =>
    obtain ⟨k, hk, rfl, rfl, he, hb⟩ := hrel
    by_cases hkl : k < ls.length
    · obtain ⟨b, off, rfl, hcat⟩ := HAT wr hb k hkl
      by_cases h0 : err ls[k].data.toList = 0
      · have H0 : Hid (err ls[k].data.toList = 0) := h0
        have HE : Hid (errs (txt (ls.take (k + 1))) = 0) := by
          show errs _ = 0
          rw [txt_next ls k hkl]; exact errs_snoc he h0
        have HM : Hid (longest (txt (ls.take (k + 1))) = max (longest (txt (ls.take k))) ls[k].size) := by
          show longest _ = _
          rw [txt_next ls k hkl, longest_snoc, size_len]
        have hsz : ls[k].size ≤ 65536 := by have := (err_zero h0).1; rw [size_len] at this; exact this
        have hm : longest (txt (ls.take k)) ≤ 65536 := longest_bound _ _ (fun l hl => (err_zero (errs_zero.1 he l hl)).1)
        clear h0 he
        generalize longest (txt (ls.take k)) = m at *
        go_wp2_with (go_at_call 55; refine (look_any ls[k] _).mono ?_; rintro e w1 ⟨rfl, hb1⟩; rw [H0.out])
        go_roundw
        case rel => exact ⟨k + 1, by omega, by go_num, val_int (by rw [HM.out]; omega), HE.out, hb.trans (hb1.mono hb.size)⟩
        case measure => simp [intOf]; omega
      · have HE : Hid (errs (txt ls) = err ls[k].data.toList) := by
          show errs _ = _
          have hk2 : k < (txt ls).length := by rw [txt_length]; exact hkl
          have e1 : (txt ls)[k] = ls[k].data.toList := by simp [txt]
          rw [errs_take hk2 (by rw [txt_take]; exact he) (by rw [e1]; exact h0), e1]
        have hn : (err ls[k].data.toList != 0) = true := by rw [bne_iff_ne]; exact h0
        have HV : Hid (wiredV (txt ls) = []) := by
          show wiredV _ = []
          rw [wiredV, if_neg (by rw [HE.out]; exact h0)]
        clear h0 he
        go_wp2_with (go_at_call 55; refine (look_any ls[k] _).mono ?_; rintro e w1 ⟨rfl, hb1⟩)
        go_ret2
        refine ⟨?_, hb.trans (hb1.mono hb.size)⟩
        rw [HV.out, HE.out]
        rfl
    · obtain rfl : k = ls.length := by omega
      rw [List.take_length] at he ⊢
      have hn : longest (txt ls) ≤ 65536 := longest_bound _ _ (fun l hl => (err_zero (errs_zero.1 he l hl)).1)
      have HE : Hid (errs (txt ls) = 0) := he
      have HV : Hid (wiredV (txt ls) = (List.range (longest (txt ls))).map fun j => lvl (has (txt ls) j)) := by
        show wiredV _ = _
        rw [wiredV, if_pos he]; rfl
      have HLEN : Hid (∀ k (h : k < ls.length), ls[k].size ≤ longest (txt ls)) := by
        intro k h
        rw [← size_len]
        exact longest_le _ _ (by simp only [txt, List.mem_map]; exact ⟨ls[k], List.getElem_mem h, rfl⟩)
      have HBIT : Hid (∀ k (h : k < ls.length), ls[k].data.toList.all isBit = true) := by
        intro k h
        exact (err_zero (errs_zero.1 he _ (by simp only [txt, List.mem_map]; exact ⟨ls[k], List.getElem_mem h, rfl⟩))).2
      clear he hkl hk
      generalize longest (txt ls) = n at *
      obtain ⟨W, hW⟩ : ∃ W, W = wr := ⟨wr, rfl⟩
      subst hW
      go_wp2_with (at_make; refine wpList_make_row _ rfl _ _ 107 rfl 21 i0 (.int .i32 0) Try.underlying107 hi hz0 hz1 rfl .i64 .i64 n rfl rfl (by rw [hz2]; omega) (by omega) ?_)
      have hR0 := Row.made W (.int .i32 0) n 21
      rw [runes_made] at hR0
      go_loopw [33] (fun i x => ∃ k : Nat, k ≤ n ∧ i = .int .i64 k ∧ Row x W.heap.size (runes n fun j => if j < k then 49 else 0) ∧ Below W.heap.size W x) (fun i _ => n - (intOf i).toNat)
      case atStart => exact ⟨0, Nat.zero_le _, rfl, by simpa using hR0, (Below.refl _ _).alloc (Nat.le_refl _) _⟩
      case round =>
        obtain ⟨k, hk, rfl, hR, hb2⟩ := hrel
        by_cases hkn : k < n
        · have hcell := hR.cell k (by rw [runes_length]; exact hkn)
          have hfree := hR.free k (by rw [runes_length]; exact hkn)
          have hR2 := hR.set k (.int .i32 (49 : UInt8).toNat)
          rw [runes_set] at hR2
          have hR3 : Row (wr.setCell ⟨W.heap.size, k, none⟩ (.int .i32 49)) W.heap.size (runes n fun j => if j < k + 1 then 49 else 0) := by
            rw [runes_congr (G := fun j => if j = k then 49 else if j < k then 49 else 0)]
            · exact hR2
            · intro j _
              by_cases e : j = k
              · subst e; simp
              · have : (j < k + 1) = (j < k) := by rw [eq_iff_iff]; omega
                simp [e, this]
          clear hR2 hR0
          go_wp2
          go_roundw
          case rel => exact ⟨k + 1, by omega, by go_num, hR3, hb2.setCell (p := ⟨W.heap.size, k, none⟩) (Nat.le_refl _) _⟩
          case measure => simp [intOf]; omega
        · obtain rfl : k = n := by omega
          have hR1 : Row wr W.heap.size (runes k fun j => lvl (has (txt (ls.take 0)) j)) := by
            rw [runes_congr (G := fun j => if j < k then 49 else 0)]
            · exact hR
            · intro j hj; simp [hj, lvl, has, txt]
          obtain ⟨n, hn'⟩ : ∃ n, n = k := ⟨k, rfl⟩
          subst hn'
          clear hR hR0 hkn hk
          go_wp2_with fail
          go_loopw [42] (fun i x => ∃ k : Nat, k ≤ ls.length ∧ i = .int .i64 k ∧ Row x W.heap.size (runes n fun j => lvl (has (txt (ls.take k)) j)) ∧ Below W.heap.size W x) (fun i _ => ls.length - (intOf i).toNat)
          case atStart => exact ⟨0, Nat.zero_le _, rfl, hR1, hb2⟩
          case round =>
            clear hb2 hR1
            obtain ⟨k, hk, rfl, hR, hb2⟩ := hrel
            by_cases hkl : k < ls.length
            · have hbw : Below w.heap.size w wr := hb.trans (hb2.mono hb.size)
              obtain ⟨b, off, rfl, hcat⟩ := HAT wr hbw k hkl
              have hall := HBIT.out k hkl
              have hsn := HLEN.out k hkl
              have HT : Hid (txt (ls.take (k + 1)) = txt (ls.take k) ++ [ls[k].data.toList]) := txt_next ls k hkl
              generalize ls[k] = s at hcat hall hsn HT
              generalize txt (ls.take k) = T at hR HT
              have hgK := hR.lt
              obtain ⟨V, hV⟩ : ∃ V, V = wr := ⟨wr, rfl⟩
              subst hV
              have hR2 : Row (V.iter s 0) W.heap.size (runes n (half T s.data.toList 0)) := by
                rw [runes_congr (G := fun j => lvl (has T j)) (fun j _ => half_zero T s.data.toList j)]
                exact hR.kept (Below.heap_alloc _ _ _ hgK)
              have hitz := World.iter_heap V s 0
              clear hR
              go_wp2_with fail
              go_loopw [] (fun x => ∃ p : Nat, p ≤ s.size ∧ Row x W.heap.size (runes n (half T s.data.toList p)) ∧ x.heap[V.heap.size]? = some (.stringIter s p) ∧ Below W.heap.size W x) (fun x => s.size - x.iterPos V.heap.size)
              case atStart => exact ⟨0, Nat.zero_le _, hR2, hitz, hb2.alloc (by omega) _⟩
              case round =>
                clear hR2 hitz
                obtain ⟨p, hp, hR, hit, hb3⟩ := hrel
                by_cases hps : p < s.size
                · have hbit := all_at hall p hps
                  have hnx : ∀ ty, (Instr.next (.pointer (some ⟨V.heap.size, 0, none⟩)) true ty).run Try.prog wr = _ := fun ty => Lib.run_next_ascii_at wr V.heap.size s p ty hit hps (by omega)
                  have hRi := hR.kept (Lib.iterAt_other wr V.heap.size W.heap.size s (p + 1) (by omega))
                  have hit2 := Lib.iterAt_heap wr V.heap.size s p (p + 1) hit
                  have hb4 := Lib.below_iterAt hb3 (k := V.heap.size) (by omega) s (p + 1)
                  have hpos : wr.iterPos V.heap.size = p := by simp [World.iterPos, hit]
                  have hcell := hRi.cell p (by rw [runes_length]; omega)
                  have hfree := hRi.free p (by rw [runes_length]; omega)
                  have hge : s.data.toList[p]? = some s[p] := by
                    rw [List.getElem?_eq_getElem (by rw [size_len]; exact hps)]; rfl
                  by_cases h48 : s[p].toNat = 48
                  · have hR5 := hRi.set p (.int .i32 (48 : UInt8).toNat)
                    rw [runes_set] at hR5
                    have e48 : s[p] = 48 := UInt8.toNat_inj.1 h48
                    have hR6 : Row ((wr.iterAt V.heap.size s (p + 1)).setCell ⟨W.heap.size, p, none⟩ (.int .i32 48)) W.heap.size (runes n (half T s.data.toList (p + 1))) := by
                      rw [runes_congr (G := fun j => if j = p then 48 else half T s.data.toList p j)]
                      · exact hR5
                      · intro j _
                        rw [half_next, hge, e48]
                        simp
                    have hit6 : ((wr.iterAt V.heap.size s (p + 1)).setCell ⟨W.heap.size, p, none⟩ (.int .i32 48)).heap[V.heap.size]? = some (.stringIter s (p + 1)) := by
                      rw [Below.heap_setCell _ _ _ _ (by show V.heap.size ≠ W.heap.size; omega)]; exact hit2
                    clear hR5 e48 hR hge
                    go_wp2
                    go_roundw
                    case rel => exact ⟨p + 1, by omega, hR6, hit6, hb4.setCell (p := ⟨W.heap.size, p, none⟩) (Nat.le_refl _) _⟩
                    case measure =>
                      simp only [World.iterPos, hit6, hit]
                      omega
                  · have h49 : s[p].toNat = 49 := by omega
                    have hR6 : Row (wr.iterAt V.heap.size s (p + 1)) W.heap.size (runes n (half T s.data.toList (p + 1))) := by
                      rw [runes_congr (G := half T s.data.toList p)]
                      · exact hRi
                      · intro j _
                        rw [half_next, hge, if_neg]
                        intro h
                        have := Option.some.inj h.2
                        rw [this] at h49
                        simp at h49
                    clear hR hge
                    go_wp2
                    go_roundw
                    case rel => exact ⟨p + 1, by omega, hR6, hit2, hb4⟩
                    case measure =>
                      simp only [World.iterPos, hit2, hit]
                      omega
                · obtain rfl : p = s.size := by omega
                  have hnx : ∀ ty, (Instr.next (.pointer (some ⟨V.heap.size, 0, none⟩)) true ty).run Try.prog wr = _ := fun ty => Lib.run_next_end_at wr V.heap.size s s.size ty hit hps
                  have hR6 : Row wr W.heap.size (runes n fun j => lvl (has (txt (ls.take (k + 1))) j)) := by
                    rw [HT.out, runes_congr (G := half T s.data.toList s.size)]
                    · exact hR
                    · intro j _
                      have := half_all T s.data.toList j
                      rw [size_len] at this
                      exact this.symm
                  go_wp2
                  go_roundw
                  case rel => exact ⟨k + 1, by omega, by go_num, hR6, hb3⟩
                  case measure => simp [intOf]; omega
            · obtain rfl : k = ls.length := by omega
              rw [List.take_length] at hR
              have htx := Row.runes (l := (List.range n).map fun j => lvl (has (txt ls) j)) hR (by
                intro c hc
                simp only [List.mem_map] at hc
                obtain ⟨j, _, rfl⟩ := hc
                have := lvl_bit (has (txt ls) j)
                omega) n
              rw [List.length_map, List.length_range, ← HV.out] at htx
              go_wp2
              go_ret2
              refine ⟨?_, hb.trans (hb2.mono hb.size)⟩
              rw [HE.out]
              rfl
end Go.Proofs.Ythcigoijkohihaa
