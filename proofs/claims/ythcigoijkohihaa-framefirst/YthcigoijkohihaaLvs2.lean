/- The contract of leaves, walked. -/
import Derived.Test.YthcigoijkohihaaLvs
namespace Go.Proofs.Ythcigoijkohihaa
open Go.RowKit Go.Proofs.Bits
set_option linter.unusedVariables false
set_option maxRecDepth 1000000

theorem i64_next (n : Nat) (h : n < 1000000) : IntKind.i64.wrap ((n : Int) + 1) = (n : Int) + 1 := by
  have e : ∀ z : Int, 0 ≤ z → z < 9223372036854775808 → IntKind.i64.wrap z = z := fun z h0 h1 => by
    simp [IntKind.wrap, IntKind.bits, IntKind.signed]
    omega
  exact e _ (by omega) (by omega)
theorem ones_next (T : List (List UInt8)) (js : List Nat) (p k : Nat) (hk : k < js.length) : (ones T (js.take (k + 1)) p).map Value.string = (ones T (js.take k) p).map Value.string ++ [.string (bitB T js[k] p)] := by
  unfold ones
  rw [List.take_succ_eq_append_getElem hk]
  simp only [List.map_append, List.map_cons, List.map_nil]
theorem own_below {w w' : World} {base : Nat} {e : TypeId} {size : Nat} {v : Value} {n : Nat} {xs : List Value} (h : w.ownsRow base e size v n xs) (hb : Below w.heap.size w w') : w'.ownsRow base e size v n xs := by
  refine ⟨h.1, ?_⟩
  rcases h.2 with hn | ⟨g, cap, cur, hv, h1, hg, rest⟩
  · exact .inl hn
  · exact .inr ⟨g, cap, cur, hv, h1, (hb.block g (Array.getElem?_eq_some_iff.1 hg).1).trans hg, rest⟩
theorem own_low {w : World} {base base' : Nat} {e : TypeId} {size : Nat} {v : Value} {n : Nat} {xs : List Value} (h : w.ownsRow base e size v n xs) (hb : base' ≤ base) : w.ownsRow base' e size v n xs := by
  refine ⟨h.1, ?_⟩
  rcases h.2 with hn | ⟨g, cap, cur, hv, h1, rest⟩
  · exact .inl hn
  · exact .inr ⟨g, cap, cur, hv, Nat.le_trans hb h1, rest⟩
theorem txB_size (T : List (List UInt8)) (j : Nat) : (txB T j).size = (T.getD j []).length := by simp [txB, ByteArray.size]
theorem beq_one (a b : UInt8) : ((⟨#[a]⟩ : ByteArray).toList == (⟨#[b]⟩ : ByteArray).toList) = (a == b) := by
  have := beq_list [a] [b]
  rw [show ((⟨#[a]⟩ : ByteArray)) = ⟨[a].toArray⟩ from rfl, show ((⟨#[b]⟩ : ByteArray)) = ⟨[b].toArray⟩ from rfl, this, Bool.eq_iff_iff]
  simp
theorem filter_next {f : Nat → Bool} (js : List Nat) (k : Nat) (hk : k < js.length) : ((js.take (k + 1)).filter f).map natV = ((js.take k).filter f).map natV ++ (if f js[k] then [natV js[k]] else []) := by
  rw [List.take_succ_eq_append_getElem hk, List.filter_append, List.map_append]
  congr 1
  by_cases h : f js[k] = true
  · simp [h]
  · simp [h]
/-- Those that are left behind place p. -/
def stay (T : List (List UInt8)) (js : List Nat) (p : Nat) : List Nat := js.filter fun j => pad (T.getD j []) p == lvl (has (sends T js p) 0)
set_option maxHeartbeats 4000000 in
theorem leaves_any (v vl : Value) (fs : List Fr) (js : List Nat) (p : Nat) (w : World) (hn : fs.length * 16 ≤ 140737488355328) (hS : Frames w v fs) (hJ : Slots w vl (js.map natV)) (hjs : ∀ j ∈ js, j < fs.length) (h0 : 0 < js.length) (hjl : js.length ≤ fs.length)
    (hok : ∀ j (hj : j < fs.length), fs[j].chk = 0) (hp : p < 32) :
    Calls Try.prog 26 #[v, vl, .int .i64 p] w fun e w' => ∃ v', e = .returned v' ∧ w'.ownsRow w.heap.size 3 1 v' (stay (flds fs) js p).length ((stay (flds fs) js p).map natV) ∧ Below w.heap.size w w' := by
  obtain ⟨ao, cap, rfl, _, hc⟩ := hS
  have HC : Hid (∀ (wr : World), Below w.heap.size w wr → ∀ k (hk : k < fs.length), ∃ b off, ao = some ⟨b, off, none⟩ ∧ b < w.heap.size ∧ wr.rangeAt b (off + k * 12) fs[k].cells) := fun wr hb k hk => Wide.at hc hb k hk
  obtain ⟨al, cl, rfl, HAT0⟩ := hJ.map
  have HAT : Hid (∀ (wr : World), Below w.heap.size w wr → ∀ k (h : k < js.length), ∃ b off, al = some ⟨b, off, none⟩ ∧ wr.cell? ⟨b, off + k, none⟩ = some (.int .i64 js[k])) := HAT0
  have HF : Hid (∀ j (hj : j < fs.length) W, Calls Try.prog 11 #[.agg fs[j].arr] W fun e w' => e = .returned (.tuple #[.string (txB (flds fs) j), .int .i64 0]) ∧ Below W.heap.size W w') := by
    intro j hj W
    have := fField_any fs[j] W
    rw [hok j hj] at this
    rw [txB_at fs j hj]
    have e : fldV fs[j] = fs[j].field := by unfold fldV; rw [if_pos (hok j hj)]
    rw [e] at this
    exact this
  have HJ : Hid (∀ k (h : k < js.length), js[k] < fs.length) := fun k h => hjs _ (List.getElem_mem h)
  have HB : Hid (∀ j ∈ js, ((flds fs).getD j []).all isBit = true) := by
    intro j hj
    rw [flds_at (hjs j hj)]; exact fieldAll _
  clear hJ HAT0 hc hok hjs
  have hown := own_empty_at w 9
  have B0 : Below w.heap.size w (w.alloc (.cells #[] 9)) := (Below.refl _ w).alloc (Nat.le_refl _) (.cells #[] 9)
  go_enter Try.func26, Try.ntmps26
  go_wp2
  go_loopw [7, 8] (fun v i x => ∃ k : Nat, k ≤ js.length ∧ i = .int .i64 k ∧ x.ownsRow w.heap.size 9 1 v ((ones (flds fs) (js.take k) p).map Value.string).length ((ones (flds fs) (js.take k) p).map Value.string) ∧ Below w.heap.size w x) (fun _ i _ => js.length - (intOf i).toNat)
  case atStart => exact ⟨0, Nat.zero_le _, rfl, hown, B0⟩
  case round =>
    clear hown B0
    obtain ⟨k, hk, rfl, hown, B1⟩ := hrel
    have hlk : ((ones (flds fs) (js.take k) p).map Value.string).length = k := by simp [ones]; omega
    by_cases hkl : k < js.length
    · obtain ⟨b, off, rfl, hcell⟩ := HAT.out wr B1 k hkl
      have hjn := HJ.out k hkl
      obtain ⟨b2, off2, rfl, hb2, hR⟩ := HC.out wr B1 js[k] hjn
      have hF := HF.out js[k] hjn wr
      have HN : Hid ((ones (flds fs) (js.take (k + 1)) p).map Value.string = (ones (flds fs) (js.take k) p).map Value.string ++ [.string (bitB (flds fs) js[k] p)]) := ones_next _ _ _ _ hkl
      have hsz := txB_size (flds fs) js[k]
      have hmid := @bitB_mid (flds fs) js[k] p
      have hend := @bitB_end (flds fs) js[k] p
      have hle : ((flds fs).getD js[k] []).length ≤ 32 := by rw [flds_at hjn]; exact field_len _
      generalize fs[js[k]]'hjn = f at *
      generalize js[k] = jk at *
      generalize ((flds fs).getD jk []).length = L at *
      have hj0 : (jk : Int) < (fs.length : Int) := by omega
      generalize (ones (flds fs) (js.take k) p).map Value.string = xs at *
      go_wp2_with (first | refine fld_ld hR rfl _ rfl rfl ?_)
      refine hF.mono ?_
      rintro e w2 ⟨rfl, B2⟩
      have hown2 := own_below hown B2
      have B3 := B1.trans (B2.mono B1.size)
      have s3 := B3.size
      clear hown B1 B2 hR hcell hF
      by_cases hpl : p < L
      · have hm := hmid hpl
        have hd : decide ((p : Int) < (L : Int)) = true := by simp; omega
        have hd' : decide ((p : Int) < ((txB (flds fs) jk).size : Int)) = true := by simp; omega
        have hsl : ∀ W, (Instr.slice 9 (.string (txB (flds fs) jk)) (some (.int .i64 (p : Int))) (some (.int .i64 ((p : Int) + 1))) none).run Try.prog W = .ok (.string (bitB (flds fs) jk p)) W := fun W => by
          rw [← hm]
          exact run_slice_string (P := Try.prog) W 9 (txB (flds fs) jk) .i64 .i64 (p : Int) ((p : Int) + 1) Try.underlying9 (by omega) (by omega) (by omega)
        have hwr : IntKind.i64.wrap ((p : Int) + 1) = (p : Int) + 1 := i64_next p (by omega)
        clear hm hmid hend
        generalize txB (flds fs) jk = S at *
        go_wp2_with (at_builtin; refine append_slots rfl _ _ 86 9 (.string ByteArray.empty) 16 Try.underlying86 infoS rfl rfl w.heap.size _ xs rfl (by exact ownsRow_alloc hown2 _) _ [.string (bitB (flds fs) jk p)] rfl (by exact slots_new w2 _ _) (by intro u hu; simp at hu; subst hu; rfl) (by unfold maxLen; simp; omega) (by simp; omega) (by rw [size_alloc]; omega) ?_)
        intro v3 w3 hown3 hg3 _
        have B4 : Below w.heap.size w w3 := (B3.alloc s3 _).grown hg3 (by rw [size_alloc]; omega) (fun k hk => own_lt hown2 k hk)
        clear hg3 hown2 B3
        go_wp2
        go_roundw
        case rel => exact ⟨k + 1, by omega, by go_num, by rw [HN.out, show ∀ u : Value, (xs ++ [u]).length = k + 1 from fun u => by simp [hlk]]; exact hown3, B4⟩
        case measure => simp [intOf]; omega
      · have hd : decide ((p : Int) < (L : Int)) = false := by simp; omega
        have hd' : decide ((p : Int) < ((txB (flds fs) jk).size : Int)) = false := by simp; omega
        have he := hend hpl
        rw [he] at HN
        clear hmid hend
        generalize txB (flds fs) jk = S at *
        go_wp2_with (at_builtin; refine append_slots rfl _ _ 86 9 (.string ByteArray.empty) 16 Try.underlying86 infoS rfl rfl w.heap.size _ xs rfl (by exact ownsRow_alloc hown2 _) _ [.string ⟨#[49]⟩] rfl (by exact slots_new w2 _ _) (by intro u hu; simp at hu; subst hu; rfl) (by unfold maxLen; simp; omega) (by simp; omega) (by rw [size_alloc]; omega) ?_)
        intro v3 w3 hown3 hg3 _
        have B4 : Below w.heap.size w w3 := (B3.alloc s3 _).grown hg3 (by rw [size_alloc]; omega) (fun k hk => own_lt hown2 k hk)
        clear hg3 hown2 B3
        go_wp2
        go_roundw
        case rel => exact ⟨k + 1, by omega, by go_num, by rw [HN.out, show ∀ u : Value, (xs ++ [u]).length = k + 1 from fun u => by simp [hlk]]; exact hown3, B4⟩
        case measure => simp [intOf]; omega
    · obtain rfl : k = js.length := by omega
      rw [List.take_length] at hown hlk
      have S1 : Slots wr u7 ((ones (flds fs) js p).map Value.string) := slots_of_own hown
      have hlo : (ones (flds fs) js p).length = js.length := by simp [ones]
      have HW := Wired_any u7 (ones (flds fs) js p) wr S1 (by omega)
      rw [txt_ones, wired_ones _ _ _ HB.out h0] at HW
      have hpl : ∀ j, ((bitB (flds fs) j p).toList == (⟨#[lvl (has (sends (flds fs) js p) 0)]⟩ : ByteArray).toList) = (pad ((flds fs).getD j []) p == lvl (has (sends (flds fs) js p) 0)) := fun j => beq_one _ _
      generalize errs (sends (flds fs) js p) = er at *
      go_wp2_with fail
      refine HW.mono ?_
      rintro e w2 ⟨rfl, B2⟩
      have hown2 := own_below hown B2
      have B3 := B1.trans (B2.mono B1.size)
      have s3 := B3.size
      have S2 := S1.below B2
      obtain ⟨a7, c7, hv7, HAT7⟩ := S2.map
      rw [hlo] at hv7
      subst hv7
      have HA7 : Hid (∀ (wr : World), Below w2.heap.size w2 wr → ∀ k (h : k < (ones (flds fs) js p).length), ∃ b off, a7 = some ⟨b, off, none⟩ ∧ wr.cell? ⟨b, off + k, none⟩ = some (.string (ones (flds fs) js p)[k])) := HAT7
      have HST : Hid (stay (flds fs) js p = js.filter fun j => pad ((flds fs).getD j []) p == lvl (has (sends (flds fs) js p) 0)) := rfl
      clear HAT7 S2 S1 HW hown hown2 B2 B1
      have hown := own_empty_at w2 3
      have B4 : Below w2.heap.size w2 (w2.alloc (.cells #[] 3)) := (Below.refl _ w2).alloc (Nat.le_refl _) (.cells #[] 3)
      have HP : Hid (∀ k (h : k < js.length) b, (pad ((flds fs).getD js[k] []) p == lvl (has (sends (flds fs) js p) 0)) = b → ((bitB (flds fs) js[k] p).toList == (⟨#[lvl (has (sends (flds fs) js p) 0)]⟩ : ByteArray).toList) = b) := fun k h b hb => (hpl _).trans hb
      have HO : Hid (∀ k (h : k < (ones (flds fs) js p).length), (ones (flds fs) js p)[k] = bitB (flds fs) (js[k]'(by rw [hlo] at h; exact h)) p) := by
        intro k h
        simp [ones]
      clear hpl
      have HFN : Hid (∀ k (hk : k < js.length), ((js.take (k + 1)).filter fun j => pad ((flds fs).getD j []) p == lvl (has (sends (flds fs) js p) 0)).map natV = ((js.take k).filter fun j => pad ((flds fs).getD j []) p == lvl (has (sends (flds fs) js p) 0)).map natV ++ (if (pad ((flds fs).getD js[k] []) p == lvl (has (sends (flds fs) js p) 0)) = true then [natV js[k]] else [])) := fun k hk => filter_next (f := fun j => pad ((flds fs).getD j []) p == lvl (has (sends (flds fs) js p) 0)) js k hk
      generalize hPR : (fun j => pad ((flds fs).getD j []) p == lvl (has (sends (flds fs) js p) 0)) = PR at *
      have HPR : Hid (∀ j, (pad ((flds fs).getD j []) p == lvl (has (sends (flds fs) js p) 0)) = PR j) := fun j => by rw [← hPR]
      clear hPR
      generalize (⟨#[lvl (has (sends (flds fs) js p) 0)]⟩ : ByteArray) = WB at *
      go_wp2
      go_loopw [13, 14] (fun v i x => ∃ k : Nat, k ≤ js.length ∧ i = .int .i64 k ∧ x.ownsRow w2.heap.size 3 1 v (((js.take k).filter PR).map natV).length (((js.take k).filter PR).map natV) ∧ Below w2.heap.size w2 x) (fun _ i _ => js.length - (intOf i).toNat)
      case atStart => exact ⟨0, Nat.zero_le _, rfl, hown, B4⟩
      case round =>
        clear hown B4
        obtain ⟨k, hk, rfl, hown, B4⟩ := hrel
        by_cases hkl : k < js.length
        · obtain ⟨b7, o7, rfl, c7⟩ := HA7.out wr B4 k (by rw [hlo]; exact hkl)
          have B5 := B3.trans (B4.mono s3)
          obtain ⟨b, off, rfl, hcell⟩ := HAT.out wr B5 k hkl
          rw [HO.out k (by rw [hlo]; exact hkl)] at c7
          have hfn := HFN.out k hkl
          have hlk2 : (((js.take k).filter PR).map natV).length ≤ k := by
            rw [List.length_map]
            exact Nat.le_trans (List.length_filter_le _ _) (by simp; omega)
          have hjn := HJ.out k hkl
          have hjb : (0 : Int) ≤ (js[k] : Int) ∧ (js[k] : Int) < 9223372036854775808 := by omega
          clear hjb
          cases hpr : PR js[k] with
          | true =>
            have hbq := HP.out k hkl true ((HPR.out _).trans hpr)
            rw [(HPR.out js[k]).trans hpr, if_pos rfl] at hfn
            have HN : Hid (((js.take (k + 1)).filter PR).map natV = ((js.take k).filter PR).map natV ++ [natV js[k]]) := hfn
            generalize bitB (flds fs) js[k] p = S1 at *
            generalize js[k] = jk at *
            generalize ((js.take k).filter PR).map natV = xs at *
            clear hfn
            go_wp2_with (at_builtin; refine append_slots rfl _ _ 43 3 (.int .i64 0) 8 Try.underlying43 infoI rfl rfl w2.heap.size _ xs rfl (by exact ownsRow_alloc hown _) _ [natV jk] rfl (by exact slots_new wr _ _) (by intro u hu; simp at hu; subst hu; rfl) (by unfold maxLen; simp; omega) (by simp; omega) (by have := B4.size; rw [size_alloc]; omega) ?_)
            intro v3 w3 hown3 hg3 _
            have B6 : Below w2.heap.size w2 w3 := (B4.alloc B4.size _).grown hg3 (by have := B4.size; rw [size_alloc]; omega) (fun k hk => own_lt hown k hk)
            clear hg3 hown B4
            go_wp2
            go_roundw
            case rel => exact ⟨k + 1, by omega, by go_num, by rw [HN.out]; simpa using hown3, B6⟩
            case measure => simp [intOf]; omega
          | false =>
            have hbq := HP.out k hkl false ((HPR.out _).trans hpr)
            rw [(HPR.out js[k]).trans hpr, if_neg (by decide), List.append_nil] at hfn
            have HN : Hid (((js.take (k + 1)).filter PR).map natV = ((js.take k).filter PR).map natV) := hfn
            generalize bitB (flds fs) js[k] p = S1 at *
            generalize js[k] = jk at *
            generalize ((js.take k).filter PR).map natV = xs at *
            clear hfn
            go_wp2
            go_roundw
            case rel => exact ⟨k + 1, by omega, by go_num, by rw [HN.out]; exact hown, B4⟩
            case measure => simp [intOf]; omega
        · obtain rfl : k = js.length := by omega
          rw [List.take_length] at hown
          have hown9 : wr.ownsRow w.heap.size 3 1 u13 ((js.filter PR).map natV).length ((js.filter PR).map natV) := own_low hown s3
          rw [List.length_map, ← HST.out] at hown9
          go_wp2
          go_ret
          exact ⟨_, rfl, hown9, B3.trans (B4.mono s3)⟩
end Go.Proofs.Ythcigoijkohihaa
