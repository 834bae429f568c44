/- The contract of First. -/
import Derived.Test.YtjblekemmcmblaaLive2
import Derived.Test.YtjblekemmcmblaaFst
import Derived.Test.YtjblekemmcmblaaWide
namespace Go.Proofs.Ytjblekemmcmblaa
open Go.RowKit Go.Proofs.Bits
set_option linter.unusedVariables false
set_option maxRecDepth 1000000

theorem infoS : (Try.prog.info? 9).map (fun i => (i.zero, i.size, i.bytes)) = some (some (.string ByteArray.empty), 1, 16) := by kernel_rfl
/-- The fields; what First answers. -/
def flds (fs : List Fr) : List (List UInt8) := fs.map Fr.field
def allOk (fs : List Fr) : Bool := fs.all fun f => f.chk == 0
def firstE (fs : List Fr) : Int := if fs.length = 0 then 3 else if allOk fs then (if (flds fs).Nodup then 0 else 5) else 1
def firstN (fs : List Fr) : Nat := if firstE fs = 0 then best (flds fs) fs.length else 0
theorem flds_length (fs : List Fr) : (flds fs).length = fs.length := by simp [flds]
/-- The row of fields behind k rounds. -/
def rowK (fs : List Fr) (k : Nat) : List Value := (flds (fs.take k)).map txtV ++ List.replicate (fs.length - k) (.string ByteArray.empty)
theorem rowK_length (fs : List Fr) (k : Nat) (hk : k ≤ fs.length) : (rowK fs k).length = fs.length := by
  simp [rowK, flds]; omega
theorem rowK_zero (fs : List Fr) : rowK fs 0 = List.replicate fs.length (.string ByteArray.empty) := by simp [rowK, flds]
theorem rowK_full (fs : List Fr) : rowK fs fs.length = (flds fs).map txtV := by simp [rowK]
theorem rowK_set (fs : List Fr) (k : Nat) (hk : k < fs.length) : (rowK fs k).set k (txtV fs[k].field) = rowK fs (k + 1) := by
  unfold rowK
  have e1 : ((flds (fs.take k)).map txtV).length = k := by simp [flds]; omega
  rw [List.set_append_right _ _ (by omega), e1, Nat.sub_self]
  have e2 : fs.length - k = (fs.length - (k + 1)) + 1 := by omega
  rw [e2, List.replicate_succ, List.set_cons_zero, List.take_succ_eq_append_getElem hk]
  simp only [flds, List.map_append, List.map_cons, List.map_nil, List.append_assoc, List.cons_append, List.nil_append]
theorem slots_of_row {w : World} {g n : Nat} {cs : List Value} (h : Row w g cs) (hn : cs.length = n) : Slots w (.slice (some ⟨g, 0, none⟩) n n) cs := by
  subst hn
  exact ⟨some ⟨g, 0, none⟩, cs.length, rfl, (fun h => by cases h), fun k hk => ⟨g, 0, rfl, h.lt, by rw [Nat.zero_add]; exact h.cell k hk⟩⟩
theorem allOk_at {fs : List Fr} {k : Nat} (hk : k < fs.length) (h : fs[k].chk ≠ 0) : allOk fs = false := by
  unfold allOk
  rw [Bool.eq_false_iff]
  intro he
  rw [List.all_eq_true] at he
  have := he fs[k] (List.getElem_mem hk)
  simp at this
  exact h this
theorem allOk_of {fs : List Fr} (h : ∀ j (hj : j < fs.length), fs[j].chk = 0) : allOk fs = true := by
  unfold allOk
  rw [List.all_eq_true]
  intro f hf
  obtain ⟨j, hj, rfl⟩ := List.getElem_of_mem hf
  simpa using h j hj
theorem field_len (f : Fr) : f.field.length ≤ 32 := by
  unfold Fr.field
  split <;> simp [numL_length, flagV_length]
theorem Row.below' {w w' : World} {g B : Nat} {cs : List Value} (h : Row w g cs) (hb : Below B w w') (hg : g < B) : Row w' g cs := h.kept (hb.block g hg)
theorem fld_ld {w : World} {ops : Array Oper} {rest : List Oper} {p : Oper} {a : Act} {Q : Exit → Act → World → Prop} {b o : Nat} {f : Fr} (h : w.rangeAt b o f.cells) (hgd : p.guard = none) (x : Operand) (ho : p.op = .load 38 x) (hx : a.eval x = .pointer (some ⟨b, o, none⟩))
    (hh : wpList Try.prog ops Q rest (a.put p.dst (.agg f.arr)) w) : wpList Try.prog ops Q (p :: rest) a w :=
  wpList_load_mid hgd 38 x ho b o hx f.cells _ h Try.underlying38 rfl (by rw [infoF]; simp [Fr.cells, f.hdata]) hh
def Frames (w : World) (v : Value) (fs : List Fr) : Prop := Wide 12 Fr.cells w v fs
set_option maxHeartbeats 4000000 in
theorem First_any (v : Value) (fs : List Fr) (w : World) (hn : fs.length * 16 ≤ 140737488355328) (hS : Frames w v fs) :
    Calls Try.prog 72 #[v] w fun e w' => e = .returned (.tuple #[.int .i64 (firstN fs), .int .i64 (firstE fs)]) ∧ Below w.heap.size w w' := by
  obtain ⟨ao, cap, rfl, _, hc⟩ := hS
  have HC : Hid (∀ (wr : World), Below w.heap.size w wr → ∀ k (hk : k < fs.length), ∃ b off, ao = some ⟨b, off, none⟩ ∧ b < w.heap.size ∧ wr.rangeAt b (off + k * 12) fs[k].cells) := fun wr hb k hk => Wide.at hc hb k hk
  clear hc
  by_cases h0 : fs.length = 0
  · have HE : Hid (firstE fs = 3) := by show _ = _; unfold firstE; rw [if_pos h0]
    have HN : Hid (firstN fs = 0) := by show _ = _; unfold firstN; rw [HE.out]; rfl
    have hd : ((fs.length : Int) == 0) = true := by rw [h0]; rfl
    generalize firstE fs = E at *
    generalize firstN fs = N at *
    go_enter Try.func72, Try.ntmps72
    go_wp2
    go_ret2
    exact ⟨by rw [HE.out, HN.out]; rfl, Below.refl _ _⟩
  · have hd : ((fs.length : Int) == 0) = false := by rw [beq_eq_false_iff_ne]; omega
    obtain ⟨i0, hi, hz0, hz1, hz2⟩ := info_parts infoS
    have R0 := Row.made w (.string ByteArray.empty) fs.length 9
    rw [← rowK_zero] at R0
    have B0 : Below w.heap.size w (w.alloc (.cells (madeCells #[.string ByteArray.empty] fs.length) 9)) := (Below.refl _ _).alloc (Nat.le_refl _) _
    go_enter Try.func72, Try.ntmps72
    go_wp2_with (at_make; refine wpList_make_row _ rfl _ _ 137 rfl 9 i0 (.string ByteArray.empty) Try.underlying137 hi hz0 hz1 rfl .i64 .i64 fs.length rfl rfl (by rw [hz2]; omega) (by omega) ?_)
    generalize w.alloc (.cells (madeCells #[.string ByteArray.empty] fs.length) 9) = w1 at *
    generalize hg : w.heap.size = g at *
    go_loopw [17] (fun i x => ∃ k : Nat, k ≤ fs.length ∧ i = .int .i64 k ∧ Row x g (rowK fs k) ∧ (∀ j (hj : j < fs.length), j < k → fs[j].chk = 0) ∧ Below g w x) (fun i _ => fs.length - (intOf i).toNat)
    case atStart => exact ⟨0, Nat.zero_le _, rfl, R0, fun j _ h => by omega, B0⟩
    case round =>
      clear R0 B0
      obtain ⟨k, hk, rfl, R1, H1, B1⟩ := hrel
      have s1 := B1.size
      have g1 := R1.lt
      by_cases hkl : k < fs.length
      · obtain ⟨b, off, rfl, hb, hR⟩ := HC.out wr B1 k hkl
        have gn := Fa.new wr Fr.nul
        have g3 := gn.row fs[k]
        have hF := fField_any fs[k]
        have hck := chk_cases fs[k]
        have B3 : Below g w ((wr.alloc (.cells Fr.nul.arr 38)).setRow wr.heap.size fs[k].arr) := below_row (B1.alloc (by omega) _) (by omega) (by rw [size_alloc]; omega) _
        have R3 : Row ((wr.alloc (.cells Fr.nul.arr 38)).setRow wr.heap.size fs[k].arr) g (rowK fs k) := R1.kept ((setRow_other _ _ _ _ (by omega)).trans (Below.heap_alloc _ _ _ (by omega)))
        have HV : Hid (fs[k].chk = 0 → fldV fs[k] = fs[k].field) := by intro h; unfold fldV; rw [if_pos h]
        have HS : Hid ((rowK fs k).set k (txtV fs[k].field) = rowK fs (k + 1)) := rowK_set fs k hkl
        have HL : Hid (fs[k].chk ≠ 0 → firstE fs = 1 ∧ firstN fs = 0) := by
          intro h
          have e : firstE fs = 1 := by unfold firstE; rw [if_neg h0, allOk_at hkl h]; rfl
          exact ⟨e, by unfold firstN; rw [e]; rfl⟩
        have HJ : Hid (∀ j (hj : j < fs.length), j < k + 1 → fs[k].chk = 0 → fs[j].chk = 0) := by
          intro j hj h1 h2
          rcases Nat.lt_or_ge j k with h3 | h3
          · exact H1 j hj h3
          · have : j = k := by omega
            subst this; exact h2
        unfold Fr.val at hF
        generalize fs[k] = f at *
        clear R1 B1
        go_wp2_with (first | refine fld_ld hR rfl _ rfl rfl ?_ | refine gn.sd f rfl _ _ rfl rfl rfl ?_ | refine g3.ldw rfl _ rfl rfl ?_)
        refine (hF _).mono ?_
        rintro e w4 ⟨rfl, B4⟩
        have L3 := R3.lt
        have R4 : Row w4 g (rowK fs k) := R3.below B4
        have B5 := B3.trans (B4.mono (by have := B3.size; omega))
        clear R3 B3 B4 gn g3
        rcases hck with hck | hck
        · rw [hck]
          have hV := HV.out hck
          have R6 : Row (w4.setCell ⟨g, k, none⟩ (.string ⟨(fldV f).toArray⟩)) g (rowK fs (k + 1)) := by
            rw [← HS.out, hV]; exact R4.set k _
          have cc := R4.cell k (by rw [rowK_length fs k hk]; exact hkl)
          have cf := R4.free k (by rw [rowK_length fs k hk]; exact hkl)
          have B6 : Below g w (w4.setCell ⟨g, k, none⟩ (.string ⟨(fldV f).toArray⟩)) := B5.setCell (p := ⟨g, k, none⟩) (Nat.le_refl _) _
          generalize (rowK fs k)[k]'(by rw [rowK_length fs k hk]; exact hkl) = old at *
          have HJ' := fun j hj h1 => HJ.out j hj h1 hck
          have HJ2 : Hid (∀ j (hj : j < fs.length), j < k + 1 → fs[j].chk = 0) := HJ'
          generalize (⟨(fldV f).toArray⟩ : ByteArray) = S at *
          clear hV HV HS R4 B5 HJ' HJ HL H1
          go_wp2
          go_roundw
          case rel => exact ⟨k + 1, by omega, by go_num, R6, HJ2.out, B6⟩
          case measure => simp [intOf]; omega
        · rw [hck]
          obtain ⟨e1, e2⟩ := HL.out (by rw [hck]; decide)
          have E1 : Hid (firstE fs = 1) := e1
          have E2 : Hid (firstN fs = 0) := e2
          generalize (⟨(fldV f).toArray⟩ : ByteArray) = S at *
          clear HV HS R4 HJ HL H1 e1 e2
          go_wp2
          go_ret2
          exact ⟨by rw [E1.out, E2.out]; rfl, by rw [hg]; exact B5⟩
      · obtain rfl : k = fs.length := by omega
        rw [rowK_full] at R1
        have S1 : Slots wr (.slice (some ⟨g, 0, none⟩) fs.length fs.length) ((flds fs).map txtV) := slots_of_row R1 (by simp [flds])
        have HA : allOk fs = true := allOk_of (fun j hj => H1 j hj hj)
        have hfl := flds_length fs
        have HT := fun W => anyTwice_any (.slice (some ⟨g, 0, none⟩) fs.length fs.length) (flds fs) W (by omega) (fun l hl => by obtain ⟨f, _, rfl⟩ := List.mem_map.1 hl; have := field_len f; omega)
        by_cases hnd : (flds fs).Nodup
        · rw [show (!decide (flds fs).Nodup) = false by simp [hnd]] at HT
          have E1 : Hid (firstE fs = 0) := by show _ = _; unfold firstE; rw [if_neg h0, HA, if_pos rfl, if_pos hnd]
          have E2 : Hid (firstN fs = best (flds fs) fs.length) := by show _ = _; unfold firstN; rw [E1.out, if_pos rfl]
          clear R1 HA
          go_wp2_with fail
          refine (HT _ S1).mono ?_
          rintro e w2 ⟨rfl, B2⟩
          have S2 := S1.below B2
          have B3 := B1.trans (B2.mono (by omega))
          have hb := best_lt (flds fs) fs.length (by omega)
          have HM := Min_any _ (flds fs) w2 (by omega) (by omega) S2
          have HI := Index_any _ (flds fs) w2 (best (flds fs) fs.length) (by omega) hnd (by omega) S2
          rw [hfl] at HM
          have eB : bestB (flds fs) fs.length = txB (flds fs) (best (flds fs) fs.length) := rfl
          rw [eB] at HM
          generalize txB (flds fs) (best (flds fs) fs.length) = T at *
          generalize best (flds fs) fs.length = bb at *
          clear HT S1 B1 B2 H1
          go_wp2_with fail
          refine HM.mono ?_
          rintro e w3 ⟨rfl, rfl⟩
          go_wp2_with fail
          refine HI.mono ?_
          rintro e w3 ⟨rfl, rfl⟩
          go_wp2
          go_ret2
          exact ⟨by rw [E1.out, E2.out]; rfl, by rw [hg]; exact B3⟩
        · rw [show (!decide (flds fs).Nodup) = true by simp [hnd]] at HT
          have E1 : Hid (firstE fs = 5) := by show _ = _; unfold firstE; rw [if_neg h0, HA, if_pos rfl, if_neg hnd]
          have E2 : Hid (firstN fs = 0) := by show _ = _; unfold firstN; rw [E1.out]; rfl
          clear R1 HA
          go_wp2_with fail
          refine (HT _ S1).mono ?_
          rintro e w2 ⟨rfl, B2⟩
          have B3 := B1.trans (B2.mono (by omega))
          clear HT S1 B1 B2 H1
          go_wp2
          go_ret2
          exact ⟨by rw [E1.out, E2.out]; rfl, by rw [hg]; exact B3⟩
end Go.Proofs.Ytjblekemmcmblaa
