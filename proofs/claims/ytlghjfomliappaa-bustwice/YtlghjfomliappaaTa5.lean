/- The contract of First. A slice of frames that came in, opened. A slice of two frames that the call itself made. Rounds on a wire, as plain functions. Contracts: a test handed to slices.ContainsFunc; look. Contracts: a runner in memory; alone, the tests of firstOf, firstOf. Slices of senders and of flips that came in, opened. -/
import Derived.Test.YtlghjfomliappaaTa4
import Derived.Great.BuildSlice
namespace Go.Proofs.Ytlghjfomliappaa
open Go.RowKit Go.Proofs.Bits
set_option linter.unusedVariables false
set_option maxRecDepth 1000000

theorem infoS : (Try.prog.info? 9).map (fun i => (i.zero, i.size, i.bytes)) = some (some (.string ByteArray.empty), 1, 16) := by kernel_rfl
/-- The fields; what First answers. -/
def flds (fs : List Fr) : List (List UInt8) := fs.map Fr.field
def allOk (fs : List Fr) : Bool := fs.all fun f => f.chk == 0
def firstE (fs : List Fr) : Int := if fs.length = 0 then 3 else if allOk fs then (if (flds fs).Nodup then 0 else 5) else 1
def firstN (fs : List Fr) : Nat := if firstE fs = 0 then best (flds fs) fs.length else 0
theorem flds_length (fs : List Fr) : (flds fs).length = fs.length := by simp [flds]
/-- The row of fields behind k rounds. -/
def rowK (fs : List Fr) (k : Nat) : List Value := (flds (fs.take k)).map txtV ++ List.replicate (fs.length - k) (.string ByteArray.empty)
theorem rowK_length (fs : List Fr) (k : Nat) (hk : k ≤ fs.length) : (rowK fs k).length = fs.length := by
  simp [rowK, flds]; omega
theorem rowK_zero (fs : List Fr) : rowK fs 0 = List.replicate fs.length (.string ByteArray.empty) := by simp [rowK, flds]
theorem rowK_full (fs : List Fr) : rowK fs fs.length = (flds fs).map txtV := by simp [rowK]
theorem rowK_set (fs : List Fr) (k : Nat) (hk : k < fs.length) : (rowK fs k).set k (txtV fs[k].field) = rowK fs (k + 1) := by
  unfold rowK
  have e1 : ((flds (fs.take k)).map txtV).length = k := by simp [flds]; omega
  rw [List.set_append_right _ _ (by omega), e1, Nat.sub_self]
  have e2 : fs.length - k = (fs.length - (k + 1)) + 1 := by omega
  rw [e2, List.replicate_succ, List.set_cons_zero, List.take_succ_eq_append_getElem hk]
  simp only [flds, List.map_append, List.map_cons, List.map_nil, List.append_assoc, List.cons_append, List.nil_append]
theorem slots_of_row {w : World} {g n : Nat} {cs : List Value} (h : Row w g cs) (hn : cs.length = n) : Slots w (.slice (some ⟨g, 0, none⟩) n n) cs := by
  subst hn
  exact ⟨some ⟨g, 0, none⟩, cs.length, rfl, (fun h => by cases h), fun k hk => ⟨g, 0, rfl, h.lt, by rw [Nat.zero_add]; exact h.cell k hk⟩⟩
theorem allOk_at {fs : List Fr} {k : Nat} (hk : k < fs.length) (h : fs[k].chk ≠ 0) : allOk fs = false := by
  unfold allOk
  rw [Bool.eq_false_iff]
  intro he
  rw [List.all_eq_true] at he
  have := he fs[k] (List.getElem_mem hk)
  simp at this
  exact h this
theorem allOk_of {fs : List Fr} (h : ∀ j (hj : j < fs.length), fs[j].chk = 0) : allOk fs = true := by
  unfold allOk
  rw [List.all_eq_true]
  intro f hf
  obtain ⟨j, hj, rfl⟩ := List.getElem_of_mem hf
  simpa using h j hj
theorem field_len (f : Fr) : f.field.length ≤ 32 := by
  unfold Fr.field
  split <;> simp [numL_length, flagV_length]
theorem Row.below' {w w' : World} {g B : Nat} {cs : List Value} (h : Row w g cs) (hb : Below B w w') (hg : g < B) : Row w' g cs := h.kept (hb.block g hg)
theorem fld_ld {w : World} {ops : Array Oper} {rest : List Oper} {p : Oper} {a : Act} {Q : Exit → Act → World → Prop} {b o : Nat} {f : Fr} (h : w.rangeAt b o f.cells) (hgd : p.guard = none) (x : Operand) (ho : p.op = .load 38 x) (hx : a.eval x = .pointer (some ⟨b, o, none⟩))
    (hh : wpList Try.prog ops Q rest (a.put p.dst (.agg f.arr)) w) : wpList Try.prog ops Q (p :: rest) a w :=
  wpList_load_mid hgd 38 x ho b o hx f.cells _ h Try.underlying38 rfl (by rw [infoF]; simp [Fr.cells, f.hdata]) hh
def Frames (w : World) (v : Value) (fs : List Fr) : Prop := Wide 12 Fr.cells w v fs
set_option maxHeartbeats 4000000 in
theorem First_any (v : Value) (fs : List Fr) (w : World) (hn : fs.length * 16 ≤ 140737488355328) (hS : Frames w v fs) :
    Calls Try.prog 72 #[v] w fun e w' => e = .returned (.tuple #[.int .i64 (firstN fs), .int .i64 (firstE fs)]) ∧ Below w.heap.size w w' := by
  obtain ⟨ao, cap, rfl, _, hc⟩ := hS
  have HC : Hid (∀ (wr : World), Below w.heap.size w wr → ∀ k (hk : k < fs.length), ∃ b off, ao = some ⟨b, off, none⟩ ∧ b < w.heap.size ∧ wr.rangeAt b (off + k * 12) fs[k].cells) := fun wr hb k hk => Wide.at hc hb k hk
  clear hc
  by_cases h0 : fs.length = 0
  · have HE : Hid (firstE fs = 3) := by show _ = _; unfold firstE; rw [if_pos h0]
    have HN : Hid (firstN fs = 0) := by show _ = _; unfold firstN; rw [HE.out]; rfl
    have hd : ((fs.length : Int) == 0) = true := by rw [h0]; rfl
    generalize firstE fs = E at *
    generalize firstN fs = N at *
    go_enter Try.func72, Try.ntmps72
    go_wp2
    go_ret2
    exact ⟨by rw [HE.out, HN.out]; rfl, Below.refl _ _⟩
  · have hd : ((fs.length : Int) == 0) = false := by rw [beq_eq_false_iff_ne]; omega
    obtain ⟨i0, hi, hz0, hz1, hz2⟩ := info_parts infoS
    have R0 := Row.made w (.string ByteArray.empty) fs.length 9
    rw [← rowK_zero] at R0
    have B0 : Below w.heap.size w (w.alloc (.cells (madeCells #[.string ByteArray.empty] fs.length) 9)) := (Below.refl _ _).alloc (Nat.le_refl _) _
    go_enter Try.func72, Try.ntmps72
    go_wp2_with (at_make; refine wpList_make_row _ rfl _ _ 137 rfl 9 i0 (.string ByteArray.empty) Try.underlying137 hi hz0 hz1 rfl .i64 .i64 fs.length rfl rfl (by rw [hz2]; omega) (by omega) ?_)
    generalize w.alloc (.cells (madeCells #[.string ByteArray.empty] fs.length) 9) = w1 at *
    generalize hg : w.heap.size = g at *
    go_loopw [17] (fun i x => ∃ k : Nat, k ≤ fs.length ∧ i = .int .i64 k ∧ Row x g (rowK fs k) ∧ (∀ j (hj : j < fs.length), j < k → fs[j].chk = 0) ∧ Below g w x) (fun i _ => fs.length - (intOf i).toNat)
    case atStart => exact ⟨0, Nat.zero_le _, rfl, R0, fun j _ h => by omega, B0⟩
    case round =>
      clear R0 B0
      obtain ⟨k, hk, rfl, R1, H1, B1⟩ := hrel
      have s1 := B1.size
      have g1 := R1.lt
      by_cases hkl : k < fs.length
      · obtain ⟨b, off, rfl, hb, hR⟩ := HC.out wr B1 k hkl
        have gn := Fa.new wr Fr.nul
        have g3 := gn.row fs[k]
        have hF := fField_any fs[k]
        have hck := chk_cases fs[k]
        have B3 : Below g w ((wr.alloc (.cells Fr.nul.arr 38)).setRow wr.heap.size fs[k].arr) := below_row (B1.alloc (by omega) _) (by omega) (by rw [size_alloc]; omega) _
        have R3 : Row ((wr.alloc (.cells Fr.nul.arr 38)).setRow wr.heap.size fs[k].arr) g (rowK fs k) := R1.kept ((setRow_other _ _ _ _ (by omega)).trans (Below.heap_alloc _ _ _ (by omega)))
        have HV : Hid (fs[k].chk = 0 → fldV fs[k] = fs[k].field) := by intro h; unfold fldV; rw [if_pos h]
        have HS : Hid ((rowK fs k).set k (txtV fs[k].field) = rowK fs (k + 1)) := rowK_set fs k hkl
        have HL : Hid (fs[k].chk ≠ 0 → firstE fs = 1 ∧ firstN fs = 0) := by
          intro h
          have e : firstE fs = 1 := by unfold firstE; rw [if_neg h0, allOk_at hkl h]; rfl
          exact ⟨e, by unfold firstN; rw [e]; rfl⟩
        have HJ : Hid (∀ j (hj : j < fs.length), j < k + 1 → fs[k].chk = 0 → fs[j].chk = 0) := by
          intro j hj h1 h2
          rcases Nat.lt_or_ge j k with h3 | h3
          · exact H1 j hj h3
          · have : j = k := by omega
            subst this; exact h2
        unfold Fr.val at hF
        generalize fs[k] = f at *
        clear R1 B1
        go_wp2_with (first | refine fld_ld hR rfl _ rfl rfl ?_ | refine gn.sd f rfl _ _ rfl rfl rfl ?_ | refine g3.ldw rfl _ rfl rfl ?_)
        refine (hF _).mono ?_
        rintro e w4 ⟨rfl, B4⟩
        have L3 := R3.lt
        have R4 : Row w4 g (rowK fs k) := R3.below B4
        have B5 := B3.trans (B4.mono (by have := B3.size; omega))
        clear R3 B3 B4 gn g3
        rcases hck with hck | hck
        · rw [hck]
          have hV := HV.out hck
          have R6 : Row (w4.setCell ⟨g, k, none⟩ (.string ⟨(fldV f).toArray⟩)) g (rowK fs (k + 1)) := by
            rw [← HS.out, hV]; exact R4.set k _
          have cc := R4.cell k (by rw [rowK_length fs k hk]; exact hkl)
          have cf := R4.free k (by rw [rowK_length fs k hk]; exact hkl)
          have B6 : Below g w (w4.setCell ⟨g, k, none⟩ (.string ⟨(fldV f).toArray⟩)) := B5.setCell (p := ⟨g, k, none⟩) (Nat.le_refl _) _
          generalize (rowK fs k)[k]'(by rw [rowK_length fs k hk]; exact hkl) = old at *
          have HJ' := fun j hj h1 => HJ.out j hj h1 hck
          have HJ2 : Hid (∀ j (hj : j < fs.length), j < k + 1 → fs[j].chk = 0) := HJ'
          generalize (⟨(fldV f).toArray⟩ : ByteArray) = S at *
          clear hV HV HS R4 B5 HJ' HJ HL H1
          go_wp2
          go_roundw
          case rel => exact ⟨k + 1, by omega, by go_num, R6, HJ2.out, B6⟩
          case measure => simp [intOf]; omega
        · rw [hck]
          obtain ⟨e1, e2⟩ := HL.out (by rw [hck]; decide)
          have E1 : Hid (firstE fs = 1) := e1
          have E2 : Hid (firstN fs = 0) := e2
          generalize (⟨(fldV f).toArray⟩ : ByteArray) = S at *
          clear HV HS R4 HJ HL H1 e1 e2
          go_wp2
          go_ret2
          exact ⟨by rw [E1.out, E2.out]; rfl, by rw [hg]; exact B5⟩
      · obtain rfl : k = fs.length := by omega
        rw [rowK_full] at R1
        have S1 : Slots wr (.slice (some ⟨g, 0, none⟩) fs.length fs.length) ((flds fs).map txtV) := slots_of_row R1 (by simp [flds])
        have HA : allOk fs = true := allOk_of (fun j hj => H1 j hj hj)
        have hfl := flds_length fs
        have HT := fun W => anyTwice_any (.slice (some ⟨g, 0, none⟩) fs.length fs.length) (flds fs) W (by omega) (fun l hl => by obtain ⟨f, _, rfl⟩ := List.mem_map.1 hl; have := field_len f; omega)
        by_cases hnd : (flds fs).Nodup
        · rw [show (!decide (flds fs).Nodup) = false by simp [hnd]] at HT
          have E1 : Hid (firstE fs = 0) := by show _ = _; unfold firstE; rw [if_neg h0, HA, if_pos rfl, if_pos hnd]
          have E2 : Hid (firstN fs = best (flds fs) fs.length) := by show _ = _; unfold firstN; rw [E1.out, if_pos rfl]
          clear R1 HA
          go_wp2_with fail
          refine (HT _ S1).mono ?_
          rintro e w2 ⟨rfl, B2⟩
          have S2 := S1.below B2
          have B3 := B1.trans (B2.mono (by omega))
          have hb := best_lt (flds fs) fs.length (by omega)
          have HM := Min_any _ (flds fs) w2 (by omega) (by omega) S2
          have HI := Index_any _ (flds fs) w2 (best (flds fs) fs.length) (by omega) hnd (by omega) S2
          rw [hfl] at HM
          have eB : bestB (flds fs) fs.length = txB (flds fs) (best (flds fs) fs.length) := rfl
          rw [eB] at HM
          generalize txB (flds fs) (best (flds fs) fs.length) = T at *
          generalize best (flds fs) fs.length = bb at *
          clear HT S1 B1 B2 H1
          go_wp2_with fail
          refine HM.mono ?_
          rintro e w3 ⟨rfl, rfl⟩
          go_wp2_with fail
          refine HI.mono ?_
          rintro e w3 ⟨rfl, rfl⟩
          go_wp2
          go_ret2
          exact ⟨by rw [E1.out, E2.out]; rfl, by rw [hg]; exact B3⟩
        · rw [show (!decide (flds fs).Nodup) = true by simp [hnd]] at HT
          have E1 : Hid (firstE fs = 5) := by show _ = _; unfold firstE; rw [if_neg h0, HA, if_pos rfl, if_neg hnd]
          have E2 : Hid (firstN fs = 0) := by show _ = _; unfold firstN; rw [E1.out]; rfl
          clear R1 HA
          go_wp2_with fail
          refine (HT _ S1).mono ?_
          rintro e w2 ⟨rfl, B2⟩
          have B3 := B1.trans (B2.mono (by omega))
          clear HT S1 B1 B2 H1
          go_wp2
          go_ret2
          exact ⟨by rw [E1.out, E2.out]; rfl, by rw [hg]; exact B3⟩
end Go.Proofs.Ytlghjfomliappaa
namespace Go.Proofs.Ytlghjfomliappaa
open Go.ChangeShapes Go.WideShapes Go.ChangeAt Go.RowKit Go.Proofs.Bits
set_option linter.unusedVariables false
set_option maxRecDepth 1000000

theorem bytesFr : Try.prog.bytesOf 38 = 24 := by kernel_rfl
theorem one_frame {H : Type} {enc : TypeId × Value → H} {W : World} (n : Nat) (cs : List Value) (y : DataW H × List MemPlace) (h : DataW.trod enc Try.prog W 0 (fun _ => true) true n 38 cs = some y) : ∃ f : Fr, cs = f.cells := by
  obtain ⟨xs, m, _, _, hn, hl, hfs⟩ := DataW.trod_struct Try.underlying38 h
  rw [cellsF12] at hn
  obtain ⟨c0, c1, c2, c3, c4, c5, c6, c7, c8, c9, c10, c11, rfl⟩ := list12 hn
  have g0 := hfs 0 _ rfl
  have g1 := hfs 1 _ rfl
  have g2 := hfs 2 _ rfl
  have g3 := hfs 3 _ rfl
  have g4 := hfs 4 _ rfl
  simp [cells1u32, cells1bool, cells1int, cellsA8] at g0 g1 g2 g3 g4
  match xs, hl with
  | [y0, y1, y2, y3, y4], _ =>
    simp at g0 g1 g2 g3 g4
    obtain ⟨i, e0, _, wi⟩ := DataW.trod_int Try.underlying35 g0
    obtain ⟨x, e1, _⟩ := DataW.trod_bool Try.underlying4 g1
    obtain ⟨r, e2, _⟩ := DataW.trod_bool Try.underlying4 g2
    obtain ⟨k, e3, _, wk⟩ := DataW.trod_int Try.underlying3 g3
    simp at e0 e1 e2 e3
    subst e0 e1 e2 e3
    obtain ⟨ys, m, _, _, _, hl8, hfi⟩ := DataW.trod_array Try.underlying36 g4
    match ys, hl8 with
    | [z0, z1, z2, z3, z4, z5, z6, z7], _ =>
      have a0 := hfi 0 (by decide)
      have a1 := hfi 1 (by decide)
      have a2 := hfi 2 (by decide)
      have a3 := hfi 3 (by decide)
      have a4 := hfi 4 (by decide)
      have a5 := hfi 5 (by decide)
      have a6 := hfi 6 (by decide)
      have a7 := hfi 7 (by decide)
      simp [cells1u8] at a0 a1 a2 a3 a4 a5 a6 a7
      obtain ⟨b0, rfl⟩ := trod_u8 rfl a0
      obtain ⟨b1, rfl⟩ := trod_u8 rfl a1
      obtain ⟨b2, rfl⟩ := trod_u8 rfl a2
      obtain ⟨b3, rfl⟩ := trod_u8 rfl a3
      obtain ⟨b4, rfl⟩ := trod_u8 rfl a4
      obtain ⟨b5, rfl⟩ := trod_u8 rfl a5
      obtain ⟨b6, rfl⟩ := trod_u8 rfl a6
      obtain ⟨b7, rfl⟩ := trod_u8 rfl a7
      have hi := wf_u32_of wi
      refine ⟨⟨i.toNat, x, r, k, [b0, b1, b2, b3, b4, b5, b6, b7], by omega, wf_i64_of wk, rfl⟩, ?_⟩
      have ei : ((i.toNat : Nat) : Int) = i := by omega
      simp [Fr.cells, ei]
theorem open_frames {H : Type} {enc : TypeId × Value → H} {W : World} {base : Nat} {v : Value} {d : DataW H} {ps : List MemPlace}
    (hval : Value.okWide Try.prog W .any base 42 v) (h : DataW.Trod enc Try.prog W 0 (fun _ => true) true 42 v d ps) (hlt : ∀ x ∈ ps, x.block < W.heap.size) :
    ∃ l, Frames W v l ∧ ((d = .nil ∧ l = []) ∨ ∃ e s, d = .slice e s ∧ e.length = l.length) :=
  open_wide Try.underlying42 cellsF12 (by decide) one_frame hval h hlt
theorem size_frames {H : Type} {ts : List TypeId} {ds : List (DataW H)} {j : Nat} {d : DataW H} {l : List Fr} (h : (DataW.weightsEach Try.prog ts ds).all (· ≤ reachBytes) = true) (ht : ts[j]? = some 42) (hd : ds[j]? = some d) (e : (d = .nil ∧ l = []) ∨ ∃ e s, d = .slice e s ∧ e.length = l.length) : l.length * 24 ≤ 140737488351232 :=
  size_wide h ht hd Try.underlying42 bytesFr e
end Go.Proofs.Ytlghjfomliappaa
namespace Go.Proofs.Ytlghjfomliappaa
open Go.RowKit Go.Proofs.Bits
set_option linter.unusedVariables false
set_option maxRecDepth 1000000

theorem infoFZ : (Try.prog.info? 38).map (fun i => (i.zero, i.size, i.bytes)) = some (some (.agg Fr.nul.arr), 12, 24) := by kernel_rfl
theorem fill_two (f g : Fr) : Instr.fill (fun i => some (i * 12, 12)) ((Array.range (2 * 12)).map ((Value.agg Fr.nul.arr).cells[· % (Value.agg Fr.nul.arr).cells.size]!)) [(0, .agg f.arr), (1, .agg g.arr)] = some (f.arr ++ g.arr) := by
  obtain ⟨i, x, r, n, d0, d1, d2, d3, d4, d5, d6, d7, e⟩ := arr_full f
  obtain ⟨i', x', r', n', d0', d1', d2', d3', d4', d5', d6', d7', e'⟩ := arr_full g
  rw [e, e']
  kernel_rfl
theorem frames_two (f g : Fr) (w : World) : Frames (w.alloc (.cells (f.arr ++ g.arr) 38)) (.slice (some ⟨w.heap.size, 0, none⟩) 2 2) [f, g] := by
  refine ⟨some ⟨w.heap.size, 0, none⟩, 2, rfl, (fun h => by cases h), fun k hk => ⟨w.heap.size, 0, rfl, by rw [size_alloc]; omega, ?_⟩⟩
  have hh := heap_alloc_new w (.cells (f.arr ++ g.arr) 38)
  have lf : f.cells.length = 12 := by simp [Fr.cells, f.hdata]
  have lg : g.cells.length = 12 := by simp [Fr.cells, g.hdata]
  intro j v hj
  rw [Lib.cell_of_heap hh]
  match k, hk with
  | 0, _ =>
    have h1 : f.cells[j]? = some v := hj
    have hl := (List.getElem?_eq_some_iff.1 h1).1
    rw [Array.getElem?_append_left (by rw [f.arr_size]; omega)]
    simpa [Fr.arr] using h1
  | 1, _ =>
    have h1 : g.cells[j]? = some v := hj
    have hl := (List.getElem?_eq_some_iff.1 h1).1
    rw [Array.getElem?_append_right (by rw [f.arr_size]; omega), f.arr_size]
    have : 0 + 1 * 12 + j - 12 = j := by omega
    rw [this]
    simpa [Fr.arr] using h1
  | k + 2, hk => simp at hk; omega
theorem two_bs {w : World} {ops : Array Oper} {rest : List Oper} {o : Oper} {a : Act} {Q : Exit → Act → World → Prop} (f g : Fr) (hgd : o.guard = none) (x y : Operand) (ho : o.op = .buildSlice 42 2 #[(0, x), (1, y)]) (hx : a.eval x = .agg f.arr) (hy : a.eval y = .agg g.arr)
    (h : wpList Try.prog ops Q rest (a.put o.dst (.slice (some ⟨w.heap.size, 0, none⟩) 2 2)) (w.alloc (.cells (f.arr ++ g.arr) 38))) : wpList Try.prog ops Q (o :: rest) a w := by
  obtain ⟨i0, hi, hz0, hz1, hz2⟩ := info_parts infoFZ
  refine wpList_buildSlice hgd 42 38 2 _ ho (f.arr ++ g.arr) i0 _ Try.underlying42 hi hz0 (by rw [hz1]; decide) (by rw [hz1]; decide) ?_ h
  rw [hz1]
  have := fill_two f g
  simpa [hx, hy] using this
end Go.Proofs.Ytlghjfomliappaa
namespace Go.Proofs.Ytlghjfomliappaa
open Go.RowKit Go.Proofs.Bits
set_option linter.unusedVariables false
set_option maxRecDepth 1000000

/-- A node as a round takes it; a flip. -/
structure Se where
  up : Bool
  sends : Bool
  f : Fr
structure Fl where
  nd : Int
  bit : Int
  hn : -9223372036854775808 ≤ nd ∧ nd < 9223372036854775808
  hb : -9223372036854775808 ≤ bit ∧ bit < 9223372036854775808
def Se.nul : Se := ⟨false, false, Fr.nul⟩
def Se.cells (s : Se) : List Value := [.bool s.up, .bool s.sends] ++ s.f.cells
def Se.arr (s : Se) : Array Value := s.cells.toArray
def Fl.cells (f : Fl) : List Value := [.int .i64 f.nd, .int .i64 f.bit]
def seAt (l : List Se) (i : Nat) : Se := l.getD i Se.nul
def upAt (l : List Se) (i : Nat) : Bool := (seAt l i).up
def sndAt (l : List Se) (i : Nat) : Bool := (seAt l i).up && (seAt l i).sends
def upK (l : List Se) (k : Nat) : Nat := ((List.range k).filter (upAt l)).length
def upN (l : List Se) : Nat := upK l l.length
def alone (l : List Se) : Bool := decide (upN l < 2)
def whoK (l : List Se) (k : Nat) : List Nat := (List.range k).filter (sndAt l)
def who (l : List Se) : List Nat := whoK l l.length
def frsK (l : List Se) (k : Nat) : List Fr := (whoK l k).map fun i => (seAt l i).f
def frs (l : List Se) : List Fr := frsK l l.length
def wrongB (n : Nat) (f : Fl) : Bool := decide (f.nd < 0) || decide ((n : Int) ≤ f.nd) || decide (f.bit < 0)
def lookV (n : Nat) (fl : List Fl) : Int := if 127 < n then 2 else if 65536 < fl.length then 2 else if fl.any (wrongB n) then 1 else 0
def cntB (l : List Se) (n : Nat) (f : Fl) : Bool := upAt l f.nd.toNat && decide (f.bit < (n : Int) - 1)
def befB (a b : Fl) : Bool := decide (a.bit < b.bit) || (decide (a.bit = b.bit) && decide (a.nd < b.nd))
def fo1 (l : List Se) (n : Nat) (acc : Option Fl) (f : Fl) : Option Fl :=
  if cntB l n f then (match acc with | none => some f | some g => if befB f g then some f else acc) else acc
def foK (l : List Se) (n : Nat) (fl : List Fl) (k : Nat) : Option Fl := (fl.take k).foldl (fo1 l n) none
def fo (l : List Se) (n : Nat) (fl : List Fl) : Option Fl := foK l n fl fl.length
def lastB (wn : Nat) (n : Nat) (f : Fl) : Bool := decide (f.nd = wn) && decide (f.bit = (n : Int) - 1)
structure Rn where
  win : Int
  bits : Int
  sent : Bool
  errs : List Int
  got : List Bool
  len : Nat
  late : Int
def winN (l : List Se) : Nat := (who l).getD (firstN (frs l)) 0
def winF (l : List Se) : Fr := (seAt l (winN l)).f
def winL (l : List Se) : Nat := (encV (winF l) (!alone l)).length
def rn0 (l : List Se) : Rn := ⟨0, 0, false, List.replicate l.length 0, List.replicate l.length false, 0, -1⟩
def rnN (l : List Se) : Rn := { rn0 l with win := -1, bits := 11 }
def rnW (l : List Se) : Rn := { rn0 l with win := winN l, len := winL l }
def stuffK (l : List Se) (k : Nat) : List Int := (List.range l.length).map fun i => if i < k ∧ upAt l i = true then 20 else 0
def hearK (l : List Se) (wn : Nat) (k : Nat) : List Bool := (List.range l.length).map fun i => decide (i < k) && (upAt l i && decide (i ≠ wn))
def rnSpoil (l : List Se) (r : Rn) (f : Fl) : Rn := { r with errs := if (r.len : Int) - 10 ≤ f.bit then (stuffK l l.length).set f.nd.toNat 22 else stuffK l l.length, late := f.nd, bits := f.bit + 24 }
def rnEnd (l : List Se) (fl : List Fl) (r : Rn) (wn : Nat) : Rn :=
  match fo l r.len fl with
  | some f => rnSpoil l r f
  | none => if alone l then { r with errs := r.errs.set wn 23, bits := (r.len : Int) - 8 + 20 }
    else if fl.any (lastB wn r.len) then { r with got := hearK l wn l.length, errs := r.errs.set wn 22, bits := (r.len : Int) + 20 }
    else { r with got := hearK l wn l.length, sent := true, bits := (r.len : Int) + 3 }
/-- The round's outcome where there is no error; its error. -/
def rnd (l : List Se) (fl : List Fl) : Rn := if who l = [] then rnN l else rnEnd l fl (rnW l) (winN l)
def rndE (l : List Se) (fl : List Fl) : Int := if lookV l.length fl ≠ 0 then lookV l.length fl else if who l = [] then 0 else firstE (frs l)

theorem upK_le (l : List Se) (k : Nat) : upK l k ≤ k := by
  unfold upK; have := List.length_filter_le (upAt l) (List.range k); simpa using this
theorem upK_succ (l : List Se) (k : Nat) : upK l (k + 1) = upK l k + if upAt l k then 1 else 0 := by
  unfold upK; rw [List.range_succ, List.filter_append, List.length_append]
  cases h : upAt l k <;> simp [h]
theorem seAt_eq {l : List Se} {k : Nat} (h : k < l.length) : seAt l k = l[k] := by unfold seAt; simp [h]
theorem whoK_succ (l : List Se) (k : Nat) : whoK l (k + 1) = whoK l k ++ if sndAt l k then [k] else [] := by
  unfold whoK; rw [List.range_succ, List.filter_append]
  cases h : sndAt l k <;> simp [h]
theorem frsK_succ (l : List Se) (k : Nat) : frsK l (k + 1) = frsK l k ++ if sndAt l k then [(seAt l k).f] else [] := by
  unfold frsK; rw [whoK_succ, List.map_append]
  cases h : sndAt l k <;> simp
theorem frsK_length (l : List Se) (k : Nat) : (frsK l k).length = (whoK l k).length := by simp [frsK]
theorem whoK_le (l : List Se) (k : Nat) : (whoK l k).length ≤ k := by
  unfold whoK; have := List.length_filter_le (sndAt l) (List.range k); simpa using this
theorem foK_succ (l : List Se) (n : Nat) (fl : List Fl) (k : Nat) (h : k < fl.length) : foK l n fl (k + 1) = fo1 l n (foK l n fl k) fl[k] := by
  unfold foK; rw [List.take_succ_eq_append_getElem h, List.foldl_append]; rfl
theorem stuffK_zero (l : List Se) : stuffK l 0 = List.replicate l.length 0 := by
  unfold stuffK; apply List.ext_getElem <;> simp
theorem stuffK_length (l : List Se) (k : Nat) : (stuffK l k).length = l.length := by simp [stuffK]
theorem hearK_length (l : List Se) (wn k : Nat) : (hearK l wn k).length = l.length := by simp [hearK]
theorem hearK_zero (l : List Se) (wn : Nat) : hearK l wn 0 = List.replicate l.length false := by
  unfold hearK; apply List.ext_getElem <;> simp
theorem stuffK_up (l : List Se) (k : Nat) (h : upAt l k = true) : (stuffK l k).set k 20 = stuffK l (k + 1) := by
  unfold stuffK
  apply List.ext_getElem
  · simp
  · intro i h1 h2
    simp at h1 h2
    simp only [List.getElem_set, List.getElem_map, List.getElem_range]
    by_cases e : k = i
    · subst e; simp [h]
    · rw [if_neg e]
      have : (i < k ↔ i < k + 1) := by omega
      simp only [this]
theorem stuffK_down (l : List Se) (k : Nat) (h : upAt l k = false) : stuffK l k = stuffK l (k + 1) := by
  unfold stuffK
  apply List.ext_getElem
  · simp
  · intro i h1 h2
    simp only [List.getElem_map, List.getElem_range]
    by_cases e : k = i
    · subst e; simp [h]
    · have : (i < k ↔ i < k + 1) := by omega
      simp only [this]
theorem hearK_set (l : List Se) (wn k : Nat) (h : k < l.length) : (hearK l wn k).set k (upAt l k && decide (k ≠ wn)) = hearK l wn (k + 1) := by
  unfold hearK
  apply List.ext_getElem
  · simp
  · intro i h1 h2
    simp at h1 h2
    simp only [List.getElem_set, List.getElem_map, List.getElem_range]
    by_cases e : k = i
    · subst e; simp
    · rw [if_neg e]
      have : (i < k ↔ i < k + 1) := by omega
      simp only [this]
theorem stuffed_bound (f : Fr) (ack : Bool) : (encV f ack).length ≤ 1000 := by
  unfold encV
  split
  · unfold Fr.bits
    have h1 := body_short f
    have h2 := stuff_body_length f
    simp only [List.length_append, flagV_length, List.length_cons, List.length_nil]
    omega
  · simp
end Go.Proofs.Ytlghjfomliappaa
namespace Go.Proofs.Ytlghjfomliappaa
open Go.RowKit Go.Proofs.Bits
set_option linter.unusedVariables false
set_option maxRecDepth 1000000

def Fl.val (f : Fl) : Value := .agg #[.int .i64 f.nd, .int .i64 f.bit]
def Flips (w : World) (v : Value) (fl : List Fl) : Prop := Wide 2 Fl.cells w v fl
theorem infoFl : (Try.prog.info? 57).map (·.size) = some 2 := by kernel_rfl
theorem fl_ld {w : World} {ops : Array Oper} {rest : List Oper} {p : Oper} {a : Act} {Q : Exit → Act → World → Prop} {b o : Nat} {f : Fl} (h : w.rangeAt b o f.cells) (hgd : p.guard = none) (x : Operand) (ho : p.op = .load 57 x) (hx : a.eval x = .pointer (some ⟨b, o, none⟩))
    (hh : wpList Try.prog ops Q rest (a.put p.dst f.val) w) : wpList Try.prog ops Q (p :: rest) a w :=
  wpList_load_mid hgd 57 x ho b o hx f.cells _ h Try.underlying57 rfl (by rw [infoFl]; rfl) hh
def idxV (p : Fl → Bool) (fl : List Fl) : Int := if fl.any p then (fl.findIdx p : Int) else -1
theorem hmf : ∀ (fn : Fn) (first cap : Array Value) (w : World), (Instr.makeFunc fn first cap).run Try.prog w = .ok (.func fn first cap) w := fun _ _ _ _ => rfl
theorem any_false {p : Fl → Bool} {fl : List Fl} (h : ∀ j (hj : j < fl.length), p fl[j] = false) : fl.any p = false := by
  rw [List.any_eq_false]
  intro x hx
  obtain ⟨j, hj, rfl⟩ := List.getElem_of_mem hx
  simp [h j hj]
theorem any_true {p : Fl → Bool} {fl : List Fl} {k : Nat} (hk : k < fl.length) (h : p fl[k] = true) : fl.any p = true :=
  List.any_eq_true.2 ⟨fl[k], List.getElem_mem hk, h⟩
set_option maxHeartbeats 1000000 in
theorem IndexFunc_any (fn : Nat) (hen : ∀ args x, (callFunc fn args).run Try.prog x = .ok (.enter fn args) x) (cap : Value) (p : Fl → Bool) (v : Value) (fl : List Fl) (w : World) (hl : fl.length ≤ maxLen) (hS : Flips w v fl)
    (hp : ∀ f ∈ fl, ∀ x, Below w.heap.size w x → Calls Try.prog fn #[f.val, cap] x fun e y => e = .returned (.bool (p f)) ∧ Below x.heap.size x y) :
    Calls Try.prog 86 #[v, .func (.func fn) #[] #[cap]] w fun e w' => (∃ z : Int, e = .returned (.int .i64 z) ∧ (0 ≤ z ↔ fl.any p = true) ∧ -1 ≤ z ∧ z ≤ maxLen) ∧ Below w.heap.size w w' := by
  unfold maxLen at hl
  obtain ⟨ao, cp, rfl, _, hc⟩ := hS
  have HC : Hid (∀ (wr : World), Below w.heap.size w wr → ∀ k (hk : k < fl.length), ∃ b off, ao = some ⟨b, off, none⟩ ∧ b < w.heap.size ∧ wr.rangeAt b (off + k * 2) fl[k].cells) := fun wr hb k hk => Wide.at hc hb k hk
  have HP : Hid (∀ k (hk : k < fl.length), ∀ x, Below w.heap.size w x → Calls Try.prog fn #[fl[k].val, cap] x fun e y => e = .returned (.bool (p fl[k])) ∧ Below x.heap.size x y) := fun k hk => hp _ (List.getElem_mem hk)
  clear hc hp
  go_enter Try.func86, Try.ntmps86
  go_wp2
  go_loopw [8] (fun i x => ∃ k : Nat, k ≤ fl.length ∧ i = .int .i64 k ∧ (∀ j (hj : j < fl.length), j < k → p fl[j] = false) ∧ Below w.heap.size w x) (fun i _ => fl.length - (intOf i).toNat)
  case atStart => exact ⟨0, Nat.zero_le _, rfl, fun j _ h => by omega, Below.refl _ _⟩
  case round =>
    obtain ⟨k, hk, rfl, H1, B1⟩ := hrel
    by_cases hkl : k < fl.length
    · obtain ⟨b, off, rfl, hb, hR⟩ := HC.out wr B1 k hkl
      have hF := HP.out k hkl wr B1
      have HT : Hid (p fl[k] = true → fl.any p = true) := any_true hkl
      have HJ : Hid (∀ j (hj : j < fl.length), j < k + 1 → p fl[k] = false → p fl[j] = false) := by
        intro j hj h1 h2
        rcases Nat.lt_or_ge j k with h3 | h3
        · exact H1 j hj h3
        · have : j = k := by omega
          subst this; exact h2
      generalize fl[k] = f at *
      clear HC HP H1
      go_wp2_with (refine fl_ld hR rfl _ rfl rfl ?_)
      refine hF.mono ?_
      rintro e w4 ⟨rfl, B4⟩
      have B5 := B1.trans (B4.mono B1.size)
      clear hF B1 B4 hR
      cases hpf : p f
      · have HJ2 : Hid (∀ j (hj : j < fl.length), j < k + 1 → p fl[j] = false) := fun j hj h1 => HJ.out j hj h1 hpf
        clear HJ HT hpf
        go_wp2
        go_roundw
        case rel => exact ⟨k + 1, by omega, by go_num, HJ2.out, B5⟩
        case measure => simp [intOf]; omega
      · have HA : Hid (fl.any p = true) := HT.out hpf
        clear HJ HT hpf
        go_wp2
        go_ret
        exact ⟨⟨k, rfl, by simp [HA.out], by omega, by unfold maxLen; omega⟩, B5⟩
    · have HA : Hid (fl.any p = false) := any_false fun j hj => H1 j hj (by omega)
      go_wp2
      go_ret
      exact ⟨⟨-1, rfl, by simp [HA.out], by omega, by unfold maxLen; omega⟩, B1⟩
theorem ContainsFunc_any (fn : Nat) (hen : ∀ args x, (callFunc fn args).run Try.prog x = .ok (.enter fn args) x) (cap : Value) (p : Fl → Bool) (v : Value) (fl : List Fl) (w : World) (hl : fl.length ≤ maxLen) (hS : Flips w v fl)
    (hp : ∀ f ∈ fl, ∀ x, Below w.heap.size w x → Calls Try.prog fn #[f.val, cap] x fun e y => e = .returned (.bool (p f)) ∧ Below x.heap.size x y) :
    Calls Try.prog 71 #[v, .func (.func fn) #[] #[cap]] w fun e w' => e = .returned (.bool (fl.any p)) ∧ Below w.heap.size w w' := by
  have HI := IndexFunc_any fn hen cap p v fl w hl hS hp
  generalize fl.any p = A at *
  clear hl hS hp
  go_enter Try.func71, Try.ntmps71
  go_wp2_with fail
  refine HI.mono ?_
  rintro e w4 ⟨⟨z, rfl, hz, h1, h2⟩, B4⟩
  unfold maxLen at h2
  cases A
  · have hd : decide (0 ≤ z) = false := by simp at hz; simp; omega
    go_wp2
    go_ret
    exact ⟨rfl, B4⟩
  · have hd : decide (0 ≤ z) = true := by simp at hz; simpa using hz
    go_wp2
    go_ret
    exact ⟨rfl, B4⟩
theorem enter1 : ∀ args x, (callFunc 70 args).run Try.prog x = .ok (.enter 70 args) x := fun _ _ => by rfl
theorem look1_any (f : Fl) (n q : Nat) (w : World) (hc : w.cell? ⟨q, 0, none⟩ = some (.int .i64 n)) :
    Calls Try.prog 70 #[f.val, .pointer (some ⟨q, 0, none⟩)] w fun e y => e = .returned (.bool (wrongB n f)) ∧ Below w.heap.size w y := by
  have B1 : Below w.heap.size w (w.alloc (.cells #[.int .i64 f.nd, .int .i64 f.bit] 57)) := (Below.refl _ _).alloc (Nat.le_refl _) _
  have hq := World.block_lt_of_cell? w _ hc
  have hc2 : (w.alloc (.cells #[.int .i64 f.nd, .int .i64 f.bit] 57)).cell? ⟨q, 0, none⟩ = some (.int .i64 n) := (B1.cell (p := ⟨q, 0, none⟩) hq).trans hc
  unfold Fl.val
  by_cases h1 : f.nd < 0
  · have d1 : decide (f.nd < 0) = true := by simpa using h1
    have HV : Hid (wrongB n f = true) := by show _ = _; unfold wrongB; simp [h1]
    generalize wrongB n f = V at *
    clear h1
    go_enter Try.func70, Try.ntmps70
    go_wp2
    go_ret
    exact ⟨ret_bool HV.out.symm, B1⟩
  · have d1 : decide (f.nd < 0) = false := by simpa using h1
    by_cases h2 : (n : Int) ≤ f.nd
    · have d2 : decide ((n : Int) ≤ f.nd) = true := by simpa using h2
      have HV : Hid (wrongB n f = true) := by show _ = _; unfold wrongB; simp [h2]
      generalize wrongB n f = V at *
      clear h1 h2
      go_enter Try.func70, Try.ntmps70
      go_wp2
      go_ret
      exact ⟨ret_bool HV.out.symm, B1⟩
    · have d2 : decide ((n : Int) ≤ f.nd) = false := by simpa using h2
      by_cases h3 : f.bit < 0
      · have d3 : decide (f.bit < 0) = true := by simpa using h3
        have HV : Hid (wrongB n f = true) := by show _ = _; unfold wrongB; simp [h3]
        generalize wrongB n f = V at *
        clear h1 h2 h3
        go_enter Try.func70, Try.ntmps70
        go_wp2
        go_ret
        exact ⟨ret_bool HV.out.symm, B1⟩
      · have d3 : decide (f.bit < 0) = false := by simpa using h3
        have HV : Hid (wrongB n f = false) := by show _ = _; unfold wrongB; rw [d1, d2, d3]; rfl
        generalize wrongB n f = V at *
        clear h1 h2 h3
        go_enter Try.func70, Try.ntmps70
        go_wp2
        go_ret
        exact ⟨ret_bool HV.out.symm, B1⟩
theorem Flips.below {w w' : World} {v : Value} {fl : List Fl} (h : Flips w v fl) (hb : Below w.heap.size w w') : Flips w' v fl := by
  obtain ⟨ao, cap, hv, h0, hc⟩ := h
  refine ⟨ao, cap, hv, h0, fun k hk => ?_⟩
  obtain ⟨b, off, ha, hlt, hR⟩ := Wide.at hc hb k hk
  exact ⟨b, off, ha, Nat.lt_of_lt_of_le hlt hb.size, hR⟩
theorem blook_any (n : Nat) (v : Value) (fl : List Fl) (w : World) (hl : fl.length ≤ maxLen) (hS : Flips w v fl) :
    Calls Try.prog 45 #[.int .i64 n, v] w fun e w' => e = .returned (.int .i64 (lookV n fl)) ∧ Below w.heap.size w w' := by
  have B1 : Below w.heap.size w (w.alloc (.cells #[.int .i64 n] 3)) := (Below.refl _ _).alloc (Nat.le_refl _) _
  have c1 := cell_new w (.int .i64 n) 3
  have HC : ∀ x, Below (w.alloc (.cells #[.int .i64 n] 3)).heap.size (w.alloc (.cells #[.int .i64 n] 3)) x → x.cell? ⟨w.heap.size, 0, none⟩ = some (.int .i64 n) := fun x hx => (hx.cell (p := ⟨w.heap.size, 0, none⟩) (by rw [size_alloc]; exact Nat.lt_succ_self _)).trans c1
  have HF := ContainsFunc_any 70 enter1 (.pointer (some ⟨w.heap.size, 0, none⟩)) (wrongB n) v fl _ hl (hS.below B1) (fun f _ x hx => look1_any f n _ x (HC x hx))
  have HV : Hid (lookV n fl = if 127 < n then 2 else if 65536 < fl.length then 2 else if fl.any (wrongB n) then 1 else 0) := rfl
  obtain ⟨ao, cap, rfl, _⟩ := hS
  generalize lookV n fl = V at *
  unfold maxLen at hl
  clear HC
  have hm := hmf
  by_cases h1 : 127 < n
  · have d1 : decide ((127 : Int) < (n : Int)) = true := by simp; omega
    have HE : Hid (V = 2) := by show _ = _; rw [HV.out, if_pos h1]
    clear HV HF h1
    go_enter Try.func45, Try.ntmps45
    go_wp2
    go_ret
    exact ⟨ret_int HE.out.symm, B1⟩
  · have d1 : decide ((127 : Int) < (n : Int)) = false := by simp; omega
    rw [if_neg h1] at HV
    by_cases h2 : 65536 < fl.length
    · have d2 : decide ((65536 : Int) < (fl.length : Int)) = true := by simp; omega
      have HE : Hid (V = 2) := by show _ = _; rw [HV.out, if_pos h2]
      clear HV HF h1
      go_enter Try.func45, Try.ntmps45
      go_wp2
      go_ret
      exact ⟨ret_int HE.out.symm, B1⟩
    · have d2 : decide ((65536 : Int) < (fl.length : Int)) = false := by simp; omega
      rw [if_neg h2] at HV
      generalize fl.any (wrongB n) = A at *
      cases A
      · have HE : Hid (V = 0) := HV.out
        clear HV
        go_enter Try.func45, Try.ntmps45
        go_wp2_with fail
        refine HF.mono ?_
        rintro e w4 ⟨rfl, B4⟩
        have B5 := B1.trans (B4.mono B1.size)
        clear HF B4
        go_wp2
        go_ret
        exact ⟨ret_int HE.out.symm, B5⟩
      · have HE : Hid (V = 1) := HV.out
        clear HV
        go_enter Try.func45, Try.ntmps45
        go_wp2_with fail
        refine HF.mono ?_
        rintro e w4 ⟨rfl, B4⟩
        have B5 := B1.trans (B4.mono B1.size)
        clear HF B4
        go_wp2
        go_ret
        exact ⟨ret_int HE.out.symm, B5⟩
end Go.Proofs.Ytlghjfomliappaa
namespace Go.Proofs.Ytlghjfomliappaa
open Go.RowKit Go.Proofs.Bits
set_option linter.unusedVariables false
set_option maxRecDepth 1000000

def Senders (w : World) (v : Value) (l : List Se) : Prop := Wide 14 Se.cells w v l
theorem infoSe : (Try.prog.info? 40).map (·.size) = some 14 := by kernel_rfl
theorem Se.len (s : Se) : s.cells.length = 14 := by simp [Se.cells, Fr.cells, s.f.hdata]
theorem Se.one (s : Se) : s.arr.all (·.oneCell') = true := by
  have h := s.f.one
  rw [Array.all_eq_true_iff_forall_mem] at h ⊢
  intro u hu
  simp only [Se.arr, Se.cells, List.mem_toArray, List.mem_append, List.mem_cons, List.not_mem_nil, or_false] at hu
  rcases hu with (rfl | rfl) | hu
  · rfl
  · rfl
  · exact h u (by simpa [Fr.arr] using hu)
theorem Se.a0 (s : Se) : s.arr[0]? = some (.bool s.up) := rfl
theorem Se.a1 (s : Se) : s.arr[1]? = some (.bool s.sends) := rfl
theorem se_ld {w : World} {ops : Array Oper} {rest : List Oper} {p : Oper} {a : Act} {Q : Exit → Act → World → Prop} {b o : Nat} {s : Se} (h : w.rangeAt b o s.cells) (hgd : p.guard = none) (x : Operand) (ho : p.op = .load 40 x) (hx : a.eval x = .pointer (some ⟨b, o, none⟩))
    (hh : wpList Try.prog ops Q rest (a.put p.dst (.agg s.arr)) w) : wpList Try.prog ops Q (p :: rest) a w :=
  wpList_load_mid hgd 40 x ho b o hx s.cells _ h Try.underlying40 rfl (by rw [infoSe, s.len]) hh
/-- A copy of a sender in a block of its own. -/
def Sa (q : Nat) (s : Se) (w : World) : Prop := w.heap[q]? = some (.cells s.arr 40 (0, 0))
theorem Sa.new (w : World) (s : Se) : Sa w.heap.size s (w.alloc (.cells s.arr 40)) := heap_alloc_new w _
theorem Sa.row {w : World} {q : Nat} {s : Se} (h : Sa q s w) (s' : Se) : Sa q s' (w.setRow q s'.arr) := setRow_heap w q _ _ 40 _ h
theorem Sa.c0 {w : World} {q : Nat} {s : Se} (h : Sa q s w) : w.cell? ⟨q, 0, none⟩ = some (.bool s.up) := (Lib.cell_of_heap h 0).trans s.a0
theorem Sa.c1 {w : World} {q : Nat} {s : Se} (h : Sa q s w) : w.cell? ⟨q, 1, none⟩ = some (.bool s.sends) := (Lib.cell_of_heap h 1).trans s.a1
theorem Sa.sd {w : World} {q : Nat} {s : Se} {ops : Array Oper} {rest : List Oper} {o : Oper} {a : Act} {Q : Exit → Act → World → Prop} (h : Sa q s w) (s' : Se) (hgd : o.guard = none) (x y : Operand) (ho : o.op = .store 40 x y) (hx : a.eval x = .pointer (some ⟨q, 0, none⟩)) (hy : a.eval y = .agg s'.arr)
    (hh : wpList Try.prog ops Q rest (a.put o.dst undef) (w.setRow q s'.arr)) : wpList Try.prog ops Q (o :: rest) a w :=
  wpList_store_row hgd 40 x y ho q s'.arr hx hy 40 _ h (by rw [infoSe]; simp [Se.arr, s'.len]) (by simp [Se.arr, Se.len]) s'.one hh
theorem Senders.below {w w' : World} {v : Value} {l : List Se} (h : Senders w v l) (hb : Below w.heap.size w w') : Senders w' v l := by
  obtain ⟨ao, cap, hv, h0, hc⟩ := h
  refine ⟨ao, cap, hv, h0, fun k hk => ?_⟩
  obtain ⟨b, off, ha, hlt, hR⟩ := Wide.at hc hb k hk
  exact ⟨b, off, ha, Nat.lt_of_lt_of_le hlt hb.size, hR⟩

/-- A runner in block q. -/
def Rn.arr (r : Rn) (ve vg v : Value) : Array Value := #[.int .i64 r.win, .int .i64 r.bits, .bool r.sent, ve, vg, v, .int .i64 r.len, .int .i64 r.late]
def Ru (q : Nat) (r : Rn) (ve vg v : Value) (w : World) : Prop := w.heap[q]? = some (.cells (r.arr ve vg v) 67 (0, 0))
section
variable {q : Nat} {r : Rn} {ve vg v : Value} {w : World}
theorem Ru.lt (h : Ru q r ve vg v w) : q < w.heap.size := (Array.getElem?_eq_some_iff.1 h).1
theorem Ru.cells (h : Ru q r ve vg v w) : w.cell? ⟨q, 0, none⟩ = some (.int .i64 r.win) ∧ w.cell? ⟨q, 1, none⟩ = some (.int .i64 r.bits) ∧ w.cell? ⟨q, 2, none⟩ = some (.bool r.sent) ∧ w.cell? ⟨q, 3, none⟩ = some ve ∧ w.cell? ⟨q, 4, none⟩ = some vg ∧ w.cell? ⟨q, 5, none⟩ = some v ∧ w.cell? ⟨q, 6, none⟩ = some (.int .i64 r.len) ∧ w.cell? ⟨q, 7, none⟩ = some (.int .i64 r.late) ∧ ∀ k, w.frozen? ⟨q, k, none⟩ = false :=
  ⟨Lib.cell_of_heap h 0, Lib.cell_of_heap h 1, Lib.cell_of_heap h 2, Lib.cell_of_heap h 3, Lib.cell_of_heap h 4, Lib.cell_of_heap h 5, Lib.cell_of_heap h 6, Lib.cell_of_heap h 7, fun k => Lib.frozen_of_heap h k⟩
theorem Ru.kept (h : Ru q r ve vg v w) {w' : World} (hk : w'.heap[q]? = w.heap[q]?) : Ru q r ve vg v w' := hk.trans h
theorem Ru.below (h : Ru q r ve vg v w) {w' : World} (hb : Below w.heap.size w w') : Ru q r ve vg v w' := h.kept (hb.block q h.lt)
theorem Ru.set0 (h : Ru q r ve vg v w) (z : Int) : Ru q { r with win := z } ve vg v (w.setCell ⟨q, 0, none⟩ (.int .i64 z)) := by
  unfold Ru Rn.arr at *; simp [World.setCell, Array.getElem?_modify, h]
theorem Ru.set1 (h : Ru q r ve vg v w) (z : Int) : Ru q { r with bits := z } ve vg v (w.setCell ⟨q, 1, none⟩ (.int .i64 z)) := by
  unfold Ru Rn.arr at *; simp [World.setCell, Array.getElem?_modify, h]
theorem Ru.set2 (h : Ru q r ve vg v w) (z : Bool) : Ru q { r with sent := z } ve vg v (w.setCell ⟨q, 2, none⟩ (.bool z)) := by
  unfold Ru Rn.arr at *; simp [World.setCell, Array.getElem?_modify, h]
theorem Ru.set6 (h : Ru q r ve vg v w) (z : Nat) : Ru q { r with len := z } ve vg v (w.setCell ⟨q, 6, none⟩ (.int .i64 z)) := by
  unfold Ru Rn.arr at *; simp [World.setCell, Array.getElem?_modify, h]
theorem Ru.set7 (h : Ru q r ve vg v w) (z : Int) : Ru q { r with late := z } ve vg v (w.setCell ⟨q, 7, none⟩ (.int .i64 z)) := by
  unfold Ru Rn.arr at *; simp [World.setCell, Array.getElem?_modify, h]
end

set_option maxHeartbeats 1000000 in
theorem alone_any {q : Nat} {r : Rn} {ve vg v : Value} {l : List Se} {w : World} (hl : l.length ≤ 127) (hS : Senders w v l) (hq : w.cell? ⟨q, 5, none⟩ = some v) :
    Calls Try.prog 73 #[.pointer (some ⟨q, 0, none⟩)] w fun e w' => e = .returned (.bool (alone l)) ∧ Below w.heap.size w w' := by
  obtain ⟨ao, cap, rfl, _, hc⟩ := hS
  have HC : Hid (∀ (wr : World), Below w.heap.size w wr → ∀ k (hk : k < l.length), ∃ b off, ao = some ⟨b, off, none⟩ ∧ b < w.heap.size ∧ wr.rangeAt b (off + k * 14) l[k].cells) := fun wr hb k hk => Wide.at hc hb k hk
  have HA : Hid (alone l = decide (upK l l.length < 2)) := rfl
  generalize alone l = A at *
  clear hc
  go_enter Try.func73, Try.ntmps73
  go_wp2
  go_loopw [3, 11] (fun n i x => ∃ k : Nat, k ≤ l.length ∧ i = .int .i64 k ∧ n = .int .i64 (upK l k) ∧ Below w.heap.size w x) (fun _ i _ => l.length - (intOf i).toNat)
  case atStart => exact ⟨0, Nat.zero_le _, rfl, rfl, Below.refl _ _⟩
  case round =>
    obtain ⟨k, hk, rfl, rfl, B1⟩ := hrel
    have s1 := B1.size
    have hle := upK_le l k
    by_cases hkl : k < l.length
    · obtain ⟨b, off, rfl, hb, hR⟩ := HC.out wr B1 k hkl
      have HS : Hid (upK l (k + 1) = upK l k + if l[k].up then 1 else 0) := by
        have := upK_succ l k; unfold upAt at this; rw [seAt_eq hkl] at this; exact this
      have gn := Sa.new wr Se.nul
      have g3 := gn.row l[k]
      have c3 := g3.c0
      have B3 : Below w.heap.size w ((wr.alloc (.cells Se.nul.arr 40)).setRow wr.heap.size l[k].arr) := below_row (B1.alloc s1 _) s1 (by rw [size_alloc]; omega) _
      generalize upK l k = n at *
      generalize l[k] = s at *
      clear HC B1
      generalize s.up = up at *
      cases up
      · have H1 : Hid (upK l (k + 1) = n) := HS.out
        clear HS
        go_wp2_with (first | refine se_ld hR rfl _ rfl rfl ?_ | refine gn.sd s rfl _ _ rfl rfl rfl ?_)
        go_roundw
        case rel => exact ⟨k + 1, by omega, by go_num, by rw [H1.out], B3⟩
        case measure => simp [intOf]; omega
      · have H1 : Hid (upK l (k + 1) = n + 1) := HS.out
        clear HS
        go_wp2_with (first | refine se_ld hR rfl _ rfl rfl ?_ | refine gn.sd s rfl _ _ rfl rfl rfl ?_)
        go_roundw
        case rel => exact ⟨k + 1, by omega, by go_num, by rw [H1.out]; go_num, B3⟩
        case measure => simp [intOf]; omega
    · obtain rfl : k = l.length := by omega
      generalize upK l l.length = n at *
      go_wp2
      go_ret
      exact ⟨ret_bool (by rw [HA.out, Bool.eq_iff_iff]; simp only [decide_eq_true_eq]; omega), B1⟩
theorem before_any (f g : Fl) (w : World) : Calls Try.prog 91 #[f.val, g.val] w fun e y => e = .returned (.bool (befB f g)) ∧ Below w.heap.size w y := by
  have B1 : Below w.heap.size w ((w.alloc (.cells #[.int .i64 f.nd, .int .i64 f.bit] 57)).alloc (.cells #[.int .i64 g.nd, .int .i64 g.bit] 57)) := ((Below.refl _ _).alloc (Nat.le_refl _) _).alloc (by rw [size_alloc]; omega) _
  unfold Fl.val
  have HV : Hid (befB f g = (decide (f.bit < g.bit) || (decide (f.bit = g.bit) && decide (f.nd < g.nd)))) := rfl
  generalize befB f g = V at *
  have e2 : (f.bit == g.bit) = decide (f.bit = g.bit) := by rw [Bool.eq_iff_iff]; simp
  by_cases h1 : f.bit < g.bit
  · have d1 : decide (f.bit < g.bit) = true := by simpa using h1
    have HE : Hid (V = true) := by show _ = _; rw [HV.out, d1]; rfl
    clear HV h1
    go_enter Try.func91, Try.ntmps91
    go_wp2
    go_ret
    exact ⟨ret_bool HE.out.symm, B1⟩
  · have d1 : decide (f.bit < g.bit) = false := by simpa using h1
    by_cases h2 : f.bit = g.bit
    · have d2 : (f.bit == g.bit) = true := by simpa using h2
      have HE : Hid (V = decide (f.nd < g.nd)) := by show _ = _; rw [HV.out, d1, ← e2, d2]; simp
      clear HV h1 e2
      have H2 : Hid (f.bit = g.bit) := h2
      clear h2
      go_enter Try.func91, Try.ntmps91
      go_wp2
      go_ret
      exact ⟨ret_bool HE.out.symm, B1⟩
    · have d2 : (f.bit == g.bit) = false := by simpa using h2
      have HE : Hid (V = false) := by show _ = _; rw [HV.out, d1, ← e2, d2]; rfl
      clear HV h1 e2
      go_enter Try.func91, Try.ntmps91
      go_wp2
      go_ret
      exact ⟨ret_bool HE.out.symm, B1⟩
end Go.Proofs.Ytlghjfomliappaa
namespace Go.Proofs.Ytlghjfomliappaa
open Go.ChangeShapes Go.WideShapes Go.ChangeAt Go.RowKit Go.Proofs.Bits
set_option linter.unusedVariables false
set_option maxRecDepth 1000000

theorem cellsSe : Try.prog.cellsOf 40 = 14 := by kernel_rfl
theorem cellsFl : Try.prog.cellsOf 57 = 2 := by kernel_rfl
theorem bytesSe : Try.prog.bytesOf 40 = 32 := by kernel_rfl
theorem bytesFl : Try.prog.bytesOf 57 = 16 := by kernel_rfl
theorem list14 {l : List Value} (h : l.length = 14) : ∃ a b r, l = a :: b :: r ∧ r.length = 12 := by
  match l, h with
  | a :: b :: r, h => exact ⟨a, b, r, rfl, by simpa using h⟩
theorem list2 {l : List Value} (h : l.length = 2) : ∃ a b, l = [a, b] := by
  match l, h with
  | [a, b], _ => exact ⟨a, b, rfl⟩
theorem one_sender {H : Type} {enc : TypeId × Value → H} {W : World} (n : Nat) (cs : List Value) (y : DataW H × List MemPlace) (h : DataW.trod enc Try.prog W 0 (fun _ => true) true n 40 cs = some y) : ∃ s : Se, cs = s.cells := by
  obtain ⟨xs, m, _, _, hn, hl, hfs⟩ := DataW.trod_struct Try.underlying40 h
  rw [cellsSe] at hn
  obtain ⟨a, b, r, rfl, hr⟩ := list14 hn
  have g0 := hfs 0 _ rfl
  have g1 := hfs 1 _ rfl
  have g2 := hfs 2 _ rfl
  simp [cells1bool, cellsF12] at g0 g1 g2
  match xs, hl with
  | [y0, y1, y2], _ =>
    simp at g0 g1 g2
    rw [List.take_of_length_le (by omega)] at g2
    obtain ⟨x, e0, _⟩ := DataW.trod_bool Try.underlying4 g0
    obtain ⟨z, e1, _⟩ := DataW.trod_bool Try.underlying4 g1
    obtain ⟨f, rfl⟩ := one_frame _ _ _ g2
    simp at e0 e1
    subst e0 e1
    exact ⟨⟨x, z, f⟩, rfl⟩
theorem one_flip {H : Type} {enc : TypeId × Value → H} {W : World} (n : Nat) (cs : List Value) (y : DataW H × List MemPlace) (h : DataW.trod enc Try.prog W 0 (fun _ => true) true n 57 cs = some y) : ∃ f : Fl, cs = f.cells := by
  obtain ⟨xs, m, _, _, hn, hl, hfs⟩ := DataW.trod_struct Try.underlying57 h
  rw [cellsFl] at hn
  obtain ⟨a, b, rfl⟩ := list2 hn
  have g0 := hfs 0 _ rfl
  have g1 := hfs 1 _ rfl
  simp [cells1int] at g0 g1
  match xs, hl with
  | [y0, y1], _ =>
    simp at g0 g1
    obtain ⟨x, e0, _, w0⟩ := DataW.trod_int Try.underlying3 g0
    obtain ⟨z, e1, _, w1⟩ := DataW.trod_int Try.underlying3 g1
    simp at e0 e1
    subst e0 e1
    exact ⟨⟨x, z, wf_i64_of w0, wf_i64_of w1⟩, rfl⟩
theorem open_senders {H : Type} {enc : TypeId × Value → H} {W : World} {base : Nat} {v : Value} {d : DataW H} {ps : List MemPlace}
    (hval : Value.okWide Try.prog W .any base 22 v) (h : DataW.Trod enc Try.prog W 0 (fun _ => true) true 22 v d ps) (hlt : ∀ x ∈ ps, x.block < W.heap.size) :
    ∃ l, Senders W v l ∧ ((d = .nil ∧ l = []) ∨ ∃ e s, d = .slice e s ∧ e.length = l.length) :=
  open_wide Try.underlying22 cellsSe (by decide) one_sender hval h hlt
theorem size_senders {H : Type} {ts : List TypeId} {ds : List (DataW H)} {j : Nat} {d : DataW H} {l : List Se} (h : (DataW.weightsEach Try.prog ts ds).all (· ≤ reachBytes) = true) (ht : ts[j]? = some 22) (hd : ds[j]? = some d) (e : (d = .nil ∧ l = []) ∨ ∃ e s, d = .slice e s ∧ e.length = l.length) : l.length * 32 ≤ 140737488351232 :=
  size_wide h ht hd Try.underlying22 bytesSe e
theorem open_flips {H : Type} {enc : TypeId × Value → H} {W : World} {base : Nat} {v : Value} {d : DataW H} {ps : List MemPlace}
    (hval : Value.okWide Try.prog W .any base 23 v) (h : DataW.Trod enc Try.prog W 0 (fun _ => true) true 23 v d ps) (hlt : ∀ x ∈ ps, x.block < W.heap.size) :
    ∃ l, Flips W v l ∧ ((d = .nil ∧ l = []) ∨ ∃ e s, d = .slice e s ∧ e.length = l.length) :=
  open_wide Try.underlying23 cellsFl (by decide) one_flip hval h hlt
theorem size_flips {H : Type} {ts : List TypeId} {ds : List (DataW H)} {j : Nat} {d : DataW H} {l : List Fl} (h : (DataW.weightsEach Try.prog ts ds).all (· ≤ reachBytes) = true) (ht : ts[j]? = some 23) (hd : ds[j]? = some d) (e : (d = .nil ∧ l = []) ∨ ∃ e s, d = .slice e s ∧ e.length = l.length) : l.length * 16 ≤ 140737488351232 :=
  size_wide h ht hd Try.underlying23 bytesFl e
end Go.Proofs.Ytlghjfomliappaa
