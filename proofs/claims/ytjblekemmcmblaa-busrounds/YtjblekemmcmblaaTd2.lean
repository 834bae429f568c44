/- The law BusRounds returns true for every slice of senders and every slice of flips, and leaves all as they were. -/
import Derived.Test.YtjblekemmcmblaaTd1
import Derived.Maps.OwnOps
import Derived.Deep.RegionLaw
import Derived.Deep.AppendLies
import Derived.Test.YtjblekemmcmblaaOpenB
namespace Go.Proofs.Ytjblekemmcmblaa
open Go.RowKit Go.Proofs.Bits Go.Maps Go.WideMaps
set_option linter.unusedVariables false
set_option maxRecDepth 1000000

theorem run_makeMap_none (w : World) : (Instr.makeMap 106 none).run Try.prog w = .ok (.map (some w.heap.size)) (w.alloc (.map #[] 0)) := by
  simp [Instr.makeMap, Result.andThen]
theorem run_make_senders (n : Nat) (hn : n ≤ 127) (w : World) : (Instr.makeSlice 22 (.int .i64 n) (.int .i64 n)).run Try.prog w = .ok (.slice (some ⟨w.heap.size, 0, none⟩) n n) (w.alloc (.cells (madeCells Se.nul.arr (n * 14)) 40)) := by
  obtain ⟨i0, hi, hz0, hz1, hz2⟩ := info_parts infoSeZ
  have := run_make (P := Try.prog) w 22 40 i0 _ Try.underlying22 hi hz0 .i64 .i64 n n (by omega) (Int.le_refl _) (by rw [hz2]; omega) (by omega)
  simp only [Int.toNat_natCast, hz1] at this
  exact this
theorem made_at (z : Array Value) (m j : Nat) (hj : j < m) (hz : 0 < z.size) : (madeCells z m)[j]? = z[j % z.size]? := by
  have hm : j % z.size < z.size := Nat.mod_lt _ hz
  simp [madeCells, hj, hm]
theorem SeM.made (w : World) (n : Nat) : SeM w.heap.size (List.replicate n Se.nul) (w.alloc (.cells (madeCells Se.nul.arr (n * 14)) 40)) := by
  have hh := heap_alloc_new w (.cells (madeCells Se.nul.arr (n * 14)) 40)
  have hz : Se.nul.arr.size = 14 := rfl
  refine ⟨fun i hi => ?_, fun j hj => ?_, by rw [size_alloc]; omega⟩
  · simp only [List.length_replicate] at hi
    simp only [List.getElem_replicate]
    intro j v hj
    have hj14 : j < 14 := (List.getElem?_eq_some_iff.1 hj).1
    rw [Lib.cell_of_heap hh, made_at _ _ _ (by omega) (by rw [hz]; omega), hz, show (i * 14 + j) % 14 = j by omega]
    simpa [Se.arr] using hj
  · rw [List.length_replicate] at hj
    refine ⟨?_, Lib.frozen_of_heap hh _⟩
    rw [Lib.cell_of_heap hh, made_at _ _ _ (by omega) (by rw [hz]; omega), hz]
    have : j % 14 < Se.nul.arr.size := by rw [hz]; omega
    simp [this]
theorem has_setL (s : List (List UInt8)) (x : List UInt8) : Maps.has (setL s) (keyL x) = s.contains x := by
  unfold setL
  rw [has_setOf _ _ _ (fun y hy => by obtain ⟨_, _, rfl⟩ := List.mem_map.1 hy; trivial), List.any_map, Bool.eq_iff_iff, List.any_eq_true, List.contains_iff_mem]
  simp only [Function.comp, keyL, Lit.sameKey, beq_iff_eq]
  constructor
  · rintro ⟨a, h, rfl⟩; exact h
  · intro h; exact ⟨x, h, rfl⟩
theorem setL_snoc (s : List (List UInt8)) (x : List UInt8) : setL (s ++ [x]) = (setL s).put (keyL x) (.agg []) := by
  unfold setL; rw [List.map_append, List.map_cons, List.map_nil, setOf_snoc]
theorem fldV_len (f : Fr) : (fldV f).length ≤ 32 := by
  unfold fldV
  split
  · exact field_len f
  · simp
/-- What stands between two rounds of senders. -/
def SenS (w : World) (l : List Nd) (k : Nat) (x : World) : Prop := Below w.heap.size w x ∧ SeM w.heap.size (sendsK l k) x ∧ x.ownsMap Try.prog 9 (unitElem (H := Unit)) (w.heap.size + 1) k (setL (seenK l k))
section
variable {b nb : Nat} {ρ : Nat → Ro} {t : Int} {l : List Nd} {w : World}
theorem SenS.start (w : World) (l : List Nd) : SenS w l 0 ((w.alloc (.cells (madeCells Se.nul.arr (l.length * 14)) 40)).alloc (.map #[] 0)) := by
  have h1 := SeM.made w l.length
  rw [← sendsK_zero] at h1
  have b1 : Below w.heap.size w (w.alloc (.cells (madeCells Se.nul.arr (l.length * 14)) 40)) := (Below.refl _ _).alloc (Nat.le_refl _) _
  refine ⟨b1.alloc (by rw [size_alloc]; omega) _, h1.below ((Below.refl _ _).alloc (Nat.le_refl _) _), ?_⟩
  have := World.ownsMap_made (H := Unit) (w.alloc (.cells (madeCells Se.nul.arr (l.length * 14)) 40)) Try.prog 9 (unitElem (H := Unit))
  rw [size_alloc] at this
  exact this
theorem map_below {x y : World} {m n : Nat} {D : DataW Unit} (h : x.ownsMap Try.prog 9 (unitElem (H := Unit)) m n D) (hb : Below x.heap.size x y) : y.ownsMap Try.prog 9 (unitElem (H := Unit)) m n D := by
  have hlt := h.lt
  obtain ⟨es, clock, hb', r⟩ := h
  exact ⟨es, clock, (hb.block m hlt).trans hb', r⟩
set_option maxHeartbeats 4000000 in
theorem senders_bus (h : BusAt b nb ρ t l w) (hl : l.length ≤ 127) :
    Calls Try.prog 35 #[.pointer (some ⟨b, 0, none⟩)] w fun e w' => e = .returned (sl w.heap.size l.length) ∧ Senders w' (sl w.heap.size l.length) (sends l) ∧ Below w.heap.size w w' := by
  have hb := h
  obtain ⟨G, V, h⟩ := h
  obtain ⟨c0, c1, hf⟩ := h.cells
  have H0 : Hid _ := SenS.start w l
  have hmk := run_make_senders l.length hl
  have hmm := run_makeMap_none
  have HB : Hid (∀ x, Below w.heap.size w x → BusM b nb ρ t l G V x) := fun x hx => h.below hx
  have hlb := h.lt_b
  clear h hb
  have e1 : b ≠ w.heap.size := by omega
  have e2 : b ≠ w.heap.size + 1 := by omega
  go_enter Try.func35, Try.ntmps35
  go_wp2
  have HRet : Hid (∀ x, SenS w l l.length x → Senders x (sl w.heap.size l.length) (sends l) ∧ Below w.heap.size w x) := fun x hx => ⟨by have := hx.2.1.senders; rw [sendsK_full, sends_len] at this; exact this, hx.1⟩
  clear hmk hmm c0 c1 hf
  go_loopw [23] (fun i x => ∃ k : Nat, k ≤ l.length ∧ i = .int .i64 k ∧ SenS w l k x) (fun i _ => l.length - (intOf i).toNat)
  case atStart => exact ⟨0, Nat.zero_le _, rfl, H0.out⟩
  case round =>
    clear H0
    obtain ⟨k, hk, rfl, S1⟩ := hrel
    by_cases hkl : k < l.length
    · obtain ⟨B1, M1, O1⟩ := S1
      have h1 := HB.out wr B1
      have hR := h1.hn k hkl
      have hv := own_ok (h1.hg k hkl)
      have na := na_row wr l[k] (G k) (V k)
      have nbw := na_below wr l[k] (G k) (V k)
      have hu2 : Ua (G k) l[k].u _ := (h1.hu k hkl).below nbw
      obtain ⟨e0, e1', e2', e3', e4'⟩ := range_node.1 na.range
      have HT := takesPart_any (q := wr.heap.size) (o := 0) e0 e1' hu2
      have M2 := M1.below nbw
      have O2 := map_below O1 nbw
      have B2 := B1.trans (nbw.mono B1.size)
      have hget : ndAt l k = l[k] := by unfold ndAt; simp [hkl]
      have HW : Hid (wantN l[k] = ((l[k].pw && !l[k].u.off) && l[k].has)) := rfl
      have HSe : Hid (seOf l k = if wantN l[k] && !(seenK l k).contains (fldV l[k].f) then ⟨true, true, l[k].f⟩ else ⟨l[k].pw && !l[k].u.off, false, Fr.nul⟩) := by show _ = _; unfold seOf; rw [hget]; rfl
      have HSn : Hid (seenK l (k + 1) = if wantN l[k] && !(seenK l k).contains (fldV l[k].f) then seenK l k ++ [fldV l[k].f] else seenK l k) := by show _ = _; rw [seenK, hget]
      have HSt : Hid ((sendsK l k).set k (seOf l k) = sendsK l (k + 1)) := sendsK_set l k hkl
      have hks : k < (sendsK l k).length := by rw [sendsK_len]; exact hkl
      have hat := sendsK_at l k hks
      have hlt1 : w.heap.size + 1 < wr.heap.size := O1.lt
      have hqg : wr.heap.size ≠ w.heap.size := by have := M1.lt; omega
      generalize l[k] = n at *
      clear HB h1 M1 O1 B1 hu2 hget
      go_wp2_with (first | refine nd_ld hR rfl _ rfl rfl ?_ | refine na_sd n (G k) (V k) hv rfl _ _ rfl rfl rfl ?_)
      refine HT.mono ?_
      rintro e w3 ⟨rfl, m, hw3⟩
      have bm := below_drawn (Below.refl ((wr.alloc (.cells nodeZ 80)).setRow wr.heap.size (n.cells (G k) (V k)).toArray).heap.size ((wr.alloc (.cells nodeZ 80)).setRow wr.heap.size (n.cells (G k) (V k)).toArray)) m
      rw [← hw3] at bm
      have M3 := M2.below bm
      have O3 := map_below O2 bm
      have B3 := B2.trans (bm.mono B2.size)
      have na3 : Na wr.heap.size n (G k) (V k) w3 := (bm.block _ (Array.getElem?_eq_some_iff.1 na).1).trans na
      generalize (n.pw && !n.u.off) = tp at *
      have M4 := M3.up hks tp
      obtain ⟨s0, s1, s2⟩ := range_se.1 (M3.hn k hks)
      have sf : w3.frozen? ⟨w.heap.size, k * 14, none⟩ = false := by
        have := (M3.ht (k * 14) (by omega)).2
        rw [Nat.zero_add] at this; exact this
      have na4 : Na wr.heap.size n (G k) (V k) (w3.setCell ⟨w.heap.size, k * 14, none⟩ (.bool tp)) := (Below.heap_setCell w3 _ _ _ hqg).trans na3
      have O4 := O3.setCell (a := ⟨w.heap.size, k * 14, none⟩) (by show w.heap.size + 1 ≠ w.heap.size; omega) (.bool tp)
      have B4 := B3.setCell (p := ⟨w.heap.size, k * 14, none⟩) (Nat.le_refl _) (.bool tp)
      rw [hat] at M4 s0
      obtain ⟨f0, f1, f2, f3, f4⟩ := range_node.1 na4.range
      rw [Nat.zero_add] at f2 f3
      clear hw3 bm M3 O3 B3 na3 M2 O2 B2 na HT e0 e1' e2' e3' e4' hR hv nbw s1 s2 f0 f1 f4
      have HNo : Hid ((wantN n && !(seenK l k).contains (fldV n.f)) = false → ∀ y, Below w.heap.size w y → SeM w.heap.size ((sendsK l k).set k { Se.nul with up := tp }) y → y.ownsMap Try.prog 9 (unitElem (H := Unit)) (w.heap.size + 1) k (setL (seenK l k)) → SenS w l (k + 1) y) := by
        intro hno y hb hm ho
        refine ⟨hb, ?_, ?_⟩
        · rw [← HSt.out, HSe.out, hno]; exact hm
        · rw [HSn.out, hno]; exact ho.mono (by omega)
      cases tp
      · have HE : Hid _ := HNo.out (by rw [HW.out]; rfl) _ B4 M4 O4
        clear HNo HW HSe HSn HSt O4 B4 M4
        go_wp2
        go_roundw
        case rel => exact ⟨k + 1, by omega, by go_num, HE.out⟩
        case measure => simp [intOf]; omega
      · generalize hha : n.has = ha at *
        cases ha
        · have HE : Hid _ := HNo.out (by rw [HW.out]; rfl) _ B4 M4 O4
          clear HNo HW HSe HSn HSt O4 B4 M4
          go_wp2
          go_roundw
          case rel => exact ⟨k + 1, by omega, by go_num, HE.out⟩
          case measure => simp [intOf]; omega
        · have hF := fField_any n.f (w3.setCell ⟨w.heap.size, k * 14, none⟩ (.bool true))
          unfold Fr.val at hF
          have hkey : keyOf Try.prog 9 (.string ⟨(fldV n.f).toArray⟩) = some (keyL (fldV n.f)) := by
            have := keyOf_string_mk (P := Try.prog) Try.underlying9 (s := ⟨(fldV n.f).toArray⟩) (by unfold maxLen; simp [ByteArray.size]; have := fldV_len n.f; omega)
            simpa [keyL] using this
          have hz7 : ∀ x, (zeroValue 107).run Try.prog x = .ok (.agg #[]) x := fun x => by rfl
          have HHas : Hid (Maps.has (setL (seenK l k)) (keyL (fldV n.f)) = (seenK l k).contains (fldV n.f)) := has_setL _ _
          have HPut : Hid (setL (seenK l k ++ [fldV n.f]) = (setL (seenK l k)).put (keyL (fldV n.f)) (.agg [])) := setL_snoc _ _
          have hwant : wantN n = true := HW.out
          rw [hwant] at HNo HSe HSn
          simp only [Bool.true_and] at HNo HSe HSn
          clear HW hwant
          go_wp2_with (refine fld_ld f2 rfl _ rfl rfl ?_)
          refine hF.mono ?_
          rintro e w5 ⟨rfl, B5⟩
          have M5 := M4.below B5
          have O5 := map_below O4 B5
          have B6 := B4.trans (B5.mono B4.size)
          have na5 : Na wr.heap.size n (G k) (V k) w5 := (B5.block _ (Array.getElem?_eq_some_iff.1 na4).1).trans na4
          clear hF B5 M4 O4 B4 na4 f2 f3 s0 sf
          cases hc : (seenK l k).contains (fldV n.f)
          · rw [hc] at HHas HSe HSn
            simp only [Bool.not_false, if_true] at HSe HSn
            have HYes : Hid (∀ y, Below w.heap.size w y → SeM w.heap.size ((sendsK l k).set k ⟨true, true, n.f⟩) y → y.ownsMap Try.prog 9 (unitElem (H := Unit)) (w.heap.size + 1) (k + 1) ((setL (seenK l k)).put (keyL (fldV n.f)) (.agg [])) → SenS w l (k + 1) y) := by
              intro y hb hm ho
              refine ⟨hb, ?_, ?_⟩
              · rw [← HSt.out, HSe.out]; exact hm
              · rw [HSn.out, HPut.out]; exact ho
            have O6 := O5.alloc (.cells #[] 107)
            have hkl2 : k < ((sendsK l k).set k { Se.nul with up := true }).length := by rw [List.length_set]; exact hks
            have b6 : Below w5.heap.size w5 (w5.alloc (.cells #[] 107)) := (Below.refl _ _).alloc (Nat.le_refl _) _
            have B7 := B6.trans (b6.mono B6.size)
            have M7 := M5.below b6
            have na7 : Na wr.heap.size n (G k) (V k) (w5.alloc (.cells #[] 107)) := (b6.block _ (Array.getElem?_eq_some_iff.1 na5).1).trans na5
            have lts := M7.lt
            have ltq := (Array.getElem?_eq_some_iff.1 na7).1
            have HStep : Hid (∀ w8, w8.ownsMap Try.prog 9 (unitElem (H := Unit)) (w.heap.size + 1) (k + 1) ((setL (seenK l k)).put (keyL (fldV n.f)) (.agg [])) → (w5.alloc (.cells #[] 107)).grownBy w8 (some (w.heap.size + 1)) → SeM w.heap.size ((sendsK l k).set k { Se.nul with up := true }) w8 ∧ w8.rangeAt wr.heap.size 2 n.f.cells ∧ (∃ z, w8.cell? ⟨w.heap.size, k * 14 + 1, none⟩ = some (.bool z)) ∧ w8.frozen? ⟨w.heap.size, k * 14 + 1, none⟩ = false ∧ Hid (SenS w l (k + 1) ((w8.setCell ⟨w.heap.size, k * 14 + 1, none⟩ (.bool true)).setCells w.heap.size (k * 14 + 2) n.f.arr.toList))) := by
              intro w8 O8 G8
              have hl14 : ((sendsK l k).set k { Se.nul with up := true }).length = l.length := by rw [List.length_set, sendsK_len]
              have M8 := M7.kept G8.size (G8.block _ lts (by intro e; injection e with e; omega))
              have na8 : Na wr.heap.size n (G k) (V k) w8 := (G8.block _ ltq (by intro e; injection e with e; omega)).trans na7
              have B8 := B7.grown G8 B7.size (fun j hj => by cases hj; omega)
              obtain ⟨_, _, f2, _, _⟩ := range_node.1 na8.range
              rw [Nat.zero_add] at f2
              obtain ⟨s0, s1, s2⟩ := range_se.1 (M8.hn k hkl2)
              have sf : w8.frozen? ⟨w.heap.size, k * 14 + 1, none⟩ = false := by
                have := (M8.ht (k * 14 + 1) (by rw [List.length_set, sendsK_len]; omega)).2
                rw [Nat.zero_add] at this; exact this
              have M9 := M8.send hkl2 n.f
              rw [List.getElem_set_self, List.set_set] at M9
              refine ⟨M8, f2, ⟨_, s1⟩, sf, HYes.out _ ?_ M9 ?_⟩
              · have Bs := B8.setCell (p := ⟨w.heap.size, k * 14 + 1, none⟩) (Nat.le_refl _) (.bool true)
                obtain ⟨q1, q2, q3, q4, q5⟩ := setCells_same w.heap.size n.f.arr.toList (k * 14 + 2) (w8.setCell ⟨w.heap.size, k * 14 + 1, none⟩ (.bool true))
                exact ⟨q1.trans Bs.os, q2.trans Bs.tape, q3.trans Bs.output, by rw [q4]; exact Bs.size, fun j hj => (q5 j (by omega)).trans (Bs.block j hj)⟩
              · have O9 := O8.setCell (a := ⟨w.heap.size, k * 14 + 1, none⟩) (by show w.heap.size + 1 ≠ w.heap.size; omega) (.bool true)
                obtain ⟨q1, q2, q3, q4, q5⟩ := setCells_same w.heap.size n.f.arr.toList (k * 14 + 2) (w8.setCell ⟨w.heap.size, k * 14 + 1, none⟩ (.bool true))
                obtain ⟨es, clock, hb', rr⟩ := O9
                exact ⟨es, clock, (q5 _ (by omega)).trans hb', rr⟩
            clear HNo HSe HSn HSt HPut hc M5 B6 na5 b6 HYes M7 B7 na7
            generalize (⟨(fldV n.f).toArray⟩ : ByteArray) = T at *
            generalize keyL (fldV n.f) = KL at *
            generalize setL (seenK l k) = DD at *
            go_wp2_with (first
              | (at_lookup; refine wpList_lookup_own_unit _ rfl _ _ 106 rfl 9 107 lawS Try.underlying106 (hz7 _) (w.heap.size + 1) k _ rfl O5 _ _ rfl hkey ?_; rw [HHas.out])
              | (at_mapUpdate; refine wpList_mapUpdate_own _ rfl _ _ _ 106 rfl 9 107 lawS Try.underlying106 (unitElem (H := Unit)) (w.heap.size + 1) k _ rfl O6 (by unfold maxLen; omega) _ _ _ rfl rfl hkey _ [] unitElem_mk ?_; intro w8 O8 G8; obtain ⟨M8, f2, ⟨z8, s1⟩, sf, HE⟩ := HStep.out w8 O8 G8; clear O8 G8 HStep O6 O5)
              | refine fld_ld f2 rfl _ rfl rfl ?_
              | refine M8.stf hkl2 n.f rfl _ _ rfl rfl rfl ?_
              | go_in)
            go_roundw
            case rel => exact ⟨k + 1, by omega, by go_num, HE.out⟩
            case measure => simp [intOf]; omega
          · rw [hc] at HHas HNo
            have HNo2 : Hid (∀ y, Below w.heap.size w y → SeM w.heap.size ((sendsK l k).set k { Se.nul with up := true }) y → y.ownsMap Try.prog 9 (unitElem (H := Unit)) (w.heap.size + 1) k (setL (seenK l k)) → SenS w l (k + 1) y) := HNo.out rfl
            clear HNo HSe HSn HSt HPut hc
            generalize (⟨(fldV n.f).toArray⟩ : ByteArray) = T at *
            generalize keyL (fldV n.f) = KL at *
            generalize setL (seenK l k) = DD at *
            go_wp2_with (first
              | (at_lookup; refine wpList_lookup_own_unit _ rfl _ _ 106 rfl 9 107 lawS Try.underlying106 (hz7 _) (w.heap.size + 1) k _ rfl O5 _ _ rfl hkey ?_; rw [HHas.out])
              | go_in)
            go_roundw
            case rel => exact ⟨k + 1, by omega, by go_num, HNo2.out _ (B6.alloc B6.size _) (M5.below ((Below.refl _ _).alloc (Nat.le_refl _) _)) (O5.alloc _)⟩
            case measure => simp [intOf]; omega
    · obtain rfl : k = l.length := by omega
      go_wp2
      go_ret
      exact ⟨rfl, HRet.out _ S1⟩
end
end Go.Proofs.Ytjblekemmcmblaa
namespace Go.Proofs.Ytjblekemmcmblaa
open Go.RowKit Go.Proofs.Bits
set_option linter.unusedVariables false
set_option maxRecDepth 1000000

def tAdd (t z : Int) : Int := IntKind.u64.wrap (t + z)
def NdsOk (l : List Nd) : Prop := ∀ i (hi : i < l.length), l[i].u.ok ∧ l[i].got.length ≤ 64
def stepR (l : List Nd) (fl : List Fl) : Rn := rnd (sends l) fl
def stepE (l : List Nd) (fl : List Fl) : Int := rndE (sends l) fl
def idleL (l : List Nd) : List Nd := l.mapIdx idleN
def setL4 (r : Rn) (l : List Nd) : List Nd := if r.win = -1 then l else l.mapIdx (setN r (ndAt l r.win.toNat).f)
def stepL (l : List Nd) (fl : List Fl) : List Nd := if stepE l fl = 0 then (setL4 (stepR l fl) (idleL l)).mapIdx dropN else l
def f_ge (f : Fr) (ack : Bool) : Prop := 10 ≤ (encV f ack).length
theorem encV_ge (f : Fr) (ack : Bool) (h : f.chk = 0) : f_ge f ack := by
  unfold f_ge encV
  rw [if_pos h]
  unfold Fr.bits
  simp only [List.length_append, flagV_length, List.length_cons, List.length_nil]
  omega
theorem first_chk {l : List Se} (h : firstE (frs l) = 0) : (winF l).chk = 0 := by
  have hs := first_small h
  rw [← winF_eq h hs]
  unfold firstE at h
  by_cases h0 : (frs l).length = 0
  · rw [if_pos h0] at h; simp at h
  · rw [if_neg h0] at h
    cases ha : allOk (frs l)
    · rw [ha] at h; simp at h
    · unfold allOk at ha
      rw [List.all_eq_true] at ha
      simpa using ha _ (List.getElem_mem hs)
theorem rnd_win {l : List Se} {fl : List Fl} (h : rndE l fl = 0) : (rnd l fl).win = -1 ∨ ∃ wn : Nat, wn < l.length ∧ (rnd l fl).win = wn := by
  unfold rnd
  by_cases hw : who l = []
  · rw [if_pos hw]; exact .inl rfl
  · rw [if_neg hw]
    right
    have hb : beE l = 0 := by
      unfold rndE at h
      by_cases h0 : lookV l.length fl ≠ 0
      · rw [if_pos h0] at h; exact absurd h h0
      · rw [if_neg h0] at h; exact h
    refine ⟨winN l, (below_beg hb hw).2, ?_⟩
    unfold rnEnd
    split
    · rfl
    · split
      · rfl
      · split <;> rfl
theorem rnd_bits {l : List Se} {fl : List Fl} (h : rndE l fl = 0) : 0 ≤ (rnd l fl).bits ∧ (rnd l fl).bits ≤ 2000 := by
  have hk : lookV l.length fl = 0 := by
    unfold rndE at h
    by_cases h0 : lookV l.length fl ≠ 0
    · rw [if_pos h0] at h; exact absurd h h0
    · simpa using h0
  obtain ⟨_, _, hok⟩ := look_ok hk
  unfold rnd
  by_cases hw : who l = []
  · rw [if_pos hw]; exact ⟨(by decide : (0 : Int) ≤ 11), (by decide : (11 : Int) ≤ 2000)⟩
  · rw [if_neg hw]
    have hl := stuffed_bound (winF l) (!alone l)
    have hbe : beE l = 0 := by
      unfold rndE at h
      rw [if_neg (by simpa using hk)] at h; exact h
    unfold rnEnd
    split
    · rename_i f hf
      obtain ⟨h1, h2⟩ := fo_mem hf
      have := hok f h1
      simp only [cntB, Bool.and_eq_true, decide_eq_true_eq] at h2
      have h3 : f.bit < ((encV (winF l) (!alone l)).length : Int) - 1 := h2.2
      simp [rnSpoil]
      omega
    · split
      · simp [rnW, rn0, winL]
        have : f_ge (winF l) (!alone l) := encV_ge _ _ (by
          unfold beE at hbe
          rw [if_neg hw] at hbe
          exact first_chk hbe)
        unfold f_ge at this
        omega
      · split <;> simp [rnW, rn0, winL] <;> omega
section
variable {b nb : Nat} {ρ : Nat → Ro} {t : Int} {l : List Nd} {w : World}
theorem BusM.time {G : Nat → Nat} {V : Nat → Value} (h : BusM b nb ρ t l G V w) (t' : Int) : BusM b nb ρ t' l G V (w.setCell ⟨b, 1, none⟩ (.int .u64 t')) := by
  have kn : ∀ k, k ≠ b → (w.setCell ⟨b, 1, none⟩ (.int .u64 t')).heap[k]? = w.heap[k]? := fun k hk => Below.heap_setCell w _ _ k hk
  exact { h with
    hb := by have := h.hb; simp [World.setCell, Array.getElem?_modify, this]
    hn := fun i hi => range_kept (h.hn i hi) (kn nb h.b_n.symm)
    ht := there_kept h.ht (kn nb h.b_n.symm)
    hu := fun i hi => (kn _ (h.b_u hi).symm).trans (h.hu i hi)
    hg := fun i hi => own_at (h.hg i hi) fun g hg => kn g (fun e => h.b_g hi (by rw [hg, e]))
    rz := fun k hk => h.rz k (by simpa [World.setCell] using hk) }
theorem BusM.timeX {G : Nat → Nat} {V : Nat → Value} (h : BusM b nb ρ t l G V w) (t' : Int) : Ext ρ ρ w (w.setCell ⟨b, 1, none⟩ (.int .u64 t')) :=
  ⟨rfl, rfl, rfl, by simp [World.setCell], fun k hk hr => Below.heap_setCell w ⟨b, 1, none⟩ _ k (fun e => by rw [e, h.rb] at hr; cases hr), fun _ _ => rfl⟩
theorem idle_ok {l : List Nd} (h : NdsOk l) : NdsOk (idleL l) := by
  intro i hi
  have hi' : i < l.length := by simpa [idleL] using hi
  obtain ⟨h1, h2⟩ := h i hi'
  have e : (idleL l)[i] = idleN i l[i] := by simp [idleL]
  rw [e]
  unfold idleN
  split
  · exact ⟨Un.ok_idle 1 h1, h2⟩
  · exact ⟨h1, h2⟩
/-- What Step answers. -/
def StepRes (b nb : Nat) (ρ : Nat → Ro) (t : Int) (l : List Nd) (fl : List Fl) (w : World) (e : Ending) (w' : World) : Prop :=
  ∃ ρ', BusAt b nb ρ' (if stepE l fl = 0 then tAdd t (stepR l fl).bits else t) (stepL l fl) w' ∧ Ext ρ ρ' w w' ∧
  (stepE l fl ≠ 0 → e = .returned (.tuple #[.agg (rnZ.out nilV nilV), .int .i64 (stepE l fl)])) ∧
  (stepE l fl = 0 → ∃ ge gg, e = .returned (.tuple #[.agg ((stepR l fl).out (sl ge l.length) (sl gg l.length)), .int .i64 0]) ∧ Row w' ge ((stepR l fl).errs.map errV) ∧ Row w' gg ((stepR l fl).got.map Value.bool) ∧ w.heap.size ≤ ge ∧ w.heap.size ≤ gg ∧ ρ' ge = .no ∧ ρ' gg = .no ∧ (stepR l fl).errs.length = l.length ∧ (stepR l fl).got.length = l.length)
/-- What stands when the time has been added. -/
def StpP (b nb : Nat) (ρ : Nat → Ro) (t : Int) (l : List Nd) (w : World) (R : Rn) (ge gg : Nat) (vs : Value) (q : Nat) (W : World) : Prop :=
  BusAt b nb ρ t l W ∧ Ext ρ ρ w W ∧ Ru q R (sl ge l.length) (sl gg l.length) vs W ∧ Oa w.heap.size rnZ nilV nilV W ∧ Row W ge (R.errs.map errV) ∧ Row W gg (R.got.map Value.bool)
set_option maxHeartbeats 4000000 in
theorem Step_any (h : BusAt b nb ρ t l w) (hl : l.length ≤ 127) (hok : NdsOk l) (ht : 0 ≤ t ∧ t < 18446744073709551616) (vf : Value) (fl : List Fl) (hfl : fl.length ≤ maxLen) (hF : Flips w vf fl) :
    Calls Try.prog 16 #[.pointer (some ⟨b, 0, none⟩), vf] w fun e w' => StepRes b nb ρ t l fl w e w' := by
  have B1 : Below w.heap.size w (w.alloc (.cells (rnZ.out nilV nilV) 27)) := (Below.refl _ _).alloc (Nat.le_refl _) _
  have O1 := Oa.new w rnZ nilV nilV
  have h1 := h.below B1
  have hSen := senders_bus h1 hl
  have HZ : Hid (∀ k, w.heap.size ≤ k → ρ k = .no) := by obtain ⟨G, V, h0⟩ := h; exact h0.rz
  have HF1 : Hid _ := hF.below B1
  have HFr : Hid (∀ k, k < w.heap.size → ρ k = .no → True) := fun _ _ _ => trivial
  clear hF h
  go_enter Try.func16, Try.ntmps16
  go_wp2_with fail
  refine hSen.mono ?_
  rintro e w2 ⟨rfl, S2, B2⟩
  have h2 := h1.below B2
  have O2 := O1.below B2
  have B3 := B1.trans (B2.mono B1.size)
  have hRun := run_any _ vf (sends l) fl w2 (by rw [sends_len]; unfold maxLen; omega) hfl S2 (Flips.below HF1.out B2)
  clear hSen h1 S2 B1 HF1
  have s2 : w.heap.size < w2.heap.size := O2.lt
  have hvs : okV (sl ((w.alloc (.cells (rnZ.out nilV nilV) 27)).heap.size) l.length) := rfl
  generalize hsv : sl ((w.alloc (.cells (rnZ.out nilV nilV) 27)).heap.size) l.length = vs at *
  go_wp2_with fail
  refine hRun.mono ?_
  rintro e w3 ⟨q1, q2, B4⟩
  have h3 := h2.below B4
  have O3 := O2.below B4
  have B5 := B3.trans (B4.mono B3.size)
  have gn := Ru.new w3 rnZ nilV nilV nilV
  have hER : Hid (rndE (sends l) fl = stepE l fl) := rfl
  have hRR : Hid (rnd (sends l) fl = stepR l fl) := rfl
  rw [hER.out, hRR.out, sends_len] at q2
  rw [hER.out] at q1
  clear hRun h2 O1 B2 B3 hsv
  by_cases hz : stepE l fl = 0
  · obtain ⟨ge, gg, rfl, E3, G3, b1, b2, d3, le, lg⟩ := q2 hz
    have g3 := gn.row (stepR l fl) (sl ge l.length) (sl gg l.length) vs
    have bb : Below w3.heap.size w3 ((w3.alloc (.cells (rnZ.arr nilV nilV nilV) 67)).setRow w3.heap.size ((stepR l fl).arr (sl ge l.length) (sl gg l.length) vs)) := below_row ((Below.refl _ w3).alloc (Nat.le_refl _) _) (Nat.le_refl _) (by rw [size_alloc]; omega) _
    have O4 := O3.below bb
    have h4 := h3.below bb
    have E4 := E3.below bb
    have G4 := G3.below bb
    have B6 := B5.trans (bb.mono B5.size)
    obtain ⟨hb0, hb1⟩ := rnd_bits (show rndE (sends l) fl = 0 from hz)
    rw [hRR.out] at hb0 hb1
    have hwin := rnd_win (show rndE (sends l) fl = 0 from hz)
    rw [hRR.out, sends_len] at hwin
    have HRes : Hid (∀ ρ' x, BusAt b nb ρ' (tAdd t (stepR l fl).bits) ((setL4 (stepR l fl) (idleL l)).mapIdx dropN) x → Ext ρ ρ' w x → Row x ge ((stepR l fl).errs.map errV) → Row x gg ((stepR l fl).got.map Value.bool) → ρ' ge = .no → ρ' gg = .no → StepRes b nb ρ t l fl w (.returned (.tuple #[.agg ((stepR l fl).out (sl ge l.length) (sl gg l.length)), .int .i64 0])) x) := fun ρ' x p1 p2 p3 p4 p5 p6 => ⟨ρ', by rw [if_pos hz]; unfold stepL; rw [if_pos hz]; exact p1, p2, fun h => absurd hz h, fun _ => ⟨ge, gg, rfl, p3, p4, by omega, by omega, p5, p6, le, lg⟩⟩
    have hle0 : w.heap.size ≤ ge := by omega
    have hlg0 : w.heap.size ≤ gg := by omega
    have neq0 : ge ≠ w.heap.size := by omega
    have neq1 : gg ≠ w.heap.size := by omega
    have hIok := idle_ok hok
    generalize stepR l fl = R at *
    clear q1 q2 h3 O3 E3 G3 hER hRR hz
    obtain ⟨G, V, h4m⟩ := h4
    obtain ⟨c0, c1, hf⟩ := h4m.cells
    obtain ⟨r0, r1, r2, r3, r4, r5, r6, r7, rf⟩ := g3.cells
    have h5 : BusAt b nb ρ (tAdd t R.bits) l _ := ⟨G, V, (h4m.time (tAdd t R.bits)).below (below_drawn (Below.refl _ _) 1)⟩
    have X45 := (h4m.timeX (tAdd t R.bits)).trans (Ext.drawn (ρ := ρ) 1)
    have X5 := (Ext.below (ρ := ρ) B6).trans X45
    have z3 := HZ.out w3.heap.size (by have := B5.size; omega)
    have z0 := HZ.out w.heap.size (Nat.le_refl _)
    have ze := HZ.out ge hle0
    have zg := HZ.out gg hlg0
    have R5 := g3.kept (X45.keep _ g3.lt z3)
    have O5 := O4.kept (X45.keep _ O4.lt z0)
    have E5 := E4.kept (X45.keep _ E4.lt ze)
    have G5 := G4.kept (X45.keep _ G4.lt zg)
    have hs3 : w3.heap.size ≠ w.heap.size := by have := B4.size; omega
    unfold tAdd at h5 X45 X5 R5 O5 E5 G5
    have HP : Hid (StpP b nb ρ (IntKind.u64.wrap (t + R.bits)) l w R ge gg vs w3.heap.size _) := ⟨h5, X5, R5, O5, E5, G5⟩
    clear X45 X5 R5 O5 E5 G5 h5 h4m O4 E4 G4 B6 bb B4 B5 O2
    go_wp2_with (first | refine gn.sd R (sl ge l.length) (sl gg l.length) vs rfl rfl hvs rfl _ _ rfl rfl rfl ?_)
    try simp only [Act.put]
    go_cut [] from 19 to 29 (fun wx => StpP b nb ρ (IntKind.u64.wrap (t + R.bits)) l w R ge gg vs w3.heap.size wx)
    case first =>
      go_region
      all_goals
        go_wp2_with fail
        go_meet
        case rel => exact HP.out
    case rest =>
    obtain ⟨h5, X5, R5, O5, E5, G5⟩ := hcut
    clear HP c0 c1 hf r0 r1 r2 r3 r4 r5 r6 r7 rf g3 gn G V
    have HTA : Hid (tAdd t R.bits = IntKind.u64.wrap (t + R.bits)) := rfl
    rw [HTA.out] at HRes
    generalize IntKind.u64.wrap (t + R.bits) = t' at *
    have HK : Hid (∀ ρ' x, Ext ρ ρ' wc x → Ru w3.heap.size R (sl ge l.length) (sl gg l.length) vs x ∧ Oa w.heap.size rnZ nilV nilV x ∧ Row x ge (R.errs.map errV) ∧ Row x gg (R.got.map Value.bool) ∧ Ext ρ ρ' w x ∧ ρ' ge = .no ∧ ρ' gg = .no ∧ ρ' w.heap.size = .no) := fun ρ' x X => ⟨R5.kept (X.keep _ R5.lt z3), O5.kept (X.keep _ O5.lt z0), E5.kept (X.keep _ E5.lt ze), G5.kept (X.keep _ G5.lt zg), X5.trans X, (X.same _ E5.lt).trans ze, (X.same _ G5.lt).trans zg, (X.same _ O5.lt).trans z0⟩
    have hId := idle_bus h5 hl (fun i hi => (hok i hi).1)
    clear h5 R5 O5 E5 G5 X5
    go_wp2_with fail
    refine hId.mono ?_
    rintro e w6 ⟨rfl, h6, X6⟩
    obtain ⟨R6, O6, E6, G6, X6w, zz1, zz2, zz3⟩ := HK.out ρ w6 X6
    obtain ⟨r0, r1, r2, r3, r4, r5, r6, r7, rf⟩ := R6.cells
    have hlen : (idleL l).length = l.length := by simp [idleL]
    have HFin : Hid (∀ ρ' x, BusAt b nb ρ' t' ((setL4 R (idleL l)).mapIdx dropN) x → Ext ρ ρ' wc x → StepRes b nb ρ t l fl w (.returned (.tuple #[.agg (R.out (sl ge l.length) (sl gg l.length)), .int .i64 0])) (x.setRow w.heap.size (R.out (sl ge l.length) (sl gg l.length)))) := by
      intro ρ' x p1 X
      obtain ⟨_, Ox, Ex, Gx, Xw, y1, y2, y3⟩ := HK.out ρ' x X
      refine HRes.out ρ' _ ?_ ?_ (Ex.kept (setRow_other _ _ _ _ neq0)) (Gx.kept (setRow_other _ _ _ _ neq1)) y1 y2
      · exact p1.kept (by simp [World.setRow]) (fun k hk hr => setRow_other _ _ _ _ (fun e => hr (by rw [e]; exact y3)))
      · refine ⟨Xw.os, Xw.tape, Xw.output, by simpa [World.setRow] using Xw.size, fun k hk hr => (setRow_other _ _ _ _ (by omega)).trans (Xw.keep k hk hr), Xw.same⟩
    clear HRes hId
    rcases hwin with hw | ⟨wn, hwn, hw⟩
    · have hL : Hid (setL4 R (idleL l) = idleL l) := by show _ = _; unfold setL4; rw [if_pos hw]
      rw [hL.out] at HFin
      have hDr := dropOff_bus h6 (by rw [show (l.mapIdx idleN).length = l.length from hlen]; exact hl)
      rw [hw] at r0
      clear h6 hL E6 G6 R6 O6
      go_wp2_with fail
      refine hDr.mono ?_
      rintro e w7 ⟨rfl, h7, X7⟩
      have X67 := X6.trans X7
      obtain ⟨R7, O7, E7, G7, X7w, _, _, _⟩ := HK.out ρ w7 X67
      have O8 := O7.row R (sl ge l.length) (sl gg l.length)
      obtain ⟨d0, d1, d2, d3', d4⟩ := O8.cells
      have HF := HFin.out ρ w7 h7 X67
      clear hDr HFin HK r0 r1 r2 r3 r4 r5 r6 r7 rf
      go_wp2_with (first | refine R7.ldO rfl _ rfl rfl ?_ | refine O7.sd R (sl ge l.length) (sl gg l.length) rfl rfl rfl _ _ rfl rfl rfl ?_)
      exact bodyPost_ret (v := .tuple #[.agg (R.out (sl ge l.length) (sl gg l.length)), .int .i64 0]) (by simp [results, Try.results16, go_sem, d0, d1, d2, d3', d4]; rfl) rfl HF
    · have hwi : wn < (idleL l).length := by rw [hlen]; exact hwn
      have hL : Hid (setL4 R (idleL l) = (idleL l).mapIdx (setN R (idleL l)[wn].f)) := by
        show _ = _
        unfold setL4
        rw [if_neg (by rw [hw]; omega), hw, Int.toNat_natCast]
        unfold ndAt
        simp [hwi]
      rw [hL.out] at HFin
      have h6' : BusAt b nb ρ t' (idleL l) w6 := h6
      have hSe := settle_bus h6' (by rw [hlen]; exact hl) hIok R wn ge gg vs hvs hwi hw E6 G6 (by rw [le, hlen]) (by rw [lg, hlen]) zz1 zz2
      rw [hlen] at hSe
      have hne : (R.win != -1) = true := by rw [hw]; simp
      rw [hw] at r0 hne
      have hdl : ((idleL l).mapIdx (setN R (idleL l)[wn].f)).length ≤ 127 := by rw [List.length_mapIdx, hlen]; exact hl
      generalize (idleL l).mapIdx (setN R (idleL l)[wn].f) = L2 at *
      clear h6 h6' hL E6 G6 O6 hIok hwi hlen
      go_wp2_with (refine R6.ld rfl _ rfl rfl ?_)
      refine hSe.mono ?_
      rintro e w7 ⟨rfl, ρ7, h7, X7⟩
      have X67 := X6.trans X7
      have hDr := dropOff_bus h7 hdl
      clear hSe h7 X7 R6 r0 r1 r2 r3 r4 r5 r6 r7 rf
      go_wp2_with fail
      refine hDr.mono ?_
      rintro e w8 ⟨rfl, h8, X8⟩
      have X68 := X67.trans X8
      obtain ⟨R8, O8, E8, G8, X8w, _, _, _⟩ := HK.out ρ7 w8 X68
      have O9 := O8.row R (sl ge l.length) (sl gg l.length)
      obtain ⟨d0, d1, d2, d3', d4⟩ := O9.cells
      have HF := HFin.out ρ7 w8 h8 X68
      clear hDr HFin HK
      go_wp2_with (first | refine R8.ldO rfl _ rfl rfl ?_ | refine O8.sd R (sl ge l.length) (sl gg l.length) rfl rfl rfl _ _ rfl rfl rfl ?_)
      exact bodyPost_ret (v := .tuple #[.agg (R.out (sl ge l.length) (sl gg l.length)), .int .i64 0]) (by simp [results, Try.results16, go_sem, d0, d1, d2, d3', d4]; rfl) rfl HF
  · obtain rfl := q1 hz
    have g3 := gn.row rnZ nilV nilV nilV
    have bb : Below w3.heap.size w3 ((w3.alloc (.cells (rnZ.arr nilV nilV nilV) 67)).setRow w3.heap.size (rnZ.arr nilV nilV nilV)) := below_row ((Below.refl _ w3).alloc (Nat.le_refl _) _) (Nat.le_refl _) (by rw [size_alloc]; omega) _
    have O4 := O3.below bb
    have h4 := h3.below bb
    have B6 := B5.trans (bb.mono B5.size)
    have O5 := O4.row rnZ nilV nilV
    obtain ⟨d0, d1, d2, d3', d4⟩ := O5.cells
    have B7 := below_row B6 (q := w.heap.size) (Nat.le_refl _) (by have := O4.lt; omega) (rnZ.out nilV nilV)
    have hbu : BusAt b nb ρ t l (World.setRow ((w3.alloc (.cells (rnZ.arr nilV nilV nilV) 67)).setRow w3.heap.size (rnZ.arr nilV nilV nilV)) w.heap.size (rnZ.out nilV nilV)) := h4.kept (by simp [World.setRow]) (fun k hk hr => setRow_other _ _ _ _ (fun e => hr (HZ.out k (by omega))))
    have HRes : Hid (StepRes b nb ρ t l fl w (.returned (.tuple #[.agg (rnZ.out nilV nilV), .int .i64 (stepE l fl)])) _) := ⟨ρ, by rw [if_neg hz]; unfold stepL; rw [if_neg hz]; exact hbu, Ext.below B7, fun _ => rfl, fun h => absurd h hz⟩
    have hne : (stepE l fl != 0) = true := by simpa using hz
    generalize stepE l fl = se at *
    clear q1 q2 h3 O3 h4 hbu B5 B6 B7 bb B4
    go_wp2_with (first | refine gn.sd rnZ nilV nilV nilV rfl rfl rfl rfl _ _ rfl rfl rfl ?_ | refine O4.sd rnZ nilV nilV rfl rfl rfl _ _ rfl rfl rfl ?_)
    exact bodyPost_ret (v := .tuple #[.agg (rnZ.out nilV nilV), .int .i64 se]) (by simp [results, Try.results16, go_sem, d0, d1, d2, d3', d4]; rfl) rfl HRes.out
end
end Go.Proofs.Ytjblekemmcmblaa
namespace Go.Proofs.Ytjblekemmcmblaa
open Go.RowKit Go.Proofs.Bits
set_option linter.unusedVariables false
set_option maxRecDepth 1000000

def flipT (n : Nat) (f : Fl) : Fl := if h : 0 ≤ f.nd ∧ f.nd < n ∧ n ≤ 127 then ⟨(n : Int) - 1 - f.nd, f.bit, by omega, f.hb⟩ else f
theorem flipT_nd {n : Nat} {f : Fl} (h : 0 ≤ f.nd ∧ f.nd < n ∧ n ≤ 127) : (flipT n f).nd = (n : Int) - 1 - f.nd := by unfold flipT; rw [dif_pos h]
theorem flipT_bit (n : Nat) (f : Fl) : (flipT n f).bit = f.bit := by unfold flipT; split <;> rfl
theorem rndE_zero {l : List Se} {fl : List Fl} : rndE l fl = 0 ↔ lookV l.length fl = 0 ∧ (who l = [] ∨ firstE (frs l) = 0) := by
  unfold rndE
  by_cases h0 : lookV l.length fl = 0
  · rw [if_neg (by simpa using h0)]
    by_cases hw : who l = []
    · simp [h0, hw]
    · rw [if_neg hw]; simp [h0, hw]
  · rw [if_pos h0]; simp [h0]
theorem look_of {n : Nat} {fl : List Fl} (h1 : n ≤ 127) (h2 : fl.length ≤ 65536) (h3 : ∀ f ∈ fl, 0 ≤ f.nd ∧ f.nd < n ∧ 0 ≤ f.bit) : lookV n fl = 0 := by
  unfold lookV
  rw [if_neg (by omega), if_neg (by omega), if_neg]
  simp only [List.any_eq_true, not_exists, not_and]
  intro f hf
  have := h3 f hf
  unfold wrongB
  simp
  omega
theorem upK_eq (l : List Se) (k : Nat) (hk : k ≤ l.length) : upK l k = (l.take k).countP (·.up) := by
  induction k with
  | zero => simp [upK]
  | succ k ih =>
    rw [upK_succ, ih (by omega), List.take_succ_eq_append_getElem (by omega), List.countP_append]
    unfold upAt
    rw [seAt_eq (by omega)]
    cases hu : l[k].up <;> simp [hu]
theorem upN_eq (l : List Se) : upN l = l.countP (·.up) := by
  unfold upN; rw [upK_eq l l.length (Nat.le_refl _), List.take_length]
theorem alone_rev (l : List Se) : alone l.reverse = alone l := by
  unfold alone; rw [upN_eq, upN_eq, List.countP_reverse]
theorem seAt_rev (l : List Se) (i : Nat) (h : i < l.length) : seAt l.reverse i = seAt l (l.length - 1 - i) := by
  rw [seAt_eq (by simpa using h), seAt_eq (by omega), List.getElem_reverse]
theorem snd_rev (l : List Se) (i : Nat) (h : i < l.length) : sndAt l.reverse i = sndAt l (l.length - 1 - i) := by unfold sndAt; rw [seAt_rev l i h]
theorem up_rev (l : List Se) (i : Nat) (h : i < l.length) : upAt l.reverse i = upAt l (l.length - 1 - i) := by unfold upAt; rw [seAt_rev l i h]
theorem fld_rev (l : List Se) (i : Nat) (h : i < l.length) : fldAt l.reverse i = fldAt l (l.length - 1 - i) := by unfold fldAt; rw [seAt_rev l i h]
theorem who_rev {l : List Se} : who l.reverse = [] ↔ who l = [] := by
  constructor
  · intro h
    refine List.eq_nil_iff_forall_not_mem.2 fun i hi => ?_
    obtain ⟨h1, h2⟩ := mem_who.1 hi
    have : l.length - 1 - i ∈ who l.reverse := mem_who.2 ⟨by rw [List.length_reverse]; omega, by rw [snd_rev l _ (by omega), show l.length - 1 - (l.length - 1 - i) = i by omega]; exact h2⟩
    rw [h] at this; cases this
  · intro h
    refine List.eq_nil_iff_forall_not_mem.2 fun i hi => ?_
    obtain ⟨h1, h2⟩ := mem_who.1 hi
    rw [List.length_reverse] at h1
    have : l.length - 1 - i ∈ who l := mem_who.2 ⟨by omega, by rw [← snd_rev l i h1]; exact h2⟩
    rw [h] at this; cases this
theorem good_rev {l : List Se} (h : Good l) : Good l.reverse := by
  refine ⟨?_, fun i hi si => ?_, fun i j hi hj si sj e => ?_⟩
  · obtain ⟨i, hi, si⟩ := h.some
    exact ⟨l.length - 1 - i, by rw [List.length_reverse]; omega, by rw [snd_rev l _ (by omega), show l.length - 1 - (l.length - 1 - i) = i by omega]; exact si⟩
  · rw [List.length_reverse] at hi
    rw [seAt_rev l i hi]
    exact h.chk _ (by omega) (by rw [← snd_rev l i hi]; exact si)
  · rw [List.length_reverse] at hi hj
    rw [fld_rev l i hi, fld_rev l j hj] at e
    have := h.inj _ _ (by omega) (by omega) (by rw [← snd_rev l i hi]; exact si) (by rw [← snd_rev l j hj]; exact sj) e
    omega
theorem win_rev {l : List Se} (h : firstE (frs l) = 0) : winN l.reverse = l.length - 1 - winN l ∧ winF l.reverse = winF l ∧ winL l.reverse = winL l := by
  obtain ⟨h1, h2, h3⟩ := win_least h
  have hr := (good_first (good_rev (good_of h))).2
  have e : winN l.reverse = l.length - 1 - winN l := by
    refine win_unique hr (by rw [List.length_reverse]; omega) ?_ ?_
    · rw [snd_rev l _ (by omega), show l.length - 1 - (l.length - 1 - winN l) = winN l by omega]; exact h2
    · intro j hj sj
      rw [List.length_reverse] at hj
      rw [fld_rev l _ (by omega), show l.length - 1 - (l.length - 1 - winN l) = winN l by omega, fld_rev l j hj]
      exact h3 _ (by omega) (by rw [← snd_rev l j hj]; exact sj)
  have ef : winF l.reverse = winF l := by
    unfold winF
    rw [e, seAt_rev l _ (by omega), show l.length - 1 - (l.length - 1 - winN l) = winN l by omega]
  exact ⟨e, ef, by unfold winL; rw [ef, alone_rev]⟩
theorem cnt_rev {l : List Se} {n : Nat} {f : Fl} (h0 : 0 ≤ f.nd) (h1 : f.nd < l.length) (h2 : l.length ≤ 127) : cntB l.reverse n (flipT l.length f) = cntB l n f := by
  unfold cntB
  rw [flipT_nd ⟨h0, h1, h2⟩, flipT_bit, up_rev l _ (by omega)]
  congr 2
  omega
theorem hear_rev (l : List Se) (wn : Nat) (h : wn < l.length) : hearK l.reverse (l.length - 1 - wn) l.length = (hearK l wn l.length).reverse := by
  unfold hearK
  apply List.ext_getElem
  · simp
  · intro i h1 h2
    simp at h1
    simp only [List.length_reverse, List.getElem_map, List.getElem_range, List.getElem_reverse, List.length_map, List.length_range]
    rw [up_rev l i h1]
    have e1 : decide (i < l.length) = true := by simpa using h1
    have e2 : decide (l.length - 1 - i < l.length) = true := by simp; omega
    rw [e1, e2]
    congr 2
    simp; omega
theorem any_congr4 {p q : Fl → Bool} {fl : List Fl} (h : ∀ f ∈ fl, p f = q f) : fl.any p = fl.any q := by
  induction fl with
  | nil => rfl
  | cons x r ih => rw [List.any_cons, List.any_cons, h x (by simp), ih fun f hf => h f (List.mem_cons_of_mem _ hf)]
/-- What becomes of the round. -/
theorem turned_rnd {l : List Se} {fl : List Fl} (h : rndE l fl = 0) :
    rndE l.reverse (fl.map (flipT l.length)) = 0 ∧ (rnd l.reverse (fl.map (flipT l.length))).bits = (rnd l fl).bits ∧ (rnd l.reverse (fl.map (flipT l.length))).sent = (rnd l fl).sent ∧
    (((rnd l fl).win = -1 ∧ (rnd l.reverse (fl.map (flipT l.length))).win = -1) ∨ ∃ wn : Nat, wn < l.length ∧ (rnd l fl).win = wn ∧ (rnd l.reverse (fl.map (flipT l.length))).win = ((l.length - 1 - wn : Nat) : Int)) ∧
    (rnd l.reverse (fl.map (flipT l.length))).got = (rnd l fl).got.reverse := by
  obtain ⟨hk, hw⟩ := rndE_zero.1 h
  obtain ⟨k1, k2, k3⟩ := look_ok hk
  have hl : lookV l.reverse.length (fl.map (flipT l.length)) = 0 := by
    rw [List.length_reverse]
    refine look_of k1 (by simpa using k2) fun f hf => ?_
    obtain ⟨g, hg, rfl⟩ := List.mem_map.1 hf
    obtain ⟨g1, g2, g3⟩ := k3 g hg
    rw [flipT_nd ⟨g1, g2, k1⟩, flipT_bit]
    omega
  by_cases hwo : who l = []
  · refine ⟨rndE_zero.2 ⟨hl, .inl (who_rev.2 hwo)⟩, ?_⟩
    unfold rnd
    rw [if_pos hwo, if_pos (who_rev.2 hwo)]
    refine ⟨rfl, rfl, .inl ⟨rfl, rfl⟩, ?_⟩
    simp [rnN, rn0]
  · have hf : firstE (frs l) = 0 := by rcases hw with hw | hw; exact absurd hw hwo; exact hw
    obtain ⟨w1, w2, w3⟩ := win_rev hf
    obtain ⟨m1, m2, m3⟩ := win_least hf
    have hwr : ¬ who l.reverse = [] := fun e => hwo (who_rev.1 e)
    refine ⟨rndE_zero.2 ⟨hl, .inr (good_first (good_rev (good_of hf))).2⟩, ?_⟩
    unfold rnd
    rw [if_neg hwo, if_neg hwr, w1]
    have el : (rnW l.reverse).len = (rnW l).len := w3
    have hcn : ∀ f ∈ fl, cntB l.reverse (rnW l).len (flipT l.length f) = cntB l (rnW l).len f := fun f hf => cnt_rev (k3 f hf).1 (k3 f hf).2.1 k1
    unfold rnEnd
    rw [el, alone_rev]
    cases ho : fo l (rnW l).len fl with
    | none =>
      have hn : fo l.reverse (rnW l).len (fl.map (flipT l.length)) = none := by
        rw [fo_none] at ho ⊢
        intro f hf
        obtain ⟨g, hg, rfl⟩ := List.mem_map.1 hf
        rw [hcn g hg]; exact ho g hg
      rw [hn]
      have hlast : (fl.map (flipT l.length)).any (lastB (l.length - 1 - winN l) (rnW l).len) = fl.any (lastB (winN l) (rnW l).len) := by
        rw [List.any_map]
        refine any_congr4 fun f hf => ?_
        obtain ⟨g1, g2, g3⟩ := k3 f hf
        unfold lastB
        simp only [Function.comp]
        rw [flipT_nd ⟨g1, g2, k1⟩, flipT_bit]
        congr 1
        rw [Bool.eq_iff_iff]; simp only [decide_eq_true_eq]; omega
      rw [hlast]
      simp only
      split
      · exact ⟨rfl, rfl, .inr ⟨winN l, m1, rfl, by simp [rnW, rn0, w1]⟩, by simp [rnW, rn0]⟩
      · split
        · exact ⟨rfl, rfl, .inr ⟨winN l, m1, rfl, by simp [rnW, rn0, w1]⟩, by simp only [List.length_reverse]; exact hear_rev l _ m1⟩
        · exact ⟨rfl, rfl, .inr ⟨winN l, m1, rfl, by simp [rnW, rn0, w1]⟩, by simp only [List.length_reverse]; exact hear_rev l _ m1⟩
    | some f =>
      obtain ⟨s1, s2, s3⟩ := fo_some ho
      cases hn : fo l.reverse (rnW l).len (fl.map (flipT l.length)) with
      | none =>
        rw [fo_none] at hn
        have := hn _ (List.mem_map.2 ⟨f, s1, rfl⟩)
        rw [hcn f s1, s2] at this; cases this
      | some g =>
        obtain ⟨t1, t2, t3⟩ := fo_some hn
        obtain ⟨g', hg', rfl⟩ := List.mem_map.1 t1
        rw [hcn g' hg'] at t2
        have e1 := s3 g' hg' t2
        have e2 := t3 (flipT l.length f) (List.mem_map.2 ⟨f, s1, rfl⟩) (by rw [hcn f s1]; exact s2)
        rw [flipT_bit, flipT_bit] at e2
        simp only [rnSpoil]
        refine ⟨by rw [flipT_bit]; omega, rfl, .inr ⟨winN l, m1, rfl, by simp [rnW, rn0, w1]⟩, by simp [rnW, rn0]⟩
end Go.Proofs.Ytjblekemmcmblaa
namespace Go.Proofs.Ytjblekemmcmblaa
open Go.RowKit Go.Proofs.Bits
set_option linter.unusedVariables false
set_option maxRecDepth 1000000

theorem infoNZ : (Try.prog.info? 80).map (fun i => (i.zero, i.size, i.bytes)) = some (some (.agg nodeZ), 16, 72) := by kernel_rfl
theorem new_no {n : Int} (w : World) (h : n < 1 ∨ 127 < n) : Calls Try.prog 12 #[.int .i64 n] w fun e w' => e = .returned (.tuple #[.pointer none, .int .i64 1]) ∧ w' = w := by
  by_cases h1 : n < 1
  · have d1 : decide (n < 1) = true := by simpa using h1
    go_enter Try.func12, Try.ntmps12
    go_wp2
    go_ret2
    exact ⟨rfl, rfl⟩
  · have d1 : decide (n < 1) = false := by simpa using h1
    have d2 : decide (127 < n) = true := by simp; omega
    go_enter Try.func12, Try.ntmps12
    go_wp2
    go_ret2
    exact ⟨rfl, rfl⟩
theorem run_make_nodes (n : Nat) (hn : n ≤ 127) (w : World) : (Instr.makeSlice 74 (.int .i64 n) (.int .i64 n)).run Try.prog w = .ok (.slice (some ⟨w.heap.size, 0, none⟩) n n) (w.alloc (.cells (madeCells nodeZ (n * 16)) 80)) := by
  obtain ⟨i0, hi, hz0, hz1, hz2⟩ := info_parts infoNZ
  have := run_make (P := Try.prog) w 74 80 i0 _ Try.underlying74 hi hz0 .i64 .i64 n n (by omega) (Int.le_refl _) (by rw [hz2]; omega) (by omega)
  simp only [Int.toNat_natCast, hz1] at this
  exact this
/-- What stands when k units have been made: their blocks lie behind the bus, one behind the other. -/
structure NewS (w : World) (n k : Nat) (x : World) : Prop where
  bel : Below w.heap.size w x
  hb : x.heap[w.heap.size + 1]? = some (.cells #[sl w.heap.size n, .int .u64 0] 76 (0, 0))
  ht : x.there w.heap.size 0 (n * 16)
  hn : ∀ i, i < k → x.rangeAt w.heap.size (i * 16) (Nd.nul.cells (w.heap.size + 2 + i) nilV)
  hz : ∀ i, k ≤ i → i < n → x.rangeAt w.heap.size (i * 16) nodeZ.toList
  hu : ∀ i, i < k → Ua (w.heap.size + 2 + i) Un.nul x
  sz : x.heap.size = w.heap.size + 2 + k
theorem NewS.start (w : World) (n : Nat) : NewS w n 0 ((w.alloc (.cells (madeCells nodeZ (n * 16)) 80)).alloc (.cells #[.slice (some ⟨w.heap.size, 0, none⟩) n n, .int .u64 0] 76)) := by
  have hh := heap_alloc_new w (.cells (madeCells nodeZ (n * 16)) 80)
  have hh2 : ((w.alloc (.cells (madeCells nodeZ (n * 16)) 80)).alloc (.cells #[.slice (some ⟨w.heap.size, 0, none⟩) n n, .int .u64 0] 76)).heap[w.heap.size]? = _ := (Below.heap_alloc _ _ _ (by rw [size_alloc]; omega)).trans hh
  have hz : nodeZ.size = 16 := rfl
  refine ⟨((Below.refl _ _).alloc (Nat.le_refl _) _).alloc (by rw [size_alloc]; omega) _, ?_, fun j hj => ?_, fun i hi => by omega, fun i _ hi => ?_, fun i hi => by omega, by rw [size_alloc, size_alloc]⟩
  · have := heap_alloc_new (w.alloc (.cells (madeCells nodeZ (n * 16)) 80)) (.cells #[.slice (some ⟨w.heap.size, 0, none⟩) n n, .int .u64 0] 76)
    rw [size_alloc] at this
    exact this
  · refine ⟨?_, Lib.frozen_of_heap hh2 _⟩
    rw [Lib.cell_of_heap hh2, made_at _ _ _ (by omega) (by rw [hz]; omega), hz]
    have : j % 16 < nodeZ.size := by rw [hz]; omega
    simp [this]
  · intro j v hj
    have hj16 : j < 16 := (List.getElem?_eq_some_iff.1 hj).1
    rw [Lib.cell_of_heap hh2, made_at _ _ _ (by omega) (by rw [hz]; omega), hz, show (i * 16 + j) % 16 = j by omega]
    simpa using hj
theorem NewS.drew {w : World} {n k : Nat} {x : World} (h : NewS w n k x) : NewS w n k x.drew := ⟨below_drawn h.bel 1, h.hb, fun j hj => h.ht j hj, fun i hi => h.hn i hi, fun i h1 h2 => h.hz i h1 h2, h.hu, h.sz⟩
/-- One unit more. -/
theorem NewS.step {w : World} {n k : Nat} {x : World} (h : NewS w n k x) (hk : k < n) : NewS w n (k + 1) ((x.alloc (.cells #[.int .i64 0, .int .i64 0, .int .i64 0] 105)).setCell ⟨w.heap.size, k * 16 + 1, none⟩ (.pointer (some ⟨x.heap.size, 0, none⟩))) := by
  have s := h.sz
  have b1 : Below x.heap.size x (x.alloc (.cells #[.int .i64 0, .int .i64 0, .int .i64 0] 105)) := (Below.refl _ _).alloc (Nat.le_refl _) _
  have B1 := h.bel.trans (b1.mono h.bel.size)
  have kb : ∀ j, j < x.heap.size → j ≠ w.heap.size → ((x.alloc (.cells #[.int .i64 0, .int .i64 0, .int .i64 0] 105)).setCell ⟨w.heap.size, k * 16 + 1, none⟩ (.pointer (some ⟨x.heap.size, 0, none⟩))).heap[j]? = x.heap[j]? := fun j hj hne => (Below.heap_setCell _ _ _ _ hne).trans (b1.block j hj)
  have out : ∀ q, q ≠ k * 16 + 1 → ((x.alloc (.cells #[.int .i64 0, .int .i64 0, .int .i64 0] 105)).setCell ⟨w.heap.size, k * 16 + 1, none⟩ (.pointer (some ⟨x.heap.size, 0, none⟩))).cell? ⟨w.heap.size, q, none⟩ = x.cell? ⟨w.heap.size, q, none⟩ := fun q hq => (World.cell?_setCell_other _ _ _ _ (by intro e; injection e with _ e2; exact hq e2.symm)).trans (b1.cell (p := ⟨w.heap.size, q, none⟩) (by show w.heap.size < x.heap.size; omega))
  have ht1 := there_kept h.ht (b1.block w.heap.size (by omega))
  refine ⟨B1.setCell (p := ⟨w.heap.size, k * 16 + 1, none⟩) (Nat.le_refl _) _, (kb _ (by omega) (by omega)).trans h.hb, there_setCell ht1 _ _, fun i hi => ?_, fun i h1 h2 => ?_, fun i hi => ?_, by simp [World.setCell]; omega⟩
  · by_cases e : i = k
    · subst e
      have hzz := h.hz i (Nat.le_refl _) hk
      intro j v hj
      by_cases e1 : j = 1
      · subst e1
        cases hj
        have c1 : x.cell? ⟨w.heap.size, i * 16 + 1, none⟩ = _ := hzz 1 (.pointer none) rfl
        have := World.cell?_setCell_same (x.alloc (.cells #[.int .i64 0, .int .i64 0, .int .i64 0] 105)) ⟨w.heap.size, i * 16 + 1, none⟩ (.pointer (some ⟨x.heap.size, 0, none⟩)) ((b1.cell (p := ⟨w.heap.size, i * 16 + 1, none⟩) (by show w.heap.size < x.heap.size; omega)).trans c1)
        rw [this, s]
      · rw [out _ (by omega)]
        refine hzz j v ?_
        have hj16 : j < 16 := by have := (List.getElem?_eq_some_iff.1 hj).1; rw [Nd.len] at this; exact this
        rw [← hj]
        match j, hj16, e1 with
        | 0, _, _ => rfl
        | 2, _, _ => rfl
        | 3, _, _ => rfl
        | 4, _, _ => rfl
        | 5, _, _ => rfl
        | 6, _, _ => rfl
        | 7, _, _ => rfl
        | 8, _, _ => rfl
        | 9, _, _ => rfl
        | 10, _, _ => rfl
        | 11, _, _ => rfl
        | 12, _, _ => rfl
        | 13, _, _ => rfl
        | 14, _, _ => rfl
        | 15, _, _ => rfl
    · intro j v hj
      have hj16 : j < 16 := by have := (List.getElem?_eq_some_iff.1 hj).1; rw [Nd.len] at this; exact this
      rw [out _ (by omega)]
      exact h.hn i (by omega) j v hj
  · intro j v hj
    have hj16 : j < 16 := (List.getElem?_eq_some_iff.1 hj).1
    rw [out _ (by omega)]
    exact h.hz i (by omega) h2 j v hj
  · by_cases e : i = k
    · subst e
      unfold Ua
      rw [Below.heap_setCell _ _ _ _ (by show w.heap.size + 2 + i ≠ w.heap.size; omega), ← s]
      exact heap_alloc_new x _
    · exact (kb _ (by omega) (by omega)).trans (h.hu i (by omega))
def newR (w : World) (n : Nat) (k : Nat) : Ro := if k = w.heap.size then .nodes else if k = w.heap.size + 1 then .bus else if w.heap.size + 2 ≤ k ∧ k < w.heap.size + 2 + n then .unit (k - (w.heap.size + 2)) else .no
theorem NewS.done {w : World} {n : Nat} {x : World} (h : NewS w n n x) : BusAt (w.heap.size + 1) w.heap.size (newR w n) 0 (List.replicate n Nd.nul) x := by
  have s := h.sz
  refine ⟨fun i => w.heap.size + 2 + i, fun _ => nilV, ?_⟩
  constructor
  · rw [List.length_replicate]; exact h.hb
  · intro i hi; rw [List.length_replicate] at hi; rw [List.getElem_replicate]; exact h.hn i hi
  · rw [List.length_replicate]; exact h.ht
  · intro i hi; rw [List.length_replicate] at hi; rw [List.getElem_replicate]; exact h.hu i hi
  · intro i hi; rw [List.getElem_replicate]; exact World.ownsRow_nil _ _ _ _
  · unfold newR; rw [if_neg (by omega), if_pos rfl]
  · unfold newR; rw [if_pos rfl]
  · intro i hi
    rw [List.length_replicate] at hi
    unfold newR
    rw [if_neg (by omega), if_neg (by omega), if_pos (by omega)]
    congr 1; omega
  · intro i hi k hk; cases hk
  · intro k hk
    unfold newR
    rw [if_neg (by omega), if_neg (by omega), if_neg (by omega)]
theorem newR_low {w : World} {n k : Nat} (h : k < w.heap.size) : newR w n k = .no := by
  unfold newR
  rw [if_neg (by omega), if_neg (by omega), if_neg (by omega)]
set_option maxHeartbeats 1000000 in
theorem new_bus (w : World) (n : Nat) (h1 : 1 ≤ n) (h2 : n ≤ 127) : Calls Try.prog 12 #[.int .i64 n] w fun e w' => e = .returned (.tuple #[.pointer (some ⟨w.heap.size + 1, 0, none⟩), .int .i64 0]) ∧ BusAt (w.heap.size + 1) w.heap.size (newR w n) 0 (List.replicate n Nd.nul) w' ∧ Below w.heap.size w w' := by
  have hmk := run_make_nodes n h2
  have H0 : Hid _ := NewS.start w n
  have d1 : decide ((n : Int) < 1) = false := by simp; omega
  have d2 : decide ((127 : Int) < (n : Int)) = false := by simp; omega
  have HD : Hid (∀ x, NewS w n n x → BusAt (w.heap.size + 1) w.heap.size (newR w n) 0 (List.replicate n Nd.nul) x ∧ Below w.heap.size w x) := fun x hx => ⟨hx.done, hx.bel⟩
  go_enter Try.func12, Try.ntmps12
  go_wp2
  go_loopw [21] (fun i x => ∃ k : Nat, k ≤ n ∧ i = .int .i64 k ∧ NewS w n k x) (fun i _ => n - (intOf i).toNat)
  case atStart => exact ⟨0, Nat.zero_le _, rfl, H0.out⟩
  case round =>
    clear H0 hmk d1 d2
    obtain ⟨k, hk, rfl, S1⟩ := hrel
    by_cases hkl : k < n
    · have c0 : wr.cell? ⟨w.heap.size + 1, 0, none⟩ = some (.slice (some ⟨w.heap.size, 0, none⟩) n n) := Lib.cell_of_heap S1.hb 0
      have c1 : wr.cell? ⟨w.heap.size, k * 16 + 1, none⟩ = some (.pointer none) := S1.hz k (Nat.le_refl _) hkl 1 _ rfl
      have f1 : wr.frozen? ⟨w.heap.size, k * 16 + 1, none⟩ = false := by
        have := (S1.ht (k * 16 + 1) (by omega)).2
        rw [Nat.zero_add] at this; exact this
      have s := S1.sz
      have e1 : w.heap.size + 1 ≠ wr.heap.size := by omega
      have e2 : w.heap.size ≠ wr.heap.size := by omega
      have l1 : w.heap.size + 1 < wr.heap.size := by omega
      have l2 : w.heap.size < wr.heap.size := by omega
      have HS0 := (S1.step hkl).drew
      rw [World.setCell_alloc_past _ _ _ _ (by omega)] at HS0
      have HS : Hid _ := HS0
      clear HS0
      have hN := new_any wr.drew
      clear S1 s
      go_wp2_with fail
      go_region_with (go_at_call 28; refine (new_any _).mono ?_; rintro e w4 ⟨rfl, rfl⟩)
      all_goals
        go_wp2_with fail
        go_roundw
        case rel => exact ⟨k + 1, by omega, by go_num, HS.out⟩
        case measure => simp [intOf]; omega
    · obtain rfl : k = n := by omega
      go_wp2
      go_ret2
      exact ⟨rfl, HD.out _ S1⟩
end Go.Proofs.Ytjblekemmcmblaa
namespace Go.Proofs.Ytjblekemmcmblaa
open Go.RowKit Go.Proofs.Bits
set_option linter.unusedVariables false
set_option maxRecDepth 1000000

def fr5 : Fr := ⟨5, false, false, 1, [0, 0, 0, 0, 0, 0, 0, 0], by decide, by decide, rfl⟩
def lv2 : List Nd := powL (powL (List.replicate 2 Nd.nul) 0 true) 1 true
def lv3 : List Nd := subL lv2 0 fr5
def lv4 : List Nd := stepL lv3 []
theorem lv_sub : subE lv2 0 fr5 = 0 := by decide +kernel
theorem lv3_eq : lv3 = [⟨true, Un.nul, fr5.plain, true, []⟩, ⟨true, Un.nul, Fr.nul, false, []⟩] := by
  unfold lv3 subL
  rw [if_pos lv_sub]
  rfl
theorem lv_E : stepE lv3 [] = 0 := by decide +kernel
theorem lv_win : (stepR lv3 []).win = 0 ∧ (stepR lv3 []).sent = true ∧ (stepR lv3 []).got = [false, true] := by
  refine ⟨?_, ?_, ?_⟩ <;> decide +kernel
theorem lv3_len : lv3.length = 2 := by rw [lv3_eq]; rfl
theorem lv3_ok : NdsOk lv3 := by
  rw [lv3_eq]
  intro i hi
  match i, hi with
  | 0, _ => exact ⟨Un.ok_nul, by simp⟩
  | 1, _ => exact ⟨Un.ok_nul, by simp⟩
theorem lv4_len : lv4.length = 2 := by decide +kernel
theorem lv4_got : (ndAt lv4 1).got.map Fr.id = [5] := by decide +kernel
theorem powL_len (l : List Nd) (k : Nat) (on : Bool) : (powL l k on).length = l.length := by unfold powL; split <;> simp
theorem nd_get {l : List Nd} {k : Nat} (h : k < l.length) : l[k] = ndAt l k := by unfold ndAt; simp [h]
theorem flips_nil (w : World) : Flips w (.slice none 0 0) [] := ⟨none, 0, rfl, fun _ => ⟨rfl, rfl⟩, fun k hk => by simp at hk⟩
theorem wide_head {w : World} {v : Value} {g : Fr} (h : Frames w v [g]) : ∃ b off cap, v = .slice (some ⟨b, off, none⟩) 1 cap ∧ w.cell? ⟨b, off, none⟩ = some (.int .u32 g.id) ∧ w.rangeAt b off g.cells := by
  obtain ⟨ao, cap, rfl, _, hc⟩ := h
  obtain ⟨b, off, rfl, _, hR⟩ := hc 0 (by simp)
  have hR' : w.rangeAt b off g.cells := by simpa using hR
  exact ⟨b, off, cap, rfl, hR' 0 _ rfl, hR'⟩
set_option maxHeartbeats 4000000 in
theorem lives4_any (w : World) : Calls Try.prog 11 #[] w fun e w' => e = .returned (.bool true) ∧ Below w.heap.size w w' := by
  have hN := new_bus w 2 (by omega) (by omega)
  have HLow : Hid (∀ k, k < w.heap.size → newR w 2 k = .no) := fun k hk => newR_low hk
  have hY : Hid (Value.agg #[.int .u32 5, .bool false, .bool false, .int .i64 1, .int .u8 0, .int .u8 0, .int .u8 0, .int .u8 0, .int .u8 0, .int .u8 0, .int .u8 0, .int .u8 0] = fr5.val) := rfl
  generalize newR w 2 = ρ at *
  generalize hg : w.heap.size = g at *
  go_enter Try.func11, Try.ntmps11
  go_wp2_with fail
  refine Calls.mono hN ?_
  rintro e w1 ⟨rfl, h1, B1⟩
  have hP0 : Calls Try.prog 13 #[.pointer (some ⟨g + 1, 0, none⟩), .int .i64 0, .bool true] w1 _ := Power_any h1 (by simp) (k := 0) true (by simp)
  clear hN h1
  go_wp2_with fail
  refine hP0.mono ?_
  rintro e w2 ⟨rfl, h2, X2⟩
  have hP1 : Calls Try.prog 13 #[.pointer (some ⟨g + 1, 0, none⟩), .int .i64 1, .bool true] w2 _ := Power_any h2 (by rw [powL_len]; simp) (k := 1) true (by rw [powL_len]; simp)
  clear hP0 h2
  go_wp2_with fail
  refine hP1.mono ?_
  rintro e w3 ⟨rfl, h3, X3⟩
  have h3' : BusAt (g + 1) g ρ 0 lv2 w3 := h3
  have hS : Calls Try.prog 14 #[.pointer (some ⟨g + 1, 0, none⟩), .int .i64 0, fr5.val] w3 _ := Submit_any h3' (by decide) (k := 0) (by decide) fr5
  rw [lv_sub, ← hY.out] at hS
  have X13 := X2.trans X3
  clear hP1 h3 h3' X2 X3
  go_wp2_with fail
  refine hS.mono ?_
  rintro e w4 ⟨rfl, h4, X4⟩
  have h4' : BusAt (g + 1) g ρ 0 lv3 w4 := h4
  have hSt := Step_any h4' (by rw [lv3_len]; omega) lv3_ok (by omega) (.slice none 0 0) [] (by simp [maxLen]) (flips_nil w4)
  have X14 := X13.trans X4
  clear hS h4 h4' X13 X4 hY
  go_wp2_with fail
  refine hSt.mono ?_
  rintro e w5 ⟨ρ5, h5, X5, _, q5⟩
  obtain ⟨ge, gg, rfl, E5, G5, _, _, z1, z2, le, lg⟩ := q5 lv_E
  have h5' : BusAt (g + 1) g ρ5 _ lv4 w5 := h5
  obtain ⟨v1, v2, v3⟩ := lv_win
  rw [lv3_len] at *
  rw [v3] at G5
  have gn := Oa.new w5 rnZ nilV nilV
  have g3 := gn.row (stepR lv3 []) (sl ge 2) (sl gg 2)
  have bb : Below w5.heap.size w5 ((w5.alloc (.cells (rnZ.out nilV nilV) 27)).setRow w5.heap.size ((stepR lv3 []).out (sl ge 2) (sl gg 2))) := below_row ((Below.refl _ w5).alloc (Nat.le_refl _) _) (Nat.le_refl _) (by rw [size_alloc]; omega) _
  have h6 := h5'.below bb
  have G6 := G5.below bb
  have hF : Calls Try.prog 17 #[.pointer (some ⟨g + 1, 0, none⟩), .int .i64 1] _ _ := Fetch_any h6 (by rw [lv4_len]; omega) (k := 1) (by rw [lv4_len]; omega)
  have X16 := (X14.trans X5).trans (Ext.below (ρ := ρ5) bb)
  have z5 : ρ5 w5.heap.size = .no := by obtain ⟨G, V, hh⟩ := h5'; exact hh.rz _ (Nat.le_refl _)
  generalize stepR lv3 [] = R at *
  clear hSt h5 h5' q5 X14 X5 E5 G5 bb le lg
  go_wp2_with (refine gn.sd R (sl ge 2) (sl gg 2) rfl rfl rfl _ _ rfl rfl rfl ?_)
  refine hF.mono ?_
  rintro e w7 ⟨v, rfl, F7, h7, X7⟩
  have X17 := X16.trans X7
  have O7 := g3.kept (X7.keep _ g3.lt z5)
  have G7 := G6.kept (X7.keep _ G6.lt z2)
  have hgot : (lv4[1]'(by rw [lv4_len]; omega)).got.map Fr.id = [5] := by rw [nd_get]; exact lv4_got
  obtain ⟨fr, hfr, hid⟩ : ∃ fr : Fr, (lv4[1]'(by rw [lv4_len]; omega)).got = [fr] ∧ fr.id = 5 := by
    match hq : (lv4[1]'(by rw [lv4_len]; omega)).got, hgot with
    | [fr], hgot => exact ⟨fr, rfl, by simpa using hgot⟩
    | [], hgot => simp at hgot
    | a :: b :: r, hgot => simp at hgot
  rw [hfr] at F7
  obtain ⟨b9, off9, cap9, rfl, cid, _⟩ := wide_head F7
  rw [hid] at cid
  obtain ⟨d0, d1, d2, d3', d4⟩ := O7.cells
  rw [v1] at d0
  rw [v2] at d2
  unfold sl at d4
  have cg := G7.cell 1 (by simp)
  have HB : Hid (Below g w w7) := B1.trans ((X17.toBelow (B := g) (by have := B1.size; omega) HLow.out))
  clear hF h6 h7 X7 X16 X17 gn g3 G6 F7 O7 G7 hgot
  go_wp2
  go_ret
  exact ⟨rfl, HB.out⟩
end Go.Proofs.Ytjblekemmcmblaa
namespace Go.Proofs.Ytjblekemmcmblaa
open Go.RowKit Go.Proofs.Bits
set_option linter.unusedVariables false
set_option maxRecDepth 1000000

def DS : Dec Se := ⟨Se.cells, 14, by decide, Se.len, fun s u hu => by
  have := s.one
  rw [Array.all_eq_true_iff_forall_mem] at this
  exact this u (by simpa [Se.arr] using hu)⟩
def DL : Dec Fl := ⟨Fl.cells, 2, by decide, fun _ => rfl, fun f u hu => by simp [Fl.cells] at hu; rcases hu with rfl | rfl <;> rfl⟩
theorem infoFlZ : (Try.prog.info? 57).map (fun i => (i.zero, i.size, i.bytes)) = some (some (.agg #[.int .i64 0, .int .i64 0]), 2, 16) := by kernel_rfl
theorem rev_take (l : List Se) (k : Nat) (hk : k < l.length) : l.reverse.take (k + 1) = l.reverse.take k ++ [l[l.length - 1 - k]] := by
  rw [List.take_succ_eq_append_getElem (by simpa using hk), List.getElem_reverse]
set_option maxHeartbeats 4000000 in
theorem turned_any (v vf : Value) (l : List Se) (fl : List Fl) (w : World) (hl : l.length ≤ 127) (hfl : fl.length ≤ 65536) (hok : ∀ f ∈ fl, 0 ≤ f.nd ∧ f.nd < l.length) (hS : Senders w v l) (hF : Flips w vf fl) :
    Calls Try.prog 20 #[v, vf] w fun e w' => ∃ va vb, e = .returned (.tuple #[va, vb]) ∧ Senders w' va l.reverse ∧ Flips w' vb (fl.map (flipT l.length)) ∧ Below w.heap.size w w' := by
  have HC : Hid (∀ (x : World), Below w.heap.size w x → Senders x v l) := fun x hx => hS.below hx
  have HD : Hid (∀ (x : World), Below w.heap.size w x → Flips x vf fl) := fun x hx => hF.below hx
  have HOK : Hid _ := hok
  have o1 := own_empty_e w 40 14
  have o2 := own_empty_e (w.alloc (.cells #[] 40)) 57 2
  rw [size_alloc] at o2
  have B1 : Below w.heap.size w ((w.alloc (.cells #[] 40)).alloc (.cells #[] 57)) := ((Below.refl _ w).alloc (Nat.le_refl _) _).alloc (by rw [size_alloc]; omega) _
  have p1 : ((w.alloc (.cells #[] 40)).alloc (.cells #[] 57)).ownsRow w.heap.size 40 14 (.slice (some ⟨w.heap.size, 0, none⟩) 0 0) (l.reverse.take 0).length (flatW DS (l.reverse.take 0)) := ownsRow_alloc o1 _
  have p2 : ((w.alloc (.cells #[] 40)).alloc (.cells #[] 57)).ownsRow w.heap.size 57 2 (.slice (some ⟨w.heap.size + 1, 0, none⟩) 0 0) 0 [] := by
    obtain ⟨q1, q2⟩ := o2
    refine ⟨q1, ?_⟩
    rcases q2 with q2 | ⟨g, cap, cur, e, hg, r⟩
    · exact .inl q2
    · exact .inr ⟨g, cap, cur, e, by omega, r⟩
  obtain ⟨ao, cap, hv, _⟩ := hS
  obtain ⟨ao2, cap2, hv2, _⟩ := hF
  subst hv hv2
  clear hok o1 o2
  go_enter Try.func20, Try.ntmps20
  go_wp2
  generalize hW : ((w.alloc (.cells #[] 40)).alloc (.cells #[] 57)) = W at *
  go_loopw [6, 8] (fun a i x => ∃ k : Nat, k ≤ l.length ∧ i = .int .i64 ((l.length : Int) - 1 - k) ∧ x.ownsRow w.heap.size 40 14 a (l.reverse.take k).length (flatW DS (l.reverse.take k)) ∧ x.ownsRow w.heap.size 57 2 (.slice (some ⟨w.heap.size + 1, 0, none⟩) 0 0) 0 [] ∧ Below w.heap.size w x) (fun _ i _ => (intOf i + 1).toNat)
  case atStart => exact ⟨0, Nat.zero_le _, by simp, p1, p2, B1⟩
  case round =>
    clear p1 p2 B1 hW W
    obtain ⟨k, hk, rfl, P1, Q1, B1⟩ := hrel
    have s1 := B1.size
    have hlk : (l.reverse.take k).length = k := by simp; omega
    by_cases hkl : k < l.length
    · obtain ⟨ao', cap', hv', _, hc⟩ := HC.out wr B1
      obtain ⟨b, off, hao, hb, hR⟩ := hc (l.length - 1 - k) (by omega)
      have hao2 : ao = some ⟨b, off, none⟩ := by injection hv' with e1; rw [e1]; exact hao
      subst hao2
      have HN : Hid (l.reverse.take (k + 1) = l.reverse.take k ++ [l[l.length - 1 - k]]) := rev_take l k hkl
      generalize l[l.length - 1 - k] = s at *
      obtain ⟨j, hj⟩ : ∃ j : Nat, (l.length : Int) - 1 - k = j := ⟨l.length - 1 - k, by omega⟩
      have hj2 : l.length - 1 - k = j := by omega
      rw [hj2] at hR
      rw [hj]
      have hjl : j < l.length := by omega
      have HJ : Hid ((l.length : Int) - 1 - ((k + 1 : Nat) : Int) = (j : Int) - 1) := by show _ = _; omega
      generalize hxs : l.reverse.take k = xs at *
      clear hj2 hc HC
      go_wp2_with (first | refine se_ld hR rfl _ rfl rfl ?_ | refine one_bs DS s 22 40 _ _ rfl _ rfl rfl Try.underlying22 infoSeZ (by decide) ?_ | (at_builtin; refine append_wide DS rfl _ _ 22 40 _ _ Try.underlying22 infoSeZ rfl rfl w.heap.size _ xs rfl (by exact ownsRow_alloc P1 _) _ [s] rfl (by exact wide_new DS wr s 40) (by unfold maxLen; simp; omega) (by simp; omega) (by rw [size_alloc]; omega) ?_))
      intro v5 w5 F5 G5
      have Q5 := own_grown (ownsRow_alloc Q1 _) (ownsRow_alloc P1 _) (by decide) G5
      have B5 := below_grown (B1.alloc s1 _) (ownsRow_alloc P1 _) (by rw [size_alloc]; omega) G5
      have F6 : Hid (w5.ownsRow w.heap.size 40 14 v5 (l.reverse.take (k + 1)).length (flatW DS (l.reverse.take (k + 1)))) := by
        show World.ownsRow _ _ _ _ _ _ _
        rw [HN.out]
        have e : (xs ++ [s]).length = k + 1 := by simp [hlk]
        rw [e]
        exact F5
      clear F5 G5 P1 Q1 B1 hR
      go_wp2
      go_roundw
      case rel => exact ⟨k + 1, by omega, by rw [HJ.out], F6.out, Q5, B5⟩
      case measure => simp [intOf]
    · obtain rfl : k = l.length := by omega
      have e0 : (l.length : Int) - 1 - l.length = -1 := by omega
      rw [e0]
      rw [List.take_of_length_le (by simp)] at P1
      obtain ⟨va, hva⟩ : ∃ va, va = u6 := ⟨_, rfl⟩
      obtain ⟨W1, hW1⟩ : ∃ W1, W1 = wr := ⟨_, rfl⟩
      rw [← hva] at P1
      subst hva hW1
      have HE : Hid (fl.map (flipT l.length) = (fl.take fl.length).map (flipT l.length)) := by show _ = _; rw [List.take_length]
      have P0 : Hid (True ∧ W1.ownsRow w.heap.size 40 14 va l.reverse.length (flatW DS l.reverse)) := ⟨trivial, P1⟩
      have Q0 : W1.ownsRow w.heap.size 57 2 (.slice (some ⟨w.heap.size + 1, 0, none⟩) 0 0) ((fl.take 0).map (flipT l.length)).length (flatW DL ((fl.take 0).map (flipT l.length))) := Q1
      clear P1 Q1 HC
      go_wp2
      go_loopw [7, 9] (fun c i x => ∃ k : Nat, k ≤ fl.length ∧ i = .int .i64 k ∧ x.ownsRow w.heap.size 57 2 c ((fl.take k).map (flipT l.length)).length (flatW DL ((fl.take k).map (flipT l.length))) ∧ x.ownsRow w.heap.size 40 14 va l.reverse.length (flatW DS l.reverse) ∧ Below w.heap.size w x) (fun _ i _ => fl.length - (intOf i).toNat)
      case atStart => exact ⟨0, Nat.zero_le _, rfl, Q0, P0.out.2, B1⟩
      case round =>
        clear P0 Q0 B1
        obtain ⟨k, hk, rfl, Q1, P1, B1⟩ := hrel
        have s1 := B1.size
        have hlk : ((fl.take k).map (flipT l.length)).length = k := by simp; omega
        by_cases hkl : k < fl.length
        · obtain ⟨ao', cap', hv', _, hc⟩ := HD.out wr B1
          obtain ⟨b, off, hao, hb, hR⟩ := hc k hkl
          have hao2 : ao2 = some ⟨b, off, none⟩ := by injection hv' with e1; rw [e1]; exact hao
          subst hao2
          obtain ⟨h1, h2⟩ := HOK.out _ (List.getElem_mem hkl)
          have HN : Hid ((fl.take (k + 1)).map (flipT l.length) = (fl.take k).map (flipT l.length) ++ [flipT l.length fl[k]]) := by
            show _ = _; rw [List.take_succ_eq_append_getElem hkl, List.map_append]; rfl
          have hT1 := flipT_nd ⟨h1, h2, hl⟩
          have hT2 := flipT_bit l.length fl[k]
          have HCl : Hid ((flipT l.length fl[k]).cells = [.int .i64 ((l.length : Int) - 1 - fl[k].nd), .int .i64 fl[k].bit]) := by
            show _ = _; unfold Fl.cells; rw [hT1, hT2]
          have c0 : wr.cell? ⟨b, off + k * 2, none⟩ = some (.int .i64 fl[k].nd) := hR 0 _ rfl
          have c1 : wr.cell? ⟨b, off + k * 2 + 1, none⟩ = some (.int .i64 fl[k].bit) := hR 1 _ rfl
          generalize flipT l.length fl[k] = f' at *
          generalize fl[k] = f at *
          generalize hxs : (fl.take k).map (flipT l.length) = xs at *
          obtain ⟨i0, hi0, hz0, hz1, hz2⟩ := info_parts infoFlZ
          have lb := World.block_lt_of_cell? wr _ c0
          have HWr : Hid (IntKind.i64.wrap (IntKind.i64.wrap ((l.length : Int) - 1) - f.nd) = (l.length : Int) - 1 - f.nd) := by
            show _ = _
            rw [IntKind.wrap_i64, IntKind.wrap_i64]; omega
          clear hc hT1 hT2
          go_wp2_with fail
          go_region_law
            ((refine step_append_lies _ (by rfl) _ _ _ (by rfl) w.heap.size 57 i0 _ 2 16 Try.underlying23 hi0 hz0 hz1 hz2 rfl (by omega) _ xs.length (flatW DL xs) (by rfl) ((ownsRow_alloc Q1 _).drew)
                  ⟨wr.heap.size, 0, none⟩ 1 1 [.int .i64 (IntKind.i64.wrap (IntKind.i64.wrap ((l.length : Int) - 1) - f.nd)), .int .i64 f.bit] (by rfl) (by rfl) (World.news_of_block (cs := #[.int .i64 (IntKind.i64.wrap (IntKind.i64.wrap ((l.length : Int) - 1) - f.nd)), .int .i64 f.bit]) (t := 57) (fr := (0, 0)) (heap_alloc_new wr _)) (by simp [Value.oneCell'])
                  (by omega) (by unfold maxLen; omega) (by omega) (by simp; omega) (wr.heap.size + 1) (by simp) ?_; intro gg cap w1 hown1 hgrow hat hlt))
          all_goals
            have P5 := own_grown ((ownsRow_alloc P1 _).drew) ((ownsRow_alloc Q1 _).drew) (by decide) hgrow
            have B5 := below_grown (below_drawn (B1.alloc s1 _) 1) ((ownsRow_alloc Q1 _).drew) (by simp; omega) hgrow
            have Q6 : Hid (w1.ownsRow w.heap.size 57 2 (.slice (some ⟨gg, 0, none⟩) (xs.length + 1) cap) ((fl.take (k + 1)).map (flipT l.length)).length (flatW DL ((fl.take (k + 1)).map (flipT l.length)))) := by
              show World.ownsRow _ _ _ _ _ _ _
              have e1 : flatW DL (xs ++ [f']) = flatW DL xs ++ [.int .i64 ((l.length : Int) - 1 - f.nd), .int .i64 f.bit] := by
                rw [flatW_append, ← HCl.out]; simp [flatW, DL]
              rw [HN.out, e1, List.length_append, List.length_singleton, ← HWr.out]
              exact hown1
            clear hown1 hgrow hat
            rw [hlk] at *
            go_wp2
            go_roundw
            case rel => exact ⟨k + 1, by omega, by go_num, Q6.out, P5, B5⟩
            case measure => simp [intOf]; omega
        · obtain rfl : k = fl.length := by omega
          rw [← HE.out] at Q1
          have R1 : Hid (Flips wr u7 (fl.map (flipT l.length))) := wide_of_own DL Q1
          have R2 : Hid (Senders wr va l.reverse) := wide_of_own DS P1
          clear Q1 P1
          go_wp2
          go_ret2
          exact ⟨_, _, rfl, R2.out, R1.out, B1⟩
end Go.Proofs.Ytjblekemmcmblaa
namespace Go.Proofs.Ytjblekemmcmblaa
open Go.RowKit Go.Proofs.Bits
set_option linter.unusedVariables false
set_option maxRecDepth 1000000

theorem slots_nil (w : World) : Slots w nilV [] := ⟨none, 0, rfl, fun _ => ⟨rfl, rfl⟩, fun k hk => by simp at hk⟩
set_option maxHeartbeats 4000000 in
theorem brounds_walk (v vf : Value) (l : List Se) (fl : List Fl) (w : World) (hl : l.length * 32 ≤ 140737488351232) (hfl : fl.length * 16 ≤ 140737488351232) (hS : Senders w v l) (hF : Flips w vf fl) :
    Calls Try.prog 3 #[v, vf] w fun e w' => e = .returned (.bool true) ∧ Below w.heap.size w w' := by
  have o1 := own_empty_e w 40 14
  have hS1 := hS.below ((Below.refl _ w).alloc (Nat.le_refl _) (.cells #[] 40))
  go_enter Try.func3, Try.ntmps3
  go_wp2_with (at_builtin; refine append_wide DS rfl _ _ 22 40 _ _ Try.underlying22 infoSeZ rfl rfl w.heap.size _ [] rfl (by exact o1) _ l rfl (by exact hS1) (by unfold maxLen; simp; omega) (by simp; omega) (by rw [size_alloc]; omega) ?_)
  intro v1 w1 P1 G1
  have B1 : Below w.heap.size w w1 := ((Below.refl _ w).alloc (Nat.le_refl _) (.cells #[] 40)).grown G1 (by simp) (by simp [Value.ownBlock])
  have hF1 := hF.below B1
  have o2 := own_empty_e w1 57 2
  have hF2 := hF1.below ((Below.refl _ w1).alloc (Nat.le_refl _) (.cells #[] 57))
  have P1' : w1.ownsRow w.heap.size 40 14 v1 l.length (flatW DS l) := P1
  clear P1 G1 o1 hS1
  go_wp2_with (at_builtin; refine append_wide DL rfl _ _ 23 57 _ _ Try.underlying23 infoFlZ rfl rfl w1.heap.size _ [] rfl (by exact o2) _ fl rfl (by exact hF2) (by unfold maxLen; simp; omega) (by simp; omega) (by rw [size_alloc]; omega) ?_)
  intro v2 w2 P2 G2
  have b2 : Below w1.heap.size w1 w2 := ((Below.refl _ w1).alloc (Nat.le_refl _) (.cells #[] 57)).grown G2 (by simp) (by simp [Value.ownBlock])
  have B2 := B1.trans (b2.mono B1.size)
  have S2 : Senders w2 v1 l := Senders.below (wide_of_own DS P1') b2
  have F2 : Flips w2 v2 fl := wide_of_own DL P2
  have hR := Round_any v1 v2 l fl w2 (by unfold maxLen; omega) (by unfold maxLen; omega) S2 F2
  clear P1' P2 G2 o2 hF1 hF2 b2 B1 S2 F2
  go_wp2_with fail
  refine hR.mono ?_
  rintro e w3 ⟨q1, q2, b3⟩
  have B3 := B2.trans (b3.mono B2.size)
  have gn := Oa.new w3 rnZ nilV nilV
  clear hR
  have hv1 : ∃ ao cap, v = .slice ao l.length cap := by obtain ⟨ao, cap, rfl, _⟩ := hS; exact ⟨_, _, rfl⟩
  have hv2 : ∃ ao cap, vf = .slice ao fl.length cap := by obtain ⟨ao, cap, rfl, _⟩ := hF; exact ⟨_, _, rfl⟩
  by_cases hz : rndE l fl = 0
  · obtain ⟨ge, gg, rfl, E3, G3, _, _, d3, le, lg⟩ := q2 hz
    obtain ⟨k1, k2, k3⟩ := look_ok (rndE_zero.1 hz).1
    have g3 := gn.row (rnd l fl) (sl ge l.length) (sl gg l.length)
    have bb : Below w3.heap.size w3 ((w3.alloc (.cells (rnZ.out nilV nilV) 27)).setRow w3.heap.size ((rnd l fl).out (sl ge l.length) (sl gg l.length))) := below_row ((Below.refl _ w3).alloc (Nat.le_refl _) _) (Nat.le_refl _) (by rw [size_alloc]; omega) _
    have B4 := B3.trans (bb.mono B3.size)
    have hT := r4Round_any v vf l fl _ (by unfold maxLen; omega) (by unfold maxLen; omega) (hS.below B4) (hF.below B4)
    have G4 := G3.below bb
    have E4 := E3.below bb
    have HCnt : Hid (who l ≠ [] → ((rnd l fl).sent = true → gotN (rnd l fl).got l.length + 1 = upN l) ∧ (gotN (rnd l fl).got l.length = 0 ∨ gotN (rnd l fl).got l.length + 1 = upN l) ∧ (rnd l fl).win = (winN l : Int)) := fun h => rnd_count hz h
    have HNo : Hid (who l = [] → (rnd l fl).win = -1) := fun h => by unfold rnd; rw [if_pos h]; rfl
    have HSn : Hid (∀ x, Below w.heap.size w x → Senders x v l) := fun x hx => hS.below hx
    unfold RefRes at hT
    generalize hRR : rnd l fl = R at *
    clear q1 q2 E3 G3 bb hF B3 b3 hRR
    go_upto_region 2 with (refine gn.sd R (sl ge l.length) (sl gg l.length) rfl rfl rfl _ _ rfl rfl rfl ?_)
    go_wp2_with fail
    refine hT.mono ?_
    rintro e w5 ⟨_, q5, b5⟩
    obtain ⟨ge2, gg2, rfl, E5b, G5b, _, _, _, _, _⟩ := q5 hz
    have B5 := B4.trans (b5.mono B4.size)
    have O5 := g3.below b5
    have G5 := G4.below b5
    have E5 := E4.below b5
    have gn2 := Oa.new w5 rnZ nilV nilV
    have g5 := gn2.row R (sl ge2 l.length) (sl gg2 l.length)
    have bb : Below w5.heap.size w5 ((w5.alloc (.cells (rnZ.out nilV nilV) 27)).setRow w5.heap.size (R.out (sl ge2 l.length) (sl gg2 l.length))) := below_row ((Below.refl _ w5).alloc (Nat.le_refl _) _) (Nat.le_refl _) (by rw [size_alloc]; omega) _
    have B6 := B5.trans (bb.mono B5.size)
    have O6 := O5.below bb
    have hSm := Same_any R R.errs R.got (sl ge l.length) (sl gg l.length) (sl ge2 l.length) (sl gg2 l.length) _ (by omega) (by omega) (slots_of_row (E5.below bb) (by rw [List.length_map]; exact le)) (slots_of_row (G5.below bb) (by rw [List.length_map]; exact lg)) (slots_of_row (E5b.below bb) (by rw [List.length_map]; exact le)) (slots_of_row (G5b.below bb) (by rw [List.length_map]; exact lg))
    have G6 := G5.below bb
    have hw5 : Hid (w3.heap.size < w5.heap.size) := O5.lt
    obtain ⟨W6, hW6⟩ : ∃ W, (w5.alloc (.cells (rnZ.out nilV nilV) 27)).setRow w5.heap.size (R.out (sl ge2 l.length) (sl gg2 l.length)) = W := ⟨_, rfl⟩
    rw [hW6] at B6 O6 hSm G6 g5
    clear hT q5 E5b G5b B5 G5 E5 bb g3 gn E4 G4 B4 O5 b5
    go_upto_region 3 with (refine gn2.sd R (sl ge2 l.length) (sl gg2 l.length) rfl rfl rfl _ _ rfl rfl rfl ?_)
    clear gn2 hW6
    go_wp2_with (first | refine O6.ld rfl _ rfl rfl ?_ | refine g5.ld rfl _ rfl rfl ?_)
    refine hSm.mono ?_
    rintro e w7 ⟨rfl, b7⟩
    have B7 := B6.trans (b7.mono B6.size)
    have O7 := O6.below b7
    have G7 := G6.below b7
    obtain ⟨c0, c1, c2, c3, c4⟩ := O7.cells
    have hLv := fun x => lives4_any x
    have S7 := HSn.out _ B7
    obtain ⟨ao, cap, rfl⟩ := hv1
    obtain ⟨ao2, cap2, rfl⟩ := hv2
    clear hSm b7 B6 O6 G6 g5 hS
    unfold sl at c3 c4
    rcases List.eq_nil_or_concat (who l) with hwo | ⟨_, _, hwo⟩
    · rw [HNo.out hwo] at c0
      have hL := hLv w7
      clear hLv HCnt HNo hwo
      go_wp2_with fail
      refine hL.mono ?_
      rintro e w9 ⟨rfl, b9⟩
      have B9 := B7.trans (b9.mono B7.size)
      go_wp2
      go_ret
      exact ⟨rfl, B9⟩
    · obtain ⟨n1, n2, n3⟩ := HCnt.out (by rw [hwo]; simp)
      rw [n3] at c0
      have N1 : Hid _ := n1
      have N2 : Hid _ := n2
      have hup := upK_le l l.length
      have HUN : Hid (upK l l.length = upN l) := rfl
      obtain ⟨ao', cap', hv', _, hc⟩ := S7
      have HC : Hid (∀ k (hk : k < l.length), ∃ b off, ao = some ⟨b, off, none⟩ ∧ w7.cell? ⟨b, off + k * 14, none⟩ = some (.bool l[k].up)) := fun k hk => by
        obtain ⟨b, off, hao, hb, hR⟩ := hc k hk
        exact ⟨b, off, by injection hv' with e1; rw [e1]; exact hao, hR 0 _ rfl⟩
      have HG : Hid (∀ k (hk : k < R.got.length), w7.cell? ⟨gg, k, none⟩ = some (.bool R.got[k])) := fun k hk => (G7.cell k (by rw [List.length_map]; exact hk)).trans (by rw [List.getElem_map])
      have HLg : Hid (R.got.length = l.length) := lg
      have wn0 : decide ((winN l : Int) < 0) = false := by simp
      generalize winN l = wn at *
      clear HCnt HNo hwo n1 n2 n3 hc hv' G7 lg le O7
      go_wp2
      go_loopw [10, 11, 12] (fun g u i x => ∃ k : Nat, k ≤ l.length ∧ i = .int .i64 k ∧ g = .int .i64 (gotN R.got k) ∧ u = .int .i64 (upK l k) ∧ x = w7) (fun _ _ i _ => l.length - (intOf i).toNat)
      case atStart => exact ⟨0, Nat.zero_le _, rfl, rfl, rfl, rfl⟩
      case round =>
        obtain ⟨k, hk, rfl, rfl, rfl, rfl⟩ := hrel
        by_cases hkl : k < l.length
        · obtain ⟨b, off, rfl, e1⟩ := HC.out k hkl
          have hkg : k < R.got.length := by rw [HLg.out]; exact hkl
          have e2 := HG.out k hkg
          have HU : Hid (upK l (k + 1) = upK l k + if l[k].up then 1 else 0) := by
            have := upK_succ l k; unfold upAt at this; rw [seAt_eq hkl] at this; exact this
          have HN : Hid (gotN R.got (k + 1) = gotN R.got k + if R.got[k] then 1 else 0) := gotN_succ _ _ hkg
          have h1 := gotN_le R.got k
          have h2 := upK_le l k
          generalize R.got[k] = bg at *
          generalize l[k].up = bu at *
          generalize gotN R.got k = gk at *
          generalize upK l k = uk at *
          clear HC HG hLv HSn
          cases bu <;> cases bg
          all_goals
            go_wp2
            go_roundw
            case rel => exact ⟨k + 1, by omega, by go_num, by rw [HN.out]; first | rfl | go_num, by rw [HU.out]; first | rfl | go_num, by first | rfl | trivial⟩
            case measure => simp [intOf]; omega
        · obtain rfl : k = l.length := by omega
          have hL := hLv wr
          have h1 := gotN_le R.got l.length
          rw [HUN.out] at hup
          rw [HUN.out]
          generalize gotN R.got l.length = g at *
          generalize upN l = u at *
          generalize R.sent = s at *
          have gol : ∀ b1 b2 : Bool, ((g : Int) != (u : Int) - 1) = b1 → ((g : Int) != 0) = b2 → Hid ((s = true → b1 = false) ∧ (b2 = true → b1 = false)) := by
            rintro b1 b2 rfl rfl
            refine ⟨fun h => ?_, fun h => ?_⟩
            · have := N1.out h; simp; omega
            · rcases N2.out with h0 | h0
              · subst h0; simp at h
              · simp; omega
          obtain ⟨b1, hb1⟩ : ∃ b1, ((g : Int) != (u : Int) - 1) = b1 := ⟨_, rfl⟩
          obtain ⟨b2, hb2⟩ : ∃ b2, ((g : Int) != 0) = b2 := ⟨_, rfl⟩
          obtain ⟨r1, r2⟩ := gol b1 b2 hb1 hb2
          have HUle : Hid (u ≤ l.length) := hup
          clear gol N1 N2 HC HG hLv HSn
          cases s <;> cases b2 <;> cases b1
          case false.true.true => exact absurd (r2 rfl) (by decide)
          case true.false.true => exact absurd (r1 rfl) (by decide)
          case true.true.true => exact absurd (r1 rfl) (by decide)
          all_goals
            clear r1 r2
            go_wp2_with fail
            refine hL.mono ?_
            rintro e w9 ⟨rfl, b9⟩
            have B9 := B7.trans (b9.mono B7.size)
            go_wp2
            go_ret
            exact ⟨rfl, B9⟩
  · obtain rfl := q1 hz
    have g3 := gn.row rnZ nilV nilV
    have bb : Below w3.heap.size w3 ((w3.alloc (.cells (rnZ.out nilV nilV) 27)).setRow w3.heap.size (rnZ.out nilV nilV)) := below_row ((Below.refl _ w3).alloc (Nat.le_refl _) _) (Nat.le_refl _) (by rw [size_alloc]; omega) _
    have B4 := B3.trans (bb.mono B3.size)
    have hT := r4Round_any v vf l fl _ (by unfold maxLen; omega) (by unfold maxLen; omega) (hS.below B4) (hF.below B4)
    have hne : (rndE l fl != 0) = true := by simpa using hz
    have hee : (rndE l fl != rndE l fl) = false := by simp
    unfold RefRes at hT
    generalize rndE l fl = re at *
    clear q1 q2 bb hS hF
    go_upto_region 2 with (refine gn.sd rnZ nilV nilV rfl rfl rfl _ _ rfl rfl rfl ?_)
    go_wp2_with fail
    refine hT.mono ?_
    rintro e w5 ⟨q5, _, b5⟩
    obtain rfl := q5 hz
    have B5 := B4.trans (b5.mono B4.size)
    have O5 := g3.below b5
    have gn2 := Oa.new w5 rnZ nilV nilV
    have g5 := gn2.row rnZ nilV nilV
    have bb : Below w5.heap.size w5 ((w5.alloc (.cells (rnZ.out nilV nilV) 27)).setRow w5.heap.size (rnZ.out nilV nilV)) := below_row ((Below.refl _ w5).alloc (Nat.le_refl _) _) (Nat.le_refl _) (by rw [size_alloc]; omega) _
    have B6 := B5.trans (bb.mono B5.size)
    have O6 := O5.below bb
    have hSm := Same_any rnZ [] [] nilV nilV nilV nilV ((w5.alloc (.cells (rnZ.out nilV nilV) 27)).setRow w5.heap.size (rnZ.out nilV nilV)) (by simp) (by simp) (slots_nil _) (slots_nil _) (slots_nil _) (slots_nil _)
    clear hT q5 bb
    obtain ⟨W6, hW6⟩ : ∃ W, (w5.alloc (.cells (rnZ.out nilV nilV) 27)).setRow w5.heap.size (rnZ.out nilV nilV) = W := ⟨_, rfl⟩
    rw [hW6] at B6 O6 hSm g5
    go_upto_region 3 with (refine gn2.sd rnZ nilV nilV rfl rfl rfl _ _ rfl rfl rfl ?_)
    go_wp2_with (first | refine O6.ld rfl _ rfl rfl ?_ | refine g5.ld rfl _ rfl rfl ?_)
    refine hSm.mono ?_
    rintro e w7 ⟨rfl, b7⟩
    have B7 := B6.trans (b7.mono B6.size)
    have hL := lives4_any w7
    clear hSm
    go_wp2_with fail
    refine hL.mono ?_
    rintro e w9 ⟨rfl, b9⟩
    have B9 := B7.trans (b9.mono B7.size)
    go_wp2
    go_ret
    exact ⟨rfl, B9⟩
end Go.Proofs.Ytjblekemmcmblaa
namespace Go.Proofs.Ytjblekemmcmblaa
open Go.ChangeShapes Go.WideShapes Go.ChangeAt Go.RowKit Go.Proofs.Bits
open Go.ChangeMaps (open_string shut_string)
set_option linter.unusedVariables false
set_option maxRecDepth 1000000

set_option maxRecDepth 100000 in
theorem busRounds_lifted (os : Os) (started : os.Started) (H : Type) (enc : TypeId × Value → H) :
    ReturnsInHanded {} Try.checked os 3 .any (Rows.busRoundsSpec.pre6 enc Try.prog Try.f3 Rows.busRoundsRow.domain false) (Rows.busRoundsSpec.post enc Try.prog Try.f3 false true false false) := by
  refine returnsInHanded_of_change_sized (C := Try.checked) own started (by kernel_rfl) Try.func3
    (ChangeSpec.witness6 (enc := enc) (C := Try.checked) false ⟨#[], #[.slice none 0 0, .slice none 0 0], []⟩ 8 (by kernel_rfl) (by kernel_rfl) (by kernel_rfl) (by kernel_rfl)) ?_
  intro W base args ds gs before hval0 hW hcnd hsz _
  have hval : ∀ (j : Nat) t v, Try.f3.params[j]? = some t → args[j]? = some v → Value.okWide Try.prog W .any base t v := hval0
  have hW' := hW
  obtain ⟨p, q, hA0, hV, rfl, hfz, hnd⟩ := hW
  have hA : DataW.TrodAll enc Try.prog W 0 (fun _ => true) true Try.f3.params.toList args.toList ds p := hA0
  rw [Try.params3] at hA hval hsz
  obtain ⟨v0, vs0, d0, ds0, p0, q0, hargs, rfl, rfl, h0, r0⟩ := trodAll_cons hA
  obtain ⟨v1, vs1, d1, ds1, p1, q1, rfl, rfl, rfl, h1, r1⟩ := trodAll_cons r0
  obtain ⟨rfl, rfl, rfl⟩ := trodAll_nil r1
  obtain rfl : args = #[v0, v1] := by cases args; simp_all
  obtain ⟨rfl, rfl⟩ := trodVars_none hV
  have lt0 : ∀ x ∈ p0, x.block < W.heap.size := by obtain ⟨m, hm⟩ := h0; exact DataW.trod_lt m _ _ _ hm
  obtain ⟨l0, w0, e0⟩ := open_senders (hval 0 22 v0 rfl rfl) h0 lt0
  have z0 := size_senders (j := 0) hsz rfl rfl e0
  have lt1 : ∀ x ∈ p1, x.block < W.heap.size := by obtain ⟨m, hm⟩ := h1; exact DataW.trod_lt m _ _ _ hm
  obtain ⟨l1, w1, e1⟩ := open_flips (hval 1 23 v1 rfl rfl) h1 lt1
  have z1 := size_flips (j := 1) hsz rfl rfl e1
  clear hA0 hval0
  refine (brounds_walk v0 v1 l0 l1 W z0 z1 w0 w1).mono fun e W' ⟨he, bel⟩ => ?_
  subst he
  exact ⟨_, rfl, _, _, _, [], _, [], hW', trodAll_mk1 (shut_bool Try.underlying4 _), (trodAll_cons_mk (Below.trod laidOut (by kernel_rfl) (of_decide_eq_true (by kernel_rfl)) h0 bel lt0) (trodAll_cons_mk (Below.trod laidOut (by kernel_rfl) (of_decide_eq_true (by kernel_rfl)) h1 bel lt1) trodAll_mk0)), rfl, bel.frame _, fun h => by cases h⟩

theorem busRounds_holds : Rows.BusRoundsSaid :=
  OpenClaim.holds_of_wide 3 Try.f3 rfl rfl rfl rfl rfl rfl rfl ⟨rfl, rfl, rfl, rfl, rfl⟩ rfl rfl rfl rfl rfl (by kernel_rfl) Try.func3 (by kernel_rfl)
    (of_decide_eq_true (by kernel_rfl)) (by unfold Func.isWrapper; first | (rw [if_pos (by decide +kernel)]; kernel_rfl) | (rw [if_neg (by decide +kernel)]; exact ⟨rfl, rfl⟩))
    (fun os started H enc _ => busRounds_lifted os started H enc)
end Go.Proofs.Ytjblekemmcmblaa
