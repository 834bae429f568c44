/- Those that send, as plain functions; a row of senders in memory. Contracts: senders. Contracts: Step. Plain facts on rounds: who wins, which flip is the first. A round whose nodes stand in the other order. -/
import Derived.Test.YtlghjfomliappaaTa9
import Derived.Maps.OwnOps
namespace Go.Proofs.Ytlghjfomliappaa
open Go.RowKit Go.Proofs.Bits Go.Maps Go.WideMaps
set_option linter.unusedVariables false
set_option maxRecDepth 1000000

def tpN (n : Nd) : Bool := n.pw && !n.u.off
def ndAt (l : List Nd) (i : Nat) : Nd := l.getD i Nd.nul
def wantN (n : Nd) : Bool := tpN n && n.has
def seenK (l : List Nd) : Nat → List (List UInt8)
  | 0 => []
  | k + 1 => if wantN (ndAt l k) && !(seenK l k).contains (fldV (ndAt l k).f) then seenK l k ++ [fldV (ndAt l k).f] else seenK l k
def seOf (l : List Nd) (k : Nat) : Se := if wantN (ndAt l k) && !(seenK l k).contains (fldV (ndAt l k).f) then ⟨true, true, (ndAt l k).f⟩ else ⟨tpN (ndAt l k), false, Fr.nul⟩
def sends (l : List Nd) : List Se := (List.range l.length).map (seOf l)
def sendsK (l : List Nd) (k : Nat) : List Se := (List.range l.length).map fun i => if i < k then seOf l i else Se.nul
theorem sendsK_len (l : List Nd) (k : Nat) : (sendsK l k).length = l.length := by simp [sendsK]
theorem sends_len (l : List Nd) : (sends l).length = l.length := by simp [sends]
theorem sendsK_zero (l : List Nd) : sendsK l 0 = List.replicate l.length Se.nul := by
  unfold sendsK; apply List.ext_getElem <;> simp
theorem sendsK_full (l : List Nd) : sendsK l l.length = sends l := by
  unfold sendsK sends
  apply List.ext_getElem
  · simp
  · intro i h1 h2; simp at h1; simp [h1]
theorem sendsK_set (l : List Nd) (k : Nat) (h : k < l.length) : (sendsK l k).set k (seOf l k) = sendsK l (k + 1) := by
  unfold sendsK
  apply List.ext_getElem
  · simp
  · intro i h1 h2
    simp at h1 h2
    simp only [List.getElem_set, List.getElem_map, List.getElem_range]
    by_cases e : k = i
    · subst e; simp
    · rw [if_neg e]
      have : (i < k ↔ i < k + 1) := by omega
      simp only [this]
theorem sendsK_at (l : List Nd) (k : Nat) (h : k < (sendsK l k).length) : (sendsK l k)[k] = Se.nul := by simp [sendsK]
theorem seenK_len (l : List Nd) (k : Nat) : (seenK l k).length ≤ k := by
  induction k with
  | zero => simp [seenK]
  | succ k ih =>
    unfold seenK
    split
    · rw [List.length_append, List.length_singleton]; omega
    · omega

/-- A row of senders in block g. -/
structure SeM (g : Nat) (ls : List Se) (w : World) : Prop where
  hn : ∀ i (h : i < ls.length), w.rangeAt g (i * 14) ls[i].cells
  ht : w.there g 0 (ls.length * 14)
  lt : g < w.heap.size
theorem range_se {w : World} {g o : Nat} {s : Se} : w.rangeAt g o s.cells ↔ w.cell? ⟨g, o, none⟩ = some (.bool s.up) ∧ w.cell? ⟨g, o + 1, none⟩ = some (.bool s.sends) ∧ w.rangeAt g (o + 2) s.f.cells := by
  constructor
  · intro h
    refine ⟨h 0 _ rfl, h 1 _ rfl, fun j u hj => ?_⟩
    have := h (j + 2) u hj
    rw [show o + (j + 2) = o + 2 + j by omega] at this
    exact this
  · rintro ⟨h0, h1, h2⟩ j u hj
    match j, hj with
    | 0, hj => cases hj; exact h0
    | 1, hj => cases hj; exact h1
    | j + 2, hj =>
      have := h2 j u hj
      rw [show o + (j + 2) = o + 2 + j by omega]; exact this
section
variable {g : Nat} {ls : List Se} {w : World}
theorem SeM.kept (h : SeM g ls w) {w' : World} (hs : w.heap.size ≤ w'.heap.size) (hk : w'.heap[g]? = w.heap[g]?) : SeM g ls w' := ⟨fun i hi => range_kept (h.hn i hi) hk, there_kept h.ht hk, Nat.lt_of_lt_of_le h.lt hs⟩
theorem SeM.below (h : SeM g ls w) {w' : World} (hb : Below w.heap.size w w') : SeM g ls w' := h.kept hb.size (hb.block g h.lt)
theorem SeM.upd (h : SeM g ls w) {k : Nat} (hk : k < ls.length) (s : Se) {w' : World} (hs : w'.heap.size = w.heap.size) (hcell : ∀ o, (o < k * 14 ∨ k * 14 + 14 ≤ o) → w'.cell? ⟨g, o, none⟩ = w.cell? ⟨g, o, none⟩) (hthere : w'.there g 0 (ls.length * 14)) (hnew : w'.rangeAt g (k * 14) s.cells) : SeM g (ls.set k s) w' := by
  have len : (ls.set k s).length = ls.length := by simp
  refine ⟨fun j hj => ?_, by rw [len]; exact hthere, by rw [hs]; exact h.lt⟩
  rw [List.getElem_set]
  by_cases e : k = j
  · subst e; simp only [if_true]; exact hnew
  · rw [if_neg e]
    rw [len] at hj
    intro o v hv
    have ho := (List.getElem?_eq_some_iff.1 hv).1
    rw [Se.len] at ho
    rw [hcell _ (by omega)]
    exact h.hn j hj o v hv
theorem SeM.senders (h : SeM g ls w) : Senders w (sl g ls.length) ls := ⟨some ⟨g, 0, none⟩, ls.length, rfl, (fun h => by cases h), fun k hk => ⟨g, 0, rfl, h.lt, by rw [Nat.zero_add]; exact h.hn k hk⟩⟩
theorem SeM.up (h : SeM g ls w) {k : Nat} (hk : k < ls.length) (u : Bool) : SeM g (ls.set k { ls[k] with up := u }) (w.setCell ⟨g, k * 14, none⟩ (.bool u)) := by
  obtain ⟨c0, c1, c2⟩ := range_se.1 (h.hn k hk)
  have out : ∀ q, q ≠ k * 14 → (w.setCell ⟨g, k * 14, none⟩ (.bool u)).cell? ⟨g, q, none⟩ = w.cell? ⟨g, q, none⟩ := fun q hq => World.cell?_setCell_other _ _ _ _ (by intro e; injection e with _ e2; exact hq e2.symm)
  refine h.upd hk _ (by simp [World.setCell]) (fun o ho => out o (by omega)) (there_setCell h.ht _ _) (range_se.2 ⟨World.cell?_setCell_same _ _ _ c0, ?_, fun j v hj => ?_⟩)
  · rw [out _ (by omega)]; exact c1
  · rw [out _ (by omega)]; exact c2 j v hj
theorem SeM.send (h : SeM g ls w) {k : Nat} (hk : k < ls.length) (f : Fr) : SeM g (ls.set k { ls[k] with sends := true, f := f }) ((w.setCell ⟨g, k * 14 + 1, none⟩ (.bool true)).setCells g (k * 14 + 2) f.arr.toList) := by
  obtain ⟨c0, c1, c2⟩ := range_se.1 (h.hn k hk)
  have hl : f.arr.toList.length = 12 := by simp [f.arr_size]
  have out : ∀ q, q ≠ k * 14 + 1 → (w.setCell ⟨g, k * 14 + 1, none⟩ (.bool true)).cell? ⟨g, q, none⟩ = w.cell? ⟨g, q, none⟩ := fun q hq => World.cell?_setCell_other _ _ _ _ (by intro e; injection e with _ e2; exact hq e2.symm)
  have ht1 := there_setCell h.ht ⟨g, k * 14 + 1, none⟩ (.bool true)
  have out2 : ∀ q, (q < k * 14 + 2 ∨ k * 14 + 14 ≤ q) → ((w.setCell ⟨g, k * 14 + 1, none⟩ (.bool true)).setCells g (k * 14 + 2) f.arr.toList).cell? ⟨g, q, none⟩ = (w.setCell ⟨g, k * 14 + 1, none⟩ (.bool true)).cell? ⟨g, q, none⟩ := fun q hq => cell_setCells_other _ g _ _ q (by omega)
  have r1 := World.rangeAt_setCells_same (w.setCell ⟨g, k * 14 + 1, none⟩ (.bool true)) g (k * 14 + 2) f.arr.toList (there_part ht1 (by omega))
  refine h.upd hk _ ((setCells_same g _ _ _).2.2.2.1.trans (by simp [World.setCell])) (fun o ho => by rw [out2 o (by omega), out o (by omega)]) (World.there_setCells ht1 g _ _) (range_se.2 ⟨?_, ?_, fun j v hj => ?_⟩)
  · rw [out2 _ (by omega), out _ (by omega)]; exact c0
  · rw [out2 _ (by omega)]; exact World.cell?_setCell_same _ _ _ c1
  · exact r1 j v (by simpa [Fr.arr] using hj)
theorem SeM.stf {ops : Array Oper} {rest : List Oper} {o : Oper} {a : Act} {Q : Exit → Act → World → Prop} (h : SeM g ls w) {k : Nat} (hk : k < ls.length) (f : Fr) (hgd : o.guard = none) (x y : Operand) (ho : o.op = .store 38 x y) (hx : a.eval x = .pointer (some ⟨g, k * 14 + 2, none⟩)) (hy : a.eval y = .agg f.arr)
    (hh : wpList Try.prog ops Q rest (a.put o.dst undef) ((w.setCell ⟨g, k * 14 + 1, none⟩ (.bool true)).setCells g (k * 14 + 2) f.arr.toList)) : wpList Try.prog ops Q (o :: rest) a (w.setCell ⟨g, k * 14 + 1, none⟩ (.bool true)) :=
  wpList_store_mid hgd 38 x y ho g (k * 14 + 2) f.arr hx hy (there_part (there_setCell h.ht ⟨g, k * 14 + 1, none⟩ (.bool true)) (by rw [f.arr_size]; omega)) (by rw [infoF, f.arr_size]) f.one hh
end
theorem infoSeZ : (Try.prog.info? 40).map (fun i => (i.zero, i.size, i.bytes)) = some (some (.agg Se.nul.arr), 14, 32) := by kernel_rfl
end Go.Proofs.Ytlghjfomliappaa
namespace Go.Proofs.Ytlghjfomliappaa
open Go.RowKit Go.Proofs.Bits Go.Maps Go.WideMaps
set_option linter.unusedVariables false
set_option maxRecDepth 1000000

theorem run_makeMap_none (w : World) : (Instr.makeMap 106 none).run Try.prog w = .ok (.map (some w.heap.size)) (w.alloc (.map #[] 0)) := by
  simp [Instr.makeMap, Result.andThen]
theorem run_make_senders (n : Nat) (hn : n ≤ 127) (w : World) : (Instr.makeSlice 22 (.int .i64 n) (.int .i64 n)).run Try.prog w = .ok (.slice (some ⟨w.heap.size, 0, none⟩) n n) (w.alloc (.cells (madeCells Se.nul.arr (n * 14)) 40)) := by
  obtain ⟨i0, hi, hz0, hz1, hz2⟩ := info_parts infoSeZ
  have := run_make (P := Try.prog) w 22 40 i0 _ Try.underlying22 hi hz0 .i64 .i64 n n (by omega) (Int.le_refl _) (by rw [hz2]; omega) (by omega)
  simp only [Int.toNat_natCast, hz1] at this
  exact this
theorem made_at (z : Array Value) (m j : Nat) (hj : j < m) (hz : 0 < z.size) : (madeCells z m)[j]? = z[j % z.size]? := by
  have hm : j % z.size < z.size := Nat.mod_lt _ hz
  simp [madeCells, hj, hm]
theorem SeM.made (w : World) (n : Nat) : SeM w.heap.size (List.replicate n Se.nul) (w.alloc (.cells (madeCells Se.nul.arr (n * 14)) 40)) := by
  have hh := heap_alloc_new w (.cells (madeCells Se.nul.arr (n * 14)) 40)
  have hz : Se.nul.arr.size = 14 := rfl
  refine ⟨fun i hi => ?_, fun j hj => ?_, by rw [size_alloc]; omega⟩
  · simp only [List.length_replicate] at hi
    simp only [List.getElem_replicate]
    intro j v hj
    have hj14 : j < 14 := (List.getElem?_eq_some_iff.1 hj).1
    rw [Lib.cell_of_heap hh, made_at _ _ _ (by omega) (by rw [hz]; omega), hz, show (i * 14 + j) % 14 = j by omega]
    simpa [Se.arr] using hj
  · rw [List.length_replicate] at hj
    refine ⟨?_, Lib.frozen_of_heap hh _⟩
    rw [Lib.cell_of_heap hh, made_at _ _ _ (by omega) (by rw [hz]; omega), hz]
    have : j % 14 < Se.nul.arr.size := by rw [hz]; omega
    simp [this]
theorem has_setL (s : List (List UInt8)) (x : List UInt8) : Maps.has (setL s) (keyL x) = s.contains x := by
  unfold setL
  rw [has_setOf _ _ _ (fun y hy => by obtain ⟨_, _, rfl⟩ := List.mem_map.1 hy; trivial), List.any_map, Bool.eq_iff_iff, List.any_eq_true, List.contains_iff_mem]
  simp only [Function.comp, keyL, Lit.sameKey, beq_iff_eq]
  constructor
  · rintro ⟨a, h, rfl⟩; exact h
  · intro h; exact ⟨x, h, rfl⟩
theorem setL_snoc (s : List (List UInt8)) (x : List UInt8) : setL (s ++ [x]) = (setL s).put (keyL x) (.agg []) := by
  unfold setL; rw [List.map_append, List.map_cons, List.map_nil, setOf_snoc]
theorem fldV_len (f : Fr) : (fldV f).length ≤ 32 := by
  unfold fldV
  split
  · exact field_len f
  · simp
/-- What stands between two rounds of senders. -/
def SenS (w : World) (l : List Nd) (k : Nat) (x : World) : Prop := Below w.heap.size w x ∧ SeM w.heap.size (sendsK l k) x ∧ x.ownsMap Try.prog 9 (unitElem (H := Unit)) (w.heap.size + 1) k (setL (seenK l k))
section
variable {b nb : Nat} {ρ : Nat → Ro} {t : Int} {l : List Nd} {w : World}
theorem SenS.start (w : World) (l : List Nd) : SenS w l 0 ((w.alloc (.cells (madeCells Se.nul.arr (l.length * 14)) 40)).alloc (.map #[] 0)) := by
  have h1 := SeM.made w l.length
  rw [← sendsK_zero] at h1
  have b1 : Below w.heap.size w (w.alloc (.cells (madeCells Se.nul.arr (l.length * 14)) 40)) := (Below.refl _ _).alloc (Nat.le_refl _) _
  refine ⟨b1.alloc (by rw [size_alloc]; omega) _, h1.below ((Below.refl _ _).alloc (Nat.le_refl _) _), ?_⟩
  have := World.ownsMap_made (H := Unit) (w.alloc (.cells (madeCells Se.nul.arr (l.length * 14)) 40)) Try.prog 9 (unitElem (H := Unit))
  rw [size_alloc] at this
  exact this
theorem map_below {x y : World} {m n : Nat} {D : DataW Unit} (h : x.ownsMap Try.prog 9 (unitElem (H := Unit)) m n D) (hb : Below x.heap.size x y) : y.ownsMap Try.prog 9 (unitElem (H := Unit)) m n D := by
  have hlt := h.lt
  obtain ⟨es, clock, hb', r⟩ := h
  exact ⟨es, clock, (hb.block m hlt).trans hb', r⟩
set_option maxHeartbeats 4000000 in
theorem senders_bus (h : BusAt b nb ρ t l w) (hl : l.length ≤ 127) :
    Calls Try.prog 35 #[.pointer (some ⟨b, 0, none⟩)] w fun e w' => e = .returned (sl w.heap.size l.length) ∧ Senders w' (sl w.heap.size l.length) (sends l) ∧ Below w.heap.size w w' := by
  have hb := h
  obtain ⟨G, V, h⟩ := h
  obtain ⟨c0, c1, hf⟩ := h.cells
  have H0 : Hid _ := SenS.start w l
  have hmk := run_make_senders l.length hl
  have hmm := run_makeMap_none
  have HB : Hid (∀ x, Below w.heap.size w x → BusM b nb ρ t l G V x) := fun x hx => h.below hx
  have hlb := h.lt_b
  clear h hb
  have e1 : b ≠ w.heap.size := by omega
  have e2 : b ≠ w.heap.size + 1 := by omega
  go_enter Try.func35, Try.ntmps35
  go_wp2
  have HRet : Hid (∀ x, SenS w l l.length x → Senders x (sl w.heap.size l.length) (sends l) ∧ Below w.heap.size w x) := fun x hx => ⟨by have := hx.2.1.senders; rw [sendsK_full, sends_len] at this; exact this, hx.1⟩
  clear hmk hmm c0 c1 hf
  go_loopw [23] (fun i x => ∃ k : Nat, k ≤ l.length ∧ i = .int .i64 k ∧ SenS w l k x) (fun i _ => l.length - (intOf i).toNat)
  case atStart => exact ⟨0, Nat.zero_le _, rfl, H0.out⟩
  case round =>
    clear H0
    obtain ⟨k, hk, rfl, S1⟩ := hrel
    by_cases hkl : k < l.length
    · obtain ⟨B1, M1, O1⟩ := S1
      have h1 := HB.out wr B1
      have hR := h1.hn k hkl
      have hv := own_ok (h1.hg k hkl)
      have na := na_row wr l[k] (G k) (V k)
      have nbw := na_below wr l[k] (G k) (V k)
      have hu2 : Ua (G k) l[k].u _ := (h1.hu k hkl).below nbw
      obtain ⟨e0, e1', e2', e3', e4'⟩ := range_node.1 na.range
      have HT := takesPart_any (q := wr.heap.size) (o := 0) e0 e1' hu2
      have M2 := M1.below nbw
      have O2 := map_below O1 nbw
      have B2 := B1.trans (nbw.mono B1.size)
      have hget : ndAt l k = l[k] := by unfold ndAt; simp [hkl]
      have HW : Hid (wantN l[k] = ((l[k].pw && !l[k].u.off) && l[k].has)) := rfl
      have HSe : Hid (seOf l k = if wantN l[k] && !(seenK l k).contains (fldV l[k].f) then ⟨true, true, l[k].f⟩ else ⟨l[k].pw && !l[k].u.off, false, Fr.nul⟩) := by show _ = _; unfold seOf; rw [hget]; rfl
      have HSn : Hid (seenK l (k + 1) = if wantN l[k] && !(seenK l k).contains (fldV l[k].f) then seenK l k ++ [fldV l[k].f] else seenK l k) := by show _ = _; rw [seenK, hget]
      have HSt : Hid ((sendsK l k).set k (seOf l k) = sendsK l (k + 1)) := sendsK_set l k hkl
      have hks : k < (sendsK l k).length := by rw [sendsK_len]; exact hkl
      have hat := sendsK_at l k hks
      have hlt1 : w.heap.size + 1 < wr.heap.size := O1.lt
      have hqg : wr.heap.size ≠ w.heap.size := by have := M1.lt; omega
      generalize l[k] = n at *
      clear HB h1 M1 O1 B1 hu2 hget
      go_wp2_with (first | refine nd_ld hR rfl _ rfl rfl ?_ | refine na_sd n (G k) (V k) hv rfl _ _ rfl rfl rfl ?_)
      refine HT.mono ?_
      rintro e w3 ⟨rfl, m, hw3⟩
      have bm := below_drawn (Below.refl ((wr.alloc (.cells nodeZ 80)).setRow wr.heap.size (n.cells (G k) (V k)).toArray).heap.size ((wr.alloc (.cells nodeZ 80)).setRow wr.heap.size (n.cells (G k) (V k)).toArray)) m
      rw [← hw3] at bm
      have M3 := M2.below bm
      have O3 := map_below O2 bm
      have B3 := B2.trans (bm.mono B2.size)
      have na3 : Na wr.heap.size n (G k) (V k) w3 := (bm.block _ (Array.getElem?_eq_some_iff.1 na).1).trans na
      generalize (n.pw && !n.u.off) = tp at *
      have M4 := M3.up hks tp
      obtain ⟨s0, s1, s2⟩ := range_se.1 (M3.hn k hks)
      have sf : w3.frozen? ⟨w.heap.size, k * 14, none⟩ = false := by
        have := (M3.ht (k * 14) (by omega)).2
        rw [Nat.zero_add] at this; exact this
      have na4 : Na wr.heap.size n (G k) (V k) (w3.setCell ⟨w.heap.size, k * 14, none⟩ (.bool tp)) := (Below.heap_setCell w3 _ _ _ hqg).trans na3
      have O4 := O3.setCell (a := ⟨w.heap.size, k * 14, none⟩) (by show w.heap.size + 1 ≠ w.heap.size; omega) (.bool tp)
      have B4 := B3.setCell (p := ⟨w.heap.size, k * 14, none⟩) (Nat.le_refl _) (.bool tp)
      rw [hat] at M4 s0
      obtain ⟨f0, f1, f2, f3, f4⟩ := range_node.1 na4.range
      rw [Nat.zero_add] at f2 f3
      clear hw3 bm M3 O3 B3 na3 M2 O2 B2 na HT e0 e1' e2' e3' e4' hR hv nbw s1 s2 f0 f1 f4
      have HNo : Hid ((wantN n && !(seenK l k).contains (fldV n.f)) = false → ∀ y, Below w.heap.size w y → SeM w.heap.size ((sendsK l k).set k { Se.nul with up := tp }) y → y.ownsMap Try.prog 9 (unitElem (H := Unit)) (w.heap.size + 1) k (setL (seenK l k)) → SenS w l (k + 1) y) := by
        intro hno y hb hm ho
        refine ⟨hb, ?_, ?_⟩
        · rw [← HSt.out, HSe.out, hno]; exact hm
        · rw [HSn.out, hno]; exact ho.mono (by omega)
      cases tp
      · have HE : Hid _ := HNo.out (by rw [HW.out]; rfl) _ B4 M4 O4
        clear HNo HW HSe HSn HSt O4 B4 M4
        go_wp2
        go_roundw
        case rel => exact ⟨k + 1, by omega, by go_num, HE.out⟩
        case measure => simp [intOf]; omega
      · generalize hha : n.has = ha at *
        cases ha
        · have HE : Hid _ := HNo.out (by rw [HW.out]; rfl) _ B4 M4 O4
          clear HNo HW HSe HSn HSt O4 B4 M4
          go_wp2
          go_roundw
          case rel => exact ⟨k + 1, by omega, by go_num, HE.out⟩
          case measure => simp [intOf]; omega
        · have hF := fField_any n.f (w3.setCell ⟨w.heap.size, k * 14, none⟩ (.bool true))
          unfold Fr.val at hF
          have hkey : keyOf Try.prog 9 (.string ⟨(fldV n.f).toArray⟩) = some (keyL (fldV n.f)) := by
            have := keyOf_string_mk (P := Try.prog) Try.underlying9 (s := ⟨(fldV n.f).toArray⟩) (by unfold maxLen; simp [ByteArray.size]; have := fldV_len n.f; omega)
            simpa [keyL] using this
          have hz7 : ∀ x, (zeroValue 107).run Try.prog x = .ok (.agg #[]) x := fun x => by rfl
          have HHas : Hid (Maps.has (setL (seenK l k)) (keyL (fldV n.f)) = (seenK l k).contains (fldV n.f)) := has_setL _ _
          have HPut : Hid (setL (seenK l k ++ [fldV n.f]) = (setL (seenK l k)).put (keyL (fldV n.f)) (.agg [])) := setL_snoc _ _
          have hwant : wantN n = true := HW.out
          rw [hwant] at HNo HSe HSn
          simp only [Bool.true_and] at HNo HSe HSn
          clear HW hwant
          go_wp2_with (refine fld_ld f2 rfl _ rfl rfl ?_)
          refine hF.mono ?_
          rintro e w5 ⟨rfl, B5⟩
          have M5 := M4.below B5
          have O5 := map_below O4 B5
          have B6 := B4.trans (B5.mono B4.size)
          have na5 : Na wr.heap.size n (G k) (V k) w5 := (B5.block _ (Array.getElem?_eq_some_iff.1 na4).1).trans na4
          clear hF B5 M4 O4 B4 na4 f2 f3 s0 sf
          cases hc : (seenK l k).contains (fldV n.f)
          · rw [hc] at HHas HSe HSn
            simp only [Bool.not_false, if_true] at HSe HSn
            have HYes : Hid (∀ y, Below w.heap.size w y → SeM w.heap.size ((sendsK l k).set k ⟨true, true, n.f⟩) y → y.ownsMap Try.prog 9 (unitElem (H := Unit)) (w.heap.size + 1) (k + 1) ((setL (seenK l k)).put (keyL (fldV n.f)) (.agg [])) → SenS w l (k + 1) y) := by
              intro y hb hm ho
              refine ⟨hb, ?_, ?_⟩
              · rw [← HSt.out, HSe.out]; exact hm
              · rw [HSn.out, HPut.out]; exact ho
            have O6 := O5.alloc (.cells #[] 107)
            have hkl2 : k < ((sendsK l k).set k { Se.nul with up := true }).length := by rw [List.length_set]; exact hks
            have b6 : Below w5.heap.size w5 (w5.alloc (.cells #[] 107)) := (Below.refl _ _).alloc (Nat.le_refl _) _
            have B7 := B6.trans (b6.mono B6.size)
            have M7 := M5.below b6
            have na7 : Na wr.heap.size n (G k) (V k) (w5.alloc (.cells #[] 107)) := (b6.block _ (Array.getElem?_eq_some_iff.1 na5).1).trans na5
            have lts := M7.lt
            have ltq := (Array.getElem?_eq_some_iff.1 na7).1
            have HStep : Hid (∀ w8, w8.ownsMap Try.prog 9 (unitElem (H := Unit)) (w.heap.size + 1) (k + 1) ((setL (seenK l k)).put (keyL (fldV n.f)) (.agg [])) → (w5.alloc (.cells #[] 107)).grownBy w8 (some (w.heap.size + 1)) → SeM w.heap.size ((sendsK l k).set k { Se.nul with up := true }) w8 ∧ w8.rangeAt wr.heap.size 2 n.f.cells ∧ (∃ z, w8.cell? ⟨w.heap.size, k * 14 + 1, none⟩ = some (.bool z)) ∧ w8.frozen? ⟨w.heap.size, k * 14 + 1, none⟩ = false ∧ Hid (SenS w l (k + 1) ((w8.setCell ⟨w.heap.size, k * 14 + 1, none⟩ (.bool true)).setCells w.heap.size (k * 14 + 2) n.f.arr.toList))) := by
              intro w8 O8 G8
              have hl14 : ((sendsK l k).set k { Se.nul with up := true }).length = l.length := by rw [List.length_set, sendsK_len]
              have M8 := M7.kept G8.size (G8.block _ lts (by intro e; injection e with e; omega))
              have na8 : Na wr.heap.size n (G k) (V k) w8 := (G8.block _ ltq (by intro e; injection e with e; omega)).trans na7
              have B8 := B7.grown G8 B7.size (fun j hj => by cases hj; omega)
              obtain ⟨_, _, f2, _, _⟩ := range_node.1 na8.range
              rw [Nat.zero_add] at f2
              obtain ⟨s0, s1, s2⟩ := range_se.1 (M8.hn k hkl2)
              have sf : w8.frozen? ⟨w.heap.size, k * 14 + 1, none⟩ = false := by
                have := (M8.ht (k * 14 + 1) (by rw [List.length_set, sendsK_len]; omega)).2
                rw [Nat.zero_add] at this; exact this
              have M9 := M8.send hkl2 n.f
              rw [List.getElem_set_self, List.set_set] at M9
              refine ⟨M8, f2, ⟨_, s1⟩, sf, HYes.out _ ?_ M9 ?_⟩
              · have Bs := B8.setCell (p := ⟨w.heap.size, k * 14 + 1, none⟩) (Nat.le_refl _) (.bool true)
                obtain ⟨q1, q2, q3, q4, q5⟩ := setCells_same w.heap.size n.f.arr.toList (k * 14 + 2) (w8.setCell ⟨w.heap.size, k * 14 + 1, none⟩ (.bool true))
                exact ⟨q1.trans Bs.os, q2.trans Bs.tape, q3.trans Bs.output, by rw [q4]; exact Bs.size, fun j hj => (q5 j (by omega)).trans (Bs.block j hj)⟩
              · have O9 := O8.setCell (a := ⟨w.heap.size, k * 14 + 1, none⟩) (by show w.heap.size + 1 ≠ w.heap.size; omega) (.bool true)
                obtain ⟨q1, q2, q3, q4, q5⟩ := setCells_same w.heap.size n.f.arr.toList (k * 14 + 2) (w8.setCell ⟨w.heap.size, k * 14 + 1, none⟩ (.bool true))
                obtain ⟨es, clock, hb', rr⟩ := O9
                exact ⟨es, clock, (q5 _ (by omega)).trans hb', rr⟩
            clear HNo HSe HSn HSt HPut hc M5 B6 na5 b6 HYes M7 B7 na7
            generalize (⟨(fldV n.f).toArray⟩ : ByteArray) = T at *
            generalize keyL (fldV n.f) = KL at *
            generalize setL (seenK l k) = DD at *
            go_wp2_with (first
              | (at_lookup; refine wpList_lookup_own_unit _ rfl _ _ 106 rfl 9 107 lawS Try.underlying106 (hz7 _) (w.heap.size + 1) k _ rfl O5 _ _ rfl hkey ?_; rw [HHas.out])
              | (at_mapUpdate; refine wpList_mapUpdate_own _ rfl _ _ _ 106 rfl 9 107 lawS Try.underlying106 (unitElem (H := Unit)) (w.heap.size + 1) k _ rfl O6 (by unfold maxLen; omega) _ _ _ rfl rfl hkey _ [] unitElem_mk ?_; intro w8 O8 G8; obtain ⟨M8, f2, ⟨z8, s1⟩, sf, HE⟩ := HStep.out w8 O8 G8; clear O8 G8 HStep O6 O5)
              | refine fld_ld f2 rfl _ rfl rfl ?_
              | refine M8.stf hkl2 n.f rfl _ _ rfl rfl rfl ?_
              | go_in)
            go_roundw
            case rel => exact ⟨k + 1, by omega, by go_num, HE.out⟩
            case measure => simp [intOf]; omega
          · rw [hc] at HHas HNo
            have HNo2 : Hid (∀ y, Below w.heap.size w y → SeM w.heap.size ((sendsK l k).set k { Se.nul with up := true }) y → y.ownsMap Try.prog 9 (unitElem (H := Unit)) (w.heap.size + 1) k (setL (seenK l k)) → SenS w l (k + 1) y) := HNo.out rfl
            clear HNo HSe HSn HSt HPut hc
            generalize (⟨(fldV n.f).toArray⟩ : ByteArray) = T at *
            generalize keyL (fldV n.f) = KL at *
            generalize setL (seenK l k) = DD at *
            go_wp2_with (first
              | (at_lookup; refine wpList_lookup_own_unit _ rfl _ _ 106 rfl 9 107 lawS Try.underlying106 (hz7 _) (w.heap.size + 1) k _ rfl O5 _ _ rfl hkey ?_; rw [HHas.out])
              | go_in)
            go_roundw
            case rel => exact ⟨k + 1, by omega, by go_num, HNo2.out _ (B6.alloc B6.size _) (M5.below ((Below.refl _ _).alloc (Nat.le_refl _) _)) (O5.alloc _)⟩
            case measure => simp [intOf]; omega
    · obtain rfl : k = l.length := by omega
      go_wp2
      go_ret
      exact ⟨rfl, HRet.out _ S1⟩
end
end Go.Proofs.Ytlghjfomliappaa
namespace Go.Proofs.Ytlghjfomliappaa
open Go.RowKit Go.Proofs.Bits
set_option linter.unusedVariables false
set_option maxRecDepth 1000000

def tAdd (t z : Int) : Int := IntKind.u64.wrap (t + z)
def NdsOk (l : List Nd) : Prop := ∀ i (hi : i < l.length), l[i].u.ok ∧ l[i].got.length ≤ 64
def stepR (l : List Nd) (fl : List Fl) : Rn := rnd (sends l) fl
def stepE (l : List Nd) (fl : List Fl) : Int := rndE (sends l) fl
def idleL (l : List Nd) : List Nd := l.mapIdx idleN
def setL4 (r : Rn) (l : List Nd) : List Nd := if r.win = -1 then l else l.mapIdx (setN r (ndAt l r.win.toNat).f)
def stepL (l : List Nd) (fl : List Fl) : List Nd := if stepE l fl = 0 then (setL4 (stepR l fl) (idleL l)).mapIdx dropN else l
def f_ge (f : Fr) (ack : Bool) : Prop := 10 ≤ (encV f ack).length
theorem encV_ge (f : Fr) (ack : Bool) (h : f.chk = 0) : f_ge f ack := by
  unfold f_ge encV
  rw [if_pos h]
  unfold Fr.bits
  simp only [List.length_append, flagV_length, List.length_cons, List.length_nil]
  omega
theorem first_chk {l : List Se} (h : firstE (frs l) = 0) : (winF l).chk = 0 := by
  have hs := first_small h
  rw [← winF_eq h hs]
  unfold firstE at h
  by_cases h0 : (frs l).length = 0
  · rw [if_pos h0] at h; simp at h
  · rw [if_neg h0] at h
    cases ha : allOk (frs l)
    · rw [ha] at h; simp at h
    · unfold allOk at ha
      rw [List.all_eq_true] at ha
      simpa using ha _ (List.getElem_mem hs)
theorem rnd_win {l : List Se} {fl : List Fl} (h : rndE l fl = 0) : (rnd l fl).win = -1 ∨ ∃ wn : Nat, wn < l.length ∧ (rnd l fl).win = wn := by
  unfold rnd
  by_cases hw : who l = []
  · rw [if_pos hw]; exact .inl rfl
  · rw [if_neg hw]
    right
    have hb : beE l = 0 := by
      unfold rndE at h
      by_cases h0 : lookV l.length fl ≠ 0
      · rw [if_pos h0] at h; exact absurd h h0
      · rw [if_neg h0] at h; exact h
    refine ⟨winN l, (below_beg hb hw).2, ?_⟩
    unfold rnEnd
    split
    · rfl
    · split
      · rfl
      · split <;> rfl
theorem rnd_bits {l : List Se} {fl : List Fl} (h : rndE l fl = 0) : 0 ≤ (rnd l fl).bits ∧ (rnd l fl).bits ≤ 2000 := by
  have hk : lookV l.length fl = 0 := by
    unfold rndE at h
    by_cases h0 : lookV l.length fl ≠ 0
    · rw [if_pos h0] at h; exact absurd h h0
    · simpa using h0
  obtain ⟨_, _, hok⟩ := look_ok hk
  unfold rnd
  by_cases hw : who l = []
  · rw [if_pos hw]; exact ⟨(by decide : (0 : Int) ≤ 11), (by decide : (11 : Int) ≤ 2000)⟩
  · rw [if_neg hw]
    have hl := stuffed_bound (winF l) (!alone l)
    have hbe : beE l = 0 := by
      unfold rndE at h
      rw [if_neg (by simpa using hk)] at h; exact h
    unfold rnEnd
    split
    · rename_i f hf
      obtain ⟨h1, h2⟩ := fo_mem hf
      have := hok f h1
      simp only [cntB, Bool.and_eq_true, decide_eq_true_eq] at h2
      have h3 : f.bit < ((encV (winF l) (!alone l)).length : Int) - 1 := h2.2
      simp [rnSpoil]
      omega
    · split
      · simp [rnW, rn0, winL]
        have : f_ge (winF l) (!alone l) := encV_ge _ _ (by
          unfold beE at hbe
          rw [if_neg hw] at hbe
          exact first_chk hbe)
        unfold f_ge at this
        omega
      · split <;> simp [rnW, rn0, winL] <;> omega
section
variable {b nb : Nat} {ρ : Nat → Ro} {t : Int} {l : List Nd} {w : World}
theorem BusM.time {G : Nat → Nat} {V : Nat → Value} (h : BusM b nb ρ t l G V w) (t' : Int) : BusM b nb ρ t' l G V (w.setCell ⟨b, 1, none⟩ (.int .u64 t')) := by
  have kn : ∀ k, k ≠ b → (w.setCell ⟨b, 1, none⟩ (.int .u64 t')).heap[k]? = w.heap[k]? := fun k hk => Below.heap_setCell w _ _ k hk
  exact { h with
    hb := by have := h.hb; simp [World.setCell, Array.getElem?_modify, this]
    hn := fun i hi => range_kept (h.hn i hi) (kn nb h.b_n.symm)
    ht := there_kept h.ht (kn nb h.b_n.symm)
    hu := fun i hi => (kn _ (h.b_u hi).symm).trans (h.hu i hi)
    hg := fun i hi => own_at (h.hg i hi) fun g hg => kn g (fun e => h.b_g hi (by rw [hg, e]))
    rz := fun k hk => h.rz k (by simpa [World.setCell] using hk) }
theorem BusM.timeX {G : Nat → Nat} {V : Nat → Value} (h : BusM b nb ρ t l G V w) (t' : Int) : Ext ρ ρ w (w.setCell ⟨b, 1, none⟩ (.int .u64 t')) :=
  ⟨rfl, rfl, rfl, by simp [World.setCell], fun k hk hr => Below.heap_setCell w ⟨b, 1, none⟩ _ k (fun e => by rw [e, h.rb] at hr; cases hr), fun _ _ => rfl⟩
theorem idle_ok {l : List Nd} (h : NdsOk l) : NdsOk (idleL l) := by
  intro i hi
  have hi' : i < l.length := by simpa [idleL] using hi
  obtain ⟨h1, h2⟩ := h i hi'
  have e : (idleL l)[i] = idleN i l[i] := by simp [idleL]
  rw [e]
  unfold idleN
  split
  · exact ⟨Un.ok_idle 1 h1, h2⟩
  · exact ⟨h1, h2⟩
/-- What Step answers. -/
def StepRes (b nb : Nat) (ρ : Nat → Ro) (t : Int) (l : List Nd) (fl : List Fl) (w : World) (e : Ending) (w' : World) : Prop :=
  ∃ ρ', BusAt b nb ρ' (if stepE l fl = 0 then tAdd t (stepR l fl).bits else t) (stepL l fl) w' ∧ Ext ρ ρ' w w' ∧
  (stepE l fl ≠ 0 → e = .returned (.tuple #[.agg (rnZ.out nilV nilV), .int .i64 (stepE l fl)])) ∧
  (stepE l fl = 0 → ∃ ge gg, e = .returned (.tuple #[.agg ((stepR l fl).out (sl ge l.length) (sl gg l.length)), .int .i64 0]) ∧ Row w' ge ((stepR l fl).errs.map errV) ∧ Row w' gg ((stepR l fl).got.map Value.bool) ∧ w.heap.size ≤ ge ∧ w.heap.size ≤ gg ∧ ρ' ge = .no ∧ ρ' gg = .no ∧ (stepR l fl).errs.length = l.length ∧ (stepR l fl).got.length = l.length)
/-- What stands when the time has been added. -/
def StpP (b nb : Nat) (ρ : Nat → Ro) (t : Int) (l : List Nd) (w : World) (R : Rn) (ge gg : Nat) (vs : Value) (q : Nat) (W : World) : Prop :=
  BusAt b nb ρ t l W ∧ Ext ρ ρ w W ∧ Ru q R (sl ge l.length) (sl gg l.length) vs W ∧ Oa w.heap.size rnZ nilV nilV W ∧ Row W ge (R.errs.map errV) ∧ Row W gg (R.got.map Value.bool)
set_option maxHeartbeats 4000000 in
theorem Step_any (h : BusAt b nb ρ t l w) (hl : l.length ≤ 127) (hok : NdsOk l) (ht : 0 ≤ t ∧ t < 18446744073709551616) (vf : Value) (fl : List Fl) (hfl : fl.length ≤ maxLen) (hF : Flips w vf fl) :
    Calls Try.prog 16 #[.pointer (some ⟨b, 0, none⟩), vf] w fun e w' => StepRes b nb ρ t l fl w e w' := by
  have B1 : Below w.heap.size w (w.alloc (.cells (rnZ.out nilV nilV) 27)) := (Below.refl _ _).alloc (Nat.le_refl _) _
  have O1 := Oa.new w rnZ nilV nilV
  have h1 := h.below B1
  have hSen := senders_bus h1 hl
  have HZ : Hid (∀ k, w.heap.size ≤ k → ρ k = .no) := by obtain ⟨G, V, h0⟩ := h; exact h0.rz
  have HF1 : Hid _ := hF.below B1
  have HFr : Hid (∀ k, k < w.heap.size → ρ k = .no → True) := fun _ _ _ => trivial
  clear hF h
  go_enter Try.func16, Try.ntmps16
  go_wp2_with fail
  refine hSen.mono ?_
  rintro e w2 ⟨rfl, S2, B2⟩
  have h2 := h1.below B2
  have O2 := O1.below B2
  have B3 := B1.trans (B2.mono B1.size)
  have hRun := run_any _ vf (sends l) fl w2 (by rw [sends_len]; unfold maxLen; omega) hfl S2 (Flips.below HF1.out B2)
  clear hSen h1 S2 B1 HF1
  have s2 : w.heap.size < w2.heap.size := O2.lt
  have hvs : okV (sl ((w.alloc (.cells (rnZ.out nilV nilV) 27)).heap.size) l.length) := rfl
  generalize hsv : sl ((w.alloc (.cells (rnZ.out nilV nilV) 27)).heap.size) l.length = vs at *
  go_wp2_with fail
  refine hRun.mono ?_
  rintro e w3 ⟨q1, q2, B4⟩
  have h3 := h2.below B4
  have O3 := O2.below B4
  have B5 := B3.trans (B4.mono B3.size)
  have gn := Ru.new w3 rnZ nilV nilV nilV
  have hER : Hid (rndE (sends l) fl = stepE l fl) := rfl
  have hRR : Hid (rnd (sends l) fl = stepR l fl) := rfl
  rw [hER.out, hRR.out, sends_len] at q2
  rw [hER.out] at q1
  clear hRun h2 O1 B2 B3 hsv
  by_cases hz : stepE l fl = 0
  · obtain ⟨ge, gg, rfl, E3, G3, b1, b2, d3, le, lg⟩ := q2 hz
    have g3 := gn.row (stepR l fl) (sl ge l.length) (sl gg l.length) vs
    have bb : Below w3.heap.size w3 ((w3.alloc (.cells (rnZ.arr nilV nilV nilV) 67)).setRow w3.heap.size ((stepR l fl).arr (sl ge l.length) (sl gg l.length) vs)) := below_row ((Below.refl _ w3).alloc (Nat.le_refl _) _) (Nat.le_refl _) (by rw [size_alloc]; omega) _
    have O4 := O3.below bb
    have h4 := h3.below bb
    have E4 := E3.below bb
    have G4 := G3.below bb
    have B6 := B5.trans (bb.mono B5.size)
    obtain ⟨hb0, hb1⟩ := rnd_bits (show rndE (sends l) fl = 0 from hz)
    rw [hRR.out] at hb0 hb1
    have hwin := rnd_win (show rndE (sends l) fl = 0 from hz)
    rw [hRR.out, sends_len] at hwin
    have HRes : Hid (∀ ρ' x, BusAt b nb ρ' (tAdd t (stepR l fl).bits) ((setL4 (stepR l fl) (idleL l)).mapIdx dropN) x → Ext ρ ρ' w x → Row x ge ((stepR l fl).errs.map errV) → Row x gg ((stepR l fl).got.map Value.bool) → ρ' ge = .no → ρ' gg = .no → StepRes b nb ρ t l fl w (.returned (.tuple #[.agg ((stepR l fl).out (sl ge l.length) (sl gg l.length)), .int .i64 0])) x) := fun ρ' x p1 p2 p3 p4 p5 p6 => ⟨ρ', by rw [if_pos hz]; unfold stepL; rw [if_pos hz]; exact p1, p2, fun h => absurd hz h, fun _ => ⟨ge, gg, rfl, p3, p4, by omega, by omega, p5, p6, le, lg⟩⟩
    have hle0 : w.heap.size ≤ ge := by omega
    have hlg0 : w.heap.size ≤ gg := by omega
    have neq0 : ge ≠ w.heap.size := by omega
    have neq1 : gg ≠ w.heap.size := by omega
    have hIok := idle_ok hok
    generalize stepR l fl = R at *
    clear q1 q2 h3 O3 E3 G3 hER hRR hz
    obtain ⟨G, V, h4m⟩ := h4
    obtain ⟨c0, c1, hf⟩ := h4m.cells
    obtain ⟨r0, r1, r2, r3, r4, r5, r6, r7, rf⟩ := g3.cells
    have h5 : BusAt b nb ρ (tAdd t R.bits) l _ := ⟨G, V, (h4m.time (tAdd t R.bits)).below (below_drawn (Below.refl _ _) 1)⟩
    have X45 := (h4m.timeX (tAdd t R.bits)).trans (Ext.drawn (ρ := ρ) 1)
    have X5 := (Ext.below (ρ := ρ) B6).trans X45
    have z3 := HZ.out w3.heap.size (by have := B5.size; omega)
    have z0 := HZ.out w.heap.size (Nat.le_refl _)
    have ze := HZ.out ge hle0
    have zg := HZ.out gg hlg0
    have R5 := g3.kept (X45.keep _ g3.lt z3)
    have O5 := O4.kept (X45.keep _ O4.lt z0)
    have E5 := E4.kept (X45.keep _ E4.lt ze)
    have G5 := G4.kept (X45.keep _ G4.lt zg)
    have hs3 : w3.heap.size ≠ w.heap.size := by have := B4.size; omega
    unfold tAdd at h5 X45 X5 R5 O5 E5 G5
    have HP : Hid (StpP b nb ρ (IntKind.u64.wrap (t + R.bits)) l w R ge gg vs w3.heap.size _) := ⟨h5, X5, R5, O5, E5, G5⟩
    clear X45 X5 R5 O5 E5 G5 h5 h4m O4 E4 G4 B6 bb B4 B5 O2
    go_wp2_with (first | refine gn.sd R (sl ge l.length) (sl gg l.length) vs rfl rfl hvs rfl _ _ rfl rfl rfl ?_)
    try simp only [Act.put]
    go_cut [] from 19 to 29 (fun wx => StpP b nb ρ (IntKind.u64.wrap (t + R.bits)) l w R ge gg vs w3.heap.size wx)
    case first =>
      go_region
      all_goals
        go_wp2_with fail
        go_meet
        case rel => exact HP.out
    case rest =>
    obtain ⟨h5, X5, R5, O5, E5, G5⟩ := hcut
    clear HP c0 c1 hf r0 r1 r2 r3 r4 r5 r6 r7 rf g3 gn G V
    have HTA : Hid (tAdd t R.bits = IntKind.u64.wrap (t + R.bits)) := rfl
    rw [HTA.out] at HRes
    generalize IntKind.u64.wrap (t + R.bits) = t' at *
    have HK : Hid (∀ ρ' x, Ext ρ ρ' wc x → Ru w3.heap.size R (sl ge l.length) (sl gg l.length) vs x ∧ Oa w.heap.size rnZ nilV nilV x ∧ Row x ge (R.errs.map errV) ∧ Row x gg (R.got.map Value.bool) ∧ Ext ρ ρ' w x ∧ ρ' ge = .no ∧ ρ' gg = .no ∧ ρ' w.heap.size = .no) := fun ρ' x X => ⟨R5.kept (X.keep _ R5.lt z3), O5.kept (X.keep _ O5.lt z0), E5.kept (X.keep _ E5.lt ze), G5.kept (X.keep _ G5.lt zg), X5.trans X, (X.same _ E5.lt).trans ze, (X.same _ G5.lt).trans zg, (X.same _ O5.lt).trans z0⟩
    have hId := idle_bus h5 hl (fun i hi => (hok i hi).1)
    clear h5 R5 O5 E5 G5 X5
    go_wp2_with fail
    refine hId.mono ?_
    rintro e w6 ⟨rfl, h6, X6⟩
    obtain ⟨R6, O6, E6, G6, X6w, zz1, zz2, zz3⟩ := HK.out ρ w6 X6
    obtain ⟨r0, r1, r2, r3, r4, r5, r6, r7, rf⟩ := R6.cells
    have hlen : (idleL l).length = l.length := by simp [idleL]
    have HFin : Hid (∀ ρ' x, BusAt b nb ρ' t' ((setL4 R (idleL l)).mapIdx dropN) x → Ext ρ ρ' wc x → StepRes b nb ρ t l fl w (.returned (.tuple #[.agg (R.out (sl ge l.length) (sl gg l.length)), .int .i64 0])) (x.setRow w.heap.size (R.out (sl ge l.length) (sl gg l.length)))) := by
      intro ρ' x p1 X
      obtain ⟨_, Ox, Ex, Gx, Xw, y1, y2, y3⟩ := HK.out ρ' x X
      refine HRes.out ρ' _ ?_ ?_ (Ex.kept (setRow_other _ _ _ _ neq0)) (Gx.kept (setRow_other _ _ _ _ neq1)) y1 y2
      · exact p1.kept (by simp [World.setRow]) (fun k hk hr => setRow_other _ _ _ _ (fun e => hr (by rw [e]; exact y3)))
      · refine ⟨Xw.os, Xw.tape, Xw.output, by simpa [World.setRow] using Xw.size, fun k hk hr => (setRow_other _ _ _ _ (by omega)).trans (Xw.keep k hk hr), Xw.same⟩
    clear HRes hId
    rcases hwin with hw | ⟨wn, hwn, hw⟩
    · have hL : Hid (setL4 R (idleL l) = idleL l) := by show _ = _; unfold setL4; rw [if_pos hw]
      rw [hL.out] at HFin
      have hDr := dropOff_bus h6 (by rw [show (l.mapIdx idleN).length = l.length from hlen]; exact hl)
      rw [hw] at r0
      clear h6 hL E6 G6 R6 O6
      go_wp2_with fail
      refine hDr.mono ?_
      rintro e w7 ⟨rfl, h7, X7⟩
      have X67 := X6.trans X7
      obtain ⟨R7, O7, E7, G7, X7w, _, _, _⟩ := HK.out ρ w7 X67
      have O8 := O7.row R (sl ge l.length) (sl gg l.length)
      obtain ⟨d0, d1, d2, d3', d4⟩ := O8.cells
      have HF := HFin.out ρ w7 h7 X67
      clear hDr HFin HK r0 r1 r2 r3 r4 r5 r6 r7 rf
      go_wp2_with (first | refine R7.ldO rfl _ rfl rfl ?_ | refine O7.sd R (sl ge l.length) (sl gg l.length) rfl rfl rfl _ _ rfl rfl rfl ?_)
      exact bodyPost_ret (v := .tuple #[.agg (R.out (sl ge l.length) (sl gg l.length)), .int .i64 0]) (by simp [results, Try.results16, go_sem, d0, d1, d2, d3', d4]; rfl) rfl HF
    · have hwi : wn < (idleL l).length := by rw [hlen]; exact hwn
      have hL : Hid (setL4 R (idleL l) = (idleL l).mapIdx (setN R (idleL l)[wn].f)) := by
        show _ = _
        unfold setL4
        rw [if_neg (by rw [hw]; omega), hw, Int.toNat_natCast]
        unfold ndAt
        simp [hwi]
      rw [hL.out] at HFin
      have h6' : BusAt b nb ρ t' (idleL l) w6 := h6
      have hSe := settle_bus h6' (by rw [hlen]; exact hl) hIok R wn ge gg vs hvs hwi hw E6 G6 (by rw [le, hlen]) (by rw [lg, hlen]) zz1 zz2
      rw [hlen] at hSe
      have hne : (R.win != -1) = true := by rw [hw]; simp
      rw [hw] at r0 hne
      have hdl : ((idleL l).mapIdx (setN R (idleL l)[wn].f)).length ≤ 127 := by rw [List.length_mapIdx, hlen]; exact hl
      generalize (idleL l).mapIdx (setN R (idleL l)[wn].f) = L2 at *
      clear h6 h6' hL E6 G6 O6 hIok hwi hlen
      go_wp2_with (refine R6.ld rfl _ rfl rfl ?_)
      refine hSe.mono ?_
      rintro e w7 ⟨rfl, ρ7, h7, X7⟩
      have X67 := X6.trans X7
      have hDr := dropOff_bus h7 hdl
      clear hSe h7 X7 R6 r0 r1 r2 r3 r4 r5 r6 r7 rf
      go_wp2_with fail
      refine hDr.mono ?_
      rintro e w8 ⟨rfl, h8, X8⟩
      have X68 := X67.trans X8
      obtain ⟨R8, O8, E8, G8, X8w, _, _, _⟩ := HK.out ρ7 w8 X68
      have O9 := O8.row R (sl ge l.length) (sl gg l.length)
      obtain ⟨d0, d1, d2, d3', d4⟩ := O9.cells
      have HF := HFin.out ρ7 w8 h8 X68
      clear hDr HFin HK
      go_wp2_with (first | refine R8.ldO rfl _ rfl rfl ?_ | refine O8.sd R (sl ge l.length) (sl gg l.length) rfl rfl rfl _ _ rfl rfl rfl ?_)
      exact bodyPost_ret (v := .tuple #[.agg (R.out (sl ge l.length) (sl gg l.length)), .int .i64 0]) (by simp [results, Try.results16, go_sem, d0, d1, d2, d3', d4]; rfl) rfl HF
  · obtain rfl := q1 hz
    have g3 := gn.row rnZ nilV nilV nilV
    have bb : Below w3.heap.size w3 ((w3.alloc (.cells (rnZ.arr nilV nilV nilV) 67)).setRow w3.heap.size (rnZ.arr nilV nilV nilV)) := below_row ((Below.refl _ w3).alloc (Nat.le_refl _) _) (Nat.le_refl _) (by rw [size_alloc]; omega) _
    have O4 := O3.below bb
    have h4 := h3.below bb
    have B6 := B5.trans (bb.mono B5.size)
    have O5 := O4.row rnZ nilV nilV
    obtain ⟨d0, d1, d2, d3', d4⟩ := O5.cells
    have B7 := below_row B6 (q := w.heap.size) (Nat.le_refl _) (by have := O4.lt; omega) (rnZ.out nilV nilV)
    have hbu : BusAt b nb ρ t l (World.setRow ((w3.alloc (.cells (rnZ.arr nilV nilV nilV) 67)).setRow w3.heap.size (rnZ.arr nilV nilV nilV)) w.heap.size (rnZ.out nilV nilV)) := h4.kept (by simp [World.setRow]) (fun k hk hr => setRow_other _ _ _ _ (fun e => hr (HZ.out k (by omega))))
    have HRes : Hid (StepRes b nb ρ t l fl w (.returned (.tuple #[.agg (rnZ.out nilV nilV), .int .i64 (stepE l fl)])) _) := ⟨ρ, by rw [if_neg hz]; unfold stepL; rw [if_neg hz]; exact hbu, Ext.below B7, fun _ => rfl, fun h => absurd h hz⟩
    have hne : (stepE l fl != 0) = true := by simpa using hz
    generalize stepE l fl = se at *
    clear q1 q2 h3 O3 h4 hbu B5 B6 B7 bb B4
    go_wp2_with (first | refine gn.sd rnZ nilV nilV nilV rfl rfl rfl rfl _ _ rfl rfl rfl ?_ | refine O4.sd rnZ nilV nilV rfl rfl rfl _ _ rfl rfl rfl ?_)
    exact bodyPost_ret (v := .tuple #[.agg (rnZ.out nilV nilV), .int .i64 se]) (by simp [results, Try.results16, go_sem, d0, d1, d2, d3', d4]; rfl) rfl HRes.out
end
end Go.Proofs.Ytlghjfomliappaa
namespace Go.Proofs.Ytlghjfomliappaa
open Go.RowKit Go.Proofs.Bits
set_option linter.unusedVariables false
set_option maxRecDepth 1000000

def fldAt (l : List Se) (i : Nat) : List UInt8 := (seAt l i).f.field
theorem mem_who {l : List Se} {i : Nat} : i ∈ who l ↔ i < l.length ∧ sndAt l i = true := by
  unfold who whoK; rw [List.mem_filter, List.mem_range]
theorem who_nodup (l : List Se) : (who l).Nodup := List.Pairwise.filter _ List.nodup_range
theorem frs_eq (l : List Se) : frs l = (who l).map fun i => (seAt l i).f := rfl
theorem flds_frs (l : List Se) : flds (frs l) = (who l).map (fldAt l) := by
  rw [frs_eq]; unfold flds; rw [List.map_map]; rfl
theorem first_ok4 {fs : List Fr} (h : firstE fs = 0) : 0 < fs.length ∧ (∀ f ∈ fs, f.chk = 0) ∧ (flds fs).Nodup ∧ firstN fs = best (flds fs) fs.length := by
  have hN : firstN fs = best (flds fs) fs.length := by unfold firstN; rw [if_pos h]
  unfold firstE at h
  by_cases h0 : fs.length = 0
  · rw [if_pos h0] at h; simp at h
  · rw [if_neg h0] at h
    cases ha : allOk fs
    · rw [ha] at h; simp at h
    · rw [ha, if_pos rfl] at h
      by_cases hn : (flds fs).Nodup
      · refine ⟨by omega, fun f hf => ?_, hn, hN⟩
        unfold allOk at ha
        rw [List.all_eq_true] at ha
        simpa using ha f hf
      · rw [if_neg hn] at h; simp at h
structure Good (l : List Se) : Prop where
  some : ∃ i, i < l.length ∧ sndAt l i = true
  chk : ∀ i, i < l.length → sndAt l i = true → (seAt l i).f.chk = 0
  inj : ∀ i j, i < l.length → j < l.length → sndAt l i = true → sndAt l j = true → fldAt l i = fldAt l j → i = j
theorem good_of {l : List Se} (h : firstE (frs l) = 0) : Good l := by
  obtain ⟨h0, h1, h2, h3⟩ := first_ok4 h
  rw [flds_frs] at h2
  refine ⟨?_, fun i hi hs => h1 _ (by rw [frs_eq]; exact List.mem_map.2 ⟨i, mem_who.2 ⟨hi, hs⟩, rfl⟩), fun i j hi hj si sj e => ?_⟩
  · rw [frs_eq, List.length_map] at h0
    obtain ⟨i, hi⟩ := List.exists_mem_of_length_pos h0
    exact ⟨i, mem_who.1 hi⟩
  · obtain ⟨a, ha, ea⟩ := List.getElem_of_mem (mem_who.2 ⟨hi, si⟩)
    obtain ⟨c, hc, ec⟩ := List.getElem_of_mem (mem_who.2 ⟨hj, sj⟩)
    have hac : a = c := by
      refine (List.getElem_inj (h₀ := by simpa using ha) (h₁ := by simpa using hc) h2).1 ?_
      simp [ea, ec, e]
    subst hac
    rw [← ea, ec]
theorem good_first {l : List Se} (h : Good l) : who l ≠ [] ∧ firstE (frs l) = 0 := by
  obtain ⟨i, hi, si⟩ := h.some
  have hm := mem_who.2 ⟨hi, si⟩
  have hne : who l ≠ [] := List.ne_nil_of_mem hm
  refine ⟨hne, ?_⟩
  have hlen : ¬ (frs l).length = 0 := by rw [frs_eq, List.length_map]; intro e; exact hne (List.length_eq_zero_iff.1 e)
  have hok : allOk (frs l) = true := by
    unfold allOk
    rw [List.all_eq_true]
    intro f hf
    rw [frs_eq] at hf
    obtain ⟨j, hj, rfl⟩ := List.mem_map.1 hf
    obtain ⟨h1, h2⟩ := mem_who.1 hj
    simpa using h.chk j h1 h2
  have hnd : (flds (frs l)).Nodup := by
    rw [flds_frs]
    refine List.pairwise_map.2 ((who_nodup l).imp_of_mem fun {a b} ha hb hab e => hab ?_)
    obtain ⟨h1, h2⟩ := mem_who.1 ha
    obtain ⟨h3, h4⟩ := mem_who.1 hb
    exact h.inj a b h1 h3 h2 h4 e
  unfold firstE
  rw [if_neg hlen, hok, if_pos rfl, if_pos hnd]
theorem win_least {l : List Se} (h : firstE (frs l) = 0) : winN l < l.length ∧ sndAt l (winN l) = true ∧ ∀ j, j < l.length → sndAt l j = true → fldAt l (winN l) ≤ fldAt l j := by
  obtain ⟨h0, h1, h2, h3⟩ := first_ok4 h
  have hs := first_small h
  have hk2 : firstN (frs l) < (who l).length := (frsK_length l l.length) ▸ hs
  have hw : winN l = (who l)[firstN (frs l)] := by unfold winN; simp [hk2]
  have hm : winN l ∈ who l := by rw [hw]; exact List.getElem_mem hk2
  obtain ⟨m1, m2⟩ := mem_who.1 hm
  refine ⟨m1, m2, fun j hj sj => ?_⟩
  obtain ⟨a, ha, ea⟩ := List.getElem_of_mem (mem_who.2 ⟨hj, sj⟩)
  have hl2 : (frs l).length = (who l).length := frsK_length l l.length
  have := best_least (flds (frs l)) (frs l).length a (by omega)
  rw [← h3, flds_frs] at this
  simpa [hk2, ha, ea, ← hw] using this
theorem win_unique {l : List Se} (h : firstE (frs l) = 0) {k : Nat} (hk : k < l.length) (sk : sndAt l k = true) (hl : ∀ j, j < l.length → sndAt l j = true → fldAt l k ≤ fldAt l j) : winN l = k := by
  obtain ⟨h1, h2, h3⟩ := win_least h
  exact (good_of h).inj _ _ h1 hk h2 sk (Std.le_antisymm (h3 k hk sk) (hl _ h1 h2))
theorem fo_none {l : List Se} {n : Nat} {fl : List Fl} : fo l n fl = none ↔ ∀ f ∈ fl, cntB l n f = false := by
  have key : ∀ (xs : List Fl) (acc : Option Fl), xs.foldl (fo1 l n) acc = none ↔ acc = none ∧ ∀ f ∈ xs, cntB l n f = false := by
    intro xs
    induction xs with
    | nil => intro acc; simp
    | cons x xs ih =>
      intro acc
      rw [List.foldl_cons, ih]
      cases hc : cntB l n x
      · rw [fo1_no hc]; simp [hc]
      · have : fo1 l n acc x ≠ none := by
          cases acc with
          | none => rw [fo1_new hc]; simp
          | some g => rw [fo1_old hc]; split <;> simp
        simp [this, hc]
  unfold fo foK
  rw [List.take_length, key]
  simp
theorem fo_some {l : List Se} {n : Nat} {fl : List Fl} {f : Fl} (h : fo l n fl = some f) : f ∈ fl ∧ cntB l n f = true ∧ ∀ g ∈ fl, cntB l n g = true → f.bit ≤ g.bit := by
  obtain ⟨h1, h2⟩ := fo_mem h
  refine ⟨h1, h2, ?_⟩
  have key : ∀ (xs : List Fl) (acc : Option Fl), xs.foldl (fo1 l n) acc = some f → (∀ g, acc = some g → f.bit ≤ g.bit) ∧ ∀ g ∈ xs, cntB l n g = true → f.bit ≤ g.bit := by
    intro xs
    induction xs with
    | nil => intro acc h; exact ⟨fun g hg => by simp at h; rw [h] at hg; cases hg; exact Int.le_refl _, by simp⟩
    | cons x xs ih =>
      intro acc h
      rw [List.foldl_cons] at h
      obtain ⟨i1, i2⟩ := ih _ h
      cases hc : cntB l n x
      · rw [fo1_no hc] at i1
        refine ⟨i1, fun g hg hcg => ?_⟩
        rcases List.mem_cons.1 hg with rfl | hg
        · rw [hc] at hcg; cases hcg
        · exact i2 g hg hcg
      · cases acc with
        | none =>
          rw [fo1_new hc] at i1
          refine ⟨fun g hg => (by cases hg), fun g hg hcg => ?_⟩
          rcases List.mem_cons.1 hg with rfl | hg
          · exact i1 _ rfl
          · exact i2 g hg hcg
        | some a =>
          rw [fo1_old hc] at i1
          have hb : f.bit ≤ a.bit ∧ f.bit ≤ x.bit := by
            cases hbf : befB x a
            · rw [hbf] at i1
              have := i1 a rfl
              unfold befB at hbf
              simp at hbf
              omega
            · rw [hbf] at i1
              have := i1 x rfl
              unfold befB at hbf
              simp at hbf
              omega
          refine ⟨fun g hg => (by cases hg; exact hb.1), fun g hg hcg => ?_⟩
          rcases List.mem_cons.1 hg with rfl | hg
          · exact hb.2
          · exact i2 g hg hcg
  have hh : fl.foldl (fo1 l n) none = some f := by
    have := h; unfold fo foK at this; rw [List.take_length] at this; exact this
  exact (key fl none hh).2
end Go.Proofs.Ytlghjfomliappaa
namespace Go.Proofs.Ytlghjfomliappaa
open Go.RowKit Go.Proofs.Bits
set_option linter.unusedVariables false
set_option maxRecDepth 1000000

def flipT (n : Nat) (f : Fl) : Fl := if h : 0 ≤ f.nd ∧ f.nd < n ∧ n ≤ 127 then ⟨(n : Int) - 1 - f.nd, f.bit, by omega, f.hb⟩ else f
theorem flipT_nd {n : Nat} {f : Fl} (h : 0 ≤ f.nd ∧ f.nd < n ∧ n ≤ 127) : (flipT n f).nd = (n : Int) - 1 - f.nd := by unfold flipT; rw [dif_pos h]
theorem flipT_bit (n : Nat) (f : Fl) : (flipT n f).bit = f.bit := by unfold flipT; split <;> rfl
theorem rndE_zero {l : List Se} {fl : List Fl} : rndE l fl = 0 ↔ lookV l.length fl = 0 ∧ (who l = [] ∨ firstE (frs l) = 0) := by
  unfold rndE
  by_cases h0 : lookV l.length fl = 0
  · rw [if_neg (by simpa using h0)]
    by_cases hw : who l = []
    · simp [h0, hw]
    · rw [if_neg hw]; simp [h0, hw]
  · rw [if_pos h0]; simp [h0]
theorem look_of {n : Nat} {fl : List Fl} (h1 : n ≤ 127) (h2 : fl.length ≤ 65536) (h3 : ∀ f ∈ fl, 0 ≤ f.nd ∧ f.nd < n ∧ 0 ≤ f.bit) : lookV n fl = 0 := by
  unfold lookV
  rw [if_neg (by omega), if_neg (by omega), if_neg]
  simp only [List.any_eq_true, not_exists, not_and]
  intro f hf
  have := h3 f hf
  unfold wrongB
  simp
  omega
theorem upK_eq (l : List Se) (k : Nat) (hk : k ≤ l.length) : upK l k = (l.take k).countP (·.up) := by
  induction k with
  | zero => simp [upK]
  | succ k ih =>
    rw [upK_succ, ih (by omega), List.take_succ_eq_append_getElem (by omega), List.countP_append]
    unfold upAt
    rw [seAt_eq (by omega)]
    cases hu : l[k].up <;> simp [hu]
theorem upN_eq (l : List Se) : upN l = l.countP (·.up) := by
  unfold upN; rw [upK_eq l l.length (Nat.le_refl _), List.take_length]
theorem alone_rev (l : List Se) : alone l.reverse = alone l := by
  unfold alone; rw [upN_eq, upN_eq, List.countP_reverse]
theorem seAt_rev (l : List Se) (i : Nat) (h : i < l.length) : seAt l.reverse i = seAt l (l.length - 1 - i) := by
  rw [seAt_eq (by simpa using h), seAt_eq (by omega), List.getElem_reverse]
theorem snd_rev (l : List Se) (i : Nat) (h : i < l.length) : sndAt l.reverse i = sndAt l (l.length - 1 - i) := by unfold sndAt; rw [seAt_rev l i h]
theorem up_rev (l : List Se) (i : Nat) (h : i < l.length) : upAt l.reverse i = upAt l (l.length - 1 - i) := by unfold upAt; rw [seAt_rev l i h]
theorem fld_rev (l : List Se) (i : Nat) (h : i < l.length) : fldAt l.reverse i = fldAt l (l.length - 1 - i) := by unfold fldAt; rw [seAt_rev l i h]
theorem who_rev {l : List Se} : who l.reverse = [] ↔ who l = [] := by
  constructor
  · intro h
    refine List.eq_nil_iff_forall_not_mem.2 fun i hi => ?_
    obtain ⟨h1, h2⟩ := mem_who.1 hi
    have : l.length - 1 - i ∈ who l.reverse := mem_who.2 ⟨by rw [List.length_reverse]; omega, by rw [snd_rev l _ (by omega), show l.length - 1 - (l.length - 1 - i) = i by omega]; exact h2⟩
    rw [h] at this; cases this
  · intro h
    refine List.eq_nil_iff_forall_not_mem.2 fun i hi => ?_
    obtain ⟨h1, h2⟩ := mem_who.1 hi
    rw [List.length_reverse] at h1
    have : l.length - 1 - i ∈ who l := mem_who.2 ⟨by omega, by rw [← snd_rev l i h1]; exact h2⟩
    rw [h] at this; cases this
theorem good_rev {l : List Se} (h : Good l) : Good l.reverse := by
  refine ⟨?_, fun i hi si => ?_, fun i j hi hj si sj e => ?_⟩
  · obtain ⟨i, hi, si⟩ := h.some
    exact ⟨l.length - 1 - i, by rw [List.length_reverse]; omega, by rw [snd_rev l _ (by omega), show l.length - 1 - (l.length - 1 - i) = i by omega]; exact si⟩
  · rw [List.length_reverse] at hi
    rw [seAt_rev l i hi]
    exact h.chk _ (by omega) (by rw [← snd_rev l i hi]; exact si)
  · rw [List.length_reverse] at hi hj
    rw [fld_rev l i hi, fld_rev l j hj] at e
    have := h.inj _ _ (by omega) (by omega) (by rw [← snd_rev l i hi]; exact si) (by rw [← snd_rev l j hj]; exact sj) e
    omega
theorem win_rev {l : List Se} (h : firstE (frs l) = 0) : winN l.reverse = l.length - 1 - winN l ∧ winF l.reverse = winF l ∧ winL l.reverse = winL l := by
  obtain ⟨h1, h2, h3⟩ := win_least h
  have hr := (good_first (good_rev (good_of h))).2
  have e : winN l.reverse = l.length - 1 - winN l := by
    refine win_unique hr (by rw [List.length_reverse]; omega) ?_ ?_
    · rw [snd_rev l _ (by omega), show l.length - 1 - (l.length - 1 - winN l) = winN l by omega]; exact h2
    · intro j hj sj
      rw [List.length_reverse] at hj
      rw [fld_rev l _ (by omega), show l.length - 1 - (l.length - 1 - winN l) = winN l by omega, fld_rev l j hj]
      exact h3 _ (by omega) (by rw [← snd_rev l j hj]; exact sj)
  have ef : winF l.reverse = winF l := by
    unfold winF
    rw [e, seAt_rev l _ (by omega), show l.length - 1 - (l.length - 1 - winN l) = winN l by omega]
  exact ⟨e, ef, by unfold winL; rw [ef, alone_rev]⟩
theorem cnt_rev {l : List Se} {n : Nat} {f : Fl} (h0 : 0 ≤ f.nd) (h1 : f.nd < l.length) (h2 : l.length ≤ 127) : cntB l.reverse n (flipT l.length f) = cntB l n f := by
  unfold cntB
  rw [flipT_nd ⟨h0, h1, h2⟩, flipT_bit, up_rev l _ (by omega)]
  congr 2
  omega
theorem hear_rev (l : List Se) (wn : Nat) (h : wn < l.length) : hearK l.reverse (l.length - 1 - wn) l.length = (hearK l wn l.length).reverse := by
  unfold hearK
  apply List.ext_getElem
  · simp
  · intro i h1 h2
    simp at h1
    simp only [List.length_reverse, List.getElem_map, List.getElem_range, List.getElem_reverse, List.length_map, List.length_range]
    rw [up_rev l i h1]
    have e1 : decide (i < l.length) = true := by simpa using h1
    have e2 : decide (l.length - 1 - i < l.length) = true := by simp; omega
    rw [e1, e2]
    congr 2
    simp; omega
theorem any_congr4 {p q : Fl → Bool} {fl : List Fl} (h : ∀ f ∈ fl, p f = q f) : fl.any p = fl.any q := by
  induction fl with
  | nil => rfl
  | cons x r ih => rw [List.any_cons, List.any_cons, h x (by simp), ih fun f hf => h f (List.mem_cons_of_mem _ hf)]
/-- What becomes of the round. -/
theorem turned_rnd {l : List Se} {fl : List Fl} (h : rndE l fl = 0) :
    rndE l.reverse (fl.map (flipT l.length)) = 0 ∧ (rnd l.reverse (fl.map (flipT l.length))).bits = (rnd l fl).bits ∧ (rnd l.reverse (fl.map (flipT l.length))).sent = (rnd l fl).sent ∧
    (((rnd l fl).win = -1 ∧ (rnd l.reverse (fl.map (flipT l.length))).win = -1) ∨ ∃ wn : Nat, wn < l.length ∧ (rnd l fl).win = wn ∧ (rnd l.reverse (fl.map (flipT l.length))).win = ((l.length - 1 - wn : Nat) : Int)) ∧
    (rnd l.reverse (fl.map (flipT l.length))).got = (rnd l fl).got.reverse := by
  obtain ⟨hk, hw⟩ := rndE_zero.1 h
  obtain ⟨k1, k2, k3⟩ := look_ok hk
  have hl : lookV l.reverse.length (fl.map (flipT l.length)) = 0 := by
    rw [List.length_reverse]
    refine look_of k1 (by simpa using k2) fun f hf => ?_
    obtain ⟨g, hg, rfl⟩ := List.mem_map.1 hf
    obtain ⟨g1, g2, g3⟩ := k3 g hg
    rw [flipT_nd ⟨g1, g2, k1⟩, flipT_bit]
    omega
  by_cases hwo : who l = []
  · refine ⟨rndE_zero.2 ⟨hl, .inl (who_rev.2 hwo)⟩, ?_⟩
    unfold rnd
    rw [if_pos hwo, if_pos (who_rev.2 hwo)]
    refine ⟨rfl, rfl, .inl ⟨rfl, rfl⟩, ?_⟩
    simp [rnN, rn0]
  · have hf : firstE (frs l) = 0 := by rcases hw with hw | hw; exact absurd hw hwo; exact hw
    obtain ⟨w1, w2, w3⟩ := win_rev hf
    obtain ⟨m1, m2, m3⟩ := win_least hf
    have hwr : ¬ who l.reverse = [] := fun e => hwo (who_rev.1 e)
    refine ⟨rndE_zero.2 ⟨hl, .inr (good_first (good_rev (good_of hf))).2⟩, ?_⟩
    unfold rnd
    rw [if_neg hwo, if_neg hwr, w1]
    have el : (rnW l.reverse).len = (rnW l).len := w3
    have hcn : ∀ f ∈ fl, cntB l.reverse (rnW l).len (flipT l.length f) = cntB l (rnW l).len f := fun f hf => cnt_rev (k3 f hf).1 (k3 f hf).2.1 k1
    unfold rnEnd
    rw [el, alone_rev]
    cases ho : fo l (rnW l).len fl with
    | none =>
      have hn : fo l.reverse (rnW l).len (fl.map (flipT l.length)) = none := by
        rw [fo_none] at ho ⊢
        intro f hf
        obtain ⟨g, hg, rfl⟩ := List.mem_map.1 hf
        rw [hcn g hg]; exact ho g hg
      rw [hn]
      have hlast : (fl.map (flipT l.length)).any (lastB (l.length - 1 - winN l) (rnW l).len) = fl.any (lastB (winN l) (rnW l).len) := by
        rw [List.any_map]
        refine any_congr4 fun f hf => ?_
        obtain ⟨g1, g2, g3⟩ := k3 f hf
        unfold lastB
        simp only [Function.comp]
        rw [flipT_nd ⟨g1, g2, k1⟩, flipT_bit]
        congr 1
        rw [Bool.eq_iff_iff]; simp only [decide_eq_true_eq]; omega
      rw [hlast]
      simp only
      split
      · exact ⟨rfl, rfl, .inr ⟨winN l, m1, rfl, by simp [rnW, rn0, w1]⟩, by simp [rnW, rn0]⟩
      · split
        · exact ⟨rfl, rfl, .inr ⟨winN l, m1, rfl, by simp [rnW, rn0, w1]⟩, by simp only [List.length_reverse]; exact hear_rev l _ m1⟩
        · exact ⟨rfl, rfl, .inr ⟨winN l, m1, rfl, by simp [rnW, rn0, w1]⟩, by simp only [List.length_reverse]; exact hear_rev l _ m1⟩
    | some f =>
      obtain ⟨s1, s2, s3⟩ := fo_some ho
      cases hn : fo l.reverse (rnW l).len (fl.map (flipT l.length)) with
      | none =>
        rw [fo_none] at hn
        have := hn _ (List.mem_map.2 ⟨f, s1, rfl⟩)
        rw [hcn f s1, s2] at this; cases this
      | some g =>
        obtain ⟨t1, t2, t3⟩ := fo_some hn
        obtain ⟨g', hg', rfl⟩ := List.mem_map.1 t1
        rw [hcn g' hg'] at t2
        have e1 := s3 g' hg' t2
        have e2 := t3 (flipT l.length f) (List.mem_map.2 ⟨f, s1, rfl⟩) (by rw [hcn f s1]; exact s2)
        rw [flipT_bit, flipT_bit] at e2
        simp only [rnSpoil]
        refine ⟨by rw [flipT_bit]; omega, rfl, .inr ⟨winN l, m1, rfl, by simp [rnW, rn0, w1]⟩, by simp [rnW, rn0]⟩
end Go.Proofs.Ytlghjfomliappaa
