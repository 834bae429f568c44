/- A filter as a closure. Filters as closures; New and Passes with filters. A slice of filters that came in, opened. A slice of frames that came in, opened. Pop of the mailboxes. The heap's down. The heap's Pop; Done. Send of a bad frame, and of one too many. -/
import Derived.Test.YtfddoindcmdooaaUc2
import Derived.Test.YtfddoindcmdooaaOpenF
import Derived.Test.YtfddoindcmdooaaFst2
namespace Go.Proofs.Ytfddoindcmdooaa
open Go.RowKit Go.Proofs.Bits
set_option linter.unusedVariables false
set_option maxRecDepth 1000000
set_option linter.unusedSimpArgs false

structure Fi where
  id : Nat
  mask : Nat
  ext : Bool
  hid : id < 4294967296
  hmask : mask < 4294967296
def Fi.cells (x : Fi) : List Value := [.int .u32 x.id, .int .u32 x.mask, .bool x.ext]
def Fi.arr (x : Fi) : Array Value := #[.int .u32 x.id, .int .u32 x.mask, .bool x.ext]
/-- A filter in a block of its own. -/
def Xa (g : Nat) (x : Fi) (w : World) : Prop := w.heap[g]? = some (.cells x.arr 60 (0, 0))
theorem Xa.lt {g : Nat} {x : Fi} {w : World} (h : Xa g x w) : g < w.heap.size := (Array.getElem?_eq_some_iff.1 h).1
theorem Xa.below {g : Nat} {x : Fi} {w w' : World} (h : Xa g x w) (hb : Below w.heap.size w w') : Xa g x w' := (hb.block g h.lt).trans h
theorem Xa.cells {g : Nat} {x : Fi} {w : World} (h : Xa g x w) : w.cell? ⟨g, 0, none⟩ = some (.int .u32 x.id) ∧ w.cell? ⟨g, 1, none⟩ = some (.int .u32 x.mask) ∧ w.cell? ⟨g, 2, none⟩ = some (.bool x.ext) :=
  ⟨Lib.cell_of_heap h 0, Lib.cell_of_heap h 1, Lib.cell_of_heap h 2⟩
/-- Whether a filter lets a frame pass, as its closure reckons it. -/
def fiB (x : Fi) (f : Fr) : Bool := (f.ext == x.ext) && (bits .and .u32 (bits .xor .u32 f.id x.id) x.mask == 0)
theorem enterC : ∀ args x, (callFunc 40 args).run Try.prog x = .ok (.enter 40 args) x := fun _ _ => by rfl
theorem enterS : ∀ args x, (callFunc 38 args).run Try.prog x = .ok (.enter 38 args) x := fun _ _ => by rfl
theorem hmf5 : ∀ (fn : Fn) (first cap : Array Value) (w : World), (Instr.makeFunc fn first cap).run Try.prog w = .ok (.func fn first cap) w := fun _ _ _ _ => rfl
set_option maxHeartbeats 1000000 in
theorem clo_any {g : Nat} {x : Fi} {w : World} (f : Fr) (hX : Xa g x w) : Calls Try.prog 40 #[.agg f.arr, .pointer (some ⟨g, 0, none⟩)] w fun e w' => e = .returned (.bool (fiB x f)) ∧ Below w.heap.size w w' := by
  obtain ⟨wa, hwa⟩ : ∃ wa, w.alloc (.cells f.arr 45) = wa := ⟨_, rfl⟩
  have ba : Below w.heap.size w wa := by rw [← hwa]; exact (Below.refl _ _).alloc (Nat.le_refl _) _
  have fa : Fa w.heap.size f wa := by rw [← hwa]; exact Fa.new w f
  obtain ⟨x0, x1, x2⟩ := (hX.below ba).cells
  obtain ⟨q, hq⟩ : ∃ q, w.heap.size = q := ⟨_, rfl⟩
  rw [hq] at fa
  have f0 : wa.cell? ⟨q, 0, none⟩ = some (.int .u32 f.id) := (Lib.cell_of_heap fa 0).trans rfl
  have f1 : wa.cell? ⟨q, 1, none⟩ = some (.bool f.ext) := (Lib.cell_of_heap fa 1).trans rfl
  have HV : Hid (fiB x f = ((f.ext == x.ext) && (bits .and .u32 (bits .xor .u32 f.id x.id) x.mask == 0))) := rfl
  generalize fiB x f = V at *
  generalize f.ext = fe at *
  generalize x.ext = xe at *
  have HB : Hid (Below w.heap.size w wa) := ba
  clear ba fa hX
  cases he : (fe == xe)
  · have HE : Hid (V = false) := by show _ = _; rw [HV.out, he]; rfl
    clear HV
    go_enter Try.func40, Try.ntmps40
    go_wp2
    go_ret
    exact ⟨ret_bool HE.out.symm, HB.out⟩
  · have HE : Hid (V = (bits .and .u32 (bits .xor .u32 f.id x.id) x.mask == 0)) := by show _ = _; rw [HV.out, he]; simp
    clear HV
    go_enter Try.func40, Try.ntmps40
    go_wp2
    go_ret
    exact ⟨ret_bool HE.out.symm, HB.out⟩
def cloV (g : Nat) : Value := .func (.func 40) #[] #[.pointer (some ⟨g, 0, none⟩)]
/-- Closures of filters, and their blocks. -/
def FiS (w : World) (v : Value) (gs : List Nat) (l : List Fi) : Prop := gs.length = l.length ∧ Slots w v (gs.map cloV) ∧ ∀ k (h1 : k < gs.length) (h2 : k < l.length), Xa gs[k] l[k] w
theorem FiS.below {w w' : World} {v : Value} {gs : List Nat} {l : List Fi} (h : FiS w v gs l) (hb : Below w.heap.size w w') : FiS w' v gs l := ⟨h.1, h.2.1.below hb, fun k h1 h2 => (h.2.2 k h1 h2).below hb⟩
set_option maxHeartbeats 1000000 in
theorem pas1_any {g p : Nat} {x : Fi} {w : World} (f : Fr) (hX : Xa g x w) (hF : Fa p f w) : Calls Try.prog 38 #[cloV g, .pointer (some ⟨p, 0, none⟩)] w fun e w' => e = .returned (.bool (fiB x f)) ∧ Below w.heap.size w w' := by
  have hC := clo_any f hX
  have hen := enterC
  unfold cloV
  generalize fiB x f = V at *
  go_enter Try.func38, Try.ntmps38
  go_wp2_with (refine hF.ld rfl _ rfl rfl ?_)
  refine hC.mono ?_
  rintro e w2 ⟨rfl, b2⟩
  go_wp2
  go_ret
  exact ⟨rfl, b2⟩
set_option maxHeartbeats 1000000 in
theorem IFf_any {p : Nat} {v : Value} {gs : List Nat} {l : List Fi} {w : World} (f : Fr) (hl : l.length ≤ 32) (hS : FiS w v gs l) (hF : Fa p f w) :
    Calls Try.prog 51 #[v, .func (.func 38) #[] #[.pointer (some ⟨p, 0, none⟩)]] w fun e w' => (∃ z : Int, e = .returned (.int .i64 z) ∧ (0 ≤ z ↔ l.any (fiB · f) = true) ∧ -1 ≤ z ∧ z ≤ 32) ∧ Below w.heap.size w w' := by
  have HS : Hid (FiS w v gs l) := hS
  obtain ⟨hgl, hSl, _⟩ := hS
  obtain ⟨ao, cp, hv, HC0⟩ := hSl.map
  have HC : Hid (∀ (wr : World), Below w.heap.size w wr → ∀ k (h : k < gs.length), ∃ b off, ao = some ⟨b, off, none⟩ ∧ wr.cell? ⟨b, off + k, none⟩ = some (cloV gs[k])) := HC0
  have HP : Hid (∀ k (hk : k < l.length) (hg : k < gs.length), ∀ x, Below w.heap.size w x → Calls Try.prog 38 #[cloV gs[k], .pointer (some ⟨p, 0, none⟩)] x fun e y => e = .returned (.bool (fiB l[k] f)) ∧ Below x.heap.size x y) := fun k hk hg x hx => pas1_any f ((HS.out.below hx).2.2 k hg hk) (hF.below5 hx)
  have hen := enterS
  subst hv
  have hgl2 : Hid (gs.length = l.length) := hgl
  rw [hgl]
  clear hgl
  clear HC0 hSl HS hF
  go_enter Try.func51, Try.ntmps51
  go_wp2
  go_loopw [8] (fun i x => ∃ k : Nat, k ≤ l.length ∧ i = .int .i64 k ∧ (∀ j (hj : j < l.length), j < k → fiB l[j] f = false) ∧ Below w.heap.size w x) (fun i _ => l.length - (intOf i).toNat)
  case atStart => exact ⟨0, Nat.zero_le _, rfl, fun j _ h => by omega, Below.refl _ _⟩
  case round =>
    obtain ⟨k, hk, rfl, H1, B1⟩ := hrel
    by_cases hkl : k < l.length
    · have hkg : k < gs.length := by rw [hgl2.out]; exact hkl
      obtain ⟨b, off, rfl, hc⟩ := HC.out wr B1 k hkg
      have hF := HP.out k hkl hkg wr B1
      have HT : Hid (fiB l[k] f = true → l.any (fiB · f) = true) := fun h => List.any_eq_true.2 ⟨l[k], List.getElem_mem hkl, h⟩
      have HJ : Hid (∀ j (hj : j < l.length), j < k + 1 → fiB l[k] f = false → fiB l[j] f = false) := by
        intro j hj h1 h2
        rcases Nat.lt_or_ge j k with h3 | h3
        · exact H1 j hj h3
        · have : j = k := by omega
          subst this; exact h2
      have HTT : Hid (l.any (fiB · f) = true ↔ l.any (fiB · f) = true) := Iff.rfl
      generalize hbv : fiB l[k] f = bv at *
      unfold cloV at hc hF
      clear HC HP H1 hbv
      go_wp2_with fail
      refine hF.mono ?_
      rintro e w4 ⟨rfl, B4⟩
      have B5 := B1.trans (B4.mono B1.size)
      clear hF B1 B4 hc
      cases bv
      · have HJ2 : Hid (∀ j (hj : j < l.length), j < k + 1 → fiB l[j] f = false) := fun j hj h1 => HJ.out j hj h1 rfl
        clear HJ HT
        go_wp2
        go_roundw
        case rel => exact ⟨k + 1, by omega, by go_num, HJ2.out, B5⟩
        case measure => simp [intOf]; omega
      · have HA : Hid (l.any (fiB · f) = true) := HT.out rfl
        clear HJ HT
        go_wp2
        go_ret
        exact ⟨⟨k, rfl, by simp [HA.out], by omega, by omega⟩, B5⟩
    · have HA : Hid (l.any (fiB · f) = false) := by
        show _ = _
        rw [List.any_eq_false]
        intro y hy
        obtain ⟨j, hj, rfl⟩ := List.getElem_of_mem hy
        simp [H1 j hj (by omega)]
      clear HC HP H1
      go_wp2
      go_ret
      exact ⟨⟨-1, rfl, by simp [HA.out], by omega, by omega⟩, B1⟩
set_option maxHeartbeats 1000000 in
theorem CFf_any {p : Nat} {v : Value} {gs : List Nat} {l : List Fi} {w : World} (f : Fr) (hl : l.length ≤ 32) (hS : FiS w v gs l) (hF : Fa p f w) :
    Calls Try.prog 37 #[v, .func (.func 38) #[] #[.pointer (some ⟨p, 0, none⟩)]] w fun e w' => e = .returned (.bool (l.any (fiB · f))) ∧ Below w.heap.size w w' := by
  have HI := IFf_any f hl hS hF
  generalize l.any (fiB · f) = A at *
  clear hl hS hF
  go_enter Try.func37, Try.ntmps37
  go_wp2_with fail
  refine HI.mono ?_
  rintro e w4 ⟨⟨z, rfl, hz, h1, h2⟩, B4⟩
  cases A
  · have hd : decide (0 ≤ z) = false := by simp at hz; simp; omega
    go_wp2
    go_ret
    exact ⟨rfl, B4⟩
  · have hd : decide (0 ≤ z) = true := by simp at hz; simpa using hz
    go_wp2
    go_ret
    exact ⟨rfl, B4⟩
end Go.Proofs.Ytfddoindcmdooaa
namespace Go.Proofs.Ytfddoindcmdooaa
open Go.RowKit Go.Proofs.Bits
set_option linter.unusedVariables false
set_option maxRecDepth 1000000
set_option linter.unusedSimpArgs false

def FiIn (w : World) (v : Value) (l : List Fi) : Prop := Wide 3 Fi.cells w v l
theorem FiIn.below {w w' : World} {v : Value} {l : List Fi} (h : FiIn w v l) (hb : Below w.heap.size w w') : FiIn w' v l := by
  obtain ⟨ao, cap, hv, h0, hc⟩ := h
  refine ⟨ao, cap, hv, h0, fun k hk => ?_⟩
  obtain ⟨b, off, ha, hlt, hR⟩ := hc k hk
  exact ⟨b, off, ha, Nat.lt_of_lt_of_le hlt hb.size, fun j u hj => (hb.cell (p := ⟨b, off + k * 3 + j, none⟩) hlt).trans (hR j u hj)⟩
theorem infoFi : (Try.prog.info? 60).map (·.size) = some 3 := by kernel_rfl
theorem fi_ld {w : World} {ops : Array Oper} {rest : List Oper} {p : Oper} {a : Act} {Q : Exit → Act → World → Prop} {b o : Nat} {x : Fi} (h : w.rangeAt b o x.cells) (hgd : p.guard = none) (y : Operand) (ho : p.op = .load 60 y) (hx : a.eval y = .pointer (some ⟨b, o, none⟩))
    (hh : wpList Try.prog ops Q rest (a.put p.dst (.agg x.arr)) w) : wpList Try.prog ops Q (p :: rest) a w :=
  wpList_load_mid hgd 60 y ho b o hx x.cells _ h Try.underlying60 rfl (by rw [infoFi]; rfl) hh
def Fi.nul : Fi := ⟨0, 0, false, by decide, by decide⟩
theorem Xa.new (w : World) (x : Fi) : Xa w.heap.size x (w.alloc (.cells x.arr 60)) := heap_alloc_new w _
theorem Xa.row {q : Nat} {x : Fi} {w : World} (h : Xa q x w) (y : Fi) : Xa q y (w.setRow q y.arr) := setRow_heap w q _ _ 60 _ h
theorem Xa.sd {q : Nat} {x : Fi} {w : World} {ops : Array Oper} {rest : List Oper} {o : Oper} {a : Act} {Q : Exit → Act → World → Prop} (h : Xa q x w) (y : Fi) (hgd : o.guard = none) (s t : Operand) (ho : o.op = .store 60 s t) (hx : a.eval s = .pointer (some ⟨q, 0, none⟩)) (hy : a.eval t = .agg y.arr)
    (hh : wpList Try.prog ops Q rest (a.put o.dst undef) (w.setRow q y.arr)) : wpList Try.prog ops Q (o :: rest) a w :=
  wpList_store_row hgd 60 s t ho q _ hx hy 60 _ h infoFi rfl (by simp [Fi.arr, Value.oneCell']) hh
def rowF (gs : List Nat) (n : Nat) : List Value := gs.map cloV ++ List.replicate (n - gs.length) Value.nilFunc
theorem rowF_len (gs : List Nat) (n : Nat) (h : gs.length ≤ n) : (rowF gs n).length = n := by unfold rowF; simp; omega
theorem rowF_set (gs : List Nat) (n : Nat) (h : gs.length < n) (p : Nat) : (rowF gs n).set gs.length (cloV p) = rowF (gs ++ [p]) n := by
  unfold rowF
  obtain ⟨m, hm⟩ : ∃ m, n - gs.length = m + 1 := ⟨n - gs.length - 1, by omega⟩
  have hm2 : n - (gs ++ [p]).length = m := by simp; omega
  rw [hm, hm2, List.set_append_right _ _ (by simp)]
  simp [List.replicate_succ]
theorem store_clo (x : World) (g k : Nat) (v u : Value) (hv : v.oneCell' = true) (hc : x.cell? ⟨g, k, none⟩ = some u) (hf : x.frozen? ⟨g, k, none⟩ = false) : (store ⟨g, k, none⟩ v).run Try.prog x = .ok () (x.setCell ⟨g, k, none⟩ v) := by
  rw [run_store _ _ _ _ _ hv, hc]; simp [hf]
set_option maxHeartbeats 2000000 in
theorem filtersOf_any {v : Value} {l : List Fi} {w : World} (hl : l.length ≤ 32) (hS : FiIn w v l) :
    Calls Try.prog 22 #[v] w fun e w' => (∃ g gs, e = .returned (.slice (some ⟨g, 0, none⟩) l.length l.length) ∧ FiS w' (.slice (some ⟨g, 0, none⟩) l.length l.length) gs l) ∧ Below w.heap.size w w' := by
  have HI : Hid (∀ x, Below w.heap.size w x → FiIn x v l) := fun x hx => hS.below hx
  obtain ⟨ao, cap, rfl, _⟩ := hS
  have hm : ∀ x, (Instr.makeSlice 63 (.int .i64 l.length) (.int .i64 l.length)).run Try.prog x = .ok (.slice (some ⟨x.heap.size, 0, none⟩) l.length l.length) (x.alloc (.cells (madeCells #[.nilFunc] l.length) 86)) := fun x => run_make_row' (P := Try.prog) 63 86 .nilFunc 8 Try.underlying63 infoFf rfl .i64 .i64 l.length (by omega) (by omega) x
  obtain ⟨w1, hw1⟩ : ∃ w1, w.alloc (.cells (madeCells #[.nilFunc] l.length) 86) = w1 := ⟨_, rfl⟩
  have R1 : Row w1 w.heap.size (rowF [] l.length) := by
    rw [← hw1]
    have := Row.made w .nilFunc l.length 86
    simpa [rowF] using this
  have B1 : Below w.heap.size w w1 := by rw [← hw1]; exact (Below.refl _ _).alloc (Nat.le_refl _) _
  obtain ⟨g, hg⟩ : ∃ g, w.heap.size = g := ⟨_, rfl⟩
  have H0 : Hid (Row w1 g (rowF [] l.length) ∧ Below w.heap.size w w1) := by rw [← hg]; exact ⟨R1, B1⟩
  have hmf := hmf5
  clear R1 B1
  go_enter Try.func22, Try.ntmps22
  go_wp2
  go_loopw [11] (fun i x => ∃ gs : List Nat, gs.length ≤ l.length ∧ i = .int .i64 gs.length ∧ Row x g (rowF gs l.length) ∧ (∀ k (h1 : k < gs.length) (h2 : k < l.length), gs[k] ≠ g ∧ Xa gs[k] l[k] x) ∧ Below w.heap.size w x) (fun i _ => l.length - (intOf i).toNat)
  case atStart => exact ⟨[], Nat.zero_le _, rfl, H0.out.1, fun k h1 => by simp at h1, H0.out.2⟩
  case round =>
    clear H0
    obtain ⟨gs, hk, rfl, R1, X1, B1⟩ := hrel
    have s1 := B1.size
    obtain ⟨k, hkk⟩ : ∃ k, gs.length = k := ⟨_, rfl⟩
    rw [hkk] at hk ⊢
    by_cases hkl : k < l.length
    · obtain ⟨ao', cap', hv', _, hc⟩ := HI.out wr B1
      obtain ⟨b, off, hao, hb, hR⟩ := hc k hkl
      have hao2 : ao = some ⟨b, off, none⟩ := by injection hv' with e1; rw [e1]; exact hao
      subst hao2
      have gn := Xa.new wr Fi.nul
      have g3 := gn.row l[k]
      have bb : Below wr.heap.size wr ((wr.alloc (.cells Fi.nul.arr 60)).setRow wr.heap.size l[k].arr) := below_row ((Below.refl _ wr).alloc (Nat.le_refl _) _) (Nat.le_refl _) (by rw [size_alloc]; omega) _
      have B3 := B1.trans (bb.mono s1)
      have R3 := R1.below bb
      have hrl := rowF_len gs l.length (by omega)
      have lg := R1.lt
      have c1 := R3.cell k (by rw [hrl]; exact hkl)
      have c2 := R3.free k (by rw [hrl]; exact hkl)
      have HX : Hid (∃ gs' : List Nat, gs'.length = k + 1 ∧ Row (((wr.alloc (.cells Fi.nul.arr 60)).setRow wr.heap.size l[k].arr).setCell ⟨g, k, none⟩ (cloV wr.heap.size)) g (rowF gs' l.length) ∧ (∀ j (h1 : j < gs'.length) (h2 : j < l.length), gs'[j] ≠ g ∧ Xa gs'[j] l[j] (((wr.alloc (.cells Fi.nul.arr 60)).setRow wr.heap.size l[k].arr).setCell ⟨g, k, none⟩ (cloV wr.heap.size))) ∧ Below w.heap.size w (((wr.alloc (.cells Fi.nul.arr 60)).setRow wr.heap.size l[k].arr).setCell ⟨g, k, none⟩ (cloV wr.heap.size))) := by
        refine ⟨gs ++ [wr.heap.size], by simp [hkk], ?_, fun j h1 h2 => ?_, B3.setCell (p := ⟨g, k, none⟩) (by show w.heap.size ≤ g; omega) _⟩
        · have e := rowF_set gs l.length (by omega) wr.heap.size
          rw [hkk] at e
          rw [← e]
          exact R3.set k _
        · by_cases hj : j < gs.length
          · rw [List.getElem_append_left hj]
            obtain ⟨n1, n2⟩ := X1 j hj h2
            exact ⟨n1, (Below.heap_setCell _ ⟨g, k, none⟩ _ _ n1).trans (n2.below bb)⟩
          · have e : j = gs.length := by simp at h1; omega
            subst e
            rw [List.getElem_concat_length rfl]
            have n1 : wr.heap.size ≠ g := by omega
            have e2 : l[gs.length]'h2 = l[k] := by congr 1
            rw [e2]
            exact ⟨n1, (Below.heap_setCell _ ⟨g, k, none⟩ _ _ n1).trans g3⟩
      obtain ⟨u, hu⟩ : ∃ u, ((wr.alloc (.cells Fi.nul.arr 60)).setRow wr.heap.size l[k].arr).cell? ⟨g, k, none⟩ = some u := ⟨_, c1⟩
      unfold cloV at HX
      generalize l[k] = x at *
      clear hc R1 X1 B1 R3 B3 bb c1 HI hao hv' hkk hrl g3
      go_upto_region 5 with (first | refine fi_ld hR rfl _ rfl rfl ?_ | refine gn.sd x rfl _ _ rfl rfl rfl ?_)
      clear gn hR
      generalize (wr.alloc (.cells Fi.nul.arr 60)).setRow wr.heap.size x.arr = w5 at *
      have hst := store_clo w5 g k (.func (.func 40) #[] #[.pointer (some ⟨wr.heap.size, 0, none⟩)]) u rfl hu c2
      go_wp2
      obtain ⟨gs', e1, e2, e3, e4⟩ := HX.out
      go_roundw
      case rel => exact ⟨gs', by omega, by rw [e1]; go_num, e2, e3, e4⟩
      case measure => simp [intOf]; omega
    · obtain rfl : k = l.length := by omega
      have HF : Hid (FiS wr (.slice (some ⟨g, 0, none⟩) l.length l.length) gs l) := by
        refine ⟨hkk, ?_, fun k h1 h2 => (X1 k h1 h2).2⟩
        have : Row wr g (gs.map cloV) := by
          have := R1; unfold rowF at this; rw [hkk, Nat.sub_self] at this; simpa using this
        exact slots_of_row this (by simp [hkk])
      clear R1 X1 HI
      go_wp2
      go_ret
      exact ⟨⟨g, gs, rfl, HF.out⟩, B1⟩
end Go.Proofs.Ytfddoindcmdooaa
namespace Go.Proofs.Ytfddoindcmdooaa
open Go.ChangeShapes Go.WideShapes Go.ChangeAt Go.RowKit Go.Proofs.Bits
set_option linter.unusedVariables false
set_option maxRecDepth 1000000

theorem cellsFi : Try.prog.cellsOf 60 = 3 := by kernel_rfl
theorem bytesFi : Try.prog.bytesOf 60 = 12 := by kernel_rfl
theorem list3 {l : List Value} (h : l.length = 3) : ∃ a b c, l = [a, b, c] := by
  match l, h with
  | [a, b, c], _ => exact ⟨a, b, c, rfl⟩
theorem one_filter {H : Type} {enc : TypeId × Value → H} {W : World} (n : Nat) (cs : List Value) (y : DataW H × List MemPlace) (h : DataW.trod enc Try.prog W 0 (fun _ => true) true n 60 cs = some y) : ∃ x : Fi, cs = x.cells := by
  obtain ⟨xs, m, _, _, hn, hl, hfs⟩ := DataW.trod_struct Try.underlying60 h
  rw [cellsFi] at hn
  obtain ⟨a, b, c, rfl⟩ := list3 hn
  have g0 := hfs 0 _ rfl
  have g1 := hfs 1 _ rfl
  have g2 := hfs 2 _ rfl
  simp [cells1u32, cells1bool] at g0 g1 g2
  match xs, hl with
  | [y0, y1, y2], _ =>
    simp at g0 g1 g2
    obtain ⟨x, e0, _, w0⟩ := DataW.trod_int Try.underlying42 g0
    obtain ⟨z, e1, _, w1⟩ := DataW.trod_int Try.underlying42 g1
    obtain ⟨t, e2, _⟩ := DataW.trod_bool Try.underlying4 g2
    simp at e0 e1 e2
    subst e0 e1 e2
    obtain ⟨a1, a2⟩ := wf_u32_of w0
    obtain ⟨b1, b2⟩ := wf_u32_of w1
    refine ⟨⟨x.toNat, z.toNat, t, by omega, by omega⟩, ?_⟩
    unfold Fi.cells
    simp only [Int.toNat_of_nonneg a1, Int.toNat_of_nonneg b1]
theorem open_filters {H : Type} {enc : TypeId × Value → H} {W : World} {base : Nat} {v : Value} {d : DataW H} {ps : List MemPlace}
    (hval : Value.okWide Try.prog W .any base 22 v) (h : DataW.Trod enc Try.prog W 0 (fun _ => true) true 22 v d ps) (hlt : ∀ x ∈ ps, x.block < W.heap.size) :
    ∃ l, FiIn W v l ∧ ((d = .nil ∧ l = []) ∨ ∃ e s, d = .slice e s ∧ e.length = l.length) :=
  open_wide Try.underlying22 cellsFi (by decide) one_filter hval h hlt
theorem size_filters {H : Type} {ts : List TypeId} {ds : List (DataW H)} {j : Nat} {d : DataW H} {l : List Fi} (h : (DataW.weightsEach Try.prog ts ds).all (· ≤ reachBytes) = true) (ht : ts[j]? = some 22) (hd : ds[j]? = some d) (e : (d = .nil ∧ l = []) ∨ ∃ e s, d = .slice e s ∧ e.length = l.length) : l.length * 12 ≤ 140737488351232 :=
  size_wide h ht hd Try.underlying22 bytesFi e
end Go.Proofs.Ytfddoindcmdooaa
namespace Go.Proofs.Ytfddoindcmdooaa
open Go.ChangeShapes Go.WideShapes Go.ChangeAt Go.RowKit Go.Proofs.Bits
set_option linter.unusedVariables false
set_option maxRecDepth 1000000

theorem bytesFr : Try.prog.bytesOf 45 = 24 := by kernel_rfl
theorem one_frame {H : Type} {enc : TypeId × Value → H} {W : World} (n : Nat) (cs : List Value) (y : DataW H × List MemPlace) (h : DataW.trod enc Try.prog W 0 (fun _ => true) true n 45 cs = some y) : ∃ f : Fr, cs = f.cells := by
  obtain ⟨xs, m, _, _, hn, hl, hfs⟩ := DataW.trod_struct Try.underlying45 h
  rw [cellsF12] at hn
  obtain ⟨c0, c1, c2, c3, c4, c5, c6, c7, c8, c9, c10, c11, rfl⟩ := list12 hn
  have g0 := hfs 0 _ rfl
  have g1 := hfs 1 _ rfl
  have g2 := hfs 2 _ rfl
  have g3 := hfs 3 _ rfl
  have g4 := hfs 4 _ rfl
  simp [cells1u32, cells1bool, cells1int, cellsA8] at g0 g1 g2 g3 g4
  match xs, hl with
  | [y0, y1, y2, y3, y4], _ =>
    simp at g0 g1 g2 g3 g4
    obtain ⟨i, e0, _, wi⟩ := DataW.trod_int Try.underlying42 g0
    obtain ⟨x, e1, _⟩ := DataW.trod_bool Try.underlying4 g1
    obtain ⟨r, e2, _⟩ := DataW.trod_bool Try.underlying4 g2
    obtain ⟨k, e3, _, wk⟩ := DataW.trod_int Try.underlying3 g3
    simp at e0 e1 e2 e3
    subst e0 e1 e2 e3
    obtain ⟨ys, m, _, _, _, hl8, hfi⟩ := DataW.trod_array Try.underlying43 g4
    match ys, hl8 with
    | [z0, z1, z2, z3, z4, z5, z6, z7], _ =>
      have a0 := hfi 0 (by decide)
      have a1 := hfi 1 (by decide)
      have a2 := hfi 2 (by decide)
      have a3 := hfi 3 (by decide)
      have a4 := hfi 4 (by decide)
      have a5 := hfi 5 (by decide)
      have a6 := hfi 6 (by decide)
      have a7 := hfi 7 (by decide)
      simp [cells1u8] at a0 a1 a2 a3 a4 a5 a6 a7
      obtain ⟨b0, rfl⟩ := trod_u8 rfl a0
      obtain ⟨b1, rfl⟩ := trod_u8 rfl a1
      obtain ⟨b2, rfl⟩ := trod_u8 rfl a2
      obtain ⟨b3, rfl⟩ := trod_u8 rfl a3
      obtain ⟨b4, rfl⟩ := trod_u8 rfl a4
      obtain ⟨b5, rfl⟩ := trod_u8 rfl a5
      obtain ⟨b6, rfl⟩ := trod_u8 rfl a6
      obtain ⟨b7, rfl⟩ := trod_u8 rfl a7
      have hi := wf_u32_of wi
      refine ⟨⟨i.toNat, x, r, k, [b0, b1, b2, b3, b4, b5, b6, b7], by omega, wf_i64_of wk, rfl⟩, ?_⟩
      have ei : ((i.toNat : Nat) : Int) = i := by omega
      simp [Fr.cells, ei]
theorem open_frames {H : Type} {enc : TypeId × Value → H} {W : World} {base : Nat} {v : Value} {d : DataW H} {ps : List MemPlace}
    (hval : Value.okWide Try.prog W .any base 37 v) (h : DataW.Trod enc Try.prog W 0 (fun _ => true) true 37 v d ps) (hlt : ∀ x ∈ ps, x.block < W.heap.size) :
    ∃ l, Frames W v l ∧ ((d = .nil ∧ l = []) ∨ ∃ e s, d = .slice e s ∧ e.length = l.length) :=
  open_wide Try.underlying37 cellsF12 (by decide) one_frame hval h hlt
theorem size_frames {H : Type} {ts : List TypeId} {ds : List (DataW H)} {j : Nat} {d : DataW H} {l : List Fr} (h : (DataW.weightsEach Try.prog ts ds).all (· ≤ reachBytes) = true) (ht : ts[j]? = some 37) (hd : ds[j]? = some d) (e : (d = .nil ∧ l = []) ∨ ∃ e s, d = .slice e s ∧ e.length = l.length) : l.length * 24 ≤ 140737488351232 :=
  size_wide h ht hd Try.underlying37 bytesFr e
end Go.Proofs.Ytfddoindcmdooaa
namespace Go.Proofs.Ytfddoindcmdooaa
open Go.RowKit Go.Proofs.Bits
set_option linter.unusedVariables false
set_option maxRecDepth 1000000
set_option linter.unusedSimpArgs false

/-- A mail lies alone in block q. -/
def Mq (q : Nat) (m : Ml) (w : World) : Prop := w.heap[q]? = some (.cells m.arr 73 (0, 0))
theorem Ml.arr_size (m : Ml) : m.arr.size = 14 := by simp [Ml.arr, m.len]
theorem Ml.arr_one (m : Ml) : m.arr.all (·.oneCell') = true := all_oneCell_toArray (Ml.one m)
theorem Mq.ld {q : Nat} {m : Ml} {w : World} {ops : Array Oper} {rest : List Oper} {o : Oper} {a : Act} {Q : Exit → Act → World → Prop} (h : Mq q m w) (hgd : o.guard = none) (x : Operand) (ho : o.op = .load 73 x) (hx : a.eval x = .pointer (some ⟨q, 0, none⟩))
    (hh : wpList Try.prog ops Q rest (a.put o.dst (.agg m.arr)) w) : wpList Try.prog ops Q (o :: rest) a w :=
  wpList_load_row hgd 73 x ho q hx 73 m.arr (0, 0) _ h Try.underlying73 rfl (by rw [m.arr_size]; exact infoMl) hh
theorem Mq.sd {q : Nat} {m : Ml} {w : World} {ops : Array Oper} {rest : List Oper} {o : Oper} {a : Act} {Q : Exit → Act → World → Prop} (h : Mq q m w) (m' : Ml) (hgd : o.guard = none) (x y : Operand) (ho : o.op = .store 73 x y) (hx : a.eval x = .pointer (some ⟨q, 0, none⟩)) (hy : a.eval y = .agg m'.arr)
    (hh : wpList Try.prog ops Q rest (a.put o.dst undef) (w.setRow q m'.arr)) : wpList Try.prog ops Q (o :: rest) a w :=
  wpList_store_row hgd 73 x y ho q m'.arr hx hy 73 m.arr h (by rw [m'.arr_size]; exact infoMl) (by rw [m.arr_size, m'.arr_size]) m'.arr_one hh
theorem ml_ld {w : World} {ops : Array Oper} {rest : List Oper} {p : Oper} {a : Act} {Q : Exit → Act → World → Prop} {b o : Nat} {m : Ml} (h : w.rangeAt b o m.cells) (hgd : p.guard = none) (x : Operand) (ho : p.op = .load 73 x) (hx : a.eval x = .pointer (some ⟨b, o, none⟩))
    (hh : wpList Try.prog ops Q rest (a.put p.dst (.agg m.arr)) w) : wpList Try.prog ops Q (p :: rest) a w :=
  wpList_load_mid hgd 73 x ho b o hx m.cells _ h Try.underlying73 rfl (by rw [infoMl]; simp [Ml.len]) hh
theorem ml_sd {w : World} {ops : Array Oper} {rest : List Oper} {p : Oper} {a : Act} {Q : Exit → Act → World → Prop} {b o : Nat} (m : Ml) (h : w.there b o 14) (hgd : p.guard = none) (x y : Operand) (ho : p.op = .store 73 x y) (hx : a.eval x = .pointer (some ⟨b, o, none⟩)) (hy : a.eval y = .agg m.arr)
    (hh : wpList Try.prog ops Q rest (a.put p.dst undef) (w.setCells b o m.cells)) : wpList Try.prog ops Q (p :: rest) a w :=
  wpList_store_mid hgd 73 x y ho b o m.arr hx hy (by rw [m.arr_size]; exact h) (by rw [m.arr_size]; exact infoMl) m.arr_one hh
theorem Mb.cut {w : World} {B b cap : Nat} {ls : List Ml} {x : Ml} {L : Nat} (hL : L = (ls ++ [x]).length) (h : Mb w B (.slice (some ⟨b, 0, none⟩) L cap) (ls ++ [x])) : Mb w B (.slice (some ⟨b, 0, none⟩) ls.length cap) ls := by
  subst hL
  obtain ⟨hl, h⟩ := h
  rcases h with ⟨h1, _⟩ | ⟨g, cap', cur, e, hB, hcur, h1, h2, h3, h4⟩
  · cases h1
  · injection e with e1 _ e5
    injection e1 with e2
    injection e2 with e3
    subst e3 e5
    refine ⟨by rw [flatW_len]; rfl, .inr ⟨b, cap, cur, rfl, hB, hcur, by simp at h1; omega, h2, h3, ?_⟩⟩
    have h5 := congrArg (List.take (ls.length * 14)) h4
    rw [List.take_take, flatW_append, List.take_append_of_le_length (by rw [flatW_len]; exact Nat.le_refl _)] at h5
    rw [show min (ls.length * 14) ((ls ++ [x]).length * 14) = ls.length * 14 by rw [List.length_append]; omega] at h5
    rw [h5, List.take_of_length_le (by rw [flatW_len]; exact Nat.le_refl _)]
theorem Mb.capped {w : World} {B b cap L : Nat} {ms : List Ml} (h : Mb w B (.slice (some ⟨b, 0, none⟩) L cap) ms) : ms.length ≤ cap := by
  rcases h.2 with ⟨h1, _⟩ | ⟨g, cap', cur, e, hB, hcur, h1, _⟩
  · cases h1
  · injection e with _ _ e5
    subst e5; exact h1
set_option maxHeartbeats 1000000 in
theorem mPop_any {w : World} {B D : Nat} {A : Array Value} {v : Value} {ls : List Ml} {m : Ml} (hA : Dr D A w) (hA1 : A[1]? = some v) (h : Mb w B v (ls ++ [m])) (hl : ls.length < 64) :
    Calls Try.prog 84 #[.pointer (some ⟨D, 1, none⟩)] w fun e w' => e = .returned (.iface 73 (.agg m.arr)) ∧ ∃ v', Dr D (A.setIfInBounds 1 v') w' ∧ Mb w' B v' ls ∧ Kd D B w w' := by
  have s1 : 1 < A.size := (Array.getElem?_eq_some_iff.1 hA1).1
  obtain ⟨ao, cap, rfl, hc⟩ := h.at
  obtain ⟨b, rfl, hb, R, -, -⟩ := hc ls.length (by simp)
  rw [show (ls ++ [m])[ls.length]'(by simp) = m by simp] at R
  obtain ⟨wa, hwa⟩ : ∃ wa, w.alloc (.cells Ml.nul.arr 73) = wa := ⟨_, rfl⟩
  have ba : Below w.heap.size w wa := by rw [← hwa]; exact (Below.refl _ _).alloc (Nat.le_refl _) _
  have na : Mq w.heap.size Ml.nul wa := by rw [← hwa]; exact heap_alloc_new w _
  obtain ⟨q, hq⟩ : ∃ q, w.heap.size = q := ⟨_, rfl⟩
  have lD : D < q := by rw [← hq]; exact (Array.getElem?_eq_some_iff.1 hA).1
  rw [hq] at na
  have sq : q < wa.heap.size := (Array.getElem?_eq_some_iff.1 na).1
  obtain ⟨wb, hwb⟩ : ∃ wb, wa.setRow q m.arr = wb := ⟨_, rfl⟩
  have bb : Below w.heap.size w wb := by rw [← hwb]; exact below_row ba (by omega) (by omega) _
  have nb : Mq q m wb := by rw [← hwb]; exact setRow_heap wa q Ml.nul.arr _ 73 _ na
  have Ab : Dr D A wb := (bb.block D (by omega)).trans hA
  have Mb' : Mb wb B _ (ls ++ [m]) := own_below5 h bb
  have T : wb.there b (ls.length * 14) 14 := Mb.there Mb' (k := ls.length) (by simp) (by
    rw [show (ls ++ [m])[ls.length]'(by simp) = m by simp]
    exact fun j u hj => (bb.cell (p := ⟨b, ls.length * 14 + j, none⟩) hb).trans (R j u hj))
  obtain ⟨wc, hwc⟩ : ∃ wc, wb.setCells b (ls.length * 14) Ml.nul.cells = wc := ⟨_, rfl⟩
  obtain ⟨M1, g1⟩ := Mb.setM Mb' ls.length (by simp) Ml.nul
  rw [hwc] at M1 g1
  have Ac : Dr D A wc := Ab.grown Mb' g1
  have e1 : (ls ++ [m]).set ls.length Ml.nul = ls ++ [Ml.nul] := by simp
  rw [e1] at M1
  have M2 : Mb wc B (.slice (some ⟨b, 0, none⟩) ls.length cap) ls := Mb.cut (x := Ml.nul) (by simp) M1
  have nc : Mq q m wc := (g1.block q (Array.getElem?_eq_some_iff.1 nb).1 (by simp; omega)).trans nb
  have nd : Mq q m (wc.setCell ⟨D, 1, none⟩ (.slice (some ⟨b, 0, none⟩) ls.length cap)) := (Below.heap_setCell wc ⟨D, 1, none⟩ _ q (by show q ≠ D; omega)).trans nc
  have Kc : Kd D B w wc := (Kd.below bb).trans (Kd.grown Mb' g1)
  have HX : Hid (Dr D (A.setIfInBounds 1 (.slice (some ⟨b, 0, none⟩) ls.length cap)) (wc.setCell ⟨D, 1, none⟩ (.slice (some ⟨b, 0, none⟩) ls.length cap)) ∧ Mb (wc.setCell ⟨D, 1, none⟩ (.slice (some ⟨b, 0, none⟩) ls.length cap)) B (.slice (some ⟨b, 0, none⟩) ls.length cap) ls ∧ Kd D B w (wc.setCell ⟨D, 1, none⟩ (.slice (some ⟨b, 0, none⟩) ls.length cap))) :=
    ⟨Ac.set 1 _, M2.setD Ac 1 _, Kc.trans (Kd.set wc 1 _)⟩
  have hcap := Mb.capped h
  have c1 := hA.cell (k := 1) hA1
  have cb := Ab.cell (k := 1) hA1
  have cc := Ac.cell (k := 1) hA1
  have fc := Ac.free 1
  have hle : (((ls ++ [m]).length : Nat) : Int) - 1 = (ls.length : Int) := by simp
  have hlt : ls.length < (ls ++ [m]).length := by simp
  have hwa2 : w.alloc (.cells #[.int .u32 0, .bool false, .bool false, .int .i64 0, .int .u8 0, .int .u8 0, .int .u8 0, .int .u8 0, .int .u8 0, .int .u8 0, .int .u8 0, .int .u8 0, .string ⟨#[]⟩, .int .i64 0] 73) = wa := hwa
  have hlc : ls.length ≤ cap := by omega
  have hL64 : (ls ++ [m]).length ≤ 64 := by simp; omega
  clear hwa hc h hA Ab Mb' M1 g1 Ac M2 nc Kc ba bb nb e1 hA1
  generalize (ls ++ [m]).length = L at *
  generalize ls.length = n at *
  go_enter Try.func84, Try.ntmps84
  go_wp2_with (first | refine ml_ld R rfl _ rfl rfl ?_ | refine na.sd m rfl _ _ rfl rfl rfl ?_ | refine ml_sd Ml.nul T rfl _ _ rfl rfl rfl ?_ | refine nd.ld rfl _ rfl rfl ?_)
  go_ret
  exact ⟨rfl, _, HX.out⟩
end Go.Proofs.Ytfddoindcmdooaa
namespace Go.Proofs.Ytfddoindcmdooaa
open Go.RowKit Go.Proofs.Bits
set_option linter.unusedVariables false
set_option maxRecDepth 1000000
set_option linter.unusedSimpArgs false

/-- Of the two children the one that comes first. -/
def kidM (ms : List Ml) (i n : Nat) (h : 2 * i + 1 < n) (hn : n ≤ ms.length) : Nat :=
  if h2 : 2 * i + 2 < n then if lessM (ms[2 * i + 2]'(by omega)) (ms[2 * i + 1]'(by omega)) then 2 * i + 2 else 2 * i + 1 else 2 * i + 1
theorem kidM_lt (ms : List Ml) (i n : Nat) (h : 2 * i + 1 < n) (hn : n ≤ ms.length) : i < kidM ms i n h hn ∧ kidM ms i n h hn < n := by
  unfold kidM; split
  · split <;> omega
  · omega
/-- What the heap's down does to its row, and where it ends. -/
def downP (ms : List Ml) (i n : Nat) : List Ml × Nat :=
  if h : 2 * i + 1 < n ∧ n ≤ ms.length then
    if lessM (ms[kidM ms i n h.1 h.2]'(Nat.lt_of_lt_of_le (kidM_lt ms i n h.1 h.2).2 h.2)) (ms[i]'(by omega)) then downP (swapM ms i (kidM ms i n h.1 h.2) (by omega) (Nat.lt_of_lt_of_le (kidM_lt ms i n h.1 h.2).2 h.2)) (kidM ms i n h.1 h.2) n else (ms, i)
  else (ms, i)
termination_by n - i
decreasing_by have := kidM_lt ms i n h.1 h.2; omega
theorem downP_end {ms : List Ml} {i n : Nat} (h : n ≤ 2 * i + 1) : downP ms i n = (ms, i) := by rw [downP, dif_neg (by omega)]
theorem downP_stop {ms : List Ml} {i n j : Nat} (h : 2 * i + 1 < n) (hn : n ≤ ms.length) (hj : kidM ms i n h hn = j) (hj2 : j < ms.length) (hl : lessM ms[j] (ms[i]'(by omega)) = false) : downP ms i n = (ms, i) := by
  subst hj; rw [downP, dif_pos ⟨h, hn⟩, if_neg (by rw [hl]; simp)]
theorem downP_go {ms : List Ml} {i n j : Nat} (h : 2 * i + 1 < n) (hn : n ≤ ms.length) (hj : kidM ms i n h hn = j) (hj2 : j < ms.length) (hl : lessM ms[j] (ms[i]'(by omega)) = true) : downP ms i n = downP (swapM ms i j (by omega) hj2) j n := by
  subst hj; rw [downP, dif_pos ⟨h, hn⟩, if_pos hl]
set_option maxHeartbeats 2000000 in
theorem hdown_any {w : World} {B D : Nat} {v : Value} {ms : List Ml} (hD : w.cell? ⟨D, 1, none⟩ = some v) (hne : v.ownBlock ≠ some D) (h : Mb w B v ms) (i n : Nat) (hi : i < 64) (hn : n ≤ ms.length) (hl : ms.length ≤ 64) :
    Calls Try.prog 50 #[.iface 71 (.pointer (some ⟨D, 1, none⟩)), .int .i64 i, .int .i64 n] w fun e w' => e = .returned (.bool (decide (i < (downP ms i n).2))) ∧ Mb w' B v (downP ms i n).1 ∧ w.grownBy w' v.ownBlock := by
  have HD : Hid (∀ x, w.grownBy x v.ownBlock → x.cell? ⟨D, 1, none⟩ = some v) := fun x hx =>
    (World.cell?_of_block (a := ⟨D, 1, none⟩) (hx.block D (World.block_lt_of_cell? w _ hD) (fun e => hne e.symm))).trans hD
  have H0 : Hid (Mb w B v ms ∧ w.grownBy w v.ownBlock) := ⟨h, grown_refl _ _⟩
  have hv : ∃ ao cap, v = .slice ao ms.length cap := own_shape5 h
  obtain ⟨ao, cap, rfl⟩ := hv
  have enter1 : ∀ args x, (callFunc 82 args).run Try.prog x = .ok (.enter 82 args) x := fun _ _ => by rfl
  have enter2 : ∀ args x, (callFunc 83 args).run Try.prog x = .ok (.enter 83 args) x := fun _ _ => by rfl
  have HN : Hid (n ≤ ms.length) := hn
  have hn64 : n ≤ 64 := by omega
  have Hp : Hid (∀ k ls, downP ms i n = (ls, k) → (downP ms i n).1 = ls ∧ (downP ms i n).2 = k) := fun k ls h => by rw [h]; exact ⟨rfl, rfl⟩
  obtain ⟨p1, hp1⟩ : ∃ p1, (downP ms i n).1 = p1 := ⟨_, rfl⟩
  obtain ⟨p2, hp2⟩ : ∃ p2, (downP ms i n).2 = p2 := ⟨_, rfl⟩
  rw [hp1, hp2] at Hp ⊢
  have HP : Hid (downP ms i n = (p1, p2)) := by show _ = _; rw [← hp1, ← hp2]
  clear h hD hn hp1 hp2
  go_enter Try.func50, Try.ntmps50
  go_wp2
  go_loopw [7] (fun jv x => ∃ (k : Nat) (ls : List Ml), k < 64 ∧ ls.length = ms.length ∧ jv = .int .i64 k ∧ downP ls k n = downP ms i n ∧ Mb x B (.slice ao ms.length cap) ls ∧ w.grownBy x (Value.slice ao ms.length cap).ownBlock) (fun jv _ => (64 - intOf jv).toNat)
  case atStart => exact ⟨i, ms, hi, rfl, rfl, rfl, H0.out⟩
  case round =>
    obtain ⟨k, ls, hk, hls, rfl, hu, hM, hG⟩ := hrel
    have hD := HD.out _ hG
    have HU : Hid (downP ls k n = (p1, p2)) := hu.trans HP.out
    clear hu
    by_cases h1 : 2 * k + 1 < n
    · have hNl : n ≤ ls.length := by rw [hls]; exact HN.out
      have hk2 : k < ls.length := by omega
      have hq1 : 2 * k + 1 < ls.length := by omega
      have hme : (method 234 71 (.pointer (some ⟨D, 1, none⟩)) "Less").run Try.prog wr = .ok (82, .slice ao ms.length cap) wr := meth_at (by kernel_rfl) _ D ao _ cap wr hD
      by_cases h2 : 2 * k + 2 < n
      · have hq2 : 2 * k + 2 < ls.length := by omega
        have hLs := mLess_any hM (2 * k + 2) (2 * k + 1) hq2 hq1
        have HK1 : Hid (lessM ls[2 * k + 2] ls[2 * k + 1] = true → kidM ls k n h1 hNl = 2 * k + 2) := fun h => by unfold kidM; rw [dif_pos h2, if_pos h]
        have HK0 : Hid (lessM ls[2 * k + 2] ls[2 * k + 1] = false → kidM ls k n h1 hNl = 2 * k + 1) := fun h => by unfold kidM; rw [dif_pos h2, if_neg (by rw [h]; simp)]
        obtain ⟨u1, hu1⟩ : ∃ u, 2 * k + 1 = u := ⟨_, rfl⟩
        obtain ⟨u2, hu2⟩ : ∃ u, 2 * k + 2 = u := ⟨_, rfl⟩
        have i1 : 2 * (k : Int) + 1 = (u1 : Int) := by omega
        have i2 : (u1 : Int) + 1 = (u2 : Int) := by omega
        have l1 : u1 < n := by omega
        have l2 : u2 < n := by omega
        simp only [hu1, hu2] at hLs HK1 HK0
        generalize lessM (ls[u2]'(by omega)) (ls[u1]'(by omega)) = lb at *
        go_wp2_with fail
        refine hLs.mono ?_
        rintro e w4 ⟨rfl, b4⟩
        have hM4 : Mb w4 B (.slice ao ms.length cap) ls := own_below5 hM b4
        have hG4 := grown_trans hG (grown_below b4 _)
        have hD4 := HD.out _ hG4
        clear hLs hM hG
        cases lb
        · have hju : u1 < ls.length := by omega
          have HKj : Hid (kidM ls k n h1 hNl = u1) := HK0.out rfl
          have hLj := mLess_any hM4 u1 k hju hk2
          have HS : Hid (lessM ls[u1] ls[k] = false → p1 = ls ∧ p2 = k) := fun h => by
            have := HU.out; rw [downP_stop h1 hNl HKj.out hju h] at this
            exact ⟨(congrArg Prod.fst this).symm, (congrArg Prod.snd this).symm⟩
          have HGo : Hid (lessM ls[u1] ls[k] = true → downP (swapM ls k u1 hk2 hju) u1 n = downP ms i n) := fun h => by
            rw [← downP_go h1 hNl HKj.out hju h, HU.out, HP.out]
          have hme4 : (method 234 71 (.pointer (some ⟨D, 1, none⟩)) "Less").run Try.prog w4 = .ok (82, .slice ao ms.length cap) w4 := meth_at (by kernel_rfl) _ D ao _ cap w4 hD4
          have hkj : k < u1 := by omega
          generalize lessM ls[u1] ls[k] = lc at *
          go_wp2_with fail
          refine hLj.mono ?_
          rintro e w5 ⟨rfl, b5⟩
          have hM5 : Mb w5 B (.slice ao ms.length cap) ls := own_below5 hM4 b5
          have hG5 := grown_trans hG4 (grown_below b5 _)
          have hD5 := HD.out _ hG5
          clear hLj hme4
          cases lc
          · have HE : Hid ((decide (i < k) = decide (i < p2)) ∧ Mb w5 B (.slice ao ms.length cap) p1 ∧ w.grownBy w5 (Value.slice ao ms.length cap).ownBlock) := by
              obtain ⟨e1, e2⟩ := HS.out rfl
              subst e1 e2
              exact ⟨rfl, hM5, hG5⟩
            clear hM5 hG5 HS HGo
            go_wp2
            go_ret
            exact ⟨ret_bool HE.out.1, HE.out.2⟩
          · have hme5 : (method 234 71 (.pointer (some ⟨D, 1, none⟩)) "Swap").run Try.prog w5 = .ok (83, .slice ao ms.length cap) w5 := meth_at (by kernel_rfl) _ D ao _ cap w5 hD5
            have hSw := mSwap_any hM5 k u1 hk2 hju
            go_wp2_with fail
            refine hSw.mono ?_
            rintro e w6 ⟨rfl, hM6, hG6⟩
            have hG7 := grown_trans hG5 hG6
            clear hSw hM5 hG5 hme5 hD5
            go_wp2
            go_roundw
            case rel => exact ⟨u1, swapM ls k u1 hk2 hju, by omega, by rw [swapM_length]; exact hls, rfl, HGo.out (by first | rfl | trivial), hM6, hG7⟩
            case measure => simp [intOf]; omega
        · have hju : u2 < ls.length := by omega
          have HKj : Hid (kidM ls k n h1 hNl = u2) := HK1.out rfl
          have hLj := mLess_any hM4 u2 k hju hk2
          have HS : Hid (lessM ls[u2] ls[k] = false → p1 = ls ∧ p2 = k) := fun h => by
            have := HU.out; rw [downP_stop h1 hNl HKj.out hju h] at this
            exact ⟨(congrArg Prod.fst this).symm, (congrArg Prod.snd this).symm⟩
          have HGo : Hid (lessM ls[u2] ls[k] = true → downP (swapM ls k u2 hk2 hju) u2 n = downP ms i n) := fun h => by
            rw [← downP_go h1 hNl HKj.out hju h, HU.out, HP.out]
          have hme4 : (method 234 71 (.pointer (some ⟨D, 1, none⟩)) "Less").run Try.prog w4 = .ok (82, .slice ao ms.length cap) w4 := meth_at (by kernel_rfl) _ D ao _ cap w4 hD4
          have hkj : k < u2 := by omega
          generalize lessM ls[u2] ls[k] = lc at *
          go_wp2_with fail
          refine hLj.mono ?_
          rintro e w5 ⟨rfl, b5⟩
          have hM5 : Mb w5 B (.slice ao ms.length cap) ls := own_below5 hM4 b5
          have hG5 := grown_trans hG4 (grown_below b5 _)
          have hD5 := HD.out _ hG5
          clear hLj hme4
          cases lc
          · have HE : Hid ((decide (i < k) = decide (i < p2)) ∧ Mb w5 B (.slice ao ms.length cap) p1 ∧ w.grownBy w5 (Value.slice ao ms.length cap).ownBlock) := by
              obtain ⟨e1, e2⟩ := HS.out rfl
              subst e1 e2
              exact ⟨rfl, hM5, hG5⟩
            clear hM5 hG5 HS HGo
            go_wp2
            go_ret
            exact ⟨ret_bool HE.out.1, HE.out.2⟩
          · have hme5 : (method 234 71 (.pointer (some ⟨D, 1, none⟩)) "Swap").run Try.prog w5 = .ok (83, .slice ao ms.length cap) w5 := meth_at (by kernel_rfl) _ D ao _ cap w5 hD5
            have hSw := mSwap_any hM5 k u2 hk2 hju
            go_wp2_with fail
            refine hSw.mono ?_
            rintro e w6 ⟨rfl, hM6, hG6⟩
            have hG7 := grown_trans hG5 hG6
            clear hSw hM5 hG5 hme5 hD5
            go_wp2
            go_roundw
            case rel => exact ⟨u2, swapM ls k u2 hk2 hju, by omega, by rw [swapM_length]; exact hls, rfl, HGo.out (by first | rfl | trivial), hM6, hG7⟩
            case measure => simp [intOf]; omega
      · have HK : Hid (kidM ls k n h1 hNl = 2 * k + 1) := by show _ = _; unfold kidM; rw [dif_neg h2]
        obtain ⟨u1, hu1⟩ : ∃ u, 2 * k + 1 = u := ⟨_, rfl⟩
        have i1 : 2 * (k : Int) + 1 = (u1 : Int) := by omega
        have l1 : u1 < n := by omega
        have l2 : ¬ ((u1 : Int) + 1 < (n : Int)) := by omega
        simp only [hu1] at HK
        · have hju : u1 < ls.length := by omega
          have HKj : Hid (kidM ls k n h1 hNl = u1) := HK.out
          have hLj := mLess_any hM u1 k hju hk2
          have HS : Hid (lessM ls[u1] ls[k] = false → p1 = ls ∧ p2 = k) := fun h => by
            have := HU.out; rw [downP_stop h1 hNl HKj.out hju h] at this
            exact ⟨(congrArg Prod.fst this).symm, (congrArg Prod.snd this).symm⟩
          have HGo : Hid (lessM ls[u1] ls[k] = true → downP (swapM ls k u1 hk2 hju) u1 n = downP ms i n) := fun h => by
            rw [← downP_go h1 hNl HKj.out hju h, HU.out, HP.out]
          have hme4 : (method 234 71 (.pointer (some ⟨D, 1, none⟩)) "Less").run Try.prog wr = .ok (82, .slice ao ms.length cap) wr := meth_at (by kernel_rfl) _ D ao _ cap wr hD
          have hkj : k < u1 := by omega
          generalize lessM ls[u1] ls[k] = lc at *
          go_wp2_with fail
          refine hLj.mono ?_
          rintro e w5 ⟨rfl, b5⟩
          have hM5 : Mb w5 B (.slice ao ms.length cap) ls := own_below5 hM b5
          have hG5 := grown_trans hG (grown_below b5 _)
          have hD5 := HD.out _ hG5
          clear hLj hme4
          cases lc
          · have HE : Hid ((decide (i < k) = decide (i < p2)) ∧ Mb w5 B (.slice ao ms.length cap) p1 ∧ w.grownBy w5 (Value.slice ao ms.length cap).ownBlock) := by
              obtain ⟨e1, e2⟩ := HS.out rfl
              subst e1 e2
              exact ⟨rfl, hM5, hG5⟩
            clear hM5 hG5 HS HGo
            go_wp2
            go_ret
            exact ⟨ret_bool HE.out.1, HE.out.2⟩
          · have hme5 : (method 234 71 (.pointer (some ⟨D, 1, none⟩)) "Swap").run Try.prog w5 = .ok (83, .slice ao ms.length cap) w5 := meth_at (by kernel_rfl) _ D ao _ cap w5 hD5
            have hSw := mSwap_any hM5 k u1 hk2 hju
            go_wp2_with fail
            refine hSw.mono ?_
            rintro e w6 ⟨rfl, hM6, hG6⟩
            have hG7 := grown_trans hG5 hG6
            clear hSw hM5 hG5 hme5 hD5
            go_wp2
            go_roundw
            case rel => exact ⟨u1, swapM ls k u1 hk2 hju, by omega, by rw [swapM_length]; exact hls, rfl, HGo.out (by first | rfl | trivial), hM6, hG7⟩
            case measure => simp [intOf]; omega
    · have HE : Hid ((decide (i < k) = decide (i < p2)) ∧ Mb wr B (.slice ao ms.length cap) p1 ∧ w.grownBy wr (Value.slice ao ms.length cap).ownBlock) := by
        have := HU.out
        rw [downP_end (by omega)] at this
        obtain rfl : ls = p1 := congrArg Prod.fst this
        obtain rfl : k = p2 := congrArg Prod.snd this
        exact ⟨rfl, hM, hG⟩
      have l1 : (n : Int) ≤ 2 * (k : Int) + 1 := by omega
      clear hM hG HU
      go_wp2
      go_ret
      exact ⟨ret_bool HE.out.1, HE.out.2⟩
end Go.Proofs.Ytfddoindcmdooaa
namespace Go.Proofs.Ytfddoindcmdooaa
open Go.RowKit Go.Proofs.Bits
set_option linter.unusedVariables false
set_option maxRecDepth 1000000
set_option linter.unusedSimpArgs false

theorem swapM_get? (ms : List Ml) (i j : Nat) (hi : i < ms.length) (hj : j < ms.length) (k : Nat) : (swapM ms i j hi hj)[k]? = if k = j then some ms[i] else if k = i then some ms[j] else ms[k]? := by
  show ((ms.set i ms[j]).set j ms[i])[k]? = _
  rw [List.getElem?_set, List.getElem?_set]
  by_cases h1 : k = j
  · subst h1; simp [hj]
  · rw [if_neg (fun h => h1 h.symm), if_neg h1]
    by_cases h2 : k = i
    · subst h2; simp [hi]
    · rw [if_neg (fun h => h2 h.symm), if_neg h2]
theorem downP_len (ms : List Ml) (i n : Nat) : (downP ms i n).1.length = ms.length := by
  induction ms, i using downP.induct (n := n) with
  | case1 ms i h hl ih => rw [downP_go h.1 h.2 rfl (Nat.lt_of_lt_of_le (kidM_lt ms i n h.1 h.2).2 h.2) hl, ih, swapM_length]
  | case2 ms i h hl => rw [downP_stop h.1 h.2 rfl (Nat.lt_of_lt_of_le (kidM_lt ms i n h.1 h.2).2 h.2) (by simpa using hl)]
  | case3 ms i h => rw [downP, dif_neg h]
/-- Nothing behind n is touched. -/
theorem downP_keep (ms : List Ml) (i n : Nat) : ∀ k, n ≤ k → (downP ms i n).1[k]? = ms[k]? := by
  induction ms, i using downP.induct (n := n) with
  | case1 ms i h hl ih =>
    intro k hk
    have := kidM_lt ms i n h.1 h.2
    rw [downP_go h.1 h.2 rfl (Nat.lt_of_lt_of_le (kidM_lt ms i n h.1 h.2).2 h.2) hl, ih k hk, swapM_get?, if_neg (by omega), if_neg (by omega)]
  | case2 ms i h hl => intro k hk; rw [downP_stop h.1 h.2 rfl (Nat.lt_of_lt_of_le (kidM_lt ms i n h.1 h.2).2 h.2) (by simpa using hl)]
  | case3 ms i h => intro k hk; rw [downP, dif_neg h]
/-- The row behind a Pop. -/
def popF (ms : List Ml) (h : 0 < ms.length) : List Ml := (downP (swapM ms 0 (ms.length - 1) h (by omega)) 0 (ms.length - 1)).1.dropLast
theorem last_is {L : List Ml} {n : Nat} {x : Ml} (hl : L.length = n) (h0 : 0 < n) (hk : L[n - 1]? = some x) : L = L.dropLast ++ [x] := by
  have hne : L ≠ [] := by intro e; rw [e] at hl; simp at hl; omega
  have : L.getLast hne = x := by
    have h3 := List.getLast?_eq_getElem? (l := L)
    rw [hl, hk, List.getLast?_eq_some_getLast hne] at h3
    exact Option.some.inj h3
  rw [← this, List.dropLast_concat_getLast]
theorem popF_all (ms : List Ml) (h : 0 < ms.length) : (downP (swapM ms 0 (ms.length - 1) h (by omega)) 0 (ms.length - 1)).1 = popF ms h ++ [ms[0]] :=
  last_is (by rw [downP_len, swapM_length]) h (by rw [downP_keep _ _ _ _ (Nat.le_refl _), swapM_get?, if_pos rfl])
theorem popF_len (ms : List Ml) (h : 0 < ms.length) : (popF ms h).length = ms.length - 1 := by
  unfold popF; rw [List.length_dropLast, downP_len, swapM_length]
set_option maxHeartbeats 1000000 in
theorem hPop_any {w : World} {B D : Nat} {A : Array Value} {v : Value} {ms : List Ml} (hA : Dr D A w) (hA1 : A[1]? = some v) (h : Mb w B v ms) (h0 : 0 < ms.length) (hl : ms.length ≤ 64) :
    Calls Try.prog 36 #[.iface 71 (.pointer (some ⟨D, 1, none⟩))] w fun e w' => e = .returned (.iface 73 (.agg ms[0].arr)) ∧ ∃ v', Dr D (A.setIfInBounds 1 v') w' ∧ Mb w' B v' (popF ms h0) ∧ Kd D B w w' := by
  have c1 := hA.cell hA1
  obtain ⟨ao, cap, hv⟩ := own_shape5 h
  subst hv
  obtain ⟨N, hN⟩ : ∃ N, ms.length - 1 = N := ⟨_, rfl⟩
  have hN2 : N < ms.length := by omega
  have hLn := mLen_any (.slice ao ms.length cap) _ ⟨ao, cap, rfl⟩ w
  have hme : (method 234 71 (.pointer (some ⟨D, 1, none⟩)) "Len").run Try.prog w = .ok (81, .slice ao ms.length cap) w := meth_at (by kernel_rfl) _ D ao _ cap w c1
  have hme1 : (method 234 71 (.pointer (some ⟨D, 1, none⟩)) "Swap").run Try.prog w = .ok (83, .slice ao ms.length cap) w := meth_at (by kernel_rfl) _ D ao _ cap w c1
  have hSw := mSwap_any h 0 N h0 hN2
  have enter1 : ∀ args x, (callFunc 81 args).run Try.prog x = .ok (.enter 81 args) x := fun _ _ => by rfl
  have enter2 : ∀ args x, (callFunc 83 args).run Try.prog x = .ok (.enter 83 args) x := fun _ _ => by rfl
  have enter3 : ∀ args x, (callFunc 84 args).run Try.prog x = .ok (.enter 84 args) x := fun _ _ => by rfl
  have HPf : Hid ((downP (swapM ms 0 N h0 hN2) 0 N).1 = popF ms h0 ++ [ms[0]]) := by subst hN; exact popF_all ms h0
  have HL : Hid ((popF ms h0).length < 64) := by show _ < _; rw [popF_len]; omega
  have HA : Hid (∀ x ls, Mb x B (.slice ao ms.length cap) ls → w.grownBy x (Value.slice ao ms.length cap).ownBlock → Dr D A x ∧ Kd D B w x ∧ (Value.slice ao ms.length cap).ownBlock ≠ some D) := fun x ls h1 hx => ⟨hA.grown h hx, Kd.grown h hx, (hA.grown h hx).ne h1⟩
  have HA1 : Hid (A[1]? = some (.slice ao ms.length cap)) := hA1
  have hlen : (ms.length : Int) - 1 = (N : Int) := by omega
  have HSl : Hid ((swapM ms 0 N h0 hN2).length = ms.length) := swapM_length _ _ _ _ _
  generalize swapM ms 0 N h0 hN2 = ss at *
  clear hA hA1 h c1
  go_enter Try.func36, Try.ntmps36
  go_wp2_with fail
  refine hLn.mono ?_
  rintro e w1 ⟨rfl, rfl⟩
  clear hLn hme
  go_wp2_with fail
  refine hSw.mono ?_
  rintro e w2 ⟨rfl, M2, G2⟩
  obtain ⟨A2, K2, n2⟩ := HA.out w2 _ M2 G2
  have M2' : Mb w2 B (.slice ao ms.length cap) ss := M2
  have hDn := hdown_any (A2.cell HA1.out) n2 M2 0 N (by omega) (by rw [HSl.out]; omega) (by rw [HSl.out]; exact hl)
  clear hSw hme1
  go_wp2_with fail
  refine (show Calls Try.prog 50 #[.iface 71 (.pointer (some ⟨D, 1, none⟩)), .int .i64 0, .int .i64 N] w2 _ from hDn).mono ?_
  rintro e w3 ⟨rfl, M3, G3⟩
  rw [HPf.out] at M3
  obtain ⟨A3, K3, n3⟩ := HA.out w3 _ M3 (grown_trans G2 G3)
  have hPo := mPop_any A3 HA1.out M3 HL.out
  have hme3 : (method 234 71 (.pointer (some ⟨D, 1, none⟩)) "Pop").run Try.prog w3 = .ok (84, .pointer (some ⟨D, 1, none⟩)) w3 := meth_ptr (by kernel_rfl) _ D w3
  clear hDn
  go_wp2_with fail
  refine hPo.mono ?_
  rintro e w4 ⟨rfl, v', A4, M4, K4⟩
  have HX : Hid (Dr D (A.setIfInBounds 1 v') w4 ∧ Mb w4 B v' (popF ms h0) ∧ Kd D B w1 w4) := ⟨A4, M4, K3.trans K4⟩
  clear hPo A4 M4 K4 hme3 A3 M3 A2 M2 M2' HA
  go_wp2
  go_ret
  exact ⟨rfl, _, HX.out⟩
theorem assert_ml2 (A : Array Value) (x : World) : (Instr.typeAssert (.iface 73 (.agg A)) 20 73 true).run Try.prog x = .ok (.tuple #[.agg A, .bool true]) x := by
  simp [Instr.typeAssert, go_sem, run_underlying Try.underlying73]
set_option maxHeartbeats 1000000 in
theorem Done_some {w : World} {B D : Nat} {v vc vf : Value} {ms : List Ml} {bx tk rm lo : Int} (hA : Dr D (dA bx v tk rm vc lo vf) w) (h : Mb w B v ms) (h0 : 0 < ms.length) (hl : ms.length ≤ 64) :
    Calls Try.prog 17 #[.pointer (some ⟨D, 0, none⟩)] w fun e w' => e = .returned (.bool true) ∧ ∃ v', Dr D (dA bx v' tk rm vc lo vf) w' ∧ Mb w' B v' (popF ms h0) ∧ Kd D B w w' := by
  have hPo := hPop_any hA rfl h h0 hl
  obtain ⟨ao, cap, rfl⟩ := own_shape5 h
  have c1 := hA.cell (k := 1) (v := .slice ao ms.length cap) rfl
  have hne : ((ms.length : Int) == 0) = false := by rw [beq_eq_false_iff_ne]; omega
  have hmake : ∀ x, (Instr.typeAssert (.iface 73 (.agg ms[0].arr)) 20 73 true).run Try.prog x = .ok (.tuple #[.agg ms[0].arr, .bool true]) x := assert_ml2 _
  go_enter Try.func17, Try.ntmps17
  go_wp2_with fail
  refine hPo.mono ?_
  rintro e w1 ⟨rfl, v', A1, M1, K1⟩
  have na : Mq w1.heap.size Ml.nul (w1.alloc (.cells Ml.nul.arr 73)) := heap_alloc_new w1 _
  have bb : Below w1.heap.size w1 ((w1.alloc (.cells Ml.nul.arr 73)).setRow w1.heap.size ms[0].arr) := below_row ((Below.refl _ w1).alloc (Nat.le_refl _) _) (Nat.le_refl _) (by rw [size_alloc]; omega) _
  have HX : Hid (Dr D (dA bx v' tk rm vc lo vf) ((w1.alloc (.cells Ml.nul.arr 73)).setRow w1.heap.size ms[0].arr) ∧ Mb ((w1.alloc (.cells Ml.nul.arr 73)).setRow w1.heap.size ms[0].arr) B v' (popF ms h0) ∧ Kd D B w ((w1.alloc (.cells Ml.nul.arr 73)).setRow w1.heap.size ms[0].arr)) :=
    ⟨(bb.block D (Array.getElem?_eq_some_iff.1 A1).1).trans A1, own_below5 M1 bb, K1.trans (Kd.below bb)⟩
  clear hPo A1 M1 K1 bb
  go_wp2_with (refine na.sd ms[0] rfl _ _ rfl rfl rfl ?_)
  go_ret
  exact ⟨rfl, _, HX.out⟩
set_option maxHeartbeats 1000000 in
theorem Done_none {w : World} {D : Nat} {ao : Option Addr} {cap : Nat} {vc vf : Value} {bx tk rm lo : Int} (hA : Dr D (dA bx (.slice ao 0 cap) tk rm vc lo vf) w) :
    Calls Try.prog 17 #[.pointer (some ⟨D, 0, none⟩)] w fun e w' => e = .returned (.bool false) ∧ w' = w := by
  have c1 := hA.cell (k := 1) (v := .slice ao 0 cap) rfl
  go_enter Try.func17, Try.ntmps17
  go_wp2
  go_ret
  exact ⟨rfl, rfl⟩
end Go.Proofs.Ytfddoindcmdooaa
namespace Go.Proofs.Ytfddoindcmdooaa
open Go.RowKit Go.Proofs.Bits
set_option linter.unusedVariables false
set_option maxRecDepth 1000000
set_option linter.unusedSimpArgs false

set_option maxHeartbeats 1000000 in
theorem Send_bad {w : World} {D : Nat} (f : Fr) (hf : f.chk ≠ 0) :
    Calls Try.prog 13 #[.pointer (some ⟨D, 0, none⟩), f.val] w fun e w' => e = .returned (.tuple #[.int .i64 0, .int .i64 f.chk]) ∧ Below w.heap.size w w' := by
  obtain ⟨wa, hwa⟩ : ∃ wa, w.alloc (.cells f.arr 45) = wa := ⟨_, rfl⟩
  have ba : Below w.heap.size w wa := by rw [← hwa]; exact (Below.refl _ _).alloc (Nat.le_refl _) _
  have fa : Fa w.heap.size f wa := by rw [← hwa]; exact Fa.new w f
  have hFi := fField_any f wa
  have hne : (f.chk != 0) = true := by simpa using hf
  obtain ⟨q, hq⟩ : ∃ q, w.heap.size = q := ⟨_, rfl⟩
  have sa := ba.size
  rw [hq] at fa
  unfold Fr.val at *
  generalize f.chk = z at *
  go_enter Try.func13, Try.ntmps13
  go_upto_region 1 with fail
  go_wp2_with (refine fa.ld rfl _ rfl rfl ?_)
  refine hFi.mono ?_
  rintro e w2 ⟨rfl, b2⟩
  have B2 : Below w.heap.size w w2 := ba.trans (b2.mono sa)
  clear hFi fa
  go_wp2
  go_ret2
  exact ⟨rfl, B2⟩
set_option maxHeartbeats 1000000 in
theorem Send_full {w : World} {D n cap : Nat} {ao : Option Addr} {vc vf : Value} {bx tk rm lo : Int} (f : Fr) (hA : Dr D (dA bx (.slice ao n cap) tk rm vc lo vf) w) (hf : f.chk = 0) (hn : (n : Int) = bx) :
    Calls Try.prog 13 #[.pointer (some ⟨D, 0, none⟩), f.val] w fun e w' => e = .returned (.tuple #[.int .i64 0, .int .i64 31]) ∧ Below w.heap.size w w' := by
  obtain ⟨wa, hwa⟩ : ∃ wa, w.alloc (.cells f.arr 45) = wa := ⟨_, rfl⟩
  have ba : Below w.heap.size w wa := by rw [← hwa]; exact (Below.refl _ _).alloc (Nat.le_refl _) _
  have fa : Fa w.heap.size f wa := by rw [← hwa]; exact Fa.new w f
  have hFi := fField_any f wa
  rw [hf] at hFi
  obtain ⟨q, hq⟩ : ∃ q, w.heap.size = q := ⟨_, rfl⟩
  have lD : D < q := by rw [← hq]; exact (Array.getElem?_eq_some_iff.1 hA).1
  have sa := ba.size
  rw [hq] at fa
  have hne : ((n : Int) == bx) = true := by simpa using hn
  clear hn
  unfold Fr.val at *
  go_enter Try.func13, Try.ntmps13
  go_upto_region 1 with fail
  go_wp2_with (refine fa.ld rfl _ rfl rfl ?_)
  refine hFi.mono ?_
  rintro e w2 ⟨rfl, b2⟩
  have B2 : Below w.heap.size w w2 := ba.trans (b2.mono sa)
  have A2 : Dr D (dA bx (.slice ao n cap) tk rm vc lo vf) w2 := (B2.block D (by omega)).trans hA
  have c0 := A2.cell (k := 0) (v := .int .i64 bx) rfl
  have c1 := A2.cell (k := 1) (v := .slice ao n cap) rfl
  clear hFi fa A2
  go_wp2_with fail
  go_quiet (fail)
  go_wp2
  go_ret2
  exact ⟨rfl, below_drawn B2 _⟩
end Go.Proofs.Ytfddoindcmdooaa
