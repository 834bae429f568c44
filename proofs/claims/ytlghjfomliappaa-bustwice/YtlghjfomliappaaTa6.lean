/- Contracts: the test of firstOf, firstOf. Contracts: hear, spoil. Contracts: the test of end, end. append to rows of the call's own whose elements are structs; slices of one struct. The law FrameOrder returns true whatever two frames come in. -/
import Derived.Test.YtlghjfomliappaaTa5
import Derived.Great.FillDense
namespace Go.Proofs.Ytlghjfomliappaa
open Go.RowKit Go.Proofs.Bits
set_option linter.unusedVariables false
set_option maxRecDepth 1000000

theorem counts4_any {p q n : Nat} {v : Value} {l : List Se} {f : Fl} {w : World} (h0 : 0 ≤ f.nd) (h1 : f.nd < l.length) (hl : l.length ≤ 127) (hn : n ≤ 1000) (hS : Senders w v l) (hp : w.cell? ⟨p, 0, none⟩ = some (.pointer (some ⟨q, 0, none⟩))) (hq : w.cell? ⟨q, 5, none⟩ = some v) (hq6 : w.cell? ⟨q, 6, none⟩ = some (.int .i64 n)) :
    Calls Try.prog 90 #[f.val, .pointer (some ⟨p, 0, none⟩)] w fun e y => e = .returned (.bool (cntB l n f)) ∧ Below w.heap.size w y := by
  obtain ⟨k, hk⟩ : ∃ k : Nat, f.nd = k := ⟨f.nd.toNat, by omega⟩
  have hkl : k < l.length := by omega
  obtain ⟨ao, cap, rfl, _, hc⟩ := hS
  obtain ⟨b, off, rfl, hb, hR⟩ := hc k hkl
  have B1 : Below w.heap.size w (w.alloc (.cells #[.int .i64 k, .int .i64 f.bit] 57)) := (Below.refl _ _).alloc (Nat.le_refl _) _
  have HV : Hid (cntB l n f = (l[k].up && decide (f.bit < (n : Int) - 1))) := by
    show _ = _; unfold cntB upAt; rw [hk, Int.toNat_natCast, seAt_eq hkl]
  have c0 : w.cell? ⟨b, off + k * 14, none⟩ = some (.bool l[k].up) := hR 0 _ rfl
  have l1 := World.block_lt_of_cell? w _ hp
  have l2 := World.block_lt_of_cell? w _ hq
  have cp : (w.alloc (.cells #[.int .i64 k, .int .i64 f.bit] 57)).cell? ⟨p, 0, none⟩ = _ := (B1.cell (p := ⟨p, 0, none⟩) l1).trans hp
  have cq : (w.alloc (.cells #[.int .i64 k, .int .i64 f.bit] 57)).cell? ⟨q, 5, none⟩ = _ := (B1.cell (p := ⟨q, 5, none⟩) l2).trans hq
  have cq6 : (w.alloc (.cells #[.int .i64 k, .int .i64 f.bit] 57)).cell? ⟨q, 6, none⟩ = _ := (B1.cell (p := ⟨q, 6, none⟩) l2).trans hq6
  have c1 : (w.alloc (.cells #[.int .i64 k, .int .i64 f.bit] 57)).cell? ⟨b, off + k * 14, none⟩ = _ := (B1.cell (p := ⟨b, off + k * 14, none⟩) hb).trans c0
  have hfb := f.hb
  unfold Fl.val
  rw [hk]
  generalize l[k].up = up at *
  generalize cntB l n f = V at *
  generalize f.bit = bit at *
  clear hk h0 h1 hR hc hp hq hq6 c0
  cases up
  · have HE : Hid (V = false) := HV.out
    clear HV
    go_enter Try.func90, Try.ntmps90
    go_wp2_with fail
    go_quiet (fail)
    go_wp2
    go_ret
    exact ⟨ret_bool HE.out.symm, below_drawn B1 _⟩
  · have HE : Hid (V = decide (bit < (n : Int) - 1)) := by show _ = _; rw [HV.out]; simp
    clear HV
    go_enter Try.func90, Try.ntmps90
    go_wp2_with fail
    go_quiet (fail)
    go_wp2
    go_ret
    exact ⟨ret_bool HE.out.symm, below_drawn B1 _⟩
theorem enter3 : ∀ args x, (callFunc 90 args).run Try.prog x = .ok (.enter 90 args) x := fun _ _ => by rfl

/-- What firstOf has found so far: a flip in block q, and whether there is one. -/
def Fl.nul : Fl := ⟨0, 0, by decide, by decide⟩
def foV (o : Option Fl) : Fl := o.getD Fl.nul
def Fa2 (q : Nat) (f : Fl) (w : World) : Prop := w.heap[q]? = some (.cells #[.int .i64 f.nd, .int .i64 f.bit] 57 (0, 0))
theorem Fa2.new (w : World) (f : Fl) : Fa2 w.heap.size f (w.alloc (.cells #[.int .i64 f.nd, .int .i64 f.bit] 57)) := heap_alloc_new w _
theorem Fa2.lt {w : World} {q : Nat} {f : Fl} (h : Fa2 q f w) : q < w.heap.size := (Array.getElem?_eq_some_iff.1 h).1
theorem Fa2.below {w w' : World} {q : Nat} {f : Fl} (h : Fa2 q f w) (hb : Below w.heap.size w w') : Fa2 q f w' := (hb.block q h.lt).trans h
theorem Fa2.kept {w w' : World} {q : Nat} {f : Fl} (h : Fa2 q f w) (hb : w'.heap[q]? = w.heap[q]?) : Fa2 q f w' := hb.trans h
theorem Fa2.row {w : World} {q : Nat} {f : Fl} (h : Fa2 q f w) (g : Fl) : Fa2 q g (w.setRow q #[.int .i64 g.nd, .int .i64 g.bit]) := setRow_heap w q _ _ 57 _ h
theorem Fa2.c0 {w : World} {q : Nat} {f : Fl} (h : Fa2 q f w) : w.cell? ⟨q, 0, none⟩ = some (.int .i64 f.nd) := Lib.cell_of_heap h 0
theorem Fa2.c1 {w : World} {q : Nat} {f : Fl} (h : Fa2 q f w) : w.cell? ⟨q, 1, none⟩ = some (.int .i64 f.bit) := Lib.cell_of_heap h 1
theorem Fa2.sd {w : World} {q : Nat} {f : Fl} {ops : Array Oper} {rest : List Oper} {o : Oper} {a : Act} {Q : Exit → Act → World → Prop} (h : Fa2 q f w) (g : Fl) (hgd : o.guard = none) (x y : Operand) (ho : o.op = .store 57 x y) (hx : a.eval x = .pointer (some ⟨q, 0, none⟩)) (hy : a.eval y = g.val)
    (hh : wpList Try.prog ops Q rest (a.put o.dst undef) (w.setRow q #[.int .i64 g.nd, .int .i64 g.bit])) : wpList Try.prog ops Q (o :: rest) a w :=
  wpList_store_row hgd 57 x y ho q _ hx hy 57 _ h infoFl rfl (by simp [Value.oneCell']) hh
theorem Fa2.range {w : World} {q : Nat} {f : Fl} (h : Fa2 q f w) : w.rangeAt q 0 f.cells := by
  intro j v hj
  rw [Lib.cell_of_heap h, Nat.zero_add]
  simpa [Fl.cells] using hj
theorem Fa2.ld {w : World} {q : Nat} {f : Fl} {ops : Array Oper} {rest : List Oper} {p : Oper} {a : Act} {Q : Exit → Act → World → Prop} (h : Fa2 q f w) (hgd : p.guard = none) (x : Operand) (ho : p.op = .load 57 x) (hx : a.eval x = .pointer (some ⟨q, 0, none⟩))
    (hh : wpList Try.prog ops Q rest (a.put p.dst f.val) w) : wpList Try.prog ops Q (p :: rest) a w := fl_ld h.range hgd x ho hx hh
theorem Fa2.ldw {w : World} {q : Nat} {f : Fl} {ops : Array Oper} {rest : List Oper} {p : Oper} {a : Act} {Q : Exit → Act → World → Prop} (h : Fa2 q f w) (hgd : Region.wanted p (yielded ops a.tmps) = true) (x : Operand) (ho : p.op = .load 57 x) (hx : a.eval x = .pointer (some ⟨q, 0, none⟩))
    (hh : wpList Try.prog ops Q rest (a.put p.dst f.val) w) : wpList Try.prog ops Q (p :: rest) a w :=
  BigFrame.wpList_want hgd fun _ hK => wp_load_mid 57 x ho q 0 hx f.cells _ h.range Try.underlying57 rfl (by rw [infoFl]; rfl) (hK _ _ hh)
theorem fo1_no {l : List Se} {n : Nat} {acc : Option Fl} {f : Fl} (h : cntB l n f = false) : fo1 l n acc f = acc := by unfold fo1; simp [h]
theorem fo1_new {l : List Se} {n : Nat} {f : Fl} (h : cntB l n f = true) : fo1 l n none f = some f := by unfold fo1; simp [h]
theorem fo1_old {l : List Se} {n : Nat} {g f : Fl} (h : cntB l n f = true) : fo1 l n (some g) f = if befB f g then some f else some g := by unfold fo1; simp [h]

theorem fo_start (w : World) (q : Nat) :
    Below w.heap.size w (((w.alloc (.cells #[.pointer (some ⟨q, 0, none⟩)] 126)).alloc (.cells #[.int .i64 0, .int .i64 0] 57)).alloc (.cells #[.int .i64 0, .int .i64 0] 57)) ∧ (((w.alloc (.cells #[.pointer (some ⟨q, 0, none⟩)] 126)).alloc (.cells #[.int .i64 0, .int .i64 0] 57)).alloc (.cells #[.int .i64 0, .int .i64 0] 57)).cell? ⟨w.heap.size, 0, none⟩ = some (.pointer (some ⟨q, 0, none⟩)) ∧ Fa2 (w.heap.size + 1) Fl.nul (((w.alloc (.cells #[.pointer (some ⟨q, 0, none⟩)] 126)).alloc (.cells #[.int .i64 0, .int .i64 0] 57)).alloc (.cells #[.int .i64 0, .int .i64 0] 57)) ∧ Fa2 (w.heap.size + 2) Fl.nul (((w.alloc (.cells #[.pointer (some ⟨q, 0, none⟩)] 126)).alloc (.cells #[.int .i64 0, .int .i64 0] 57)).alloc (.cells #[.int .i64 0, .int .i64 0] 57)) := by
  have c0 := cell_new w (.pointer (some ⟨q, 0, none⟩)) 126
  refine ⟨(((Below.refl _ _).alloc (Nat.le_refl _) _).alloc (by rw [size_alloc]; omega) _).alloc (by rw [size_alloc, size_alloc]; omega) _, ?_, ?_, ?_⟩
  · have e : (((w.alloc (.cells #[.pointer (some ⟨q, 0, none⟩)] 126)).alloc (.cells #[.int .i64 0, .int .i64 0] 57)).alloc (.cells #[.int .i64 0, .int .i64 0] 57)).heap[w.heap.size]? = (w.alloc (.cells #[.pointer (some ⟨q, 0, none⟩)] 126)).heap[w.heap.size]? :=
      (Below.heap_alloc _ _ _ (by rw [size_alloc, size_alloc]; omega)).trans (Below.heap_alloc _ _ _ (by rw [size_alloc]; omega))
    exact (World.cell?_of_block (a := ⟨w.heap.size, 0, none⟩) e).trans c0
  · have := heap_alloc_new (w.alloc (.cells #[.pointer (some ⟨q, 0, none⟩)] 126)) (.cells #[.int .i64 0, .int .i64 0] 57)
    rw [size_alloc] at this
    exact (Below.heap_alloc _ _ _ (by rw [size_alloc, size_alloc]; omega)).trans this
  · have := heap_alloc_new ((w.alloc (.cells #[.pointer (some ⟨q, 0, none⟩)] 126)).alloc (.cells #[.int .i64 0, .int .i64 0] 57)) (.cells #[.int .i64 0, .int .i64 0] 57)
    rw [size_alloc, size_alloc] at this
    exact this
/-- The state between two rounds of firstOf. -/
def FoS (w : World) (g q : Nat) (o : Option Fl) (x : World) : Prop := Below g w x ∧ x.cell? ⟨g, 0, none⟩ = some (.pointer (some ⟨q, 0, none⟩)) ∧ Fa2 (g + 1) Fl.nul x ∧ Fa2 (g + 2) (foV o) x
theorem FoS.below {w : World} {g q : Nat} {o : Option Fl} {x y : World} (h : FoS w g q o x) (hg : g = w.heap.size) (hb : Below x.heap.size x y) : FoS w g q o y := by
  obtain ⟨b1, c1, r1, r2⟩ := h
  exact ⟨b1.trans (hb.mono (by rw [hg]; exact b1.size)), (hb.cell (p := ⟨g, 0, none⟩) (World.block_lt_of_cell? x _ c1)).trans c1, r1.below hb, r2.below hb⟩
theorem FoS.put {w : World} {g q : Nat} {o : Option Fl} {x : World} (h : FoS w g q o x) (hg : g = w.heap.size) (f : Fl) : FoS w g q (some f) (x.setRow (g + 2) #[.int .i64 f.nd, .int .i64 f.bit]) := by
  obtain ⟨b1, c1, r1, r2⟩ := h
  have l2 := r2.lt
  exact ⟨below_row b1 (by omega) (by omega) _, (World.cell?_of_block (a := ⟨g, 0, none⟩) (setRow_other x (g + 2) g _ (by omega))).trans c1, r1.kept (setRow_other x (g + 2) (g + 1) _ (by omega)), r2.row f⟩

set_option maxHeartbeats 2000000 in
theorem firstOf_any {q n : Nat} {v vf : Value} {l : List Se} {fl : List Fl} {w : World} (hl : l.length ≤ 127) (hn : n ≤ 1000) (hfl : fl.length ≤ 65536) (hok : ∀ f ∈ fl, 0 ≤ f.nd ∧ f.nd < l.length) (hS : Senders w v l) (hF : Flips w vf fl) (hq : w.cell? ⟨q, 5, none⟩ = some v) (hq6 : w.cell? ⟨q, 6, none⟩ = some (.int .i64 n)) :
    Calls Try.prog 74 #[.pointer (some ⟨q, 0, none⟩), vf] w fun e y => e = .returned (.tuple #[(foV (fo l n fl)).val, .bool (fo l n fl).isSome]) ∧ Below w.heap.size w y := by
  obtain ⟨ao, cp, rfl, _, hc⟩ := hF
  have HC : Hid (∀ (wr : World), Below w.heap.size w wr → ∀ k (hk : k < fl.length), ∃ b off, ao = some ⟨b, off, none⟩ ∧ b < w.heap.size ∧ wr.rangeAt b (off + k * 2) fl[k].cells) := fun wr hb k hk => Wide.at hc hb k hk
  have HP : Hid (∀ k (hk : k < fl.length), ∀ x, Below w.heap.size w x → x.cell? ⟨w.heap.size, 0, none⟩ = some (.pointer (some ⟨q, 0, none⟩)) → Calls Try.prog 90 #[fl[k].val, .pointer (some ⟨w.heap.size, 0, none⟩)] x fun e y => e = .returned (.bool (cntB l n fl[k])) ∧ Below x.heap.size x y) := by
    intro k hk x hx hcx
    have ho := hok _ (List.getElem_mem hk)
    have l2 := World.block_lt_of_cell? w _ hq
    exact counts4_any ho.1 ho.2 hl hn (hS.below hx) hcx ((hx.cell (p := ⟨q, 5, none⟩) l2).trans hq) ((hx.cell (p := ⟨q, 6, none⟩) l2).trans hq6)
  have hm := hmf
  have HL : Hid (fo l n fl = foK l n fl fl.length) := rfl
  clear hc hok hS hq hq6
  have H0 : Hid (FoS w w.heap.size q none _) := fo_start w q
  go_enter Try.func74, Try.ntmps74
  go_wp2
  generalize hg : w.heap.size = g at *
  go_loopw [9, 15] (fun d i x => ∃ k : Nat, k ≤ fl.length ∧ i = .int .i64 k ∧ d = .bool (foK l n fl k).isSome ∧ FoS w g q (foK l n fl k) x) (fun _ i _ => fl.length - (intOf i).toNat)
  case atStart => exact ⟨0, Nat.zero_le _, rfl, rfl, H0.out⟩
  case round =>
    clear H0
    obtain ⟨k, hk, rfl, rfl, S1⟩ := hrel
    by_cases hkl : k < fl.length
    · obtain ⟨b, off, rfl, hb, hR⟩ := HC.out wr S1.1 k hkl
      have HS : Hid (foK l n fl (k + 1) = fo1 l n (foK l n fl k) fl[k]) := foK_succ l n fl k hkl
      have gn := Fa2.new wr Fl.nul
      have g3 := gn.row fl[k]
      have s1 := S1.1.size
      have l2 := S1.2.2.2.lt
      have bb : Below wr.heap.size wr ((wr.alloc (.cells #[.int .i64 Fl.nul.nd, .int .i64 Fl.nul.bit] 57)).setRow wr.heap.size #[.int .i64 fl[k].nd, .int .i64 fl[k].bit]) := below_row ((Below.refl _ wr).alloc (Nat.le_refl _) _) (Nat.le_refl _) (by rw [size_alloc]; omega) _
      have S3 := S1.below hg.symm bb
      have hF := HP.out k hkl _ S3.1 S3.2.1
      generalize fl[k] = f at *
      generalize foK l n fl k = o at *
      clear HC HP bb
      go_wp2_with (first | refine fl_ld hR rfl _ rfl rfl ?_ | refine gn.sd f rfl _ _ rfl rfl rfl ?_ | refine g3.ldw rfl _ rfl rfl ?_)
      refine hF.mono ?_
      rintro e w4 ⟨rfl, B4⟩
      have S4 := S3.below hg.symm B4
      have g4 := g3.below B4
      clear hF B4 S3 S1 g3 gn hR
      cases hpf : cntB l n f
      · have H2 : Hid (foK l n fl (k + 1) = o) := by show _ = _; rw [HS.out, fo1_no hpf]
        clear HS hpf
        go_wp2
        go_roundw
        case rel => exact ⟨k + 1, by omega, by go_num, by rw [H2.out], by rw [H2.out]; exact S4⟩
        case measure => simp [intOf]; omega
      · cases o with
        | none =>
          have H2 : Hid (foK l n fl (k + 1) = some f) := by show _ = _; rw [HS.out, fo1_new hpf]
          have r4 := S4.2.2.2
          have HT : Hid (FoS w g q (some f) (w4.setRow (g + 2) #[.int .i64 f.nd, .int .i64 f.bit])) := S4.put hg.symm f
          clear HS hpf S4
          go_wp2_with (first | refine g4.ldw rfl _ rfl rfl ?_ | refine r4.sd f rfl _ _ rfl rfl rfl ?_)
          go_roundw
          case rel => exact ⟨k + 1, by omega, by go_num, by rw [H2.out]; rfl, by rw [H2.out]; exact HT.out⟩
          case measure => simp [intOf]; omega
        | some g' =>
          have r4 : Fa2 (g + 2) g' w4 := S4.2.2.2
          have hB := before_any f g' w4
          cases hbf : befB f g'
          · rw [hbf] at hB
            have H2 : Hid (foK l n fl (k + 1) = some g') := by show _ = _; rw [HS.out, fo1_old hpf, hbf]; rfl
            clear HS hpf hbf
            go_wp2_with (first | refine g4.ldw rfl _ rfl rfl ?_ | refine r4.ldw rfl _ rfl rfl ?_)
            refine hB.mono ?_
            rintro e w5 ⟨rfl, B5⟩
            have S5 := S4.below hg.symm B5
            clear hB B5 S4 r4 g4
            go_wp2
            go_roundw
            case rel => exact ⟨k + 1, by omega, by go_num, by rw [H2.out]; rfl, by rw [H2.out]; exact S5⟩
            case measure => simp [intOf]; omega
          · rw [hbf] at hB
            have H2 : Hid (foK l n fl (k + 1) = some f) := by show _ = _; rw [HS.out, fo1_old hpf, hbf]; rfl
            clear HS hpf hbf
            go_wp2_with (first | refine g4.ldw rfl _ rfl rfl ?_ | refine r4.ldw rfl _ rfl rfl ?_)
            refine hB.mono ?_
            rintro e w5 ⟨rfl, B5⟩
            have S5 := S4.below hg.symm B5
            have g5 := g4.below B5
            have r5 := S5.2.2.2
            have HT : Hid (FoS w g q (some f) (w5.setRow (g + 2) #[.int .i64 f.nd, .int .i64 f.bit])) := S5.put hg.symm f
            clear hB B5 S4 r4 g4 S5
            go_wp2_with (first | refine g5.ldw rfl _ rfl rfl ?_ | refine r5.sd f rfl _ _ rfl rfl rfl ?_)
            go_roundw
            case rel => exact ⟨k + 1, by omega, by go_num, by rw [H2.out]; rfl, by rw [H2.out]; exact HT.out⟩
            case measure => simp [intOf]; omega
    · obtain rfl : k = fl.length := by omega
      rw [← HL.out] at S1
      have HL2 : Hid ((foK l n fl fl.length).isSome = (fo l n fl).isSome) := by show _ = _; rw [HL.out]
      obtain ⟨B1, C1, R1, R2⟩ := S1
      have R3 := R1.row (foV (fo l n fl))
      have e0 := R3.c0
      have e1 := R3.c1
      have B3 := below_row B1 (q := g + 1) (by omega) (by have := R1.lt; omega) #[.int .i64 (foV (fo l n fl)).nd, .int .i64 (foV (fo l n fl)).bit]
      rw [HL2.out]
      clear HL HL2
      go_wp2_with (first | refine R2.ldw rfl _ rfl rfl ?_ | refine R1.sd (foV (fo l n fl)) rfl _ _ rfl rfl rfl ?_)
      exact bodyPost_ret (v := .tuple #[(foV (fo l n fl)).val, .bool (fo l n fl).isSome]) (by simp [results, Try.results74, go_sem, e0, e1, Fl.val]) rfl ⟨rfl, by rw [hg]; exact B3⟩
end Go.Proofs.Ytlghjfomliappaa
namespace Go.Proofs.Ytlghjfomliappaa
open Go.RowKit Go.Proofs.Bits
set_option linter.unusedVariables false
set_option maxRecDepth 1000000

def errV (z : Int) : Value := .int .i64 z
def sl (g n : Nat) : Value := .slice (some ⟨g, 0, none⟩) n n
/-- A runner and its two rows, made behind world w0. -/
structure RunAt (w0 : World) (q ge gg : Nat) (v : Value) (n : Nat) (r : Rn) (w : World) : Prop where
  bel : Below w0.heap.size w0 w
  ru : Ru q r (sl ge n) (sl gg n) v w
  er : Row w ge (r.errs.map errV)
  go : Row w gg (r.got.map Value.bool)
  b1 : w0.heap.size ≤ q
  b2 : w0.heap.size ≤ ge
  b3 : w0.heap.size ≤ gg
  d1 : q ≠ ge
  d2 : q ≠ gg
  d3 : ge ≠ gg
  le : r.errs.length = n
  lg : r.got.length = n
section
variable {w0 w : World} {q ge gg n : Nat} {v : Value} {r : Rn}
theorem RunAt.below (h : RunAt w0 q ge gg v n r w) {w' : World} (hb : Below w.heap.size w w') : RunAt w0 q ge gg v n r w' :=
  { h with bel := h.bel.trans (hb.mono h.bel.size), ru := h.ru.below hb, er := h.er.below hb, go := h.go.below hb }
theorem RunAt.alloc (h : RunAt w0 q ge gg v n r w) (o : Obj) : RunAt w0 q ge gg v n r (w.alloc o) := h.below ((Below.refl _ _).alloc (Nat.le_refl _) _)
theorem RunAt.drawn (h : RunAt w0 q ge gg v n r w) (k : Nat) : RunAt w0 q ge gg v n r (w.drewN k) := h.below (below_drawn (Below.refl _ _) k)
theorem RunAt.err (h : RunAt w0 q ge gg v n r w) (k : Nat) (z : Int) : RunAt w0 q ge gg v n { r with errs := r.errs.set k z } (w.setCell ⟨ge, k, none⟩ (.int .i64 z)) :=
  { h with bel := h.bel.setCell (p := ⟨ge, k, none⟩) h.b2 _, ru := h.ru.kept (Below.heap_setCell w ⟨ge, k, none⟩ _ q h.d1), er := by simpa [List.map_set, errV] using h.er.set k (errV z), go := h.go.kept (Below.heap_setCell w ⟨ge, k, none⟩ _ gg h.d3.symm), le := by simpa using h.le }
theorem RunAt.gotSet (h : RunAt w0 q ge gg v n r w) (k : Nat) (z : Bool) : RunAt w0 q ge gg v n { r with got := r.got.set k z } (w.setCell ⟨gg, k, none⟩ (.bool z)) :=
  { h with bel := h.bel.setCell (p := ⟨gg, k, none⟩) h.b3 _, ru := h.ru.kept (Below.heap_setCell w ⟨gg, k, none⟩ _ q h.d2), er := h.er.kept (Below.heap_setCell w ⟨gg, k, none⟩ _ ge h.d3), go := by simpa [List.map_set] using h.go.set k (.bool z), lg := by simpa using h.lg }
theorem RunAt.other (h : RunAt w0 q ge gg v n r w) {r' : Rn} {w' : World} (k : Nat) (x : Value) (hw : w' = w.setCell ⟨q, k, none⟩ x) (hr : Ru q r' (sl ge n) (sl gg n) v w') (he : r'.errs = r.errs) (hg : r'.got = r.got) : RunAt w0 q ge gg v n r' w' := by
  subst hw
  exact { h with bel := h.bel.setCell (p := ⟨q, k, none⟩) h.b1 _, ru := hr, er := by rw [he]; exact h.er.kept (Below.heap_setCell w ⟨q, k, none⟩ _ ge h.d1.symm), go := by rw [hg]; exact h.go.kept (Below.heap_setCell w ⟨q, k, none⟩ _ gg h.d2.symm), le := by rw [he]; exact h.le, lg := by rw [hg]; exact h.lg }
theorem RunAt.set0 (h : RunAt w0 q ge gg v n r w) (z : Int) : RunAt w0 q ge gg v n { r with win := z } (w.setCell ⟨q, 0, none⟩ (.int .i64 z)) := h.other 0 _ rfl (h.ru.set0 z) rfl rfl
theorem RunAt.set1 (h : RunAt w0 q ge gg v n r w) (z : Int) : RunAt w0 q ge gg v n { r with bits := z } (w.setCell ⟨q, 1, none⟩ (.int .i64 z)) := h.other 1 _ rfl (h.ru.set1 z) rfl rfl
theorem RunAt.set2 (h : RunAt w0 q ge gg v n r w) (z : Bool) : RunAt w0 q ge gg v n { r with sent := z } (w.setCell ⟨q, 2, none⟩ (.bool z)) := h.other 2 _ rfl (h.ru.set2 z) rfl rfl
theorem RunAt.set6 (h : RunAt w0 q ge gg v n r w) (z : Nat) : RunAt w0 q ge gg v n { r with len := z } (w.setCell ⟨q, 6, none⟩ (.int .i64 z)) := h.other 6 _ rfl (h.ru.set6 z) rfl rfl
theorem RunAt.set7 (h : RunAt w0 q ge gg v n r w) (z : Int) : RunAt w0 q ge gg v n { r with late := z } (w.setCell ⟨q, 7, none⟩ (.int .i64 z)) := h.other 7 _ rfl (h.ru.set7 z) rfl rfl
theorem RunAt.ec (h : RunAt w0 q ge gg v n r w) (k : Nat) (hk : k < n) : (∃ z, w.cell? ⟨ge, k, none⟩ = some (.int .i64 z)) ∧ w.frozen? ⟨ge, k, none⟩ = false := by
  have hl : k < (r.errs.map errV).length := by rw [List.length_map, h.le]; exact hk
  exact ⟨⟨_, (h.er.cell k hl).trans (by rw [List.getElem_map]; rfl)⟩, h.er.free k hl⟩
theorem RunAt.gc (h : RunAt w0 q ge gg v n r w) (k : Nat) (hk : k < n) : (∃ z, w.cell? ⟨gg, k, none⟩ = some (.bool z)) ∧ w.frozen? ⟨gg, k, none⟩ = false := by
  have hl : k < (r.got.map Value.bool).length := by rw [List.length_map, h.lg]; exact hk
  exact ⟨⟨_, (h.go.cell k hl).trans (by rw [List.getElem_map])⟩, h.go.free k hl⟩
end
/-- Old blocks other than g are as they were. -/
def KeptBut (g : Nat) (w w' : World) : Prop := w.heap.size ≤ w'.heap.size ∧ ∀ k, k < w.heap.size → k ≠ g → w'.heap[k]? = w.heap[k]?
theorem KeptBut.refl (g : Nat) (w : World) : KeptBut g w w := ⟨Nat.le_refl _, fun _ _ _ => rfl⟩
theorem KeptBut.below {g : Nat} {w x y : World} (h : KeptBut g w x) (hb : Below x.heap.size x y) : KeptBut g w y := ⟨Nat.le_trans h.1 hb.size, fun k hk hg => (hb.block k (Nat.lt_of_lt_of_le hk h.1)).trans (h.2 k hk hg)⟩
theorem KeptBut.set {g : Nat} {w x : World} (h : KeptBut g w x) (k : Nat) (v : Value) : KeptBut g w (x.setCell ⟨g, k, none⟩ v) := ⟨by simpa [World.setCell] using h.1, fun j hj hg => (Below.heap_setCell x ⟨g, k, none⟩ v j hg).trans (h.2 j hj hg)⟩
theorem KeptBut.cell {g : Nat} {w x : World} (h : KeptBut g w x) {b o : Nat} {v : Value} (hc : w.cell? ⟨b, o, none⟩ = some v) (hb : b ≠ g) : x.cell? ⟨b, o, none⟩ = some v :=
  (World.cell?_of_block (a := ⟨b, o, none⟩) (h.2 b (World.block_lt_of_cell? w _ hc) hb)).trans hc
theorem ne_dec (a b : Nat) : ((a : Int) != (b : Int)) = decide (a ≠ b) := by rw [Bool.eq_iff_iff]; simp; omega
set_option maxHeartbeats 2000000 in
theorem hear_any {w0 : World} {q ge gg : Nat} {v : Value} {l : List Se} {r : Rn} {w : World} {wn : Nat} (hl : l.length ≤ 127) (hwn : wn < l.length) (hS : Senders w0 v l) (h : RunAt w0 q ge gg v l.length r w) (hw : r.win = wn) (hg0 : r.got = List.replicate l.length false) :
    Calls Try.prog 77 #[.pointer (some ⟨q, 0, none⟩)] w fun e w' => e = .returned (.tuple #[]) ∧ RunAt w0 q ge gg v l.length { r with got := hearK l wn l.length } w' ∧ KeptBut gg w w' := by
  obtain ⟨ao, cap, rfl, _, hc⟩ := hS
  have HC : Hid (∀ (wr : World), Below w0.heap.size w0 wr → ∀ k (hk : k < l.length), ∃ b off, ao = some ⟨b, off, none⟩ ∧ b < w0.heap.size ∧ wr.rangeAt b (off + k * 14) l[k].cells) := fun wr hb k hk => Wide.at hc hb k hk
  have h0 : RunAt w0 q ge gg (.slice ao l.length cap) l.length { r with got := hearK l wn 0 } w := by
    rw [hearK_zero, ← hg0]; exact h
  obtain ⟨c0, c1, c2, c3, c4, c5, c6, c7, hf⟩ := h.ru.cells
  clear hc h
  go_enter Try.func77, Try.ntmps77
  go_wp2
  go_loopw [9] (fun i x => ∃ k : Nat, k ≤ l.length ∧ i = .int .i64 k ∧ RunAt w0 q ge gg (.slice ao l.length cap) l.length { r with got := hearK l wn k } x ∧ KeptBut gg w x) (fun i _ => l.length - (intOf i).toNat)
  case atStart => exact ⟨0, Nat.zero_le _, rfl, h0, KeptBut.refl _ _⟩
  case round =>
    clear h0 c0 c1 c2 c3 c4 c5 c6 c7 hf
    obtain ⟨k, hk, rfl, h1, K1⟩ := hrel
    by_cases hkl : k < l.length
    · obtain ⟨b, off, rfl, hb, hR⟩ := HC.out wr h1.bel k hkl
      have HS : Hid ((hearK l wn k).set k (l[k].up && decide (k ≠ wn)) = hearK l wn (k + 1)) := by
        have := hearK_set l wn k hkl; unfold upAt at this; rw [seAt_eq hkl] at this; exact this
      have gn := Sa.new wr Se.nul
      have g3 := gn.row l[k]
      have e0 := g3.c0
      have bb : Below wr.heap.size wr ((wr.alloc (.cells Se.nul.arr 40)).setRow wr.heap.size l[k].arr) := below_row ((Below.refl _ wr).alloc (Nat.le_refl _) _) (Nat.le_refl _) (by rw [size_alloc]; omega) _
      have h3 := h1.below bb
      obtain ⟨c0, c1, c2, c3, c4, c5, c6, c7, hf⟩ := h3.ru.cells
      obtain ⟨⟨z, e1⟩, e2⟩ := h3.gc k hkl
      have HT : Hid (∀ b : Bool, RunAt w0 q ge gg (.slice (some ⟨_, off, none⟩) l.length cap) l.length { r with got := (hearK l wn k).set k b } (((wr.alloc (.cells Se.nul.arr 40)).setRow wr.heap.size l[k].arr).setCell ⟨gg, k, none⟩ (.bool b)).drew) := fun b => (h3.gotSet k b).drawn 1
      have HK : Hid (∀ b : Bool, KeptBut gg w (((wr.alloc (.cells Se.nul.arr 40)).setRow wr.heap.size l[k].arr).setCell ⟨gg, k, none⟩ (.bool b)).drew) := fun b => ((K1.below bb).set k _).below (below_drawn (Below.refl _ _) 1)
      clear K1
      have d4 := h1.d1
      have d5 := h1.d2
      have d6 := h1.d3
      have lt1 := h1.ru.lt
      have lt2 := h1.go.lt
      simp only [hw] at c0
      simp only [sl] at c4
      generalize l[k] = s at *
      clear h1 h3 bb HC
      generalize s.up = up at *
      cases up
      · have HE : Hid (∀ b : Bool, b = false → (hearK l wn k).set k b = hearK l wn (k + 1)) := by rintro b rfl; rw [← HS.out]; rfl
        clear HS
        go_wp2_with (first | refine se_ld hR rfl _ rfl rfl ?_ | refine gn.sd s rfl _ _ rfl rfl rfl ?_)
        go_region
        go_wp2
        go_roundw
        case rel => exact ⟨k + 1, by omega, by go_num, by rw [← HE.out _ rfl]; exact HT.out _, HK.out _⟩
        case measure => simp [intOf]; omega
      · have HE : Hid ((hearK l wn k).set k ((k : Int) != (wn : Int)) = hearK l wn (k + 1)) := by show _ = _; rw [← HS.out, ne_dec]; rfl
        clear HS
        go_wp2_with (first | refine se_ld hR rfl _ rfl rfl ?_ | refine gn.sd s rfl _ _ rfl rfl rfl ?_)
        go_region
        go_wp2
        go_roundw
        case rel => exact ⟨k + 1, by omega, by go_num, by rw [← HE.out]; exact HT.out _, HK.out _⟩
        case measure => simp [intOf]; omega
    · obtain rfl : k = l.length := by omega
      go_wp2
      go_end0
      exact ⟨rfl, h1, K1⟩
set_option maxHeartbeats 2000000 in
theorem spoil_any {w0 : World} {q ge gg : Nat} {v : Value} {l : List Se} {r : Rn} {w : World} {f : Fl} (hl : l.length ≤ 127) (hf0 : 0 ≤ f.nd) (hf1 : f.nd < l.length) (hb0 : 0 ≤ f.bit) (hb1 : f.bit < 1000) (hn : r.len ≤ 1000) (hS : Senders w0 v l) (h : RunAt w0 q ge gg v l.length r w) (hg0 : r.errs = List.replicate l.length 0) :
    Calls Try.prog 76 #[.pointer (some ⟨q, 0, none⟩), f.val] w fun e w' => e = .returned (.tuple #[]) ∧ RunAt w0 q ge gg v l.length (rnSpoil l r f) w' := by
  obtain ⟨ao, cap, rfl, _, hc⟩ := hS
  have HC : Hid (∀ (wr : World), Below w0.heap.size w0 wr → ∀ k (hk : k < l.length), ∃ b off, ao = some ⟨b, off, none⟩ ∧ b < w0.heap.size ∧ wr.rangeAt b (off + k * 14) l[k].cells) := fun wr hb k hk => Wide.at hc hb k hk
  have h0 : RunAt w0 q ge gg (.slice ao l.length cap) l.length { r with errs := stuffK l 0 } (w.alloc (.cells #[.int .i64 f.nd, .int .i64 f.bit] 57)) := by
    rw [stuffK_zero, ← hg0]; exact h.alloc _
  obtain ⟨c0, c1, c2, c3, c4, c5, c6, c7, hf⟩ := h0.ru.cells
  have F0 := Fa2.new w f
  have qs : w0.heap.size ≤ w.heap.size := h.bel.size
  have q1 := h.ru.lt
  have q2 := h.er.lt
  have q3 := h.go.lt
  generalize hg : w.heap.size = g at *
  clear hc h
  unfold Fl.val
  go_enter Try.func76, Try.ntmps76
  go_wp2
  go_loopw [11] (fun i x => ∃ k : Nat, k ≤ l.length ∧ i = .int .i64 k ∧ Fa2 g f x ∧ RunAt w0 q ge gg (.slice ao l.length cap) l.length { r with errs := stuffK l k } x) (fun i _ => l.length - (intOf i).toNat)
  case atStart => exact ⟨0, Nat.zero_le _, rfl, F0, h0⟩
  case round =>
    clear h0 c0 c1 c2 c3 c4 c5 c6 c7 hf F0
    obtain ⟨k, hk, rfl, F1, h1⟩ := hrel
    by_cases hkl : k < l.length
    · obtain ⟨b, off, rfl, hb, hR⟩ := HC.out wr h1.bel k hkl
      have gn := Sa.new wr Se.nul
      have g3 := gn.row l[k]
      have e0 := g3.c0
      have bb : Below wr.heap.size wr ((wr.alloc (.cells Se.nul.arr 40)).setRow wr.heap.size l[k].arr) := below_row ((Below.refl _ wr).alloc (Nat.le_refl _) _) (Nat.le_refl _) (by rw [size_alloc]; omega) _
      have h3 := h1.below bb
      have F3 := F1.below bb
      obtain ⟨c0, c1, c2, c3, c4, c5, c6, c7, hf⟩ := h3.ru.cells
      obtain ⟨⟨z, e1⟩, e2⟩ := h3.ec k hkl
      have HU : Hid (l[k].up = true → (stuffK l k).set k 20 = stuffK l (k + 1)) := fun hu => stuffK_up l k (by unfold upAt; rw [seAt_eq hkl]; exact hu)
      have HD : Hid (l[k].up = false → stuffK l k = stuffK l (k + 1)) := fun hu => stuffK_down l k (by unfold upAt; rw [seAt_eq hkl]; exact hu)
      simp only [sl] at c3
      generalize l[k] = s at *
      have h4 : Hid (RunAt w0 q ge gg _ l.length { r with errs := (stuffK l k).set k 20 } _) := h3.err k 20
      have F4 : Hid (Fa2 g f (((wr.alloc (.cells Se.nul.arr 40)).setRow wr.heap.size s.arr).setCell ⟨ge, k, none⟩ (.int .i64 20))) := F3.kept (Below.heap_setCell _ _ _ _ (by show g ≠ ge; omega))
      clear HC bb h1
      generalize s.up = up at *
      cases up
      · have H3 : Hid _ := h3
        clear h3
        go_wp2_with (first | refine se_ld hR rfl _ rfl rfl ?_ | refine gn.sd s rfl _ _ rfl rfl rfl ?_)
        go_roundw
        case rel => exact ⟨k + 1, by omega, by go_num, F3, by rw [← HD.out rfl]; exact H3.out⟩
        case measure => simp [intOf]; omega
      · go_wp2_with (first | refine se_ld hR rfl _ rfl rfl ?_ | refine gn.sd s rfl _ _ rfl rfl rfl ?_)
        go_roundw
        case rel => exact ⟨k + 1, by omega, by go_num, F4.out, by rw [← HU.out rfl]; exact h4.out⟩
        case measure => simp [intOf]; omega
    · obtain rfl : k = l.length := by omega
      clear HC
      obtain ⟨k, hk⟩ : ∃ k : Nat, f.nd = k := ⟨f.nd.toNat, by omega⟩
      have hkl : k < l.length := by omega
      obtain ⟨c0, c1, c2, c3, c4, c5, c6, c7, hf⟩ := h1.ru.cells
      have e0 := F1.c0
      have e1 := F1.c1
      obtain ⟨⟨z, e3⟩, e4⟩ := h1.ec k hkl
      simp only [sl] at c3
      have hqg := h1.d1
      by_cases hbig : (r.len : Int) - 10 ≤ f.bit
      · have HZ : Hid (rnSpoil l r f = { r with errs := (stuffK l l.length).set k 22, late := k, bits := f.bit + 24 }) := by
          show _ = _; unfold rnSpoil; rw [if_pos hbig, hk]; rfl
        have hE := ((((h1.drawn 1).err k 22).drawn 1).set7 k).set1 (f.bit + 24)
        have HE : Hid _ := hE
        have d1 : decide ((r.len : Int) - 10 ≤ f.bit) = true := by simpa using hbig
        rw [hk] at e0
        clear h1 F1 hE
        go_wp2
        go_region
        go_wp2
        go_region
        go_wp2
        go_end0
        exact ⟨rfl, by rw [HZ.out]; exact HE.out⟩
      · have HZ : Hid (rnSpoil l r f = { r with errs := stuffK l l.length, late := k, bits := f.bit + 24 }) := by
          show _ = _; unfold rnSpoil; rw [if_neg hbig, hk]
        have hE := ((h1.drawn 1).set7 k).set1 (f.bit + 24)
        have HE : Hid _ := hE
        have d1 : decide ((r.len : Int) - 10 ≤ f.bit) = false := by simpa using hbig
        rw [hk] at e0
        clear h1 F1 hE
        go_wp2
        go_region
        go_wp2
        go_end0
        exact ⟨rfl, by rw [HZ.out]; exact HE.out⟩
end Go.Proofs.Ytlghjfomliappaa
namespace Go.Proofs.Ytlghjfomliappaa
open Go.RowKit Go.Proofs.Bits
set_option linter.unusedVariables false
set_option maxRecDepth 1000000

theorem eq_dec (a b : Int) : (a == b) = decide (a = b) := by rw [Bool.eq_iff_iff]; simp
theorem last_any {p q n wn : Nat} {f : Fl} {w : World} (hn : n ≤ 1000) (hwn : wn ≤ 127) (hp : w.cell? ⟨p, 0, none⟩ = some (.pointer (some ⟨q, 0, none⟩))) (hq : w.cell? ⟨q, 0, none⟩ = some (.int .i64 wn)) (hq6 : w.cell? ⟨q, 6, none⟩ = some (.int .i64 n)) :
    Calls Try.prog 75 #[f.val, .pointer (some ⟨p, 0, none⟩)] w fun e y => e = .returned (.bool (lastB wn n f)) ∧ Below w.heap.size w y := by
  have B1 : Below w.heap.size w (w.alloc (.cells #[.int .i64 f.nd, .int .i64 f.bit] 57)) := (Below.refl _ _).alloc (Nat.le_refl _) _
  have HV : Hid (lastB wn n f = (decide (f.nd = wn) && decide (f.bit = (n : Int) - 1))) := rfl
  have l1 := World.block_lt_of_cell? w _ hp
  have l2 := World.block_lt_of_cell? w _ hq
  have cp : (w.alloc (.cells #[.int .i64 f.nd, .int .i64 f.bit] 57)).cell? ⟨p, 0, none⟩ = _ := (B1.cell (p := ⟨p, 0, none⟩) l1).trans hp
  have cq : (w.alloc (.cells #[.int .i64 f.nd, .int .i64 f.bit] 57)).cell? ⟨q, 0, none⟩ = _ := (B1.cell (p := ⟨q, 0, none⟩) l2).trans hq
  have cq6 : (w.alloc (.cells #[.int .i64 f.nd, .int .i64 f.bit] 57)).cell? ⟨q, 6, none⟩ = _ := (B1.cell (p := ⟨q, 6, none⟩) l2).trans hq6
  have hfb := f.hb
  unfold Fl.val
  generalize lastB wn n f = V at *
  generalize f.bit = bit at *
  generalize f.nd = nd at *
  clear hp hq hq6
  by_cases h1 : nd = wn
  · subst h1
    have HE : Hid (V = (bit == (n : Int) - 1)) := by show _ = _; rw [HV.out, eq_dec]; simp
    clear HV
    go_enter Try.func75, Try.ntmps75
    go_wp2_with fail
    go_quiet (fail)
    go_wp2
    go_ret
    exact ⟨ret_bool HE.out.symm, below_drawn B1 _⟩
  · have d1 : (nd == (wn : Int)) = false := by rw [eq_dec]; simpa using h1
    have HE : Hid (V = false) := by show _ = _; rw [HV.out]; simp [h1]
    clear HV h1
    go_enter Try.func75, Try.ntmps75
    go_wp2_with fail
    go_quiet (fail)
    go_wp2
    go_ret
    exact ⟨ret_bool HE.out.symm, below_drawn B1 _⟩
theorem enter5 : ∀ args x, (callFunc 75 args).run Try.prog x = .ok (.enter 75 args) x := fun _ _ => by rfl
theorem fo_mem {l : List Se} {n : Nat} {fl : List Fl} {f : Fl} (h : fo l n fl = some f) : f ∈ fl ∧ cntB l n f = true := by
  have key : ∀ (xs : List Fl) (acc : Option Fl), xs.foldl (fo1 l n) acc = some f → (f ∈ xs ∧ cntB l n f = true) ∨ acc = some f := by
    intro xs
    induction xs with
    | nil => intro acc h; exact .inr h
    | cons x xs ih =>
      intro acc h
      rw [List.foldl_cons] at h
      rcases ih _ h with h1 | h1
      · exact .inl ⟨List.mem_cons_of_mem _ h1.1, h1.2⟩
      · unfold fo1 at h1
        cases hc : cntB l n x
        · rw [hc] at h1; exact .inr h1
        · rw [hc, if_pos rfl] at h1
          cases acc with
          | none => simp at h1; subst h1; exact .inl ⟨List.mem_cons_self, hc⟩
          | some g =>
            simp only at h1
            split at h1
            · simp at h1; subst h1; exact .inl ⟨List.mem_cons_self, hc⟩
            · exact .inr h1
  unfold fo foK at h
  rw [List.take_length] at h
  rcases key _ _ h with h1 | h1
  · exact h1
  · simp at h1
theorem ruWin {w0 w : World} {q ge gg n : Nat} {v : Value} {r : Rn} {wn : Nat} (h : RunAt w0 q ge gg v n r w) (hw : r.win = wn) : w.cell? ⟨q, 0, none⟩ = some (.int .i64 wn) := by rw [h.ru.cells.1, hw]
set_option maxHeartbeats 4000000 in
theorem end_any4 {w0 : World} {q ge gg : Nat} {v vf : Value} {l : List Se} {fl : List Fl} {r : Rn} {w : World} {wn : Nat} (hl : l.length ≤ 127) (hwn : wn < l.length) (hn : r.len ≤ 1000) (hfl : fl.length ≤ 65536) (hok : ∀ f ∈ fl, 0 ≤ f.nd ∧ f.nd < l.length ∧ 0 ≤ f.bit)
    (hS : Senders w0 v l) (hF : Flips w0 vf fl) (h : RunAt w0 q ge gg v l.length r w) (hw : r.win = wn) (hg0 : r.got = List.replicate l.length false) (he0 : r.errs = List.replicate l.length 0) :
    Calls Try.prog 47 #[.pointer (some ⟨q, 0, none⟩), vf] w fun e w' => e = .returned (.tuple #[]) ∧ RunAt w0 q ge gg v l.length (rnEnd l fl r wn) w' := by
  have hm := hmf
  have c0 := cell_new w (.pointer (some ⟨q, 0, none⟩)) 126
  have h0 := h.alloc (.cells #[.pointer (some ⟨q, 0, none⟩)] 126)
  obtain ⟨_, _, _, _, _, c5, c6, _, _⟩ := h0.ru.cells
  have HF := firstOf_any hl hn hfl (fun f hf => ⟨(hok f hf).1, (hok f hf).2.1⟩) (hS.below h0.bel) (hF.below h0.bel) c5 c6
  have HX : Hid (∀ x, Below (w.alloc (.cells #[.pointer (some ⟨q, 0, none⟩)] 126)).heap.size (w.alloc (.cells #[.pointer (some ⟨q, 0, none⟩)] 126)) x → RunAt w0 q ge gg v l.length r x ∧ x.cell? ⟨w.heap.size, 0, none⟩ = some (.pointer (some ⟨q, 0, none⟩))) := fun x hx => ⟨h0.below hx, (hx.cell (p := ⟨w.heap.size, 0, none⟩) (by rw [size_alloc]; exact Nat.lt_succ_self _)).trans c0⟩
  have HR : Hid (rnEnd l fl r wn = match fo l r.len fl with
  | some f => rnSpoil l r f
  | none => if alone l then { r with errs := r.errs.set wn 23, bits := (r.len : Int) - 8 + 20 }
    else if fl.any (lastB wn r.len) then { r with got := hearK l wn l.length, errs := r.errs.set wn 22, bits := (r.len : Int) + 20 }
    else { r with got := hearK l wn l.length, sent := true, bits := (r.len : Int) + 3 }) := rfl
  have HM : Hid (∀ f, fo l r.len fl = some f → f ∈ fl ∧ f.bit < 1000) := by
    intro f hf
    obtain ⟨h1, h2⟩ := fo_mem hf
    unfold cntB at h2
    simp at h2
    exact ⟨h1, by omega⟩
  have HOK : Hid (∀ f ∈ fl, 0 ≤ f.nd ∧ f.nd < l.length ∧ 0 ≤ f.bit) := hok
  generalize rnEnd l fl r wn = R at *
  have q1 := h.ru.lt
  have q2 := h.er.lt
  have q3 := h.go.lt
  clear h0 c0 c5 c6 h hok
  go_enter Try.func47, Try.ntmps47
  go_wp2_with fail
  refine HF.mono ?_
  rintro e w2 ⟨rfl, B2⟩
  have gn := Fa2.new w2 Fl.nul
  generalize hfo : fo l r.len fl = o at *
  have g3 := gn.row (foV o)
  have bb : Below w2.heap.size w2 ((w2.alloc (.cells #[.int .i64 Fl.nul.nd, .int .i64 Fl.nul.bit] 57)).setRow w2.heap.size #[.int .i64 (foV o).nd, .int .i64 (foV o).bit]) := below_row ((Below.refl _ w2).alloc (Nat.le_refl _) _) (Nat.le_refl _) (by rw [size_alloc]; omega) _
  have X3 := HX.out _ (B2.trans (bb.mono B2.size))
  clear HX HF B2 bb
  obtain ⟨h3, p3⟩ := X3
  generalize hg : w.heap.size = g at *
  generalize hg2 : w2.heap.size = g2 at *
  cases o with
  | some f =>
    obtain ⟨fm, fb⟩ := HM.out f rfl
    obtain ⟨o1, o2, o3⟩ := HOK.out f fm
    have HP := spoil_any hl o1 o2 o3 fb hn hS h3 he0
    have HR2 : Hid (R = rnSpoil l r f) := HR.out
    clear HR HM HOK
    go_wp2_with (first | refine gn.sd (foV (some f)) rfl _ _ rfl (by exact hg2 ▸ rfl) rfl ?_ | refine g3.ldw rfl _ rfl rfl ?_)
    refine HP.mono ?_
    rintro e w5 ⟨rfl, h5⟩
    go_wp2
    go_end0
    exact ⟨rfl, by rw [HR2.out]; exact h5⟩
  | none =>
    have HA := alone_any (q := q) (r := r) (ve := v) (vg := v) hl (hS.below h3.bel) h3.ru.cells.2.2.2.2.2.1
    generalize hal : alone l = al at *
    clear HM
    cases al with
    | true =>
      have HR2 : Hid (R = { r with errs := r.errs.set wn 23, bits := (r.len : Int) - 8 + 20 }) := HR.out
      clear HR HOK hal hfo
      go_wp2_with (first | refine gn.sd (foV none) rfl _ _ rfl (by exact hg2 ▸ rfl) rfl ?_ | refine g3.ldw rfl _ rfl rfl ?_)
      refine HA.mono ?_
      rintro e w5 ⟨rfl, B5⟩
      have h5 := h3.below B5
      have p5 := (B5.cell (p := ⟨g, 0, none⟩) (World.block_lt_of_cell? _ _ p3)).trans p3
      clear HA B5 h3 p3 g3 gn
      have c0 := ruWin h5 hw
      obtain ⟨_, c1, c2, c3, c4, c5, c6, c7, hf⟩ := h5.ru.cells
      obtain ⟨⟨z, e3⟩, e4⟩ := h5.ec wn hwn
      simp only [sl] at c3
      have hqg := h5.d1
      have hgl := World.block_lt_of_cell? _ _ p5
      have hx1 := h5.b1
      have HE : Hid _ := (((h5.err wn 23).drawn 1).set1 ((r.len : Int) - 8 + 20)).drawn 1
      have gq : g ≠ q := by omega
      have gge : g ≠ ge := by omega
      clear h5
      go_wp2
      go_region
      go_wp2
      go_region
      go_wp2
      go_end0
      exact ⟨rfl, by rw [HR2.out]; exact HE.out⟩
    | false =>
      rw [if_neg (by simp)] at HR
      go_wp2_with (first | refine gn.sd (foV none) rfl _ _ rfl (by exact hg2 ▸ rfl) rfl ?_ | refine g3.ldw rfl _ rfl rfl ?_)
      refine HA.mono ?_
      rintro e w5 ⟨rfl, B5⟩
      have h5 := h3.below B5
      have p5 := (B5.cell (p := ⟨g, 0, none⟩) (World.block_lt_of_cell? _ _ p3)).trans p3
      clear HA B5 h3 p3 g3 gn
      have HCF := ContainsFunc_any 75 enter5 (.pointer (some ⟨g, 0, none⟩)) (lastB wn r.len) vf fl w5 (by unfold maxLen; omega) (hF.below h5.bel) (fun f _ x hx => last_any hn (by omega) ((hx.cell (p := ⟨g, 0, none⟩) (World.block_lt_of_cell? _ _ p5)).trans p5) (ruWin (h5.below hx) hw) (h5.below hx).ru.cells.2.2.2.2.2.2.1)
      generalize hla : fl.any (lastB wn r.len) = la at *
      go_wp2_with fail
      refine HCF.mono ?_
      rintro e w6 ⟨rfl, B6⟩
      have h6 := h5.below B6
      have p6 := (B6.cell (p := ⟨g, 0, none⟩) (World.block_lt_of_cell? _ _ p5)).trans p5
      have hgl := World.block_lt_of_cell? _ _ p6
      have HH := hear_any hl hwn hS h6 hw hg0
      have hx1 := h6.b1
      have hx2 := h6.b3
      clear HCF B6 h5 p5
      have c0 := ruWin h6 hw
      obtain ⟨_, c1, c2, c3, c4, c5, c6, c7, hf⟩ := h6.ru.cells
      have hqg := h6.d1
      have gq : g ≠ q := by omega
      have gge : g ≠ ge := by omega
      have ggg : g ≠ gg := by omega
      cases la with
      | true =>
        have HR2 : Hid (R = { r with got := hearK l wn l.length, errs := r.errs.set wn 22, bits := (r.len : Int) + 20 }) := HR.out
        clear HR HOK hal hla hfo h6 c0 c1 c2 c3 c4 c5 c6 c7 hf
        go_wp2_with fail
        refine HH.mono ?_
        rintro e w7 ⟨rfl, h7, K7⟩
        have p7 := K7.cell p6 ggg
        have c0 := ruWin h7 hw
        obtain ⟨_, c1, c2, c3, c4, c5, c6, c7, hf⟩ := h7.ru.cells
        obtain ⟨⟨z, e3⟩, e4⟩ := h7.ec wn hwn
        simp only [sl] at c3
        have HE : Hid _ := (((h7.err wn 22).drawn 1).set1 ((r.len : Int) + 20)).drawn 1
        clear h7 K7 HH p6
        go_wp2
        go_region
        go_wp2
        go_region
        go_wp2
        go_end0
        exact ⟨rfl, by rw [HR2.out]; exact HE.out⟩
      | false =>
        have HR2 : Hid (R = { r with got := hearK l wn l.length, sent := true, bits := (r.len : Int) + 3 }) := HR.out
        clear HR HOK hal hla hfo h6 c0 c1 c2 c3 c4 c5 c6 c7 hf
        go_wp2_with fail
        refine HH.mono ?_
        rintro e w7 ⟨rfl, h7, K7⟩
        have p7 := K7.cell p6 ggg
        have c0 := ruWin h7 hw
        obtain ⟨_, c1, c2, c3, c4, c5, c6, c7, hf⟩ := h7.ru.cells
        have HE : Hid _ := ((h7.set2 true).set1 ((r.len : Int) + 3)).drawn 1
        clear h7 K7 HH p6
        go_wp2
        go_region
        go_wp2
        go_end0
        exact ⟨rfl, by rw [HR2.out]; exact HE.out⟩
end Go.Proofs.Ytlghjfomliappaa
namespace Go.Proofs.Ytlghjfomliappaa
open Go.RowKit Go.Proofs.Bits
set_option linter.unusedVariables false
set_option maxRecDepth 1000000

theorem infoI : (Try.prog.info? 3).map (fun i => (i.zero, i.size, i.bytes)) = some (some (.int .i64 0), 1, 8) := by kernel_rfl
def natV (j : Nat) : Value := .int .i64 j
theorem slots_new (w : World) (u : Value) (T : TypeId) : Slots (w.alloc (.cells #[u] T)) (.slice (some ⟨w.heap.size, 0, none⟩) 1 1) [u] := by
  refine ⟨some ⟨w.heap.size, 0, none⟩, 1, rfl, (fun h => by cases h), fun k hk => ⟨w.heap.size, 0, rfl, by rw [size_alloc]; omega, ?_⟩⟩
  rw [Lib.cell_of_heap (heap_alloc_new w _)]
  match k, hk with
  | 0, _ => rfl
  | k + 1, hk => simp at hk
/-- How a struct's cells lie. -/
structure Dec (α : Type) where
  dec : α → List Value
  c : Nat
  pos : 0 < c
  len : ∀ a, (dec a).length = c
  one : ∀ a, ∀ u ∈ dec a, u.oneCell' = true
def flatW {α : Type} (D : Dec α) (l : List α) : List Value := l.flatMap D.dec
section
variable {α : Type} (D : Dec α)
theorem flatW_len (l : List α) : (flatW D l).length = l.length * D.c := by
  induction l with
  | nil => simp [flatW]
  | cons f r ih => rw [flatW, List.flatMap_cons, List.length_append, D.len, ← flatW, ih, List.length_cons, Nat.succ_mul]; omega
theorem flatW_get (l : List α) (k j : Nat) (hk : k < l.length) (hj : j < D.c) : (flatW D l)[k * D.c + j]? = (D.dec l[k])[j]? := by
  induction l generalizing k with
  | nil => simp at hk
  | cons f r ih =>
    rw [flatW, List.flatMap_cons, ← flatW]
    match k, hk with
    | 0, _ => rw [List.getElem?_append_left (by rw [D.len]; omega)]; simp
    | k + 1, hk =>
      rw [List.getElem?_append_right (by rw [D.len, Nat.succ_mul]; omega), D.len, show (k + 1) * D.c + j - D.c = k * D.c + j by rw [Nat.succ_mul]; omega, ih k (by simpa using hk)]
      simp
theorem flatW_one (l : List α) : ∀ u ∈ flatW D l, u.oneCell' = true := by
  intro u hu
  obtain ⟨f, _, hf⟩ := List.mem_flatMap.1 hu
  exact D.one f u hf
theorem flatW_append (l m : List α) : flatW D (l ++ m) = flatW D l ++ flatW D m := by simp [flatW]
theorem wide_of_own {w : World} {B : Nat} {e : TypeId} {v : Value} {l : List α} (h : w.ownsRow B e D.c v l.length (flatW D l)) : Wide D.c D.dec w v l := by
  rcases h.2 with ⟨rfl, h0⟩ | ⟨g, cap, cur, rfl, hg, hcur, h1, h2, h3, h4⟩
  · obtain rfl := List.length_eq_zero_iff.1 h0
    exact ⟨none, 0, rfl, fun _ => ⟨rfl, rfl⟩, fun k hk => by simp at hk⟩
  · refine ⟨some ⟨g, 0, none⟩, cap, rfl, (fun h => by cases h), fun k hk => ⟨g, 0, rfl, (Array.getElem?_eq_some_iff.1 hcur).1, ?_⟩⟩
    intro j u hj
    have hjl : j < D.c := by have := (List.getElem?_eq_some_iff.1 hj).1; rw [D.len] at this; exact this
    have hlt : k * D.c + j < l.length * D.c := by
      have : (k + 1) * D.c ≤ l.length * D.c := Nat.mul_le_mul_right _ hk
      rw [Nat.succ_mul] at this; omega
    rw [Lib.cell_of_heap hcur, Nat.zero_add, ← hj, ← flatW_get D l k j hk hjl, ← h4, List.getElem?_take, if_pos hlt]
    simp
theorem own_empty_e (w : World) (e : TypeId) (c : Nat) : (w.alloc (.cells #[] e)).ownsRow w.heap.size e c (.slice (some ⟨w.heap.size, 0, none⟩) 0 0) 0 [] := by
  refine ⟨by simp, .inr ⟨w.heap.size, 0, #[], rfl, Nat.le_refl _, heap_alloc_new w _, Nat.le_refl _, by decide, by simp, by simp⟩⟩
/-- append of a slice that came in to a row of the call's own. -/
theorem append_wide {w : World} {ops : Array Oper} {rest : List Oper} {o : Oper} {a : Act} {Q : Exit → Act → World → Prop} (hgd : Region.wanted o (yielded ops a.tmps) = true) (s x : Operand) (t e : TypeId) (z : Value) (bytes : Nat)
    (ht : Try.prog.underlying t = some (.slice e)) (hinfo : (Try.prog.info? e).map (fun i => (i.zero, i.size, i.bytes)) = some (some z, D.c, bytes)) (hzs : z.cells.size = D.c)
    (ho : o.op = .call { callee := .builtin .append, args := #[s, x], argTypes := #[t, t] })
    (base : Nat) (v : Value) (xs : List α) (hs : a.eval s = v) (hown : w.ownsRow base e D.c v xs.length (flatW D xs))
    (vx : Value) (l : List α) (hx : a.eval x = vx) (hB : Wide D.c D.dec w vx l) (h63 : xs.length + l.length ≤ maxLen) (hbytes : (xs.length + l.length) * bytes ≤ 140737488355328) (hbase : base ≤ w.heap.size)
    (h : ∀ v' w', w'.ownsRow base e D.c v' (xs ++ l).length (flatW D (xs ++ l)) → w.grownBy w' v.ownBlock → wpList Try.prog ops Q rest (a.put o.dst v') w') : wpList Try.prog ops Q (o :: rest) a w := by
  obtain ⟨i0, hi, hz0, hz1, hz2⟩ := info_parts hinfo
  obtain ⟨ao, cap, rfl, h0, hc⟩ := hB
  cases ao with
  | none =>
    obtain ⟨rfl, rfl⟩ := h0 rfl
    refine BigFrame.wpList_want hgd fun K hK => ?_
    have hrun := run_append_owned_none (P := Try.prog) (w := w) base t o.type e i0 D.c ht hi v xs.length (flatW D xs) hown
    unfold Oper.wp
    simp only [List.length_nil] at hx
    simp [execOp, ho, resolve, invoke, builtin, hs, hx, hrun, Result.andThen]
    refine hK _ _ (h _ _ ?_ (grown_refl _ _))
    simpa using hown
  | some ad =>
    refine BigFrame.wpList_want hgd fun _ hK => wp_append_own w s x t ho base e i0 z D.c bytes ht hi hz0 hz1 hz2 hzs D.pos v xs.length (flatW D xs) hs hown ad l.length cap (flatW D l) hx (flatW_len D l) ?_ (flatW_one D l) h63 hbytes hbase ?_
    · intro j u hj
      have hlt : j < l.length * D.c := by have := (List.getElem?_eq_some_iff.1 hj).1; rw [flatW_len] at this; exact this
      have hdm := Nat.div_add_mod j D.c
      rw [Nat.mul_comm] at hdm
      have hk : j / D.c < l.length := Nat.div_lt_of_lt_mul (by rw [Nat.mul_comm]; exact hlt)
      have hm : j % D.c < D.c := Nat.mod_lt _ D.pos
      obtain ⟨b, off, ha, _, hR⟩ := hc (j / D.c) hk
      simp only [Option.some.injEq] at ha
      subst ha
      have e := flatW_get D l (j / D.c) (j % D.c) hk hm
      rw [hdm, hj] at e
      have := hR (j % D.c) u e.symm
      rw [Addr.add_mid]
      rw [Nat.add_assoc, hdm] at this
      exact this
    · intro v' w' h1 h2 h3
      refine hK _ _ (h v' w' ?_ h2)
      rw [List.length_append, flatW_append]
      exact h1
theorem wide_new (w : World) (x : α) (e : TypeId) : Wide D.c D.dec (w.alloc (.cells (D.dec x).toArray e)) (.slice (some ⟨w.heap.size, 0, none⟩) 1 1) [x] := by
  refine ⟨some ⟨w.heap.size, 0, none⟩, 1, rfl, (fun h => by cases h), fun k hk => ⟨w.heap.size, 0, rfl, by rw [size_alloc]; omega, ?_⟩⟩
  obtain rfl : k = 0 := by simp at hk; exact hk
  intro j v hj
  rw [Lib.cell_of_heap (heap_alloc_new w _)]
  simpa using hj
theorem one_bs {w : World} {ops : Array Oper} {rest : List Oper} {o : Oper} {a : Act} {Q : Exit → Act → World → Prop} (s : α) (t e : TypeId) (z : Value) (bytes : Nat) (hgd : o.guard = none) (x : Operand) (ho : o.op = .buildSlice t 1 #[(0, x)]) (hx : a.eval x = .agg (D.dec s).toArray)
    (ht : Try.prog.underlying t = some (.slice e)) (hinfo : (Try.prog.info? e).map (fun i => (i.zero, i.size, i.bytes)) = some (some z, D.c, bytes)) (hsmall : D.c ≤ 1000)
    (h : wpList Try.prog ops Q rest (a.put o.dst (.slice (some ⟨w.heap.size, 0, none⟩) 1 1)) (w.alloc (.cells (D.dec s).toArray e))) : wpList Try.prog ops Q (o :: rest) a w := by
  obtain ⟨i0, hi, hz0, hz1, hz2⟩ := info_parts hinfo
  refine wpList_buildSlice hgd t e 1 _ ho (D.dec s).toArray i0 z ht hi hz0 (by rw [hz1]; omega) (by rw [hz1]; have := D.pos; omega) ?_ h
  rw [hz1]
  have hsz : (Value.agg (D.dec s).toArray).cells.size = D.c := by simp [Value.cells, D.len]
  have := Go.Great.fill_whole D.pos [Value.agg (D.dec s).toArray] ((Array.range (1 * D.c)).map (z.cells[· % z.cells.size]!)) (by intro v hv; simp at hv; subst hv; exact hsz) (by simp)
  simpa [hx, Value.cells] using this
end
def DF : Dec Fr := ⟨Fr.cells, 12, by decide, fun f => by simp [Fr.cells, f.hdata], fun f u hu => by
  have := f.one
  rw [Array.all_eq_true_iff_forall_mem] at this
  exact this u (by simpa [Fr.arr] using hu)⟩
end Go.Proofs.Ytlghjfomliappaa
namespace Go.Proofs.Ytlghjfomliappaa
open Go.RowKit Go.Proofs.Bits
set_option linter.unusedVariables false
set_option maxRecDepth 1000000

theorem allOk_two {f g : Fr} (hf : f.chk = 0) (hg : g.chk = 0) : allOk [f, g] = true := by simp [allOk, hf, hg]
theorem first_same {f g : Fr} (hf : f.chk = 0) (hg : g.chk = 0) (h : f.field = g.field) : firstE [f, g] = 5 ∧ firstN [f, g] = 0 := by
  have e : firstE [f, g] = 5 := by
    unfold firstE
    rw [if_neg (by simp), allOk_two hf hg, if_pos rfl, if_neg]
    simp [flds, h]
  exact ⟨e, by unfold firstN; rw [e]; rfl⟩
theorem first_two {f g : Fr} (hf : f.chk = 0) (hg : g.chk = 0) (h : f.field ≠ g.field) : firstE [f, g] = 0 ∧ firstN [f, g] = if g.field < f.field then 1 else 0 := by
  have e : firstE [f, g] = 0 := by
    unfold firstE
    rw [if_neg (by simp), allOk_two hf hg, if_pos rfl, if_pos]
    simp [flds, h]
  refine ⟨e, ?_⟩
  unfold firstN
  rw [e, if_pos rfl]
  have e1 : best (flds [f, g]) 1 = 0 := by simp [best]
  show best (flds [f, g]) 2 = _
  rw [best, e1]
  simp [flds]
theorem less_txt (a b : List UInt8) : Op.bytesLess (⟨a.toArray⟩ : ByteArray).toList (⟨b.toArray⟩ : ByteArray).toList = decide (a < b) := by
  rw [Go.Proofs.bytesLess_eq, Lib.toList_data, Lib.toList_data]
theorem beq_list (a b : List UInt8) : ((⟨a.toArray⟩ : ByteArray).toList == (⟨b.toArray⟩ : ByteArray).toList) = decide (a = b) := by
  rw [Lib.toList_data, Lib.toList_data, Bool.eq_iff_iff]; simp
end Go.Proofs.Ytlghjfomliappaa
