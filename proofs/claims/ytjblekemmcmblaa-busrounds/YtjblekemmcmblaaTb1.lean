/- The document's own round: its outcome in memory, and plain facts. -/
import Derived.Test.YtjblekemmcmblaaRnd2
import Derived.Test.YtjblekemmcmblaaTwo
import Derived.Great.FillDense
import Derived.Deep.Cut
import Derived.Deep.CutRange
import Derived.Test.YtjblekemmcmblaaRnd1
import Derived.Test.YtjblekemmcmblaaMathB
import Derived.Test.YtjblekemmcmblaaOne
import Derived.Test.YtjblekemmcmblaaSums
import Derived.Test.YtjblekemmcmblaaEnc
namespace Go.Proofs.Ytjblekemmcmblaa
open Go.RowKit Go.Proofs.Bits
set_option linter.unusedVariables false
set_option maxRecDepth 1000000

theorem counts4_any {p q n : Nat} {v : Value} {l : List Se} {f : Fl} {w : World} (h0 : 0 ≤ f.nd) (h1 : f.nd < l.length) (hl : l.length ≤ 127) (hn : n ≤ 1000) (hS : Senders w v l) (hp : w.cell? ⟨p, 0, none⟩ = some (.pointer (some ⟨q, 0, none⟩))) (hq : w.cell? ⟨q, 5, none⟩ = some v) (hq6 : w.cell? ⟨q, 6, none⟩ = some (.int .i64 n)) :
    Calls Try.prog 90 #[f.val, .pointer (some ⟨p, 0, none⟩)] w fun e y => e = .returned (.bool (cntB l n f)) ∧ Below w.heap.size w y := by
  obtain ⟨k, hk⟩ : ∃ k : Nat, f.nd = k := ⟨f.nd.toNat, by omega⟩
  have hkl : k < l.length := by omega
  obtain ⟨ao, cap, rfl, _, hc⟩ := hS
  obtain ⟨b, off, rfl, hb, hR⟩ := hc k hkl
  have B1 : Below w.heap.size w (w.alloc (.cells #[.int .i64 k, .int .i64 f.bit] 57)) := (Below.refl _ _).alloc (Nat.le_refl _) _
  have HV : Hid (cntB l n f = (l[k].up && decide (f.bit < (n : Int) - 1))) := by
    show _ = _; unfold cntB upAt; rw [hk, Int.toNat_natCast, seAt_eq hkl]
  have c0 : w.cell? ⟨b, off + k * 14, none⟩ = some (.bool l[k].up) := hR 0 _ rfl
  have l1 := World.block_lt_of_cell? w _ hp
  have l2 := World.block_lt_of_cell? w _ hq
  have cp : (w.alloc (.cells #[.int .i64 k, .int .i64 f.bit] 57)).cell? ⟨p, 0, none⟩ = _ := (B1.cell (p := ⟨p, 0, none⟩) l1).trans hp
  have cq : (w.alloc (.cells #[.int .i64 k, .int .i64 f.bit] 57)).cell? ⟨q, 5, none⟩ = _ := (B1.cell (p := ⟨q, 5, none⟩) l2).trans hq
  have cq6 : (w.alloc (.cells #[.int .i64 k, .int .i64 f.bit] 57)).cell? ⟨q, 6, none⟩ = _ := (B1.cell (p := ⟨q, 6, none⟩) l2).trans hq6
  have c1 : (w.alloc (.cells #[.int .i64 k, .int .i64 f.bit] 57)).cell? ⟨b, off + k * 14, none⟩ = _ := (B1.cell (p := ⟨b, off + k * 14, none⟩) hb).trans c0
  have hfb := f.hb
  unfold Fl.val
  rw [hk]
  generalize l[k].up = up at *
  generalize cntB l n f = V at *
  generalize f.bit = bit at *
  clear hk h0 h1 hR hc hp hq hq6 c0
  cases up
  · have HE : Hid (V = false) := HV.out
    clear HV
    go_enter Try.func90, Try.ntmps90
    go_wp2_with fail
    go_quiet (fail)
    go_wp2
    go_ret
    exact ⟨ret_bool HE.out.symm, below_drawn B1 _⟩
  · have HE : Hid (V = decide (bit < (n : Int) - 1)) := by show _ = _; rw [HV.out]; simp
    clear HV
    go_enter Try.func90, Try.ntmps90
    go_wp2_with fail
    go_quiet (fail)
    go_wp2
    go_ret
    exact ⟨ret_bool HE.out.symm, below_drawn B1 _⟩
theorem enter3 : ∀ args x, (callFunc 90 args).run Try.prog x = .ok (.enter 90 args) x := fun _ _ => by rfl

/-- What firstOf has found so far: a flip in block q, and whether there is one. -/
def Fl.nul : Fl := ⟨0, 0, by decide, by decide⟩
def foV (o : Option Fl) : Fl := o.getD Fl.nul
def Fa2 (q : Nat) (f : Fl) (w : World) : Prop := w.heap[q]? = some (.cells #[.int .i64 f.nd, .int .i64 f.bit] 57 (0, 0))
theorem Fa2.new (w : World) (f : Fl) : Fa2 w.heap.size f (w.alloc (.cells #[.int .i64 f.nd, .int .i64 f.bit] 57)) := heap_alloc_new w _
theorem Fa2.lt {w : World} {q : Nat} {f : Fl} (h : Fa2 q f w) : q < w.heap.size := (Array.getElem?_eq_some_iff.1 h).1
theorem Fa2.below {w w' : World} {q : Nat} {f : Fl} (h : Fa2 q f w) (hb : Below w.heap.size w w') : Fa2 q f w' := (hb.block q h.lt).trans h
theorem Fa2.kept {w w' : World} {q : Nat} {f : Fl} (h : Fa2 q f w) (hb : w'.heap[q]? = w.heap[q]?) : Fa2 q f w' := hb.trans h
theorem Fa2.row {w : World} {q : Nat} {f : Fl} (h : Fa2 q f w) (g : Fl) : Fa2 q g (w.setRow q #[.int .i64 g.nd, .int .i64 g.bit]) := setRow_heap w q _ _ 57 _ h
theorem Fa2.c0 {w : World} {q : Nat} {f : Fl} (h : Fa2 q f w) : w.cell? ⟨q, 0, none⟩ = some (.int .i64 f.nd) := Lib.cell_of_heap h 0
theorem Fa2.c1 {w : World} {q : Nat} {f : Fl} (h : Fa2 q f w) : w.cell? ⟨q, 1, none⟩ = some (.int .i64 f.bit) := Lib.cell_of_heap h 1
theorem Fa2.sd {w : World} {q : Nat} {f : Fl} {ops : Array Oper} {rest : List Oper} {o : Oper} {a : Act} {Q : Exit → Act → World → Prop} (h : Fa2 q f w) (g : Fl) (hgd : o.guard = none) (x y : Operand) (ho : o.op = .store 57 x y) (hx : a.eval x = .pointer (some ⟨q, 0, none⟩)) (hy : a.eval y = g.val)
    (hh : wpList Try.prog ops Q rest (a.put o.dst undef) (w.setRow q #[.int .i64 g.nd, .int .i64 g.bit])) : wpList Try.prog ops Q (o :: rest) a w :=
  wpList_store_row hgd 57 x y ho q _ hx hy 57 _ h infoFl rfl (by simp [Value.oneCell']) hh
theorem Fa2.range {w : World} {q : Nat} {f : Fl} (h : Fa2 q f w) : w.rangeAt q 0 f.cells := by
  intro j v hj
  rw [Lib.cell_of_heap h, Nat.zero_add]
  simpa [Fl.cells] using hj
theorem Fa2.ld {w : World} {q : Nat} {f : Fl} {ops : Array Oper} {rest : List Oper} {p : Oper} {a : Act} {Q : Exit → Act → World → Prop} (h : Fa2 q f w) (hgd : p.guard = none) (x : Operand) (ho : p.op = .load 57 x) (hx : a.eval x = .pointer (some ⟨q, 0, none⟩))
    (hh : wpList Try.prog ops Q rest (a.put p.dst f.val) w) : wpList Try.prog ops Q (p :: rest) a w := fl_ld h.range hgd x ho hx hh
theorem Fa2.ldw {w : World} {q : Nat} {f : Fl} {ops : Array Oper} {rest : List Oper} {p : Oper} {a : Act} {Q : Exit → Act → World → Prop} (h : Fa2 q f w) (hgd : Region.wanted p (yielded ops a.tmps) = true) (x : Operand) (ho : p.op = .load 57 x) (hx : a.eval x = .pointer (some ⟨q, 0, none⟩))
    (hh : wpList Try.prog ops Q rest (a.put p.dst f.val) w) : wpList Try.prog ops Q (p :: rest) a w :=
  BigFrame.wpList_want hgd fun _ hK => wp_load_mid 57 x ho q 0 hx f.cells _ h.range Try.underlying57 rfl (by rw [infoFl]; rfl) (hK _ _ hh)
theorem fo1_no {l : List Se} {n : Nat} {acc : Option Fl} {f : Fl} (h : cntB l n f = false) : fo1 l n acc f = acc := by unfold fo1; simp [h]
theorem fo1_new {l : List Se} {n : Nat} {f : Fl} (h : cntB l n f = true) : fo1 l n none f = some f := by unfold fo1; simp [h]
theorem fo1_old {l : List Se} {n : Nat} {g f : Fl} (h : cntB l n f = true) : fo1 l n (some g) f = if befB f g then some f else some g := by unfold fo1; simp [h]

theorem fo_start (w : World) (q : Nat) :
    Below w.heap.size w (((w.alloc (.cells #[.pointer (some ⟨q, 0, none⟩)] 126)).alloc (.cells #[.int .i64 0, .int .i64 0] 57)).alloc (.cells #[.int .i64 0, .int .i64 0] 57)) ∧ (((w.alloc (.cells #[.pointer (some ⟨q, 0, none⟩)] 126)).alloc (.cells #[.int .i64 0, .int .i64 0] 57)).alloc (.cells #[.int .i64 0, .int .i64 0] 57)).cell? ⟨w.heap.size, 0, none⟩ = some (.pointer (some ⟨q, 0, none⟩)) ∧ Fa2 (w.heap.size + 1) Fl.nul (((w.alloc (.cells #[.pointer (some ⟨q, 0, none⟩)] 126)).alloc (.cells #[.int .i64 0, .int .i64 0] 57)).alloc (.cells #[.int .i64 0, .int .i64 0] 57)) ∧ Fa2 (w.heap.size + 2) Fl.nul (((w.alloc (.cells #[.pointer (some ⟨q, 0, none⟩)] 126)).alloc (.cells #[.int .i64 0, .int .i64 0] 57)).alloc (.cells #[.int .i64 0, .int .i64 0] 57)) := by
  have c0 := cell_new w (.pointer (some ⟨q, 0, none⟩)) 126
  refine ⟨(((Below.refl _ _).alloc (Nat.le_refl _) _).alloc (by rw [size_alloc]; omega) _).alloc (by rw [size_alloc, size_alloc]; omega) _, ?_, ?_, ?_⟩
  · have e : (((w.alloc (.cells #[.pointer (some ⟨q, 0, none⟩)] 126)).alloc (.cells #[.int .i64 0, .int .i64 0] 57)).alloc (.cells #[.int .i64 0, .int .i64 0] 57)).heap[w.heap.size]? = (w.alloc (.cells #[.pointer (some ⟨q, 0, none⟩)] 126)).heap[w.heap.size]? :=
      (Below.heap_alloc _ _ _ (by rw [size_alloc, size_alloc]; omega)).trans (Below.heap_alloc _ _ _ (by rw [size_alloc]; omega))
    exact (World.cell?_of_block (a := ⟨w.heap.size, 0, none⟩) e).trans c0
  · have := heap_alloc_new (w.alloc (.cells #[.pointer (some ⟨q, 0, none⟩)] 126)) (.cells #[.int .i64 0, .int .i64 0] 57)
    rw [size_alloc] at this
    exact (Below.heap_alloc _ _ _ (by rw [size_alloc, size_alloc]; omega)).trans this
  · have := heap_alloc_new ((w.alloc (.cells #[.pointer (some ⟨q, 0, none⟩)] 126)).alloc (.cells #[.int .i64 0, .int .i64 0] 57)) (.cells #[.int .i64 0, .int .i64 0] 57)
    rw [size_alloc, size_alloc] at this
    exact this
/-- The state between two rounds of firstOf. -/
def FoS (w : World) (g q : Nat) (o : Option Fl) (x : World) : Prop := Below g w x ∧ x.cell? ⟨g, 0, none⟩ = some (.pointer (some ⟨q, 0, none⟩)) ∧ Fa2 (g + 1) Fl.nul x ∧ Fa2 (g + 2) (foV o) x
theorem FoS.below {w : World} {g q : Nat} {o : Option Fl} {x y : World} (h : FoS w g q o x) (hg : g = w.heap.size) (hb : Below x.heap.size x y) : FoS w g q o y := by
  obtain ⟨b1, c1, r1, r2⟩ := h
  exact ⟨b1.trans (hb.mono (by rw [hg]; exact b1.size)), (hb.cell (p := ⟨g, 0, none⟩) (World.block_lt_of_cell? x _ c1)).trans c1, r1.below hb, r2.below hb⟩
theorem FoS.put {w : World} {g q : Nat} {o : Option Fl} {x : World} (h : FoS w g q o x) (hg : g = w.heap.size) (f : Fl) : FoS w g q (some f) (x.setRow (g + 2) #[.int .i64 f.nd, .int .i64 f.bit]) := by
  obtain ⟨b1, c1, r1, r2⟩ := h
  have l2 := r2.lt
  exact ⟨below_row b1 (by omega) (by omega) _, (World.cell?_of_block (a := ⟨g, 0, none⟩) (setRow_other x (g + 2) g _ (by omega))).trans c1, r1.kept (setRow_other x (g + 2) (g + 1) _ (by omega)), r2.row f⟩

set_option maxHeartbeats 2000000 in
theorem firstOf_any {q n : Nat} {v vf : Value} {l : List Se} {fl : List Fl} {w : World} (hl : l.length ≤ 127) (hn : n ≤ 1000) (hfl : fl.length ≤ 65536) (hok : ∀ f ∈ fl, 0 ≤ f.nd ∧ f.nd < l.length) (hS : Senders w v l) (hF : Flips w vf fl) (hq : w.cell? ⟨q, 5, none⟩ = some v) (hq6 : w.cell? ⟨q, 6, none⟩ = some (.int .i64 n)) :
    Calls Try.prog 74 #[.pointer (some ⟨q, 0, none⟩), vf] w fun e y => e = .returned (.tuple #[(foV (fo l n fl)).val, .bool (fo l n fl).isSome]) ∧ Below w.heap.size w y := by
  obtain ⟨ao, cp, rfl, _, hc⟩ := hF
  have HC : Hid (∀ (wr : World), Below w.heap.size w wr → ∀ k (hk : k < fl.length), ∃ b off, ao = some ⟨b, off, none⟩ ∧ b < w.heap.size ∧ wr.rangeAt b (off + k * 2) fl[k].cells) := fun wr hb k hk => Wide.at hc hb k hk
  have HP : Hid (∀ k (hk : k < fl.length), ∀ x, Below w.heap.size w x → x.cell? ⟨w.heap.size, 0, none⟩ = some (.pointer (some ⟨q, 0, none⟩)) → Calls Try.prog 90 #[fl[k].val, .pointer (some ⟨w.heap.size, 0, none⟩)] x fun e y => e = .returned (.bool (cntB l n fl[k])) ∧ Below x.heap.size x y) := by
    intro k hk x hx hcx
    have ho := hok _ (List.getElem_mem hk)
    have l2 := World.block_lt_of_cell? w _ hq
    exact counts4_any ho.1 ho.2 hl hn (hS.below hx) hcx ((hx.cell (p := ⟨q, 5, none⟩) l2).trans hq) ((hx.cell (p := ⟨q, 6, none⟩) l2).trans hq6)
  have hm := hmf
  have HL : Hid (fo l n fl = foK l n fl fl.length) := rfl
  clear hc hok hS hq hq6
  have H0 : Hid (FoS w w.heap.size q none _) := fo_start w q
  go_enter Try.func74, Try.ntmps74
  go_wp2
  generalize hg : w.heap.size = g at *
  go_loopw [9, 15] (fun d i x => ∃ k : Nat, k ≤ fl.length ∧ i = .int .i64 k ∧ d = .bool (foK l n fl k).isSome ∧ FoS w g q (foK l n fl k) x) (fun _ i _ => fl.length - (intOf i).toNat)
  case atStart => exact ⟨0, Nat.zero_le _, rfl, rfl, H0.out⟩
  case round =>
    clear H0
    obtain ⟨k, hk, rfl, rfl, S1⟩ := hrel
    by_cases hkl : k < fl.length
    · obtain ⟨b, off, rfl, hb, hR⟩ := HC.out wr S1.1 k hkl
      have HS : Hid (foK l n fl (k + 1) = fo1 l n (foK l n fl k) fl[k]) := foK_succ l n fl k hkl
      have gn := Fa2.new wr Fl.nul
      have g3 := gn.row fl[k]
      have s1 := S1.1.size
      have l2 := S1.2.2.2.lt
      have bb : Below wr.heap.size wr ((wr.alloc (.cells #[.int .i64 Fl.nul.nd, .int .i64 Fl.nul.bit] 57)).setRow wr.heap.size #[.int .i64 fl[k].nd, .int .i64 fl[k].bit]) := below_row ((Below.refl _ wr).alloc (Nat.le_refl _) _) (Nat.le_refl _) (by rw [size_alloc]; omega) _
      have S3 := S1.below hg.symm bb
      have hF := HP.out k hkl _ S3.1 S3.2.1
      generalize fl[k] = f at *
      generalize foK l n fl k = o at *
      clear HC HP bb
      go_wp2_with (first | refine fl_ld hR rfl _ rfl rfl ?_ | refine gn.sd f rfl _ _ rfl rfl rfl ?_ | refine g3.ldw rfl _ rfl rfl ?_)
      refine hF.mono ?_
      rintro e w4 ⟨rfl, B4⟩
      have S4 := S3.below hg.symm B4
      have g4 := g3.below B4
      clear hF B4 S3 S1 g3 gn hR
      cases hpf : cntB l n f
      · have H2 : Hid (foK l n fl (k + 1) = o) := by show _ = _; rw [HS.out, fo1_no hpf]
        clear HS hpf
        go_wp2
        go_roundw
        case rel => exact ⟨k + 1, by omega, by go_num, by rw [H2.out], by rw [H2.out]; exact S4⟩
        case measure => simp [intOf]; omega
      · cases o with
        | none =>
          have H2 : Hid (foK l n fl (k + 1) = some f) := by show _ = _; rw [HS.out, fo1_new hpf]
          have r4 := S4.2.2.2
          have HT : Hid (FoS w g q (some f) (w4.setRow (g + 2) #[.int .i64 f.nd, .int .i64 f.bit])) := S4.put hg.symm f
          clear HS hpf S4
          go_wp2_with (first | refine g4.ldw rfl _ rfl rfl ?_ | refine r4.sd f rfl _ _ rfl rfl rfl ?_)
          go_roundw
          case rel => exact ⟨k + 1, by omega, by go_num, by rw [H2.out]; rfl, by rw [H2.out]; exact HT.out⟩
          case measure => simp [intOf]; omega
        | some g' =>
          have r4 : Fa2 (g + 2) g' w4 := S4.2.2.2
          have hB := before_any f g' w4
          cases hbf : befB f g'
          · rw [hbf] at hB
            have H2 : Hid (foK l n fl (k + 1) = some g') := by show _ = _; rw [HS.out, fo1_old hpf, hbf]; rfl
            clear HS hpf hbf
            go_wp2_with (first | refine g4.ldw rfl _ rfl rfl ?_ | refine r4.ldw rfl _ rfl rfl ?_)
            refine hB.mono ?_
            rintro e w5 ⟨rfl, B5⟩
            have S5 := S4.below hg.symm B5
            clear hB B5 S4 r4 g4
            go_wp2
            go_roundw
            case rel => exact ⟨k + 1, by omega, by go_num, by rw [H2.out]; rfl, by rw [H2.out]; exact S5⟩
            case measure => simp [intOf]; omega
          · rw [hbf] at hB
            have H2 : Hid (foK l n fl (k + 1) = some f) := by show _ = _; rw [HS.out, fo1_old hpf, hbf]; rfl
            clear HS hpf hbf
            go_wp2_with (first | refine g4.ldw rfl _ rfl rfl ?_ | refine r4.ldw rfl _ rfl rfl ?_)
            refine hB.mono ?_
            rintro e w5 ⟨rfl, B5⟩
            have S5 := S4.below hg.symm B5
            have g5 := g4.below B5
            have r5 := S5.2.2.2
            have HT : Hid (FoS w g q (some f) (w5.setRow (g + 2) #[.int .i64 f.nd, .int .i64 f.bit])) := S5.put hg.symm f
            clear hB B5 S4 r4 g4 S5
            go_wp2_with (first | refine g5.ldw rfl _ rfl rfl ?_ | refine r5.sd f rfl _ _ rfl rfl rfl ?_)
            go_roundw
            case rel => exact ⟨k + 1, by omega, by go_num, by rw [H2.out]; rfl, by rw [H2.out]; exact HT.out⟩
            case measure => simp [intOf]; omega
    · obtain rfl : k = fl.length := by omega
      rw [← HL.out] at S1
      have HL2 : Hid ((foK l n fl fl.length).isSome = (fo l n fl).isSome) := by show _ = _; rw [HL.out]
      obtain ⟨B1, C1, R1, R2⟩ := S1
      have R3 := R1.row (foV (fo l n fl))
      have e0 := R3.c0
      have e1 := R3.c1
      have B3 := below_row B1 (q := g + 1) (by omega) (by have := R1.lt; omega) #[.int .i64 (foV (fo l n fl)).nd, .int .i64 (foV (fo l n fl)).bit]
      rw [HL2.out]
      clear HL HL2
      go_wp2_with (first | refine R2.ldw rfl _ rfl rfl ?_ | refine R1.sd (foV (fo l n fl)) rfl _ _ rfl rfl rfl ?_)
      exact bodyPost_ret (v := .tuple #[(foV (fo l n fl)).val, .bool (fo l n fl).isSome]) (by simp [results, Try.results74, go_sem, e0, e1, Fl.val]) rfl ⟨rfl, by rw [hg]; exact B3⟩
end Go.Proofs.Ytjblekemmcmblaa
namespace Go.Proofs.Ytjblekemmcmblaa
open Go.RowKit Go.Proofs.Bits
set_option linter.unusedVariables false
set_option maxRecDepth 1000000

def errV (z : Int) : Value := .int .i64 z
def sl (g n : Nat) : Value := .slice (some ⟨g, 0, none⟩) n n
/-- A runner and its two rows, made behind world w0. -/
structure RunAt (w0 : World) (q ge gg : Nat) (v : Value) (n : Nat) (r : Rn) (w : World) : Prop where
  bel : Below w0.heap.size w0 w
  ru : Ru q r (sl ge n) (sl gg n) v w
  er : Row w ge (r.errs.map errV)
  go : Row w gg (r.got.map Value.bool)
  b1 : w0.heap.size ≤ q
  b2 : w0.heap.size ≤ ge
  b3 : w0.heap.size ≤ gg
  d1 : q ≠ ge
  d2 : q ≠ gg
  d3 : ge ≠ gg
  le : r.errs.length = n
  lg : r.got.length = n
section
variable {w0 w : World} {q ge gg n : Nat} {v : Value} {r : Rn}
theorem RunAt.below (h : RunAt w0 q ge gg v n r w) {w' : World} (hb : Below w.heap.size w w') : RunAt w0 q ge gg v n r w' :=
  { h with bel := h.bel.trans (hb.mono h.bel.size), ru := h.ru.below hb, er := h.er.below hb, go := h.go.below hb }
theorem RunAt.alloc (h : RunAt w0 q ge gg v n r w) (o : Obj) : RunAt w0 q ge gg v n r (w.alloc o) := h.below ((Below.refl _ _).alloc (Nat.le_refl _) _)
theorem RunAt.drawn (h : RunAt w0 q ge gg v n r w) (k : Nat) : RunAt w0 q ge gg v n r (w.drewN k) := h.below (below_drawn (Below.refl _ _) k)
theorem RunAt.err (h : RunAt w0 q ge gg v n r w) (k : Nat) (z : Int) : RunAt w0 q ge gg v n { r with errs := r.errs.set k z } (w.setCell ⟨ge, k, none⟩ (.int .i64 z)) :=
  { h with bel := h.bel.setCell (p := ⟨ge, k, none⟩) h.b2 _, ru := h.ru.kept (Below.heap_setCell w ⟨ge, k, none⟩ _ q h.d1), er := by simpa [List.map_set, errV] using h.er.set k (errV z), go := h.go.kept (Below.heap_setCell w ⟨ge, k, none⟩ _ gg h.d3.symm), le := by simpa using h.le }
theorem RunAt.gotSet (h : RunAt w0 q ge gg v n r w) (k : Nat) (z : Bool) : RunAt w0 q ge gg v n { r with got := r.got.set k z } (w.setCell ⟨gg, k, none⟩ (.bool z)) :=
  { h with bel := h.bel.setCell (p := ⟨gg, k, none⟩) h.b3 _, ru := h.ru.kept (Below.heap_setCell w ⟨gg, k, none⟩ _ q h.d2), er := h.er.kept (Below.heap_setCell w ⟨gg, k, none⟩ _ ge h.d3), go := by simpa [List.map_set] using h.go.set k (.bool z), lg := by simpa using h.lg }
theorem RunAt.other (h : RunAt w0 q ge gg v n r w) {r' : Rn} {w' : World} (k : Nat) (x : Value) (hw : w' = w.setCell ⟨q, k, none⟩ x) (hr : Ru q r' (sl ge n) (sl gg n) v w') (he : r'.errs = r.errs) (hg : r'.got = r.got) : RunAt w0 q ge gg v n r' w' := by
  subst hw
  exact { h with bel := h.bel.setCell (p := ⟨q, k, none⟩) h.b1 _, ru := hr, er := by rw [he]; exact h.er.kept (Below.heap_setCell w ⟨q, k, none⟩ _ ge h.d1.symm), go := by rw [hg]; exact h.go.kept (Below.heap_setCell w ⟨q, k, none⟩ _ gg h.d2.symm), le := by rw [he]; exact h.le, lg := by rw [hg]; exact h.lg }
theorem RunAt.set0 (h : RunAt w0 q ge gg v n r w) (z : Int) : RunAt w0 q ge gg v n { r with win := z } (w.setCell ⟨q, 0, none⟩ (.int .i64 z)) := h.other 0 _ rfl (h.ru.set0 z) rfl rfl
theorem RunAt.set1 (h : RunAt w0 q ge gg v n r w) (z : Int) : RunAt w0 q ge gg v n { r with bits := z } (w.setCell ⟨q, 1, none⟩ (.int .i64 z)) := h.other 1 _ rfl (h.ru.set1 z) rfl rfl
theorem RunAt.set2 (h : RunAt w0 q ge gg v n r w) (z : Bool) : RunAt w0 q ge gg v n { r with sent := z } (w.setCell ⟨q, 2, none⟩ (.bool z)) := h.other 2 _ rfl (h.ru.set2 z) rfl rfl
theorem RunAt.set6 (h : RunAt w0 q ge gg v n r w) (z : Nat) : RunAt w0 q ge gg v n { r with len := z } (w.setCell ⟨q, 6, none⟩ (.int .i64 z)) := h.other 6 _ rfl (h.ru.set6 z) rfl rfl
theorem RunAt.set7 (h : RunAt w0 q ge gg v n r w) (z : Int) : RunAt w0 q ge gg v n { r with late := z } (w.setCell ⟨q, 7, none⟩ (.int .i64 z)) := h.other 7 _ rfl (h.ru.set7 z) rfl rfl
theorem RunAt.ec (h : RunAt w0 q ge gg v n r w) (k : Nat) (hk : k < n) : (∃ z, w.cell? ⟨ge, k, none⟩ = some (.int .i64 z)) ∧ w.frozen? ⟨ge, k, none⟩ = false := by
  have hl : k < (r.errs.map errV).length := by rw [List.length_map, h.le]; exact hk
  exact ⟨⟨_, (h.er.cell k hl).trans (by rw [List.getElem_map]; rfl)⟩, h.er.free k hl⟩
theorem RunAt.gc (h : RunAt w0 q ge gg v n r w) (k : Nat) (hk : k < n) : (∃ z, w.cell? ⟨gg, k, none⟩ = some (.bool z)) ∧ w.frozen? ⟨gg, k, none⟩ = false := by
  have hl : k < (r.got.map Value.bool).length := by rw [List.length_map, h.lg]; exact hk
  exact ⟨⟨_, (h.go.cell k hl).trans (by rw [List.getElem_map])⟩, h.go.free k hl⟩
end
/-- Old blocks other than g are as they were. -/
def KeptBut (g : Nat) (w w' : World) : Prop := w.heap.size ≤ w'.heap.size ∧ ∀ k, k < w.heap.size → k ≠ g → w'.heap[k]? = w.heap[k]?
theorem KeptBut.refl (g : Nat) (w : World) : KeptBut g w w := ⟨Nat.le_refl _, fun _ _ _ => rfl⟩
theorem KeptBut.below {g : Nat} {w x y : World} (h : KeptBut g w x) (hb : Below x.heap.size x y) : KeptBut g w y := ⟨Nat.le_trans h.1 hb.size, fun k hk hg => (hb.block k (Nat.lt_of_lt_of_le hk h.1)).trans (h.2 k hk hg)⟩
theorem KeptBut.set {g : Nat} {w x : World} (h : KeptBut g w x) (k : Nat) (v : Value) : KeptBut g w (x.setCell ⟨g, k, none⟩ v) := ⟨by simpa [World.setCell] using h.1, fun j hj hg => (Below.heap_setCell x ⟨g, k, none⟩ v j hg).trans (h.2 j hj hg)⟩
theorem KeptBut.cell {g : Nat} {w x : World} (h : KeptBut g w x) {b o : Nat} {v : Value} (hc : w.cell? ⟨b, o, none⟩ = some v) (hb : b ≠ g) : x.cell? ⟨b, o, none⟩ = some v :=
  (World.cell?_of_block (a := ⟨b, o, none⟩) (h.2 b (World.block_lt_of_cell? w _ hc) hb)).trans hc
theorem ne_dec (a b : Nat) : ((a : Int) != (b : Int)) = decide (a ≠ b) := by rw [Bool.eq_iff_iff]; simp; omega
set_option maxHeartbeats 2000000 in
theorem hear_any {w0 : World} {q ge gg : Nat} {v : Value} {l : List Se} {r : Rn} {w : World} {wn : Nat} (hl : l.length ≤ 127) (hwn : wn < l.length) (hS : Senders w0 v l) (h : RunAt w0 q ge gg v l.length r w) (hw : r.win = wn) (hg0 : r.got = List.replicate l.length false) :
    Calls Try.prog 77 #[.pointer (some ⟨q, 0, none⟩)] w fun e w' => e = .returned (.tuple #[]) ∧ RunAt w0 q ge gg v l.length { r with got := hearK l wn l.length } w' ∧ KeptBut gg w w' := by
  obtain ⟨ao, cap, rfl, _, hc⟩ := hS
  have HC : Hid (∀ (wr : World), Below w0.heap.size w0 wr → ∀ k (hk : k < l.length), ∃ b off, ao = some ⟨b, off, none⟩ ∧ b < w0.heap.size ∧ wr.rangeAt b (off + k * 14) l[k].cells) := fun wr hb k hk => Wide.at hc hb k hk
  have h0 : RunAt w0 q ge gg (.slice ao l.length cap) l.length { r with got := hearK l wn 0 } w := by
    rw [hearK_zero, ← hg0]; exact h
  obtain ⟨c0, c1, c2, c3, c4, c5, c6, c7, hf⟩ := h.ru.cells
  clear hc h
  go_enter Try.func77, Try.ntmps77
  go_wp2
  go_loopw [9] (fun i x => ∃ k : Nat, k ≤ l.length ∧ i = .int .i64 k ∧ RunAt w0 q ge gg (.slice ao l.length cap) l.length { r with got := hearK l wn k } x ∧ KeptBut gg w x) (fun i _ => l.length - (intOf i).toNat)
  case atStart => exact ⟨0, Nat.zero_le _, rfl, h0, KeptBut.refl _ _⟩
  case round =>
    clear h0 c0 c1 c2 c3 c4 c5 c6 c7 hf
    obtain ⟨k, hk, rfl, h1, K1⟩ := hrel
    by_cases hkl : k < l.length
    · obtain ⟨b, off, rfl, hb, hR⟩ := HC.out wr h1.bel k hkl
      have HS : Hid ((hearK l wn k).set k (l[k].up && decide (k ≠ wn)) = hearK l wn (k + 1)) := by
        have := hearK_set l wn k hkl; unfold upAt at this; rw [seAt_eq hkl] at this; exact this
      have gn := Sa.new wr Se.nul
      have g3 := gn.row l[k]
      have e0 := g3.c0
      have bb : Below wr.heap.size wr ((wr.alloc (.cells Se.nul.arr 40)).setRow wr.heap.size l[k].arr) := below_row ((Below.refl _ wr).alloc (Nat.le_refl _) _) (Nat.le_refl _) (by rw [size_alloc]; omega) _
      have h3 := h1.below bb
      obtain ⟨c0, c1, c2, c3, c4, c5, c6, c7, hf⟩ := h3.ru.cells
      obtain ⟨⟨z, e1⟩, e2⟩ := h3.gc k hkl
      have HT : Hid (∀ b : Bool, RunAt w0 q ge gg (.slice (some ⟨_, off, none⟩) l.length cap) l.length { r with got := (hearK l wn k).set k b } (((wr.alloc (.cells Se.nul.arr 40)).setRow wr.heap.size l[k].arr).setCell ⟨gg, k, none⟩ (.bool b)).drew) := fun b => (h3.gotSet k b).drawn 1
      have HK : Hid (∀ b : Bool, KeptBut gg w (((wr.alloc (.cells Se.nul.arr 40)).setRow wr.heap.size l[k].arr).setCell ⟨gg, k, none⟩ (.bool b)).drew) := fun b => ((K1.below bb).set k _).below (below_drawn (Below.refl _ _) 1)
      clear K1
      have d4 := h1.d1
      have d5 := h1.d2
      have d6 := h1.d3
      have lt1 := h1.ru.lt
      have lt2 := h1.go.lt
      simp only [hw] at c0
      simp only [sl] at c4
      generalize l[k] = s at *
      clear h1 h3 bb HC
      generalize s.up = up at *
      cases up
      · have HE : Hid (∀ b : Bool, b = false → (hearK l wn k).set k b = hearK l wn (k + 1)) := by rintro b rfl; rw [← HS.out]; rfl
        clear HS
        go_wp2_with (first | refine se_ld hR rfl _ rfl rfl ?_ | refine gn.sd s rfl _ _ rfl rfl rfl ?_)
        go_region
        go_wp2
        go_roundw
        case rel => exact ⟨k + 1, by omega, by go_num, by rw [← HE.out _ rfl]; exact HT.out _, HK.out _⟩
        case measure => simp [intOf]; omega
      · have HE : Hid ((hearK l wn k).set k ((k : Int) != (wn : Int)) = hearK l wn (k + 1)) := by show _ = _; rw [← HS.out, ne_dec]; rfl
        clear HS
        go_wp2_with (first | refine se_ld hR rfl _ rfl rfl ?_ | refine gn.sd s rfl _ _ rfl rfl rfl ?_)
        go_region
        go_wp2
        go_roundw
        case rel => exact ⟨k + 1, by omega, by go_num, by rw [← HE.out]; exact HT.out _, HK.out _⟩
        case measure => simp [intOf]; omega
    · obtain rfl : k = l.length := by omega
      go_wp2
      go_end0
      exact ⟨rfl, h1, K1⟩
set_option maxHeartbeats 2000000 in
theorem spoil_any {w0 : World} {q ge gg : Nat} {v : Value} {l : List Se} {r : Rn} {w : World} {f : Fl} (hl : l.length ≤ 127) (hf0 : 0 ≤ f.nd) (hf1 : f.nd < l.length) (hb0 : 0 ≤ f.bit) (hb1 : f.bit < 1000) (hn : r.len ≤ 1000) (hS : Senders w0 v l) (h : RunAt w0 q ge gg v l.length r w) (hg0 : r.errs = List.replicate l.length 0) :
    Calls Try.prog 76 #[.pointer (some ⟨q, 0, none⟩), f.val] w fun e w' => e = .returned (.tuple #[]) ∧ RunAt w0 q ge gg v l.length (rnSpoil l r f) w' := by
  obtain ⟨ao, cap, rfl, _, hc⟩ := hS
  have HC : Hid (∀ (wr : World), Below w0.heap.size w0 wr → ∀ k (hk : k < l.length), ∃ b off, ao = some ⟨b, off, none⟩ ∧ b < w0.heap.size ∧ wr.rangeAt b (off + k * 14) l[k].cells) := fun wr hb k hk => Wide.at hc hb k hk
  have h0 : RunAt w0 q ge gg (.slice ao l.length cap) l.length { r with errs := stuffK l 0 } (w.alloc (.cells #[.int .i64 f.nd, .int .i64 f.bit] 57)) := by
    rw [stuffK_zero, ← hg0]; exact h.alloc _
  obtain ⟨c0, c1, c2, c3, c4, c5, c6, c7, hf⟩ := h0.ru.cells
  have F0 := Fa2.new w f
  have qs : w0.heap.size ≤ w.heap.size := h.bel.size
  have q1 := h.ru.lt
  have q2 := h.er.lt
  have q3 := h.go.lt
  generalize hg : w.heap.size = g at *
  clear hc h
  unfold Fl.val
  go_enter Try.func76, Try.ntmps76
  go_wp2
  go_loopw [11] (fun i x => ∃ k : Nat, k ≤ l.length ∧ i = .int .i64 k ∧ Fa2 g f x ∧ RunAt w0 q ge gg (.slice ao l.length cap) l.length { r with errs := stuffK l k } x) (fun i _ => l.length - (intOf i).toNat)
  case atStart => exact ⟨0, Nat.zero_le _, rfl, F0, h0⟩
  case round =>
    clear h0 c0 c1 c2 c3 c4 c5 c6 c7 hf F0
    obtain ⟨k, hk, rfl, F1, h1⟩ := hrel
    by_cases hkl : k < l.length
    · obtain ⟨b, off, rfl, hb, hR⟩ := HC.out wr h1.bel k hkl
      have gn := Sa.new wr Se.nul
      have g3 := gn.row l[k]
      have e0 := g3.c0
      have bb : Below wr.heap.size wr ((wr.alloc (.cells Se.nul.arr 40)).setRow wr.heap.size l[k].arr) := below_row ((Below.refl _ wr).alloc (Nat.le_refl _) _) (Nat.le_refl _) (by rw [size_alloc]; omega) _
      have h3 := h1.below bb
      have F3 := F1.below bb
      obtain ⟨c0, c1, c2, c3, c4, c5, c6, c7, hf⟩ := h3.ru.cells
      obtain ⟨⟨z, e1⟩, e2⟩ := h3.ec k hkl
      have HU : Hid (l[k].up = true → (stuffK l k).set k 20 = stuffK l (k + 1)) := fun hu => stuffK_up l k (by unfold upAt; rw [seAt_eq hkl]; exact hu)
      have HD : Hid (l[k].up = false → stuffK l k = stuffK l (k + 1)) := fun hu => stuffK_down l k (by unfold upAt; rw [seAt_eq hkl]; exact hu)
      simp only [sl] at c3
      generalize l[k] = s at *
      have h4 : Hid (RunAt w0 q ge gg _ l.length { r with errs := (stuffK l k).set k 20 } _) := h3.err k 20
      have F4 : Hid (Fa2 g f (((wr.alloc (.cells Se.nul.arr 40)).setRow wr.heap.size s.arr).setCell ⟨ge, k, none⟩ (.int .i64 20))) := F3.kept (Below.heap_setCell _ _ _ _ (by show g ≠ ge; omega))
      clear HC bb h1
      generalize s.up = up at *
      cases up
      · have H3 : Hid _ := h3
        clear h3
        go_wp2_with (first | refine se_ld hR rfl _ rfl rfl ?_ | refine gn.sd s rfl _ _ rfl rfl rfl ?_)
        go_roundw
        case rel => exact ⟨k + 1, by omega, by go_num, F3, by rw [← HD.out rfl]; exact H3.out⟩
        case measure => simp [intOf]; omega
      · go_wp2_with (first | refine se_ld hR rfl _ rfl rfl ?_ | refine gn.sd s rfl _ _ rfl rfl rfl ?_)
        go_roundw
        case rel => exact ⟨k + 1, by omega, by go_num, F4.out, by rw [← HU.out rfl]; exact h4.out⟩
        case measure => simp [intOf]; omega
    · obtain rfl : k = l.length := by omega
      clear HC
      obtain ⟨k, hk⟩ : ∃ k : Nat, f.nd = k := ⟨f.nd.toNat, by omega⟩
      have hkl : k < l.length := by omega
      obtain ⟨c0, c1, c2, c3, c4, c5, c6, c7, hf⟩ := h1.ru.cells
      have e0 := F1.c0
      have e1 := F1.c1
      obtain ⟨⟨z, e3⟩, e4⟩ := h1.ec k hkl
      simp only [sl] at c3
      have hqg := h1.d1
      by_cases hbig : (r.len : Int) - 10 ≤ f.bit
      · have HZ : Hid (rnSpoil l r f = { r with errs := (stuffK l l.length).set k 22, late := k, bits := f.bit + 24 }) := by
          show _ = _; unfold rnSpoil; rw [if_pos hbig, hk]; rfl
        have hE := ((((h1.drawn 1).err k 22).drawn 1).set7 k).set1 (f.bit + 24)
        have HE : Hid _ := hE
        have d1 : decide ((r.len : Int) - 10 ≤ f.bit) = true := by simpa using hbig
        rw [hk] at e0
        clear h1 F1 hE
        go_wp2
        go_region
        go_wp2
        go_region
        go_wp2
        go_end0
        exact ⟨rfl, by rw [HZ.out]; exact HE.out⟩
      · have HZ : Hid (rnSpoil l r f = { r with errs := stuffK l l.length, late := k, bits := f.bit + 24 }) := by
          show _ = _; unfold rnSpoil; rw [if_neg hbig, hk]
        have hE := ((h1.drawn 1).set7 k).set1 (f.bit + 24)
        have HE : Hid _ := hE
        have d1 : decide ((r.len : Int) - 10 ≤ f.bit) = false := by simpa using hbig
        rw [hk] at e0
        clear h1 F1 hE
        go_wp2
        go_region
        go_wp2
        go_end0
        exact ⟨rfl, by rw [HZ.out]; exact HE.out⟩
end Go.Proofs.Ytjblekemmcmblaa
namespace Go.Proofs.Ytjblekemmcmblaa
open Go.RowKit Go.Proofs.Bits
set_option linter.unusedVariables false
set_option maxRecDepth 1000000

theorem eq_dec (a b : Int) : (a == b) = decide (a = b) := by rw [Bool.eq_iff_iff]; simp
theorem last_any {p q n wn : Nat} {f : Fl} {w : World} (hn : n ≤ 1000) (hwn : wn ≤ 127) (hp : w.cell? ⟨p, 0, none⟩ = some (.pointer (some ⟨q, 0, none⟩))) (hq : w.cell? ⟨q, 0, none⟩ = some (.int .i64 wn)) (hq6 : w.cell? ⟨q, 6, none⟩ = some (.int .i64 n)) :
    Calls Try.prog 75 #[f.val, .pointer (some ⟨p, 0, none⟩)] w fun e y => e = .returned (.bool (lastB wn n f)) ∧ Below w.heap.size w y := by
  have B1 : Below w.heap.size w (w.alloc (.cells #[.int .i64 f.nd, .int .i64 f.bit] 57)) := (Below.refl _ _).alloc (Nat.le_refl _) _
  have HV : Hid (lastB wn n f = (decide (f.nd = wn) && decide (f.bit = (n : Int) - 1))) := rfl
  have l1 := World.block_lt_of_cell? w _ hp
  have l2 := World.block_lt_of_cell? w _ hq
  have cp : (w.alloc (.cells #[.int .i64 f.nd, .int .i64 f.bit] 57)).cell? ⟨p, 0, none⟩ = _ := (B1.cell (p := ⟨p, 0, none⟩) l1).trans hp
  have cq : (w.alloc (.cells #[.int .i64 f.nd, .int .i64 f.bit] 57)).cell? ⟨q, 0, none⟩ = _ := (B1.cell (p := ⟨q, 0, none⟩) l2).trans hq
  have cq6 : (w.alloc (.cells #[.int .i64 f.nd, .int .i64 f.bit] 57)).cell? ⟨q, 6, none⟩ = _ := (B1.cell (p := ⟨q, 6, none⟩) l2).trans hq6
  have hfb := f.hb
  unfold Fl.val
  generalize lastB wn n f = V at *
  generalize f.bit = bit at *
  generalize f.nd = nd at *
  clear hp hq hq6
  by_cases h1 : nd = wn
  · subst h1
    have HE : Hid (V = (bit == (n : Int) - 1)) := by show _ = _; rw [HV.out, eq_dec]; simp
    clear HV
    go_enter Try.func75, Try.ntmps75
    go_wp2_with fail
    go_quiet (fail)
    go_wp2
    go_ret
    exact ⟨ret_bool HE.out.symm, below_drawn B1 _⟩
  · have d1 : (nd == (wn : Int)) = false := by rw [eq_dec]; simpa using h1
    have HE : Hid (V = false) := by show _ = _; rw [HV.out]; simp [h1]
    clear HV h1
    go_enter Try.func75, Try.ntmps75
    go_wp2_with fail
    go_quiet (fail)
    go_wp2
    go_ret
    exact ⟨ret_bool HE.out.symm, below_drawn B1 _⟩
theorem enter5 : ∀ args x, (callFunc 75 args).run Try.prog x = .ok (.enter 75 args) x := fun _ _ => by rfl
theorem fo_mem {l : List Se} {n : Nat} {fl : List Fl} {f : Fl} (h : fo l n fl = some f) : f ∈ fl ∧ cntB l n f = true := by
  have key : ∀ (xs : List Fl) (acc : Option Fl), xs.foldl (fo1 l n) acc = some f → (f ∈ xs ∧ cntB l n f = true) ∨ acc = some f := by
    intro xs
    induction xs with
    | nil => intro acc h; exact .inr h
    | cons x xs ih =>
      intro acc h
      rw [List.foldl_cons] at h
      rcases ih _ h with h1 | h1
      · exact .inl ⟨List.mem_cons_of_mem _ h1.1, h1.2⟩
      · unfold fo1 at h1
        cases hc : cntB l n x
        · rw [hc] at h1; exact .inr h1
        · rw [hc, if_pos rfl] at h1
          cases acc with
          | none => simp at h1; subst h1; exact .inl ⟨List.mem_cons_self, hc⟩
          | some g =>
            simp only at h1
            split at h1
            · simp at h1; subst h1; exact .inl ⟨List.mem_cons_self, hc⟩
            · exact .inr h1
  unfold fo foK at h
  rw [List.take_length] at h
  rcases key _ _ h with h1 | h1
  · exact h1
  · simp at h1
theorem ruWin {w0 w : World} {q ge gg n : Nat} {v : Value} {r : Rn} {wn : Nat} (h : RunAt w0 q ge gg v n r w) (hw : r.win = wn) : w.cell? ⟨q, 0, none⟩ = some (.int .i64 wn) := by rw [h.ru.cells.1, hw]
set_option maxHeartbeats 4000000 in
theorem end_any4 {w0 : World} {q ge gg : Nat} {v vf : Value} {l : List Se} {fl : List Fl} {r : Rn} {w : World} {wn : Nat} (hl : l.length ≤ 127) (hwn : wn < l.length) (hn : r.len ≤ 1000) (hfl : fl.length ≤ 65536) (hok : ∀ f ∈ fl, 0 ≤ f.nd ∧ f.nd < l.length ∧ 0 ≤ f.bit)
    (hS : Senders w0 v l) (hF : Flips w0 vf fl) (h : RunAt w0 q ge gg v l.length r w) (hw : r.win = wn) (hg0 : r.got = List.replicate l.length false) (he0 : r.errs = List.replicate l.length 0) :
    Calls Try.prog 47 #[.pointer (some ⟨q, 0, none⟩), vf] w fun e w' => e = .returned (.tuple #[]) ∧ RunAt w0 q ge gg v l.length (rnEnd l fl r wn) w' := by
  have hm := hmf
  have c0 := cell_new w (.pointer (some ⟨q, 0, none⟩)) 126
  have h0 := h.alloc (.cells #[.pointer (some ⟨q, 0, none⟩)] 126)
  obtain ⟨_, _, _, _, _, c5, c6, _, _⟩ := h0.ru.cells
  have HF := firstOf_any hl hn hfl (fun f hf => ⟨(hok f hf).1, (hok f hf).2.1⟩) (hS.below h0.bel) (hF.below h0.bel) c5 c6
  have HX : Hid (∀ x, Below (w.alloc (.cells #[.pointer (some ⟨q, 0, none⟩)] 126)).heap.size (w.alloc (.cells #[.pointer (some ⟨q, 0, none⟩)] 126)) x → RunAt w0 q ge gg v l.length r x ∧ x.cell? ⟨w.heap.size, 0, none⟩ = some (.pointer (some ⟨q, 0, none⟩))) := fun x hx => ⟨h0.below hx, (hx.cell (p := ⟨w.heap.size, 0, none⟩) (by rw [size_alloc]; exact Nat.lt_succ_self _)).trans c0⟩
  have HR : Hid (rnEnd l fl r wn = match fo l r.len fl with
  | some f => rnSpoil l r f
  | none => if alone l then { r with errs := r.errs.set wn 23, bits := (r.len : Int) - 8 + 20 }
    else if fl.any (lastB wn r.len) then { r with got := hearK l wn l.length, errs := r.errs.set wn 22, bits := (r.len : Int) + 20 }
    else { r with got := hearK l wn l.length, sent := true, bits := (r.len : Int) + 3 }) := rfl
  have HM : Hid (∀ f, fo l r.len fl = some f → f ∈ fl ∧ f.bit < 1000) := by
    intro f hf
    obtain ⟨h1, h2⟩ := fo_mem hf
    unfold cntB at h2
    simp at h2
    exact ⟨h1, by omega⟩
  have HOK : Hid (∀ f ∈ fl, 0 ≤ f.nd ∧ f.nd < l.length ∧ 0 ≤ f.bit) := hok
  generalize rnEnd l fl r wn = R at *
  have q1 := h.ru.lt
  have q2 := h.er.lt
  have q3 := h.go.lt
  clear h0 c0 c5 c6 h hok
  go_enter Try.func47, Try.ntmps47
  go_wp2_with fail
  refine HF.mono ?_
  rintro e w2 ⟨rfl, B2⟩
  have gn := Fa2.new w2 Fl.nul
  generalize hfo : fo l r.len fl = o at *
  have g3 := gn.row (foV o)
  have bb : Below w2.heap.size w2 ((w2.alloc (.cells #[.int .i64 Fl.nul.nd, .int .i64 Fl.nul.bit] 57)).setRow w2.heap.size #[.int .i64 (foV o).nd, .int .i64 (foV o).bit]) := below_row ((Below.refl _ w2).alloc (Nat.le_refl _) _) (Nat.le_refl _) (by rw [size_alloc]; omega) _
  have X3 := HX.out _ (B2.trans (bb.mono B2.size))
  clear HX HF B2 bb
  obtain ⟨h3, p3⟩ := X3
  generalize hg : w.heap.size = g at *
  generalize hg2 : w2.heap.size = g2 at *
  cases o with
  | some f =>
    obtain ⟨fm, fb⟩ := HM.out f rfl
    obtain ⟨o1, o2, o3⟩ := HOK.out f fm
    have HP := spoil_any hl o1 o2 o3 fb hn hS h3 he0
    have HR2 : Hid (R = rnSpoil l r f) := HR.out
    clear HR HM HOK
    go_wp2_with (first | refine gn.sd (foV (some f)) rfl _ _ rfl (by exact hg2 ▸ rfl) rfl ?_ | refine g3.ldw rfl _ rfl rfl ?_)
    refine HP.mono ?_
    rintro e w5 ⟨rfl, h5⟩
    go_wp2
    go_end0
    exact ⟨rfl, by rw [HR2.out]; exact h5⟩
  | none =>
    have HA := alone_any (q := q) (r := r) (ve := v) (vg := v) hl (hS.below h3.bel) h3.ru.cells.2.2.2.2.2.1
    generalize hal : alone l = al at *
    clear HM
    cases al with
    | true =>
      have HR2 : Hid (R = { r with errs := r.errs.set wn 23, bits := (r.len : Int) - 8 + 20 }) := HR.out
      clear HR HOK hal hfo
      go_wp2_with (first | refine gn.sd (foV none) rfl _ _ rfl (by exact hg2 ▸ rfl) rfl ?_ | refine g3.ldw rfl _ rfl rfl ?_)
      refine HA.mono ?_
      rintro e w5 ⟨rfl, B5⟩
      have h5 := h3.below B5
      have p5 := (B5.cell (p := ⟨g, 0, none⟩) (World.block_lt_of_cell? _ _ p3)).trans p3
      clear HA B5 h3 p3 g3 gn
      have c0 := ruWin h5 hw
      obtain ⟨_, c1, c2, c3, c4, c5, c6, c7, hf⟩ := h5.ru.cells
      obtain ⟨⟨z, e3⟩, e4⟩ := h5.ec wn hwn
      simp only [sl] at c3
      have hqg := h5.d1
      have hgl := World.block_lt_of_cell? _ _ p5
      have hx1 := h5.b1
      have HE : Hid _ := (((h5.err wn 23).drawn 1).set1 ((r.len : Int) - 8 + 20)).drawn 1
      have gq : g ≠ q := by omega
      have gge : g ≠ ge := by omega
      clear h5
      go_wp2
      go_region
      go_wp2
      go_region
      go_wp2
      go_end0
      exact ⟨rfl, by rw [HR2.out]; exact HE.out⟩
    | false =>
      rw [if_neg (by simp)] at HR
      go_wp2_with (first | refine gn.sd (foV none) rfl _ _ rfl (by exact hg2 ▸ rfl) rfl ?_ | refine g3.ldw rfl _ rfl rfl ?_)
      refine HA.mono ?_
      rintro e w5 ⟨rfl, B5⟩
      have h5 := h3.below B5
      have p5 := (B5.cell (p := ⟨g, 0, none⟩) (World.block_lt_of_cell? _ _ p3)).trans p3
      clear HA B5 h3 p3 g3 gn
      have HCF := ContainsFunc_any 75 enter5 (.pointer (some ⟨g, 0, none⟩)) (lastB wn r.len) vf fl w5 (by unfold maxLen; omega) (hF.below h5.bel) (fun f _ x hx => last_any hn (by omega) ((hx.cell (p := ⟨g, 0, none⟩) (World.block_lt_of_cell? _ _ p5)).trans p5) (ruWin (h5.below hx) hw) (h5.below hx).ru.cells.2.2.2.2.2.2.1)
      generalize hla : fl.any (lastB wn r.len) = la at *
      go_wp2_with fail
      refine HCF.mono ?_
      rintro e w6 ⟨rfl, B6⟩
      have h6 := h5.below B6
      have p6 := (B6.cell (p := ⟨g, 0, none⟩) (World.block_lt_of_cell? _ _ p5)).trans p5
      have hgl := World.block_lt_of_cell? _ _ p6
      have HH := hear_any hl hwn hS h6 hw hg0
      have hx1 := h6.b1
      have hx2 := h6.b3
      clear HCF B6 h5 p5
      have c0 := ruWin h6 hw
      obtain ⟨_, c1, c2, c3, c4, c5, c6, c7, hf⟩ := h6.ru.cells
      have hqg := h6.d1
      have gq : g ≠ q := by omega
      have gge : g ≠ ge := by omega
      have ggg : g ≠ gg := by omega
      cases la with
      | true =>
        have HR2 : Hid (R = { r with got := hearK l wn l.length, errs := r.errs.set wn 22, bits := (r.len : Int) + 20 }) := HR.out
        clear HR HOK hal hla hfo h6 c0 c1 c2 c3 c4 c5 c6 c7 hf
        go_wp2_with fail
        refine HH.mono ?_
        rintro e w7 ⟨rfl, h7, K7⟩
        have p7 := K7.cell p6 ggg
        have c0 := ruWin h7 hw
        obtain ⟨_, c1, c2, c3, c4, c5, c6, c7, hf⟩ := h7.ru.cells
        obtain ⟨⟨z, e3⟩, e4⟩ := h7.ec wn hwn
        simp only [sl] at c3
        have HE : Hid _ := (((h7.err wn 22).drawn 1).set1 ((r.len : Int) + 20)).drawn 1
        clear h7 K7 HH p6
        go_wp2
        go_region
        go_wp2
        go_region
        go_wp2
        go_end0
        exact ⟨rfl, by rw [HR2.out]; exact HE.out⟩
      | false =>
        have HR2 : Hid (R = { r with got := hearK l wn l.length, sent := true, bits := (r.len : Int) + 3 }) := HR.out
        clear HR HOK hal hla hfo h6 c0 c1 c2 c3 c4 c5 c6 c7 hf
        go_wp2_with fail
        refine HH.mono ?_
        rintro e w7 ⟨rfl, h7, K7⟩
        have p7 := K7.cell p6 ggg
        have c0 := ruWin h7 hw
        obtain ⟨_, c1, c2, c3, c4, c5, c6, c7, hf⟩ := h7.ru.cells
        have HE : Hid _ := ((h7.set2 true).set1 ((r.len : Int) + 3)).drawn 1
        clear h7 K7 HH p6
        go_wp2
        go_region
        go_wp2
        go_end0
        exact ⟨rfl, by rw [HR2.out]; exact HE.out⟩
end Go.Proofs.Ytjblekemmcmblaa
namespace Go.Proofs.Ytjblekemmcmblaa
open Go.RowKit Go.Proofs.Bits
set_option linter.unusedVariables false
set_option maxRecDepth 1000000

theorem infoI : (Try.prog.info? 3).map (fun i => (i.zero, i.size, i.bytes)) = some (some (.int .i64 0), 1, 8) := by kernel_rfl
def natV (j : Nat) : Value := .int .i64 j
theorem slots_new (w : World) (u : Value) (T : TypeId) : Slots (w.alloc (.cells #[u] T)) (.slice (some ⟨w.heap.size, 0, none⟩) 1 1) [u] := by
  refine ⟨some ⟨w.heap.size, 0, none⟩, 1, rfl, (fun h => by cases h), fun k hk => ⟨w.heap.size, 0, rfl, by rw [size_alloc]; omega, ?_⟩⟩
  rw [Lib.cell_of_heap (heap_alloc_new w _)]
  match k, hk with
  | 0, _ => rfl
  | k + 1, hk => simp at hk
/-- How a struct's cells lie. -/
structure Dec (α : Type) where
  dec : α → List Value
  c : Nat
  pos : 0 < c
  len : ∀ a, (dec a).length = c
  one : ∀ a, ∀ u ∈ dec a, u.oneCell' = true
def flatW {α : Type} (D : Dec α) (l : List α) : List Value := l.flatMap D.dec
section
variable {α : Type} (D : Dec α)
theorem flatW_len (l : List α) : (flatW D l).length = l.length * D.c := by
  induction l with
  | nil => simp [flatW]
  | cons f r ih => rw [flatW, List.flatMap_cons, List.length_append, D.len, ← flatW, ih, List.length_cons, Nat.succ_mul]; omega
theorem flatW_get (l : List α) (k j : Nat) (hk : k < l.length) (hj : j < D.c) : (flatW D l)[k * D.c + j]? = (D.dec l[k])[j]? := by
  induction l generalizing k with
  | nil => simp at hk
  | cons f r ih =>
    rw [flatW, List.flatMap_cons, ← flatW]
    match k, hk with
    | 0, _ => rw [List.getElem?_append_left (by rw [D.len]; omega)]; simp
    | k + 1, hk =>
      rw [List.getElem?_append_right (by rw [D.len, Nat.succ_mul]; omega), D.len, show (k + 1) * D.c + j - D.c = k * D.c + j by rw [Nat.succ_mul]; omega, ih k (by simpa using hk)]
      simp
theorem flatW_one (l : List α) : ∀ u ∈ flatW D l, u.oneCell' = true := by
  intro u hu
  obtain ⟨f, _, hf⟩ := List.mem_flatMap.1 hu
  exact D.one f u hf
theorem flatW_append (l m : List α) : flatW D (l ++ m) = flatW D l ++ flatW D m := by simp [flatW]
theorem wide_of_own {w : World} {B : Nat} {e : TypeId} {v : Value} {l : List α} (h : w.ownsRow B e D.c v l.length (flatW D l)) : Wide D.c D.dec w v l := by
  rcases h.2 with ⟨rfl, h0⟩ | ⟨g, cap, cur, rfl, hg, hcur, h1, h2, h3, h4⟩
  · obtain rfl := List.length_eq_zero_iff.1 h0
    exact ⟨none, 0, rfl, fun _ => ⟨rfl, rfl⟩, fun k hk => by simp at hk⟩
  · refine ⟨some ⟨g, 0, none⟩, cap, rfl, (fun h => by cases h), fun k hk => ⟨g, 0, rfl, (Array.getElem?_eq_some_iff.1 hcur).1, ?_⟩⟩
    intro j u hj
    have hjl : j < D.c := by have := (List.getElem?_eq_some_iff.1 hj).1; rw [D.len] at this; exact this
    have hlt : k * D.c + j < l.length * D.c := by
      have : (k + 1) * D.c ≤ l.length * D.c := Nat.mul_le_mul_right _ hk
      rw [Nat.succ_mul] at this; omega
    rw [Lib.cell_of_heap hcur, Nat.zero_add, ← hj, ← flatW_get D l k j hk hjl, ← h4, List.getElem?_take, if_pos hlt]
    simp
theorem own_empty_e (w : World) (e : TypeId) (c : Nat) : (w.alloc (.cells #[] e)).ownsRow w.heap.size e c (.slice (some ⟨w.heap.size, 0, none⟩) 0 0) 0 [] := by
  refine ⟨by simp, .inr ⟨w.heap.size, 0, #[], rfl, Nat.le_refl _, heap_alloc_new w _, Nat.le_refl _, by decide, by simp, by simp⟩⟩
/-- append of a slice that came in to a row of the call's own. -/
theorem append_wide {w : World} {ops : Array Oper} {rest : List Oper} {o : Oper} {a : Act} {Q : Exit → Act → World → Prop} (hgd : Region.wanted o (yielded ops a.tmps) = true) (s x : Operand) (t e : TypeId) (z : Value) (bytes : Nat)
    (ht : Try.prog.underlying t = some (.slice e)) (hinfo : (Try.prog.info? e).map (fun i => (i.zero, i.size, i.bytes)) = some (some z, D.c, bytes)) (hzs : z.cells.size = D.c)
    (ho : o.op = .call { callee := .builtin .append, args := #[s, x], argTypes := #[t, t] })
    (base : Nat) (v : Value) (xs : List α) (hs : a.eval s = v) (hown : w.ownsRow base e D.c v xs.length (flatW D xs))
    (vx : Value) (l : List α) (hx : a.eval x = vx) (hB : Wide D.c D.dec w vx l) (h63 : xs.length + l.length ≤ maxLen) (hbytes : (xs.length + l.length) * bytes ≤ 140737488355328) (hbase : base ≤ w.heap.size)
    (h : ∀ v' w', w'.ownsRow base e D.c v' (xs ++ l).length (flatW D (xs ++ l)) → w.grownBy w' v.ownBlock → wpList Try.prog ops Q rest (a.put o.dst v') w') : wpList Try.prog ops Q (o :: rest) a w := by
  obtain ⟨i0, hi, hz0, hz1, hz2⟩ := info_parts hinfo
  obtain ⟨ao, cap, rfl, h0, hc⟩ := hB
  cases ao with
  | none =>
    obtain ⟨rfl, rfl⟩ := h0 rfl
    refine BigFrame.wpList_want hgd fun K hK => ?_
    have hrun := run_append_owned_none (P := Try.prog) (w := w) base t o.type e i0 D.c ht hi v xs.length (flatW D xs) hown
    unfold Oper.wp
    simp only [List.length_nil] at hx
    simp [execOp, ho, resolve, invoke, builtin, hs, hx, hrun, Result.andThen]
    refine hK _ _ (h _ _ ?_ (grown_refl _ _))
    simpa using hown
  | some ad =>
    refine BigFrame.wpList_want hgd fun _ hK => wp_append_own w s x t ho base e i0 z D.c bytes ht hi hz0 hz1 hz2 hzs D.pos v xs.length (flatW D xs) hs hown ad l.length cap (flatW D l) hx (flatW_len D l) ?_ (flatW_one D l) h63 hbytes hbase ?_
    · intro j u hj
      have hlt : j < l.length * D.c := by have := (List.getElem?_eq_some_iff.1 hj).1; rw [flatW_len] at this; exact this
      have hdm := Nat.div_add_mod j D.c
      rw [Nat.mul_comm] at hdm
      have hk : j / D.c < l.length := Nat.div_lt_of_lt_mul (by rw [Nat.mul_comm]; exact hlt)
      have hm : j % D.c < D.c := Nat.mod_lt _ D.pos
      obtain ⟨b, off, ha, _, hR⟩ := hc (j / D.c) hk
      simp only [Option.some.injEq] at ha
      subst ha
      have e := flatW_get D l (j / D.c) (j % D.c) hk hm
      rw [hdm, hj] at e
      have := hR (j % D.c) u e.symm
      rw [Addr.add_mid]
      rw [Nat.add_assoc, hdm] at this
      exact this
    · intro v' w' h1 h2 h3
      refine hK _ _ (h v' w' ?_ h2)
      rw [List.length_append, flatW_append]
      exact h1
theorem wide_new (w : World) (x : α) (e : TypeId) : Wide D.c D.dec (w.alloc (.cells (D.dec x).toArray e)) (.slice (some ⟨w.heap.size, 0, none⟩) 1 1) [x] := by
  refine ⟨some ⟨w.heap.size, 0, none⟩, 1, rfl, (fun h => by cases h), fun k hk => ⟨w.heap.size, 0, rfl, by rw [size_alloc]; omega, ?_⟩⟩
  obtain rfl : k = 0 := by simp at hk; exact hk
  intro j v hj
  rw [Lib.cell_of_heap (heap_alloc_new w _)]
  simpa using hj
theorem one_bs {w : World} {ops : Array Oper} {rest : List Oper} {o : Oper} {a : Act} {Q : Exit → Act → World → Prop} (s : α) (t e : TypeId) (z : Value) (bytes : Nat) (hgd : o.guard = none) (x : Operand) (ho : o.op = .buildSlice t 1 #[(0, x)]) (hx : a.eval x = .agg (D.dec s).toArray)
    (ht : Try.prog.underlying t = some (.slice e)) (hinfo : (Try.prog.info? e).map (fun i => (i.zero, i.size, i.bytes)) = some (some z, D.c, bytes)) (hsmall : D.c ≤ 1000)
    (h : wpList Try.prog ops Q rest (a.put o.dst (.slice (some ⟨w.heap.size, 0, none⟩) 1 1)) (w.alloc (.cells (D.dec s).toArray e))) : wpList Try.prog ops Q (o :: rest) a w := by
  obtain ⟨i0, hi, hz0, hz1, hz2⟩ := info_parts hinfo
  refine wpList_buildSlice hgd t e 1 _ ho (D.dec s).toArray i0 z ht hi hz0 (by rw [hz1]; omega) (by rw [hz1]; have := D.pos; omega) ?_ h
  rw [hz1]
  have hsz : (Value.agg (D.dec s).toArray).cells.size = D.c := by simp [Value.cells, D.len]
  have := Go.Great.fill_whole D.pos [Value.agg (D.dec s).toArray] ((Array.range (1 * D.c)).map (z.cells[· % z.cells.size]!)) (by intro v hv; simp at hv; subst hv; exact hsz) (by simp)
  simpa [hx, Value.cells] using this
end
def DF : Dec Fr := ⟨Fr.cells, 12, by decide, fun f => by simp [Fr.cells, f.hdata], fun f u hu => by
  have := f.one
  rw [Array.all_eq_true_iff_forall_mem] at this
  exact this u (by simpa [Fr.arr] using hu)⟩
end Go.Proofs.Ytjblekemmcmblaa
namespace Go.Proofs.Ytjblekemmcmblaa
open Go.RowKit Go.Proofs.Bits
set_option linter.unusedVariables false
set_option maxRecDepth 1000000

theorem allOk_two {f g : Fr} (hf : f.chk = 0) (hg : g.chk = 0) : allOk [f, g] = true := by simp [allOk, hf, hg]
theorem first_same {f g : Fr} (hf : f.chk = 0) (hg : g.chk = 0) (h : f.field = g.field) : firstE [f, g] = 5 ∧ firstN [f, g] = 0 := by
  have e : firstE [f, g] = 5 := by
    unfold firstE
    rw [if_neg (by simp), allOk_two hf hg, if_pos rfl, if_neg]
    simp [flds, h]
  exact ⟨e, by unfold firstN; rw [e]; rfl⟩
theorem first_two {f g : Fr} (hf : f.chk = 0) (hg : g.chk = 0) (h : f.field ≠ g.field) : firstE [f, g] = 0 ∧ firstN [f, g] = if g.field < f.field then 1 else 0 := by
  have e : firstE [f, g] = 0 := by
    unfold firstE
    rw [if_neg (by simp), allOk_two hf hg, if_pos rfl, if_pos]
    simp [flds, h]
  refine ⟨e, ?_⟩
  unfold firstN
  rw [e, if_pos rfl]
  have e1 : best (flds [f, g]) 1 = 0 := by simp [best]
  show best (flds [f, g]) 2 = _
  rw [best, e1]
  simp [flds]
theorem less_txt (a b : List UInt8) : Op.bytesLess (⟨a.toArray⟩ : ByteArray).toList (⟨b.toArray⟩ : ByteArray).toList = decide (a < b) := by
  rw [Go.Proofs.bytesLess_eq, Lib.toList_data, Lib.toList_data]
theorem beq_list (a b : List UInt8) : ((⟨a.toArray⟩ : ByteArray).toList == (⟨b.toArray⟩ : ByteArray).toList) = decide (a = b) := by
  rw [Lib.toList_data, Lib.toList_data, Bool.eq_iff_iff]; simp
end Go.Proofs.Ytjblekemmcmblaa
namespace Go.Proofs.Ytjblekemmcmblaa
open Go.RowKit Go.Proofs.Bits
set_option linter.unusedVariables false
set_option maxRecDepth 1000000

theorem quiet_ldm {W : World} {ops : Array Oper} {rest : List Oper} {p : Oper} {a : Act} {Q : Act → Prop} {b o : Nat} {f : Fr} (h : W.rangeAt b o f.cells) (hb : b < W.heap.size) (hgd : p.guard = none) (x : Operand) (ho : p.op = .load 38 x) (hx : a.eval x = .pointer (some ⟨b, o, none⟩))
    (hh : wpQuiet Try.prog ops (fun w' => ∃ x : Later W, w' = x.now) Q rest (a.put p.dst (.agg f.arr))) : wpQuiet Try.prog ops (fun w' => ∃ x : Later W, w' = x.now) Q (p :: rest) a := by
  unfold wpQuiet
  rw [if_pos (by simp [Region.wanted, hgd])]
  refine ⟨.agg f.arr, ?_, hh⟩
  rintro w' ⟨y, rfl⟩
  have hr : y.now.rangeAt b o f.cells := fun j v hv => (y.below.cell (p := ⟨b, o + j, none⟩) hb).trans (h j v hv)
  have hl := run_loadVar_mid (P := Try.prog) y.now b o 38 f.cells _ hr Try.underlying38 rfl (by rw [infoF]; simp [Fr.cells, f.hdata])
  unfold Oper.quietAt execOp
  simp only [ho, hx, Instr.loadAt, Instr.sureAddr, Sem.run_bind, Sem.run_pure, Result.andThen_ok, hl]
  exact ⟨rfl, rfl⟩
theorem txB_at (fs : List Fr) (k : Nat) (hk : k < fs.length) : txB (flds fs) k = ⟨fs[k].field.toArray⟩ := by
  unfold txB
  rw [getD_at (by rw [flds_length]; exact hk)]
  simp [flds]
theorem txB_beq (T : List (List UInt8)) (i j : Nat) : ((txB T i).toList == (txB T j).toList) = decide (T.getD i [] = T.getD j []) := beq_list _ _
theorem txB_less (T : List (List UInt8)) (i j : Nat) : Op.bytesLess (txB T i).toList (txB T j).toList = decide (T.getD i [] < T.getD j []) := less_txt _ _
theorem nodup_next {T : List (List UInt8)} {k : Nat} (hk : k < T.length) (h : (T.take k).Nodup) (hn : ∀ j, j < k → T.getD k [] ≠ T.getD j []) : (T.take (k + 1)).Nodup := by
  rw [List.take_succ_eq_append_getElem hk, List.nodup_append]
  refine ⟨h, by simp, ?_⟩
  intro a ha b hb e
  simp at hb
  subst hb
  subst e
  obtain ⟨j, hj, he⟩ := List.getElem_of_mem ha
  rw [List.length_take] at hj
  have := hn j (by omega)
  rw [getD_at hk, getD_at (by omega)] at this
  apply this
  rw [← he, List.getElem_take]
theorem nodup_not {T : List (List UInt8)} {i j : Nat} (hi : i < T.length) (hj : j < i) (h : T.getD i [] = T.getD j []) : ¬ T.Nodup := fun hn => by
  have := nodup_at hn hi (by omega) h
  omega
set_option maxHeartbeats 4000000 in
theorem r2First_any (v : Value) (fs : List Fr) (w : World) (hn : fs.length * 16 ≤ 140737488355328) (hS : Frames w v fs) :
    Calls Try.prog 26 #[v] w fun e w' => e = .returned (.tuple #[.int .i64 (firstN fs), .int .i64 (firstE fs)]) ∧ Below w.heap.size w w' := by
  obtain ⟨ao, cap, rfl, _, hc⟩ := hS
  have HC : Hid (∀ (wr : World), Below w.heap.size w wr → ∀ k (hk : k < fs.length), ∃ b off, ao = some ⟨b, off, none⟩ ∧ b < w.heap.size ∧ wr.rangeAt b (off + k * 12) fs[k].cells) := fun wr hb k hk => Wide.at hc hb k hk
  clear hc
  by_cases h0 : fs.length = 0
  · have HE : Hid (firstE fs = 3) := by show _ = _; unfold firstE; rw [if_pos h0]
    have HN : Hid (firstN fs = 0) := by show _ = _; unfold firstN; rw [HE.out]; rfl
    have hd : ((fs.length : Int) == 0) = true := by rw [h0]; rfl
    generalize firstE fs = E at *
    generalize firstN fs = N at *
    go_enter Try.func26, Try.ntmps26
    go_wp2
    go_ret2
    exact ⟨by rw [HE.out, HN.out]; rfl, Below.refl _ _⟩
  · have hd : ((fs.length : Int) == 0) = false := by rw [beq_eq_false_iff_ne]; omega
    have hfl := flds_length fs
    go_enter Try.func26, Try.ntmps26
    go_wp2
    go_loopw [5] (fun i x => ∃ k : Nat, k ≤ fs.length ∧ i = .int .i64 k ∧ (∀ j (hj : j < fs.length), j < k → fs[j].chk = 0) ∧ Below w.heap.size w x) (fun i _ => fs.length - (intOf i).toNat)
    case atStart => exact ⟨0, Nat.zero_le _, rfl, fun j _ h => by omega, Below.refl _ _⟩
    case round =>
      obtain ⟨k, hk, rfl, H1, B1⟩ := hrel
      by_cases hkl : k < fs.length
      · obtain ⟨b, off, rfl, hb, hR⟩ := HC.out wr B1 k hkl
        have hF := r2Check_any fs[k] wr
        have hck := chk_cases fs[k]
        have HL : Hid (fs[k].chk ≠ 0 → firstE fs = 1 ∧ firstN fs = 0) := by
          intro h
          have e : firstE fs = 1 := by unfold firstE; rw [if_neg h0, allOk_at hkl h]; rfl
          exact ⟨e, by unfold firstN; rw [e]; rfl⟩
        have HJ : Hid (∀ j (hj : j < fs.length), j < k + 1 → fs[k].chk = 0 → fs[j].chk = 0) := by
          intro j hj h1 h2
          rcases Nat.lt_or_ge j k with h3 | h3
          · exact H1 j hj h3
          · have : j = k := by omega
            subst this; exact h2
        unfold Fr.val at hF
        generalize fs[k] = f at *
        go_wp2_with (first | refine fld_ld hR rfl _ rfl rfl ?_)
        refine hF.mono ?_
        rintro e w4 ⟨rfl, B4⟩
        have B5 := B1.trans (B4.mono B1.size)
        clear B1 B4 hF hR
        rcases hck with hck | hck
        · rw [hck]
          have HJ2 : Hid (∀ j (hj : j < fs.length), j < k + 1 → fs[j].chk = 0) := fun j hj h1 => HJ.out j hj h1 hck
          clear HJ HL H1
          go_wp2
          go_roundw
          case rel => exact ⟨k + 1, by omega, by go_num, HJ2.out, B5⟩
          case measure => simp [intOf]; omega
        · rw [hck]
          obtain ⟨e1, e2⟩ := HL.out (by rw [hck]; decide)
          have E1 : Hid (firstE fs = 1) := e1
          have E2 : Hid (firstN fs = 0) := e2
          clear HJ HL H1 e1 e2
          go_wp2
          go_ret2
          exact ⟨by rw [E1.out, E2.out]; rfl, B5⟩
      · have HA : Hid (allOk fs = true) := allOk_of (fun j hj => H1 j hj (by omega))
        have HK : Hid (∀ j (hj : j < fs.length), fs[j].chk = 0) := fun j hj => H1 j hj (by omega)
        have HE5 : Hid (¬ (flds fs).Nodup → firstE fs = 5 ∧ firstN fs = 0) := by
          intro h
          have e : firstE fs = 5 := by unfold firstE; rw [if_neg h0, HA.out, if_pos rfl, if_neg h]
          exact ⟨e, by unfold firstN; rw [e]; rfl⟩
        have HE0 : Hid ((flds fs).Nodup → firstE fs = 0 ∧ firstN fs = best (flds fs) fs.length) := by
          intro h
          have e : firstE fs = 0 := by unfold firstE; rw [if_neg h0, HA.out, if_pos rfl, if_pos h]
          exact ⟨e, by unfold firstN; rw [e, if_pos rfl]⟩
        have HF : Hid (∀ j (hj : j < fs.length) W, Calls Try.prog 48 #[.agg fs[j].arr] W fun e w' => e = .returned (.string (txB (flds fs) j)) ∧ Below W.heap.size W w') := by
          intro j hj W
          rw [txB_at fs j hj]
          exact r2field_any fs[j] W (HK.out j hj)
        clear H1 HK HA
        go_wp2
        go_loopw [4, 7] (fun bs i x => ∃ k : Nat, k ≤ fs.length ∧ i = .int .i64 k ∧ bs = .int .i64 (best (flds fs) k) ∧ ((flds fs).take k).Nodup ∧ Below w.heap.size w x) (fun _ i _ => fs.length - (intOf i).toNat)
        case atStart => exact ⟨0, Nat.zero_le _, rfl, rfl, by simp, B1⟩
        case round =>
          clear B1 hkl hk
          obtain ⟨k2, hk, rfl, rfl, hnd, B1⟩ := hrel
          by_cases hkl : k2 < fs.length
          · obtain ⟨W, hW⟩ : ∃ W, W = wr := ⟨wr, rfl⟩
            subst hW
            go_wp2
            go_loopw [8] (fun i x => ∃ m : Nat, m ≤ k2 ∧ i = .int .i64 m ∧ (∀ j, j < m → (flds fs).getD k2 [] ≠ (flds fs).getD j []) ∧ Below w.heap.size w x) (fun i _ => k2 - (intOf i).toNat)
            case atStart => exact ⟨0, Nat.zero_le _, rfl, fun j h => by omega, B1⟩
            case round =>
              clear B1
              obtain ⟨m, hm, rfl, H2, B1⟩ := hrel
              by_cases hmk : m < k2
              · obtain ⟨b, off, rfl, hb, hR⟩ := HC.out wr B1 k2 hkl
                obtain ⟨b', off', e', _, hR'⟩ := HC.out wr B1 m (by omega)
                simp only [Option.some.injEq, Addr.mk.injEq, and_true] at e'
                obtain ⟨rfl, rfl⟩ := e'
                have s1 := B1.size
                have hbq := txB_beq (flds fs) k2 m
                have hp1 := HF.out k2 hkl
                have hp2 := HF.out m (by omega)
                have hL := Later.some wr
                have hm0 : (m : Int) < (fs.length : Int) := by omega
                have hk0 : (k2 : Int) < (fs.length : Int) := by omega
                generalize fs[k2] = f2 at *
                generalize fs[m]'(by omega) = f1 at *
                generalize txB (flds fs) k2 = X2 at *
                generalize txB (flds fs) m = X1 at *
                by_cases heq : (flds fs).getD k2 [] = (flds fs).getD m []
                · rw [show decide ((flds fs).getD k2 [] = (flds fs).getD m []) = true by simpa using heq] at hbq
                  obtain ⟨e1, e2⟩ := HE5.out (nodup_not (by omega) hmk heq)
                  have E1 : Hid (firstE fs = 5) := e1
                  have E2 : Hid (firstN fs = 0) := e2
                  clear e1 e2 heq H2 hnd
                  go_wp2_with fail
                  refine wp_region_later (by kernel_rfl) (by kernel_rfl) ?_
                  go_big_quiet_step (fail)
                  go_big_quiet_step (fail)
                  go_big_quiet_step (fail)
                  refine quiet_ldm hR (by omega) rfl _ rfl rfl ?_
                  simp only [Act.put, List.setIfInBounds_toArray, List.set_cons_succ, List.set_cons_zero]
                  go_big_quiet_step (first | (go_at_call 48; with_reducible exact later (hp1 _)))
                  go_big_quiet_step (fail)
                  go_big_quiet_step (fail)
                  go_big_quiet_step (fail)
                  refine quiet_ldm hR' (by omega) rfl _ rfl rfl ?_
                  simp only [Act.put, List.setIfInBounds_toArray, List.set_cons_succ, List.set_cons_zero]
                  go_big_quiet_step (first | (go_at_call 48; with_reducible exact later (hp2 _)))
                  go_big_quiet_step (fail)
                  refine wpQuiet_nil ?_
                  rintro _ ⟨x1, rfl⟩
                  have B2 := B1.trans (x1.below.mono (by omega))
                  go_wp2
                  go_ret2
                  exact ⟨by rw [E1.out, E2.out]; rfl, B2⟩
                · rw [show decide ((flds fs).getD k2 [] = (flds fs).getD m []) = false by simpa using heq] at hbq
                  have H3 : Hid (∀ j, j < m + 1 → (flds fs).getD k2 [] ≠ (flds fs).getD j []) := by
                    intro j hj
                    rcases Nat.lt_or_ge j m with h | h
                    · exact H2 j h
                    · have : j = m := by omega
                      rw [this]; exact heq
                  clear heq H2
                  go_wp2_with fail
                  refine wp_region_later (by kernel_rfl) (by kernel_rfl) ?_
                  go_big_quiet_step (fail)
                  go_big_quiet_step (fail)
                  go_big_quiet_step (fail)
                  refine quiet_ldm hR (by omega) rfl _ rfl rfl ?_
                  simp only [Act.put, List.setIfInBounds_toArray, List.set_cons_succ, List.set_cons_zero]
                  go_big_quiet_step (first | (go_at_call 48; with_reducible exact later (hp1 _)))
                  go_big_quiet_step (fail)
                  go_big_quiet_step (fail)
                  go_big_quiet_step (fail)
                  refine quiet_ldm hR' (by omega) rfl _ rfl rfl ?_
                  simp only [Act.put, List.setIfInBounds_toArray, List.set_cons_succ, List.set_cons_zero]
                  go_big_quiet_step (first | (go_at_call 48; with_reducible exact later (hp2 _)))
                  go_big_quiet_step (fail)
                  refine wpQuiet_nil ?_
                  rintro _ ⟨x1, rfl⟩
                  have B2 := B1.trans (x1.below.mono (by omega))
                  go_wp2
                  go_roundw
                  case rel => exact ⟨m + 1, by omega, by go_num, H3.out, B2⟩
                  case measure => simp [intOf]; omega
              · obtain rfl : m = k2 := by omega
                have hbl := best_le (flds fs) m
                have hbn : best (flds fs) m < fs.length := by omega
                obtain ⟨b, off, rfl, hb, hR⟩ := HC.out wr B1 m hkl
                obtain ⟨b', off', e', _, hR'⟩ := HC.out wr B1 (best (flds fs) m) hbn
                simp only [Option.some.injEq, Addr.mk.injEq, and_true] at e'
                obtain ⟨rfl, rfl⟩ := e'
                have s1 := B1.size
                have hbq := txB_less (flds fs) m (best (flds fs) m)
                have hp1 := HF.out m hkl
                have hp2 := HF.out (best (flds fs) m) hbn
                have hL := Later.some wr
                have HN : Hid (((flds fs).take (m + 1)).Nodup) := nodup_next (by omega) hnd H2
                have HB : Hid (best (flds fs) (m + 1) = if (flds fs).getD m [] < (flds fs).getD (best (flds fs) m) [] then m else best (flds fs) m) := rfl
                have hk0 : (m : Int) < (fs.length : Int) := by omega
                have hb0 : (best (flds fs) m : Int) < (fs.length : Int) := by omega
                generalize fs[m] = f2 at *
                generalize fs[best (flds fs) m]'hbn = f1 at *
                generalize txB (flds fs) m = X2 at *
                generalize txB (flds fs) (best (flds fs) m) = X1 at *
                clear H2
                by_cases hlt : (flds fs).getD m [] < (flds fs).getD (best (flds fs) m) []
                · rw [show decide ((flds fs).getD m [] < (flds fs).getD (best (flds fs) m) []) = true by simpa using hlt] at hbq
                  have HB2 : Hid (best (flds fs) (m + 1) = m) := by show _ = _; rw [HB.out, if_pos hlt]
                  clear HB hlt
                  generalize hBM : best (flds fs) m = bm at *
                  clear hBM
                  go_wp2_with fail
                  refine wp_region_later (by kernel_rfl) (by kernel_rfl) ?_
                  go_big_quiet_step (fail)
                  go_big_quiet_step (fail)
                  go_big_quiet_step (fail)
                  refine quiet_ldm hR (by omega) rfl _ rfl rfl ?_
                  simp only [Act.put, List.setIfInBounds_toArray, List.set_cons_succ, List.set_cons_zero]
                  go_big_quiet_step (first | (go_at_call 48; with_reducible exact later (hp1 _)))
                  go_big_quiet_step (fail)
                  go_big_quiet_step (fail)
                  go_big_quiet_step (fail)
                  refine quiet_ldm hR' (by omega) rfl _ rfl rfl ?_
                  simp only [Act.put, List.setIfInBounds_toArray, List.set_cons_succ, List.set_cons_zero]
                  go_big_quiet_step (first | (go_at_call 48; with_reducible exact later (hp2 _)))
                  go_big_quiet_step (fail)
                  refine wpQuiet_nil ?_
                  rintro _ ⟨x1, rfl⟩
                  have B2 := B1.trans (x1.below.mono (by omega))
                  go_wp2
                  go_roundw
                  case rel => exact ⟨m + 1, by omega, by go_num, by rw [HB2.out], HN.out, B2⟩
                  case measure => simp [intOf]; omega
                · rw [show decide ((flds fs).getD m [] < (flds fs).getD (best (flds fs) m) []) = false by simpa using hlt] at hbq
                  have HB2 : Hid (best (flds fs) (m + 1) = best (flds fs) m) := by show _ = _; rw [HB.out, if_neg hlt]
                  clear HB hlt
                  generalize hBM : best (flds fs) m = bm at *
                  clear hBM
                  go_wp2_with fail
                  refine wp_region_later (by kernel_rfl) (by kernel_rfl) ?_
                  go_big_quiet_step (fail)
                  go_big_quiet_step (fail)
                  go_big_quiet_step (fail)
                  refine quiet_ldm hR (by omega) rfl _ rfl rfl ?_
                  simp only [Act.put, List.setIfInBounds_toArray, List.set_cons_succ, List.set_cons_zero]
                  go_big_quiet_step (first | (go_at_call 48; with_reducible exact later (hp1 _)))
                  go_big_quiet_step (fail)
                  go_big_quiet_step (fail)
                  go_big_quiet_step (fail)
                  refine quiet_ldm hR' (by omega) rfl _ rfl rfl ?_
                  simp only [Act.put, List.setIfInBounds_toArray, List.set_cons_succ, List.set_cons_zero]
                  go_big_quiet_step (first | (go_at_call 48; with_reducible exact later (hp2 _)))
                  go_big_quiet_step (fail)
                  refine wpQuiet_nil ?_
                  rintro _ ⟨x1, rfl⟩
                  have B2 := B1.trans (x1.below.mono (by omega))
                  go_wp2
                  go_roundw
                  case rel => exact ⟨m + 1, by omega, by go_num, by rw [HB2.out], HN.out, B2⟩
                  case measure => simp [intOf]; omega
          · obtain rfl : k2 = fs.length := by omega
            rw [List.take_of_length_le (by omega)] at hnd
            obtain ⟨e1, e2⟩ := HE0.out hnd
            have E1 : Hid (firstE fs = 0) := e1
            have E2 : Hid (firstN fs = best (flds fs) fs.length) := e2
            clear e1 e2
            go_wp2
            go_ret2
            exact ⟨by rw [E1.out, E2.out]; rfl, B1⟩
end Go.Proofs.Ytjblekemmcmblaa
namespace Go.Proofs.Ytjblekemmcmblaa
open Go.RowKit Go.Proofs.Bits
set_option linter.unusedVariables false
set_option maxRecDepth 1000000

theorem own_at {w w' : World} {B : Nat} {e : TypeId} {c : Nat} {v : Value} {n : Nat} {xs : List Value} (h : w.ownsRow B e c v n xs) (hk : ∀ g, v.ownBlock = some g → w'.heap[g]? = w.heap[g]?) : w'.ownsRow B e c v n xs := by
  obtain ⟨hl, h⟩ := h
  refine ⟨hl, ?_⟩
  rcases h with h | ⟨g, cap, cur, rfl, hg, hcur, rest⟩
  · exact .inl h
  · exact .inr ⟨g, cap, cur, rfl, hg, (hk g rfl).trans hcur, rest⟩
theorem own_block_lt {w : World} {B : Nat} {e : TypeId} {c : Nat} {v : Value} {n : Nat} {xs : List Value} (h : w.ownsRow B e c v n xs) {g : Nat} (hg : v.ownBlock = some g) : B ≤ g ∧ g < w.heap.size ∧ ∃ cur, w.heap[g]? = some (.cells cur e (0, 0)) := by
  rcases h.2 with ⟨rfl, _⟩ | ⟨g', cap, cur, rfl, hB, hcur, _⟩
  · cases hg
  · cases hg; exact ⟨hB, (Array.getElem?_eq_some_iff.1 hcur).1, cur, hcur⟩
theorem own_below {w w' : World} {B : Nat} {e : TypeId} {c : Nat} {v : Value} {n : Nat} {xs : List Value} (h : w.ownsRow B e c v n xs) (hb : Below w.heap.size w w') : w'.ownsRow B e c v n xs :=
  own_at h fun g hg => hb.block g (own_block_lt h hg).2.1
/-- A row of another kind of elements stands while this one grows. -/
theorem own_grown {w w' : World} {B B' : Nat} {e e' : TypeId} {c c' : Nat} {v v' : Value} {n n' : Nat} {xs xs' : List Value} (h : w.ownsRow B e c v n xs) (h' : w.ownsRow B' e' c' v' n' xs') (hne : e ≠ e') (hg : w.grownBy w' v'.ownBlock) : w'.ownsRow B e c v n xs :=
  own_at h fun g hgv => hg.block g (own_block_lt h hgv).2.1 (fun hx => by
    obtain ⟨_, _, cur, h1⟩ := own_block_lt h hgv
    obtain ⟨_, _, cur', h2⟩ := own_block_lt h' hx.symm
    rw [h1] at h2
    simp at h2
    exact hne h2.2)
theorem block_grown {w w' : World} {B' : Nat} {e e' : TypeId} {c' : Nat} {v' : Value} {n' : Nat} {xs' : List Value} {g : Nat} {A : Array Value} {fr : Nat × Nat} (h : w.heap[g]? = some (.cells A e fr)) (h' : w.ownsRow B' e' c' v' n' xs') (hne : e ≠ e') (hg : w.grownBy w' v'.ownBlock) : w'.heap[g]? = some (.cells A e fr) :=
  (hg.block g (Array.getElem?_eq_some_iff.1 h).1 (fun hx => by
    obtain ⟨_, _, cur', h2⟩ := own_block_lt h' hx.symm
    rw [h] at h2
    simp at h2
    exact hne h2.2.1)).trans h
theorem own_shape {w : World} {B : Nat} {e : TypeId} {c : Nat} {v : Value} {n : Nat} {xs : List Value} (h : w.ownsRow B e c v n xs) : ∃ ao cap, v = .slice ao n cap := by
  rcases h.2 with ⟨rfl, rfl⟩ | ⟨g', cap, cur, rfl, hB, hcur, _⟩
  · exact ⟨_, _, rfl⟩
  · exact ⟨_, _, rfl⟩
theorem below_grown {w0 w w' : World} {B : Nat} {e : TypeId} {c : Nat} {v : Value} {n : Nat} {xs : List Value} (hb : Below B w0 w) (h : w.ownsRow B e c v n xs) (hB : B ≤ w.heap.size) (hg : w.grownBy w' v.ownBlock) : Below B w0 w' :=
  hb.grown hg hB (fun k hk => (own_block_lt h hk).1)
theorem Sa.range {w : World} {q : Nat} {s : Se} (h : Sa q s w) : w.rangeAt q 2 s.f.cells := by
  intro j v hj
  rw [Lib.cell_of_heap h]
  have : s.arr[2 + j]? = s.f.cells[j]? := by
    unfold Se.arr Se.cells
    rw [List.getElem?_toArray, List.getElem?_append_right (by simp)]
    simp
  rw [this]; exact hj
def beE (l : List Se) : Int := if who l = [] then 0 else firstE (frs l)
def rnB (l : List Se) (r : Rn) : Rn := if who l = [] then { r with win := -1 } else if firstE (frs l) = 0 then { r with win := winN l, len := winL l } else r
theorem firstE_neg (fs : List Fr) : firstE fs = 0 ∨ firstE fs = 1 ∨ firstE fs = 3 ∨ firstE fs = 5 := by
  unfold firstE; split
  · simp
  · split
    · split <;> simp
    · simp
theorem first_small {fs : List Fr} (h : firstE fs = 0) : firstN fs < fs.length := by
  have h0 : ¬ fs.length = 0 := by intro h0; unfold firstE at h; rw [if_pos h0] at h; simp at h
  unfold firstN
  rw [if_pos h]
  have := best_lt (flds fs) fs.length (by omega)
  simpa [flds_length] using this
theorem winF_eq {l : List Se} (h : firstE (frs l) = 0) (hk : firstN (frs l) < (frs l).length) : (frs l)[firstN (frs l)] = winF l := by
  unfold winF winN
  have e : (frs l)[firstN (frs l)]? = some ((fun i => (seAt l i).f) ((who l).getD (firstN (frs l)) 0)) := by
    have hk2 : firstN (frs l) < (who l).length := (frsK_length l l.length) ▸ hk
    show ((who l).map _)[_]? = _
    rw [List.getElem?_map, List.getElem?_eq_getElem hk2]
    simp [List.getD_eq_getElem?_getD, List.getElem?_eq_getElem hk2]
  rw [List.getElem?_eq_getElem hk] at e
  simpa using e
set_option maxHeartbeats 4000000 in
theorem begin_any {w0 : World} {q ge gg : Nat} {v : Value} {l : List Se} {r : Rn} {w : World} (hl : l.length ≤ 127) (hS : Senders w0 v l) (h : RunAt w0 q ge gg v l.length r w) :
    Calls Try.prog 46 #[.pointer (some ⟨q, 0, none⟩)] w fun e w' => e = .returned (.int .i64 (beE l)) ∧ RunAt w0 q ge gg v l.length (rnB l r) w' := by
  have hS1 := hS
  obtain ⟨ao, cap, rfl, _, hc⟩ := hS
  have HC : Hid (∀ (wr : World), Below w.heap.size w wr → ∀ k (hk : k < l.length), ∃ b off, ao = some ⟨b, off, none⟩ ∧ b < w0.heap.size ∧ wr.rangeAt b (off + k * 14) l[k].cells) := fun wr hb k hk => Wide.at hc (h.bel.trans (hb.mono h.bel.size)) k hk
  have HE : Hid (beE l = if (whoK l l.length).length = 0 then 0 else firstE (frsK l l.length)) := by
    show _ = _; unfold beE; simp only [List.length_eq_zero_iff]; rfl
  have HB : Hid (rnB l r = if (whoK l l.length).length = 0 then { r with win := -1 } else if firstE (frsK l l.length) = 0 then { r with win := winN l, len := winL l } else r) := by
    show _ = _; unfold rnB; simp only [List.length_eq_zero_iff]; rfl
  generalize beE l = E at *
  generalize rnB l r = RB at *
  obtain ⟨c0, c1, c2, c3, c4, c5, c6, c7, hf⟩ := h.ru.cells
  have qs := h.bel.size
  clear hc
  go_enter Try.func46, Try.ntmps46
  go_wp2
  go_loopw [3, 4, 16] (fun pv fv i x => ∃ k : Nat, k ≤ l.length ∧ i = .int .i64 k ∧ Below w.heap.size w x ∧ x.ownsRow w.heap.size 3 1 pv ((whoK l k).map natV).length ((whoK l k).map natV) ∧ x.ownsRow w.heap.size 38 12 fv (frsK l k).length (flatW DF (frsK l k))) (fun _ _ i _ => l.length - (intOf i).toNat)
  case atStart => exact ⟨0, Nat.zero_le _, rfl, Below.refl _ _, World.ownsRow_nil _ _ _ _, World.ownsRow_nil _ _ _ _⟩
  case round =>
    clear c0 c1 c2 c3 c4 c5 c6 c7 hf
    obtain ⟨k, hk, rfl, B1, P1, F1⟩ := hrel
    have s1 := B1.size
    have hwk := whoK_le l k
    have hlk := frsK_length l k
    by_cases hkl : k < l.length
    · obtain ⟨b, off, rfl, hb, hR⟩ := HC.out wr B1 k hkl
      have gn := Sa.new wr Se.nul
      have g3 := gn.row l[k]
      have e0 := g3.c0
      have e1 := g3.c1
      have bb : Below wr.heap.size wr ((wr.alloc (.cells Se.nul.arr 40)).setRow wr.heap.size l[k].arr) := below_row ((Below.refl _ wr).alloc (Nat.le_refl _) _) (Nat.le_refl _) (by rw [size_alloc]; omega) _
      have B3 := B1.trans (bb.mono s1)
      have P3 := own_below P1 bb
      have F3 := own_below F1 bb
      have HW : Hid (whoK l (k + 1) = whoK l k ++ if l[k].up && l[k].sends then [k] else []) := by
        have := whoK_succ l k; unfold sndAt at this; rw [seAt_eq hkl] at this; exact this
      have HFr : Hid (frsK l (k + 1) = frsK l k ++ if l[k].up && l[k].sends then [l[k].f] else []) := by
        have := frsK_succ l k; unfold sndAt at this; rw [seAt_eq hkl] at this; exact this
      have g3r := g3.range
      clear HC bb P1 F1 B1
      generalize l[k] = s at *
      have hm : ((whoK l k).map natV).length = (whoK l k).length := by simp
      generalize hup : s.up = up at *
      generalize hse : s.sends = se at *
      cases up
      · have H1 : Hid (whoK l (k + 1) = whoK l k) := by show _ = _; rw [HW.out]; simp
        have H2 : Hid (frsK l (k + 1) = frsK l k) := by show _ = _; rw [HFr.out]; simp
        clear HW HFr
        go_wp2_with (first | refine se_ld hR rfl _ rfl rfl ?_ | refine gn.sd s rfl _ _ rfl rfl rfl ?_)
        go_roundw
        case rel => exact ⟨k + 1, by omega, by go_num, B3, by rw [H1.out]; exact P3, by rw [H2.out]; exact F3⟩
        case measure => simp [intOf]; omega
      · cases se
        · have H1 : Hid (whoK l (k + 1) = whoK l k) := by show _ = _; rw [HW.out]; simp
          have H2 : Hid (frsK l (k + 1) = frsK l k) := by show _ = _; rw [HFr.out]; simp
          clear HW HFr
          go_wp2_with (first | refine se_ld hR rfl _ rfl rfl ?_ | refine gn.sd s rfl _ _ rfl rfl rfl ?_)
          go_roundw
          case rel => exact ⟨k + 1, by omega, by go_num, B3, by rw [H1.out]; exact P3, by rw [H2.out]; exact F3⟩
          case measure => simp [intOf]; omega
        · have H1 : Hid ((whoK l (k + 1)).map natV = (whoK l k).map natV ++ [natV k]) := by show _ = _; rw [HW.out]; simp
          have H2 : Hid (frsK l (k + 1) = frsK l k ++ [s.f]) := by show _ = _; rw [HFr.out]; simp
          clear HW HFr
          generalize (whoK l k).map natV = xs at *
          generalize frsK l k = fs at *
          generalize hW3 : (wr.alloc (.cells Se.nul.arr 40)).setRow wr.heap.size s.arr = W3 at *
          have s3 := B3.size
          go_wp2_with (first | refine se_ld hR rfl _ rfl rfl ?_ | (refine gn.sd s rfl _ _ rfl rfl rfl ?_; rw [hW3]) | (at_builtin; refine append_slots rfl _ _ 71 3 (.int .i64 0) 8 Try.underlying71 infoI rfl rfl w.heap.size _ xs rfl (by exact ownsRow_alloc P3 _) _ [natV k] rfl (by exact slots_new W3 _ _) (by intro u hu; simp at hu; subst hu; rfl) (by unfold maxLen; simp; omega) (by simp; omega) (by rw [size_alloc]; omega) ?_))
          intro v4 w4 P4 G4 _
          have F4 := own_grown (ownsRow_alloc F3 _) (ownsRow_alloc P3 _) (by decide) G4
          have B4 := below_grown (B3.alloc s3 _) (ownsRow_alloc P3 _) (by rw [size_alloc]; omega) G4
          have g4 : Sa wr.heap.size s w4 := block_grown ((Below.heap_alloc W3 _ _ (by rw [← hW3]; simp [World.setRow])).trans g3) (ownsRow_alloc P3 _) (by decide) G4
          have r4 := g4.range
          have s4 := B4.size
          clear F3 B3 G4 g3 g3r P3 hR gn g4 e0 e1 hW3
          have HP4 : Hid (w4.ownsRow w.heap.size 3 1 v4 ((whoK l (k + 1)).map natV).length ((whoK l (k + 1)).map natV)) := by
            show World.ownsRow _ _ _ _ _ _ _
            rw [H1.out]; simpa [hm] using P4
          clear P4
          go_wp2_with (first | refine fld_ld r4 rfl _ rfl rfl ?_ | refine one_bs DF s.f 42 38 _ _ rfl _ rfl rfl Try.underlying42 infoFZ (by decide) ?_ | (at_builtin; refine append_wide DF rfl _ _ 42 38 _ _ Try.underlying42 infoFZ rfl rfl w.heap.size _ fs rfl (by exact ownsRow_alloc F4 _) _ [s.f] rfl (by exact wide_new DF w4 s.f 38) (by unfold maxLen; simp; omega) (by simp; omega) (by rw [size_alloc]; omega) ?_))
          intro v5 w5 F5 G5
          have P5 : Hid (w5.ownsRow w.heap.size 3 1 v4 ((whoK l (k + 1)).map natV).length ((whoK l (k + 1)).map natV)) := own_grown (ownsRow_alloc HP4.out _) (ownsRow_alloc F4 _) (by decide) G5
          have F6 : Hid (w5.ownsRow w.heap.size 38 12 v5 (frsK l (k + 1)).length (flatW DF (frsK l (k + 1)))) := by
            show World.ownsRow _ _ _ _ _ _ _
            have e : (fs ++ [s.f]).length = (whoK l k).length + 1 := by simp [hlk]
            rw [H2.out, e]; exact F5
          have B5 := below_grown (B4.alloc s4 _) (ownsRow_alloc F4 _) (by rw [size_alloc]; omega) G5
          clear F4 B4 G5 HP4 r4 F5
          go_wp2
          go_roundw
          case rel => exact ⟨k + 1, by omega, by go_num, B5, P5.out, F6.out⟩
          case measure => simp [intOf]; omega
    · obtain rfl : k = l.length := by omega
      clear HC
      have h1 := h.below B1
      obtain ⟨ao1, cap1, hv1⟩ := own_shape F1
      rw [hlk] at hv1
      by_cases hw0 : (whoK l l.length).length = 0
      · have HE2 : Hid (E = 0) := by show _ = _; rw [HE.out, if_pos hw0]
        have HB2 : Hid (RB = { r with win := -1 }) := by show _ = _; rw [HB.out, if_pos hw0]
        have h2 : Hid _ := h1.set0 (-1)
        obtain ⟨c0, c1, c2, c3, c4, c5, c6, c7, hf⟩ := h1.ru.cells
        rw [hw0] at hv1
        subst hv1
        clear F1 P1 HE HB h1
        go_wp2
        go_ret
        exact ⟨ret_int HE2.out.symm, by rw [HB2.out]; exact h2.out⟩
      · have Fr1 : Frames wr _ (frsK l l.length) := wide_of_own DF F1
        have hFi := First_any _ _ wr (by omega) Fr1
        have hd : ((((whoK l l.length).length : Nat) : Int) == 0) = false := by rw [beq_eq_false_iff_ne]; omega
        subst hv1
        rw [if_neg hw0] at HE HB
        rcases (by rcases firstE_neg (frsK l l.length) with h | h | h | h <;> simp [h] : firstE (frsK l l.length) = 0 ∨ firstE (frsK l l.length) ≠ 0) with hz | hz
        · have hsm : firstN (frsK l l.length) < (frsK l l.length).length := first_small hz
          have HE2 : Hid (E = 0) := by show _ = _; rw [HE.out, hz]
          have HB2 : Hid (RB = { r with win := winN l, len := winL l }) := by show _ = _; rw [HB.out, if_pos hz]
          have hfe : (frsK l l.length)[firstN (frsK l l.length)] = winF l := winF_eq (l := l) hz hsm
          have hA := alone_any (q := q) (r := r) (ve := natV 0) (vg := natV 0) hl (hS1.below h1.bel) h1.ru.cells.2.2.2.2.2.1
          have hEn := fEncode_any (winF l) (!alone l)
          have hlen := stuffed_bound (winF l) (!alone l)
          have HL : Hid (winL l = (encV (winF l) (!alone l)).length) := rfl
          have HWn : Hid (∀ j (hj : j < ((whoK l l.length).map natV).length), j = firstN (frsK l l.length) → ((whoK l l.length).map natV)[j] = natV (winN l)) := by
            rintro j hj rfl
            have hj2 : firstN (frsK l l.length) < (whoK l l.length).length := by simpa using hj
            rw [List.getElem_map]
            unfold winN who frs
            simp [List.getD_eq_getElem?_getD, List.getElem?_eq_getElem hj2]
          obtain ⟨ao2, cap2, hv2, _, hc2⟩ := Fr1
          obtain ⟨b2, off2, hao2, hb2, hR2⟩ := hc2 _ hsm
          have S3 := slots_of_own P1
          obtain ⟨ao3, cap3, hv3, _, hc3⟩ := S3
          have hj3 : firstN (frsK l l.length) < ((whoK l l.length).map natV).length := by simpa [← hlk] using hsm
          obtain ⟨b3, off3, hao3, hb3, hC3⟩ := hc3 _ hj3
          rw [HWn.out _ hj3 rfl] at hC3
          rw [hfe] at hR2
          have hl3 : ((whoK l l.length).map natV).length = (whoK l l.length).length := by simp
          rw [hlk] at hv2
          rw [hl3] at hv3
          subst hv3 hao2 hao3
          rw [hv2] at hFi
          rw [hv2]
          rw [hz] at hFi
          have hfs : firstN (frsK l l.length) < (whoK l l.length).length := by omega
          generalize firstN (frsK l l.length) = fi at *
          clear F1 P1 HE HB HWn hc2 hc3 hfe hz hv2
          go_wp2_with fail
          refine hFi.mono ?_
          rintro e w2 ⟨rfl, B2⟩
          have h2 := h1.below B2
          have hR3 : w2.rangeAt b2 (off2 + fi * 12) (winF l).cells := fun j v hv => (B2.cell (p := ⟨b2, off2 + fi * 12 + j, none⟩) hb2).trans (hR2 j v hv)
          have hC4 := (B2.cell (p := ⟨b3, off3 + fi, none⟩) hb3).trans hC3
          have hb2' : b2 < w2.heap.size := Nat.lt_of_lt_of_le hb2 B2.size
          have hb3' : b3 < w2.heap.size := Nat.lt_of_lt_of_le hb3 B2.size
          have hA : ∀ x : Later w2, Calls Try.prog 73 #[.pointer (some ⟨q, 0, none⟩)] x.now fun e w' => e = .returned (.bool (alone l)) ∧ Below x.now.heap.size x.now w' := fun x => alone_any (q := q) (r := r) (ve := natV 0) (vg := natV 0) hl (hS1.below (h2.below x.below).bel) (h2.below x.below).ru.cells.2.2.2.2.2.1
          have HX : Hid (∀ x : Later w2, RunAt w0 q ge gg _ l.length r x.now ∧ x.now.cell? ⟨b3, off3 + fi, none⟩ = some (natV (winN l))) := fun x => ⟨h2.below x.below, (x.below.cell (p := ⟨b3, off3 + fi, none⟩) hb3').trans hC4⟩
          have hL := Later.some w2
          clear hFi B2 h1 h2 hR2 hC3 hC4 B1 hS1
          unfold natV at HX
          unfold Fr.val at hEn
          generalize hal : alone l = al at *
          go_wp2_with fail
          refine wp_region_later (by kernel_rfl) (by kernel_rfl) ?_
          go_big_quiet_step (fail)
          go_big_quiet_step (fail)
          go_big_quiet_step (fail)
          refine quiet_ldm hR3 hb2' rfl _ rfl rfl ?_
          simp only [Act.put, List.setIfInBounds_toArray, List.set_cons_succ, List.set_cons_zero]
          go_big_quiet_step (fail)
          go_big_quiet_step (first | (go_at_call 73; with_reducible exact later (hA _)))
          go_big_quiet_step (fail)
          go_big_quiet_step (first | (go_at_call 22; with_reducible exact later (hEn _)))
          repeat (go_big_quiet_step (fail))
          refine wpQuiet_nil ?_
          rintro _ ⟨x1, rfl⟩
          obtain ⟨h3, hC5⟩ := HX.out x1
          obtain ⟨c0, c1, c2, c3, c4, c5, c6, c7, hf⟩ := h3.ru.cells
          have HZ : Hid _ := (h3.set0 (winN l)).set6 (winL l)
          rw [HL.out] at HZ
          generalize encV (winF l) (!al) = T at *
          clear hA hEn HX h3 hL hR3
          go_wp2
          go_ret
          exact ⟨ret_int HE2.out.symm, by rw [HB2.out, HL.out]; exact HZ.out⟩
        · have HE2 : Hid (E = firstE (frsK l l.length)) := HE.out
          have HB2 : Hid (RB = r) := by show _ = _; rw [HB.out, if_neg hz]
          have hd2 : (firstE (frsK l l.length) != 0) = true := by simpa using hz
          generalize firstE (frsK l l.length) = fe at *
          clear F1 P1 HE HB
          go_wp2_with fail
          refine hFi.mono ?_
          rintro e w2 ⟨rfl, B2⟩
          have h2 := h1.below B2
          go_wp2
          go_ret
          exact ⟨ret_int HE2.out.symm, by rw [HB2.out]; exact h2⟩
end Go.Proofs.Ytjblekemmcmblaa
namespace Go.Proofs.Ytjblekemmcmblaa
open Go.RowKit Go.Proofs.Bits
set_option linter.unusedVariables false
set_option maxRecDepth 1000000

theorem infoEr : (Try.prog.info? 28).map (fun i => (i.zero, i.size, i.bytes)) = some (some (.int .i64 0), 1, 8) := by kernel_rfl
theorem infoBo : (Try.prog.info? 4).map (fun i => (i.zero, i.size, i.bytes)) = some (some (.bool false), 1, 1) := by kernel_rfl
theorem infoRu : (Try.prog.info? 67).map (·.size) = some 8 := by kernel_rfl
def nilV : Value := .slice none 0 0
def rnZ : Rn := ⟨0, 0, false, [], [], 0, 0⟩
def zArr : Array Value := rnZ.arr nilV nilV nilV
theorem Ru.range {q : Nat} {r : Rn} {ve vg v : Value} {w : World} (h : Ru q r ve vg v w) : w.rangeAt q 0 (r.arr ve vg v).toList := by
  intro j u hj
  rw [Lib.cell_of_heap h, Nat.zero_add]
  simpa using hj
theorem Ru.ld {q : Nat} {r : Rn} {ve vg v : Value} {w : World} {ops : Array Oper} {rest : List Oper} {p : Oper} {a : Act} {Q : Exit → Act → World → Prop} (h : Ru q r ve vg v w) (hgd : p.guard = none) (x : Operand) (ho : p.op = .load 67 x) (hx : a.eval x = .pointer (some ⟨q, 0, none⟩))
    (hh : wpList Try.prog ops Q rest (a.put p.dst (.agg (r.arr ve vg v))) w) : wpList Try.prog ops Q (p :: rest) a w :=
  wpList_load_mid hgd 67 x ho q 0 hx (r.arr ve vg v).toList _ h.range Try.underlying67 rfl (by rw [infoRu]; rfl) hh
theorem Ru.row {q : Nat} {r : Rn} {ve vg v : Value} {w : World} (h : Ru q r ve vg v w) (r' : Rn) (ve' vg' v' : Value) : Ru q r' ve' vg' v' (w.setRow q (r'.arr ve' vg' v')) := setRow_heap w q _ _ 67 _ h
def okV (v : Value) : Prop := v.oneCell' = true
theorem Ru.sd {q : Nat} {r : Rn} {ve vg v : Value} {w : World} {ops : Array Oper} {rest : List Oper} {o : Oper} {a : Act} {Q : Exit → Act → World → Prop} (h : Ru q r ve vg v w) (r' : Rn) (ve' vg' v' : Value) (h1 : okV ve') (h2 : okV vg') (h3 : okV v') (hgd : o.guard = none) (x y : Operand) (ho : o.op = .store 67 x y) (hx : a.eval x = .pointer (some ⟨q, 0, none⟩)) (hy : a.eval y = .agg (r'.arr ve' vg' v'))
    (hh : wpList Try.prog ops Q rest (a.put o.dst undef) (w.setRow q (r'.arr ve' vg' v'))) : wpList Try.prog ops Q (o :: rest) a w :=
  wpList_store_row hgd 67 x y ho q _ hx hy 67 _ h infoRu rfl (by unfold okV at *; simp [Rn.arr, Value.oneCell'] at *; exact ⟨h1, h2, h3⟩) hh
theorem Ru.new (w : World) (r : Rn) (ve vg v : Value) : Ru w.heap.size r ve vg v (w.alloc (.cells (r.arr ve vg v) 67)) := heap_alloc_new w _
theorem below_beg {l : List Se} (h : beE l = 0) (hw : ¬ who l = []) : rnB l (rn0 l) = rnW l ∧ winN l < l.length := by
  unfold beE at h
  rw [if_neg hw] at h
  refine ⟨by unfold rnB; rw [if_neg hw, if_pos h]; rfl, ?_⟩
  have hs := first_small h
  have hk2 : firstN (frs l) < (who l).length := (frsK_length l l.length) ▸ hs
  unfold winN
  rw [List.getD_eq_getElem?_getD, List.getElem?_eq_getElem hk2]
  have : (who l)[firstN (frs l)] ∈ who l := List.getElem_mem hk2
  unfold who whoK at this
  have := (List.mem_filter.1 this).1
  exact List.mem_range.1 this
theorem look_ok {n : Nat} {fl : List Fl} (h : lookV n fl = 0) : n ≤ 127 ∧ fl.length ≤ 65536 ∧ ∀ f ∈ fl, 0 ≤ f.nd ∧ f.nd < n ∧ 0 ≤ f.bit := by
  unfold lookV at h
  by_cases h1 : 127 < n
  · rw [if_pos h1] at h; simp at h
  · rw [if_neg h1] at h
    by_cases h2 : 65536 < fl.length
    · rw [if_pos h2] at h; simp at h
    · rw [if_neg h2] at h
      cases ha : fl.any (wrongB n)
      · rw [List.any_eq_false] at ha
        refine ⟨by omega, by omega, fun f hf => ?_⟩
        have := ha f hf
        unfold wrongB at this
        simp at this
        omega
      · rw [ha] at h; simp at h
abbrev rn1 : Rn := ⟨0, 0, false, [], [], 0, -1⟩
theorem rn0_arr (l : List Se) (a b c : Value) : (rn0 l).arr a b c = rn1.arr a b c := rfl
abbrev errsO (n : Nat) : Obj := .cells (madeCells #[.int .i64 0] n) 28
abbrev gotO (n : Nat) : Obj := .cells (madeCells #[.bool false] n) 4
theorem Ru.set34 {q : Nat} {r : Rn} {ve vg v : Value} {w : World} (h : Ru q r ve vg v w) (ve' vg' : Value) : Ru q r ve' vg' v ((w.setCell ⟨q, 3, none⟩ ve').setCell ⟨q, 4, none⟩ vg') := by
  unfold Ru Rn.arr at *; simp [World.setCell, Array.getElem?_modify, h]
theorem row_errs (W : World) (n : Nat) : Row (W.alloc (errsO n)) W.heap.size ((List.replicate n (0 : Int)).map errV) := by
  have := Row.made W (.int .i64 0) n 28
  simpa [errV] using this
theorem row_got (W : World) (n : Nat) : Row (W.alloc (gotO n)) W.heap.size ((List.replicate n false).map Value.bool) := by
  have := Row.made W (.bool false) n 4
  simpa using this
theorem run_start1 (w2 : World) (v : Value) (l : List Se) : RunAt w2 w2.heap.size (w2.heap.size + 1) (w2.heap.size + 1 + 1) v l.length (rn0 l) (((((((w2.alloc (.cells (rnZ.arr nilV nilV nilV) 67)).setRow w2.heap.size (rn1.arr nilV nilV v)).setCell ⟨w2.heap.size, 3, none⟩ (.slice (some ⟨w2.heap.size + 1, 0, none⟩) l.length l.length)).setCell ⟨w2.heap.size, 4, none⟩ (.slice (some ⟨w2.heap.size + 1 + 1, 0, none⟩) l.length l.length)).alloc (errsO l.length)).alloc (gotO l.length)).drew) := by
  have gn := Ru.new w2 rnZ nilV nilV nilV
  have g3 : Ru _ (rn0 l) nilV nilV v _ := gn.row rn1 nilV nilV v
  have g4 := g3.set34 (sl (w2.heap.size + 1) l.length) (sl (w2.heap.size + 1 + 1) l.length)
  have B4 : Below w2.heap.size w2 ((((w2.alloc (.cells (rnZ.arr nilV nilV nilV) 67)).setRow w2.heap.size (rn1.arr nilV nilV v)).setCell ⟨w2.heap.size, 3, none⟩ (sl (w2.heap.size + 1) l.length)).setCell ⟨w2.heap.size, 4, none⟩ (sl (w2.heap.size + 1 + 1) l.length)) :=
    ((below_row ((Below.refl _ w2).alloc (Nat.le_refl _) _) (Nat.le_refl _) (by rw [size_alloc]; omega) _).setCell (p := ⟨w2.heap.size, 3, none⟩) (Nat.le_refl _) _).setCell (p := ⟨w2.heap.size, 4, none⟩) (Nat.le_refl _) _
  have hs : ((((w2.alloc (.cells (rnZ.arr nilV nilV nilV) 67)).setRow w2.heap.size (rn1.arr nilV nilV v)).setCell ⟨w2.heap.size, 3, none⟩ (sl (w2.heap.size + 1) l.length)).setCell ⟨w2.heap.size, 4, none⟩ (sl (w2.heap.size + 1 + 1) l.length)).heap.size = w2.heap.size + 1 := by simp [World.setCell, World.setRow]
  unfold sl at hs B4 g4
  generalize (((w2.alloc (.cells (rnZ.arr nilV nilV nilV) 67)).setRow w2.heap.size (rn1.arr nilV nilV v)).setCell ⟨w2.heap.size, 3, none⟩ (.slice (some ⟨w2.heap.size + 1, 0, none⟩) l.length l.length)).setCell ⟨w2.heap.size, 4, none⟩ (.slice (some ⟨w2.heap.size + 1 + 1, 0, none⟩) l.length l.length) = W4 at *
  have e1 := row_errs W4 l.length
  have e2 := row_got (W4.alloc (errsO l.length)) l.length
  rw [size_alloc, hs] at e2
  rw [hs] at e1
  have b1 : Below W4.heap.size W4 ((W4.alloc (errsO l.length)).alloc (gotO l.length)).drew := below_drawn (((Below.refl _ W4).alloc (Nat.le_refl _) _).alloc (by rw [size_alloc]; omega) _) 1
  exact ⟨B4.trans (b1.mono B4.size), g4.below b1, (e1.kept (Below.heap_alloc _ _ _ (by rw [size_alloc]; omega))).below (below_drawn (Below.refl _ _) 1), e2.below (below_drawn (Below.refl _ _) 1), Nat.le_refl _, by omega, by omega, by omega, by omega, by omega, by simp [rn0], by simp [rn0]⟩
theorem run_start2 (w2 : World) (v : Value) (l : List Se) : RunAt w2 w2.heap.size (w2.heap.size + 1 + 1) (w2.heap.size + 1) v l.length (rn0 l) (((((((w2.alloc (.cells (rnZ.arr nilV nilV nilV) 67)).setRow w2.heap.size (rn1.arr nilV nilV v)).setCell ⟨w2.heap.size, 3, none⟩ (.slice (some ⟨w2.heap.size + 1 + 1, 0, none⟩) l.length l.length)).setCell ⟨w2.heap.size, 4, none⟩ (.slice (some ⟨w2.heap.size + 1, 0, none⟩) l.length l.length)).alloc (gotO l.length)).alloc (errsO l.length)).drew) := by
  have gn := Ru.new w2 rnZ nilV nilV nilV
  have g3 : Ru _ (rn0 l) nilV nilV v _ := gn.row rn1 nilV nilV v
  have g4 := g3.set34 (sl (w2.heap.size + 1 + 1) l.length) (sl (w2.heap.size + 1) l.length)
  have B4 : Below w2.heap.size w2 ((((w2.alloc (.cells (rnZ.arr nilV nilV nilV) 67)).setRow w2.heap.size (rn1.arr nilV nilV v)).setCell ⟨w2.heap.size, 3, none⟩ (sl (w2.heap.size + 1 + 1) l.length)).setCell ⟨w2.heap.size, 4, none⟩ (sl (w2.heap.size + 1) l.length)) :=
    ((below_row ((Below.refl _ w2).alloc (Nat.le_refl _) _) (Nat.le_refl _) (by rw [size_alloc]; omega) _).setCell (p := ⟨w2.heap.size, 3, none⟩) (Nat.le_refl _) _).setCell (p := ⟨w2.heap.size, 4, none⟩) (Nat.le_refl _) _
  have hs : ((((w2.alloc (.cells (rnZ.arr nilV nilV nilV) 67)).setRow w2.heap.size (rn1.arr nilV nilV v)).setCell ⟨w2.heap.size, 3, none⟩ (sl (w2.heap.size + 1 + 1) l.length)).setCell ⟨w2.heap.size, 4, none⟩ (sl (w2.heap.size + 1) l.length)).heap.size = w2.heap.size + 1 := by simp [World.setCell, World.setRow]
  unfold sl at hs B4 g4
  generalize (((w2.alloc (.cells (rnZ.arr nilV nilV nilV) 67)).setRow w2.heap.size (rn1.arr nilV nilV v)).setCell ⟨w2.heap.size, 3, none⟩ (.slice (some ⟨w2.heap.size + 1 + 1, 0, none⟩) l.length l.length)).setCell ⟨w2.heap.size, 4, none⟩ (.slice (some ⟨w2.heap.size + 1, 0, none⟩) l.length l.length) = W4 at *
  have e1 := row_got W4 l.length
  have e2 := row_errs (W4.alloc (gotO l.length)) l.length
  rw [size_alloc, hs] at e2
  rw [hs] at e1
  have b1 : Below W4.heap.size W4 ((W4.alloc (gotO l.length)).alloc (errsO l.length)).drew := below_drawn (((Below.refl _ W4).alloc (Nat.le_refl _) _).alloc (by rw [size_alloc]; omega) _) 1
  exact ⟨B4.trans (b1.mono B4.size), g4.below b1, e2.below (below_drawn (Below.refl _ _) 1), (e1.kept (Below.heap_alloc _ _ _ (by rw [size_alloc]; omega))).below (below_drawn (Below.refl _ _) 1), Nat.le_refl _, by omega, by omega, by omega, by omega, by omega, by simp [rn0], by simp [rn0]⟩
/-- What run answers. -/
def RunRes (l : List Se) (fl : List Fl) (v : Value) (w : World) (e : Ending) (w' : World) : Prop :=
  (rndE l fl ≠ 0 → e = .returned (.tuple #[.agg zArr, .int .i64 (rndE l fl)])) ∧
  (rndE l fl = 0 → ∃ ge gg, e = .returned (.tuple #[.agg ((rnd l fl).arr (sl ge l.length) (sl gg l.length) v), .int .i64 0]) ∧ Row w' ge ((rnd l fl).errs.map errV) ∧ Row w' gg ((rnd l fl).got.map Value.bool) ∧ w.heap.size ≤ ge ∧ w.heap.size ≤ gg ∧ ge ≠ gg ∧ (rnd l fl).errs.length = l.length ∧ (rnd l fl).got.length = l.length) ∧ Below w.heap.size w w'
set_option maxHeartbeats 4000000 in
theorem run_any (v vf : Value) (l : List Se) (fl : List Fl) (w : World) (hl : l.length ≤ maxLen) (hfl : fl.length ≤ maxLen) (hS : Senders w v l) (hF : Flips w vf fl) :
    Calls Try.prog 24 #[v, vf] w fun e w' => RunRes l fl v w e w' := by
  unfold maxLen at hl
  have B1 : Below w.heap.size w (w.alloc (.cells zArr 67)) := (Below.refl _ _).alloc (Nat.le_refl _) _
  have hLk := blook_any l.length vf fl _ hfl (hF.below B1)
  have R1 := Ru.new w rnZ nilV nilV nilV
  have hS1 := hS.below B1
  have hF1 := hF.below B1
  have hv : okV v := by obtain ⟨ao, cap, rfl, _⟩ := hS; rfl
  by_cases h0 : lookV l.length fl = 0
  · obtain ⟨h127, h65, hok⟩ := look_ok h0
    have hm1 := run_make_row' (P := Try.prog) 24 28 (.int .i64 0) 8 Try.underlying24 infoEr rfl .i64 .i64 l.length (by omega) (by omega)
    have hm2 := run_make_row' (P := Try.prog) 25 4 (.bool false) 1 Try.underlying25 infoBo rfl .i64 .i64 l.length (by omega) (by omega)
    have hd : (lookV l.length fl != 0) = false := by simpa using h0
    have HS1 : Hid _ := hS1
    have HF1 : Hid _ := hF1
    have HOK : Hid _ := hok
    have HE : Hid (rndE l fl = beE l) := by show _ = _; unfold rndE beE; rw [if_neg (by simpa using h0)]
    obtain ⟨ao, cap, rfl, _⟩ := hS
    generalize lookV l.length fl = lv at *
    subst h0
    clear hS1 hF1 hF hok
    go_enter Try.func24, Try.ntmps24
    go_wp2_with fail
    refine hLk.mono ?_
    rintro e w2 ⟨rfl, B2⟩
    have R2 := R1.below B2
    have B3 := B1.trans (B2.mono B1.size)
    have gn := Ru.new w2 rnZ nilV nilV nilV
    have g3 := gn.row ⟨0, 0, false, [], [], 0, -1⟩ nilV nilV (.slice ao l.length cap)
    obtain ⟨c0, c1, c2, c3, c4, c5, c6, c7, hf⟩ := g3.cells
    clear hLk R1
    have HS2 : Hid (Senders w2 (.slice ao l.length cap) l) := Senders.below HS1.out B2
    have HF2 : Hid (Flips w2 vf fl) := Flips.below HF1.out B2
    have HG1 : Hid _ := run_start1 w2 (.slice ao l.length cap) l
    have HG2 : Hid _ := run_start2 w2 (.slice ao l.length cap) l
    clear HS1 HF1 B2
    go_wp2_with (refine gn.sd rn1 nilV nilV (.slice ao l.length cap) rfl rfl rfl rfl _ _ rfl rfl rfl ?_)
    simp only [Act.put]
    go_cut [] from 19 to 28 (fun wx => ∃ ge gg, RunAt w2 w2.heap.size ge gg (.slice ao l.length cap) l.length (rn0 l) wx)
    case first =>
      go_region
      all_goals
        go_wp2_with fail
        go_meet
        case rel => first | exact ⟨_, _, HG1.out⟩ | exact ⟨_, _, HG2.out⟩
    case rest =>
    obtain ⟨ge, gg, h1⟩ := hcut
    have s2 : w.heap.size < w2.heap.size := by have := B3.size; have := R2.lt; omega
    have hBe := begin_any h127 HS2.out h1
    have HRes : Hid (∀ e x, (rndE l fl ≠ 0 → e = .returned (.tuple #[.agg zArr, .int .i64 (rndE l fl)])) → (rndE l fl = 0 → ∃ ge gg, e = .returned (.tuple #[.agg ((rnd l fl).arr (sl ge l.length) (sl gg l.length) (.slice ao l.length cap)), .int .i64 0]) ∧ Row x ge ((rnd l fl).errs.map errV) ∧ Row x gg ((rnd l fl).got.map Value.bool) ∧ w.heap.size ≤ ge ∧ w.heap.size ≤ gg ∧ ge ≠ gg ∧ (rnd l fl).errs.length = l.length ∧ (rnd l fl).got.length = l.length) → Below w.heap.size w x → RunRes l fl (.slice ao l.length cap) w e x) := fun e x h1 h2 h3 => ⟨h1, h2, h3⟩
    clear HG1 HG2 h1 gn g3 c0 c1 c2 c3 c4 c5 c6 c7 hf hm1 hm2
    rcases (by unfold beE; split; exact .inl rfl; rcases firstE_neg (frs l) with h | h | h | h <;> simp [h] : beE l = 0 ∨ beE l ≠ 0) with hb | hb
    · by_cases hwo : who l = []
      · have HR : Hid (rnd l fl = rnN l) := by show _ = _; unfold rnd; rw [if_pos hwo]
        have HB : Hid (rnB l (rn0 l) = { rn0 l with win := -1 }) := by show _ = _; unfold rnB; rw [if_pos hwo]
        rw [HB.out, hb] at hBe
        rw [HR.out] at HRes
        rw [hb] at HE
        rw [HE.out] at HRes
        go_wp2_with fail
        refine hBe.mono ?_
        rintro e w4 ⟨rfl, h4⟩
        obtain ⟨c0, c1, c2, c3, c4, c5, c6, c7, hf⟩ := h4.ru.cells
        have h5 := h4.set1 11
        have R5 := h5.ru
        have Z5 : Ru w.heap.size rnZ nilV nilV nilV (w4.setCell ⟨w2.heap.size, 1, none⟩ (.int .i64 11)) := R2.kept (h5.bel.block _ s2)
        have Z6 := Z5.row (rnN l) (sl ge l.length) (sl gg l.length) (.slice ao l.length cap)
        obtain ⟨d0, d1, d2, d3, d4, d5, d6, d7, df⟩ := Z6.cells
        have B5 := below_row (B3.trans (h5.bel.mono (by omega))) (q := w.heap.size) (Nat.le_refl _) (by have := Z5.lt; omega) ((rnN l).arr (sl ge l.length) (sl gg l.length) (.slice ao l.length cap))
        have E5 := h5.er.kept (setRow_other _ w.heap.size ge ((rnN l).arr (sl ge l.length) (sl gg l.length) (.slice ao l.length cap)) (by have := h5.b2; omega))
        have G5 := h5.go.kept (setRow_other _ w.heap.size gg ((rnN l).arr (sl ge l.length) (sl gg l.length) (.slice ao l.length cap)) (by have := h5.b3; omega))
        go_wp2_with (first | refine R5.ld rfl _ rfl rfl ?_ | refine Z5.sd (rnN l) (sl ge l.length) (sl gg l.length) (.slice ao l.length cap) rfl rfl rfl rfl _ _ rfl rfl rfl ?_)
        exact bodyPost_ret (v := .tuple #[.agg ((rnN l).arr (sl ge l.length) (sl gg l.length) (.slice ao l.length cap)), .int .i64 0]) (by simp [results, Try.results24, go_sem, d0, d1, d2, d3, d4, d5, d6, d7]; rfl) rfl (HRes.out _ _ (fun h => absurd rfl h) (fun _ => ⟨ge, gg, rfl, E5, G5, by have := h5.b2; omega, by have := h5.b3; omega, h5.d3, h5.le, h5.lg⟩) B5)
      · obtain ⟨hbeg, hwl⟩ := below_beg hb hwo
        have HR : Hid (rnd l fl = rnEnd l fl (rnW l) (winN l)) := by show _ = _; unfold rnd; rw [if_neg hwo]
        rw [hbeg, hb] at hBe
        rw [HR.out] at HRes
        rw [hb] at HE
        rw [HE.out] at HRes
        clear hbeg HR
        go_wp2_with fail
        refine hBe.mono ?_
        rintro e w4 ⟨rfl, h4⟩
        have hEnd := end_any4 h127 hwl (stuffed_bound _ _) h65 HOK.out HS2.out HF2.out h4 rfl rfl rfl
        have c0 := ruWin h4 rfl
        have hne : (((winN l : Nat) : Int) == -1) = false := by rw [beq_eq_false_iff_ne]; omega
        generalize rnEnd l fl (rnW l) (winN l) = r9 at *
        clear h4 hBe
        go_wp2_with fail
        refine hEnd.mono ?_
        rintro e w5 ⟨rfl, h5⟩
        have R5 := h5.ru
        have Z5 : Ru w.heap.size rnZ nilV nilV nilV w5 := R2.kept (h5.bel.block _ s2)
        have Z6 := Z5.row r9 (sl ge l.length) (sl gg l.length) (.slice ao l.length cap)
        obtain ⟨d0, d1, d2, d3, d4, d5, d6, d7, df⟩ := Z6.cells
        have B5 := below_row (B3.trans (h5.bel.mono (by omega))) (q := w.heap.size) (Nat.le_refl _) (by have := Z5.lt; omega) (r9.arr (sl ge l.length) (sl gg l.length) (.slice ao l.length cap))
        have E5 := h5.er.kept (setRow_other _ w.heap.size ge (r9.arr (sl ge l.length) (sl gg l.length) (.slice ao l.length cap)) (by have := h5.b2; omega))
        have G5 := h5.go.kept (setRow_other _ w.heap.size gg (r9.arr (sl ge l.length) (sl gg l.length) (.slice ao l.length cap)) (by have := h5.b3; omega))
        clear hEnd c0
        go_wp2_with (first | refine R5.ld rfl _ rfl rfl ?_ | refine Z5.sd r9 (sl ge l.length) (sl gg l.length) (.slice ao l.length cap) rfl rfl rfl rfl _ _ rfl rfl rfl ?_)
        exact bodyPost_ret (v := .tuple #[.agg (r9.arr (sl ge l.length) (sl gg l.length) (.slice ao l.length cap)), .int .i64 0]) (by simp [results, Try.results24, go_sem, d0, d1, d2, d3, d4, d5, d6, d7]; rfl) rfl (HRes.out _ _ (fun h => absurd rfl h) (fun _ => ⟨ge, gg, rfl, E5, G5, by have := h5.b2; omega, by have := h5.b3; omega, h5.d3, h5.le, h5.lg⟩) B5)
    · rw [HE.out] at HRes
      have hd2 : (beE l != 0) = true := by simpa using hb
      have HB : Hid (beE l ≠ 0) := hb
      generalize beE l = be at *
      clear HE hb
      go_wp2_with fail
      refine hBe.mono ?_
      rintro e w4 ⟨rfl, h4⟩
      have Z5 : Ru w.heap.size rnZ nilV nilV nilV w4 := R2.kept (h4.bel.block _ s2)
      have Z6 := Z5.row rnZ nilV nilV nilV
      obtain ⟨d0, d1, d2, d3, d4, d5, d6, d7, df⟩ := Z6.cells
      have B5 := below_row (B3.trans (h4.bel.mono (by omega))) (q := w.heap.size) (Nat.le_refl _) (by have := Z5.lt; omega) zArr
      clear hBe
      go_wp2_with (refine Z5.sd rnZ nilV nilV nilV rfl rfl rfl rfl _ _ rfl rfl rfl ?_)
      exact bodyPost_ret (v := .tuple #[.agg zArr, .int .i64 be]) (by simp [results, Try.results24, go_sem, d0, d1, d2, d3, d4, d5, d6, d7]; rfl) rfl (HRes.out _ _ (fun _ => rfl) (fun h => absurd h HB.out) B5)
  · have HE : Hid (rndE l fl = lookV l.length fl) := by show _ = _; unfold rndE; rw [if_pos h0]
    have hd : (lookV l.length fl != 0) = true := by simpa using h0
    obtain ⟨ao, cap, rfl, _⟩ := hS
    generalize lookV l.length fl = lv at *
    clear hS1 hF1 hF
    go_enter Try.func24, Try.ntmps24
    go_wp2_with fail
    refine hLk.mono ?_
    rintro e w2 ⟨rfl, B2⟩
    have R2 := R1.below B2
    have B3 := B1.trans (B2.mono B1.size)
    have R3 := R2.row rnZ nilV nilV nilV
    have B4 := below_row B3 (q := w.heap.size) (Nat.le_refl _) (by have := B3.size; omega) zArr
    obtain ⟨c0, c1, c2, c3, c4, c5, c6, c7, hf⟩ := R3.cells
    clear hLk B2 R1
    go_wp2_with (refine R2.sd rnZ nilV nilV nilV rfl rfl rfl rfl _ _ rfl rfl rfl ?_)
    exact bodyPost_ret (v := .tuple #[.agg zArr, .int .i64 lv]) (by simp [results, Try.results24, go_sem, c0, c1, c2, c3, c4, c5, c6, c7]; rfl) rfl ⟨fun _ => by rw [HE.out], fun h => absurd (HE.out.symm.trans h) h0, B4⟩
/-- An outcome as a value. -/
def Rn.out (r : Rn) (ve vg : Value) : Array Value := #[.int .i64 r.win, .int .i64 r.bits, .bool r.sent, ve, vg]
def OutRes (l : List Se) (fl : List Fl) (w : World) (e : Ending) (w' : World) : Prop :=
  (rndE l fl ≠ 0 → e = .returned (.tuple #[.agg (rnZ.out nilV nilV), .int .i64 (rndE l fl)])) ∧
  (rndE l fl = 0 → ∃ ge gg, e = .returned (.tuple #[.agg ((rnd l fl).out (sl ge l.length) (sl gg l.length)), .int .i64 0]) ∧ Row w' ge ((rnd l fl).errs.map errV) ∧ Row w' gg ((rnd l fl).got.map Value.bool) ∧ w.heap.size ≤ ge ∧ w.heap.size ≤ gg ∧ ge ≠ gg ∧ (rnd l fl).errs.length = l.length ∧ (rnd l fl).got.length = l.length) ∧ Below w.heap.size w w'
end Go.Proofs.Ytjblekemmcmblaa
namespace Go.Proofs.Ytjblekemmcmblaa
open Go.RowKit Go.Proofs.Bits
set_option linter.unusedVariables false
set_option maxRecDepth 1000000

theorem infoOu : (Try.prog.info? 27).map (·.size) = some 5 := by kernel_rfl
def Oa (q : Nat) (r : Rn) (ve vg : Value) (w : World) : Prop := w.heap[q]? = some (.cells (r.out ve vg) 27 (0, 0))
section
variable {q : Nat} {r : Rn} {ve vg : Value} {w : World}
theorem Oa.lt (h : Oa q r ve vg w) : q < w.heap.size := (Array.getElem?_eq_some_iff.1 h).1
theorem Oa.kept (h : Oa q r ve vg w) {w' : World} (hk : w'.heap[q]? = w.heap[q]?) : Oa q r ve vg w' := hk.trans h
theorem Oa.below (h : Oa q r ve vg w) {w' : World} (hb : Below w.heap.size w w') : Oa q r ve vg w' := h.kept (hb.block q h.lt)
theorem Oa.new (w : World) (r : Rn) (ve vg : Value) : Oa w.heap.size r ve vg (w.alloc (.cells (r.out ve vg) 27)) := heap_alloc_new w _
theorem Oa.row (h : Oa q r ve vg w) (r' : Rn) (ve' vg' : Value) : Oa q r' ve' vg' (w.setRow q (r'.out ve' vg')) := setRow_heap w q _ _ 27 _ h
theorem Oa.cells (h : Oa q r ve vg w) : w.cell? ⟨q, 0, none⟩ = some (.int .i64 r.win) ∧ w.cell? ⟨q, 1, none⟩ = some (.int .i64 r.bits) ∧ w.cell? ⟨q, 2, none⟩ = some (.bool r.sent) ∧ w.cell? ⟨q, 3, none⟩ = some ve ∧ w.cell? ⟨q, 4, none⟩ = some vg :=
  ⟨Lib.cell_of_heap h 0, Lib.cell_of_heap h 1, Lib.cell_of_heap h 2, Lib.cell_of_heap h 3, Lib.cell_of_heap h 4⟩
theorem Oa.sd {ops : Array Oper} {rest : List Oper} {o : Oper} {a : Act} {Q : Exit → Act → World → Prop} (h : Oa q r ve vg w) (r' : Rn) (ve' vg' : Value) (h1 : okV ve') (h2 : okV vg') (hgd : o.guard = none) (x y : Operand) (ho : o.op = .store 27 x y) (hx : a.eval x = .pointer (some ⟨q, 0, none⟩)) (hy : a.eval y = .agg (r'.out ve' vg'))
    (hh : wpList Try.prog ops Q rest (a.put o.dst undef) (w.setRow q (r'.out ve' vg'))) : wpList Try.prog ops Q (o :: rest) a w :=
  wpList_store_row hgd 27 x y ho q _ hx hy 27 _ h infoOu rfl (by unfold okV at *; simp [Rn.out, Value.oneCell'] at *; exact ⟨h1, h2⟩) hh
theorem Oa.range (h : Oa q r ve vg w) : w.rangeAt q 0 (r.out ve vg).toList := by
  intro j u hj
  rw [Lib.cell_of_heap h, Nat.zero_add]
  simpa using hj
theorem Oa.ld {ops : Array Oper} {rest : List Oper} {p : Oper} {a : Act} {Q : Exit → Act → World → Prop} (h : Oa q r ve vg w) (hgd : p.guard = none) (x : Operand) (ho : p.op = .load 27 x) (hx : a.eval x = .pointer (some ⟨q, 0, none⟩))
    (hh : wpList Try.prog ops Q rest (a.put p.dst (.agg (r.out ve vg))) w) : wpList Try.prog ops Q (p :: rest) a w :=
  wpList_load_mid hgd 27 x ho q 0 hx (r.out ve vg).toList _ h.range Try.underlying27 rfl (by rw [infoOu]; rfl) hh
theorem Ru.rangeO {v : Value} (h : Ru q r ve vg v w) : w.rangeAt q 0 (r.out ve vg).toList := by
  intro j u hj
  rw [Lib.cell_of_heap h, Nat.zero_add]
  have hj5 : j < 5 := (List.getElem?_eq_some_iff.1 hj).1
  match j, hj5 with
  | 0, _ => exact hj
  | 1, _ => exact hj
  | 2, _ => exact hj
  | 3, _ => exact hj
  | 4, _ => exact hj
theorem Ru.ldO {v : Value} {ops : Array Oper} {rest : List Oper} {p : Oper} {a : Act} {Q : Exit → Act → World → Prop} (h : Ru q r ve vg v w) (hgd : p.guard = none) (x : Operand) (ho : p.op = .load 27 x) (hx : a.eval x = .pointer (some ⟨q, 0, none⟩))
    (hh : wpList Try.prog ops Q rest (a.put p.dst (.agg (r.out ve vg))) w) : wpList Try.prog ops Q (p :: rest) a w :=
  wpList_load_mid hgd 27 x ho q 0 hx (r.out ve vg).toList _ h.rangeO Try.underlying27 rfl (by rw [infoOu]; rfl) hh
end
set_option maxHeartbeats 2000000 in
theorem Round_any (v vf : Value) (l : List Se) (fl : List Fl) (w : World) (hl : l.length ≤ maxLen) (hfl : fl.length ≤ maxLen) (hS : Senders w v l) (hF : Flips w vf fl) :
    Calls Try.prog 8 #[v, vf] w fun e w' => OutRes l fl w e w' := by
  have B1 : Below w.heap.size w (w.alloc (.cells (rnZ.out nilV nilV) 27)) := (Below.refl _ _).alloc (Nat.le_refl _) _
  have O1 := Oa.new w rnZ nilV nilV
  have hR := run_any v vf l fl _ hl hfl (hS.below B1) (hF.below B1)
  have hv : okV v := by obtain ⟨ao, cap, rfl, _⟩ := hS; rfl
  have HRes : Hid (∀ e x, (rndE l fl ≠ 0 → e = .returned (.tuple #[.agg (rnZ.out nilV nilV), .int .i64 (rndE l fl)])) → (rndE l fl = 0 → ∃ ge gg, e = .returned (.tuple #[.agg ((rnd l fl).out (sl ge l.length) (sl gg l.length)), .int .i64 0]) ∧ Row x ge ((rnd l fl).errs.map errV) ∧ Row x gg ((rnd l fl).got.map Value.bool) ∧ w.heap.size ≤ ge ∧ w.heap.size ≤ gg ∧ ge ≠ gg ∧ (rnd l fl).errs.length = l.length ∧ (rnd l fl).got.length = l.length) → Below w.heap.size w x → OutRes l fl w e x) := fun e x h1 h2 h3 => ⟨h1, h2, h3⟩
  clear hS hF
  go_enter Try.func8, Try.ntmps8
  go_wp2_with fail
  refine hR.mono ?_
  rintro e w2 ⟨h1, h2, B2⟩
  have B3 := B1.trans (B2.mono B1.size)
  have O2 := O1.below B2
  have s2 : w.heap.size < w2.heap.size := O2.lt
  have gn := Ru.new w2 rnZ nilV nilV nilV
  by_cases hz : rndE l fl = 0
  · obtain ⟨ge, gg, rfl, E2, G2, b1, b2, d3, le, lg⟩ := h2 hz
    have g3 := gn.row (rnd l fl) (sl ge l.length) (sl gg l.length) v
    have bb : Below w2.heap.size w2 ((w2.alloc (.cells (rnZ.arr nilV nilV nilV) 67)).setRow w2.heap.size ((rnd l fl).arr (sl ge l.length) (sl gg l.length) v)) := below_row ((Below.refl _ w2).alloc (Nat.le_refl _) _) (Nat.le_refl _) (by rw [size_alloc]; omega) _
    have O3 := O2.below bb
    have E3 := E2.below bb
    have G3 := G2.below bb
    have B4 := B3.trans (bb.mono B3.size)
    have O4 := O3.row (rnd l fl) (sl ge l.length) (sl gg l.length)
    obtain ⟨d0, d1, d2, d3', d4⟩ := O4.cells
    have n1 : ge ≠ w.heap.size := by have := O1.lt; omega
    have n2 : gg ≠ w.heap.size := by have := O1.lt; omega
    have E4 := E3.kept (setRow_other _ w.heap.size ge ((rnd l fl).out (sl ge l.length) (sl gg l.length)) n1)
    have G4 := G3.kept (setRow_other _ w.heap.size gg ((rnd l fl).out (sl ge l.length) (sl gg l.length)) n2)
    have B5 := below_row B4 (q := w.heap.size) (Nat.le_refl _) (by have := O3.lt; omega) ((rnd l fl).out (sl ge l.length) (sl gg l.length))
    have b1' : w.heap.size ≤ ge := by have := B1.size; omega
    have b2' : w.heap.size ≤ gg := by have := B1.size; omega
    generalize rnd l fl = r9 at *
    clear h1 h2 hR B1 B2 B3 B4 O1 E2 G2 E3 G3 bb
    go_wp2_with (first | refine gn.sd r9 (sl ge l.length) (sl gg l.length) v rfl rfl hv rfl _ _ rfl rfl rfl ?_ | refine g3.ldO rfl _ rfl rfl ?_ | refine O3.sd r9 (sl ge l.length) (sl gg l.length) rfl rfl rfl _ _ rfl rfl rfl ?_)
    exact bodyPost_ret (v := .tuple #[.agg (r9.out (sl ge l.length) (sl gg l.length)), .int .i64 0]) (by simp [results, Try.results8, go_sem, d0, d1, d2, d3', d4]; rfl) rfl (HRes.out _ _ (fun h => absurd hz h) (fun _ => ⟨ge, gg, rfl, E4, G4, b1', b2', d3, le, lg⟩) B5)
  · obtain rfl := h1 hz
    have g3 := gn.row rnZ nilV nilV nilV
    have bb : Below w2.heap.size w2 ((w2.alloc (.cells (rnZ.arr nilV nilV nilV) 67)).setRow w2.heap.size (rnZ.arr nilV nilV nilV)) := below_row ((Below.refl _ w2).alloc (Nat.le_refl _) _) (Nat.le_refl _) (by rw [size_alloc]; omega) _
    have O3 := O2.below bb
    have B4 := B3.trans (bb.mono B3.size)
    have O4 := O3.row rnZ nilV nilV
    obtain ⟨d0, d1, d2, d3', d4⟩ := O4.cells
    have B5 := below_row B4 (q := w.heap.size) (Nat.le_refl _) (by have := O3.lt; omega) (rnZ.out nilV nilV)
    generalize rndE l fl = re at *
    clear h1 h2 hR B1 B2 B3 B4 O1 bb
    go_wp2_with (first | refine gn.sd rnZ nilV nilV nilV rfl rfl rfl rfl _ _ rfl rfl rfl ?_ | refine g3.ldO rfl _ rfl rfl ?_ | refine O3.sd rnZ nilV nilV rfl rfl rfl _ _ rfl rfl rfl ?_)
    exact bodyPost_ret (v := .tuple #[.agg (rnZ.out nilV nilV), .int .i64 re]) (by simp [results, Try.results8, go_sem, d0, d1, d2, d3', d4]; rfl) rfl (HRes.out _ _ (fun _ => rfl) (fun h => absurd h hz) B5)
end Go.Proofs.Ytjblekemmcmblaa
namespace Go.Proofs.Ytjblekemmcmblaa
open Go.RowKit Go.Proofs.Bits
set_option linter.unusedVariables false
set_option maxRecDepth 1000000

def fldAt (l : List Se) (i : Nat) : List UInt8 := (seAt l i).f.field
theorem mem_who {l : List Se} {i : Nat} : i ∈ who l ↔ i < l.length ∧ sndAt l i = true := by
  unfold who whoK; rw [List.mem_filter, List.mem_range]
theorem who_nodup (l : List Se) : (who l).Nodup := List.Pairwise.filter _ List.nodup_range
theorem frs_eq (l : List Se) : frs l = (who l).map fun i => (seAt l i).f := rfl
theorem flds_frs (l : List Se) : flds (frs l) = (who l).map (fldAt l) := by
  rw [frs_eq]; unfold flds; rw [List.map_map]; rfl
theorem first_ok4 {fs : List Fr} (h : firstE fs = 0) : 0 < fs.length ∧ (∀ f ∈ fs, f.chk = 0) ∧ (flds fs).Nodup ∧ firstN fs = best (flds fs) fs.length := by
  have hN : firstN fs = best (flds fs) fs.length := by unfold firstN; rw [if_pos h]
  unfold firstE at h
  by_cases h0 : fs.length = 0
  · rw [if_pos h0] at h; simp at h
  · rw [if_neg h0] at h
    cases ha : allOk fs
    · rw [ha] at h; simp at h
    · rw [ha, if_pos rfl] at h
      by_cases hn : (flds fs).Nodup
      · refine ⟨by omega, fun f hf => ?_, hn, hN⟩
        unfold allOk at ha
        rw [List.all_eq_true] at ha
        simpa using ha f hf
      · rw [if_neg hn] at h; simp at h
structure Good (l : List Se) : Prop where
  some : ∃ i, i < l.length ∧ sndAt l i = true
  chk : ∀ i, i < l.length → sndAt l i = true → (seAt l i).f.chk = 0
  inj : ∀ i j, i < l.length → j < l.length → sndAt l i = true → sndAt l j = true → fldAt l i = fldAt l j → i = j
theorem good_of {l : List Se} (h : firstE (frs l) = 0) : Good l := by
  obtain ⟨h0, h1, h2, h3⟩ := first_ok4 h
  rw [flds_frs] at h2
  refine ⟨?_, fun i hi hs => h1 _ (by rw [frs_eq]; exact List.mem_map.2 ⟨i, mem_who.2 ⟨hi, hs⟩, rfl⟩), fun i j hi hj si sj e => ?_⟩
  · rw [frs_eq, List.length_map] at h0
    obtain ⟨i, hi⟩ := List.exists_mem_of_length_pos h0
    exact ⟨i, mem_who.1 hi⟩
  · obtain ⟨a, ha, ea⟩ := List.getElem_of_mem (mem_who.2 ⟨hi, si⟩)
    obtain ⟨c, hc, ec⟩ := List.getElem_of_mem (mem_who.2 ⟨hj, sj⟩)
    have hac : a = c := by
      refine (List.getElem_inj (h₀ := by simpa using ha) (h₁ := by simpa using hc) h2).1 ?_
      simp [ea, ec, e]
    subst hac
    rw [← ea, ec]
theorem good_first {l : List Se} (h : Good l) : who l ≠ [] ∧ firstE (frs l) = 0 := by
  obtain ⟨i, hi, si⟩ := h.some
  have hm := mem_who.2 ⟨hi, si⟩
  have hne : who l ≠ [] := List.ne_nil_of_mem hm
  refine ⟨hne, ?_⟩
  have hlen : ¬ (frs l).length = 0 := by rw [frs_eq, List.length_map]; intro e; exact hne (List.length_eq_zero_iff.1 e)
  have hok : allOk (frs l) = true := by
    unfold allOk
    rw [List.all_eq_true]
    intro f hf
    rw [frs_eq] at hf
    obtain ⟨j, hj, rfl⟩ := List.mem_map.1 hf
    obtain ⟨h1, h2⟩ := mem_who.1 hj
    simpa using h.chk j h1 h2
  have hnd : (flds (frs l)).Nodup := by
    rw [flds_frs]
    refine List.pairwise_map.2 ((who_nodup l).imp_of_mem fun {a b} ha hb hab e => hab ?_)
    obtain ⟨h1, h2⟩ := mem_who.1 ha
    obtain ⟨h3, h4⟩ := mem_who.1 hb
    exact h.inj a b h1 h3 h2 h4 e
  unfold firstE
  rw [if_neg hlen, hok, if_pos rfl, if_pos hnd]
theorem win_least {l : List Se} (h : firstE (frs l) = 0) : winN l < l.length ∧ sndAt l (winN l) = true ∧ ∀ j, j < l.length → sndAt l j = true → fldAt l (winN l) ≤ fldAt l j := by
  obtain ⟨h0, h1, h2, h3⟩ := first_ok4 h
  have hs := first_small h
  have hk2 : firstN (frs l) < (who l).length := (frsK_length l l.length) ▸ hs
  have hw : winN l = (who l)[firstN (frs l)] := by unfold winN; simp [hk2]
  have hm : winN l ∈ who l := by rw [hw]; exact List.getElem_mem hk2
  obtain ⟨m1, m2⟩ := mem_who.1 hm
  refine ⟨m1, m2, fun j hj sj => ?_⟩
  obtain ⟨a, ha, ea⟩ := List.getElem_of_mem (mem_who.2 ⟨hj, sj⟩)
  have hl2 : (frs l).length = (who l).length := frsK_length l l.length
  have := best_least (flds (frs l)) (frs l).length a (by omega)
  rw [← h3, flds_frs] at this
  simpa [hk2, ha, ea, ← hw] using this
theorem win_unique {l : List Se} (h : firstE (frs l) = 0) {k : Nat} (hk : k < l.length) (sk : sndAt l k = true) (hl : ∀ j, j < l.length → sndAt l j = true → fldAt l k ≤ fldAt l j) : winN l = k := by
  obtain ⟨h1, h2, h3⟩ := win_least h
  exact (good_of h).inj _ _ h1 hk h2 sk (Std.le_antisymm (h3 k hk sk) (hl _ h1 h2))
theorem fo_none {l : List Se} {n : Nat} {fl : List Fl} : fo l n fl = none ↔ ∀ f ∈ fl, cntB l n f = false := by
  have key : ∀ (xs : List Fl) (acc : Option Fl), xs.foldl (fo1 l n) acc = none ↔ acc = none ∧ ∀ f ∈ xs, cntB l n f = false := by
    intro xs
    induction xs with
    | nil => intro acc; simp
    | cons x xs ih =>
      intro acc
      rw [List.foldl_cons, ih]
      cases hc : cntB l n x
      · rw [fo1_no hc]; simp [hc]
      · have : fo1 l n acc x ≠ none := by
          cases acc with
          | none => rw [fo1_new hc]; simp
          | some g => rw [fo1_old hc]; split <;> simp
        simp [this, hc]
  unfold fo foK
  rw [List.take_length, key]
  simp
theorem fo_some {l : List Se} {n : Nat} {fl : List Fl} {f : Fl} (h : fo l n fl = some f) : f ∈ fl ∧ cntB l n f = true ∧ ∀ g ∈ fl, cntB l n g = true → f.bit ≤ g.bit := by
  obtain ⟨h1, h2⟩ := fo_mem h
  refine ⟨h1, h2, ?_⟩
  have key : ∀ (xs : List Fl) (acc : Option Fl), xs.foldl (fo1 l n) acc = some f → (∀ g, acc = some g → f.bit ≤ g.bit) ∧ ∀ g ∈ xs, cntB l n g = true → f.bit ≤ g.bit := by
    intro xs
    induction xs with
    | nil => intro acc h; exact ⟨fun g hg => by simp at h; rw [h] at hg; cases hg; exact Int.le_refl _, by simp⟩
    | cons x xs ih =>
      intro acc h
      rw [List.foldl_cons] at h
      obtain ⟨i1, i2⟩ := ih _ h
      cases hc : cntB l n x
      · rw [fo1_no hc] at i1
        refine ⟨i1, fun g hg hcg => ?_⟩
        rcases List.mem_cons.1 hg with rfl | hg
        · rw [hc] at hcg; cases hcg
        · exact i2 g hg hcg
      · cases acc with
        | none =>
          rw [fo1_new hc] at i1
          refine ⟨fun g hg => (by cases hg), fun g hg hcg => ?_⟩
          rcases List.mem_cons.1 hg with rfl | hg
          · exact i1 _ rfl
          · exact i2 g hg hcg
        | some a =>
          rw [fo1_old hc] at i1
          have hb : f.bit ≤ a.bit ∧ f.bit ≤ x.bit := by
            cases hbf : befB x a
            · rw [hbf] at i1
              have := i1 a rfl
              unfold befB at hbf
              simp at hbf
              omega
            · rw [hbf] at i1
              have := i1 x rfl
              unfold befB at hbf
              simp at hbf
              omega
          refine ⟨fun g hg => (by cases hg; exact hb.1), fun g hg hcg => ?_⟩
          rcases List.mem_cons.1 hg with rfl | hg
          · exact hb.2
          · exact i2 g hg hcg
  have hh : fl.foldl (fo1 l n) none = some f := by
    have := h; unfold fo foK at this; rw [List.take_length] at this; exact this
  exact (key fl none hh).2
end Go.Proofs.Ytjblekemmcmblaa
namespace Go.Proofs.Ytjblekemmcmblaa
open Go.RowKit Go.Proofs.Bits
set_option linter.unusedVariables false
set_option maxRecDepth 1000000

set_option maxHeartbeats 2000000 in
theorem r4Check_any (n : Nat) (v : Value) (fl : List Fl) (w : World) (hl : fl.length ≤ maxLen) (hS : Flips w v fl) :
    Calls Try.prog 25 #[.int .i64 n, v] w fun e w' => e = .returned (.int .i64 (lookV n fl)) ∧ w' = w := by
  have HV : Hid (lookV n fl = if 127 < n then 2 else if 65536 < fl.length then 2 else if fl.any (wrongB n) then 1 else 0) := rfl
  obtain ⟨ao, cap, rfl, _, hc⟩ := hS
  have HC : Hid (∀ k (hk : k < fl.length), ∃ b off, ao = some ⟨b, off, none⟩ ∧ b < w.heap.size ∧ w.rangeAt b (off + k * 2) fl[k].cells) := hc
  generalize lookV n fl = V at *
  unfold maxLen at hl
  clear hc
  by_cases h1 : 127 < n
  · have d1 : decide ((127 : Int) < (n : Int)) = true := by simp; omega
    have HE : Hid (V = 2) := by show _ = _; rw [HV.out, if_pos h1]
    clear HV h1
    go_enter Try.func25, Try.ntmps25
    go_wp2
    go_ret
    exact ⟨ret_int HE.out.symm, rfl⟩
  · have d1 : decide ((127 : Int) < (n : Int)) = false := by simp; omega
    rw [if_neg h1] at HV
    by_cases h2 : 65536 < fl.length
    · have d2 : decide ((65536 : Int) < (fl.length : Int)) = true := by simp; omega
      have HE : Hid (V = 2) := by show _ = _; rw [HV.out, if_pos h2]
      clear HV h1
      go_enter Try.func25, Try.ntmps25
      go_wp2
      go_ret
      exact ⟨ret_int HE.out.symm, rfl⟩
    · have d2 : decide ((65536 : Int) < (fl.length : Int)) = false := by simp; omega
      rw [if_neg h2] at HV
      go_enter Try.func25, Try.ntmps25
      go_wp2
      go_loopw [5] (fun i x => ∃ k : Nat, k ≤ fl.length ∧ i = .int .i64 k ∧ x = w ∧ ∀ j (hj : j < fl.length), j < k → wrongB n fl[j] = false) (fun i _ => fl.length - (intOf i).toNat)
      case atStart => exact ⟨0, Nat.zero_le _, rfl, rfl, fun j _ h => by omega⟩
      case round =>
        obtain ⟨k, hk, rfl, rfl, hall⟩ := hrel
        by_cases hkl : k < fl.length
        · obtain ⟨b, off, rfl, hb, hR⟩ := HC.out k hkl
          have c0 : wr.cell? ⟨b, off + k * 2, none⟩ = some (.int .i64 fl[k].nd) := hR 0 _ rfl
          have c1 : wr.cell? ⟨b, off + k * 2 + 1, none⟩ = some (.int .i64 fl[k].bit) := hR 1 _ rfl
          have HN : Hid (wrongB n fl[k] = false → ∀ j (hj : j < fl.length), j < k + 1 → wrongB n fl[j] = false) := fun h j hj h3 => by
            rcases Nat.lt_or_ge j k with h4 | h4
            · exact hall j hj h4
            · have : j = k := by omega
              subst this; exact h
          have HB : Hid (wrongB n fl[k] = true → V = 1) := fun h => by
            rw [HV.out, if_pos]
            rw [List.any_eq_true]
            exact ⟨_, List.getElem_mem hkl, h⟩
          have hW : wrongB n fl[k] = (decide (fl[k].nd < 0) || decide ((n : Int) ≤ fl[k].nd) || decide (fl[k].bit < 0)) := rfl
          generalize wrongB n fl[k] = WB at *
          generalize fl[k].nd = nd at *
          generalize fl[k].bit = bt at *
          clear hR hall HV HC
          by_cases e1 : nd < 0
          · have g1 : decide (nd < 0) = true := by simpa using e1
            have HE := HB.out (by rw [hW, g1]; rfl)
            have HE' : Hid _ := HE
            clear HB HN HE hW
            go_wp2
            go_ret
            exact ⟨ret_int HE'.out.symm, rfl⟩
          · have g1 : decide (nd < 0) = false := by simpa using e1
            by_cases e2 : (n : Int) ≤ nd
            · have g2 : decide ((n : Int) ≤ nd) = true := by simpa using e2
              have HE := HB.out (by rw [hW, g1, g2]; rfl)
              have HE' : Hid _ := HE
              clear HB HN HE hW
              go_wp2
              go_ret
              exact ⟨ret_int HE'.out.symm, rfl⟩
            · have g2 : decide ((n : Int) ≤ nd) = false := by simpa using e2
              by_cases e3 : bt < 0
              · have g3 : decide (bt < 0) = true := by simpa using e3
                have HE := HB.out (by rw [hW, g1, g2, g3]; rfl)
                have HE' : Hid _ := HE
                clear HB HN HE hW
                go_wp2
                go_ret
                exact ⟨ret_int HE'.out.symm, rfl⟩
              · have g3 : decide (bt < 0) = false := by simpa using e3
                have HX : Hid _ := HN.out (by rw [hW, g1, g2, g3]; rfl)
                clear HB HN hW
                go_wp2
                go_roundw
                case rel => exact ⟨k + 1, by omega, by go_num, by first | rfl | trivial, HX.out⟩
                case measure => simp [intOf]; omega
        · have HE : Hid (V = 0) := by
            show V = 0
            rw [HV.out, if_neg]
            intro h
            rw [List.any_eq_true] at h
            obtain ⟨x, hx, hx2⟩ := h
            obtain ⟨j, hj, rfl⟩ := List.getElem_of_mem hx
            rw [hall j hj (by omega)] at hx2; cases hx2
          clear hall HV HC
          go_wp2
          go_ret
          exact ⟨ret_int HE.out.symm, rfl⟩
end Go.Proofs.Ytjblekemmcmblaa
namespace Go.Proofs.Bits

def unNext (t : List UInt8 × UInt8 × Nat) (c : UInt8) : List UInt8 × UInt8 × Nat := (if t.2.2 = 5 then t.1 else t.1 ++ [c], c, cnt t c)
/-- What is left, how far it was read, the error. -/
def un (t : List UInt8 × UInt8 × Nat) (i : Nat) : List UInt8 → List UInt8 × Nat × Int
  | [] => if t.2.2 = 5 then ([], i, 3) else (t.1, i, 0)
  | c :: r => if t.2.2 = 5 ∧ c = t.2.1 then ([], i, 20) else un (unNext t c) (i + 1) r
def unstuff (l : List UInt8) : List UInt8 × Nat × Int := un ([], 0, 0) 0 l
def unV (l : List UInt8) : List UInt8 × Nat × Int := if err l = 0 then unstuff l else ([], 0, err l)
theorem un_bad {t : List UInt8 × UInt8 × Nat} {i : Nat} {c : UInt8} {r : List UInt8} (h : t.2.2 = 5) (hc : c = t.2.1) : un t i (c :: r) = ([], i, 20) := by
  rw [un, if_pos ⟨h, hc⟩]
theorem un_on {t : List UInt8 × UInt8 × Nat} {i : Nat} {c : UInt8} {r : List UInt8} (h : ¬ (t.2.2 = 5 ∧ c = t.2.1)) : un t i (c :: r) = un (unNext t c) (i + 1) r := by
  rw [un, if_neg h]
theorem un_short {t : List UInt8 × UInt8 × Nat} {i : Nat} (h : t.2.2 = 5) : un t i [] = ([], i, 3) := by rw [un, if_pos h]
theorem un_end {t : List UInt8 × UInt8 × Nat} {i : Nat} (h : ¬ t.2.2 = 5) : un t i [] = (t.1, i, 0) := by rw [un, if_neg h]
theorem unNext_count (t : List UInt8 × UInt8 × Nat) (c : UInt8) (h : t.2.2 ≤ 5) (hc : ¬ (t.2.2 = 5 ∧ c = t.2.1)) : (unNext t c).2.2 ≤ 5 := by
  show cnt t c ≤ 5
  unfold cnt
  by_cases e : c = t.2.1
  · have : t.2.2 ≠ 5 := fun h5 => hc ⟨h5, e⟩
    rw [if_pos e]; omega
  · rw [if_neg e]; omega
theorem unNext_length (t : List UInt8 × UInt8 × Nat) (c : UInt8) : (unNext t c).1.length ≤ t.1.length + 1 := by
  unfold unNext
  simp only
  split
  · omega
  · simp
theorem drop_at (s : ByteArray) (k : Nat) (h : k < s.size) : s.data.toList.drop k = s[k] :: s.data.toList.drop (k + 1) := by
  rw [List.drop_eq_getElem_cons (by simpa using h)]; rfl
theorem drop_all (s : ByteArray) (k : Nat) (h : s.size ≤ k) : s.data.toList.drop k = [] := by
  rw [List.drop_eq_nil_iff]; simpa using h

/-- What is read without an error. -/
def unS (t : List UInt8 × UInt8 × Nat) : List UInt8 → Option (List UInt8 × UInt8 × Nat)
  | [] => some t
  | c :: r => if t.2.2 = 5 ∧ c = t.2.1 then none else unS (unNext t c) r
theorem un_of_unS {t t' : List UInt8 × UInt8 × Nat} {i : Nat} {a b : List UInt8} (h : unS t a = some t') : un t i (a ++ b) = un t' (i + a.length) b := by
  induction a generalizing t i with
  | nil => simp [unS] at h; subst h; rfl
  | cons c a ih =>
    rw [unS] at h
    split at h
    · simp at h
    · rename_i hn
      rw [List.cons_append, un_on hn, ih h, List.length_cons]
      congr 1; omega
theorem unS_snoc {t t' : List UInt8 × UInt8 × Nat} {a : List UInt8} {c : UInt8} (h : unS t a = some t') (hc : ¬ (t'.2.2 = 5 ∧ c = t'.2.1)) : unS t (a ++ [c]) = some (unNext t' c) := by
  induction a generalizing t with
  | nil => simp [unS] at h; subst h; simp [unS, hc]
  | cons d a ih =>
    rw [unS] at h
    split at h
    · simp at h
    · rename_i hn
      rw [List.cons_append, unS, if_neg hn]
      exact ih h
theorem unS_st (l : List UInt8) : unS ([], 0, 0) (st l).1 = some (l, (st l).2.1, (st l).2.2) := by
  induction l using snoc_ind with
  | h0 => rfl
  | h1 l c ih =>
    have hc := st_count l
    rw [st_snoc]
    have h1 := unS_snoc (c := c) ih (by simp only; omega)
    have e1 : unNext (l, (st l).2.1, (st l).2.2) c = (l ++ [c], c, cnt (st l) c) := by
      unfold unNext cnt
      simp only
      rw [if_neg (by omega)]
    rw [e1] at h1
    by_cases h5 : cnt (st l) c = 5
    · rw [stStep_full h5]
      rw [h5] at h1
      have h2 := unS_snoc (c := oth c) h1 (by simp only; intro h; exact oth_ne c h.2)
      rw [h2]
      unfold unNext cnt
      simp [oth_ne]
    · rw [stStep_open h5]
      exact h1
theorem unstuff_stuff (l : List UInt8) : unstuff (stuff l) = (l, (stuff l).length, 0) := by
  have h := un_of_unS (i := 0) (b := []) (unS_st l)
  rw [List.append_nil, Nat.zero_add] at h
  have hc := st_count l
  unfold unstuff stuff
  rw [h, un_end (by simp only; omega)]
theorem stuff_all (l : List UInt8) (h : l.all isBit = true) : (stuff l).all isBit = true := by
  unfold stuff
  induction l using snoc_ind with
  | h0 => rfl
  | h1 l c ih =>
    simp only [List.all_append, List.all_cons, List.all_nil, Bool.and_true, Bool.and_eq_true] at h
    rw [st_snoc]
    by_cases h5 : cnt (st l) c = 5
    · rw [stStep_full h5]
      exact all_snoc _ _ (all_snoc _ _ (ih h.1) h.2) (isBit_of (oth_bit c))
    · rw [stStep_open h5]
      exact all_snoc _ _ (ih h.1) h.2

/-- How many of one level stand in a row at the end. -/
def rowStep (p : UInt8 × Nat) (c : UInt8) : UInt8 × Nat := (c, if c = p.1 then p.2 + 1 else 1)
def rowOf (l : List UInt8) : UInt8 × Nat := l.foldl rowStep (0, 0)
theorem rowOf_snoc (l : List UInt8) (c : UInt8) : rowOf (l ++ [c]) = rowStep (rowOf l) c := by simp [rowOf]
theorem rowOf_st (l : List UInt8) : rowOf (st l).1 = (st l).2 := by
  induction l using snoc_ind with
  | h0 => rfl
  | h1 l c ih =>
    rw [st_snoc]
    have e : rowStep (rowOf (st l).1) c = (c, cnt (st l) c) := by rw [ih]; rfl
    by_cases h5 : cnt (st l) c = 5
    · rw [stStep_full h5]
      simp only
      rw [rowOf_snoc, rowOf_snoc, e]
      simp [rowStep, oth_ne]
    · rw [stStep_open h5]
      simp only
      rw [rowOf_snoc, e]
theorem rows_snoc {l : List UInt8} {c : UInt8} (h : ∀ k, (rowOf (l.take k)).2 ≤ 5) (hc : (rowOf (l ++ [c])).2 ≤ 5) : ∀ k, (rowOf ((l ++ [c]).take k)).2 ≤ 5 := by
  intro k
  by_cases hk : k ≤ l.length
  · rw [List.take_append_of_le_length hk]; exact h k
  · rw [List.take_of_length_le (by simp; omega)]; exact hc
theorem rows_st (l : List UInt8) : ∀ k, (rowOf ((st l).1.take k)).2 ≤ 5 := by
  induction l using snoc_ind with
  | h0 => intro k; simp [st, stFrom, rowOf]
  | h1 l c ih =>
    have hc := st_count l
    have hcl := cnt_le (st l) c hc
    rw [st_snoc]
    have e : rowOf ((st l).1 ++ [c]) = (c, cnt (st l) c) := by rw [rowOf_snoc, rowOf_st]; rfl
    have h1 := rows_snoc (c := c) ih (by rw [e]; exact hcl.2)
    by_cases h5 : cnt (st l) c = 5
    · rw [stStep_full h5]
      refine rows_snoc h1 ?_
      rw [rowOf_snoc, e]
      simp [rowStep, oth_ne]
    · rw [stStep_open h5]
      exact h1
end Go.Proofs.Bits
namespace Go.Proofs.Ytjblekemmcmblaa
open Go.RowKit Go.Proofs.Bits
set_option linter.unusedVariables false
set_option maxRecDepth 1000000

theorem st_last (l : List UInt8) (h : l ≠ []) : (st l).1 ≠ [] ∧ (st l).1[(st l).1.length - 1]? = some (st l).2.1 := by
  induction l using snoc_ind with
  | h0 => exact absurd rfl h
  | h1 l c _ =>
    rw [st_snoc]
    by_cases h5 : cnt (st l) c = 5
    · rw [stStep_full h5]; simp
    · rw [stStep_open h5]; simp

set_option maxHeartbeats 4000000 in
set_option maxRecDepth 1000000 in
theorem rStuff_ok (s : ByteArray) (w : World) (h0 : err s.data.toList = 0) :
    Calls Try.prog 49 #[.string s] w fun e w' => e = .returned (.tuple #[.string ⟨(stuff s.data.toList).toArray⟩, .int .i64 0]) ∧ Below w.heap.size w w' := by
  obtain ⟨hl, hall⟩ := err_zero h0
  have hs : s.size ≤ 65536 := by simpa using hl
  have H0 : Hid (err s.data.toList = 0) := h0
  clear h0 hl
  go_enter Try.func49, Try.ntmps49
  go_wp2_with (go_at_call 79; refine (Check_any s _).mono ?_; rintro e w1 ⟨rfl, rfl⟩; rw [H0.out])
  go_loopw [5, 6, 7] (fun b y i wr => ∃ k : Nat, k ≤ s.size ∧ i = .int .i64 k ∧ y = .int .i64 (st (s.data.toList.take k)).2.2 ∧ wr.ownsRow w1.heap.size 5 1 b (st (s.data.toList.take k)).1.length (Lib.byteCells (st (s.data.toList.take k)).1) ∧ b ≠ .slice none 0 0 ∧ Below w1.heap.size w1 wr) (fun _ _ i _ => s.size - (intOf i).toNat)
  case atStart => exact ⟨0, Nat.zero_le _, rfl, rfl, own_empty w1, by simp, (Below.refl _ _).alloc (Nat.le_refl _) _⟩
  case round =>
    obtain ⟨k, hk, rfl, rfl, hown, hnn, hb⟩ := hrel
    have szw := hb.size
    obtain ⟨g, cap, rfl, hBg, hRow⟩ := own_form hown hnn
    by_cases hp : k < s.size
    · have hbit := all_at hall k hp
      have HS : Hid (st (s.data.toList.take (k + 1)) = stStep (st (s.data.toList.take k)) s[k]) := by
        show st _ = _
        rw [take_snoc s k hp, st_snoc]
      have hcn := st_count (s.data.toList.take k)
      have hln := st_length (s.data.toList.take k)
      have hlt : (s.data.toList.take k).length ≤ k := List.length_take_le _ _
      have hlast : 0 < k → (st (s.data.toList.take k)).1 ≠ [] ∧ (st (s.data.toList.take k)).1[(st (s.data.toList.take k)).1.length - 1]? = some (st (s.data.toList.take k)).2.1 := by
        intro h
        refine st_last _ ?_
        intro e
        have := congrArg List.length e
        rw [List.length_take, size_len, List.length_nil] at this
        omega
      have hzero : k = 0 → st (s.data.toList.take k) = ([], 0, 0) := by intro h; subst h; rfl
      generalize st (s.data.toList.take k) = t at *
      obtain ⟨acc, lv, ct⟩ := t
      simp only at hcn hln HS hown hRow hlast
      by_cases hk0 : k = 0
      · have ez := hzero hk0
        simp only [Prod.mk.injEq] at ez
        have hc1 : cnt (acc, lv, ct) s[k] = 1 := by
          unfold cnt
          rw [if_neg]
          intro e
          simp only at e
          rw [ez.2.1] at e
          rw [e] at hbit
          simp at hbit
        have HC : Hid (cnt (acc, lv, ct) s[k] = 1) := hc1
        have hg0 : decide ((0 : Int) < (acc.length : Int)) = false := by rw [ez.1]; rfl
        have hg00 : decide (0 < acc.length) = false := by rw [ez.1]; rfl
        clear hzero hlast ez hk0
        go_wp2_with fail
        go_quiet (fail)
        have hownq : ((wr.drewN nq).alloc (.cells #[.int .u8 s[k].toNat] 5)).ownsRow w1.heap.size 5 1 (.slice (some ⟨g, 0, none⟩) acc.length cap) acc.length (Lib.byteCells acc) := ownsRow_alloc hown _
        have hcq : ((wr.drewN nq).alloc (.cells #[.int .u8 s[k].toNat] 5)).cell? ⟨wr.heap.size, 0, none⟩ = some (.int .u8 s[k].toNat) := cell_new (wr.drewN nq) _ _
        have hbq : Below w1.heap.size w1 ((wr.drewN nq).alloc (.cells #[.int .u8 s[k].toNat] 5)) := (below_drawn hb nq).alloc szw _
        go_wp2_with (at_builtin; refine append_one rfl _ _ rfl w1.heap.size _ acc rfl hownq ⟨wr.heap.size, 0, none⟩ s[k] rfl hcq (by omega) (by simp; omega) ?_)
        intro v2 w2 hown2a hg2 hn2
        have hown2 : w2.ownsRow w1.heap.size 5 1 v2 (acc ++ [s[k]]).length (Lib.byteCells (acc ++ [s[k]])) := by simpa using hown2a
        clear hown2a
        have b2 := hbq.grown hg2 (by simp; omega) (own_block hown)
        rw [stStep_open (by rw [hc1]; omega)] at HS
        clear hc1 hownq hcq hbq hg2
        go_wp2
        go_roundw
        case rel => exact ⟨k + 1, by omega, by go_num, val_int (by rw [HS.out]; simp only [HC.out]; rfl), by rw [HS.out]; exact hown2, hn2, b2⟩
        case measure => simp [intOf]; omega
      · obtain ⟨hne, hla⟩ := hlast (by omega)
        have hpos : 0 < acc.length := List.length_pos_iff.2 hne
        have hg1 : decide ((0 : Int) < (acc.length : Int)) = true := by simp; omega
        have hcell := hRow.cell (acc.length - 1) (by rw [Lib.byteCells_length]; omega)
        have e1 : (Lib.byteCells acc)[acc.length - 1]'(by rw [Lib.byteCells_length]; omega) = .int .u8 lv.toNat := by
          have hla2 : acc[acc.length - 1]'(by omega) = lv := by
            rw [List.getElem?_eq_getElem (by omega)] at hla; exact Option.some.inj hla
          simp [Lib.byteCells, hla2]
        rw [e1] at hcell
        clear hzero hlast hla e1 hne
        by_cases hc : s[k] = lv
        · have hcb : ((lv.toNat : Int) == (s[k].toNat : Int)) = true := by rw [hc]; simp
          have hc1 : cnt (acc, lv, ct) s[k] = ct + 1 := by simp [cnt, hc]
          have HC : Hid (cnt (acc, lv, ct) s[k] = ct + 1) := hc1
          clear hc
          by_cases h5 : ct + 1 = 5
          · have h5b : ((ct : Int) + 1 == 5) = true := by rw [beq_iff_eq]; omega
            rw [stStep_full (by rw [hc1]; exact h5)] at HS
            clear hc1
            go_wp2_with fail
            go_quiet (fail)
            have hownq : ((wr.drewN nq).alloc (.cells #[.int .u8 s[k].toNat] 5)).ownsRow w1.heap.size 5 1 (.slice (some ⟨g, 0, none⟩) acc.length cap) acc.length (Lib.byteCells acc) := ownsRow_alloc hown _
            have hcq : ((wr.drewN nq).alloc (.cells #[.int .u8 s[k].toNat] 5)).cell? ⟨wr.heap.size, 0, none⟩ = some (.int .u8 s[k].toNat) := cell_new (wr.drewN nq) _ _
            have hbq : Below w1.heap.size w1 ((wr.drewN nq).alloc (.cells #[.int .u8 s[k].toNat] 5)) := (below_drawn hb nq).alloc szw _
            go_wp2_with (at_builtin; refine append_one rfl _ _ rfl w1.heap.size _ acc rfl hownq ⟨wr.heap.size, 0, none⟩ s[k] rfl hcq (by omega) (by simp; omega) ?_)
            intro v2 w2 hown2a hg2 hn2
            have hown2 : w2.ownsRow w1.heap.size 5 1 v2 (acc ++ [s[k]]).length (Lib.byteCells (acc ++ [s[k]])) := by simpa using hown2a
            clear hown2a
            have b2 := hbq.grown hg2 (by simp; omega) (own_block hown)
            have s2 := b2.size
            have hb2 := num_oth s[k] hbit
            have hownq2 : (w2.alloc (.cells #[.int .u8 (oth s[k]).toNat] 5)).ownsRow w1.heap.size 5 1 v2 (acc ++ [s[k]]).length (Lib.byteCells (acc ++ [s[k]])) := ownsRow_alloc hown2 _
            have hcq2 : (w2.alloc (.cells #[.int .u8 (oth s[k]).toNat] 5)).cell? ⟨w2.heap.size, 0, none⟩ = some (.int .u8 (oth s[k]).toNat) := cell_new w2 _ _
            have hbq2 : Below w1.heap.size w1 (w2.alloc (.cells #[.int .u8 (oth s[k]).toNat] 5)) := b2.alloc s2 _
            clear hownq hcq hbq hg2
            go_wp2_with (at_builtin; refine append_one rfl _ _ rfl w1.heap.size _ (acc ++ [s[k]]) rfl hownq2 ⟨w2.heap.size, 0, none⟩ (oth s[k]) rfl hcq2 (by simp; omega) (by simp; omega) ?_)
            intro v3 w3 hown3a hg3 hn3
            have hown3 : w3.ownsRow w1.heap.size 5 1 v3 (acc ++ [s[k]] ++ [oth s[k]]).length (Lib.byteCells (acc ++ [s[k]] ++ [oth s[k]])) := by simpa using hown3a
            clear hown3a
            have b3 := hbq2.grown hg3 (by simp; omega) (own_lt hown2)
            clear hownq2 hcq2 hbq2 hg3
            go_wp2
            go_roundw
            case rel => exact ⟨k + 1, by omega, by go_num, val_int (by rw [HS.out]; rfl), by rw [HS.out]; exact hown3, hn3, b3⟩
            case measure => simp [intOf]; omega
          · have h5b : ((ct : Int) + 1 == 5) = false := by rw [beq_eq_false_iff_ne]; omega
            rw [stStep_open (by rw [hc1]; exact h5)] at HS
            clear hc1
            go_wp2_with fail
            go_quiet (fail)
            have hownq : ((wr.drewN nq).alloc (.cells #[.int .u8 s[k].toNat] 5)).ownsRow w1.heap.size 5 1 (.slice (some ⟨g, 0, none⟩) acc.length cap) acc.length (Lib.byteCells acc) := ownsRow_alloc hown _
            have hcq : ((wr.drewN nq).alloc (.cells #[.int .u8 s[k].toNat] 5)).cell? ⟨wr.heap.size, 0, none⟩ = some (.int .u8 s[k].toNat) := cell_new (wr.drewN nq) _ _
            have hbq : Below w1.heap.size w1 ((wr.drewN nq).alloc (.cells #[.int .u8 s[k].toNat] 5)) := (below_drawn hb nq).alloc szw _
            go_wp2_with (at_builtin; refine append_one rfl _ _ rfl w1.heap.size _ acc rfl hownq ⟨wr.heap.size, 0, none⟩ s[k] rfl hcq (by omega) (by simp; omega) ?_)
            intro v2 w2 hown2a hg2 hn2
            have hown2 : w2.ownsRow w1.heap.size 5 1 v2 (acc ++ [s[k]]).length (Lib.byteCells (acc ++ [s[k]])) := by simpa using hown2a
            clear hown2a
            have b2 := hbq.grown hg2 (by simp; omega) (own_block hown)
            clear hownq hcq hbq hg2
            go_wp2
            go_roundw
            case rel => exact ⟨k + 1, by omega, by go_num, val_int (by rw [HS.out]; simp only [HC.out]; omega), by rw [HS.out]; exact hown2, hn2, b2⟩
            case measure => simp [intOf]; omega
        · have hcb : ((lv.toNat : Int) == (s[k].toNat : Int)) = false := by
            rw [beq_eq_false_iff_ne]; intro e; exact hc (UInt8.toNat_inj.1 (by omega))
          have hc1 : cnt (acc, lv, ct) s[k] = 1 := by simp [cnt, hc]
          have HC : Hid (cnt (acc, lv, ct) s[k] = 1) := hc1
          rw [stStep_open (by rw [hc1]; omega)] at HS
          clear hc hc1
          go_wp2_with fail
          go_quiet (fail)
          have hownq : ((wr.drewN nq).alloc (.cells #[.int .u8 s[k].toNat] 5)).ownsRow w1.heap.size 5 1 (.slice (some ⟨g, 0, none⟩) acc.length cap) acc.length (Lib.byteCells acc) := ownsRow_alloc hown _
          have hcq : ((wr.drewN nq).alloc (.cells #[.int .u8 s[k].toNat] 5)).cell? ⟨wr.heap.size, 0, none⟩ = some (.int .u8 s[k].toNat) := cell_new (wr.drewN nq) _ _
          have hbq : Below w1.heap.size w1 ((wr.drewN nq).alloc (.cells #[.int .u8 s[k].toNat] 5)) := (below_drawn hb nq).alloc szw _
          go_wp2_with (at_builtin; refine append_one rfl _ _ rfl w1.heap.size _ acc rfl hownq ⟨wr.heap.size, 0, none⟩ s[k] rfl hcq (by omega) (by simp; omega) ?_)
          intro v2 w2 hown2a hg2 hn2
          have hown2 : w2.ownsRow w1.heap.size 5 1 v2 (acc ++ [s[k]]).length (Lib.byteCells (acc ++ [s[k]])) := by simpa using hown2a
          clear hown2a
          have b2 := hbq.grown hg2 (by simp; omega) (own_block hown)
          clear hownq hcq hbq hg2
          go_wp2
          go_roundw
          case rel => exact ⟨k + 1, by omega, by go_num, val_int (by rw [HS.out]; simp only [HC.out]; rfl), by rw [HS.out]; exact hown2, hn2, b2⟩
          case measure => simp [intOf]; omega
    · obtain rfl : k = s.size := by omega
      have htx := hRow.text cap
      have HST : Hid (stuff s.data.toList = (st (s.data.toList.take s.size)).1) := by
        show stuff _ = _
        rw [take_all]; rfl
      generalize st (s.data.toList.take s.size) = t at *
      go_wp2
      go_ret2
      rw [HST.out]
      exact ⟨rfl, hb⟩

theorem rStuff_any (s : ByteArray) (w : World) :
    Calls Try.prog 49 #[.string s] w fun e w' => e = .returned (.tuple #[.string ⟨(stuffV s.data.toList).toArray⟩, .int .i64 (err s.data.toList)]) ∧ Below w.heap.size w w' := by
  by_cases h0 : err s.data.toList = 0
  · rw [stuffV, if_pos h0, h0]
    exact rStuff_ok s w h0
  · have HF : Hid (stuffV s.data.toList = []) := by show stuffV _ = []; simp [stuffV, h0]
    have hn : (err s.data.toList != 0) = true := by simp [h0]
    go_enter Try.func49, Try.ntmps49
    go_wp2_with (go_at_call 79; refine (Check_any s _).mono ?_; rintro e w1 ⟨rfl, rfl⟩)
    go_ret2
    refine ⟨?_, Below.refl _ _⟩
    rw [HF.out]
    rfl
end Go.Proofs.Ytjblekemmcmblaa
namespace Go.Proofs.Ytjblekemmcmblaa
open Go.RowKit Go.Proofs.Bits
set_option linter.unusedVariables false
set_option maxRecDepth 1000000

theorem sz48 : (⟨#[48]⟩ : ByteArray).size = 1 := rfl
theorem front0 (F N : List UInt8) : (⟨#[48]⟩ ++ ⟨F.toArray⟩ ++ ⟨#[48]⟩ : ByteArray) ++ ⟨N.toArray⟩ = ⟨([48] ++ F ++ [48] ++ N).toArray⟩ := by
  apply ByteArray.ext; simp
theorem front1 (F N : List UInt8) : (⟨#[48]⟩ ++ ⟨F.toArray⟩ ++ ⟨#[48]⟩ ++ ⟨#[48]⟩ : ByteArray) ++ ⟨N.toArray⟩ = ⟨([48] ++ F ++ [48] ++ [48] ++ N).toArray⟩ := by
  apply ByteArray.ext; simp

set_option maxHeartbeats 4000000 in
theorem r2Body_any (f : Fr) (h0 : f.chk = 0) (w : World) :
    Calls Try.prog 50 #[f.val] w fun e w' => e = .returned (.string ⟨f.body.toArray⟩) ∧ Below w.heap.size w w' := by
  have fn := Fa.new w f
  have bn : Below w.heap.size w (w.alloc (.cells f.arr 38)) := (Below.refl _ _).alloc (Nat.le_refl _) _
  have sn := size_alloc w (.cells f.arr 38)
  obtain ⟨p1, p2, p3, p4⟩ := chk_parts h0
  have HF := fun W => r2field_any f W h0
  have hfl := field_length f
  unfold Fr.val at *
  go_enter Try.func50, Try.ntmps50
  go_wp2_with (refine fn.ld rfl _ rfl rfl ?_)
  refine (HF _).mono ?_
  rintro e w1 ⟨rfl, b1⟩
  have f1 : Fa w.heap.size f w1 := (b1.block _ (by omega)).trans fn
  have B1 := bn.trans (b1.mono (by omega))
  have s1 := B1.size
  have c1 := f1.c1
  have c3 := f1.c3
  have hsz : (⟨f.field.toArray⟩ : ByteArray).size ≤ 32 := by
    simp only [ByteArray.size, List.size_toArray]
    rw [hfl]; split <;> omega
  clear fn bn b1 sn HF
  have HFr : Hid (f.front = [48] ++ f.field ++ [48] ++ (if f.ext then [48] else []) ++ numL f.len.toNat 4) := rfl
  have hfr := front_length f
  have hbl := f.bytes_le
  cases hx : f.ext
  case' false =>
    rw [hx] at c1
    go_wp2_with fail
    have HX : Hid ((⟨#[48]⟩ ++ ⟨f.field.toArray⟩ ++ ⟨#[48]⟩ : ByteArray) ++ ⟨(numL f.len.toNat 4).toArray⟩ = ⟨f.front.toArray⟩) := by
      show _ = _
      rw [front0, HFr.out, hx]; simp
    have hXs : (⟨#[48]⟩ ++ ⟨f.field.toArray⟩ ++ ⟨#[48]⟩ : ByteArray).size ≤ 40 := by simp only [ByteArray.size_append, sz48]; omega
    generalize (⟨#[48]⟩ ++ ⟨f.field.toArray⟩ ++ ⟨#[48]⟩ : ByteArray) = X at *
  case' true =>
    rw [hx] at c1
    go_wp2_with fail
    have HX : Hid ((⟨#[48]⟩ ++ ⟨f.field.toArray⟩ ++ ⟨#[48]⟩ ++ ⟨#[48]⟩ : ByteArray) ++ ⟨(numL f.len.toNat 4).toArray⟩ = ⟨f.front.toArray⟩) := by
      show _ = _
      rw [front1, HFr.out, hx]; simp
    have hXs : (⟨#[48]⟩ ++ ⟨f.field.toArray⟩ ++ ⟨#[48]⟩ ++ ⟨#[48]⟩ : ByteArray).size ≤ 40 := by simp only [ByteArray.size_append, sz48]; omega
    generalize (⟨#[48]⟩ ++ ⟨f.field.toArray⟩ ++ ⟨#[48]⟩ ++ ⟨#[48]⟩ : ByteArray) = X at *
  all_goals
    have hl64 : f.len = ((f.len.toNat : Nat) : Int) := by omega
    generalize f.len.toNat = ln at *
    rw [hl64]
    refine (r2num_any ln 4 _ (by omega) (by omega) (by omega)).mono ?_
    rintro e w2 ⟨rfl, b2⟩
    have f2 : Fa w.heap.size f w2 := (b2.block _ f1.lt).trans f1
    have B2 := B1.trans (b2.mono s1)
    have s2 := B2.size
    have hn4 : (⟨(numL ln 4).toArray⟩ : ByteArray).size = 4 := by simp [ByteArray.size, numL_length]
    clear f1 B1 b2 c1 c3
    generalize (⟨(numL ln 4).toArray⟩ : ByteArray) = N4 at *
    go_wp2_with fail
    have HH : Hid (f.head = f.front ++ bytesL (f.data.take f.bytes)) := rfl
    have HBd : Hid (f.body = f.head ++ numL (crc f.head) 15) := rfl
    have hhl := head_length f
    have hha := head_all f
    generalize hq : w.heap.size = q at *
    go_loopw [3, 4] (fun s i wr => ∃ k : Nat, k ≤ f.bytes ∧ i = .int .i64 k ∧ s = .string ⟨(f.front ++ bytesL (f.data.take k)).toArray⟩ ∧ Fa q f wr ∧ Below q w wr) (fun _ i _ => f.bytes - (intOf i).toNat)
    case atStart => exact ⟨0, Nat.zero_le _, rfl, by rw [HX.out]; simp [bytesL], f2, B2⟩
    case round =>
      obtain ⟨k, hk, rfl, rfl, f3, B3⟩ := hrel
      have L3 := f3.lt
      clear f2 B2 HX
      go_wp2_with (refine f3.ld rfl _ rfl rfl ?_)
      refine (r2Bytes_any f _).mono ?_
      rintro e w4 ⟨rfl, b4⟩
      have f4 : Fa q f w4 := (b4.block _ L3).trans f3
      have B4 := B3.trans (b4.mono (by omega))
      have L4 := f4.lt
      clear f3 B3 b4
      by_cases hkN : k < f.bytes
      · have hkd : k < f.data.length := by rw [f.hdata]; omega
        have hcD : w4.cell? ⟨q, 4 + k, none⟩ = some (.int .u8 (f.data[k]).toNat) := (Lib.cell_of_heap f4 (4 + k)).trans (f.arrD k (by omega))
        have HT : Hid ((⟨(f.front ++ bytesL (f.data.take k)).toArray⟩ : ByteArray) ++ ⟨(numL (f.data[k]).toNat 8).toArray⟩ = ⟨(f.front ++ bytesL (f.data.take (k + 1))).toArray⟩) := by
          show _ = _
          rw [txt_add, ltake_snoc _ _ hkd, bytesL_snoc, List.append_assoc]
        have hbl8 : (⟨(f.front ++ bytesL (f.data.take k)).toArray⟩ : ByteArray).size ≤ 200 := by
          simp only [ByteArray.size, List.size_toArray]
          rw [List.length_append, bytesL_length, hfr, List.length_take]
          split <;> omega
        have hd8 := (f.data[k]).toNat_lt
        generalize hdk : f.data[k] = dk at *
        have hn8 : (⟨(numL dk.toNat 8).toArray⟩ : ByteArray).size = 8 := by simp [ByteArray.size, numL_length]
        have hNum := fun W => r2num_any dk.toNat 8 W (by omega) (by omega) (by omega)
        generalize (⟨(f.front ++ bytesL (f.data.take k)).toArray⟩ : ByteArray) = acc at *
        generalize (⟨(numL dk.toNat 8).toArray⟩ : ByteArray) = N8 at *
        go_wp2_with fail
        refine (hNum _).mono ?_
        rintro e w5 ⟨rfl, b5⟩
        have f5 : Fa q f w5 := (b5.block _ L4).trans f4
        have B5 := B4.trans (b5.mono (by omega))
        clear f4 B4 b5 hNum
        go_wp2
        go_roundw
        case rel => exact ⟨k + 1, by omega, by go_num, by rw [HT.out], f5, B5⟩
        case measure => simp [intOf]; omega
      · obtain rfl : k = f.bytes := by omega
        rw [← HH.out]
        have hcr : crcV f.head = crc f.head := by rw [crcV, if_pos (err_of hha (by rw [hhl]; split <;> omega))]
        have hhs : (⟨f.head.toArray⟩ : ByteArray).size ≤ 200 := by
          simp only [ByteArray.size, List.size_toArray]
          rw [hhl]; split <;> omega
        have hCR := rCRC_any ⟨f.head.toArray⟩
        rw [show (⟨f.head.toArray⟩ : ByteArray).data.toList = f.head from rfl, hcr] at hCR
        have hlt := crc_lt f.head
        have HE : Hid ((⟨f.head.toArray⟩ : ByteArray) ++ ⟨(numL (crc f.head) 15).toArray⟩ = ⟨f.body.toArray⟩) := by
          show _ = _
          rw [txt_add, HBd.out]
        have hn15 : (⟨(numL (crc f.head) 15).toArray⟩ : ByteArray).size = 15 := by simp [ByteArray.size, numL_length]
        generalize crc f.head = cr at *
        have hNum := fun W => r2num_any cr 15 W (by omega) (by omega) (by omega)
        generalize (⟨f.head.toArray⟩ : ByteArray) = HDt at *
        generalize (⟨(numL cr 15).toArray⟩ : ByteArray) = N15 at *
        go_wp2_with fail
        refine (hCR _).mono ?_
        rintro e w5 ⟨rfl, rfl⟩
        go_wp2_with fail
        refine (hNum _).mono ?_
        rintro e w6 ⟨rfl, b6⟩
        have B6 := B4.trans (b6.mono (by omega))
        go_wp2
        go_ret
        exact ⟨ret_txt HE.out, by rw [hq]; exact B6⟩

theorem body_err (f : Fr) : err f.body = 0 := err_of (body_all f) (by have := body_short f; omega)
theorem encs (S : List UInt8) (b : Bool) : (⟨S.toArray⟩ ++ ⟨#[49]⟩ ++ ⟨(flagV (!b)).toArray⟩ ++ ⟨#[49, 49, 49, 49, 49, 49, 49, 49]⟩ : ByteArray) = ⟨(S ++ flagV true ++ flagV (!b) ++ [49, 49, 49, 49, 49, 49, 49, 49]).toArray⟩ := by
  apply ByteArray.ext; simp [flagV]

set_option maxHeartbeats 4000000 in
theorem r2Encode_any (f : Fr) (ack : Bool) (w : World) :
    Calls Try.prog 27 #[f.val, .bool ack] w fun e w' => e = .returned (.tuple #[.string ⟨(encV f ack).toArray⟩, .int .i64 f.chk]) ∧ Below w.heap.size w w' := by
  have HV : Hid (encV f ack = if f.chk = 0 then f.bits ack else []) := rfl
  have HC := r2Check_any f
  have fn := Fa.new w f
  have bn : Below w.heap.size w (w.alloc (.cells f.arr 38)) := (Below.refl _ _).alloc (Nat.le_refl _) _
  have sn := size_alloc w (.cells f.arr 38)
  rcases chk_cases f with h0 | h0
  · rw [h0] at HC
    have HV : Hid (encV f ack = f.bits ack) := by show encV f ack = _; rw [HV.out, if_pos h0]
    have HB := r2Body_any f h0
    have hst := rStuff_any ⟨f.body.toArray⟩
    rw [show (⟨f.body.toArray⟩ : ByteArray).data.toList = f.body from rfl, body_err f, stuffV, if_pos (body_err f)] at hst
    have hsl := stuff_body_length f
    have HE : Hid ((⟨(stuff f.body).toArray⟩ ++ ⟨#[49]⟩ ++ ⟨(flagV (!ack)).toArray⟩ ++ ⟨#[49, 49, 49, 49, 49, 49, 49, 49]⟩ : ByteArray) = ⟨(encV f ack).toArray⟩) := by
      show _ = _
      rw [encs, HV.out]; rfl
    have hss : (⟨(stuff f.body).toArray⟩ : ByteArray).size ≤ 236 := by simpa [ByteArray.size] using hsl
    have hff : (⟨(flagV (!ack)).toArray⟩ : ByteArray).size = 1 := by simp [ByteArray.size, flagV_length]
    have hFl := fun W => r2flag_any (!ack) W
    rw [h0]
    generalize (⟨(encV f ack).toArray⟩ : ByteArray) = V at *
    generalize (⟨(stuff f.body).toArray⟩ : ByteArray) = ST at *
    generalize (⟨f.body.toArray⟩ : ByteArray) = BD at *
    generalize (⟨(flagV (!ack)).toArray⟩ : ByteArray) = FL at *
    unfold Fr.val at *
    go_enter Try.func27, Try.ntmps27
    go_wp2_with (refine fn.ld rfl _ rfl rfl ?_)
    refine (HC _).mono ?_
    rintro e w1 ⟨rfl, b1⟩
    have f1 : Fa w.heap.size f w1 := (b1.block _ (by omega)).trans fn
    have B1 := bn.trans (b1.mono (by omega))
    have s1 := B1.size
    clear fn bn b1 sn HC
    go_wp2_with (refine f1.ld rfl _ rfl rfl ?_)
    refine (HB _).mono ?_
    rintro e w2 ⟨rfl, b2⟩
    have B2 := B1.trans (b2.mono s1)
    have s2 := B2.size
    go_wp2_with fail
    refine (hst _).mono ?_
    rintro e w3 ⟨rfl, b3⟩
    have B3 := B2.trans (b3.mono s2)
    have s3 := B3.size
    clear f1 B1 b2 B2 b3 hst HB
    go_wp2_with fail
    refine (hFl _).mono ?_
    rintro e w4 ⟨rfl, b4⟩
    have B4 := B3.trans (b4.mono s3)
    go_wp2
    go_ret2
    exact ⟨ret_str HE.out rfl, B4⟩
  · rw [h0] at HC
    have HV : Hid (encV f ack = []) := by show encV f ack = _; rw [HV.out, if_neg (by rw [h0]; decide)]
    rw [h0]
    generalize encV f ack = V at *
    unfold Fr.val at *
    go_enter Try.func27, Try.ntmps27
    go_wp2_with (refine fn.ld rfl _ rfl rfl ?_)
    refine (HC _).mono ?_
    rintro e w1 ⟨rfl, b1⟩
    clear fn HC
    go_wp2
    go_ret2
    exact ⟨ret_str (by rw [HV.out]) rfl, bn.trans (b1.mono (by omega))⟩
end Go.Proofs.Ytjblekemmcmblaa
namespace Go.Proofs.Ytjblekemmcmblaa
open Go.RowKit Go.Proofs.Bits
set_option linter.unusedVariables false
set_option maxRecDepth 1000000

/-- An outcome and its two rows, made behind world w0. -/
structure OutAt (w0 : World) (q ge gg : Nat) (n : Nat) (r : Rn) (w : World) : Prop where
  bel : Below w0.heap.size w0 w
  ou : Oa q r (sl ge n) (sl gg n) w
  er : Row w ge (r.errs.map errV)
  go : Row w gg (r.got.map Value.bool)
  b1 : w0.heap.size ≤ q
  b2 : w0.heap.size ≤ ge
  b3 : w0.heap.size ≤ gg
  d1 : q ≠ ge
  d2 : q ≠ gg
  d3 : ge ≠ gg
  le : r.errs.length = n
  lg : r.got.length = n
theorem Oa.set0 {q : Nat} {r : Rn} {ve vg : Value} {w : World} (h : Oa q r ve vg w) (z : Int) : Oa q { r with win := z } ve vg (w.setCell ⟨q, 0, none⟩ (.int .i64 z)) := by
  unfold Oa Rn.out at *; simp [World.setCell, Array.getElem?_modify, h]
theorem Oa.set1 {q : Nat} {r : Rn} {ve vg : Value} {w : World} (h : Oa q r ve vg w) (z : Int) : Oa q { r with bits := z } ve vg (w.setCell ⟨q, 1, none⟩ (.int .i64 z)) := by
  unfold Oa Rn.out at *; simp [World.setCell, Array.getElem?_modify, h]
theorem Oa.set2 {q : Nat} {r : Rn} {ve vg : Value} {w : World} (h : Oa q r ve vg w) (z : Bool) : Oa q { r with sent := z } ve vg (w.setCell ⟨q, 2, none⟩ (.bool z)) := by
  unfold Oa Rn.out at *; simp [World.setCell, Array.getElem?_modify, h]
theorem Oa.free {q : Nat} {r : Rn} {ve vg : Value} {w : World} (h : Oa q r ve vg w) (k : Nat) : w.frozen? ⟨q, k, none⟩ = false := by
  unfold Oa at h; simp [World.frozen?, h]
section
variable {w0 w : World} {q ge gg n : Nat} {r : Rn}
theorem OutAt.below (h : OutAt w0 q ge gg n r w) {w' : World} (hb : Below w.heap.size w w') : OutAt w0 q ge gg n r w' :=
  { h with bel := h.bel.trans (hb.mono h.bel.size), ou := h.ou.below hb, er := h.er.below hb, go := h.go.below hb }
theorem OutAt.alloc (h : OutAt w0 q ge gg n r w) (o : Obj) : OutAt w0 q ge gg n r (w.alloc o) := h.below ((Below.refl _ _).alloc (Nat.le_refl _) _)
theorem OutAt.drawn (h : OutAt w0 q ge gg n r w) (k : Nat) : OutAt w0 q ge gg n r (w.drewN k) := h.below (below_drawn (Below.refl _ _) k)
theorem OutAt.err (h : OutAt w0 q ge gg n r w) (k : Nat) (z : Int) : OutAt w0 q ge gg n { r with errs := r.errs.set k z } (w.setCell ⟨ge, k, none⟩ (.int .i64 z)) :=
  { h with bel := h.bel.setCell (p := ⟨ge, k, none⟩) h.b2 _, ou := h.ou.kept (Below.heap_setCell w ⟨ge, k, none⟩ _ q h.d1), er := by simpa [List.map_set, errV] using h.er.set k (errV z), go := h.go.kept (Below.heap_setCell w ⟨ge, k, none⟩ _ gg h.d3.symm), le := by simpa using h.le }
theorem OutAt.gotSet (h : OutAt w0 q ge gg n r w) (k : Nat) (z : Bool) : OutAt w0 q ge gg n { r with got := r.got.set k z } (w.setCell ⟨gg, k, none⟩ (.bool z)) :=
  { h with bel := h.bel.setCell (p := ⟨gg, k, none⟩) h.b3 _, ou := h.ou.kept (Below.heap_setCell w ⟨gg, k, none⟩ _ q h.d2), er := h.er.kept (Below.heap_setCell w ⟨gg, k, none⟩ _ ge h.d3), go := by simpa [List.map_set] using h.go.set k (.bool z), lg := by simpa using h.lg }
theorem OutAt.other (h : OutAt w0 q ge gg n r w) {r' : Rn} {w' : World} (k : Nat) (x : Value) (hw : w' = w.setCell ⟨q, k, none⟩ x) (hr : Oa q r' (sl ge n) (sl gg n) w') (he : r'.errs = r.errs) (hg : r'.got = r.got) : OutAt w0 q ge gg n r' w' := by
  subst hw
  exact { h with bel := h.bel.setCell (p := ⟨q, k, none⟩) h.b1 _, ou := hr, er := by rw [he]; exact h.er.kept (Below.heap_setCell w ⟨q, k, none⟩ _ ge h.d1.symm), go := by rw [hg]; exact h.go.kept (Below.heap_setCell w ⟨q, k, none⟩ _ gg h.d2.symm), le := by rw [he]; exact h.le, lg := by rw [hg]; exact h.lg }
theorem OutAt.set0 (h : OutAt w0 q ge gg n r w) (z : Int) : OutAt w0 q ge gg n { r with win := z } (w.setCell ⟨q, 0, none⟩ (.int .i64 z)) := h.other 0 _ rfl (h.ou.set0 z) rfl rfl
theorem OutAt.set1 (h : OutAt w0 q ge gg n r w) (z : Int) : OutAt w0 q ge gg n { r with bits := z } (w.setCell ⟨q, 1, none⟩ (.int .i64 z)) := h.other 1 _ rfl (h.ou.set1 z) rfl rfl
theorem OutAt.set2 (h : OutAt w0 q ge gg n r w) (z : Bool) : OutAt w0 q ge gg n { r with sent := z } (w.setCell ⟨q, 2, none⟩ (.bool z)) := h.other 2 _ rfl (h.ou.set2 z) rfl rfl
theorem OutAt.ec (h : OutAt w0 q ge gg n r w) (k : Nat) (hk : k < n) : (∃ z, w.cell? ⟨ge, k, none⟩ = some (.int .i64 z)) ∧ w.frozen? ⟨ge, k, none⟩ = false := by
  have hl : k < (r.errs.map errV).length := by rw [List.length_map, h.le]; exact hk
  exact ⟨⟨_, (h.er.cell k hl).trans (by rw [List.getElem_map]; rfl)⟩, h.er.free k hl⟩
theorem OutAt.gc (h : OutAt w0 q ge gg n r w) (k : Nat) (hk : k < n) : (∃ z, w.cell? ⟨gg, k, none⟩ = some (.bool z)) ∧ w.frozen? ⟨gg, k, none⟩ = false := by
  have hl : k < (r.got.map Value.bool).length := by rw [List.length_map, h.lg]; exact hk
  exact ⟨⟨_, (h.go.cell k hl).trans (by rw [List.getElem_map])⟩, h.go.free k hl⟩
end
def atV (n : Nat) : Option Fl → Int | none => n | some f => f.bit
def byV : Option Fl → Int | none => -1 | some f => f.nd
def lastK (wn n : Nat) (fl : List Fl) (k : Nat) : Bool := (fl.take k).any (lastB wn n)
theorem lastK_succ (wn n : Nat) (fl : List Fl) (k : Nat) (h : k < fl.length) : lastK wn n fl (k + 1) = (lastK wn n fl k || lastB wn n fl[k]) := by
  unfold lastK; rw [List.take_succ_eq_append_getElem h, List.any_append]; simp
/-- What the document's round answers. -/
def RefRes (l : List Se) (fl : List Fl) (w : World) (e : Ending) (w' : World) : Prop :=
  (rndE l fl ≠ 0 → e = .returned (.tuple #[.agg (rnZ.out nilV nilV), .int .i64 (-1), .int .i64 (rndE l fl)])) ∧
  (rndE l fl = 0 → ∃ ge gg, e = .returned (.tuple #[.agg ((rnd l fl).out (sl ge l.length) (sl gg l.length)), .int .i64 (rnd l fl).late, .int .i64 0]) ∧ Row w' ge ((rnd l fl).errs.map errV) ∧ Row w' gg ((rnd l fl).got.map Value.bool) ∧ w.heap.size ≤ ge ∧ w.heap.size ≤ gg ∧ ge ≠ gg ∧ (rnd l fl).errs.length = l.length ∧ (rnd l fl).got.length = l.length) ∧ Below w.heap.size w w'
theorem refres_ok {l : List Se} {fl : List Fl} {w w1 x : World} {q ge gg : Nat} {e : Ending} (B1 : Below w.heap.size w w1) (h : OutAt w1 q ge gg l.length (rnd l fl) x) (q0 : Nat) (A : Array Value) (hq : w.heap.size ≤ q0) (hq1 : q0 < w1.heap.size) (hz : rndE l fl = 0) (he : e = .returned (.tuple #[.agg ((rnd l fl).out (sl ge l.length) (sl gg l.length)), .int .i64 (rnd l fl).late, .int .i64 0])) : RefRes l fl w e (x.setRow q0 A) := by
  have s1 := B1.size
  have b1 := h.b1
  have b2 := h.b2
  have b3 := h.b3
  have bx := h.bel.size
  exact ⟨fun h => absurd hz h, fun _ => ⟨ge, gg, he, h.er.kept (setRow_other _ q0 ge _ (by omega)), h.go.kept (setRow_other _ q0 gg _ (by omega)), by omega, by omega, h.d3, h.le, h.lg⟩, below_row (B1.trans (h.bel.mono s1)) hq (by omega) _⟩
end Go.Proofs.Ytjblekemmcmblaa
