/- Contracts: outcomes in memory; Round. A unit that counts errors, as plain functions on numbers. Contracts of a unit's calls: off, greatest, Counts, State, Warns; the document's own. Contracts of a unit's calls: New, Reset, Sent, Received, Failed, Erred, Idle. A bus in memory. Contracts of a node's calls: off, takesPart, drop, turn. -/
import Derived.Test.YtlghjfomliappaaTa7
import Derived.WalkKit
import Derived.Test.YtlghjfomliappaaProg
import Derived.WalkSmall
import Derived.Deep.QuietTactic
import Derived.BigQuiet
import Derived.Deep.WholeRow
import Derived.Below
namespace Go.Proofs.Ytlghjfomliappaa
open Go.RowKit Go.Proofs.Bits
set_option linter.unusedVariables false
set_option maxRecDepth 1000000

theorem infoOu : (Try.prog.info? 27).map (·.size) = some 5 := by kernel_rfl
def Oa (q : Nat) (r : Rn) (ve vg : Value) (w : World) : Prop := w.heap[q]? = some (.cells (r.out ve vg) 27 (0, 0))
section
variable {q : Nat} {r : Rn} {ve vg : Value} {w : World}
theorem Oa.lt (h : Oa q r ve vg w) : q < w.heap.size := (Array.getElem?_eq_some_iff.1 h).1
theorem Oa.kept (h : Oa q r ve vg w) {w' : World} (hk : w'.heap[q]? = w.heap[q]?) : Oa q r ve vg w' := hk.trans h
theorem Oa.below (h : Oa q r ve vg w) {w' : World} (hb : Below w.heap.size w w') : Oa q r ve vg w' := h.kept (hb.block q h.lt)
theorem Oa.new (w : World) (r : Rn) (ve vg : Value) : Oa w.heap.size r ve vg (w.alloc (.cells (r.out ve vg) 27)) := heap_alloc_new w _
theorem Oa.row (h : Oa q r ve vg w) (r' : Rn) (ve' vg' : Value) : Oa q r' ve' vg' (w.setRow q (r'.out ve' vg')) := setRow_heap w q _ _ 27 _ h
theorem Oa.cells (h : Oa q r ve vg w) : w.cell? ⟨q, 0, none⟩ = some (.int .i64 r.win) ∧ w.cell? ⟨q, 1, none⟩ = some (.int .i64 r.bits) ∧ w.cell? ⟨q, 2, none⟩ = some (.bool r.sent) ∧ w.cell? ⟨q, 3, none⟩ = some ve ∧ w.cell? ⟨q, 4, none⟩ = some vg :=
  ⟨Lib.cell_of_heap h 0, Lib.cell_of_heap h 1, Lib.cell_of_heap h 2, Lib.cell_of_heap h 3, Lib.cell_of_heap h 4⟩
theorem Oa.sd {ops : Array Oper} {rest : List Oper} {o : Oper} {a : Act} {Q : Exit → Act → World → Prop} (h : Oa q r ve vg w) (r' : Rn) (ve' vg' : Value) (h1 : okV ve') (h2 : okV vg') (hgd : o.guard = none) (x y : Operand) (ho : o.op = .store 27 x y) (hx : a.eval x = .pointer (some ⟨q, 0, none⟩)) (hy : a.eval y = .agg (r'.out ve' vg'))
    (hh : wpList Try.prog ops Q rest (a.put o.dst undef) (w.setRow q (r'.out ve' vg'))) : wpList Try.prog ops Q (o :: rest) a w :=
  wpList_store_row hgd 27 x y ho q _ hx hy 27 _ h infoOu rfl (by unfold okV at *; simp [Rn.out, Value.oneCell'] at *; exact ⟨h1, h2⟩) hh
theorem Oa.range (h : Oa q r ve vg w) : w.rangeAt q 0 (r.out ve vg).toList := by
  intro j u hj
  rw [Lib.cell_of_heap h, Nat.zero_add]
  simpa using hj
theorem Oa.ld {ops : Array Oper} {rest : List Oper} {p : Oper} {a : Act} {Q : Exit → Act → World → Prop} (h : Oa q r ve vg w) (hgd : p.guard = none) (x : Operand) (ho : p.op = .load 27 x) (hx : a.eval x = .pointer (some ⟨q, 0, none⟩))
    (hh : wpList Try.prog ops Q rest (a.put p.dst (.agg (r.out ve vg))) w) : wpList Try.prog ops Q (p :: rest) a w :=
  wpList_load_mid hgd 27 x ho q 0 hx (r.out ve vg).toList _ h.range Try.underlying27 rfl (by rw [infoOu]; rfl) hh
theorem Ru.rangeO {v : Value} (h : Ru q r ve vg v w) : w.rangeAt q 0 (r.out ve vg).toList := by
  intro j u hj
  rw [Lib.cell_of_heap h, Nat.zero_add]
  have hj5 : j < 5 := (List.getElem?_eq_some_iff.1 hj).1
  match j, hj5 with
  | 0, _ => exact hj
  | 1, _ => exact hj
  | 2, _ => exact hj
  | 3, _ => exact hj
  | 4, _ => exact hj
theorem Ru.ldO {v : Value} {ops : Array Oper} {rest : List Oper} {p : Oper} {a : Act} {Q : Exit → Act → World → Prop} (h : Ru q r ve vg v w) (hgd : p.guard = none) (x : Operand) (ho : p.op = .load 27 x) (hx : a.eval x = .pointer (some ⟨q, 0, none⟩))
    (hh : wpList Try.prog ops Q rest (a.put p.dst (.agg (r.out ve vg))) w) : wpList Try.prog ops Q (p :: rest) a w :=
  wpList_load_mid hgd 27 x ho q 0 hx (r.out ve vg).toList _ h.rangeO Try.underlying27 rfl (by rw [infoOu]; rfl) hh
end
set_option maxHeartbeats 2000000 in
theorem Round_any (v vf : Value) (l : List Se) (fl : List Fl) (w : World) (hl : l.length ≤ maxLen) (hfl : fl.length ≤ maxLen) (hS : Senders w v l) (hF : Flips w vf fl) :
    Calls Try.prog 8 #[v, vf] w fun e w' => OutRes l fl w e w' := by
  have B1 : Below w.heap.size w (w.alloc (.cells (rnZ.out nilV nilV) 27)) := (Below.refl _ _).alloc (Nat.le_refl _) _
  have O1 := Oa.new w rnZ nilV nilV
  have hR := run_any v vf l fl _ hl hfl (hS.below B1) (hF.below B1)
  have hv : okV v := by obtain ⟨ao, cap, rfl, _⟩ := hS; rfl
  have HRes : Hid (∀ e x, (rndE l fl ≠ 0 → e = .returned (.tuple #[.agg (rnZ.out nilV nilV), .int .i64 (rndE l fl)])) → (rndE l fl = 0 → ∃ ge gg, e = .returned (.tuple #[.agg ((rnd l fl).out (sl ge l.length) (sl gg l.length)), .int .i64 0]) ∧ Row x ge ((rnd l fl).errs.map errV) ∧ Row x gg ((rnd l fl).got.map Value.bool) ∧ w.heap.size ≤ ge ∧ w.heap.size ≤ gg ∧ ge ≠ gg ∧ (rnd l fl).errs.length = l.length ∧ (rnd l fl).got.length = l.length) → Below w.heap.size w x → OutRes l fl w e x) := fun e x h1 h2 h3 => ⟨h1, h2, h3⟩
  clear hS hF
  go_enter Try.func8, Try.ntmps8
  go_wp2_with fail
  refine hR.mono ?_
  rintro e w2 ⟨h1, h2, B2⟩
  have B3 := B1.trans (B2.mono B1.size)
  have O2 := O1.below B2
  have s2 : w.heap.size < w2.heap.size := O2.lt
  have gn := Ru.new w2 rnZ nilV nilV nilV
  by_cases hz : rndE l fl = 0
  · obtain ⟨ge, gg, rfl, E2, G2, b1, b2, d3, le, lg⟩ := h2 hz
    have g3 := gn.row (rnd l fl) (sl ge l.length) (sl gg l.length) v
    have bb : Below w2.heap.size w2 ((w2.alloc (.cells (rnZ.arr nilV nilV nilV) 67)).setRow w2.heap.size ((rnd l fl).arr (sl ge l.length) (sl gg l.length) v)) := below_row ((Below.refl _ w2).alloc (Nat.le_refl _) _) (Nat.le_refl _) (by rw [size_alloc]; omega) _
    have O3 := O2.below bb
    have E3 := E2.below bb
    have G3 := G2.below bb
    have B4 := B3.trans (bb.mono B3.size)
    have O4 := O3.row (rnd l fl) (sl ge l.length) (sl gg l.length)
    obtain ⟨d0, d1, d2, d3', d4⟩ := O4.cells
    have n1 : ge ≠ w.heap.size := by have := O1.lt; omega
    have n2 : gg ≠ w.heap.size := by have := O1.lt; omega
    have E4 := E3.kept (setRow_other _ w.heap.size ge ((rnd l fl).out (sl ge l.length) (sl gg l.length)) n1)
    have G4 := G3.kept (setRow_other _ w.heap.size gg ((rnd l fl).out (sl ge l.length) (sl gg l.length)) n2)
    have B5 := below_row B4 (q := w.heap.size) (Nat.le_refl _) (by have := O3.lt; omega) ((rnd l fl).out (sl ge l.length) (sl gg l.length))
    have b1' : w.heap.size ≤ ge := by have := B1.size; omega
    have b2' : w.heap.size ≤ gg := by have := B1.size; omega
    generalize rnd l fl = r9 at *
    clear h1 h2 hR B1 B2 B3 B4 O1 E2 G2 E3 G3 bb
    go_wp2_with (first | refine gn.sd r9 (sl ge l.length) (sl gg l.length) v rfl rfl hv rfl _ _ rfl rfl rfl ?_ | refine g3.ldO rfl _ rfl rfl ?_ | refine O3.sd r9 (sl ge l.length) (sl gg l.length) rfl rfl rfl _ _ rfl rfl rfl ?_)
    exact bodyPost_ret (v := .tuple #[.agg (r9.out (sl ge l.length) (sl gg l.length)), .int .i64 0]) (by simp [results, Try.results8, go_sem, d0, d1, d2, d3', d4]; rfl) rfl (HRes.out _ _ (fun h => absurd hz h) (fun _ => ⟨ge, gg, rfl, E4, G4, b1', b2', d3, le, lg⟩) B5)
  · obtain rfl := h1 hz
    have g3 := gn.row rnZ nilV nilV nilV
    have bb : Below w2.heap.size w2 ((w2.alloc (.cells (rnZ.arr nilV nilV nilV) 67)).setRow w2.heap.size (rnZ.arr nilV nilV nilV)) := below_row ((Below.refl _ w2).alloc (Nat.le_refl _) _) (Nat.le_refl _) (by rw [size_alloc]; omega) _
    have O3 := O2.below bb
    have B4 := B3.trans (bb.mono B3.size)
    have O4 := O3.row rnZ nilV nilV
    obtain ⟨d0, d1, d2, d3', d4⟩ := O4.cells
    have B5 := below_row B4 (q := w.heap.size) (Nat.le_refl _) (by have := O3.lt; omega) (rnZ.out nilV nilV)
    generalize rndE l fl = re at *
    clear h1 h2 hR B1 B2 B3 B4 O1 bb
    go_wp2_with (first | refine gn.sd rnZ nilV nilV nilV rfl rfl rfl rfl _ _ rfl rfl rfl ?_ | refine g3.ldO rfl _ rfl rfl ?_ | refine O3.sd rnZ nilV nilV rfl rfl rfl _ _ rfl rfl rfl ?_)
    exact bodyPost_ret (v := .tuple #[.agg (rnZ.out nilV nilV), .int .i64 re]) (by simp [results, Try.results8, go_sem, d0, d1, d2, d3', d4]; rfl) rfl (HRes.out _ _ (fun _ => rfl) (fun h => absurd h hz) B5)
end Go.Proofs.Ytlghjfomliappaa
namespace Go.Proofs.Ytlghjfomliappaa
open Go.RowKit
set_option linter.unusedVariables false
set_option maxRecDepth 1000000

/-- The counts of sending and of receiving, and the idle rows. -/
structure Un where
  s : Nat
  r : Nat
  k : Nat
def Un.nul : Un := ⟨0, 0, 0⟩
def Un.ok (u : Un) : Prop := u.s ≤ 256 ∧ u.r ≤ 255 ∧ u.k ≤ 127
def Un.off (u : Un) : Bool := decide (255 < u.s)
def Un.great (u : Un) : Nat := max u.s u.r
def Un.state (u : Un) : Int := if 255 < u.s then 2 else if 127 < u.s ∨ 127 < u.r then 1 else 0
def Un.warns (u : Un) : Bool := decide (95 < u.s) || decide (95 < u.r)
def Un.sent (u : Un) : Un := if 255 < u.s then u else ⟨u.s - 1, u.r, u.k⟩
def Un.recv (u : Un) : Un := if 255 < u.s then u else if 127 < u.r then ⟨u.s, 120, u.k⟩ else ⟨u.s, u.r - 1, u.k⟩
def Un.fail (q : Bool) (u : Un) : Un := if 255 < u.s then u else if q = true ∧ (127 < u.s ∨ 127 < u.r) then u else if 247 < u.s then ⟨256, u.r, 0⟩ else ⟨u.s + 8, u.r, u.k⟩
def Un.err (l : Bool) (u : Un) : Un := if 255 < u.s then u else ⟨u.s, min (u.r + if l then 8 else 1) 255, u.k⟩
def Un.back (n : Int) (u : Un) : Bool := decide (255 < u.s) && decide (128 - (u.k : Int) ≤ n)
def Un.idle (n : Int) (u : Un) : Un := if 255 < u.s then (if 128 - (u.k : Int) ≤ n then Un.nul else ⟨u.s, u.r, u.k + n.toNat⟩) else u
theorem Un.ok_nul : Un.nul.ok := by simp [Un.ok, Un.nul]
theorem Un.ok_sent {u : Un} (h : u.ok) : u.sent.ok := by
  unfold Un.sent Un.ok at *; split <;> (try simp only) <;> omega
theorem Un.ok_recv {u : Un} (h : u.ok) : u.recv.ok := by
  unfold Un.recv Un.ok at *; split
  · omega
  · split <;> (try simp only) <;> omega
theorem Un.ok_fail {u : Un} (q : Bool) (h : u.ok) : (u.fail q).ok := by
  unfold Un.fail Un.ok at *; split
  · omega
  · split
    · omega
    · split <;> (try simp only) <;> omega
theorem Un.ok_err {u : Un} (l : Bool) (h : u.ok) : (u.err l).ok := by
  unfold Un.err Un.ok at *; split
  · omega
  · simp only; omega
theorem Un.ok_idle {u : Un} (n : Int) (h : u.ok) : (u.idle n).ok := by
  unfold Un.idle Un.ok at *; split
  · split
    · simp [Un.nul]
    · simp only; omega
  · omega
end Go.Proofs.Ytlghjfomliappaa
namespace Go.Proofs.Ytlghjfomliappaa
open Go.RowKit
set_option linter.unusedVariables false
set_option maxRecDepth 1000000


/-- Blocks other than g and h stand; nothing else is changed. -/
structure Two (g h : Nat) (w w' : World) : Prop where
  os : w'.os = w.os
  tape : w'.tape = w.tape
  output : w'.output = w.output
  size : w.heap.size ≤ w'.heap.size
  block : ∀ k, k < w.heap.size → k ≠ g → k ≠ h → w'.heap[k]? = w.heap[k]?
section
variable {g h : Nat} {a b c w : World}
theorem Two.refl (g h : Nat) (w : World) : Two g h w w := ⟨rfl, rfl, rfl, Nat.le_refl _, fun _ _ _ _ => rfl⟩
theorem Two.trans (x : Two g h a b) (y : Two g h b c) : Two g h a c :=
  ⟨y.os.trans x.os, y.tape.trans x.tape, y.output.trans x.output, Nat.le_trans x.size y.size, fun k hk h1 h2 => (y.block k (Nat.lt_of_lt_of_le hk x.size) h1 h2).trans (x.block k hk h1 h2)⟩
theorem Two.setCell (x : Two g h a w) {p : Addr} (hp : p.block = g ∨ p.block = h ∨ a.heap.size ≤ p.block) (v : Value) : Two g h a (w.setCell p v) :=
  ⟨x.os, x.tape, x.output, by simpa [World.setCell] using x.size, fun k hk h1 h2 => (Below.heap_setCell w p v k (by omega)).trans (x.block k hk h1 h2)⟩
theorem Two.alloc (x : Two g h a w) (o : Obj) : Two g h a (w.alloc o) :=
  ⟨x.os, x.tape, x.output, Nat.le_trans x.size (by simp), fun k hk h1 h2 => (Below.heap_alloc _ _ _ (Nat.lt_of_lt_of_le hk x.size)).trans (x.block k hk h1 h2)⟩
theorem Two.drawn (x : Two g h a w) (n : Nat) : Two g h a (w.drewN n) := ⟨x.os, x.tape, x.output, x.size, x.block⟩
theorem Two.row (x : Two g h a w) (q : Nat) (hq : q = g ∨ q = h) (cs : Array Value) : Two g h a (w.setRow q cs) :=
  ⟨x.os, x.tape, x.output, by simpa [World.setRow] using x.size, fun k hk h1 h2 => (setRow_other w q k _ (by omega)).trans (x.block k hk h1 h2)⟩
theorem Two.at0 (x : Two g h a w) (i : Nat) (v : Value) : Two g h a (w.setCell ⟨g, i, none⟩ v) := x.setCell (p := ⟨g, i, none⟩) (.inl rfl) v
theorem Two.at1 (x : Two g h a w) (i : Nat) (v : Value) : Two g h a (w.setCell ⟨h, i, none⟩ v) := x.setCell (p := ⟨h, i, none⟩) (.inr (.inl rfl)) v
theorem Two.left (x : Two g g a w) (h : Nat) : Two g h a w := ⟨x.os, x.tape, x.output, x.size, fun k hk h1 h2 => x.block k hk h1 h1⟩
theorem Two.right (x : Two h h a w) (g : Nat) : Two g h a w := ⟨x.os, x.tape, x.output, x.size, fun k hk h1 h2 => x.block k hk h2 h2⟩
theorem Two.below (x : Two g h a w) {B : Nat} (hB : B ≤ a.heap.size) (hg : B ≤ g) (hh : B ≤ h) : Below B a w :=
  ⟨x.os, x.tape, x.output, x.size, fun k hk => x.block k (by omega) (by omega) (by omega)⟩
end

/-- The program's unit in block g; the document's. -/
def Ua (g : Nat) (u : Un) (w : World) : Prop := w.heap[g]? = some (.cells #[.int .i64 u.s, .int .i64 u.r, .int .i64 u.k] 105 (0, 0))
section
variable {g : Nat} {u : Un} {w : World}
theorem Ua.lt (h : Ua g u w) : g < w.heap.size := (Array.getElem?_eq_some_iff.1 h).1
theorem Ua.cells (h : Ua g u w) : w.cell? ⟨g, 0, none⟩ = some (.int .i64 u.s) ∧ w.cell? ⟨g, 1, none⟩ = some (.int .i64 u.r) ∧ w.cell? ⟨g, 2, none⟩ = some (.int .i64 u.k) ∧ ∀ k, w.frozen? ⟨g, k, none⟩ = false :=
  ⟨Lib.cell_of_heap h 0, Lib.cell_of_heap h 1, Lib.cell_of_heap h 2, fun k => Lib.frozen_of_heap h k⟩
theorem Ua.drawn (h : Ua g u w) (n : Nat) : Ua g u (w.drewN n) := h
theorem Ua.two {p q : Nat} {w' : World} (h : Ua g u w) (t : Two p q w w') (h1 : g ≠ p) (h2 : g ≠ q) : Ua g u w' := (t.block g h.lt h1 h2).trans h
theorem Ua.below {w' : World} (h : Ua g u w) (t : Below w.heap.size w w') : Ua g u w' := (t.block g h.lt).trans h
theorem Ua.alloc (h : Ua g u w) (o : Obj) : Ua g u (w.alloc o) := (Below.heap_alloc w o g h.lt).trans h
theorem off_any (h : Ua g u w) : Calls Try.prog 82 #[.pointer (some ⟨g, 0, none⟩)] w fun e w' => e = .returned (.bool u.off) ∧ w' = w := by
  obtain ⟨c0, c1, c2, hf⟩ := h.cells
  have HO : Hid (u.off = decide (255 < u.s)) := rfl
  generalize u.off = o at *
  by_cases h1 : 255 < u.s
  · have hd : decide ((255 : Int) < (u.s : Int)) = true := by simp; omega
    go_enter Try.func82, Try.ntmps82
    go_wp2
    go_ret
    exact ⟨ret_bool (by rw [HO.out]; simp [h1]), rfl⟩
  · have hd : decide ((255 : Int) < (u.s : Int)) = false := by simp; omega
    go_enter Try.func82, Try.ntmps82
    go_wp2
    go_ret
    exact ⟨ret_bool (by rw [HO.out]; simp [h1]), rfl⟩
theorem great_any (h : Ua g u w) : Calls Try.prog 93 #[.pointer (some ⟨g, 0, none⟩)] w fun e w' => e = .returned (.int .i64 u.great) ∧ ∃ n, w' = w.drewN n := by
  obtain ⟨c0, c1, c2, hf⟩ := h.cells
  have HO : Hid ((u.great : Int) = max (u.s : Int) (u.r : Int)) := by show _ = _; unfold Un.great; omega
  generalize u.great = o at *
  go_enter Try.func93, Try.ntmps93
  go_wp2_with fail
  go_quiet (fail)
  go_wp2
  all_goals
    go_ret
    exact ⟨ret_int (by rw [HO.out]; try omega), _, rfl⟩
theorem state_any (h : Ua g u w) : Calls Try.prog 81 #[.pointer (some ⟨g, 0, none⟩)] w fun e w' => e = .returned (.int .i64 u.state) ∧ ∃ n, w' = w.drewN n := by
  have HO := off_any h
  have HG := great_any h
  have HS : Hid (u.state = if 255 < u.s then 2 else if 127 < u.s ∨ 127 < u.r then 1 else 0) := rfl
  have hg : u.great = max u.s u.r := rfl
  generalize u.state = S at *
  generalize hG : u.great = G at *
  unfold Un.off at HO
  by_cases h1 : 255 < u.s
  · have hd : decide (255 < u.s) = true := by simpa using h1
    rw [hd] at HO
    clear hd
    go_enter Try.func81, Try.ntmps81
    go_wp2_with (go_at_call 82; refine HO.mono ?_; rintro e w' ⟨rfl, rfl⟩)
    go_ret
    exact ⟨ret_int (by rw [HS.out, if_pos h1]), 0, rfl⟩
  · have hd : decide (255 < u.s) = false := by simpa using h1
    rw [hd] at HO
    clear hd
    have HR : Hid (¬ 255 < u.s) := h1
    by_cases h2 : 127 < G
    · have hd2 : decide ((127 : Int) < (G : Int)) = true := by simp; omega
      go_enter Try.func81, Try.ntmps81
      go_wp2_with (first | (go_at_call 82; refine HO.mono ?_; rintro e w' ⟨rfl, rfl⟩) | (go_at_call 93; refine HG.mono ?_; rintro e w' ⟨rfl, n, rfl⟩))
      go_ret
      exact ⟨ret_int (by rw [HS.out, if_neg HR.out, if_pos (by omega)]), _, rfl⟩
    · have hd2 : decide ((127 : Int) < (G : Int)) = false := by simp; omega
      go_enter Try.func81, Try.ntmps81
      go_wp2_with (first | (go_at_call 82; refine HO.mono ?_; rintro e w' ⟨rfl, rfl⟩) | (go_at_call 93; refine HG.mono ?_; rintro e w' ⟨rfl, n, rfl⟩))
      go_ret
      exact ⟨ret_int (by rw [HS.out, if_neg HR.out, if_neg (by omega)]), _, rfl⟩
end
end Go.Proofs.Ytlghjfomliappaa
namespace Go.Proofs.Ytlghjfomliappaa
open Go.RowKit
set_option linter.unusedVariables false
set_option maxRecDepth 1000000

theorem infoU : (Try.prog.info? 105).map (·.size) = some 3 := by kernel_rfl
def Un.arr (u : Un) : Array Value := #[.int .i64 u.s, .int .i64 u.r, .int .i64 u.k]
section
variable {g : Nat} {u : Un} {w : World}
theorem Ua.set0 (h : Ua g u w) (v : Nat) : Ua g ⟨v, u.r, u.k⟩ (w.setCell ⟨g, 0, none⟩ (.int .i64 v)) := by
  unfold Ua at *; simp [World.setCell, Array.getElem?_modify, h]
theorem Ua.set1 (h : Ua g u w) (v : Nat) : Ua g ⟨u.s, v, u.k⟩ (w.setCell ⟨g, 1, none⟩ (.int .i64 v)) := by
  unfold Ua at *; simp [World.setCell, Array.getElem?_modify, h]
theorem Ua.set2 (h : Ua g u w) (v : Nat) : Ua g ⟨u.s, u.r, v⟩ (w.setCell ⟨g, 2, none⟩ (.int .i64 v)) := by
  unfold Ua at *; simp [World.setCell, Array.getElem?_modify, h]
theorem Ua.row (h : Ua g u w) (v : Un) : Ua g v (w.setRow g v.arr) := setRow_heap w g _ _ 105 _ h
theorem Ua.sd {ops : Array Oper} {rest : List Oper} {o : Oper} {a : Act} {Q : Exit → Act → World → Prop} (h : Ua g u w) (v : Un) (hgd : o.guard = none) (x y : Operand) (ho : o.op = .store 105 x y) (hx : a.eval x = .pointer (some ⟨g, 0, none⟩)) (hy : a.eval y = .agg v.arr)
    (hh : wpList Try.prog ops Q rest (a.put o.dst undef) (w.setRow g v.arr)) : wpList Try.prog ops Q (o :: rest) a w :=
  wpList_store_row hgd 105 x y ho g v.arr hx hy 105 _ h infoU rfl (by simp [Un.arr, Value.oneCell']) hh

theorem new_any (w : World) : Calls Try.prog 28 #[] w fun e w' => e = .returned (.pointer (some ⟨w.heap.size, 0, none⟩)) ∧ w' = w.alloc (.cells #[.int .i64 0, .int .i64 0, .int .i64 0] 105) := by
  go_enter Try.func28, Try.ntmps28
  go_wp2
  go_ret
  exact ⟨rfl, rfl⟩
theorem Ua.new (w : World) : Ua w.heap.size Un.nul (w.alloc (.cells #[.int .i64 0, .int .i64 0, .int .i64 0] 105)) := heap_alloc_new w _
theorem reset_any (h : Ua g u w) : Calls Try.prog 52 #[.pointer (some ⟨g, 0, none⟩)] w fun e w' => e = .returned (.tuple #[]) ∧ Ua g Un.nul w' ∧ Two g g w w' := by
  go_enter Try.func52, Try.ntmps52
  go_wp2_with (refine h.sd Un.nul rfl _ _ rfl rfl rfl ?_)
  go_end0
  exact ⟨rfl, h.row _, (Two.refl _ _ _).row _ (.inl rfl) _⟩
theorem sent_any (hk : u.ok) (h : Ua g u w) : Calls Try.prog 57 #[.pointer (some ⟨g, 0, none⟩)] w fun e w' => e = .returned (.tuple #[]) ∧ Ua g u.sent w' ∧ Two g g w w' := by
  have HO := off_any h
  obtain ⟨c0, c1, c2, hf⟩ := h.cells
  have f0 := hf 0
  unfold Un.off at HO
  obtain ⟨k1, k2, k3⟩ := hk
  by_cases h1 : 255 < u.s
  · rw [show decide (255 < u.s) = true by simpa using h1] at HO
    have HU : Hid (u.sent = u) := by show _ = _; unfold Un.sent; rw [if_pos h1]
    generalize u.sent = U at *
    clear h1
    go_enter Try.func57, Try.ntmps57
    go_wp2_with (go_at_call 82; refine HO.mono ?_; rintro e w' ⟨rfl, rfl⟩)
    go_end0
    exact ⟨rfl, by rw [HU.out]; exact h, Two.refl _ _ _⟩
  · rw [show decide (255 < u.s) = false by simpa using h1] at HO
    by_cases h2 : 0 < u.s
    · have HU : Hid (u.sent = ⟨u.s - 1, u.r, u.k⟩) := by show _ = _; unfold Un.sent; rw [if_neg h1]
      have H := h.set0 (u.s - 1)
      have hc : ((u.s - 1 : Nat) : Int) = (u.s : Int) - 1 := by omega
      rw [hc] at H
      have HH : Hid (Ua g ⟨u.s - 1, u.r, u.k⟩ (w.setCell ⟨g, 0, none⟩ (.int .i64 ((u.s : Int) - 1)))) := H
      generalize u.sent = U at *
      have hd : decide ((0 : Int) < (u.s : Int)) = true := by simp; omega
      clear h1 H hc h
      go_enter Try.func57, Try.ntmps57
      go_wp2_with (go_at_call 82; refine HO.mono ?_; rintro e w' ⟨rfl, rfl⟩)
      go_end0
      exact ⟨rfl, by rw [HU.out]; exact HH.out, (Two.refl _ _ _).at0 _ _⟩
    · have HU : Hid (u.sent = u) := by
        show _ = _
        unfold Un.sent
        rw [if_neg h1]
        have : u.s - 1 = u.s := by omega
        rw [this]
      generalize u.sent = U at *
      have hd : decide ((0 : Int) < (u.s : Int)) = false := by simp; omega
      clear h1
      go_enter Try.func57, Try.ntmps57
      go_wp2_with (go_at_call 82; refine HO.mono ?_; rintro e w' ⟨rfl, rfl⟩)
      go_end0
      exact ⟨rfl, by rw [HU.out]; exact h, Two.refl _ _ _⟩
theorem recv_any (hk : u.ok) (h : Ua g u w) : Calls Try.prog 60 #[.pointer (some ⟨g, 0, none⟩)] w fun e w' => e = .returned (.tuple #[]) ∧ Ua g u.recv w' ∧ Two g g w w' := by
  have HO := off_any h
  obtain ⟨c0, c1, c2, hf⟩ := h.cells
  have f1 := hf 1
  unfold Un.off at HO
  obtain ⟨k1, k2, k3⟩ := hk
  by_cases h1 : 255 < u.s
  · rw [show decide (255 < u.s) = true by simpa using h1] at HO
    have HU : Hid (u.recv = u) := by show _ = _; unfold Un.recv; rw [if_pos h1]
    generalize u.recv = U at *
    clear h1
    go_enter Try.func60, Try.ntmps60
    go_wp2_with (go_at_call 82; refine HO.mono ?_; rintro e w' ⟨rfl, rfl⟩)
    go_end0
    exact ⟨rfl, by rw [HU.out]; exact h, Two.refl _ _ _⟩
  · rw [show decide (255 < u.s) = false by simpa using h1] at HO
    by_cases h2 : u.r = 0
    · have HU : Hid (u.recv = u) := by
        show _ = _
        unfold Un.recv
        rw [if_neg h1, if_neg (by omega)]
        have : u.r - 1 = u.r := by omega
        rw [this]
      generalize u.recv = U at *
      have hd : ((u.r : Int) == 0) = true := by simp; omega
      clear h1
      go_enter Try.func60, Try.ntmps60
      go_wp2_with (go_at_call 82; refine HO.mono ?_; rintro e w' ⟨rfl, rfl⟩)
      go_end0
      exact ⟨rfl, by rw [HU.out]; exact h, Two.refl _ _ _⟩
    · have hd : ((u.r : Int) == 0) = false := by simp; omega
      by_cases h3 : 127 < u.r
      · have HU : Hid (u.recv = ⟨u.s, 120, u.k⟩) := by show _ = _; unfold Un.recv; rw [if_neg h1, if_pos h3]
        have HH : Hid (Ua g ⟨u.s, 120, u.k⟩ (w.setCell ⟨g, 1, none⟩ (.int .i64 120))) := h.set1 120
        generalize u.recv = U at *
        have hd3 : decide ((127 : Int) < (u.r : Int)) = true := by simp; omega
        clear h1 h
        go_enter Try.func60, Try.ntmps60
        go_wp2_with (go_at_call 82; refine HO.mono ?_; rintro e w' ⟨rfl, rfl⟩)
        go_end0
        exact ⟨rfl, by rw [HU.out]; exact HH.out, (Two.refl _ _ _).at0 _ _⟩
      · have HU : Hid (u.recv = ⟨u.s, u.r - 1, u.k⟩) := by show _ = _; unfold Un.recv; rw [if_neg h1, if_neg h3]
        have H := h.set1 (u.r - 1)
        have hc : ((u.r - 1 : Nat) : Int) = (u.r : Int) - 1 := by omega
        rw [hc] at H
        have HH : Hid (Ua g ⟨u.s, u.r - 1, u.k⟩ (w.setCell ⟨g, 1, none⟩ (.int .i64 ((u.r : Int) - 1)))) := H
        generalize u.recv = U at *
        have hd3 : decide ((127 : Int) < (u.r : Int)) = false := by simp; omega
        clear h1 H hc h
        go_enter Try.func60, Try.ntmps60
        go_wp2_with (go_at_call 82; refine HO.mono ?_; rintro e w' ⟨rfl, rfl⟩)
        go_end0
        exact ⟨rfl, by rw [HU.out]; exact HH.out, (Two.refl _ _ _).at0 _ _⟩
theorem fail_any (q : Bool) (hk : u.ok) (h : Ua g u w) : Calls Try.prog 58 #[.pointer (some ⟨g, 0, none⟩), .bool q] w fun e w' => e = .returned (.tuple #[]) ∧ Ua g (u.fail q) w' ∧ Two g g w w' := by
  have HO := off_any h
  have HS := state_any h
  obtain ⟨c0, c1, c2, hf⟩ := h.cells
  have f0 := hf 0
  obtain ⟨k1, k2, k3⟩ := hk
  unfold Un.off at HO
  by_cases h1 : 255 < u.s
  · rw [show decide (255 < u.s) = true by simpa using h1] at HO
    have HU : Hid (u.fail q = u) := by show _ = _; unfold Un.fail; rw [if_pos h1]
    generalize u.fail q = U at *
    clear h1
    go_enter Try.func58, Try.ntmps58
    go_wp2_with (go_at_call 82; refine HO.mono ?_; rintro e w' ⟨rfl, rfl⟩)
    refine bodyPost_ret (results_none rfl _ _ _) rfl ?_
    exact ⟨rfl, by rw [HU.out]; exact h, Two.refl _ _ _⟩
  · rw [show decide (255 < u.s) = false by simpa using h1] at HO
    unfold Un.state at HS
    rw [if_neg h1] at HS
    have HB : ∀ (n : Nat), ¬ (q = true ∧ (127 < u.s ∨ 127 < u.r)) → Hid (247 < u.s → Ua g (u.fail q) (((w.drewN n).setCell ⟨g, 0, none⟩ (.int .i64 ((u.s : Int) + 8))).setRow g (Un.arr ⟨256, u.r, 0⟩))) ∧ Hid (¬ 247 < u.s → Ua g (u.fail q) ((w.drewN n).setCell ⟨g, 0, none⟩ (.int .i64 ((u.s : Int) + 8)))) ∧ Ua g ⟨u.s + 8, u.r, u.k⟩ ((w.drewN n).setCell ⟨g, 0, none⟩ (.int .i64 ((u.s : Int) + 8))) := by
      intro n hn
      have H : Ua g ⟨u.s + 8, u.r, u.k⟩ ((w.drewN n).setCell ⟨g, 0, none⟩ (.int .i64 ((u.s : Int) + 8))) := (h.drawn n).set0 (u.s + 8)
      refine ⟨fun h3 => ?_, fun h3 => ?_, H⟩
      · unfold Un.fail; rw [if_neg h1, if_neg hn, if_pos h3]; exact H.row ⟨256, u.r, 0⟩
      · unfold Un.fail; rw [if_neg h1, if_neg hn, if_neg h3]; exact H
    by_cases h2 : q = true ∧ (127 < u.s ∨ 127 < u.r)
    · have HU : Hid (u.fail q = u) := by show _ = _; unfold Un.fail; rw [if_neg h1, if_pos h2]
      rw [if_pos h2.2] at HS
      obtain rfl := h2.1
      generalize u.fail true = U at *
      clear h1 h2 HB
      go_enter Try.func58, Try.ntmps58
      go_wp2_with (first | (go_at_call 82; refine HO.mono ?_; rintro e w' ⟨rfl, rfl⟩) | (go_at_call 81; refine HS.mono ?_; rintro e w' ⟨rfl, n, rfl⟩))
      refine bodyPost_ret (results_none rfl _ _ _) rfl ?_
      exact ⟨rfl, by rw [HU.out]; exact h, (Two.refl _ _ _).drawn _⟩
    · cases q
      · obtain ⟨H1, H2, H3⟩ := HB 0 h2
        change Hid (247 < u.s → Ua g (u.fail false) ((w.setCell ⟨g, 0, none⟩ (.int .i64 ((u.s : Int) + 8))).setRow g (Un.arr ⟨256, u.r, 0⟩))) at H1
        change Hid (¬ 247 < u.s → Ua g (u.fail false) (w.setCell ⟨g, 0, none⟩ (.int .i64 ((u.s : Int) + 8)))) at H2
        change Ua g ⟨u.s + 8, u.r, u.k⟩ (w.setCell ⟨g, 0, none⟩ (.int .i64 ((u.s : Int) + 8))) at H3
        by_cases h3 : 247 < u.s
        · have hd : decide ((255 : Int) < (u.s : Int) + 8) = true := by simp; omega
          go_enter Try.func58, Try.ntmps58
          go_wp2_with (first | (go_at_call 82; refine HO.mono ?_; rintro e w' ⟨rfl, rfl⟩) | (refine H3.sd ⟨256, u.r, 0⟩ rfl _ _ rfl rfl rfl ?_))
          go_end0
          exact ⟨rfl, H1.out h3, ((Two.refl _ _ _).at0 _ _).row _ (.inl rfl) _⟩
        · have hd : decide ((255 : Int) < (u.s : Int) + 8) = false := by simp; omega
          go_enter Try.func58, Try.ntmps58
          go_wp2_with (first | (go_at_call 82; refine HO.mono ?_; rintro e w' ⟨rfl, rfl⟩))
          go_end0
          exact ⟨rfl, H2.out h3, (Two.refl _ _ _).at0 _ _⟩
      · have hn : ¬ (127 < u.s ∨ 127 < u.r) := fun hh => h2 ⟨rfl, hh⟩
        rw [if_neg hn] at HS
        have h3 : ¬ 247 < u.s := by omega
        have hd : decide ((255 : Int) < (u.s : Int) + 8) = false := by simp; omega
        go_enter Try.func58, Try.ntmps58
        go_wp2_with (first | (go_at_call 82; refine HO.mono ?_; rintro e w' ⟨rfl, rfl⟩) | (go_at_call 81; refine HS.mono ?_; rintro e w' ⟨rfl, n, rfl⟩))
        go_end0
        exact ⟨rfl, (HB _ h2).2.1.out h3, ((Two.refl _ _ _).drawn _).at0 _ _⟩
theorem err_any (l : Bool) (hk : u.ok) (h : Ua g u w) : Calls Try.prog 61 #[.pointer (some ⟨g, 0, none⟩), .bool l] w fun e w' => e = .returned (.tuple #[]) ∧ Ua g (u.err l) w' ∧ Two g g w w' := by
  have HO := off_any h
  obtain ⟨c0, c1, c2, hf⟩ := h.cells
  have f1 := hf 1
  obtain ⟨k1, k2, k3⟩ := hk
  unfold Un.off at HO
  by_cases h1 : 255 < u.s
  · rw [show decide (255 < u.s) = true by simpa using h1] at HO
    have HU : Hid (u.err l = u) := by show _ = _; unfold Un.err; rw [if_pos h1]
    generalize u.err l = U at *
    clear h1
    go_enter Try.func61, Try.ntmps61
    go_wp2_with (go_at_call 82; refine HO.mono ?_; rintro e w' ⟨rfl, rfl⟩)
    refine bodyPost_ret (results_none rfl _ _ _) rfl ?_
    exact ⟨rfl, by rw [HU.out]; exact h, Two.refl _ _ _⟩
  · rw [show decide (255 < u.s) = false by simpa using h1] at HO
    have HU : Hid (u.err l = ⟨u.s, min (u.r + if l then 8 else 1) 255, u.k⟩) := by show _ = _; unfold Un.err; rw [if_neg h1]
    have HH : Hid (∀ z : Int, z = ((min (u.r + if l then 8 else 1) 255 : Nat) : Int) → Ua g (u.err l) (w.setCell ⟨g, 1, none⟩ (.int .i64 z))) := by
      intro z hz
      rw [hz, HU.out]
      exact h.set1 _
    generalize u.err l = U at *
    clear h1 h HU
    cases l
    all_goals
      go_enter Try.func61, Try.ntmps61
      go_wp2_with (go_at_call 82; refine HO.mono ?_; rintro e w' ⟨rfl, rfl⟩)
      all_goals
        go_end0
        exact ⟨rfl, HH.out _ (by simp only [if_true, if_false, Bool.false_eq_true]; omega), (Two.refl _ _ _).at0 _ _⟩
theorem idle_any (n : Int) (hn : -9223372036854775808 ≤ n ∧ n < 9223372036854775808) (hk : u.ok) (h : Ua g u w) : Calls Try.prog 55 #[.pointer (some ⟨g, 0, none⟩), .int .i64 n] w fun e w' => e = .returned (.bool (u.back n)) ∧ Ua g (u.idle n) w' ∧ Two g g w w' := by
  have HO := off_any h
  have HR := reset_any h
  obtain ⟨c0, c1, c2, hf⟩ := h.cells
  have f2 := hf 2
  obtain ⟨k1, k2, k3⟩ := hk
  obtain ⟨n1, n2⟩ := hn
  unfold Un.off at HO
  unfold Un.back
  by_cases h1 : 255 < u.s
  · rw [show decide (255 < u.s) = true by simpa using h1] at HO ⊢
    by_cases h2 : 128 - (u.k : Int) ≤ n
    · have HU : Hid (u.idle n = Un.nul) := by show _ = _; unfold Un.idle; rw [if_pos h1, if_pos h2]
      rw [show decide (128 - (u.k : Int) ≤ n) = true by simpa using h2]
      generalize u.idle n = U at *
      clear h1
      have hm : ¬ n < 0 := by omega
      have hd : decide (n < 128 - (u.k : Int)) = false := by simp; omega
      go_enter Try.func55, Try.ntmps55
      go_wp2_with (first | (go_at_call 82; refine HO.mono ?_; rintro e w' ⟨rfl, rfl⟩) | (go_at_call 52; refine HR.mono ?_; rintro e w' ⟨rfl, R1, R2⟩))
      go_ret
      exact ⟨rfl, by rw [HU.out]; exact R1, R2⟩
    · have HU : Hid (u.idle n = ⟨u.s, u.r, u.k + n.toNat⟩) := by show _ = _; unfold Un.idle; rw [if_pos h1, if_neg h2]
      rw [show decide (128 - (u.k : Int) ≤ n) = false by simpa using h2]
      have HH : Hid (∀ z : Int, z = ((u.k + n.toNat : Nat) : Int) → Ua g (u.idle n) (w.setCell ⟨g, 2, none⟩ (.int .i64 z))) := by
        intro z hz
        rw [hz, HU.out]
        exact h.set2 _
      generalize u.idle n = U at *
      clear h1 HR h
      by_cases hm : n < 0
      · have hd : decide ((0 : Int) < 128 - (u.k : Int)) = true := by simp; omega
        go_enter Try.func55, Try.ntmps55
        go_wp2_with (first | (go_at_call 82; refine HO.mono ?_; rintro e w' ⟨rfl, rfl⟩))
        go_ret
        exact ⟨rfl, HH.out _ (by omega), (Two.refl _ _ _).at0 _ _⟩
      · have hd : decide (n < 128 - (u.k : Int)) = true := by simp; omega
        go_enter Try.func55, Try.ntmps55
        go_wp2_with (first | (go_at_call 82; refine HO.mono ?_; rintro e w' ⟨rfl, rfl⟩))
        go_ret
        exact ⟨rfl, HH.out _ (by omega), (Two.refl _ _ _).at0 _ _⟩
  · rw [show decide (255 < u.s) = false by simpa using h1] at HO ⊢
    have HU : Hid (u.idle n = u) := by show _ = _; unfold Un.idle; rw [if_neg h1]
    generalize u.idle n = U at *
    clear h1 HR
    go_enter Try.func55, Try.ntmps55
    go_wp2_with (go_at_call 82; refine HO.mono ?_; rintro e w' ⟨rfl, rfl⟩)
    go_ret
    exact ⟨rfl, by rw [HU.out]; exact h, Two.refl _ _ _⟩
end
end Go.Proofs.Ytlghjfomliappaa
namespace Go.Proofs.Ytlghjfomliappaa
open Go.RowKit Go.Proofs.Bits
set_option linter.unusedVariables false
set_option maxRecDepth 1000000

/-- Whose block it is. -/
inductive Ro where
  | no
  | bus
  | nodes
  | unit (i : Nat)
  | got (i : Nat)
structure Nd where
  pw : Bool
  u : Un
  f : Fr
  has : Bool
  got : List Fr
def Nd.nul : Nd := ⟨false, Un.nul, Fr.nul, false, []⟩
def Nd.cells (n : Nd) (g : Nat) (v : Value) : List Value := .bool n.pw :: .pointer (some ⟨g, 0, none⟩) :: (n.f.cells ++ [.bool n.has, v])
theorem Nd.len (n : Nd) (g : Nat) (v : Value) : (n.cells g v).length = 16 := by simp [Nd.cells, Fr.cells, n.f.hdata]
theorem frc_len (f : Fr) : f.cells.length = 12 := by simp [Fr.cells, f.hdata]
/-- A node's cells, one by one. -/
theorem range_node {w : World} {nb o g : Nat} {n : Nd} {v : Value} : w.rangeAt nb o (n.cells g v) ↔ w.cell? ⟨nb, o, none⟩ = some (.bool n.pw) ∧ w.cell? ⟨nb, o + 1, none⟩ = some (.pointer (some ⟨g, 0, none⟩)) ∧ w.rangeAt nb (o + 2) n.f.cells ∧ w.cell? ⟨nb, o + 14, none⟩ = some (.bool n.has) ∧ w.cell? ⟨nb, o + 15, none⟩ = some v := by
  have hl := frc_len n.f
  constructor
  · intro h
    refine ⟨h 0 _ rfl, h 1 _ rfl, fun j u hj => ?_, h 14 _ ?_, h 15 _ ?_⟩
    · have hjl := (List.getElem?_eq_some_iff.1 hj).1
      have := h (j + 2) u (by
        show (n.f.cells ++ _)[j]? = _
        rw [List.getElem?_append_left hjl]; exact hj)
      rw [show o + (j + 2) = o + 2 + j by omega] at this
      exact this
    · show (n.f.cells ++ _)[12]? = _
      rw [List.getElem?_append_right (by omega), hl]; rfl
    · show (n.f.cells ++ _)[13]? = _
      rw [List.getElem?_append_right (by omega), hl]; rfl
  · rintro ⟨h0, h1, h2, h3, h4⟩ j u hj
    have hjl := (List.getElem?_eq_some_iff.1 hj).1
    rw [Nd.len] at hjl
    match j, hjl, hj with
    | 0, _, hj => cases hj; exact h0
    | 1, _, hj => cases hj; exact h1
    | j + 2, hjl, hj =>
      have hj' : (n.f.cells ++ [.bool n.has, v])[j]? = some u := hj
      by_cases hj12 : j < 12
      · rw [List.getElem?_append_left (by omega)] at hj'
        have := h2 j u hj'
        rw [show o + (j + 2) = o + 2 + j by omega]; exact this
      · rw [List.getElem?_append_right (by omega), hl] at hj'
        rcases (by omega : j = 12 ∨ j = 13) with rfl | rfl
        · cases hj'; exact h3
        · cases hj'; exact h4
structure BusM (b nb : Nat) (ρ : Nat → Ro) (t : Int) (l : List Nd) (G : Nat → Nat) (V : Nat → Value) (w : World) : Prop where
  hb : w.heap[b]? = some (.cells #[sl nb l.length, .int .u64 t] 76 (0, 0))
  hn : ∀ i (h : i < l.length), w.rangeAt nb (i * 16) (l[i].cells (G i) (V i))
  ht : w.there nb 0 (l.length * 16)
  hu : ∀ i (h : i < l.length), Ua (G i) l[i].u w
  hg : ∀ i (h : i < l.length), w.ownsRow 0 38 12 (V i) l[i].got.length (flatW DF l[i].got)
  rb : ρ b = .bus
  rn : ρ nb = .nodes
  ru : ∀ i, i < l.length → ρ (G i) = .unit i
  rg : ∀ i, i < l.length → ∀ k, (V i).ownBlock = some k → ρ k = .got i
  rz : ∀ k, w.heap.size ≤ k → ρ k = .no
def BusAt (b nb : Nat) (ρ : Nat → Ro) (t : Int) (l : List Nd) (w : World) : Prop := ∃ G V, BusM b nb ρ t l G V w
/-- What a call on a bus changes. -/
structure Ext (ρ ρ' : Nat → Ro) (w w' : World) : Prop where
  os : w'.os = w.os
  tape : w'.tape = w.tape
  output : w'.output = w.output
  size : w.heap.size ≤ w'.heap.size
  keep : ∀ k, k < w.heap.size → ρ k = .no → w'.heap[k]? = w.heap[k]?
  same : ∀ k, k < w.heap.size → ρ' k = ρ k
theorem Ext.refl (ρ : Nat → Ro) (w : World) : Ext ρ ρ w w := ⟨rfl, rfl, rfl, Nat.le_refl _, fun _ _ _ => rfl, fun _ _ => rfl⟩
theorem Ext.trans {ρ ρ' ρ'' : Nat → Ro} {w w' w'' : World} (h : Ext ρ ρ' w w') (h' : Ext ρ' ρ'' w' w'') : Ext ρ ρ'' w w'' :=
  ⟨h'.os.trans h.os, h'.tape.trans h.tape, h'.output.trans h.output, Nat.le_trans h.size h'.size, fun k hk hr => (h'.keep k (Nat.lt_of_lt_of_le hk h.size) ((h.same k hk).trans hr)).trans (h.keep k hk hr), fun k hk => (h'.same k (Nat.lt_of_lt_of_le hk h.size)).trans (h.same k hk)⟩
theorem Ext.below {ρ : Nat → Ro} {w w' : World} (hb : Below w.heap.size w w') : Ext ρ ρ w w' := ⟨hb.os, hb.tape, hb.output, hb.size, fun k hk _ => hb.block k hk, fun _ _ => rfl⟩
theorem Ext.drawn {ρ : Nat → Ro} {w : World} (n : Nat) : Ext ρ ρ w (w.drewN n) := Ext.below (below_drawn (Below.refl _ _) n)
theorem Ext.toBelow {ρ ρ' : Nat → Ro} {w w' : World} (h : Ext ρ ρ' w w') {B : Nat} (hB : B ≤ w.heap.size) (hr : ∀ k, k < B → ρ k = .no) : Below B w w' :=
  ⟨h.os, h.tape, h.output, h.size, fun k hk => h.keep k (by omega) (hr k hk)⟩
section
variable {b nb : Nat} {ρ : Nat → Ro} {t : Int} {l : List Nd} {G : Nat → Nat} {V : Nat → Value} {w : World}
theorem BusM.lt (h : BusM b nb ρ t l G V w) {k : Nat} (hk : ρ k ≠ .no) : k < w.heap.size := Nat.lt_of_not_le fun hge => hk (h.rz k hge)
theorem BusM.lt_b (h : BusM b nb ρ t l G V w) : b < w.heap.size := h.lt (by rw [h.rb]; simp)
theorem BusM.lt_n (h : BusM b nb ρ t l G V w) : nb < w.heap.size := h.lt (by rw [h.rn]; simp)
theorem BusM.lt_u (h : BusM b nb ρ t l G V w) {i : Nat} (hi : i < l.length) : G i < w.heap.size := h.lt (by rw [h.ru i hi]; simp)
theorem BusM.b_n (h : BusM b nb ρ t l G V w) : b ≠ nb := fun e => by have := h.rb; rw [e, h.rn] at this; cases this
theorem BusM.b_u (h : BusM b nb ρ t l G V w) {i : Nat} (hi : i < l.length) : b ≠ G i := fun e => by have := h.rb; rw [e, h.ru i hi] at this; cases this
theorem BusM.n_u (h : BusM b nb ρ t l G V w) {i : Nat} (hi : i < l.length) : nb ≠ G i := fun e => by have := h.rn; rw [e, h.ru i hi] at this; cases this
theorem BusM.u_u (h : BusM b nb ρ t l G V w) {i j : Nat} (hi : i < l.length) (hj : j < l.length) (hne : i ≠ j) : G i ≠ G j := fun e => by have := h.ru i hi; rw [e, h.ru j hj] at this; cases this; exact hne rfl
theorem BusM.b_g (h : BusM b nb ρ t l G V w) {i : Nat} (hi : i < l.length) : (V i).ownBlock ≠ some b := fun e => by have := h.rg i hi b e; rw [h.rb] at this; cases this
theorem BusM.n_g (h : BusM b nb ρ t l G V w) {i : Nat} (hi : i < l.length) : (V i).ownBlock ≠ some nb := fun e => by have := h.rg i hi nb e; rw [h.rn] at this; cases this
theorem BusM.u_g (h : BusM b nb ρ t l G V w) {i j : Nat} (hi : i < l.length) (hj : j < l.length) : (V i).ownBlock ≠ some (G j) := fun e => by have := h.rg i hi (G j) e; rw [h.ru j hj] at this; cases this
theorem BusM.g_g (h : BusM b nb ρ t l G V w) {i j k : Nat} (hi : i < l.length) (hj : j < l.length) (hne : i ≠ j) (hk : (V i).ownBlock = some k) : (V j).ownBlock ≠ some k := fun e => by have := h.rg i hi k hk; rw [h.rg j hj k e] at this; cases this; exact hne rfl
theorem range_kept {w w' : World} {b o : Nat} {cs : List Value} (h : w.rangeAt b o cs) (hk : w'.heap[b]? = w.heap[b]?) : w'.rangeAt b o cs := fun j v hv => (World.cell?_of_block (a := ⟨b, o + j, none⟩) hk).trans (h j v hv)
theorem there_kept {w w' : World} {b o n : Nat} (h : w.there b o n) (hk : w'.heap[b]? = w.heap[b]?) : w'.there b o n := fun j hj => ⟨by rw [World.cell?_of_block (a := ⟨b, o + j, none⟩) hk]; exact (h j hj).1, by rw [World.frozen?_of_block (a := ⟨b, o + j, none⟩) hk]; exact (h j hj).2⟩
/-- Its own blocks stand. -/
theorem BusM.kept (h : BusM b nb ρ t l G V w) {w' : World} (hs : w.heap.size ≤ w'.heap.size) (hk : ∀ k, k < w.heap.size → ρ k ≠ .no → w'.heap[k]? = w.heap[k]?) : BusM b nb ρ t l G V w' := by
  have kb := hk b h.lt_b (by rw [h.rb]; simp)
  have kn := hk nb h.lt_n (by rw [h.rn]; simp)
  exact { h with
    hb := kb.trans h.hb
    hn := fun i hi => range_kept (h.hn i hi) kn
    ht := there_kept h.ht kn
    hu := fun i hi => (hk _ (h.lt_u hi) (by rw [h.ru i hi]; simp)).trans (h.hu i hi)
    hg := fun i hi => own_at (h.hg i hi) fun g hgv => hk g (own_block_lt (h.hg i hi) hgv).2.1 (by rw [h.rg i hi g hgv]; simp)
    rz := fun k hk' => h.rz k (Nat.le_trans hs hk') }
theorem BusAt.kept (h : BusAt b nb ρ t l w) {w' : World} (hs : w.heap.size ≤ w'.heap.size) (hk : ∀ k, k < w.heap.size → ρ k ≠ .no → w'.heap[k]? = w.heap[k]?) : BusAt b nb ρ t l w' := by
  obtain ⟨G, V, h⟩ := h
  exact ⟨G, V, h.kept hs hk⟩
theorem BusM.below (h : BusM b nb ρ t l G V w) {w' : World} (hb : Below w.heap.size w w') : BusM b nb ρ t l G V w' := h.kept hb.size fun k hk _ => hb.block k hk
theorem BusAt.below (h : BusAt b nb ρ t l w) {w' : World} (hb : Below w.heap.size w w') : BusAt b nb ρ t l w' := h.kept hb.size fun k hk _ => hb.block k hk
/-- One node is another one. -/
theorem BusM.upd (h : BusM b nb ρ t l G V w) {i : Nat} (hi : i < l.length) (n' : Nd) (v' : Value) (ρ' : Nat → Ro) (w' : World) (hsz : w.heap.size ≤ w'.heap.size)
    (hblk : ∀ k, k < w.heap.size → k ≠ nb → k ≠ G i → (V i).ownBlock ≠ some k → w'.heap[k]? = w.heap[k]?)
    (hcell : ∀ o, (o < i * 16 ∨ i * 16 + 16 ≤ o) → w'.cell? ⟨nb, o, none⟩ = w.cell? ⟨nb, o, none⟩)
    (hthere : w'.there nb 0 (l.length * 16)) (hnew : w'.rangeAt nb (i * 16) (n'.cells (G i) v')) (hu' : Ua (G i) n'.u w')
    (hg' : w'.ownsRow 0 38 12 v' n'.got.length (flatW DF n'.got)) (hρ : ∀ k, k < w.heap.size → ρ' k = ρ k) (hρg : ∀ k, v'.ownBlock = some k → ρ' k = .got i) (hρz : ∀ k, w'.heap.size ≤ k → ρ' k = .no) :
    BusM b nb ρ' t (l.set i n') G (fun j => if j = i then v' else V j) w' := by
  have e1 : ∀ j, (hj : j < (l.set i n').length) → (l.set i n')[j] = if i = j then n' else l[j]'(by simpa using hj) := fun j hj => by rw [List.getElem_set]
  have len : (l.set i n').length = l.length := by simp
  constructor
  · rw [len, hblk b h.lt_b h.b_n (h.b_u hi) (h.b_g hi)]; exact h.hb
  · intro j hj
    rw [e1 j hj]
    by_cases e : i = j
    · subst e; simp only [if_true]; exact hnew
    · rw [if_neg e, if_neg (fun x => e x.symm)]
      rw [len] at hj
      intro o v hv
      have ho := (List.getElem?_eq_some_iff.1 hv).1
      rw [Nd.len] at ho
      rw [hcell _ (by omega)]
      exact h.hn j hj o v hv
  · rw [len]; exact hthere
  · intro j hj
    rw [e1 j hj]
    by_cases e : i = j
    · subst e; simp only [if_true]; exact hu'
    · rw [if_neg e]
      rw [len] at hj
      exact (hblk _ (h.lt_u hj) (h.n_u hj).symm (h.u_u hj hi (fun x => e x.symm)) (h.u_g hi hj)).trans (h.hu j hj)
  · intro j hj
    rw [e1 j hj]
    by_cases e : i = j
    · subst e; simp only [if_true]; exact hg'
    · rw [if_neg e, if_neg (fun x => e x.symm)]
      rw [len] at hj
      exact own_at (h.hg j hj) fun g hgv => hblk g (own_block_lt (h.hg j hj) hgv).2.1 (fun x => h.n_g hj (by rw [hgv, x])) (fun x => h.u_g hj hi (by rw [hgv, x])) (h.g_g hj hi (fun x => e x.symm) hgv)
  · rw [hρ b h.lt_b]; exact h.rb
  · rw [hρ nb h.lt_n]; exact h.rn
  · intro j hj
    rw [len] at hj
    rw [hρ _ (h.lt_u hj)]; exact h.ru j hj
  · intro j hj k hk
    rw [len] at hj
    by_cases e : j = i
    · subst e; simp only [if_true] at hk; exact hρg k hk
    · rw [if_neg e] at hk
      rw [hρ k (own_block_lt (h.hg j hj) hk).2.1]; exact h.rg j hj k hk
  · exact hρz
/-- A node's unit is another one. -/
theorem BusM.unit (h : BusM b nb ρ t l G V w) {i : Nat} (hi : i < l.length) {u' : Un} {w' : World} (hu' : Ua (G i) u' w') (h2 : Two (G i) (G i) w w') : BusAt b nb ρ t (l.set i { l[i] with u := u' }) w' ∧ Ext ρ ρ w w' := by
  have kn := h2.block nb h.lt_n (h.n_u hi) (h.n_u hi)
  refine ⟨⟨G, _, h.upd hi { l[i] with u := u' } (V i) ρ w' h2.size (fun k hk _ h3 _ => h2.block k hk h3 h3) (fun o _ => World.cell?_of_block (a := ⟨nb, o, none⟩) kn) (there_kept h.ht kn) ?_ hu' ?_ (fun _ _ => rfl) (h.rg i hi) (fun k hk => h.rz k (Nat.le_trans h2.size hk))⟩, h2.os, h2.tape, h2.output, h2.size, fun k hk hr => h2.block k hk (fun e => ?_) (fun e => ?_), fun _ _ => rfl⟩
  · exact range_kept (h.hn i hi) kn
  · exact own_at (h.hg i hi) fun g hgv => h2.block g (own_block_lt (h.hg i hi) hgv).2.1 (fun e => h.u_g hi hi (by rw [hgv, e])) (fun e => h.u_g hi hi (by rw [hgv, e]))
  · rw [e, h.ru i hi] at hr; cases hr
  · rw [e, h.ru i hi] at hr; cases hr
/-- A node's own cells are others; its unit stands. -/
theorem BusM.put (h : BusM b nb ρ t l G V w) {i : Nat} (hi : i < l.length) (n' : Nd) (v' : Value) {w' : World} (hu : n'.u = l[i].u) (hos : w'.os = w.os) (htp : w'.tape = w.tape) (hot : w'.output = w.output) (hsz : w'.heap.size = w.heap.size) (hblk : ∀ k, k ≠ nb → w'.heap[k]? = w.heap[k]?)
    (hcell : ∀ o, (o < i * 16 ∨ i * 16 + 16 ≤ o) → w'.cell? ⟨nb, o, none⟩ = w.cell? ⟨nb, o, none⟩) (hthere : w'.there nb 0 (l.length * 16)) (hnew : w'.rangeAt nb (i * 16) (n'.cells (G i) v'))
    (hv : (v' = V i ∧ n'.got = l[i].got) ∨ (v' = .slice none 0 0 ∧ n'.got = [])) : BusAt b nb ρ t (l.set i n') w' ∧ Ext ρ ρ w w' := by
  refine ⟨⟨G, _, h.upd hi n' v' ρ w' (by omega) (fun k hk h1 _ _ => hblk k h1) hcell hthere hnew ?_ ?_ (fun _ _ => rfl) ?_ (fun k hk => h.rz k (by omega))⟩, hos, htp, hot, by omega, fun k hk hr => hblk k (fun e => ?_), fun _ _ => rfl⟩
  · rw [hu]; exact (hblk _ (h.n_u hi).symm).trans (h.hu i hi)
  · rcases hv with ⟨rfl, h2⟩ | ⟨rfl, h2⟩
    · rw [h2]; exact own_at (h.hg i hi) fun g hgv => hblk g (fun e => h.n_g hi (by rw [hgv, e]))
    · rw [h2]; exact World.ownsRow_nil _ _ _ _
  · rcases hv with ⟨rfl, h2⟩ | ⟨rfl, h2⟩
    · exact h.rg i hi
    · intro k hk; cases hk
  · rw [e, h.rn] at hr; cases hr
end
end Go.Proofs.Ytlghjfomliappaa
namespace Go.Proofs.Ytlghjfomliappaa
open Go.RowKit Go.Proofs.Bits
set_option linter.unusedVariables false
set_option maxRecDepth 1000000

theorem state_off (u : Un) : (u.state == 2) = u.off := by
  unfold Un.state Un.off
  by_cases h : 255 < u.s
  · rw [if_pos h]; simp [h]
  · rw [if_neg h]
    have : decide (255 < u.s) = false := by simpa using h
    rw [this]
    split <;> rfl
theorem noff_any {q o g : Nat} {u : Un} {w : World} (hc : w.cell? ⟨q, o + 1, none⟩ = some (.pointer (some ⟨g, 0, none⟩))) (hu : Ua g u w) :
    Calls Try.prog 53 #[.pointer (some ⟨q, o, none⟩)] w fun e w' => e = .returned (.bool u.off) ∧ ∃ n, w' = w.drewN n := by
  have HS := state_any hu
  have HE : Hid ((u.state == 2) = u.off) := state_off u
  generalize u.off = V at *
  generalize u.state = S at *
  go_enter Try.func53, Try.ntmps53
  go_wp2_with fail
  refine HS.mono ?_
  rintro e w' ⟨rfl, n, rfl⟩
  go_wp2
  go_ret
  exact ⟨ret_bool HE.out, n, rfl⟩
theorem takesPart_any {q o g : Nat} {u : Un} {pw : Bool} {w : World} (h0 : w.cell? ⟨q, o, none⟩ = some (.bool pw)) (hc : w.cell? ⟨q, o + 1, none⟩ = some (.pointer (some ⟨g, 0, none⟩))) (hu : Ua g u w) :
    Calls Try.prog 32 #[.pointer (some ⟨q, o, none⟩)] w fun e w' => e = .returned (.bool (pw && !u.off)) ∧ ∃ n, w' = w.drewN n := by
  have HS := noff_any hc hu
  generalize u.off = V at *
  cases pw
  · go_enter Try.func32, Try.ntmps32
    go_wp2
    go_ret
    exact ⟨rfl, 0, rfl⟩
  · go_enter Try.func32, Try.ntmps32
    go_wp2_with fail
    refine HS.mono ?_
    rintro e w' ⟨rfl, n, rfl⟩
    go_wp2
    go_ret
    exact ⟨ret_bool (by simp), n, rfl⟩
section
variable {b nb : Nat} {ρ : Nat → Ro} {t : Int} {l : List Nd} {G : Nat → Nat} {V : Nat → Value} {w : World}
theorem cell_setCells_other (w : World) (nb o : Nat) (vs : List Value) (q : Nat) (h : q < o ∨ o + vs.length ≤ q) : (w.setCells nb o vs).cell? ⟨nb, q, none⟩ = w.cell? ⟨nb, q, none⟩ :=
  World.cell?_setCells_out nb vs o w ⟨nb, q, none⟩ (fun _ _ => h)
theorem setCells_same (b : Nat) : ∀ (vs : List Value) (o : Nat) (w : World), (w.setCells b o vs).os = w.os ∧ (w.setCells b o vs).tape = w.tape ∧ (w.setCells b o vs).output = w.output ∧ (w.setCells b o vs).heap.size = w.heap.size ∧ ∀ k, k ≠ b → (w.setCells b o vs).heap[k]? = w.heap[k]?
  | [], _, _ => ⟨rfl, rfl, rfl, rfl, fun _ _ => rfl⟩
  | v :: r, o, w => by
    rw [World.setCells]
    obtain ⟨h1, h2, h3, h4, h5⟩ := setCells_same b r (o + 1) (w.setCell ⟨b, o, none⟩ v)
    exact ⟨h1, h2, h3, h4.trans (by simp [World.setCell]), fun k hk => (h5 k hk).trans (Below.heap_setCell w ⟨b, o, none⟩ v k hk)⟩
theorem there_setCell {w : World} {b o n : Nat} (h : w.there b o n) (p : Addr) (v : Value) : (w.setCell p v).there b o n := by
  have := World.there_setCells h p.block p.off [v]
  intro j hj
  obtain ⟨h1, h2⟩ := h j hj
  obtain ⟨u, hu⟩ := Option.isSome_iff_exists.1 h1
  refine ⟨?_, by rw [World.frozen?_setCell]; exact h2⟩
  by_cases e : p = ⟨b, o + j, none⟩
  · subst e; rw [World.cell?_setCell_same _ _ _ hu]; rfl
  · rw [World.cell?_setCell_other _ _ _ _ e]; exact h1
theorem there_part {w : World} {b n o m : Nat} (h : w.there b 0 n) (hm : o + m ≤ n) : w.there b o m := fun j hj => by
  have := h (o + j) (by omega)
  rw [Nat.zero_add] at this; exact this
/-- A node's frame, and whether it waits. -/
def FrW (w : World) (nb i : Nat) (f : Fr) (has : Bool) : World := (w.setCells nb (i * 16 + 2) f.arr.toList).setCell ⟨nb, i * 16 + 14, none⟩ (.bool has)
theorem BusM.frm (h : BusM b nb ρ t l G V w) {i : Nat} (hi : i < l.length) (f : Fr) (has : Bool) : BusAt b nb ρ t (l.set i { l[i] with f := f, has := has }) (FrW w nb i f has) ∧ Ext ρ ρ w (FrW w nb i f has) := by
  obtain ⟨s1, s2, s3, s4, s5⟩ := setCells_same nb f.arr.toList (i * 16 + 2) w
  have hl : f.arr.toList.length = 12 := by simp [f.arr_size]
  obtain ⟨c0, c1, c2, c3, c4⟩ := range_node.1 (h.hn i hi)
  have htp := there_part (o := i * 16 + 2) (m := f.arr.toList.length) h.ht (by omega)
  have r1 := World.rangeAt_setCells_same w nb (i * 16 + 2) f.arr.toList htp
  have ht1 := World.there_setCells h.ht nb (i * 16 + 2) f.arr.toList
  have out : ∀ q, (q < i * 16 + 2 ∨ i * 16 + 14 ≤ q) → (w.setCells nb (i * 16 + 2) f.arr.toList).cell? ⟨nb, q, none⟩ = w.cell? ⟨nb, q, none⟩ := fun q hq => cell_setCells_other w nb _ _ q (by omega)
  have out2 : ∀ q, q ≠ i * 16 + 14 → (FrW w nb i f has).cell? ⟨nb, q, none⟩ = (w.setCells nb (i * 16 + 2) f.arr.toList).cell? ⟨nb, q, none⟩ := fun q hq => World.cell?_setCell_other _ _ _ _ (by intro e; injection e with _ e2; exact hq e2.symm)
  refine h.put hi { l[i] with f := f, has := has } (V i) rfl s1 s2 s3 ?_ (fun k hk => ?_) (fun o ho => ?_) (there_setCell ht1 _ _) (range_node.2 ⟨?_, ?_, ?_, ?_, ?_⟩) (.inl ⟨rfl, rfl⟩)
  · unfold FrW; simp [World.setCell, s4]
  · exact (Below.heap_setCell _ _ _ _ hk).trans (s5 k hk)
  · rw [out2 o (by omega), out o (by omega)]
  · rw [out2 _ (by omega), out _ (by omega)]; exact c0
  · rw [out2 _ (by omega), out _ (by omega)]; exact c1
  · intro j u hj
    have hjl : j < 12 := by have := (List.getElem?_eq_some_iff.1 hj).1; rw [frc_len] at this; exact this
    rw [out2 _ (by omega)]
    exact r1 j u (by simpa [Fr.arr] using hj)
  · exact World.cell?_setCell_same _ _ _ ((out _ (by omega)).trans c3)
  · rw [out2 _ (by omega), out _ (by omega)]; exact c4
/-- The store of a frame into a node, in the walk. -/
theorem BusM.stf {ops : Array Oper} {rest : List Oper} {o : Oper} {a : Act} {Q : Exit → Act → World → Prop} (h : BusM b nb ρ t l G V w) {i : Nat} (hi : i < l.length) (f : Fr) (hgd : o.guard = none) (x y : Operand) (ho : o.op = .store 38 x y) (hx : a.eval x = .pointer (some ⟨nb, i * 16 + 2, none⟩)) (hy : a.eval y = .agg f.arr)
    (hh : wpList Try.prog ops Q rest (a.put o.dst undef) (w.setCells nb (i * 16 + 2) f.arr.toList)) : wpList Try.prog ops Q (o :: rest) a w :=
  wpList_store_mid hgd 38 x y ho nb (i * 16 + 2) f.arr hx hy (there_part h.ht (by rw [f.arr_size]; omega)) (by rw [infoF, f.arr_size]) f.one hh
/-- What the walk wants to know of the node's mark behind it. -/
theorem BusM.mark (h : BusM b nb ρ t l G V w) {i : Nat} (hi : i < l.length) (f : Fr) : (w.setCells nb (i * 16 + 2) f.arr.toList).cell? ⟨nb, i * 16 + 14, none⟩ = some (.bool l[i].has) ∧ (w.setCells nb (i * 16 + 2) f.arr.toList).frozen? ⟨nb, i * 16 + 14, none⟩ = false := by
  have hl : f.arr.toList.length = 12 := by simp [f.arr_size]
  obtain ⟨c0, c1, c2, c3, c4⟩ := range_node.1 (h.hn i hi)
  refine ⟨(cell_setCells_other w nb _ _ _ (by omega)).trans c3, ?_⟩
  rw [World.frozen?_setCells]
  have := (h.ht (i * 16 + 14) (by omega)).2
  rw [Nat.zero_add] at this; exact this
set_option maxHeartbeats 1000000 in
theorem drop_any (h : BusM b nb ρ t l G V w) {i : Nat} (hi : i < l.length) :
    Calls Try.prog 56 #[.pointer (some ⟨nb, i * 16, none⟩)] w fun e w' => e = .returned (.tuple #[]) ∧ BusAt b nb ρ t (l.set i { l[i] with f := Fr.nul, has := false }) w' ∧ Ext ρ ρ w w' := by
  obtain ⟨f, hf⟩ : ∃ f, f = Fr.nul := ⟨_, rfl⟩
  have HY : Hid (Value.agg #[.int .u32 0, .bool false, .bool false, .int .i64 0, .int .u8 0, .int .u8 0, .int .u8 0, .int .u8 0, .int .u8 0, .int .u8 0, .int .u8 0, .int .u8 0] = .agg f.arr) := by subst hf; rfl
  rw [← hf]
  clear hf
  have HE : Hid (BusAt b nb ρ t (l.set i { l[i] with f := f, has := false }) (FrW w nb i f false) ∧ Ext ρ ρ w (FrW w nb i f false)) := h.frm hi f false
  obtain ⟨m1, m2⟩ := h.mark hi f
  go_enter Try.func56, Try.ntmps56
  go_wp2_with (refine h.stf hi f rfl _ _ rfl rfl (by exact HY.out) ?_)
  go_end0
  exact ⟨rfl, HE.out⟩
theorem infoNd : (Try.prog.info? 80).map (·.size) = some 16 := by kernel_rfl
/-- The store of a whole node. -/
theorem BusM.stn {ops : Array Oper} {rest : List Oper} {o : Oper} {a : Act} {Q : Exit → Act → World → Prop} (h : BusM b nb ρ t l G V w) {i : Nat} (hi : i < l.length) (on : Bool) (hgd : o.guard = none) (x y : Operand) (ho : o.op = .store 80 x y) (hx : a.eval x = .pointer (some ⟨nb, i * 16, none⟩)) (hy : a.eval y = .agg (({ Nd.nul with pw := on } : Nd).cells (G i) nilV).toArray)
    (hh : wpList Try.prog ops Q rest (a.put o.dst undef) (w.setCells nb (i * 16) (({ Nd.nul with pw := on } : Nd).cells (G i) nilV))) : wpList Try.prog ops Q (o :: rest) a w := by
  refine wpList_store_mid hgd 80 x y ho nb (i * 16) _ hx hy (there_part h.ht (by rw [List.size_toArray, Nd.len]; omega)) (by rw [infoNd, List.size_toArray, Nd.len]) (all_oneCell_toArray ?_) (by simpa using hh)
  intro v hv
  simp [Nd.cells, Nd.nul, Fr.cells, Fr.nul] at hv
  rcases hv with rfl | rfl | rfl | rfl | rfl | rfl | rfl | rfl <;> rfl
theorem BusM.fresh (h : BusM b nb ρ t l G V w) {i : Nat} (hi : i < l.length) (on : Bool) : BusAt b nb ρ t (l.set i { Nd.nul with pw := on, u := l[i].u }) (w.setCells nb (i * 16) (({ Nd.nul with pw := on } : Nd).cells (G i) nilV)) ∧ Ext ρ ρ w (w.setCells nb (i * 16) (({ Nd.nul with pw := on } : Nd).cells (G i) nilV)) := by
  obtain ⟨s1, s2, s3, s4, s5⟩ := setCells_same nb (({ Nd.nul with pw := on } : Nd).cells (G i) nilV) (i * 16) w
  refine h.put hi { Nd.nul with pw := on, u := l[i].u } nilV rfl s1 s2 s3 s4 s5 (fun o ho => cell_setCells_other w nb _ _ o (by rw [Nd.len]; omega)) (World.there_setCells h.ht nb _ _) ?_ (.inr ⟨rfl, rfl⟩)
  have := World.rangeAt_setCells_same w nb (i * 16) (({ Nd.nul with pw := on } : Nd).cells (G i) nilV) (there_part h.ht (by rw [Nd.len]; omega))
  exact this
theorem turn_any (h : BusM b nb ρ t l G V w) {i : Nat} (hi : i < l.length) (on : Bool) :
    Calls Try.prog 30 #[.pointer (some ⟨nb, i * 16, none⟩), .bool on] w fun e w' => e = .returned (.tuple #[]) ∧ BusAt b nb ρ t (l.set i { Nd.nul with pw := on }) w' ∧ Ext ρ ρ w w' := by
  have HS := reset_any (h.hu i hi)
  obtain ⟨c0, c1, c2, c3, c4⟩ := range_node.1 (h.hn i hi)
  go_enter Try.func30, Try.ntmps30
  go_wp2_with fail
  refine HS.mono ?_
  rintro e w1 ⟨rfl, u1, t1⟩
  obtain ⟨⟨G1, V1, h1⟩, x1⟩ := h.unit hi u1 t1
  have hi1 : i < (l.set i { l[i] with u := Un.nul }).length := by simpa using hi
  obtain ⟨d0, d1, d2, d3, d4⟩ := range_node.1 (h1.hn i hi1)
  obtain ⟨y1, y2⟩ := h1.fresh hi1 on
  have HE : Hid (BusAt b nb ρ t (l.set i { Nd.nul with pw := on }) (w1.setCells nb (i * 16) (({ Nd.nul with pw := on } : Nd).cells (G1 i) nilV)) ∧ Ext ρ ρ w (w1.setCells nb (i * 16) (({ Nd.nul with pw := on } : Nd).cells (G1 i) nilV))) := by
    refine ⟨?_, x1.trans y2⟩
    simpa [List.getElem_set, Nd.nul] using y1
  clear HS u1 t1 y1 y2 c0 c1 c2 c3 c4
  go_wp2_with (refine h1.stn hi1 on rfl _ _ rfl rfl rfl ?_)
  go_end0
  exact ⟨rfl, HE.out⟩
end
end Go.Proofs.Ytlghjfomliappaa
