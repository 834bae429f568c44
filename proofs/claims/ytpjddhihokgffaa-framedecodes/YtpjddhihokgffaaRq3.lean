/- Contracts of the document's own reader: head. -/
import Derived.Test.YtpjddhihokgffaaMathH
namespace Go.Proofs.Ytpjddhihokgffaa
open Go.RowKit Go.Proofs.Bits
set_option linter.unusedVariables false
set_option maxRecDepth 1000000

section
variable {t : List UInt8} {x : Except Flt RS} {g q : Nat} {w w0 w' : World} {f : Fr}
def whyOf (x : Except Flt RS) : Int := match x with
  | .ok _ => 0
  | .error f => f.2
theorem QS.c4 (h : QS t x g w) : w.cell? ⟨g, 4, none⟩ = some (.int .i64 (whyOf x)) := by
  cases x with
  | ok s => exact h.1.cells.2.2.2.2.1
  | error f => obtain ⟨_, r, b, h⟩ := h; exact h.cells.2.2.2.2.1
/-- A reader in block g, a frame in block q, both behind w0. -/
def Ds (t : List UInt8) (x : Except Flt RS) (g q : Nat) (f : Fr) (w0 w : World) : Prop := QS t x g w ∧ Fa q f w ∧ q ≠ g ∧ w0.heap.size ≤ g ∧ w0.heap.size ≤ q ∧ Below w0.heap.size w0 w
theorem QS.other (h : QS t x g w) (hq : g ≠ q) (i : Nat) (v : Value) : QS t x g (w.setCell ⟨q, i, none⟩ v) := by
  have e : (w.setCell ⟨q, i, none⟩ v).heap[g]? = w.heap[g]? := Below.heap_setCell w ⟨q, i, none⟩ v g (by simpa using hq)
  cases x with
  | ok s => exact ⟨e.trans h.1, h.2⟩
  | error f => obtain ⟨h0, r, b, h⟩ := h; exact ⟨h0, r, b, e.trans h⟩
theorem QS.drawn (h : QS t x g w) (n : Nat) : QS t x g (w.drewN n) := by
  cases x with
  | ok s => exact h
  | error f => exact h
theorem Ds.drawn (h : Ds t x g q f w0 w) (n : Nat) : Ds t x g q f w0 (w.drewN n) := ⟨h.1.drawn n, h.2.1, h.2.2.1, h.2.2.2.1, h.2.2.2.2.1, ⟨h.2.2.2.2.2.os, h.2.2.2.2.2.tape, h.2.2.2.2.2.output, h.2.2.2.2.2.size, h.2.2.2.2.2.block⟩⟩
theorem Ds.put {i : Nat} {v : Value} {f' : Fr} (h : Ds t x g q f w0 w) (hf : Fa q f' (w.setCell ⟨q, i, none⟩ v)) : Ds t x g q f' w0 (w.setCell ⟨q, i, none⟩ v) := by
  obtain ⟨h1, h2, h3, h4, h5, h6⟩ := h
  exact ⟨h1.other (fun e => h3 e.symm) i v, hf, h3, h4, h5, h6.setCell (p := ⟨q, i, none⟩) (by simpa using h5) v⟩
theorem Ds.setId (h : Ds t x g q f w0 w) (n : Nat) (hn : n < 4294967296) : Ds t x g q (f.setId n hn) w0 (w.setCell ⟨q, 0, none⟩ (.int .u32 n)) := h.put (h.2.1.setId n hn)
theorem Ds.setExt (h : Ds t x g q f w0 w) (b : Bool) : Ds t x g q (f.setExt b) w0 (w.setCell ⟨q, 1, none⟩ (.bool b)) := h.put (h.2.1.setExt b)
theorem Ds.setRem (h : Ds t x g q f w0 w) (b : Bool) : Ds t x g q (f.setRem b) w0 (w.setCell ⟨q, 2, none⟩ (.bool b)) := h.put (h.2.1.setRem b)
theorem Ds.setLen (h : Ds t x g q f w0 w) (n : Int) (hn : -9223372036854775808 ≤ n ∧ n < 9223372036854775808) : Ds t x g q (f.setLen n hn) w0 (w.setCell ⟨q, 3, none⟩ (.int .i64 n)) := h.put (h.2.1.setLen n hn)
theorem Ds.failed {s : RS} (h : Ds t (.ok s) g q f w0 w) (y : Int) (p : Nat) (hy : y ≠ 0) : Ds t (.error (p, y)) g q f w0 ((w.setCell ⟨g, 4, none⟩ (.int .i64 y)).setCell ⟨g, 1, none⟩ (.int .i64 p)) := by
  obtain ⟨h1, h2, h3, h4, h5, h6⟩ := h
  exact ⟨⟨hy, _, _, (h1.1.y' y).p' p⟩, (h2.other (p := ⟨g, 4, none⟩) h3 _).other (p := ⟨g, 1, none⟩) h3 _, h3, h4, h5, (h6.setCell (p := ⟨g, 4, none⟩) h4 _).setCell (p := ⟨g, 1, none⟩) h4 _⟩
theorem Ds.next {y : Except Flt RS} (h : Ds t x g q f w0 w) (hy : QS t y g w') (hg : w.grownBy w' (some g)) : Ds t y g q f w0 w' := by
  obtain ⟨h1, h2, h3, h4, h5, h6⟩ := h
  exact ⟨hy, (hg.block q h2.lt (fun e => h3 (Option.some.inj e))).trans h2, h3, h4, h5, h6.grown hg (by have := h6.size; omega) (fun k hk => by cases hk; omega)⟩
theorem Ds.take (n : Nat) (hn : n ≤ 18) (ht : t.length ≤ 65536) (hall : t.all isBit = true) (h : Ds t x g q f w0 w) :
    Calls Try.prog 47 #[.pointer (some ⟨g, 0, none⟩), .int .i64 n] w fun e w' => ∃ v : Nat, e = .returned (.int .u64 v) ∧ v < 2 ^ n ∧ Hid (∀ q, onS x (takeL t n) = .ok q → v = val q.1) ∧ Hid (Ds t (tk t x n) g q f w0 w') := by
  refine (rdtake_any n hn ht hall h.1).mono ?_
  rintro e w' ⟨v, rfl, h1, h2, h3, h4⟩
  exact ⟨v, rfl, h1, h2, h.next h3 h4⟩
end
section
variable {t : List UInt8} {g q : Nat} {w w0 : World}
theorem take_first (t : List UInt8) : takeL t 1 Bits.start = match t[0]? with
    | none => .error (0, 3)
    | some b => .ok ([b], ⟨1, b, rowR Bits.start b, [b]⟩) := by
  have hs : skipL t Bits.start = .ok ((), Bits.start) := by simp [skipL, Bits.start]
  have hb : bitL t Bits.start = rawS t Bits.start := bindR_ok hs
  have h0 : takeL t 1 Bits.start = bindR (bitL t) (fun b => retR ([] ++ [b])) Bits.start := rfl
  rw [h0]
  cases ht : t[0]? with
  | none =>
    have h1 : rawS t Bits.start = .error (0, 3) := by unfold rawS; rw [show Bits.start.pos = 0 from rfl, ht]
    rw [bindR_error (hb.trans h1)]
  | some b =>
    have h1 : rawS t Bits.start = .ok (b, ⟨1, b, rowR Bits.start b, [b]⟩) := by unfold rawS; rw [show Bits.start.pos = 0 from rfl, ht]; rfl
    rw [bindR_ok (hb.trans h1)]; rfl
/-- What head leaves. -/
def HdP (t : List UInt8) (g q : Nat) (w0 w' : World) : Prop := ∃ (x : Except Flt RS) (f : Fr), bodyL t Bits.start = onS x (restL t) ∧ Ds t (stOf (onS x (headL t))) g q f w0 w' ∧ ∀ p s', onS x (headL t) = .ok (p, s') → p.1.1 < 4294967296 ∧ p.2 < 16 ∧ f = toldF ⟨p.1.1, p.1.2.1, p.1.2.2, p.2, []⟩
theorem bodyL_first (t : List UInt8) : bodyL t Bits.start = match t[0]? with
    | none => .error (0, 3)
    | some b => if b = 49 then .error (0, 22) else restL t ⟨1, b, rowR Bits.start b, [b]⟩ := by
  have h := take_first t
  cases hb : t[0]? with
  | none =>
    rw [hb] at h
    cases hB : bitL t Bits.start with
    | error f => rw [take1_error hB] at h; cases h; rw [bodyL, bindR_error hB]
    | ok p => rw [take1_ok (b := p.1) (s' := p.2) hB] at h; cases h
  | some b =>
    rw [hb] at h
    cases hB : bitL t Bits.start with
    | error f => rw [take1_error hB] at h; cases h
    | ok p =>
      rw [take1_ok (b := p.1) (s' := p.2) hB] at h
      simp only [Except.ok.injEq, Prod.mk.injEq, List.cons.injEq, and_true] at h
      obtain ⟨b', s'⟩ := p
      simp only at h
      rw [h.1, h.2] at hB
      rw [bodyL, bindR_ok hB]
      simp only
      split <;> rfl
theorem told_field (a l : Nat) (e r : Bool) (ha : a < 4294967296) (hl : l < 16) (f : Fr) (hf : f = (((Fr.nul.setId a ha).setExt e).setRem r).setLen l (by omega)) : f = toldF ⟨a, e, r, l, []⟩ := by
  rw [hf, ← toldF_nil (a, e, r) l ha (by omega), fieldF, dif_pos ha]
set_option maxHeartbeats 4000000 in
theorem rdhead_any (ht : t.length ≤ 65536) (hall : t.all isBit = true) (h : Ds t (.ok Bits.start) g q Fr.nul w0 w) :
    Calls Try.prog 46 #[.pointer (some ⟨g, 0, none⟩), .pointer (some ⟨q, 0, none⟩)] w fun e w' => e = .returned (.tuple #[]) ∧ HdP t g q w0 w' := by
  go_enter Try.func46, Try.ntmps46
  go_wp2_with fail
  refine (h.take 1 (by omega) ht hall).mono ?_
  rintro e w1 ⟨v0, rfl, l0, V0, D0⟩
  clear h
  have V0' := V0.out
  have D0' := D0.out
  clear V0 D0
  unfold tk at D0'
  rw [show onS (.ok Bits.start) (takeL t 1) = takeL t 1 Bits.start from rfl, take_first] at V0' D0'
  cases hb : t[0]?
  case' none =>
    rw [hb] at D0'
    have c4 : w1.cell? ⟨g, 4, none⟩ = some (.int .i64 3) := D0'.1.c4
    obtain ⟨x1, hD, hB⟩ : ∃ x1, Hid (Ds t x1 g q Fr.nul w0 w1) ∧ Hid (bodyL t Bits.start = onS x1 (restL t)) := ⟨_, D0', by show _ = _; rw [bodyL_first, hb]; rfl⟩
    clear D0' V0' hb
    obtain rfl | rfl : v0 = 0 ∨ v0 = 1 := by omega
    all_goals
      clear l0
      go_wp2_with fail
  case' some =>
    rename_i b
    rw [hb] at D0' V0'
    have k0 := V0' _ rfl
    have hbm : b ∈ t := List.mem_of_getElem? hb
    have hv1 := val_one hall hbm
    clear V0'
    rw [← show v0 = val [b] from k0] at hv1
    by_cases h49 : b = 49
    case' pos =>
      have hv : v0 = 1 := by simpa [h49] using hv1
      subst hv
      have c4 : w1.cell? ⟨g, 4, none⟩ = some (.int .i64 0) := D0'.1.c4
      have c1 : w1.cell? ⟨g, 1, none⟩ = some (.int .i64 1) := D0'.1.1.cells.2.1
      have z4 : w1.frozen? ⟨g, 4, none⟩ = false := D0'.1.1.cells.2.2.2.2.2 4
      have z1 : w1.frozen? ⟨g, 1, none⟩ = false := D0'.1.1.cells.2.2.2.2.2 1
      have D1 := D0'.failed 22 0 (by decide)
      obtain ⟨x1, hD, hB⟩ : ∃ x1, Hid (Ds t x1 g q Fr.nul w0 ((w1.setCell ⟨g, 4, none⟩ (.int .i64 22)).setCell ⟨g, 1, none⟩ (.int .i64 0))) ∧ Hid (bodyL t Bits.start = onS x1 (restL t)) := ⟨_, D1, by show _ = _; rw [bodyL_first, hb]; simp only [h49, if_true]; rfl⟩
      clear D0' hb k0 hbm h49 hv1 D1
      clear l0
      go_wp2_with fail
      clear c1 z1 z4
    case' neg =>
      have hv : v0 = 0 := by
        have : v0 ≠ 1 := by simpa [h49] using hv1.symm
        omega
      subst hv
      have c4 : w1.cell? ⟨g, 4, none⟩ = some (.int .i64 0) := D0'.1.c4
      obtain ⟨x1, hD, hB⟩ : ∃ x1, Hid (Ds t x1 g q Fr.nul w0 w1) ∧ Hid (bodyL t Bits.start = onS x1 (restL t)) := ⟨_, D0', by show _ = _; rw [bodyL_first, hb]; simp only [h49, if_false]; rfl⟩
      clear D0' hb k0 hbm h49 hv1
      clear l0
      go_wp2_with fail
  all_goals
    refine (hD.out.take 11 (by omega) ht hall).mono ?_
    rintro e w2 ⟨v1, rfl, l1, V1, D1⟩
    have c0 := D1.out.2.1.c0
    have z0 := D1.out.2.1.frozen 0
    have hid : v1 < 4294967296 := by omega
    have D2 : Hid (Ds t (tk t x1 11) g q (Fr.nul.setId v1 hid) w0 _) := D1.out.setId v1 hid
    clear hD c4 D1
    go_wp2_with fail
    refine (D2.out.take 1 (by omega) ht hall).mono ?_
    rintro e w3 ⟨v2, rfl, l2, V2, D3⟩
    clear c0 z0 D2
    go_wp2_with fail
    refine (D3.out.take 1 (by omega) ht hall).mono ?_
    rintro e w4 ⟨v3, rfl, l3, V3, D4⟩
    have c1 := D4.out.2.1.c1
    have z1 := D4.out.2.1.frozen 1
    clear D3
    by_cases hx : v3 = 1
    · have D5 : Hid (Ds t (tk t (tk t (tk t x1 11) 1) 1) g q ((Fr.nul.setId v1 hid).setExt true) w0 _) := D4.out.setExt true
      subst hx
      have c0 : (w4.setCell ⟨q, 1, none⟩ (.bool true)).cell? ⟨q, 0, none⟩ = some (.int .u32 (v1 : Int)) := D5.out.2.1.c0
      have z0 := D5.out.2.1.frozen 0
      have d1 : (w4.setCell ⟨q, 1, none⟩ (.bool true)).cell? ⟨q, 1, none⟩ = some (.bool true) := D5.out.2.1.c1
      have e0 : w4.cell? ⟨q, 0, none⟩ = some (.int .u32 (v1 : Int)) := D4.out.2.1.c0
      have y0 := D4.out.2.1.frozen 0
      clear D4
      go_wp2_with fail
      have D5d : Hid (Ds t (tk t (tk t (tk t x1 11) 1) 1) g q ((Fr.nul.setId v1 hid).setExt true) w0 (w4.setCell ⟨q, 1, none⟩ (.bool true)).drew) := D5.out.drawn 1
      have HN := D5d.out.take 18 (by omega) ht hall
      go_region_with (go_at_call 47; refine HN.mono ?_; rintro e w5 ⟨v4, rfl, l4, V4, D6⟩; have g0 : w5.cell? ⟨q, 0, none⟩ = some (.int .u32 (v1 : Int)) := D6.out.2.1.c0; have g1 := D6.out.2.1.frozen 0)
      all_goals
        have hw4 : IntKind.u32.wrap (v4 : Int) = (v4 : Int) := by
          have e : ∀ n : Int, IntKind.u32.wrap n = n % 4294967296 := fun n => by simp [IntKind.wrap, IntKind.bits, IntKind.signed]
          rw [e]; omega
        have HV : bits BinOp.or IntKind.u32 (IntKind.u32.wrap ((v1 : Int) * 262144)) (IntKind.u32.wrap (v4 : Int)) = ((v1 * 262144 + v4 : Nat) : Int) := by rw [hw4]; exact join18 v1 v4 (by omega) (by omega)
        have hid2 : v1 * 262144 + v4 < 4294967296 := by omega
        rw [HV]
        have D7 : Hid (Ds t (tk t (tk t (tk t (tk t x1 11) 1) 1) 18) g q (((Fr.nul.setId v1 hid).setExt true).setId (v1 * 262144 + v4) hid2) w0 _) := D6.out.setId (v1 * 262144 + v4) hid2
        clear HN D5d D5 D6 g0 g1 HV hw4 c0 z0 d1 e0 y0 c1 z1
        go_wp2_with fail
        refine (D7.out.take 1 (by omega) ht hall).mono ?_
        rintro e w6 ⟨v5, rfl, l5, V5, D8⟩
        clear D7
        go_wp2_with fail
        refine (D8.out.take 1 (by omega) ht hall).mono ?_
        rintro e w7 ⟨v6, rfl, l6, V6, D9⟩
        have c2 := D9.out.2.1.c2
        have z2 := D9.out.2.1.frozen 2
        have hr : ((v5 : Int) == 1) = decide (v5 = 1) := by by_cases h : v5 = 1 <;> simp [h] <;> omega
        have D10 : Hid (Ds t (tk t (tk t (tk t (tk t (tk t (tk t x1 11) 1) 1) 18) 1) 1) g q ((((Fr.nul.setId v1 hid).setExt true).setId (v1 * 262144 + v4) hid2).setRem (decide (v5 = 1))) w0 _) := D9.out.setRem (decide (v5 = 1))
        clear D8 D9
        go_wp2_with fail
        refine (D10.out.take 1 (by omega) ht hall).mono ?_
        rintro e w8 ⟨v7, rfl, l7, V7, D11⟩
        clear D10 c2 z2 hr
        go_wp2_with fail
        refine (D11.out.take 4 (by omega) ht hall).mono ?_
        rintro e w9 ⟨v8, rfl, l8, V8, D12⟩
        have c3 := D12.out.2.1.c3
        have z3 := D12.out.2.1.frozen 3
        have D13 : Hid (Ds t (tk t (tk t (tk t (tk t (tk t (tk t (tk t (tk t x1 11) 1) 1) 18) 1) 1) 1) 4) g q (((((Fr.nul.setId v1 hid).setExt true).setId (v1 * 262144 + v4) hid2).setRem (decide (v5 = 1))).setLen v8 (by omega)) w0 _) := D12.out.setLen v8 (by omega)
        clear D11 D12
        go_wp2
        go_end0
        obtain ⟨hh1, hh2⟩ := head_ext hall v1 1 v4 v5 v8 V1.out V3.out rfl V4.out V5.out V8.out
        refine ⟨rfl, x1, _, hB.out, by rw [hh1]; exact D13.out, ?_⟩
        intro p s' hp
        rw [hh2 p s' hp]
        exact ⟨hid2, by omega, told_field (v1 * 262144 + v4) v8 true _ hid2 (by omega) _ rfl⟩
    · have D5 : Hid (Ds t (tk t (tk t (tk t x1 11) 1) 1) g q ((Fr.nul.setId v1 hid).setExt false) w0 _) := D4.out.setExt false
      have hx0 : v3 = 0 := by omega
      subst hx0
      have d1 : (w4.setCell ⟨q, 1, none⟩ (.bool false)).cell? ⟨q, 1, none⟩ = some (.bool false) := D5.out.2.1.c1
      have c2 := D4.out.2.1.c2
      have z2 := D4.out.2.1.frozen 2
      have hr : ((v2 : Int) == 1) = decide (v2 = 1) := by by_cases h : v2 = 1 <;> simp [h] <;> omega
      have D6 : Hid (Ds t (tk t (tk t (tk t x1 11) 1) 1) g q (((Fr.nul.setId v1 hid).setExt false).setRem (decide (v2 = 1))) w0 _) := D5.out.setRem (decide (v2 = 1))
      clear D4 D5
      go_wp2_with fail
      refine (D6.out.take 1 (by omega) ht hall).mono ?_
      rintro e w5 ⟨v4, rfl, l4, V4, D7⟩
      clear D6 c1 z1 d1 c2 z2 hr
      go_wp2_with fail
      refine (D7.out.take 4 (by omega) ht hall).mono ?_
      rintro e w6 ⟨v8, rfl, l8, V8, D8⟩
      have c3 := D8.out.2.1.c3
      have z3 := D8.out.2.1.frozen 3
      have D9 : Hid (Ds t (tk t (tk t (tk t (tk t (tk t x1 11) 1) 1) 1) 4) g q ((((Fr.nul.setId v1 hid).setExt false).setRem (decide (v2 = 1))).setLen v8 (by omega)) w0 _) := D8.out.setLen v8 (by omega)
      clear D7 D8
      go_wp2
      go_end0
      obtain ⟨hh1, hh2⟩ := head_base hall v1 v2 0 0 v8 V1.out V2.out V3.out (by omega) V8.out
      refine ⟨rfl, x1, _, hB.out, by rw [hh1]; exact D9.out, ?_⟩
      intro p s' hp
      rw [hh2 p s' hp]
      exact ⟨hid, by omega, told_field v1 v8 false _ hid (by omega) _ rfl⟩
end
end Go.Proofs.Ytpjddhihokgffaa
