/- Frames held against each other by ==. -/
import Derived.Test.YtfddoindcmdooaaPla
import Derived.DeepKeys
namespace Go.Proofs.Ytfddoindcmdooaa
open Go.RowKit Go.Proofs.Bits
set_option linter.unusedVariables false
set_option maxRecDepth 1000000

theorem keyF : Try.prog.keyTypeAt 3 45 = true := by kernel_rfl
theorem keyF2 : Try.prog.keyType 45 = true := by kernel_rfl
theorem wf_u32 (n : Nat) (h : n < 4294967296) : (Lit.int .u32 n).wf = true := by
  simp [Lit.wf, IntKind.min, IntKind.max, IntKind.signed, IntKind.bits]; omega
theorem wf_i64 (n : Int) (h : -9223372036854775808 ≤ n ∧ n < 9223372036854775808) : (Lit.int .i64 n).wf = true := by
  simp [Lit.wf, IntKind.min, IntKind.max, IntKind.signed, IntKind.bits]; omega
theorem wf_u8 (c : UInt8) : (Lit.int .u8 c.toNat).wf = true := by
  have := c.toNat_lt
  simp [Lit.wf, IntKind.min, IntKind.max, IntKind.signed, IntKind.bits]; omega
def Fr.lits (f : Fr) : List Lit := [.int .u32 f.id, .bool f.ext, .bool f.rem, .int .i64 f.len] ++ f.data.map fun c => .int .u8 c.toNat
theorem fr_keyLits (f : Fr) (d : Nat) : Try.prog.keyLits (d + 3) 45 f.cells = some f.lits := by
  obtain ⟨id, ext, rem, len, data, h1, h2, h3⟩ := f
  match data, h3 with
  | [d0, d1, d2, d3, d4, d5, d6, d7], _ =>
    have c1 : Try.prog.cellsOf 45 = 12 := by kernel_rfl
    have c2 : Try.prog.cellsOf 43 = 8 := by kernel_rfl
    have c3 : Try.prog.cellsOf 42 = 1 := by kernel_rfl
    have c4 : Try.prog.cellsOf 4 = 1 := by kernel_rfl
    have c5 : Try.prog.cellsOf 3 = 1 := by kernel_rfl
    have w1 := wf_u32 id h1
    have w2 := wf_i64 len h2
    have w3 := wf_u8
    simp [Fr.cells, Fr.lits, Program.keyLits, Try.underlying45, Try.underlying43, Try.underlying5, Try.underlying42, Try.underlying4, Try.underlying3, c1, c2, c3, c4, c5, bcells5, w1, w2, w3, List.range, List.range.loop]
theorem fr_formed (f : Fr) : f.val.formed Try.prog 45 = true := by
  have c1 : Try.prog.cellsOf 45 = 12 := by kernel_rfl
  simp [Fr.val, Value.formed, Try.underlying45, c1, f.arr_size]
/-- Whether two frames are one. -/
def frB (f g : Fr) : Bool := f.id == g.id && f.ext == g.ext && f.rem == g.rem && f.len == g.len && f.data == g.data
theorem frB_iff (f g : Fr) : frB f g = true ↔ f = g := by
  obtain ⟨id, ext, rem, len, data, h1, h2, h3⟩ := f
  obtain ⟨id', ext', rem', len', data', h1', h2', h3'⟩ := g
  simp [frB]
  constructor
  · rintro ⟨⟨⟨⟨a, b⟩, c⟩, d⟩, e⟩; exact ⟨a, b, c, d, e⟩
  · rintro ⟨a, b, c, d, e⟩; exact ⟨⟨⟨⟨a, b⟩, c⟩, d⟩, e⟩
theorem frB_same (f : Fr) : frB f f = true := (frB_iff f f).2 rfl
theorem lits_iff (f g : Fr) : f.lits = g.lits ↔ f = g := by
  constructor
  · intro h
    simp only [Fr.lits, List.cons_append, List.nil_append, List.cons.injEq, Lit.int.injEq, Lit.bool.injEq, true_and] at h
    obtain ⟨a, b, c, d, e⟩ := h
    have e' : f.data = g.data := by
      refine (List.map_inj_right ?_).1 e
      intro x y hxy
      simp only [Lit.int.injEq, true_and] at hxy
      exact UInt8.toNat_inj.1 (by omega)
    obtain ⟨id, ext, rem, len, data, h1, h2, h3⟩ := f
    obtain ⟨id', ext', rem', len', data', h1', h2', h3'⟩ := g
    simp only [Fr.mk.injEq] at *
    exact ⟨by omega, b, c, d, e'⟩
  · rintro rfl; rfl
theorem frEqual (f g : Fr) (w : World) : (Op.equal 45 f.val g.val).run Try.prog w = .ok (frB f g) w := by
  obtain ⟨r, hr, hiff⟩ := run_equalIn_deep (10000 - 3) 3 45 keyF w 3 3 f.val g.val f.lits g.lits (fr_formed f) (fr_formed g) (fr_keyLits f 0) (fr_keyLits g 0)
  have e : r = frB f g := by
    rw [Bool.eq_iff_iff, hiff, lits_iff, frB_iff]
  rw [← e]
  exact hr
theorem frEq (f g : Fr) (w : World) : (binOp .eql 45 (.agg f.arr) (.agg g.arr)).run Try.prog w = .ok (.bool (frB f g)) w := by
  have := frEqual f g w
  unfold Fr.val at this
  simp [binOp, this]
theorem frNeq (f g : Fr) (w : World) : (binOp .neq 45 (.agg f.arr) (.agg g.arr)).run Try.prog w = .ok (.bool (!frB f g)) w := by
  have := frEqual f g w
  unfold Fr.val at this
  simp [binOp, this]

theorem Fa.ldw {ops : Array Oper} {rest : List Oper} {o : Oper} {a : Act} {w : World} {Q : Exit → Act → World → Prop} {q : Nat} {f : Fr} (h : Fa q f w) (hgd : Region.wanted o (yielded ops a.tmps) = true) (x : Operand) (ho : o.op = .load 45 x) (hx : a.eval x = .pointer (some ⟨q, 0, none⟩))
    (hh : wpList Try.prog ops Q rest (a.put o.dst (.agg f.arr)) w) : wpList Try.prog ops Q (o :: rest) a w :=
  BigFrame.wpList_want hgd fun _ hK => wp_load_row 45 x ho q hx 45 f.arr (0, 0) _ h Try.underlying45 rfl (by rw [f.arr_size]; exact infoF) (hK _ _ hh)
theorem guardF : Try.prog.eqGuardType Try.prog.depth 45 = false := by kernel_rfl
/-- Two frames held against each other, in a walk. -/
theorem eqw {ops : Array Oper} {rest : List Oper} {o : Oper} {a : Act} {w : World} {Q : Exit → Act → World → Prop} (f g : Fr) (hgd : Region.wanted o (yielded ops a.tmps) = true) (x y : Operand) (ho : o.op = .binOp .eql 45 x y 45) (hx : a.eval x = .agg f.arr) (hy : a.eval y = .agg g.arr)
    (hh : wpList Try.prog ops Q rest (a.put o.dst (.bool (frB f g))) w) : wpList Try.prog ops Q (o :: rest) a w := by
  refine BigFrame.wpList_want hgd fun K hK => ?_
  have hl := frEq f g w
  have hg : (eqGuard .eql 45 x y (.agg f.arr) (.agg g.arr)).run Try.prog w = .ok () w := run_eqGuard_agg w .eql 45 x y f.arr g.arr guardF
  unfold Oper.wp execOp
  simp only [ho, hx, hy, Sem.run_bind, Sem.run_pure, hg, Result.andThen_ok, hl]
  exact hK _ _ hh
theorem neqw {ops : Array Oper} {rest : List Oper} {o : Oper} {a : Act} {w : World} {Q : Exit → Act → World → Prop} (f g : Fr) (hgd : Region.wanted o (yielded ops a.tmps) = true) (x y : Operand) (ho : o.op = .binOp .neq 45 x y 45) (hx : a.eval x = .agg f.arr) (hy : a.eval y = .agg g.arr)
    (hh : wpList Try.prog ops Q rest (a.put o.dst (.bool (!frB f g))) w) : wpList Try.prog ops Q (o :: rest) a w := by
  refine BigFrame.wpList_want hgd fun K hK => ?_
  have hl := frNeq f g w
  have hg : (eqGuard .neq 45 x y (.agg f.arr) (.agg g.arr)).run Try.prog w = .ok () w := run_eqGuard_agg w .neq 45 x y f.arr g.arr guardF
  unfold Oper.wp execOp
  simp only [ho, hx, hy, Sem.run_bind, Sem.run_pure, hg, Result.andThen_ok, hl]
  exact hK _ _ hh
theorem Later.fa {W : World} {q : Nat} {f : Fr} (h : Fa q f W) (x : Later W) : Fa q f x.now := (x.below.block q h.lt).trans h
theorem quiet_ld {W : World} {ops : Array Oper} {rest : List Oper} {o : Oper} {a : Act} {Q : Act → Prop} {q : Nat} {f : Fr} (h : Fa q f W) (hgd : o.guard = none) (x : Operand) (ho : o.op = .load 45 x) (hx : a.eval x = .pointer (some ⟨q, 0, none⟩))
    (hh : wpQuiet Try.prog ops (fun w' => ∃ x : Later W, w' = x.now) Q rest (a.put o.dst (.agg f.arr))) : wpQuiet Try.prog ops (fun w' => ∃ x : Later W, w' = x.now) Q (o :: rest) a := by
  unfold wpQuiet
  rw [if_pos (by simp [Region.wanted, hgd])]
  refine ⟨.agg f.arr, ?_, hh⟩
  rintro w' ⟨y, rfl⟩
  have hl := (Later.fa h y).load
  unfold Oper.quietAt execOp
  simp only [ho, hx, Instr.loadAt, Instr.sureAddr, Sem.run_bind, Sem.run_pure, Result.andThen_ok, hl]
  exact ⟨rfl, rfl⟩

theorem quiet_eq {W : World} {ops : Array Oper} {rest : List Oper} {o : Oper} {a : Act} {Q : Act → Prop} {A1 A2 : Array Value} (b : Bool) (hgd : o.guard = none) (x y : Operand) (ho : o.op = .binOp .eql 45 x y 45) (hx : a.eval x = .agg A1) (hy : a.eval y = .agg A2)
    (he : ∀ w, (binOp .eql 45 (.agg A1) (.agg A2)).run Try.prog w = .ok (.bool b) w)
    (hh : wpQuiet Try.prog ops (fun w' => ∃ x : Later W, w' = x.now) Q rest (a.put o.dst (.bool b))) : wpQuiet Try.prog ops (fun w' => ∃ x : Later W, w' = x.now) Q (o :: rest) a := by
  unfold wpQuiet
  rw [if_pos (by simp [Region.wanted, hgd])]
  refine ⟨.bool b, ?_, hh⟩
  rintro w' ⟨z, rfl⟩
  have hl := he z.now
  have hg : (eqGuard .eql 45 x y (.agg A1) (.agg A2)).run Try.prog z.now = .ok () z.now := run_eqGuard_agg z.now .eql 45 x y A1 A2 guardF
  unfold Oper.quietAt execOp
  simp only [ho, hx, hy, Sem.run_bind, Sem.run_pure, hg, Result.andThen_ok, hl]
  exact ⟨rfl, rfl⟩

end Go.Proofs.Ytfddoindcmdooaa
