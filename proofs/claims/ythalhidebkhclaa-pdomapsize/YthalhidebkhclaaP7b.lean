/- Contracts: List; entries held against each other; two dictionaries of the same entries. -/
import Derived.Test.YthalhidebkhclaaP6
namespace Go.Proofs.Ythalhidebkhclaa
open Go.RowKit Go.Proofs.Ty Go.Sort Go.Lib
set_option linter.unusedVariables false
set_option maxRecDepth 1000000
set_option linter.unusedSimpArgs false
/-- Entries held against each other. -/
def En.lits (e : En) : List Lit := [.int .u16 e.ix, .int .u8 e.sb, .int .i64 e.ac, .bool e.mp, .bool e.li] ++ e.mn.lits ++ e.mx.lits ++ e.df.lits
theorem keyE : Try.prog.keyTypeAt 4 59 = true := by kernel_rfl
theorem guardE : Try.prog.eqGuardType Try.prog.depth 59 = false := by kernel_rfl
theorem en_formed (e : En) : (Value.agg e.arr).formed Try.prog 59 = true := by
  have c1 : Try.prog.cellsOf 59 = 14 := by kernel_rfl
  simp [Value.formed, Try.underlying59, c1, En.arr, enC]
theorem en_keyLits (e : En) (d : Nat) : Try.prog.keyLits (d + 4) 59 e.arr.toList = some e.lits := by
  have h1 := e.hix
  have h2 := e.hsb
  have h3 := e.hac
  have k1 := vl_keyLits e.mn d
  have k2 := vl_keyLits e.mx d
  have k3 := vl_keyLits e.df d
  have c1 : Try.prog.cellsOf 42 = 3 := by kernel_rfl
  have c2 : Try.prog.cellsOf 3 = 1 := by kernel_rfl
  have c3 : Try.prog.cellsOf 45 = 1 := by kernel_rfl
  have c4 : Try.prog.cellsOf 5 = 1 := by kernel_rfl
  have c5 : Try.prog.cellsOf 4 = 1 := by kernel_rfl
  have c6 : Try.prog.cellsOf 59 = 14 := by kernel_rfl
  have w1 : (Lit.int .u16 e.ix).wf = true := by simp [Lit.wf, IntKind.min, IntKind.max, IntKind.signed, IntKind.bits]; omega
  have w2 : (Lit.int .u8 e.sb).wf = true := by simp [Lit.wf, IntKind.min, IntKind.max, IntKind.signed, IntKind.bits]; omega
  have w3 : (Lit.int .i64 e.ac).wf = true := by simp [Lit.wf, IntKind.min, IntKind.max, IntKind.signed, IntKind.bits]; omega
  simp only [Vl.arr] at k1 k2 k3
  have s1 : Try.prog.keyLits (d + 3) 45 [.int .u16 e.ix] = some [.int .u16 e.ix] := by simp [Program.keyLits, Try.underlying45, w1]
  have s2 : Try.prog.keyLits (d + 3) 5 [.int .u8 e.sb] = some [.int .u8 e.sb] := by simp [Program.keyLits, Try.underlying5, w2]
  have s3 : Try.prog.keyLits (d + 3) 3 [.int .i64 e.ac] = some [.int .i64 e.ac] := by simp [Program.keyLits, Try.underlying3, w3]
  have s4 : Try.prog.keyLits (d + 3) 4 [.bool e.mp] = some [.bool e.mp] := by simp [Program.keyLits, Try.underlying4]
  have s5 : Try.prog.keyLits (d + 3) 4 [.bool e.li] = some [.bool e.li] := by simp [Program.keyLits, Try.underlying4]
  unfold Program.keyLits
  simp [En.arr, enC, En.lits, Try.underlying59, c1, c2, c3, c4, c5, c6, s1, s2, s3, s4, s5, k1, k2, k3]
theorem enSame (e : En) (w : World) : (binOp .neq 59 (.agg e.arr) (.agg e.arr)).run Try.prog w = .ok (.bool false) w := by
  obtain ⟨r, hr, hiff⟩ := run_equalIn_deep (10000 - 4) 4 59 keyE w 4 4 (.agg e.arr) (.agg e.arr) e.lits e.lits (en_formed e) (en_formed e) (en_keyLits e 0) (en_keyLits e 0)
  have e1 : r = true := hiff.2 rfl
  have hq : (Op.equal 59 (.agg e.arr) (.agg e.arr)).run Try.prog w = .ok true w := by rw [← e1]; exact hr
  simp [binOp, hq]
end Go.Proofs.Ythalhidebkhclaa
