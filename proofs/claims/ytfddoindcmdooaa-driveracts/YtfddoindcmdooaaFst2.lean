/- The contract of First. -/
import Derived.Test.YtfddoindcmdooaaLive2
import Derived.Test.YtfddoindcmdooaaFst
import Derived.Test.YtfddoindcmdooaaWide
namespace Go.Proofs.Ytfddoindcmdooaa
open Go.RowKit Go.Proofs.Bits
set_option linter.unusedVariables false
set_option maxRecDepth 1000000

theorem infoS : (Try.prog.info? 9).map (fun i => (i.zero, i.size, i.bytes)) = some (some (.string ByteArray.empty), 1, 16) := by kernel_rfl
/-- The fields; what First answers. -/
def flds (fs : List Fr) : List (List UInt8) := fs.map Fr.field
def allOk (fs : List Fr) : Bool := fs.all fun f => f.chk == 0
def firstE (fs : List Fr) : Int := if fs.length = 0 then 3 else if allOk fs then (if (flds fs).Nodup then 0 else 5) else 1
def firstN (fs : List Fr) : Nat := if firstE fs = 0 then best (flds fs) fs.length else 0
theorem flds_length (fs : List Fr) : (flds fs).length = fs.length := by simp [flds]
/-- The row of fields behind k rounds. -/
def rowK (fs : List Fr) (k : Nat) : List Value := (flds (fs.take k)).map txtV ++ List.replicate (fs.length - k) (.string ByteArray.empty)
theorem rowK_length (fs : List Fr) (k : Nat) (hk : k ≤ fs.length) : (rowK fs k).length = fs.length := by
  simp [rowK, flds]; omega
theorem rowK_zero (fs : List Fr) : rowK fs 0 = List.replicate fs.length (.string ByteArray.empty) := by simp [rowK, flds]
theorem rowK_full (fs : List Fr) : rowK fs fs.length = (flds fs).map txtV := by simp [rowK]
theorem rowK_set (fs : List Fr) (k : Nat) (hk : k < fs.length) : (rowK fs k).set k (txtV fs[k].field) = rowK fs (k + 1) := by
  unfold rowK
  have e1 : ((flds (fs.take k)).map txtV).length = k := by simp [flds]; omega
  rw [List.set_append_right _ _ (by omega), e1, Nat.sub_self]
  have e2 : fs.length - k = (fs.length - (k + 1)) + 1 := by omega
  rw [e2, List.replicate_succ, List.set_cons_zero, List.take_succ_eq_append_getElem hk]
  simp only [flds, List.map_append, List.map_cons, List.map_nil, List.append_assoc, List.cons_append, List.nil_append]
theorem slots_of_row {w : World} {g n : Nat} {cs : List Value} (h : Row w g cs) (hn : cs.length = n) : Slots w (.slice (some ⟨g, 0, none⟩) n n) cs := by
  subst hn
  exact ⟨some ⟨g, 0, none⟩, cs.length, rfl, (fun h => by cases h), fun k hk => ⟨g, 0, rfl, h.lt, by rw [Nat.zero_add]; exact h.cell k hk⟩⟩
theorem allOk_at {fs : List Fr} {k : Nat} (hk : k < fs.length) (h : fs[k].chk ≠ 0) : allOk fs = false := by
  unfold allOk
  rw [Bool.eq_false_iff]
  intro he
  rw [List.all_eq_true] at he
  have := he fs[k] (List.getElem_mem hk)
  simp at this
  exact h this
theorem allOk_of {fs : List Fr} (h : ∀ j (hj : j < fs.length), fs[j].chk = 0) : allOk fs = true := by
  unfold allOk
  rw [List.all_eq_true]
  intro f hf
  obtain ⟨j, hj, rfl⟩ := List.getElem_of_mem hf
  simpa using h j hj
theorem field_len (f : Fr) : f.field.length ≤ 32 := by
  unfold Fr.field
  split <;> simp [numL_length, flagV_length]
theorem Row.below' {w w' : World} {g B : Nat} {cs : List Value} (h : Row w g cs) (hb : Below B w w') (hg : g < B) : Row w' g cs := h.kept (hb.block g hg)
theorem fld_ld {w : World} {ops : Array Oper} {rest : List Oper} {p : Oper} {a : Act} {Q : Exit → Act → World → Prop} {b o : Nat} {f : Fr} (h : w.rangeAt b o f.cells) (hgd : p.guard = none) (x : Operand) (ho : p.op = .load 45 x) (hx : a.eval x = .pointer (some ⟨b, o, none⟩))
    (hh : wpList Try.prog ops Q rest (a.put p.dst (.agg f.arr)) w) : wpList Try.prog ops Q (p :: rest) a w :=
  wpList_load_mid hgd 45 x ho b o hx f.cells _ h Try.underlying45 rfl (by rw [infoF]; simp [Fr.cells, f.hdata]) hh
def Frames (w : World) (v : Value) (fs : List Fr) : Prop := Wide 12 Fr.cells w v fs
end Go.Proofs.Ytfddoindcmdooaa
