/- copy into bytes of one's own. -/
import Derived.Test.YthalhidebkhclaaPdI
import Derived.Laws.CopyRow
namespace Go.Proofs.Ythalhidebkhclaa
open Go.RowKit Go.Shelf Go.Proofs.Ty
set_option linter.unusedVariables false
set_option maxRecDepth 1000000
set_option linter.unusedSimpArgs false
/-- A block of bytes. -/
def Bk (g : Nat) (bs : List UInt8) (w : World) : Prop := w.heap[g]? = some (.cells (Lib.byteCells bs).toArray 5 (0, 0))
/-- Bytes with others laid over them. -/
def lay13 (bs : List UInt8) (o : Nat) (l : List UInt8) : List UInt8 := bs.take o ++ l ++ bs.drop (o + l.length)
theorem lay13_len (bs : List UInt8) (o : Nat) (l : List UInt8) (h : o + l.length ≤ bs.length) : (lay13 bs o l).length = bs.length := by
  unfold lay13
  simp
  omega
theorem add_off13 (b off j : Nat) : (⟨b, off, none⟩ : Addr).add j = ⟨b, off + j, none⟩ := by
  unfold Addr.add
  split
  · rename_i h; subst h; rfl
  · rfl
theorem byteCells_one13 (l : List UInt8) (v : Value) (hv : v ∈ Lib.byteCells l) : v.oneCell' = true := by
  simp only [Lib.byteCells, List.mem_map] at hv
  obtain ⟨x, _, rfl⟩ := hv
  rfl
theorem Kp.row1 (w : World) (g : Nat) (A : Array Value) : Kp [g] w (w.setRow g A) :=
  ⟨rfl, rfl, rfl, by simp, fun k hk hn => setRow_other _ _ _ _ (by simpa using hn)⟩
theorem copyP (w : World) (g o dc : Nat) (bs : List UInt8) (hg : Bk g bs w) (u : Value) (l : List UInt8) (hB : Bytes w u l) (h1 : 0 < l.length) (hfit : o + l.length ≤ bs.length) :
    ∃ w', (∀ ty, (Builtin.copy_ #[24, 24] ty #[.slice (some ⟨g, o, none⟩) l.length dc, u]).run Try.prog w = .ok (.int .i64 (l.length : Nat)) w') ∧ Bk g (lay13 bs o l) w' ∧ Kp [g] w w' := by
  obtain ⟨ao, cp, rfl, h0, hc⟩ := hB
  have hi1 : (Try.prog.info? 5).map (·.size) = some 1 := by kernel_rfl
  obtain ⟨b0, off0, rfl, _, _⟩ := hc 0 h1
  have hcs : (Lib.byteCells l).length = l.length := Lib.byteCells_length l
  have hbs : (Lib.byteCells bs).length = bs.length := Lib.byteCells_length bs
  refine ⟨_, fun ty => ?_, ?_, Kp.row1 w g (((Lib.byteCells bs).toArray.toList.take o ++ Lib.byteCells l ++ (Lib.byteCells bs).toArray.toList.drop (o + (Lib.byteCells l).length)).toArray)⟩
  · have := run_copy_row (P := Try.prog) w 24 24 ty 5 g o l.length dc ⟨b0, off0, none⟩ l.length cp (Lib.byteCells bs).toArray 5 (Lib.byteCells l) Try.underlying24 hi1 hg (by rw [hcs]; simp) (fun j v hv => by
      have hj : j < l.length := by have := (List.getElem?_eq_some_iff.1 hv).1; rwa [hcs] at this
      obtain ⟨b, off, ha, _, hcell⟩ := hc j hj
      injection ha with ha
      injection ha with e1 e2
      subst e1 e2
      rw [add_off13, hcell]
      have hv2 : (Lib.byteCells l)[j]? = some (.int .u8 (l[j].toNat : Int)) := by simp [Lib.byteCells, hj]
      exact (hv2.symm.trans hv)) (by simp [hcs, hbs]; omega) (fun v hv => byteCells_one13 _ v hv)
    rw [this, hcs]
    rfl
  · have e : (Lib.byteCells (lay13 bs o l)).toArray = ((Lib.byteCells bs).toArray.toList.take o ++ Lib.byteCells l ++ (Lib.byteCells bs).toArray.toList.drop (o + (Lib.byteCells l).length)).toArray := by
      unfold lay13
      simp [Lib.byteCells, List.map_take, List.map_drop]
    unfold Bk
    rw [e]
    exact setRow_heap w g _ _ _ _ hg
end Go.Proofs.Ythalhidebkhclaa
