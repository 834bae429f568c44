/- Maps of timers in memory. -/
import Derived.Test.YtjkkclojidhgdaaProg
import Derived.WalkKit
import Derived.WalkSmall
import Derived.Deep.QuietTactic
import Derived.BigQuiet
import Derived.Deep.WholeRow
import Derived.Below
import Derived.Maps.OwnSet
import Derived.Maps.Own
namespace Go.Proofs.Ytjkkclojidhgdaa
open Go.RowKit Go.Maps Go.WideMaps
set_option linter.unusedVariables false
set_option maxRecDepth 1000000
set_option linter.unusedSimpArgs false

theorem ret_int {k : IntKind} {a b : Int} (h : a = b) : Ending.returned (.int k a) = .returned (.int k b) := by rw [h]
theorem ret_bool {a b : Bool} (h : a = b) : Ending.returned (.bool a) = .returned (.bool b) := by rw [h]
/-- A timer: its number, when it runs out next, its period, what it tells, the block that it lies in. -/
structure Tm where
  no : Nat
  due : Nat
  per : Nat
  what : Int
  bk : Nat
theorem lawI : Keyed Try.prog 3 := int_keyed Try.underlying3
/-- How a pointer to a timer reads. -/
def ptrR (v : Value) : Option (DataW Unit × List MemPlace) :=
  match v with
  | .pointer none => some (.nil, [])
  | .pointer (some ⟨b, 0, none⟩) => some (.lit (.int .i64 b), [])
  | _ => none
def ptrV (b : Nat) : Value := .pointer (some ⟨b, 0, none⟩)
theorem ptrR_mk (b : Nat) : ptrR (ptrV b) = some (.lit (.int .i64 b), []) := rfl
theorem ptrR_lit {v : Value} {b : Nat} {ps : List MemPlace} (h : ptrR v = some (.lit (.int .i64 b), ps)) : v = ptrV b := by
  unfold ptrR at h
  split at h
  · simp at h
  · rename_i c
    simp at h
    obtain ⟨h1, _⟩ := h
    have : c = b := by omega
    subst this; rfl
  · cases h
theorem ptrR_nil {v : Value} {ps : List MemPlace} (h : ptrR v = some (.nil, ps)) : v = .pointer none := by
  unfold ptrR at h
  split at h
  · rfl
  · simp at h
  · cases h
def ent (t : Tm) : Lit × DataW Unit := (.int .i64 t.no, .lit (.int .i64 t.bk))
/-- Numbers rise. -/
def Rise (ts : List Tm) : Prop := ts.Pairwise (fun a b => a.no < b.no)
/-- Block b is a map that has just these timers. -/
def PM (w : World) (b : Nat) (ts : List Tm) : Prop := w.ownsMap Try.prog 3 ptrR b ts.length (.map (ts.map ent))
theorem own_tight {w : World} {b n : Nat} {l : List (Lit × DataW Unit)} (h : w.ownsMap Try.prog 3 ptrR b n (.map l)) : w.ownsMap Try.prog 3 ptrR b l.length (.map l) := by
  obtain ⟨es, clock, h1, h2, h3, h4⟩ := h
  refine ⟨es, clock, h1, h2, ?_, h4⟩
  injection h4 with h4
  rw [h4, length_read]
  exact Nat.le_refl _
theorem PM.kept {w w' : World} {b : Nat} {row : Option Nat} {ts : List Tm} (h : PM w b ts) (hg : w.grownBy w' row) (hne : some b ≠ row) : PM w' b ts := World.ownsMap.kept h hg hne
theorem PM.lt {w : World} {b : Nat} {ts : List Tm} (h : PM w b ts) : b < w.heap.size := World.ownsMap.lt h
theorem key_int (k : Int) (h : -9223372036854775808 ≤ k ∧ k < 9223372036854775808) : keyOf Try.prog 3 (.int .i64 k) = some (.int .i64 k) :=
  keyOf_int_mk Try.underlying3 (by simp [Lit.wf, IntKind.min, IntKind.max, IntKind.signed, IntKind.bits]; omega)
theorem same_int (a b : Int) : Lit.sameKey (.int .i64 a) (.int .i64 b) = (a == b) := by rw [Bool.eq_iff_iff]; simp [Lit.sameKey]
theorem isKey_int (a : Int) : WideAt.IsKeyLit (.int .i64 a) := by simp [WideAt.IsKeyLit]
theorem zero_ptr (w : World) : (zeroValue 66).run Try.prog w = .ok (.pointer none) w := by rfl
def findT (ts : List Tm) (k : Int) : Option Tm := ts.find? (fun t => (t.no : Int) == k)
theorem ents_apart {ts : List Tm} (hr : Rise ts) : (ts.map ent).Pairwise (fun p q => p.1 ≠ q.1) := by
  rw [List.pairwise_map]
  refine List.Pairwise.imp ?_ hr
  intro a b h e
  simp [ent] at e
  omega
theorem PM.look {w : World} {b : Nat} {ts : List Tm} (h : PM w b ts) (hr : Rise ts) (k : Int) (hk : -9223372036854775808 ≤ k ∧ k < 9223372036854775808) {t : TypeId} (ht : Try.prog.underlying t = some (.map 3 66)) :
    (Instr.lookup t (.map (some b)) (.int .i64 k) true).run Try.prog w = .ok (.tuple #[match findT ts k with | none => .pointer none | some x => ptrV x.bk, .bool (findT ts k).isSome]) w := by
  obtain ⟨v, ps, h1, h2⟩ := h.look_ok lawI ht (zero_ptr w) (zd := .nil) (zp := []) rfl (key_int k hk)
  have hh : Maps.has (.map (ts.map ent)) (.int .i64 k) = (findT ts k).isSome := by
    rw [Maps.has_eq, List.any_map, findT, List.isSome_find?]
    congr 1
    funext x
    simp [ent, same_int]
  rw [h1, hh]
  cases hf : findT ts k with
  | none =>
    have hn : ∀ p ∈ ts.map ent, p.1 ≠ .int .i64 k := by
      intro p hp
      obtain ⟨x, hx, rfl⟩ := List.mem_map.1 hp
      have := List.find?_eq_none.1 hf x hx
      simp [ent]
      simpa using this
    rw [WideAt.atKey_none _ hn] at h2
    rw [ptrR_nil h2]
  | some x =>
    have hx := List.mem_of_find?_eq_some hf
    have hxk : (x.no : Int) = k := by simpa using List.find?_some hf
    have hm : (Lit.int .i64 k, DataW.lit (.int .i64 x.bk)) ∈ ts.map ent := List.mem_map.2 ⟨x, hx, by simp [ent, hxk]⟩
    rw [WideAt.atKey_mem _ (isKey_int k) (ents_apart hr) hm] at h2
    rw [ptrR_lit h2]
/-- A timer put among others by its number. -/
def putT : List Tm → Tm → List Tm
  | [], t => [t]
  | y :: r, t => if t.no < y.no then t :: y :: r else y :: putT r t
theorem before_int (a b : Int) : Lit.before (.int .i64 a) (.int .i64 b) = decide (a < b) := by simp [Lit.before]
theorem ins_ents (t : Tm) : ∀ ts : List Tm, DataW.insert (ent t) (ts.map ent) = (putT ts t).map ent
  | [] => rfl
  | y :: r => by
    rw [List.map_cons, DataW.insert, putT]
    have : ((ent t).1.before (ent y).1) = decide (t.no < y.no) := by simp [ent, before_int]
    rw [this]
    by_cases h : t.no < y.no
    · simp [h]
    · simp [h, ins_ents t r]
theorem filt_ents (k : Nat) (ts : List Tm) : (ts.map ent).filter (fun p => !p.1.sameKey (.int .i64 k)) = (ts.filter (fun t => t.no != k)).map ent := by
  rw [List.filter_map]
  congr 1
  apply List.filter_congr
  intro x _
  simp only [ent, same_int, Function.comp]
  rw [Bool.eq_iff_iff]
  simp
  omega
theorem PM.put {w : World} {b : Nat} {ts : List Tm} (h : PM w b ts) (x : Tm) (hk : x.no < 4611686018427387904) (hl : ts.length < 1073741824) {t : TypeId} (ht : Try.prog.underlying t = some (.map 3 66)) :
    ∃ w', (Instr.mapUpdate t (.map (some b)) (.int .i64 x.no) (ptrV x.bk)).run Try.prog w = .ok () w' ∧ PM w' b (putT (ts.filter (fun t => t.no != x.no)) x) ∧ w.mapTurned w' b := by
  obtain ⟨w', h1, h2, h3⟩ := World.ownsMap.store h lawI ht (by unfold maxLen; omega) (key_int x.no (by omega)) (ptrR_mk x.bk)
  refine ⟨w', h1, ?_, h3⟩
  have e : (DataW.map (ts.map ent)).put (.int .i64 x.no) (.lit (.int .i64 x.bk)) = .map ((putT (ts.filter (fun t => t.no != x.no)) x).map ent) := by
    show DataW.map (DataW.insert (ent x) ((ts.map ent).filter _)) = _
    rw [filt_ents, ins_ents]
  rw [e] at h2
  have := own_tight h2
  rw [List.length_map] at this
  exact this
theorem PM.del {w : World} {b : Nat} {ts : List Tm} (h : PM w b ts) (k : Nat) (hk : k < 4611686018427387904) {t : TypeId} (ht : Try.prog.underlying t = some (.map 3 66)) (ty : TypeId) :
    ∃ w', (Builtin.delete_ #[t, 3] ty #[.map (some b), .int .i64 k]).run Try.prog w = .ok (.tuple #[]) w' ∧ PM w' b (ts.filter (fun t => t.no != k)) ∧ w.mapTurned w' b := by
  obtain ⟨w', h1, h2, h3⟩ := World.ownsMap.drop h lawI ht (key_int k (by omega)) ty
  refine ⟨w', h1, ?_, h3⟩
  have e : (DataW.map (ts.map ent)).del (.int .i64 k) = .map ((ts.filter (fun t => t.no != k)).map ent) := by
    show DataW.map ((ts.map ent).filter _) = _
    rw [filt_ents]
  rw [e] at h2
  have := own_tight h2
  rw [List.length_map] at this
  exact this
theorem PM.len {w : World} {b : Nat} {ts : List Tm} (h : PM w b ts) {t : TypeId} (ht : Try.prog.underlying t = some (.map 3 66)) (ty : TypeId) : (Builtin.len_ #[t] ty #[.map (some b)]).run Try.prog w = .ok (.int .i64 ts.length) w := by
  rw [World.ownsMap.len h ht ty]
  simp [Maps.size]
theorem PM.new (w : World) : PM (w.alloc (.map #[] 0)) w.heap.size [] := World.ownsMap_made w _ _ _
theorem und_mapt : Try.prog.underlying 54 = some (.map 3 66) := Try.underlying54
theorem und_slot : Try.prog.underlying 73 = some (.map 3 66) := Try.underlying73
end Go.Proofs.Ytjkkclojidhgdaa
