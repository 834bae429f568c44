/- A wheel in memory; New, Now, Len, Left and place. -/
import Derived.Test.YtjkkclojidhgdaaW1
import Derived.Laws.Tables
import Derived.Carry
namespace Go.Proofs.Ytjkkclojidhgdaa
open Go.RowKit Go.Maps Go.WideMaps
set_option linter.unusedVariables false
set_option maxRecDepth 1000000
set_option linter.unusedSimpArgs false

def runA (t : Tm) : Array Value := #[.int .u64 t.due, .int .u64 t.per, .int .i64 t.what]
/-- A timer lies in its block. -/
def Ru (t : Tm) (w : World) : Prop := w.heap[t.bk]? = some (.cells (runA t) 65 (0, 0))
def whA (now given bt S n : Nat) : Array Value := #[.int .u64 now, .int .i64 given, .map (some bt), .slice (some ⟨S, 0, none⟩) n n]
def inSlot (n i : Nat) (ts : List Tm) : List Tm := ts.filter (fun t => t.due % n == i)
/-- A wheel at g: ts are its timers by their numbers, ls those that lie in slots; bt, S, sm: where the maps and the slots are. -/
structure Wh (g now given n : Nat) (ts ls : List Tm) (bt S : Nat) (sm : Nat → Option Nat) (w : World) : Prop where
  head : w.heap[g]? = some (.cells (whA now given bt S n) 57 (0, 0))
  tim : PM w bt ts
  row : ∃ cs : Array Value, w.heap[S]? = some (.cells cs 73 (0, 0)) ∧ cs.size = n ∧ ∀ i, i < n → cs[i]? = some (.map (sm i))
  none' : ∀ i, i < n → sm i = none → inSlot n i ls = []
  maps : ∀ i b, i < n → sm i = some b → PM w b (inSlot n i ls) ∧ b ≠ bt
  inj : ∀ i j b, i < n → j < n → sm i = some b → sm j = some b → i = j
  rts : ∀ t ∈ ts, Ru t w
  rls : ∀ t ∈ ls, Ru t w
  up : Rise ts
  upl : Rise ls
  n0 : 0 < n
  n1 : n ≤ 4096
  g1 : given < 4611686018427387904
  w1 : now < 4611686018427387904
  nos : ∀ t ∈ ts, t.no ≤ given
theorem Wh.lt {g now given n : Nat} {ts ls : List Tm} {bt S : Nat} {sm : Nat → Option Nat} {w : World} (h : Wh g now given n ts ls bt S sm w) : g < w.heap.size := (Array.getElem?_eq_some_iff.1 h.head).1
theorem Wh.c {g now given n : Nat} {ts ls : List Tm} {bt S : Nat} {sm : Nat → Option Nat} {w : World} (h : Wh g now given n ts ls bt S sm w) :
    w.cell? ⟨g, 0, none⟩ = some (.int .u64 now) ∧ w.cell? ⟨g, 1, none⟩ = some (.int .i64 given) ∧ w.cell? ⟨g, 2, none⟩ = some (.map (some bt)) ∧ w.cell? ⟨g, 3, none⟩ = some (.slice (some ⟨S, 0, none⟩) n n) :=
  ⟨(Lib.cell_of_heap h.head 0).trans rfl, (Lib.cell_of_heap h.head 1).trans rfl, (Lib.cell_of_heap h.head 2).trans rfl, (Lib.cell_of_heap h.head 3).trans rfl⟩
theorem Ru.c {t : Tm} {w : World} (h : Ru t w) : w.cell? ⟨t.bk, 0, none⟩ = some (.int .u64 t.due) ∧ w.cell? ⟨t.bk, 1, none⟩ = some (.int .u64 t.per) ∧ w.cell? ⟨t.bk, 2, none⟩ = some (.int .i64 t.what) :=
  ⟨(Lib.cell_of_heap h 0).trans rfl, (Lib.cell_of_heap h 1).trans rfl, (Lib.cell_of_heap h 2).trans rfl⟩
section
variable {g now given n : Nat} {ts ls : List Tm} {bt S : Nat} {sm : Nat → Option Nat} {w : World}
theorem Now_any (h : Wh g now given n ts ls bt S sm w) : Calls Try.prog 11 #[.pointer (some ⟨g, 0, none⟩)] w fun e w' => e = .returned (.int .u64 now) ∧ w' = w := by
  obtain ⟨c0, c1, c2, c3⟩ := h.c
  clear h
  go_enter Try.func11, Try.ntmps11
  go_wp2
  go_ret
  exact ⟨rfl, rfl⟩
theorem Len_any (h : Wh g now given n ts ls bt S sm w) : Calls Try.prog 12 #[.pointer (some ⟨g, 0, none⟩)] w fun e w' => e = .returned (.int .i64 ts.length) ∧ w' = w := by
  obtain ⟨c0, c1, c2, c3⟩ := h.c
  have hl := h.tim.len und_mapt
  clear h
  go_enter Try.func12, Try.ntmps12
  go_wp2
  go_ret
  exact ⟨rfl, rfl⟩
theorem place_any (h : Wh g now given n ts ls bt S sm w) (tick : Nat) (ht : tick < 18446744073709551616) : Calls Try.prog 38 #[.pointer (some ⟨g, 0, none⟩), .int .u64 tick] w fun e w' => e = .returned (.int .i64 ((tick % n : Nat) : Int)) ∧ w' = w := by
  obtain ⟨c0, c1, c2, c3⟩ := h.c
  have n0 := h.n0
  have n1 := h.n1
  have hm : tick % n < 4096 := Nat.lt_of_lt_of_le (Nat.mod_lt _ n0) n1
  have hr : (tick : Int).tmod (n : Int) = ((tick % n : Nat) : Int) := by rfl
  have hne : ((n : Int) == 0) = false := by rw [beq_eq_false_iff_ne]; omega
  have hne2 : ¬ (n : Int) = 0 := by omega
  have hne3 : ¬ n = 0 := by omega
  generalize tick % n = r at *
  clear h
  go_enter Try.func38, Try.ntmps38
  go_wp2
  go_ret
  exact ⟨rfl, rfl⟩
end
end Go.Proofs.Ytjkkclojidhgdaa
