/- Contract of does: something that happens, to the program's unit and to the document's. -/
import Derived.Test.YtajoganfpppimaaUnit4
import Derived.Deep.RegionWith
namespace Go.Proofs.Ytajoganfpppimaa
open Go.RowKit
set_option linter.unusedVariables false
set_option maxRecDepth 1000000

/-- Something that happens. -/
structure Ac where
  kind : Int
  n : Int
  how : Bool
  times : Nat
def Ac.arr (a : Ac) : Array Value := #[.int .i64 a.kind, .int .i64 a.n, .bool a.how, .int .u8 a.times]
def Ac.val (a : Ac) : Value := .agg a.arr
def Ac.ok (a : Ac) : Prop := (-9223372036854775808 ≤ a.kind ∧ a.kind < 9223372036854775808) ∧ (-9223372036854775808 ≤ a.n ∧ a.n < 9223372036854775808) ∧ a.times < 256
def Ac.on (a : Ac) (u : Un) : Un := if a.kind = 0 then u.sent else if a.kind = 1 then u.recv else if a.kind = 2 then u.fail a.how else if a.kind = 3 then u.err a.how else if a.kind = 4 then u.idle a.n else if a.kind = 5 then Un.nul else u
def Ac.told (a : Ac) (u v : Un) : Bool := if a.kind = 4 then (u.back a.n == v.back a.n) else true
theorem Ac.ok_on (a : Ac) {u : Un} (h : u.ok) : (a.on u).ok := by
  unfold Ac.on
  repeat' split
  · exact Un.ok_sent h
  · exact Un.ok_recv h
  · exact Un.ok_fail _ h
  · exact Un.ok_err _ h
  · exact Un.ok_idle _ h
  · exact Un.ok_nul
  · exact h
theorem Ac.told_same (a : Ac) (u : Un) : a.told u u = true := by unfold Ac.told; split <;> simp
section
variable {g q : Nat} {u v : Un} {w : World}
/-- What is left behind it. -/
def Done (a : Ac) (g q : Nat) (u v : Un) (w : World) (e : Ending) (w' : World) : Prop := e = .returned (.bool (a.told u v)) ∧ Ua g (a.on u) w' ∧ Da q (a.on v) w' ∧ Two g q w w'

set_option maxHeartbeats 1000000 in
theorem does_0 (n : Int) (how : Bool) (times : Nat) (hk : u.ok) (hv : v.ok) (hgq : g ≠ q) (hU : Ua g u w) (hD : Da q v w) :
    Calls Try.prog 9 #[.pointer (some ⟨g, 0, none⟩), .pointer (some ⟨q, 0, none⟩), .agg (Ac.arr ⟨0, n, how, times⟩)] w (Done ⟨0, n, how, times⟩ g q u v w) := by
  unfold Ac.arr
  have U1 := hU.alloc (.cells #[.int .i64 0, .int .i64 n, .bool how, .int .u8 times] 29)
  have D1 := hD.alloc (.cells #[.int .i64 0, .int .i64 n, .bool how, .int .u8 times] 29)
  have T1 : Two g q w (w.alloc (.cells #[.int .i64 0, .int .i64 n, .bool how, .int .u8 times] 29)) := (Two.refl _ _ _).alloc _
  go_enter Try.func9, Try.ntmps9
  go_wp2_with fail
  refine (sent_any hk U1).mono ?_
  rintro e w1 ⟨rfl, U2, T2⟩
  have D2 := D1.two T2 (Ne.symm hgq) (Ne.symm hgq)
  have T3 := T1.trans (T2.left q)
  clear U1 D1 T1 T2
  go_wp2_with fail
  refine (dsent_any hv D2).mono ?_
  rintro e w2 ⟨rfl, D3, T4⟩
  have U3 := U2.two T4 hgq hgq
  have T5 := T3.trans (T4.right g)
  go_wp2
  go_ret
  exact ⟨rfl, U3, D3, T5⟩
set_option maxHeartbeats 1000000 in
theorem does_4 (n : Int) (hn : -9223372036854775808 ≤ n ∧ n < 9223372036854775808) (how : Bool) (times : Nat) (hk : u.ok) (hv : v.ok) (hgq : g ≠ q) (hU : Ua g u w) (hD : Da q v w) :
    Calls Try.prog 9 #[.pointer (some ⟨g, 0, none⟩), .pointer (some ⟨q, 0, none⟩), .agg (Ac.arr ⟨4, n, how, times⟩)] w (Done ⟨4, n, how, times⟩ g q u v w) := by
  unfold Ac.arr
  have U1 := hU.alloc (.cells #[.int .i64 4, .int .i64 n, .bool how, .int .u8 times] 29)
  have D1 := hD.alloc (.cells #[.int .i64 4, .int .i64 n, .bool how, .int .u8 times] 29)
  have T1 : Two g q w (w.alloc (.cells #[.int .i64 4, .int .i64 n, .bool how, .int .u8 times] 29)) := (Two.refl _ _ _).alloc _
  go_enter Try.func9, Try.ntmps9
  go_wp2_with fail
  have l1 := hU.lt
  have l2 := hD.lt
  have A1 : (w.alloc (.cells #[.int .i64 4, .int .i64 n, .bool how, .int .u8 times] 29)).heap[w.heap.size]? = some (.cells #[.int .i64 4, .int .i64 n, .bool how, .int .u8 times] 29 (0, 0)) := heap_alloc_new w _
  have HA : Hid (∀ w1, Two g g (w.alloc (.cells #[.int .i64 4, .int .i64 n, .bool how, .int .u8 times] 29)) w1 → w1.cell? ⟨w.heap.size, 1, none⟩ = some (.int .i64 n)) := fun w1 T2 => Lib.cell_of_heap ((T2.block w.heap.size (by simp) (by omega) (by omega)).trans A1) 1
  have HD1 : Hid (∀ w1, Two g g (w.alloc (.cells #[.int .i64 4, .int .i64 n, .bool how, .int .u8 times] 29)) w1 → Da q v w1) := fun w1 T2 => D1.two T2 (Ne.symm hgq) (Ne.symm hgq)
  clear A1
  go_region_with (first | (go_at_call 17; refine (idle_any n hn hk (by exact U1)).mono ?_; rintro e w1 ⟨rfl, U2, T2⟩; have T2' : Two g g (w.alloc (.cells #[.int .i64 4, .int .i64 n, .bool how, .int .u8 times] 29)) w1 := ⟨T2.os, T2.tape, T2.output, T2.size, T2.block⟩; have c1 := HA.out w1 T2'; have D2 := HD1.out w1 T2'; clear T2) | (go_at_call 26; refine (didle_any n hn hv (by assumption)).mono ?_; rintro e w2 ⟨rfl, D3, T4⟩))
  all_goals
    have U3 := U2.two T4 hgq hgq
    have T5 : Two g q w w2 := ((T1.trans (T2'.left q))).trans ((⟨T4.os, T4.tape, T4.output, T4.size, T4.block⟩ : Two q q w1 w2).right g)
    go_wp2
    go_ret
    exact ⟨rfl, U3, D3, T5⟩
set_option maxHeartbeats 1000000 in
theorem does_1 (n : Int) (how : Bool) (times : Nat) (hk : u.ok) (hv : v.ok) (hgq : g ≠ q) (hU : Ua g u w) (hD : Da q v w) :
    Calls Try.prog 9 #[.pointer (some ⟨g, 0, none⟩), .pointer (some ⟨q, 0, none⟩), .agg (Ac.arr ⟨1, n, how, times⟩)] w (Done ⟨1, n, how, times⟩ g q u v w) := by
  unfold Ac.arr
  have U1 := hU.alloc (.cells #[.int .i64 1, .int .i64 n, .bool how, .int .u8 times] 29)
  have D1 := hD.alloc (.cells #[.int .i64 1, .int .i64 n, .bool how, .int .u8 times] 29)
  have T1 : Two g q w (w.alloc (.cells #[.int .i64 1, .int .i64 n, .bool how, .int .u8 times] 29)) := (Two.refl _ _ _).alloc _
  go_enter Try.func9, Try.ntmps9
  go_wp2_with fail
  refine (recv_any hk U1).mono ?_
  rintro e w1 ⟨rfl, U2, T2⟩
  have D2 := D1.two T2 (Ne.symm hgq) (Ne.symm hgq)
  have T3 := T1.trans (T2.left q)
  clear U1 D1 T1 T2
  go_wp2_with fail
  refine (drecv_any hv D2).mono ?_
  rintro e w2 ⟨rfl, D3, T4⟩
  have U3 := U2.two T4 hgq hgq
  have T5 := T3.trans (T4.right g)
  go_wp2
  go_ret
  exact ⟨rfl, U3, D3, T5⟩
set_option maxHeartbeats 1000000 in
theorem does_2 (n : Int) (how : Bool) (times : Nat) (hk : u.ok) (hv : v.ok) (hgq : g ≠ q) (hU : Ua g u w) (hD : Da q v w) :
    Calls Try.prog 9 #[.pointer (some ⟨g, 0, none⟩), .pointer (some ⟨q, 0, none⟩), .agg (Ac.arr ⟨2, n, how, times⟩)] w (Done ⟨2, n, how, times⟩ g q u v w) := by
  unfold Ac.arr
  have U1 := hU.alloc (.cells #[.int .i64 2, .int .i64 n, .bool how, .int .u8 times] 29)
  have D1 := hD.alloc (.cells #[.int .i64 2, .int .i64 n, .bool how, .int .u8 times] 29)
  have T1 : Two g q w (w.alloc (.cells #[.int .i64 2, .int .i64 n, .bool how, .int .u8 times] 29)) := (Two.refl _ _ _).alloc _
  have l1 := hU.lt
  have l2 := hD.lt
  have A1 : (w.alloc (.cells #[.int .i64 2, .int .i64 n, .bool how, .int .u8 times] 29)).heap[w.heap.size]? = some (.cells #[.int .i64 2, .int .i64 n, .bool how, .int .u8 times] 29 (0, 0)) := heap_alloc_new w _
  have HA : Hid (∀ w1, Two g g (w.alloc (.cells #[.int .i64 2, .int .i64 n, .bool how, .int .u8 times] 29)) w1 → w1.cell? ⟨w.heap.size, 2, none⟩ = some (.bool how)) := fun w1 T2 => Lib.cell_of_heap ((T2.block w.heap.size (by simp) (by omega) (by omega)).trans A1) 2
  clear A1
  go_enter Try.func9, Try.ntmps9
  go_wp2_with fail
  refine (fail_any how hk U1).mono ?_
  rintro e w1 ⟨rfl, U2, T2⟩
  have D2 := D1.two T2 (Ne.symm hgq) (Ne.symm hgq)
  have c1 := HA.out w1 T2
  have T3 := T1.trans (T2.left q)
  clear U1 D1 T1 T2
  go_wp2_with fail
  refine (dfail_any how hv D2).mono ?_
  rintro e w2 ⟨rfl, D3, T4⟩
  have U3 := U2.two T4 hgq hgq
  have T5 := T3.trans (T4.right g)
  go_wp2
  go_ret
  exact ⟨rfl, U3, D3, T5⟩
set_option maxHeartbeats 1000000 in
theorem does_3 (n : Int) (how : Bool) (times : Nat) (hk : u.ok) (hv : v.ok) (hgq : g ≠ q) (hU : Ua g u w) (hD : Da q v w) :
    Calls Try.prog 9 #[.pointer (some ⟨g, 0, none⟩), .pointer (some ⟨q, 0, none⟩), .agg (Ac.arr ⟨3, n, how, times⟩)] w (Done ⟨3, n, how, times⟩ g q u v w) := by
  unfold Ac.arr
  have U1 := hU.alloc (.cells #[.int .i64 3, .int .i64 n, .bool how, .int .u8 times] 29)
  have D1 := hD.alloc (.cells #[.int .i64 3, .int .i64 n, .bool how, .int .u8 times] 29)
  have T1 : Two g q w (w.alloc (.cells #[.int .i64 3, .int .i64 n, .bool how, .int .u8 times] 29)) := (Two.refl _ _ _).alloc _
  have l1 := hU.lt
  have l2 := hD.lt
  have A1 : (w.alloc (.cells #[.int .i64 3, .int .i64 n, .bool how, .int .u8 times] 29)).heap[w.heap.size]? = some (.cells #[.int .i64 3, .int .i64 n, .bool how, .int .u8 times] 29 (0, 0)) := heap_alloc_new w _
  have HA : Hid (∀ w1, Two g g (w.alloc (.cells #[.int .i64 3, .int .i64 n, .bool how, .int .u8 times] 29)) w1 → w1.cell? ⟨w.heap.size, 2, none⟩ = some (.bool how)) := fun w1 T2 => Lib.cell_of_heap ((T2.block w.heap.size (by simp) (by omega) (by omega)).trans A1) 2
  clear A1
  go_enter Try.func9, Try.ntmps9
  go_wp2_with fail
  refine (err_any how hk U1).mono ?_
  rintro e w1 ⟨rfl, U2, T2⟩
  have D2 := D1.two T2 (Ne.symm hgq) (Ne.symm hgq)
  have c1 := HA.out w1 T2
  have T3 := T1.trans (T2.left q)
  clear U1 D1 T1 T2
  go_wp2_with fail
  refine (derr_any how hv D2).mono ?_
  rintro e w2 ⟨rfl, D3, T4⟩
  have U3 := U2.two T4 hgq hgq
  have T5 := T3.trans (T4.right g)
  go_wp2
  go_ret
  exact ⟨rfl, U3, D3, T5⟩
set_option maxHeartbeats 1000000 in
theorem does_5 (n : Int) (how : Bool) (times : Nat) (hk : u.ok) (hv : v.ok) (hgq : g ≠ q) (hU : Ua g u w) (hD : Da q v w) :
    Calls Try.prog 9 #[.pointer (some ⟨g, 0, none⟩), .pointer (some ⟨q, 0, none⟩), .agg (Ac.arr ⟨5, n, how, times⟩)] w (Done ⟨5, n, how, times⟩ g q u v w) := by
  unfold Ac.arr
  have U1 := hU.alloc (.cells #[.int .i64 5, .int .i64 n, .bool how, .int .u8 times] 29)
  have D1 := hD.alloc (.cells #[.int .i64 5, .int .i64 n, .bool how, .int .u8 times] 29)
  have T1 : Two g q w (w.alloc (.cells #[.int .i64 5, .int .i64 n, .bool how, .int .u8 times] 29)) := (Two.refl _ _ _).alloc _
  go_enter Try.func9, Try.ntmps9
  go_wp2_with fail
  refine (reset_any U1).mono ?_
  rintro e w1 ⟨rfl, U2, T2⟩
  have D2 := D1.two T2 (Ne.symm hgq) (Ne.symm hgq)
  have T3 := T1.trans (T2.left q)
  clear U1 D1 T1 T2
  go_wp2_with fail
  refine (dreset_any D2).mono ?_
  rintro e w2 ⟨rfl, D3, T4⟩
  have U3 := U2.two T4 hgq hgq
  have T5 := T3.trans (T4.right g)
  go_wp2
  go_ret
  exact ⟨rfl, U3, D3, T5⟩
set_option maxHeartbeats 1000000 in
theorem does_9 (a : Ac) (h0 : a.kind ≠ 0) (h1 : a.kind ≠ 1) (h2 : a.kind ≠ 2) (h3 : a.kind ≠ 3) (h4 : a.kind ≠ 4) (h5 : a.kind ≠ 5) (hU : Ua g u w) (hD : Da q v w) :
    Calls Try.prog 9 #[.pointer (some ⟨g, 0, none⟩), .pointer (some ⟨q, 0, none⟩), .agg a.arr] w (Done a g q u v w) := by
  have HD : Hid (∀ w', Ua g u w' → Da q v w' → Two g q w w' → Done a g q u v w (.returned (.bool true)) w') := by
    intro w' b c d
    refine ⟨?_, ?_, ?_, d⟩
    · unfold Ac.told; rw [if_neg h4]
    · unfold Ac.on; rw [if_neg h0, if_neg h1, if_neg h2, if_neg h3, if_neg h4, if_neg h5]; exact b
    · unfold Ac.on; rw [if_neg h0, if_neg h1, if_neg h2, if_neg h3, if_neg h4, if_neg h5]; exact c
  have e0 : (a.kind == 0) = false := by simpa using h0
  have e1 : (a.kind == 1) = false := by simpa using h1
  have e2 : (a.kind == 2) = false := by simpa using h2
  have e3 : (a.kind == 3) = false := by simpa using h3
  have e4 : (a.kind == 4) = false := by simpa using h4
  have e5 : (a.kind == 5) = false := by simpa using h5
  unfold Ac.arr
  generalize Done a g q u v w = P at *
  generalize a.kind = kk at *
  have U1 := hU.alloc (.cells #[.int .i64 kk, .int .i64 a.n, .bool a.how, .int .u8 a.times] 29)
  have D1 := hD.alloc (.cells #[.int .i64 kk, .int .i64 a.n, .bool a.how, .int .u8 a.times] 29)
  have T1 : Two g q w (w.alloc (.cells #[.int .i64 kk, .int .i64 a.n, .bool a.how, .int .u8 a.times] 29)) := (Two.refl _ _ _).alloc _
  clear h0 h1 h2 h3 h4 h5
  go_enter Try.func9, Try.ntmps9
  go_wp2
  exact HD.out _ U1 D1 T1
theorem does_any (a : Ac) (ha : a.ok) (hk : u.ok) (hv : v.ok) (hgq : g ≠ q) (hU : Ua g u w) (hD : Da q v w) :
    Calls Try.prog 9 #[.pointer (some ⟨g, 0, none⟩), .pointer (some ⟨q, 0, none⟩), .agg a.arr] w (Done a g q u v w) := by
  obtain ⟨kk, n, how, times⟩ := a
  obtain ⟨_, hn, _⟩ := ha
  by_cases h0 : kk = 0
  · subst h0; exact does_0 n how times hk hv hgq hU hD
  by_cases h1 : kk = 1
  · subst h1; exact does_1 n how times hk hv hgq hU hD
  by_cases h2 : kk = 2
  · subst h2; exact does_2 n how times hk hv hgq hU hD
  by_cases h3 : kk = 3
  · subst h3; exact does_3 n how times hk hv hgq hU hD
  by_cases h4 : kk = 4
  · subst h4; exact does_4 n hn how times hk hv hgq hU hD
  by_cases h5 : kk = 5
  · subst h5; exact does_5 n how times hk hv hgq hU hD
  exact does_9 _ h0 h1 h2 h3 h4 h5 hU hD
end
end Go.Proofs.Ytajoganfpppimaa
