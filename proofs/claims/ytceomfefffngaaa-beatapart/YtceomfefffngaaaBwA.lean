/- Hearts, watched nodes and news in memory. -/
import Derived.Test.YtceomfefffngaaaBwM
import Derived.Test.YtceomfefffngaaaKqX
namespace Go.Proofs.Ytceomfefffngaaa
open Go.RowKit
set_option linter.unusedVariables false
set_option maxRecDepth 1000000
set_option linter.unusedSimpArgs false
def Ne.cs (a : Ne) : List Value := [.int .i64 a.nd, .int .i64 a.wh, .int .i64 a.st]
def Ne.arr (a : Ne) : Array Value := #[.int .i64 a.nd, .int .i64 a.wh, .int .i64 a.st]
def DN : Dec Ne := ⟨Ne.cs, 3, by decide, fun _ => rfl, fun a u hu => by simp [Ne.cs] at hu; rcases hu with rfl | rfl | rfl <;> rfl⟩
def Wt.cs (x : Wt) : List Value := [.int .i64 x.nd, .int .u64 x.tk, .bool (decide (x.is ≠ 0)), .bool (decide (x.is = 2)), .int .i64 x.st, .int .u64 x.si]
def Wt.arr (x : Wt) : Array Value := #[.int .i64 x.nd, .int .u64 x.tk, .bool (decide (x.is ≠ 0)), .bool (decide (x.is = 2)), .int .i64 x.st, .int .u64 x.si]
def DW : Dec Wt := ⟨Wt.cs, 6, by decide, fun _ => rfl, fun a u hu => by simp [Wt.cs] at hu; rcases hu with rfl | rfl | rfl | rfl | rfl | rfl <;> rfl⟩
def Wt.ss (x : Wt) : List Value := [.int .i64 x.is, .int .i64 x.st, .int .u64 x.si]
def DS : Dec Wt := ⟨Wt.ss, 3, by decide, fun _ => rfl, fun a u hu => by simp [Wt.ss] at hu; rcases hu with rfl | rfl | rfl <;> rfl⟩
def Wt.qs (x : Wt) : List Value := [.int .i64 x.nd, .int .u64 x.tk]
theorem infoN : (Try.prog.info? 55).map (fun i => (i.zero, i.size, i.bytes)) = some (some (.agg #[.int .i64 0, .int .i64 0, .int .i64 0]), 3, 24) := by kernel_rfl
theorem infoN1 : (Try.prog.info? 55).map (·.size) = some 3 := by kernel_rfl
theorem infoWd : (Try.prog.info? 84).map (fun i => (i.zero, i.size, i.bytes)) = some (some (.agg #[.int .i64 0, .int .u64 0, .bool false, .bool false, .int .i64 0, .int .u64 0]), 6, 40) := by kernel_rfl
theorem infoWd1 : (Try.prog.info? 84).map (·.size) = some 6 := by kernel_rfl
theorem infoWq1 : (Try.prog.info? 59).map (·.size) = some 2 := by kernel_rfl
theorem own_new {α : Type} (D : Dec α) (w : World) (x : α) (e : TypeId) : (w.alloc (.cells (D.dec x).toArray e)).ownsRow w.heap.size e D.c (.slice (some ⟨w.heap.size, 0, none⟩) 1 1) 1 (flatW D [x]) := by
  refine ⟨by simp [flatW, D.len], .inr ⟨w.heap.size, 1, (D.dec x).toArray, rfl, Nat.le_refl _, heap_alloc_new w _, Nat.le_refl _, by decide, by simp [D.len], ?_⟩⟩
  have h1 : (D.dec x).toArray.toList = D.dec x := by simp
  rw [h1, Nat.one_mul, List.take_of_length_le (by rw [D.len]; omega)]
  simp [flatW]
/-- Rows of news that a call made. -/
def Nw (B : Nat) (v : Value) (l : List Ne) (w : World) : Prop := w.ownsRow B 55 3 v l.length (flatW DN l)
theorem Nw.nil (B : Nat) (w : World) : Nw B (.slice none 0 0) [] w := World.ownsRow_nil _ _ _ _
theorem Nw.one (w : World) (a : Ne) : Nw w.heap.size (.slice (some ⟨w.heap.size, 0, none⟩) 1 1) [a] (w.alloc (.cells #[.int .i64 a.nd, .int .i64 a.wh, .int .i64 a.st] 55)) := own_new DN w a 55
theorem Nw.lower {B B' : Nat} {v : Value} {l : List Ne} {w : World} (h : Nw B v l w) (hB : B' ≤ B) : Nw B' v l w := own_lower h hB
theorem Nw.below {B : Nat} {v : Value} {l : List Ne} {w x : World} (h : Nw B v l w) (t : Below w.heap.size w x) : Nw B v l x := own_belowE h t
theorem Nw.shape {B : Nat} {v : Value} {l : List Ne} {w : World} (h : Nw B v l w) : ∃ ao cap, v = .slice ao l.length cap := own_shape5 h
/-- A heart. -/
def Hs (g tk gn : Nat) (w : World) : Prop := Bc 77 g #[.int .u64 tk, .int .u64 gn] w
section
variable {g tk gn : Nat} {w : World}
theorem Hs.cells (h : Hs g tk gn w) : w.cell? ⟨g, 0, none⟩ = some (.int .u64 tk) ∧ w.cell? ⟨g, 1, none⟩ = some (.int .u64 gn) ∧ ∀ k, w.frozen? ⟨g, k, none⟩ = false :=
  ⟨Bc.cell h 0, Bc.cell h 1, fun k => Bc.frozen h k⟩
theorem Hs.set1 (h : Hs g tk gn w) (n : Nat) : Hs g tk n (w.setCell ⟨g, 1, none⟩ (.int .u64 n)) := Bc.set h 1 _
theorem Hs.row (h : Hs g tk gn w) (n m : Nat) : Hs g n m (w.setRow g #[.int .u64 n, .int .u64 m]) := setRow_heap w g _ _ 77 _ h
end
def isSt (s : Int) : Bool := s == 4 || s == 5 || s == 127
theorem isState_any (w : World) (s : Int) : Calls Try.prog 28 #[.int .i64 s] w fun e w' => e = .returned (.bool (isSt s)) ∧ w' = w := by
  by_cases h1 : s = 4
  · subst h1
    go_enter Try.func28, Try.ntmps28
    go_wp2
    go_ret
    exact ⟨rfl, rfl⟩
  · have d1 : (s == 4) = false := by simp [h1]
    by_cases h2 : s = 5
    · subst h2
      go_enter Try.func28, Try.ntmps28
      go_wp2
      go_ret
      exact ⟨rfl, rfl⟩
    · have d2 : (s == 5) = false := by simp [h2]
      have HO : Hid (isSt s = (s == 127)) := by show _ = _; simp [isSt, d1, d2]
      clear h1 h2
      go_enter Try.func28, Try.ntmps28
      go_wp2
      go_ret
      exact ⟨ret_bool (by rw [HO.out]), rfl⟩
section
variable {g tk gn : Nat} {w : World}
theorem hset_bad (n : Nat) (hn : 4294967296 < n) : Calls Try.prog 11 #[.pointer (some ⟨g, 0, none⟩), .int .u64 n] w fun e w' => e = .returned (.int .i64 1) ∧ w' = w := by
  have d1 : decide ((4294967296 : Int) < (n : Int)) = true := by simp; omega
  have d2 : decide (4294967296 < n) = true := by simp; omega
  go_enter Try.func11, Try.ntmps11
  go_wp2
  go_ret
  exact ⟨rfl, rfl⟩
theorem hset_ok (h : Hs g tk gn w) (n : Nat) (hn : n ≤ 4294967296) : Calls Try.prog 11 #[.pointer (some ⟨g, 0, none⟩), .int .u64 n] w fun e w' => e = .returned (.int .i64 0) ∧ Hs g n 0 w' ∧ Two g g w w' := by
  have d1 : decide ((4294967296 : Int) < (n : Int)) = false := by simp; omega
  have d2 : decide (4294967296 < n) = false := by simp; omega
  obtain ⟨c0, c1, hf⟩ := h.cells
  have f0 := hf 0
  have f1 := hf 1
  have HR : Hid (Hs g n 0 ((w.setCell ⟨g, 0, none⟩ (.int .u64 n)).setCell ⟨g, 1, none⟩ (.int .u64 0))) := Bc.set (Bc.set h 0 _) 1 _
  clear h hn
  go_enter Try.func11, Try.ntmps11
  go_wp2
  go_ret
  exact ⟨rfl, HR.out, ((Two.refl _ _ _).at0 _ _).at0 _ _⟩
theorem hnew_bad (n : Nat) (hn : 4294967296 < n) : Calls Try.prog 9 #[.int .u64 n] w fun e w' => e = .returned (.tuple #[.pointer none, .int .i64 1]) ∧ Below w.heap.size w w' := by
  have HS := fun (x : World) (p : Nat) => hset_bad (g := p) (w := x) n hn
  have HB : Hid (Below w.heap.size w (w.alloc (.cells #[.int .u64 0, .int .u64 0] 77))) := (Below.refl _ _).alloc (Nat.le_refl _) _
  clear hn
  go_enter Try.func9, Try.ntmps9
  go_wp2_with (go_at_call 11; refine (HS _ _).mono ?_; rintro e w' ⟨rfl, rfl⟩)
  go_ret2
  exact ⟨rfl, HB.out⟩
theorem hnew_ok (n : Nat) (hn : n ≤ 4294967296) : Calls Try.prog 9 #[.int .u64 n] w fun e w' => e = .returned (.tuple #[.pointer (some ⟨w.heap.size, 0, none⟩), .int .i64 0]) ∧ Hs w.heap.size n 0 w' ∧ Below w.heap.size w w' := by
  have h0 : Hs w.heap.size 0 0 (w.alloc (.cells #[.int .u64 0, .int .u64 0] 77)) := heap_alloc_new w _
  have HS := hset_ok h0 n hn
  have HB : Hid (Below w.heap.size w (w.alloc (.cells #[.int .u64 0, .int .u64 0] 77))) := (Below.refl _ _).alloc (Nat.le_refl _) _
  have hsz : w.heap.size ≤ (w.alloc (.cells #[.int .u64 0, .int .u64 0] 77)).heap.size := by simp
  clear hn h0
  obtain ⟨W, hW⟩ : ∃ x, w.alloc (.cells #[.int .u64 0, .int .u64 0] 77) = x := ⟨_, rfl⟩
  rw [hW] at HS HB hsz
  go_enter Try.func9, Try.ntmps9
  go_wp2_with (go_at_call 11; refine HS.mono ?_; rintro e w' ⟨rfl, N2, T2⟩)
  go_ret2
  exact ⟨rfl, N2, HB.out.trans (T2.below hsz (Nat.le_refl _) (Nat.le_refl _))⟩
/-- What a tick of a heart leaves, and what it tells. -/
def goneK (tk gn : Nat) : Nat := if tk = 0 then gn else if gn + 1 < tk then gn + 1 else 0
def nowK (tk gn : Nat) (s : Int) : Bool := decide (tk ≠ 0) && decide (tk ≤ gn + 1) && isSt s
def HtA (b : Bool) (s : Int) (B : Nat) (r : Value) (w : World) : Prop := if b then ∃ q, r = .tuple #[.slice (some ⟨q, 0, none⟩) 1 1, .bool true] ∧ B ≤ q ∧ q < w.heap.size ∧ w.cell? ⟨q, 0, none⟩ = some (.int .u8 s) else r = .tuple #[.slice none 0 0, .bool false]
theorem isSt_u8 {s : Int} (h : isSt s = true) : IntKind.u8.wrap s = s := by
  simp [isSt, or_assoc] at h
  rcases h with rfl | rfl | rfl <;> rfl
theorem htick_any (h : Hs g tk gn w) (h1 : gn < 4611686018427387904) (h2 : tk ≤ 4294967296) (s : Int) : Calls Try.prog 12 #[.pointer (some ⟨g, 0, none⟩), .int .i64 s] w fun e w' => ∃ r, e = .returned r ∧ HtA (nowK tk gn s) s w.heap.size r w' ∧ Hs g tk (goneK tk gn) w' ∧ Two g g w w' := by
  obtain ⟨c0, c1, hf⟩ := h.cells
  have f1 := hf 1
  by_cases h0 : tk = 0
  · have HG : Hid (goneK tk gn = gn) := by show _ = _; simp [goneK, h0]
    have HN : Hid (nowK tk gn s = false) := by show _ = _; simp [nowK, h0]
    have HH := hidOf2 h
    rw [h0] at c0
    clear h h0
    go_enter Try.func12, Try.ntmps12
    go_wp2
    go_ret2
    refine ⟨_, rfl, ?_, by rw [HG.out]; exact HH.out, Two.refl _ _ _⟩
    rw [HN.out]
    rfl
  · have d0 : ((tk : Int) == 0) = false := by simp [h0]
    have d0' : (tk == 0) = false := by simp [h0]
    have hw1 : IntKind.u64.wrap ((gn : Int) + 1) = ((gn + 1 : Nat) : Int) := by simp [IntKind.wrap, IntKind.bits, IntKind.signed]; omega
    obtain ⟨m, hm⟩ : ∃ m, gn + 1 = m := ⟨_, rfl⟩
    have hs1 := h.set1 (gn + 1)
    rw [hm] at hw1 hs1
    have k1 := hs1.cells
    have e1 : (w.setCell ⟨g, 1, none⟩ (.int .u64 m)).frozen? ⟨g, 1, none⟩ = false := k1.2.2 1
    obtain ⟨W, hW⟩ : ∃ x, w.setCell ⟨g, 1, none⟩ (.int .u64 m) = x := ⟨_, rfl⟩
    have T1 : Two g g w W := by rw [← hW]; exact (Two.refl _ _ _).at0 _ _
    rw [hW] at hs1 k1 e1
    obtain ⟨k0, k1, _⟩ := k1
    by_cases hlt : m < tk
    · have HG : Hid (goneK tk gn = m) := by show _ = _; rw [goneK, if_neg h0, if_pos (by omega)]; exact hm
      have HN : Hid (nowK tk gn s = false) := by show _ = _; simp [nowK]; omega
      have dl : decide ((m : Int) < (tk : Int)) = true := by simp; omega
      have HH := hidOf2 hs1
      have HT := hidOf2 T1
      clear h h0 hs1 hm T1
      go_enter Try.func12, Try.ntmps12
      go_wp2_with fail
      go_quiet (fail)
      go_wp2
      go_ret2
      refine ⟨_, rfl, ?_, by rw [HG.out]; exact Bc.drawn HH.out _, HT.out.drawn _⟩
      rw [HN.out]
      rfl
    · have HG : Hid (goneK tk gn = 0) := by show _ = _; rw [goneK, if_neg h0, if_neg (by omega)]
      have HN : Hid (nowK tk gn s = isSt s) := by show _ = _; unfold nowK; simp [h0]; omega
      have dl : decide ((m : Int) < (tk : Int)) = false := by simp; omega
      have HI := fun x => isState_any x s
      have HH : Hid (∀ n, Hs g tk 0 ((W.drewN n).setCell ⟨g, 1, none⟩ (.int .u64 0))) := fun n => Hs.set1 (Bc.drawn hs1 n) 0
      have HT : Hid (∀ n, Two g g w ((W.drewN n).setCell ⟨g, 1, none⟩ (.int .u64 0))) := fun n => (T1.drawn n).at0 _ _
      cases hs : isSt s
      · rw [hs] at HI HN
        clear h h0 hs1 hm T1 hs
        go_enter Try.func12, Try.ntmps12
        go_wp2_with fail
        go_quiet (fail)
        go_wp2_with (go_at_call 28; refine (HI _).mono ?_; rintro e w' ⟨rfl, rfl⟩)
        go_ret2
        refine ⟨_, rfl, ?_, by rw [HG.out]; exact HH.out _, HT.out _⟩
        rw [HN.out]
        rfl
      · rw [hs] at HI HN
        have hu := isSt_u8 hs
        have lg := Bc.lt h
        clear h h0 hs1 hm hs
        go_enter Try.func12, Try.ntmps12
        go_wp2_with fail
        go_quiet (fail)
        go_wp2_with (go_at_call 28; refine (HI _).mono ?_; rintro e w' ⟨rfl, rfl⟩)
        go_ret2
        refine ⟨_, rfl, ?_, by rw [HG.out]; exact Bc.alloc (HH.out _) _, (HT.out _).alloc _⟩
        rw [HN.out]
        unfold HtA
        rw [if_pos rfl]
        have es : ∀ n, W.heap.size = ((W.drewN n).setCell ⟨g, 1, none⟩ (.int .u64 0)).heap.size := fun n => by simp [World.setCell]
        refine ⟨_, rfl, by have := T1.size; exact this, by simp [World.setCell], ?_⟩
        rw [es]
        exact Lib.cell_of_heap (heap_alloc_new _ (.cells #[.int .u8 s] 5)) 0
end
end Go.Proofs.Ytceomfefffngaaa
