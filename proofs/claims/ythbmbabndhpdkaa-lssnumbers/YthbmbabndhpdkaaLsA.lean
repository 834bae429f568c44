/- The program's slave in memory; its small functions. -/
import Derived.Test.YthbmbabndhpdkaaLsR
import Derived.Test.YthbmbabndhpdkaaLtX
import Derived.Deep.DeepCutAuto
namespace Go.Proofs.Ythbmbabndhpdkaa
open Go.RowKit
open Classical
set_option linter.unusedVariables false
set_option maxRecDepth 1000000
set_option linter.unusedSimpArgs false
def ptK (p : Option Nat) : Value := .pointer (p.map fun k => ⟨k, 0, none⟩)
def Ls.arr (s : Ls) (p : Option Nat) : Array Value := #[.int .u32 (s.a.x0 : Int), .int .u32 (s.a.x1 : Int), .int .u32 (s.a.x2 : Int), .int .u32 (s.a.x3 : Int), .int .i64 s.mode, .int .i64 s.ip, .int .i64 s.iu, .int .i64 s.rp, .int .i64 s.ru, ptK p, .bool s.fails, .int .u32 (s.c.x0 : Int), .int .u32 (s.c.x1 : Int), .int .u32 (s.c.x2 : Int), .int .u32 (s.c.x3 : Int), .int .i64 s.pk, .int .u8 s.lk]
/-- What is stored. -/
def Kt (g n : Nat) (p : Option Nat) (st : Option (Int × Int)) (w : World) : Prop :=
  (p = none ∧ st = none) ∨ ∃ k x y, p = some k ∧ st = some (x, y) ∧ k ≠ g ∧ k ≠ n ∧ Bc 62 k #[.int .i64 x, .int .i64 y] w
structure Sa (g n : Nat) (p : Option Nat) (s : Ls) (w : World) : Prop where
  hd : Bc 58 g (s.arr p) w
  kt : Kt g n p s.st w
section
variable {g n : Nat} {p : Option Nat} {s : Ls} {w x : World}
theorem Kt.two {st : Option (Int × Int)} {u v : Nat} (h : Kt g n p st w) (t : Two u v w x) (h1 : u = g ∨ u = n) (h2 : v = g ∨ v = n) : Kt g n p st x := by
  rcases h with h | ⟨k, a, b, e1, e2, e3, e4, e5⟩
  · exact .inl h
  · exact .inr ⟨k, a, b, e1, e2, e3, e4, e5.two t (by omega) (by omega)⟩
theorem Kt.below {st : Option (Int × Int)} (h : Kt g n p st w) (t : Below w.heap.size w x) : Kt g n p st x := by
  rcases h with h | ⟨k, a, b, e1, e2, e3, e4, e5⟩
  · exact .inl h
  · exact .inr ⟨k, a, b, e1, e2, e3, e4, e5.below t⟩
theorem Sa.lt (h : Sa g n p s w) : g < w.heap.size := Bc.lt h.hd
theorem Sa.two {u v : Nat} (h : Sa g n p s w) (t : Two u v w x) (h1 : u = n) (h2 : v = n) (hgn : g ≠ n) : Sa g n p s x := ⟨h.hd.two t (by omega) (by omega), h.kt.two t (.inr h1) (.inr h2)⟩
theorem Sa.below (h : Sa g n p s w) (t : Below w.heap.size w x) : Sa g n p s x := ⟨h.hd.below t, h.kt.below t⟩
theorem Sa.drawn (h : Sa g n p s w) (m : Nat) : Sa g n p s (w.drewN m) := ⟨h.hd, h.kt⟩
theorem Sa.alloc (h : Sa g n p s w) (o : Obj) : Sa g n p s (w.alloc o) := h.below ((Below.refl _ _).alloc (Nat.le_refl _) _)
/-- Another block may be the one that is left alone. -/
theorem Sa.leave {m : Nat} (h : Sa g n p s w) (hm : w.heap.size ≤ m) : Sa g m p s w := by
  refine ⟨h.hd, ?_⟩
  rcases h.kt with h | ⟨k, a, b, e1, e2, e3, e4, e5⟩
  · exact .inl h
  · exact .inr ⟨k, a, b, e1, e2, e3, (by have := Bc.lt e5; omega), e5⟩
theorem Sa.set {s' : Ls} {i : Nat} {v : Value} (h : Sa g n p s w) (he : (s.arr p).setIfInBounds i v = s'.arr p) (hs : s'.st = s.st) : Sa g n p s' (w.setCell ⟨g, i, none⟩ v) :=
  ⟨by have := Bc.set h.hd i v; rw [he] at this; exact this, by rw [hs]; exact h.kt.two ((Two.refl g g w).at0 i v) (.inl rfl) (.inl rfl)⟩
theorem Sa.cells (h : Sa g n p s w) : w.cell? ⟨g, 0, none⟩ = some (.int .u32 (s.a.x0 : Int)) ∧ w.cell? ⟨g, 1, none⟩ = some (.int .u32 (s.a.x1 : Int)) ∧ w.cell? ⟨g, 2, none⟩ = some (.int .u32 (s.a.x2 : Int)) ∧ w.cell? ⟨g, 3, none⟩ = some (.int .u32 (s.a.x3 : Int)) ∧ w.cell? ⟨g, 4, none⟩ = some (.int .i64 s.mode) ∧ w.cell? ⟨g, 5, none⟩ = some (.int .i64 s.ip) ∧ w.cell? ⟨g, 6, none⟩ = some (.int .i64 s.iu) ∧ w.cell? ⟨g, 7, none⟩ = some (.int .i64 s.rp) ∧ w.cell? ⟨g, 8, none⟩ = some (.int .i64 s.ru) ∧ w.cell? ⟨g, 9, none⟩ = some (ptK p) ∧ w.cell? ⟨g, 10, none⟩ = some (.bool s.fails) ∧ w.cell? ⟨g, 11, none⟩ = some (.int .u32 (s.c.x0 : Int)) ∧ w.cell? ⟨g, 12, none⟩ = some (.int .u32 (s.c.x1 : Int)) ∧ w.cell? ⟨g, 13, none⟩ = some (.int .u32 (s.c.x2 : Int)) ∧ w.cell? ⟨g, 14, none⟩ = some (.int .u32 (s.c.x3 : Int)) ∧ w.cell? ⟨g, 15, none⟩ = some (.int .i64 s.pk) ∧ w.cell? ⟨g, 16, none⟩ = some (.int .u8 s.lk) ∧ ∀ k, w.frozen? ⟨g, k, none⟩ = false :=
  ⟨Bc.cell h.hd 0, Bc.cell h.hd 1, Bc.cell h.hd 2, Bc.cell h.hd 3, Bc.cell h.hd 4, Bc.cell h.hd 5, Bc.cell h.hd 6, Bc.cell h.hd 7, Bc.cell h.hd 8, Bc.cell h.hd 9, Bc.cell h.hd 10, Bc.cell h.hd 11, Bc.cell h.hd 12, Bc.cell h.hd 13, Bc.cell h.hd 14, Bc.cell h.hd 15, Bc.cell h.hd 16, fun k => Bc.frozen h.hd k⟩
theorem lmode_any (h : Sa g n p s w) : Calls Try.prog 16 #[.pointer (some ⟨g, 0, none⟩)] w fun e w' => e = .returned (.int .i64 s.mode) ∧ w' = w := by
  obtain ⟨_, _, _, _, c4, _⟩ := h.cells
  clear h
  go_enter Try.func16, Try.ntmps16
  go_wp2
  go_ret
  exact ⟨rfl, rfl⟩
theorem lid_any (h : Sa g n p s w) : Calls Try.prog 17 #[.pointer (some ⟨g, 0, none⟩)] w fun e w' => e = .returned (.tuple #[.int .i64 s.ip, .int .i64 s.iu]) ∧ ∃ n, w' = w.drewN n := by
  obtain ⟨_, _, _, _, _, c5, c6, _⟩ := h.cells
  clear h
  go_enter Try.func17, Try.ntmps17
  go_wp2_with fail
  go_quiet (fail)
  go_wp2
  go_ret2
  exact ⟨rfl, _, rfl⟩
theorem lrate_any (h : Sa g n p s w) : Calls Try.prog 21 #[.pointer (some ⟨g, 0, none⟩)] w fun e w' => e = .returned (.tuple #[.int .i64 s.rp, .int .i64 s.ru]) ∧ ∃ n, w' = w.drewN n := by
  obtain ⟨_, _, _, _, _, _, _, c7, c8, _⟩ := h.cells
  clear h
  go_enter Try.func21, Try.ntmps21
  go_wp2_with fail
  go_quiet (fail)
  go_wp2
  go_ret2
  exact ⟨rfl, _, rfl⟩
/-- What is told of what was stored. -/
def Ls.sto (s : Ls) : Value := match s.st with
  | none => .tuple #[.int .i64 0, .int .i64 0, .bool false]
  | some (x, y) => .tuple #[.int .i64 x, .int .i64 y, .bool true]
theorem lstored_any (h : Sa g n p s w) : Calls Try.prog 18 #[.pointer (some ⟨g, 0, none⟩)] w fun e w' => e = .returned s.sto ∧ ∃ n, w' = w.drewN n := by
  obtain ⟨_, _, _, _, _, _, _, _, _, c9, _⟩ := h.cells
  rcases h.kt with ⟨rfl, e⟩ | ⟨k, a, b, rfl, e2, e3, e4, e5⟩
  · have E : s.sto = .tuple #[.int .i64 0, .int .i64 0, .bool false] := by unfold Ls.sto; rw [e]
    rw [E]
    have c9' : w.cell? ⟨g, 9, none⟩ = some (.pointer none) := c9
    clear h c9 e E
    go_enter Try.func18, Try.ntmps18
    go_wp2
    go_ret3
    exact ⟨rfl, 0, rfl⟩
  · have E : s.sto = .tuple #[.int .i64 a, .int .i64 b, .bool true] := by unfold Ls.sto; rw [e2]
    rw [E]
    have c9' : w.cell? ⟨g, 9, none⟩ = some (.pointer (some ⟨k, 0, none⟩)) := c9
    have k0 := Bc.cell e5 0
    have k1 := Bc.cell e5 1
    simp at k0 k1
    clear h c9 e2 E e5
    go_enter Try.func18, Try.ntmps18
    go_wp2_with fail
    go_quiet (fail)
    go_wp2
    go_ret3
    exact ⟨rfl, _, rfl⟩
theorem lsto_any (h : Sa g n p s w) (b : Bool) : Calls Try.prog 19 #[.pointer (some ⟨g, 0, none⟩), .bool b] w fun e w' => e = .returned (.tuple #[]) ∧ Sa g n p { s with fails := b } w' ∧ Two g g w w' := by
  obtain ⟨_, _, _, _, _, _, _, _, _, _, c10, _, _, _, _, _, _, hf⟩ := h.cells
  have f10 := hf 10
  have H : Hid (Sa g n p { s with fails := b } (w.setCell ⟨g, 10, none⟩ (.bool b))) := Sa.set h rfl rfl
  clear h hf
  go_enter Try.func19, Try.ntmps19
  go_wp2
  go_end0
  exact ⟨rfl, H.out, (Two.refl _ _ _).at0 _ _⟩
theorem lbare_any (h : Sa g n p s w) : Calls Try.prog 26 #[.pointer (some ⟨g, 0, none⟩)] w fun e w' => e = .returned (.bool s.bare) ∧ w' = w := by
  obtain ⟨_, _, _, _, _, c5, c6, _⟩ := h.cells
  have HO : Hid (s.bare = (decide (s.ip = 0) && decide (s.iu = 0))) := rfl
  generalize s.bare = o at *
  generalize s.ip = a at *
  generalize s.iu = b at *
  clear h
  go_enter Try.func26, Try.ntmps26
  go_wp2
  all_goals go_ret
  all_goals exact ⟨ret_bool (by rw [HO.out]; simp_all), rfl⟩
theorem lset_any (h : Sa g n p s w) (m : Nat) : Calls Try.prog 24 #[.pointer (some ⟨g, 0, none⟩), .int .u8 (m : Int)] w fun e w' => e = .returned (.tuple #[]) ∧ Sa g n p (s.set m) w' ∧ Two g g w w' := by
  obtain ⟨_, _, _, _, c4, c5, c6, _, _, _, _, _, _, _, _, _, _, hf⟩ := h.cells
  have f4 := hf 4
  have f6 := hf 6
  by_cases h1 : m = 1
  · subst h1
    have H : Hid (Sa g n p (s.set 1) (w.setCell ⟨g, 4, none⟩ (.int .i64 1))) := Sa.set h rfl rfl
    clear h hf
    go_enter Try.func24, Try.ntmps24
    go_wp2
    go_end0
    exact ⟨rfl, H.out, (Two.refl _ _ _).at0 _ _⟩
  · have d1 : ((m : Int) == 1) = false := by simp; omega
    by_cases h0 : m = 0
    · subst h0
      by_cases hu : s.iu = 0
      · have E : s.set 0 = { s with mode := 0, iu := s.ip } := by simp [Ls.set, hu]
        have H : Hid (Sa g n p (s.set 0) ((w.setCell ⟨g, 4, none⟩ (.int .i64 0)).setCell ⟨g, 6, none⟩ (.int .i64 s.ip))) := by
          rw [E]
          exact Sa.set (s := { s with mode := 0 }) (Sa.set h rfl rfl) rfl rfl
        rw [hu] at c6
        clear h hf hu E h1 d1
        go_enter Try.func24, Try.ntmps24
        go_wp2
        go_end0
        exact ⟨rfl, H.out, ((Two.refl _ _ _).at0 _ _).at0 _ _⟩
      · have E : s.set 0 = { s with mode := 0 } := by simp [Ls.set, hu]
        have H : Hid (Sa g n p (s.set 0) (w.setCell ⟨g, 4, none⟩ (.int .i64 0))) := by
          rw [E]
          exact Sa.set h rfl rfl
        have du : (s.iu == 0) = false := by simp [hu]
        clear h hf hu E h1 d1
        go_enter Try.func24, Try.ntmps24
        go_wp2
        go_end0
        exact ⟨rfl, H.out, (Two.refl _ _ _).at0 _ _⟩
    · have d0 : ((m : Int) == 0) = false := by simp; omega
      have E : s.set m = s := by simp [Ls.set, h0, h1]
      rw [E]
      have HS := hidOf2 h
      clear h hf h0 h1 E
      go_enter Try.func24, Try.ntmps24
      go_wp2
      go_end0
      exact ⟨rfl, HS.out, Two.refl _ _ _⟩
theorem told_results {Q : Nat} {f : F8} {b : Bool} {w : World} (h : Qb Q f w) (tmps : Array Value) (h2 : tmps[4]?.getD undef = .pointer (some ⟨Q, 0, none⟩)) (h3 : tmps[5]?.getD undef = .bool b) :
    (results Try.f25 tmps).run Try.prog w = .ok (.tuple #[.agg f.arr, .bool b]) w := by
  have l0 := h.load
  simp [Go.results, Try.results25, h2, h3, asAddr, l0]
theorem ltold_any (w : World) (c : Nat) (hc : c < 256) (b : Bool) : Calls Try.prog 25 #[.int .u8 (c : Int), .bool b] w fun e w' => e = .returned (.tuple #[.agg (Ls.one (if b then (c : Int) else -1)).1.arr, .bool b]) ∧ Below w.heap.size w w' := by
  obtain ⟨W, k, hW, hk, q0, b0, hkl⟩ := Qb.fresh0 w
  have HB := hidOf2 b0
  have HQ := hidOf2 q0
  cases b
  · have E : (Ls.one (if false = true then (c : Int) else -1)).1 = F8.nul := rfl
    rw [E]
    clear q0 b0
    go_enter Try.func25, Try.ntmps25
    go_upto_region 1 with fail
    change Code.wp Try.prog _ _ _ (w.alloc (.cells zA8 34))
    rw [hW]
    go_wp2_with (first | (refine sdF (g := F8.nul) HQ.out rfl _ _ rfl rfl rfl ?_))
    exact bodyPost_ret (told_results (HQ.out.row F8.nul) _ rfl rfl) rfl ⟨rfl, below_row8 HB.out (by omega) _⟩
  · have E : (Ls.one (if true = true then (c : Int) else -1)).1 = ⟨.ofNat c, 0, 0, 0, 0, 0, 0, 0⟩ := by unfold Ls.one; rw [if_neg (by simp)]; rfl
    rw [E]
    obtain ⟨f, hf⟩ : ∃ f : F8, f = ⟨.ofNat c, 0, 0, 0, 0, 0, 0, 0⟩ := ⟨_, rfl⟩
    have ha : Hid (f.arr = #[.int .u8 (c : Int), .int .u8 0, .int .u8 0, .int .u8 0, .int .u8 0, .int .u8 0, .int .u8 0, .int .u8 0]) := by
      show _ = _
      rw [hf]
      unfold F8.arr F8.c
      simp only [un8 c hc]
      rfl
    rw [← hf]
    clear q0 b0 hf E
    go_enter Try.func25, Try.ntmps25
    go_upto_region 1 with fail
    change Code.wp Try.prog _ _ _ (w.alloc (.cells zA8 34))
    rw [hW]
    go_wp2_with (first | (refine sdF (g := f) HQ.out rfl _ _ rfl rfl (by rw [ha.out]; rfl) ?_))
    exact bodyPost_ret (told_results (HQ.out.row f) _ rfl rfl) rfl ⟨rfl, below_row8 HB.out (by omega) _⟩
end
end Go.Proofs.Ythbmbabndhpdkaa
