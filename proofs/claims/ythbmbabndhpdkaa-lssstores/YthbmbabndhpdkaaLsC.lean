/- The program's slave: a number and a rate that are to come, storing, what is told. -/
import Derived.Test.YthbmbabndhpdkaaLsB
namespace Go.Proofs.Ythbmbabndhpdkaa
open Go.RowKit
open Classical
set_option linter.unusedVariables false
set_option maxRecDepth 1000000
set_option linter.unusedSimpArgs false
section
variable {g n : Nat} {p : Option Nat} {s : Ls} {w x : World}
def Ls.setId (s : Ls) (v : Nat) : Ls := if Ls.goodId v then { s with ip := ((v % 255 : Nat) : Int) } else s
def Ls.setRt (s : Ls) (t v : Nat) : Ls := if Ls.goodRate t v then { s with rp := (v : Int) } else s
theorem lsetid_any (h : Sa g n p s w) (v : Nat) (hv : v < 256) : Calls Try.prog 32 #[.pointer (some ⟨g, 0, none⟩), .int .i64 (v : Int)] w fun e w' => e = .returned (.int .u32 (((if Ls.goodId v then 0 else 1 : Nat)) : Int)) ∧ Sa g n p (s.setId v) w' ∧ Two g g w w' := by
  obtain ⟨_, _, _, _, _, c5, _, _, _, _, _, _, _, _, _, _, _, hf⟩ := h.cells
  have f5 := hf 5
  by_cases h1 : v = 255
  · subst h1
    have H : Hid (Sa g n p (s.setId 255) (w.setCell ⟨g, 5, none⟩ (.int .i64 0))) := Sa.set h rfl rfl
    clear h hf
    go_enter Try.func32, Try.ntmps32
    go_wp2
    go_ret
    exact ⟨rfl, H.out, (Two.refl _ _ _).at0 _ _⟩
  · have d1 : ((v : Int) == 255) = false := by simp; omega
    by_cases h2 : 1 ≤ v ∧ v ≤ 127
    · have hg : Ls.goodId v = true := by simp [Ls.goodId]; omega
      have e : v % 255 = v := by omega
      have H : Hid (Sa g n p (s.setId v) (w.setCell ⟨g, 5, none⟩ (.int .i64 (v : Int)))) := by
        unfold Ls.setId
        rw [hg, e]
        exact Sa.set h rfl rfl
      rw [hg]
      have d2 : decide ((v : Int) < 1) = false := by simp; omega
      have d3 : decide ((127 : Int) < (v : Int)) = false := by simp; omega
      clear h hf h1 h2 hg e
      go_enter Try.func32, Try.ntmps32
      go_wp2
      go_ret
      exact ⟨rfl, H.out, (Two.refl _ _ _).at0 _ _⟩
    · have hg : Ls.goodId v = false := by simp [Ls.goodId]; omega
      have H : Hid (Sa g n p (s.setId v) w) := by
        unfold Ls.setId
        rw [hg]
        exact h
      rw [hg]
      by_cases h3 : v = 0
      · subst h3
        clear h hf h1 h2 hg
        go_enter Try.func32, Try.ntmps32
        go_wp2
        go_ret
        exact ⟨rfl, H.out, Two.refl _ _ _⟩
      · have d2 : decide ((v : Int) < 1) = false := by simp; omega
        have d3 : decide ((127 : Int) < (v : Int)) = true := by simp; omega
        clear h hf h1 h2 hg h3
        go_enter Try.func32, Try.ntmps32
        go_wp2
        go_ret
        exact ⟨rfl, H.out, Two.refl _ _ _⟩
theorem lsetrt_any (h : Sa g n p s w) (t v : Nat) : Calls Try.prog 33 #[.pointer (some ⟨g, 0, none⟩), .int .u8 (t : Int), .int .i64 (v : Int)] w fun e w' => e = .returned (.int .u32 (((if Ls.goodRate t v then 0 else 1 : Nat)) : Int)) ∧ Sa g n p (s.setRt t v) w' ∧ Two g g w w' := by
  obtain ⟨_, _, _, _, _, _, _, c7, _, _, _, _, _, _, _, _, _, hf⟩ := h.cells
  have f7 := hf 7
  by_cases hg : Ls.goodRate t v = true
  · have hq : t = 0 ∧ v ≤ 8 ∧ v ≠ 5 := by simp [Ls.goodRate] at hg; omega
    obtain ⟨rfl, h2, h3⟩ := hq
    have H : Hid (Sa g n p (s.setRt 0 v) (w.setCell ⟨g, 7, none⟩ (.int .i64 (v : Int)))) := by
      unfold Ls.setRt
      rw [hg]
      exact Sa.set h rfl rfl
    rw [hg]
    have d2 : decide ((8 : Int) < (v : Int)) = false := by simp; omega
    have d3 : ((v : Int) == 5) = false := by simp; omega
    clear h hf h2 h3 hg
    go_enter Try.func33, Try.ntmps33
    go_wp2
    go_ret
    exact ⟨rfl, H.out, (Two.refl _ _ _).at0 _ _⟩
  · have hq : t ≠ 0 ∨ t = 0 ∧ (8 < v ∨ v ≤ 8 ∧ v = 5) := by simp [Ls.goodRate] at hg; omega
    have hg : Ls.goodRate t v = false := by simpa using hg
    have H : Hid (Sa g n p (s.setRt t v) w) := by
      unfold Ls.setRt
      rw [hg]
      exact h
    rw [hg]
    rcases hq with h1 | ⟨rfl, h2 | ⟨h2, rfl⟩⟩
    · have d1 : ((t : Int) != 0) = true := by simp; omega
      clear h hf h1 hg
      go_enter Try.func33, Try.ntmps33
      go_wp2
      go_ret
      exact ⟨rfl, H.out, Two.refl _ _ _⟩
    · have d2 : decide ((8 : Int) < (v : Int)) = true := by simp; omega
      clear h hf h2 hg
      go_enter Try.func33, Try.ntmps33
      go_wp2
      go_ret
      exact ⟨rfl, H.out, Two.refl _ _ _⟩
    · clear h hf h2 hg
      go_enter Try.func33, Try.ntmps33
      go_wp2
      go_ret
      exact ⟨rfl, H.out, Two.refl _ _ _⟩
theorem ltell_any (h : Sa g n p s w) (ho : 0 ≤ s.iu ∧ s.iu ≤ 127) : Calls Try.prog 35 #[.pointer (some ⟨g, 0, none⟩)] w fun e w' => e = .returned (.int .u32 (((if s.iu = 0 then 255 else s.iu.toNat : Nat)) : Int)) ∧ w' = w := by
  obtain ⟨_, _, _, _, _, _, c6, _⟩ := h.cells
  clear h
  generalize s.iu = i at *
  by_cases h0 : i = 0
  · subst h0
    clear ho
    go_enter Try.func35, Try.ntmps35
    go_wp2
    go_ret
    exact ⟨rfl, rfl⟩
  · obtain ⟨m, rfl⟩ : ∃ m : Nat, i = (m : Int) := ⟨i.toNat, by omega⟩
    have d0 : ((m : Int) == 0) = false := by simp; omega
    have e := wrapU32 m (by omega)
    rw [if_neg h0]
    clear ho h0
    go_enter Try.func35, Try.ntmps35
    go_wp2
    go_ret
    exact ⟨ret_int (by first | rfl | omega | simp), rfl⟩
def Ls.keep (s : Ls) : Ls := if s.fails then s else { s with st := some (s.ip, s.rp) }
theorem lkeep_any (h : Sa g n p s w) (hn : n < w.heap.size) : Calls Try.prog 34 #[.pointer (some ⟨g, 0, none⟩)] w fun e w' => e = .returned (.int .u32 (((if s.fails then 2 else 0 : Nat)) : Int)) ∧ (∃ p', Sa g n p' s.keep w') ∧ Two g g w w' := by
  obtain ⟨_, _, _, _, _, c5, _, c7, _, c9, c10, _, _, _, _, _, _, hf⟩ := h.cells
  have f9 := hf 9
  have lg := h.lt
  cases hfl : s.fails
  · have E : s.keep = { s with st := some (s.ip, s.rp) } := by unfold Ls.keep; rw [hfl]; rfl
    have H : Hid (Sa g n (some w.heap.size) s.keep ((w.setCell ⟨g, 9, none⟩ (.pointer (some ⟨w.heap.size, 0, none⟩))).alloc (.cells #[.int .i64 s.ip, .int .i64 s.rp] 62)).drew) := by
      show Sa g n _ _ _
      rw [E]
      have hz : (w.setCell ⟨g, 9, none⟩ (.pointer (some ⟨w.heap.size, 0, none⟩))).heap.size = w.heap.size := by simp [World.setCell]
      have hB : Bc 58 g (({ s with st := some (s.ip, s.rp) } : Ls).arr (some w.heap.size)) ((w.setCell ⟨g, 9, none⟩ (.pointer (some ⟨w.heap.size, 0, none⟩))).alloc (.cells #[.int .i64 s.ip, .int .i64 s.rp] 62)) := Bc.alloc (Bc.set h.hd 9 (.pointer (some ⟨w.heap.size, 0, none⟩))) _
      have hk : Bc 62 w.heap.size #[.int .i64 s.ip, .int .i64 s.rp] ((w.setCell ⟨g, 9, none⟩ (.pointer (some ⟨w.heap.size, 0, none⟩))).alloc (.cells #[.int .i64 s.ip, .int .i64 s.rp] 62)) := by
        have := heap_alloc_new (w.setCell ⟨g, 9, none⟩ (.pointer (some ⟨w.heap.size, 0, none⟩))) (.cells #[.int .i64 s.ip, .int .i64 s.rp] 62)
        rw [hz] at this
        exact this
      exact ⟨Bc.drawn hB 1, .inr ⟨_, _, _, rfl, rfl, by omega, by omega, Bc.drawn hk 1⟩⟩
    have hT : Hid (Two g g w ((w.setCell ⟨g, 9, none⟩ (.pointer (some ⟨w.heap.size, 0, none⟩))).alloc (.cells #[.int .i64 s.ip, .int .i64 s.rp] 62)).drew) := (((Two.refl g g w).at0 9 _).alloc _).drawn 1
    rw [hfl] at c10
    clear h hf E hn
    go_enter Try.func34, Try.ntmps34
    go_wp2_with fail
    go_region
    all_goals
      go_wp2_with fail
      go_ret
      exact ⟨rfl, ⟨_, H.out⟩, hT.out⟩
  · have E : s.keep = s := by unfold Ls.keep; rw [hfl]; rfl
    rw [E]
    have HS := hidOf2 h
    rw [hfl] at c10
    clear h hf E
    go_enter Try.func34, Try.ntmps34
    go_wp2
    go_ret
    exact ⟨rfl, ⟨_, HS.out⟩, Two.refl _ _ _⟩
end
end Go.Proofs.Ythbmbabndhpdkaa
