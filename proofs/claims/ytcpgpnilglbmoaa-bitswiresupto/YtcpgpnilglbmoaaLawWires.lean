/- The law BitsWires returns true whatever texts and places come in, of at most so many. -/
import Derived.Test.YtcpgpnilglbmoaaRWired
import Derived.Test.YtcpgpnilglbmoaaRFlip
import Derived.Test.YtcpgpnilglbmoaaLives
import Derived.Deep.RegionLaw
namespace Go.Proofs.Ytcpgpnilglbmoaa
open Go.RowKit Go.Proofs.Bits
set_option linter.unusedVariables false

theorem info9 : (Try.prog.info? 9).map (fun i => (i.zero, i.size, i.bytes)) = some (some (.string ⟨#[]⟩), 1, 16) := by kernel_rfl
theorem info3 : (Try.prog.info? 3).map (fun i => (i.zero, i.size, i.bytes)) = some (some (.int .i64 0), 1, 8) := by kernel_rfl
theorem one_strs (ls : List ByteArray) : ∀ u ∈ ls.map Value.string, u.oneCell' = true := by
  intro u hu
  simp only [List.mem_map] at hu
  obtain ⟨c, _, rfl⟩ := hu
  rfl
theorem one_ints (zs : List Int) : ∀ u ∈ zs.map (Value.int .i64), u.oneCell' = true := by
  intro u hu
  simp only [List.mem_map] at hu
  obtain ⟨c, _, rfl⟩ := hu
  rfl
/-- Each text twice, the last one first. -/
def dd : List ByteArray → List ByteArray
  | [] => []
  | s :: r => dd r ++ [s, s]
theorem dd_mem (ls : List ByteArray) (s : ByteArray) : s ∈ dd ls ↔ s ∈ ls := by
  induction ls with
  | nil => simp [dd]
  | cons x r ih => simp [dd, ih, or_comm]
theorem dd_length (ls : List ByteArray) : (dd ls).length = 2 * ls.length := by
  induction ls with
  | nil => rfl
  | cons x r ih => simp [dd, ih]; omega
theorem txt_dd (ls : List ByteArray) (l : List UInt8) : l ∈ txt (dd ls) ↔ l ∈ txt ls := by
  simp only [txt, List.mem_map, dd_mem]
theorem wired_dd (ls : List ByteArray) (h : errs (txt ls) = 0) : errs (txt (dd ls)) = 0 ∧ wiredV (txt (dd ls)) = wiredV (txt ls) := by
  have h2 : errs (txt (dd ls)) = 0 := by
    rw [errs_zero] at h ⊢
    exact fun l hl => h l ((txt_dd ls l).1 hl)
  refine ⟨h2, ?_⟩
  rw [wiredV, wiredV, if_pos h, if_pos h2, wired_same (txt_dd ls)]
theorem dd_next (ls : List ByteArray) (j : Nat) (h : j < ls.length) : dd (ls.drop (ls.length - (j + 1))) = dd (ls.drop (ls.length - j)) ++ [ls[ls.length - 1 - j], ls[ls.length - 1 - j]] := by
  have e : ls.length - (j + 1) = ls.length - 1 - j := by omega
  rw [e, List.drop_eq_getElem_cons (by omega), dd, show ls.length - 1 - j + 1 = ls.length - j by omega]

theorem step_append_two {ops : Array Oper} {o : Oper} {a : Act} {w : World} {K : Act → World → Prop} {Q : Exit → Act → World → Prop} {E : Prop}
    (hg : o.guard = none) (s x : Operand) (ho : o.op = .call { callee := .builtin .append, args := #[s, x], argTypes := #[45, 45] })
    (base : Nat) (v : Value) (xs : List Value) (hs : a.eval s = v) (hown : w.ownsRow base 9 1 v xs.length xs)
    (r : Nat) (u : Value) (hu : u.oneCell' = true) (hx : a.eval x = .slice (some ⟨r, 0, none⟩) 2 2) (hc0 : w.cell? ⟨r, 0, none⟩ = some u) (hc1 : w.cell? ⟨r, 1, none⟩ = some u) (hb : xs.length ≤ 1000000000) (hbase : base ≤ w.heap.size)
    (hK : ∀ v' w', w'.ownsRow base 9 1 v' (xs ++ [u, u]).length (xs ++ [u, u]) → w.grownBy w' v.ownBlock → K (a.put o.dst v') w') :
    if Region.wanted o (yielded ops a.tmps) = true then Oper.wp Try.prog o a w K Q else E := by
  obtain ⟨i0, hi, hz0, hz1, hz2⟩ := info_parts info9
  have hw : Region.wanted o (yielded ops a.tmps) = true := by simp [Region.wanted, hg]
  rw [if_pos hw]
  refine wp_append_own w s x 45 ho base 9 i0 (.string ⟨#[]⟩) 1 16 Try.underlying45 hi hz0 hz1 hz2 rfl (by decide) v xs.length xs hs hown ⟨r, 0, none⟩ 2 2 [u, u] hx rfl ?_ (by intro c hc; simp at hc; subst hc; exact hu) (by unfold maxLen; omega) (by omega) hbase ?_
  · intro j c hj
    match j, hj with
    | 0, hj => simp at hj; subst hj; rw [add_off]; exact hc0
    | 1, hj => simp at hj; subst hj; rw [add_off]; exact hc1
    | j + 2, hj => simp at hj
  · intro v' w' h1 h2 _
    refine hK v' w' ?_ h2
    simpa using h1
theorem cell_two (w : World) (v : Value) (T : TypeId) : (w.alloc (.cells #[v, v] T)).cell? ⟨w.heap.size, 0, none⟩ = some v ∧ (w.alloc (.cells #[v, v] T)).cell? ⟨w.heap.size, 1, none⟩ = some v := by
  have hh : (w.alloc (.cells #[v, v] T)).heap[w.heap.size]? = some (.cells #[v, v] T (0, 0)) := by
    show (w.heap.push _)[w.heap.size]? = _
    simp
  rw [Lib.cell_of_heap hh, Lib.cell_of_heap hh]
  exact ⟨rfl, rfl⟩
theorem own_nn {w : World} {base : Nat} {e : TypeId} {v : Value} {n : Nat} {xs : List Value} (h : w.ownsRow base e 1 v n xs) (hn : 0 < n) : v ≠ .slice none 0 0 := by
  rcases h.2 with ⟨_, h0⟩ | ⟨g, cap, cur, rfl, _⟩
  · omega
  · simp

set_option maxHeartbeats 2000000 in
set_option maxRecDepth 1000000 in
theorem wires_walk (v0 v2 : Value) (ls : List ByteArray) (zs : List Int) (s : ByteArray) (w : World) (hL : Slots w v0 (ls.map Value.string)) (hZ : Slots w v2 (zs.map (Value.int .i64))) (hl : ls.length ≤ 1048576) (hz : zs.length ≤ 1048576) :
    Calls Try.prog 8 #[v0, .string s, v2] w fun e w' => e = .returned (.bool true) ∧ Below w.heap.size w w' := by
  have hL0 := hL.below ((Below.refl _ w).alloc (Nat.le_refl _) (.cells #[] 9))
  have hown := own_empty_at w 9
  go_enter Try.func8, Try.ntmps8
  go_wp2_with (at_builtin; refine append_slots rfl _ _ 45 9 (.string ⟨#[]⟩) 16 Try.underlying45 info9 rfl rfl w.heap.size _ [] rfl hown v0 (ls.map Value.string) rfl hL0 (one_strs ls) (by simp [maxLen]; omega) (by simp; omega) (by simp) ?_)
  intro v1 w1 hown1 hg1 _
  have b1 : Below w.heap.size w w1 := ((Below.refl _ w).alloc (Nat.le_refl _) (.cells #[] 9)).grown hg1 (by simp) (by simp [Value.ownBlock])
  have hS1 : Slots w1 v1 (ls.map Value.string) := slots_of_own (by simpa using hown1)
  have s1 := b1.size
  clear hown1 hg1 hown hL0
  go_wp2_with fail
  refine (Wired_any v1 ls _ hS1 (by omega)).mono ?_
  rintro e w2 ⟨rfl, b2⟩
  have s2 := b2.size
  have bb2 : Below w.heap.size w w2 := b1.trans (b2.mono (by omega))
  go_wp2_with fail
  refine (rWired_any v0 ls _ (hL.below bb2) (by omega)).mono ?_
  rintro e w3 ⟨rfl, b3⟩
  have s3 := b3.size
  have bb3 : Below w.heap.size w w3 := bb2.trans (b3.mono (by omega))
  clear b1 b2 b3 hS1
  have hZ3 := (hZ.below bb3).below ((Below.refl _ w3).alloc (Nat.le_refl _) (.cells #[] 3))
  have hown := own_empty_at w3 3
  go_wp2_with (at_builtin; refine append_slots rfl _ _ 46 3 (.int .i64 0) 8 Try.underlying46 info3 rfl rfl w3.heap.size _ [] rfl hown v2 (zs.map (Value.int .i64)) rfl hZ3 (one_ints zs) (by simp [maxLen]; omega) (by simp; omega) (by simp) ?_)
  intro v4 w4 hown4 hg4 _
  have b4 : Below w3.heap.size w3 w4 := ((Below.refl _ w3).alloc (Nat.le_refl _) (.cells #[] 3)).grown hg4 (by simp) (by simp [Value.ownBlock])
  have hS4 : Slots w4 v4 (zs.map (Value.int .i64)) := slots_of_own (by simpa using hown4)
  have s4 := b4.size
  have bb4 : Below w.heap.size w w4 := bb3.trans (b4.mono (by omega))
  clear hown4 hg4 hown hZ3 b4
  go_wp2_with fail
  refine (Flip_any s v4 zs _ hS4 (by omega)).mono ?_
  rintro e w5 ⟨rfl, b5⟩
  have s5 := b5.size
  have bb5 : Below w.heap.size w w5 := bb4.trans (b5.mono (by omega))
  go_wp2_with fail
  refine (rFlip_any s v2 zs _ (hZ.below bb5) (by omega)).mono ?_
  rintro e w6 ⟨rfl, b6⟩
  have s6 := b6.size
  have bb6 : Below w.heap.size w w6 := bb5.trans (b6.mono (by omega))
  clear b5 b6 hS4 bb2 bb3 bb4 bb5
  by_cases h0 : errs (txt ls) = 0
  · have hdd := wired_dd ls h0
    have HD1 : Hid (errs (txt (dd ls)) = 0) := hdd.1
    have HD2 : Hid (wiredV (txt (dd ls)) = wiredV (txt ls)) := hdd.2
    rw [h0]
    obtain ⟨ao, cap, rfl, HAT⟩ := hL.map
    clear h0 hdd hL hZ
    obtain ⟨A, hA⟩ : ∃ A : ByteArray, A = ⟨(wiredV (txt ls)).toArray⟩ := ⟨_, rfl⟩
    have HA : Hid (A = ⟨(wiredV (txt ls)).toArray⟩) := hA
    rw [← hA]
    clear hA
    go_wp2_with fail
    go_loopw [15, 16] (fun t i x => ∃ j : Nat, j ≤ ls.length ∧ i = .int .i64 ((ls.length : Int) - 1 - j) ∧ x.ownsRow w6.heap.size 9 1 t ((dd (ls.drop (ls.length - j))).map Value.string).length ((dd (ls.drop (ls.length - j))).map Value.string) ∧ Below w6.heap.size w6 x) (fun _ i _ => (intOf i + 1).toNat)
    case atStart => exact ⟨0, Nat.zero_le _, val_int (by omega), by simpa [dd] using own_empty_at w6 9, (Below.refl _ _).alloc (Nat.le_refl _) _⟩
    case round =>
      obtain ⟨j, hj, rfl, hown, hb⟩ := hrel
      have szw := hb.size
      have hbw : Below w.heap.size w wr := bb6.trans (hb.mono (by omega))
      by_cases hjl : j < ls.length
      · obtain ⟨b, off, rfl, hcat⟩ := HAT wr hbw (ls.length - 1 - j) (by omega)
        have HN : Hid (dd (ls.drop (ls.length - (j + 1))) = dd (ls.drop (ls.length - j)) ++ [ls[ls.length - 1 - j], ls[ls.length - 1 - j]]) := dd_next ls j hjl
        have hlen : ((dd (ls.drop (ls.length - j))).map Value.string).length ≤ 1000000000 := by
          rw [List.length_map, dd_length, List.length_drop]; omega
        generalize dd (ls.drop (ls.length - j)) = D at *
        generalize ls[ls.length - 1 - j] = x at *
        have hi1 : (0 : Int) ≤ (ls.length : Int) - 1 - (j : Int) := by omega
        have hi2 : (ls.length : Int) - 1 - (j : Int) < (ls.length : Int) := by omega
        go_wp2_with fail
        go_region_law (refine step_append_two rfl _ _ rfl w6.heap.size _ (D.map Value.string) rfl (by exact ownsRow_alloc hown _) wr.heap.size (.string x) rfl rfl (by exact (cell_two wr _ _).1) (by exact (cell_two wr _ _).2) hlen (by simp; omega) ?_; intro v' w' hown2 hg2; have b9 : Below w6.heap.size w6 w' := (hb.alloc (by omega) _).drew.grown hg2 (by simp; omega) (fun k hk => own_lt hown k hk); clear hg2)
        all_goals
          go_wp2
          go_roundw
          case rel => exact ⟨j + 1, by omega, val_int (by omega), by rw [HN.out, List.map_append]; exact hown2, b9⟩
          case measure => simp [intOf]; omega
      · obtain rfl : j = ls.length := by omega
        rw [Nat.sub_self, List.drop_zero] at hown
        have hS := slots_of_own hown
        clear hown HAT
        go_wp2_with fail
        refine (Wired_any _ (dd ls) _ hS (by rw [dd_length]; omega)).mono ?_
        rintro e w7 ⟨rfl, b7⟩
        rw [HD1.out, HD2.out, ← HA.out]
        go_wp2_with fail
        refine (lives_any _).mono ?_
        rintro e w8 ⟨rfl, b8⟩
        go_wp2
        go_ret
        have s7 := b7.size
        exact ⟨rfl, (hbw.trans (b7.mono (by omega))).trans (b8.mono (by omega))⟩
  · have hn : (errs (txt ls) != 0) = true := by rw [bne_iff_ne]; exact h0
    clear h0
    go_wp2_with fail
    refine (lives_any _).mono ?_
    rintro e w7 ⟨rfl, b7⟩
    go_wp2
    go_ret
    exact ⟨rfl, bb6.trans (b7.mono (by omega))⟩
end Go.Proofs.Ytcpgpnilglbmoaa
