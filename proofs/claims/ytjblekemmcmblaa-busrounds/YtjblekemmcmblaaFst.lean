/- Contracts of anyTwice, and of the library's Min and Index at texts. -/
import Derived.Test.YtjblekemmcmblaaSlots
import Derived.Test.YtjblekemmcmblaaMathO
import Derived.Maps.OwnSet
import Derived.Maps.Own
import Derived.Lib.MinMaxS
namespace Go.Proofs.Ytjblekemmcmblaa
open Go.RowKit Go.Proofs.Bits Go.Maps Go.WideMaps
set_option linter.unusedVariables false
set_option maxRecDepth 1000000

def txtV (l : List UInt8) : Value := .string ⟨l.toArray⟩
def keyL (l : List UInt8) : Lit := .string l
theorem lawS : Keyed Try.prog 9 := string_keyed Try.underlying9
theorem run_makeMap_hint (n : Int) (w : World) : (Instr.makeMap 106 (some (.int .i64 n))).run Try.prog w = .ok (.map (some w.heap.size)) (w.alloc (.map #[] 0)) := by
  simp [Instr.makeMap, run_underlying Try.underlying106, asInt, asIntOf, Result.andThen]
theorem addKey_map (acc : List (List UInt8)) (x : List UInt8) : addKey (acc.map keyL) (keyL x) = (addU acc x).map keyL := by
  unfold addKey addU
  have e : (acc.map keyL).any (fun y => y.sameKey (keyL x)) = acc.contains x := by
    rw [List.any_map, Bool.eq_iff_iff, List.any_eq_true, List.contains_iff_mem]
    simp only [Function.comp, keyL, Lit.sameKey, beq_iff_eq]
    constructor
    · rintro ⟨a, h, rfl⟩; exact h
    · intro h; exact ⟨x, h, rfl⟩
  rw [e]
  split <;> simp
theorem fold_addKey (l acc : List (List UInt8)) : (l.map keyL).foldl addKey (acc.map keyL) = (l.foldl addU acc).map keyL := by
  induction l generalizing acc with
  | nil => rfl
  | cons x r ih => rw [List.map_cons, List.foldl_cons, List.foldl_cons, addKey_map, ih]
def setL (l : List (List UInt8)) : DataW Unit := setOf (.agg []) (l.map keyL)
theorem setL_size (l : List (List UInt8)) : Maps.size (setL l) = (l.foldl addU []).length := by
  unfold setL
  rw [size_setOf _ _ (fun x hx => by obtain ⟨_, _, rfl⟩ := List.mem_map.1 hx; trivial)]
  have := fold_addKey l []
  rw [List.map_nil] at this
  rw [this, List.length_map]
theorem setL_next (l : List (List UInt8)) (k : Nat) (hk : k < l.length) : setL (l.take (k + 1)) = (setL (l.take k)).put (keyL l[k]) (.agg []) := by
  unfold setL
  rw [List.take_succ_eq_append_getElem hk, List.map_append, List.map_cons, List.map_nil, setOf_snoc]
set_option maxHeartbeats 1000000 in
theorem anyTwice_any (v : Value) (ls : List (List UInt8)) (w : World) (hn : ls.length ≤ 140737488355328) (hz : ∀ l ∈ ls, l.length ≤ 65536) (hS : Slots w v (ls.map txtV)) :
    Calls Try.prog 87 #[v] w fun e w' => e = .returned (.bool (!decide ls.Nodup)) ∧ Below w.heap.size w w' := by
  obtain ⟨ao, cap, rfl, HAT0⟩ := hS.map
  have HAT : Hid (∀ (wr : World), Below w.heap.size w wr → ∀ k (h : k < ls.length), ∃ b off, ao = some ⟨b, off, none⟩ ∧ wr.cell? ⟨b, off + k, none⟩ = some (txtV ls[k])) := HAT0
  clear hS HAT0
  have HE : Hid (decide (Maps.size (setL ls) < ls.length) = !decide ls.Nodup) := by
    show _ = _
    rw [← addU_twice, setL_size]
  generalize (!decide ls.Nodup) = R at *
  have hmm := run_makeMap_hint
  go_enter Try.func87, Try.ntmps87
  go_wp2
  go_loopw [11] (fun i wr => ∃ k : Nat, k ≤ ls.length ∧ i = .int .i64 k ∧ wr.ownsMap Try.prog 9 (unitElem (H := Unit)) w.heap.size k (setL (ls.take k)) ∧ Below w.heap.size w wr) (fun i _ => ls.length - (intOf i).toNat)
  case atStart => exact ⟨0, Nat.zero_le _, rfl, World.ownsMap_made _ _ _ _, (Below.refl _ _).alloc (Nat.le_refl _) _⟩
  case round =>
    obtain ⟨k, hk, rfl, hown, hnx⟩ := hrel
    by_cases hkl : k < ls.length
    · obtain ⟨b, off, rfl, hcell⟩ := HAT.out wr hnx k hkl
      have hkey : keyOf Try.prog 9 (txtV ls[k]) = some (keyL ls[k]) := by
        have := keyOf_string_mk (P := Try.prog) Try.underlying9 (s := ⟨ls[k].toArray⟩) (by unfold maxLen; simp [ByteArray.size]; have := hz ls[k] (List.getElem_mem hkl); omega)
        simpa [keyL, txtV] using this
      have HN : Hid (setL (ls.take (k + 1)) = (setL (ls.take k)).put (keyL ls[k]) (.agg [])) := setL_next ls k hkl
      generalize ls[k] = s at *
      unfold txtV at hcell hkey
      generalize (⟨s.toArray⟩ : ByteArray) = S at *
      go_wp2_with (first
        | (at_mapUpdate; refine wpList_mapUpdate_own _ rfl _ _ _ 106 rfl 9 107 lawS Try.underlying106 (unitElem (H := Unit)) w.heap.size k _ rfl hown (by unfold maxLen; omega) _ _ _ rfl rfl hkey _ [] unitElem_mk ?_; intro w1 hown1 hgrow1)
        | go_in)
      go_roundw
      case rel => exact ⟨k + 1, by omega, by go_num, by rw [HN.out]; exact hown1, hnx.grown hgrow1 hnx.size (fun j hj => by cases hj; exact Nat.le_refl _)⟩
      case measure => simp [intOf]; omega
    · obtain rfl : k = ls.length := by omega
      rw [List.take_length] at hown
      go_wp2_with (first
        | (at_len; refine wpList_len_own _ rfl _ 106 rfl 9 107 Try.underlying106 _ w.heap.size _ _ rfl hown ?_)
        | go_in)
      go_ret
      exact ⟨ret_bool HE.out, hnx⟩

theorem minS_best (x y : List UInt8) : Lib.minS ⟨x.toArray⟩ ⟨y.toArray⟩ = ⟨(if y < x then y else x).toArray⟩ := by
  unfold Lib.minS
  by_cases h : y < x
  · rw [if_pos h, if_neg]
    simp only
    rintro (h1 | h1)
    · exact Std.lt_irrefl (Std.lt_trans h h1)
    · rw [h1] at h; exact Std.lt_irrefl h
  · rw [if_neg h, if_pos]
    simp only
    by_cases e : x = y
    · exact .inr e
    · exact .inl (Std.lt_of_le_of_ne (Std.not_lt.1 h) e)
/-- The k-th text, the least of the first k: as values. -/
def txB (ls : List (List UInt8)) (k : Nat) : ByteArray := ⟨(ls.getD k []).toArray⟩
def bestB (ls : List (List UInt8)) (k : Nat) : ByteArray := txB ls (best ls k)
theorem bestB_next (ls : List (List UInt8)) (k : Nat) : bestB ls (k + 1) = Lib.minS (bestB ls k) (txB ls k) := by
  unfold bestB txB
  rw [minS_best, best]
  split <;> rfl
theorem txB_inj {ls : List (List UInt8)} {i j : Nat} (h : ls.Nodup) (hi : i < ls.length) (hj : j < ls.length) (e : txB ls i = txB ls j) : i = j := by
  have := congrArg (fun x : ByteArray => x.data.toList) e
  exact nodup_at h hi hj (by simpa [txB] using this)
theorem beq_txt (a b : ByteArray) : (a.toList == b.toList) = decide (a = b) := by
  rw [Bool.eq_iff_iff, beq_iff_eq, decide_eq_true_eq, Lib.toList_data, Lib.toList_data]
  constructor
  · intro h; exact ByteArray.ext (Array.toList_inj.1 h)
  · intro h; rw [h]
theorem Slots.texts {w : World} {v : Value} {ls : List (List UInt8)} (hS : Slots w v (ls.map txtV)) (h0 : 0 < ls.length) :
    ∃ b off cap, v = .slice (some ⟨b, off, none⟩) ls.length cap ∧ ∀ k, k < ls.length → w.cell? ⟨b, off + k, none⟩ = some (.string (txB ls k)) := by
  obtain ⟨ao, cap, rfl, HAT0⟩ := hS.map
  obtain ⟨b, off, rfl, c0⟩ := HAT0 w (Below.refl _ _) 0 h0
  refine ⟨b, off, cap, rfl, fun k h => ?_⟩
  obtain ⟨b', off', e', c⟩ := HAT0 w (Below.refl _ _) k h
  simp only [Option.some.injEq, Addr.mk.injEq, and_true] at e'
  obtain ⟨rfl, rfl⟩ := e'
  rw [c, txB, getD_at h]
  rfl
set_option maxHeartbeats 1000000 in
theorem Min_any (v : Value) (ls : List (List UInt8)) (w : World) (h0 : 0 < ls.length) (hn : ls.length ≤ 140737488355328) (hS : Slots w v (ls.map txtV)) :
    Calls Try.prog 89 #[v] w fun e w' => e = .returned (.string (bestB ls ls.length)) ∧ w' = w := by
  obtain ⟨b, off, cap, rfl, HAT0⟩ := hS.texts h0
  have HAT : Hid (∀ k, k < ls.length → w.cell? ⟨b, off + k, none⟩ = some (.string (txB ls k))) := HAT0
  have c1 := HAT.out 0 h0
  rw [Nat.add_zero] at c1
  clear hS HAT0
  have hmx : ∀ (w : World) (ts : Array TypeId) (t : TypeId) (x y : ByteArray), (Builtin.min_ ts t #[.string x, .string y]).run Try.prog w = .ok (.string (Lib.minS x y)) w := Lib.run_min_strs
  have hl1 : decide ((ls.length : Int) < 1) = false := by simp; omega
  go_enter Try.func89, Try.ntmps89
  go_wp2
  go_loop [3, 4] (fun m i => ∃ k : Nat, 0 < k ∧ k ≤ ls.length ∧ i = .int .i64 k ∧ m = .string (bestB ls k)) (fun _ i => ls.length - (intOf i).toNat)
  case atStart => exact ⟨1, by omega, h0, rfl, by simp [bestB, best]⟩
  case round =>
    obtain ⟨k, hk0, hk, rfl, rfl⟩ := hrel
    by_cases hkl : k < ls.length
    · have ck := HAT.out k hkl
      have HB : Hid (bestB ls (k + 1) = Lib.minS (bestB ls k) (txB ls k)) := bestB_next ls k
      clear c1
      go_wp2
      go_round
      case rel => exact ⟨k + 1, by omega, by omega, by go_num, by rw [HB.out]⟩
      case measure => simp [intOf]; omega
    · obtain rfl : k = ls.length := by omega
      clear c1
      go_wp2
      go_ret
      exact ⟨rfl, rfl⟩
set_option maxHeartbeats 1000000 in
theorem Index_any (v : Value) (ls : List (List UInt8)) (w : World) (i : Nat) (hi : i < ls.length) (hd : ls.Nodup) (hn : ls.length ≤ 140737488355328) (hS : Slots w v (ls.map txtV)) :
    Calls Try.prog 88 #[v, .string (txB ls i)] w fun e w' => e = .returned (.int .i64 i) ∧ w' = w := by
  obtain ⟨b, off, cap, rfl, HAT0⟩ := hS.texts (by omega)
  have HAT : Hid (∀ k, k < ls.length → w.cell? ⟨b, off + k, none⟩ = some (.string (txB ls k))) := HAT0
  clear hS HAT0
  go_enter Try.func88, Try.ntmps88
  go_wp2
  go_loop [8] (fun j => ∃ k : Nat, k ≤ i ∧ j = .int .i64 k) (fun j => ls.length - (intOf j).toNat)
  case atStart => exact ⟨0, by omega, rfl⟩
  case round =>
    obtain ⟨k, hk, rfl⟩ := hrel
    have ck := HAT.out k (by omega)
    have hkl : (k : Int) < (ls.length : Int) := by omega
    have hb := beq_txt (txB ls i) (txB ls k)
    by_cases hki : k = i
    · subst hki
      rw [show decide (txB ls k = txB ls k) = true by simp] at hb
      go_wp2
      go_ret
      exact ⟨rfl, rfl⟩
    · have hne : ¬ txB ls i = txB ls k := fun e => hki (txB_inj hd hi (by omega) e).symm
      rw [show decide (txB ls i = txB ls k) = false by simpa using hne] at hb
      go_wp2
      go_round
      case rel => exact ⟨k + 1, by omega, by go_num⟩
      case measure => simp [intOf]; omega
end Go.Proofs.Ytjblekemmcmblaa
