/- Contracts: halvesOf, latest, Load, clearHead, written, Erase. -/
import Derived.Test.YthbcpmakhdogmaaNvA
namespace Go.Proofs.Ythbcpmakhdogmaa
open Go.RowKit Go.Proofs.Ty Go.Proofs.Nv Go.Proofs.Bits
set_option linter.unusedVariables false
set_option maxRecDepth 1000000
set_option linter.unusedSimpArgs false
theorem infoHv : (Try.prog.info? 57).map (·.size) = some 6 := by kernel_rfl
/-- The cells of two halves. -/
def hvA (f k : Nat) (v : Value) (g m : Nat) (u : Value) : Array Value := #[.int .i64 f, .int .u16 k, v, .int .i64 g, .int .u16 m, u]
theorem hvA_one (f k : Nat) (v : Value) (g m : Nat) (u : Value) (h : v.oneCell' = true) (h2 : u.oneCell' = true) : (hvA f k v g m u).all (·.oneCell') = true := by
  rw [hvA, Array.all_eq_true_iff_forall_mem]
  intro x hx
  simp at hx
  rcases hx with rfl | rfl | rfl | rfl | rfl | rfl
  · rfl
  · rfl
  · exact h
  · rfl
  · rfl
  · exact h2
theorem load_hv (w : World) (q f k : Nat) (v : Value) (g m : Nat) (u : Value) (hq : w.heap[q]? = some (.cells (hvA f k v g m u) 57 (0, 0))) : (loadVar 57 ⟨q, 0, none⟩).run Try.prog w = .ok (.agg (hvA f k v g m u)) w :=
  run_loadVar_row w q 57 57 _ (0, 0) _ hq Try.underlying57 rfl infoHv
theorem oneSlice {w : World} {v : Value} {l : List UInt8} (h : Bytes w v l) : v.oneCell' = true := by
  obtain ⟨ao, cap, rfl⟩ := bytes_shapeN h
  rfl
/-- Bytes that do not lie in a row of halves. -/
theorem bytes_rowH {w : World} {v : Value} {l : List UInt8} {q : Nat} {A0 : Array Value} {T : TypeId} (h : Bytes w v l) (hq : w.heap[q]? = some (.cells A0 T (0, 0))) (hA : ∀ (j : Nat) (n : Int), A0[j]? ≠ some (Value.int .u8 n)) (A : Array Value) : Bytes (w.setRow q A) v l := by
  obtain ⟨ao, cap, hv, h0, hc⟩ := h
  refine ⟨ao, cap, hv, h0, fun k hk => ?_⟩
  obtain ⟨b, off, ha, hlt, hcell⟩ := hc k hk
  have hne : b ≠ q := by
    intro e
    subst e
    rw [Lib.cell_of_heap hq] at hcell
    exact hA _ _ hcell
  refine ⟨b, off, ha, by simpa [World.setRow] using hlt, ?_⟩
  rw [← hcell]
  simp only [World.cell?, Go.Proofs.Ythbcpmakhdogmaa.setRow_other w q b A hne]
theorem hv_no (j : Nat) (n : Int) : (#[.int .i64 0, .int .u16 0, .slice none 0 0, .int .i64 0, .int .u16 0, .slice none 0 0] : Array Value)[j]? ≠ some (.int .u8 n) := by
  match j with
  | 0 => simp
  | 1 => simp
  | 2 => simp
  | 3 => simp
  | 4 => simp
  | 5 => simp
  | j + 6 => simp
theorem hf_no (j : Nat) (n : Int) : (#[.int .i64 0, .int .u16 0, .slice none 0 0] : Array Value)[j]? ≠ some (.int .u8 n) := by
  match j with
  | 0 => simp
  | 1 => simp
  | 2 => simp
  | j + 3 => simp
section
variable {C P : Nat} {c : Ch} {w : World}
set_option maxHeartbeats 2000000 in
theorem halvesOf_any (h : Cm C P c w) :
    Calls Try.prog 20 #[.pointer (some ⟨C, 0, none⟩)] w fun e w' => ∃ v u, e = .returned (.agg (hvA 0 (c.holds 0).1 v c.many (c.holds c.many).1 u)) ∧ Bytes w' v (c.holds 0).2 ∧ Bytes w' u (c.holds c.many).2 ∧ Below w.heap.size w w' ∧ Fr w.heap.size v ∧ Fr w.heap.size u := by
  have hm : c.many + c.many ≤ c.n := by unfold Ch.many; omega
  have hq0 := heap_alloc_new w (.cells #[.int .i64 0, .int .u16 0, .slice none 0 0, .int .i64 0, .int .u16 0, .slice none 0 0] 57 (0, 0))
  have B1 : Below w.heap.size w (w.alloc (.cells #[.int .i64 0, .int .u16 0, .slice none 0 0, .int .i64 0, .int .u16 0, .slice none 0 0] 57)) := (Below.refl _ w).alloc (Nat.le_refl _) _
  obtain ⟨w1, hw1⟩ : ∃ x, w.alloc (.cells #[.int .i64 0, .int .u16 0, .slice none 0 0, .int .i64 0, .int .u16 0, .slice none 0 0] 57) = x := ⟨_, rfl⟩
  obtain ⟨q0, hq0s⟩ : ∃ q, w.heap.size = q := ⟨_, rfl⟩
  rw [hw1] at hq0 B1
  rw [hq0s] at hq0
  have h1 := h.below B1
  have ha := halfAt_any h1 0 (by omega)
  have hp := hidOf (fun (x : World) (hx : Below w1.heap.size w1 x) => And.intro (halfPages_any (h1.below hx)) (halfAt_any (h1.below hx) c.many hm))
  have HF : Hid (∀ x A, Below w1.heap.size w1 x → x.heap[q0]? = some (.cells #[.int .i64 0, .int .u16 0, .slice none 0 0, .int .i64 0, .int .u16 0, .slice none 0 0] 57 (0, 0)) ∧ Below w.heap.size w (x.setRow q0 A)) := fun x A hx =>
    ⟨(hx.block q0 (Array.getElem?_eq_some_iff.1 hq0).1).trans hq0, below_row (B1.trans (hx.mono B1.size)) (by omega) (B1.trans (hx.mono B1.size)).size A⟩
  generalize (c.holds 0).1 = k0 at *
  generalize (c.holds 0).2 = l0 at *
  generalize (c.holds c.many).1 = k1 at *
  generalize (c.holds c.many).2 = l1 at *
  simp only [hfA] at ha hp
  have HW1 := hidOf B1.size
  clear h h1 B1 hq0 hm
  go_enter Try.func20, Try.ntmps20
  go_wp2_with (first | (go_at_call 36; refine ha.mono ?_; clear ha; rintro e w2 ⟨v2, rfl, hv2, hb2, hf2⟩; have HF2 := hidOf (hf2.mono HW1.out); obtain ⟨hpp, ha2⟩ := hp.out w2 hb2; clear hp hf2) | (go_at_call 22; refine hpp.mono ?_; rintro e x2 ⟨rfl, hx2⟩; rw [hx2]; clear hx2 x2) | (go_at_call 36; refine ha2.mono ?_; rintro e w3 ⟨v3, rfl, hv3, hb3, hf3⟩; have HF3 := hidOf (hf3.mono (Nat.le_trans HW1.out hb2.size)); clear hf3; have HB3 := hidOf (hb2.trans (hb3.mono hb2.size)); have HV2 := hidOf (hv2.below hb3); have HV3 := hidOf hv3; clear ha2; obtain ⟨hq3, _⟩ := HF.out w3 #[] HB3.out) | (refine wpList_store_row rfl 57 _ _ rfl q0 (hvA 0 k0 v2 c.many k1 v3) rfl rfl 57 _ hq3 infoHv rfl (hvA_one _ _ _ _ _ _ (oneSlice HV2.out) (oneSlice HV3.out)) ?_; have hq4 := Go.Proofs.Ythbcpmakhdogmaa.setRow_heap w3 q0 _ (hvA 0 k0 v2 c.many k1 v3) _ _ hq3))
  have hld := load_hv _ q0 _ _ _ _ _ _ hq4
  have hf9 := (HF.out w3 (hvA 0 k0 v2 c.many k1 v3) HB3.out).2
  try simp only [Act.put, List.setIfInBounds_toArray, List.set_cons_succ, List.set_cons_zero]
  exact bodyPost_ret (v := .agg (hvA 0 k0 v2 c.many k1 v3)) (by simp [results, Try.results20, asAddr, hld]) rfl ⟨_, _, rfl, bytes_rowH HV2.out hq3 hv_no _, bytes_rowH HV3.out hq3 hv_no _, (by first | exact hf9 | (rw [hq0s] at hf9; exact hf9)), (by first | exact HF2.out | (have h := HF2.out; rw [hq0s] at h; exact h)), (by first | exact HF3.out | (have h := HF3.out; rw [hq0s] at h; exact h))⟩
/-- Which half is the latest, of two counters. -/
def lat (k m : Nat) : Nat := if k = 0 ∨ m = nxt k then 1 else 0
theorem latest_any (f k g m : Nat) (v u : Value) (w : World) (hk : k < 65536) (hm : m < 65536) :
    Calls Try.prog 21 #[.agg (hvA f k v g m u)] w fun e w' => e = .returned (.int .i64 (lat k m)) ∧ Below w.heap.size w w' := by
  have hq := heap_alloc_new w (.cells (hvA f k v g m u) 57 (0, 0))
  have B1 : Below w.heap.size w (w.alloc (.cells (hvA f k v g m u) 57)) := (Below.refl _ w).alloc (Nat.le_refl _) _
  obtain ⟨w1, hw1⟩ : ∃ x, w.alloc (.cells (hvA f k v g m u) 57) = x := ⟨_, rfl⟩
  obtain ⟨q, hqs⟩ : ∃ q, w.heap.size = q := ⟨_, rfl⟩
  rw [hw1] at hq B1
  rw [hqs] at hq
  have c1 : w1.cell? ⟨q, 1, none⟩ = some (.int .u16 k) := Lib.cell_of_heap hq 1
  have c4 : w1.cell? ⟨q, 4, none⟩ = some (.int .u16 m) := Lib.cell_of_heap hq 4
  have hn := next_any k hk
  have HL : Hid (lat k m = if k = 0 ∨ m = nxt k then 1 else 0) := rfl
  have hlt := nxt_lt hk
  generalize lat k m = L at *
  generalize nxt k = nk at *
  have HB := hidOf B1
  by_cases hk0 : k = 0
  · have e1 := hidOf (show L = 1 by rw [HL.out, if_pos (.inl hk0)])
    subst hk0
    replace c1 : w1.cell? ⟨q, 1, none⟩ = some (.int .u16 0) := c1
    go_enter Try.func21, Try.ntmps21
    go_wp2_with fail
    go_quiet (first | (go_at_call 28; refine Calls.quiet_of_same (hn _)))
    go_wp2
    go_ret
    exact ⟨ret_int (by rw [e1.out]; rfl), (by first | exact bdr HB.out _ | (have := bdr HB.out 1; rw [hqs] at this; exact this))⟩
  · have dk : ((k : Int) == 0) = false := by simp; omega
    by_cases hmk : m = nk
    · have e1 := hidOf (show L = 1 by rw [HL.out, if_pos (.inr hmk)])
      subst hmk
      go_enter Try.func21, Try.ntmps21
      go_wp2_with fail
      go_quiet (first | (go_at_call 28; refine Calls.quiet_of_same (hn _)))
      go_wp2
      go_ret
      exact ⟨ret_int (by rw [e1.out]; rfl), (by first | exact bdr HB.out _ | (have := bdr HB.out 1; rw [hqs] at this; exact this))⟩
    · have e1 := hidOf (show L = 0 by rw [HL.out, if_neg (by omega)])
      have dm : ((m : Int) == (nk : Int)) = false := by simp; omega
      go_enter Try.func21, Try.ntmps21
      go_wp2_with fail
      go_quiet (first | (go_at_call 28; refine Calls.quiet_of_same (hn _)))
      go_wp2
      go_ret
      exact ⟨ret_int (by rw [e1.out]; rfl), (by first | exact bdr HB.out _ | (have := bdr HB.out 1; rw [hqs] at this; exact this))⟩
theorem clearHead_any (h : Cm C P c w) (f : Nat) : Calls Try.prog 24 #[.pointer (some ⟨C, 0, none⟩), .int .i64 f] w fun e w' => e = .returned (.bool (c.wr f zero8).2) ∧ Cm C P (c.wr f zero8).1 w' ∧ Two C P w w' := by
  have hw := Write_any h (f : Int) zero8 zero8_len
  have hz : pgV zero8 = .agg #[.int .u8 0, .int .u8 0, .int .u8 0, .int .u8 0, .int .u8 0, .int .u8 0, .int .u8 0, .int .u8 0] := rfl
  rw [hz] at hw
  generalize (c.wr f zero8).2 = o at *
  generalize (c.wr f zero8).1 = d at *
  go_enter Try.func24, Try.ntmps24
  go_wp2_with (go_at_call 26; refine hw.mono ?_; rintro e w2 ⟨rfl, h2, t2⟩)
  go_ret
  exact ⟨rfl, h2, t2⟩
theorem written_any (b : Bool) (w : World) : Calls Try.prog 23 #[.bool b] w fun e w' => e = .returned (.int .i64 (if b then 0 else 6)) ∧ w' = w := by
  cases b
  · go_enter Try.func23, Try.ntmps23
    go_wp2
    go_ret
    exact ⟨rfl, rfl⟩
  · go_enter Try.func23, Try.ntmps23
    go_wp2
    go_ret
    exact ⟨rfl, rfl⟩
end
end Go.Proofs.Ythbcpmakhdogmaa
