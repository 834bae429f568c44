/- A chip that a law made; New; the small living call. -/
import Derived.Test.YthbcpmakhdogmaaNvV
import Derived.Test.YthbcpmakhdogmaaNvX
import Derived.Lib.SlBytesConst
namespace Go.Proofs.Ythbcpmakhdogmaa
open Go.RowKit Go.Shelf Go.Proofs.Ty Go.Proofs.Nv Go.Proofs.Bits
set_option linter.unusedVariables false
set_option maxRecDepth 1000000
set_option linter.unusedSimpArgs false
/-- A chip made since w. -/
structure Lw (w : World) (C P : Nat) (d : Ch) (W : World) : Prop where
  chip : Cm C P d W
  old : Below w.heap.size w W
  c1 : w.heap.size ≤ C
  p1 : w.heap.size ≤ P
section
variable {w W W' : World} {C P : Nat} {d d' : Ch}
theorem Lw.two (h : Lw w C P d W) (hc : Cm C P d' W') (t : Two C P W W') : Lw w C P d' W' :=
  ⟨hc, ⟨t.os.trans h.old.os, t.tape.trans h.old.tape, t.output.trans h.old.output, Nat.le_trans h.old.size t.size, fun k hk => (t.block k (Nat.lt_of_lt_of_le hk h.old.size) (by have := h.c1; omega) (by have := h.p1; omega)).trans (h.old.block k hk)⟩, h.c1, h.p1⟩
theorem Lw.below (h : Lw w C P d W) (b : Below W.heap.size W W') : Lw w C P d W' := ⟨h.chip.below b, h.old.trans (b.mono h.old.size), h.c1, h.p1⟩
theorem ap_own {B n : Nat} {v : Value} {xs : List Value} (h : W.ownsRow B 5 1 v n xs) (hc : Cm C P d W) : Ap C P v := by
  intro b off m c hv
  rcases h.2 with ⟨h1, _⟩ | ⟨g, cap, cur, h1, _, hg, _⟩
  · rw [hv] at h1; cases h1
  · rw [hv] at h1
    injection h1 with h1
    injection h1 with h1
    injection h1 with h1
    subst h1
    refine ⟨fun e => ?_, fun e => ?_⟩
    · have := hc.head; rw [← e, hg] at this; simp at this
    · have := hc.pages; rw [← e, hg] at this; simp at this
theorem own_cpN {B n : Nat} {v : Value} {e : TypeId} {c : Nat} {xs : List Value} (h : W.ownsRow B e c v n xs) : ∀ ao m k, v = .slice ao m k → m ≤ k := by
  rintro ao m k rfl
  rcases h.2 with ⟨h1, h2⟩ | ⟨g, cap, cur, h1, _, _, h2, _⟩
  · injection h1 with e1 e2 e3; omega
  · injection h1 with e1 e2 e3; omega
/-- append of bytes to none, and a Save of what that gives. -/
theorem Lw.app (h : Lw w C P d W) {vx : Value} {l : List UInt8} (hB : Bytes W vx l) (hl : l.length ≤ 140737488355328) :
    ∃ WA qA, W.alloc (.cells #[] 5) = WA ∧ W.heap.size = qA ∧ WA.ownsRow qA 5 1 (.slice (some ⟨qA, 0, none⟩) 0 0) ([] : List UInt8).length (Lib.byteCells []) ∧ Bytes WA vx l ∧ qA ≤ WA.heap.size ∧
      Hid (∀ v1 w2, w2.ownsRow qA 5 1 v1 ([] ++ l).length (Lib.byteCells ([] ++ l)) → WA.grownBy w2 (Value.slice (some ⟨qA, 0, none⟩) 0 0).ownBlock → Calls Try.prog 12 #[.pointer (some ⟨C, 0, none⟩), v1] w2 fun e w' => e = .returned (.int .i64 (d.save l).2) ∧ Lw w C P (d.save l).1 w') := by
  refine ⟨_, _, rfl, rfl, own_empty W, hB.below ((Below.refl _ W).alloc (Nat.le_refl _) _), by rw [size_alloc]; omega, fun v1 w2 ho hg => ?_⟩
  have b1 : Below W.heap.size W (W.alloc (.cells #[] 5)) := (Below.refl _ W).alloc (Nat.le_refl _) _
  have b2 : Below W.heap.size W w2 := b1.grown hg b1.size (fun k e => by cases e; exact Nat.le_refl _)
  have h2 := h.below b2
  have ho' : w2.ownsRow W.heap.size 5 1 v1 l.length (Lib.byteCells l) := ho
  exact (Save_any h2.chip v1 l hl (bytes_of_own ho') (ap_own ho' h2.chip) (own_cpN ho')).mono fun e w' ⟨he, hc, ht⟩ => ⟨he, h2.two hc ht⟩
theorem infoCh : (Try.prog.info? 51).map (·.size) = some 3 := by kernel_rfl
theorem infoA8z : (Try.prog.info? 38).map (fun i => (i.zero, i.size, i.bytes)) = some (some (.agg #[.int .u8 0, .int .u8 0, .int .u8 0, .int .u8 0, .int .u8 0, .int .u8 0, .int .u8 0, .int .u8 0]), 8, 8) := by kernel_rfl
theorem made8 (n : Nat) : madeCells #[.int .u8 0, .int .u8 0, .int .u8 0, .int .u8 0, .int .u8 0, .int .u8 0, .int .u8 0, .int .u8 0] (n * 8) = (byC (List.replicate (8 * n) 0)).toArray := by
  apply Array.ext
  · simp [size_madeCells, Lib.byteCells, Nat.mul_comm]
  · intro i h1 h2
    have h8 : i % 8 < 8 := Nat.mod_lt _ (by decide)
    simp only [madeCells, Array.getElem_map, Array.getElem_range]
    simp [Lib.byteCells]
    generalize i % 8 = j at *
    match j, h8 with
    | 0, _ => rfl
    | 1, _ => rfl
    | 2, _ => rfl
    | 3, _ => rfl
    | 4, _ => rfl
    | 5, _ => rfl
    | 6, _ => rfl
    | 7, _ => rfl
theorem New_no (i : Int) (hi : i < 4 ∨ 32768 < i) (w : World) : Calls Try.prog 8 #[.int .i64 i] w fun e w' => e = .returned (.tuple #[.pointer none, .int .i64 1]) ∧ w' = w := by
  by_cases h : i < 4
  · have hd : decide (i < 4) = true := by simpa using h
    go_enter Try.func8, Try.ntmps8
    go_wp2
    go_ret2
    exact ⟨rfl, rfl⟩
  · have hd : decide (i < 4) = false := by simpa using h
    have hd2 : decide (32768 < i) = true := by simp; omega
    go_enter Try.func8, Try.ntmps8
    go_wp2
    go_ret2
    exact ⟨rfl, rfl⟩
theorem New_ok (n : Nat) (h1 : 4 ≤ n) (h2 : n ≤ 32768) (w : World) : Calls Try.prog 8 #[.int .i64 n] w fun e w' => ∃ C P, e = .returned (.tuple #[.pointer (some ⟨C, 0, none⟩), .int .i64 0]) ∧ Lw w C P (Ch.new n) w' := by
  obtain ⟨i0, hi0, hz0, hz1, hz2⟩ := info_parts infoA8z
  have hmk : (Instr.makeSlice 49 (.int .i64 n) (.int .i64 n)).run Try.prog w = .ok (.slice (some ⟨w.heap.size, 0, none⟩) n n) (w.alloc (.cells (byC (List.replicate (8 * n) 0)).toArray 38)) := by
    have := run_make (P := Try.prog) w 49 38 i0 _ Try.underlying49 hi0 hz0 .i64 .i64 n n (by omega) (Int.le_refl _) (by rw [hz2]; omega) (by omega)
    rw [hz1, Int.toNat_natCast] at this
    rw [this, show (Value.agg #[.int .u8 0, .int .u8 0, .int .u8 0, .int .u8 0, .int .u8 0, .int .u8 0, .int .u8 0, .int .u8 0]).cells = #[.int .u8 0, .int .u8 0, .int .u8 0, .int .u8 0, .int .u8 0, .int .u8 0, .int .u8 0, .int .u8 0] from rfl, made8]
  have b1 : Below w.heap.size w (w.alloc (.cells (byC (List.replicate (8 * n) 0)).toArray 38)) := (Below.refl _ w).alloc (Nat.le_refl _) _
  have hp := heap_alloc_new w (.cells (byC (List.replicate (8 * n) 0)).toArray 38 (0, 0))
  obtain ⟨w1, hw1⟩ : ∃ x, w.alloc (.cells (byC (List.replicate (8 * n) 0)).toArray 38) = x := ⟨_, rfl⟩
  obtain ⟨q, hq⟩ : ∃ q, w.heap.size = q := ⟨_, rfl⟩
  rw [hw1] at hmk b1 hp
  rw [hq] at hmk hp
  have hh := heap_alloc_new w1 (.cells #[.slice (some ⟨q, 0, none⟩) n n, .int .i64 (-1), .bool false] 51 (0, 0))
  have b2 := b1.alloc b1.size (.cells #[.slice (some ⟨q, 0, none⟩) n n, .int .i64 (-1), .bool false] 51)
  have HL : Hid (Lw w w1.heap.size q (Ch.new n) (w1.alloc (.cells #[.slice (some ⟨q, 0, none⟩) n n, .int .i64 (-1), .bool false] 51))) :=
    ⟨⟨hh, (Below.heap_alloc w1 _ q (Array.getElem?_eq_some_iff.1 hp).1).trans hp, Ch.new_ok h1 h2⟩, b2, b1.size, by omega⟩
  clear b1 b2 hp hh hw1
  have hd : decide ((n : Int) < 4) = false := by simp; omega
  have hd2 : decide (32768 < (n : Int)) = false := by simp; omega
  go_enter Try.func8, Try.ntmps8
  go_wp2
  go_ret2
  exact ⟨_, _, rfl, HL.out⟩
theorem Lw.lit (h : Lw w C P d W) (x : UInt8) (n : Int) (hn : n = (x.toNat : Int)) :
    ∃ WA qA WB, W.alloc (.cells #[.int .u8 n] 5) = WA ∧ W.heap.size = qA ∧ (convert 30 30 (.slice (some ⟨qA, 0, none⟩) 1 1)).run Try.prog WA = .ok (.slice (some ⟨qA, 0, none⟩) 1 1) WB ∧
      Calls Try.prog 12 #[.pointer (some ⟨C, 0, none⟩), .slice (some ⟨qA, 0, none⟩) 1 1] WB fun e w' => e = .returned (.int .i64 (d.save [x]).2) ∧ Lw w C P (d.save [x]).1 w' := by
  refine ⟨_, _, _, rfl, rfl, Lib.run_convert_bytes_const W 30 5 #[.int .u8 n] 1 1 Try.underlying30 Try.underlying5, ?_⟩
  have b1 : Below W.heap.size W (W.alloc (.cells #[.int .u8 n] 5 (1, 2))) := (Below.refl _ W).alloc (Nat.le_refl _) _
  have hq := heap_alloc_new W (.cells #[.int .u8 n] 5 (1, 2))
  have h2 := h.below b1
  have hc := h.chip.lt
  have hp := h.chip.ltP
  refine (Save_any h2.chip (.slice (some ⟨W.heap.size, 0, none⟩) 1 1) [x] (by simp) ?_ ?_ ?_).mono fun e w' ⟨he, hc, ht⟩ => ⟨he, h2.two hc ht⟩
  · refine bytes_cells hq 1 rfl (fun k hk => ?_)
    simp at hk
    subst hk
    simp [hn]
  · intro b off m c hv
    injection hv with hv
    injection hv with hv
    injection hv with hv
    omega
  · intro ao m k hv
    injection hv with _ h1 h2
    omega
theorem load_lw (h : Lw w C P d W) : Calls Try.prog 10 #[.pointer (some ⟨C, 0, none⟩)] W fun e w' => ∃ v, e = .returned (.tuple #[v, .bool (d.kept.1 != 0)]) ∧ Bytes w' v d.kept.2 ∧ Lw w C P d w' ∧ Below W.heap.size W w' ∧ Fr W.heap.size v := (Load_any h.chip).mono fun e w' ⟨v, he, hv, hb, hf⟩ => ⟨v, he, hv, h.below hb, hb, hf⟩
/-- A Save of what was loaded. -/
theorem Lw.again {X : World} (h : Lw w C P d X) {v : Value} {l : List UInt8} (hB : Bytes X v l) (hl : l.length ≤ 140737488355328) {B : Nat} (hf : Fr B v) (hC : C < B) (hP : P < B) :
    Calls Try.prog 12 #[.pointer (some ⟨C, 0, none⟩), v] X fun e w' => e = .returned (.int .i64 (d.save l).2) ∧ Lw w C P (d.save l).1 w' :=
  (Save_any h.chip v l hl hB (fun b off n k e => by have := (hf _ _ _ e).2 _ rfl; simp only at this; omega) (fun ao n k e => (hf ao n k e).1)).mono fun e w' ⟨he, hc, ht⟩ => ⟨he, h.two hc ht⟩
theorem cut_lw (h : Lw w C P d W) (a : Int) (h0 : -9223372036854775808 ≤ a) (ha : a < 9223372036854775808) : Calls Try.prog 17 #[.pointer (some ⟨C, 0, none⟩), .int .i64 a] W fun e w' => (∃ v, e = .returned v) ∧ Lw w C P (d.cut a) w' := (Cut_any h.chip a h0 ha).mono fun e w' ⟨he, hc, ht⟩ => ⟨he, h.two hc ht⟩
theorem power_lw (h : Lw w C P d W) : Calls Try.prog 19 #[.pointer (some ⟨C, 0, none⟩)] W fun e w' => (∃ v, e = .returned v) ∧ Lw w C P d.power w' := (Power_any h.chip).mono fun e w' ⟨he, hc, ht⟩ => ⟨he, h.two hc ht⟩
theorem erase_lw (h : Lw w C P d W) : Calls Try.prog 13 #[.pointer (some ⟨C, 0, none⟩)] W fun e w' => e = .returned (.int .i64 d.erase.2) ∧ Lw w C P d.erase.1 w' := (Erase_any h.chip).mono fun e w' ⟨he, hc, ht⟩ => ⟨he, h.two hc ht⟩
theorem liv1 : ((Ch.new 4).save [97]).2 = 0 ∧ ((Ch.new 4).save [97]).1.Ok ∧ ((Ch.new 4).save [97]).1.dead = false ∧ ((Ch.new 4).save [97]).1.kept = (1, [97]) ∧ ((Ch.new 4).save [97]).1.room = 8 := by
  have h := Ch.new_ok (n := 4) (by decide) (by decide)
  obtain ⟨h1, _⟩ := save_spec h [97] (by decide) rfl
  obtain ⟨a1, a2, a3, a4⟩ := h1 (.inl (by decide))
  rw [new_kept (by decide)] at a3
  exact ⟨a1, Ch.save_ok h _, a2, a3, save_room _ _⟩
theorem liv2 : ((((Ch.new 4).save [97]).1.cut 1).save [98]).2 = 6 ∧ ((((Ch.new 4).save [97]).1.cut 1).save [98]).1.dead = true ∧ ((((Ch.new 4).save [97]).1.cut 1).save [98]).1.kept = (1, [97]) ∧ ((((Ch.new 4).save [97]).1.cut 1).save [98]).1.room = 8 := by
  obtain ⟨_, h2, h3, h4, h5⟩ := liv1
  generalize ((Ch.new 4).save [97]).1 = c at *
  obtain ⟨_, g2⟩ := save_spec (Ch.cut_ok h2 (a := 1) (by decide)) [98] (by show 1 ≤ c.room; omega) h3
  obtain ⟨a1, a2, a3⟩ := g2 (by show ¬ ((1 : Int) < 0 ∨ (3 : Int) ≤ 1); decide)
  exact ⟨a1, a2, a3.trans ((kept_cut c 1).trans h4), (save_room _ _).trans h5⟩
set_option maxHeartbeats 4000000 in
theorem lives9_any (w : World) : Calls Try.prog 14 #[] w fun e w' => e = .returned (.bool true) ∧ Below w.heap.size w w' := by
  have hN := New_ok 4 (by decide) (by decide) w
  obtain ⟨a1, a2, a3, a4, a5⟩ := liv1
  obtain ⟨b1, b2, b3, b4⟩ := liv2
  have HS1 : Hid (∀ C P x, Lw w C P (Ch.new 4) x → ∃ WA qA WB, x.alloc (.cells #[.int .u8 97] 5) = WA ∧ x.heap.size = qA ∧ (convert 30 30 (.slice (some ⟨qA, 0, none⟩) 1 1)).run Try.prog WA = .ok (.slice (some ⟨qA, 0, none⟩) 1 1) WB ∧ Calls Try.prog 12 #[.pointer (some ⟨C, 0, none⟩), .slice (some ⟨qA, 0, none⟩) 1 1] WB fun e w' => e = .returned (.int .i64 0) ∧ Lw w C P ((Ch.new 4).save [97]).1 w') := fun C P x hx => by
    obtain ⟨WA, qA, WB, h1, h2, hc, h3⟩ := hx.lit 97 97 rfl
    rw [a1] at h3
    exact ⟨WA, qA, WB, h1, h2, hc, h3⟩
  generalize ((Ch.new 4).save [97]).1 = c1 at *
  have HS2 : Hid (∀ C P x, Lw w C P (c1.cut 1) x → ∃ WA qA WB, x.alloc (.cells #[.int .u8 98] 5) = WA ∧ x.heap.size = qA ∧ (convert 30 30 (.slice (some ⟨qA, 0, none⟩) 1 1)).run Try.prog WA = .ok (.slice (some ⟨qA, 0, none⟩) 1 1) WB ∧ Calls Try.prog 12 #[.pointer (some ⟨C, 0, none⟩), .slice (some ⟨qA, 0, none⟩) 1 1] WB fun e w' => e = .returned (.int .i64 6) ∧ Lw w C P ((c1.cut 1).save [98]).1 w') := fun C P x hx => by
    obtain ⟨WA, qA, WB, h1, h2, hc, h3⟩ := hx.lit 98 98 rfl
    rw [b1] at h3
    exact ⟨WA, qA, WB, h1, h2, hc, h3⟩
  generalize ((c1.cut 1).save [98]).1 = c2 at *
  have HLD : Hid (∀ C P x, Lw w C P c2 x → Calls Try.prog 10 #[.pointer (some ⟨C, 0, none⟩)] x fun e w' => ∃ v, e = .returned (.tuple #[v, .bool true]) ∧ Bytes w' v [97] ∧ Lw w C P c2 w' ∧ Below x.heap.size x w' ∧ Fr x.heap.size v) := fun C P x hx => by
    have := load_lw hx
    rw [b3] at this
    exact this
  have HDR : Hid (∀ C P x, Lw w C P c2 x → Calls Try.prog 18 #[.pointer (some ⟨C, 0, none⟩)] x (fun e w' => e = .returned (.bool true) ∧ w' = x) ∧ Calls Try.prog 11 #[.pointer (some ⟨C, 0, none⟩)] x (fun e w' => e = .returned (.int .i64 8) ∧ w' = x)) := fun C P x hx => by
    have h1 := Dead_any hx.chip
    have h2 := Room_any hx.chip
    rw [b2] at h1
    rw [b4] at h2
    exact ⟨h1, h2⟩
  have HCT : Hid (∀ C P x, Lw w C P c1 x → Calls Try.prog 17 #[.pointer (some ⟨C, 0, none⟩), .int .i64 1] x fun e w' => (∃ v, e = .returned v) ∧ Lw w C P (c1.cut 1) w') := fun C P x hx => cut_lw hx 1 (by decide) (by decide)
  clear a1 a2 a3 a4 a5 b1 b2 b3 b4
  go_enter Try.func14, Try.ntmps14
  go_wp2_with (first | (go_at_call 8; refine hN.mono ?_; clear hN; rintro e w1 ⟨C, P, rfl, h1⟩; obtain ⟨wA, qA, wA2, hwA, hqA, hcvA, hs1⟩ := HS1.out C P w1 h1; clear HS1 h1) | (go_at_call 12; refine hs1.mono ?_; clear hs1; rintro e w2 ⟨rfl, h2⟩; have hct := HCT.out C P w2 h2; clear h2) | (go_at_call 17; refine hct.mono ?_; clear hct; rintro e w3 ⟨⟨v3, rfl⟩, h3⟩; obtain ⟨wB, qB, wB2, hwB, hqB, hcvB, hs2⟩ := HS2.out C P w3 h3; clear HS2 h3) | (go_at_call 12; refine hs2.mono ?_; clear hs2; rintro e w4 ⟨rfl, h4⟩; have hld := HLD.out C P w4 h4; clear h4) | (go_at_call 10; refine hld.mono ?_; clear hld; rintro e w5 ⟨v5, rfl, hv5, h5, hb5, _⟩; have htx := hv5.text; obtain ⟨av, cv, hav⟩ := bytes_shapeN hv5; subst hav; replace htx : (convert 30 9 (.slice av 1 cv)).run Try.prog w5 = .ok (.string ⟨#[97]⟩) w5 := htx; obtain ⟨hdd, hrr⟩ := HDR.out C P w5 h5; have HO5 := hidOf h5.old; clear hv5 h5 hb5) | (go_at_call 18; refine hdd.mono ?_; rintro e x1 ⟨rfl, hx1⟩; rw [hx1]; clear hx1 x1) | (go_at_call 11; refine hrr.mono ?_; rintro e x1 ⟨rfl, hx1⟩; rw [hx1]; clear hx1 x1))
  go_ret
  exact ⟨rfl, HO5.out⟩
end
end Go.Proofs.Ythbcpmakhdogmaa
