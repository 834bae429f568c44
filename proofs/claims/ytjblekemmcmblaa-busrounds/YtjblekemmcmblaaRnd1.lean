/- Contracts: a test handed to slices.ContainsFunc; look. -/
import Derived.Test.YtjblekemmcmblaaBMath
namespace Go.Proofs.Ytjblekemmcmblaa
open Go.RowKit Go.Proofs.Bits
set_option linter.unusedVariables false
set_option maxRecDepth 1000000

def Fl.val (f : Fl) : Value := .agg #[.int .i64 f.nd, .int .i64 f.bit]
def Flips (w : World) (v : Value) (fl : List Fl) : Prop := Wide 2 Fl.cells w v fl
theorem infoFl : (Try.prog.info? 57).map (·.size) = some 2 := by kernel_rfl
theorem fl_ld {w : World} {ops : Array Oper} {rest : List Oper} {p : Oper} {a : Act} {Q : Exit → Act → World → Prop} {b o : Nat} {f : Fl} (h : w.rangeAt b o f.cells) (hgd : p.guard = none) (x : Operand) (ho : p.op = .load 57 x) (hx : a.eval x = .pointer (some ⟨b, o, none⟩))
    (hh : wpList Try.prog ops Q rest (a.put p.dst f.val) w) : wpList Try.prog ops Q (p :: rest) a w :=
  wpList_load_mid hgd 57 x ho b o hx f.cells _ h Try.underlying57 rfl (by rw [infoFl]; rfl) hh
def idxV (p : Fl → Bool) (fl : List Fl) : Int := if fl.any p then (fl.findIdx p : Int) else -1
theorem hmf : ∀ (fn : Fn) (first cap : Array Value) (w : World), (Instr.makeFunc fn first cap).run Try.prog w = .ok (.func fn first cap) w := fun _ _ _ _ => rfl
theorem any_false {p : Fl → Bool} {fl : List Fl} (h : ∀ j (hj : j < fl.length), p fl[j] = false) : fl.any p = false := by
  rw [List.any_eq_false]
  intro x hx
  obtain ⟨j, hj, rfl⟩ := List.getElem_of_mem hx
  simp [h j hj]
theorem any_true {p : Fl → Bool} {fl : List Fl} {k : Nat} (hk : k < fl.length) (h : p fl[k] = true) : fl.any p = true :=
  List.any_eq_true.2 ⟨fl[k], List.getElem_mem hk, h⟩
set_option maxHeartbeats 1000000 in
theorem IndexFunc_any (fn : Nat) (hen : ∀ args x, (callFunc fn args).run Try.prog x = .ok (.enter fn args) x) (cap : Value) (p : Fl → Bool) (v : Value) (fl : List Fl) (w : World) (hl : fl.length ≤ maxLen) (hS : Flips w v fl)
    (hp : ∀ f ∈ fl, ∀ x, Below w.heap.size w x → Calls Try.prog fn #[f.val, cap] x fun e y => e = .returned (.bool (p f)) ∧ Below x.heap.size x y) :
    Calls Try.prog 86 #[v, .func (.func fn) #[] #[cap]] w fun e w' => (∃ z : Int, e = .returned (.int .i64 z) ∧ (0 ≤ z ↔ fl.any p = true) ∧ -1 ≤ z ∧ z ≤ maxLen) ∧ Below w.heap.size w w' := by
  unfold maxLen at hl
  obtain ⟨ao, cp, rfl, _, hc⟩ := hS
  have HC : Hid (∀ (wr : World), Below w.heap.size w wr → ∀ k (hk : k < fl.length), ∃ b off, ao = some ⟨b, off, none⟩ ∧ b < w.heap.size ∧ wr.rangeAt b (off + k * 2) fl[k].cells) := fun wr hb k hk => Wide.at hc hb k hk
  have HP : Hid (∀ k (hk : k < fl.length), ∀ x, Below w.heap.size w x → Calls Try.prog fn #[fl[k].val, cap] x fun e y => e = .returned (.bool (p fl[k])) ∧ Below x.heap.size x y) := fun k hk => hp _ (List.getElem_mem hk)
  clear hc hp
  go_enter Try.func86, Try.ntmps86
  go_wp2
  go_loopw [8] (fun i x => ∃ k : Nat, k ≤ fl.length ∧ i = .int .i64 k ∧ (∀ j (hj : j < fl.length), j < k → p fl[j] = false) ∧ Below w.heap.size w x) (fun i _ => fl.length - (intOf i).toNat)
  case atStart => exact ⟨0, Nat.zero_le _, rfl, fun j _ h => by omega, Below.refl _ _⟩
  case round =>
    obtain ⟨k, hk, rfl, H1, B1⟩ := hrel
    by_cases hkl : k < fl.length
    · obtain ⟨b, off, rfl, hb, hR⟩ := HC.out wr B1 k hkl
      have hF := HP.out k hkl wr B1
      have HT : Hid (p fl[k] = true → fl.any p = true) := any_true hkl
      have HJ : Hid (∀ j (hj : j < fl.length), j < k + 1 → p fl[k] = false → p fl[j] = false) := by
        intro j hj h1 h2
        rcases Nat.lt_or_ge j k with h3 | h3
        · exact H1 j hj h3
        · have : j = k := by omega
          subst this; exact h2
      generalize fl[k] = f at *
      clear HC HP H1
      go_wp2_with (refine fl_ld hR rfl _ rfl rfl ?_)
      refine hF.mono ?_
      rintro e w4 ⟨rfl, B4⟩
      have B5 := B1.trans (B4.mono B1.size)
      clear hF B1 B4 hR
      cases hpf : p f
      · have HJ2 : Hid (∀ j (hj : j < fl.length), j < k + 1 → p fl[j] = false) := fun j hj h1 => HJ.out j hj h1 hpf
        clear HJ HT hpf
        go_wp2
        go_roundw
        case rel => exact ⟨k + 1, by omega, by go_num, HJ2.out, B5⟩
        case measure => simp [intOf]; omega
      · have HA : Hid (fl.any p = true) := HT.out hpf
        clear HJ HT hpf
        go_wp2
        go_ret
        exact ⟨⟨k, rfl, by simp [HA.out], by omega, by unfold maxLen; omega⟩, B5⟩
    · have HA : Hid (fl.any p = false) := any_false fun j hj => H1 j hj (by omega)
      go_wp2
      go_ret
      exact ⟨⟨-1, rfl, by simp [HA.out], by omega, by unfold maxLen; omega⟩, B1⟩
theorem ContainsFunc_any (fn : Nat) (hen : ∀ args x, (callFunc fn args).run Try.prog x = .ok (.enter fn args) x) (cap : Value) (p : Fl → Bool) (v : Value) (fl : List Fl) (w : World) (hl : fl.length ≤ maxLen) (hS : Flips w v fl)
    (hp : ∀ f ∈ fl, ∀ x, Below w.heap.size w x → Calls Try.prog fn #[f.val, cap] x fun e y => e = .returned (.bool (p f)) ∧ Below x.heap.size x y) :
    Calls Try.prog 71 #[v, .func (.func fn) #[] #[cap]] w fun e w' => e = .returned (.bool (fl.any p)) ∧ Below w.heap.size w w' := by
  have HI := IndexFunc_any fn hen cap p v fl w hl hS hp
  generalize fl.any p = A at *
  clear hl hS hp
  go_enter Try.func71, Try.ntmps71
  go_wp2_with fail
  refine HI.mono ?_
  rintro e w4 ⟨⟨z, rfl, hz, h1, h2⟩, B4⟩
  unfold maxLen at h2
  cases A
  · have hd : decide (0 ≤ z) = false := by simp at hz; simp; omega
    go_wp2
    go_ret
    exact ⟨rfl, B4⟩
  · have hd : decide (0 ≤ z) = true := by simp at hz; simpa using hz
    go_wp2
    go_ret
    exact ⟨rfl, B4⟩
theorem enter1 : ∀ args x, (callFunc 70 args).run Try.prog x = .ok (.enter 70 args) x := fun _ _ => by rfl
theorem look1_any (f : Fl) (n q : Nat) (w : World) (hc : w.cell? ⟨q, 0, none⟩ = some (.int .i64 n)) :
    Calls Try.prog 70 #[f.val, .pointer (some ⟨q, 0, none⟩)] w fun e y => e = .returned (.bool (wrongB n f)) ∧ Below w.heap.size w y := by
  have B1 : Below w.heap.size w (w.alloc (.cells #[.int .i64 f.nd, .int .i64 f.bit] 57)) := (Below.refl _ _).alloc (Nat.le_refl _) _
  have hq := World.block_lt_of_cell? w _ hc
  have hc2 : (w.alloc (.cells #[.int .i64 f.nd, .int .i64 f.bit] 57)).cell? ⟨q, 0, none⟩ = some (.int .i64 n) := (B1.cell (p := ⟨q, 0, none⟩) hq).trans hc
  unfold Fl.val
  by_cases h1 : f.nd < 0
  · have d1 : decide (f.nd < 0) = true := by simpa using h1
    have HV : Hid (wrongB n f = true) := by show _ = _; unfold wrongB; simp [h1]
    generalize wrongB n f = V at *
    clear h1
    go_enter Try.func70, Try.ntmps70
    go_wp2
    go_ret
    exact ⟨ret_bool HV.out.symm, B1⟩
  · have d1 : decide (f.nd < 0) = false := by simpa using h1
    by_cases h2 : (n : Int) ≤ f.nd
    · have d2 : decide ((n : Int) ≤ f.nd) = true := by simpa using h2
      have HV : Hid (wrongB n f = true) := by show _ = _; unfold wrongB; simp [h2]
      generalize wrongB n f = V at *
      clear h1 h2
      go_enter Try.func70, Try.ntmps70
      go_wp2
      go_ret
      exact ⟨ret_bool HV.out.symm, B1⟩
    · have d2 : decide ((n : Int) ≤ f.nd) = false := by simpa using h2
      by_cases h3 : f.bit < 0
      · have d3 : decide (f.bit < 0) = true := by simpa using h3
        have HV : Hid (wrongB n f = true) := by show _ = _; unfold wrongB; simp [h3]
        generalize wrongB n f = V at *
        clear h1 h2 h3
        go_enter Try.func70, Try.ntmps70
        go_wp2
        go_ret
        exact ⟨ret_bool HV.out.symm, B1⟩
      · have d3 : decide (f.bit < 0) = false := by simpa using h3
        have HV : Hid (wrongB n f = false) := by show _ = _; unfold wrongB; rw [d1, d2, d3]; rfl
        generalize wrongB n f = V at *
        clear h1 h2 h3
        go_enter Try.func70, Try.ntmps70
        go_wp2
        go_ret
        exact ⟨ret_bool HV.out.symm, B1⟩
theorem Flips.below {w w' : World} {v : Value} {fl : List Fl} (h : Flips w v fl) (hb : Below w.heap.size w w') : Flips w' v fl := by
  obtain ⟨ao, cap, hv, h0, hc⟩ := h
  refine ⟨ao, cap, hv, h0, fun k hk => ?_⟩
  obtain ⟨b, off, ha, hlt, hR⟩ := Wide.at hc hb k hk
  exact ⟨b, off, ha, Nat.lt_of_lt_of_le hlt hb.size, hR⟩
theorem blook_any (n : Nat) (v : Value) (fl : List Fl) (w : World) (hl : fl.length ≤ maxLen) (hS : Flips w v fl) :
    Calls Try.prog 45 #[.int .i64 n, v] w fun e w' => e = .returned (.int .i64 (lookV n fl)) ∧ Below w.heap.size w w' := by
  have B1 : Below w.heap.size w (w.alloc (.cells #[.int .i64 n] 3)) := (Below.refl _ _).alloc (Nat.le_refl _) _
  have c1 := cell_new w (.int .i64 n) 3
  have HC : ∀ x, Below (w.alloc (.cells #[.int .i64 n] 3)).heap.size (w.alloc (.cells #[.int .i64 n] 3)) x → x.cell? ⟨w.heap.size, 0, none⟩ = some (.int .i64 n) := fun x hx => (hx.cell (p := ⟨w.heap.size, 0, none⟩) (by rw [size_alloc]; exact Nat.lt_succ_self _)).trans c1
  have HF := ContainsFunc_any 70 enter1 (.pointer (some ⟨w.heap.size, 0, none⟩)) (wrongB n) v fl _ hl (hS.below B1) (fun f _ x hx => look1_any f n _ x (HC x hx))
  have HV : Hid (lookV n fl = if 127 < n then 2 else if 65536 < fl.length then 2 else if fl.any (wrongB n) then 1 else 0) := rfl
  obtain ⟨ao, cap, rfl, _⟩ := hS
  generalize lookV n fl = V at *
  unfold maxLen at hl
  clear HC
  have hm := hmf
  by_cases h1 : 127 < n
  · have d1 : decide ((127 : Int) < (n : Int)) = true := by simp; omega
    have HE : Hid (V = 2) := by show _ = _; rw [HV.out, if_pos h1]
    clear HV HF h1
    go_enter Try.func45, Try.ntmps45
    go_wp2
    go_ret
    exact ⟨ret_int HE.out.symm, B1⟩
  · have d1 : decide ((127 : Int) < (n : Int)) = false := by simp; omega
    rw [if_neg h1] at HV
    by_cases h2 : 65536 < fl.length
    · have d2 : decide ((65536 : Int) < (fl.length : Int)) = true := by simp; omega
      have HE : Hid (V = 2) := by show _ = _; rw [HV.out, if_pos h2]
      clear HV HF h1
      go_enter Try.func45, Try.ntmps45
      go_wp2
      go_ret
      exact ⟨ret_int HE.out.symm, B1⟩
    · have d2 : decide ((65536 : Int) < (fl.length : Int)) = false := by simp; omega
      rw [if_neg h2] at HV
      generalize fl.any (wrongB n) = A at *
      cases A
      · have HE : Hid (V = 0) := HV.out
        clear HV
        go_enter Try.func45, Try.ntmps45
        go_wp2_with fail
        refine HF.mono ?_
        rintro e w4 ⟨rfl, B4⟩
        have B5 := B1.trans (B4.mono B1.size)
        clear HF B4
        go_wp2
        go_ret
        exact ⟨ret_int HE.out.symm, B5⟩
      · have HE : Hid (V = 1) := HV.out
        clear HV
        go_enter Try.func45, Try.ntmps45
        go_wp2_with fail
        refine HF.mono ?_
        rintro e w4 ⟨rfl, B4⟩
        have B5 := B1.trans (B4.mono B1.size)
        clear HF B4
        go_wp2
        go_ret
        exact ⟨ret_int HE.out.symm, B5⟩
end Go.Proofs.Ytjblekemmcmblaa
