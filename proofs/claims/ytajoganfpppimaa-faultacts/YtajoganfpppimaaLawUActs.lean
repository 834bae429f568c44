/- The law FaultActs returns true whatever happens. -/
import Derived.Test.YtajoganfpppimaaUActs
namespace Go.Proofs.Ytajoganfpppimaa
open Go.RowKit
set_option linter.unusedVariables false
set_option maxRecDepth 1000000

theorem infoA : (Try.prog.info? 29).map (·.size) = some 4 := by kernel_rfl
section
variable {w : World} {b o : Nat} {a : { a : Ac // a.ok }}
theorem act_cells (h : w.rangeAt b o (decA a)) : w.cell? ⟨b, o, none⟩ = some (.int .i64 a.1.kind) ∧ w.cell? ⟨b, o + 1, none⟩ = some (.int .i64 a.1.n) ∧ w.cell? ⟨b, o + 2, none⟩ = some (.bool a.1.how) ∧ w.cell? ⟨b, o + 3, none⟩ = some (.int .u8 a.1.times) :=
  ⟨h 0 _ rfl, h 1 _ rfl, h 2 _ rfl, h 3 _ rfl⟩
theorem act_ld {ops : Array Oper} {rest : List Oper} {p : Oper} {f : Act} {Q : Exit → Act → World → Prop} (h : w.rangeAt b o (decA a)) (hgd : p.guard = none) (x : Operand) (ho : p.op = .load 29 x) (hx : f.eval x = .pointer (some ⟨b, o, none⟩))
    (hh : wpList Try.prog ops Q rest (f.put p.dst (.agg a.1.arr)) w) : wpList Try.prog ops Q (p :: rest) f w :=
  wpList_load_mid hgd 29 x ho b o hx (decA a) _ h Try.underlying29 rfl infoA hh
end
set_option maxHeartbeats 4000000 in
theorem acts_walk (v : Value) (l : List { a : Ac // a.ok }) (w : World) (hl : l.length ≤ 140737488351232) (hB : Acts w v l) :
    Calls Try.prog 3 #[v] w fun e w' => e = .returned (.bool true) ∧ Below w.heap.size w w' := by
  obtain ⟨ao, cap, rfl, _, hc⟩ := hB
  have HC : Hid (∀ (wr : World), Below w.heap.size w wr → ∀ k (hk : k < l.length), ∃ b off, ao = some ⟨b, off, none⟩ ∧ b < w.heap.size ∧ wr.rangeAt b (off + k * 4) (decA l[k])) := fun wr hb k hk => Wide.at hc hb k hk
  have U0 := (Ua.new w).alloc (.cells #[.int .i64 0, .int .i64 0, .bool false, .int .i64 0] 27)
  have D0 := Da.new (w.alloc (.cells #[.int .i64 0, .int .i64 0, .int .i64 0] 44))
  rw [show (w.alloc (.cells #[.int .i64 0, .int .i64 0, .int .i64 0] 44)).heap.size = w.heap.size + 1 by simp] at D0
  have B0 : Below w.heap.size w ((w.alloc (.cells #[.int .i64 0, .int .i64 0, .int .i64 0] 44)).alloc (.cells #[.int .i64 0, .int .i64 0, .bool false, .int .i64 0] 27)) := ((Below.refl _ _).alloc (Nat.le_refl _) _).alloc (by simp) _
  clear hc
  go_enter Try.func3, Try.ntmps3
  go_wp2_with (go_at_call 8; refine (new_any _).mono ?_; rintro e w' ⟨rfl, rfl⟩)
  generalize (w.alloc (.cells #[.int .i64 0, .int .i64 0, .int .i64 0] 44)).alloc (.cells #[.int .i64 0, .int .i64 0, .bool false, .int .i64 0] 27) = w1 at *
  generalize hg : w.heap.size = g at *
  go_loopw [5] (fun i x => ∃ k : Nat, k ≤ l.length ∧ i = .int .i64 k ∧ (∃ u : Un, u.ok ∧ Ua g u x ∧ Da (g + 1) u x) ∧ Below g w x) (fun i _ => l.length - (intOf i).toNat)
  case atStart => exact ⟨0, by omega, rfl, ⟨_, Un.ok_nul, U0, D0⟩, B0⟩
  case round =>
    clear U0 B0 D0
    obtain ⟨k, hk, rfl, H1, B1⟩ := hrel
    by_cases hkl : k < l.length
    · obtain ⟨W, hW⟩ : ∃ W, W = wr := ⟨wr, rfl⟩
      subst hW
      go_wp2
      go_loopw [6] (fun i x => ∃ m : Nat, m ≤ l[k].1.times + 1 ∧ i = .int .i64 m ∧ (∃ u : Un, u.ok ∧ Ua g u x ∧ Da (g + 1) u x) ∧ Below g w x) (fun i _ => l[k].1.times + 1 - (intOf i).toNat)
      case atStart => exact ⟨0, by omega, rfl, H1, B1⟩
      case round =>
        clear H1 B1
        obtain ⟨m, hm, rfl, ⟨u, hu, U1, D1⟩, B1⟩ := hrel
        obtain ⟨b, off, rfl, hb, hR⟩ := HC.out wr B1 k hkl
        obtain ⟨c0, c1, c2, c3⟩ := act_cells hR
        have h255 := l[k].2.2.2
        have hao := l[k].2
        generalize l[k] = a at *
        by_cases hmt : m ≤ a.1.times
        · have hd : decide ((m : Int) ≤ (a.1.times : Int)) = true := by simp; omega
          go_wp2_with (refine act_ld hR rfl _ rfl rfl ?_)
          refine (does_any a.1 hao hu hu (by omega) U1 D1).mono ?_
          rintro e w2 ⟨rfl, U2, D2, T2⟩
          rw [a.1.told_same]
          have hu2 := a.1.ok_on hu
          have B2 : Below g w w2 := B1.trans (T2.below (by have := B1.size; omega) (Nat.le_refl _) (by omega))
          generalize a.1.on u = u2 at *
          clear U1 D1 B1 T2 c0 c1 c2 c3 hR hu
          go_wp2_with fail
          refine (counts_any U2).mono ?_
          rintro e w3 ⟨rfl, n, rfl⟩
          have U3 := U2.drawn n
          have D3 := D2.drawn n
          have B3 : Below g w (w2.drewN n) := ⟨B2.os, B2.tape, B2.output, B2.size, B2.block⟩
          generalize w2.drewN n = w3 at *
          clear U2 D2 B2
          obtain ⟨d0, d1, d2, d3, _⟩ := D3.cells
          have HS := state_any U3
          have HT : ∀ n, Calls Try.prog 12 #[.pointer (some ⟨g + 1, 0, none⟩)] (w3.drewN n) fun e w' => e = .returned (.int .i64 u2.state) ∧ w' = w3.drewN n := fun n => dstate_any (D3.drawn n)
          have HV : ∀ n, Calls Try.prog 13 #[.pointer (some ⟨g, 0, none⟩)] (w3.drewN n) fun e w' => e = .returned (.bool u2.warns) ∧ ∃ m, w' = (w3.drewN n).drewN m := fun n => warns_any (U3.drawn n)
          have HX : ∀ n, Calls Try.prog 14 #[.pointer (some ⟨g + 1, 0, none⟩)] (w3.drewN n) fun e w' => e = .returned (.bool u2.warns) ∧ w' = w3.drewN n := fun n => dwarns_any (D3.drawn n)
          have s1 : ((u2.s : Int) != (u2.s : Int)) = false := by simp
          generalize u2.state = st at *
          generalize u2.warns = wa at *
          go_wp2_with (first | (go_at_call 11; refine HS.mono ?_; rintro e w4 ⟨rfl, n1, rfl⟩) | (go_at_call 12; refine (HT _).mono ?_; rintro e w5 ⟨rfl, rfl⟩) | (go_at_call 13; refine (HV _).mono ?_; rintro e w6 ⟨rfl, n2, rfl⟩) | (go_at_call 14; refine (HX _).mono ?_; rintro e w7 ⟨rfl, rfl⟩))
          go_roundw
          case rel => exact ⟨m + 1, by omega, by go_num, ⟨u2, hu2, U3.drawn _, D3.drawn _⟩, ⟨B3.os, B3.tape, B3.output, B3.size, B3.block⟩⟩
          case measure => simp [intOf]; omega
        · have hd : decide ((m : Int) ≤ (a.1.times : Int)) = false := by simp; omega
          go_wp2
          go_roundw
          case rel => exact ⟨k + 1, by omega, by go_num, ⟨u, hu, U1, D1⟩, B1⟩
          case measure => simp [intOf]; omega
    · obtain ⟨u, hu, U1, D1⟩ := H1
      go_wp2_with fail
      refine (lives3_any _).mono ?_
      rintro e w4 ⟨rfl, B4⟩
      go_wp2
      go_ret
      exact ⟨rfl, by rw [hg]; exact B1.trans (B4.mono (by have := B1.size; omega))⟩
end Go.Proofs.Ytajoganfpppimaa
