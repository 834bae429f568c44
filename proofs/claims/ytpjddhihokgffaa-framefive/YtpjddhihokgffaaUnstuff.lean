/- The contract of Unstuff. -/
import Derived.Test.YtpjddhihokgffaaStuff
import Derived.Test.YtpjddhihokgffaaMathU
namespace Go.Proofs.Ytpjddhihokgffaa
open Go.RowKit Go.Proofs.Bits
set_option linter.unusedVariables false
set_option maxRecDepth 1000000

theorem ret_three {s : ByteArray} {a b c d : Int} (h1 : a = b) (h2 : c = d) : Ending.returned (.tuple #[.string s, .int .i64 a, .int .i64 c]) = .returned (.tuple #[.string s, .int .i64 b, .int .i64 d]) := by rw [h1, h2]

set_option maxHeartbeats 4000000 in
set_option maxRecDepth 1000000 in
theorem Unstuff_ok (s : ByteArray) (w : World) (h0 : err s.data.toList = 0) :
    Calls Try.prog 27 #[.string s] w fun e w' => e = .returned (.tuple #[.string ⟨(unstuff s.data.toList).1.toArray⟩, .int .i64 (unstuff s.data.toList).2.1, .int .i64 (unstuff s.data.toList).2.2]) ∧ Below w.heap.size w w' := by
  obtain ⟨hl, hall⟩ := err_zero h0
  have hs : s.size ≤ 65536 := by simpa using hl
  have H0 : Hid (err s.data.toList = 0) := h0
  clear h0 hl
  go_enter Try.func27, Try.ntmps27
  go_wp2_with (go_at_call 55; refine (look_any s _).mono ?_; rintro e w1 ⟨rfl, hb⟩; rw [H0.out])
  go_loopw [] (fun wr => ∃ (pos : Nat) (t : List UInt8 × UInt8 × Nat), pos ≤ s.size ∧ t.2.2 ≤ 5 ∧ t.1.length ≤ pos ∧ un t pos (s.data.toList.drop pos) = unstuff s.data.toList ∧ Inv w1 s t.1 t.2.1 t.2.2 pos wr) (fun wr => s.size - wr.iterPos (w1.heap.size + 2))
  case atStart => exact ⟨0, ([], 0, 0), Nat.zero_le _, by simp, by simp, rfl, Inv.start w1 s⟩
  case round =>
    obtain ⟨pos, ⟨acc, lv, ct⟩, hle, hct, hln, hun, hI⟩ := hrel
    simp only at hct hln hI
    obtain ⟨⟨c0, c1⟩, f0, f1⟩ := (hI.next (pos + 1)).cells
    have hit := hI.2.2.1
    have hpo := hI.place
    by_cases hp : pos < s.size
    · have hbit := all_at hall pos hp
      rw [drop_at s pos hp] at hun
      have hnx : ∀ ty, (Instr.next (.pointer (some ⟨w1.heap.size + 2, 0, none⟩)) true ty).run Try.prog wr = _ := fun ty => Lib.run_next_ascii_at wr (w1.heap.size + 2) s pos ty hit hp (by omega)
      have hI2 := hI.next (pos + 1)
      by_cases h5 : ct = 5
      · subst h5
        by_cases hc : s[pos] = lv
        · have hbad := un_bad (t := (acc, lv, 5)) (i := pos) (r := s.data.toList.drop (pos + 1)) rfl hc
          have HU : Hid (unstuff s.data.toList = ([], pos, 20)) := hun.symm.trans hbad
          have hcb : ((s[pos].toNat : Int) == (lv.toNat : Int)) = true := by rw [hc]; simp
          clear hun hbad hc
          go_wp2
          go_ret3
          rw [HU.out]
          exact ⟨rfl, hb.trans ((hI2.2.2.2).mono hb.size)⟩
        · have HU : Hid (un (unNext (acc, lv, 5) s[pos]) (pos + 1) (s.data.toList.drop (pos + 1)) = unstuff s.data.toList) := by
            show _ = _
            rw [← hun, un_on (by simp only; intro h; exact hc h.2)]
          have hcb : ((s[pos].toNat : Int) == (lv.toNat : Int)) = false := by
            rw [beq_eq_false_iff_ne]; intro e; exact hc (UInt8.toNat_inj.1 (by omega))
          have en : unNext (acc, lv, 5) s[pos] = (acc, s[pos], 1) := by simp [unNext, cnt, hc]
          have hcn : cnt (acc, lv, 5) s[pos] = 1 := by simp [cnt, hc]
          rw [en] at HU
          clear hun hc en
          go_wp2_with (go_at_call 57; refine (with_byte acc lv 5 s[pos] (by omega) _).mono ?_)
          rintro e w3 ⟨rfl, b4⟩
          rw [hcn]
          have hI4 := hI2.below b4
          clear c0 c1 f0 f1
          obtain ⟨⟨c0, c1⟩, f0, f1⟩ := hI4.cells
          have hI5 := hI4.row s[pos] 1
          go_wp2
          go_roundw
          case rel => exact ⟨pos + 1, (acc, s[pos], 1), by omega, by simp, by simp only; omega, HU.out, hI5⟩
          case measure =>
            have hpl := hI5.place
            simp only [Int.natCast_one] at hpl
            rw [hpl, hpo]; omega
      · have HU : Hid (un (unNext (acc, lv, ct) s[pos]) (pos + 1) (s.data.toList.drop (pos + 1)) = unstuff s.data.toList) := by
          show _ = _
          rw [← hun, un_on (by simp only; intro h; exact h5 h.1)]
        have en : unNext (acc, lv, ct) s[pos] = (acc ++ [s[pos]], s[pos], cnt (acc, lv, ct) s[pos]) := by simp [unNext, h5]
        rw [en] at HU
        have h5b : ((ct : Int) == 5) = false := by simp; omega
        have hcl := cnt_le (acc, lv, ct) s[pos] (by simp only; omega)
        clear hun en
        go_wp2_with (go_at_call 56; refine (hI2.write s[pos] (by omega) (by omega)).mono ?_)
        rintro e w2 ⟨rfl, hI3⟩
        clear c0 c1 f0 f1
        obtain ⟨⟨c0, c1⟩, f0, f1⟩ := hI3.cells
        go_wp2_with (go_at_call 57; refine (with_byte acc lv ct s[pos] (by omega) _).mono ?_)
        rintro e w3 ⟨rfl, b4⟩
        have hI4 := hI3.below b4
        clear c0 c1 f0 f1
        obtain ⟨⟨c0, c1⟩, f0, f1⟩ := hI4.cells
        generalize cnt (acc, lv, ct) s[pos] = m at hcl HU
        have hI5 := hI4.row s[pos] m
        go_wp2
        go_roundw
        case rel => exact ⟨pos + 1, (acc ++ [s[pos]], s[pos], m), by omega, by simp only; omega, by simp; omega, HU.out, hI5⟩
        case measure => rw [hI5.place, hpo]; omega
    · have hnx : ∀ ty, (Instr.next (.pointer (some ⟨w1.heap.size + 2, 0, none⟩)) true ty).run Try.prog wr = _ := fun ty => Lib.run_next_end_at wr (w1.heap.size + 2) s pos ty hit hp
      clear c0 c1 f0 f1
      obtain ⟨⟨c0, c1⟩, f0, f1⟩ := hI.cells
      obtain rfl : pos = s.size := by omega
      rw [drop_all s s.size (by omega)] at hun
      have hlt := hI.lt
      by_cases h5 : ct = 5
      · subst h5
        rw [un_short rfl] at hun
        have HU : Hid (unstuff s.data.toList = ([], s.size, 3)) := hun.symm
        clear hun
        go_wp2
        go_ret3
        rw [HU.out]
        exact ⟨rfl, hb.trans ((hI.2.2.2).mono hb.size)⟩
      · rw [un_end h5] at hun
        have HU : Hid (unstuff s.data.toList = (acc, s.size, 0)) := hun.symm
        have h5b : ((ct : Int) == 5) = false := by simp; omega
        clear hun
        go_wp2_with (go_at_call 32; refine (Try.Builder_String_any_k w1.heap.size w1.heap.size _ _ hI.1 (by omega)).mono ?_)
        rintro e w2 ⟨rfl, _, b2, _⟩
        go_wp2
        go_ret3
        rw [HU.out]
        exact ⟨rfl, hb.trans ((hI.2.2.2.trans b2).mono hb.size)⟩

theorem Unstuff_any (s : ByteArray) (w : World) :
    Calls Try.prog 27 #[.string s] w fun e w' => e = .returned (.tuple #[.string ⟨(unV s.data.toList).1.toArray⟩, .int .i64 (unV s.data.toList).2.1, .int .i64 (unV s.data.toList).2.2]) ∧ Below w.heap.size w w' := by
  by_cases h0 : err s.data.toList = 0
  · rw [unV, if_pos h0]
    exact Unstuff_ok s w h0
  · have HU : Hid (unV s.data.toList = ([], 0, err s.data.toList)) := by show unV _ = _; simp [unV, h0]
    have hn : (err s.data.toList != 0) = true := by simp [h0]
    go_enter Try.func27, Try.ntmps27
    go_wp2_with (go_at_call 55; refine (look_any s _).mono ?_; rintro e w1 ⟨rfl, hb⟩)
    go_ret3
    refine ⟨?_, hb⟩
    rw [HU.out]
    rfl
end Go.Proofs.Ytpjddhihokgffaa
