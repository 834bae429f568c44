/- The contracts of Flip and of the document's own. -/
import Derived.Test.YtcpgpnilglbmoaaSlots
import Derived.Test.YtcpgpnilglbmoaaStuff
import Derived.Test.YtcpgpnilglbmoaaMathL
import Derived.Test.YtcpgpnilglbmoaaSums
import Derived.RegionTactic
import Derived.BigRegion
namespace Go.Proofs.Ytcpgpnilglbmoaa
open Go.RowKit Go.Proofs.Bits
set_option linter.unusedVariables false

def flipAt (l : List UInt8) (z : Int) : List UInt8 := l.set z.toNat (oth (l.getD z.toNat 0))
def flips (l : List UInt8) (zs : List Int) : List UInt8 := zs.foldl flipAt l
def inAll (n : Nat) (zs : List Int) : Bool := zs.all fun z => decide (0 ≤ z) && decide (z < (n : Int))
def flipV (l : List UInt8) (zs : List Int) : List UInt8 := if err l = 0 then (if inAll l.length zs = true then flips l zs else []) else []
def flipE (l : List UInt8) (zs : List Int) : Int := if err l = 0 then (if inAll l.length zs = true then 0 else 1) else err l
theorem flipAt_length (l : List UInt8) (z : Int) : (flipAt l z).length = l.length := by simp [flipAt]
theorem flips_length (l : List UInt8) (zs : List Int) : (flips l zs).length = l.length := by
  induction zs generalizing l with
  | nil => rfl
  | cons z zs ih => show (flips (flipAt l z) zs).length = _; rw [ih, flipAt_length]
theorem flipAt_all (l : List UInt8) (z : Int) (h : l.all isBit = true) : (flipAt l z).all isBit = true := by
  rw [List.all_eq_true] at h ⊢
  intro c hc
  rcases List.mem_or_eq_of_mem_set hc with hc | rfl
  · exact h c hc
  · exact isBit_of (oth_bit _)
theorem flips_all (l : List UInt8) (zs : List Int) (h : l.all isBit = true) : (flips l zs).all isBit = true := by
  induction zs generalizing l with
  | nil => exact h
  | cons z zs ih => exact ih _ (flipAt_all l z h)
theorem flips_snoc (l : List UInt8) (zs : List Int) (z : Int) : flips l (zs ++ [z]) = flipAt (flips l zs) z := by simp [flips]
theorem inAll_snoc (n : Nat) (zs : List Int) (z : Int) (h : inAll n zs = true) (h0 : 0 ≤ z) (h1 : z < n) : inAll n (zs ++ [z]) = true := by
  simp only [inAll, List.all_append, List.all_cons, List.all_nil, Bool.and_true, Bool.and_eq_true, decide_eq_true_eq] at h ⊢
  exact ⟨h, h0, h1⟩
theorem inAll_not (n : Nat) (zs : List Int) (k : Nat) (hk : k < zs.length) (h : zs[k] < 0 ∨ (n : Int) ≤ zs[k]) : ¬ inAll n zs = true := by
  intro hh
  rw [inAll, List.all_eq_true] at hh
  have := hh zs[k] (List.getElem_mem hk)
  simp at this
  omega
theorem bits_ascii {l : List UInt8} (h : l.all isBit = true) : ∀ c ∈ l, c.toNat < 128 := by
  intro c hc
  rw [List.all_eq_true] at h
  have := isBit_cases (h c hc)
  omega

theorem runesFrom_ascii (s : ByteArray) (h : ∀ k (hk : k < s.size), s[k].toNat < 128) (b i : Nat) (acc : Array Value) (hb : b + i = s.size) :
    Conv.runesFrom s b i acc = acc ++ (runeCells (s.data.toList.drop i)).toArray := by
  induction b generalizing i acc with
  | zero =>
    have : s.data.toList.drop i = [] := by rw [List.drop_eq_nil_iff, size_len]; omega
    rw [this]; simp [Conv.runesFrom, runeCells]
  | succ b ih =>
    have hi : i < s.size := by omega
    unfold Conv.runesFrom
    rw [if_pos hi, decode_ascii s i hi (h i hi)]
    show Conv.runesFrom s b (i + 1) (acc.push (.int .i32 (Int.ofNat s[i].toNat))) = _
    rw [ih (i + 1) _ (by omega)]
    have e : s.data.toList.drop i = s[i] :: s.data.toList.drop (i + 1) := by
      rw [List.drop_eq_getElem_cons (by simpa using hi)]; rfl
    rw [e]
    simp [runeCells]
theorem runesFrom_bits (s : ByteArray) (h : s.data.toList.all isBit = true) : Conv.runesFrom s s.size 0 #[] = (runeCells s.data.toList).toArray := by
  rw [runesFrom_ascii s (fun k hk => by have := all_at h k hk; omega) s.size 0 #[] (by omega)]
  simp
theorem Row.ofRunes (w : World) (l : List UInt8) (m : Nat) (T : TypeId) : Row (w.alloc (.cells ((runeCells l).toArray ++ Array.replicate m (.int .i32 0)) T)) w.heap.size (runeCells l) := by
  refine ⟨(runeCells l).toArray ++ Array.replicate m (.int .i32 0), T, 0, 0, ?_, by simp, .inr rfl, ?_⟩
  · show (w.heap.push _)[w.heap.size]? = _
    simp
  · simp
theorem runeCells_set (l : List UInt8) (k : Nat) (c : UInt8) : (runeCells l).set k (.int .i32 c.toNat) = runeCells (l.set k c) := by
  simp [runeCells, List.map_set]

set_option maxHeartbeats 1000000 in
theorem Flip_any (s : ByteArray) (v : Value) (zs : List Int) (w : World) (hS : Slots w v (zs.map (Value.int .i64))) (hz : zs.length ≤ 1000000000000) :
    Calls Try.prog 28 #[.string s, v] w fun e w' => e = .returned (.tuple #[.string ⟨(flipV s.data.toList zs).toArray⟩, .int .i64 (flipE s.data.toList zs)]) ∧ Below w.heap.size w w' := by
  by_cases h0 : err s.data.toList = 0
  · obtain ⟨hl, hall⟩ := err_zero h0
    have hs : s.size ≤ 65536 := by simpa using hl
    have H0 : Hid (err s.data.toList = 0) := h0
    clear h0 hl
    obtain ⟨ao, cap, rfl, HAT⟩ := hS.map
    clear hS
    go_enter Try.func28, Try.ntmps28
    go_wp2_with (go_at_call 32; refine (look_any s _).mono ?_; rintro e w1 ⟨rfl, hb⟩; rw [H0.out])
    go_loop [19] (fun i => ∃ k : Nat, k ≤ zs.length ∧ i = .int .i64 k ∧ inAll s.size (zs.take k) = true) (fun i => zs.length - (intOf i).toNat)
    case atStart => exact ⟨0, Nat.zero_le _, rfl, rfl⟩
    case round =>
      obtain ⟨k, hk, rfl, hin⟩ := hrel
      by_cases hkz : k < zs.length
      · obtain ⟨b, off, rfl, hcat⟩ := HAT _ hb k hkz
        by_cases hz0 : zs[k] < 0
        · have HE : Hid (¬ inAll s.size zs = true) := inAll_not _ _ k hkz (.inl hz0)
          have hd1 : decide (zs[k] < 0) = true := by simpa using hz0
          go_wp2
          go_ret2
          refine ⟨?_, hb⟩
          rw [flipV, flipE, if_pos H0.out, if_pos H0.out, if_neg (by rw [size_len]; exact HE.out), if_neg (by rw [size_len]; exact HE.out)]
          rfl
        · by_cases hz1 : (s.size : Int) ≤ zs[k]
          · have HE : Hid (¬ inAll s.size zs = true) := inAll_not _ _ k hkz (.inr hz1)
            have hd1 : decide (zs[k] < 0) = false := by simpa using hz0
            have hd2 : decide ((s.size : Int) ≤ zs[k]) = true := by simpa using hz1
            go_wp2
            go_ret2
            refine ⟨?_, hb⟩
            rw [flipV, flipE, if_pos H0.out, if_pos H0.out, if_neg (by rw [size_len]; exact HE.out), if_neg (by rw [size_len]; exact HE.out)]
            rfl
          · have hd1 : decide (zs[k] < 0) = false := by simpa using hz0
            have hd2 : decide ((s.size : Int) ≤ zs[k]) = false := by simpa using hz1
            have HI : Hid (inAll s.size (zs.take (k + 1)) = true) := by
              show inAll _ _ = true
              rw [ltake_snoc zs k hkz]
              exact inAll_snoc _ _ _ hin (by omega) (by omega)
            clear hz0 hz1 hin
            go_wp2
            go_round
            case rel => exact ⟨k + 1, by omega, by go_num, HI.out⟩
            case measure => simp [intOf]; omega
      · obtain rfl : k = zs.length := by omega
        rw [List.take_length] at hin
        have HIN : Hid (inAll s.size zs = true) := hin
        have hconv := run_runes_of_string (P := Try.prog) w1 9 63 21 s Try.underlying9 Try.underlying63 Try.underlying21 (by rw [runesFrom_bits s hall]; simp [runeCells]; omega)
        rw [runesFrom_bits s hall] at hconv
        have hrs : (runeCells s.data.toList).toArray.size = s.size := by simp [runeCells]
        rw [hrs] at hconv
        have hR0 := Row.ofRunes w1 s.data.toList (grownCap w1 s.size 0 21 - s.size) 21
        have HF0 : Hid (flips s.data.toList [] = s.data.toList) := rfl
        clear hin hrs
        go_wp2_with fail
        go_loopw [36] (fun i wr => ∃ k : Nat, k ≤ zs.length ∧ i = .int .i64 k ∧ Row wr w1.heap.size (runeCells (flips s.data.toList (zs.take k))) ∧ Below w1.heap.size w1 wr) (fun i _ => zs.length - (intOf i).toNat)
        case atStart => exact ⟨0, Nat.zero_le _, rfl, hR0, ((Below.refl _ _).alloc (Nat.le_refl _) _).drew⟩
        case round =>
          obtain ⟨k, hk, rfl, hR, hb2⟩ := hrel
          by_cases hkz : k < zs.length
          · have hbw : Below w.heap.size w wr := hb.trans (hb2.mono hb.size)
            obtain ⟨b, off, rfl, hcat⟩ := HAT wr hbw k hkz
            have hzk : 0 ≤ zs[k] ∧ zs[k] < (s.size : Int) := by
              have := HIN.out
              rw [inAll, List.all_eq_true] at this
              have := this zs[k] (List.getElem_mem hkz)
              simpa using this
            have HS : Hid (flips s.data.toList (zs.take (k + 1)) = flipAt (flips s.data.toList (zs.take k)) zs[k]) := by
              show flips _ _ = _
              rw [ltake_snoc zs k hkz, flips_snoc]
            have hll := flips_length s.data.toList (zs.take k)
            have hla := flips_all s.data.toList (zs.take k) hall
            rw [size_len] at hll
            generalize flips s.data.toList (zs.take k) = L at hR HS hll hla
            obtain ⟨d, hd⟩ := Int.eq_ofNat_of_zero_le hzk.1
            rw [hd] at hcat hzk HS
            have hdl : d < L.length := by omega
            have hdi : (d : Int) < (s.size : Int) := by omega
            have hbc : L[d].toNat = 48 ∨ L[d].toNat = 49 := by
              rw [List.all_eq_true] at hla
              exact isBit_cases (hla _ (List.getElem_mem hdl))
            have hcell := hR.cell d (by rw [runeCells_length]; omega)
            have hfree := hR.free d (by rw [runeCells_length]; omega)
            rw [show (runeCells L)[d]'(by rw [runeCells_length]; omega) = .int .i32 L[d].toNat by simp [runeCells]] at hcell
            have hR2 := hR.set d (.int .i32 (oth L[d]).toNat)
            rw [runeCells_set] at hR2
            have hf : flipAt L (d : Int) = L.set d (oth L[d]) := by simp [flipAt, hdl]
            have HF : Hid (flips s.data.toList (zs.take (k + 1)) = L.set d (oth L[d])) := HS.out.trans hf
            clear hd hf HS hla
            go_wp2_with (go_at_call 34; refine (other_any L[d] hbc _).mono ?_)
            rintro e w3 ⟨rfl, rfl⟩
            go_wp2
            go_roundw
            case rel => exact ⟨k + 1, by omega, by go_num, by rw [HF.out]; exact hR2, hb2.setCell (p := ⟨w1.heap.size, d, none⟩) (Nat.le_refl _) _⟩
            case measure => simp [intOf]; omega
          · obtain rfl : k = zs.length := by omega
            rw [List.take_length] at hR
            have hll := flips_length s.data.toList zs
            rw [size_len] at hll
            have htx := hR.runes (bits_ascii (flips_all s.data.toList zs hall)) (grownCap w1 s.size 0 21)
            rw [hll] at htx
            clear hll
            go_wp2
            go_ret2
            refine ⟨?_, hb.trans (hb2.mono hb.size)⟩
            rw [flipV, flipE, if_pos H0.out, if_pos H0.out, if_pos (by rw [size_len]; exact HIN.out), if_pos (by rw [size_len]; exact HIN.out)]
            rfl
  · have H1 : Hid (flipV s.data.toList zs = []) := by show flipV _ _ = []; simp [flipV, h0]
    have H2 : Hid (flipE s.data.toList zs = err s.data.toList) := by show flipE _ _ = _; simp [flipE, h0]
    have hn : (err s.data.toList != 0) = true := by simp [h0]
    clear hS
    go_enter Try.func28, Try.ntmps28
    go_wp2_with (go_at_call 32; refine (look_any s _).mono ?_; rintro e w1 ⟨rfl, hb⟩)
    go_ret2
    refine ⟨?_, hb⟩
    rw [H1.out, H2.out]
    rfl
end Go.Proofs.Ytcpgpnilglbmoaa
