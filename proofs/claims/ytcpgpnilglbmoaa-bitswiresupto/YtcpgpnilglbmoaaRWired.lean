/- The contract of the document's own Wired. -/
import Derived.Test.YtcpgpnilglbmoaaWired
namespace Go.Proofs.Ytcpgpnilglbmoaa
open Go.RowKit Go.Proofs.Bits
set_option linter.unusedVariables false

def bytesF (n : Nat) (F : Nat → UInt8) : List UInt8 := (List.range n).map F
theorem bytesF_length (n : Nat) (F : Nat → UInt8) : (bytesF n F).length = n := by simp [bytesF]
theorem bytesF_congr {n : Nat} {F G : Nat → UInt8} (h : ∀ j, j < n → F j = G j) : bytesF n F = bytesF n G := by
  unfold bytesF
  apply List.map_congr_left
  intro j hj
  exact h j (by simpa using hj)
theorem bytesF_snoc (n : Nat) (F : Nat → UInt8) : bytesF (n + 1) F = bytesF n F ++ [F n] := by simp [bytesF, List.range_succ]
theorem bytesF_set (n p : Nat) (F : Nat → UInt8) (v : UInt8) : (Lib.byteCells (bytesF n F)).set p (.int .u8 v.toNat) = Lib.byteCells (bytesF n fun j => if j = p then v else F j) := by
  unfold bytesF Lib.byteCells
  rw [← map_set_range, List.map_set]
theorem has_beyond (T : List (List UInt8)) (p : Nat) (h : longest T ≤ p) : has T p = false := by
  unfold has
  rw [← Bool.not_eq_true, List.any_eq_true]
  rintro ⟨l, hl, hh⟩
  have := longest_le T l hl
  have hn : l[p]? = none := by simp; omega
  rw [hn] at hh
  simp at hh

/-- Bytes of the call's own in their form. -/
def OwnF (w0 : World) (b : Value) (n : Nat) (F : Nat → UInt8) (x : World) : Prop :=
  x.ownsRow w0.heap.size 5 1 b n (Lib.byteCells (bytesF n F)) ∧ b ≠ .slice none 0 0 ∧ Below w0.heap.size w0 x
theorem OwnF.congr {w0 x : World} {b : Value} {n : Nat} {F G : Nat → UInt8} (h : OwnF w0 b n F x) (e : ∀ j, j < n → G j = F j) : OwnF w0 b n G x := by
  unfold OwnF
  rw [bytesF_congr e]
  exact h
theorem OwnF.form {w0 x : World} {b : Value} {n : Nat} {F : Nat → UInt8} (h : OwnF w0 b n F x) : ∃ g cap, b = .slice (some ⟨g, 0, none⟩) n cap ∧ w0.heap.size ≤ g ∧ Row x g (Lib.byteCells (bytesF n F)) := by
  have h1 := h.1
  rw [← bytesF_length n F] at h1
  have := own_form (by rw [bytesF_length] at h1 ⊢; exact h1) h.2.1
  rw [bytesF_length] at this
  exact this
theorem OwnF.set {w0 x : World} {g cap n : Nat} {F : Nat → UInt8} (h : OwnF w0 (.slice (some ⟨g, 0, none⟩) n cap) n F x) (hg : w0.heap.size ≤ g) (p : Nat) (v : UInt8) : OwnF w0 (.slice (some ⟨g, 0, none⟩) n cap) n (fun j => if j = p then v else F j) (x.setCell ⟨g, p, none⟩ (.int .u8 v.toNat)) := by
  refine ⟨?_, h.2.1, h.2.2.setCell (p := ⟨g, p, none⟩) hg _⟩
  rw [← bytesF_set]
  exact own_set h.1 p _

set_option maxHeartbeats 2000000 in
set_option maxRecDepth 1000000 in
theorem rWired_any (v : Value) (ls : List ByteArray) (w : World) (hS : Slots w v (ls.map Value.string)) (hz : ls.length ≤ 1000000000000) :
    Calls Try.prog 27 #[v] w fun e w' => e = .returned (.tuple #[.string ⟨(wiredV (txt ls)).toArray⟩, .int .i64 (errs (txt ls))]) ∧ Below w.heap.size w w' := by
  obtain ⟨ao, cap, rfl, HAT⟩ := hS.map
  clear hS
  go_enter Try.func27, Try.ntmps27
  go_wp2_with fail
  go_loopw [4, 5] (fun b i x => ∃ k : Nat, k ≤ ls.length ∧ i = .int .i64 k ∧ errs (txt (ls.take k)) = 0 ∧ OwnF w b (longest (txt (ls.take k))) (fun j => lvl (has (txt (ls.take k)) j)) x) (fun _ i _ => ls.length - (intOf i).toNat)
  case atStart => exact ⟨0, Nat.zero_le _, rfl, rfl, own_empty w, by simp, (Below.refl _ _).alloc (Nat.le_refl _) _⟩
  case round =>
    obtain ⟨k, hk, rfl, he, hO⟩ := hrel
    obtain ⟨g, bcap, rfl, hg, hRow⟩ := hO.form
    have hb := hO.2.2
    by_cases hkl : k < ls.length
    · obtain ⟨b, off, rfl, hcat⟩ := HAT wr hb k hkl
      by_cases h0 : err ls[k].data.toList = 0
      · have H0 : Hid (err ls[k].data.toList = 0) := h0
        have HE : Hid (errs (txt (ls.take (k + 1))) = 0) := by
          show errs _ = 0
          rw [txt_next ls k hkl]; exact errs_snoc he h0
        have HT : Hid (txt (ls.take (k + 1)) = txt (ls.take k) ++ [ls[k].data.toList]) := txt_next ls k hkl
        have hsz : ls[k].size ≤ 65536 := by have := (err_zero h0).1; rw [size_len] at this; exact this
        have hall := (err_zero h0).2
        have hm : longest (txt (ls.take k)) ≤ 65536 := longest_bound _ _ (fun l hl => (err_zero (errs_zero.1 he l hl)).1)
        have HATK : Hid (∀ x : World, Below w.heap.size w x → x.cell? ⟨b, off + k, none⟩ = some (.string ls[k])) := by
          intro x hx
          obtain ⟨b', off', ha, hc⟩ := HAT x hx k hkl
          simp at ha
          obtain ⟨rfl, rfl⟩ := ha
          exact hc
        clear h0 he HAT
        have HLEN : Hid (longest (txt (ls.take (k + 1))) = max (longest (txt (ls.take k))) ls[k].size) := by
          show longest _ = _
          rw [HT.out, longest_snoc, size_len]
        have HALL : Hid (∀ j, half (txt (ls.take k)) ls[k].data.toList ls[k].size j = lvl (has (txt (ls.take (k + 1))) j)) := by
          intro j
          have := half_all (txt (ls.take k)) ls[k].data.toList j
          rw [size_len] at this
          rw [this, HT.out]
        clear HT
        generalize ls[k] = s at hcat hall hsz H0 HATK HLEN HALL ⊢
        generalize txt (ls.take k) = T at *
        have hO2 := hO.congr (G := half T s.data.toList 0) (fun j _ => half_zero T s.data.toList j)
        clear hO hRow
        go_wp2_with fail
        refine (Check_any s _).mono ?_
        rintro e w1 ⟨rfl, rfl⟩
        rw [H0.out]
        go_wp2_with fail
        go_loopw [4, 7] (fun bb i x => ∃ p : Nat, p ≤ s.size ∧ i = .int .i64 p ∧ OwnF w bb (max (longest T) p) (half T s.data.toList p) x) (fun _ i _ => s.size - (intOf i).toNat)
        case atStart => exact ⟨0, Nat.zero_le _, rfl, by rw [Nat.max_zero]; exact hO2⟩
        case round =>
          clear hO2 hcat hb
          obtain ⟨p, hp, rfl, hO⟩ := hrel
          obtain ⟨g, bcap, rfl, hg, hRow⟩ := hO.form
          have hb := hO.2.2
          have hcat := HATK.out wr hb
          have szw := hb.size
          by_cases hps : p < s.size
          · have hbit := all_at hall p hps
            have hge : s.data.toList[p]? = some s[p] := by
              rw [List.getElem?_eq_getElem (by rw [size_len]; exact hps)]; rfl
            by_cases hlp : longest T ≤ p
            · have hmx : max (longest T) p = p := by omega
              have hmx1 : max (longest T) (p + 1) = p + 1 := by omega
              rw [hmx] at hO ⊢
              have HMX : Hid (max (longest T) (p + 1) = p + 1) := hmx1
              have hownp := hO.1
              have e49 : half T s.data.toList p p = 49 := by simp [half, has_beyond T p hlp, lvl]
              clear hmx hmx1 hRow
              go_wp2_with (at_builtin; refine append_one rfl _ _ rfl w.heap.size _ (bytesF p (half T s.data.toList p)) rfl (by rw [bytesF_length]; exact ownsRow_alloc hownp _) ⟨wr.heap.size, 0, none⟩ 49 rfl (by exact cell_new wr _ _) (by rw [bytesF_length]; omega) (by simp; omega) ?_)
              intro v2 w2 hown2 hg2 hn2
              have hO3 : OwnF w v2 (p + 1) (half T s.data.toList p) w2 := by
                refine ⟨?_, hn2, (hb.alloc szw _).grown hg2 (by simp; omega) (own_lt hownp)⟩
                rw [bytesF_length] at hown2
                rw [bytesF_snoc, e49]
                exact hown2
              clear hown2 hg2 hn2 hownp hO hcat
              obtain ⟨g2, cap2, rfl, hgg, hRow2⟩ := hO3.form
              have hcat := HATK.out w2 hO3.2.2
              have hcell := hRow2.cell p (by rw [Lib.byteCells_length, bytesF_length]; omega)
              have hfree := hRow2.free p (by rw [Lib.byteCells_length, bytesF_length]; omega)
              by_cases h48 : s[p].toNat = 48
              · have hes : s[p] = 48 := UInt8.toNat_inj.1 h48
                have hO4 := hO3.set hgg p 48
                have hO5 := hO4.congr (G := half T s.data.toList (p + 1)) (fun j _ => by rw [half_next, hge, hes]; simp)
                clear hO3 hO4 hes hge e49
                go_wp2
                go_roundw
                case rel => exact ⟨p + 1, by omega, by go_num, by rw [HMX.out]; exact hO5⟩
                case measure => simp [intOf]; omega
              · have h49 : s[p].toNat = 49 := by omega
                have hO5 := hO3.congr (G := half T s.data.toList (p + 1)) (fun j _ => by
                  rw [half_next, hge, if_neg]
                  intro h
                  have := Option.some.inj h.2
                  rw [this] at h49
                  simp at h49)
                clear hO3 hge e49
                go_wp2
                go_roundw
                case rel => exact ⟨p + 1, by omega, by go_num, by rw [HMX.out]; exact hO5⟩
                case measure => simp [intOf]; omega
            · have hmx : max (longest T) p = longest T := by omega
              have hmx1 : max (longest T) (p + 1) = longest T := by omega
              rw [hmx] at hO hRow ⊢
              have HMX : Hid (max (longest T) (p + 1) = longest T) := hmx1
              clear hmx hmx1
              generalize longest T = M at *
              have hne : ((p : Int) == (M : Int)) = false := by rw [beq_eq_false_iff_ne]; omega
              have hcell := hRow.cell p (by rw [Lib.byteCells_length, bytesF_length]; omega)
              have hfree := hRow.free p (by rw [Lib.byteCells_length, bytesF_length]; omega)
              by_cases h48 : s[p].toNat = 48
              · have hes : s[p] = 48 := UInt8.toNat_inj.1 h48
                have hO4 := hO.set hg p 48
                have hO5 := hO4.congr (G := half T s.data.toList (p + 1)) (fun j _ => by rw [half_next, hge, hes]; simp)
                clear hO hO4 hes hge
                go_wp2
                go_roundw
                case rel => exact ⟨p + 1, by omega, by go_num, by rw [HMX.out]; exact hO5⟩
                case measure => simp [intOf]; omega
              · have h49 : s[p].toNat = 49 := by omega
                have hO5 := hO.congr (G := half T s.data.toList (p + 1)) (fun j _ => by
                  rw [half_next, hge, if_neg]
                  intro h
                  have := Option.some.inj h.2
                  rw [this] at h49
                  simp at h49)
                clear hO hge
                go_wp2
                go_roundw
                case rel => exact ⟨p + 1, by omega, by go_num, by rw [HMX.out]; exact hO5⟩
                case measure => simp [intOf]; omega
          · obtain rfl : p = s.size := by omega
            have hO5 : OwnF w (.slice (some ⟨g, 0, none⟩) (max (longest T) s.size) bcap) (longest (txt (ls.take (k + 1)))) (fun j => lvl (has (txt (ls.take (k + 1))) j)) wr := by
              rw [HLEN.out]
              exact hO.congr (fun j _ => (HALL.out j).symm)
            clear hO hRow
            go_wp2
            go_roundw
            case rel => exact ⟨k + 1, by omega, by go_num, HE.out, hO5⟩
            case measure => simp [intOf]; omega
      · have HE : Hid (errs (txt ls) = err ls[k].data.toList) := by
          show errs _ = _
          have hk2 : k < (txt ls).length := by rw [txt_length]; exact hkl
          have e1 : (txt ls)[k] = ls[k].data.toList := by simp [txt]
          rw [errs_take hk2 (by rw [txt_take]; exact he) (by rw [e1]; exact h0), e1]
        have hn : (err ls[k].data.toList != 0) = true := by rw [bne_iff_ne]; exact h0
        have HV : Hid (wiredV (txt ls) = []) := by
          show wiredV _ = []
          rw [wiredV, if_neg (by rw [HE.out]; exact h0)]
        clear h0 he
        go_wp2_with fail
        refine (Check_any ls[k] _).mono ?_
        rintro e w1 ⟨rfl, rfl⟩
        go_wp2
        go_ret2
        refine ⟨?_, hb⟩
        rw [HV.out, HE.out]
        rfl
    · obtain rfl : k = ls.length := by omega
      rw [List.take_length] at he hRow ⊢
      have HE : Hid (errs (txt ls) = 0) := he
      have HV : Hid (wiredV (txt ls) = bytesF (longest (txt ls)) fun j => lvl (has (txt ls) j)) := by
        show wiredV _ = _
        rw [wiredV, if_pos he]; rfl
      have htx := hRow.text bcap
      rw [bytesF_length, ← HV.out] at htx
      clear he hO
      go_wp2
      go_ret2
      refine ⟨?_, hb⟩
      rw [HE.out]
      rfl
end Go.Proofs.Ytcpgpnilglbmoaa
