/- The law NvmAgain returns true whatever comes in. -/
import Derived.Test.YthbcpmakhdogmaaNvG
namespace Go.Proofs.Nv
theorem erase_spec {c : Ch} (h : c.Ok) (hd : c.dead = false) (hl : c.left < 0) : c.erase.2 = 0 ∧ c.erase.1.kept = (0, []) := by
  have hm2 : 2 ≤ c.many := by have := h.lo; unfold Ch.many; omega
  have hmn : c.many + c.many ≤ c.n := by unfold Ch.many; omega
  have e1 : c.wr ((0 : Nat) : Int) zero8 = (c.put 0 zero8, true) := wr_go h (by omega) hd (by omega) _
  obtain ⟨c1, hc1⟩ : ∃ c1, c.put 0 zero8 = c1 := ⟨_, rfl⟩
  rw [hc1] at e1
  have ok1 : c1.Ok := by rw [← hc1]; exact Ch.put_ok h (by omega) zero8_len
  have n1 : c1.n = c.n := by rw [← hc1]; rfl
  have m1 : c1.many = c.many := by unfold Ch.many; rw [n1]
  have d1 : c1.dead = false := by rw [← hc1]; exact hd
  have l1 : c1.left = c.left := by rw [← hc1]; show (if 0 < c.left then c.left - 1 else c.left) = _; rw [if_neg (by omega)]
  have e2 : c1.wr (c.many : Int) zero8 = (c1.put c.many zero8, true) := wr_go ok1 (by rw [n1]; omega) d1 (by rw [l1]; omega) _
  have es : c.erase = (c1.put c.many zero8, 0) := by
    have e1' : c.wr (0 : Int) zero8 = (c1, true) := e1
    unfold Ch.erase
    simp [hd, e1', e2]
  rw [es]
  refine ⟨rfl, ?_⟩
  have z8 : ∀ s : List UInt8, 8 ≤ s.length → (splice s 0 zero8).take 8 = zero8 := fun s hs => by
    unfold splice
    rw [List.take_zero, List.nil_append, List.take_append_of_le_length (by rw [zero8_len]; exact Nat.le_refl _), List.take_of_length_le (by rw [zero8_len]; exact Nat.le_refl _)]
  have s0 : ((c1.put c.many zero8).seg 0).take 8 = zero8 := by
    have := put_other ok1 (f := c.many) (g := 0) (j := 0) (by rw [m1, n1]; exact hmn) (by rw [m1]; omega) (.inl (by rw [m1]; omega)) zero8_len
    rw [Nat.add_zero] at this
    rw [this, ← hc1]
    have h2 := put_seg h (f := 0) (j := 0) (by omega) (by omega) zero8_len
    rw [Nat.add_zero, Nat.mul_zero] at h2
    rw [h2, z8 _ (by rw [segLen h 0 (by omega)]; omega)]
  have s1 : ((c1.put c.many zero8).seg c.many).take 8 = zero8 := by
    have h2 := put_seg ok1 (f := c.many) (j := 0) (by rw [m1, n1]; exact hmn) (by rw [m1]; omega) zero8_len
    rw [Nat.add_zero, Nat.mul_zero] at h2
    rw [h2, z8 _ (by rw [segLen ok1 c.many (by rw [m1, n1]; exact hmn), m1]; omega)]
  have h0 : (c1.put c.many zero8).holds 0 = (0, []) := hs_clear _ _ s0
  have h1 : (c1.put c.many zero8).holds (c1.put c.many zero8).many = (0, []) := by
    have : (c1.put c.many zero8).many = c.many := m1
    rw [this]
    exact hs_clear _ _ s1
  have hlt : (c1.put c.many zero8).latest = 1 := by unfold Ch.latest; rw [if_pos (.inl (by rw [h0]))]
  unfold Ch.kept
  rw [hlt, if_pos rfl, h1]
/-- A chip that keeps l, with power, no Cut to come. -/
structure Gk (d : Ch) (l : List UInt8) : Prop where
  ok : d.Ok
  live : d.dead = false
  left : d.left = -1
  kept : d.kept.2 = l
  some : d.kept.1 ≠ 0
  room : l.length ≤ d.room
theorem Gk.save {d : Ch} {l b : List UInt8} (h : Gk d l) (hb : b.length ≤ d.room) : (d.save b).2 = 0 ∧ Gk (d.save b).1 b := by
  obtain ⟨hg, _⟩ := save_spec h.ok b hb h.live
  obtain ⟨a1, a2, a3, a4⟩ := hg (.inl (by rw [h.left]; decide))
  refine ⟨a1, Ch.save_ok h.ok b, a2, (a4 (by rw [h.left]; decide)).trans h.left, by rw [a3], by rw [a3]; have := nxt_pos d.kept.1; simp only; omega, by rw [save_room]; exact hb⟩
end Go.Proofs.Nv
namespace Go.Proofs.Ythbcpmakhdogmaa
open Go.RowKit Go.Shelf Go.Proofs.Ty Go.Proofs.Nv Go.Proofs.Bits
set_option linter.unusedVariables false
set_option maxRecDepth 1000000
set_option linter.unusedSimpArgs false
set_option maxHeartbeats 16000000 in
theorem nagain_walk (v : Value) (l : List UInt8) (t : Nat) (ht : t < 256) (w : World) (hB : Bytes w v l) (hl : l.length ≤ 140737488351232) :
    Calls Try.prog 5 #[v, .int .u8 t] w fun e w' => e = .returned (.bool true) ∧ Below w.heap.size w w' := by
  have hN := New_ok 12 (by omega) (by omega) w
  have hok := Ch.new_ok (n := 12) (by omega) (by omega)
  have hk0 := new_kept (n := 12) (by omega)
  have hrm : (Ch.new 12).room = 40 := rfl
  have hd0 : (Ch.new 12).dead = false := rfl
  have hl0 : (Ch.new 12).left = -1 := rfl
  generalize Ch.new 12 = d0 at *
  obtain ⟨ao, cap, rfl⟩ := bytes_shapeN hB
  have HB := hidOf hB
  have hr1 := save_room d0 l
  have HSA : Hid (∀ C P x, Lw w C P d0 x → _) := fun C P x (hx : Lw w C P d0 x) => hx.app (HB.out.below hx.old) (by omega)
  have HLV := lives9_any
  have HTX : Hid (∀ x, Below w.heap.size w x → (convert 30 9 (.slice ao l.length cap)).run Try.prog x = .ok (.string ⟨l.toArray⟩) x) := fun x hx => (HB.out.below hx).text
  have HL := hidOf hl
  by_cases hlong : d0.room < l.length
  · have es := save_long (c := d0) l hlong
    have HSB : Hid (∀ C P x, Lw w C P d0 x → ∃ WA qA, x.alloc (.cells #[] 5) = WA ∧ x.heap.size = qA ∧ WA.ownsRow qA 5 1 (.slice (some ⟨qA, 0, none⟩) 0 0) ([] : List UInt8).length (Lib.byteCells []) ∧ Bytes WA (.slice ao l.length cap) l ∧ qA ≤ WA.heap.size ∧
      Hid (∀ v1 w2, w2.ownsRow qA 5 1 v1 ([] ++ l).length (Lib.byteCells ([] ++ l)) → WA.grownBy w2 (Value.slice (some ⟨qA, 0, none⟩) 0 0).ownBlock → Calls Try.prog 12 #[.pointer (some ⟨C, 0, none⟩), v1] w2 fun e w' => e = .returned (.int .i64 2) ∧ Lw w C P d0 w')) := fun C P x hx => by
      obtain ⟨WA, qA, h1, h2, h3, h4, h5, h6⟩ := HSA.out C P x hx
      refine ⟨WA, qA, h1, h2, h3, h4, h5, fun v1 w2 ho hg => ?_⟩
      have := h6.out v1 w2 ho hg
      rw [es] at this
      exact this
    have HRM : Hid (∀ C P x, Lw w C P d0 x → Calls Try.prog 11 #[.pointer (some ⟨C, 0, none⟩)] x (fun e w' => e = .returned (.int .i64 40) ∧ w' = x)) := fun C P x hx => by
      have := Room_any hx.chip
      rw [hrm] at this
      exact this
    clear HSA es
    obtain ⟨nl, hnl⟩ : ∃ n, l.length = n := ⟨_, rfl⟩
    rw [hnl] at hlong hl HSB HTX HB ⊢
    have hd1 : decide ((40 : Int) < (nl : Int)) = true := by simp; omega
    clear hnl
    go_enter Try.func5, Try.ntmps5
    go_wp2_with (first | (go_at_call 8; refine hN.mono ?_; clear hN; rintro e w1 ⟨C, P, rfl, h1⟩; obtain ⟨WA, qA, hWA, hqA, hoA, hbA, hsA, HSV⟩ := HSB.out C P w1 h1; clear HSB h1) | (at_builtin; refine append_bytes rfl _ _ rfl qA _ [] rfl hoA _ l rfl hbA (by have := HL.out; simp; omega) hsA ?_; intro v1 w2 ho hgr; have hsv := HSV.out v1 w2 ho hgr; clear HSV ho hgr hoA hbA hsA) | (go_at_call 12; refine hsv.mono ?_; clear hsv; rintro e w3 ⟨rfl, h3⟩; have hrr := HRM.out C P w3 h3; have HO5 := hidOf h3.old; clear h3) | (go_at_call 11; refine hrr.mono ?_; rintro e x1 ⟨rfl, hx1⟩; rw [hx1]; clear hx1 x1) | (go_at_call 14; refine (HLV _).mono ?_; rintro e w6 ⟨rfl, hb6⟩; have HO6 := hidOf (HO5.out.trans (hb6.mono HO5.out.size)); clear hb6))
    go_ret
    exact ⟨rfl, HO6.out⟩
  · obtain ⟨hg, _⟩ := save_spec hok l (by omega) hd0
    obtain ⟨a1, a2, a3, a4⟩ := hg (.inl (by rw [hl0]; decide))
    have HG1 : Hid (Gk (d0.save l).1 l) := ⟨Ch.save_ok hok l, a2, (a4 (by rw [hl0]; decide)).trans hl0, by rw [a3], by rw [a3]; have := nxt_pos d0.kept.1; simp only; omega, by rw [save_room]; omega⟩
    have HSB : Hid (∀ C P x, Lw w C P d0 x → ∃ WA qA, x.alloc (.cells #[] 5) = WA ∧ x.heap.size = qA ∧ WA.ownsRow qA 5 1 (.slice (some ⟨qA, 0, none⟩) 0 0) ([] : List UInt8).length (Lib.byteCells []) ∧ Bytes WA (.slice ao l.length cap) l ∧ qA ≤ WA.heap.size ∧
      Hid (∀ v1 w2, w2.ownsRow qA 5 1 v1 ([] ++ l).length (Lib.byteCells ([] ++ l)) → WA.grownBy w2 (Value.slice (some ⟨qA, 0, none⟩) 0 0).ownBlock → Calls Try.prog 12 #[.pointer (some ⟨C, 0, none⟩), v1] w2 fun e w' => e = .returned (.int .i64 0) ∧ Lw w C P (d0.save l).1 w')) := fun C P x hx => by
      obtain ⟨WA, qA, h1, h2, h3, h4, h5, h6⟩ := HSA.out C P x hx
      refine ⟨WA, qA, h1, h2, h3, h4, h5, fun v1 w2 ho hg => ?_⟩
      have := h6.out v1 w2 ho hg
      rw [a1] at this
      exact this
    clear HSA hg a1 a2 a3 a4
    generalize (d0.save l).1 = d1 at *
    have HLL : Hid (l.length ≤ 140737488355328) := by have := HL.out; show _ ≤ _; omega
    have HLD : Hid (∀ C P d x, Gk d l → Lw w C P d x → Calls Try.prog 10 #[.pointer (some ⟨C, 0, none⟩)] x fun e w' => ∃ v, e = .returned (.tuple #[v, .bool true]) ∧ Bytes w' v l ∧ Lw w C P d w' ∧ Below x.heap.size x w' ∧ Fr x.heap.size v) := fun C P d x hg hx => by
      have := load_lw hx
      rw [hg.kept, show (d.kept.1 != 0) = true by simpa using hg.some] at this
      exact this
    have HSG : Hid (∀ C P d x B v, Gk d l → Lw w C P d x → Bytes x v l → Fr B v → C < B → P < B → Calls Try.prog 12 #[.pointer (some ⟨C, 0, none⟩), v] x fun e w' => e = .returned (.int .i64 0) ∧ ∃ d', Gk d' l ∧ Lw w C P d' w') := fun C P d x B v hg hx hv hf h1 h2 => by
      obtain ⟨b1, b2⟩ := hg.save hg.room
      have := hx.again hv HLL.out hf h1 h2
      rw [b1] at this
      exact this.mono fun e w' ⟨he, hw⟩ => ⟨he, _, b2, hw⟩
    have HER : Hid (∀ C P d x, Gk d l → Lw w C P d x → Calls Try.prog 13 #[.pointer (some ⟨C, 0, none⟩)] x fun e w' => e = .returned (.int .i64 0) ∧ ∃ d', d'.kept = (0, []) ∧ Lw w C P d' w') := fun C P d x hg hx => by
      obtain ⟨b1, b2⟩ := erase_spec hg.ok hg.live (by rw [hg.left]; decide)
      have := erase_lw hx
      rw [b1] at this
      exact this.mono fun e w' ⟨he, hw⟩ => ⟨he, _, b2, hw⟩
    have HL0 : Hid (∀ C P d x, d.kept = (0, []) → Lw w C P d x → Calls Try.prog 10 #[.pointer (some ⟨C, 0, none⟩)] x fun e w' => ∃ v, e = .returned (.tuple #[v, .bool false]) ∧ Lw w C P d w') := fun C P d x hk hx => by
      have := load_lw hx
      rw [hk] at this
      exact this.mono fun e w' ⟨v, he, _, hw, _⟩ => ⟨v, he, hw⟩
    obtain ⟨nl, hnl⟩ : ∃ n, l.length = n := ⟨_, rfl⟩
    rw [hnl] at hlong hl HSB HTX HB ⊢
    have HNL := hidOf hnl
    clear hnl hok hk0 hr1
    obtain ⟨T, hT⟩ : ∃ T : ByteArray, (⟨l.toArray⟩ : ByteArray) = T := ⟨_, rfl⟩
    rw [hT] at HTX
    have HT := hidOf hT
    clear hT
    go_enter Try.func5, Try.ntmps5
    go_upto_region 6 with (first | (go_at_call 8; refine hN.mono ?_; clear hN; rintro e w1 ⟨C, P, rfl, h1⟩; obtain ⟨WA, qA, hWA, hqA, hoA, hbA, hsA, HSV⟩ := HSB.out C P w1 h1; clear HSB h1) | (at_builtin; refine append_bytes rfl _ _ rfl qA _ [] rfl hoA _ l rfl hbA (by have := HL.out; simp; omega) hsA ?_; intro v1 w2 ho hgr; have hsv := HSV.out v1 w2 ho hgr; clear HSV ho hgr hoA hbA hsA) | (go_at_call 12; refine hsv.mono ?_; clear hsv; rintro e w3 ⟨rfl, h3⟩; have HL3 := hidOf h3; clear h3))
    go_wp2_with fail
    go_loopw [7] (fun i wr => ∃ (k : Nat) (d : Ch), k ≤ t ∧ i = .int .i64 k ∧ Hid (Gk d l) ∧ Hid (Lw w C P d wr)) (fun i _ => t - (intOf i).toNat)
    case atStart => exact ⟨0, d1, Nat.zero_le _, rfl, HG1, HL3⟩
    case round =>
      clear HL3 HG1
      obtain ⟨k, d, hk, rfl, HG, HW⟩ := hrel
      by_cases hkt : k < t
      · have hld := HLD.out C P d wr HG.out HW.out
        have HCB : Hid (C < wr.heap.size ∧ P < wr.heap.size) := ⟨HW.out.chip.lt, HW.out.chip.ltP⟩
        go_wp2_with (first | (go_at_call 10; refine hld.mono ?_; clear hld; rintro e w5 ⟨v5, rfl, hv5, h5, hb5, hf5⟩; have hld2 := HLD.out C P d w5 HG.out h5; have HV5 := hidOf hv5; have HF5 := hidOf hf5; clear hv5 h5 hb5 hf5) | (go_at_call 10; refine hld2.mono ?_; clear hld2; rintro e w6 ⟨v6, rfl, hv6, h6, hb6, hf6⟩; have htx6 := hv6.text; have hv56 := HV5.out.below hb6; have htx5 := hv56.text; have htx0 := HTX.out w6 h6.old; rw [HT.out] at htx5 htx6; have hsg := HSG.out C P d w6 wr.heap.size v5 HG.out h6 hv56 HF5.out HCB.out.1 HCB.out.2; obtain ⟨av5, cv5, hav5⟩ := bytes_shapeN hv56; subst hav5; obtain ⟨av6, cv6, hav6⟩ := bytes_shapeN hv6; subst hav6; clear hv6 h6 hb6 hf6 hv56 HV5 HF5) | (go_at_call 12; refine hsg.mono ?_; clear hsg; rintro e w7 ⟨rfl, d7, hg7, h7⟩; have HG7 := hidOf hg7; have HL7 := hidOf h7; clear hg7 h7))
        go_roundw
        case rel => exact ⟨k + 1, d7, by omega, by go_num, HG7, HL7⟩
        case measure => simp [intOf]; omega
      · have her := HER.out C P d wr HG.out HW.out
        go_wp2_with (first | (go_at_call 13; refine her.mono ?_; clear her; rintro e w5 ⟨rfl, d5, hk5, h5⟩; have hld := HL0.out C P d5 w5 hk5 h5; clear hk5 h5) | (go_at_call 10; refine hld.mono ?_; clear hld; rintro e w6 ⟨v6, rfl, h6⟩; have HO5 := hidOf h6.old; clear h6) | (go_at_call 14; refine (HLV _).mono ?_; rintro e w7 ⟨rfl, hb7⟩; have HO6 := hidOf (HO5.out.trans (hb7.mono HO5.out.size)); clear hb7))
        go_ret
        exact ⟨rfl, HO6.out⟩
theorem nagain_int (v : Value) (l : List UInt8) (z : Int) (hz : (Lit.int .u8 z).wf = true) (w : World) (hB : Bytes w v l) (hl : l.length ≤ 140737488351232) :
    Calls Try.prog 5 #[v, .int .u8 z] w fun e w' => e = .returned (.bool true) ∧ Below w.heap.size w w' := by
  have hx : 0 ≤ z ∧ z ≤ 255 := by simpa [Lit.wf, IntKind.min, IntKind.max, IntKind.signed, IntKind.bits] using hz
  have := nagain_walk v l z.toNat (by omega) w hB hl
  rw [show ((z.toNat : Nat) : Int) = z by omega] at this
  exact this
end Go.Proofs.Ythbcpmakhdogmaa
