/- Contract of a reader's body. -/
import Derived.Test.YtffajokpfobalaaRdr3
import Derived.Test.YtffajokpfobalaaFrS
import Derived.Test.YtffajokpfobalaaSums
namespace Go.Proofs.Ytffajokpfobalaa
open Go.RowKit Go.Proofs.Bits
set_option linter.unusedVariables false
set_option maxRecDepth 1000000

section
variable {t : List UInt8} {s : RS} {g : Nat} {w w' : World}

theorem Kp.of_below (hb : Below w.heap.size w w') (hg : g ≤ w.heap.size) : Kp g w w' :=
  ⟨hb.mono hg, fun k x hk _ _ => by have hlt : k < w.heap.size := (Array.getElem?_eq_some_iff.1 hk).1; exact (hb.block k hlt).trans hk⟩
theorem owns_below {B n : Nat} {v : Value} {xs : List Value} (h : w.ownsRowF B 5 1 v n xs) (hb : Below w.heap.size w w') : w'.ownsRowF B 5 1 v n xs :=
  h.kept (row := none) ⟨hb.os, hb.tape, hb.output, hb.size, fun k hk _ => hb.block k hk⟩ (by cases hv : v.ownBlock <;> simp)
theorem Rd.below (h : Rd t s g w) (hb : Below w.heap.size w w') : Rd t s g w' := by
  have hlt := h.lt
  obtain ⟨ok, cs, hc, ⟨hB, hg, hp, v, hv, hown⟩, h0, h1, h2, h3⟩ := h
  exact ⟨ok, cs, hc, ⟨hB, (hb.block g hlt).trans hg, hp, v, hv, owns_below hown hb⟩, h0, h1, h2, h3⟩
theorem Rd.string (h : Rd t s g w) (h0 : s.seen ≠ []) :
    Calls Try.prog 16 #[.pointer (some ⟨g, 4, none⟩)] w fun e w' => e = .returned (.string ⟨s.seen.toArray⟩) ∧ Rd t s g w' ∧ Kp g w w' := by
  obtain ⟨ok, cs, hc, hB, hx0, hx1, hx2, hx3⟩ := h
  refine (bString hB (by decide) h0).mono ?_
  rintro e w1 ⟨rfl, hB', b1, k1⟩
  exact ⟨rfl, ⟨ok, cs, hc, hB', hx0, hx1, hx2, hx3⟩, b1, k1⟩

theorem Fs.mk2 {w0 w2 : World} {q0 : Nat} (hR : Rd t s g w2) (f0 : Fa q0 Fr.nul w2) (k : Kp g w0 w2) (hg : g < q0) (hq : w0.heap.size ≤ q0) (f : Fr) :
    Fs t s g w0 q0 w2.heap.size f ((w2.alloc (.cells Fr.nul.arr 33)).setRow w2.heap.size f.arr) := by
  have hlt := hR.lt
  have h0 := f0.lt
  have fn := Fa.new w2 Fr.nul
  have hk := setRow_kept (w2.alloc (.cells Fr.nul.arr 33)) w2.heap.size f.arr
  obtain ⟨ok, cs, hc, ⟨hB, hg2, hpp, u, hu, hown⟩, hx0, hx1, hx2, hx3⟩ := hR.alloc (.cells Fr.nul.arr 33)
  have ka := k.alloc (by omega) (.cells Fr.nul.arr 33)
  refine ⟨⟨ok, cs, hc, ⟨hB, ?_, hpp, u, hu, ?_⟩, hx0, hx1, hx2, hx3⟩, fn.row f, ?_, ⟨ka.1.grown hk (by rw [size_alloc]; omega) (fun j hj => by cases hj; omega), fun j x hj hb hx => ?_⟩, hg, h0, hq⟩
  · rw [setRow_other _ _ g _ (by omega)]; exact hg2
  · exact hown.kept hk (Or.inr (Lib.ownBlock_neF hown fn (by decide)))
  · show _ = _
    rw [setRow_other _ _ q0 _ (by omega)]; exact f0.alloc _
  · have hlt : j < w0.heap.size := (Array.getElem?_eq_some_iff.1 hj).1
    rw [setRow_other _ _ j _ (by omega)]
    exact ka.2 j x hj hb hx
theorem Fs.below {w0 : World} {q0 q1 : Nat} {f : Fr} (h : Fs t s g w0 q0 q1 f w) (hb : Below w.heap.size w w') : Fs t s g w0 q0 q1 f w' := h.keep (h.rd.below hb) (Kp.of_below hb (Nat.le_of_lt h.rd.lt))

theorem bindR_inv {α β : Type} {m : RM α} {k : α → RM β} {s s' : RS} {b : β} (h : bindR m k s = .ok (b, s')) : ∃ a s1, m s = .ok (a, s1) ∧ k a s1 = .ok (b, s') := by
  cases hm : m s with
  | error f => rw [bindR_error hm] at h; cases h
  | ok q => exact ⟨q.1, q.2, rfl, (bindR_ok (a := q.1) (s' := q.2) hm).symm.trans h⟩
theorem bitS_grows {b : UInt8} {s' : RS} (h : bitS t s = .ok (b, s')) : s'.seen = s.seen ++ [b] := by
  unfold bitS at h
  split at h
  · cases h
  · split at h
    · split at h
      · cases h
      · split at h
        · cases h
        · simp only [Except.ok.injEq, Prod.mk.injEq] at h; rw [← h.2, ← h.1]
    · simp only [Except.ok.injEq, Prod.mk.injEq] at h; rw [← h.2, ← h.1]
theorem takeS_grows (n : Nat) : ∀ {s s' : RS} {bs : List UInt8}, takeS t n s = .ok (bs, s') → s'.seen = s.seen ++ bs := by
  induction n with
  | zero => intro s s' bs h; simp only [takeS, retR, Except.ok.injEq, Prod.mk.injEq] at h; rw [← h.2, ← h.1]; simp
  | succ n ih =>
    intro s s' bs h
    obtain ⟨b1, s1, h1, h⟩ := bindR_inv h
    obtain ⟨b, s2, h2, h⟩ := bindR_inv h
    simp only [retR, Except.ok.injEq, Prod.mk.injEq] at h
    rw [← h.2, ← h.1, bitS_grows h2, ih h1]; simp
theorem fieldS_inv {hh : Nat × Bool × Bool} {s' : RS} (hall : t.all isBit = true) (hrow : s.row ≤ 4) (h : fieldS t s = .ok (hh, s')) : s'.row ≤ 4 ∧ hh.1 < 536870912 ∧ ∃ l, s'.seen = s.seen ++ l := by
  obtain ⟨a, s1, h1, h⟩ := bindR_inv h
  obtain ⟨b, s2, h2, h⟩ := bindR_inv h
  obtain ⟨c, s3, h3, h⟩ := bindR_inv h
  have r3 := bitS_row h3 (bitS_row h2 (takeS_row 11 h1 hrow))
  have la := takeS_lt hall h1
  have g3 : s3.seen = s.seen ++ (a ++ [b] ++ [c]) := by rw [bitS_grows h3, bitS_grows h2, takeS_grows 11 h1]; simp
  by_cases hx : c = 49
  · rw [if_pos hx] at h
    obtain ⟨d, s4, h4, h⟩ := bindR_inv h
    obtain ⟨e, s5, h5, h⟩ := bindR_inv h
    obtain ⟨f, s6, h6, h⟩ := bindR_inv h
    obtain ⟨f', s7, h7, h⟩ := bindR_inv h
    simp only [retR, Except.ok.injEq, Prod.mk.injEq] at h
    have lb := takeS_lt hall h4
    rw [← h.2, ← h.1]
    exact ⟨bitS_row h7 (bitS_row h6 (bitS_row h5 (takeS_row 18 h4 r3))), by simp only; omega, (a ++ [b] ++ [c]) ++ (d ++ [e] ++ [f] ++ [f']), by rw [bitS_grows h7, bitS_grows h6, bitS_grows h5, takeS_grows 18 h4, g3]; simp⟩
  · rw [if_neg hx] at h
    obtain ⟨d, s4, h4, h⟩ := bindR_inv h
    simp only [retR, Except.ok.injEq, Prod.mk.injEq] at h
    rw [← h.2, ← h.1]
    exact ⟨bitS_row h4 r3, by simp only; omega, a ++ [b] ++ [c] ++ [d], by rw [bitS_grows h4, g3]; simp⟩
theorem bytesS_inv (n : Nat) : ∀ {s s' : RS} {ds : List UInt8}, s.row ≤ 4 → bytesS t n s = .ok (ds, s') → ds.length = n ∧ s'.row ≤ 4 ∧ ∃ l, s'.seen = s.seen ++ l := by
  induction n with
  | zero => intro s s' ds hr h; simp only [bytesS, retR, Except.ok.injEq, Prod.mk.injEq] at h; rw [← h.2, ← h.1]; exact ⟨rfl, hr, [], by simp⟩
  | succ n ih =>
    intro s s' ds hr h
    obtain ⟨b1, s1, h1, h⟩ := bindR_inv h
    obtain ⟨b, s2, h2, h⟩ := bindR_inv h
    simp only [retR, Except.ok.injEq, Prod.mk.injEq] at h
    obtain ⟨i1, i2, l, i3⟩ := ih hr h1
    rw [← h.2, ← h.1]
    exact ⟨by simp [i1], takeS_row 8 h2 i2, l ++ b, by rw [takeS_grows 8 h2, i3]; simp⟩

/-- The frame that was told. -/
def toldF (f : Bits.Told) : Fr := if h : f.id < 4294967296 ∧ f.len < 9223372036854775808 ∧ f.ds.length ≤ 8 then
  ⟨f.id, f.ext, f.rem, f.len, f.ds ++ List.replicate (8 - f.ds.length) 0, h.1, by omega, by simp; omega⟩ else Fr.nul
theorem toldF_pos {f : Bits.Told} (h : f.id < 4294967296 ∧ f.len < 9223372036854775808 ∧ f.ds.length ≤ 8) : toldF f = ⟨f.id, f.ext, f.rem, f.len, f.ds ++ List.replicate (8 - f.ds.length) 0, h.1, by omega, by simp; omega⟩ := by rw [toldF, dif_pos h]
theorem toldF_nil (hh : Nat × Bool × Bool) (n : Nat) (h1 : hh.1 < 4294967296) (h2 : n < 9223372036854775808) : (fieldF hh).setLen n (by omega) = toldF ⟨hh.1, hh.2.1, hh.2.2, n, []⟩ := by
  rw [toldF_pos ⟨h1, h2, by simp⟩, fieldF, dif_pos h1]; rfl
theorem toldF_bytes (hh : Nat × Bool × Bool) (n : Nat) (h1 : hh.1 < 4294967296) (h2 : n < 9223372036854775808) : (toldF ⟨hh.1, hh.2.1, hh.2.2, n, []⟩).bytes = nOf hh.2.2 n := by
  rw [toldF_pos ⟨h1, h2, by simp⟩]
  simp only [Fr.bytes, nOf]
  cases hh.2.2
  · simp only [Bool.false_or, decide_eq_true_eq, Bool.false_eq_true, if_false]
    rw [if_neg (by omega)]
    split <;> omega
  · simp
theorem put_snoc (ds : List UInt8) (c : UInt8) (h : ds.length < 8) : (ds ++ List.replicate (8 - ds.length) (0 : UInt8)).set ds.length c = (ds ++ [c]) ++ List.replicate (8 - (ds ++ [c]).length) 0 := by
  rw [List.set_append_right _ _ (Nat.le_refl _), Nat.sub_self, show 8 - ds.length = (8 - (ds.length + 1)) + 1 by omega, List.replicate_succ]
  simp
theorem toldF_snoc (f : Bits.Told) (c : UInt8) (h1 : f.id < 4294967296) (h2 : f.len < 9223372036854775808) (h3 : f.ds.length < 8) : (toldF f).arr.setIfInBounds (4 + f.ds.length) (.int .u8 c.toNat) = (toldF { f with ds := f.ds ++ [c] }).arr := by
  rw [toldF_pos ⟨h1, h2, by omega⟩, toldF_pos (f := { f with ds := f.ds ++ [c] }) ⟨h1, h2, by simp; omega⟩]
  simp only [Fr.arr, Fr.cells, List.setIfInBounds_toArray, ← put_snoc f.ds c h3]
  congr 1
  rw [show 4 + f.ds.length = f.ds.length + 1 + 1 + 1 + 1 by omega]
  simp [List.map_set]
theorem Fs.told {w0 : World} {q0 q1 : Nat} {f : Bits.Told} (h : Fs t s g w0 q0 q1 (toldF f) w) (c : UInt8) (h1 : f.id < 4294967296) (h2 : f.len < 9223372036854775808) (h3 : f.ds.length < 8) :
    Fs t s g w0 q0 q1 (toldF { f with ds := f.ds ++ [c] }) (w.setCell ⟨q1, 4 + f.ds.length, none⟩ (.int .u8 c.toNat)) := by
  refine h.put ?_
  show _ = _
  rw [h.2.1.set, toldF_snoc f c h1 h2 h3]
theorem Fs.cD {w0 : World} {q0 q1 : Nat} {f : Fr} (h : Fs t s g w0 q0 q1 f w) (k : Nat) (hk : k < 8) : ∃ c : Int, w.cell? ⟨q1, 4 + k, none⟩ = some (.int .u8 c) := ⟨_, (Lib.cell_of_heap h.2.1 (4 + k)).trans (f.arrD k hk)⟩
theorem crc_seen (h : s.ok t) (ht : t.length ≤ 65536) : crcV s.seen = crc s.seen := by
  have : err s.seen = 0 := by
    unfold err
    rw [if_neg (by have := h.1; have := h.2.2.1; omega), if_pos h.2.2.2]
  rw [crcV, if_pos this]
def toldV (f : Bits.Told) : Value := (toldF f).val

set_option maxHeartbeats 4000000 in
theorem body_any {r : Except Flt (Bits.Told × RS)} (ht : t.length ≤ 65536) (hall : t.all isBit = true) (h : Rd t s g w) (hrow : s.row ≤ 4) (hr : bodyS t s = r) :
    Calls Try.prog 21 #[.pointer (some ⟨g, 0, none⟩)] w (PostR g t w toldV r) := by
  have HR : Hid (bodyS t s = r) := hr
  clear hr
  have hgl := h.lt
  go_enter Try.func21, Try.ntmps21
  go_wp2_with fail
  change Calls Try.prog 36 _ (w.alloc (.cells Fr.nul.arr 33)) _
  have hA := h.alloc (.cells Fr.nul.arr 33)
  have kA : Kp g w (w.alloc (.cells Fr.nul.arr 33)) := (Kp.refl g w).alloc (by omega) _
  have fA := Fa.new w Fr.nul
  generalize hW : w.alloc (.cells Fr.nul.arr 33) = W at *
  refine (mark_any ht hall hA hrow rfl).mono ?_
  intro e w1 hP
  rcases hP.cases HR.out kA with ⟨f, rfl, hG⟩ | ⟨b0, s1, rfl, e1, HR1, h1, b1, k1⟩
  · exact ⟨rfl, hG⟩
  have r1 := bitS_row e1 hrow
  have fA1 := fA.keep k1 (by omega)
  unfold markV
  clear hP HR hA kA fA k1
  by_cases hx : b0 = 49
  · have HR2 := ite_yes HR1 hx
    have hd : decide (b0 = 49) = true := by simp [hx]
    rw [hd]
    clear HR1
    go_wp2
    exact ⟨rfl, PostR.of_error HR2.out.symm b1⟩
  · have HR2 := ite_no HR1 hx
    have hd : decide (b0 = 49) = false := by simp [hx]
    rw [hd]
    clear HR1 hx hd hW
    go_wp2_with fail
    refine (field_any ht hall h1 r1 rfl).mono ?_
    intro e w2 hP
    rcases hP.cases HR2.out b1 with ⟨f, rfl, hG⟩ | ⟨hh, s2, rfl, e2, HR3, h2, b2, k2⟩
    · exact ⟨rfl, hG⟩
    obtain ⟨r2, lf, sl2, g2⟩ := fieldS_inv hall r1 e2
    have gr := bitS_grows e1
    have fA2 := fA1.keep k2 (by omega)
    have F1 := Fs.mk2 h2 fA2 b2 (by omega) (by omega) (fieldF hh)
    have fn := Fa.new w2 Fr.nul
    unfold fieldV Fr.val
    clear hP HR2 h1 b1 fA1 k2 e2 h2 fA2 b2
    go_wp2_with (refine fn.sd (fieldF hh) rfl _ _ rfl rfl rfl ?_)
    refine (number_any 4 (by omega) ht hall F1.rd r2 rfl).mono ?_
    intro e w3 hP
    rcases F1.cases HR3 hP with ⟨f, rfl, hG⟩ | ⟨l, s3, rfl, e3, HR4, F2⟩
    · exact ⟨rfl, hG⟩
    have r3 := takeS_row 4 e3 r2
    have l3 := takeS_lt hall e3
    have gr3 := takeS_grows 4 e3
    have F3 := F2.setLen (val l) (by omega)
    rw [toldF_nil hh (val l) (by omega) (by omega)] at F3
    have HB : (toldF ⟨hh.1, hh.2.1, hh.2.2, val l, []⟩).bytes = nOf hh.2.2 (val l) := toldF_bytes hh (val l) (by omega) (by omega)
    have c3 := F2.c3
    have z3 := F2.z 3
    have fl := F3.2.1
    unfold u32V
    generalize w.heap.size = q0 at *
    generalize w2.heap.size = q1 at *
    clear hP HR3 F1 F2 e3 fn e1
    go_wp2_with (refine fl.ld rfl _ rfl rfl ?_)
    refine (fbytesOf_any _ _).mono ?_
    rintro e w4 ⟨rfl, b4⟩
    rw [HB]
    have F4 := F3.below b4
    clear F3 b4 fl HB c3 z3
    go_wp2_with fail
    have hn8 : nOf hh.2.2 (val l) ≤ 8 := by unfold nOf; split <;> omega
    generalize hN : nOf hh.2.2 (val l) = N at *
    have hu : s3.seen ≠ [] := by rw [gr3, g2, gr]; simp
    go_loopw [4, 19] (fun i0 i wr => ∃ (k : Nat) (ds : List UInt8) (s4 : RS), k ≤ N ∧ i = .int .i64 k ∧ ds.length = k ∧ Hid (bytesS t k s3 = .ok (ds, s4)) ∧ Fs t s4 g w q0 q1 (toldF ⟨hh.1, hh.2.1, hh.2.2, val l, ds⟩) wr) (fun _ i _ => N - (intOf i).toNat)
    case atStart => exact ⟨0, [], s3, Nat.zero_le _, rfl, rfl, rfl, F4⟩
    case round =>
      obtain ⟨k, ds, s4, hk, rfl, hdl, HD, F5⟩ := hrel
      obtain ⟨_, r4, u4, g4⟩ := bytesS_inv k r3 HD.out
      clear F4
      by_cases hkN : k < N
      · go_wp2_with fail
        refine (number_any 8 (by omega) ht hall F5.rd r4 rfl).mono ?_
        intro e w5 hP
        cases hm : takeS t 8 s4 with
        | error f =>
          rw [hm] at hP
          obtain ⟨rfl, b5⟩ := hP.error
          have hF : r = .error f := by
            refine bindR_fail HR4.out ?_
            rw [show N = (k + 1) + (N - (k + 1)) by omega]
            exact bytesS_stays (bytesS_fault HD.out hm) _
          exact ⟨rfl, PostR.of_error hF (F5.kp.trans b5)⟩
        | ok q =>
          obtain ⟨b, s5⟩ := q
          rw [hm] at hP
          obtain ⟨rfl, h5, b5⟩ := hP.ok
          have HD2 : Hid (bytesS t (k + 1) s3 = .ok (ds ++ [(val b).toUInt8], s5)) := bytesS_next HD.out hm
          have lb := takeS_lt hall hm
          have hc8 : ((val b).toUInt8).toNat = val b := by simp; omega
          have F6 := F5.keep h5 b5
          have F7 := F6.told (f := ⟨hh.1, hh.2.1, hh.2.2, val l, ds⟩) (val b).toUInt8 (by simp only; omega) (by simp only; omega) (by simp only; omega)
          obtain ⟨cD, hcD⟩ := F6.cD k (by omega)
          have zD := F6.z (4 + k)
          simp only [hc8, hdl] at F7
          unfold u32V
          clear hP hm HD F5 F6 h5 b5 HR4
          go_wp2
          go_roundw
          case rel => exact ⟨k + 1, ds ++ [(val b).toUInt8], s5, by omega, by go_num, by simp [hdl], HD2, F7⟩
          case measure => simp [intOf]; omega
      · obtain rfl : k = N := by omega
        have HR5 := bindR_step HR4.out HD.out
        have HR6 : Hid (bindR (takeS t 15) (fun c s2 => if val c = crc s4.seen then .ok (⟨hh.1, hh.2.1, hh.2.2, val l, ds⟩, s2) else .error (s2.pos, 21)) s4 = r) := HR5
        have hu4 : s4.seen ≠ [] := by rw [g4]; simp [hu]
        have hcr := crc_seen F5.rd.1 ht
        clear HR5 HR4 HD hu g4
        go_wp2_with fail
        refine (F5.rd.string hu4).mono ?_
        rintro e w5 ⟨rfl, h5, k5⟩
        have F6 := F5.keep h5 k5
        go_wp2_with fail
        refine (CRC_any _ _).mono ?_
        rintro e w6 ⟨rfl, b6⟩
        have F7 := F6.below b6
        simp only [hcr]
        clear F5 F6 h5 k5 b6
        go_wp2_with fail
        refine (number_any 15 (by omega) ht hall F7.rd r4 rfl).mono ?_
        intro e w7 hP
        rcases F7.cases HR6 hP with ⟨f, rfl, hG⟩ | ⟨c, s7, rfl, e7, HR7, F8⟩
        · exact ⟨rfl, hG⟩
        have lc := takeS_lt hall e7
        have lcr := crc_lt s4.seen
        unfold u32V
        clear hP F7 HR6
        generalize crc s4.seen = cr at *
        generalize val c = vc at *
        by_cases hc : vc = cr
        · have HR8 : Hid (r = .ok (⟨hh.1, hh.2.1, hh.2.2, val l, ds⟩, s7)) := by
            have := HR7.out
            simp only [if_pos hc] at this
            exact this.symm
          subst hc
          clear HR7
          generalize hTF : (⟨hh.1, hh.2.1, hh.2.2, val l, ds⟩ : Bits.Told) = TF at *
          obtain ⟨D1, D2, D3⟩ := F8.done
          have f1 := F8.2.1
          have f0 := F8.2.2.1
          go_wp2_with (first | refine f1.ld rfl _ rfl rfl ?_ | refine f0.sd (toldF TF) rfl _ _ rfl rfl rfl ?_)
          refine bodyPost_ret (v := .agg (toldF TF).arr) (results_cell_row rfl _ _ q0 33 (toldF TF).arr (0, 0) _ rfl D3 Try.underlying33 rfl (by rw [(toldF TF).arr_size]; exact infoF)) rfl (PostR.of_ok (a := TF) HR8.out rfl D1 D2)
        · have HR8 : Hid (r = .error (s7.pos, 21)) := by
            have := HR7.out
            simp only [if_neg hc] at this
            exact this.symm
          have hne : ((vc : Int) == (cr : Int)) = false := by simp; omega
          obtain ⟨d0, d1, d2, d3, df⟩ := F8.rd.cells
          have kF := F8.kp
          clear HR7 F8 d0 d2 d3 df
          go_wp2
          exact ⟨rfl, PostR.of_error HR8.out kF⟩
end
end Go.Proofs.Ytffajokpfobalaa
