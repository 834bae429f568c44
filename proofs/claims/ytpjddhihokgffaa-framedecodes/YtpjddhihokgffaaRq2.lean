/- Contracts of the document's own reader: take. -/
import Derived.Test.YtpjddhihokgffaaRq
import Derived.Test.YtpjddhihokgffaaNum
namespace Go.Proofs.Ytpjddhihokgffaa
open Go.RowKit Go.Proofs.Bits
set_option linter.unusedVariables false
set_option maxRecDepth 1000000

section
variable {t : List UInt8} {s : RS} {g : Nat} {w : World}
theorem takeL_next {n : Nat} {s1 s2 : RS} {bs : List UInt8} {b : UInt8} (h : takeL t n s = .ok (bs, s1)) (hb : bitL t s1 = .ok (b, s2)) : takeL t (n + 1) s = .ok (bs ++ [b], s2) := by
  rw [takeL, bindR_ok h, bindR_ok hb]; rfl
theorem takeL_fault {n : Nat} {s1 : RS} {bs : List UInt8} {f : Flt} (h : takeL t n s = .ok (bs, s1)) (hb : bitL t s1 = .error f) : takeL t (n + 1) s = .error f := by
  rw [takeL, bindR_ok h, bindR_error hb]
theorem takeL_stays {n : Nat} {f : Flt} (h : takeL t n s = .error f) (m : Nat) : takeL t (n + m) s = .error f := by
  induction m with
  | zero => exact h
  | succ m ih => rw [Nat.add_succ, takeL, bindR_error ih]
theorem add_one (a : List UInt8) (t : List UInt8) (p : Nat) (h : p < t.length) : (⟨a.toArray⟩ : ByteArray) ++ (⟨t.toArray⟩ : ByteArray).extract p (p + 1) = ⟨(a ++ [t[p]]).toArray⟩ := by
  rw [ByteArray.extract_mk]
  apply ByteArray.ext
  have : (t.drop p).take (p + 1 - p) = [t[p]] := by
    rw [show p + 1 - p = 1 by omega, List.drop_eq_getElem_cons h]; rfl
  rw [this]
  simp
/-- What take answers, and where the reader is left. -/
def Tk (t : List UInt8) (n : Nat) (x : Except Flt (List UInt8 × RS)) (g : Nat) (v : Nat) (w : World) : Prop := v < 2 ^ n ∧ match x with
  | .ok q => v = val q.1 ∧ Qs t q.2 g w
  | .error f => Qe t f g w

set_option maxHeartbeats 1000000 in
theorem rdtake_bad (n : Nat) (hn : n ≤ 18) (f : Flt) (h : Qe t f g w) :
    Calls Try.prog 47 #[.pointer (some ⟨g, 0, none⟩), .int .i64 n] w fun e w' => ∃ v : Nat, e = .returned (.int .u64 v) ∧ v < 2 ^ n ∧ Qe t f g w' ∧ w.grownBy w' (some g) := by
  have HQ : Hid (Qe t f g w) := h
  obtain ⟨hf, r, b, h⟩ := h
  obtain ⟨c0, c1, c2, c3, c4, hfz⟩ := h.cells
  have hne : (f.2 == 0) = false := by simp [hf]
  have hp : 0 < 2 ^ n := Nat.pow_pos (by decide)
  clear c0 c1 c2 c3 h hf hfz
  go_enter Try.func47, Try.ntmps47
  go_wp2_with fail
  go_loopw [5, 6] (fun x i wr => x = .int .u64 0 ∧ i = .int .i64 0 ∧ wr = w) (fun _ _ _ => 0)
  case atStart => exact ⟨rfl, rfl, rfl⟩
  case round =>
    obtain ⟨rfl, rfl, rfl⟩ := hrel
    by_cases h0 : 0 < n
    · go_wp2
      go_ret
      exact ⟨0, rfl, hp, HQ.out, World.grownBy.refl _ _⟩
    · go_wp2
      go_ret
      exact ⟨0, rfl, hp, HQ.out, World.grownBy.refl _ _⟩

theorem i64_small (n : Nat) (h : n < 1000000) : IntKind.i64.wrap ((n : Int) + 1) = (n : Int) + 1 := by
  have e : ∀ z : Int, 0 ≤ z → z < 9223372036854775808 → IntKind.i64.wrap z = z := fun z h0 h1 => by
    simp [IntKind.wrap, IntKind.bits, IntKind.signed]
    omega
  exact e _ (by omega) (by omega)
theorem Qe.drawn {f : Flt} (h : Qe t f g w) (n : Nat) : Qe t f g (w.drewN n) := h
theorem bitL_skip {f : Flt} (h : skipL t s = .error f) : bitL t s = .error f := by rw [bitL, bindR_error h]
theorem bitL_none {s1 : RS} (h : skipL t s = .ok ((), s1)) (hb : t[s1.pos]? = none) : bitL t s = .error (s1.pos, 3) := by
  rw [bitL, bindR_ok h, rawS, hb]
theorem bitL_some {s1 : RS} {b : UInt8} (h : skipL t s = .ok ((), s1)) (hb : t[s1.pos]? = some b) : bitL t s = .ok (b, ⟨s1.pos + 1, b, rowR s1 b, s1.seen ++ [b]⟩) := by
  rw [bitL, bindR_ok h, rawS, hb]
theorem skipL_row {s1 : RS} (h : skipL t s = .ok ((), s1)) (hr : s.row ≤ 5) : s1.row ≤ 4 := by
  unfold skipL at h
  split at h
  · split at h
    · cases h
    · split at h
      · cases h
      · simp only [Except.ok.injEq, Prod.mk.injEq] at h; rw [← h.2]; simp
  · simp only [Except.ok.injEq, Prod.mk.injEq] at h; rw [← h.2]; omega
theorem val_step_lt {x k : Nat} {b : UInt8} (hx : x < 2 ^ k) (hb : b.toNat = 48 ∨ b.toNat = 49) : valStep x b < 2 ^ (k + 1) := by
  unfold valStep; rw [Nat.pow_succ]; omega

set_option maxHeartbeats 2000000 in
theorem rdtake_ok (n : Nat) (hn : n ≤ 18) (ht : t.length ≤ 65536) (hall : t.all isBit = true) (h : Qs t s g w) :
    Calls Try.prog 47 #[.pointer (some ⟨g, 0, none⟩), .int .i64 n] w fun e w' => ∃ v : Nat, e = .returned (.int .u64 v) ∧ Tk t n (takeL t n s) g v w' ∧ w.grownBy w' (some g) := by
  go_enter Try.func47, Try.ntmps47
  go_wp2_with fail
  go_loopw [5, 6] (fun x i wr => ∃ v k : Nat, x = .int .u64 v ∧ i = .int .i64 k ∧ k ≤ n ∧ v < 2 ^ k ∧ w.grownBy wr (some g) ∧ ((∃ (bs : List UInt8) (s1 : RS), v = val bs ∧ takeL t k s = .ok (bs, s1) ∧ Qs t s1 g wr) ∨ ∃ f : Flt, takeL t n s = .error f ∧ Qe t f g wr)) (fun _ i _ => n - (intOf i).toNat)
  case atStart => exact ⟨0, 0, rfl, rfl, Nat.zero_le _, by simp, World.grownBy.refl _ _, .inl ⟨[], s, rfl, rfl, h⟩⟩
  case round =>
    obtain ⟨v, k, rfl, rfl, hk, hv, hgr, hst⟩ := hrel
    have HG : Hid (w.grownBy wr (some g)) := hgr
    clear hgr h
    have hpw : v < 2 ^ n := Nat.lt_of_lt_of_le hv (Nat.pow_le_pow_right (by decide) hk)
    have hv63 : v < 9223372036854775808 := Nat.lt_of_lt_of_le hpw (Nat.pow_le_pow_right (n := 2) (j := 63) (by omega) (by omega))
    rcases hst with ⟨bs, s1, hvb, htk, h1⟩ | ⟨f, htk, h1⟩
    · have HT : Hid (takeL t k s = .ok (bs, s1)) := htk
      have HVB : Hid (v = val bs) := hvb
      have HV : Hid (v < 2 ^ k) := hv
      have HP : Hid (v < 2 ^ n) := hpw
      have HQ1 : Hid (Qs t s1 g wr) := h1
      obtain ⟨h1, hq1⟩ := h1
      obtain ⟨c0, c1, c2, c3, c4, hfz⟩ := h1.cells
      clear htk hvb hv hpw c0 c1 c2 c3 hfz
      by_cases hkn : k < n
      · go_wp2_with fail
        refine (rdskip_any ht hall HQ1.out).mono ?_
        rintro e w2 ⟨rfl, hX, hg2⟩
        clear h1 c4
        have HG2 : Hid (w.grownBy w2 (some g)) := HG.out.trans hg2
        clear hg2 HG
        cases hsk : skipL t s1 with
        | error f =>
          rw [hsk] at hX
          have HX : Hid (Qe t f g w2) := hX
          obtain ⟨hf, r, b, hc⟩ := hX
          obtain ⟨d0, d1, d2, d3, d4, hfz⟩ := hc.cells
          have hne : (f.2 == 0) = false := by simp [hf]
          have HE : Hid (takeL t n s = .error f) := by
            show takeL t n s = _
            rw [show n = (k + 1) + (n - (k + 1)) by omega]
            exact takeL_stays (takeL_fault HT.out (bitL_skip hsk)) _
          clear hc hf hfz hsk hq1
          have HXD : Hid (∀ n, Qe t f g (w2.drewN n)) := fun n => HX.out.drawn n
          have HGD : Hid (∀ n, w.grownBy (w2.drewN n) (some g)) := fun n => gr_drawn HG2.out n
          go_wp2_with fail
          go_quiet (fail)
          go_wp2
          go_roundw
          case rel => exact ⟨v, k + 1, rfl, by go_num, by omega, Nat.lt_of_lt_of_le HV.out (Nat.pow_le_pow_right (by decide) (by omega)), HGD.out _, .inr ⟨f, HE.out, HXD.out _⟩⟩
          case measure => simp [intOf]; omega
        | ok q =>
          obtain ⟨u, s2⟩ := q
          rw [hsk] at hX
          obtain ⟨hc, hq2⟩ : Qs t s2 g w2 := hX
          obtain ⟨d0, d1, d2, d3, d4, hfz⟩ := hc.cells
          have f3 := hfz 3
          have f4 := hfz 4
          obtain ⟨T, hT0⟩ : ∃ T : ByteArray, T = ⟨t.toArray⟩ := ⟨_, rfl⟩
          have hgt : ∀ i (h1 : i < T.size) (h2 : i < t.length), T[i]'h1 = t[i]'h2 := by subst hT0; intros; rfl
          have hsz : T.size = t.length := by subst hT0; simp [ByteArray.size]
          have hnx : ∀ {b : UInt8}, t[s2.pos]? = some b → nxt T s2.pos s2.row = rowR s2 b := by subst hT0; exact fun hb => nxt_row hall hq2 hb
          have hex : ∀ (h : s2.pos < t.length), (⟨s2.seen.toArray⟩ : ByteArray) ++ T.extract s2.pos (s2.pos + 1) = ⟨(s2.seen ++ [t[s2.pos]]).toArray⟩ := by subst hT0; exact fun h => add_one _ _ _ h
          rw [← hT0] at hc d0
          have HQe : Hid (∀ (f : Flt) W, f.2 ≠ 0 → (∃ r b, Qc g T f.1 r b f.2 W) → Qe t f g W) := by subst hT0; exact fun f W a b => ⟨a, b⟩
          have HQs : Hid (∀ (s' : RS) W, Qc g T s'.pos s'.row ⟨s'.seen.toArray⟩ 0 W → RSq t s' → Qs t s' g W) := by subst hT0; exact fun f W a b => ⟨a, b⟩
          clear hT0
          by_cases hp : s2.pos < t.length
          · have hget : t[s2.pos]? = some t[s2.pos] := List.getElem?_eq_getElem hp
            have hge : ¬ (T.size : Int) ≤ (s2.pos : Int) := by omega
            have hgd : decide ((T.size : Int) ≤ (s2.pos : Int)) = false := by simp; omega
            have hpT : s2.pos < T.size := by omega
            have hp1 : (s2.pos : Int) < (T.size : Int) := by omega
            have hp0 : (0 : Int) ≤ (s2.pos : Int) := by omega
            have hb : (T[s2.pos]'hpT).toNat = 48 ∨ (T[s2.pos]'hpT).toNat = 49 := by
              rw [hgt _ _ hp]
              rw [List.all_eq_true] at hall
              exact isBit_cases (hall _ (List.mem_of_getElem? hget))
            have hbt : T[s2.pos]'hpT = t[s2.pos] := hgt _ _ hp
            have hS := hex hp
            have hN := fun W => rdnext_any (g := g) (t := T) (p := s2.pos) (r := s2.row) (b := ⟨(s2.seen ++ [t[s2.pos]]).toArray⟩) (y := 0) (w := W) (by omega) hpT hq2.2.1
            rw [hnx hget] at hN
            have HB := bitL_some hsk hget
            have HT2 : Hid (takeL t (k + 1) s = .ok (bs ++ [t[s2.pos]], _)) := takeL_next HT.out HB
            have HR := rsq_raw hall hq2 (skipL_row hsk hq1.2.1) hget
            have HQ3 : Hid (∀ W, Qc g T (s2.pos + 1) (rowR s2 t[s2.pos]) ⟨(s2.seen ++ [t[s2.pos]]).toArray⟩ 0 W → Qs t ⟨s2.pos + 1, t[s2.pos], rowR s2 t[s2.pos], s2.seen ++ [t[s2.pos]]⟩ g W) := fun W a => HQs.out ⟨s2.pos + 1, t[s2.pos], rowR s2 t[s2.pos], s2.seen ++ [t[s2.pos]]⟩ W a HR
            have HVn : Hid (bits BinOp.or IntKind.u64 ((v : Int) * 2) (((T[s2.pos]'hpT).toNat : Int) - 48) = ((valStep v t[s2.pos] : Nat) : Int)) := by
              show bits _ _ _ _ = _
              have := num_val v _ hb hv63
              rw [wrap64_small v hv63, hbt] at this
              rw [hbt, ← this]
              rfl
            have HVl : Hid (valStep v t[s2.pos] < 2 ^ (k + 1)) := val_step_lt HV.out (hbt ▸ hb)
            have HVv : Hid (valStep v t[s2.pos] = val (bs ++ [t[s2.pos]])) := by show _ = _; rw [val_snoc, HVB.out]
            have HND := fun n => hN ((w2.drewN n).setCell ⟨g, 3, none⟩ (.string ⟨(s2.seen ++ [t[s2.pos]]).toArray⟩)) ((hc.drawn n).b' _)
            have HGD : Hid (∀ n, w.grownBy ((w2.drewN n).setCell ⟨g, 3, none⟩ (.string ⟨(s2.seen ++ [t[s2.pos]]).toArray⟩)) (some g)) := fun n => gr_set (gr_drawn HG2.out n) _ _
            have hs1 : (⟨s2.seen.toArray⟩ : ByteArray).size = s2.seen.length := by simp [ByteArray.size]
            have hs2 : (T.extract s2.pos (s2.pos + 1)).size = 1 := by simp [ByteArray.size_extract]; omega
            have hsl : ∀ W, (Instr.slice 9 (.string T) (some (.int .i64 (s2.pos : Int))) (some (.int .i64 ((s2.pos : Int) + 1))) none).run Try.prog W = .ok (.string (T.extract s2.pos (s2.pos + 1))) W := fun W =>
              run_slice_string (P := Try.prog) W 9 T .i64 .i64 (s2.pos : Int) ((s2.pos : Int) + 1) Try.underlying9 (by omega) (by omega) (by omega)
            have hwr : IntKind.i64.wrap ((s2.pos : Int) + 1) = (s2.pos : Int) + 1 := i64_small s2.pos (by omega)
            generalize T.extract s2.pos (s2.pos + 1) = P1 at hs2 hsl hS
            generalize hsn : (⟨s2.seen.toArray⟩ : ByteArray) = S1 at d3 hS hs1
            generalize (⟨(s2.seen ++ [t[s2.pos]]).toArray⟩ : ByteArray) = S2 at hS HND HGD HQ3
            have hs3 : s2.seen.length ≤ 65536 := by have := hq2.2.2.1; omega
            have hT5 : T.size ≤ 65536 := by omega
            have hp2 : (s2.pos : Int) + 1 ≤ (T.size : Int) := by omega
            have hsum : S1.size + P1.size ≤ 9223372036854775807 := by omega
            have hadd : ∀ W, (Op.stringOp .add S1 P1).run Try.prog W = .ok (.string S2) W := fun W => by rw [run_string_add_sum W S1 P1 hsum, hS]
            clear hgt hsz hnx hex hq1 hq2 hN HB HR hget hc hbt hsn hs1 hs2 hs3
            go_wp2_with fail
            go_quiet (fail)
            go_wp2_with fail
            go_quiet (fail)
            go_wp2_with fail
            go_region
            go_wp2_with fail
            refine (HND _).mono ?_
            rintro e w3 ⟨rfl, k1, k2⟩
            have HG3 : Hid (w.grownBy w3 (some g)) := (HGD.out _).trans k2
            clear k2 HND HGD
            go_wp2
            go_roundw
            case rel => exact ⟨_, k + 1, val_int HVn.out, by go_num, by omega, HVl.out, HG3.out, .inl ⟨_, _, HVv.out, HT2.out, HQ3.out _ k1⟩⟩
            case measure => simp [intOf]; omega
          · have hge : (T.size : Int) ≤ (s2.pos : Int) := by omega
            have HE : Hid (takeL t n s = .error (s2.pos, 3)) := by
              show takeL t n s = _
              rw [show n = (k + 1) + (n - (k + 1)) by omega]
              exact takeL_stays (takeL_fault HT.out (bitL_none hsk (List.getElem?_eq_none (by omega)))) _
            have H : Hid (∀ n m, Qe t (s2.pos, 3) g (((w2.drewN n).setCell ⟨g, 4, none⟩ (.int .i64 3)).drewN m)) := fun n m => HQe.out _ _ (by simp) ⟨_, _, (((hc.drawn n).y' 3)).drawn m⟩
            have HGD : Hid (∀ n m, w.grownBy (((w2.drewN n).setCell ⟨g, 4, none⟩ (.int .i64 3)).drewN m) (some g)) := fun n m => gr_drawn (gr_set (gr_drawn HG2.out n) _ _) m
            clear hgt hsz hnx hex hq1 hq2
            go_wp2_with fail
            go_quiet (fail)
            go_wp2
            go_roundw
            case rel => exact ⟨v, k + 1, rfl, by go_num, by omega, Nat.lt_of_lt_of_le HV.out (Nat.pow_le_pow_right (by decide) (by omega)), HGD.out _ 0, .inr ⟨_, HE.out, H.out _ 0⟩⟩
            case measure => simp [intOf]; omega
      · obtain rfl : k = n := by omega
        go_wp2
        go_ret
        exact ⟨v, rfl, by rw [HT.out]; exact ⟨HP.out, HVB.out, HQ1.out⟩, HG.out⟩
    · have HE : Hid (takeL t n s = .error f) := htk
      have HX : Hid (Qe t f g wr) := h1
      obtain ⟨hf, r, b, hc⟩ := h1
      obtain ⟨d0, d1, d2, d3, d4, hfz⟩ := hc.cells
      have hne : (f.2 == 0) = false := by simp [hf]
      clear hc hf hfz d0 d1 d2 d3 htk
      have HF : Hid (Tk t n (takeL t n s) g v wr) := by show Tk t n _ g v wr; rw [HE.out]; exact ⟨hpw, HX.out⟩
      by_cases hkn : k < n
      · go_wp2
        go_ret
        exact ⟨v, rfl, HF.out, HG.out⟩
      · obtain rfl : k = n := by omega
        go_wp2
        go_ret
        exact ⟨v, rfl, HF.out, HG.out⟩

/-- The reader's state, whether all went well or not. -/
def QS (t : List UInt8) (x : Except Flt RS) (g : Nat) (w : World) : Prop := match x with
  | .ok s => Qs t s g w
  | .error f => Qe t f g w
/-- Reading on from such a state. -/
def onS {α : Type} (x : Except Flt RS) (m : RM α) : Except Flt (α × RS) := match x with
  | .ok s => m s
  | .error f => .error f
def stOf {α : Type} (x : Except Flt (α × RS)) : Except Flt RS := match x with
  | .ok q => .ok q.2
  | .error f => .error f
theorem rdtake_any (n : Nat) (hn : n ≤ 18) (ht : t.length ≤ 65536) (hall : t.all isBit = true) {x : Except Flt RS} (h : QS t x g w) :
    Calls Try.prog 47 #[.pointer (some ⟨g, 0, none⟩), .int .i64 n] w fun e w' => ∃ v : Nat, e = .returned (.int .u64 v) ∧ v < 2 ^ n ∧ (∀ q, onS x (takeL t n) = .ok q → v = val q.1) ∧ QS t (stOf (onS x (takeL t n))) g w' ∧ w.grownBy w' (some g) := by
  cases x with
  | error f =>
    refine (rdtake_bad n hn f h).mono ?_
    rintro e w' ⟨v, rfl, h1, h2, h3⟩
    exact ⟨v, rfl, h1, fun q hq => (by cases hq), h2, h3⟩
  | ok s =>
    refine (rdtake_ok n hn ht hall h).mono ?_
    rintro e w' ⟨v, rfl, ⟨h1, h2⟩, h3⟩
    refine ⟨v, rfl, h1, ?_, ?_, h3⟩
    · intro q hq
      rw [show onS (.ok s) (takeL t n) = takeL t n s from rfl] at hq
      rw [hq] at h2
      exact h2.1
    · show QS t (stOf (takeL t n s)) g w'
      cases hq : takeL t n s with
      | error f => rw [hq] at h2; exact h2
      | ok q => rw [hq] at h2; exact h2.2
end
end Go.Proofs.Ytpjddhihokgffaa
