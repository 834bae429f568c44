/- The law EmcyAll returns true whatever errors come in. -/
import Derived.Test.YtcokdcjfaankaaaLawEQui
import Derived.Deep.DeepCutAuto
namespace Go.Proofs.Ytcokdcjfaankaaa
open Go.RowKit
set_option linter.unusedVariables false
set_option maxRecDepth 1000000
set_option linter.unusedSimpArgs false
/-- A frame that says how things stand. -/
def LO (s : Te) (f : Tr) : Prop := (f.c = 0 ↔ s.now = []) ∧ f.r = reg s.now
/-- A teller in the law, and what was told last. -/
structure AW (p q i : Nat) (w x : World) (s : Te) (any : Bool) (A : Array Value) (lf : Tr) : Prop where
  pt : Pt p (fun z => p ≤ z ∧ z ≠ q) s x
  below : Below p w x
  blk : Bc 42 q A x
  asz : A.size = 8
  al : any = true → A = lf.far
  ih : s.inh = 0
  qu : s.quiet = 0
  fit : s.Fit
  len : s.now.length ≤ i
  codes : ∀ y ∈ s.now, 256 ≤ y.c
  lo : s.waits = [] → any = true → LO s lf
  lw : ∀ f, s.waits.getLast? = some f → LO s f
  pq : p ≤ q
theorem push_last (l : List Tr) (f : Tr) (h : l.length < 16) : (push l f).getLast? = some f ∧ (push l f).length = l.length + 1 ∧ push l f ≠ [] := by
  unfold push
  rw [if_pos h]
  simp
section
variable {p q i : Nat} {w x y : World} {s : Te} {any : Bool} {A : Array Value} {lf : Tr}
theorem AW.sz (h : AW p q i w x s any A lf) (hp : w.heap.size = p) : p ≤ x.heap.size := by rw [← hp]; exact h.below.size
theorem AW.room (h : AW p q i w x s any A lf) (hp : w.heap.size = p) : ∀ z, x.heap.size ≤ z → p ≤ z ∧ z ≠ q := fun z hz => ⟨Nat.le_trans (h.sz hp) hz, by have := h.blk.lt; omega⟩
theorem AW.raise (h : AW p q i w x s any A lf) (hp : w.heap.size = p) (hw : s.waits.length < 16) (t : Tr) (h1 : Pt p (fun z => p ≤ z ∧ z ≠ q) (s.raise t) y) (h2 : Kq (fun z => p ≤ z ∧ z ≠ q) x y) : AW p q (i + 1) w y (s.raise t) any A lf ∧ (s.raise t).waits.length = s.waits.length + (if s.can t then 1 else 0) := by
  have hb := h2.below h.below (h.sz hp) (fun _ hz => hz.1)
  have hq := Bc.kq h.blk h2 (fun e => e.2 rfl)
  have hl := Nat.le_trans (Te.raise_len s t) (by have := h.len; omega : s.now.length + 1 ≤ i + 1)
  cases hc : s.can t with
  | false =>
    have e : s.raise t = s := Te.raise_no hc
    rw [e] at h1 hl ⊢
    exact ⟨⟨h1, hb, hq, h.asz, h.al, h.ih, h.qu, h.fit, hl, h.codes, h.lo, h.lw, h.pq⟩, rfl⟩
  | true =>
    have e : s.raise t = s.rs t := by unfold Te.raise; rw [hc]; rfl
    have ht : 256 ≤ t.c := by
      unfold Te.can at hc
      simp at hc
      exact hc.1
    obtain ⟨p1, p2, p3⟩ := push_last s.waits (tl t.c t.hc (s.now ++ [t]) t.x0 t.x1 t.x2 t.x3 t.x4) hw
    have hf := h.fit.raise t
    rw [e] at h1 hl hf ⊢
    refine ⟨⟨h1, hb, hq, h.asz, h.al, h.ih, h.qu, hf, hl, fun y hy => ?_, fun e2 => absurd e2 p3, fun f hf => ?_, h.pq⟩, p2⟩
    · rcases List.mem_append.1 hy with h9 | h9
      · exact h.codes y h9
      · simp at h9; subst h9; exact ht
    · have : f = tl t.c t.hc (s.now ++ [t]) t.x0 t.x1 t.x2 t.x3 t.x4 := by
        have h9 : (push s.waits (tl t.c t.hc (s.now ++ [t]) t.x0 t.x1 t.x2 t.x3 t.x4)).getLast? = some f := hf
        rw [p1] at h9
        injection h9 with h9
        exact h9.symm
      rw [this]
      refine ⟨?_, rfl⟩
      show t.c = 0 ↔ s.now ++ [t] = []
      simp
      omega
theorem hd_zero (l : List Tr) (h : ∀ y ∈ l, 256 ≤ y.c) : hd l = 0 ↔ l = [] := by
  cases l with
  | nil => simp [hd]
  | cons x l =>
    have := h x (by simp)
    simp [hd]
    omega
theorem AW.clear (h : AW p q i w x s any A lf) (hp : w.heap.size = p) (hw : s.waits.length < 16) (c : Nat) (h1 : Pt p (fun z => p ≤ z ∧ z ≠ q) (s.clear c) y) (h2 : Kq (fun z => p ≤ z ∧ z ≠ q) x y) : AW p q i w y (s.clear c) any A lf ∧ (s.clear c).waits.length = s.waits.length + (if s.there c then 1 else 0) := by
  have hb := h2.below h.below (h.sz hp) (fun _ hz => hz.1)
  have hq := Bc.kq h.blk h2 (fun e => e.2 rfl)
  have hl := Nat.le_trans (Te.clear_len s c) h.len
  cases hc : s.there c with
  | false =>
    have e : s.clear c = s := by unfold Te.clear; rw [hc]; rfl
    rw [e] at h1 hl ⊢
    exact ⟨⟨h1, hb, hq, h.asz, h.al, h.ih, h.qu, h.fit, hl, h.codes, h.lo, h.lw, h.pq⟩, rfl⟩
  | true =>
    have e : s.clear c = s.cl (fi s.now c) := by unfold Te.clear; rw [hc]; rfl
    have hf := h.fit.clear c
    rw [e] at h1 hl hf ⊢
    generalize fi s.now c = j at *
    obtain ⟨p1, p2, p3⟩ := push_last s.waits (tl (hd (s.now.eraseIdx j)) (hd_lt _) (s.now.eraseIdx j) 0 0 0 0 0) hw
    have hco : ∀ y ∈ s.now.eraseIdx j, 256 ≤ y.c := fun y hy => h.codes y (List.mem_of_mem_eraseIdx hy)
    refine ⟨⟨h1, hb, hq, h.asz, h.al, h.ih, h.qu, hf, hl, hco, fun e2 => absurd e2 p3, fun f hf => ?_, h.pq⟩, p2⟩
    have : f = tl (hd (s.now.eraseIdx j)) (hd_lt _) (s.now.eraseIdx j) 0 0 0 0 0 := by
      have h9 : (push s.waits (tl (hd (s.now.eraseIdx j)) (hd_lt _) (s.now.eraseIdx j) 0 0 0 0 0)).getLast? = some f := hf
      rw [p1] at h9
      injection h9 with h9
      exact h9.symm
    rw [this]
    exact ⟨hd_zero _ hco, rfl⟩
theorem AW.may (h : AW p q i w x s any A lf) : s.may = decide (0 < s.waits.length) := by
  unfold Te.may
  rw [h.qu]
  simp
theorem AW.frame (h : AW p q i w x s any A lf) (hp : w.heap.size = p) {f : Tr} {r : List Tr} (hfr : s.waits = f :: r) (h1 : Pt p (fun z => p ≤ z ∧ z ≠ q) s.out y) (h2 : Kq (fun z => p ≤ z ∧ z ≠ q) x y) : AW p q i w (y.setRow q f.far) s.out true f.far f := by
  have hb := h2.below h.below (h.sz hp) (fun _ hz => hz.1)
  have hq := Bc.kq h.blk h2 (fun e => e.2 rfl)
  have ho : s.out.waits = r := by unfold Te.out; rw [hfr]; rfl
  have hpt : Pt p (fun z => p ≤ z ∧ z ≠ q) s.out (y.setRow q f.far) := h1.kq (Q := fun k => k = q) ((Kq.refl (fun k => k = q) y).row q rfl f.far) (fun k hk _ e => hk.2 e)
  refine ⟨hpt, ?_, hq.row _, rfl, fun _ => rfl, h.ih, h.ih, h.fit, h.len, h.codes, fun e _ => ?_, fun g hg => ?_, h.pq⟩
  · exact below_row hb h.pq f.far
  · rw [ho] at e
    exact h.lw f (by rw [hfr, e]; rfl)
  · rw [ho] at hg
    refine h.lw g ?_
    rw [hfr, List.getLast?_cons]
    cases r with
    | nil => simp at hg
    | cons a b => rw [hg]; rfl
theorem AW.same (h : AW p q i w x s any A lf) (hp : w.heap.size = p) (h2 : Below x.heap.size x y) : AW p q i w y s any A lf :=
  ⟨h.pt.below h2, h.below.trans (h2.mono (h.sz hp)), h.blk.below h2, h.asz, h.al, h.ih, h.qu, h.fit, h.len, h.codes, h.lo, h.lw, h.pq⟩
end
theorem field_c (W : World) (c r x0 x1 x2 x3 x4 : Int) : (Instr.field 37 (.agg #[.int .u16 c, .int .u8 r, .int .u8 x0, .int .u8 x1, .int .u8 x2, .int .u8 x3, .int .u8 x4]) 0).run Try.prog W = .ok (.int .u16 c) W := by
  have h := partU16 #[.int .u16 c, .int .u8 r, .int .u8 x0, .int .u8 x1, .int .u8 x2, .int .u8 x3, .int .u8 x4] 0 (.int .u16 c) rfl W
  simp [Instr.field, run_underlying Try.underlying37, asAgg, h]
theorem field_r (W : World) (c r x0 x1 x2 x3 x4 : Int) : (Instr.field 37 (.agg #[.int .u16 c, .int .u8 r, .int .u8 x0, .int .u8 x1, .int .u8 x2, .int .u8 x3, .int .u8 x4]) 1).run Try.prog W = .ok (.int .u8 r) W := by
  have h := partU8 #[.int .u16 c, .int .u8 r, .int .u8 x0, .int .u8 x1, .int .u8 x2, .int .u8 x3, .int .u8 x4] 1 (.int .u8 r) rfl W
  simp [Instr.field, run_underlying Try.underlying37, asAgg, h]
set_option maxHeartbeats 4000000 in
theorem eall_walk (v : Value) (l : List Tr) (v2 : Value) (gs : List UInt8) (hl : l.length ≤ 17592186043904) (hgs : gs.length ≤ 140737488351232) (w : World) (hB : Wide 7 Tr.cs w v l) (hG : Bytes w v2 gs) :
    Calls Try.prog 4 #[v, v2] w fun r w' => r = .returned (.bool true) ∧ Below w.heap.size w w' := by
  obtain ⟨ao, cap, rfl, _, hc⟩ := hB
  obtain ⟨ag, cg, rfl, _, hcg⟩ := hG
  obtain ⟨p, hp⟩ : ∃ p, w.heap.size = p := ⟨_, rfl⟩
  have HC : Hid (∀ (wr : World), Below p w wr → ∀ k (hk : k < l.length), ∃ b off, ao = some ⟨b, off, none⟩ ∧ b < p ∧ wr.rangeAt b (off + k * 7) (Tr.cs l[k])) := fun wr hb k hk => by rw [← hp] at hb ⊢; exact Wide.at hc hb k hk
  obtain ⟨gl, hgl⟩ : ∃ m, gs.length = m := ⟨_, rfl⟩
  have HG : Hid (∀ (wr : World), Below p w wr → ∀ k (hk : k < gl), ∃ b off, ag = some ⟨b, off, none⟩ ∧ b < p ∧ wr.cell? ⟨b, off + k, none⟩ = some (.int .u8 (gs.getD k 0).toNat)) := fun wr hb k hk => by
    rw [← hp] at hb ⊢
    have hk2 : k < gs.length := by omega
    have := Bytes.at (cap := cg) hcg hb k hk2
    rw [List.getD_eq_getElem?_getD, List.getElem?_eq_getElem hk2]
    exact this
  rw [hgl] at hgs ⊢
  clear hgl hc hcg
  have hN : Calls Try.prog 7 #[.int .i64 254, .int .u64 0] w fun e w' => e = .returned (.tuple #[.pointer (some ⟨p, 0, none⟩), .int .i64 0]) ∧ Pt p (fun z => p ≤ z) ⟨254, 0, [], [], [], 0⟩ w' ∧ Below p w w' := by
    rw [← hp]
    exact newP 254 0 (by decide) (by decide) (by decide) w _ (Nat.le_refl _)
  rw [hp]
  go_enter Try.func4, Try.ntmps4
  go_upto_region 4 with (go_at_call 7; refine hN.mono ?_; rintro e w1 ⟨rfl, t1, b1⟩)
  obtain ⟨q, hq⟩ : ∃ q, w1.heap.size = q := ⟨_, rfl⟩
  obtain ⟨w2, hw2⟩ : ∃ y, w1.alloc (.cells #[.int .u8 0, .int .u8 0, .int .u8 0, .int .u8 0, .int .u8 0, .int .u8 0, .int .u8 0, .int .u8 0] 42) = y := ⟨_, rfl⟩
  have HI0 : Hid (AW p q 0 w w2 ⟨254, 0, [], [], [], 0⟩ false z8 tL) := by
    have bb : Below w1.heap.size w1 w2 := by rw [← hw2]; exact (Below.refl _ _).alloc (Nat.le_refl _) _
    have hpw := b1.size
    refine ⟨(t1.wide (fun k hk hP => ⟨hP, by omega⟩)).below bb, b1.trans (bb.mono (by omega)), ?_, rfl, fun e => by simp at e, rfl, rfl, Nat.zero_le _, Nat.zero_le _, fun y hy => by simp at hy, fun _ e => by simp at e, fun f hf => by simp at hf, by omega⟩
    rw [← hw2, ← hq]
    exact heap_alloc_new w1 _
  have HW2 := hidOf2 hw2
  clear t1 b1 hN hw2
  go_upto_region 5 with fail
  change Code.wp Try.prog _ _ _ (w1.alloc (.cells #[.int .u8 0, .int .u8 0, .int .u8 0, .int .u8 0, .int .u8 0, .int .u8 0, .int .u8 0, .int .u8 0] 42))
  rw [HW2.out]
  clear HW2 hq
  go_wp2_with fail
  go_loopw [8, 9] (fun s8 s9 x => ∃ i s any A lf, i ≤ l.length ∧ s9 = .int .i64 (i : Nat) ∧ s8 = .bool any ∧ s.waits = [] ∧ AW p q i w x s any A lf) (fun _ s9 _ => l.length - (intOf s9).toNat)
  case atStart => exact ⟨0, _, false, z8, tL, by omega, rfl, rfl, rfl, HI0.out⟩
  case round =>
    clear HI0
    obtain ⟨i, s, any, A, lf, hi2, rfl, rfl, hw0, hQ⟩ := hrel
    have hB5 := hQ.below
    have hsz := hQ.sz hp
    by_cases hil : i < l.length
    · have hd : decide ((i : Int) < (l.length : Int)) = true := by simp; omega
      obtain ⟨b, off, rfl, hb, hR⟩ := HC.out wr hB5 i hil
      have hl9 := hQ.len
      have hRa := raiseP hQ.pt (hQ.room hp) (by omega) hQ.fit l[i]
      generalize l[i] = t at *
      go_upto_if 38 with (first | (refine Tr.ld hR rfl _ rfl rfl ?_) | (go_at_call 9; refine hRa.mono ?_; rintro e w3 ⟨rfl, t3, k3⟩))
      obtain ⟨Q3, hl3⟩ := hQ.raise hp (by rw [hw0]; decide) t t3 k3
      rw [hw0] at hl3
      generalize s.raise t = s3 at *
      clear hR hRa t3 k3 hB5 hsz hQ hw0 hl9
      obtain ⟨n1, hn1⟩ : ∃ n1, s3.waits.length = n1 := ⟨_, rfl⟩
      have hn1b : n1 ≤ 1 := by rw [← hn1, hl3]; cases s.can t <;> simp
      go_cut [10] (fun s10 x => s10 = .int .i64 (n1 : Int) ∧ x = w3)
      case first =>
        cases hcan : s.can t with
        | false =>
          have : n1 = 0 := by rw [← hn1, hl3, hcan]; rfl
          subst this
          go_wp2
          all_goals
            go_meet
            case rel => exact ⟨rfl, rfl⟩
        | true =>
          have : n1 = 1 := by rw [← hn1, hl3, hcan]; rfl
          subst this
          go_wp2
          all_goals
            go_meet
            case rel => exact ⟨rfl, rfl⟩
      case rest =>
      obtain ⟨rfl, hwc⟩ := hcut
      rw [← hwc] at Q3
      clear hwc
      have hB3 := Q3.below
      have HQ3 := hidOf2 Q3
      go_upto_region 11 with fail
      go_cut [74] (fun s74 x => ∃ (bb : Bool) (s4 : Te), s74 = .bool bb ∧ AW p q (i + 1) w x s4 any A lf ∧ s4.waits.length = n1 + (if bb then 1 else 0))
      case first =>
        by_cases hg0 : 0 < gl
        · have d1 : decide ((0 : Int) < (gl : Int)) = true := decide_eq_true (by omega)
          have d1' : decide (0 < gl) = true := decide_eq_true hg0
          have hil2 : i % gl < gl := Nat.mod_lt _ hg0
          obtain ⟨b9, o9, rfl, _, hg⟩ := HG.out wc hB3 (i % gl) hil2
          have hmd : (i : Int) % (gl : Int) = ((i % gl : Nat) : Int) := by first | exact (Int.natCast_emod i gl).symm | exact (Int.ofNat_emod i gl).symm | simp
          have hmd2 : (i : Int).tmod (gl : Int) = ((i % gl : Nat) : Int) := by rw [Int.tmod_eq_emod_of_nonneg (by omega)]; exact hmd
          have hlt1 : ((i % gl : Nat) : Int) < (gl : Int) := by omega
          have hne : ¬ ((gl : Int) = 0) := by omega
          generalize i % gl = im at *
          have hgb := (gs.getD im 0).toNat_lt
          generalize (gs.getD im 0).toNat = gv at *
          by_cases hev : gv % 2 = 0
          · have hev1 : ((gv : Int) % 2 == 0) = true := by rw [beq_iff_eq]; omega
            have hdv : (gv : Int) / 2 = ((gv / 2 : Nat) : Int) := by omega
            have hjl : gv / 2 % l.length < l.length := Nat.mod_lt _ (by omega)
            have hmj : ((gv / 2 : Nat) : Int) % (l.length : Int) = ((gv / 2 % l.length : Nat) : Int) := by first | exact (Int.natCast_emod (gv / 2) l.length).symm | exact (Int.ofNat_emod (gv / 2) l.length).symm | simp
            have hmj2 : ((gv / 2 : Nat) : Int).tmod (l.length : Int) = ((gv / 2 % l.length : Nat) : Int) := by rw [Int.tmod_eq_emod_of_nonneg (by omega)]; exact hmj
            obtain ⟨b8, o8, e8, _, hRj⟩ := HC.out wc hB3 (gv / 2 % l.length) (by omega)
            injection e8 with e8
            injection e8 with e81 e82
            subst e81 e82
            have hcell := hRj 0 (.int .u16 (l[gv / 2 % l.length]'(by omega)).c) rfl
            rw [Nat.add_zero] at hcell
            have hC := clearP Q3.pt (Q3.room hp) (by have := Q3.len; omega) (l[gv / 2 % l.length]'(by omega)).c
            have hw16 : s3.waits.length < 16 := by omega
            have HX := hidOf2 (fun (y : World) (h1 : Pt p (fun z => p ≤ z ∧ z ≠ q) (s3.clear (l[gv / 2 % l.length]'(by omega)).c) y) (h2 : Kq (fun z => p ≤ z ∧ z ≠ q) wc y) => HQ3.out.clear (y := y) hp hw16 (l[gv / 2 % l.length]'(by omega)).c h1 h2)
            rw [hn1] at HX
            have hlt2 : ((gv / 2 % l.length : Nat) : Int) < (l.length : Int) := by omega
            have hne2 : ¬ ((l.length : Int) = 0) := by omega
            clear hRj
            generalize (l[gv / 2 % l.length]'(by omega)).c = cc at *
            generalize gv / 2 % l.length = jj at *
            generalize gv / 2 = hv at *
            clear hev HQ3 Q3 HC HG hgs
            go_wp2_with (go_at_call 11; refine hC.mono ?_; rintro e w5 ⟨rfl, t5, k5⟩; have X5 := HX.out w5 t5 k5)
            all_goals
              go_meet
              case rel => exact ⟨s3.there cc, _, rfl, X5.1, X5.2⟩
          · have hev1 : ((gv : Int) % 2 == 0) = false := by rw [beq_eq_false_iff_ne]; omega
            clear hev
            go_wp2
            all_goals
              go_meet
              case rel => exact ⟨false, s3, rfl, HQ3.out, by simpa using hn1⟩
        · obtain rfl : gl = 0 := by omega
          clear hg0
          go_wp2
          all_goals
            go_meet
            case rel => exact ⟨false, s3, rfl, HQ3.out, by simpa using hn1⟩
      case rest =>
      obtain ⟨bb, s4, rfl, Q4, hl4⟩ := hcut
      go_upto_if 74 with fail
      obtain ⟨n2, hn2⟩ : ∃ n2, s4.waits.length = n2 := ⟨_, rfl⟩
      have hn2b : n2 ≤ 2 := by rw [← hn2, hl4]; cases bb <;> simp <;> omega
      obtain ⟨w5, hw5⟩ : ∃ y, y = wc := ⟨_, rfl⟩
      have Q5 : AW p q (i + 1) w w5 s4 any A lf := by rw [hw5]; exact Q4
      go_cut [10] (fun s10 x => s10 = .int .i64 (n2 : Int) ∧ x = w5)
      case first =>
        cases bb with
        | false =>
          have : n2 = n1 := by rw [← hn2, hl4]; rfl
          subst this
          go_wp2
          go_meet
          case rel => exact ⟨rfl, hw5.symm⟩
        | true =>
          have : n2 = n1 + 1 := by rw [← hn2, hl4]; rfl
          subst this
          go_wp2
          go_meet
          case rel => exact ⟨by first | rfl | simp, hw5.symm⟩
      case rest =>
      obtain ⟨rfl, hwc⟩ := hcut
      rw [← hwc] at Q5
      have HQ5 := hidOf2 Q5
      clear Q4 Q5 hwc hw5 hl4 HQ3 hB3 hn1b hd
      go_wp2_with fail
      go_loopw [8, 11] (fun s8 s11 x => ∃ k s any A lf, s11 = .int .i64 (k : Nat) ∧ s8 = .bool any ∧ k + s.waits.length = n2 ∧ AW p q (i + 1) w x s any A lf) (fun _ s11 _ => n2 - (intOf s11).toNat)
      case atStart => exact ⟨0, s4, any, A, lf, rfl, rfl, by omega, HQ5.out⟩
      case round =>
        clear HQ5 hn2
        obtain ⟨k, s5, any5, A5, lf5, rfl, rfl, hk5, hQ5⟩ := hrel
        have hsz5 := hQ5.sz hp
        have hmay := hQ5.may
        by_cases hkn : k < n2
        · have hd3 : decide ((k : Int) < (n2 : Int)) = true := by simp; omega
          rw [decide_eq_true (by omega)] at hmay
          obtain ⟨f, r, hfr, hF⟩ := frameYes hQ5.pt (hQ5.room hp) hmay
          have HQ5 := hidOf2 hQ5
          have hfl : s5.waits.length = r.length + 1 := by rw [hfr]; rfl
          clear hmay hQ5
          go_upto_region 17 with (go_at_call 15; refine hF.mono ?_; rintro e w6 ⟨rfl, t6, k6⟩)
          obtain ⟨q6, hq6⟩ : ∃ q, w6.heap.size = q := ⟨_, rfl⟩
          obtain ⟨w7, hw7⟩ : ∃ y, w6.alloc (.cells #[.int .u8 ((f.c : Int) % 256), .int .u8 ((f.c : Int) / 256), .int .u8 f.r, .int .u8 f.x0, .int .u8 f.x1, .int .u8 f.x2, .int .u8 f.x3, .int .u8 f.x4] 42) = y := ⟨_, rfl⟩
          have b7 : Below w6.heap.size w6 w7 := by rw [← hw7]; exact (Below.refl _ _).alloc (Nat.le_refl _) _
          have B7 : Bc 42 q6 f.far w7 := by rw [← hw7, ← hq6]; exact heap_alloc_new w6 _
          have K7 : Kq (fun z => p ≤ z ∧ z ≠ q) wr w7 := k6.trans (Kq.of_below b7)
          have P7 : Pt p (fun z => p ≤ z ∧ z ≠ q) s5.out w7 := t6.below b7
          have Q8 := HQ5.out.frame hp hfr P7 K7
          have C7 := Bc.kq HQ5.out.blk K7 (fun e => e.2 rfl)
          have hA5 := HQ5.out.asz
          have hone := f.far_one
          have hl7 := B7.ld8 rfl
          have hwl : s5.out.waits.length = r.length := by unfold Te.out; rw [hfr]; rfl
          rw [hw7, hq6]
          clear hw7 hF t6 k6 b7 K7 P7 HQ5 hfr
          go_wp2_with (first | (refine ldG hl7 rfl _ rfl rfl ?_) | (refine C7.st8 hA5 (B := f.far) rfl hone rfl _ _ rfl rfl rfl ?_))
          go_roundw
          case measure => simp [intOf]; omega
          case rel => exact ⟨k + 1, s5.out, true, f.far, f, rfl, rfl, by omega, Q8⟩
        · have hd3 : decide ((k : Int) < (n2 : Int)) = false := by simp; omega
          rw [decide_eq_false (by omega)] at hmay
          have hF := frameNo hQ5.pt hmay
          have hw0 : s5.waits = [] := List.length_eq_zero_iff.1 (by omega)
          have HQ5 := hidOf2 hQ5
          clear hmay hk5 hQ5
          go_upto_region 21 with (go_at_call 15; refine hF.mono ?_; rintro e w6 ⟨rfl, b6⟩)
          obtain ⟨w7, hw7⟩ : ∃ y, w6.alloc (.cells #[.int .u8 0, .int .u8 0, .int .u8 0, .int .u8 0, .int .u8 0, .int .u8 0, .int .u8 0, .int .u8 0] 42) = y := ⟨_, rfl⟩
          have b7 : Below wr.heap.size wr w7 := by rw [← hw7]; exact b6.alloc b6.size _
          have Q7 := HQ5.out.same hp b7
          rw [hw7]
          clear hw7 b6 hF
          go_wp2
          go_roundw
          case measure => simp [intOf]; omega
          case rel => exact ⟨i + 1, s5, any5, A5, lf5, by omega, rfl, rfl, hw0, Q7⟩
    · obtain rfl : i = l.length := by omega
      have hd : decide ((l.length : Int) < (l.length : Int)) = false := by simp
      cases any with
      | false =>
        clear hQ HC HG
        go_wp2_with (go_at_call 8; refine (lives_any _).mono ?_; rintro e w6 ⟨rfl, b6⟩)
        go_ret
        exact ⟨rfl, hB5.trans (b6.mono hsz)⟩
      | true =>
        obtain ⟨lo1, lo2⟩ := hQ.lo hw0 rfl
        have hA := hQ.al rfl
        have F0 := hQ.blk
        rw [hA] at F0
        have HC4 : Hid (∀ x, Below wr.heap.size wr x → x.cell? ⟨q, 0, none⟩ = some (.int .u8 ((lf.c : Int) % 256)) ∧ x.cell? ⟨q, 1, none⟩ = some (.int .u8 ((lf.c : Int) / 256)) ∧ x.cell? ⟨q, 2, none⟩ = some (.int .u8 lf.r) ∧ x.cell? ⟨q, 3, none⟩ = some (.int .u8 lf.x0) ∧ x.cell? ⟨q, 4, none⟩ = some (.int .u8 lf.x1) ∧ x.cell? ⟨q, 5, none⟩ = some (.int .u8 lf.x2) ∧ x.cell? ⟨q, 6, none⟩ = some (.int .u8 lf.x3) ∧ x.cell? ⟨q, 7, none⟩ = some (.int .u8 lf.x4)) := fun x hx => ⟨(F0.below hx).cell 0, (F0.below hx).cell 1, (F0.below hx).cell 2, (F0.below hx).cell 3, (F0.below hx).cell 4, (F0.below hx).cell 5, (F0.below hx).cell 6, (F0.below hx).cell 7⟩
        obtain ⟨d0, d1, d2, d3, d4, d5, d6, d7⟩ := HC4.out wr (Below.refl _ _)
        have HRd : Hid (∀ x, Calls Try.prog 23 #[.agg #[.int .u8 ((lf.c : Int) % 256), .int .u8 ((lf.c : Int) / 256), .int .u8 lf.r, .int .u8 lf.x0, .int .u8 lf.x1, .int .u8 lf.x2, .int .u8 lf.x3, .int .u8 lf.x4]] x fun e w' => e = .returned (.agg #[.int .u16 lf.c, .int .u8 lf.r, .int .u8 lf.x0, .int .u8 lf.x1, .int .u8 lf.x2, .int .u8 lf.x3, .int .u8 lf.x4]) ∧ Below x.heap.size x w') := fun x => read_any lf x
        have HNo : Hid (∀ x, Below wr.heap.size wr x → Calls Try.prog 22 #[.pointer (some ⟨p, 0, none⟩)] x fun e w' => ∃ ao c, e = .returned (.slice ao s.now.length c) ∧ Below x.heap.size x w') := fun x hx => (nowP (hQ.pt.below hx) (by have := hQ.len; omega)).mono fun e w' ⟨a, c, h1, _, h3⟩ => ⟨a, c, h1, h3⟩
        have HRe : Hid (∀ x, Below wr.heap.size wr x → Calls Try.prog 18 #[.pointer (some ⟨p, 0, none⟩)] x fun e w' => e = .returned (.int .u8 (lf.r : Int)) ∧ Below x.heap.size x w') := fun x hx => by rw [lo2]; exact regP (hQ.pt.below hx) (by have := hQ.len; omega)
        obtain ⟨nl, hnl⟩ : ∃ n, s.now.length = n := ⟨_, rfl⟩
        rw [hnl] at HNo
        have hz : (lf.c = 0 ↔ nl = 0) := by rw [lo1, ← hnl, List.length_eq_zero_iff]
        clear hQ HC HG lo1 lo2 hA F0 hw0 hnl
        have hfc := field_c
        have hfr9 := field_r
        generalize lf.r = lr at *
        generalize lf.c = lc at *
        by_cases hc0 : lc = 0
        · have hn0 : nl = 0 := hz.1 hc0
          have q1 : ((lc : Int) == 0) = true := by rw [beq_iff_eq]; omega
          have q2 : ((nl : Int) == 0) = true := by rw [beq_iff_eq]; omega
          clear hz hc0 hn0
          go_upto_if 107 with (first | (go_at_call 23; refine (HRd.out _).mono ?_; rintro e w5 ⟨rfl, b5⟩) | (go_at_call 22; refine (HNo.out _ b5).mono ?_; rintro e w6 ⟨a6, c6, rfl, b6⟩))
          have b56 := b5.trans (b6.mono b5.size)
          obtain ⟨e0, e1, e2, e3, e4, e5, e6, e7⟩ := HC4.out w6 b56
          go_wp2_with (first | (go_at_call 23; refine (HRd.out _).mono ?_; rintro e w7 ⟨rfl, b7⟩; have b57 := b56.trans (b7.mono b56.size)) | (go_at_call 18; refine (HRe.out _ b57).mono ?_; rintro e w8 ⟨rfl, b8⟩; have b58 := b57.trans (b8.mono b57.size)) | (go_at_call 8; refine (lives_any _).mono ?_; rintro e w9 ⟨rfl, b9⟩))
          go_ret
          exact ⟨rfl, hB5.trans ((b58.trans (b9.mono b58.size)).mono hsz)⟩
        · have hn0 : ¬ nl = 0 := fun e => hc0 (hz.2 e)
          have q1 : ((lc : Int) == 0) = false := by rw [beq_eq_false_iff_ne]; omega
          have q2 : ((nl : Int) == 0) = false := by rw [beq_eq_false_iff_ne]; omega
          clear hz hc0 hn0
          go_upto_if 107 with (first | (go_at_call 23; refine (HRd.out _).mono ?_; rintro e w5 ⟨rfl, b5⟩) | (go_at_call 22; refine (HNo.out _ b5).mono ?_; rintro e w6 ⟨a6, c6, rfl, b6⟩))
          have b56 := b5.trans (b6.mono b5.size)
          obtain ⟨e0, e1, e2, e3, e4, e5, e6, e7⟩ := HC4.out w6 b56
          go_wp2_with (first | (go_at_call 23; refine (HRd.out _).mono ?_; rintro e w7 ⟨rfl, b7⟩; have b57 := b56.trans (b7.mono b56.size)) | (go_at_call 18; refine (HRe.out _ b57).mono ?_; rintro e w8 ⟨rfl, b8⟩; have b58 := b57.trans (b8.mono b57.size)) | (go_at_call 8; refine (lives_any _).mono ?_; rintro e w9 ⟨rfl, b9⟩))
          go_ret
          exact ⟨rfl, hB5.trans ((b58.trans (b9.mono b58.size)).mono hsz)⟩
end Go.Proofs.Ytcokdcjfaankaaa
