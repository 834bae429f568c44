/- The law TopBeats returns true whatever comes in. -/
import Derived.Test.YtceomfefffngaaaBwJ
import Derived.Test.YtceomfefffngaaaNkE
namespace Go.Proofs.Ytceomfefffngaaa
open Go.RowKit
set_option linter.unusedVariables false
set_option maxRecDepth 1000000
set_option linter.unusedSimpArgs false
/-- A node of the number 9, and how far its beginnings have got. -/
structure NP (k : Nat) (N : Nk.Nd) : Prop where
  id : N.id = 9
  next : N.next = 9
  st : N.st = 0 ∨ isSt N.st = true
  b0 : 0 ≤ N.boots
  b1 : N.boots ≤ k
  t0 : 0 ≤ N.talks
  t1 : N.talks ≤ k
theorem NP.step {k : Nat} {N : Nk.Nd} (h : NP k N) : NP k N.step ∧ N.step.st ≠ 0 ∧ N.goes = decide (N.st = 0) ∧ (N.st ≠ 0 → N.step = N) := by
  have hg : N.goes = decide (N.st = 0) := by
    unfold Nk.Nd.goes
    rw [h.id]
    simp [Bool.beq_eq_decide_eq]
  unfold Nk.Nd.step
  rw [hg]
  by_cases h0 : N.st = 0
  · rw [if_pos (by simp [h0])]
    exact ⟨⟨h.id, h.next, .inr rfl, h.b0, h.b1, h.t0, h.t1⟩, by simp, rfl, fun h1 => absurd h0 h1⟩
  · rw [if_neg (by simp [h0])]
    exact ⟨h, h0, rfl, fun _ => rfl⟩
theorem NP.take {k : Nat} {N : Nk.Nd} (h : NP k N) (c : UInt8) (hc : Nk.isC c.toNat = true) : NP (k + 1) (N.take [c, 9]) := by
  obtain ⟨h1, h2, h3, h4, h5, h6, h7⟩ := h
  have e0 : N.take [c, 9] = if N.two c.toNat (9 : UInt8).toNat then N.does c.toNat else N := rfl
  rw [e0]
  split
  · have hd := Nk.isC_cases hc
    unfold Nk.Nd.does
    rcases hd with e | e | e | e | e
    all_goals
      rw [e]
      constructor <;> simp [isSt] <;> omega
  · constructor <;> first | assumption | omega
theorem NP.more {k : Nat} {N : Nk.Nd} (h : NP k N) : NP (k + 1) N := by
  obtain ⟨h1, h2, h3, h4, h5, h6, h7⟩ := h
  constructor <;> first | assumption | omega
theorem bytes_pr (w : World) (x y : UInt8) : Bytes (w.alloc (.cells #[.int .u8 x.toNat, .int .u8 y.toNat] 5)) (.slice (some ⟨w.heap.size, 0, none⟩) 2 2) [x, y] := by
  refine ⟨_, 2, rfl, (fun h => by cases h), fun k hk => ⟨w.heap.size, 0, rfl, by simp, ?_⟩⟩
  have hb := heap_alloc_new w (.cells #[.int .u8 x.toNat, .int .u8 y.toNat] 5)
  have hk2 : k < 2 := hk
  match k, hk2 with
  | 0, _ => exact Lib.cell_of_heap hb 0
  | 1, _ => exact Lib.cell_of_heap hb 1
/-- A node, a heart and a watcher of one node in one world. -/
structure TB (w : World) (p gn gh gw : Nat) (v : Value) (N : Nk.Nd) (T G : Nat) (y : Wt) (x : World) : Prop where
  n : Nk.Na gn N x
  h : Hs gh T G x
  a : Lw w p gw v [y] x
  t : G < T
structure TD (p gn gh gw : Nat) (v : Value) : Prop where
  hn : p ≤ gn
  hh : p ≤ gh
  n1 : gn ≠ gh
  n2 : gn ≠ gw
  n3 : gh ≠ gw
  v1 : v.ownBlock ≠ some gn
  v2 : v.ownBlock ≠ some gh
section
variable {w x z : World} {p gn gh gw : Nat} {v : Value} {N : Nk.Nd} {T G : Nat} {y : Wt}
theorem TB.below (h : TB w p gn gh gw v N T G y x) (t : Below x.heap.size x z) : TB w p gn gh gw v N T G y z := ⟨Bc.below h.n t, Bc.below h.h t, h.a.below t, h.t⟩
theorem TB.node (D : TD p gn gh gw v) (h : TB w p gn gh gw v N T G y x) {N' : Nk.Nd} (n : Nk.Na gn N' z) (t : Two gn gn x z) : TB w p gn gh gw v N' T G y z :=
  ⟨n, Bc.two h.h t (fun e => D.n1 e.symm) (fun e => D.n1 e.symm), h.a.grown t.gb (fun k hk => by injection hk with hk; subst hk; exact D.hn) (fun e => D.n2 (by injection e)) (fun k hk e => D.v1 (by rw [hk, ← e])), h.t⟩
theorem TB.hear (D : TD p gn gh gw v) (h : TB w p gn gh gw v N T G y x) {G' : Nat} (n : Hs gh T G' z) (t : Two gh gh x z) (ht : G' < T) : TB w p gn gh gw v N T G' y z :=
  ⟨Bc.two h.n t D.n1 D.n1, n, h.a.grown t.gb (fun k hk => by injection hk with hk; subst hk; exact D.hh) (fun e => D.n3 (by injection e)) (fun k hk e => D.v2 (by rw [hk, ← e])), ht⟩
theorem TB.wat (D : TD p gn gh gw v) (h : TB w p gn gh gw v N T G y x) {y' : Wt} (a : Lw w p gw v [y'] z) (t : x.grownBy z v.ownBlock) : TB w p gn gh gw v N T G y' z :=
  ⟨Bc.grown18 h.n t D.v1, Bc.grown18 h.h t D.v2, a, h.t⟩
theorem TB.tick (D : TD p gn gh gw v) (h : TB w p gn gh gw v N T G y x) : Calls Try.prog 17 #[.pointer (some ⟨gw, 0, none⟩)] x fun e z => (∃ r, e = .returned r) ∧ TB w p gn gh gw v N T G y.tick z := by
  refine h.a.tick.mono ?_
  rintro e z ⟨ao, cap, rfl, _, L, Gr⟩
  rw [(one_tick y).1] at L
  exact ⟨⟨_, rfl⟩, h.wat D L Gr⟩
theorem TB.take (D : TD p gn gh gw v) (h : TB w p gn gh gw v N T G y x) (hy : y.nd = 9) (c : UInt8) (hc : isB c.toNat = true) (bv : Value) (hB : Bytes x bv [c]) : Calls Try.prog 15 #[.pointer (some ⟨gw, 0, none⟩), .int .i64 9, bv] x fun e z => (∃ a b, e = .returned (.tuple #[a, b])) ∧ TB w p gn gh gw v N T G (y.beat c.toNat) z := by
  refine (h.a.take 9 bv [c] hB).mono ?_
  rintro e z ⟨ao, cap, rfl, _, L, Gr⟩
  rw [← hy, (one_take y c hc).2.1] at L
  exact ⟨⟨_, _, rfl⟩, h.wat D L Gr⟩
end
theorem cmd_table (r : Nat) (h : r < 8) : ∃ c : UInt8, (#[.int .i64 1, .int .i64 2, .int .i64 128, .int .i64 129, .int .i64 130, .int .i64 0, .int .i64 0, .int .i64 0] : Array Value)[r]? = some (.int .i64 (c.toNat : Nat)) ∧ (c = 0 ∨ (c ≠ 0 ∧ Nk.isC c.toNat = true)) := by
  match r, h with
  | 0, _ => exact ⟨1, rfl, .inr ⟨by decide, rfl⟩⟩
  | 1, _ => exact ⟨2, rfl, .inr ⟨by decide, rfl⟩⟩
  | 2, _ => exact ⟨128, rfl, .inr ⟨by decide, rfl⟩⟩
  | 3, _ => exact ⟨129, rfl, .inr ⟨by decide, rfl⟩⟩
  | 4, _ => exact ⟨130, rfl, .inr ⟨by decide, rfl⟩⟩
  | 5, _ => exact ⟨0, rfl, .inl rfl⟩
  | 6, _ => exact ⟨0, rfl, .inl rfl⟩
  | 7, _ => exact ⟨0, rfl, .inl rfl⟩
theorem beat_at (y : Wt) (hy : y.nd = 9) (ht : y.tk = 20) (c : UInt8) (hc : c.toNat ≠ 0) : y.beat c.toNat = ⟨9, 20, 1, (c.toNat : Nat), 0⟩ := by
  unfold Wt.beat
  rw [if_neg hc, hy, ht]
theorem tick_at (la : Int) (G : Nat) (h : G + 1 < 20) : (⟨9, 20, 1, la, G⟩ : Wt).tick = ⟨9, 20, 1, la, G + 1⟩ := by
  unfold Wt.tick
  rw [if_pos rfl, if_neg (by simp; omega)]
theorem st_u8 {s : Int} (h : isSt s = true) : ∃ c : UInt8, s = (c.toNat : Nat) ∧ c.toNat ≠ 0 ∧ isB c.toNat = true := by
  simp [isSt, or_assoc] at h
  rcases h with rfl | rfl | rfl
  · exact ⟨4, rfl, by decide, rfl⟩
  · exact ⟨5, rfl, by decide, rfl⟩
  · exact ⟨127, rfl, by decide, rfl⟩
theorem state_at (la : Int) (G : Nat) : stW [⟨9, 20, 1, la, G⟩] 9 = la ∧ isW [⟨9, 20, 1, la, G⟩] 9 = true := by
  have h := fw_one ⟨9, 20, 1, la, G⟩
  unfold stW isW
  refine ⟨?_, ?_⟩
  · rw [dif_pos (by rw [show fw [⟨9, 20, 1, la, G⟩] 9 = 0 from h]; simp)]
    simp [show fw [⟨9, 20, 1, la, G⟩] 9 = 0 from h]
  · rw [dif_pos (by rw [show fw [⟨9, 20, 1, la, G⟩] 9 = 0 from h]; simp)]
    simp [show fw [⟨9, 20, 1, la, G⟩] 9 = 0 from h]
set_option maxHeartbeats 16000000 in
theorem tbts_walk (v : Value) (l : List UInt8) (hl : l.length ≤ 140737488351232) (ea : Nat) (hea : ea < 256) (w : World) (hB : Bytes w v l) :
    Calls Try.prog 8 #[v, .int .u8 ea] w fun e w' => e = .returned (.bool true) ∧ Below w.heap.size w w' := by
  obtain ⟨ao, cap, rfl, _, hc⟩ := hB
  have HC : Hid (∀ (wr : World), Below w.heap.size w wr → ∀ k (hk : k < l.length), ∃ b off, ao = some ⟨b, off, none⟩ ∧ b < w.heap.size ∧ wr.cell? ⟨b, off + k, none⟩ = some (.int .u8 l[k].toNat)) := fun wr hb k hk => Bytes.at (cap := cap) hc hb k hk
  have hN := Nk.new_ok w 9 rfl
  obtain ⟨p, hp⟩ : ∃ p, w.heap.size = p := ⟨_, rfl⟩
  obtain ⟨r5, hr5⟩ : ∃ r : Nat, ea % 5 = r := ⟨_, rfl⟩
  have hr5b : r5 < 5 := by omega
  have hrem : (ea : Int).tmod 5 = (r5 : Int) := by rw [← hr5]; rfl
  obtain ⟨T, hT⟩ : ∃ T : Nat, 1 + (r5 : Int) = (T : Int) := ⟨1 + r5, by omega⟩
  have hT1 : 1 ≤ T := by omega
  have hT5 : T ≤ 5 := by omega
  have hwT : IntKind.u64.wrap (1 + (r5 : Int)) = (T : Int) := by rw [hT]; simp [IntKind.wrap, IntKind.bits, IntKind.signed]; omega
  obtain ⟨L, hL⟩ : ∃ L, l.length = L := ⟨_, rfl⟩
  have HLn := hidOf2 hL
  rw [hp] at hN HC ⊢
  rw [hL] at hl ⊢
  clear hc hL hr5
  go_enter Try.func8, Try.ntmps8
  go_upto_region 2 with (go_at_call 22; with_reducible refine hN.mono ?_; rintro e w1 ⟨rfl, N1, b1⟩)
  have hH := hnew_ok (w := w1) T (by omega)
  have l1 := Bc.lt N1
  clear hN
  go_upto_region 3 with (go_at_call 9; refine hH.mono ?_; rintro e w2 ⟨rfl, H2, b2⟩)
  have l2 := Bc.lt H2
  have N2 : Nk.Na p ⟨9, 9, 0, 0, 0⟩ w2 := Bc.below N1 b2
  have B2 : Below p w w2 := below_low b1 b2 (by omega)
  obtain ⟨gh, hgh⟩ : ∃ g, w1.heap.size = g := ⟨_, rfl⟩
  rw [hgh] at H2 l2 l1 ⊢
  obtain ⟨X1, hX1⟩ : ∃ X, w2.alloc (.cells #[.int .i64 9, .int .u64 20] 59) = X := ⟨_, rfl⟩
  have bX1 : Below w2.heap.size w2 X1 := by rw [← hX1]; exact (Below.refl _ _).alloc (Nat.le_refl _) _
  have hx := bX1.size
  have hW := Lw.one 9 20 (by decide) (by decide) (by decide) (by decide) w X1 p (below_low B2 bX1 (by omega)) (by omega) _ (by rw [← hX1]; exact wide_q w2 ⟨9, 20⟩)
  have N3 : Nk.Na p ⟨9, 9, 0, 0, 0⟩ X1 := Bc.below N2 bX1
  have H3 : Hs gh T 0 X1 := Bc.below H2 bX1
  have HS := hidOf2 (And.intro l1 (And.intro l2 hx))
  clear hH N1 b1 b2 N2 H2 B2 bX1 l1 l2 hx
  go_upto_region 4 with (go_at_call 13; with_reducible refine hW.mono ?_; rintro e w3 ⟨v3, rfl, W3, hv3, b3⟩)
  have D : TD p p gh X1.heap.size v3 := by
    obtain ⟨l1, l2, hx⟩ := HS.out
    exact ⟨Nat.le_refl _, by omega, by omega, by omega, by omega, fun e => by have := hv3 _ e; omega, fun e => by have := hv3 _ e; omega⟩
  have I0 : TB w p p gh X1.heap.size v3 ⟨9, 9, 0, 0, 0⟩ T 0 ⟨9, 20, 0, 0, 0⟩ w3 := ⟨Bc.below N3 b3, Bc.below H3 b3, W3, by omega⟩
  obtain ⟨gw, hgw⟩ : ∃ g, X1.heap.size = g := ⟨_, rfl⟩
  rw [hgw] at D I0 ⊢
  have HI := hidOf2 I0
  have HD := hidOf2 D
  clear hW W3 hv3 b3 D I0 N3 H3 HS hX1 hgw hgh hwT hrem hT
  go_wp2_with fail
  go_loopw [11, 12, 13] (fun s11 s12 s13 x => ∃ (k : Nat) (N : Nk.Nd) (G : Nat) (y : Wt) (la : Int) (an : Bool), k ≤ L ∧ s13 = .int .i64 (k : Nat) ∧ s11 = .int .i64 la ∧ s12 = .bool an ∧ NP (2 * k) N ∧ TB w p p gh gw v3 N T G y x ∧ y.nd = 9 ∧ y.tk = 20 ∧ (an = true → N.st ≠ 0 → y = ⟨9, 20, 1, la, G⟩)) (fun _ _ s13 _ => L - (intOf s13).toNat)
  case atStart => exact ⟨0, _, 0, _, 0, false, by omega, rfl, rfl, rfl, ⟨rfl, rfl, .inl rfl, by simp, by simp, by simp, by simp⟩, HI.out, rfl, rfl, fun h => by cases h⟩
  case round =>
    clear HI
    obtain ⟨k, N, G, y, la, an, hk, rfl, rfl, rfl, hP, hJ, hy9, hy20, hA⟩ := hrel
    have D := HD.out
    by_cases hkl : k < L
    · have hd : decide ((k : Int) < (L : Int)) = true := by simp; omega
      have hkL : k < l.length := by rw [HLn.out]; exact hkl
      obtain ⟨b, off, rfl, hb, _⟩ := HC.out wr hJ.a.bl k hkL
      have HZ : Hid (∀ z, Below p w z → z.cell? ⟨b, off + k, none⟩ = some (.int .u8 l[k].toNat)) := fun z hz => by
        obtain ⟨b', off', e, _, h9⟩ := HC.out z hz k hkL
        injection e with e; injection e with e1 e2; subst e1; subst e2
        exact h9
      obtain ⟨Z, hZ⟩ : ∃ Z, l[k].toNat = Z := ⟨_, rfl⟩
      have hZ2 : Z < 256 := by rw [← hZ]; exact UInt8.toNat_lt _
      rw [hZ] at HZ
      obtain ⟨r, hr⟩ : ∃ r : Nat, Z % 8 = r := ⟨_, rfl⟩
      have hr8 : r < 8 := by omega
      have hrm : (Z : Int).tmod 8 = (r : Int) := by rw [← hr]; rfl
      obtain ⟨c, hct, hc0⟩ := cmd_table r hr8
      have hSt := Nk.step_any hJ.n
      obtain ⟨hP1, hne1, hg1, hs1⟩ := hP.step
      have HP1 := hidOf2 hP1
      have HNE := hidOf2 hne1
      clear hZ hr
      unfold Nk.StA at hSt
      rw [hg1] at hSt
      by_cases h0 : N.st = 0
      · rw [decide_eq_true h0] at hSt
        simp only [if_true] at hSt
        have hSt2 : Calls Try.prog 23 #[.pointer (some ⟨p, 0, none⟩)] wr fun e z => ∃ q, e = .returned (.tuple #[.slice (some ⟨q, 0, none⟩) 1 1, .bool true]) ∧ (q < z.heap.size ∧ z.cell? ⟨q, 0, none⟩ = some (.int .u8 0)) ∧ TB w p p gh gw v3 N.step T G y z := by
          refine hSt.mono ?_
          rintro e z ⟨rr, rfl, hr9, a1, a2⟩
          obtain ⟨q, rfl, _, h2, h3⟩ := hr9
          exact ⟨q, rfl, ⟨h2, h3⟩, hJ.node D a1 a2⟩
        obtain ⟨N3, hN3⟩ : ∃ N3, N.step = N3 := ⟨_, rfl⟩
        rw [hN3] at hSt2 HP1 HNE
        clear hSt hJ hP hP1 hne1 hg1 hs1 h0 hA hN3
        go_upto_region 12 with (go_at_call 23; with_reducible refine hSt2.mono ?_; rintro e z1 ⟨q, rfl, hq, J1⟩)
        have hTa := J1.take D hy9 0 (by decide) (.slice (some ⟨q, 0, none⟩) 1 1) (bytes1 hq.1 hq.2)
        clear hSt2 hq J1
        go_upto_region 14 with (go_at_call 15; with_reducible refine hTa.mono ?_; rintro e z2 ⟨⟨ra, rb, rfl⟩, J2⟩)
        have HTB1 := hidOf2 J2
        have hy9b : (y.beat (0 : UInt8).toNat).nd = 9 := by rw [Wt.beat_nd]; exact hy9
        have hy20b : (y.beat (0 : UInt8).toNat).tk = 20 := by rw [Wt.beat_tk]; exact hy20
        clear hTa J2 hy9 hy20
        obtain ⟨y1, hy1⟩ : ∃ z, y.beat (0 : UInt8).toNat = z := ⟨_, rfl⟩
        rw [hy1] at HTB1 hy9b hy20b
        have hy9 := hy9b
        have hy20 := hy20b
        clear hy9b hy20b hy1
        obtain ⟨X, hX⟩ : ∃ X, z2.alloc (.cells #[.int .i64 1, .int .i64 2, .int .i64 128, .int .i64 129, .int .i64 130, .int .i64 0, .int .i64 0, .int .i64 0] 3) = X := ⟨_, rfl⟩
        have bX : Below z2.heap.size z2 X := by rw [← hX]; exact (Below.refl _ _).alloc (Nat.le_refl _) _
        have JX := HTB1.out.below bX
        obtain ⟨q8, hq8⟩ : ∃ q, z2.heap.size = q := ⟨_, rfl⟩
        have cX : X.cell? ⟨q8, r, none⟩ = some (.int .i64 (c.toNat : Nat)) := by
          rw [← hX, ← hq8, ← hct]
          exact Lib.cell_of_heap (heap_alloc_new z2 _) r
        have zX := HZ.out X JX.a.bl
        clear bX HTB1
        go_upto_region 15 with fail
        rcases hc0 with hcz | hcn
        · subst hcz
          have HTB := hidOf2 JX
          have HP3 := hidOf2 (show NP (2 * (k + 1)) N3 from HP1.out.more.more)
          clear JX cX zX HZ hct hX HC
          go_upto_region 18 with fail
          have hTk := HTB.out.tick D
          go_upto_region 19 with (go_at_call 17; with_reducible refine hTk.mono ?_; rintro e z5 ⟨⟨rr, rfl⟩, J5⟩)
          clear hTk HTB
          have hSt := Nk.state_any J5.n
          have hHt := htick_any J5.h (by have := J5.t; omega) (by omega) N3.st
          have hGT := J5.t
          have hyt9 : y1.tick.nd = 9 := by rw [Wt.tick_nd]; exact hy9
          have hyt20 : y1.tick.tk = 20 := by rw [Wt.tick_tk]; exact hy20
          by_cases hbt : T ≤ G + 1 ∧ isSt N3.st = true
          · obtain ⟨hb1, hb2⟩ := hbt
            have en : nowK T G N3.st = true := by unfold nowK; rw [hb2]; simp; omega
            have eg : goneK T G = 0 := by unfold goneK; rw [if_neg (by omega), if_neg (by omega)]
            rw [en, eg] at hHt
            have hHt2 : Calls Try.prog 12 #[.pointer (some ⟨gh, 0, none⟩), .int .i64 N3.st] z5 fun e z => ∃ q, e = .returned (.tuple #[.slice (some ⟨q, 0, none⟩) 1 1, .bool true]) ∧ (q < z.heap.size ∧ z.cell? ⟨q, 0, none⟩ = some (.int .u8 N3.st)) ∧ TB w p p gh gw v3 N3 T 0 y1.tick z := by
              refine hHt.mono ?_
              rintro e z ⟨rr, rfl, hr9, a1, a2⟩
              obtain ⟨q, rfl, _, h2, h3⟩ := hr9
              exact ⟨q, rfl, ⟨h2, h3⟩, J5.hear D a1 a2 (by omega)⟩
            obtain ⟨c4, hc4, hc5, hc6⟩ := st_u8 hb2
            obtain ⟨S, hS⟩ : ∃ S, N3.st = S := ⟨_, rfl⟩
            rw [hS] at hHt2 hSt hc4
            have hS0 : (S != 0) = true := by simp; omega
            have hS1 : (S != S) = false := by simp
            have HC4 := hidOf2 hc4
            clear hHt J5 en eg hb1 hb2 hGT hc4
            go_upto_region 21 with (first | (go_at_call 26; with_reducible refine hSt.mono ?_; rintro e z6 ⟨rfl, rfl⟩) | (go_at_call 12; with_reducible refine hHt2.mono ?_; rintro e z7 ⟨q, rfl, hq, J7⟩))
            have hTa := J7.take D hyt9 c4 hc6 (.slice (some ⟨q, 0, none⟩) 1 1) (bytes1 hq.1 (by rw [hq.2, HC4.out]))
            rw [beat_at _ hyt9 hyt20 c4 hc5, ← HC4.out] at hTa
            clear hSt hHt2 hq J7
            go_upto_region 22 with (go_at_call 15; with_reducible refine hTa.mono ?_; rintro e z8 ⟨⟨ra, rb, rfl⟩, J8⟩)
            have hSt := Nk.state_any J8.n
            rw [hS] at hSt
            have hWs := J8.a.state 9
            rw [(state_at S 0).1, (state_at S 0).2] at hWs
            have HJ8 := hidOf2 J8
            clear hTa J8
            go_upto_region 24 with (first | (go_at_call 26; with_reducible refine hSt.mono ?_; rintro e z9 ⟨rfl, rfl⟩) | (go_at_call 27; with_reducible refine hWs.mono ?_; rintro e z10 ⟨rfl, W10, b10⟩))
            have J11 := HJ8.out.below b10
            have hSt2 := Nk.state_any J11.n
            rw [hS] at hSt2
            have HJ11 := hidOf2 J11
            clear hSt hWs HJ8 W10 b10 J11
            go_wp2_with (go_at_call 26; with_reducible refine hSt2.mono ?_; rintro e z12 ⟨rfl, rfl⟩)
            go_roundw
            case rel => exact ⟨k + 1, N3, 0, _, S, true, by omega, rfl, rfl, rfl, HP3.out, HJ11.out, rfl, rfl, fun _ _ => rfl⟩
            case measure => simp [intOf]; omega
          · have en : nowK T G N3.st = false := by
              unfold nowK
              by_cases h9 : T ≤ G + 1
              · have h8 : isSt N3.st = false := by
                  cases h7 : isSt N3.st
                  · rfl
                  · exact absurd ⟨h9, h7⟩ hbt
                rw [h8]; simp
              · simp [h9]
            have hG2 : goneK T G < T := by unfold goneK; rw [if_neg (by omega)]; split <;> omega
            rw [en] at hHt
            have hHt2 : Calls Try.prog 12 #[.pointer (some ⟨gh, 0, none⟩), .int .i64 N3.st] z5 fun e z => e = .returned (.tuple #[.slice none 0 0, .bool false]) ∧ TB w p p gh gw v3 N3 T (goneK T G) y1.tick z := by
              refine hHt.mono ?_
              rintro e z ⟨rr, rfl, hr9, a1, a2⟩
              unfold HtA at hr9
              rw [if_neg (by decide)] at hr9
              exact ⟨by rw [hr9], J5.hear D a1 a2 hG2⟩
            obtain ⟨S, hS⟩ : ∃ S, N3.st = S := ⟨_, rfl⟩
            rw [hS] at hHt2 hSt
            clear hHt J5 en hbt hGT
            go_upto_region 23 with (first | (go_at_call 26; with_reducible refine hSt.mono ?_; rintro e z6 ⟨rfl, rfl⟩) | (go_at_call 12; with_reducible refine hHt2.mono ?_; rintro e z7 ⟨rfl, J7⟩))
            have hWs := J7.a.state 9
            have HJ7 := hidOf2 J7
            clear hSt hHt2 J7
            go_upto_region 24 with (go_at_call 27; with_reducible refine hWs.mono ?_; rintro e z10 ⟨rfl, W10, b10⟩)
            have J11 := HJ7.out.below b10
            have hSt2 := Nk.state_any J11.n
            rw [hS] at hSt2
            have HJ11 := hidOf2 J11
            clear hWs HJ7 W10 b10 J11
            go_wp2_with (go_at_call 26; with_reducible refine hSt2.mono ?_; rintro e z12 ⟨rfl, rfl⟩)
            go_roundw
            case rel => exact ⟨k + 1, N3, _, _, la, false, by omega, rfl, rfl, rfl, HP3.out, HJ11.out, hyt9, hyt20, fun h => by cases h⟩
            case measure => simp [intOf]; omega
        · obtain ⟨hcz, hci⟩ := hcn
          have dc : ((c.toNat : Int) != 0) = true := by
            have : c.toNat ≠ 0 := fun e => hcz (by
              have := congrArg UInt8.ofNat e
              simpa using this)
            simp; omega
          have hCm : Calls Try.prog 24 #[.int .i64 (c.toNat : Nat), .int .i64 9] X _ := Nk.cmd_ok X c.toNat 9 hci (by decide)
          obtain ⟨Y, hY⟩ : ∃ Y, X.alloc (.cells #[.int .u8 c.toNat, .int .u8 (9 : Nat)] 5) = Y := ⟨_, rfl⟩
          have bY : Below X.heap.size X Y := by rw [← hY]; exact (Below.refl _ _).alloc (Nat.le_refl _) _
          have JY := JX.below bY
          have hBY : Bytes Y (.slice (some ⟨X.heap.size, 0, none⟩) 2 2) [c, 9] := by rw [← hY]; exact bytes_pr X c 9
          rw [hY] at hCm
          have hk62 : k ≤ 140737488351232 := by omega
          have hTa := Nk.take_any _ [c, 9] JY.n hBY (by have := HP1.out.b0; have := HP1.out.b1; omega) (by have := HP1.out.t0; have := HP1.out.t1; omega)
          have HY := hidOf2 JY
          have HP3 := hidOf2 (show NP (2 * (k + 1)) (N3.take [c, 9]) from (HP1.out.take c hci).more)
          clear JX cX zX HZ hct hX HC bY JY hBY hY hcz hci hk62
          go_upto_region 17 with (go_at_call 24; with_reducible refine hCm.mono ?_; rintro e z3 ⟨rfl, hz3⟩; rw [hz3])
          clear hCm hz3
          go_upto_region 18 with (go_at_call 25; with_reducible refine hTa.mono ?_; rintro e z4 ⟨rfl, N4, t4⟩)
          have HTB := hidOf2 (HY.out.node D N4 t4)
          clear hTa N4 t4 HY dc
          obtain ⟨N4, hN4⟩ : ∃ N4, N3.take [c, 9] = N4 := ⟨_, rfl⟩
          rw [hN4] at HTB HP3
          clear hN4 HP1
          have hTk := HTB.out.tick D
          go_upto_region 19 with (go_at_call 17; with_reducible refine hTk.mono ?_; rintro e z5 ⟨⟨rr, rfl⟩, J5⟩)
          clear hTk HTB
          have hSt := Nk.state_any J5.n
          have hHt := htick_any J5.h (by have := J5.t; omega) (by omega) N4.st
          have hGT := J5.t
          have hyt9 : y1.tick.nd = 9 := by rw [Wt.tick_nd]; exact hy9
          have hyt20 : y1.tick.tk = 20 := by rw [Wt.tick_tk]; exact hy20
          by_cases hbt : T ≤ G + 1 ∧ isSt N4.st = true
          · obtain ⟨hb1, hb2⟩ := hbt
            have en : nowK T G N4.st = true := by unfold nowK; rw [hb2]; simp; omega
            have eg : goneK T G = 0 := by unfold goneK; rw [if_neg (by omega), if_neg (by omega)]
            rw [en, eg] at hHt
            have hHt2 : Calls Try.prog 12 #[.pointer (some ⟨gh, 0, none⟩), .int .i64 N4.st] z5 fun e z => ∃ q, e = .returned (.tuple #[.slice (some ⟨q, 0, none⟩) 1 1, .bool true]) ∧ (q < z.heap.size ∧ z.cell? ⟨q, 0, none⟩ = some (.int .u8 N4.st)) ∧ TB w p p gh gw v3 N4 T 0 y1.tick z := by
              refine hHt.mono ?_
              rintro e z ⟨rr, rfl, hr9, a1, a2⟩
              obtain ⟨q, rfl, _, h2, h3⟩ := hr9
              exact ⟨q, rfl, ⟨h2, h3⟩, J5.hear D a1 a2 (by omega)⟩
            obtain ⟨c4, hc4, hc5, hc6⟩ := st_u8 hb2
            obtain ⟨S, hS⟩ : ∃ S, N4.st = S := ⟨_, rfl⟩
            rw [hS] at hHt2 hSt hc4
            have hS0 : (S != 0) = true := by simp; omega
            have hS1 : (S != S) = false := by simp
            have HC4 := hidOf2 hc4
            clear hHt J5 en eg hb1 hb2 hGT hc4
            go_upto_region 21 with (first | (go_at_call 26; with_reducible refine hSt.mono ?_; rintro e z6 ⟨rfl, rfl⟩) | (go_at_call 12; with_reducible refine hHt2.mono ?_; rintro e z7 ⟨q, rfl, hq, J7⟩))
            have hTa := J7.take D hyt9 c4 hc6 (.slice (some ⟨q, 0, none⟩) 1 1) (bytes1 hq.1 (by rw [hq.2, HC4.out]))
            rw [beat_at _ hyt9 hyt20 c4 hc5, ← HC4.out] at hTa
            clear hSt hHt2 hq J7
            go_upto_region 22 with (go_at_call 15; with_reducible refine hTa.mono ?_; rintro e z8 ⟨⟨ra, rb, rfl⟩, J8⟩)
            have hSt := Nk.state_any J8.n
            rw [hS] at hSt
            have hWs := J8.a.state 9
            rw [(state_at S 0).1, (state_at S 0).2] at hWs
            have HJ8 := hidOf2 J8
            clear hTa J8
            go_upto_region 24 with (first | (go_at_call 26; with_reducible refine hSt.mono ?_; rintro e z9 ⟨rfl, rfl⟩) | (go_at_call 27; with_reducible refine hWs.mono ?_; rintro e z10 ⟨rfl, W10, b10⟩))
            have J11 := HJ8.out.below b10
            have hSt2 := Nk.state_any J11.n
            rw [hS] at hSt2
            have HJ11 := hidOf2 J11
            clear hSt hWs HJ8 W10 b10 J11
            go_wp2_with (go_at_call 26; with_reducible refine hSt2.mono ?_; rintro e z12 ⟨rfl, rfl⟩)
            go_roundw
            case rel => exact ⟨k + 1, N4, 0, _, S, true, by omega, rfl, rfl, rfl, HP3.out, HJ11.out, rfl, rfl, fun _ _ => rfl⟩
            case measure => simp [intOf]; omega
          · have en : nowK T G N4.st = false := by
              unfold nowK
              by_cases h9 : T ≤ G + 1
              · have h8 : isSt N4.st = false := by
                  cases h7 : isSt N4.st
                  · rfl
                  · exact absurd ⟨h9, h7⟩ hbt
                rw [h8]; simp
              · simp [h9]
            have hG2 : goneK T G < T := by unfold goneK; rw [if_neg (by omega)]; split <;> omega
            rw [en] at hHt
            have hHt2 : Calls Try.prog 12 #[.pointer (some ⟨gh, 0, none⟩), .int .i64 N4.st] z5 fun e z => e = .returned (.tuple #[.slice none 0 0, .bool false]) ∧ TB w p p gh gw v3 N4 T (goneK T G) y1.tick z := by
              refine hHt.mono ?_
              rintro e z ⟨rr, rfl, hr9, a1, a2⟩
              unfold HtA at hr9
              rw [if_neg (by decide)] at hr9
              exact ⟨by rw [hr9], J5.hear D a1 a2 hG2⟩
            obtain ⟨S, hS⟩ : ∃ S, N4.st = S := ⟨_, rfl⟩
            rw [hS] at hHt2 hSt
            clear hHt J5 en hbt hGT
            go_upto_region 23 with (first | (go_at_call 26; with_reducible refine hSt.mono ?_; rintro e z6 ⟨rfl, rfl⟩) | (go_at_call 12; with_reducible refine hHt2.mono ?_; rintro e z7 ⟨rfl, J7⟩))
            have hWs := J7.a.state 9
            have HJ7 := hidOf2 J7
            clear hSt hHt2 J7
            go_upto_region 24 with (go_at_call 27; with_reducible refine hWs.mono ?_; rintro e z10 ⟨rfl, W10, b10⟩)
            have J11 := HJ7.out.below b10
            have hSt2 := Nk.state_any J11.n
            rw [hS] at hSt2
            have HJ11 := hidOf2 J11
            clear hWs HJ7 W10 b10 J11
            go_wp2_with (go_at_call 26; with_reducible refine hSt2.mono ?_; rintro e z12 ⟨rfl, rfl⟩)
            go_roundw
            case rel => exact ⟨k + 1, N4, _, _, la, false, by omega, rfl, rfl, rfl, HP3.out, HJ11.out, hyt9, hyt20, fun h => by cases h⟩
            case measure => simp [intOf]; omega
      · rw [decide_eq_false h0] at hSt
        simp only [Bool.false_eq_true, if_false] at hSt
        rw [hs1 h0] at hSt HP1 HNE
        have hSt2 : Calls Try.prog 23 #[.pointer (some ⟨p, 0, none⟩)] wr fun e z => e = .returned (.tuple #[.slice none 0 0, .bool false]) ∧ TB w p p gh gw v3 N T G y z := by
          refine hSt.mono ?_
          rintro e z ⟨rr, rfl, hr9, a1, a2⟩
          exact ⟨by rw [hr9], hJ.node D a1 a2⟩
        have HA : Hid (an = true → y = ⟨9, 20, 1, la, G⟩) := fun h => hA h h0
        obtain ⟨N3, hN3⟩ : ∃ N3, N = N3 := ⟨_, rfl⟩
        rw [hN3] at hSt2 HP1 HNE
        obtain ⟨y1, hy1⟩ : ∃ z, y = z := ⟨_, rfl⟩
        rw [hy1] at hSt2 HA hy9 hy20
        clear hSt hJ hP hP1 hne1 hg1 hs1 h0 hA hN3 hy1
        go_upto_region 14 with (go_at_call 23; with_reducible refine hSt2.mono ?_; rintro e z2 ⟨rfl, J2⟩)
        have HTB1 := hidOf2 J2
        clear hSt2 J2
        obtain ⟨X, hX⟩ : ∃ X, z2.alloc (.cells #[.int .i64 1, .int .i64 2, .int .i64 128, .int .i64 129, .int .i64 130, .int .i64 0, .int .i64 0, .int .i64 0] 3) = X := ⟨_, rfl⟩
        have bX : Below z2.heap.size z2 X := by rw [← hX]; exact (Below.refl _ _).alloc (Nat.le_refl _) _
        have JX := HTB1.out.below bX
        obtain ⟨q8, hq8⟩ : ∃ q, z2.heap.size = q := ⟨_, rfl⟩
        have cX : X.cell? ⟨q8, r, none⟩ = some (.int .i64 (c.toNat : Nat)) := by
          rw [← hX, ← hq8, ← hct]
          exact Lib.cell_of_heap (heap_alloc_new z2 _) r
        have zX := HZ.out X JX.a.bl
        clear bX HTB1
        go_upto_region 15 with fail
        rcases hc0 with hcz | hcn
        · subst hcz
          have HTB := hidOf2 JX
          have HP3 := hidOf2 (show NP (2 * (k + 1)) N3 from HP1.out.more.more)
          clear JX cX zX HZ hct hX HC
          go_upto_region 18 with fail
          have hTk := HTB.out.tick D
          go_upto_region 19 with (go_at_call 17; with_reducible refine hTk.mono ?_; rintro e z5 ⟨⟨rr, rfl⟩, J5⟩)
          clear hTk HTB
          have hSt := Nk.state_any J5.n
          have hHt := htick_any J5.h (by have := J5.t; omega) (by omega) N3.st
          have hGT := J5.t
          have hyt9 : y1.tick.nd = 9 := by rw [Wt.tick_nd]; exact hy9
          have hyt20 : y1.tick.tk = 20 := by rw [Wt.tick_tk]; exact hy20
          by_cases hbt : T ≤ G + 1 ∧ isSt N3.st = true
          · obtain ⟨hb1, hb2⟩ := hbt
            have en : nowK T G N3.st = true := by unfold nowK; rw [hb2]; simp; omega
            have eg : goneK T G = 0 := by unfold goneK; rw [if_neg (by omega), if_neg (by omega)]
            rw [en, eg] at hHt
            have hHt2 : Calls Try.prog 12 #[.pointer (some ⟨gh, 0, none⟩), .int .i64 N3.st] z5 fun e z => ∃ q, e = .returned (.tuple #[.slice (some ⟨q, 0, none⟩) 1 1, .bool true]) ∧ (q < z.heap.size ∧ z.cell? ⟨q, 0, none⟩ = some (.int .u8 N3.st)) ∧ TB w p p gh gw v3 N3 T 0 y1.tick z := by
              refine hHt.mono ?_
              rintro e z ⟨rr, rfl, hr9, a1, a2⟩
              obtain ⟨q, rfl, _, h2, h3⟩ := hr9
              exact ⟨q, rfl, ⟨h2, h3⟩, J5.hear D a1 a2 (by omega)⟩
            obtain ⟨c4, hc4, hc5, hc6⟩ := st_u8 hb2
            obtain ⟨S, hS⟩ : ∃ S, N3.st = S := ⟨_, rfl⟩
            rw [hS] at hHt2 hSt hc4
            have hS0 : (S != 0) = true := by simp; omega
            have hS1 : (S != S) = false := by simp
            have HC4 := hidOf2 hc4
            clear hHt J5 en eg hb1 hb2 hGT hc4
            go_upto_region 21 with (first | (go_at_call 26; with_reducible refine hSt.mono ?_; rintro e z6 ⟨rfl, rfl⟩) | (go_at_call 12; with_reducible refine hHt2.mono ?_; rintro e z7 ⟨q, rfl, hq, J7⟩))
            have hTa := J7.take D hyt9 c4 hc6 (.slice (some ⟨q, 0, none⟩) 1 1) (bytes1 hq.1 (by rw [hq.2, HC4.out]))
            rw [beat_at _ hyt9 hyt20 c4 hc5, ← HC4.out] at hTa
            clear hSt hHt2 hq J7
            go_upto_region 22 with (go_at_call 15; with_reducible refine hTa.mono ?_; rintro e z8 ⟨⟨ra, rb, rfl⟩, J8⟩)
            have hSt := Nk.state_any J8.n
            rw [hS] at hSt
            have hWs := J8.a.state 9
            rw [(state_at S 0).1, (state_at S 0).2] at hWs
            have HJ8 := hidOf2 J8
            clear hTa J8
            go_upto_region 24 with (first | (go_at_call 26; with_reducible refine hSt.mono ?_; rintro e z9 ⟨rfl, rfl⟩) | (go_at_call 27; with_reducible refine hWs.mono ?_; rintro e z10 ⟨rfl, W10, b10⟩))
            have J11 := HJ8.out.below b10
            have hSt2 := Nk.state_any J11.n
            rw [hS] at hSt2
            have HJ11 := hidOf2 J11
            clear hSt hWs HJ8 W10 b10 J11
            go_wp2_with (go_at_call 26; with_reducible refine hSt2.mono ?_; rintro e z12 ⟨rfl, rfl⟩)
            go_roundw
            case rel => exact ⟨k + 1, N3, 0, _, S, true, by omega, rfl, rfl, rfl, HP3.out, HJ11.out, rfl, rfl, fun _ _ => rfl⟩
            case measure => simp [intOf]; omega
          · cases an
            · have en : nowK T G N3.st = false := by
                unfold nowK
                by_cases h9 : T ≤ G + 1
                · have h8 : isSt N3.st = false := by
                    cases h7 : isSt N3.st
                    · rfl
                    · exact absurd ⟨h9, h7⟩ hbt
                  rw [h8]; simp
                · simp [h9]
              have hG2 : goneK T G < T := by unfold goneK; rw [if_neg (by omega)]; split <;> omega
              rw [en] at hHt
              have hHt2 : Calls Try.prog 12 #[.pointer (some ⟨gh, 0, none⟩), .int .i64 N3.st] z5 fun e z => e = .returned (.tuple #[.slice none 0 0, .bool false]) ∧ TB w p p gh gw v3 N3 T (goneK T G) y1.tick z := by
                refine hHt.mono ?_
                rintro e z ⟨rr, rfl, hr9, a1, a2⟩
                unfold HtA at hr9
                rw [if_neg (by decide)] at hr9
                exact ⟨by rw [hr9], J5.hear D a1 a2 hG2⟩
              obtain ⟨S, hS⟩ : ∃ S, N3.st = S := ⟨_, rfl⟩
              rw [hS] at hHt2 hSt
              clear hHt J5 en hbt hGT
              go_upto_region 23 with (first | (go_at_call 26; with_reducible refine hSt.mono ?_; rintro e z6 ⟨rfl, rfl⟩) | (go_at_call 12; with_reducible refine hHt2.mono ?_; rintro e z7 ⟨rfl, J7⟩))
              have hWs := J7.a.state 9
              have HJ7 := hidOf2 J7
              clear hSt hHt2 J7
              go_upto_region 24 with (go_at_call 27; with_reducible refine hWs.mono ?_; rintro e z10 ⟨rfl, W10, b10⟩)
              have J11 := HJ7.out.below b10
              have hSt2 := Nk.state_any J11.n
              rw [hS] at hSt2
              have HJ11 := hidOf2 J11
              clear hWs HJ7 W10 b10 J11
              go_wp2_with (go_at_call 26; with_reducible refine hSt2.mono ?_; rintro e z12 ⟨rfl, rfl⟩)
              go_roundw
              case rel => exact ⟨k + 1, N3, _, _, la, false, by omega, rfl, rfl, rfl, HP3.out, HJ11.out, hyt9, hyt20, fun h => by cases h⟩
              case measure => simp [intOf]; omega
            · by_cases hz : N3.st = 0
              · have en : nowK T G N3.st = false := by
                  unfold nowK
                  by_cases h9 : T ≤ G + 1
                  · have h8 : isSt N3.st = false := by
                      cases h7 : isSt N3.st
                      · rfl
                      · exact absurd ⟨h9, h7⟩ hbt
                    rw [h8]; simp
                  · simp [h9]
                have hG2 : goneK T G < T := by unfold goneK; rw [if_neg (by omega)]; split <;> omega
                rw [en] at hHt
                have hHt2 : Calls Try.prog 12 #[.pointer (some ⟨gh, 0, none⟩), .int .i64 N3.st] z5 fun e z => e = .returned (.tuple #[.slice none 0 0, .bool false]) ∧ TB w p p gh gw v3 N3 T (goneK T G) y1.tick z := by
                  refine hHt.mono ?_
                  rintro e z ⟨rr, rfl, hr9, a1, a2⟩
                  unfold HtA at hr9
                  rw [if_neg (by decide)] at hr9
                  exact ⟨by rw [hr9], J5.hear D a1 a2 hG2⟩
                obtain ⟨S, hS⟩ : ∃ S, N3.st = S := ⟨_, rfl⟩
                rw [hS] at hHt2 hSt
                have hS0 : (S != 0) = false := by rw [← hS, hz]; rfl
                have HZ9 := hidOf2 hz
                clear hz
                clear hHt J5 en hbt hGT
                go_upto_region 23 with (first | (go_at_call 26; with_reducible refine hSt.mono ?_; rintro e z6 ⟨rfl, rfl⟩) | (go_at_call 12; with_reducible refine hHt2.mono ?_; rintro e z7 ⟨rfl, J7⟩))
                have hWs := J7.a.state 9
                have HJ7 := hidOf2 J7
                clear hSt hHt2 J7
                go_upto_region 24 with (go_at_call 27; with_reducible refine hWs.mono ?_; rintro e z10 ⟨rfl, W10, b10⟩)
                have J11 := HJ7.out.below b10
                have hSt2 := Nk.state_any J11.n
                rw [hS] at hSt2
                have HJ11 := hidOf2 J11
                clear hWs HJ7 W10 b10 J11
                go_wp2_with (go_at_call 26; with_reducible refine hSt2.mono ?_; rintro e z12 ⟨rfl, rfl⟩)
                go_roundw
                case rel => exact ⟨k + 1, N3, _, _, la, true, by omega, rfl, rfl, rfl, HP3.out, HJ11.out, hyt9, hyt20, fun _ h => absurd HZ9.out h⟩
                case measure => simp [intOf]; omega
              · have en : nowK T G N3.st = false := by
                  unfold nowK
                  by_cases h9 : T ≤ G + 1
                  · have h8 : isSt N3.st = false := by
                      cases h7 : isSt N3.st
                      · rfl
                      · exact absurd ⟨h9, h7⟩ hbt
                    rw [h8]; simp
                  · simp [h9]
                have hG2 : goneK T G < T := by unfold goneK; rw [if_neg (by omega)]; split <;> omega
                rw [en] at hHt
                have hHt2 : Calls Try.prog 12 #[.pointer (some ⟨gh, 0, none⟩), .int .i64 N3.st] z5 fun e z => e = .returned (.tuple #[.slice none 0 0, .bool false]) ∧ TB w p p gh gw v3 N3 T (goneK T G) y1.tick z := by
                  refine hHt.mono ?_
                  rintro e z ⟨rr, rfl, hr9, a1, a2⟩
                  unfold HtA at hr9
                  rw [if_neg (by decide)] at hr9
                  exact ⟨by rw [hr9], J5.hear D a1 a2 hG2⟩
                have hst : isSt N3.st = true := by rcases HP3.out.st with e | e; exact absurd e hz; exact e
                have hGl : G + 1 < T := by
                  apply Nat.lt_of_not_le
                  exact fun h => hbt ⟨h, hst⟩
                have eg : goneK T G = G + 1 := by unfold goneK; rw [if_neg (by omega), if_pos hGl]
                have ey : y1.tick = ⟨9, 20, 1, la, G + 1⟩ := by rw [HA.out rfl]; exact tick_at la G (by omega)
                rw [eg, ey] at hHt2
                clear hst eg ey hyt9 hyt20
                obtain ⟨S, hS⟩ : ∃ S, N3.st = S := ⟨_, rfl⟩
                rw [hS] at hHt2 hSt
                have hS0 : (S != 0) = true := by rw [← hS]; simp [hz]
                have hS1 : (la != la) = false := by simp
                have HZ9 := hidOf2 hz
                clear hz
                clear hHt J5 en hbt hGT
                go_upto_region 23 with (first | (go_at_call 26; with_reducible refine hSt.mono ?_; rintro e z6 ⟨rfl, rfl⟩) | (go_at_call 12; with_reducible refine hHt2.mono ?_; rintro e z7 ⟨rfl, J7⟩))
                have hWs := J7.a.state 9
                rw [(state_at la (G + 1)).1, (state_at la (G + 1)).2] at hWs
                have HJ7 := hidOf2 J7
                clear hSt hHt2 J7
                go_upto_region 24 with (go_at_call 27; with_reducible refine hWs.mono ?_; rintro e z10 ⟨rfl, W10, b10⟩)
                have J11 := HJ7.out.below b10
                have hSt2 := Nk.state_any J11.n
                rw [hS] at hSt2
                have HJ11 := hidOf2 J11
                clear hWs HJ7 W10 b10 J11
                go_wp2_with (go_at_call 26; with_reducible refine hSt2.mono ?_; rintro e z12 ⟨rfl, rfl⟩)
                go_roundw
                case rel => exact ⟨k + 1, N3, _, _, la, true, by omega, rfl, rfl, rfl, HP3.out, HJ11.out, rfl, rfl, fun _ _ => rfl⟩
                case measure => simp [intOf]; omega
        · obtain ⟨hcz, hci⟩ := hcn
          have dc : ((c.toNat : Int) != 0) = true := by
            have : c.toNat ≠ 0 := fun e => hcz (by
              have := congrArg UInt8.ofNat e
              simpa using this)
            simp; omega
          have hCm : Calls Try.prog 24 #[.int .i64 (c.toNat : Nat), .int .i64 9] X _ := Nk.cmd_ok X c.toNat 9 hci (by decide)
          obtain ⟨Y, hY⟩ : ∃ Y, X.alloc (.cells #[.int .u8 c.toNat, .int .u8 (9 : Nat)] 5) = Y := ⟨_, rfl⟩
          have bY : Below X.heap.size X Y := by rw [← hY]; exact (Below.refl _ _).alloc (Nat.le_refl _) _
          have JY := JX.below bY
          have hBY : Bytes Y (.slice (some ⟨X.heap.size, 0, none⟩) 2 2) [c, 9] := by rw [← hY]; exact bytes_pr X c 9
          rw [hY] at hCm
          have hk62 : k ≤ 140737488351232 := by omega
          have hTa := Nk.take_any _ [c, 9] JY.n hBY (by have := HP1.out.b0; have := HP1.out.b1; omega) (by have := HP1.out.t0; have := HP1.out.t1; omega)
          have HY := hidOf2 JY
          have HP3 := hidOf2 (show NP (2 * (k + 1)) (N3.take [c, 9]) from (HP1.out.take c hci).more)
          clear JX cX zX HZ hct hX HC bY JY hBY hY hcz hci hk62
          go_upto_region 17 with (go_at_call 24; with_reducible refine hCm.mono ?_; rintro e z3 ⟨rfl, hz3⟩; rw [hz3])
          clear hCm hz3
          go_upto_region 18 with (go_at_call 25; with_reducible refine hTa.mono ?_; rintro e z4 ⟨rfl, N4, t4⟩)
          have HTB := hidOf2 (HY.out.node D N4 t4)
          clear hTa N4 t4 HY dc
          obtain ⟨N4, hN4⟩ : ∃ N4, N3.take [c, 9] = N4 := ⟨_, rfl⟩
          rw [hN4] at HTB HP3
          clear hN4 HP1
          have hTk := HTB.out.tick D
          go_upto_region 19 with (go_at_call 17; with_reducible refine hTk.mono ?_; rintro e z5 ⟨⟨rr, rfl⟩, J5⟩)
          clear hTk HTB
          have hSt := Nk.state_any J5.n
          have hHt := htick_any J5.h (by have := J5.t; omega) (by omega) N4.st
          have hGT := J5.t
          have hyt9 : y1.tick.nd = 9 := by rw [Wt.tick_nd]; exact hy9
          have hyt20 : y1.tick.tk = 20 := by rw [Wt.tick_tk]; exact hy20
          by_cases hbt : T ≤ G + 1 ∧ isSt N4.st = true
          · obtain ⟨hb1, hb2⟩ := hbt
            have en : nowK T G N4.st = true := by unfold nowK; rw [hb2]; simp; omega
            have eg : goneK T G = 0 := by unfold goneK; rw [if_neg (by omega), if_neg (by omega)]
            rw [en, eg] at hHt
            have hHt2 : Calls Try.prog 12 #[.pointer (some ⟨gh, 0, none⟩), .int .i64 N4.st] z5 fun e z => ∃ q, e = .returned (.tuple #[.slice (some ⟨q, 0, none⟩) 1 1, .bool true]) ∧ (q < z.heap.size ∧ z.cell? ⟨q, 0, none⟩ = some (.int .u8 N4.st)) ∧ TB w p p gh gw v3 N4 T 0 y1.tick z := by
              refine hHt.mono ?_
              rintro e z ⟨rr, rfl, hr9, a1, a2⟩
              obtain ⟨q, rfl, _, h2, h3⟩ := hr9
              exact ⟨q, rfl, ⟨h2, h3⟩, J5.hear D a1 a2 (by omega)⟩
            obtain ⟨c4, hc4, hc5, hc6⟩ := st_u8 hb2
            obtain ⟨S, hS⟩ : ∃ S, N4.st = S := ⟨_, rfl⟩
            rw [hS] at hHt2 hSt hc4
            have hS0 : (S != 0) = true := by simp; omega
            have hS1 : (S != S) = false := by simp
            have HC4 := hidOf2 hc4
            clear hHt J5 en eg hb1 hb2 hGT hc4
            go_upto_region 21 with (first | (go_at_call 26; with_reducible refine hSt.mono ?_; rintro e z6 ⟨rfl, rfl⟩) | (go_at_call 12; with_reducible refine hHt2.mono ?_; rintro e z7 ⟨q, rfl, hq, J7⟩))
            have hTa := J7.take D hyt9 c4 hc6 (.slice (some ⟨q, 0, none⟩) 1 1) (bytes1 hq.1 (by rw [hq.2, HC4.out]))
            rw [beat_at _ hyt9 hyt20 c4 hc5, ← HC4.out] at hTa
            clear hSt hHt2 hq J7
            go_upto_region 22 with (go_at_call 15; with_reducible refine hTa.mono ?_; rintro e z8 ⟨⟨ra, rb, rfl⟩, J8⟩)
            have hSt := Nk.state_any J8.n
            rw [hS] at hSt
            have hWs := J8.a.state 9
            rw [(state_at S 0).1, (state_at S 0).2] at hWs
            have HJ8 := hidOf2 J8
            clear hTa J8
            go_upto_region 24 with (first | (go_at_call 26; with_reducible refine hSt.mono ?_; rintro e z9 ⟨rfl, rfl⟩) | (go_at_call 27; with_reducible refine hWs.mono ?_; rintro e z10 ⟨rfl, W10, b10⟩))
            have J11 := HJ8.out.below b10
            have hSt2 := Nk.state_any J11.n
            rw [hS] at hSt2
            have HJ11 := hidOf2 J11
            clear hSt hWs HJ8 W10 b10 J11
            go_wp2_with (go_at_call 26; with_reducible refine hSt2.mono ?_; rintro e z12 ⟨rfl, rfl⟩)
            go_roundw
            case rel => exact ⟨k + 1, N4, 0, _, S, true, by omega, rfl, rfl, rfl, HP3.out, HJ11.out, rfl, rfl, fun _ _ => rfl⟩
            case measure => simp [intOf]; omega
          · cases an
            · have en : nowK T G N4.st = false := by
                unfold nowK
                by_cases h9 : T ≤ G + 1
                · have h8 : isSt N4.st = false := by
                    cases h7 : isSt N4.st
                    · rfl
                    · exact absurd ⟨h9, h7⟩ hbt
                  rw [h8]; simp
                · simp [h9]
              have hG2 : goneK T G < T := by unfold goneK; rw [if_neg (by omega)]; split <;> omega
              rw [en] at hHt
              have hHt2 : Calls Try.prog 12 #[.pointer (some ⟨gh, 0, none⟩), .int .i64 N4.st] z5 fun e z => e = .returned (.tuple #[.slice none 0 0, .bool false]) ∧ TB w p p gh gw v3 N4 T (goneK T G) y1.tick z := by
                refine hHt.mono ?_
                rintro e z ⟨rr, rfl, hr9, a1, a2⟩
                unfold HtA at hr9
                rw [if_neg (by decide)] at hr9
                exact ⟨by rw [hr9], J5.hear D a1 a2 hG2⟩
              obtain ⟨S, hS⟩ : ∃ S, N4.st = S := ⟨_, rfl⟩
              rw [hS] at hHt2 hSt
              clear hHt J5 en hbt hGT
              go_upto_region 23 with (first | (go_at_call 26; with_reducible refine hSt.mono ?_; rintro e z6 ⟨rfl, rfl⟩) | (go_at_call 12; with_reducible refine hHt2.mono ?_; rintro e z7 ⟨rfl, J7⟩))
              have hWs := J7.a.state 9
              have HJ7 := hidOf2 J7
              clear hSt hHt2 J7
              go_upto_region 24 with (go_at_call 27; with_reducible refine hWs.mono ?_; rintro e z10 ⟨rfl, W10, b10⟩)
              have J11 := HJ7.out.below b10
              have hSt2 := Nk.state_any J11.n
              rw [hS] at hSt2
              have HJ11 := hidOf2 J11
              clear hWs HJ7 W10 b10 J11
              go_wp2_with (go_at_call 26; with_reducible refine hSt2.mono ?_; rintro e z12 ⟨rfl, rfl⟩)
              go_roundw
              case rel => exact ⟨k + 1, N4, _, _, la, false, by omega, rfl, rfl, rfl, HP3.out, HJ11.out, hyt9, hyt20, fun h => by cases h⟩
              case measure => simp [intOf]; omega
            · by_cases hz : N4.st = 0
              · have en : nowK T G N4.st = false := by
                  unfold nowK
                  by_cases h9 : T ≤ G + 1
                  · have h8 : isSt N4.st = false := by
                      cases h7 : isSt N4.st
                      · rfl
                      · exact absurd ⟨h9, h7⟩ hbt
                    rw [h8]; simp
                  · simp [h9]
                have hG2 : goneK T G < T := by unfold goneK; rw [if_neg (by omega)]; split <;> omega
                rw [en] at hHt
                have hHt2 : Calls Try.prog 12 #[.pointer (some ⟨gh, 0, none⟩), .int .i64 N4.st] z5 fun e z => e = .returned (.tuple #[.slice none 0 0, .bool false]) ∧ TB w p p gh gw v3 N4 T (goneK T G) y1.tick z := by
                  refine hHt.mono ?_
                  rintro e z ⟨rr, rfl, hr9, a1, a2⟩
                  unfold HtA at hr9
                  rw [if_neg (by decide)] at hr9
                  exact ⟨by rw [hr9], J5.hear D a1 a2 hG2⟩
                obtain ⟨S, hS⟩ : ∃ S, N4.st = S := ⟨_, rfl⟩
                rw [hS] at hHt2 hSt
                have hS0 : (S != 0) = false := by rw [← hS, hz]; rfl
                have HZ9 := hidOf2 hz
                clear hz
                clear hHt J5 en hbt hGT
                go_upto_region 23 with (first | (go_at_call 26; with_reducible refine hSt.mono ?_; rintro e z6 ⟨rfl, rfl⟩) | (go_at_call 12; with_reducible refine hHt2.mono ?_; rintro e z7 ⟨rfl, J7⟩))
                have hWs := J7.a.state 9
                have HJ7 := hidOf2 J7
                clear hSt hHt2 J7
                go_upto_region 24 with (go_at_call 27; with_reducible refine hWs.mono ?_; rintro e z10 ⟨rfl, W10, b10⟩)
                have J11 := HJ7.out.below b10
                have hSt2 := Nk.state_any J11.n
                rw [hS] at hSt2
                have HJ11 := hidOf2 J11
                clear hWs HJ7 W10 b10 J11
                go_wp2_with (go_at_call 26; with_reducible refine hSt2.mono ?_; rintro e z12 ⟨rfl, rfl⟩)
                go_roundw
                case rel => exact ⟨k + 1, N4, _, _, la, true, by omega, rfl, rfl, rfl, HP3.out, HJ11.out, hyt9, hyt20, fun _ h => absurd HZ9.out h⟩
                case measure => simp [intOf]; omega
              · have en : nowK T G N4.st = false := by
                  unfold nowK
                  by_cases h9 : T ≤ G + 1
                  · have h8 : isSt N4.st = false := by
                      cases h7 : isSt N4.st
                      · rfl
                      · exact absurd ⟨h9, h7⟩ hbt
                    rw [h8]; simp
                  · simp [h9]
                have hG2 : goneK T G < T := by unfold goneK; rw [if_neg (by omega)]; split <;> omega
                rw [en] at hHt
                have hHt2 : Calls Try.prog 12 #[.pointer (some ⟨gh, 0, none⟩), .int .i64 N4.st] z5 fun e z => e = .returned (.tuple #[.slice none 0 0, .bool false]) ∧ TB w p p gh gw v3 N4 T (goneK T G) y1.tick z := by
                  refine hHt.mono ?_
                  rintro e z ⟨rr, rfl, hr9, a1, a2⟩
                  unfold HtA at hr9
                  rw [if_neg (by decide)] at hr9
                  exact ⟨by rw [hr9], J5.hear D a1 a2 hG2⟩
                have hst : isSt N4.st = true := by rcases HP3.out.st with e | e; exact absurd e hz; exact e
                have hGl : G + 1 < T := by
                  apply Nat.lt_of_not_le
                  exact fun h => hbt ⟨h, hst⟩
                have eg : goneK T G = G + 1 := by unfold goneK; rw [if_neg (by omega), if_pos hGl]
                have ey : y1.tick = ⟨9, 20, 1, la, G + 1⟩ := by rw [HA.out rfl]; exact tick_at la G (by omega)
                rw [eg, ey] at hHt2
                clear hst eg ey hyt9 hyt20
                obtain ⟨S, hS⟩ : ∃ S, N4.st = S := ⟨_, rfl⟩
                rw [hS] at hHt2 hSt
                have hS0 : (S != 0) = true := by rw [← hS]; simp [hz]
                have hS1 : (la != la) = false := by simp
                have HZ9 := hidOf2 hz
                clear hz
                clear hHt J5 en hbt hGT
                go_upto_region 23 with (first | (go_at_call 26; with_reducible refine hSt.mono ?_; rintro e z6 ⟨rfl, rfl⟩) | (go_at_call 12; with_reducible refine hHt2.mono ?_; rintro e z7 ⟨rfl, J7⟩))
                have hWs := J7.a.state 9
                rw [(state_at la (G + 1)).1, (state_at la (G + 1)).2] at hWs
                have HJ7 := hidOf2 J7
                clear hSt hHt2 J7
                go_upto_region 24 with (go_at_call 27; with_reducible refine hWs.mono ?_; rintro e z10 ⟨rfl, W10, b10⟩)
                have J11 := HJ7.out.below b10
                have hSt2 := Nk.state_any J11.n
                rw [hS] at hSt2
                have HJ11 := hidOf2 J11
                clear hWs HJ7 W10 b10 J11
                go_wp2_with (go_at_call 26; with_reducible refine hSt2.mono ?_; rintro e z12 ⟨rfl, rfl⟩)
                go_roundw
                case rel => exact ⟨k + 1, N4, _, _, la, true, by omega, rfl, rfl, rfl, HP3.out, HJ11.out, rfl, rfl, fun _ _ => rfl⟩
                case measure => simp [intOf]; omega
    · obtain rfl : k = L := by omega
      have hd : decide ((k : Int) < (k : Int)) = false := by simp
      have HB9 := hidOf2 hJ.a.bl
      clear hJ hA D HC hP
      go_wp2_with fail
      go_ret
      exact ⟨rfl, HB9.out⟩
theorem tbts_walkI (v : Value) (l : List UInt8) (hl : l.length ≤ 140737488351232) (a : Int) (ha : 0 ≤ a ∧ a < 256) (w : World) (hB : Bytes w v l) :
    Calls Try.prog 8 #[v, .int .u8 a] w fun e w' => e = .returned (.bool true) ∧ Below w.heap.size w w' := by
  obtain ⟨n, rfl⟩ : ∃ n : Nat, a = n := ⟨a.toNat, by omega⟩
  exact tbts_walk v l hl n (by omega) w hB
end Go.Proofs.Ytceomfefffngaaa
