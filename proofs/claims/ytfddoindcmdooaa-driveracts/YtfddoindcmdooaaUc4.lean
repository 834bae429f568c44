/- The small living call of layer 5. New and Passes with filters. A whole driver in memory; New, Send, Done, Next, Waiting and Lost on it. append to a row of one's own: its block is the old one, or a new one. -/
import Derived.Test.YtfddoindcmdooaaUc3
import Derived.Test.YtfddoindcmdooaaApp
namespace Go.Proofs.Ytfddoindcmdooaa
open Go.RowKit Go.Proofs.Bits
set_option linter.unusedVariables false
set_option maxRecDepth 1000000
set_option linter.unusedSimpArgs false

def fr9 : Fr := ⟨9, false, false, 0, [0, 0, 0, 0, 0, 0, 0, 0], by decide, by decide, rfl⟩
def fr5' : Fr := ⟨5, false, false, 0, [0, 0, 0, 0, 0, 0, 0, 0], by decide, by decide, rfl⟩
def fr7 : Fr := ⟨7, false, false, 0, [0, 0, 0, 0, 0, 0, 0, 0], by decide, by decide, rfl⟩
def m9 : Ml := ⟨fr9.plain, fr9.field, 1⟩
def m5 : Ml := ⟨fr5'.plain, fr5'.field, 2⟩
theorem m_less : lessM m5 m9 = true := by decide +kernel
theorem up_two : upF ([m9] ++ [m5]) 1 = [m5, m9] := by
  rw [upF_go (ms := [m9] ++ [m5]) (k := 1) (by omega) (by simp) m_less, upF_zero]
  rfl
theorem Kd.below5 {D B : Nat} {w x : World} (h : Kd D B w x) (hD : B ≤ D) (hB : B ≤ w.heap.size) : Below B w x :=
  ⟨h.os, h.tape, h.output, h.size, fun k hk => h.low k hk (by omega) (by omega)⟩
theorem own_kd {D B B' : Nat} {w x : World} (h : Kd D B w x) {e : TypeId} {c : Nat} {v : Value} {n : Nat} {xs : List Value} (ho : w.ownsRow B' e c v n xs) (he : e ≠ 73) (hd : v.ownBlock ≠ some D) : x.ownsRow B' e c v n xs := by
  obtain ⟨hl, ho⟩ := ho
  refine ⟨hl, ?_⟩
  rcases ho with ho | ⟨g, cap, cur, rfl, hg, hcur, rest⟩
  · exact .inl ho
  · exact .inr ⟨g, cap, cur, rfl, hg, h.typ g _ _ _ he (fun e => hd (by rw [← e]; rfl)) hcur, rest⟩
set_option maxHeartbeats 2000000 in
theorem lives5_any (w : World) : Calls Try.prog 9 #[] w fun e w' => e = .returned (.bool true) ∧ Below w.heap.size w w' := by
  have hN := New_nil 2 2 (by decide) (by decide) (by decide) (by decide) w
  have h9 : Hid (Value.agg #[.int .u32 9, .bool false, .bool false, .int .i64 0, .int .u8 0, .int .u8 0, .int .u8 0, .int .u8 0, .int .u8 0, .int .u8 0, .int .u8 0, .int .u8 0] = fr9.val) := rfl
  have h5 : Hid (Value.agg #[.int .u32 5, .bool false, .bool false, .int .i64 0, .int .u8 0, .int .u8 0, .int .u8 0, .int .u8 0, .int .u8 0, .int .u8 0, .int .u8 0, .int .u8 0] = fr5'.val) := rfl
  have h7 : Hid (Value.agg #[.int .u32 7, .bool false, .bool false, .int .i64 0, .int .u8 0, .int .u8 0, .int .u8 0, .int .u8 0, .int .u8 0, .int .u8 0, .int .u8 0, .int .u8 0] = fr7.val) := rfl
  go_enter Try.func9, Try.ntmps9
  go_wp2_with fail
  refine hN.mono ?_
  rintro e w1 ⟨D, ao, cap, rfl, hD, A1, B1⟩
  have M1 : Mb w1 w.heap.size (.slice none 0 0) [] := World.ownsRow_nil _ _ _ _
  have hS := Send_ok fr9 A1 M1 B1.size (by decide +kernel) (by decide) (by decide) (by decide) (by decide)
  unfold Fr.val at *
  clear hN
  go_wp2_with fail
  refine (show Calls Try.prog 13 #[.pointer (some ⟨D, 0, none⟩), .agg fr9.arr] w1 _ from hS).mono ?_
  rintro e w2 ⟨rfl, v2, A2, M2, K2⟩
  have M2' : Mb w2 w.heap.size v2 [m9] := by
    have : upF ([] ++ [m9]) 0 = [m9] := upF_zero _
    rw [← this]; exact M2
  have B2 := B1.trans (K2.below5 hD B1.size)
  have hS2 := Send_ok fr5' A2 M2' B2.size (by decide +kernel) (by decide) (by decide) (by decide) (by decide)
  unfold Fr.val at *
  clear hS M2
  go_wp2_with fail
  refine (show Calls Try.prog 13 #[.pointer (some ⟨D, 0, none⟩), .agg fr5'.arr] w2 _ from hS2).mono ?_
  rintro e w3 ⟨rfl, v3, A3, M3, K3⟩
  have M3' : Mb w3 w.heap.size v3 [m5, m9] := by
    rw [← up_two]; exact M3
  have B3 := B2.trans (K3.below5 hD B2.size)
  have hNx := Next_some A3 M3' (by simp)
  unfold Fr.val at *
  clear hS2 M3 K2 K3 M2' A1 A2 M1
  go_wp2_with fail
  refine hNx.mono ?_
  rintro e w4 ⟨rfl, b4⟩
  have B4 := B3.trans (b4.mono B3.size)
  have gn := Fa.new w4 Fr.nul
  have g5 := gn.row fr5'.plain
  have bb : Below w4.heap.size w4 ((w4.alloc (.cells Fr.nul.arr 45)).setRow w4.heap.size fr5'.plain.arr) := below_row ((Below.refl _ w4).alloc (Nat.le_refl _) _) (Nat.le_refl _) (by rw [size_alloc]; omega) _
  have B5 := B4.trans (bb.mono B4.size)
  have A5 : Dr D _ ((w4.alloc (.cells Fr.nul.arr 45)).setRow w4.heap.size fr5'.plain.arr) := (bb.block D (Nat.lt_of_lt_of_le (Array.getElem?_eq_some_iff.1 A3).1 b4.size)).trans ((b4.block D (Array.getElem?_eq_some_iff.1 A3).1).trans A3)
  have hT := Take_ok (B := w.heap.size) fr7 A5 (cs := []) (World.ownsRow_nil _ _ _ _) B5.size (by decide +kernel) (by decide) (by decide)
  have c0 : ((w4.alloc (.cells Fr.nul.arr 45)).setRow w4.heap.size fr5'.plain.arr).cell? ⟨w4.heap.size, 0, none⟩ = some (.int .u32 5) := (Lib.cell_of_heap g5 0).trans rfl
  have hm5 : m5.f.arr = fr5'.plain.arr := rfl
  unfold Fr.val at *
  clear hNx b4 M3' A3
  generalize hW5 : (w4.alloc (.cells Fr.nul.arr 45)).setRow w4.heap.size fr5'.plain.arr = w5 at *
  go_upto_region 7 with (refine gn.sd fr5'.plain rfl _ _ rfl rfl rfl ?_)
  clear gn hW5 g5 A5
  go_wp2_with fail
  refine (show Calls Try.prog 18 #[.pointer (some ⟨D, 0, none⟩), .agg fr7.arr] w5 _ from hT).mono ?_
  rintro e w6 ⟨rfl, x, vc', w7, bx, gx, _, rfl⟩
  have B6 : Below w.heap.size w (w7.setCell ⟨D, 4, none⟩ vc') := by
    refine Below.setCell (p := ⟨D, 4, none⟩) ((B5.trans (bx.mono B5.size)).trans ⟨gx.os, gx.tape, gx.output, gx.size, fun k hk => gx.block k ?_ (by simp [Value.ownBlock])⟩) hD _
    have := B5.size; have := bx.size; omega
  clear hT bx gx B5
  go_wp2
  go_ret
  exact ⟨rfl, B6⟩
end Go.Proofs.Ytfddoindcmdooaa
namespace Go.Proofs.Ytfddoindcmdooaa
open Go.RowKit Go.Proofs.Bits
set_option linter.unusedVariables false
set_option maxRecDepth 1000000
set_option linter.unusedSimpArgs false

set_option maxHeartbeats 1000000 in
theorem New_fil {v : Value} {l : List Fi} (bx rm : Int) (h1 : 1 ≤ bx) (h2 : bx ≤ 64) (h3 : 1 ≤ rm) (h4 : rm ≤ 64) (w : World) (hl : l.length ≤ 32) (hS : FiIn w v l) :
    Calls Try.prog 7 #[.int .i64 bx, .int .i64 rm, v] w fun e w' => ∃ D g gs, e = .returned (.tuple #[.pointer (some ⟨D, 0, none⟩), .int .i64 0]) ∧ w.heap.size ≤ D ∧ Dr D (dA bx (.slice none 0 0) 0 rm (.slice none 0 0) 0 (.slice (some ⟨g, 0, none⟩) l.length l.length)) w' ∧ FiS w' (.slice (some ⟨g, 0, none⟩) l.length l.length) gs l ∧ Below w.heap.size w w' := by
  have hF1 := fits_ok bx h1 h2 w
  have hF2 := fits_ok rm h3 h4 w
  have hFi := filtersOf_any hl hS
  have hgt : decide ((32 : Int) < (l.length : Int)) = false := by simp; omega
  obtain ⟨ao, cap, rfl, _⟩ := hS
  go_enter Try.func7, Try.ntmps7
  go_wp2_with fail
  refine hF1.mono ?_
  rintro e w1 ⟨rfl, rfl⟩
  clear hF1
  go_wp2_with fail
  refine hF2.mono ?_
  rintro e w2 ⟨rfl, rfl⟩
  clear hF2
  go_wp2_with fail
  refine hFi.mono ?_
  rintro e w3 ⟨⟨g, gs, rfl, FS⟩, b3⟩
  have HX : Hid (Dr w3.heap.size (dA bx (.slice none 0 0) 0 rm (.slice none 0 0) 0 (.slice (some ⟨g, 0, none⟩) l.length l.length)) (w3.alloc (.cells (dA bx (.slice none 0 0) 0 rm (.slice none 0 0) 0 (.slice (some ⟨g, 0, none⟩) l.length l.length)) 68))) := heap_alloc_new w3 _
  have HB : Hid (∀ o, Below _ _ (w3.alloc o)) := fun o => b3.alloc b3.size o
  have HFS : Hid (∀ o, FiS (w3.alloc o) (.slice (some ⟨g, 0, none⟩) l.length l.length) gs l) := fun o => FS.below ((Below.refl _ _).alloc (Nat.le_refl _) _)
  have hs := b3.size
  clear hFi b3 FS
  go_wp2
  go_ret2
  exact ⟨w3.heap.size, g, gs, rfl, hs, HX.out, HFS.out _, HB.out _⟩
def pasV (l : List Fi) (f : Fr) : Bool := (f.chk == 0) && (decide (l.length = 0) || l.any (fiB · f))
set_option maxHeartbeats 1000000 in
theorem Passes_any {w : World} {D : Nat} {v vc : Value} {g : Nat} {gs : List Nat} {l : List Fi} {bx tk rm lo : Int} (f : Fr) (hl : l.length ≤ 32) (hA : Dr D (dA bx v tk rm vc lo (.slice (some ⟨g, 0, none⟩) l.length l.length)) w) (hS : FiS w (.slice (some ⟨g, 0, none⟩) l.length l.length) gs l) :
    Calls Try.prog 19 #[.pointer (some ⟨D, 0, none⟩), .agg f.arr] w fun e w' => e = .returned (.bool (pasV l f)) ∧ Below w.heap.size w w' := by
  obtain ⟨wa, hwa⟩ : ∃ wa, w.alloc (.cells f.arr 45) = wa := ⟨_, rfl⟩
  have ba : Below w.heap.size w wa := by rw [← hwa]; exact (Below.refl _ _).alloc (Nat.le_refl _) _
  have fa : Fa w.heap.size f wa := by rw [← hwa]; exact Fa.new w f
  have hC := fCheck_any f wa
  have HV : Hid (pasV l f = ((f.chk == 0) && (decide (l.length = 0) || l.any (fiB · f)))) := rfl
  have hmf := hmf5
  obtain ⟨q, hq⟩ : ∃ q, w.heap.size = q := ⟨_, rfl⟩
  have lD : D < q := by rw [← hq]; exact (Array.getElem?_eq_some_iff.1 hA).1
  have sa : w.heap.size ≤ wa.heap.size := ba.size
  rw [hq] at fa
  unfold Fr.val at *
  generalize pasV l f = V at *
  generalize hz0 : f.chk = z at *
  by_cases hz : z = 0
  · have d1 : (z != 0) = false := by simpa using hz
    have HE : Hid (V = (decide (l.length = 0) || l.any (fiB · f))) := by show _ = _; rw [HV.out, hz]; rfl
    clear HV hz hz0
    go_enter Try.func19, Try.ntmps19
    go_upto_region 1 with fail
    go_wp2_with (refine fa.ld rfl _ rfl rfl ?_)
    refine hC.mono ?_
    rintro e w2 ⟨rfl, b2⟩
    have B2 : Below w.heap.size w w2 := ba.trans (b2.mono sa)
    have f2 := fa.below5 b2
    have A2 : Dr D _ w2 := (B2.block D (by omega)).trans hA
    have c6 := A2.cell (k := 6) (v := .slice (some ⟨g, 0, none⟩) l.length l.length) rfl
    have hCF := CFf_any f hl (hS.below B2) f2
    clear hC A2 fa
    by_cases hl0 : l.length = 0
    · have d2 : ((l.length : Int) == 0) = true := by rw [hl0]; rfl
      have HE2 : Hid (V = true) := by show _ = _; rw [HE.out, decide_eq_true hl0]; rfl
      clear HE hl0 hCF
      go_wp2
      go_ret
      exact ⟨ret_bool HE2.out.symm, B2⟩
    · have d2 : ((l.length : Int) == 0) = false := by rw [beq_eq_false_iff_ne]; omega
      have HE2 : Hid (V = l.any (fiB · f)) := by show _ = _; rw [HE.out, decide_eq_false hl0]; rfl
      clear HE hl0
      generalize l.any (fiB · f) = A at *
      go_wp2_with fail
      refine hCF.mono ?_
      rintro e w4 ⟨rfl, b4⟩
      have B4 := B2.trans (b4.mono B2.size)
      clear hCF
      go_wp2
      go_ret
      exact ⟨ret_bool HE2.out.symm, B4⟩
  · have d1 : (z != 0) = true := by simpa using hz
    have HE : Hid (V = false) := by show _ = _; rw [HV.out, show (z == 0) = false by simpa using hz]; rfl
    clear HV hz hz0
    go_enter Try.func19, Try.ntmps19
    go_upto_region 1 with fail
    go_wp2_with (refine fa.ld rfl _ rfl rfl ?_)
    refine hC.mono ?_
    rintro e w2 ⟨rfl, b2⟩
    have B2 : Below w.heap.size w w2 := ba.trans (b2.mono sa)
    clear hC fa
    go_wp2
    go_ret
    exact ⟨ret_bool HE.out.symm, B2⟩
end Go.Proofs.Ytfddoindcmdooaa
namespace Go.Proofs.Ytfddoindcmdooaa
open Go.RowKit Go.Proofs.Bits
set_option linter.unusedVariables false
set_option maxRecDepth 1000000
set_option linter.unusedSimpArgs false

/-- A driver: mailboxes, room, tickets, what was lost, its heap, its queue, its filters. -/
structure Dv where
  bx : Int
  rm : Int
  tk : Int
  lo : Int
  ms : List Ml
  cs : List Fr
  l : List Fi
abbrev filV (g n : Nat) : Value := .slice (some ⟨g, 0, none⟩) n n
/-- Filters that lay in a world of D blocks, and since then nothing below D changed. -/
def FilK (D : Nat) (l : List Fi) (v : Value) (w : World) : Prop := ∃ (w0 : World) (gs : List Nat), w0.heap.size = D ∧ FiS w0 v gs l ∧ Below D w0 w
theorem FilK.below {D : Nat} {l : List Fi} {v : Value} {w w' : World} (h : FilK D l v w) (hb : Below D w w') : FilK D l v w' := by
  obtain ⟨w0, gs, h1, h2, h3⟩ := h
  exact ⟨w0, gs, h1, h2, h3.trans hb⟩
theorem FilK.fis {D : Nat} {l : List Fi} {v : Value} {w : World} (h : FilK D l v w) : ∃ gs, FiS w v gs l := by
  obtain ⟨w0, gs, h1, h2, h3⟩ := h
  exact ⟨gs, h2.below (by rw [h1]; exact h3)⟩
abbrev Qu (w : World) (B : Nat) (v : Value) (cs : List Fr) : Prop := w.ownsRow B 45 12 v cs.length (flatW DF cs)
/-- The driver s lies at D: vm its mailboxes, vc its queue. -/
structure DvW (D : Nat) (s : Dv) (vm vc : Value) (w : World) : Prop where
  at' : ∃ g, Dr D (dA s.bx vm s.tk s.rm vc s.lo (filV g s.l.length)) w ∧ FilK D s.l (filV g s.l.length) w
  mb : Mb w D vm s.ms
  qu : Qu w D vc s.cs
  b0 : (s.ms.length : Int) ≤ s.bx
  b1 : s.bx ≤ 64
  r0 : (s.cs.length : Int) ≤ s.rm
  r1 : s.rm ≤ 64
  l0 : s.l.length ≤ 32
  t0 : 0 ≤ s.tk
/-- Nothing changes but block D, blocks of mails, and the queue. -/
structure Kz (D : Nat) (vc vc' : Value) (w w' : World) : Prop where
  os : w'.os = w.os
  tape : w'.tape = w.tape
  output : w'.output = w.output
  size : w.heap.size ≤ w'.heap.size
  low : ∀ k, k < D → k < w.heap.size → w'.heap[k]? = w.heap[k]?
  typ : ∀ k A T fr, T ≠ 73 → k ≠ D → vc.ownBlock ≠ some k → w.heap[k]? = some (.cells A T fr) → w'.heap[k]? = some (.cells A T fr)
  news : ∀ k, k < w.heap.size → vc'.ownBlock = some k → vc.ownBlock = some k
theorem Kz.below {D : Nat} {vc : Value} {w w' : World} (hb : Below w.heap.size w w') : Kz D vc vc w w' :=
  ⟨hb.os, hb.tape, hb.output, hb.size, fun k _ hs => hb.block k hs, fun k A T fr _ _ _ h => (hb.block k (Array.getElem?_eq_some_iff.1 h).1).trans h, fun _ _ h => h⟩
theorem Kz.trans {D : Nat} {a b c : Value} {w x y : World} (h1 : Kz D a b w x) (h2 : Kz D b c x y) : Kz D a c w y :=
  ⟨h2.os.trans h1.os, h2.tape.trans h1.tape, h2.output.trans h1.output, Nat.le_trans h1.size h2.size,
   fun k hk hs => (h2.low k hk (Nat.lt_of_lt_of_le hs h1.size)).trans (h1.low k hk hs),
   fun k A T fr ht hd hv h => h2.typ k A T fr ht hd (fun e => hv (h1.news k (Array.getElem?_eq_some_iff.1 h).1 e)) (h1.typ k A T fr ht hd hv h),
   fun k hk e => h1.news k hk (h2.news k (Nat.lt_of_lt_of_le hk h1.size) e)⟩
theorem Kz.kd {D : Nat} {vc : Value} {w w' : World} (h : Kd D D w w') : Kz D vc vc w w' :=
  ⟨h.os, h.tape, h.output, h.size, fun k hk hs => h.low k hk (by omega) hs, fun k A T fr ht hd _ hc => h.typ k A T fr ht hd hc, fun _ _ e => e⟩
theorem Kz.belowD {D : Nat} {a b : Value} {w w' : World} (h : Kz D a b w w') (hD : D ≤ w.heap.size) : Below D w w' :=
  ⟨h.os, h.tape, h.output, h.size, fun k hk => h.low k hk (by omega)⟩
theorem DvW.lt {D : Nat} {s : Dv} {vm vc : Value} {w : World} (h : DvW D s vm vc w) : D < w.heap.size := by
  obtain ⟨g, h1, _⟩ := h.at'
  exact (Array.getElem?_eq_some_iff.1 h1).1
theorem DvW.quNe {D : Nat} {s : Dv} {vm vc : Value} {w : World} (h : DvW D s vm vc w) : vc.ownBlock ≠ some D := by
  obtain ⟨g, h1, _⟩ := h.at'
  exact own_typ h.qu h1 (by decide)
theorem DvW.below {D : Nat} {s : Dv} {vm vc : Value} {w w' : World} (h : DvW D s vm vc w) (hb : Below w.heap.size w w') : DvW D s vm vc w' := by
  have hl := h.lt
  obtain ⟨⟨g, h1, h2⟩, h3, h4, h5, h6, h7, h8, h9, h10⟩ := h
  exact ⟨⟨g, (hb.block D hl).trans h1, h2.below (hb.mono (by omega))⟩, own_below5 h3 hb, own_below5 h4 hb, h5, h6, h7, h8, h9, h10⟩
theorem fits_no (z : Int) (h : ¬ (1 ≤ z ∧ z ≤ 64)) (w : World) : Calls Try.prog 21 #[.int .i64 z] w fun e w' => e = .returned (.bool false) ∧ w' = w := by
  by_cases h1 : 1 ≤ z
  · have d1 : decide (1 ≤ z) = true := by simpa using h1
    have d2 : decide (z ≤ 64) = false := by simp; omega
    go_enter Try.func21, Try.ntmps21
    go_wp2
    go_ret
    exact ⟨rfl, rfl⟩
  · have d1 : decide (1 ≤ z) = false := by simp; omega
    go_enter Try.func21, Try.ntmps21
    go_wp2
    go_ret
    exact ⟨rfl, rfl⟩
set_option maxHeartbeats 1000000 in
theorem New_arg (bx rm : Int) (v : Value) (h : ¬ (1 ≤ bx ∧ bx ≤ 64) ∨ ¬ (1 ≤ rm ∧ rm ≤ 64)) (w : World) :
    Calls Try.prog 7 #[.int .i64 bx, .int .i64 rm, v] w fun e w' => e = .returned (.tuple #[.pointer none, .int .i64 1]) ∧ w' = w := by
  by_cases h1 : 1 ≤ bx ∧ bx ≤ 64
  · have hF1 := fits_ok bx h1.1 h1.2 w
    have hF2 := fits_no rm (by rcases h with h | h; exact (h h1).elim; exact h) w
    clear h h1
    go_enter Try.func7, Try.ntmps7
    go_wp2_with fail
    refine hF1.mono ?_
    rintro e w1 ⟨rfl, rfl⟩
    clear hF1
    go_wp2_with fail
    refine hF2.mono ?_
    rintro e w2 ⟨rfl, rfl⟩
    clear hF2
    go_wp2
    go_ret2
    exact ⟨rfl, rfl⟩
  · have hF1 := fits_no bx h1 w
    clear h h1
    go_enter Try.func7, Try.ntmps7
    go_wp2_with fail
    refine hF1.mono ?_
    rintro e w1 ⟨rfl, rfl⟩
    clear hF1
    go_wp2
    go_ret2
    exact ⟨rfl, rfl⟩
set_option maxHeartbeats 1000000 in
theorem New_long (bx rm : Int) (ao : Option Addr) (n cap : Nat) (h1 : 1 ≤ bx) (h2 : bx ≤ 64) (h3 : 1 ≤ rm) (h4 : rm ≤ 64) (hl : 32 < n) (w : World) :
    Calls Try.prog 7 #[.int .i64 bx, .int .i64 rm, .slice ao n cap] w fun e w' => e = .returned (.tuple #[.pointer none, .int .i64 2]) ∧ w' = w := by
  have hF1 := fits_ok bx h1 h2 w
  have hF2 := fits_ok rm h3 h4 w
  have hgt : decide ((32 : Int) < (n : Int)) = true := by simp; omega
  go_enter Try.func7, Try.ntmps7
  go_wp2_with fail
  refine hF1.mono ?_
  rintro e w1 ⟨rfl, rfl⟩
  clear hF1
  go_wp2_with fail
  refine hF2.mono ?_
  rintro e w2 ⟨rfl, rfl⟩
  clear hF2
  go_wp2
  go_ret2
  exact ⟨rfl, rfl⟩
set_option maxHeartbeats 1000000 in
theorem New_dv {v : Value} {l : List Fi} (bx rm : Int) (h1 : 1 ≤ bx) (h2 : bx ≤ 64) (h3 : 1 ≤ rm) (h4 : rm ≤ 64) (w : World) (hl : l.length ≤ 32) (hS : FiIn w v l) :
    Calls Try.prog 7 #[.int .i64 bx, .int .i64 rm, v] w fun e w' => ∃ D, e = .returned (.tuple #[.pointer (some ⟨D, 0, none⟩), .int .i64 0]) ∧ w.heap.size ≤ D ∧ DvW D ⟨bx, rm, 0, 0, [], [], l⟩ (.slice none 0 0) (.slice none 0 0) w' ∧ Below w.heap.size w w' := by
  have hF1 := fits_ok bx h1 h2 w
  have hF2 := fits_ok rm h3 h4 w
  have hFi := filtersOf_any hl hS
  have hgt : decide ((32 : Int) < (l.length : Int)) = false := by simp; omega
  obtain ⟨ao, cap, rfl, _⟩ := hS
  go_enter Try.func7, Try.ntmps7
  go_wp2_with fail
  refine hF1.mono ?_
  rintro e w1 ⟨rfl, rfl⟩
  clear hF1
  go_wp2_with fail
  refine hF2.mono ?_
  rintro e w2 ⟨rfl, rfl⟩
  clear hF2
  go_wp2_with fail
  refine hFi.mono ?_
  rintro e w3 ⟨⟨g, gs, rfl, FS⟩, b3⟩
  have HX : Hid (DvW w3.heap.size ⟨bx, rm, 0, 0, [], [], l⟩ (.slice none 0 0) (.slice none 0 0) (w3.alloc (.cells (dA bx (.slice none 0 0) 0 rm (.slice none 0 0) 0 (.slice (some ⟨g, 0, none⟩) l.length l.length)) 68))) :=
    ⟨⟨g, heap_alloc_new w3 _, w3, gs, rfl, FS, (Below.refl _ _).alloc (Nat.le_refl _) _⟩, World.ownsRow_nil _ _ _ _, World.ownsRow_nil _ _ _ _, by simp; omega, h2, by simp; omega, h4, hl, by simp⟩
  have HB : Hid (∀ o, Below _ _ (w3.alloc o)) := fun o => b3.alloc b3.size o
  have hs := b3.size
  clear hFi b3 FS
  go_wp2
  go_ret2
  exact ⟨w3.heap.size, rfl, hs, HX.out, HB.out _⟩
/-- Send, as a function. -/
def sendS (s : Dv) (f : Fr) : Dv × Int × Int :=
  if f.chk = 0 then if (s.ms.length : Int) = s.bx then (s, 0, 31) else ({ s with ms := upF (s.ms ++ [⟨f.plain, f.field, s.tk + 1⟩]) s.ms.length, tk := s.tk + 1 }, s.tk + 1, 0) else (s, 0, f.chk)
theorem upF_length (ms : List Ml) (k : Nat) : (upF ms k).length = ms.length := by
  induction ms, k using upF.induct with
  | case1 ms k hc hl ih => rw [upF_go hc.1 hc.2 hl, ih, swapM_length]
  | case2 ms k hc hl => rw [upF_stop hc.1 hc.2 (by simpa using hl)]
  | case3 ms k hc => rw [upF, dif_neg hc]
theorem Send_dv {w : World} {D : Nat} {s : Dv} {vm vc : Value} (f : Fr) (h : DvW D s vm vc w) (ht1 : s.tk < 4611686018427387904) :
    Calls Try.prog 13 #[.pointer (some ⟨D, 0, none⟩), f.val] w fun e w' => e = .returned (.tuple #[.int .i64 (sendS s f).2.1, .int .i64 (sendS s f).2.2]) ∧ ∃ vm', DvW D (sendS s f).1 vm' vc w' ∧ Kz D vc vc w w' := by
  have hlt := h.lt
  have hne := h.quNe
  have hh := h
  obtain ⟨⟨g, h1, h2⟩, h3, h4, h5, h6, h7, h8, h9, h10⟩ := h
  unfold sendS
  by_cases hf : f.chk = 0
  · rw [if_pos hf]
    by_cases hb : (s.ms.length : Int) = s.bx
    · rw [if_pos hb]
      obtain ⟨am, cm, rfl⟩ := own_shape5 h3
      refine (Send_full f h1 hf hb).mono ?_
      rintro e w' ⟨rfl, b⟩
      exact ⟨rfl, _, hh.below b, Kz.below b⟩
    · rw [if_neg hb]
      refine (Send_ok f h1 h3 (by omega) hf (by omega) h6 h10 ht1).mono ?_
      rintro e w' ⟨rfl, v', A, M, K⟩
      refine ⟨rfl, v', ⟨⟨g, A, h2.below (K.below5 (Nat.le_refl _) (by omega))⟩, M, own_kd K h4 (by decide) hne, ?_, h6, h7, h8, h9, ?_⟩, Kz.kd K⟩
      · show ((upF _ _).length : Int) ≤ s.bx
        rw [upF_length]; simp; omega
      · show 0 ≤ s.tk + 1
        omega
  · rw [if_neg hf]
    refine (Send_bad (w := w) (D := D) f hf).mono ?_
    rintro e w' ⟨rfl, b⟩
    exact ⟨rfl, _, hh.below b, Kz.below b⟩
/-- Done, as a function. -/
def doneS (s : Dv) : Dv × Bool := if h : 0 < s.ms.length then ({ s with ms := popF s.ms h }, true) else (s, false)
theorem Done_dv {w : World} {D : Nat} {s : Dv} {vm vc : Value} (h : DvW D s vm vc w) :
    Calls Try.prog 17 #[.pointer (some ⟨D, 0, none⟩)] w fun e w' => e = .returned (.bool (doneS s).2) ∧ ∃ vm', DvW D (doneS s).1 vm' vc w' ∧ Kz D vc vc w w' := by
  have hlt := h.lt
  have hne := h.quNe
  have hh := h
  obtain ⟨⟨g, h1, h2⟩, h3, h4, h5, h6, h7, h8, h9, h10⟩ := h
  unfold doneS
  by_cases h0 : 0 < s.ms.length
  · rw [dif_pos h0]
    refine (Done_some h1 h3 h0 (by omega)).mono ?_
    rintro e w' ⟨rfl, v', A, M, K⟩
    refine ⟨rfl, v', ⟨⟨g, A, h2.below (K.below5 (Nat.le_refl _) (by omega))⟩, M, own_kd K h4 (by decide) hne, ?_, h6, h7, h8, h9, h10⟩, Kz.kd K⟩
    show ((popF _ _).length : Int) ≤ s.bx
    rw [popF_len]; omega
  · rw [dif_neg h0]
    obtain ⟨am, cm, rfl⟩ := own_shape5 h3
    have e0 : s.ms.length = 0 := by omega
    rw [e0] at h1
    refine (Done_none h1).mono ?_
    rintro e w' ⟨rfl, rfl⟩
    exact ⟨rfl, _, hh, Kz.below (Below.refl _ _)⟩
set_option maxHeartbeats 1000000 in
theorem Waiting_dv {w : World} {D : Nat} {s : Dv} {vm vc : Value} (h : DvW D s vm vc w) :
    Calls Try.prog 10 #[.pointer (some ⟨D, 0, none⟩)] w fun e w' => e = .returned (.tuple #[.int .i64 s.ms.length, .int .i64 s.cs.length]) ∧ Below w.heap.size w w' := by
  obtain ⟨⟨g, h1, h2⟩, h3, h4, _⟩ := h
  obtain ⟨am, cm, rfl⟩ := own_shape5 h3
  obtain ⟨ac, cc, rfl⟩ := own_shape5 h4
  have c1 := h1.cell (k := 1) (v := .slice am s.ms.length cm) rfl
  have c4 := h1.cell (k := 4) (v := .slice ac s.cs.length cc) rfl
  clear h1 h2 h3 h4
  generalize s.ms.length = n at *
  generalize s.cs.length = m at *
  go_enter Try.func10, Try.ntmps10
  go_wp2_with fail
  go_quiet (fail)
  go_wp2
  go_ret2
  exact ⟨rfl, below_drawn (Below.refl _ _) _⟩
theorem Lost_dv {w : World} {D : Nat} {s : Dv} {vm vc : Value} (h : DvW D s vm vc w) :
    Calls Try.prog 11 #[.pointer (some ⟨D, 0, none⟩)] w fun e w' => e = .returned (.int .i64 s.lo) ∧ w' = w := by
  obtain ⟨⟨g, h1, h2⟩, h3, h4, _⟩ := h
  have c5 := h1.cell (k := 5) (v := .int .i64 s.lo) rfl
  clear h1 h2 h3 h4
  go_enter Try.func11, Try.ntmps11
  go_wp2
  go_ret
  exact ⟨rfl, rfl⟩
end Go.Proofs.Ytfddoindcmdooaa
namespace Go.Proofs.Ytfddoindcmdooaa
open Go.RowKit Go.Proofs.Bits
set_option linter.unusedVariables false
set_option maxRecDepth 1000000
theorem own_base {w : World} {B : Nat} {e : TypeId} {c n : Nat} {v : Value} {xs : List Value} (h : w.ownsRow B e c v n xs) {g : Nat} (hg : v.ownBlock = some g) : B ≤ g := by
  rcases h.2 with ⟨rfl, _⟩ | ⟨g', cap, cur, rfl, hB, hcur, _⟩
  · cases hg
  · cases hg; exact hB
theorem run_append_own2 {P : Program} (w : World) (base : Nat) (t ty e : TypeId) (i : TypeInfo) (z : Value) (size bytes : Nat) (ht : P.underlying t = some (.slice e)) (hi : P.info? e = some i) (hz : i.zero = some z)
    (hsize : i.size = size) (hby : i.bytes = bytes) (hzs : z.cells.size = size) (hsz : 0 < size)
    (v : Value) (n : Nat) (xs : List Value) (hown : w.ownsRow base e size v n xs)
    (a : Addr) (m c : Nat) (news : List Value) (hl : news.length = m * size) (hnews : ∀ j u, news[j]? = some u → w.cell? (a.add j) = some u) (h1 : ∀ u ∈ news, u.oneCell' = true)
    (h63 : n + m ≤ maxLen) (hbytes : (n + m) * bytes ≤ 140737488355328) (hbase : base ≤ w.heap.size) :
    ∃ v' w', (Builtin.append_ #[t, t] ty #[v, .slice (some a) m c]).run P w = .ok v' w' ∧ w'.ownsRow base e size v' (n + m) (xs ++ news) ∧ w.grownBy w' v.ownBlock ∧
      (v' = .slice none 0 0 ↔ v = .slice none 0 0 ∧ m = 0) ∧ ∀ k, k < w.heap.size → v'.ownBlock = some k → v.ownBlock = some k := by
  obtain ⟨v', w', hr, h2, h3, h4⟩ := run_append_own (P := P) w base t ty e i z size bytes ht hi hz hsize hby hzs hsz v n xs hown a m c news hl hnews h1 h63 hbytes hbase
  refine ⟨v', w', hr, h2, h3, h4, fun k hk hv => ?_⟩
  subst hsize hby
  rcases hown.2 with ⟨rfl, rfl⟩ | ⟨g, cap, cur, rfl, hbg, hg, hnc, hcm, hcs, htake⟩
  · have hx : xs = [] := List.eq_nil_of_length_eq_zero (by simpa using hown.1)
    subst hx
    obtain ⟨v2, w2, hr2, h5, _⟩ := run_append_own (P := P) w w.heap.size t ty e i z i.size i.bytes ht hi hz rfl rfl hzs hsz _ 0 [] (World.ownsRow_nil _ _ _ _) a m c news hl hnews h1 h63 hbytes (Nat.le_refl _)
    rw [hr] at hr2
    injection hr2 with e1 e2
    subst e1 e2
    have := own_base h5 hv
    omega
  · by_cases hroom : n + m ≤ cap
    · have hfit : n * i.size + news.length ≤ cur.size := by rw [hl, hcs, ← Nat.add_mul]; exact Nat.mul_le_mul_right _ hroom
      have hr2 := run_append_room (P := P) w t ty e i ht hi g n cap cur hg a m c news hl hnews h1 hroom hfit
      rw [hr] at hr2
      injection hr2 with e1 e2
      rw [e1] at hv
      exact hv
    · have holds : ∀ j u, xs[j]? = some u → w.cell? ((⟨g, 0, none⟩ : Addr).add j) = some u := hown.cells (g := g) rfl
      have hr2 := run_append_grow (P := P) w t ty e i z ht hi hz ⟨g, 0, none⟩ n cap xs hown.1 holds a m c news hl hnews (by omega) (by simp only [maxLen] at h63; omega) (growslice_fits (by omega) hbytes)
      rw [hr] at hr2
      injection hr2 with e1 e2
      rw [e1] at hv
      injection hv with hv
      have : w.heap.size = k := hv
      omega
theorem wp_append_own2 {P : Program} (w : World) {o : Oper} {a : Act} {K : Act → World → Prop} {Q : Exit → Act → World → Prop} (s x : Operand) (t : TypeId)
    (ho : o.op = .call { callee := .builtin .append, args := #[s, x], argTypes := #[t, t] })
    (base : Nat) (e : TypeId) (i : TypeInfo) (z : Value) (size bytes : Nat) (ht : P.underlying t = some (.slice e)) (hi : P.info? e = some i) (hz : i.zero = some z)
    (hsize : i.size = size) (hby : i.bytes = bytes) (hzs : z.cells.size = size) (hsz : 0 < size)
    (v : Value) (n : Nat) (xs : List Value) (hs : a.eval s = v) (hown : w.ownsRow base e size v n xs)
    (ad : Addr) (m c : Nat) (news : List Value) (hx : a.eval x = .slice (some ad) m c) (hl : news.length = m * size) (hnews : ∀ j u, news[j]? = some u → w.cell? (ad.add j) = some u) (h1 : ∀ u ∈ news, u.oneCell' = true)
    (h63 : n + m ≤ maxLen) (hbytes : (n + m) * bytes ≤ 140737488355328) (hbase : base ≤ w.heap.size)
    (h : ∀ v' w', w'.ownsRow base e size v' (n + m) (xs ++ news) → w.grownBy w' v.ownBlock → (∀ k, k < w.heap.size → v'.ownBlock = some k → v.ownBlock = some k) → K (a.put o.dst v') w') : o.wp P a w K Q := by
  obtain ⟨v', w', hr, h2, h3, _, h5⟩ := run_append_own2 (P := P) w base t o.type e i z size bytes ht hi hz hsize hby hzs hsz v n xs hown ad m c news hl hnews h1 h63 hbytes hbase
  unfold Oper.wp execOp
  simp only [ho, resolve, invoke, builtin, Sem.run_bind, Sem.run_pure, Result.andThen_ok, List.map_toArray, List.map_cons, List.map_nil, hs, hx, hr]
  exact h v' w' h2 h3 h5
end Go.Proofs.Ytfddoindcmdooaa
