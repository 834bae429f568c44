/- Contracts: Pack. -/
import Derived.Test.YthalhidebkhclaaPdJ
import Derived.Laws.MakeOwn
namespace Go.Proofs.Ythalhidebkhclaa
open Go.RowKit Go.Shelf Go.Proofs.Ty
set_option linter.unusedVariables false
set_option maxRecDepth 1000000
set_option linter.unusedSimpArgs false
attribute [local go_sem] Oper.semAt_some
/-- The bytes of a slot's entry. -/
def encL (its : List Im) (L : List Sl) (k : Nat) : List UInt8 := (getV its (L.getD k Sl.nul).ix (L.getD k Sl.nul).sb).enc
/-- The bytes when k slots are told. -/
def pkB (its : List Im) (L : List Sl) : Nat → List UInt8
  | 0 => List.replicate (off L L.length) 0
  | k + 1 => lay13 (pkB its L k) (off L k) (encL its L k)
/-- Values of numbers have the bytes of their types. -/
def Vn (its : List Im) : Prop := ∀ im ∈ its, im.e.mp = true → im.v.enc.length = siz im.e.df.t
theorem encL_len {its : List Im} {inn : Bool} {L : List Sl} (hv : Vn its) (h : ckC its inn L = 0) (k : Nat) (hk : k < L.length) : (encL its L k).length = off L (k + 1) - off L k := by
  obtain ⟨h1, h2, h3, h4⟩ := off_ask h k hk
  obtain ⟨im, hf, hmp, hb, _⟩ := ref_zero (ck_all h k hk).1
  have e := hv im (fnd_mem hf) hmp
  unfold encL getV
  rw [hf]
  show im.v.enc.length = _
  rw [e]
  omega
theorem pkB_len {its : List Im} {inn : Bool} {L : List Sl} (hv : Vn its) (h : ckC its inn L = 0) : ∀ k, k ≤ L.length → (pkB its L k).length = off L L.length
  | 0, _ => by simp [pkB]
  | k + 1, hk => by
    have e := pkB_len hv h k (by omega)
    have e2 := encL_len hv h k hk
    have e3 := off_mono h (L.length - (k + 1)) (k + 1) (by omega)
    have e4 := (off_ask h k hk).2.2.1
    rw [show k + 1 + (L.length - (k + 1)) = L.length by omega] at e3
    unfold pkB
    rw [lay13_len _ _ _ (by omega), e]
theorem slice13 (g n lo hi : Nat) (h1 : lo < hi) (h2 : hi ≤ n) (W : World) : (Instr.sliceAt 24 (.slice (some ⟨g, 0, none⟩) n n) (some (.int .i64 lo)) (some (.int .i64 hi)) none).run Try.prog W = .ok (.slice (some ⟨g, lo, none⟩) (hi - lo) (n - lo)) W := by
  obtain ⟨i0, hi0, hz0, hz1, hz2⟩ := info_parts info5
  have a0 : (0 : Int) ≤ (lo : Int) := by omega
  have a1 : (lo : Int) ≤ (hi : Int) := by omega
  have a2 : (hi : Int) ≤ (n : Int) := by omega
  have a3 : ¬ n = lo := by omega
  by_cases h0 : lo = 0
  · subst h0
    simp [Instr.sliceAt, run_underlying Try.underlying24, go_sem, sizeOf, typeInfo, hi0, hz1, Addr.add, a2]
  · simp [Instr.sliceAt, run_underlying Try.underlying24, go_sem, sizeOf, typeInfo, hi0, hz1, Addr.add, a0, a1, a2, a3, h0]
set_option maxRecDepth 100000 in
set_option maxHeartbeats 8000000 in
theorem pdPack_bad {D R : Nat} {its : List Im} {w : World} (h : Dct D R its w) (v : Value) (L : List Sl) (hWd : Wide 3 slC w v L) (hL : L.length ≤ 8796093022000) (hc : ckC its false L ≠ 0) :
    Calls Try.prog 10 #[.pointer (some ⟨D, 0, none⟩), v] w fun e w' => e = .returned (.tuple #[.slice none 0 0, .int .i64 1]) ∧ Below w.heap.size w w' := by
  obtain ⟨ao, cap, hv⟩ := hWd.shape
  obtain ⟨N, hN⟩ : ∃ N, L.length = N := ⟨_, rfl⟩
  rw [hN] at hv
  subst hv
  obtain ⟨q, hq⟩ : ∃ q, w.heap.size = q := ⟨_, rfl⟩
  obtain ⟨w1, hw1⟩ : ∃ x, w.alloc (.cells #[.pointer (some ⟨D, 0, none⟩)] 31) = x := ⟨_, rfl⟩
  have s1 : w1.heap.size = q + 1 := by rw [← hw1, size_alloc, hq]
  have b1 : Below w.heap.size w w1 := by rw [← hw1]; exact (Below.refl _ w).alloc (Nat.le_refl _) _
  have x1 : w1.heap[q]? = some (.cells #[.pointer (some ⟨D, 0, none⟩)] 31 (0, 0)) := by rw [← hw1, ← hq]; exact heap_alloc_new w _
  have c1 : w1.cell? ⟨q, 0, none⟩ = some (.pointer (some ⟨D, 0, none⟩)) := Lib.cell_of_heap x1 0
  have hCk := pdCheck_any (h.below b1) (.slice ao N cap) L (hWd.same b1.size (fun b _ hl => b1.block b hl)) hL false
  obtain ⟨cc, hcc⟩ : ∃ c, ckC its false L = c := ⟨_, rfl⟩
  rw [hcc] at hCk hc
  have d1 : ((cc : Int) != 0) = true := by simp; omega
  have HB1 := hidOf b1
  clear hcc h hWd b1 x1 hN
  refine (callsIn_wide (n := 4)).1 ?_
  refine callsIn_of_wp_marks Try.func10 rfl trivial ?_ rfl
  simp only [Try.ntmps10, List.size_toArray, List.length_cons, List.length_nil, Nat.reduceAdd, Nat.reduceSub, Array.replicate_succ, Array.replicate_zero, List.push_toArray, List.append_toArray, List.nil_append, List.cons_append]
  gi_wp2_with (refine ⟨trivial, ?_⟩; gi_at_call 18; refine (callsIn_wide.2 hCk).mono ?_; rintro e X3 ⟨rfl, b3⟩; have HB3 := hidOf b3; clear b3)
  refine ⟨.tuple #[.slice none 0 0, .int .i64 1], by simp [Go.results, Try.results10, go_sem], rfl, ?_⟩
  exact HB1.out.trans (HB3.out.mono HB1.out.size)
theorem made13 (n : Nat) (hn : n ≤ 8) : madeCells #[.int .u8 0] n = (Lib.byteCells (List.replicate n 0)).toArray := by
  apply Array.ext
  · simp [size_madeCells, Lib.byteCells]
  · intro i h1 h2
    simp [madeCells, Nat.mod_one, Lib.byteCells]
theorem makeB (n : Nat) (hn : n ≤ 8) (W : World) : (Instr.makeSlice 24 (.int .i64 (n : Int)) (.int .i64 (n : Int))).run Try.prog W = .ok (.slice (some ⟨W.heap.size, 0, none⟩) n n) (W.alloc (.cells (Lib.byteCells (List.replicate n 0)).toArray 5)) := by
  obtain ⟨i0, hi0, hz0, hz1, hz2⟩ := info_parts info5
  have := run_make (P := Try.prog) W 24 5 i0 (.int .u8 0) Try.underlying24 hi0 hz0 .i64 .i64 n n (by omega) (Int.le_refl _) (by rw [hz2]; omega) (by omega)
  rw [hz1, Int.toNat_natCast, Nat.mul_one] at this
  rw [this, show (Value.int .u8 0).cells = #[.int .u8 0] from rfl, made13 n hn]
theorem off_lt {its : List Im} {inn : Bool} {L : List Sl} (hm : Mn its) (h : ckC its inn L = 0) (k : Nat) (hk : k < L.length) : off L k < off L (k + 1) := by
  obtain ⟨h1, h2, _, _⟩ := off_ask h k hk
  obtain ⟨im, hf, hmp, hb, _⟩ := ref_zero (ck_all h k hk).1
  have := hm im (fnd_mem hf) hmp
  omega
/-- What stands between two rounds of Pack. -/
structure Pk (w : World) (q D g : Nat) (bs : List UInt8) (W : World) : Prop where
  b0 : W.heap[q]? = some (.cells #[.pointer (some ⟨D, 0, none⟩)] 31 (0, 0))
  bk : Bk g bs W
  old : Below w.heap.size w W
  sz : g + 3 ≤ W.heap.size
theorem Pk.grown {w A W : World} {q D g B : Nat} {bs : List UInt8} {row : Option Nat} (h : Pk w q D g bs A) (hB : w.heap.size ≤ B) (hg : A.grownBy W row) (hr : ∀ r, row = some r → B ≤ r ∧ ∃ o : Obj, A.heap[r]? = some o ∧ o.isCells = false) : Pk w q D g bs W := by
  have hr2 := fun r e => (hr r e).2
  exact ⟨(grown_cells h.b0 hg hr2).trans h.b0, (grown_cells h.bk hg hr2).trans h.bk, below_grown h.old hB hg (fun r e => (hr r e).1), Nat.le_trans h.sz hg.size⟩
theorem Pk.below {w A W : World} {q D g : Nat} {bs : List UInt8} (h : Pk w q D g bs A) (hb : Below A.heap.size A W) : Pk w q D g bs W :=
  ⟨(hb.block q (Array.getElem?_eq_some_iff.1 h.b0).1).trans h.b0, (hb.block g (Array.getElem?_eq_some_iff.1 h.bk).1).trans h.bk, h.old.trans (hb.mono h.old.size), Nat.le_trans h.sz hb.size⟩
set_option maxRecDepth 100000 in
set_option maxHeartbeats 8000000 in
theorem pdPack_ok {D R : Nat} {its : List Im} {w : World} (h : Dct D R its w) (v : Value) (L : List Sl) (hWd : Wide 3 slC w v L) (hL : L.length ≤ 8796093022000) (hc : ckC its false L = 0) (hm : Mn its) (hvn : Vn its) :
    Calls Try.prog 10 #[.pointer (some ⟨D, 0, none⟩), v] w fun e w' => ∃ g, e = .returned (.tuple #[.slice (some ⟨g, 0, none⟩) (szC L) (szC L), .int .i64 0]) ∧ Below w.heap.size w w' ∧ w.heap.size ≤ g ∧ Bk g (pkB its L L.length) w' := by
  obtain ⟨ao, cap, hv⟩ := hWd.shape
  obtain ⟨N, hN⟩ : ∃ N, L.length = N := ⟨_, rfl⟩
  rw [hN] at hv
  subst hv
  obtain ⟨q, hq⟩ : ∃ q, w.heap.size = q := ⟨_, rfl⟩
  obtain ⟨w1, hw1⟩ : ∃ x, w.alloc (.cells #[.pointer (some ⟨D, 0, none⟩)] 31) = x := ⟨_, rfl⟩
  have s1 : w1.heap.size = q + 1 := by rw [← hw1, size_alloc, hq]
  have b1 : Below w.heap.size w w1 := by rw [← hw1]; exact (Below.refl _ w).alloc (Nat.le_refl _) _
  have x1 : w1.heap[q]? = some (.cells #[.pointer (some ⟨D, 0, none⟩)] 31 (0, 0)) := by rw [← hw1, ← hq]; exact heap_alloc_new w _
  have c1 : w1.cell? ⟨q, 0, none⟩ = some (.pointer (some ⟨D, 0, none⟩)) := Lib.cell_of_heap x1 0
  have hCk := pdCheck_any (h.below b1) (.slice ao N cap) L (hWd.same b1.size (fun b _ hl => b1.block b hl)) hL false
  rw [hc] at hCk
  have hSz : ∀ X, Below w.heap.size w X → Calls Try.prog 14 #[.slice ao N cap] X fun e w' => e = .returned (.int .i64 (szC L : Nat)) ∧ Below X.heap.size X w' := fun X hX => pdSize_any (.slice ao N cap) L (hWd.same hX.size (fun b _ hl => hX.block b hl)) hL
  have HSZ := hidOf hSz
  have hs8 : szC L ≤ 8 := by rw [sz_off hm hc]; exact (en_off hc _ (Nat.le_refl _)).2.1
  obtain ⟨m, hm1⟩ : ∃ m, szC L = m := ⟨_, rfl⟩
  rw [hm1] at hs8 ⊢
  have HM := hidOf hm1
  have HC := hidOf hc
  have HB1 := hidOf b1
  have HX1 := hidOf x1
  have HD := hidOf h
  have HWD := hidOf hWd
  have HN := hidOf hN
  have HMN := hidOf hm
  have HVN := hidOf hvn
  clear h hWd b1 x1 hN hc hm hvn hSz hm1
  refine (callsIn_wide (n := 4)).1 ?_
  refine callsIn_of_wp_marks Try.func10 rfl trivial ?_ rfl
  simp only [Try.ntmps10, List.size_toArray, List.length_cons, List.length_nil, Nat.reduceAdd, Nat.reduceSub, Array.replicate_succ, Array.replicate_zero, List.push_toArray, List.append_toArray, List.nil_append, List.cons_append]
  gi_wp2_with (refine ⟨trivial, ?_⟩; first | (gi_at_call 18; refine (callsIn_wide.2 hCk).mono ?_; rintro e X3 ⟨rfl, b3⟩; have HB3 := hidOf (HB1.out.trans (b3.mono HB1.out.size)); have HQ3 := hidOf ((b3.block q (by omega)).trans HX1.out); have hS3 := HSZ.out X3 HB3.out; clear b3) | (gi_at_call 14; refine (callsIn_wide.2 hS3).mono ?_; rw [HM.out]; rintro e X4 ⟨rfl, b4⟩; have HB4 := hidOf (HB3.out.trans (b4.mono HB3.out.size)); have HQ4 := hidOf ((b4.block q (Array.getElem?_eq_some_iff.1 HQ3.out).1).trans HQ3.out); have hmk := makeB m hs8 X4; clear b4) | (gi_at_call 19; refine (pieces_in Fence.wide 3 trivial rfl _ _ _ _ _ _ _).mono ?_; rintro e w' ⟨rfl, rfl⟩))
  have s4 := HB4.out.size
  obtain ⟨g, hg⟩ : ∃ g, X4.heap.size = g := ⟨_, rfl⟩
  rw [hg] at s4
  obtain ⟨v1, hv1⟩ : ∃ x, X4.alloc (.cells (Lib.byteCells (List.replicate m 0)).toArray 5) = x := ⟨_, rfl⟩
  obtain ⟨v2, hv2⟩ : ∃ x, v1.alloc (.cells #[.slice ao N cap] 23) = x := ⟨_, rfl⟩
  obtain ⟨w5, hw5⟩ : ∃ x, v2.alloc (.cells #[.slice (some ⟨g, 0, none⟩) m m] 24) = x := ⟨_, rfl⟩
  rw [hg, hv1, hv2, hw5]
  have sv1 : v1.heap.size = g + 1 := by rw [← hv1, size_alloc, hg]
  have sv2 : v2.heap.size = g + 2 := by rw [← hv2, size_alloc, sv1]
  have s5 : w5.heap.size = g + 3 := by rw [← hw5, size_alloc, sv2]
  have bv1 : Below X4.heap.size X4 v1 := by rw [← hv1]; exact (Below.refl _ _).alloc (Nat.le_refl _) _
  have bv2 : Below v1.heap.size v1 v2 := by rw [← hv2]; exact (Below.refl _ _).alloc (Nat.le_refl _) _
  have bv3 : Below v2.heap.size v2 w5 := by rw [← hw5]; exact (Below.refl _ _).alloc (Nat.le_refl _) _
  have C5 : Below X4.heap.size X4 w5 := (bv1.trans (bv2.mono bv1.size)).trans (bv3.mono (bv1.trans (bv2.mono bv1.size)).size)
  have B5 : Below w.heap.size w w5 := HB4.out.trans (C5.mono HB4.out.size)
  have hqX := (Array.getElem?_eq_some_iff.1 HQ4.out).1
  have y0 : w5.heap[q]? = some (.cells #[.pointer (some ⟨D, 0, none⟩)] 31 (0, 0)) := (C5.block q hqX).trans HQ4.out
  have y1 : Bk g (List.replicate m 0) w5 := (bv3.block g (by omega)).trans ((bv2.block g (by omega)).trans (by rw [← hv1, ← hg]; exact heap_alloc_new X4 _))
  have y2 : w5.heap[g + 1]? = some (.cells #[.slice ao N cap] 23 (0, 0)) := (bv3.block (g + 1) (by omega)).trans (by rw [← hv2, ← sv1]; exact heap_alloc_new v1 _)
  have y3 : w5.heap[g + 2]? = some (.cells #[.slice (some ⟨g, 0, none⟩) m m] 24 (0, 0)) := by rw [← hw5, ← sv2]; exact heap_alloc_new v2 _
  have hNL := HN.out
  have hmo : m = off L L.length := by rw [← HM.out]; exact sz_off HMN.out HC.out
  have hle : ∀ k, k < N → off L (k + 1) ≤ m := fun k hk => by
    have := off_mono HC.out (L.length - (k + 1)) (k + 1) (by omega)
    rw [show k + 1 + (L.length - (k + 1)) = L.length by omega] at this
    omega
  have hseq := pieces_seqN (g + 1) (g + 2) ao (some ⟨g, 0, none⟩) N cap m m L hNL hL (off L) (fun k => .slice (some ⟨g, off L k, none⟩) (off L (k + 1) - off L k) (m - off L k)) w5 y2 y3 (HWD.out.same B5.size (fun b _ hl => B5.block b hl)) (fun k hk => off_ask HC.out k (by omega)) (fun k hk W => slice13 g m (off L k) (off L (k + 1)) (off_lt HMN.out HC.out k (by omega)) (hle k hk) W)
  have hOB : ∀ b, (Value.slice ao N cap).ownBlock = some b → 0 < L.length → b < q := fun b hb h0 => by
    obtain ⟨ao', cap', he, _, hc⟩ := HWD.out
    injection he with he
    obtain ⟨b', off, ha, hlt, _⟩ := hc 0 h0
    rw [he, ha] at hb
    simp [Value.ownBlock] at hb
    omega
  have hBl : ∀ b ∈ bks (g + 2) (.slice ao N cap) L.length, b < g + 3 ∧ b ≠ g := fun b hb => by
    unfold bks at hb
    simp only [List.mem_cons] at hb
    rcases hb with rfl | hb
    · omega
    · split at hb
      · have := hOB b (by simpa using hb) (by assumption)
        omega
      · cases hb
  refine rf_over (gf := 36) (lb := #[.pointer (some ⟨g + 1, 0, none⟩), .pointer (some ⟨g + 2, 0, none⟩)]) rfl (enters_of Try.func36 (by kernel_rfl) rfl) hseq (fun _ => rfl) (fun b hb => by rw [s5]; exact (hBl b hb).1)
    (fun k X => Pk w q D g (pkB its L k) X) (fun _ _ => False) ?hI ?hIx ?h0 ?round ?done ?stop
  case hI => exact fun k A B row hs hg hr => hs.grown (B := w5.heap.size) (by omega) hg hr
  case hIx => exact fun k A B row hs hg hr => hs
  case h0 => exact ⟨y0, by show Bk g (List.replicate (off L L.length) 0) w5; rw [← hmo]; exact y1, B5, by omega⟩
  case round =>
    rintro l' k X hP hk hl hlX
    obtain ⟨s, hs⟩ : ∃ s, L.getD k Sl.nul = s := ⟨_, rfl⟩
    obtain ⟨X1, hX1⟩ : ∃ x, X.alloc (.cells #[.int .u16 (s.ix : Int), .int .u8 (s.sb : Int), .int .i64 s.bt] 47) = x := ⟨_, rfl⟩
    have b9 : Below X.heap.size X X1 := by rw [← hX1]; exact (Below.refl _ _).alloc (Nat.le_refl _) _
    have hz : Sb X.heap.size s X1 := by rw [← hX1]; exact heap_alloc_new X _
    have sX1 : X1.heap.size = X.heap.size + 1 := by rw [← hX1, size_alloc]
    have hXs : g + 3 < X.heap.size := by omega
    obtain ⟨o1, ho1⟩ : ∃ o, off L k = o := ⟨_, rfl⟩
    obtain ⟨o2, ho2⟩ : ∃ o, off L (k + 1) - off L k = o := ⟨_, rfl⟩
    have hln : (encL its L k).length = o2 := by rw [← ho2]; exact encL_len HVN.out HC.out k (by omega)
    have ho2p : 0 < o2 := by have := off_lt HMN.out HC.out k (by omega); omega
    have hfit : o1 + o2 ≤ (pkB its L k).length := by
      rw [pkB_len HVN.out HC.out k (by omega), ← hmo]
      have := hle k hk
      omega
    refine ⟨fun a1 V => a1 = { tmps := #[.pointer (some ⟨D, 0, none⟩), .slice ao N cap, .pointer (some ⟨q, 0, none⟩), undef, .slice none 0 0, .int .i64 0, .slice (some ⟨g, 0, none⟩) m m, .pointer (some ⟨X.heap.size, 0, none⟩), .slice (some ⟨g, o1, none⟩) o2 (m - o1), .pointer (some ⟨D, 0, none⟩), .slice ao N cap, .int .u32 0, .bool false, .slice ao N cap, .int .i64 (m : Int), .slice (some ⟨g, 0, none⟩) m m, .slice ao N cap, .slice (some ⟨g, 0, none⟩) m m, .func (.func 36) #[] #[.pointer (some ⟨g + 1, 0, none⟩), .pointer (some ⟨g + 2, 0, none⟩)], .agg s.arr, .slice (some ⟨g, o1, none⟩) o2 (m - o1), undef, undef, undef, undef, undef, undef], defers := [] } ∧ V = X1, ?_, ?_⟩
    · have HF : Hid (Ka (bks (g + 2) (.slice ao N cap) L.length) w5.heap.size X X1) := Ka.below b9 (fun b hb => by have := hBl b hb; omega)
      simp only [pcV]
      rw [hs, ho2, ho1]
      simp only [Sl.arr, slC]
      clear hz b9 hP hseq hmk hCk hS3 y0 y1 y2 y3 hmo hle hfit hln ho1 ho2
      gi_wp2
      refine ⟨HF.out, ?_, ?_⟩ <;> first | trivial | rfl
    · rintro a1 V Y ⟨rfl, hV⟩ ⟨r, r', hr, hYe⟩
      rw [hV] at hr hYe
      have sY : Y.heap.size = X.heap.size + 1 := by rw [hYe]; simpa [World.putObj] using sX1
      have PX := hP.below b9
      have PY : Pk w q D g (pkB its L k) Y := by
        rw [hYe]
        exact PX.grown (B := w5.heap.size) (by omega) (grownBy_putObj' X1 l' _) (fun r0 e => by cases e; exact ⟨hl, _, hr, rfl⟩)
      have zY : Sb X.heap.size s Y := by rw [hYe]; exact (World.putObj_heap_other (by omega)).trans hz
      have y5 : Y.cell? ⟨q, 0, none⟩ = some (.pointer (some ⟨D, 0, none⟩)) := Lib.cell_of_heap PY.b0 0
      have z0 := zY.c0
      have z1 := zY.c1
      have z2 := zY.c2
      have hV5 : Calls Try.prog 22 #[.pointer (some ⟨D, 0, none⟩), .agg #[.int .u16 (s.ix : Int), .int .u8 (s.sb : Int), .int .i64 s.bt]] Y fun e w' => ∃ x, e = .returned x ∧ Bytes w' x (encL its L k) ∧ Below Y.heap.size Y w' ∧ (∀ b, x.ownBlock = some b → Y.heap.size ≤ b) := by
        unfold encL
        rw [hs]
        exact valueOf_any (HD.out.below PY.old) s
      have HPY := hidOf PY
      have HBLe := hidOf hBl
      have HFI := hidOf hfit
      have HLN := hidOf hln
      have HS5 := hidOf s5
      have HO1 := hidOf ho1
      clear hz b9 hP hseq hmk hCk hS3 y0 y1 y2 y3 PX PY zY hr hYe hs ho1 ho2 hfit hBl hle hmo hOB hln s5
      gi_wp2_with (refine ⟨trivial, ?_⟩; gi_at_call 22; refine (CallsIn.inRound l' (callsIn_wide.2 hV5)).mono ?_; rintro e X5 ⟨x, rfl, hBx, b5, hfr⟩; have HP5 := hidOf (HPY.out.below b5); obtain ⟨W6, hcp, hbk, hkp⟩ := copyP X5 g o1 (m - o1) _ HP5.out.bk x _ hBx (by rw [HLN.out]; exact ho2p) (by rw [HLN.out]; exact HFI.out); rw [HLN.out] at hcp; obtain ⟨xa, xc, hx, hxx⟩ := hBx; rw [HLN.out] at hx; subst hx; have hcp2 := hcp 3; have HK := hidOf (And.intro b5 (And.intro hbk hkp)); clear b5 hbk hkp hcp hxx hfr)
      obtain ⟨b5, hbk, hkp⟩ := HK.out
      have hs5 := HS5.out
      have hPs := HP5.out.sz
      have hb5s := b5.size
      refine ⟨⟨fun b hb => ?_, Nat.le_trans b5.size hkp.size, fun j h1 h2 => ?_⟩, ⟨?_, ?_, ?_, ?_⟩⟩
      · have hb2 := HBLe.out b hb
        exact (hkp.block b (by omega) (by simpa using hb2.2)).trans (b5.block b (by omega))
      · exact (hkp.block j (by omega) (by simp; omega)).trans (b5.block j h2)
      · exact (hkp.block q (by omega) (by simp; omega)).trans HP5.out.b0
      · show Bk g (lay13 (pkB its L k) (off L k) (encL its L k)) W6
        rw [HO1.out]
        exact hbk
      · exact hkp.below HP5.out.old HP5.out.old.size (fun b hb => by simp at hb; omega)
      · exact Nat.le_trans hPs hkp.size
  case done =>
    rintro DD X hD hP hK
    have hgD : DD ≠ g := by intro e; rw [e, hP.bk] at hK; cases hK
    have hP2 := hP.grown (B := w5.heap.size) (by omega) (grownBy_putObj' X DD (.deferred none)) (fun r0 e => by cases e; exact ⟨hD, _, hK, rfl⟩)
    have HP2 := hidOf hP2
    clear hP hP2 hseq hmk hCk hS3 y0 y1 y2 y3 hmo hle hBl hOB
    gi_wp2
    refine ⟨by simp, .inl ⟨_, _, rfl, run_takeDeferred hK, ?_⟩⟩
    refine ⟨.tuple #[.slice (some ⟨g, 0, none⟩) m m, .int .i64 0], by simp [Go.results, Try.results10, go_sem], g, rfl, HP2.out.old, by omega, ?_⟩
    rw [hNL]
    exact HP2.out.bk
  case stop => exact fun D k X _ _ h _ => h.elim
end Go.Proofs.Ythalhidebkhclaa
