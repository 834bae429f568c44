/- Contracts: numbers in frames; what gives up. -/
import Derived.Test.YtebjofkblfmkmaaBkG
namespace Go.Proofs.Ytebjofkblfmkmaa
open Go.RowKit Go.Proofs.Ty
set_option linter.unusedVariables false
set_option maxRecDepth 1000000
set_option linter.unusedSimpArgs false
def fk (a ix sb n k : Nat) : F8 := ⟨.ofNat a, .ofNat (ix % 256), .ofNat (ix / 256), .ofNat sb, if 4 < k then .ofNat (n % 256) else 0, if 5 < k then .ofNat (n / 256 % 256) else 0, if 6 < k then .ofNat (n / 65536 % 256) else 0, if 7 < k then .ofNat (n / 16777216) else 0⟩
theorem fk_8 (a ix sb n : Nat) : fk a ix sb n 8 = frm a ix sb n := rfl
theorem fk_4 (a ix sb n : Nat) : fk a ix sb n 4 = frm a ix sb 0 := rfl
theorem Qb.set {q : Nat} {f : F8} {w : World} (h : Qb q f w) (k : Nat) (v : Value) {g : F8} (hg : f.arr.setIfInBounds k v = g.arr) : Qb q g (w.setCell ⟨q, k, none⟩ v) := by
  unfold Qb at *
  simp [World.setCell, Array.getElem?_modify, h, hg]
theorem fk_step (a ix sb n k : Nat) (hn : n < 4294967296) (h1 : 4 ≤ k) (h2 : k < 8) (z : Int) (hz : z = ((n / 256 ^ (k - 4) % 256 : Nat) : Int)) : (fk a ix sb n k).arr.setIfInBounds k (.int .u8 z) = (fk a ix sb n (k + 1)).arr := by
  subst hz
  obtain rfl | rfl | rfl | rfl : k = 4 ∨ k = 5 ∨ k = 6 ∨ k = 7 := by omega
  · simp [fk, F8.arr, F8.c]
  · simp [fk, F8.arr, F8.c]
  · simp [fk, F8.arr, F8.c]
  · simp [fk, F8.arr, F8.c]
theorem Qb.other {q : Nat} {f : F8} {w : World} (h : Qb q f w) {p : Addr} (hp : q ≠ p.block) (v : Value) : Qb q f (w.setCell p v) := (Below.heap_setCell w p v q hp).trans h
theorem Qb.zz {q : Nat} {f : F8} {w : World} (h : Qb q f w) (k : Nat) : w.frozen? ⟨q, k, none⟩ = false := Lib.frozen_of_heap h k
theorem Qb.any8 {q : Nat} {f : F8} {w : World} (h : Qb q f w) (k : Nat) (hk : k < 8) : ∃ z : Int, w.cell? ⟨q, k, none⟩ = some (.int .u8 z) := by
  obtain rfl | rfl | rfl | rfl | rfl | rfl | rfl | rfl : k = 0 ∨ k = 1 ∨ k = 2 ∨ k = 3 ∨ k = 4 ∨ k = 5 ∨ k = 6 ∨ k = 7 := by omega
  · exact ⟨_, h.c0⟩
  · exact ⟨_, h.c1⟩
  · exact ⟨_, h.c2⟩
  · exact ⟨_, h.c3⟩
  · exact ⟨_, h.c4⟩
  · exact ⟨_, h.c5⟩
  · exact ⟨_, h.c6⟩
  · exact ⟨_, h.c7⟩
theorem val_u32 {a b : Int} (h : a = b) : Value.int .u32 a = .int .u32 b := by rw [h]
theorem div_step (n k : Nat) (h1 : 4 ≤ k) : n / 256 ^ (k - 4) / 256 = n / 256 ^ (k + 1 - 4) := by
  rw [Nat.div_div_eq_div_mul, show k + 1 - 4 = (k - 4) + 1 by omega, Nat.pow_succ]
set_option maxHeartbeats 4000000 in
theorem counted_any (a ix sb n : Nat) (w : World) (h0 : a < 256) (h1 : ix < 65536) (h2 : sb < 256) (h3 : n < 4294967296) : Calls Try.prog 47 #[.agg (spA ix sb), .int .u8 (a : Int), .int .u32 (n : Int)] w fun e w' => e = .returned (.agg (frm a ix sb n).arr) ∧ Below w.heap.size w w' := by
  have B0 : Below w.heap.size w (w.alloc (.cells (spA ix sb) 77)) := (Below.refl _ _).alloc (Nat.le_refl _) _
  have p0 := Sp.new w ix sb
  obtain ⟨q, hq⟩ : ∃ q, w.heap.size = q := ⟨_, rfl⟩
  obtain ⟨W, hW⟩ : ∃ W, w.alloc (.cells (spA ix sb) 77) = W := ⟨_, rfl⟩
  have hWs : W.heap.size = q + 1 := by rw [← hW, size_alloc, hq]
  have hz : Qb (q + 1) F8.nul (W.alloc (.cells zA8 30)) := by rw [← hWs]; exact heap_alloc_new W _
  have B1 : Below w.heap.size w (W.alloc (.cells zA8 30)) := (hW ▸ B0).alloc (by rw [hWs, hq]; omega) _
  have p1 : Sp q ix sb (W.alloc (.cells zA8 30)) := by
    rw [hq, hW] at p0
    exact (Lib.alloc_old W _ q p0.lt).trans p0
  have hA : ∀ V, Calls Try.prog 48 #[.agg (spA ix sb), .int .u8 (a : Int)] V fun e w' => e = .returned (.agg (frm a ix sb 0).arr) ∧ Below V.heap.size V w' := fun V => answer_any a ix sb V h0 h1 h2
  clear p0 B0
  go_enter Try.func47, Try.ntmps47
  go_upto_region 1 with fail
  change Code.wp Try.prog _ _ _ (W.alloc (.cells zA8 30))
  generalize W.alloc (.cells zA8 30) = V at *
  have pl := p1.load
  go_wp2_with (first | (refine ldG pl rfl _ rfl rfl ?_))
  refine (hA _).mono ?_
  rintro e w1 ⟨rfl, b1⟩
  have hz1 := hz.below b1
  have B2 := B1.trans (b1.mono B1.size)
  have hl1 := hz1.lt
  have HQ := hidOf2 hq
  obtain ⟨r, hr⟩ : ∃ r, w1.heap.size = r := ⟨_, rfl⟩
  have hy : Qb r F8.nul (w1.alloc (.cells zA8 30)) := by rw [← hr]; exact heap_alloc_new w1 _
  have hz2 : Qb (q + 1) F8.nul (w1.alloc (.cells zA8 30)) := (Lib.alloc_old w1 _ _ hl1).trans hz1
  have B3 : Below w.heap.size w (w1.alloc (.cells zA8 30)) := B2.alloc B2.size _
  have hqr : q + 1 < r := by rw [← hr]; exact hl1
  have hy2 := hy.row (frm a ix sb 0)
  have hz3 : Qb (q + 1) F8.nul ((w1.alloc (.cells zA8 30)).setRow r (frm a ix sb 0).arr) := (setRow_other _ _ _ _ (by omega)).trans hz2
  have B4 := below_row B3 (by rw [HQ.out]; omega) B3.size (q := r) (frm a ix sb 0).arr
  have HV : Hid (∀ X, X = (w1.alloc (.cells zA8 30)).setRow r (frm a ix sb 0).arr → Qb r (fk a ix sb n 4) X ∧ Qb (q + 1) F8.nul X ∧ Below w.heap.size w X) := fun X hX => by subst hX; exact ⟨hy2, hz3, B4⟩
  clear hy2 hz3 B4 hz2 B3 B2 hz1 b1 pl p1 hz B1 hA
  go_upto_region 2 with (first | (refine sdF (g := frm a ix sb 0) hy rfl _ _ rfl rfl rfl ?_))
  clear hy
  go_wp2_with fail
  go_loopw [2, 8] (fun m i x => ∃ (k j : Nat), 4 ≤ k ∧ k ≤ 8 ∧ i = .int .i64 k ∧ m = .int .u32 (j : Nat) ∧ Hid (j = n / 256 ^ (k - 4)) ∧ Hid (Qb r (fk a ix sb n k) x) ∧ Hid (Qb (q + 1) F8.nul x) ∧ Hid (Below w.heap.size w x)) (fun _ i _ => 8 - (intOf i).toNat)
  case atStart =>
    obtain ⟨x1, x2, x3⟩ := HV.out _ rfl
    exact ⟨4, n, by omega, by omega, rfl, rfl, (by show n = _; simp), x1, x2, x3⟩
  case round =>
    obtain ⟨k, j, hk1, hk2, rfl, rfl, HJ, HQ1, HQ2, HQ3⟩ := hrel
    clear HV
    have hjl : j < 4294967296 := by rw [HJ.out]; exact Nat.lt_of_le_of_lt (Nat.div_le_self _ _) h3
    by_cases hk : k < 8
    · obtain ⟨z, hzc⟩ := HQ1.out.any8 k hk
      have hzz := HQ1.out.zz k
      have HN : Hid (∀ X, X = wr.setCell ⟨r, k, none⟩ (.int .u8 ((j : Int) % 256)) → Qb r (fk a ix sb n (k + 1)) X ∧ Qb (q + 1) F8.nul X ∧ Below w.heap.size w X) := fun X hX => by
        subst hX
        refine ⟨HQ1.out.set k _ (fk_step a ix sb n k h3 hk1 hk _ ?_), HQ2.out.other (by show q + 1 ≠ r; omega) _, HQ3.out.setCell (p := ⟨r, k, none⟩) (by rw [HQ.out]; show q ≤ r; omega) _⟩
        rw [HJ.out]
        simp
      go_wp2
      go_roundw
      case rel =>
        obtain ⟨y1, y2, y3⟩ := HN.out _ rfl
        exact ⟨k + 1, j / 256, by omega, by omega, by go_num, val_u32 (by simp), (by show _ = _; rw [HJ.out]; exact div_step n k hk1), y1, y2, y3⟩
      case measure => simp [intOf]; omega
    · obtain rfl : k = 8 := by omega
      have y1 : Qb r (frm a ix sb n) wr := HQ1.out
      have y2 := HQ2.out
      have y1l := y1.load
      have y3 := y2.row (frm a ix sb n)
      have y4 := below_row HQ3.out (by rw [HQ.out]; omega) HQ3.out.size (q := q + 1) (frm a ix sb n).arr
      go_wp2_with (first | (refine ldG y1l rfl _ rfl rfl ?_) | (refine sdF (g := frm a ix sb n) y2 rfl _ _ rfl rfl rfl ?_))
      exact bodyPost_ret (counted_results y3 _ rfl) rfl ⟨rfl, y4⟩
end Go.Proofs.Ytebjofkblfmkmaa
