/- Contracts: a number out of a frame; pass, Abort; the document's Frame. -/
import Derived.Test.YtebjofkblfmkmaaBkH
namespace Go.Proofs.Ytebjofkblfmkmaa
open Go.RowKit Go.Proofs.Ty
set_option linter.unusedVariables false
set_option maxRecDepth 1000000
set_option linter.unusedSimpArgs false
theorem joinN (m b : Nat) (hm : m < 16777216) (hb : b < 256) : bits .or .u32 ((m : Int) * 256) (b : Int) = ((m * 256 + b : Nat) : Int) := by
  have e : (m : Int) * 256 = ((m * 256 : Nat) : Int) := by omega
  rw [e, u32_or_nat _ _ (by omega) (by omega), nat_join8 _ _ (by omega) hb]
theorem wrapN (m : Nat) (hm : m < 16777216) : IntKind.u32.wrap ((m : Int) * 256) = (m : Int) * 256 := by
  simp [IntKind.wrap, IntKind.bits, IntKind.signed]
  omega
/-- The bytes that are read when place i is to come. -/
def nk (f : F8) : Nat → Nat
  | 7 => 0
  | 6 => f.b7.toNat
  | 5 => f.b7.toNat * 256 + f.b6.toNat
  | 4 => (f.b7.toNat * 256 + f.b6.toNat) * 256 + f.b5.toNat
  | _ => num4 f
def bk (f : F8) : Nat → UInt8
  | 7 => f.b7
  | 6 => f.b6
  | 5 => f.b5
  | _ => f.b4
theorem nk_step (f : F8) (k : Nat) (h1 : 4 ≤ k) (h2 : k ≤ 7) : nk f k * 256 + (bk f k).toNat = nk f (k - 1) ∧ nk f k < 16777216 := by
  have := f.b5.toNat_lt
  have := f.b6.toNat_lt
  have := f.b7.toNat_lt
  obtain rfl | rfl | rfl | rfl : k = 4 ∨ k = 5 ∨ k = 6 ∨ k = 7 := by omega
  all_goals simp [nk, bk, num4]
  all_goals omega
theorem Qb.cbk {q : Nat} {f : F8} {w : World} (h : Qb q f w) (k : Nat) (h1 : 4 ≤ k) (h2 : k ≤ 7) : w.cell? ⟨q, k, none⟩ = some (.int .u8 ((bk f k).toNat : Int)) := by
  obtain rfl | rfl | rfl | rfl : k = 4 ∨ k = 5 ∨ k = 6 ∨ k = 7 := by omega
  · exact h.c4
  · exact h.c5
  · exact h.c6
  · exact h.c7
set_option maxHeartbeats 2000000 in
theorem Abort_any (ix sb n : Nat) (w : World) (h1 : ix < 65536) (h2 : sb < 256) (h3 : n < 4294967296) : Calls Try.prog 46 #[.int .u16 (ix : Int), .int .u8 (sb : Int), .int .u32 (n : Int)] w fun e w' => e = .returned (.agg (frm 128 ix sb n).arr) ∧ Below w.heap.size w w' := by
  have B0 : Below w.heap.size w (w.alloc (.cells zA8 30)) := (Below.refl _ _).alloc (Nat.le_refl _) _
  have hz : Qb w.heap.size F8.nul (w.alloc (.cells zA8 30)) := heap_alloc_new w _
  obtain ⟨q, hq⟩ : ∃ q, w.heap.size = q := ⟨_, rfl⟩
  have HB := hidOf2 B0
  rw [hq] at hz
  have hC : ∀ V, Calls Try.prog 47 #[.agg (spA ix sb), .int .u8 128, .int .u32 (n : Int)] V fun e w' => e = .returned (.agg (frm 128 ix sb n).arr) ∧ Below V.heap.size V w' := fun V => counted_any 128 ix sb n V (by decide) h1 h2 h3
  clear B0
  go_enter Try.func46, Try.ntmps46
  go_upto_region 1 with fail
  change Code.wp Try.prog _ _ _ (w.alloc (.cells zA8 30))
  generalize w.alloc (.cells zA8 30) = V at *
  go_wp2_with fail
  refine (hC V).mono ?_
  rintro e w1 ⟨rfl, b1⟩
  have hz1 := hz.below b1
  have B1 := HB.out.trans (b1.mono HB.out.size)
  have B2 := hidOf2 (below_row B1 (by omega) B1.size (q := q) (frm 128 ix sb n).arr)
  have hr := hz1.row (frm 128 ix sb n)
  clear hC b1 B1 HB
  go_wp2_with (first | (refine sdF (g := frm 128 ix sb n) hz1 rfl _ _ rfl rfl rfl ?_))
  exact bodyPost_ret (abort_results hr _ rfl) rfl ⟨rfl, B2.out⟩
set_option maxHeartbeats 2000000 in
theorem r10Frame_any (a ix sb n : Nat) (w : World) (h0 : a < 256) (h1 : ix < 65536) (h2 : sb < 256) (h3 : n < 4294967296) : Calls Try.prog 43 #[.int .u8 (a : Int), .int .u16 (ix : Int), .int .u8 (sb : Int), .int .u32 (n : Int)] w fun e w' => e = .returned (.agg (frm a ix sb n).arr) ∧ Below w.heap.size w w' := by
  have B0 : Below w.heap.size w (w.alloc (.cells zA8 30)) := (Below.refl _ _).alloc (Nat.le_refl _) _
  have hz : Qb w.heap.size F8.nul (w.alloc (.cells zA8 30)) := heap_alloc_new w _
  obtain ⟨q, hq⟩ : ∃ q, w.heap.size = q := ⟨_, rfl⟩
  have HB := hidOf2 B0
  rw [hq] at hz
  have HF := frm_c a ix sb n h0 h1 h2 h3
  have HF2 : (frm a ix sb n).arr = #[.int .u8 (a : Int), .int .u8 ((ix : Int) % 256), .int .u8 ((ix : Int) / 256), .int .u8 (sb : Int), .int .u8 ((n : Int) % 256), .int .u8 ((n : Int) / 256 % 256), .int .u8 ((n : Int) / 65536 % 256), .int .u8 ((n : Int) / 16777216)] := by unfold F8.arr; rw [HF]
  have hr := hz.row (frm a ix sb n)
  have B2 := hidOf2 (below_row HB.out (by omega) HB.out.size (q := q) (frm a ix sb n).arr)
  clear B0 HB
  go_enter Try.func43, Try.ntmps43
  go_upto_region 1 with fail
  change Code.wp Try.prog _ _ _ (w.alloc (.cells zA8 30))
  generalize w.alloc (.cells zA8 30) = V at *
  go_wp2_with (first | (refine sdF (g := frm a ix sb n) hz rfl _ _ rfl rfl (by rw [HF2]; first | rfl | (simp [Act.eval]; done)) ?_))
  exact bodyPost_ret (rframe_results hr _ rfl) rfl ⟨rfl, B2.out⟩
end Go.Proofs.Ytebjofkblfmkmaa
