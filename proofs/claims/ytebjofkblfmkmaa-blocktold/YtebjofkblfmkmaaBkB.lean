/- Contracts: codeOf, slices.Clone, NewSender, abort, giveUp. -/
import Derived.Test.YtebjofkblfmkmaaBkA
import Derived.Lib.SliceRun
namespace Go.Proofs.Ytebjofkblfmkmaa
open Go.RowKit Go.Proofs.Ty Go.Proofs.Bits
set_option linter.unusedVariables false
set_option maxRecDepth 1000000
set_option linter.unusedSimpArgs false
theorem u8size : ∃ i, Try.prog.info? 5 = some i ∧ i.size = 1 := by
  have hu : (Try.prog.info? 5).map (·.size) = some 1 := by kernel_rfl
  cases hh : Try.prog.info? 5 with
  | none => rw [hh] at hu; cases hu
  | some i => rw [hh] at hu; simp at hu; exact ⟨i, rfl, hu⟩
theorem sl8t (k lo : Nat) (h3 : lo < 8) (W : World) : (Instr.sliceAt 30 (.pointer (some ⟨k, 0, none⟩)) (some (.int .i64 (lo : Int))) none none).run Try.prog W = .ok (.slice (some ⟨k, lo, none⟩) (8 - lo) (8 - lo)) W := by
  obtain ⟨i0, hi0, hz0⟩ := u8size
  have e1 : (0 : Int) ≤ (lo : Int) := by omega
  have e2 : (lo : Int) ≤ 8 := by omega
  have e3 : lo ≤ 8 := by omega
  have e5 : ¬ (8 : Int) < (lo : Int) := by omega
  have e6 : ¬ (lo : Int) < 0 := by omega
  have e7 : ¬ 8 = lo := by omega
  unfold Instr.sliceAt
  simp [go_sem, run_underlying Try.underlying30, sizeOf, typeInfo, hi0, hz0, e1, e2, e3, e5, e6, e7, Addr.add_mid]
/-- The first k bytes of a frame's number. -/
def nmk (f : F8) : Nat → Nat
  | 0 => 0
  | 1 => f.b4.toNat
  | 2 => f.b4.toNat + 256 * f.b5.toNat
  | 3 => f.b4.toNat + 256 * f.b5.toNat + 65536 * f.b6.toNat
  | _ => num4 f
theorem orAdd (m x k : Nat) (hm : m < 2 ^ k) (h : m + x * 2 ^ k < 4294967296) : bits .or .u32 (m : Int) ((x * 2 ^ k : Nat) : Int) = ((m + x * 2 ^ k : Nat) : Int) := by
  have h2 : x * 2 ^ k < 4294967296 := by omega
  rw [u32_or_nat _ _ (by omega) h2]
  congr 1
  rw [Nat.or_comm, ← Nat.shiftLeft_eq, ← Nat.shiftLeft_add_eq_or_of_lt hm, Nat.shiftLeft_eq, Nat.add_comm]
theorem codeOf_any (f : F8) (w : World) : Calls Try.prog 23 #[.agg f.arr] w fun e w' => e = .returned (.int .u32 (num4 f : Nat)) ∧ Below w.heap.size w w' := by
  have B0 : Below w.heap.size w (w.alloc (.cells f.arr 30)) := (Below.refl _ _).alloc (Nat.le_refl _) _
  have q0 := Qb.new w f
  have HB := hidOf2 B0
  obtain ⟨q, hq⟩ : ∃ q, w.heap.size = q := ⟨_, rfl⟩
  rw [hq] at q0
  obtain ⟨W, hW⟩ : ∃ W, w.alloc (.cells f.arr 30) = W := ⟨_, rfl⟩
  rw [hW] at q0 HB
  have c4 := q0.c4
  have c5 := q0.c5
  have c6 := q0.c6
  have c7 := q0.c7
  have l4 := f.b4.toNat_lt
  have l5 := f.b5.toNat_lt
  have l6 := f.b6.toNat_lt
  have l7 := f.b7.toNat_lt
  have hs := sl8t q 4 (by decide) W
  have HN : Hid (num4 f = f.b4.toNat + 256 * f.b5.toNat + 65536 * f.b6.toNat + 16777216 * f.b7.toNat) := rfl
  generalize num4 f = N at *
  generalize f.b4.toNat = x4 at *
  generalize f.b5.toNat = x5 at *
  generalize f.b6.toNat = x6 at *
  generalize f.b7.toNat = x7 at *
  have o0 : bits .or .u32 0 (x4 : Int) = (x4 : Int) := by
    have e := orAdd 0 x4 0 (by decide) (by omega)
    rw [show ((x4 * 2 ^ 0 : Nat) : Int) = (x4 : Int) by omega, show ((0 + x4 * 2 ^ 0 : Nat) : Int) = (x4 : Int) by omega] at e
    exact e
  have o1 : bits .or .u32 (x4 : Int) ((x5 : Int) * 256) = ((x4 + x5 * 256 : Nat) : Int) := by
    have e := orAdd x4 x5 8 (by omega) (by omega)
    rw [show ((x5 * 2 ^ 8 : Nat) : Int) = (x5 : Int) * 256 by omega] at e
    exact e
  have o2 : bits .or .u32 ((x4 : Int) + (x5 : Int) * 256) ((x6 : Int) * 65536) = ((x4 + x5 * 256 + x6 * 65536 : Nat) : Int) := by
    have e := orAdd (x4 + x5 * 256) x6 16 (by omega) (by omega)
    rw [show ((x6 * 2 ^ 16 : Nat) : Int) = (x6 : Int) * 65536 by omega, show ((x4 + x5 * 256 : Nat) : Int) = (x4 : Int) + (x5 : Int) * 256 by omega] at e
    exact e
  have o3 : bits .or .u32 ((x4 : Int) + (x5 : Int) * 256 + (x6 : Int) * 65536) ((x7 : Int) * 16777216) = ((x4 + x5 * 256 + x6 * 65536 + x7 * 16777216 : Nat) : Int) := by
    have e := orAdd (x4 + x5 * 256 + x6 * 65536) x7 24 (by omega) (by omega)
    rw [show ((x7 * 2 ^ 24 : Nat) : Int) = (x7 : Int) * 16777216 by omega, show ((x4 + x5 * 256 + x6 * 65536 : Nat) : Int) = (x4 : Int) + (x5 : Int) * 256 + (x6 : Int) * 65536 by omega] at e
    exact e
  have HO := hidOf2 (And.intro o0 (And.intro o1 (And.intro o2 o3)))
  clear o0 o1 o2 o3 q0 B0
  go_enter Try.func23, Try.ntmps23
  go_wp2_with fail
  go_loop [3, 8] (fun m i => (i = .int .i64 0 ∧ m = .int .u32 0) ∨ (i = .int .i64 1 ∧ m = .int .u32 (x4 : Int)) ∨ (i = .int .i64 2 ∧ m = .int .u32 ((x4 + x5 * 256 : Nat) : Int)) ∨ (i = .int .i64 3 ∧ m = .int .u32 ((x4 + x5 * 256 + x6 * 65536 : Nat) : Int)) ∨ (i = .int .i64 4 ∧ m = .int .u32 ((x4 + x5 * 256 + x6 * 65536 + x7 * 16777216 : Nat) : Int))) (fun _ i => 4 - (intOf i).toNat)
  case atStart => exact .inl ⟨rfl, rfl⟩
  case round =>
    rcases hrel with ⟨rfl, rfl⟩ | ⟨rfl, rfl⟩ | ⟨rfl, rfl⟩ | ⟨rfl, rfl⟩ | ⟨rfl, rfl⟩
    · go_wp2
      go_round
      case rel => exact .inr (.inl ⟨rfl, val_intN HO.out.1⟩)
      case measure => simp [intOf]
    · go_wp2
      go_round
      case rel => exact .inr (.inr (.inl ⟨rfl, val_intN HO.out.2.1⟩))
      case measure => simp [intOf]
    · go_wp2
      go_round
      case rel => exact .inr (.inr (.inr (.inl ⟨rfl, val_intN HO.out.2.2.1⟩)))
      case measure => simp [intOf]
    · go_wp2
      go_round
      case rel => exact .inr (.inr (.inr (.inr ⟨rfl, val_intN HO.out.2.2.2⟩)))
      case measure => simp [intOf]
    · go_wp2
      go_ret
      exact ⟨ret_int (by rw [HN.out]; omega), by rw [← hq]; exact HB.out⟩
theorem eq_nil (w : World) (a : Option Addr) (n c : Nat) : (binOp .eql 22 (.slice a n c) (.slice none 0 0)).run Try.prog w = .ok (.bool a.isNone) w := by
  exact Lib.run_eql_slice_nil w _ 5 a n c 0 0 Try.underlying22
theorem Clone_any (v : Value) (l : List UInt8) (w : World) (hm : l.length ≤ 140737488355328) (hB : Bytes w v l) : Calls Try.prog 20 #[v] w fun e w' => ∃ x, e = .returned x ∧ w'.ownsRow w.heap.size 5 1 x l.length (Lib.byteCells l) ∧ Below w.heap.size w w' := by
  have HB := hidOf2 hB
  have hq : ∀ (w : World) (a : Option Addr) (n c : Nat), (binOp .eql 22 (.slice a n c) (.slice none 0 0)).run Try.prog w = .ok (.bool a.isNone) w := eq_nil
  obtain ⟨ao, cap, rfl, h0, hc⟩ := hB
  cases ao with
  | none =>
    obtain ⟨rfl, rfl⟩ := h0 rfl
    go_enter Try.func20, Try.ntmps20
    go_wp2
    go_ret
    exact ⟨_, rfl, World.ownsRow_nil _ _ _ _, Below.refl _ _⟩
  | some ad =>
    have HO := hidOf2 (own_empty w)
    have b0 : Below w.heap.size w (w.alloc (.cells #[] 5)) := (Below.refl _ _).alloc (Nat.le_refl _) _
    have HL := hidOf2 b0
    have HB2 := hidOf2 (HB.out.below b0)
    have hsz := size_alloc w (.cells #[] 5)
    obtain ⟨n, hn⟩ : ∃ n, l.length = n := ⟨_, rfl⟩
    have HN := hidOf2 hn
    rw [hn] at HB2 hm ⊢
    clear HB hc h0 b0 hn
    go_enter Try.func20, Try.ntmps20
    go_wp2_with (at_builtin; refine append_bytes rfl _ _ rfl w.heap.size _ [] rfl (by exact HO.out) _ l rfl (by exact HB2.out) (by rw [HN.out]; simp; omega) (by rw [hsz]; omega) ?_; intro v1 w2 ho hgr; have HO2 := hidOf2 (show w2.ownsRow w.heap.size 5 1 v1 l.length (Lib.byteCells l) from ho); have HL2 := hidOf2 (HL.out.grown hgr (by rw [hsz]; omega) (fun k e => own_lt HO.out k e)); clear ho hgr)
    go_ret
    exact ⟨_, rfl, by rw [← HN.out]; exact HO2.out, HL2.out⟩
theorem bkabort_results {Q : Nat} {f : F8} {w : World} (h : Qb Q f w) (tmps : Array Value) (h2 : tmps[2]?.getD undef = .pointer (some ⟨Q, 0, none⟩)) :
    (results Try.f41 tmps).run Try.prog w = .ok (.agg f.arr) w := by
  have l0 := h.load
  simp [Go.results, Try.results41, h2, asAddr, l0]
theorem abort_any (cd : Nat) (hcd : cd < 4294967296) (w : World) : Calls Try.prog 41 #[.int .u32 (cd : Int)] w fun e w' => e = .returned (.agg (frm 128 0 0 cd).arr) ∧ Below w.heap.size w w' := by
  have B0 : Below w.heap.size w (w.alloc (.cells zA8 30)) := (Below.refl _ _).alloc (Nat.le_refl _) _
  have hz : Qb w.heap.size F8.nul (w.alloc (.cells zA8 30)) := heap_alloc_new w _
  obtain ⟨q, hq⟩ : ∃ q, w.heap.size = q := ⟨_, rfl⟩
  have HB := hidOf2 B0
  rw [hq] at hz
  have hC : ∀ V, Calls Try.prog 46 #[.int .u16 0, .int .u8 0, .int .u32 (cd : Int)] V fun e w' => e = .returned (.agg (frm 128 0 0 cd).arr) ∧ Below V.heap.size V w' := fun V => Abort_any 0 0 cd V (by decide) (by decide) hcd
  clear B0
  go_enter Try.func41, Try.ntmps41
  go_upto_region 1 with fail
  change Code.wp Try.prog _ _ _ (w.alloc (.cells zA8 30))
  generalize w.alloc (.cells zA8 30) = V at *
  go_wp2_with fail
  refine (hC V).mono ?_
  rintro e w1 ⟨rfl, b1⟩
  have hz1 := hz.below b1
  have B1 := HB.out.trans (b1.mono HB.out.size)
  have B2 := hidOf2 (below_row B1 (by omega) B1.size (q := q) (frm 128 0 0 cd).arr)
  have hr := hz1.row (frm 128 0 0 cd)
  clear hC b1 B1 HB
  go_wp2_with (first | (refine sdF (g := frm 128 0 0 cd) hz1 rfl _ _ rfl rfl rfl ?_))
  exact bodyPost_ret (bkabort_results hr _ rfl) rfl ⟨rfl, B2.out⟩
/-- Frames as rows of eight cells. -/
def D8 : Dec F8 := ⟨F8.c, 8, by decide, fun _ => rfl, fun f u hu => by
  simp [F8.c] at hu
  rcases hu with rfl | rfl | rfl | rfl | rfl | rfl | rfl | rfl <;> rfl⟩
/-- A list of frames in new memory. -/
def Lf (B : Nat) (w : World) (v : Value) (L : List F8) : Prop := RT 30 8 F8.c w v L ∧ ∀ b, v.ownBlock = some b → B ≤ b
theorem Lf.nil (B : Nat) (w : World) : Lf B w (.slice none 0 0) [] := ⟨RT.nil _ _ _ _, fun b h => by cases h⟩
theorem Lf.new (w : World) (f : F8) : Lf w.heap.size (w.alloc (.cells f.arr 30)) (.slice (some ⟨w.heap.size, 0, none⟩) 1 1) [f] :=
  ⟨⟨wide_new D8 w f 30, fun b e => by cases e; exact ⟨_, _, heap_alloc_new w _⟩, fun ao n k e => by cases e; exact Nat.le_refl _⟩, fun b e => by cases e; exact Nat.le_refl _⟩
theorem Lf.low {B C : Nat} {w : World} {v : Value} {L : List F8} (h : Lf B w v L) (hC : C ≤ B) : Lf C w v L := ⟨h.1, fun b e => Nat.le_trans hC (h.2 b e)⟩
theorem Lf.below {B : Nat} {w x : World} {v : Value} {L : List F8} (h : Lf B w v L) (hb : Below w.heap.size w x) : Lf B x v L := ⟨h.1.below hb, h.2⟩
theorem info8 : (Try.prog.info? 30).map (fun i => (i.zero, i.size, i.bytes)) = some (some (.agg zA8), 8, 8) := by kernel_rfl
theorem bs1 {w : World} {ops : Array Oper} {rest : List Oper} {o : Oper} {a : Act} {Q : Exit → Act → World → Prop} (f : F8) (hgd : o.guard = none) (x : Operand) (ho : o.op = .buildSlice 23 1 #[(0, x)]) (hx : a.eval x = .agg f.arr)
    (h : wpList Try.prog ops Q rest (a.put o.dst (.slice (some ⟨w.heap.size, 0, none⟩) 1 1)) (w.alloc (.cells f.arr 30))) : wpList Try.prog ops Q (o :: rest) a w :=
  one_bs D8 f 23 30 (.agg zA8) 8 hgd x ho hx Try.underlying23 info8 (by decide) h
section
variable {S : Nat} {s t : Sn} {ao ap : Option Addr} {cp cq : Nat} {w x : World}
theorem giveUp_any (h : Sd S s ao cp w) (cd : Nat) (hcd : cd < 4294967296) : Calls Try.prog 25 #[.pointer (some ⟨S, 0, none⟩), .int .u32 (cd : Int)] w fun e w' => ∃ v, e = .returned v ∧ Lf w.heap.size w' v [frm 128 0 0 cd] ∧ Sd S (Sn.fin cd) none 0 w' ∧ Kp [S] w w' := by
  have hE := end_any h cd hcd
  have hA := abort_any cd hcd
  obtain ⟨ff, hff⟩ : ∃ f, frm 128 0 0 cd = f := ⟨_, rfl⟩
  rw [hff] at hA ⊢
  clear hff
  go_enter Try.func25, Try.ntmps25
  go_wp2_with fail
  refine hE.mono ?_
  rintro e w1 ⟨rfl, s1, k1⟩
  go_wp2_with fail
  refine (hA w1).mono ?_
  rintro e w2 ⟨rfl, b2⟩
  have s2 := s1.below b2
  have b3 : Below w2.heap.size w2 (w2.alloc (.cells ff.arr 30)) := (Below.refl _ _).alloc (Nat.le_refl _) _
  have HS := hidOf2 (s2.below b3)
  have HK := hidOf2 ((k1.trans (Kp.of_below b2)).trans (Kp.of_below b3))
  have HL := hidOf2 ((Lf.new w2 ff).low (Nat.le_trans k1.size b2.size))
  clear hE hA s1 k1 b2 s2 b3
  go_wp2_with (first | (refine bs1 ff rfl _ rfl rfl ?_))
  go_ret
  exact ⟨.slice (some ⟨w2.heap.size, 0, none⟩) 1 1, rfl, HL.out, HS.out, HK.out⟩
theorem NewSender_long (v : Value) (l : List UInt8) (w : World) (hB : Bytes w v l) (hl : 65536 < l.length) (hm : l.length ≤ 140737488355328) : Calls Try.prog 6 #[v] w fun e w' => e = .returned (.tuple #[.pointer none, .int .i64 2]) ∧ w' = w := by
  obtain ⟨ao, cap, rfl, h0, hc⟩ := hB
  clear h0 hc
  generalize l.length = n at *
  have hd : decide ((65536 : Int) < (n : Int)) = true := by simp; omega
  go_enter Try.func6, Try.ntmps6
  go_wp2
  go_ret2
  exact ⟨rfl, rfl⟩
/-- One that has not begun. -/
def Sn.new (l : List UInt8) : Sn := ⟨0, l, 0, 0, 0⟩
theorem Sn.new_ok (l : List UInt8) (h : l.length ≤ 65536) : (Sn.new l).Ok := ⟨⟨by simp [Sn.new], h, by simp [Sn.new], by simp [Sn.new], by simp [Sn.new]⟩, .inr (by simp [Sn.new])⟩
theorem own_cap {w : World} {B e c n : Nat} {ao : Option Addr} {k : Nat} {xs : List Value} (h : w.ownsRow B e c (.slice ao n k) n xs) : n ≤ k := by
  rcases h.2 with ⟨h1, h0⟩ | ⟨g, cap, cur, h1, hg, hcur, h2, _⟩
  · omega
  · injection h1 with _ _ e3; omega
theorem NewSender_any (v : Value) (l : List UInt8) (w : World) (hB : Bytes w v l) (hl : l.length ≤ 65536) : Calls Try.prog 6 #[v] w fun e w' => ∃ S ao cp, e = .returned (.tuple #[.pointer (some ⟨S, 0, none⟩), .int .i64 0]) ∧ Sd S (Sn.new l) ao cp w' ∧ w.heap.size ≤ S ∧ (∀ b, (Value.slice ao l.length cp).ownBlock = some b → w.heap.size ≤ b ∧ b < S) ∧ Below w.heap.size w w' := by
  have hC := Clone_any v l w (by omega) hB
  obtain ⟨ao, cap, rfl, h0, hc⟩ := hB
  obtain ⟨n, hn⟩ : ∃ n, l.length = n := ⟨_, rfl⟩
  have HN := hidOf2 hn
  have hd : decide ((65536 : Int) < (n : Int)) = false := by simp; omega
  rw [hn] at hC hl ⊢
  clear hn h0 hc
  go_enter Try.func6, Try.ntmps6
  go_wp2_with fail
  refine hC.mono ?_
  rintro e w1 ⟨x, rfl, ho, b1⟩
  obtain ⟨aq, cq, rfl⟩ := own_shape5 ho
  have HB : Hid (Bytes w1 (.slice aq n cq) l) := bytes_of_own (by rw [HN.out]; exact ho)
  have hcap := own_cap ho
  have HOw : Hid (∀ b, (Value.slice aq n cq).ownBlock = some b → w.heap.size ≤ b ∧ b < w1.heap.size) := fun b e => by
    obtain ⟨h1, cur, h2⟩ := own_of ho e
    exact ⟨h1, (Array.getElem?_eq_some_iff.1 h2).1⟩
  have H1 := hidOf2 b1
  have HX : Hid (∀ Z, Z = w1.alloc (.cells #[.int .i64 0, .slice aq n cq, .int .i64 0, .int .i64 0, .int .u32 0] 58) → Sd w1.heap.size (Sn.new l) aq cq Z ∧ Below w.heap.size w Z) := fun Z hZ => by
    subst hZ
    refine ⟨⟨?_, ?_, ?_, (Sn.new_ok l (by rw [HN.out]; exact hl)).toWk⟩, H1.out.alloc H1.out.size _⟩
    · rw [heap_alloc_new]
      simp [snA, Sn.new, HN.out]
    · show Bytes _ (.slice aq l.length cq) l
      rw [HN.out]
      exact HB.out.below ((Below.refl _ _).alloc (Nat.le_refl _) _)
    · show l.length ≤ cq
      rw [HN.out]
      exact hcap
  have Hw := hidOf2 b1.size
  clear hC ho b1 HB H1
  go_wp2
  go_ret2
  obtain ⟨h1, h2⟩ := HX.out _ rfl
  exact ⟨_, _, _, rfl, h1, Hw.out, HOw.out, h2⟩
end
end Go.Proofs.Ytebjofkblfmkmaa
