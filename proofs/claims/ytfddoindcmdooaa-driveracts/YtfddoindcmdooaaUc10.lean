/- Plain facts on unstuffing. The contract of the document's own Stuff. Contracts of the document's own Body, Encode and Field. The document's Send. -/
import Derived.Test.YtfddoindcmdooaaUc9
import Derived.Test.YtfddoindcmdooaaMathB
import Derived.Test.YtfddoindcmdooaaOne
import Derived.Test.YtfddoindcmdooaaSums
import Derived.Test.YtfddoindcmdooaaEnc
namespace Go.Proofs.Bits

def unNext (t : List UInt8 × UInt8 × Nat) (c : UInt8) : List UInt8 × UInt8 × Nat := (if t.2.2 = 5 then t.1 else t.1 ++ [c], c, cnt t c)
/-- What is left, how far it was read, the error. -/
def un (t : List UInt8 × UInt8 × Nat) (i : Nat) : List UInt8 → List UInt8 × Nat × Int
  | [] => if t.2.2 = 5 then ([], i, 3) else (t.1, i, 0)
  | c :: r => if t.2.2 = 5 ∧ c = t.2.1 then ([], i, 20) else un (unNext t c) (i + 1) r
def unstuff (l : List UInt8) : List UInt8 × Nat × Int := un ([], 0, 0) 0 l
def unV (l : List UInt8) : List UInt8 × Nat × Int := if err l = 0 then unstuff l else ([], 0, err l)
theorem un_bad {t : List UInt8 × UInt8 × Nat} {i : Nat} {c : UInt8} {r : List UInt8} (h : t.2.2 = 5) (hc : c = t.2.1) : un t i (c :: r) = ([], i, 20) := by
  rw [un, if_pos ⟨h, hc⟩]
theorem un_on {t : List UInt8 × UInt8 × Nat} {i : Nat} {c : UInt8} {r : List UInt8} (h : ¬ (t.2.2 = 5 ∧ c = t.2.1)) : un t i (c :: r) = un (unNext t c) (i + 1) r := by
  rw [un, if_neg h]
theorem un_short {t : List UInt8 × UInt8 × Nat} {i : Nat} (h : t.2.2 = 5) : un t i [] = ([], i, 3) := by rw [un, if_pos h]
theorem un_end {t : List UInt8 × UInt8 × Nat} {i : Nat} (h : ¬ t.2.2 = 5) : un t i [] = (t.1, i, 0) := by rw [un, if_neg h]
theorem unNext_count (t : List UInt8 × UInt8 × Nat) (c : UInt8) (h : t.2.2 ≤ 5) (hc : ¬ (t.2.2 = 5 ∧ c = t.2.1)) : (unNext t c).2.2 ≤ 5 := by
  show cnt t c ≤ 5
  unfold cnt
  by_cases e : c = t.2.1
  · have : t.2.2 ≠ 5 := fun h5 => hc ⟨h5, e⟩
    rw [if_pos e]; omega
  · rw [if_neg e]; omega
theorem unNext_length (t : List UInt8 × UInt8 × Nat) (c : UInt8) : (unNext t c).1.length ≤ t.1.length + 1 := by
  unfold unNext
  simp only
  split
  · omega
  · simp
theorem drop_at (s : ByteArray) (k : Nat) (h : k < s.size) : s.data.toList.drop k = s[k] :: s.data.toList.drop (k + 1) := by
  rw [List.drop_eq_getElem_cons (by simpa using h)]; rfl
theorem drop_all (s : ByteArray) (k : Nat) (h : s.size ≤ k) : s.data.toList.drop k = [] := by
  rw [List.drop_eq_nil_iff]; simpa using h

/-- What is read without an error. -/
def unS (t : List UInt8 × UInt8 × Nat) : List UInt8 → Option (List UInt8 × UInt8 × Nat)
  | [] => some t
  | c :: r => if t.2.2 = 5 ∧ c = t.2.1 then none else unS (unNext t c) r
theorem un_of_unS {t t' : List UInt8 × UInt8 × Nat} {i : Nat} {a b : List UInt8} (h : unS t a = some t') : un t i (a ++ b) = un t' (i + a.length) b := by
  induction a generalizing t i with
  | nil => simp [unS] at h; subst h; rfl
  | cons c a ih =>
    rw [unS] at h
    split at h
    · simp at h
    · rename_i hn
      rw [List.cons_append, un_on hn, ih h, List.length_cons]
      congr 1; omega
theorem unS_snoc {t t' : List UInt8 × UInt8 × Nat} {a : List UInt8} {c : UInt8} (h : unS t a = some t') (hc : ¬ (t'.2.2 = 5 ∧ c = t'.2.1)) : unS t (a ++ [c]) = some (unNext t' c) := by
  induction a generalizing t with
  | nil => simp [unS] at h; subst h; simp [unS, hc]
  | cons d a ih =>
    rw [unS] at h
    split at h
    · simp at h
    · rename_i hn
      rw [List.cons_append, unS, if_neg hn]
      exact ih h
theorem unS_st (l : List UInt8) : unS ([], 0, 0) (st l).1 = some (l, (st l).2.1, (st l).2.2) := by
  induction l using snoc_ind with
  | h0 => rfl
  | h1 l c ih =>
    have hc := st_count l
    rw [st_snoc]
    have h1 := unS_snoc (c := c) ih (by simp only; omega)
    have e1 : unNext (l, (st l).2.1, (st l).2.2) c = (l ++ [c], c, cnt (st l) c) := by
      unfold unNext cnt
      simp only
      rw [if_neg (by omega)]
    rw [e1] at h1
    by_cases h5 : cnt (st l) c = 5
    · rw [stStep_full h5]
      rw [h5] at h1
      have h2 := unS_snoc (c := oth c) h1 (by simp only; intro h; exact oth_ne c h.2)
      rw [h2]
      unfold unNext cnt
      simp [oth_ne]
    · rw [stStep_open h5]
      exact h1
theorem unstuff_stuff (l : List UInt8) : unstuff (stuff l) = (l, (stuff l).length, 0) := by
  have h := un_of_unS (i := 0) (b := []) (unS_st l)
  rw [List.append_nil, Nat.zero_add] at h
  have hc := st_count l
  unfold unstuff stuff
  rw [h, un_end (by simp only; omega)]
theorem stuff_all (l : List UInt8) (h : l.all isBit = true) : (stuff l).all isBit = true := by
  unfold stuff
  induction l using snoc_ind with
  | h0 => rfl
  | h1 l c ih =>
    simp only [List.all_append, List.all_cons, List.all_nil, Bool.and_true, Bool.and_eq_true] at h
    rw [st_snoc]
    by_cases h5 : cnt (st l) c = 5
    · rw [stStep_full h5]
      exact all_snoc _ _ (all_snoc _ _ (ih h.1) h.2) (isBit_of (oth_bit c))
    · rw [stStep_open h5]
      exact all_snoc _ _ (ih h.1) h.2

/-- How many of one level stand in a row at the end. -/
def rowStep (p : UInt8 × Nat) (c : UInt8) : UInt8 × Nat := (c, if c = p.1 then p.2 + 1 else 1)
def rowOf (l : List UInt8) : UInt8 × Nat := l.foldl rowStep (0, 0)
theorem rowOf_snoc (l : List UInt8) (c : UInt8) : rowOf (l ++ [c]) = rowStep (rowOf l) c := by simp [rowOf]
theorem rowOf_st (l : List UInt8) : rowOf (st l).1 = (st l).2 := by
  induction l using snoc_ind with
  | h0 => rfl
  | h1 l c ih =>
    rw [st_snoc]
    have e : rowStep (rowOf (st l).1) c = (c, cnt (st l) c) := by rw [ih]; rfl
    by_cases h5 : cnt (st l) c = 5
    · rw [stStep_full h5]
      simp only
      rw [rowOf_snoc, rowOf_snoc, e]
      simp [rowStep, oth_ne]
    · rw [stStep_open h5]
      simp only
      rw [rowOf_snoc, e]
theorem rows_snoc {l : List UInt8} {c : UInt8} (h : ∀ k, (rowOf (l.take k)).2 ≤ 5) (hc : (rowOf (l ++ [c])).2 ≤ 5) : ∀ k, (rowOf ((l ++ [c]).take k)).2 ≤ 5 := by
  intro k
  by_cases hk : k ≤ l.length
  · rw [List.take_append_of_le_length hk]; exact h k
  · rw [List.take_of_length_le (by simp; omega)]; exact hc
theorem rows_st (l : List UInt8) : ∀ k, (rowOf ((st l).1.take k)).2 ≤ 5 := by
  induction l using snoc_ind with
  | h0 => intro k; simp [st, stFrom, rowOf]
  | h1 l c ih =>
    have hc := st_count l
    have hcl := cnt_le (st l) c hc
    rw [st_snoc]
    have e : rowOf ((st l).1 ++ [c]) = (c, cnt (st l) c) := by rw [rowOf_snoc, rowOf_st]; rfl
    have h1 := rows_snoc (c := c) ih (by rw [e]; exact hcl.2)
    by_cases h5 : cnt (st l) c = 5
    · rw [stStep_full h5]
      refine rows_snoc h1 ?_
      rw [rowOf_snoc, e]
      simp [rowStep, oth_ne]
    · rw [stStep_open h5]
      exact h1
end Go.Proofs.Bits
namespace Go.Proofs.Ytfddoindcmdooaa
open Go.RowKit Go.Proofs.Bits
set_option linter.unusedVariables false
set_option maxRecDepth 1000000

theorem st_last (l : List UInt8) (h : l ≠ []) : (st l).1 ≠ [] ∧ (st l).1[(st l).1.length - 1]? = some (st l).2.1 := by
  induction l using snoc_ind with
  | h0 => exact absurd rfl h
  | h1 l c _ =>
    rw [st_snoc]
    by_cases h5 : cnt (st l) c = 5
    · rw [stStep_full h5]; simp
    · rw [stStep_open h5]; simp

end Go.Proofs.Ytfddoindcmdooaa
namespace Go.Proofs.Ytfddoindcmdooaa
open Go.RowKit Go.Proofs.Bits
set_option linter.unusedVariables false
set_option maxRecDepth 1000000

set_option maxHeartbeats 4000000 in
theorem r2Field_any (f : Fr) (w : World) :
    Calls Try.prog 41 #[f.val] w fun e w' => e = .returned (.tuple #[.string ⟨(fldV f).toArray⟩, .int .i64 f.chk]) ∧ Below w.heap.size w w' := by
  have HV : Hid (fldV f = if f.chk = 0 then f.field else []) := rfl
  have HC := r2Check_any f
  have fn := Fa.new w f
  have bn : Below w.heap.size w (w.alloc (.cells f.arr 45)) := (Below.refl _ _).alloc (Nat.le_refl _) _
  have sn := size_alloc w (.cells f.arr 45)
  rcases chk_cases f with h0 | h0
  · rw [h0] at HC
    have HV : Hid (fldV f = f.field) := by show fldV f = _; rw [HV.out, if_pos h0]
    have HF := fun W => r2field_any f W h0
    rw [h0]
    generalize fldV f = V at *
    unfold Fr.val at *
    go_enter Try.func41, Try.ntmps41
    go_wp2_with (refine fn.ld rfl _ rfl rfl ?_)
    refine (HC _).mono ?_
    rintro e w1 ⟨rfl, b1⟩
    have f1 : Fa w.heap.size f w1 := (b1.block _ (by omega)).trans fn
    have B1 := bn.trans (b1.mono (by omega))
    have s1 := B1.size
    clear fn bn b1 sn HC
    go_wp2_with (refine f1.ld rfl _ rfl rfl ?_)
    refine (HF _).mono ?_
    rintro e w2 ⟨rfl, b2⟩
    have B2 := B1.trans (b2.mono s1)
    go_wp2
    go_ret2
    exact ⟨ret_str (by rw [HV.out]) rfl, B2⟩
  · rw [h0] at HC
    have HV : Hid (fldV f = []) := by show fldV f = _; rw [HV.out, if_neg (by rw [h0]; decide)]
    rw [h0]
    generalize fldV f = V at *
    unfold Fr.val at *
    go_enter Try.func41, Try.ntmps41
    go_wp2_with (refine fn.ld rfl _ rfl rfl ?_)
    refine (HC _).mono ?_
    rintro e w1 ⟨rfl, b1⟩
    clear fn HC
    go_wp2
    go_ret2
    exact ⟨ret_str (by rw [HV.out]) rfl, bn.trans (b1.mono (by omega))⟩

theorem sz48 : (⟨#[48]⟩ : ByteArray).size = 1 := rfl
theorem front0 (F N : List UInt8) : (⟨#[48]⟩ ++ ⟨F.toArray⟩ ++ ⟨#[48]⟩ : ByteArray) ++ ⟨N.toArray⟩ = ⟨([48] ++ F ++ [48] ++ N).toArray⟩ := by
  apply ByteArray.ext; simp
theorem front1 (F N : List UInt8) : (⟨#[48]⟩ ++ ⟨F.toArray⟩ ++ ⟨#[48]⟩ ++ ⟨#[48]⟩ : ByteArray) ++ ⟨N.toArray⟩ = ⟨([48] ++ F ++ [48] ++ [48] ++ N).toArray⟩ := by
  apply ByteArray.ext; simp

theorem body_err (f : Fr) : err f.body = 0 := err_of (body_all f) (by have := body_short f; omega)
theorem encs (S : List UInt8) (b : Bool) : (⟨S.toArray⟩ ++ ⟨#[49]⟩ ++ ⟨(flagV (!b)).toArray⟩ ++ ⟨#[49, 49, 49, 49, 49, 49, 49, 49]⟩ : ByteArray) = ⟨(S ++ flagV true ++ flagV (!b) ++ [49, 49, 49, 49, 49, 49, 49, 49]).toArray⟩ := by
  apply ByteArray.ext; simp [flagV]

end Go.Proofs.Ytfddoindcmdooaa
namespace Go.Proofs.Ytfddoindcmdooaa
open Go.RowKit Go.Proofs.Bits
set_option linter.unusedVariables false
set_option maxRecDepth 1000000
set_option linter.unusedSimpArgs false

theorem run_gtr5 (A B : ByteArray) (x : World) : (binOp BinOp.gtr 9 (.string A) (.string B)).run Try.prog x = .ok (.bool (!(Op.bytesLess A.toList B.toList || A.toList == B.toList))) x := by
  first
  | rfl
  | simp [binOp, run_underlying Try.underlying9, Op.stringBin, go_sem]
  | simp [binOp, go_sem]
theorem gtr_l5 (a b : List UInt8) : (!(Op.bytesLess (⟨a.toArray⟩ : ByteArray).toList (⟨b.toArray⟩ : ByteArray).toList || (⟨a.toArray⟩ : ByteArray).toList == (⟨b.toArray⟩ : ByteArray).toList)) = decide (b < a) := by
  rw [less_l5, beq_l5, Bool.eq_iff_iff]
  simp
  constructor
  · rintro ⟨h1, h2⟩; exact Std.lt_of_le_of_ne h1 (fun e => h2 e.symm)
  · intro h; exact ⟨Std.le_of_lt h, fun e => Std.lt_irrefl (e ▸ h)⟩
/-- Tickets, and mails, laid into the document's driver. -/
theorem DcW.setT {E : Nat} {d : Dc} {vI vO' : Value} {w w1 w2 : World} (h : DcW E d vI w) (hb : Below w.heap.size w w1) (hb2 : Below w1.heap.size (w1.setCell ⟨E, 4, none⟩ (.int .i64 (d.tk + 1))) w2) (cs : List Ml) (B : Nat) (hq : w2.ownsRow B 90 13 vO' cs.length (flatW DR cs)) (hr : (cs.length : Int) ≤ d.most) :
    DcP E { d with out := cs, tk := d.tk + 1 } vI w (w2.setCell ⟨E, 3, none⟩ vO') := by
  have h' := h.below hb
  have hlt := h'.lt
  obtain ⟨⟨vL, vO, h1, h2, h3⟩, h4, h5, h6, h7, h8, h9, h10⟩ := h'
  have hg1 : w1.grownBy (w1.setCell ⟨E, 4, none⟩ (.int .i64 (d.tk + 1))) (some E) := ⟨rfl, rfl, rfl, by simp [World.setCell], fun k hk hne => Below.heap_setCell w1 ⟨E, 4, none⟩ _ k (fun e => hne (by rw [show k = E from e]))⟩
  have sz : (w1.setCell ⟨E, 4, none⟩ (.int .i64 (d.tk + 1))).heap.size = w1.heap.size := by simp [World.setCell]
  have hg2 : w1.grownBy w2 (some E) := grown_trans hg1 ⟨hb2.os, hb2.tape, hb2.output, hb2.size, fun k hk _ => hb2.block k (by omega)⟩
  have A2 : Er E (rA d.most d.room vL vO (d.tk + 1) vI d.lo) w2 := (hb2.block E hlt).trans (h1.set 4 _)
  have hg3 : w2.grownBy (w2.setCell ⟨E, 3, none⟩ vO') (some E) := ⟨rfl, rfl, rfl, by simp [World.setCell], fun k hk hne => Below.heap_setCell w2 ⟨E, 3, none⟩ vO' k (fun e => hne (by rw [show k = E from e]))⟩
  have hg := grown_trans hg2 hg3
  have hI : RT 90 13 rmC w2 vO' cs := RT.own DR hq
  exact ⟨vI, ⟨⟨vL, vO', A2.set 3 _, h2.grown hg (h2.ne h1 (by decide)), hI.grown hg3 (hI.ne A2 (by decide))⟩, h4.grown hg (h4.ne h1 (by decide)), hr, h6, h7, h8, h9, by show 0 ≤ d.tk + 1; omega⟩, grown_trans (grown_below hb _) hg, fun b _ e => e⟩
theorem rm_arr (g : Fr) (z : Int) : (rmC ⟨g, [], z⟩).toArray = g.arr ++ #[.int .i64 z] := by unfold rmC Fr.arr; simp
theorem build_rm (g : Fr) (z : Int) (x : World) : (Instr.build 90 #[(0, .agg g.arr), (1, .int .i64 z)]).run Try.prog x = .ok (.agg (g.arr ++ #[.int .i64 z])) x := by
  obtain ⟨i, e, r, n, d0, d1, d2, d3, d4, d5, d6, d7, he⟩ := arr_full g
  rw [he]
  kernel_rfl
theorem exec_buildR {a : Act} {o : Oper} {x t : Operand} {g : Fr} {fld : List UInt8} {z : Int} (ho : o.op = .build 90 #[(0, x), (1, t)]) (hx : a.eval x = .agg g.arr) (hz : a.eval t = .int .i64 z) (w : World) :
    (execOp a.eval o).run Try.prog w = .ok (.value (.agg (rmC ⟨g, fld, z⟩).toArray)) w := by
  unfold execOp
  simp only [ho, List.map_toArray, List.map_cons, List.map_nil, hx, hz, Sem.run_bind, build_rm]
  have : (rmC ⟨g, fld, z⟩).toArray = g.arr ++ #[.int .i64 z] := by unfold rmC Fr.arr; simp
  rw [this]; rfl
theorem fill_rm (m : Ml) : Instr.fill (fun i => some (i * 13, 13)) ((Array.range (1 * 13)).map ((Value.agg (rmC Ml.nul).toArray).cells[· % (Value.agg (rmC Ml.nul).toArray).cells.size]!)) [(0, .agg (rmC m).toArray)] = some (rmC m).toArray := by
  have hsz : (Value.agg (rmC m).toArray).cells.size = 13 := by simp [Value.cells, rmC_len]
  have := Go.Great.fill_whole (by decide : 0 < 13) [Value.agg (rmC m).toArray] ((Array.range (1 * 13)).map ((Value.agg (rmC Ml.nul).toArray).cells[· % (Value.agg (rmC Ml.nul).toArray).cells.size]!)) (by intro v hv; simp at hv; subst hv; exact hsz) (by simp)
  simpa [Value.cells] using this
theorem news_rm (x : World) (m : Ml) : ∀ j u, (rmC m)[j]? = some u → (x.alloc (.cells (rmC m).toArray 90)).cell? ((⟨x.heap.size, 0, none⟩ : Addr).add j) = some u := fun j u hj => by
  rw [Addr.add_mid, Nat.zero_add, Lib.cell_of_heap (heap_alloc_new x _)]
  simpa using hj
/-- Where a mail of field s goes in. -/
def insAt (out : List Ml) (s : List UInt8) (k : Nat) : Prop := k ≤ out.length ∧ (∀ j (hj : j < out.length), j < k → ¬ s < out[j].fld) ∧ ∀ h : k < out.length, s < out[k].fld
set_option maxHeartbeats 8000000 in
theorem ESend_any {E : Nat} {d : Dc} {vI : Value} {w : World} (h : DcW E d vI w) (f : Fr) (hO : ∀ m ∈ d.out, MOk m) (ht1 : d.tk < 4611686018427387904) :
    Calls Try.prog 23 #[.pointer (some ⟨E, 0, none⟩), .agg f.arr] w fun e w' => (f.chk ≠ 0 ∧ e = .returned (.tuple #[.int .i64 0, .int .i64 f.chk]) ∧ DcP E d vI w w') ∨ (f.chk = 0 ∧ (d.out.length : Int) = d.most ∧ e = .returned (.tuple #[.int .i64 0, .int .i64 31]) ∧ DcP E d vI w w') ∨ (f.chk = 0 ∧ (d.out.length : Int) < d.most ∧ e = .returned (.tuple #[.int .i64 (d.tk + 1), .int .i64 0]) ∧ ∃ k, insAt d.out f.field k ∧ DcP E { d with out := d.out.take k ++ [⟨f.plain, f.field, d.tk + 1⟩] ++ d.out.drop k, tk := d.tk + 1 } vI w w') := by
  have hh := h
  have hlt := h.lt
  have hb0 := h.b0
  have hb1 := h.b1
  have ht0 := h.t0
  obtain ⟨wa, hwa⟩ : ∃ wa, w.alloc (.cells f.arr 45) = wa := ⟨_, rfl⟩
  have ba : Below w.heap.size w wa := by rw [← hwa]; exact (Below.refl _ _).alloc (Nat.le_refl _) _
  have fa : Fa w.heap.size f wa := by rw [← hwa]; exact Fa.new w f
  have hC := r2Field_any f wa
  unfold Fr.val at hC
  have HS : Hid (∀ x, Below w.heap.size w x → DcP E d vI w x) := fun x hx => hh.stay hx
  obtain ⟨q, hq⟩ : ∃ q, w.heap.size = q := ⟨_, rfl⟩
  have sa : q < wa.heap.size := by rw [← hq]; exact fa.lt
  rw [hq] at fa ba HS
  by_cases hf : f.chk = 0
  · rw [hf] at hC
    rw [show fldV f = f.field by unfold fldV; rw [if_pos hf]] at hC
    have HF : Hid (f.chk = 0) := hf
    clear hf
    go_enter Try.func23, Try.ntmps23
    go_upto_region 1 with fail
    go_wp2_with (refine fa.ld rfl _ rfl rfl ?_)
    refine hC.mono ?_
    rintro e w2 ⟨rfl, b2⟩
    have B2 : Below q w w2 := ba.trans (b2.mono (by omega))
    have f2 := fa.below5 b2
    have D2 := hh.below (by rw [hq]; exact B2)
    obtain ⟨⟨vL, vO, A2, L2, O2⟩, _⟩ := D2
    obtain ⟨ao, co, rfl⟩ := O2.wide.shape
    have c0 := A2.cell (k := 0) (v := .int .i64 d.most) rfl
    have c3 := A2.cell (k := 3) (v := .slice ao d.out.length co) rfl
    have c4 := A2.cell (k := 4) (v := .int .i64 d.tk) rfl
    have hfr := A2.free 4
    clear hC fa
    by_cases hm : (d.out.length : Int) = d.most
    · have hge : decide (d.most ≤ (d.out.length : Int)) = true := by simp; omega
      have HX : Hid (∀ m, DcP E d vI w (w2.drewN m)) := fun m => HS.out _ (below_drawn B2 m)
      have HM : Hid ((d.out.length : Int) = d.most) := hm
      clear hm A2 O2 L2
      go_wp2_with fail
      go_quiet (fail)
      go_wp2
      go_ret2
      exact .inr (.inl ⟨HF.out, HM.out, rfl, HX.out _⟩)
    · have hlm : (d.out.length : Int) < d.most := by omega
      have hge : decide (d.most ≤ (d.out.length : Int)) = false := by simp; omega
      clear hm
      go_wp2_with fail
      go_quiet (fail)
      go_upto_region 7 with fail
      have B3 : Below q w (w2.drewN nq) := below_drawn B2 nq
      have f3 : Fa q f (w2.drewN nq) := f2
      have A3 : Er E (rA d.most d.room vL (.slice ao d.out.length co) d.tk vI d.lo) (w2.drewN nq) := A2
      have O3 : RT 90 13 rmC (w2.drewN nq) (.slice ao d.out.length co) d.out := O2.below (below_drawn (Below.refl _ _) nq)
      generalize w2.drewN nq = w3 at *
      have A4 := A3.set 4 (.int .i64 (d.tk + 1))
      have hg4 : w3.grownBy (w3.setCell ⟨E, 4, none⟩ (.int .i64 (d.tk + 1))) (some E) := ⟨rfl, rfl, rfl, by simp [World.setCell], fun k hk hne => Below.heap_setCell w3 ⟨E, 4, none⟩ _ k (fun e => hne (by rw [show k = E from e]))⟩
      have O4 := O3.grown hg4 (O3.ne A3 (by decide))
      have f4 : Fa q f (w3.setCell ⟨E, 4, none⟩ (.int .i64 (d.tk + 1))) := f3.other (p := ⟨E, 4, none⟩) (by show q ≠ E; omega) _
      have s4 : (w3.setCell ⟨E, 4, none⟩ (.int .i64 (d.tk + 1))).heap.size = w3.heap.size := by simp [World.setCell]
      obtain ⟨w4, hw4⟩ : ∃ x, w3.setCell ⟨E, 4, none⟩ (.int .i64 (d.tk + 1)) = x := ⟨_, rfl⟩
      have HT : Hid (∀ (w9 : World) (v9 : Value) (cs : List Ml) (B : Nat), Below w4.heap.size w4 w9 → w9.ownsRow B 90 13 v9 cs.length (flatW DR cs) → (cs.length : Int) ≤ d.most → DcP E { d with out := cs, tk := d.tk + 1 } vI w (w9.setCell ⟨E, 3, none⟩ v9)) := fun w9 v9 cs B hb hq' hr => by
        subst hw4
        exact hh.setT (by rw [hq]; exact B3) (by rw [← s4]; exact hb) cs B hq' hr
      rw [hw4] at A4 O4 f4
      have A4' : Er E (rA d.most d.room vL (.slice ao d.out.length co) (d.tk + 1) vI d.lo) w4 := A4
      have HI : Hid (∀ x, Below w4.heap.size w4 x → Er E (rA d.most d.room vL (.slice ao d.out.length co) (d.tk + 1) vI d.lo) x ∧ Wide 13 rmC x (.slice ao d.out.length co) d.out ∧ Fa q f x) := fun x hx => ⟨(hx.block E (Array.getElem?_eq_some_iff.1 A4').1).trans A4', (O4.below hx).wide, f4.below5 hx⟩
      have HRT : Hid (RT 90 13 rmC w4 (.slice ao d.out.length co) d.out) := O4
      have hqs : q < w4.heap.size := f4.lt
      have hgt := run_gtr5
      rw [hw4]
      clear A2 A3 A4 A4' O2 O3 O4 f2 f3 f4 hg4 s4 B2 B3 c0 c3 c4 hfr hw4 L2 hge b2
      go_wp2
      go_loopw [8] (fun iv x => ∃ k : Nat, k ≤ d.out.length ∧ iv = .int .i64 k ∧ (∀ j (hj : j < d.out.length), j < k → ¬ f.field < d.out[j].fld) ∧ Below w4.heap.size w4 x) (fun iv _ => d.out.length - (intOf iv).toNat)
      case atStart => exact ⟨0, Nat.zero_le _, rfl, (fun j _ h => by omega), Below.refl _ _⟩
      case round =>
        obtain ⟨k, hk, rfl, H1, bx⟩ := hrel
        obtain ⟨A5, W5, f5⟩ := HI.out wr bx
        have c3 := A5.cell (k := 3) (v := .slice ao d.out.length co) rfl
        by_cases hkl : k < d.out.length
        · obtain ⟨b, off, cap', hv, hb, hR⟩ := W5.at0 k hkl
          have hao : ao = some ⟨b, off, none⟩ := by injection hv
          subst hao
          have R5 := rm_fr hR
          obtain ⟨m1, m2, m3⟩ := hO d.out[k] (List.getElem_mem hkl)
          have hFi := r2Field_any d.out[k].f wr
          unfold Fr.val at hFi
          rw [m1, show fldV d.out[k].f = d.out[k].fld by unfold fldV; rw [if_pos m1, m3]] at hFi
          have HJ : Hid (decide (f.field < d.out[k].fld) = false → ∀ j (hj : j < d.out.length), j < k + 1 → ¬ f.field < d.out[j].fld) := by
            intro h2 j hj h1
            rcases Nat.lt_or_ge j k with h3 | h3
            · exact H1 j hj h3
            · have : j = k := by omega
              subst this; simpa using h2
          have HIn : Hid (decide (f.field < d.out[k].fld) = true → insAt d.out f.field k) := fun h2 => ⟨hk, H1, fun _ => by simpa using h2⟩
          have HO3 : Hid (f.field < d.out[k].fld ∨ d.out[k].fld = f.field ∨ d.out[k].fld < f.field) := by
            show _ ∨ _
            by_cases h1 : f.field < d.out[k].fld
            · exact .inl h1
            · by_cases h2 : d.out[k].fld = f.field
              · exact .inr (.inl h2)
              · exact .inr (.inr (Std.lt_of_le_of_ne (Std.not_lt.1 h1) h2))
          have HJ' : Hid (¬ f.field < d.out[k].fld → ∀ j (hj : j < d.out.length), j < k + 1 → ¬ f.field < d.out[j].fld) := fun h => HJ.out (by simpa using h)
          have HIn' : Hid (f.field < d.out[k].fld → insAt d.out f.field k) := fun h => HIn.out (by simpa using h)
          generalize d.out[k].fld = fk at *
          generalize d.out[k].f = ff at *
          clear H1 hv hR m1 m2 m3 HJ HIn
          go_wp2_with (refine fld_ld5 R5 rfl _ rfl (by simp [Act.eval]) ?_)
          refine hFi.mono ?_
          rintro e w6 ⟨rfl, b6⟩
          have bx6 := bx.trans (b6.mono bx.size)
          clear hFi R5 A5 W5 f5 c3 b6 bx
          rcases HO3.out with ho | ho | ho
          · have HIk : Hid (insAt d.out f.field k) := HIn'.out ho
            have l1 : Op.bytesLess fk f.field = false := by rw [Go.Proofs.bytesLess_eq]; simp; exact Std.le_of_lt ho
            have l2 : (fk == f.field) = false := by simp; intro e; rw [e] at ho; exact Std.lt_irrefl ho
            have l3 : ¬ fk = f.field := by simpa using l2
            have l4 : Op.bytesLess (⟨fk.toArray⟩ : ByteArray).toList (⟨f.field.toArray⟩ : ByteArray).toList = false := by rw [less_l5, ← Go.Proofs.bytesLess_eq]; exact l1
            have l5 : ((⟨fk.toArray⟩ : ByteArray).toList == (⟨f.field.toArray⟩ : ByteArray).toList) = false := by rw [beq_l5]; simpa using l2
            obtain ⟨v1, hs1, hw1⟩ := rm_take HRT.out k (by omega)
            obtain ⟨v2, hs2, hw2⟩ := rm_drop HRT.out k (by omega)
            have HW1 : Hid (∀ x, Wide 13 rmC x (.slice (some ⟨b, off, none⟩) d.out.length co) d.out → Wide 13 rmC x v1 (d.out.take k)) := hw1
            have HW2 : Hid (∀ x, Wide 13 rmC x (.slice (some ⟨b, off, none⟩) d.out.length co) d.out → Wide 13 rmC x v2 (d.out.drop k)) := hw2
            clear HJ' HIn' HO3 hw1 hw2 HRT ho
            go_wp2_with fail
            refine wp_region_held (S := fun x => Er E (rA d.most d.room vL (.slice (some ⟨b, off, none⟩) d.out.length co) (d.tk + 1) vI d.lo) x ∧ Fa q f x) (by kernel_rfl) ?_
            obtain ⟨w5, hw5⟩ : ∃ x : World, { w6 with drawn := w6.drawn + 1 } = x := ⟨_, rfl⟩
            rw [hw5]
            have b5 : Below w4.heap.size w4 w5 := by rw [← hw5]; exact below_drawn bx6 1
            have r0 := Below.refl w5.heap.size w5
            have s5 : w4.heap.size ≤ w5.heap.size := b5.size
            have HW : Hid (∀ x, Below w5.heap.size w5 x → Er E (rA d.most d.room vL (.slice (some ⟨b, off, none⟩) d.out.length co) (d.tk + 1) vI d.lo) x ∧ Fa q f x ∧ Wide 13 rmC x v1 (d.out.take k) ∧ Wide 13 rmC x v2 (d.out.drop k) ∧ Below w4.heap.size w4 x) := fun x hx => by
              have hb : Below w4.heap.size w4 x := b5.trans (hx.mono s5)
              obtain ⟨a1, a2, a3⟩ := HI.out x hb
              exact ⟨a1, a3, HW1.out x a2, HW2.out x a2, hb⟩
            have HPl : Hid (∀ x, Calls Try.prog 16 #[.agg f.arr] x fun e w' => e = .returned (.agg f.plain.arr) ∧ Below x.heap.size x w') := fun x => r2Plain_any f x
            obtain ⟨i0, hi0, hz0, hz1, hz2⟩ := info_parts infoRmZ
            have hkb : k ≤ 64 := by omega
            have hob : d.out.length < 64 := by omega
            clear hw5 HI
            refine wpAnyH_take (i := 1) (v := (.pointer (some ⟨E, 0, none⟩))) rfl (by kernel_rfl) (by kernel_rfl) (by kernel_rfl) (fun _ _ _ h => h) (.inl ⟨rfl, fun _ hS => rfl⟩) ⟨(HW.out _ r0).1, (HW.out _ r0).2.1⟩ ?_
            simp only [List.getElem_toArray, List.getElem_cons_succ, List.getElem_cons_zero, Act.put, List.setIfInBounds_toArray, List.set_cons_succ, List.set_cons_zero]
            refine wpAnyH_take (i := 2) (v := (.pointer (some ⟨E, 0, none⟩))) rfl (by kernel_rfl) (by kernel_rfl) (by kernel_rfl) (fun _ _ _ h => h) (.inl ⟨rfl, fun _ hS => by simp [execOp, go_sem, Act.eval]⟩) ⟨(HW.out _ r0).1, (HW.out _ r0).2.1⟩ ?_
            simp only [List.getElem_toArray, List.getElem_cons_succ, List.getElem_cons_zero, Act.put, List.setIfInBounds_toArray, List.set_cons_succ, List.set_cons_zero]
            refine wpAnyH_take (i := 3) (v := (.pointer (some ⟨E, 3, none⟩))) rfl (by kernel_rfl) (by kernel_rfl) (by kernel_rfl) (fun _ _ _ h => h) (.inl ⟨rfl, fun _ hS => by simp [execOp, go_sem, Act.eval]⟩) ⟨(HW.out _ r0).1, (HW.out _ r0).2.1⟩ ?_
            simp only [List.getElem_toArray, List.getElem_cons_succ, List.getElem_cons_zero, Act.put, List.setIfInBounds_toArray, List.set_cons_succ, List.set_cons_zero]
            refine wpAnyH_take (i := 4) (v := (.slice (some ⟨b, off, none⟩) d.out.length co)) rfl (by kernel_rfl) (by kernel_rfl) (by kernel_rfl) (fun _ _ _ h => h) (.inl ⟨rfl, fun _ hS => exec_load rfl rfl (load_rms _ E 3 _ _ _ (hS.1.cell rfl))⟩) ⟨(HW.out _ r0).1, (HW.out _ r0).2.1⟩ ?_
            simp only [List.getElem_toArray, List.getElem_cons_succ, List.getElem_cons_zero, Act.put, List.setIfInBounds_toArray, List.set_cons_succ, List.set_cons_zero]
            refine wpAnyH_take (i := 5) (v := (.int .i64 k)) rfl (by kernel_rfl) (by kernel_rfl) (by kernel_rfl) (fun _ _ _ h => h) (.inl ⟨rfl, fun _ hS => rfl⟩) ⟨(HW.out _ r0).1, (HW.out _ r0).2.1⟩ ?_
            simp only [List.getElem_toArray, List.getElem_cons_succ, List.getElem_cons_zero, Act.put, List.setIfInBounds_toArray, List.set_cons_succ, List.set_cons_zero]
            refine wpAnyH_take (i := 6) (v := (v1)) rfl (by kernel_rfl) (by kernel_rfl) (by kernel_rfl) (fun _ _ _ h => h) (.inl ⟨rfl, fun _ hS => by simp [execOp, go_sem, Act.eval, hs1]⟩) ⟨(HW.out _ r0).1, (HW.out _ r0).2.1⟩ ?_
            simp only [List.getElem_toArray, List.getElem_cons_succ, List.getElem_cons_zero, Act.put, List.setIfInBounds_toArray, List.set_cons_succ, List.set_cons_zero]
            refine wpAnyH_take (i := 8) (v := (.agg f.arr)) rfl (by kernel_rfl) (by kernel_rfl) (by kernel_rfl) (fun _ _ _ h => h) (.inl ⟨rfl, fun _ hS => exec_load rfl rfl (load_fa _ q f hS.2)⟩) ⟨(HW.out _ r0).1, (HW.out _ r0).2.1⟩ ?_
            simp only [List.getElem_toArray, List.getElem_cons_succ, List.getElem_cons_zero, Act.put, List.setIfInBounds_toArray, List.set_cons_succ, List.set_cons_zero]
            refine wpAnyH_take (i := 10) (v := (.pointer (some ⟨E, 0, none⟩))) rfl (by kernel_rfl) (by kernel_rfl) (by kernel_rfl) (fun _ _ _ h => h) (.inl ⟨rfl, fun _ hS => rfl⟩) ⟨(HW.out _ r0).1, (HW.out _ r0).2.1⟩ ?_
            simp only [List.getElem_toArray, List.getElem_cons_succ, List.getElem_cons_zero, Act.put, List.setIfInBounds_toArray, List.set_cons_succ, List.set_cons_zero]
            refine wpAnyH_take (i := 11) (v := (.pointer (some ⟨E, 0, none⟩))) rfl (by kernel_rfl) (by kernel_rfl) (by kernel_rfl) (fun _ _ _ h => h) (.inl ⟨rfl, fun _ hS => by simp [execOp, go_sem, Act.eval]⟩) ⟨(HW.out _ r0).1, (HW.out _ r0).2.1⟩ ?_
            simp only [List.getElem_toArray, List.getElem_cons_succ, List.getElem_cons_zero, Act.put, List.setIfInBounds_toArray, List.set_cons_succ, List.set_cons_zero]
            refine wpAnyH_take (i := 12) (v := (.pointer (some ⟨E, 4, none⟩))) rfl (by kernel_rfl) (by kernel_rfl) (by kernel_rfl) (fun _ _ _ h => h) (.inl ⟨rfl, fun _ hS => by simp [execOp, go_sem, Act.eval]⟩) ⟨(HW.out _ r0).1, (HW.out _ r0).2.1⟩ ?_
            simp only [List.getElem_toArray, List.getElem_cons_succ, List.getElem_cons_zero, Act.put, List.setIfInBounds_toArray, List.set_cons_succ, List.set_cons_zero]
            refine wpAnyH_take (i := 13) (v := (.int .i64 (d.tk + 1))) rfl (by kernel_rfl) (by kernel_rfl) (by kernel_rfl) (fun _ _ _ h => h) (.inl ⟨rfl, fun _ hS => exec_load rfl rfl (load_int _ E 4 _ (hS.1.cell rfl))⟩) ⟨(HW.out _ r0).1, (HW.out _ r0).2.1⟩ ?_
            simp only [List.getElem_toArray, List.getElem_cons_succ, List.getElem_cons_zero, Act.put, List.setIfInBounds_toArray, List.set_cons_succ, List.set_cons_zero]
            refine wpAnyH_all (rs := [0]) (by kernel_rfl) (by simp) ?_
            intro k hk
            simp only [List.mem_cons, List.mem_nil_iff, or_false] at hk
            subst hk
            refine wpOp_run rfl rfl (wp_bs0g Try.underlying36 infoRmZ rfl ?_)
            have bz := r0.alloc r0.size (.cells #[] 90)
            refine ⟨⟨(HW.out _ bz).1, (HW.out _ bz).2.1⟩, ?_⟩
            simp only [List.getElem_toArray, List.getElem_cons_succ, List.getElem_cons_zero, Act.put, List.setIfInBounds_toArray, List.set_cons_succ, List.set_cons_zero]
            refine wpAnyH_all (rs := [7]) (by kernel_rfl) (by simp) ?_
            intro k hk
            simp only [List.mem_cons, List.mem_nil_iff, or_false] at hk
            subst hk
            refine wpOp_run rfl rfl (wp_append_wide DR _ _ 36 90 _ _ Try.underlying36 infoRmZ rfl rfl w5.heap.size (.slice (some ⟨w5.heap.size, 0, none⟩) 0 0) [] rfl (by exact own_empty_e w5 90 13) _ (d.out.take k) rfl (HW.out _ bz).2.2.1 (by unfold maxLen; simp; omega) (by simp; omega) (by rw [size_alloc]; omega) ?_)
            intro v6 w7 P6 G6
            have b7 : Below w5.heap.size w5 w7 := bz.trans (((Below.refl w5.heap.size _).grown G6 (by rw [size_alloc]; omega) (by simp [Value.ownBlock])).mono (by omega))
            have P6' : w7.ownsRow w5.heap.size 90 13 v6 (d.out.take k).length (flatW DR (d.out.take k)) := own_lower P6 (by omega)
            refine ⟨⟨(HW.out _ b7).1, (HW.out _ b7).2.1⟩, ?_⟩
            simp only [List.getElem_toArray, List.getElem_cons_succ, List.getElem_cons_zero, Act.put, List.setIfInBounds_toArray, List.set_cons_succ, List.set_cons_zero]
            refine wpAnyH_all (rs := [9]) (by kernel_rfl) (by simp) ?_
            intro k hk
            simp only [List.mem_cons, List.mem_nil_iff, or_false] at hk
            subst hk
            refine wpOp_run rfl rfl (wp_call_fn 16 #[.agg f.arr] (by simp [execOp, go_sem, Act.eval, resolve, invoke, enterR2]) ((HPl.out w7).mono ?_))
            rintro e w8 ⟨rfl, b8⟩
            have B8 : Below w5.heap.size w5 w8 := b7.trans (b8.mono b7.size)
            have P8 := own_below5 P6' b8
            refine ⟨⟨(HW.out _ B8).1, (HW.out _ B8).2.1⟩, ?_⟩
            simp only [List.getElem_toArray, List.getElem_cons_succ, List.getElem_cons_zero, Act.put, List.setIfInBounds_toArray, List.set_cons_succ, List.set_cons_zero]
            refine wpAnyH_take (i := 14) (v := (.agg (rmC ⟨f.plain, f.field, d.tk + 1⟩).toArray)) rfl (by kernel_rfl) (by kernel_rfl) (by kernel_rfl) (fun _ _ _ h => h) (.inl ⟨rfl, fun _ hS => exec_buildR rfl rfl rfl _⟩) ⟨(HW.out _ B8).1, (HW.out _ B8).2.1⟩ ?_
            simp only [List.getElem_toArray, List.getElem_cons_succ, List.getElem_cons_zero, Act.put, List.setIfInBounds_toArray, List.set_cons_succ, List.set_cons_zero]
            refine wpAnyH_all (rs := [15]) (by kernel_rfl) (by simp) ?_
            intro k hk
            simp only [List.mem_cons, List.mem_nil_iff, or_false] at hk
            subst hk
            refine wpOp_run rfl rfl (wp_buildSlice 36 90 1 _ rfl (rmC ⟨f.plain, f.field, d.tk + 1⟩).toArray i0 _ Try.underlying36 hi0 hz0 (by rw [hz1]; omega) (by rw [hz1]; omega) (by rw [hz1]; simp only [List.map_toArray, List.map_cons, List.map_nil]; exact fill_rm _) ?_)
            have ba9 : Below w8.heap.size w8 (w8.alloc (.cells (rmC ⟨f.plain, f.field, d.tk + 1⟩).toArray 90)) := (Below.refl _ w8).alloc (Nat.le_refl _) _
            have B9 : Below w5.heap.size w5 (w8.alloc (.cells (rmC ⟨f.plain, f.field, d.tk + 1⟩).toArray 90)) := B8.trans (ba9.mono B8.size)
            have P9 := own_below5 P8 ba9
            refine ⟨⟨(HW.out _ B9).1, (HW.out _ B9).2.1⟩, ?_⟩
            simp only [List.getElem_toArray, List.getElem_cons_succ, List.getElem_cons_zero, Act.put, List.setIfInBounds_toArray, List.set_cons_succ, List.set_cons_zero]
            refine wpAnyH_all (rs := [16]) (by kernel_rfl) (by simp) ?_
            intro k hk
            simp only [List.mem_cons, List.mem_nil_iff, or_false] at hk
            subst hk
            refine wpOp_run rfl rfl (wp_append_own _ _ _ 36 rfl w5.heap.size 90 i0 _ 13 32 Try.underlying36 hi0 hz0 hz1 hz2 rfl (by omega) _ (d.out.take k).length (flatW DR (d.out.take k)) rfl P9 ⟨w8.heap.size, 0, none⟩ 1 1 (rmC ⟨f.plain, f.field, d.tk + 1⟩) rfl (by rw [rmC_len]) (news_rm w8 _) (rmC_one _) (by unfold maxLen; simp; omega) (by simp; omega) B9.size ?_)
            intro va wA oA gA _
            have BA : Below w5.heap.size w5 wA := ⟨gA.os.trans B9.os, gA.tape.trans B9.tape, gA.output.trans B9.output, Nat.le_trans B9.size gA.size, fun k hk => (gA.block k (Nat.lt_of_lt_of_le hk B9.size) (fun e => by have := own_base P9 e.symm; omega)).trans (B9.block k hk)⟩
            have QA : wA.ownsRow w5.heap.size 90 13 va (d.out.take k ++ [(⟨f.plain, f.field, d.tk + 1⟩ : Ml)]).length (flatW DR (d.out.take k ++ [(⟨f.plain, f.field, d.tk + 1⟩ : Ml)])) := by
              rw [List.length_append, flatW_append]; simpa [flatW, DR] using oA
            refine ⟨⟨(HW.out _ BA).1, (HW.out _ BA).2.1⟩, ?_⟩
            simp only [List.getElem_toArray, List.getElem_cons_succ, List.getElem_cons_zero, Act.put, List.setIfInBounds_toArray, List.set_cons_succ, List.set_cons_zero]
            refine wpAnyH_take (i := 17) (v := (va)) rfl (by kernel_rfl) (by kernel_rfl) (by kernel_rfl) (fun _ _ _ h => h) (.inl ⟨rfl, fun _ hS => rfl⟩) ⟨(HW.out _ BA).1, (HW.out _ BA).2.1⟩ ?_
            simp only [List.getElem_toArray, List.getElem_cons_succ, List.getElem_cons_zero, Act.put, List.setIfInBounds_toArray, List.set_cons_succ, List.set_cons_zero]
            refine wpAnyH_done (by kernel_rfl) ?_ _
            have AA := (HW.out _ BA).1
            have WA := (HW.out _ BA).2.2.2.1
            have BB : Below w4.heap.size w4 wA := (HW.out _ BA).2.2.2.2
            have d3 := AA.cell (k := 3) (v := .slice (some ⟨b, off, none⟩) d.out.length co) rfl
            have d4 := AA.cell (k := 4) (v := .int .i64 (d.tk + 1)) rfl
            have HLn : Hid (((d.out.take k ++ [(⟨f.plain, f.field, d.tk + 1⟩ : Ml)]) ++ d.out.drop k).length = d.out.length + 1) := by show _ = _; simp; omega
            have HLt : Hid ((d.out.take k ++ [(⟨f.plain, f.field, d.tk + 1⟩ : Ml)]).length = k + 1) := by show _ = _; simp; omega
            generalize hX : d.out.take k ++ [(⟨f.plain, f.field, d.tk + 1⟩ : Ml)] = xs at *
            generalize hY : d.out.drop k = ys at *
            have hYl : ys.length ≤ 64 := by rw [← hY, List.length_drop]; omega
            have s5' : w5.heap.size ≤ wA.heap.size := BA.size
            clear HW HPl P9 oA gA P8 P6' HW1 HW2 b5 b7 B8 B9 P6 G6
            have hXl := HLt.out
            have HXE : Hid (d.out.take k ++ [(⟨f.plain, f.field, d.tk + 1⟩ : Ml)] = xs) := hX
            have HYE : Hid (d.out.drop k = ys) := hY
            clear hX hY
            go_upto_region 13 with fail
            go_wp2_with (at_builtin; refine append_wide DR rfl _ _ 36 90 _ _ Try.underlying36 infoRmZ rfl rfl w5.heap.size va xs rfl QA _ ys rfl WA (by unfold maxLen; omega) (by omega) s5' ?_)
            intro vB wB PB GB
            have B10 : Below w4.heap.size w4 wB := ⟨GB.os.trans BB.os, GB.tape.trans BB.tape, GB.output.trans BB.output, Nat.le_trans BB.size GB.size, fun j hj => (GB.block j (Nat.lt_of_lt_of_le hj BB.size) (fun e => by have := own_base QA e.symm; omega)).trans (BB.block j hj)⟩
            have AB : Er E (rA d.most d.room vL (.slice (some ⟨b, off, none⟩) d.out.length co) (d.tk + 1) vI d.lo) wB := (B10.block E (by omega)).trans ((BB.block E (by omega)).symm.trans AA)
            have HX : Hid (DcP E { d with out := xs ++ ys, tk := d.tk + 1 } vI w (wB.setCell ⟨E, 3, none⟩ vB)) := HT.out wB vB (xs ++ ys) _ B10 (by rw [List.length_append, hXl]; exact PB) (by rw [HLn.out]; omega)
            obtain ⟨aB, cB, hvB⟩ := own_shape5 PB
            have e3 := AB.cell (k := 3) (v := .slice (some ⟨b, off, none⟩) d.out.length co) rfl
            have e3f := AB.free 3
            have AC := AB.set 3 vB
            have e4 := AC.cell (k := 4) (v := .int .i64 (d.tk + 1)) rfl
            subst hvB
            generalize k + 1 + ys.length = LL at *
            clear QA WA AA BB PB GB B10 AB AC HT HLn HLt
            go_wp2
            go_ret2
            exact .inr (.inr ⟨HF.out, hlm, rfl, k, HIk.out, by rw [HXE.out, HYE.out]; exact HX.out⟩)
          · have HJ3 : Hid (∀ j (hj : j < d.out.length), j < k + 1 → ¬ f.field < d.out[j].fld) := HJ'.out (by rw [ho]; exact Std.lt_irrefl)
            have l1 : Op.bytesLess fk f.field = false := by rw [Go.Proofs.bytesLess_eq, ho]; simp
            have l2 : (fk == f.field) = true := by simpa using ho
            have l4 : Op.bytesLess (⟨fk.toArray⟩ : ByteArray).toList (⟨f.field.toArray⟩ : ByteArray).toList = false := by rw [less_l5, ← Go.Proofs.bytesLess_eq]; exact l1
            have l5 : ((⟨fk.toArray⟩ : ByteArray).toList == (⟨f.field.toArray⟩ : ByteArray).toList) = true := by rw [beq_l5]; simpa using l2
            clear HJ' HIn' HO3 HI HT HRT ho
            go_wp2
            go_roundw
            case rel => exact ⟨k + 1, by omega, by go_num, HJ3.out, bx6⟩
            case measure => simp [intOf]; omega
          · have HJ3 : Hid (∀ j (hj : j < d.out.length), j < k + 1 → ¬ f.field < d.out[j].fld) := HJ'.out (fun h => Std.lt_irrefl (Std.lt_trans h ho))
            have l1 : Op.bytesLess fk f.field = true := by rw [Go.Proofs.bytesLess_eq]; simpa using ho
            have l4 : Op.bytesLess (⟨fk.toArray⟩ : ByteArray).toList (⟨f.field.toArray⟩ : ByteArray).toList = true := by rw [less_l5, ← Go.Proofs.bytesLess_eq]; exact l1
            clear HJ' HIn' HO3 HI HT HRT ho
            go_wp2
            go_roundw
            case rel => exact ⟨k + 1, by omega, by go_num, HJ3.out, bx6⟩
            case measure => simp [intOf]; omega
        · have hkl2 : decide (k < d.out.length) = false := by simp; omega
          have HIk : Hid (insAt d.out f.field k) := ⟨hk, H1, fun h => (hkl h).elim⟩
          obtain ⟨v1, hs1, hw1⟩ := rm_take HRT.out k (by omega)
          obtain ⟨v2, hs2, hw2⟩ := rm_drop HRT.out k (by omega)
          have HW1 : Hid (∀ x, Wide 13 rmC x (.slice ao d.out.length co) d.out → Wide 13 rmC x v1 (d.out.take k)) := hw1
          have HW2 : Hid (∀ x, Wide 13 rmC x (.slice ao d.out.length co) d.out → Wide 13 rmC x v2 (d.out.drop k)) := hw2
          clear H1 hw1 hw2 HRT hkl A5 W5 f5
          go_wp2_with fail
          refine wp_region_held (S := fun x => Er E (rA d.most d.room vL (.slice ao d.out.length co) (d.tk + 1) vI d.lo) x ∧ Fa q f x) (by kernel_rfl) ?_
          obtain ⟨w5, hw5⟩ : ∃ x : World, { wr with drawn := wr.drawn + 1 } = x := ⟨_, rfl⟩
          rw [hw5]
          have b5 : Below w4.heap.size w4 w5 := by rw [← hw5]; exact below_drawn bx 1
          have r0 := Below.refl w5.heap.size w5
          have s5 : w4.heap.size ≤ w5.heap.size := b5.size
          have HW : Hid (∀ x, Below w5.heap.size w5 x → Er E (rA d.most d.room vL (.slice ao d.out.length co) (d.tk + 1) vI d.lo) x ∧ Fa q f x ∧ Wide 13 rmC x v1 (d.out.take k) ∧ Wide 13 rmC x v2 (d.out.drop k) ∧ Below w4.heap.size w4 x) := fun x hx => by
            have hb : Below w4.heap.size w4 x := b5.trans (hx.mono s5)
            obtain ⟨a1, a2, a3⟩ := HI.out x hb
            exact ⟨a1, a3, HW1.out x a2, HW2.out x a2, hb⟩
          have HPl : Hid (∀ x, Calls Try.prog 16 #[.agg f.arr] x fun e w' => e = .returned (.agg f.plain.arr) ∧ Below x.heap.size x w') := fun x => r2Plain_any f x
          obtain ⟨i0, hi0, hz0, hz1, hz2⟩ := info_parts infoRmZ
          have hkb : k ≤ 64 := by omega
          have hob : d.out.length < 64 := by omega
          clear hw5 HI
          refine wpAnyH_take (i := 1) (v := (.pointer (some ⟨E, 0, none⟩))) rfl (by kernel_rfl) (by kernel_rfl) (by kernel_rfl) (fun _ _ _ h => h) (.inl ⟨rfl, fun _ hS => rfl⟩) ⟨(HW.out _ r0).1, (HW.out _ r0).2.1⟩ ?_
          simp only [List.getElem_toArray, List.getElem_cons_succ, List.getElem_cons_zero, Act.put, List.setIfInBounds_toArray, List.set_cons_succ, List.set_cons_zero]
          refine wpAnyH_take (i := 2) (v := (.pointer (some ⟨E, 0, none⟩))) rfl (by kernel_rfl) (by kernel_rfl) (by kernel_rfl) (fun _ _ _ h => h) (.inl ⟨rfl, fun _ hS => by simp [execOp, go_sem, Act.eval]⟩) ⟨(HW.out _ r0).1, (HW.out _ r0).2.1⟩ ?_
          simp only [List.getElem_toArray, List.getElem_cons_succ, List.getElem_cons_zero, Act.put, List.setIfInBounds_toArray, List.set_cons_succ, List.set_cons_zero]
          refine wpAnyH_take (i := 3) (v := (.pointer (some ⟨E, 3, none⟩))) rfl (by kernel_rfl) (by kernel_rfl) (by kernel_rfl) (fun _ _ _ h => h) (.inl ⟨rfl, fun _ hS => by simp [execOp, go_sem, Act.eval]⟩) ⟨(HW.out _ r0).1, (HW.out _ r0).2.1⟩ ?_
          simp only [List.getElem_toArray, List.getElem_cons_succ, List.getElem_cons_zero, Act.put, List.setIfInBounds_toArray, List.set_cons_succ, List.set_cons_zero]
          refine wpAnyH_take (i := 4) (v := (.slice ao d.out.length co)) rfl (by kernel_rfl) (by kernel_rfl) (by kernel_rfl) (fun _ _ _ h => h) (.inl ⟨rfl, fun _ hS => exec_load rfl rfl (load_rms _ E 3 _ _ _ (hS.1.cell rfl))⟩) ⟨(HW.out _ r0).1, (HW.out _ r0).2.1⟩ ?_
          simp only [List.getElem_toArray, List.getElem_cons_succ, List.getElem_cons_zero, Act.put, List.setIfInBounds_toArray, List.set_cons_succ, List.set_cons_zero]
          refine wpAnyH_take (i := 5) (v := (.int .i64 k)) rfl (by kernel_rfl) (by kernel_rfl) (by kernel_rfl) (fun _ _ _ h => h) (.inl ⟨rfl, fun _ hS => rfl⟩) ⟨(HW.out _ r0).1, (HW.out _ r0).2.1⟩ ?_
          simp only [List.getElem_toArray, List.getElem_cons_succ, List.getElem_cons_zero, Act.put, List.setIfInBounds_toArray, List.set_cons_succ, List.set_cons_zero]
          refine wpAnyH_take (i := 6) (v := (v1)) rfl (by kernel_rfl) (by kernel_rfl) (by kernel_rfl) (fun _ _ _ h => h) (.inl ⟨rfl, fun _ hS => by simp [execOp, go_sem, Act.eval, hs1]⟩) ⟨(HW.out _ r0).1, (HW.out _ r0).2.1⟩ ?_
          simp only [List.getElem_toArray, List.getElem_cons_succ, List.getElem_cons_zero, Act.put, List.setIfInBounds_toArray, List.set_cons_succ, List.set_cons_zero]
          refine wpAnyH_take (i := 8) (v := (.agg f.arr)) rfl (by kernel_rfl) (by kernel_rfl) (by kernel_rfl) (fun _ _ _ h => h) (.inl ⟨rfl, fun _ hS => exec_load rfl rfl (load_fa _ q f hS.2)⟩) ⟨(HW.out _ r0).1, (HW.out _ r0).2.1⟩ ?_
          simp only [List.getElem_toArray, List.getElem_cons_succ, List.getElem_cons_zero, Act.put, List.setIfInBounds_toArray, List.set_cons_succ, List.set_cons_zero]
          refine wpAnyH_take (i := 10) (v := (.pointer (some ⟨E, 0, none⟩))) rfl (by kernel_rfl) (by kernel_rfl) (by kernel_rfl) (fun _ _ _ h => h) (.inl ⟨rfl, fun _ hS => rfl⟩) ⟨(HW.out _ r0).1, (HW.out _ r0).2.1⟩ ?_
          simp only [List.getElem_toArray, List.getElem_cons_succ, List.getElem_cons_zero, Act.put, List.setIfInBounds_toArray, List.set_cons_succ, List.set_cons_zero]
          refine wpAnyH_take (i := 11) (v := (.pointer (some ⟨E, 0, none⟩))) rfl (by kernel_rfl) (by kernel_rfl) (by kernel_rfl) (fun _ _ _ h => h) (.inl ⟨rfl, fun _ hS => by simp [execOp, go_sem, Act.eval]⟩) ⟨(HW.out _ r0).1, (HW.out _ r0).2.1⟩ ?_
          simp only [List.getElem_toArray, List.getElem_cons_succ, List.getElem_cons_zero, Act.put, List.setIfInBounds_toArray, List.set_cons_succ, List.set_cons_zero]
          refine wpAnyH_take (i := 12) (v := (.pointer (some ⟨E, 4, none⟩))) rfl (by kernel_rfl) (by kernel_rfl) (by kernel_rfl) (fun _ _ _ h => h) (.inl ⟨rfl, fun _ hS => by simp [execOp, go_sem, Act.eval]⟩) ⟨(HW.out _ r0).1, (HW.out _ r0).2.1⟩ ?_
          simp only [List.getElem_toArray, List.getElem_cons_succ, List.getElem_cons_zero, Act.put, List.setIfInBounds_toArray, List.set_cons_succ, List.set_cons_zero]
          refine wpAnyH_take (i := 13) (v := (.int .i64 (d.tk + 1))) rfl (by kernel_rfl) (by kernel_rfl) (by kernel_rfl) (fun _ _ _ h => h) (.inl ⟨rfl, fun _ hS => exec_load rfl rfl (load_int _ E 4 _ (hS.1.cell rfl))⟩) ⟨(HW.out _ r0).1, (HW.out _ r0).2.1⟩ ?_
          simp only [List.getElem_toArray, List.getElem_cons_succ, List.getElem_cons_zero, Act.put, List.setIfInBounds_toArray, List.set_cons_succ, List.set_cons_zero]
          refine wpAnyH_all (rs := [0]) (by kernel_rfl) (by simp) ?_
          intro k hk
          simp only [List.mem_cons, List.mem_nil_iff, or_false] at hk
          subst hk
          refine wpOp_run rfl rfl (wp_bs0g Try.underlying36 infoRmZ rfl ?_)
          have bz := r0.alloc r0.size (.cells #[] 90)
          refine ⟨⟨(HW.out _ bz).1, (HW.out _ bz).2.1⟩, ?_⟩
          simp only [List.getElem_toArray, List.getElem_cons_succ, List.getElem_cons_zero, Act.put, List.setIfInBounds_toArray, List.set_cons_succ, List.set_cons_zero]
          refine wpAnyH_all (rs := [7]) (by kernel_rfl) (by simp) ?_
          intro k hk
          simp only [List.mem_cons, List.mem_nil_iff, or_false] at hk
          subst hk
          refine wpOp_run rfl rfl (wp_append_wide DR _ _ 36 90 _ _ Try.underlying36 infoRmZ rfl rfl w5.heap.size (.slice (some ⟨w5.heap.size, 0, none⟩) 0 0) [] rfl (by exact own_empty_e w5 90 13) _ (d.out.take k) rfl (HW.out _ bz).2.2.1 (by unfold maxLen; simp; omega) (by simp; omega) (by rw [size_alloc]; omega) ?_)
          intro v6 w7 P6 G6
          have b7 : Below w5.heap.size w5 w7 := bz.trans (((Below.refl w5.heap.size _).grown G6 (by rw [size_alloc]; omega) (by simp [Value.ownBlock])).mono (by omega))
          have P6' : w7.ownsRow w5.heap.size 90 13 v6 (d.out.take k).length (flatW DR (d.out.take k)) := own_lower P6 (by omega)
          refine ⟨⟨(HW.out _ b7).1, (HW.out _ b7).2.1⟩, ?_⟩
          simp only [List.getElem_toArray, List.getElem_cons_succ, List.getElem_cons_zero, Act.put, List.setIfInBounds_toArray, List.set_cons_succ, List.set_cons_zero]
          refine wpAnyH_all (rs := [9]) (by kernel_rfl) (by simp) ?_
          intro k hk
          simp only [List.mem_cons, List.mem_nil_iff, or_false] at hk
          subst hk
          refine wpOp_run rfl rfl (wp_call_fn 16 #[.agg f.arr] (by simp [execOp, go_sem, Act.eval, resolve, invoke, enterR2]) ((HPl.out w7).mono ?_))
          rintro e w8 ⟨rfl, b8⟩
          have B8 : Below w5.heap.size w5 w8 := b7.trans (b8.mono b7.size)
          have P8 := own_below5 P6' b8
          refine ⟨⟨(HW.out _ B8).1, (HW.out _ B8).2.1⟩, ?_⟩
          simp only [List.getElem_toArray, List.getElem_cons_succ, List.getElem_cons_zero, Act.put, List.setIfInBounds_toArray, List.set_cons_succ, List.set_cons_zero]
          refine wpAnyH_take (i := 14) (v := (.agg (rmC ⟨f.plain, f.field, d.tk + 1⟩).toArray)) rfl (by kernel_rfl) (by kernel_rfl) (by kernel_rfl) (fun _ _ _ h => h) (.inl ⟨rfl, fun _ hS => exec_buildR rfl rfl rfl _⟩) ⟨(HW.out _ B8).1, (HW.out _ B8).2.1⟩ ?_
          simp only [List.getElem_toArray, List.getElem_cons_succ, List.getElem_cons_zero, Act.put, List.setIfInBounds_toArray, List.set_cons_succ, List.set_cons_zero]
          refine wpAnyH_all (rs := [15]) (by kernel_rfl) (by simp) ?_
          intro k hk
          simp only [List.mem_cons, List.mem_nil_iff, or_false] at hk
          subst hk
          refine wpOp_run rfl rfl (wp_buildSlice 36 90 1 _ rfl (rmC ⟨f.plain, f.field, d.tk + 1⟩).toArray i0 _ Try.underlying36 hi0 hz0 (by rw [hz1]; omega) (by rw [hz1]; omega) (by rw [hz1]; simp only [List.map_toArray, List.map_cons, List.map_nil]; exact fill_rm _) ?_)
          have ba9 : Below w8.heap.size w8 (w8.alloc (.cells (rmC ⟨f.plain, f.field, d.tk + 1⟩).toArray 90)) := (Below.refl _ w8).alloc (Nat.le_refl _) _
          have B9 : Below w5.heap.size w5 (w8.alloc (.cells (rmC ⟨f.plain, f.field, d.tk + 1⟩).toArray 90)) := B8.trans (ba9.mono B8.size)
          have P9 := own_below5 P8 ba9
          refine ⟨⟨(HW.out _ B9).1, (HW.out _ B9).2.1⟩, ?_⟩
          simp only [List.getElem_toArray, List.getElem_cons_succ, List.getElem_cons_zero, Act.put, List.setIfInBounds_toArray, List.set_cons_succ, List.set_cons_zero]
          refine wpAnyH_all (rs := [16]) (by kernel_rfl) (by simp) ?_
          intro k hk
          simp only [List.mem_cons, List.mem_nil_iff, or_false] at hk
          subst hk
          refine wpOp_run rfl rfl (wp_append_own _ _ _ 36 rfl w5.heap.size 90 i0 _ 13 32 Try.underlying36 hi0 hz0 hz1 hz2 rfl (by omega) _ (d.out.take k).length (flatW DR (d.out.take k)) rfl P9 ⟨w8.heap.size, 0, none⟩ 1 1 (rmC ⟨f.plain, f.field, d.tk + 1⟩) rfl (by rw [rmC_len]) (news_rm w8 _) (rmC_one _) (by unfold maxLen; simp; omega) (by simp; omega) B9.size ?_)
          intro va wA oA gA _
          have BA : Below w5.heap.size w5 wA := ⟨gA.os.trans B9.os, gA.tape.trans B9.tape, gA.output.trans B9.output, Nat.le_trans B9.size gA.size, fun k hk => (gA.block k (Nat.lt_of_lt_of_le hk B9.size) (fun e => by have := own_base P9 e.symm; omega)).trans (B9.block k hk)⟩
          have QA : wA.ownsRow w5.heap.size 90 13 va (d.out.take k ++ [(⟨f.plain, f.field, d.tk + 1⟩ : Ml)]).length (flatW DR (d.out.take k ++ [(⟨f.plain, f.field, d.tk + 1⟩ : Ml)])) := by
            rw [List.length_append, flatW_append]; simpa [flatW, DR] using oA
          refine ⟨⟨(HW.out _ BA).1, (HW.out _ BA).2.1⟩, ?_⟩
          simp only [List.getElem_toArray, List.getElem_cons_succ, List.getElem_cons_zero, Act.put, List.setIfInBounds_toArray, List.set_cons_succ, List.set_cons_zero]
          refine wpAnyH_take (i := 17) (v := (va)) rfl (by kernel_rfl) (by kernel_rfl) (by kernel_rfl) (fun _ _ _ h => h) (.inl ⟨rfl, fun _ hS => rfl⟩) ⟨(HW.out _ BA).1, (HW.out _ BA).2.1⟩ ?_
          simp only [List.getElem_toArray, List.getElem_cons_succ, List.getElem_cons_zero, Act.put, List.setIfInBounds_toArray, List.set_cons_succ, List.set_cons_zero]
          refine wpAnyH_done (by kernel_rfl) ?_ _
          have AA := (HW.out _ BA).1
          have WA := (HW.out _ BA).2.2.2.1
          have BB : Below w4.heap.size w4 wA := (HW.out _ BA).2.2.2.2
          have d3 := AA.cell (k := 3) (v := .slice ao d.out.length co) rfl
          have d4 := AA.cell (k := 4) (v := .int .i64 (d.tk + 1)) rfl
          have HLn : Hid (((d.out.take k ++ [(⟨f.plain, f.field, d.tk + 1⟩ : Ml)]) ++ d.out.drop k).length = d.out.length + 1) := by show _ = _; simp; omega
          have HLt : Hid ((d.out.take k ++ [(⟨f.plain, f.field, d.tk + 1⟩ : Ml)]).length = k + 1) := by show _ = _; simp; omega
          generalize hX : d.out.take k ++ [(⟨f.plain, f.field, d.tk + 1⟩ : Ml)] = xs at *
          generalize hY : d.out.drop k = ys at *
          have hYl : ys.length ≤ 64 := by rw [← hY, List.length_drop]; omega
          have s5' : w5.heap.size ≤ wA.heap.size := BA.size
          clear HW HPl P9 oA gA P8 P6' HW1 HW2 b5 b7 B8 B9 P6 G6
          have hXl := HLt.out
          have HXE : Hid (d.out.take k ++ [(⟨f.plain, f.field, d.tk + 1⟩ : Ml)] = xs) := hX
          have HYE : Hid (d.out.drop k = ys) := hY
          clear hX hY
          go_upto_region 13 with fail
          go_wp2_with (at_builtin; refine append_wide DR rfl _ _ 36 90 _ _ Try.underlying36 infoRmZ rfl rfl w5.heap.size va xs rfl QA _ ys rfl WA (by unfold maxLen; omega) (by omega) s5' ?_)
          intro vB wB PB GB
          have B10 : Below w4.heap.size w4 wB := ⟨GB.os.trans BB.os, GB.tape.trans BB.tape, GB.output.trans BB.output, Nat.le_trans BB.size GB.size, fun j hj => (GB.block j (Nat.lt_of_lt_of_le hj BB.size) (fun e => by have := own_base QA e.symm; omega)).trans (BB.block j hj)⟩
          have AB : Er E (rA d.most d.room vL (.slice ao d.out.length co) (d.tk + 1) vI d.lo) wB := (B10.block E (by omega)).trans ((BB.block E (by omega)).symm.trans AA)
          have HX : Hid (DcP E { d with out := xs ++ ys, tk := d.tk + 1 } vI w (wB.setCell ⟨E, 3, none⟩ vB)) := HT.out wB vB (xs ++ ys) _ B10 (by rw [List.length_append, hXl]; exact PB) (by rw [HLn.out]; omega)
          obtain ⟨aB, cB, hvB⟩ := own_shape5 PB
          have e3 := AB.cell (k := 3) (v := .slice ao d.out.length co) rfl
          have e3f := AB.free 3
          have AC := AB.set 3 vB
          have e4 := AC.cell (k := 4) (v := .int .i64 (d.tk + 1)) rfl
          subst hvB
          generalize k + 1 + ys.length = LL at *
          clear QA WA AA BB PB GB B10 AB AC HT HLn HLt
          go_wp2
          go_ret2
          exact .inr (.inr ⟨HF.out, hlm, rfl, k, HIk.out, by rw [HXE.out, HYE.out]; exact HX.out⟩)
  · have hne : (f.chk != 0) = true := by simpa using hf
    have HF : Hid (f.chk ≠ 0) := hf
    generalize fldV f = fv at *
    clear hf
    go_enter Try.func23, Try.ntmps23
    go_upto_region 1 with fail
    go_wp2_with (refine fa.ld rfl _ rfl rfl ?_)
    refine hC.mono ?_
    rintro e w2 ⟨rfl, b2⟩
    have B2 : Below q w w2 := ba.trans (b2.mono (by omega))
    clear hC fa
    go_wp2
    go_ret2
    exact .inl ⟨HF.out, rfl, HS.out _ B2⟩
end Go.Proofs.Ytfddoindcmdooaa
