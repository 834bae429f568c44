/- Plain facts on dictionaries: what stays, whatever is written. Steps of the statements on dictionaries. The document's dictionary in memory; its places. Contracts: the document's Reset. -/
import Derived.Test.YtahfnknbmikmkaaGreatKa12
import Derived.Test.YtahfnknbmikmkaaGreatKa5
import Derived.Test.YtahfnknbmikmkaaGreatKa3
import Derived.Test.YtahfnknbmikmkaaGreatZs
namespace Go.Proofs.YtahfnknbmikmkaaGreat
open Go.RowKit Go.Proofs.Ty Go.Sort Go.Lib
set_option linter.unusedVariables false
set_option maxRecDepth 1000000
set_option linter.unusedSimpArgs false
theorem low_mod (n k : Nat) : lowL n k = lowL (n % 256 ^ k) k := by
  have h := low_join (lowL n k)
  rw [lowL_length, join_low] at h
  exact h.symm
theorem ext_mod (n b z : Nat) (h : (z = 1 ∧ b = 8) ∨ (z = 2 ∧ b = 16) ∨ (z = 4 ∧ b = 32) ∨ (z = 8 ∧ b = 64)) : extN b n % 256 ^ z = n % 256 ^ z := by
  rcases h with ⟨rfl, rfl⟩ | ⟨rfl, rfl⟩ | ⟨rfl, rfl⟩ | ⟨rfl, rfl⟩ <;> unfold extN <;> split <;> omega
/-- What was read is written as it was. -/
theorem dec_enc (t : Int) (ht : -9223372036854775808 ≤ t ∧ t < 9223372036854775808) (l : List UInt8) (h : decE t l = 0) : (decW t l).chk = 0 ∧ (decW t l).enc = l := by
  have hF : fitE t l.length = 0 := by
    by_cases hc : fitE t l.length = 0
    · exact hc
    · unfold decE at h
      rw [if_pos hc] at h
      exact absurd h hc
  obtain ⟨hk, hl, hm⟩ := fit_zero hF
  have hC : chk t (decN t l) (decS t l) = 0 := by
    by_cases hc : chk t (decN t l) (decS t l) = 0
    · exact hc
    · unfold decE at h
      rw [if_neg (by omega), if_pos hc] at h
      omega
  have hz := siz_zero t
  by_cases hs : 0 < siz t
  · have hll := hl hs
    have hN := decN_lt hs hll
    have hk2 : kind t = 1 ∨ kind t = 2 := by omega
    have hS : decS t l = ⟨#[]⟩ := by unfold decS; rw [if_pos hk2]
    have hW : decW t l = ⟨t, decN t l, ⟨#[]⟩, ht, hN, by decide⟩ := by
      unfold decW
      rw [if_pos h, hS]
      exact mkV_eq _ _ _
    rw [hS] at hC
    rw [hW]
    refine ⟨hC, ?_⟩
    show encV t (decN t l) ⟨#[]⟩ = l
    unfold encV encL
    rw [if_pos hC, if_pos hs]
    have e : decN t l % 256 ^ siz t = joinL l % 256 ^ siz t := by
      unfold decN
      rcases hk2 with hk2 | hk2
      · rw [if_pos hk2]
      · rw [if_neg (by omega), if_pos hk2]
        exact ext_mod _ _ _ (sz2 hk2)
    rw [low_mod, e, ← low_mod, ← hll, low_join]
  · have hN : decN t l = 0 := by unfold decN; rw [if_neg (by omega), if_neg (by omega)]
    have hS : decS t l = ⟨l.toArray⟩ := by unfold decS; rw [if_neg (by omega)]
    have hsz : (⟨l.toArray⟩ : ByteArray).size ≤ maxLen := by
      simp only [ByteArray.size, List.size_toArray, maxLen]
      omega
    have hW : decW t l = ⟨t, 0, ⟨l.toArray⟩, ht, by decide, hsz⟩ := by
      unfold decW
      rw [if_pos h, hS, hN]
      exact mkV_eq _ _ _
    rw [hS, hN] at hC
    rw [hW]
    refine ⟨hC, ?_⟩
    show encV t 0 ⟨l.toArray⟩ = l
    unfold encV encL
    rw [if_pos hC, if_neg hs]
theorem dec_t (t : Int) (ht : -9223372036854775808 ≤ t ∧ t < 9223372036854775808) (l : List UInt8) (h : decE t l = 0) : (decW t l).t = t := by
  have hF : fitE t l.length = 0 := by
    by_cases hc : fitE t l.length = 0
    · exact hc
    · unfold decE at h
      rw [if_pos hc] at h
      exact absurd h hc
  obtain ⟨hk, hl, hm⟩ := fit_zero hF
  have hz := siz_zero t
  by_cases hs : 0 < siz t
  · have hll := hl hs
    have hN := decN_lt hs hll
    have hk2 : kind t = 1 ∨ kind t = 2 := by omega
    have hS : decS t l = ⟨#[]⟩ := by unfold decS; rw [if_pos hk2]
    have hW : decW t l = ⟨t, decN t l, ⟨#[]⟩, ht, hN, by decide⟩ := by
      unfold decW
      rw [if_pos h, hS]
      exact mkV_eq _ _ _
    rw [hW]
  · have hN : decN t l = 0 := by unfold decN; rw [if_neg (by omega), if_neg (by omega)]
    have hS : decS t l = ⟨l.toArray⟩ := by unfold decS; rw [if_neg (by omega)]
    have hsz : (⟨l.toArray⟩ : ByteArray).size ≤ maxLen := by
      simp only [ByteArray.size, List.size_toArray, maxLen]
      omega
    have hW : decW t l = ⟨t, 0, ⟨l.toArray⟩, ht, by decide, hsz⟩ := by
      unfold decW
      rw [if_pos h, hS, hN]
      exact mkV_eq _ _ _
    rw [hW]
theorem ord_zero {a b : Vl} (h : ordE a b = 0) : a.chk = 0 ∧ b.chk = 0 ∧ a.t = b.t := by
  unfold ordE at h
  by_cases h1 : a.chk = 0
  · rw [if_neg (by simpa using h1)] at h
    by_cases h2 : b.chk = 0
    · rw [if_neg (by simpa using h2)] at h
      by_cases h3 : a.t = b.t
      · exact ⟨h1, h2, h3⟩
      · rw [if_pos h3] at h; exact absurd h (by decide)
    · rw [if_pos h2] at h; exact absurd h h2
  · rw [if_pos h1] at h; exact absurd h h1
theorem zero_ord {a b : Vl} (h1 : a.chk = 0) (h2 : b.chk = 0) (h3 : a.t = b.t) : ordE a b = 0 := by
  unfold ordE
  rw [if_neg (by simpa using h1), if_neg (by simpa using h2), if_neg (by simpa using h3)]
theorem num_plain {v : Vl} (h : 0 < siz v.t) : v.plain.t = v.t ∧ v.plain.n = v.n := by
  have hz := siz_zero v.t
  have hk : kind v.t = 1 ∨ kind v.t = 2 := by omega
  rw [Vl.plain_num hk]
  exact ⟨rfl, rfl⟩
theorem num_chk {v : Vl} (h : 0 < siz v.t) : v.plain.chk = v.chk := by
  have hz := siz_zero v.t
  have hk : kind v.t = 1 ∨ kind v.t = 2 := by omega
  obtain ⟨h1, h2⟩ := num_plain h
  unfold Vl.chk
  rw [h1, h2]
  unfold Ty.chk
  rcases hk with hk | hk <;> simp [hk]
theorem num_ordE {v u : Vl} (h : 0 < siz v.t) : ordE v.plain u = ordE v u := by
  unfold ordE
  rw [num_chk h, (num_plain h).1]
theorem num_ordN {v u : Vl} (h : 0 < siz v.t) : ordN v.plain u = ordN v u := by
  have hz := siz_zero v.t
  have hk : kind v.t = 1 ∨ kind v.t = 2 := by omega
  obtain ⟨h1, h2⟩ := num_plain h
  unfold ordN
  rw [num_ordE h]
  unfold ordR
  rw [h1, h2]
  rcases hk with hk | hk <;> simp [hk]
/-- What is known of an item while nothing is set or loaded. -/
structure Gd (i : Im) : Prop where
  lim : i.e.li = true → ordE i.e.df i.e.mn = 0 ∧ ordE i.e.df i.e.mx = 0
  val : i.e.li = true → wiB i.e i.v = true ∧ wiC i.e i.v = 0
  con : i.e.ac ≠ 2 → i.e.ac ≠ 1 → i.v = i.e.df
theorem can_zero {e : En} (h : e.can = 0) : e.df.chk = 0 ∧ (e.li = true → 0 < siz e.df.t ∧ e.btw = true) := by
  unfold En.can at h
  by_cases h1 : e.df.chk = 0
  · rw [if_neg (by simpa using h1)] at h
    refine ⟨h1, fun hl => ?_⟩
    split at h
    · exact absurd h (by decide)
    · split at h
      · exact absurd h (by decide)
      · rename_i h3
        exact Decidable.not_not.1 (fun h4 => h3 ⟨hl, h4⟩)
  · rw [if_pos h1] at h; exact absurd h h1
theorem chkG_all {s l : List En} (h : chkG s l = 0) : ∀ e ∈ l, e.can = 0 := by
  induction l generalizing s with
  | nil => intro e he; simp at he
  | cons x r ih =>
    rw [chkG] at h
    split at h
    · rename_i h1; exact absurd h h1
    · rename_i h1
      split at h
      · exact absurd h (by decide)
      · intro e he
        rcases List.mem_cons.1 he with rfl | he
        · exact Decidable.not_not.1 h1
        · exact ih h e he
theorem gd_new {e : En} (h : e.can = 0) (b : Nat) : Gd ⟨b, e.plain, e.plain.df⟩ := by
  obtain ⟨h1, h2⟩ := can_zero h
  have key : e.li = true → (ordE e.plain.df e.mn = 0 ∧ ordE e.plain.df e.mx = 0) ∧ 0 ≤ ordN e.plain.df e.mn ∧ ordN e.plain.df e.mx ≤ 0 := fun hl => by
    obtain ⟨hz, hb⟩ := h2 hl
    show (ordE e.df.plain e.mn = 0 ∧ ordE e.df.plain e.mx = 0) ∧ 0 ≤ ordN e.df.plain e.mn ∧ ordN e.df.plain e.mx ≤ 0
    rw [num_ordE hz, num_ordE hz, num_ordN hz, num_ordN hz]
    unfold En.btw at hb
    simpa [and_assoc] using hb
  refine ⟨fun hl => (key hl).1, fun hl => ?_, fun _ _ => rfl⟩
  obtain ⟨⟨k1, k2⟩, k3, k4⟩ := key hl
  have hB : wiB e.plain e.plain.df = true := by
    show (decide (ordE e.plain.df e.mn = 0) && decide (ordE e.plain.df e.mx = 0)) = true
    rw [k1, k2]; rfl
  refine ⟨hB, ?_⟩
  show wiC e.plain e.plain.df = 0
  unfold wiC
  rw [if_neg (by rw [hB]; simp), if_neg (show ¬ 0 < ordN e.plain.df e.plain.mx from by show ¬ 0 < ordN e.plain.df e.mx; omega), if_neg (show ¬ ordN e.plain.df e.plain.mn < 0 from by show ¬ ordN e.plain.df e.mn < 0; omega)]
/-- Of these entries, in these blocks. -/
structure Al (es : List En) (bs : List Nat) (its : List Im) : Prop where
  e : its.map Im.e = es
  b : its.map Im.b = bs
theorem Al.set {es : List En} {bs : List Nat} {its : List Im} (h : Al es bs its) (b : Nat) (v : Vl) : Al es bs (setV its b v) := ⟨by rw [setV_e]; exact h.e, by rw [setV_b]; exact h.b⟩
theorem wc_zero {its : List Im} {ix sb : Nat} {l : List UInt8} (h : wc its ix sb l = 0) : ∃ i, fnd its ix sb = some i ∧ (i.e.ac = 1 ∨ i.e.ac = 2) ∧ decE i.e.df.t l = 0 ∧ bey i.e (decW i.e.df.t l) = 0 := by
  unfold wc at h
  split at h
  · exact absurd h (noc_ne _ _)
  · rename_i i hf
    refine ⟨i, hf, ?_⟩
    unfold wcode at h
    split at h
    · exact absurd h (by decide)
    · rename_i h1
      have ha : i.e.ac = 1 ∨ i.e.ac = 2 := by omega
      split at h
      · rename_i h2; exact ⟨ha, h2, h⟩
      · split at h
        · exact absurd h (by decide)
        · split at h <;> exact absurd h (by decide)
theorem fnd_self {its : List Im} (hs : its.Pairwise (fun a b => a.e.pl < b.e.pl)) {i : Im} (hi : i ∈ its) : fnd its i.e.ix i.e.sb = some i := by
  rw [fnd_pl its i.e.hix i.e.hsb]
  rcases count_find its hs (i.e.ix * 256 + i.e.sb) with ⟨h1, _⟩ | ⟨h1, h2, h3⟩
  · exact absurd rfl (h1 i hi)
  · rw [h2]
    congr 1
    obtain ⟨m, hm, rfl⟩ := List.getElem_of_mem hi
    have h4 := List.pairwise_iff_getElem.1 hs
    generalize its.countP _ = n at *
    have hmn : n = m := by
      have e1 : (its[n]).e.pl = (its[m]).e.pl := h3
      rcases Nat.lt_trichotomy n m with h | h | h
      · have := h4 n m h1 hm h; omega
      · exact h
      · have := h4 m n hm h1 h; omega
    subst hmn; rfl
end Go.Proofs.YtahfnknbmikmkaaGreat
namespace Go.Proofs.YtahfnknbmikmkaaGreat
open Go.RowKit Go.Proofs.Ty Go.Sort Go.Lib
set_option linter.unusedVariables false
set_option maxRecDepth 1000000
set_option linter.unusedSimpArgs false
theorem info_size {t : TypeId} {n : Nat} (h : (Tryz.prog.info? t).map (·.size) = some n) : ∃ i0, Tryz.prog.info? t = some i0 ∧ i0.size = n := by
  cases hh : Tryz.prog.info? t with
  | none => rw [hh] at h; cases h
  | some i0 => rw [hh] at h; exact ⟨i0, rfl, by simpa using h⟩
theorem exec_idxE {a : Act} {o : Oper} {s i : Operand} {b off n c k : Nat} (ho : o.op = .indexAddr 22 s i) (hs : a.eval s = .slice (some ⟨b, off, none⟩) n c) (hi : a.eval i = .int .i64 (k : Int)) (hk : k < n) (w : World) : (execOp a.eval o).run Tryz.prog w = .ok (.value (.pointer (some ⟨b, off + k * 14, none⟩))) w := by
  have h1 : (0 : Int) ≤ (k : Int) := by omega
  have h2 : (k : Int) < (n : Int) := by omega
  unfold execOp
  simp only [ho, hs, hi]
  obtain ⟨i0, hi0, hz0⟩ := info_size infoE
  simp [go_sem, run_underlying Tryz.underlying22, sizeOf, typeInfo, hi0, hz0, h1, h2, Addr.add_mid]
theorem load_bytes (x : World) (D k : Nat) (ao : Option Addr) (l c : Nat) (hc : x.cell? ⟨D, k, none⟩ = some (.slice ao l c)) : (loadVar 47 ⟨D, k, none⟩).run Tryz.prog x = .ok (.slice ao l c) x := by
  simp [go_sem, run_underlying Tryz.underlying47, hc]
theorem wp_allocV {o : Oper} {a : Act} {w : World} {K : Act → World → Prop} {Q : Exit → Act → World → Prop} (ho : o.op = .alloc 52) (h : K (a.put o.dst (.pointer (some ⟨w.heap.size, 0, none⟩))) (w.alloc (.cells Vl.nul.arr 52))) : o.wp Tryz.prog a w K Q := by
  obtain ⟨i0, hi0, hz0⟩ : ∃ i0, Tryz.prog.info? 52 = some i0 ∧ i0.zero = some (.agg Vl.nul.arr) := by
    have : (Tryz.prog.info? 52).map (·.zero) = some (some (.agg Vl.nul.arr)) := by kernel_rfl
    cases hh : Tryz.prog.info? 52 with
    | none => rw [hh] at this; cases this
    | some i0 => rw [hh] at this; exact ⟨i0, rfl, by simpa using this⟩
  unfold Oper.wp execOp
  simp [ho, go_sem, Instr.alloc, zeroValue, typeInfo, hi0, hz0, Value.cells]
  exact h
section
variable {w : World} {ops : Array Oper} {rest : List Oper} {o : Oper} {a : Act} {Q : Exit → Act → World → Prop}
theorem bs0E (hgd : Region.wanted o (yielded ops a.tmps) = true) (ho : o.op = .buildSlice 22 0 #[]) (hh : wpList Tryz.prog ops Q rest (a.put o.dst (.slice (some ⟨w.heap.size, 0, none⟩) 0 0)) (w.alloc (.cells #[] 93))) : wpList Tryz.prog ops Q (o :: rest) a w :=
  BigFrame.wpList_want hgd fun _ hK => wp_bs0g Tryz.underlying22 infoEz ho (hK _ _ hh)
theorem apE (hgd : Region.wanted o (yielded ops a.tmps) = true) (s x : Operand) (ho : o.op = .call { callee := .builtin .append, args := #[s, x], argTypes := #[22, 22] })
    (base : Nat) (v : Value) (xs : List En) (hs : a.eval s = v) (hown : w.ownsRow base 93 14 v xs.length (flatW DE xs))
    (vx : Value) (l : List En) (hx : a.eval x = vx) (hB : Wide 14 enC w vx l) (h63 : xs.length + l.length ≤ 1172812402927) (hbase : base ≤ w.heap.size)
    (h : ∀ v' w', w'.ownsRow base 93 14 v' (xs ++ l).length (flatW DE (xs ++ l)) → w.grownBy w' v.ownBlock → wpList Tryz.prog ops Q rest (a.put o.dst v') w') : wpList Tryz.prog ops Q (o :: rest) a w :=
  BigFrame.wpList_want hgd fun _ hK => wp_append_wide DE s x 22 93 _ 120 Tryz.underlying22 infoEz rfl ho base v xs hs hown vx l hx hB (by unfold maxLen; omega) (by omega) hbase fun v' w' h1 h2 => hK _ _ (h v' w' h1 h2)
end
theorem own0E (w : World) : (w.alloc (.cells #[] 93)).ownsRow w.heap.size 93 14 (.slice (some ⟨w.heap.size, 0, none⟩) 0 0) ([] : List En).length (flatW DE []) := own_empty_e w 93 14
end Go.Proofs.YtahfnknbmikmkaaGreat
namespace Go.Proofs.YtahfnknbmikmkaaGreat
open Go.RowKit Go.Proofs.Ty Go.Sort Go.Lib
set_option linter.unusedVariables false
set_option maxRecDepth 1000000
set_option linter.unusedSimpArgs false
def DV : Dec Vl := ⟨vlC, 3, by decide, fun _ => rfl, fun v u hu => by simp [vlC] at hu; rcases hu with rfl | rfl | rfl <;> rfl⟩
theorem infoVz : (Tryz.prog.info? 52).map (fun i => (i.zero, i.size, i.bytes)) = some (some (.agg #[.int .i64 0, .int .u64 0, .string ⟨#[]⟩]), 3, 32) := by kernel_rfl
theorem wp_bs1 {α : Type} (D : Dec α) {w : World} {o : Oper} {a : Act} {K : Act → World → Prop} {Q : Exit → Act → World → Prop} (s : α) (t e : TypeId) (z : Value) (bytes : Nat) (x : Operand) (ho : o.op = .buildSlice t 1 #[(0, x)]) (hx : a.eval x = .agg (D.dec s).toArray)
    (ht : Tryz.prog.underlying t = some (.slice e)) (hinfo : (Tryz.prog.info? e).map (fun i => (i.zero, i.size, i.bytes)) = some (some z, D.c, bytes)) (hsmall : D.c ≤ 1000)
    (h : K (a.put o.dst (.slice (some ⟨w.heap.size, 0, none⟩) 1 1)) (w.alloc (.cells (D.dec s).toArray e))) : o.wp Tryz.prog a w K Q := by
  obtain ⟨i0, hi, hz0, hz1, hz2⟩ := info_parts hinfo
  refine wp_buildSlice t e 1 _ ho (D.dec s).toArray i0 z ht hi hz0 (by rw [hz1]; omega) (by rw [hz1]; have := D.pos; omega) ?_ h
  rw [hz1]
  have hsz : (Value.agg (D.dec s).toArray).cells.size = D.c := by simp [Value.cells, D.len]
  have := Go.Great.fill_whole D.pos [Value.agg (D.dec s).toArray] ((Array.range (1 * D.c)).map (z.cells[· % z.cells.size]!)) (by intro v hv; simp at hv; subst hv; exact hsz) (by simp)
  simpa [hx, Value.cells] using this
theorem r8place_any (e : En) (w : World) : Calls Tryz.prog 101 #[.agg e.arr] w fun x w' => x = .returned (.int .i64 e.pl) ∧ Below w.heap.size w w' := by
  have h0 := Eb.new w e
  have B0 : Below w.heap.size w (w.alloc (.cells e.arr 93)) := (Below.refl _ _).alloc (Nat.le_refl _) _
  obtain ⟨c0, c1, _⟩ := h0.c
  have HX : Hid (e.pl = e.ix * 256 + e.sb) := rfl
  have h1 := e.hix
  have h2 := e.hsb
  generalize e.pl = P at *
  generalize e.ix = A at *
  generalize e.sb = B at *
  clear h0
  go_enter Tryz.func101, Tryz.ntmps101
  go_wp2
  go_ret
  exact ⟨ret_int (by rw [HX.out]; omega), B0⟩
/-- The document's dictionary at E: its entries, its values. -/
structure Rd (E : Nat) (L : List En) (vL : Value) (V : List Vl) (vV : Value) (w : World) : Prop where
  head : w.heap[E]? = some (.cells #[vL, vV] 98 (0, 0))
  rowL : RT 93 14 enC w vL L
  rowV : RT 52 3 vlC w vV V
section
variable {E : Nat} {L : List En} {vL : Value} {V : List Vl} {vV : Value} {w x : World}
theorem Rd.lt (h : Rd E L vL V vV w) : E < w.heap.size := (Array.getElem?_eq_some_iff.1 h.head).1
theorem Rd.c (h : Rd E L vL V vV w) : w.cell? ⟨E, 0, none⟩ = some vL ∧ w.cell? ⟨E, 1, none⟩ = some vV := ⟨by rw [Lib.cell_of_heap h.head]; rfl, by rw [Lib.cell_of_heap h.head]; rfl⟩
theorem Rd.below (h : Rd E L vL V vV w) (hb : Below w.heap.size w x) : Rd E L vL V vV x := ⟨(hb.block E h.lt).trans h.head, h.rowL.below hb, h.rowV.below hb⟩
theorem Rd.frozen (h : Rd E L vL V vV w) (k : Nat) : w.frozen? ⟨E, k, none⟩ = false := Lib.frozen_of_heap h.head _
theorem set_kept (w : World) (E k : Nat) (u : Value) : w.grownBy (w.setCell ⟨E, k, none⟩ u) (some E) := ⟨rfl, rfl, rfl, by simp [World.setCell], fun j hj hne => Below.heap_setCell w ⟨E, k, none⟩ u j (fun e => hne (by rw [show j = E from e]))⟩
theorem Rd.setL (h : Rd E L vL V vV w) {L' : List En} {u : Value} (hr : RT 93 14 enC w u L') : Rd E L' u V vV (w.setCell ⟨E, 0, none⟩ u) := by
  have hg := set_kept w E 0 u
  refine ⟨?_, hr.grown hg (hr.ne h.head (by decide)), h.rowV.grown hg (h.rowV.ne h.head (by decide))⟩
  have hh := h.head
  simp only [World.setCell, Array.getElem?_modify, hh]
  simp
theorem Rd.setV (h : Rd E L vL V vV w) {V' : List Vl} {u : Value} (hr : RT 52 3 vlC w u V') : Rd E L vL V' u (w.setCell ⟨E, 1, none⟩ u) := by
  have hg := set_kept w E 1 u
  refine ⟨?_, h.rowL.grown hg (h.rowL.ne h.head (by decide)), hr.grown hg (hr.ne h.head (by decide))⟩
  have hh := h.head
  simp only [World.setCell, Array.getElem?_modify, hh]
  simp
end
theorem load_ents (x : World) (D k : Nat) (ao : Option Addr) (l c : Nat) (hc : x.cell? ⟨D, k, none⟩ = some (.slice ao l c)) : (loadVar 22 ⟨D, k, none⟩).run Tryz.prog x = .ok (.slice ao l c) x := by
  simp [go_sem, run_underlying Tryz.underlying22, hc]
theorem load_vals (x : World) (D k : Nat) (ao : Option Addr) (l c : Nat) (hc : x.cell? ⟨D, k, none⟩ = some (.slice ao l c)) : (loadVar 96 ⟨D, k, none⟩).run Tryz.prog x = .ok (.slice ao l c) x := by
  simp [go_sem, run_underlying Tryz.underlying96, hc]
theorem store_vals (x : World) (D k : Nat) (u : Value) (ao : Option Addr) (l c : Nat) (hc : x.cell? ⟨D, k, none⟩ = some u) (hf : x.frozen? ⟨D, k, none⟩ = false) : (storeVar 96 ⟨D, k, none⟩ (.slice ao l c)).run Tryz.prog x = .ok () (x.setCell ⟨D, k, none⟩ (.slice ao l c)) := by
  simp [go_sem, run_underlying Tryz.underlying96, hc, hf]
theorem wp_store_cell {o : Oper} {a : Act} {w w' : World} {K : Act → World → Prop} {Q : Exit → Act → World → Prop} (ty : TypeId) (x y : Operand) (ho : o.op = .store ty x y) (b k : Nat) (hx : a.eval x = .pointer (some ⟨b, k, none⟩)) (v : Value) (hy : a.eval y = v)
    (hr : (storeVar ty ⟨b, k, none⟩ v).run Tryz.prog w = .ok () w') (h : K (a.put o.dst undef) w') : o.wp Tryz.prog a w K Q := by
  unfold Oper.wp execOp
  simp only [ho, hx, hy, Instr.storeAt, Instr.sureAddr, Sem.run_bind, Sem.run_pure, Result.andThen_ok, hr]
  exact h
/-- The first k of a row, what is behind them. -/
theorem re_take {w : World} {v : Value} {l : List En} (h : RT 93 14 enC w v l) (k : Nat) (hk : k ≤ l.length) : ∃ v1, (∀ W, (Instr.sliceAt 22 v none (some (.int .i64 k)) none).run Tryz.prog W = .ok v1 W) ∧ ∀ x, Wide 14 enC x v l → Wide 14 enC x v1 (l.take k) := by
  obtain ⟨i0, hi, hz0, hz1, hz2⟩ := info_parts infoEz
  obtain ⟨ao, cap, rfl⟩ := h.wide.shape
  have hcap := h.cap _ _ _ rfl
  have a0 : (0 : Int) ≤ (k : Int) := by omega
  have a1 : (k : Int) ≤ (cap : Int) := by omega
  cases ao with
  | none =>
    obtain ⟨ao', cap', hv, h0, _⟩ := h.wide
    injection hv with e1 _ e3
    obtain ⟨rfl, rfl⟩ := h0 e1.symm
    subst e3
    have : k = 0 := by simpa using hk
    subst this
    refine ⟨.slice none 0 0, fun W => ?_, fun x hx => by simpa using hx⟩
    simp [Instr.sliceAt, run_underlying Tryz.underlying22, go_sem, sizeOf, typeInfo, hi, hz1, Addr.add]
  | some a =>
    refine ⟨.slice (some a) k cap, fun W => ?_, fun x hx => ?_⟩
    · simp [Instr.sliceAt, run_underlying Tryz.underlying22, go_sem, sizeOf, typeInfo, hi, hz1, Addr.add, a0, a1]
    · obtain ⟨ao', cap', hv, h0, hc⟩ := hx
      injection hv with e1 _ e3
      subst e1 e3
      refine ⟨_, _, by rw [List.length_take, Nat.min_eq_left hk], (fun h => by cases h), fun j hj => ?_⟩
      rw [List.length_take] at hj
      obtain ⟨b, off, e, hlt, hr⟩ := hc j (by omega)
      refine ⟨b, off, e, hlt, ?_⟩
      rw [List.getElem_take]; exact hr
theorem re_drop {w : World} {v : Value} {l : List En} (h : RT 93 14 enC w v l) (k : Nat) (hk : k ≤ l.length) : ∃ v1, (∀ W, (Instr.sliceAt 22 v (some (.int .i64 k)) none none).run Tryz.prog W = .ok v1 W) ∧ ∀ x, Wide 14 enC x v l → Wide 14 enC x v1 (l.drop k) := by
  obtain ⟨i0, hi, hz0, hz1, hz2⟩ := info_parts infoEz
  obtain ⟨ao, cap, rfl⟩ := h.wide.shape
  have hcap := h.cap _ _ _ rfl
  have a0 : (0 : Int) ≤ (k : Int) := by omega
  have a1 : (k : Int) ≤ (l.length : Int) := by omega
  have a2 : (l.length : Int) ≤ (cap : Int) := by omega
  cases ao with
  | none =>
    obtain ⟨ao', cap', hv, h0, _⟩ := h.wide
    injection hv with e1 _ e3
    obtain ⟨rfl, rfl⟩ := h0 e1.symm
    subst e3
    have : k = 0 := by simpa using hk
    subst this
    refine ⟨.slice none 0 0, fun W => ?_, fun x hx => by simpa using hx⟩
    simp [Instr.sliceAt, run_underlying Tryz.underlying22, go_sem, sizeOf, typeInfo, hi, hz1, Addr.add]
  | some a =>
    refine ⟨.slice (some (if cap = k then a else if k * 14 = 0 then a else ⟨a.block, a.off + k * 14, none⟩)) (l.length - k) (cap - k), fun W => ?_, fun x hx => ?_⟩
    · simp [Instr.sliceAt, run_underlying Tryz.underlying22, go_sem, sizeOf, typeInfo, hi, hz1, Addr.add, a0, a1, a2]
      split <;> rfl
    · obtain ⟨ao', cap', hv, h0, hc⟩ := hx
      injection hv with e1 _ e3
      subst e1 e3
      refine ⟨_, _, by rw [List.length_drop], (fun h => by cases h), fun j hj => ?_⟩
      rw [List.length_drop] at hj
      obtain ⟨b, off, e, hlt, hr⟩ := hc (k + j) (by omega)
      injection e with e
      subst e
      rw [if_neg (by omega)]
      by_cases hk0 : k * 14 = 0
      · rw [if_pos hk0]
        refine ⟨b, off, rfl, hlt, ?_⟩
        have : k = 0 := by omega
        subst this
        simpa using hr
      · rw [if_neg hk0]
        refine ⟨b, off + k * 14, rfl, hlt, ?_⟩
        rw [List.getElem_drop, show off + k * 14 + j * 14 = off + (k + j) * 14 by omega]
        exact hr
end Go.Proofs.YtahfnknbmikmkaaGreat
namespace Go.Proofs.YtahfnknbmikmkaaGreat
open Go.RowKit Go.Proofs.Ty Go.Sort Go.Lib
set_option linter.unusedVariables false
set_option maxRecDepth 1000000
set_option linter.unusedSimpArgs false
theorem rng_df8 {w : World} {b o : Nat} {e : En} (h : w.rangeAt b o (enC e)) : w.rangeAt b (o + 11) (vlC e.df) := by
  intro j u hj
  have : (enC e)[11 + j]? = some u := by
    match j, hj with
    | 0, hj => exact hj
    | 1, hj => exact hj
    | 2, hj => exact hj
    | j + 3, hj => simp [vlC] at hj
  have := h (11 + j) u this
  rw [← Nat.add_assoc] at this
  exact this
theorem wp_load_cell {o : Oper} {a : Act} {w : World} {K : Act → World → Prop} {Q : Exit → Act → World → Prop} (ty : TypeId) (x : Operand) (ho : o.op = .load ty x) (b k : Nat) (hx : a.eval x = .pointer (some ⟨b, k, none⟩)) (v : Value)
    (hr : (loadVar ty ⟨b, k, none⟩).run Tryz.prog w = .ok v w) (h : K (a.put o.dst v) w) : o.wp Tryz.prog a w K Q := by
  unfold Oper.wp execOp
  simp only [ho, hx, Instr.loadAt, Instr.sureAddr, Sem.run_bind, Sem.run_pure, Result.andThen_ok, hr]
  exact h
theorem own_set {w : World} {B : Nat} {e : TypeId} {c n : Nat} {v : Value} {xs : List Value} (h : w.ownsRow B e c v n xs) {E : Nat} (hE : v.ownBlock ≠ some E) (k : Nat) (u : Value) : (w.setCell ⟨E, k, none⟩ u).ownsRow B e c v n xs := by
  refine ⟨h.1, h.2.imp id ?_⟩
  rintro ⟨g, cap, cur, e1, e2, e3, e4⟩
  subst e1
  exact ⟨g, cap, cur, rfl, e2, (Below.heap_setCell w ⟨E, k, none⟩ u g (fun e => hE (by rw [← (show g = E from e)]; rfl))).trans e3, e4⟩
theorem own_ne {w : World} {B : Nat} {T c n : Nat} {v : Value} {xs : List Value} (h : w.ownsRow B T c v n xs) {E : Nat} {A : Array Value} {fr : Nat × Nat} (hE : w.heap[E]? = some (.cells A 98 fr)) (ht : T ≠ 98 := by decide) : v.ownBlock ≠ some E := fun e => by
  obtain ⟨_, cur, h1⟩ := own_of h e
  rw [hE] at h1
  simp at h1
  exact ht h1.2.1.symm
theorem Rd.put {E : Nat} {L : List En} {vL u0 : Value} {V' : List Vl} {u : Value} {w : World} (hh : w.heap[E]? = some (.cells #[vL, u0] 98 (0, 0))) (hL : RT 93 14 enC w vL L) (hr : RT 52 3 vlC w u V') : Rd E L vL V' u (w.setCell ⟨E, 1, none⟩ u) := by
  have hg := set_kept w E 1 u
  refine ⟨?_, hL.grown hg (hL.ne hh (by decide)), hr.grown hg (hr.ne hh (by decide))⟩
  simp only [World.setCell, Array.getElem?_modify, hh]
  simp
theorem rt_rng {E lb lo cL k : Nat} {L : List En} {w : World} (h : RT 93 14 enC w (.slice (some ⟨lb, lo, none⟩) L.length cL) L) (hk : k < L.length) : w.rangeAt lb (lo + k * 14) (enC L[k]) := by
  obtain ⟨b', o', c', hv', _, hR'⟩ := h.wide.at0 k hk
  injection hv' with e1 _ _
  injection e1 with e1
  injection e1 with e1 e2 _
  subst e1 e2
  exact hR'
theorem ownV_nil (w : World) (B : Nat) : w.ownsRow B 52 3 (.slice none 0 0) (([] : List Vl)).length (flatW DV []) := ⟨rfl, .inl ⟨rfl, rfl⟩⟩
set_option maxHeartbeats 8000000 in
theorem QReset_any {E : Nat} {L : List En} {vL : Value} {V : List Vl} {vV : Value} {w : World} (h : Rd E L vL V vV w) (hl : L.length ≤ 1024) :
    Calls Tryz.prog 102 #[.pointer (some ⟨E, 0, none⟩)] w fun e w' => e = .returned (.tuple #[]) ∧ ∃ vV', Rd E L vL (L.map En.df) vV' w' ∧ w'.ownsRow w.heap.size 52 3 vV' (L.map En.df).length (flatW DV (L.map En.df)) ∧ w.grownBy w' (some E) := by
  obtain ⟨aL, cL, rfl⟩ := h.rowL.wide.shape
  have c1 := h.c.2
  have f1 := h.frozen 1
  have h1 := h.setV (RT.nil 52 3 vlC w)
  have HR0 := hidOf2 h1
  have HP0 := hidOf2 (ownV_nil (w.setCell ⟨E, 1, none⟩ (.slice none 0 0)) w.heap.size)
  have HG0 := hidOf2 (set_kept w E 1 (.slice none 0 0))
  have hElt := h.lt
  have k0 := h1.c.1
  clear h h1
  go_enter Tryz.func102, Tryz.ntmps102
  go_wp2
  generalize w.setCell ⟨E, 1, none⟩ (.slice none 0 0) = w1 at *
  go_loopw [2] (fun i x => ∃ (k : Nat) (vV : Value), k ≤ L.length ∧ i = .int .i64 k ∧ Hid (Rd E L (.slice aL L.length cL) ((L.take k).map En.df) vV x) ∧ Hid (x.ownsRow w.heap.size 52 3 vV ((L.take k).map En.df).length (flatW DV ((L.take k).map En.df))) ∧ Hid (w.grownBy x (some E))) (fun i _ => L.length - (intOf i).toNat)
  case atStart => exact ⟨0, _, Nat.zero_le _, rfl, HR0, HP0, HG0⟩
  case round =>
    clear HR0 HP0 HG0 k0
    obtain ⟨k, vV, hk, rfl, HR, HP, HG⟩ := hrel
    have c0 := HR.out.c.1
    by_cases hkl : k < L.length
    · obtain ⟨lb, lo, lc, hv, hlb, hRj⟩ := HR.out.rowL.wide.at0 k hkl
      injection hv with hv1 _ hv3
      subst hv1
      subst hv3
      have HT := hidOf2 (show (L.take (k + 1)).map En.df = (L.take k).map En.df ++ [L[k].df] by rw [List.take_succ_eq_append_getElem hkl, List.map_append]; rfl)
      have hrX := rng_df8 hRj
      obtain ⟨X, hX⟩ : ∃ X, L[k].df = X := ⟨_, rfl⟩
      rw [hX] at hrX HT
      have hVL : ((L.take k).map En.df).length ≤ 1024 := by simp; omega
      obtain ⟨aV, cV, hvV⟩ := own_shape5 HP.out
      obtain ⟨nV, hnV⟩ : ∃ n, ((L.take k).map En.df).length = n := ⟨_, rfl⟩
      rw [hnV] at hvV
      subst hvV
      have b0 : Below wr.heap.size wr wr.drew := bdr (Below.refl _ _) 1
      have bA : Below wr.heap.size wr (wr.drew.alloc (.cells (vlC X).toArray 52)) := b0.alloc b0.size _
      have SS : Hid (∀ x, Below wr.heap.size wr x → x.cell? ⟨E, 0, none⟩ = some (.slice (some ⟨lb, lo, none⟩) L.length cL) ∧ x.rangeAt lb (lo + k * 14 + 11) (vlC X)) := fun x hb => ⟨(HR.out.below hb).c.1, rng_below hrX hb hlb⟩
      have SV : Hid (∀ x, Below wr.heap.size wr x → x.cell? ⟨E, 1, none⟩ = some (.slice aV nV cV)) := fun x hb => (HR.out.below hb).c.2
      have SSR : ∀ x, RT 93 14 enC x (.slice (some ⟨lb, lo, none⟩) L.length cL) L → x.rangeAt lb (lo + k * 14 + 11) (vlC X) := fun x hx => hX ▸ rng_df8 (rt_rng (E := E) hx hkl)
      have SSE : Hid (∀ (V' : List Vl) (u : Value) (x : World), Rd E L (.slice (some ⟨lb, lo, none⟩) L.length cL) V' u x → x.cell? ⟨E, 0, none⟩ = some (.slice (some ⟨lb, lo, none⟩) L.length cL) ∧ x.rangeAt lb (lo + k * 14 + 11) (vlC X)) := fun V' u x hx => ⟨hx.c.1, SSR x hx.rowL⟩
      have PA := ownsRow_alloc (own_drew HP.out) (.cells (vlC X).toArray 52)
      have RA := HR.out.below bA
      have SSV : Hid (∀ y, (wr.drew.alloc (.cells (vlC X).toArray 52)).grownBy y (Value.slice aV nV cV).ownBlock → y.heap[E]? = some (.cells #[.slice (some ⟨lb, lo, none⟩) L.length cL, .slice aV nV cV] 98 (0, 0)) ∧ RT 93 14 enC y (.slice (some ⟨lb, lo, none⟩) L.length cL) L ∧ y.cell? ⟨E, 0, none⟩ = some (.slice (some ⟨lb, lo, none⟩) L.length cL) ∧ y.rangeAt lb (lo + k * 14 + 11) (vlC X)) := fun y G => by
        have hd := (G.block E RA.lt (fun e => (own_ne PA RA.head (by decide)) e.symm)).trans RA.head
        have hr : RT 93 14 enC y (.slice (some ⟨lb, lo, none⟩) L.length cL) L := RA.rowL.same G.size (fun b A fr _ h1 => G.block b (Array.getElem?_eq_some_iff.1 h1).1 (fun e => by
          obtain ⟨_, cur, h2⟩ := own_of PA e.symm
          rw [h1] at h2
          simp at h2))
        exact ⟨hd, hr, by rw [Lib.cell_of_heap hd]; rfl, SSR y hr⟩
      have HGY : Hid (∀ y, (wr.drew.alloc (.cells (vlC X).toArray 52)).grownBy y (Value.slice aV nV cV).ownBlock → w.grownBy y (some E)) := fun y G =>
        ⟨G.os.trans (bA.os.trans HG.out.os), G.tape.trans (bA.tape.trans HG.out.tape), G.output.trans (bA.output.trans HG.out.output), Nat.le_trans HG.out.size (Nat.le_trans bA.size G.size), fun j hj hne =>
          (G.block j (Nat.lt_of_lt_of_le hj (Nat.le_trans HG.out.size bA.size)) (fun e => by have := own_lt HP.out j e.symm; omega)).trans ((bA.block j (Nat.lt_of_lt_of_le hj HG.out.size)).trans (HG.out.block j hj hne))⟩
      have S0 := SS.out _ b0
      clear PA RA SSR bA hrX hRj hX
      go_upto_region 4 with fail
      clear c0
      refine wp_region_held (S := fun x => x.cell? ⟨E, 0, none⟩ = some (.slice (some ⟨lb, lo, none⟩) L.length cL) ∧ x.rangeAt lb (lo + k * 14 + 11) (vlC X)) (by kernel_rfl) ?_
      change wpAnyH _ _ _ _ _ _ _ _ wr.drew
      refine tk 0 (.pointer (some ⟨E, 0, none⟩)) rfl (by kernel_rfl) (fun _ _ _ h => h) rfl (fun _ hS => rfl) S0 ?_
      simp only [zzA, zzB, zzC, Act.put, zzD, zzE, zzF]
      refine tk 1 (.pointer (some ⟨E, 0, none⟩)) rfl (by kernel_rfl) (fun _ _ _ h => h) rfl (fun _ hS => rfl) S0 ?_
      simp only [zzA, zzB, zzC, Act.put, zzD, zzE, zzF]
      refine tk 2 (.pointer (some ⟨E, 0, none⟩)) rfl (by kernel_rfl) (fun _ _ _ h => h) rfl (fun _ hS => by simp [execOp, go_sem, Act.eval]) S0 ?_
      simp only [zzA, zzB, zzC, Act.put, zzD, zzE, zzF]
      refine tk 3 (.pointer (some ⟨E, 1, none⟩)) rfl (by kernel_rfl) (fun _ _ _ h => h) rfl (fun _ hS => by simp [execOp, go_sem, Act.eval]) S0 ?_
      simp only [zzA, zzB, zzC, Act.put, zzD, zzE, zzF]
      refine tk 5 (.pointer (some ⟨E, 0, none⟩)) rfl (by kernel_rfl) (fun _ _ _ h => h) rfl (fun _ hS => rfl) S0 ?_
      simp only [zzA, zzB, zzC, Act.put, zzD, zzE, zzF]
      refine tk 6 (.pointer (some ⟨E, 0, none⟩)) rfl (by kernel_rfl) (fun _ _ _ h => h) rfl (fun _ hS => by simp [execOp, go_sem, Act.eval]) S0 ?_
      simp only [zzA, zzB, zzC, Act.put, zzD, zzE, zzF]
      refine tk 7 (.pointer (some ⟨E, 0, none⟩)) rfl (by kernel_rfl) (fun _ _ _ h => h) rfl (fun _ hS => by simp [execOp, go_sem, Act.eval]) S0 ?_
      simp only [zzA, zzB, zzC, Act.put, zzD, zzE, zzF]
      refine tk 8 (.slice (some ⟨lb, lo, none⟩) L.length cL) rfl (by kernel_rfl) (fun _ _ _ h => h) rfl (fun _ hS => exec_load rfl rfl (load_ents _ _ _ _ _ _ hS.1)) S0 ?_
      simp only [zzA, zzB, zzC, Act.put, zzD, zzE, zzF]
      refine tk 9 (.int .i64 (k : Int)) rfl (by kernel_rfl) (fun _ _ _ h => h) rfl (fun _ hS => rfl) S0 ?_
      simp only [zzA, zzB, zzC, Act.put, zzD, zzE, zzF]
      refine tk 10 (.pointer (some ⟨lb, lo + k * 14, none⟩)) rfl (by kernel_rfl) (fun _ _ _ h => h) rfl (fun _ hS => exec_idxE rfl rfl rfl hkl _) S0 ?_
      simp only [zzA, zzB, zzC, Act.put, zzD, zzE, zzF]
      refine tk 11 (.pointer (some ⟨lb, lo + k * 14 + 11, none⟩)) rfl (by kernel_rfl) (fun _ _ _ h => h) rfl (fun _ hS => by simp [execOp, go_sem, Act.eval]) S0 ?_
      simp only [zzA, zzB, zzC, Act.put, zzD, zzE, zzF]
      refine tk 12 (.agg X.arr) rfl (by kernel_rfl) (fun _ _ _ h => h) rfl (fun _ hS => exec_load rfl rfl (run_ldV hS.2)) S0 ?_
      simp only [zzA, zzB, zzC, Act.put, zzD, zzE, zzF]
      refine wpAnyH_all (rs := [4, 13]) (by kernel_rfl) (by simp) ?_
      intro k hk
      simp only [List.mem_cons, List.mem_nil_iff, or_false] at hk
      rcases hk with rfl | rfl
      · refine wpOp_run rfl rfl (wp_load_cell 96 _ rfl E 1 rfl (.slice aV nV cV) (load_vals _ E 1 _ _ _ (SV.out _ b0)) ?_)
        refine ⟨S0, ?_⟩
        simp only [zzA, zzB, zzC, Act.put, zzD, zzE, zzF]
        refine wpAnyH_all (rs := [13]) (by kernel_rfl) (by simp) ?_
        intro k hk
        simp only [List.mem_cons, List.mem_nil_iff, or_false] at hk
        subst hk
        refine wpOp_run rfl rfl (wp_bs1 DV X 96 52 _ 32 _ rfl rfl Tryz.underlying96 infoVz (by decide) ?_)
        have b1 := b0.alloc b0.size (.cells (vlC X).toArray 52)
        have Q1 := wide_new DV wr.drew X 52
        have P1 := ownsRow_alloc (own_drew HP.out) (.cells (vlC X).toArray 52)
        refine ⟨(SS.out _ b1), ?_⟩
        simp only [zzA, zzB, zzC, Act.put, zzD, zzE, zzF]
        refine wpAnyH_all (rs := [14]) (by kernel_rfl) (by simp) ?_
        intro k hk
        simp only [List.mem_cons, List.mem_nil_iff, or_false] at hk
        subst hk
        refine wpOp_run rfl rfl (wp_append_wide DV _ _ 96 52 _ 32 Tryz.underlying96 infoVz rfl rfl w.heap.size _ ((L.take k).map En.df) rfl P1 _ [X] rfl Q1 (by unfold maxLen; simp; omega) (by simp; omega) (Nat.le_trans HG.out.size b1.size) ?_)
        intro vY wY PY GY
        obtain ⟨hY, rY, eY⟩ := SSV.out wY GY
        obtain ⟨aY, cpY, hvY⟩ := own_shape5 PY
        obtain ⟨nY, hnY⟩ : ∃ n, ((L.take k).map En.df ++ [X]).length = n := ⟨_, rfl⟩
        rw [hnY] at hvY
        subst hvY
        refine ⟨eY, ?_⟩
        simp only [zzA, zzB, zzC, Act.put, zzD, zzE, zzF]
        refine tk 15 (.pointer (some ⟨E, 0, none⟩)) rfl (by kernel_rfl) (fun _ _ _ h => h) rfl (fun _ hS => by simp [execOp, go_sem, Act.eval]) eY ?_
        simp only [zzA, zzB, zzC, Act.put, zzD, zzE, zzF]
        refine tk 16 (.pointer (some ⟨E, 1, none⟩)) rfl (by kernel_rfl) (fun _ _ _ h => h) rfl (fun _ hS => by simp [execOp, go_sem, Act.eval]) eY ?_
        simp only [zzA, zzB, zzC, Act.put, zzD, zzE, zzF]
        refine wpAnyH_all (rs := [17]) (by kernel_rfl) (by simp) ?_
        intro k hk
        simp only [List.mem_cons, List.mem_nil_iff, or_false] at hk
        subst hk
        refine wpOp_run rfl rfl (wp_store_cell 96 _ _ rfl E 1 rfl _ rfl (store_vals wY E 1 (.slice aV nV cV) aY _ cpY (by rw [Lib.cell_of_heap hY]; rfl) (Lib.frozen_of_heap hY 1)) ?_)
        have RN := Rd.put hY rY (RT.own DV PY)
        have sN := (SSE.out _ _ _ RN)
        refine ⟨sN, ?_⟩
        simp only [zzA, zzB, zzC, Act.put, zzD, zzE, zzF]
        refine wpAnyH_done (by kernel_rfl) ?_ _
        have HRN := hidOf2 RN
        have HPN := hidOf2 (own_set PY (own_ne PY hY (by decide)) 1 (.slice aY nY cpY))
        have HGN := hidOf2 (grown_trans (HGY.out wY GY) (set_kept wY E 1 (.slice aY nY cpY)))
        clear RN sN hY rY eY PY GY P1 Q1 b1 SS SV SSV SSE S0 HGY HP HG HR
        generalize wY.setCell ⟨E, 1, none⟩ (.slice aY nY cpY) = wz at *
        go_wp2
        go_roundw
        case rel => exact ⟨k + 1, _, by omega, by go_num, by rw [HT.out]; exact HRN, by rw [HT.out]; exact HPN, HGN⟩
        case measure => simp [intOf]; omega
      · refine wpOp_run rfl rfl (wp_bs1 DV X 96 52 _ 32 _ rfl rfl Tryz.underlying96 infoVz (by decide) ?_)
        have b1 := b0.alloc b0.size (.cells (vlC X).toArray 52)
        have Q1 := wide_new DV wr.drew X 52
        have P1 := ownsRow_alloc (own_drew HP.out) (.cells (vlC X).toArray 52)
        refine ⟨(SS.out _ b1), ?_⟩
        simp only [zzA, zzB, zzC, Act.put, zzD, zzE, zzF]
        refine wpAnyH_all (rs := [4]) (by kernel_rfl) (by simp) ?_
        intro k hk
        simp only [List.mem_cons, List.mem_nil_iff, or_false] at hk
        subst hk
        refine wpOp_run rfl rfl (wp_load_cell 96 _ rfl E 1 rfl (.slice aV nV cV) (load_vals _ E 1 _ _ _ (SV.out _ b1)) ?_)
        refine ⟨(SS.out _ b1), ?_⟩
        simp only [zzA, zzB, zzC, Act.put, zzD, zzE, zzF]
        refine wpAnyH_all (rs := [14]) (by kernel_rfl) (by simp) ?_
        intro k hk
        simp only [List.mem_cons, List.mem_nil_iff, or_false] at hk
        subst hk
        refine wpOp_run rfl rfl (wp_append_wide DV _ _ 96 52 _ 32 Tryz.underlying96 infoVz rfl rfl w.heap.size _ ((L.take k).map En.df) rfl P1 _ [X] rfl Q1 (by unfold maxLen; simp; omega) (by simp; omega) (Nat.le_trans HG.out.size b1.size) ?_)
        intro vY wY PY GY
        obtain ⟨hY, rY, eY⟩ := SSV.out wY GY
        obtain ⟨aY, cpY, hvY⟩ := own_shape5 PY
        obtain ⟨nY, hnY⟩ : ∃ n, ((L.take k).map En.df ++ [X]).length = n := ⟨_, rfl⟩
        rw [hnY] at hvY
        subst hvY
        refine ⟨eY, ?_⟩
        simp only [zzA, zzB, zzC, Act.put, zzD, zzE, zzF]
        refine tk 15 (.pointer (some ⟨E, 0, none⟩)) rfl (by kernel_rfl) (fun _ _ _ h => h) rfl (fun _ hS => by simp [execOp, go_sem, Act.eval]) eY ?_
        simp only [zzA, zzB, zzC, Act.put, zzD, zzE, zzF]
        refine tk 16 (.pointer (some ⟨E, 1, none⟩)) rfl (by kernel_rfl) (fun _ _ _ h => h) rfl (fun _ hS => by simp [execOp, go_sem, Act.eval]) eY ?_
        simp only [zzA, zzB, zzC, Act.put, zzD, zzE, zzF]
        refine wpAnyH_all (rs := [17]) (by kernel_rfl) (by simp) ?_
        intro k hk
        simp only [List.mem_cons, List.mem_nil_iff, or_false] at hk
        subst hk
        refine wpOp_run rfl rfl (wp_store_cell 96 _ _ rfl E 1 rfl _ rfl (store_vals wY E 1 (.slice aV nV cV) aY _ cpY (by rw [Lib.cell_of_heap hY]; rfl) (Lib.frozen_of_heap hY 1)) ?_)
        have RN := Rd.put hY rY (RT.own DV PY)
        have sN := (SSE.out _ _ _ RN)
        refine ⟨sN, ?_⟩
        simp only [zzA, zzB, zzC, Act.put, zzD, zzE, zzF]
        refine wpAnyH_done (by kernel_rfl) ?_ _
        have HRN := hidOf2 RN
        have HPN := hidOf2 (own_set PY (own_ne PY hY (by decide)) 1 (.slice aY nY cpY))
        have HGN := hidOf2 (grown_trans (HGY.out wY GY) (set_kept wY E 1 (.slice aY nY cpY)))
        clear RN sN hY rY eY PY GY P1 Q1 b1 SS SV SSV SSE S0 HGY HP HG HR
        generalize wY.setCell ⟨E, 1, none⟩ (.slice aY nY cpY) = wz at *
        go_wp2
        go_roundw
        case rel => exact ⟨k + 1, _, by omega, by go_num, by rw [HT.out]; exact HRN, by rw [HT.out]; exact HPN, HGN⟩
        case measure => simp [intOf]; omega
    · have e1 : k = L.length := by omega
      subst e1
      rw [List.take_length] at HR HP
      have HR2 := hidOf2 HR.out
      have HP2 := hidOf2 HP.out
      clear HR HP
      go_wp2
      go_end0
      exact ⟨rfl, _, HR2.out, HP2.out, HG.out⟩
end Go.Proofs.YtahfnknbmikmkaaGreat
