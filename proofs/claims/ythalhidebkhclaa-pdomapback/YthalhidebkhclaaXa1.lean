/- Contracts: May, Entry, Reset. -/
import Derived.Test.YthalhidebkhclaaO17
import Derived.Test.YthalhidebkhclaaTy11
import Derived.Test.YthalhidebkhclaaOOp
import Derived.Test.YthalhidebkhclaaTyL
import Derived.Test.YthalhidebkhclaaO12
import Derived.Test.YthalhidebkhclaaTy12
import Derived.Test.YthalhidebkhclaaTyB
namespace Go.Proofs.Ythalhidebkhclaa
open Go.RowKit Go.Proofs.Ty Go.Sort Go.Lib
set_option linter.unusedVariables false
set_option maxRecDepth 1000000
set_option linter.unusedSimpArgs false
theorem low_mod (n k : Nat) : lowL n k = lowL (n % 256 ^ k) k := by
  have h := low_join (lowL n k)
  rw [lowL_length, join_low] at h
  exact h.symm
theorem ext_mod (n b z : Nat) (h : (z = 1 ∧ b = 8) ∨ (z = 2 ∧ b = 16) ∨ (z = 4 ∧ b = 32) ∨ (z = 8 ∧ b = 64)) : extN b n % 256 ^ z = n % 256 ^ z := by
  rcases h with ⟨rfl, rfl⟩ | ⟨rfl, rfl⟩ | ⟨rfl, rfl⟩ | ⟨rfl, rfl⟩ <;> unfold extN <;> split <;> omega
/-- What was read is written as it was. -/
theorem dec_enc (t : Int) (ht : -9223372036854775808 ≤ t ∧ t < 9223372036854775808) (l : List UInt8) (h : decE t l = 0) : (decW t l).chk = 0 ∧ (decW t l).enc = l := by
  have hF : fitE t l.length = 0 := by
    by_cases hc : fitE t l.length = 0
    · exact hc
    · unfold decE at h
      rw [if_pos hc] at h
      exact absurd h hc
  obtain ⟨hk, hl, hm⟩ := fit_zero hF
  have hC : chk t (decN t l) (decS t l) = 0 := by
    by_cases hc : chk t (decN t l) (decS t l) = 0
    · exact hc
    · unfold decE at h
      rw [if_neg (by omega), if_pos hc] at h
      omega
  have hz := siz_zero t
  by_cases hs : 0 < siz t
  · have hll := hl hs
    have hN := decN_lt hs hll
    have hk2 : kind t = 1 ∨ kind t = 2 := by omega
    have hS : decS t l = ⟨#[]⟩ := by unfold decS; rw [if_pos hk2]
    have hW : decW t l = ⟨t, decN t l, ⟨#[]⟩, ht, hN, by decide⟩ := by
      unfold decW
      rw [if_pos h, hS]
      exact mkV_eq _ _ _
    rw [hS] at hC
    rw [hW]
    refine ⟨hC, ?_⟩
    show encV t (decN t l) ⟨#[]⟩ = l
    unfold encV encL
    rw [if_pos hC, if_pos hs]
    have e : decN t l % 256 ^ siz t = joinL l % 256 ^ siz t := by
      unfold decN
      rcases hk2 with hk2 | hk2
      · rw [if_pos hk2]
      · rw [if_neg (by omega), if_pos hk2]
        exact ext_mod _ _ _ (sz2 hk2)
    rw [low_mod, e, ← low_mod, ← hll, low_join]
  · have hN : decN t l = 0 := by unfold decN; rw [if_neg (by omega), if_neg (by omega)]
    have hS : decS t l = ⟨l.toArray⟩ := by unfold decS; rw [if_neg (by omega)]
    have hsz : (⟨l.toArray⟩ : ByteArray).size ≤ maxLen := by
      simp only [ByteArray.size, List.size_toArray, maxLen]
      omega
    have hW : decW t l = ⟨t, 0, ⟨l.toArray⟩, ht, by decide, hsz⟩ := by
      unfold decW
      rw [if_pos h, hS, hN]
      exact mkV_eq _ _ _
    rw [hS, hN] at hC
    rw [hW]
    refine ⟨hC, ?_⟩
    show encV t 0 ⟨l.toArray⟩ = l
    unfold encV encL
    rw [if_pos hC, if_neg hs]
theorem dec_t (t : Int) (ht : -9223372036854775808 ≤ t ∧ t < 9223372036854775808) (l : List UInt8) (h : decE t l = 0) : (decW t l).t = t := by
  have hF : fitE t l.length = 0 := by
    by_cases hc : fitE t l.length = 0
    · exact hc
    · unfold decE at h
      rw [if_pos hc] at h
      exact absurd h hc
  obtain ⟨hk, hl, hm⟩ := fit_zero hF
  have hz := siz_zero t
  by_cases hs : 0 < siz t
  · have hll := hl hs
    have hN := decN_lt hs hll
    have hk2 : kind t = 1 ∨ kind t = 2 := by omega
    have hS : decS t l = ⟨#[]⟩ := by unfold decS; rw [if_pos hk2]
    have hW : decW t l = ⟨t, decN t l, ⟨#[]⟩, ht, hN, by decide⟩ := by
      unfold decW
      rw [if_pos h, hS]
      exact mkV_eq _ _ _
    rw [hW]
  · have hN : decN t l = 0 := by unfold decN; rw [if_neg (by omega), if_neg (by omega)]
    have hS : decS t l = ⟨l.toArray⟩ := by unfold decS; rw [if_neg (by omega)]
    have hsz : (⟨l.toArray⟩ : ByteArray).size ≤ maxLen := by
      simp only [ByteArray.size, List.size_toArray, maxLen]
      omega
    have hW : decW t l = ⟨t, 0, ⟨l.toArray⟩, ht, by decide, hsz⟩ := by
      unfold decW
      rw [if_pos h, hS, hN]
      exact mkV_eq _ _ _
    rw [hW]
theorem ord_zero {a b : Vl} (h : ordE a b = 0) : a.chk = 0 ∧ b.chk = 0 ∧ a.t = b.t := by
  unfold ordE at h
  by_cases h1 : a.chk = 0
  · rw [if_neg (by simpa using h1)] at h
    by_cases h2 : b.chk = 0
    · rw [if_neg (by simpa using h2)] at h
      by_cases h3 : a.t = b.t
      · exact ⟨h1, h2, h3⟩
      · rw [if_pos h3] at h; exact absurd h (by decide)
    · rw [if_pos h2] at h; exact absurd h h2
  · rw [if_pos h1] at h; exact absurd h h1
theorem zero_ord {a b : Vl} (h1 : a.chk = 0) (h2 : b.chk = 0) (h3 : a.t = b.t) : ordE a b = 0 := by
  unfold ordE
  rw [if_neg (by simpa using h1), if_neg (by simpa using h2), if_neg (by simpa using h3)]
theorem num_plain {v : Vl} (h : 0 < siz v.t) : v.plain.t = v.t ∧ v.plain.n = v.n := by
  have hz := siz_zero v.t
  have hk : kind v.t = 1 ∨ kind v.t = 2 := by omega
  rw [Vl.plain_num hk]
  exact ⟨rfl, rfl⟩
theorem num_chk {v : Vl} (h : 0 < siz v.t) : v.plain.chk = v.chk := by
  have hz := siz_zero v.t
  have hk : kind v.t = 1 ∨ kind v.t = 2 := by omega
  obtain ⟨h1, h2⟩ := num_plain h
  unfold Vl.chk
  rw [h1, h2]
  unfold Ty.chk
  rcases hk with hk | hk <;> simp [hk]
theorem num_ordE {v u : Vl} (h : 0 < siz v.t) : ordE v.plain u = ordE v u := by
  unfold ordE
  rw [num_chk h, (num_plain h).1]
theorem num_ordN {v u : Vl} (h : 0 < siz v.t) : ordN v.plain u = ordN v u := by
  have hz := siz_zero v.t
  have hk : kind v.t = 1 ∨ kind v.t = 2 := by omega
  obtain ⟨h1, h2⟩ := num_plain h
  unfold ordN
  rw [num_ordE h]
  unfold ordR
  rw [h1, h2]
  rcases hk with hk | hk <;> simp [hk]
/-- What is known of an item while nothing is set or loaded. -/
structure Gd (i : Im) : Prop where
  lim : i.e.li = true → ordE i.e.df i.e.mn = 0 ∧ ordE i.e.df i.e.mx = 0
  val : i.e.li = true → wiB i.e i.v = true ∧ wiC i.e i.v = 0
  con : i.e.ac ≠ 2 → i.e.ac ≠ 1 → i.v = i.e.df
theorem can_zero {e : En} (h : e.can = 0) : e.df.chk = 0 ∧ (e.li = true → 0 < siz e.df.t ∧ e.btw = true) := by
  unfold En.can at h
  by_cases h1 : e.df.chk = 0
  · rw [if_neg (by simpa using h1)] at h
    refine ⟨h1, fun hl => ?_⟩
    split at h
    · exact absurd h (by decide)
    · split at h
      · exact absurd h (by decide)
      · rename_i h3
        exact Decidable.not_not.1 (fun h4 => h3 ⟨hl, h4⟩)
  · rw [if_pos h1] at h; exact absurd h h1
theorem chkG_all {s l : List En} (h : chkG s l = 0) : ∀ e ∈ l, e.can = 0 := by
  induction l generalizing s with
  | nil => intro e he; simp at he
  | cons x r ih =>
    rw [chkG] at h
    split at h
    · rename_i h1; exact absurd h h1
    · rename_i h1
      split at h
      · exact absurd h (by decide)
      · intro e he
        rcases List.mem_cons.1 he with rfl | he
        · exact Decidable.not_not.1 h1
        · exact ih h e he
theorem gd_new {e : En} (h : e.can = 0) (b : Nat) : Gd ⟨b, e.plain, e.plain.df⟩ := by
  obtain ⟨h1, h2⟩ := can_zero h
  have key : e.li = true → (ordE e.plain.df e.mn = 0 ∧ ordE e.plain.df e.mx = 0) ∧ 0 ≤ ordN e.plain.df e.mn ∧ ordN e.plain.df e.mx ≤ 0 := fun hl => by
    obtain ⟨hz, hb⟩ := h2 hl
    show (ordE e.df.plain e.mn = 0 ∧ ordE e.df.plain e.mx = 0) ∧ 0 ≤ ordN e.df.plain e.mn ∧ ordN e.df.plain e.mx ≤ 0
    rw [num_ordE hz, num_ordE hz, num_ordN hz, num_ordN hz]
    unfold En.btw at hb
    simpa [and_assoc] using hb
  refine ⟨fun hl => (key hl).1, fun hl => ?_, fun _ _ => rfl⟩
  obtain ⟨⟨k1, k2⟩, k3, k4⟩ := key hl
  have hB : wiB e.plain e.plain.df = true := by
    show (decide (ordE e.plain.df e.mn = 0) && decide (ordE e.plain.df e.mx = 0)) = true
    rw [k1, k2]; rfl
  refine ⟨hB, ?_⟩
  show wiC e.plain e.plain.df = 0
  unfold wiC
  rw [if_neg (by rw [hB]; simp), if_neg (show ¬ 0 < ordN e.plain.df e.plain.mx from by show ¬ 0 < ordN e.plain.df e.mx; omega), if_neg (show ¬ ordN e.plain.df e.plain.mn < 0 from by show ¬ ordN e.plain.df e.mn < 0; omega)]
theorem gd_write {i : Im} (h : Gd i) (l : List UInt8) (ha : i.e.ac = 1 ∨ i.e.ac = 2) (hE : decE i.e.df.t l = 0) (hb : bey i.e (decW i.e.df.t l) = 0) : Gd ⟨i.b, i.e, decW i.e.df.t l⟩ := by
  refine ⟨h.lim, fun hl => ?_, fun h1 h2 => by rcases ha with h | h <;> contradiction⟩
  have hl : i.e.li = true := hl
  obtain ⟨k1, k2⟩ := h.lim hl
  have c1 := (dec_enc i.e.df.t i.e.df.ht l hE).1
  have t1 := dec_t i.e.df.t i.e.df.ht l hE
  obtain ⟨a1, a2, a3⟩ := ord_zero k1
  obtain ⟨b1, b2, b3⟩ := ord_zero k2
  have e1 : ordE (decW i.e.df.t l) i.e.mn = 0 := zero_ord c1 a2 (t1.trans a3)
  have e2 : ordE (decW i.e.df.t l) i.e.mx = 0 := zero_ord c1 b2 (t1.trans b3)
  have hB : wiB i.e (decW i.e.df.t l) = true := by unfold wiB; rw [e1, e2]; rfl
  refine ⟨hB, ?_⟩
  show wiC i.e (decW i.e.df.t l) = 0
  unfold bey at hb
  rw [if_neg (by rw [hl]; simp)] at hb
  unfold wiC
  rw [if_neg (by rw [hB]; simp)]
  exact hb
/-- Of these entries, in these blocks. -/
structure Al (es : List En) (bs : List Nat) (its : List Im) : Prop where
  e : its.map Im.e = es
  b : its.map Im.b = bs
theorem Al.set {es : List En} {bs : List Nat} {its : List Im} (h : Al es bs its) (b : Nat) (v : Vl) : Al es bs (setV its b v) := ⟨by rw [setV_e]; exact h.e, by rw [setV_b]; exact h.b⟩
theorem wc_zero {its : List Im} {ix sb : Nat} {l : List UInt8} (h : wc its ix sb l = 0) : ∃ i, fnd its ix sb = some i ∧ (i.e.ac = 1 ∨ i.e.ac = 2) ∧ decE i.e.df.t l = 0 ∧ bey i.e (decW i.e.df.t l) = 0 := by
  unfold wc at h
  split at h
  · exact absurd h (noc_ne _ _)
  · rename_i i hf
    refine ⟨i, hf, ?_⟩
    unfold wcode at h
    split at h
    · exact absurd h (by decide)
    · rename_i h1
      have ha : i.e.ac = 1 ∨ i.e.ac = 2 := by omega
      split at h
      · rename_i h2; exact ⟨ha, h2, h⟩
      · split at h
        · exact absurd h (by decide)
        · split at h <;> exact absurd h (by decide)
theorem Al.wrt {es : List En} {bs : List Nat} {its : List Im} (h : Al es bs its) (ix sb : Nat) (l : List UInt8) : Al es bs (wrt its ix sb l) := by
  unfold Go.Proofs.Ythalhidebkhclaa.wrt
  split
  · split
    · exact h
    · exact h.set _ _
  · exact h
theorem gd_wrt {its : List Im} (hd : (its.map Im.b).Nodup) (h : ∀ i ∈ its, Gd i) (ix sb : Nat) (l : List UInt8) : ∀ i ∈ wrt its ix sb l, Gd i := by
  unfold wrt
  split
  · rename_i hc
    obtain ⟨i, hf, ha, hE, hb⟩ := wc_zero hc
    rw [hf]
    intro x hx
    obtain ⟨y, hy, rfl⟩ := List.mem_map.1 hx
    by_cases e : y.b = i.b
    · rw [if_pos e]
      have : y = i := by
        have hi := fnd_mem hf
        obtain ⟨m, hm, rfl⟩ := List.getElem_of_mem hy
        obtain ⟨n, hn, rfl⟩ := List.getElem_of_mem hi
        have hmn : m = n := by
          have h1 := List.pairwise_iff_getElem.1 hd
          rcases Nat.lt_trichotomy m n with h2 | h2 | h2
          · exact (h1 m n (by simpa using hm) (by simpa using hn) h2 (by simp only [List.getElem_map]; exact e)).elim
          · exact h2
          · exact (h1 n m (by simpa using hn) (by simpa using hm) h2 (by simp only [List.getElem_map]; exact e.symm)).elim
        subst hmn; rfl
      subst this
      exact gd_write (h y hy) l ha hE hb
    · rw [if_neg e]; exact h y hy
  · exact h
theorem fnd_self {its : List Im} (hs : its.Pairwise (fun a b => a.e.pl < b.e.pl)) {i : Im} (hi : i ∈ its) : fnd its i.e.ix i.e.sb = some i := by
  rw [fnd_pl its i.e.hix i.e.hsb]
  rcases count_find its hs (i.e.ix * 256 + i.e.sb) with ⟨h1, _⟩ | ⟨h1, h2, h3⟩
  · exact absurd rfl (h1 i hi)
  · rw [h2]
    congr 1
    obtain ⟨m, hm, rfl⟩ := List.getElem_of_mem hi
    have h4 := List.pairwise_iff_getElem.1 hs
    generalize its.countP _ = n at *
    have hmn : n = m := by
      have e1 : (its[n]).e.pl = (its[m]).e.pl := h3
      rcases Nat.lt_trichotomy n m with h | h | h
      · have := h4 n m h1 hm h; omega
      · exact h
      · have := h4 m n hm h1 h; omega
    subst hmn; rfl
theorem fnd_entry {its : List Im} {l : List En} (hs : its.Pairwise (fun a b => a.e.pl < b.e.pl)) (hp : (its.map Im.e).Perm (l.map En.plain)) {e : En} (he : e ∈ l) : ∃ i, i ∈ its ∧ i.e = e.plain ∧ fnd its e.ix e.sb = some i := by
  have : e.plain ∈ its.map Im.e := hp.mem_iff.2 (List.mem_map.2 ⟨e, he, rfl⟩)
  obtain ⟨i, hi, h1⟩ := List.mem_map.1 this
  refine ⟨i, hi, h1, ?_⟩
  have := fnd_self hs hi
  rw [h1] at this
  exact this
end Go.Proofs.Ythalhidebkhclaa
namespace Go.Proofs.Ythalhidebkhclaa
open Go.RowKit Go.Proofs.Ty Go.Sort Go.Lib
set_option linter.unusedVariables false
set_option maxRecDepth 1000000
set_option linter.unusedSimpArgs false
theorem info_size {t : TypeId} {n : Nat} (h : (Try.prog.info? t).map (·.size) = some n) : ∃ i0, Try.prog.info? t = some i0 ∧ i0.size = n := by
  cases hh : Try.prog.info? t with
  | none => rw [hh] at h; cases h
  | some i0 => rw [hh] at h; exact ⟨i0, rfl, by simpa using h⟩
theorem exec_idxE {a : Act} {o : Oper} {s i : Operand} {b off n c k : Nat} (ho : o.op = .indexAddr 22 s i) (hs : a.eval s = .slice (some ⟨b, off, none⟩) n c) (hi : a.eval i = .int .i64 (k : Int)) (hk : k < n) (w : World) : (execOp a.eval o).run Try.prog w = .ok (.value (.pointer (some ⟨b, off + k * 14, none⟩))) w := by
  have h1 : (0 : Int) ≤ (k : Int) := by omega
  have h2 : (k : Int) < (n : Int) := by omega
  unfold execOp
  simp only [ho, hs, hi]
  obtain ⟨i0, hi0, hz0⟩ := info_size infoE
  simp [go_sem, run_underlying Try.underlying22, sizeOf, typeInfo, hi0, hz0, h1, h2, Addr.add_mid]
theorem load_bytes (x : World) (D k : Nat) (ao : Option Addr) (l c : Nat) (hc : x.cell? ⟨D, k, none⟩ = some (.slice ao l c)) : (loadVar 24 ⟨D, k, none⟩).run Try.prog x = .ok (.slice ao l c) x := by
  simp [go_sem, run_underlying Try.underlying24, hc]
theorem wp_allocV {o : Oper} {a : Act} {w : World} {K : Act → World → Prop} {Q : Exit → Act → World → Prop} (ho : o.op = .alloc 42) (h : K (a.put o.dst (.pointer (some ⟨w.heap.size, 0, none⟩))) (w.alloc (.cells Vl.nul.arr 42))) : o.wp Try.prog a w K Q := by
  obtain ⟨i0, hi0, hz0⟩ : ∃ i0, Try.prog.info? 42 = some i0 ∧ i0.zero = some (.agg Vl.nul.arr) := by
    have : (Try.prog.info? 42).map (·.zero) = some (some (.agg Vl.nul.arr)) := by kernel_rfl
    cases hh : Try.prog.info? 42 with
    | none => rw [hh] at this; cases this
    | some i0 => rw [hh] at this; exact ⟨i0, rfl, by simpa using this⟩
  unfold Oper.wp execOp
  simp [ho, go_sem, Instr.alloc, zeroValue, typeInfo, hi0, hz0, Value.cells]
  exact h
section
variable {w : World} {ops : Array Oper} {rest : List Oper} {o : Oper} {a : Act} {Q : Exit → Act → World → Prop}
theorem bs0E (hgd : Region.wanted o (yielded ops a.tmps) = true) (ho : o.op = .buildSlice 22 0 #[]) (hh : wpList Try.prog ops Q rest (a.put o.dst (.slice (some ⟨w.heap.size, 0, none⟩) 0 0)) (w.alloc (.cells #[] 59))) : wpList Try.prog ops Q (o :: rest) a w :=
  BigFrame.wpList_want hgd fun _ hK => wp_bs0g Try.underlying22 infoEz ho (hK _ _ hh)
theorem apE (hgd : Region.wanted o (yielded ops a.tmps) = true) (s x : Operand) (ho : o.op = .call { callee := .builtin .append, args := #[s, x], argTypes := #[22, 22] })
    (base : Nat) (v : Value) (xs : List En) (hs : a.eval s = v) (hown : w.ownsRow base 59 14 v xs.length (flatW DE xs))
    (vx : Value) (l : List En) (hx : a.eval x = vx) (hB : Wide 14 enC w vx l) (h63 : xs.length + l.length ≤ 1172812402927) (hbase : base ≤ w.heap.size)
    (h : ∀ v' w', w'.ownsRow base 59 14 v' (xs ++ l).length (flatW DE (xs ++ l)) → w.grownBy w' v.ownBlock → wpList Try.prog ops Q rest (a.put o.dst v') w') : wpList Try.prog ops Q (o :: rest) a w :=
  BigFrame.wpList_want hgd fun _ hK => wp_append_wide DE s x 22 59 _ 120 Try.underlying22 infoEz rfl ho base v xs hs hown vx l hx hB (by unfold maxLen; omega) (by omega) hbase fun v' w' h1 h2 => hK _ _ (h v' w' h1 h2)
end
theorem own0E (w : World) : (w.alloc (.cells #[] 59)).ownsRow w.heap.size 59 14 (.slice (some ⟨w.heap.size, 0, none⟩) 0 0) ([] : List En).length (flatW DE []) := own_empty_e w 59 14
end Go.Proofs.Ythalhidebkhclaa
namespace Go.Proofs.Ythalhidebkhclaa
open Go.RowKit Go.Proofs.Ty Go.Sort Go.Lib
set_option linter.unusedVariables false
set_option maxRecDepth 1000000
set_option linter.unusedSimpArgs false
def DV : Dec Vl := ⟨vlC, 3, by decide, fun _ => rfl, fun v u hu => by simp [vlC] at hu; rcases hu with rfl | rfl | rfl <;> rfl⟩
theorem infoVz : (Try.prog.info? 42).map (fun i => (i.zero, i.size, i.bytes)) = some (some (.agg #[.int .i64 0, .int .u64 0, .string ⟨#[]⟩]), 3, 32) := by kernel_rfl
theorem wp_bs1 {α : Type} (D : Dec α) {w : World} {o : Oper} {a : Act} {K : Act → World → Prop} {Q : Exit → Act → World → Prop} (s : α) (t e : TypeId) (z : Value) (bytes : Nat) (x : Operand) (ho : o.op = .buildSlice t 1 #[(0, x)]) (hx : a.eval x = .agg (D.dec s).toArray)
    (ht : Try.prog.underlying t = some (.slice e)) (hinfo : (Try.prog.info? e).map (fun i => (i.zero, i.size, i.bytes)) = some (some z, D.c, bytes)) (hsmall : D.c ≤ 1000)
    (h : K (a.put o.dst (.slice (some ⟨w.heap.size, 0, none⟩) 1 1)) (w.alloc (.cells (D.dec s).toArray e))) : o.wp Try.prog a w K Q := by
  obtain ⟨i0, hi, hz0, hz1, hz2⟩ := info_parts hinfo
  refine wp_buildSlice t e 1 _ ho (D.dec s).toArray i0 z ht hi hz0 (by rw [hz1]; omega) (by rw [hz1]; have := D.pos; omega) ?_ h
  rw [hz1]
  have hsz : (Value.agg (D.dec s).toArray).cells.size = D.c := by simp [Value.cells, D.len]
  have := Go.Great.fill_whole D.pos [Value.agg (D.dec s).toArray] ((Array.range (1 * D.c)).map (z.cells[· % z.cells.size]!)) (by intro v hv; simp at hv; subst hv; exact hsz) (by simp)
  simpa [hx, Value.cells] using this
theorem r8place_any (e : En) (w : World) : Calls Try.prog 31 #[.agg e.arr] w fun x w' => x = .returned (.int .i64 e.pl) ∧ Below w.heap.size w w' := by
  have h0 := Eb.new w e
  have B0 : Below w.heap.size w (w.alloc (.cells e.arr 59)) := (Below.refl _ _).alloc (Nat.le_refl _) _
  obtain ⟨c0, c1, _⟩ := h0.c
  have HX : Hid (e.pl = e.ix * 256 + e.sb) := rfl
  have h1 := e.hix
  have h2 := e.hsb
  generalize e.pl = P at *
  generalize e.ix = A at *
  generalize e.sb = B at *
  clear h0
  go_enter Try.func31, Try.ntmps31
  go_wp2
  go_ret
  exact ⟨ret_int (by rw [HX.out]; omega), B0⟩
/-- The document's dictionary at E: its entries, its values. -/
structure Rd (E : Nat) (L : List En) (vL : Value) (V : List Vl) (vV : Value) (w : World) : Prop where
  head : w.heap[E]? = some (.cells #[vL, vV] 70 (0, 0))
  rowL : RT 59 14 enC w vL L
  rowV : RT 42 3 vlC w vV V
section
variable {E : Nat} {L : List En} {vL : Value} {V : List Vl} {vV : Value} {w x : World}
theorem Rd.lt (h : Rd E L vL V vV w) : E < w.heap.size := (Array.getElem?_eq_some_iff.1 h.head).1
theorem Rd.c (h : Rd E L vL V vV w) : w.cell? ⟨E, 0, none⟩ = some vL ∧ w.cell? ⟨E, 1, none⟩ = some vV := ⟨by rw [Lib.cell_of_heap h.head]; rfl, by rw [Lib.cell_of_heap h.head]; rfl⟩
theorem Rd.below (h : Rd E L vL V vV w) (hb : Below w.heap.size w x) : Rd E L vL V vV x := ⟨(hb.block E h.lt).trans h.head, h.rowL.below hb, h.rowV.below hb⟩
theorem Rd.frozen (h : Rd E L vL V vV w) (k : Nat) : w.frozen? ⟨E, k, none⟩ = false := Lib.frozen_of_heap h.head _
theorem set_kept (w : World) (E k : Nat) (u : Value) : w.grownBy (w.setCell ⟨E, k, none⟩ u) (some E) := ⟨rfl, rfl, rfl, by simp [World.setCell], fun j hj hne => Below.heap_setCell w ⟨E, k, none⟩ u j (fun e => hne (by rw [show j = E from e]))⟩
theorem Rd.setL (h : Rd E L vL V vV w) {L' : List En} {u : Value} (hr : RT 59 14 enC w u L') : Rd E L' u V vV (w.setCell ⟨E, 0, none⟩ u) := by
  have hg := set_kept w E 0 u
  refine ⟨?_, hr.grown hg (hr.ne h.head (by decide)), h.rowV.grown hg (h.rowV.ne h.head (by decide))⟩
  have hh := h.head
  simp only [World.setCell, Array.getElem?_modify, hh]
  simp
theorem Rd.setV (h : Rd E L vL V vV w) {V' : List Vl} {u : Value} (hr : RT 42 3 vlC w u V') : Rd E L vL V' u (w.setCell ⟨E, 1, none⟩ u) := by
  have hg := set_kept w E 1 u
  refine ⟨?_, h.rowL.grown hg (h.rowL.ne h.head (by decide)), hr.grown hg (hr.ne h.head (by decide))⟩
  have hh := h.head
  simp only [World.setCell, Array.getElem?_modify, hh]
  simp
end
theorem load_ents (x : World) (D k : Nat) (ao : Option Addr) (l c : Nat) (hc : x.cell? ⟨D, k, none⟩ = some (.slice ao l c)) : (loadVar 22 ⟨D, k, none⟩).run Try.prog x = .ok (.slice ao l c) x := by
  simp [go_sem, run_underlying Try.underlying22, hc]
theorem store_ents (x : World) (D k : Nat) (u : Value) (ao : Option Addr) (l c : Nat) (hc : x.cell? ⟨D, k, none⟩ = some u) (hf : x.frozen? ⟨D, k, none⟩ = false) : (storeVar 22 ⟨D, k, none⟩ (.slice ao l c)).run Try.prog x = .ok () (x.setCell ⟨D, k, none⟩ (.slice ao l c)) := by
  simp [go_sem, run_underlying Try.underlying22, hc, hf]
theorem load_vals (x : World) (D k : Nat) (ao : Option Addr) (l c : Nat) (hc : x.cell? ⟨D, k, none⟩ = some (.slice ao l c)) : (loadVar 68 ⟨D, k, none⟩).run Try.prog x = .ok (.slice ao l c) x := by
  simp [go_sem, run_underlying Try.underlying68, hc]
theorem store_vals (x : World) (D k : Nat) (u : Value) (ao : Option Addr) (l c : Nat) (hc : x.cell? ⟨D, k, none⟩ = some u) (hf : x.frozen? ⟨D, k, none⟩ = false) : (storeVar 68 ⟨D, k, none⟩ (.slice ao l c)).run Try.prog x = .ok () (x.setCell ⟨D, k, none⟩ (.slice ao l c)) := by
  simp [go_sem, run_underlying Try.underlying68, hc, hf]
theorem wp_store_cell {o : Oper} {a : Act} {w w' : World} {K : Act → World → Prop} {Q : Exit → Act → World → Prop} (ty : TypeId) (x y : Operand) (ho : o.op = .store ty x y) (b k : Nat) (hx : a.eval x = .pointer (some ⟨b, k, none⟩)) (v : Value) (hy : a.eval y = v)
    (hr : (storeVar ty ⟨b, k, none⟩ v).run Try.prog w = .ok () w') (h : K (a.put o.dst undef) w') : o.wp Try.prog a w K Q := by
  unfold Oper.wp execOp
  simp only [ho, hx, hy, Instr.storeAt, Instr.sureAddr, Sem.run_bind, Sem.run_pure, Result.andThen_ok, hr]
  exact h
/-- The first k of a row, what is behind them. -/
theorem re_take {w : World} {v : Value} {l : List En} (h : RT 59 14 enC w v l) (k : Nat) (hk : k ≤ l.length) : ∃ v1, (∀ W, (Instr.sliceAt 22 v none (some (.int .i64 k)) none).run Try.prog W = .ok v1 W) ∧ ∀ x, Wide 14 enC x v l → Wide 14 enC x v1 (l.take k) := by
  obtain ⟨i0, hi, hz0, hz1, hz2⟩ := info_parts infoEz
  obtain ⟨ao, cap, rfl⟩ := h.wide.shape
  have hcap := h.cap _ _ _ rfl
  have a0 : (0 : Int) ≤ (k : Int) := by omega
  have a1 : (k : Int) ≤ (cap : Int) := by omega
  cases ao with
  | none =>
    obtain ⟨ao', cap', hv, h0, _⟩ := h.wide
    injection hv with e1 _ e3
    obtain ⟨rfl, rfl⟩ := h0 e1.symm
    subst e3
    have : k = 0 := by simpa using hk
    subst this
    refine ⟨.slice none 0 0, fun W => ?_, fun x hx => by simpa using hx⟩
    simp [Instr.sliceAt, run_underlying Try.underlying22, go_sem, sizeOf, typeInfo, hi, hz1, Addr.add]
  | some a =>
    refine ⟨.slice (some a) k cap, fun W => ?_, fun x hx => ?_⟩
    · simp [Instr.sliceAt, run_underlying Try.underlying22, go_sem, sizeOf, typeInfo, hi, hz1, Addr.add, a0, a1]
    · obtain ⟨ao', cap', hv, h0, hc⟩ := hx
      injection hv with e1 _ e3
      subst e1 e3
      refine ⟨_, _, by rw [List.length_take, Nat.min_eq_left hk], (fun h => by cases h), fun j hj => ?_⟩
      rw [List.length_take] at hj
      obtain ⟨b, off, e, hlt, hr⟩ := hc j (by omega)
      refine ⟨b, off, e, hlt, ?_⟩
      rw [List.getElem_take]; exact hr
theorem re_drop {w : World} {v : Value} {l : List En} (h : RT 59 14 enC w v l) (k : Nat) (hk : k ≤ l.length) : ∃ v1, (∀ W, (Instr.sliceAt 22 v (some (.int .i64 k)) none none).run Try.prog W = .ok v1 W) ∧ ∀ x, Wide 14 enC x v l → Wide 14 enC x v1 (l.drop k) := by
  obtain ⟨i0, hi, hz0, hz1, hz2⟩ := info_parts infoEz
  obtain ⟨ao, cap, rfl⟩ := h.wide.shape
  have hcap := h.cap _ _ _ rfl
  have a0 : (0 : Int) ≤ (k : Int) := by omega
  have a1 : (k : Int) ≤ (l.length : Int) := by omega
  have a2 : (l.length : Int) ≤ (cap : Int) := by omega
  cases ao with
  | none =>
    obtain ⟨ao', cap', hv, h0, _⟩ := h.wide
    injection hv with e1 _ e3
    obtain ⟨rfl, rfl⟩ := h0 e1.symm
    subst e3
    have : k = 0 := by simpa using hk
    subst this
    refine ⟨.slice none 0 0, fun W => ?_, fun x hx => by simpa using hx⟩
    simp [Instr.sliceAt, run_underlying Try.underlying22, go_sem, sizeOf, typeInfo, hi, hz1, Addr.add]
  | some a =>
    refine ⟨.slice (some (if cap = k then a else if k * 14 = 0 then a else ⟨a.block, a.off + k * 14, none⟩)) (l.length - k) (cap - k), fun W => ?_, fun x hx => ?_⟩
    · simp [Instr.sliceAt, run_underlying Try.underlying22, go_sem, sizeOf, typeInfo, hi, hz1, Addr.add, a0, a1, a2]
      split <;> rfl
    · obtain ⟨ao', cap', hv, h0, hc⟩ := hx
      injection hv with e1 _ e3
      subst e1 e3
      refine ⟨_, _, by rw [List.length_drop], (fun h => by cases h), fun j hj => ?_⟩
      rw [List.length_drop] at hj
      obtain ⟨b, off, e, hlt, hr⟩ := hc (k + j) (by omega)
      injection e with e
      subst e
      rw [if_neg (by omega)]
      by_cases hk0 : k * 14 = 0
      · rw [if_pos hk0]
        refine ⟨b, off, rfl, hlt, ?_⟩
        have : k = 0 := by omega
        subst this
        simpa using hr
      · rw [if_neg hk0]
        refine ⟨b, off + k * 14, rfl, hlt, ?_⟩
        rw [List.getElem_drop, show off + k * 14 + j * 14 = off + (k + j) * 14 by omega]
        exact hr
end Go.Proofs.Ythalhidebkhclaa
namespace Go.Proofs.Ythalhidebkhclaa
open Go.RowKit Go.Proofs.Ty Go.Sort Go.Lib
set_option linter.unusedVariables false
set_option maxRecDepth 1000000
set_option linter.unusedSimpArgs false
theorem rng_df8 {w : World} {b o : Nat} {e : En} (h : w.rangeAt b o (enC e)) : w.rangeAt b (o + 11) (vlC e.df) := by
  intro j u hj
  have : (enC e)[11 + j]? = some u := by
    match j, hj with
    | 0, hj => exact hj
    | 1, hj => exact hj
    | 2, hj => exact hj
    | j + 3, hj => simp [vlC] at hj
  have := h (11 + j) u this
  rw [← Nat.add_assoc] at this
  exact this
theorem wp_load_cell {o : Oper} {a : Act} {w : World} {K : Act → World → Prop} {Q : Exit → Act → World → Prop} (ty : TypeId) (x : Operand) (ho : o.op = .load ty x) (b k : Nat) (hx : a.eval x = .pointer (some ⟨b, k, none⟩)) (v : Value)
    (hr : (loadVar ty ⟨b, k, none⟩).run Try.prog w = .ok v w) (h : K (a.put o.dst v) w) : o.wp Try.prog a w K Q := by
  unfold Oper.wp execOp
  simp only [ho, hx, Instr.loadAt, Instr.sureAddr, Sem.run_bind, Sem.run_pure, Result.andThen_ok, hr]
  exact h
theorem own_set {w : World} {B : Nat} {e : TypeId} {c n : Nat} {v : Value} {xs : List Value} (h : w.ownsRow B e c v n xs) {E : Nat} (hE : v.ownBlock ≠ some E) (k : Nat) (u : Value) : (w.setCell ⟨E, k, none⟩ u).ownsRow B e c v n xs := by
  refine ⟨h.1, h.2.imp id ?_⟩
  rintro ⟨g, cap, cur, e1, e2, e3, e4⟩
  subst e1
  exact ⟨g, cap, cur, rfl, e2, (Below.heap_setCell w ⟨E, k, none⟩ u g (fun e => hE (by rw [← (show g = E from e)]; rfl))).trans e3, e4⟩
theorem own_ne {w : World} {B : Nat} {T c n : Nat} {v : Value} {xs : List Value} (h : w.ownsRow B T c v n xs) {E : Nat} {A : Array Value} {fr : Nat × Nat} (hE : w.heap[E]? = some (.cells A 70 fr)) (ht : T ≠ 70 := by decide) : v.ownBlock ≠ some E := fun e => by
  obtain ⟨_, cur, h1⟩ := own_of h e
  rw [hE] at h1
  simp at h1
  exact ht h1.2.1.symm
theorem Rd.put {E : Nat} {L : List En} {vL u0 : Value} {V' : List Vl} {u : Value} {w : World} (hh : w.heap[E]? = some (.cells #[vL, u0] 70 (0, 0))) (hL : RT 59 14 enC w vL L) (hr : RT 42 3 vlC w u V') : Rd E L vL V' u (w.setCell ⟨E, 1, none⟩ u) := by
  have hg := set_kept w E 1 u
  refine ⟨?_, hL.grown hg (hL.ne hh (by decide)), hr.grown hg (hr.ne hh (by decide))⟩
  simp only [World.setCell, Array.getElem?_modify, hh]
  simp
theorem rt_rng {E lb lo cL k : Nat} {L : List En} {w : World} (h : RT 59 14 enC w (.slice (some ⟨lb, lo, none⟩) L.length cL) L) (hk : k < L.length) : w.rangeAt lb (lo + k * 14) (enC L[k]) := by
  obtain ⟨b', o', c', hv', _, hR'⟩ := h.wide.at0 k hk
  injection hv' with e1 _ _
  injection e1 with e1
  injection e1 with e1 e2 _
  subst e1 e2
  exact hR'
theorem ownV_nil (w : World) (B : Nat) : w.ownsRow B 42 3 (.slice none 0 0) (([] : List Vl)).length (flatW DV []) := ⟨rfl, .inl ⟨rfl, rfl⟩⟩
set_option maxHeartbeats 8000000 in
theorem QReset_any {E : Nat} {L : List En} {vL : Value} {V : List Vl} {vV : Value} {w : World} (h : Rd E L vL V vV w) (hl : L.length ≤ 1024) :
    Calls Try.prog 32 #[.pointer (some ⟨E, 0, none⟩)] w fun e w' => e = .returned (.tuple #[]) ∧ ∃ vV', Rd E L vL (L.map En.df) vV' w' ∧ w'.ownsRow w.heap.size 42 3 vV' (L.map En.df).length (flatW DV (L.map En.df)) ∧ w.grownBy w' (some E) := by
  obtain ⟨aL, cL, rfl⟩ := h.rowL.wide.shape
  have c1 := h.c.2
  have f1 := h.frozen 1
  have h1 := h.setV (RT.nil 42 3 vlC w)
  have HR0 := hidOf2 h1
  have HP0 := hidOf2 (ownV_nil (w.setCell ⟨E, 1, none⟩ (.slice none 0 0)) w.heap.size)
  have HG0 := hidOf2 (set_kept w E 1 (.slice none 0 0))
  have hElt := h.lt
  have k0 := h1.c.1
  clear h h1
  go_enter Try.func32, Try.ntmps32
  go_wp2
  generalize w.setCell ⟨E, 1, none⟩ (.slice none 0 0) = w1 at *
  go_loopw [2] (fun i x => ∃ (k : Nat) (vV : Value), k ≤ L.length ∧ i = .int .i64 k ∧ Hid (Rd E L (.slice aL L.length cL) ((L.take k).map En.df) vV x) ∧ Hid (x.ownsRow w.heap.size 42 3 vV ((L.take k).map En.df).length (flatW DV ((L.take k).map En.df))) ∧ Hid (w.grownBy x (some E))) (fun i _ => L.length - (intOf i).toNat)
  case atStart => exact ⟨0, _, Nat.zero_le _, rfl, HR0, HP0, HG0⟩
  case round =>
    clear HR0 HP0 HG0 k0
    obtain ⟨k, vV, hk, rfl, HR, HP, HG⟩ := hrel
    have c0 := HR.out.c.1
    by_cases hkl : k < L.length
    · obtain ⟨lb, lo, lc, hv, hlb, hRj⟩ := HR.out.rowL.wide.at0 k hkl
      injection hv with hv1 _ hv3
      subst hv1
      subst hv3
      have HT := hidOf2 (show (L.take (k + 1)).map En.df = (L.take k).map En.df ++ [L[k].df] by rw [List.take_succ_eq_append_getElem hkl, List.map_append]; rfl)
      have hrX := rng_df8 hRj
      obtain ⟨X, hX⟩ : ∃ X, L[k].df = X := ⟨_, rfl⟩
      rw [hX] at hrX HT
      have hVL : ((L.take k).map En.df).length ≤ 1024 := by simp; omega
      obtain ⟨aV, cV, hvV⟩ := own_shape5 HP.out
      obtain ⟨nV, hnV⟩ : ∃ n, ((L.take k).map En.df).length = n := ⟨_, rfl⟩
      rw [hnV] at hvV
      subst hvV
      have b0 : Below wr.heap.size wr wr.drew := bdr (Below.refl _ _) 1
      have bA : Below wr.heap.size wr (wr.drew.alloc (.cells (vlC X).toArray 42)) := b0.alloc b0.size _
      have SS : Hid (∀ x, Below wr.heap.size wr x → x.cell? ⟨E, 0, none⟩ = some (.slice (some ⟨lb, lo, none⟩) L.length cL) ∧ x.rangeAt lb (lo + k * 14 + 11) (vlC X)) := fun x hb => ⟨(HR.out.below hb).c.1, rng_below hrX hb hlb⟩
      have SV : Hid (∀ x, Below wr.heap.size wr x → x.cell? ⟨E, 1, none⟩ = some (.slice aV nV cV)) := fun x hb => (HR.out.below hb).c.2
      have SSR : ∀ x, RT 59 14 enC x (.slice (some ⟨lb, lo, none⟩) L.length cL) L → x.rangeAt lb (lo + k * 14 + 11) (vlC X) := fun x hx => hX ▸ rng_df8 (rt_rng (E := E) hx hkl)
      have SSE : Hid (∀ (V' : List Vl) (u : Value) (x : World), Rd E L (.slice (some ⟨lb, lo, none⟩) L.length cL) V' u x → x.cell? ⟨E, 0, none⟩ = some (.slice (some ⟨lb, lo, none⟩) L.length cL) ∧ x.rangeAt lb (lo + k * 14 + 11) (vlC X)) := fun V' u x hx => ⟨hx.c.1, SSR x hx.rowL⟩
      have PA := ownsRow_alloc (own_drew HP.out) (.cells (vlC X).toArray 42)
      have RA := HR.out.below bA
      have SSV : Hid (∀ y, (wr.drew.alloc (.cells (vlC X).toArray 42)).grownBy y (Value.slice aV nV cV).ownBlock → y.heap[E]? = some (.cells #[.slice (some ⟨lb, lo, none⟩) L.length cL, .slice aV nV cV] 70 (0, 0)) ∧ RT 59 14 enC y (.slice (some ⟨lb, lo, none⟩) L.length cL) L ∧ y.cell? ⟨E, 0, none⟩ = some (.slice (some ⟨lb, lo, none⟩) L.length cL) ∧ y.rangeAt lb (lo + k * 14 + 11) (vlC X)) := fun y G => by
        have hd := (G.block E RA.lt (fun e => (own_ne PA RA.head (by decide)) e.symm)).trans RA.head
        have hr : RT 59 14 enC y (.slice (some ⟨lb, lo, none⟩) L.length cL) L := RA.rowL.same G.size (fun b A fr _ h1 => G.block b (Array.getElem?_eq_some_iff.1 h1).1 (fun e => by
          obtain ⟨_, cur, h2⟩ := own_of PA e.symm
          rw [h1] at h2
          simp at h2))
        exact ⟨hd, hr, by rw [Lib.cell_of_heap hd]; rfl, SSR y hr⟩
      have HGY : Hid (∀ y, (wr.drew.alloc (.cells (vlC X).toArray 42)).grownBy y (Value.slice aV nV cV).ownBlock → w.grownBy y (some E)) := fun y G =>
        ⟨G.os.trans (bA.os.trans HG.out.os), G.tape.trans (bA.tape.trans HG.out.tape), G.output.trans (bA.output.trans HG.out.output), Nat.le_trans HG.out.size (Nat.le_trans bA.size G.size), fun j hj hne =>
          (G.block j (Nat.lt_of_lt_of_le hj (Nat.le_trans HG.out.size bA.size)) (fun e => by have := own_lt HP.out j e.symm; omega)).trans ((bA.block j (Nat.lt_of_lt_of_le hj HG.out.size)).trans (HG.out.block j hj hne))⟩
      have S0 := SS.out _ b0
      clear PA RA SSR bA hrX hRj hX
      go_upto_region 4 with fail
      clear c0
      refine wp_region_held (S := fun x => x.cell? ⟨E, 0, none⟩ = some (.slice (some ⟨lb, lo, none⟩) L.length cL) ∧ x.rangeAt lb (lo + k * 14 + 11) (vlC X)) (by kernel_rfl) ?_
      change wpAnyH _ _ _ _ _ _ _ _ wr.drew
      refine wpAnyH_take (i := 0) (v := (.pointer (some ⟨E, 0, none⟩))) rfl (by kernel_rfl) (by kernel_rfl) (by kernel_rfl) (fun _ _ _ h => h) (.inl ⟨rfl, fun _ hS => rfl⟩) S0 ?_
      simp only [List.getElem_toArray, List.getElem_cons_succ, List.getElem_cons_zero, Act.put, List.setIfInBounds_toArray, List.set_cons_succ, List.set_cons_zero]
      refine wpAnyH_take (i := 1) (v := (.pointer (some ⟨E, 0, none⟩))) rfl (by kernel_rfl) (by kernel_rfl) (by kernel_rfl) (fun _ _ _ h => h) (.inl ⟨rfl, fun _ hS => rfl⟩) S0 ?_
      simp only [List.getElem_toArray, List.getElem_cons_succ, List.getElem_cons_zero, Act.put, List.setIfInBounds_toArray, List.set_cons_succ, List.set_cons_zero]
      refine wpAnyH_take (i := 2) (v := (.pointer (some ⟨E, 0, none⟩))) rfl (by kernel_rfl) (by kernel_rfl) (by kernel_rfl) (fun _ _ _ h => h) (.inl ⟨rfl, fun _ hS => by simp [execOp, go_sem, Act.eval]⟩) S0 ?_
      simp only [List.getElem_toArray, List.getElem_cons_succ, List.getElem_cons_zero, Act.put, List.setIfInBounds_toArray, List.set_cons_succ, List.set_cons_zero]
      refine wpAnyH_take (i := 3) (v := (.pointer (some ⟨E, 1, none⟩))) rfl (by kernel_rfl) (by kernel_rfl) (by kernel_rfl) (fun _ _ _ h => h) (.inl ⟨rfl, fun _ hS => by simp [execOp, go_sem, Act.eval]⟩) S0 ?_
      simp only [List.getElem_toArray, List.getElem_cons_succ, List.getElem_cons_zero, Act.put, List.setIfInBounds_toArray, List.set_cons_succ, List.set_cons_zero]
      refine wpAnyH_take (i := 5) (v := (.pointer (some ⟨E, 0, none⟩))) rfl (by kernel_rfl) (by kernel_rfl) (by kernel_rfl) (fun _ _ _ h => h) (.inl ⟨rfl, fun _ hS => rfl⟩) S0 ?_
      simp only [List.getElem_toArray, List.getElem_cons_succ, List.getElem_cons_zero, Act.put, List.setIfInBounds_toArray, List.set_cons_succ, List.set_cons_zero]
      refine wpAnyH_take (i := 6) (v := (.pointer (some ⟨E, 0, none⟩))) rfl (by kernel_rfl) (by kernel_rfl) (by kernel_rfl) (fun _ _ _ h => h) (.inl ⟨rfl, fun _ hS => by simp [execOp, go_sem, Act.eval]⟩) S0 ?_
      simp only [List.getElem_toArray, List.getElem_cons_succ, List.getElem_cons_zero, Act.put, List.setIfInBounds_toArray, List.set_cons_succ, List.set_cons_zero]
      refine wpAnyH_take (i := 7) (v := (.pointer (some ⟨E, 0, none⟩))) rfl (by kernel_rfl) (by kernel_rfl) (by kernel_rfl) (fun _ _ _ h => h) (.inl ⟨rfl, fun _ hS => by simp [execOp, go_sem, Act.eval]⟩) S0 ?_
      simp only [List.getElem_toArray, List.getElem_cons_succ, List.getElem_cons_zero, Act.put, List.setIfInBounds_toArray, List.set_cons_succ, List.set_cons_zero]
      refine wpAnyH_take (i := 8) (v := (.slice (some ⟨lb, lo, none⟩) L.length cL)) rfl (by kernel_rfl) (by kernel_rfl) (by kernel_rfl) (fun _ _ _ h => h) (.inl ⟨rfl, fun _ hS => exec_load rfl rfl (load_ents _ _ _ _ _ _ hS.1)⟩) S0 ?_
      simp only [List.getElem_toArray, List.getElem_cons_succ, List.getElem_cons_zero, Act.put, List.setIfInBounds_toArray, List.set_cons_succ, List.set_cons_zero]
      refine wpAnyH_take (i := 9) (v := (.int .i64 (k : Int))) rfl (by kernel_rfl) (by kernel_rfl) (by kernel_rfl) (fun _ _ _ h => h) (.inl ⟨rfl, fun _ hS => rfl⟩) S0 ?_
      simp only [List.getElem_toArray, List.getElem_cons_succ, List.getElem_cons_zero, Act.put, List.setIfInBounds_toArray, List.set_cons_succ, List.set_cons_zero]
      refine wpAnyH_take (i := 10) (v := (.pointer (some ⟨lb, lo + k * 14, none⟩))) rfl (by kernel_rfl) (by kernel_rfl) (by kernel_rfl) (fun _ _ _ h => h) (.inl ⟨rfl, fun _ hS => exec_idxE rfl rfl rfl hkl _⟩) S0 ?_
      simp only [List.getElem_toArray, List.getElem_cons_succ, List.getElem_cons_zero, Act.put, List.setIfInBounds_toArray, List.set_cons_succ, List.set_cons_zero]
      refine wpAnyH_take (i := 11) (v := (.pointer (some ⟨lb, lo + k * 14 + 11, none⟩))) rfl (by kernel_rfl) (by kernel_rfl) (by kernel_rfl) (fun _ _ _ h => h) (.inl ⟨rfl, fun _ hS => by simp [execOp, go_sem, Act.eval]⟩) S0 ?_
      simp only [List.getElem_toArray, List.getElem_cons_succ, List.getElem_cons_zero, Act.put, List.setIfInBounds_toArray, List.set_cons_succ, List.set_cons_zero]
      refine wpAnyH_take (i := 12) (v := (.agg X.arr)) rfl (by kernel_rfl) (by kernel_rfl) (by kernel_rfl) (fun _ _ _ h => h) (.inl ⟨rfl, fun _ hS => exec_load rfl rfl (run_ldV hS.2)⟩) S0 ?_
      simp only [List.getElem_toArray, List.getElem_cons_succ, List.getElem_cons_zero, Act.put, List.setIfInBounds_toArray, List.set_cons_succ, List.set_cons_zero]
      refine wpAnyH_all (rs := [4, 13]) (by kernel_rfl) (by simp) ?_
      intro k hk
      simp only [List.mem_cons, List.mem_nil_iff, or_false] at hk
      rcases hk with rfl | rfl
      · refine wpOp_run rfl rfl (wp_load_cell 68 _ rfl E 1 rfl (.slice aV nV cV) (load_vals _ E 1 _ _ _ (SV.out _ b0)) ?_)
        refine ⟨S0, ?_⟩
        simp only [List.getElem_toArray, List.getElem_cons_succ, List.getElem_cons_zero, Act.put, List.setIfInBounds_toArray, List.set_cons_succ, List.set_cons_zero]
        refine wpAnyH_all (rs := [13]) (by kernel_rfl) (by simp) ?_
        intro k hk
        simp only [List.mem_cons, List.mem_nil_iff, or_false] at hk
        subst hk
        refine wpOp_run rfl rfl (wp_bs1 DV X 68 42 _ 32 _ rfl rfl Try.underlying68 infoVz (by decide) ?_)
        have b1 := b0.alloc b0.size (.cells (vlC X).toArray 42)
        have Q1 := wide_new DV wr.drew X 42
        have P1 := ownsRow_alloc (own_drew HP.out) (.cells (vlC X).toArray 42)
        refine ⟨(SS.out _ b1), ?_⟩
        simp only [List.getElem_toArray, List.getElem_cons_succ, List.getElem_cons_zero, Act.put, List.setIfInBounds_toArray, List.set_cons_succ, List.set_cons_zero]
        refine wpAnyH_all (rs := [14]) (by kernel_rfl) (by simp) ?_
        intro k hk
        simp only [List.mem_cons, List.mem_nil_iff, or_false] at hk
        subst hk
        refine wpOp_run rfl rfl (wp_append_wide DV _ _ 68 42 _ 32 Try.underlying68 infoVz rfl rfl w.heap.size _ ((L.take k).map En.df) rfl P1 _ [X] rfl Q1 (by unfold maxLen; simp; omega) (by simp; omega) (Nat.le_trans HG.out.size b1.size) ?_)
        intro vY wY PY GY
        obtain ⟨hY, rY, eY⟩ := SSV.out wY GY
        obtain ⟨aY, cpY, hvY⟩ := own_shape5 PY
        obtain ⟨nY, hnY⟩ : ∃ n, ((L.take k).map En.df ++ [X]).length = n := ⟨_, rfl⟩
        rw [hnY] at hvY
        subst hvY
        refine ⟨eY, ?_⟩
        simp only [List.getElem_toArray, List.getElem_cons_succ, List.getElem_cons_zero, Act.put, List.setIfInBounds_toArray, List.set_cons_succ, List.set_cons_zero]
        refine wpAnyH_take (i := 15) (v := (.pointer (some ⟨E, 0, none⟩))) rfl (by kernel_rfl) (by kernel_rfl) (by kernel_rfl) (fun _ _ _ h => h) (.inl ⟨rfl, fun _ hS => by simp [execOp, go_sem, Act.eval]⟩) eY ?_
        simp only [List.getElem_toArray, List.getElem_cons_succ, List.getElem_cons_zero, Act.put, List.setIfInBounds_toArray, List.set_cons_succ, List.set_cons_zero]
        refine wpAnyH_take (i := 16) (v := (.pointer (some ⟨E, 1, none⟩))) rfl (by kernel_rfl) (by kernel_rfl) (by kernel_rfl) (fun _ _ _ h => h) (.inl ⟨rfl, fun _ hS => by simp [execOp, go_sem, Act.eval]⟩) eY ?_
        simp only [List.getElem_toArray, List.getElem_cons_succ, List.getElem_cons_zero, Act.put, List.setIfInBounds_toArray, List.set_cons_succ, List.set_cons_zero]
        refine wpAnyH_all (rs := [17]) (by kernel_rfl) (by simp) ?_
        intro k hk
        simp only [List.mem_cons, List.mem_nil_iff, or_false] at hk
        subst hk
        refine wpOp_run rfl rfl (wp_store_cell 68 _ _ rfl E 1 rfl _ rfl (store_vals wY E 1 (.slice aV nV cV) aY _ cpY (by rw [Lib.cell_of_heap hY]; rfl) (Lib.frozen_of_heap hY 1)) ?_)
        have RN := Rd.put hY rY (RT.own DV PY)
        have sN := (SSE.out _ _ _ RN)
        refine ⟨sN, ?_⟩
        simp only [List.getElem_toArray, List.getElem_cons_succ, List.getElem_cons_zero, Act.put, List.setIfInBounds_toArray, List.set_cons_succ, List.set_cons_zero]
        refine wpAnyH_done (by kernel_rfl) ?_ _
        have HRN := hidOf2 RN
        have HPN := hidOf2 (own_set PY (own_ne PY hY (by decide)) 1 (.slice aY nY cpY))
        have HGN := hidOf2 (grown_trans (HGY.out wY GY) (set_kept wY E 1 (.slice aY nY cpY)))
        clear RN sN hY rY eY PY GY P1 Q1 b1 SS SV SSV SSE S0 HGY HP HG HR
        generalize wY.setCell ⟨E, 1, none⟩ (.slice aY nY cpY) = wz at *
        go_wp2
        go_roundw
        case rel => exact ⟨k + 1, _, by omega, by go_num, by rw [HT.out]; exact HRN, by rw [HT.out]; exact HPN, HGN⟩
        case measure => simp [intOf]; omega
      · refine wpOp_run rfl rfl (wp_bs1 DV X 68 42 _ 32 _ rfl rfl Try.underlying68 infoVz (by decide) ?_)
        have b1 := b0.alloc b0.size (.cells (vlC X).toArray 42)
        have Q1 := wide_new DV wr.drew X 42
        have P1 := ownsRow_alloc (own_drew HP.out) (.cells (vlC X).toArray 42)
        refine ⟨(SS.out _ b1), ?_⟩
        simp only [List.getElem_toArray, List.getElem_cons_succ, List.getElem_cons_zero, Act.put, List.setIfInBounds_toArray, List.set_cons_succ, List.set_cons_zero]
        refine wpAnyH_all (rs := [4]) (by kernel_rfl) (by simp) ?_
        intro k hk
        simp only [List.mem_cons, List.mem_nil_iff, or_false] at hk
        subst hk
        refine wpOp_run rfl rfl (wp_load_cell 68 _ rfl E 1 rfl (.slice aV nV cV) (load_vals _ E 1 _ _ _ (SV.out _ b1)) ?_)
        refine ⟨(SS.out _ b1), ?_⟩
        simp only [List.getElem_toArray, List.getElem_cons_succ, List.getElem_cons_zero, Act.put, List.setIfInBounds_toArray, List.set_cons_succ, List.set_cons_zero]
        refine wpAnyH_all (rs := [14]) (by kernel_rfl) (by simp) ?_
        intro k hk
        simp only [List.mem_cons, List.mem_nil_iff, or_false] at hk
        subst hk
        refine wpOp_run rfl rfl (wp_append_wide DV _ _ 68 42 _ 32 Try.underlying68 infoVz rfl rfl w.heap.size _ ((L.take k).map En.df) rfl P1 _ [X] rfl Q1 (by unfold maxLen; simp; omega) (by simp; omega) (Nat.le_trans HG.out.size b1.size) ?_)
        intro vY wY PY GY
        obtain ⟨hY, rY, eY⟩ := SSV.out wY GY
        obtain ⟨aY, cpY, hvY⟩ := own_shape5 PY
        obtain ⟨nY, hnY⟩ : ∃ n, ((L.take k).map En.df ++ [X]).length = n := ⟨_, rfl⟩
        rw [hnY] at hvY
        subst hvY
        refine ⟨eY, ?_⟩
        simp only [List.getElem_toArray, List.getElem_cons_succ, List.getElem_cons_zero, Act.put, List.setIfInBounds_toArray, List.set_cons_succ, List.set_cons_zero]
        refine wpAnyH_take (i := 15) (v := (.pointer (some ⟨E, 0, none⟩))) rfl (by kernel_rfl) (by kernel_rfl) (by kernel_rfl) (fun _ _ _ h => h) (.inl ⟨rfl, fun _ hS => by simp [execOp, go_sem, Act.eval]⟩) eY ?_
        simp only [List.getElem_toArray, List.getElem_cons_succ, List.getElem_cons_zero, Act.put, List.setIfInBounds_toArray, List.set_cons_succ, List.set_cons_zero]
        refine wpAnyH_take (i := 16) (v := (.pointer (some ⟨E, 1, none⟩))) rfl (by kernel_rfl) (by kernel_rfl) (by kernel_rfl) (fun _ _ _ h => h) (.inl ⟨rfl, fun _ hS => by simp [execOp, go_sem, Act.eval]⟩) eY ?_
        simp only [List.getElem_toArray, List.getElem_cons_succ, List.getElem_cons_zero, Act.put, List.setIfInBounds_toArray, List.set_cons_succ, List.set_cons_zero]
        refine wpAnyH_all (rs := [17]) (by kernel_rfl) (by simp) ?_
        intro k hk
        simp only [List.mem_cons, List.mem_nil_iff, or_false] at hk
        subst hk
        refine wpOp_run rfl rfl (wp_store_cell 68 _ _ rfl E 1 rfl _ rfl (store_vals wY E 1 (.slice aV nV cV) aY _ cpY (by rw [Lib.cell_of_heap hY]; rfl) (Lib.frozen_of_heap hY 1)) ?_)
        have RN := Rd.put hY rY (RT.own DV PY)
        have sN := (SSE.out _ _ _ RN)
        refine ⟨sN, ?_⟩
        simp only [List.getElem_toArray, List.getElem_cons_succ, List.getElem_cons_zero, Act.put, List.setIfInBounds_toArray, List.set_cons_succ, List.set_cons_zero]
        refine wpAnyH_done (by kernel_rfl) ?_ _
        have HRN := hidOf2 RN
        have HPN := hidOf2 (own_set PY (own_ne PY hY (by decide)) 1 (.slice aY nY cpY))
        have HGN := hidOf2 (grown_trans (HGY.out wY GY) (set_kept wY E 1 (.slice aY nY cpY)))
        clear RN sN hY rY eY PY GY P1 Q1 b1 SS SV SSV SSE S0 HGY HP HG HR
        generalize wY.setCell ⟨E, 1, none⟩ (.slice aY nY cpY) = wz at *
        go_wp2
        go_roundw
        case rel => exact ⟨k + 1, _, by omega, by go_num, by rw [HT.out]; exact HRN, by rw [HT.out]; exact HPN, HGN⟩
        case measure => simp [intOf]; omega
    · have e1 : k = L.length := by omega
      subst e1
      rw [List.take_length] at HR HP
      have HR2 := hidOf2 HR.out
      have HP2 := hidOf2 HP.out
      clear HR HP
      go_wp2
      go_end0
      exact ⟨rfl, _, HR2.out, HP2.out, HG.out⟩
end Go.Proofs.Ythalhidebkhclaa
namespace Go.Proofs.Ythalhidebkhclaa
open Go.RowKit Go.Proofs.Ty Go.Sort Go.Lib
set_option linter.unusedVariables false
set_option maxRecDepth 1000000
set_option linter.unusedSimpArgs false
theorem wide_alloc {c : Nat} {α : Type} {dec : α → List Value} {w : World} {v : Value} {l : List α} (h : Wide c dec w v l) (o : Obj) : Wide c dec (w.alloc o) v l :=
  h.same (by rw [size_alloc]; omega) (fun b _ hl => Lib.alloc_old w o b hl)
/-- An entry put among others by its place. -/
def insP : List En → En → List En
  | [], x => [x]
  | y :: r, x => if y.pl < x.pl then y :: insP r x else x :: y :: r
def insL : List En → List En → List En
  | acc, [] => acc
  | acc, e :: r => insL (insP acc e.plain) r
theorem insP_len (L : List En) (x : En) : (insP L x).length = L.length + 1 := by
  induction L with
  | nil => rfl
  | cons y r ih =>
    rw [insP]
    split
    · rw [List.length_cons, ih, List.length_cons]
    · simp
theorem insL_len (acc l : List En) : (insL acc l).length = acc.length + l.length := by
  induction l generalizing acc with
  | nil => rfl
  | cons e r ih => rw [insL, ih, insP_len, List.length_cons]; omega
theorem insL_snoc (acc l : List En) (e : En) : insL acc (l ++ [e]) = insP (insL acc l) e.plain := by
  induction l generalizing acc with
  | nil => rfl
  | cons x r ih => rw [List.cons_append, insL, insL, ih]
theorem ins_at (L : List En) (x : En) (j : Nat) (hj : j ≤ L.length) (h1 : ∀ m (hm : m < L.length), m < j → L[m].pl < x.pl) (h2 : ∀ (hm : j < L.length), ¬ L[j].pl < x.pl) : insP L x = L.take j ++ [x] ++ L.drop j := by
  induction L generalizing j with
  | nil =>
    obtain rfl : j = 0 := by simpa using hj
    rfl
  | cons y r ih =>
    match j, hj with
    | 0, _ =>
      have := h2 (by simp)
      rw [insP, if_neg (by simpa using this)]
      rfl
    | j + 1, hj =>
      have := h1 0 (by simp) (by omega)
      rw [insP, if_pos (by simpa using this), ih j (by simpa using hj) (fun m hm h => by have := h1 (m + 1) (by simpa using hm) (by omega); simpa using this) (fun hm => by have := h2 (by simpa using hm); simpa using this)]
      simp
set_option maxHeartbeats 16000000 in
theorem r8New_any (v : Value) (l : List En) (w : World) (hW : Wide 14 enC w v l) (hn : l.length ≤ 4000000000000) :
    Calls Try.prog 16 #[v] w fun x w' => Below w.heap.size w w' ∧ (chkL l ≠ 0 → x = .returned (.tuple #[.pointer none, .int .i64 (chkL l)])) ∧ (chkL l = 0 → ∃ E vL vV, x = .returned (.tuple #[.pointer (some ⟨E, 0, none⟩), .int .i64 0]) ∧ w.heap.size ≤ E ∧ Rd E (insL [] l) vL ((insL [] l).map En.df) vV w') := by
  have hC := r8Check_any v l w hW hn
  obtain ⟨ao, cp, rfl, _, hc0⟩ := hW
  have HC : Hid (∀ (wr : World), Below w.heap.size w wr → ∀ k (hk : k < l.length), ∃ b off, ao = some ⟨b, off, none⟩ ∧ b < w.heap.size ∧ wr.rangeAt b (off + k * 14) (enC l[k])) := fun wr hb k hk => Wide.at hc0 hb k hk
  clear hc0
  by_cases hc : chkL l = 0
  · have hl := (chkL_ok hc).1
    rw [hc] at hC ⊢
    clear hc
    go_enter Try.func16, Try.ntmps16
    go_wp2_with fail
    refine hC.mono ?_
    rintro x w1 ⟨rfl, b1⟩
    clear hC
    obtain ⟨E, hE⟩ : ∃ E, w1.heap.size = E := ⟨_, rfl⟩
    have hEw : w.heap.size ≤ E := by rw [← hE]; exact b1.size
    have R0 : Rd E [] (.slice none 0 0) [] (.slice none 0 0) (w1.alloc (.cells #[.slice none 0 0, .slice none 0 0] 70)) := ⟨by rw [← hE]; exact heap_alloc_new _ _, RT.nil _ _ _ _, RT.nil _ _ _ _⟩
    have B0 := b1.alloc b1.size (.cells #[.slice none 0 0, .slice none 0 0] 70)
    have HR0 := hidOf2 R0
    have HB0 := hidOf2 B0
    clear R0 B0 b1
    go_wp2
    go_loopw [6] (fun i x => ∃ (k : Nat) (vL : Value), k ≤ l.length ∧ i = .int .i64 k ∧ Hid (Rd E (insL [] (l.take k)) vL [] (.slice none 0 0) x) ∧ Hid (Below w.heap.size w x)) (fun i _ => l.length - (intOf i).toNat)
    case atStart => exact ⟨0, _, Nat.zero_le _, rfl, HR0, HB0⟩
    case round =>
      clear HR0 HB0
      obtain ⟨k, vL, hk, rfl, HR, HB⟩ := hrel
      by_cases hkl : k < l.length
      · obtain ⟨b, off, rfl, hb, hR⟩ := HC.out wr HB.out k hkl
        have HI := hidOf2 (show insL [] (l.take (k + 1)) = insP (insL [] (l.take k)) l[k].plain by rw [List.take_succ_eq_append_getElem hkl, insL_snoc])
        have hLk : (insL [] (l.take k)).length ≤ 1024 := by rw [insL_len, List.length_take]; simp; omega
        generalize l[k] = e at *
        generalize insL [] (l.take k) = L at *
        obtain ⟨aL, cL, rfl⟩ := HR.out.rowL.wide.shape
        obtain ⟨q, hq⟩ : ∃ q, wr.heap.size = q := ⟨_, rfl⟩
        have hh : (wr.alloc (.cells #[.int .u16 0, .int .u8 0, .int .i64 0, .bool false, .bool false, .int .i64 0, .int .u64 0, .string ⟨#[]⟩, .int .i64 0, .int .u64 0, .string ⟨#[]⟩, .int .i64 0, .int .u64 0, .string ⟨#[]⟩] 59)).heap[q]? = some (.cells #[.int .u16 0, .int .u8 0, .int .i64 0, .bool false, .bool false, .int .i64 0, .int .u64 0, .string ⟨#[]⟩, .int .i64 0, .int .u64 0, .string ⟨#[]⟩, .int .i64 0, .int .u64 0, .string ⟨#[]⟩] 59 (0, 0)) := by rw [← hq]; exact heap_alloc_new _ _
        have hE1 := Eb.row hh e
        have BA : Below wr.heap.size wr (wr.alloc (.cells #[.int .u16 0, .int .u8 0, .int .i64 0, .bool false, .bool false, .int .i64 0, .int .u64 0, .string ⟨#[]⟩, .int .i64 0, .int .u64 0, .string ⟨#[]⟩, .int .i64 0, .int .u64 0, .string ⟨#[]⟩] 59)) := (Below.refl _ _).alloc (Nat.le_refl _) _
        have BB := below_row BA (by rw [← hq]; exact Nat.le_refl _) (by rw [size_alloc]; omega) (q := q) e.arr
        go_upto_region 9 with (first | (refine ldE hR rfl _ rfl rfl ?_) | (refine sdE hh rfl e rfl _ _ rfl rfl rfl ?_))
        try simp only [hq]
        generalize ((wr.alloc (.cells #[.int .u16 0, .int .u8 0, .int .i64 0, .bool false, .bool false, .int .i64 0, .int .u64 0, .string ⟨#[]⟩, .int .i64 0, .int .u64 0, .string ⟨#[]⟩, .int .i64 0, .int .u64 0, .string ⟨#[]⟩] 59)).setRow q e.arr) = W1 at *
        clear hh BA hR hb
        have r1 := hE1.r11
        have hPl := r7Plain_v e.df W1
        go_wp2_with (first | (refine ldV r1 rfl _ rfl rfl ?_))
        refine hPl.mono ?_
        rintro x w2 ⟨rfl, b2⟩
        have hE2 := hE1.below b2
        have BC := BB.trans (b2.mono BB.size)
        clear hE1 b2 r1 hPl BB
        have ht := hE2.there
        have hE3 := hE2.setdf
        have BD : Below wr.heap.size wr (w2.setCells q 11 (vlC e.plain.df)) := BC.grown (setCells_kept w2 q 11 _) BC.size (fun j hj => by cases hj; omega)
        go_wp2_with (first | (refine sdV ht e.plain.df rfl _ _ rfl rfl rfl ?_))
        generalize (w2.setCells q 11 (vlC e.plain.df)) = W3 at *
        have HRW : Hid (∀ x, Below W3.heap.size W3 x → Rd E L (.slice aL L.length cL) [] (.slice none 0 0) x ∧ Eb q e.plain x ∧ Below w.heap.size w x) := fun x hb => ⟨(HR.out.below BD).below hb, hE3.below hb, (HB.out.trans (BD.mono HB.out.size)).trans (hb.mono (Nat.le_trans HB.out.size BD.size))⟩
        generalize e.plain = X at *
        clear hE2 hE3 BC BD ht HR HB
        simp only [Act.put]
        go_loopw [8] (fun i x => ∃ j : Nat, j ≤ L.length ∧ i = .int .i64 j ∧ Hid (∀ m (hm : m < L.length), m < j → L[m].pl < X.pl) ∧ Hid (Below W3.heap.size W3 x)) (fun i _ => L.length - (intOf i).toNat)
        case atStart => exact ⟨0, Nat.zero_le _, rfl, fun m _ h => by omega, Below.refl _ _⟩
        case round =>
          obtain ⟨j, hj, rfl, HJ, HBx⟩ := hrel
          obtain ⟨RX, EX, BX⟩ := HRW.out wr HBx.out
          have k0 : ∀ x : Later wr, x.now.cell? ⟨E, 0, none⟩ = some (.slice aL L.length cL) := fun x => (RX.below x.below).c.1
          have hLw := Later.some wr
          by_cases hjl : j < L.length
          · obtain ⟨lb, lo, lc, hv, hlb, hRj⟩ := RX.rowL.wide.at0 j hjl
            injection hv with hv1 _ hv3
            subst hv1
            subst hv3
            have hp1 := r8place_any L[j]
            have hp2 := r8place_any X
            have rX := EX.r0
            have lX := EX.lt
            have HJ1 : Hid (L[j].pl < X.pl → ∀ m (hm : m < L.length), m < j + 1 → L[m].pl < X.pl) := fun h m hm h1 => by
              rcases Nat.lt_or_ge m j with h3 | h3
              · exact HJ.out m hm h3
              · have : m = j := by omega
                subst this; exact h
            have HJ2 : Hid (¬ L[j].pl < X.pl → insP L X = L.take j ++ [X] ++ L.drop j) := fun h => ins_at L X j hj HJ.out (fun _ => h)
            generalize L[j] = Y at *
            clear HJ
            by_cases hlt : Y.pl < X.pl
            · have d1 : decide ((Y.pl : Int) < (X.pl : Int)) = true := by simp; omega
              have HJ3 := hidOf2 (HJ1.out hlt)
              clear HJ1 HJ2
              go_upto_region 10 with fail
              refine wp_region_later (by kernel_rfl) (by kernel_rfl) ?_
              repeat (go_big_quiet_step (fail))
              refine quiet_ldE hRj hlb rfl _ rfl rfl ?_
              simp only [Act.put, List.setIfInBounds_toArray, List.set_cons_succ, List.set_cons_zero]
              go_big_quiet_step (first | (go_at_call 31; with_reducible exact later (hp1 _)))
              refine quiet_ldE rX lX rfl _ rfl rfl ?_
              simp only [Act.put, List.setIfInBounds_toArray, List.set_cons_succ, List.set_cons_zero]
              repeat (go_big_quiet_step (first | (go_at_call 31; with_reducible exact later (hp2 _))))
              refine wpQuiet_nil ?_
              rintro _ ⟨x1, rfl⟩
              have HB4 := hidOf2 (HBx.out.trans (x1.below.mono HBx.out.size))
              clear k0 hLw hRj rX RX EX BX HBx
              generalize x1.now = w5 at *
              clear x1
              go_wp2
              go_roundw
              case rel => exact ⟨j + 1, by omega, by go_num, HJ3, HB4⟩
              case measure => simp [intOf]; omega
            · have d1 : decide ((Y.pl : Int) < (X.pl : Int)) = false := by simp; omega
              have HINS := hidOf2 (HJ2.out hlt)
              clear HJ1 HJ2
              go_upto_region 10 with fail
              refine wp_region_later (by kernel_rfl) (by kernel_rfl) ?_
              repeat (go_big_quiet_step (fail))
              refine quiet_ldE hRj hlb rfl _ rfl rfl ?_
              simp only [Act.put, List.setIfInBounds_toArray, List.set_cons_succ, List.set_cons_zero]
              go_big_quiet_step (first | (go_at_call 31; with_reducible exact later (hp1 _)))
              refine quiet_ldE rX lX rfl _ rfl rfl ?_
              simp only [Act.put, List.setIfInBounds_toArray, List.set_cons_succ, List.set_cons_zero]
              repeat (go_big_quiet_step (first | (go_at_call 31; with_reducible exact later (hp2 _))))
              refine wpQuiet_nil ?_
              rintro _ ⟨x1, rfl⟩
              obtain ⟨Rk, Ek, Bk⟩ := HRW.out _ (HBx.out.trans (x1.below.mono HBx.out.size))
              clear k0 hLw RX EX BX HBx HRW
              generalize x1.now = wk at *
              clear x1
              have HBk := hidOf2 Bk
              have HRd : Hid (∀ x, Below wk.heap.size wk x → Rd E L _ [] (.slice none 0 0) x) := fun x hb => Rk.below hb
              have SS : Hid (∀ x, Below wk.heap.size wk x → x.cell? ⟨E, 0, none⟩ = some _ ∧ x.rangeAt q 0 (enC X)) := fun x hb => ⟨(Rk.below hb).c.1, (Ek.below hb).r0⟩
              obtain ⟨v1, hs1, hw1⟩ := re_take Rk.rowL j hj
              obtain ⟨v2, hs2, hw2⟩ := re_drop Rk.rowL j hj
              have b0 : Below wk.heap.size wk wk.drew := bdr (Below.refl _ _) 1
              have S0 := SS.out _ b0
              clear Rk Ek Bk
              go_upto_region 12 with fail
              refine wp_region_held (S := fun x => x.cell? ⟨E, 0, none⟩ = some (.slice (some ⟨lb, lo, none⟩) L.length cL) ∧ x.rangeAt q 0 (enC X)) (by kernel_rfl) ?_
              change wpAnyH _ _ _ _ _ _ _ _ wk.drew
              refine wpAnyH_take (i := 1) (v := (.pointer (some ⟨E, 0, none⟩))) rfl (by kernel_rfl) (by kernel_rfl) (by kernel_rfl) (fun _ _ _ h => h) (.inl ⟨rfl, fun _ hS => rfl⟩) S0 ?_
              simp only [List.getElem_toArray, List.getElem_cons_succ, List.getElem_cons_zero, Act.put, List.setIfInBounds_toArray, List.set_cons_succ, List.set_cons_zero]
              refine wpAnyH_take (i := 2) (v := (.pointer (some ⟨E, 0, none⟩))) rfl (by kernel_rfl) (by kernel_rfl) (by kernel_rfl) (fun _ _ _ h => h) (.inl ⟨rfl, fun _ hS => by simp [execOp, go_sem, Act.eval]⟩) S0 ?_
              simp only [List.getElem_toArray, List.getElem_cons_succ, List.getElem_cons_zero, Act.put, List.setIfInBounds_toArray, List.set_cons_succ, List.set_cons_zero]
              refine wpAnyH_take (i := 3) (v := (.pointer (some ⟨E, 0, none⟩))) rfl (by kernel_rfl) (by kernel_rfl) (by kernel_rfl) (fun _ _ _ h => h) (.inl ⟨rfl, fun _ hS => by simp [execOp, go_sem, Act.eval]⟩) S0 ?_
              simp only [List.getElem_toArray, List.getElem_cons_succ, List.getElem_cons_zero, Act.put, List.setIfInBounds_toArray, List.set_cons_succ, List.set_cons_zero]
              refine wpAnyH_take (i := 4) (v := (.slice (some ⟨lb, lo, none⟩) L.length cL)) rfl (by kernel_rfl) (by kernel_rfl) (by kernel_rfl) (fun _ _ _ h => h) (.inl ⟨rfl, fun _ hS => exec_load rfl rfl (load_ents _ _ _ _ _ _ hS.1)⟩) S0 ?_
              simp only [List.getElem_toArray, List.getElem_cons_succ, List.getElem_cons_zero, Act.put, List.setIfInBounds_toArray, List.set_cons_succ, List.set_cons_zero]
              refine wpAnyH_take (i := 5) (v := (.int .i64 (j : Int))) rfl (by kernel_rfl) (by kernel_rfl) (by kernel_rfl) (fun _ _ _ h => h) (.inl ⟨rfl, fun _ hS => rfl⟩) S0 ?_
              simp only [List.getElem_toArray, List.getElem_cons_succ, List.getElem_cons_zero, Act.put, List.setIfInBounds_toArray, List.set_cons_succ, List.set_cons_zero]
              refine wpAnyH_take (i := 6) (v := (v1)) rfl (by kernel_rfl) (by kernel_rfl) (by kernel_rfl) (fun _ _ _ h => h) (.inl ⟨rfl, fun _ hS => by simp [execOp, go_sem, Act.eval, hs1]⟩) S0 ?_
              simp only [List.getElem_toArray, List.getElem_cons_succ, List.getElem_cons_zero, Act.put, List.setIfInBounds_toArray, List.set_cons_succ, List.set_cons_zero]
              refine wpAnyH_take (i := 8) (v := (.agg X.arr)) rfl (by kernel_rfl) (by kernel_rfl) (by kernel_rfl) (fun _ _ _ h => h) (.inl ⟨rfl, fun _ hS => exec_load rfl rfl (run_ldE hS.2)⟩) S0 ?_
              simp only [List.getElem_toArray, List.getElem_cons_succ, List.getElem_cons_zero, Act.put, List.setIfInBounds_toArray, List.set_cons_succ, List.set_cons_zero]
              refine wpAnyH_all (rs := [0, 9]) (by kernel_rfl) (by simp) ?_
              intro k hk
              simp only [List.mem_cons, List.mem_nil_iff, or_false] at hk
              rcases hk with rfl | rfl
              · refine wpOp_run rfl rfl (wp_bs0g Try.underlying22 infoEz rfl ?_)
                have b1 := b0.alloc b0.size (.cells #[] 59)
                have P1 : (wk.drew.alloc (.cells #[] 59)).ownsRow wk.heap.size 59 14 (.slice (some ⟨wk.drew.heap.size, 0, none⟩) 0 0) ([] : List En).length (flatW DE []) := own_lower (own0E wk.drew) b0.size
                refine ⟨(SS.out _ b1), ?_⟩
                simp only [List.getElem_toArray, List.getElem_cons_succ, List.getElem_cons_zero, Act.put, List.setIfInBounds_toArray, List.set_cons_succ, List.set_cons_zero]
                refine wpAnyH_all (rs := [7, 9]) (by kernel_rfl) (by simp) ?_
                intro k hk
                simp only [List.mem_cons, List.mem_nil_iff, or_false] at hk
                rcases hk with rfl | rfl
                · refine wpOp_run rfl rfl (wp_append_wide DE _ _ 22 59 _ 120 Try.underlying22 infoEz rfl rfl wk.heap.size (.slice (some ⟨wk.drew.heap.size, 0, none⟩) 0 0) [] rfl P1 _ (L.take j) rfl (hw1 _ (HRd.out _ b1).rowL.wide) (by unfold maxLen; simp; omega) (by simp; omega) b1.size ?_)
                  intro v2 w2 P2 G2
                  rw [List.nil_append] at P2
                  have b2 := b1.grown G2 b1.size (own_lt P1)
                  refine ⟨(SS.out _ b2), ?_⟩
                  simp only [List.getElem_toArray, List.getElem_cons_succ, List.getElem_cons_zero, Act.put, List.setIfInBounds_toArray, List.set_cons_succ, List.set_cons_zero]
                  refine wpAnyH_all (rs := [9]) (by kernel_rfl) (by simp) ?_
                  intro k hk
                  simp only [List.mem_cons, List.mem_nil_iff, or_false] at hk
                  subst hk
                  refine wpOp_run rfl rfl (wp_bs1 DE X 22 59 _ 120 _ rfl rfl Try.underlying22 infoEz (by decide) ?_)
                  have b3 := b2.alloc b2.size (.cells (enC X).toArray 59)
                  have Q3 := wide_new DE w2 X 59
                  have P3 := ownsRow_alloc P2 (.cells (enC X).toArray 59)
                  refine ⟨(SS.out _ b3), ?_⟩
                  simp only [List.getElem_toArray, List.getElem_cons_succ, List.getElem_cons_zero, Act.put, List.setIfInBounds_toArray, List.set_cons_succ, List.set_cons_zero]
                  refine wpAnyH_all (rs := [10]) (by kernel_rfl) (by simp) ?_
                  intro k hk
                  simp only [List.mem_cons, List.mem_nil_iff, or_false] at hk
                  subst hk
                  refine wpOp_run rfl rfl (wp_append_wide DE _ _ 22 59 _ 120 Try.underlying22 infoEz rfl rfl wk.heap.size _ (L.take j) rfl P3 _ [X] rfl Q3 (by unfold maxLen; simp; omega) (by simp; omega) b3.size ?_)
                  intro vZ wZ PZ GZ
                  have bZ := b3.grown GZ b3.size (own_lt P3)
                  refine ⟨(SS.out _ bZ), ?_⟩
                  simp only [List.getElem_toArray, List.getElem_cons_succ, List.getElem_cons_zero, Act.put, List.setIfInBounds_toArray, List.set_cons_succ, List.set_cons_zero]
                  refine wpAnyH_take (i := 11) (v := (vZ)) rfl (by kernel_rfl) (by kernel_rfl) (by kernel_rfl) (fun _ _ _ h => h) (.inl ⟨rfl, fun _ hS => rfl⟩) (SS.out _ bZ) ?_
                  simp only [List.getElem_toArray, List.getElem_cons_succ, List.getElem_cons_zero, Act.put, List.setIfInBounds_toArray, List.set_cons_succ, List.set_cons_zero]
                  refine wpAnyH_done (by kernel_rfl) ?_ _
                  have HPZ := hidOf2 PZ
                  have HbZ := hidOf2 bZ
                  clear PZ GZ bZ SS S0
                  have RZ := HRd.out _ HbZ.out
                  have cZ0 := RZ.c.1
                  have hWd := hw2 _ RZ.rowL.wide
                  have hPZ := HPZ.out
                  clear RZ
                  go_wp2_with (first | (refine apE rfl _ _ rfl wk.heap.size vZ (L.take j ++ [X]) rfl hPZ _ (L.drop j) rfl hWd (by simp; omega) HbZ.out.size ?_; intro vY wY PY GY; have bY := HbZ.out.grown GY HbZ.out.size (own_lt hPZ); have RY := HRd.out _ bY; have cY := RY.c.1; have fY := RY.frozen 0; obtain ⟨aY, cpY, hvY⟩ := own_shape5 PY; obtain ⟨nY, hnY⟩ : ∃ n, (L.take j ++ [X] ++ L.drop j).length = n := ⟨_, rfl⟩; rw [hnY] at hvY; subst hvY; have HRn := hidOf2 (RY.setL (RT.own DE PY)); have HBn := hidOf2 ((HBk.out.trans (bY.mono HBk.out.size)).grown (set_kept wY E 0 (.slice aY nY cpY)) (Nat.le_trans HBk.out.size bY.size) (fun j hj => by cases hj; exact hEw)); clear PY GY bY RY))
                  go_roundw
                  case rel => exact ⟨k + 1, _, by omega, by go_num, by rw [HI.out, HINS.out]; exact HRn, HBn⟩
                  case measure => simp [intOf]; omega
                · refine wpOp_run rfl rfl (wp_bs1 DE X 22 59 _ 120 _ rfl rfl Try.underlying22 infoEz (by decide) ?_)
                  have b2 := b1.alloc b1.size (.cells (enC X).toArray 59)
                  have Q2 := wide_new DE (wk.drew.alloc (.cells #[] 59)) X 59
                  have P2 := ownsRow_alloc P1 (.cells (enC X).toArray 59)
                  refine ⟨(SS.out _ b2), ?_⟩
                  simp only [List.getElem_toArray, List.getElem_cons_succ, List.getElem_cons_zero, Act.put, List.setIfInBounds_toArray, List.set_cons_succ, List.set_cons_zero]
                  refine wpAnyH_all (rs := [7]) (by kernel_rfl) (by simp) ?_
                  intro k hk
                  simp only [List.mem_cons, List.mem_nil_iff, or_false] at hk
                  subst hk
                  refine wpOp_run rfl rfl (wp_append_wide DE _ _ 22 59 _ 120 Try.underlying22 infoEz rfl rfl wk.heap.size (.slice (some ⟨wk.drew.heap.size, 0, none⟩) 0 0) [] rfl P2 _ (L.take j) rfl (hw1 _ (HRd.out _ b2).rowL.wide) (by unfold maxLen; simp; omega) (by simp; omega) b2.size ?_)
                  intro v3 w3 P3 G3
                  rw [List.nil_append] at P3
                  have b3 := b2.grown G3 b2.size (own_lt P2)
                  have Q3 := Wide.same Q2 G3.size (fun b hb hl => G3.block b hl (fun e => by simp only [Value.ownBlock, Option.some.injEq, size_alloc] at hb e; omega))
                  refine ⟨(SS.out _ b3), ?_⟩
                  simp only [List.getElem_toArray, List.getElem_cons_succ, List.getElem_cons_zero, Act.put, List.setIfInBounds_toArray, List.set_cons_succ, List.set_cons_zero]
                  refine wpAnyH_all (rs := [10]) (by kernel_rfl) (by simp) ?_
                  intro k hk
                  simp only [List.mem_cons, List.mem_nil_iff, or_false] at hk
                  subst hk
                  refine wpOp_run rfl rfl (wp_append_wide DE _ _ 22 59 _ 120 Try.underlying22 infoEz rfl rfl wk.heap.size _ (L.take j) rfl P3 _ [X] rfl Q3 (by unfold maxLen; simp; omega) (by simp; omega) b3.size ?_)
                  intro vZ wZ PZ GZ
                  have bZ := b3.grown GZ b3.size (own_lt P3)
                  refine ⟨(SS.out _ bZ), ?_⟩
                  simp only [List.getElem_toArray, List.getElem_cons_succ, List.getElem_cons_zero, Act.put, List.setIfInBounds_toArray, List.set_cons_succ, List.set_cons_zero]
                  refine wpAnyH_take (i := 11) (v := (vZ)) rfl (by kernel_rfl) (by kernel_rfl) (by kernel_rfl) (fun _ _ _ h => h) (.inl ⟨rfl, fun _ hS => rfl⟩) (SS.out _ bZ) ?_
                  simp only [List.getElem_toArray, List.getElem_cons_succ, List.getElem_cons_zero, Act.put, List.setIfInBounds_toArray, List.set_cons_succ, List.set_cons_zero]
                  refine wpAnyH_done (by kernel_rfl) ?_ _
                  have HPZ := hidOf2 PZ
                  have HbZ := hidOf2 bZ
                  clear PZ GZ bZ SS S0
                  have RZ := HRd.out _ HbZ.out
                  have cZ0 := RZ.c.1
                  have hWd := hw2 _ RZ.rowL.wide
                  have hPZ := HPZ.out
                  clear RZ
                  go_wp2_with (first | (refine apE rfl _ _ rfl wk.heap.size vZ (L.take j ++ [X]) rfl hPZ _ (L.drop j) rfl hWd (by simp; omega) HbZ.out.size ?_; intro vY wY PY GY; have bY := HbZ.out.grown GY HbZ.out.size (own_lt hPZ); have RY := HRd.out _ bY; have cY := RY.c.1; have fY := RY.frozen 0; obtain ⟨aY, cpY, hvY⟩ := own_shape5 PY; obtain ⟨nY, hnY⟩ : ∃ n, (L.take j ++ [X] ++ L.drop j).length = n := ⟨_, rfl⟩; rw [hnY] at hvY; subst hvY; have HRn := hidOf2 (RY.setL (RT.own DE PY)); have HBn := hidOf2 ((HBk.out.trans (bY.mono HBk.out.size)).grown (set_kept wY E 0 (.slice aY nY cpY)) (Nat.le_trans HBk.out.size bY.size) (fun j hj => by cases hj; exact hEw)); clear PY GY bY RY))
                  go_roundw
                  case rel => exact ⟨k + 1, _, by omega, by go_num, by rw [HI.out, HINS.out]; exact HRn, HBn⟩
                  case measure => simp [intOf]; omega
              · refine wpOp_run rfl rfl (wp_bs1 DE X 22 59 _ 120 _ rfl rfl Try.underlying22 infoEz (by decide) ?_)
                have b1 := b0.alloc b0.size (.cells (enC X).toArray 59)
                have Q1 := wide_new DE wk.drew X 59
                refine ⟨(SS.out _ b1), ?_⟩
                simp only [List.getElem_toArray, List.getElem_cons_succ, List.getElem_cons_zero, Act.put, List.setIfInBounds_toArray, List.set_cons_succ, List.set_cons_zero]
                refine wpAnyH_all (rs := [0]) (by kernel_rfl) (by simp) ?_
                intro k hk
                simp only [List.mem_cons, List.mem_nil_iff, or_false] at hk
                subst hk
                refine wpOp_run rfl rfl (wp_bs0g Try.underlying22 infoEz rfl ?_)
                have b2 := b1.alloc b1.size (.cells #[] 59)
                have P2 : ((wk.drew.alloc (.cells (enC X).toArray 59)).alloc (.cells #[] 59)).ownsRow wk.heap.size 59 14 (.slice (some ⟨(wk.drew.alloc (.cells (enC X).toArray 59)).heap.size, 0, none⟩) 0 0) ([] : List En).length (flatW DE []) := own_lower (own0E (wk.drew.alloc (.cells (enC X).toArray 59))) b1.size
                have Q2 := wide_alloc Q1 (.cells #[] 59)
                refine ⟨(SS.out _ b2), ?_⟩
                simp only [List.getElem_toArray, List.getElem_cons_succ, List.getElem_cons_zero, Act.put, List.setIfInBounds_toArray, List.set_cons_succ, List.set_cons_zero]
                refine wpAnyH_all (rs := [7]) (by kernel_rfl) (by simp) ?_
                intro k hk
                simp only [List.mem_cons, List.mem_nil_iff, or_false] at hk
                subst hk
                refine wpOp_run rfl rfl (wp_append_wide DE _ _ 22 59 _ 120 Try.underlying22 infoEz rfl rfl wk.heap.size (.slice (some ⟨(wk.drew.alloc (.cells (enC X).toArray 59)).heap.size, 0, none⟩) 0 0) [] rfl P2 _ (L.take j) rfl (hw1 _ (HRd.out _ b2).rowL.wide) (by unfold maxLen; simp; omega) (by simp; omega) b2.size ?_)
                intro v3 w3 P3 G3
                rw [List.nil_append] at P3
                have b3 := b2.grown G3 b2.size (own_lt P2)
                have Q3 := Wide.same Q2 G3.size (fun b hb hl => G3.block b hl (fun e => by simp only [Value.ownBlock, Option.some.injEq, size_alloc] at hb e; omega))
                refine ⟨(SS.out _ b3), ?_⟩
                simp only [List.getElem_toArray, List.getElem_cons_succ, List.getElem_cons_zero, Act.put, List.setIfInBounds_toArray, List.set_cons_succ, List.set_cons_zero]
                refine wpAnyH_all (rs := [10]) (by kernel_rfl) (by simp) ?_
                intro k hk
                simp only [List.mem_cons, List.mem_nil_iff, or_false] at hk
                subst hk
                refine wpOp_run rfl rfl (wp_append_wide DE _ _ 22 59 _ 120 Try.underlying22 infoEz rfl rfl wk.heap.size _ (L.take j) rfl P3 _ [X] rfl Q3 (by unfold maxLen; simp; omega) (by simp; omega) b3.size ?_)
                intro vZ wZ PZ GZ
                have bZ := b3.grown GZ b3.size (own_lt P3)
                refine ⟨(SS.out _ bZ), ?_⟩
                simp only [List.getElem_toArray, List.getElem_cons_succ, List.getElem_cons_zero, Act.put, List.setIfInBounds_toArray, List.set_cons_succ, List.set_cons_zero]
                refine wpAnyH_take (i := 11) (v := (vZ)) rfl (by kernel_rfl) (by kernel_rfl) (by kernel_rfl) (fun _ _ _ h => h) (.inl ⟨rfl, fun _ hS => rfl⟩) (SS.out _ bZ) ?_
                simp only [List.getElem_toArray, List.getElem_cons_succ, List.getElem_cons_zero, Act.put, List.setIfInBounds_toArray, List.set_cons_succ, List.set_cons_zero]
                refine wpAnyH_done (by kernel_rfl) ?_ _
                have HPZ := hidOf2 PZ
                have HbZ := hidOf2 bZ
                clear PZ GZ bZ SS S0
                have RZ := HRd.out _ HbZ.out
                have cZ0 := RZ.c.1
                have hWd := hw2 _ RZ.rowL.wide
                have hPZ := HPZ.out
                clear RZ
                go_wp2_with (first | (refine apE rfl _ _ rfl wk.heap.size vZ (L.take j ++ [X]) rfl hPZ _ (L.drop j) rfl hWd (by simp; omega) HbZ.out.size ?_; intro vY wY PY GY; have bY := HbZ.out.grown GY HbZ.out.size (own_lt hPZ); have RY := HRd.out _ bY; have cY := RY.c.1; have fY := RY.frozen 0; obtain ⟨aY, cpY, hvY⟩ := own_shape5 PY; obtain ⟨nY, hnY⟩ : ∃ n, (L.take j ++ [X] ++ L.drop j).length = n := ⟨_, rfl⟩; rw [hnY] at hvY; subst hvY; have HRn := hidOf2 (RY.setL (RT.own DE PY)); have HBn := hidOf2 ((HBk.out.trans (bY.mono HBk.out.size)).grown (set_kept wY E 0 (.slice aY nY cpY)) (Nat.le_trans HBk.out.size bY.size) (fun j hj => by cases hj; exact hEw)); clear PY GY bY RY))
                go_roundw
                case rel => exact ⟨k + 1, _, by omega, by go_num, by rw [HI.out, HINS.out]; exact HRn, HBn⟩
                case measure => simp [intOf]; omega
          · have HINS := hidOf2 (ins_at L X j hj HJ.out (fun h => absurd h hjl))
            clear HJ
            go_upto_region 10 with fail
            refine wp_region_later (by kernel_rfl) (by kernel_rfl) ?_
            repeat (go_big_quiet_step (fail))
            refine wpQuiet_nil ?_
            rintro _ ⟨x1, rfl⟩
            obtain ⟨Rk, Ek, Bk⟩ := HRW.out _ (HBx.out.trans (x1.below.mono HBx.out.size))
            clear k0 hLw RX EX BX HBx HRW
            generalize x1.now = wk at *
            clear x1
            have HBk := hidOf2 Bk
            have HRd : Hid (∀ x, Below wk.heap.size wk x → Rd E L _ [] (.slice none 0 0) x) := fun x hb => Rk.below hb
            have SS : Hid (∀ x, Below wk.heap.size wk x → x.cell? ⟨E, 0, none⟩ = some _ ∧ x.rangeAt q 0 (enC X)) := fun x hb => ⟨(Rk.below hb).c.1, (Ek.below hb).r0⟩
            obtain ⟨v1, hs1, hw1⟩ := re_take Rk.rowL j hj
            obtain ⟨v2, hs2, hw2⟩ := re_drop Rk.rowL j hj
            have b0 : Below wk.heap.size wk wk.drew := bdr (Below.refl _ _) 1
            have S0 := SS.out _ b0
            clear Rk Ek Bk
            go_upto_region 12 with fail
            refine wp_region_held (S := fun x => x.cell? ⟨E, 0, none⟩ = some (.slice aL L.length cL) ∧ x.rangeAt q 0 (enC X)) (by kernel_rfl) ?_
            change wpAnyH _ _ _ _ _ _ _ _ wk.drew
            refine wpAnyH_take (i := 1) (v := (.pointer (some ⟨E, 0, none⟩))) rfl (by kernel_rfl) (by kernel_rfl) (by kernel_rfl) (fun _ _ _ h => h) (.inl ⟨rfl, fun _ hS => rfl⟩) S0 ?_
            simp only [List.getElem_toArray, List.getElem_cons_succ, List.getElem_cons_zero, Act.put, List.setIfInBounds_toArray, List.set_cons_succ, List.set_cons_zero]
            refine wpAnyH_take (i := 2) (v := (.pointer (some ⟨E, 0, none⟩))) rfl (by kernel_rfl) (by kernel_rfl) (by kernel_rfl) (fun _ _ _ h => h) (.inl ⟨rfl, fun _ hS => by simp [execOp, go_sem, Act.eval]⟩) S0 ?_
            simp only [List.getElem_toArray, List.getElem_cons_succ, List.getElem_cons_zero, Act.put, List.setIfInBounds_toArray, List.set_cons_succ, List.set_cons_zero]
            refine wpAnyH_take (i := 3) (v := (.pointer (some ⟨E, 0, none⟩))) rfl (by kernel_rfl) (by kernel_rfl) (by kernel_rfl) (fun _ _ _ h => h) (.inl ⟨rfl, fun _ hS => by simp [execOp, go_sem, Act.eval]⟩) S0 ?_
            simp only [List.getElem_toArray, List.getElem_cons_succ, List.getElem_cons_zero, Act.put, List.setIfInBounds_toArray, List.set_cons_succ, List.set_cons_zero]
            refine wpAnyH_take (i := 4) (v := (.slice aL L.length cL)) rfl (by kernel_rfl) (by kernel_rfl) (by kernel_rfl) (fun _ _ _ h => h) (.inl ⟨rfl, fun _ hS => exec_load rfl rfl (load_ents _ _ _ _ _ _ hS.1)⟩) S0 ?_
            simp only [List.getElem_toArray, List.getElem_cons_succ, List.getElem_cons_zero, Act.put, List.setIfInBounds_toArray, List.set_cons_succ, List.set_cons_zero]
            refine wpAnyH_take (i := 5) (v := (.int .i64 (j : Int))) rfl (by kernel_rfl) (by kernel_rfl) (by kernel_rfl) (fun _ _ _ h => h) (.inl ⟨rfl, fun _ hS => rfl⟩) S0 ?_
            simp only [List.getElem_toArray, List.getElem_cons_succ, List.getElem_cons_zero, Act.put, List.setIfInBounds_toArray, List.set_cons_succ, List.set_cons_zero]
            refine wpAnyH_take (i := 6) (v := (v1)) rfl (by kernel_rfl) (by kernel_rfl) (by kernel_rfl) (fun _ _ _ h => h) (.inl ⟨rfl, fun _ hS => by simp [execOp, go_sem, Act.eval, hs1]⟩) S0 ?_
            simp only [List.getElem_toArray, List.getElem_cons_succ, List.getElem_cons_zero, Act.put, List.setIfInBounds_toArray, List.set_cons_succ, List.set_cons_zero]
            refine wpAnyH_take (i := 8) (v := (.agg X.arr)) rfl (by kernel_rfl) (by kernel_rfl) (by kernel_rfl) (fun _ _ _ h => h) (.inl ⟨rfl, fun _ hS => exec_load rfl rfl (run_ldE hS.2)⟩) S0 ?_
            simp only [List.getElem_toArray, List.getElem_cons_succ, List.getElem_cons_zero, Act.put, List.setIfInBounds_toArray, List.set_cons_succ, List.set_cons_zero]
            refine wpAnyH_all (rs := [0, 9]) (by kernel_rfl) (by simp) ?_
            intro k hk
            simp only [List.mem_cons, List.mem_nil_iff, or_false] at hk
            rcases hk with rfl | rfl
            · refine wpOp_run rfl rfl (wp_bs0g Try.underlying22 infoEz rfl ?_)
              have b1 := b0.alloc b0.size (.cells #[] 59)
              have P1 : (wk.drew.alloc (.cells #[] 59)).ownsRow wk.heap.size 59 14 (.slice (some ⟨wk.drew.heap.size, 0, none⟩) 0 0) ([] : List En).length (flatW DE []) := own_lower (own0E wk.drew) b0.size
              refine ⟨(SS.out _ b1), ?_⟩
              simp only [List.getElem_toArray, List.getElem_cons_succ, List.getElem_cons_zero, Act.put, List.setIfInBounds_toArray, List.set_cons_succ, List.set_cons_zero]
              refine wpAnyH_all (rs := [7, 9]) (by kernel_rfl) (by simp) ?_
              intro k hk
              simp only [List.mem_cons, List.mem_nil_iff, or_false] at hk
              rcases hk with rfl | rfl
              · refine wpOp_run rfl rfl (wp_append_wide DE _ _ 22 59 _ 120 Try.underlying22 infoEz rfl rfl wk.heap.size (.slice (some ⟨wk.drew.heap.size, 0, none⟩) 0 0) [] rfl P1 _ (L.take j) rfl (hw1 _ (HRd.out _ b1).rowL.wide) (by unfold maxLen; simp; omega) (by simp; omega) b1.size ?_)
                intro v2 w2 P2 G2
                rw [List.nil_append] at P2
                have b2 := b1.grown G2 b1.size (own_lt P1)
                refine ⟨(SS.out _ b2), ?_⟩
                simp only [List.getElem_toArray, List.getElem_cons_succ, List.getElem_cons_zero, Act.put, List.setIfInBounds_toArray, List.set_cons_succ, List.set_cons_zero]
                refine wpAnyH_all (rs := [9]) (by kernel_rfl) (by simp) ?_
                intro k hk
                simp only [List.mem_cons, List.mem_nil_iff, or_false] at hk
                subst hk
                refine wpOp_run rfl rfl (wp_bs1 DE X 22 59 _ 120 _ rfl rfl Try.underlying22 infoEz (by decide) ?_)
                have b3 := b2.alloc b2.size (.cells (enC X).toArray 59)
                have Q3 := wide_new DE w2 X 59
                have P3 := ownsRow_alloc P2 (.cells (enC X).toArray 59)
                refine ⟨(SS.out _ b3), ?_⟩
                simp only [List.getElem_toArray, List.getElem_cons_succ, List.getElem_cons_zero, Act.put, List.setIfInBounds_toArray, List.set_cons_succ, List.set_cons_zero]
                refine wpAnyH_all (rs := [10]) (by kernel_rfl) (by simp) ?_
                intro k hk
                simp only [List.mem_cons, List.mem_nil_iff, or_false] at hk
                subst hk
                refine wpOp_run rfl rfl (wp_append_wide DE _ _ 22 59 _ 120 Try.underlying22 infoEz rfl rfl wk.heap.size _ (L.take j) rfl P3 _ [X] rfl Q3 (by unfold maxLen; simp; omega) (by simp; omega) b3.size ?_)
                intro vZ wZ PZ GZ
                have bZ := b3.grown GZ b3.size (own_lt P3)
                refine ⟨(SS.out _ bZ), ?_⟩
                simp only [List.getElem_toArray, List.getElem_cons_succ, List.getElem_cons_zero, Act.put, List.setIfInBounds_toArray, List.set_cons_succ, List.set_cons_zero]
                refine wpAnyH_take (i := 11) (v := (vZ)) rfl (by kernel_rfl) (by kernel_rfl) (by kernel_rfl) (fun _ _ _ h => h) (.inl ⟨rfl, fun _ hS => rfl⟩) (SS.out _ bZ) ?_
                simp only [List.getElem_toArray, List.getElem_cons_succ, List.getElem_cons_zero, Act.put, List.setIfInBounds_toArray, List.set_cons_succ, List.set_cons_zero]
                refine wpAnyH_done (by kernel_rfl) ?_ _
                have HPZ := hidOf2 PZ
                have HbZ := hidOf2 bZ
                clear PZ GZ bZ SS S0
                have RZ := HRd.out _ HbZ.out
                have cZ0 := RZ.c.1
                have hWd := hw2 _ RZ.rowL.wide
                have hPZ := HPZ.out
                clear RZ
                go_wp2_with (first | (refine apE rfl _ _ rfl wk.heap.size vZ (L.take j ++ [X]) rfl hPZ _ (L.drop j) rfl hWd (by simp; omega) HbZ.out.size ?_; intro vY wY PY GY; have bY := HbZ.out.grown GY HbZ.out.size (own_lt hPZ); have RY := HRd.out _ bY; have cY := RY.c.1; have fY := RY.frozen 0; obtain ⟨aY, cpY, hvY⟩ := own_shape5 PY; obtain ⟨nY, hnY⟩ : ∃ n, (L.take j ++ [X] ++ L.drop j).length = n := ⟨_, rfl⟩; rw [hnY] at hvY; subst hvY; have HRn := hidOf2 (RY.setL (RT.own DE PY)); have HBn := hidOf2 ((HBk.out.trans (bY.mono HBk.out.size)).grown (set_kept wY E 0 (.slice aY nY cpY)) (Nat.le_trans HBk.out.size bY.size) (fun j hj => by cases hj; exact hEw)); clear PY GY bY RY))
                go_roundw
                case rel => exact ⟨k + 1, _, by omega, by go_num, by rw [HI.out, HINS.out]; exact HRn, HBn⟩
                case measure => simp [intOf]; omega
              · refine wpOp_run rfl rfl (wp_bs1 DE X 22 59 _ 120 _ rfl rfl Try.underlying22 infoEz (by decide) ?_)
                have b2 := b1.alloc b1.size (.cells (enC X).toArray 59)
                have Q2 := wide_new DE (wk.drew.alloc (.cells #[] 59)) X 59
                have P2 := ownsRow_alloc P1 (.cells (enC X).toArray 59)
                refine ⟨(SS.out _ b2), ?_⟩
                simp only [List.getElem_toArray, List.getElem_cons_succ, List.getElem_cons_zero, Act.put, List.setIfInBounds_toArray, List.set_cons_succ, List.set_cons_zero]
                refine wpAnyH_all (rs := [7]) (by kernel_rfl) (by simp) ?_
                intro k hk
                simp only [List.mem_cons, List.mem_nil_iff, or_false] at hk
                subst hk
                refine wpOp_run rfl rfl (wp_append_wide DE _ _ 22 59 _ 120 Try.underlying22 infoEz rfl rfl wk.heap.size (.slice (some ⟨wk.drew.heap.size, 0, none⟩) 0 0) [] rfl P2 _ (L.take j) rfl (hw1 _ (HRd.out _ b2).rowL.wide) (by unfold maxLen; simp; omega) (by simp; omega) b2.size ?_)
                intro v3 w3 P3 G3
                rw [List.nil_append] at P3
                have b3 := b2.grown G3 b2.size (own_lt P2)
                have Q3 := Wide.same Q2 G3.size (fun b hb hl => G3.block b hl (fun e => by simp only [Value.ownBlock, Option.some.injEq, size_alloc] at hb e; omega))
                refine ⟨(SS.out _ b3), ?_⟩
                simp only [List.getElem_toArray, List.getElem_cons_succ, List.getElem_cons_zero, Act.put, List.setIfInBounds_toArray, List.set_cons_succ, List.set_cons_zero]
                refine wpAnyH_all (rs := [10]) (by kernel_rfl) (by simp) ?_
                intro k hk
                simp only [List.mem_cons, List.mem_nil_iff, or_false] at hk
                subst hk
                refine wpOp_run rfl rfl (wp_append_wide DE _ _ 22 59 _ 120 Try.underlying22 infoEz rfl rfl wk.heap.size _ (L.take j) rfl P3 _ [X] rfl Q3 (by unfold maxLen; simp; omega) (by simp; omega) b3.size ?_)
                intro vZ wZ PZ GZ
                have bZ := b3.grown GZ b3.size (own_lt P3)
                refine ⟨(SS.out _ bZ), ?_⟩
                simp only [List.getElem_toArray, List.getElem_cons_succ, List.getElem_cons_zero, Act.put, List.setIfInBounds_toArray, List.set_cons_succ, List.set_cons_zero]
                refine wpAnyH_take (i := 11) (v := (vZ)) rfl (by kernel_rfl) (by kernel_rfl) (by kernel_rfl) (fun _ _ _ h => h) (.inl ⟨rfl, fun _ hS => rfl⟩) (SS.out _ bZ) ?_
                simp only [List.getElem_toArray, List.getElem_cons_succ, List.getElem_cons_zero, Act.put, List.setIfInBounds_toArray, List.set_cons_succ, List.set_cons_zero]
                refine wpAnyH_done (by kernel_rfl) ?_ _
                have HPZ := hidOf2 PZ
                have HbZ := hidOf2 bZ
                clear PZ GZ bZ SS S0
                have RZ := HRd.out _ HbZ.out
                have cZ0 := RZ.c.1
                have hWd := hw2 _ RZ.rowL.wide
                have hPZ := HPZ.out
                clear RZ
                go_wp2_with (first | (refine apE rfl _ _ rfl wk.heap.size vZ (L.take j ++ [X]) rfl hPZ _ (L.drop j) rfl hWd (by simp; omega) HbZ.out.size ?_; intro vY wY PY GY; have bY := HbZ.out.grown GY HbZ.out.size (own_lt hPZ); have RY := HRd.out _ bY; have cY := RY.c.1; have fY := RY.frozen 0; obtain ⟨aY, cpY, hvY⟩ := own_shape5 PY; obtain ⟨nY, hnY⟩ : ∃ n, (L.take j ++ [X] ++ L.drop j).length = n := ⟨_, rfl⟩; rw [hnY] at hvY; subst hvY; have HRn := hidOf2 (RY.setL (RT.own DE PY)); have HBn := hidOf2 ((HBk.out.trans (bY.mono HBk.out.size)).grown (set_kept wY E 0 (.slice aY nY cpY)) (Nat.le_trans HBk.out.size bY.size) (fun j hj => by cases hj; exact hEw)); clear PY GY bY RY))
                go_roundw
                case rel => exact ⟨k + 1, _, by omega, by go_num, by rw [HI.out, HINS.out]; exact HRn, HBn⟩
                case measure => simp [intOf]; omega
            · refine wpOp_run rfl rfl (wp_bs1 DE X 22 59 _ 120 _ rfl rfl Try.underlying22 infoEz (by decide) ?_)
              have b1 := b0.alloc b0.size (.cells (enC X).toArray 59)
              have Q1 := wide_new DE wk.drew X 59
              refine ⟨(SS.out _ b1), ?_⟩
              simp only [List.getElem_toArray, List.getElem_cons_succ, List.getElem_cons_zero, Act.put, List.setIfInBounds_toArray, List.set_cons_succ, List.set_cons_zero]
              refine wpAnyH_all (rs := [0]) (by kernel_rfl) (by simp) ?_
              intro k hk
              simp only [List.mem_cons, List.mem_nil_iff, or_false] at hk
              subst hk
              refine wpOp_run rfl rfl (wp_bs0g Try.underlying22 infoEz rfl ?_)
              have b2 := b1.alloc b1.size (.cells #[] 59)
              have P2 : ((wk.drew.alloc (.cells (enC X).toArray 59)).alloc (.cells #[] 59)).ownsRow wk.heap.size 59 14 (.slice (some ⟨(wk.drew.alloc (.cells (enC X).toArray 59)).heap.size, 0, none⟩) 0 0) ([] : List En).length (flatW DE []) := own_lower (own0E (wk.drew.alloc (.cells (enC X).toArray 59))) b1.size
              have Q2 := wide_alloc Q1 (.cells #[] 59)
              refine ⟨(SS.out _ b2), ?_⟩
              simp only [List.getElem_toArray, List.getElem_cons_succ, List.getElem_cons_zero, Act.put, List.setIfInBounds_toArray, List.set_cons_succ, List.set_cons_zero]
              refine wpAnyH_all (rs := [7]) (by kernel_rfl) (by simp) ?_
              intro k hk
              simp only [List.mem_cons, List.mem_nil_iff, or_false] at hk
              subst hk
              refine wpOp_run rfl rfl (wp_append_wide DE _ _ 22 59 _ 120 Try.underlying22 infoEz rfl rfl wk.heap.size (.slice (some ⟨(wk.drew.alloc (.cells (enC X).toArray 59)).heap.size, 0, none⟩) 0 0) [] rfl P2 _ (L.take j) rfl (hw1 _ (HRd.out _ b2).rowL.wide) (by unfold maxLen; simp; omega) (by simp; omega) b2.size ?_)
              intro v3 w3 P3 G3
              rw [List.nil_append] at P3
              have b3 := b2.grown G3 b2.size (own_lt P2)
              have Q3 := Wide.same Q2 G3.size (fun b hb hl => G3.block b hl (fun e => by simp only [Value.ownBlock, Option.some.injEq, size_alloc] at hb e; omega))
              refine ⟨(SS.out _ b3), ?_⟩
              simp only [List.getElem_toArray, List.getElem_cons_succ, List.getElem_cons_zero, Act.put, List.setIfInBounds_toArray, List.set_cons_succ, List.set_cons_zero]
              refine wpAnyH_all (rs := [10]) (by kernel_rfl) (by simp) ?_
              intro k hk
              simp only [List.mem_cons, List.mem_nil_iff, or_false] at hk
              subst hk
              refine wpOp_run rfl rfl (wp_append_wide DE _ _ 22 59 _ 120 Try.underlying22 infoEz rfl rfl wk.heap.size _ (L.take j) rfl P3 _ [X] rfl Q3 (by unfold maxLen; simp; omega) (by simp; omega) b3.size ?_)
              intro vZ wZ PZ GZ
              have bZ := b3.grown GZ b3.size (own_lt P3)
              refine ⟨(SS.out _ bZ), ?_⟩
              simp only [List.getElem_toArray, List.getElem_cons_succ, List.getElem_cons_zero, Act.put, List.setIfInBounds_toArray, List.set_cons_succ, List.set_cons_zero]
              refine wpAnyH_take (i := 11) (v := (vZ)) rfl (by kernel_rfl) (by kernel_rfl) (by kernel_rfl) (fun _ _ _ h => h) (.inl ⟨rfl, fun _ hS => rfl⟩) (SS.out _ bZ) ?_
              simp only [List.getElem_toArray, List.getElem_cons_succ, List.getElem_cons_zero, Act.put, List.setIfInBounds_toArray, List.set_cons_succ, List.set_cons_zero]
              refine wpAnyH_done (by kernel_rfl) ?_ _
              have HPZ := hidOf2 PZ
              have HbZ := hidOf2 bZ
              clear PZ GZ bZ SS S0
              have RZ := HRd.out _ HbZ.out
              have cZ0 := RZ.c.1
              have hWd := hw2 _ RZ.rowL.wide
              have hPZ := HPZ.out
              clear RZ
              go_wp2_with (first | (refine apE rfl _ _ rfl wk.heap.size vZ (L.take j ++ [X]) rfl hPZ _ (L.drop j) rfl hWd (by simp; omega) HbZ.out.size ?_; intro vY wY PY GY; have bY := HbZ.out.grown GY HbZ.out.size (own_lt hPZ); have RY := HRd.out _ bY; have cY := RY.c.1; have fY := RY.frozen 0; obtain ⟨aY, cpY, hvY⟩ := own_shape5 PY; obtain ⟨nY, hnY⟩ : ∃ n, (L.take j ++ [X] ++ L.drop j).length = n := ⟨_, rfl⟩; rw [hnY] at hvY; subst hvY; have HRn := hidOf2 (RY.setL (RT.own DE PY)); have HBn := hidOf2 ((HBk.out.trans (bY.mono HBk.out.size)).grown (set_kept wY E 0 (.slice aY nY cpY)) (Nat.le_trans HBk.out.size bY.size) (fun j hj => by cases hj; exact hEw)); clear PY GY bY RY))
              go_roundw
              case rel => exact ⟨k + 1, _, by omega, by go_num, by rw [HI.out, HINS.out]; exact HRn, HBn⟩
              case measure => simp [intOf]; omega
      · have e1 : k = l.length := by omega
        subst e1
        rw [List.take_length] at HR
        have hLl : (insL [] l).length ≤ 1024 := by rw [insL_len]; simp; omega
        have hRs := QReset_any HR.out hLl
        clear HR
        go_wp2_with fail
        refine hRs.mono ?_
        rintro x w5 ⟨rfl, vV', RN, _, GN⟩
        have B5 : Below w.heap.size w w5 := HB.out.grown GN HB.out.size (fun j hj => by cases hj; exact hEw)
        have HRN := hidOf2 RN
        clear hRs RN GN HB
        go_wp2
        go_ret2
        exact ⟨B5, fun h => absurd rfl h, fun _ => ⟨E, _, _, rfl, hEw, HRN.out⟩⟩
  · have d1 : ((chkL l : Int) != 0) = true := by simpa using hc
    have HC2 : Hid (¬ chkL l = 0) := hc
    clear hc HC
    generalize chkL l = C at *
    generalize insL [] l = LL at *
    go_enter Try.func16, Try.ntmps16
    go_wp2_with fail
    refine hC.mono ?_
    rintro x w1 ⟨rfl, b1⟩
    clear hC
    go_wp2
    go_ret2
    exact ⟨b1, fun _ => rfl, fun h => absurd h HC2.out⟩
end Go.Proofs.Ythalhidebkhclaa
namespace Go.Proofs.Ythalhidebkhclaa
open Go.RowKit Go.Proofs.Ty Go.Sort Go.Lib
set_option linter.unusedVariables false
set_option maxRecDepth 1000000
set_option linter.unusedSimpArgs false
theorem build_pair (D E : Nat) (x : World) : (Instr.build 34 #[(0, .pointer (some ⟨D, 0, none⟩)), (1, .pointer (some ⟨E, 0, none⟩))]).run Try.prog x = .ok (.agg #[.pointer (some ⟨D, 0, none⟩), .pointer (some ⟨E, 0, none⟩)]) x := by kernel_rfl
/-- What Begins leaves, of entries that can be. -/
structure Bg (w : World) (X D R E : Nat) (its : List Im) (l : List En) (vL vV : Value) (x : World) : Prop where
  pair : x.heap[X]? = some (.cells #[.pointer (some ⟨D, 0, none⟩), .pointer (some ⟨E, 0, none⟩)] 34 (0, 0))
  dct : Dct D R its x
  vals : ∀ i ∈ its, i.v = i.e.df
  perm : (its.map Im.e).Perm (l.map En.plain)
  base : ∀ i ∈ its, w.heap.size ≤ i.b
  bD : w.heap.size ≤ D
  bX : w.heap.size ≤ X
  bE : w.heap.size ≤ E
  rd : Rd E (insL [] l) vL ((insL [] l).map En.df) vV x
  below : Below w.heap.size w x
set_option maxHeartbeats 8000000 in
theorem Begins_any (v : Value) (l : List En) (w : World) (hW : Wide 14 enC w v l) (hn : l.length ≤ 1172812402927) :
    Calls Try.prog 6 #[v] w fun x w' => Below w.heap.size w w' ∧ (chkL l ≠ 0 → x = .returned (.tuple #[.pointer none, .bool true])) ∧ (chkL l = 0 → ∃ X D R E its vL vV, x = .returned (.tuple #[.pointer (some ⟨X, 0, none⟩), .bool true]) ∧ Bg w X D R E its l vL vV w') := by
  have HW := hidOf2 hW
  obtain ⟨ao0, cp0, rfl⟩ := hW.shape
  have bA : Below w.heap.size w (w.alloc (.cells #[] 59)) := (Below.refl _ _).alloc (Nat.le_refl _) _
  have hWa := hW.same bA.size (fun b _ hl => bA.block b hl)
  have hown := own0E w
  clear hW
  go_enter Try.func6, Try.ntmps6
  go_wp2_with (first | (refine bs0E rfl rfl ?_) | (refine apE rfl _ _ rfl w.heap.size (.slice (some ⟨w.heap.size, 0, none⟩) 0 0) [] rfl hown _ l rfl hWa (by simpa using hn) bA.size ?_; intro v2 w1 P1 G1; rw [List.nil_append] at P1))
  have B1 : Below w.heap.size w w1 := bA.grown G1 bA.size (own_lt hown)
  have hN := oNew_any v2 l w1 (wide_of_own DE P1) (by omega)
  clear P1 G1 hown hWa bA
  refine hN.mono ?_
  rintro e w2 ⟨hbad, hgood⟩
  have HG := hidOf2 hgood
  have HB2 := hidOf2 hbad
  clear hN hgood hbad
  by_cases hc : chkL l = 0
  · obtain ⟨D, R, its, rfl, N2⟩ := HG.out hc
    have B2 := B1.trans (N2.below.mono B1.size)
    have hM := (r8New_any (.slice ao0 l.length cp0) l w2 (HW.out.same B2.size (fun b _ hl => B2.block b hl)) (by omega)).mono (fun _ _ h => And.intro h.1 (h.2.2 hc))
    have HN2 := hidOf2 N2
    clear HG HB2 N2
    go_wp2_with fail
    refine hM.mono ?_
    rintro e w3 ⟨b3, E, vL, vV, rfl, hE3, R3⟩
    have B3 := B2.trans (b3.mono B2.size)
    have hC := oCheck_any (.slice ao0 l.length cp0) l w3 (HW.out.same B3.size (fun b _ hl => B3.block b hl)) (by omega)
    rw [hc] at hC
    have HR3 := hidOf2 R3
    clear hM R3
    go_wp2_with fail
    refine hC.mono ?_
    rintro e w4 ⟨rfl, b4⟩
    have B4 := B3.trans (b4.mono B3.size)
    have D4 := (HN2.out.dct.below b3).below b4
    have R4 := HR3.out.below b4
    have bZ : Below w4.heap.size w4 (w4.alloc (.cells #[.pointer (some ⟨D, 0, none⟩), .pointer (some ⟨E, 0, none⟩)] 34)) := (Below.refl _ _).alloc (Nat.le_refl _) _
    have HF : Hid (Bg w w4.heap.size D R E its l vL vV (w4.alloc (.cells #[.pointer (some ⟨D, 0, none⟩), .pointer (some ⟨E, 0, none⟩)] 34))) := 
      ⟨heap_alloc_new _ _, D4.below bZ, HN2.out.vals, HN2.out.perm, fun i hi => Nat.le_trans B1.size (HN2.out.base i hi), Nat.le_trans B1.size HN2.out.bD, B4.size, Nat.le_trans B2.size hE3, R4.below bZ, B4.trans (bZ.mono B4.size)⟩
    have hbp := build_pair D E
    have hcc := hc
    clear hC HN2 HR3 D4 R4 hc b3 b4
    go_wp2
    go_ret2
    exact ⟨HF.out.below, fun h => absurd hcc h, fun _ => ⟨_, D, R, E, its, vL, vV, rfl, HF.out⟩⟩
  · obtain ⟨rfl, b2⟩ := HB2.out hc
    have B2 := B1.trans (b2.mono B1.size)
    have hM := (r8New_any (.slice ao0 l.length cp0) l w2 (HW.out.same B2.size (fun b _ hl => B2.block b hl)) (by omega)).mono (fun _ _ h => And.intro h.1 (h.2.1 hc))
    clear HG HB2
    have HCC := hidOf2 hc
    have HCO := hidOf2 (fun x hb => oCheck_any (.slice ao0 l.length cp0) l x (HW.out.same (Below.size hb) (fun b _ hl => Below.block hb b hl)) (by omega))
    clear hc HW
    go_wp2_with fail
    refine hM.mono ?_
    rintro e w3 ⟨b3, rfl⟩
    have B3 := B2.trans (b3.mono B2.size)
    have hC := HCO.out w3 B3
    clear hM HCO
    go_wp2_with fail
    refine hC.mono ?_
    rintro e w4 ⟨rfl, b4⟩
    have B4 := B3.trans (b4.mono B3.size)
    clear hC
    go_wp2
    go_ret2
    exact ⟨B4, fun _ => rfl, fun h => absurd h HCC.out⟩
end Go.Proofs.Ythalhidebkhclaa
namespace Go.Proofs.Ythalhidebkhclaa
open Go.RowKit Go.Proofs.Ty Go.Sort Go.Lib
set_option linter.unusedVariables false
set_option maxRecDepth 1000000
set_option linter.unusedSimpArgs false
/-- What Set tells, and leaves. -/
def setc (its : List Im) (ix sb : Nat) (v : Vl) : Nat := match fnd its ix sb with
  | none => 4
  | some i => if i.e.ac = 3 then 1 else if v.t ≠ i.e.df.t then 1 else v.chk
def sett (its : List Im) (ix sb : Nat) (v : Vl) : List Im := match fnd its ix sb with
  | none => its
  | some i => if setc its ix sb v = 0 then setV its i.b v.plain else its
end Go.Proofs.Ythalhidebkhclaa
namespace Go.Proofs.Ythalhidebkhclaa
open Go.RowKit Go.Proofs.Ty Go.Sort Go.Lib
set_option linter.unusedVariables false
set_option maxRecDepth 1000000
set_option linter.unusedSimpArgs false
theorem fnd_setV (its : List Im) (b : Nat) (v : Vl) (ix sb : Nat) : fnd (setV its b v) ix sb = (fnd its ix sb).map (fun x => if x.b = b then ⟨x.b, x.e, v⟩ else x) := by
  unfold fnd setV
  rw [List.find?_map]
  congr 1
  congr 1
  funext x
  simp only [Function.comp]
  split <;> rfl
theorem getV_setV (its : List Im) (b : Nat) (v : Vl) (ix sb : Nat) (h : ∀ i, fnd its ix sb = some i → i.b ≠ b) : getV (setV its b v) ix sb = getV its ix sb := by
  unfold getV
  rw [fnd_setV]
  cases hf : fnd its ix sb with
  | none => rfl
  | some i => simp only [Option.map_some]; rw [if_neg (h i hf)]
theorem fnd_place {its : List Im} {ix sb : Nat} {i : Im} (h : fnd its ix sb = some i) : i.e.ix = ix ∧ i.e.sb = sb := by
  have := List.find?_some h
  simpa using this
theorem mem_b {its : List Im} (hd : (its.map Im.b).Nodup) {x y : Im} (hx : x ∈ its) (hy : y ∈ its) (e : x.b = y.b) : x = y := by
  obtain ⟨m, hm, rfl⟩ := List.getElem_of_mem hx
  obtain ⟨n, hn, rfl⟩ := List.getElem_of_mem hy
  have h1 := List.pairwise_iff_getElem.1 hd
  have hmn : m = n := by
    rcases Nat.lt_trichotomy m n with h2 | h2 | h2
    · exact (h1 m n (by simpa using hm) (by simpa using hn) h2 (by simp only [List.getElem_map]; exact e)).elim
    · exact h2
    · exact (h1 n m (by simpa using hn) (by simpa using hm) h2 (by simp only [List.getElem_map]; exact e.symm)).elim
  subst hmn; rfl
/-- What is written to one place changes no other. -/
theorem apart_set {its : List Im} (hd : (its.map Im.b).Nodup) {ix sb jx jb : Nat} {i : Im} (hf : fnd its ix sb = some i) (hne : jx ≠ ix ∨ jb ≠ sb) (v : Vl) : getV (setV its i.b v) jx jb = getV its jx jb := by
  refine getV_setV its i.b v jx jb (fun x hx e => ?_)
  have := mem_b hd (fnd_mem hx) (fnd_mem hf) e
  subst this
  have h1 := fnd_place hx
  have h2 := fnd_place hf
  omega
theorem apart_wrt {its : List Im} (hd : (its.map Im.b).Nodup) {ix sb jx jb : Nat} (hne : jx ≠ ix ∨ jb ≠ sb) (l : List UInt8) : getV (wrt its ix sb l) jx jb = getV its jx jb := by
  unfold wrt
  split
  · cases hf : fnd its ix sb with
    | none => rfl
    | some i => exact apart_set hd hf hne _
  · rfl
theorem apart_sett {its : List Im} (hd : (its.map Im.b).Nodup) {ix sb jx jb : Nat} (hne : jx ≠ ix ∨ jb ≠ sb) (v : Vl) : getV (sett its ix sb v) jx jb = getV its jx jb := by
  unfold sett
  cases hf : fnd its ix sb with
  | none => rfl
  | some i =>
    simp only
    split
    · exact apart_set hd hf hne _
    · rfl
theorem Al.sett {es : List En} {bs : List Nat} {its : List Im} (h : Al es bs its) (ix sb : Nat) (v : Vl) : Al es bs (sett its ix sb v) := by
  unfold Go.Proofs.Ythalhidebkhclaa.sett
  split
  · exact h
  · split
    · exact h.set _ _
    · exact h
section
variable {w : World} {X D R E qa : Nat} {a : A8} {its : List Im} {x y : World}
end
theorem own_kp {its : List Im} {D R : Nat} {x y : World} {B : Nat} {c n : Nat} {v : Value} {xs : List Value} (h : x.ownsRow B 42 c v n xs) (hd : Dct D R its x) (hK : Kp (its.map Im.b) x y) : y.ownsRow B 42 c v n xs := by
  refine ⟨h.1, h.2.imp id ?_⟩
  rintro ⟨g, cap, cur, e1, e2, e3, e4⟩
  refine ⟨g, cap, cur, e1, e2, (hK.block g (Array.getElem?_eq_some_iff.1 e3).1 (fun hm => ?_)).trans e3, e4⟩
  obtain ⟨i, hi, e⟩ := List.mem_map.1 hm
  have h1 := hd.items i hi
  rw [show i.b = g from e] at h1
  have h2 : x.heap[g]? = some (.cells (imC i.e i.v).toArray 76 (0, 0)) := h1
  rw [e3] at h2
  simp at h2
theorem load_pd (x : World) (X k : Nat) (p : Option Addr) (hc : x.cell? ⟨X, k, none⟩ = some (.pointer p)) : (loadVar 31 ⟨X, k, none⟩).run Try.prog x = .ok (.pointer p) x := by
  simp [go_sem, run_underlying Try.underlying31, hc]
theorem exec_idxV {a : Act} {o : Oper} {s i : Operand} {b off n c k : Nat} (ho : o.op = .indexAddr 68 s i) (hs : a.eval s = .slice (some ⟨b, off, none⟩) n c) (hi : a.eval i = .int .i64 (k : Int)) (hk : k < n) (w : World) : (execOp a.eval o).run Try.prog w = .ok (.value (.pointer (some ⟨b, off + k * 3, none⟩))) w := by
  have h1 : (0 : Int) ≤ (k : Int) := by omega
  have h2 : (k : Int) < (n : Int) := by omega
  unfold execOp
  simp only [ho, hs, hi]
  obtain ⟨i0, hi0, hz0⟩ := info_size infoV
  simp [go_sem, run_underlying Try.underlying68, sizeOf, typeInfo, hi0, hz0, h1, h2, Addr.add_mid]
theorem quiet_pure {W : World} {ops : Array Oper} {rest : List Oper} {p : Oper} {a : Act} {Q : Act → Prop} (v : Value) (hgd : Region.wanted p (yielded ops a.tmps) = true) (hr : ∀ w, (execOp a.eval p).run Try.prog w = .ok (.value v) w)
    (hh : wpQuiet Try.prog ops (fun w' => ∃ x : Later W, w' = x.now) Q rest (a.put p.dst v)) : wpQuiet Try.prog ops (fun w' => ∃ x : Later W, w' = x.now) Q (p :: rest) a := by
  unfold wpQuiet
  rw [if_pos hgd]
  refine ⟨v, ?_, hh⟩
  rintro w' ⟨y, rfl⟩
  unfold Oper.quietAt
  rw [hr]
  exact ⟨rfl, rfl⟩
theorem own0V (w : World) : (w.alloc (.cells #[] 42)).ownsRow w.heap.size 42 3 (.slice (some ⟨w.heap.size, 0, none⟩) 0 0) ([] : List Vl).length (flatW DV []) := own_empty_e w 42 3
section
variable {w : World} {ops : Array Oper} {rest : List Oper} {o : Oper} {a : Act} {Q : Exit → Act → World → Prop}
theorem bs0V (hgd : Region.wanted o (yielded ops a.tmps) = true) (ho : o.op = .buildSlice 68 0 #[]) (hh : wpList Try.prog ops Q rest (a.put o.dst (.slice (some ⟨w.heap.size, 0, none⟩) 0 0)) (w.alloc (.cells #[] 42))) : wpList Try.prog ops Q (o :: rest) a w :=
  BigFrame.wpList_want hgd fun _ hK => wp_bs0g Try.underlying68 infoVz ho (hK _ _ hh)
theorem apV (hgd : Region.wanted o (yielded ops a.tmps) = true) (s x : Operand) (ho : o.op = .call { callee := .builtin .append, args := #[s, x], argTypes := #[68, 68] })
    (base : Nat) (v : Value) (xs : List Vl) (hs : a.eval s = v) (hown : w.ownsRow base 42 3 v xs.length (flatW DV xs))
    (vx : Value) (l : List Vl) (hx : a.eval x = vx) (hB : Wide 3 vlC w vx l) (h63 : xs.length + l.length ≤ 1172812402927) (hbase : base ≤ w.heap.size)
    (h : ∀ v' w', w'.ownsRow base 42 3 v' (xs ++ l).length (flatW DV (xs ++ l)) → w.grownBy w' v.ownBlock → wpList Try.prog ops Q rest (a.put o.dst v') w') : wpList Try.prog ops Q (o :: rest) a w :=
  BigFrame.wpList_want hgd fun _ hK => wp_append_wide DV s x 68 42 _ 32 Try.underlying68 infoVz rfl ho base v xs hs hown vx l hx hB (by unfold maxLen; omega) (by omega) hbase fun v' w' h1 h2 => hK _ _ (h v' w' h1 h2)
end
end Go.Proofs.Ythalhidebkhclaa
namespace Go.Proofs.Ythalhidebkhclaa
open Go.RowKit Go.Proofs.Ty Go.Sort Go.Lib
set_option linter.unusedVariables false
set_option maxRecDepth 1000000
set_option linter.unusedSimpArgs false
def zE : Array Value := #[.int .u16 0, .int .u8 0, .int .i64 0, .bool false, .bool false, .int .i64 0, .int .u64 0, .string ⟨#[]⟩, .int .i64 0, .int .u64 0, .string ⟨#[]⟩, .int .i64 0, .int .u64 0, .string ⟨#[]⟩]
theorem run_make_ents (n : Nat) (hn : n ≤ 1024) (w : World) : (Instr.makeSlice 22 (.int .i64 n) (.int .i64 n)).run Try.prog w = .ok (.slice (some ⟨w.heap.size, 0, none⟩) n n) (w.alloc (.cells (madeCells zE (n * 14)) 59)) := by
  obtain ⟨i0, hi, hz0, hz1, hz2⟩ := info_parts infoEz
  have := run_make (P := Try.prog) w 22 59 i0 _ Try.underlying22 hi hz0 .i64 .i64 n n (by omega) (Int.le_refl _) (by rw [hz2]; omega) (by omega)
  simp only [Int.toNat_natCast, hz1] at this
  exact this
/-- So many entries are laid down. -/
structure Ls (w : World) (g : Nat) (its : List Im) (k : Nat) (x : World) : Prop where
  bel : Below w.heap.size w x
  base : w.heap.size ≤ g
  lt : g < x.heap.size
  ht : x.there g 0 (its.length * 14)
  hn : ∀ m (hm : m < its.length), m < k → x.rangeAt g (m * 14) (enC its[m].e)
theorem Ls.start (w : World) (its : List Im) : Ls w w.heap.size its 0 (w.alloc (.cells (madeCells zE (its.length * 14)) 59)) := by
  refine ⟨(Below.refl _ _).alloc (Nat.le_refl _) _, Nat.le_refl _, by rw [size_alloc]; omega, fun j hj => ?_, fun m _ h => by omega⟩
  have hh := heap_alloc_new w (.cells (madeCells zE (its.length * 14)) 59)
  refine ⟨?_, Lib.frozen_of_heap hh _⟩
  rw [Lib.cell_of_heap hh]
  have : 0 + j < (madeCells zE (its.length * 14)).size := by rw [size_madeCells]; omega
  rw [Array.getElem?_eq_getElem this]; rfl
theorem Ls.step {w : World} {g : Nat} {its : List Im} {k : Nat} {x : World} (h : Ls w g its k x) (hk : k < its.length) : x.there g (k * 14) 14 ∧ Ls w g its (k + 1) (x.setCells g (k * 14) (enC its[k].e)) := by
  have ht : x.there g (k * 14) 14 := fun j hj => by
    have := h.ht (k * 14 + j) (by have : (k + 1) * 14 ≤ its.length * 14 := Nat.mul_le_mul_right _ hk; omega)
    rw [Nat.zero_add] at this
    exact this
  refine ⟨ht, h.bel.grown (setCells_kept x g (k * 14) _) h.bel.size (fun j hj => by cases hj; exact h.base), h.base, by rw [setCells_size]; exact h.lt, World.there_setCells h.ht _ _ _, fun m hm hmk => ?_⟩
  rcases Nat.lt_or_ge m k with h3 | h3
  · exact World.rangeAt_setCells_apart (h.hn m hm h3) g (k * 14) _ (.inr (.inl (by rw [enC_len]; omega)))
  · have : m = k := by omega
    subst this
    exact World.rangeAt_setCells_same x g (m * 14) _ (by rw [enC_len]; exact ht)
theorem Ls.wide {w : World} {g : Nat} {its : List Im} {x : World} (h : Ls w g its its.length x) : Wide 14 enC x (.slice (some ⟨g, 0, none⟩) (its.map Im.e).length its.length) (its.map Im.e) := by
  refine ⟨some ⟨g, 0, none⟩, its.length, rfl, (fun h => by cases h), fun k hk => ⟨g, 0, rfl, h.lt, ?_⟩⟩
  have hk' : k < its.length := by simpa using hk
  rw [List.getElem_map, Nat.zero_add]
  exact h.hn k hk' hk'
theorem sdEm {w : World} {b o : Nat} (ht : w.there b o 14) {ops : Array Oper} {rest : List Oper} {p : Oper} {a : Act} {Q : Exit → Act → World → Prop} (e : En) (hgd : p.guard = none) (x y : Operand) (ho : p.op = .store 59 x y) (hx : a.eval x = .pointer (some ⟨b, o, none⟩)) (hy : a.eval y = .agg e.arr)
    (hh : wpList Try.prog ops Q rest (a.put p.dst undef) (w.setCells b o (enC e))) : wpList Try.prog ops Q (p :: rest) a w :=
  wpList_store_mid hgd 59 x y ho b o e.arr hx hy ht (by show _ = some 14; exact infoE) (all_oneCell_toArray e.one) hh
end Go.Proofs.Ythalhidebkhclaa
namespace Go.Proofs.Ythalhidebkhclaa
open Go.RowKit Go.Proofs.Ty Go.Sort Go.Lib
set_option linter.unusedVariables false
set_option maxRecDepth 1000000
set_option linter.unusedSimpArgs false
/-- Entries held against each other. -/
def En.lits (e : En) : List Lit := [.int .u16 e.ix, .int .u8 e.sb, .int .i64 e.ac, .bool e.mp, .bool e.li] ++ e.mn.lits ++ e.mx.lits ++ e.df.lits
theorem keyE : Try.prog.keyTypeAt 4 59 = true := by kernel_rfl
theorem guardE : Try.prog.eqGuardType Try.prog.depth 59 = false := by kernel_rfl
theorem en_formed (e : En) : (Value.agg e.arr).formed Try.prog 59 = true := by
  have c1 : Try.prog.cellsOf 59 = 14 := by kernel_rfl
  simp [Value.formed, Try.underlying59, c1, En.arr, enC]
theorem en_keyLits (e : En) (d : Nat) : Try.prog.keyLits (d + 4) 59 e.arr.toList = some e.lits := by
  have h1 := e.hix
  have h2 := e.hsb
  have h3 := e.hac
  have k1 := vl_keyLits e.mn d
  have k2 := vl_keyLits e.mx d
  have k3 := vl_keyLits e.df d
  have c1 : Try.prog.cellsOf 42 = 3 := by kernel_rfl
  have c2 : Try.prog.cellsOf 3 = 1 := by kernel_rfl
  have c3 : Try.prog.cellsOf 45 = 1 := by kernel_rfl
  have c4 : Try.prog.cellsOf 5 = 1 := by kernel_rfl
  have c5 : Try.prog.cellsOf 4 = 1 := by kernel_rfl
  have c6 : Try.prog.cellsOf 59 = 14 := by kernel_rfl
  have w1 : (Lit.int .u16 e.ix).wf = true := by simp [Lit.wf, IntKind.min, IntKind.max, IntKind.signed, IntKind.bits]; omega
  have w2 : (Lit.int .u8 e.sb).wf = true := by simp [Lit.wf, IntKind.min, IntKind.max, IntKind.signed, IntKind.bits]; omega
  have w3 : (Lit.int .i64 e.ac).wf = true := by simp [Lit.wf, IntKind.min, IntKind.max, IntKind.signed, IntKind.bits]; omega
  simp only [Vl.arr] at k1 k2 k3
  have s1 : Try.prog.keyLits (d + 3) 45 [.int .u16 e.ix] = some [.int .u16 e.ix] := by simp [Program.keyLits, Try.underlying45, w1]
  have s2 : Try.prog.keyLits (d + 3) 5 [.int .u8 e.sb] = some [.int .u8 e.sb] := by simp [Program.keyLits, Try.underlying5, w2]
  have s3 : Try.prog.keyLits (d + 3) 3 [.int .i64 e.ac] = some [.int .i64 e.ac] := by simp [Program.keyLits, Try.underlying3, w3]
  have s4 : Try.prog.keyLits (d + 3) 4 [.bool e.mp] = some [.bool e.mp] := by simp [Program.keyLits, Try.underlying4]
  have s5 : Try.prog.keyLits (d + 3) 4 [.bool e.li] = some [.bool e.li] := by simp [Program.keyLits, Try.underlying4]
  unfold Program.keyLits
  simp [En.arr, enC, En.lits, Try.underlying59, c1, c2, c3, c4, c5, c6, s1, s2, s3, s4, s5, k1, k2, k3]
theorem enSame (e : En) (w : World) : (binOp .neq 59 (.agg e.arr) (.agg e.arr)).run Try.prog w = .ok (.bool false) w := by
  obtain ⟨r, hr, hiff⟩ := run_equalIn_deep (10000 - 4) 4 59 keyE w 4 4 (.agg e.arr) (.agg e.arr) e.lits e.lits (en_formed e) (en_formed e) (en_keyLits e 0) (en_keyLits e 0)
  have e1 : r = true := hiff.2 rfl
  have hq : (Op.equal 59 (.agg e.arr) (.agg e.arr)).run Try.prog w = .ok true w := by rw [← e1]; exact hr
  simp [binOp, hq]
end Go.Proofs.Ythalhidebkhclaa
namespace Go.Proofs.Ythalhidebkhclaa
open Go.RowKit Go.Proofs.Ty Go.Sort Go.Lib
set_option linter.unusedVariables false
set_option maxRecDepth 1000000
set_option linter.unusedSimpArgs false
end Go.Proofs.Ythalhidebkhclaa
namespace Go.Proofs.Ythalhidebkhclaa
open Go.RowKit Go.Proofs.Ty Go.Sort Go.Lib
set_option linter.unusedVariables false
set_option maxRecDepth 1000000
set_option linter.unusedSimpArgs false
def er (i : Im) : En × Vl := (i.e, i.v)
/-- The same entries with the same values. -/
def Tw (a b : List Im) : Prop := a.map er = b.map er
theorem Tw.e {a b : List Im} (h : Tw a b) : a.map Im.e = b.map Im.e := by
  have : ∀ l : List Im, l.map Im.e = (l.map er).map Prod.fst := fun l => by rw [List.map_map]; rfl
  rw [this, this, h]
theorem fnd_er (a : List Im) (ix sb : Nat) : (fnd a ix sb).map er = (a.map er).find? (fun p => p.1.ix == ix && p.1.sb == sb) := by
  unfold fnd
  rw [List.find?_map]
  rfl
theorem Tw.fnd {a b : List Im} (h : Tw a b) (ix sb : Nat) : (fnd a ix sb).map er = (Go.Proofs.Ythalhidebkhclaa.fnd b ix sb).map er := by rw [fnd_er, fnd_er, h]
theorem noc_er (a : List Im) (ix : Nat) : noc a ix = if (a.map er).any (fun p => p.1.ix == ix) then 101253137 else 100794368 := by
  unfold noc
  rw [List.any_map]
  rfl
theorem Tw.wc {a b : List Im} (h : Tw a b) (ix sb : Nat) (l : List UInt8) : wc a ix sb l = Go.Proofs.Ythalhidebkhclaa.wc b ix sb l := by
  have hf := h.fnd ix sb
  unfold Go.Proofs.Ythalhidebkhclaa.wc
  cases ha : Go.Proofs.Ythalhidebkhclaa.fnd a ix sb with
  | none =>
    rw [ha] at hf
    cases hb : Go.Proofs.Ythalhidebkhclaa.fnd b ix sb with
    | none => simp only; rw [noc_er, noc_er, h]
    | some j => rw [hb] at hf; cases hf
  | some i =>
    rw [ha] at hf
    cases hb : Go.Proofs.Ythalhidebkhclaa.fnd b ix sb with
    | none => rw [hb] at hf; cases hf
    | some j =>
      rw [hb] at hf
      simp only [Option.map_some, Option.some.injEq, er, Prod.mk.injEq] at hf
      simp only [wcode]
      rw [hf.1]
theorem setV_er {a : List Im} (hd : (a.map Im.b).Nodup) (hs : a.Pairwise (fun x y => x.e.pl < y.e.pl)) {i : Im} (hi : i ∈ a) (v : Vl) : (setV a i.b v).map er = (a.map er).map (fun p => if p.1.pl = i.e.pl then (p.1, v) else p) := by
  unfold setV
  rw [List.map_map, List.map_map]
  apply List.map_congr_left
  intro x hx
  simp only [Function.comp, er]
  by_cases e : x.b = i.b
  · have := mem_b hd hx hi e
    subst this
    rw [if_pos rfl]
    exact (if_pos (show (er x).1.pl = x.e.pl from rfl)).symm
  · have hne : ¬ x.e.pl = i.e.pl := fun h => e (by
      obtain ⟨m, hm, rfl⟩ := List.getElem_of_mem hx
      obtain ⟨n, hn, rfl⟩ := List.getElem_of_mem hi
      have h1 := List.pairwise_iff_getElem.1 hs
      have : m = n := by
        rcases Nat.lt_trichotomy m n with h2 | h2 | h2
        · have := h1 m n hm hn h2; omega
        · exact h2
        · have := h1 n m hn hm h2; omega
      subst this; rfl)
    rw [if_neg e]
    exact (if_neg (show ¬ (er x).1.pl = i.e.pl from hne)).symm
theorem Tw.wrt {a b : List Im} (h : Tw a b) (ha : (a.map Im.b).Nodup) (hb : (b.map Im.b).Nodup) (sa : a.Pairwise (fun x y => x.e.pl < y.e.pl)) (sb' : b.Pairwise (fun x y => x.e.pl < y.e.pl)) (ix sb : Nat) (l : List UInt8) : Tw (wrt a ix sb l) (Go.Proofs.Ythalhidebkhclaa.wrt b ix sb l) := by
  unfold Go.Proofs.Ythalhidebkhclaa.wrt
  rw [h.wc ix sb l]
  split
  · have hf := h.fnd ix sb
    cases hfa : Go.Proofs.Ythalhidebkhclaa.fnd a ix sb with
    | none =>
      rw [hfa] at hf
      cases hfb : Go.Proofs.Ythalhidebkhclaa.fnd b ix sb with
      | none => exact h
      | some j => rw [hfb] at hf; cases hf
    | some i =>
      rw [hfa] at hf
      cases hfb : Go.Proofs.Ythalhidebkhclaa.fnd b ix sb with
      | none => rw [hfb] at hf; cases hf
      | some j =>
        rw [hfb] at hf
        simp only [Option.map_some, Option.some.injEq, er, Prod.mk.injEq] at hf
        show (setV a i.b (decW i.e.df.t l)).map er = (setV b j.b (decW j.e.df.t l)).map er
        rw [setV_er ha sa (fnd_mem hfa), setV_er hb sb' (fnd_mem hfb), hf.1, h]
  · exact h
theorem sav_er (a : List Im) : sav a = (a.map er).flatMap (fun p => svI ⟨0, p.1, p.2⟩) := by
  unfold sav
  rw [List.flatMap_map]
  rfl
theorem Tw.sav {a b : List Im} (h : Tw a b) : sav a = Go.Proofs.Ythalhidebkhclaa.sav b := by rw [sav_er, sav_er, h]
/-- Entries in order, whichever way they came. -/
theorem sorted_eq {a b : List En} (ha : a.Pairwise (fun x y => x.pl < y.pl)) (hb : b.Pairwise (fun x y => x.pl < y.pl)) (hp : a.Perm b) : a = b := by
  induction a generalizing b with
  | nil => exact (List.Perm.nil_eq hp)
  | cons x r ih =>
    cases b with
    | nil => exact absurd hp.length_eq (by simp)
    | cons y s =>
      obtain ⟨h1, h2⟩ := List.pairwise_cons.1 ha
      obtain ⟨k1, k2⟩ := List.pairwise_cons.1 hb
      have hxy : x = y := by
        have m1 : x ∈ y :: s := hp.mem_iff.1 List.mem_cons_self
        have m2 : y ∈ x :: r := hp.mem_iff.2 List.mem_cons_self
        rcases List.mem_cons.1 m1 with e | m1
        · exact e
        · rcases List.mem_cons.1 m2 with e | m2
          · exact e.symm
          · have := k1 x m1; have := h1 y m2; omega
      subst hxy
      rw [ih h2 k2 (List.Perm.cons_inv hp)]
theorem tw_new {a b : List Im} {l m : List En} (sa : a.Pairwise (fun x y => x.e.pl < y.e.pl)) (sb : b.Pairwise (fun x y => x.e.pl < y.e.pl)) (va : ∀ i ∈ a, i.v = i.e.df) (vb : ∀ i ∈ b, i.v = i.e.df) (pa : (a.map Im.e).Perm (l.map En.plain)) (pb : (b.map Im.e).Perm (m.map En.plain)) (hm : m.Perm l) : Tw a b := by
  have he : a.map Im.e = b.map Im.e := sorted_eq (List.pairwise_map.2 sa) (List.pairwise_map.2 sb) (pa.trans ((hm.map En.plain).symm.trans pb.symm))
  have key : ∀ c : List Im, (∀ i ∈ c, i.v = i.e.df) → c.map er = (c.map Im.e).map (fun e => (e, e.df)) := fun c hc => by
    rw [List.map_map]
    apply List.map_congr_left
    intro i hi
    simp only [Function.comp, er, hc i hi]
  unfold Tw
  rw [key a va, key b vb, he]
theorem chkG_perm {s l : List En} (hc : ∀ e ∈ l, e.can = 0) (hn : ((s ++ l).map En.pl).Nodup) : chkG s l = 0 := by
  induction l generalizing s with
  | nil => rfl
  | cons e r ih =>
    rw [chkG, if_neg (by have := hc e List.mem_cons_self; simpa using this), if_neg, ih (fun x hx => hc x (List.mem_cons_of_mem _ hx)) (by simpa using hn)]
    rw [Bool.not_eq_true, List.any_eq_false]
    intro x hx he
    rw [List.map_append, List.nodup_append] at hn
    exact hn.2.2 x.pl (List.mem_map.2 ⟨x, hx, rfl⟩) e.pl (List.mem_map.2 ⟨e, List.mem_cons_self, rfl⟩) (by simpa using he)
/-- Entries that can be can be in whatever order. -/
theorem chkL_perm {l m : List En} (h : chkL l = 0) (hp : m.Perm l) : chkL m = 0 := by
  obtain ⟨h1, h2, h3⟩ := chkL_ok h
  unfold chkL
  rw [if_neg (by rw [hp.length_eq]; omega)]
  refine chkG_perm (fun e he => chkG_all h3 e (hp.mem_iff.1 he)) ?_
  rw [List.nil_append]
  exact (hp.map En.pl).nodup_iff.2 h2
end Go.Proofs.Ythalhidebkhclaa
namespace Go.Proofs.Ythalhidebkhclaa
open Go.RowKit Go.Proofs.Ty
set_option linter.unusedVariables false
set_option maxRecDepth 1000000
/-- What was written is read as it was. -/
theorem chk_plain (v : Vl) : v.plain.chk = v.chk := by
  have hk := kind_le v.t
  by_cases h : kind v.t = 1 ∨ kind v.t = 2
  · rw [Vl.plain_num h]
    unfold Vl.chk chk Vl.setB
    rcases h with h | h <;> simp [h]
  · by_cases h3 : kind v.t = 3 ∨ kind v.t = 4
    · rw [Vl.plain_txt h3]
      unfold Vl.chk chk Vl.setN
      rcases h3 with h | h <;> simp [h]
    · rw [Vl.plain_none (by omega)]
theorem enc_dec (v : Vl) (h : v.chk = 0) : decE v.t v.enc = 0 ∧ decW v.t v.enc = v.plain := by
  have hE : v.enc = if 0 < siz v.t then lowL v.n (siz v.t) else v.s.data.toList := by
    show encV v.t v.n v.s = _
    unfold encV
    rw [if_pos (show chk v.t v.n v.s = 0 from h)]
    rfl
  have hk0 : kind v.t ≠ 0 := by
    intro e
    have : v.chk = 1 := by unfold Vl.chk chk; simp [e]
    omega
  have hz := siz_zero v.t
  have hp := chk_plain v
  rw [h] at hp
  by_cases hs : 0 < siz v.t
  · rw [if_pos hs] at hE
    have hl : v.enc.length = siz v.t := by rw [hE, lowL_length]
    have hk : kind v.t = 1 ∨ kind v.t = 2 := by omega
    have hN : decN v.t v.enc = v.n := by
      rw [← wide_dec hs hl, hE]
      show wv v = v.n
      rcases hk with hk | hk
      · by_cases h1 : v.t = 1
        · have := chk_bool h1
          rw [h] at this
          by_cases hc : wv v = v.n ∧ ¬ 1 < v.n
          · exact hc.1
          · rw [if_neg hc] at this; omega
        · have := chk_num1 hk h1
          rw [h] at this
          by_cases hc : wv v = v.n
          · exact hc
          · rw [if_neg hc] at this; omega
      · have := chk_num2 hk
        rw [h] at this
        by_cases hc : wv v = v.n
        · exact hc
        · rw [if_neg hc] at this; omega
    have hS : decS v.t v.enc = ⟨#[]⟩ := by unfold decS; rw [if_pos hk]
    have hF : fitE v.t v.enc.length = 0 := by
      have := siz_le v.t
      rw [hl]
      unfold fitE
      rw [if_neg hk0, if_neg (by omega), if_neg (by omega)]
    have e1 : decE v.t v.enc = 0 := by
      unfold decE
      rw [hF, hN, hS, if_neg (by simp)]
      rw [Vl.plain_num hk] at hp
      have : chk v.t v.n ⟨#[]⟩ = 0 := hp
      rw [this, if_neg (by simp)]
    refine ⟨e1, ?_⟩
    unfold decW
    rw [if_pos e1, hN, hS, Vl.plain_num hk]
    exact mkV_eq _ _ _
  · rw [if_neg hs] at hE
    have hk : kind v.t = 3 ∨ kind v.t = 4 := by
      have := kind_le v.t
      omega
    have hle : v.s.size ≤ 65536 := by
      have h' : Ty.chk v.t v.n v.s = 0 := h
      unfold chk at h'
      rw [if_neg (by omega), if_neg (by omega), if_neg hk0] at h'
      by_cases hc : 65536 < v.s.size
      · rw [if_pos hc] at h'; omega
      · omega
    have hN : decN v.t v.enc = 0 := by unfold decN; rw [if_neg (by omega), if_neg (by omega)]
    have hS : decS v.t v.enc = v.s := by
      unfold decS
      rw [if_neg (by omega), hE]
    have hF : fitE v.t v.enc.length = 0 := by
      rw [hE]
      unfold fitE
      rw [if_neg hk0, if_neg (by omega), if_neg (by simp; omega)]
    have e1 : decE v.t v.enc = 0 := by
      unfold decE
      rw [hF, hN, hS, if_neg (by simp)]
      rw [Vl.plain_txt hk] at hp
      have : chk v.t 0 v.s = 0 := hp
      rw [this, if_neg (by simp)]
    refine ⟨e1, ?_⟩
    unfold decW
    rw [if_pos e1, hN, hS, Vl.plain_txt hk]
    exact mkV_eq _ _ _
end Go.Proofs.Ythalhidebkhclaa
namespace Go.Proofs.Ythalhidebkhclaa
open Go.Proofs.Ty
set_option linter.unusedVariables false
set_option maxRecDepth 1000000
set_option linter.unusedSimpArgs false
/-- What is saved of one entry: where it is, its bytes. -/
structure Sv where
  ix : Nat
  sb : Nat
  raw : List UInt8
  hix : ix < 65536
  hsb : sb < 256
def Sv.pl (s : Sv) : Nat := s.ix * 256 + s.sb
/-- How many bytes stand behind a head. -/
def hdN (b : List UInt8) : Nat := joinL ((b.drop 3).take 4)
theorem hdN_lt (b : List UInt8) : hdN b < 4294967296 := by
  have h := joinL_lt ((b.drop 3).take 4)
  have h2 : ((b.drop 3).take 4).length ≤ 4 := by rw [List.length_take]; omega
  have h3 : 256 ^ ((b.drop 3).take 4).length ≤ 256 ^ 4 := Nat.pow_le_pow_right (by omega) h2
  have h4 : (256 : Nat) ^ 4 = 4294967296 := by decide
  unfold hdN
  omega
def svOf (b : List UInt8) : Sv := ⟨(b.getD 0 0).toNat + 256 * (b.getD 1 0).toNat, (b.getD 2 0).toNat, (b.drop 7).take (hdN b), by have := (b.getD 0 0).toNat_lt; have := (b.getD 1 0).toNat_lt; omega, (b.getD 2 0).toNat_lt⟩
/-- Bytes as saved values; none, if they are no list. -/
def cutL (ah : Int) (b : List UInt8) : Option (List Sv) :=
  if h0 : b = [] then some [] else if b.length < 7 then none else if b.length - 7 < hdN b then none else if ((svOf b).pl : Int) ≤ ah then none else (cutL ((svOf b).pl : Int) (b.drop (7 + hdN b))).map (svOf b :: ·)
termination_by b.length
decreasing_by
  have : 0 < b.length := List.length_pos_iff.2 h0
  rw [List.length_drop]; omega
theorem cutL_nil (ah : Int) : cutL ah [] = some [] := by rw [cutL]; simp
theorem cutL_short {ah : Int} {b : List UInt8} (h0 : b ≠ []) (h : b.length < 7) : cutL ah b = none := by rw [cutL, dif_neg h0, if_pos h]
theorem cutL_long {ah : Int} {b : List UInt8} (h1 : 7 ≤ b.length) (h : b.length - 7 < hdN b) : cutL ah b = none := by
  have h0 : b ≠ [] := by intro e; subst e; simp at h1
  rw [cutL, dif_neg h0, if_neg (by omega), if_pos h]
theorem cutL_low {ah : Int} {b : List UInt8} (h1 : 7 ≤ b.length) (h : ((svOf b).pl : Int) ≤ ah) : cutL ah b = none := by
  have h0 : b ≠ [] := by intro e; subst e; simp at h1
  rw [cutL, dif_neg h0, if_neg (by omega)]
  split
  · rfl
  · rfl
theorem cutL_go {ah : Int} {b : List UInt8} (h1 : 7 ≤ b.length) (h2 : ¬ b.length - 7 < hdN b) (h : ¬ ((svOf b).pl : Int) ≤ ah) : cutL ah b = (cutL ((svOf b).pl : Int) (b.drop (7 + hdN b))).map (svOf b :: ·) := by
  have h0 : b ≠ [] := by intro e; subst e; simp at h1
  conv => lhs; rw [cutL]
  rw [dif_neg h0, if_neg (by omega), if_neg h2, if_neg h]
theorem cutL_cons {ah : Int} {b : List UInt8} {s : Sv} {r : List Sv} (h : cutL ah b = some (s :: r)) : 7 ≤ b.length ∧ hdN b ≤ b.length - 7 ∧ s = svOf b ∧ cutL (s.pl : Int) (b.drop (7 + hdN b)) = some r := by
  by_cases h0 : b = []
  · subst h0; rw [cutL_nil] at h; simp at h
  · by_cases h1 : b.length < 7
    · rw [cutL_short h0 h1] at h; cases h
    · by_cases h2 : b.length - 7 < hdN b
      · rw [cutL_long (by omega) h2] at h; cases h
      · by_cases h3 : ((svOf b).pl : Int) ≤ ah
        · rw [cutL_low (by omega) h3] at h; cases h
        · rw [cutL_go (by omega) h2 h3] at h
          cases hc : cutL ((svOf b).pl : Int) (b.drop (7 + hdN b)) with
          | none => rw [hc] at h; cases h
          | some t =>
            rw [hc] at h
            simp only [Option.map_some, Option.some.injEq, List.cons.injEq] at h
            obtain ⟨rfl, rfl⟩ := h
            exact ⟨by omega, by omega, rfl, hc⟩
theorem cutL_done {ah : Int} {b : List UInt8} (h : cutL ah b = some []) : b = [] := by
  by_cases h0 : b = []
  · exact h0
  · by_cases h1 : b.length < 7
    · rw [cutL_short h0 h1] at h; cases h
    · by_cases h2 : b.length - 7 < hdN b
      · rw [cutL_long (by omega) h2] at h; cases h
      · by_cases h3 : ((svOf b).pl : Int) ≤ ah
        · rw [cutL_low (by omega) h3] at h; cases h
        · rw [cutL_go (by omega) h2 h3] at h
          cases hc : cutL ((svOf b).pl : Int) (b.drop (7 + hdN b)) with
          | none => rw [hc] at h; cases h
          | some t => rw [hc] at h; simp at h
/-- A list is no longer than its bytes. -/
theorem cutL_len {ah : Int} {b : List UInt8} {l : List Sv} (h : cutL ah b = some l) : l.length ≤ b.length := by
  induction l generalizing ah b with
  | nil => simp
  | cons s r ih =>
    obtain ⟨h1, h2, _, h4⟩ := cutL_cons h
    have := ih h4
    rw [List.length_drop] at this
    simp only [List.length_cons]; omega
end Go.Proofs.Ythalhidebkhclaa
namespace Go.Proofs.Ythalhidebkhclaa
open Go.RowKit Go.Proofs.Ty Go.Sort Go.Lib
set_option linter.unusedVariables false
set_option maxRecDepth 1000000
set_option linter.unusedSimpArgs false
/-- The code with which a list is refused; the items behind it. -/
def ldC (its : List Im) : List Sv → Nat
  | [] => 0
  | s :: r => match fnd its s.ix s.sb with
    | none => 4
    | some i => if i.e.ac ≠ 2 then 4 else if decE i.e.df.t s.raw ≠ 0 then 8 else ldC its r
def putS (its : List Im) (s : Sv) : List Im := match fnd its s.ix s.sb with
  | none => its
  | some i => setV its i.b (decW i.e.df.t s.raw)
def layV (its : List Im) (ss : List Sv) : List Im := ss.foldl putS its
def loadC (its : List Im) (b : List UInt8) : Nat := match cutL (-1) b with
  | none => 8
  | some ss => ldC its ss
def loadI (its : List Im) (b : List UInt8) : List Im := match cutL (-1) b with
  | none => its
  | some ss => if ldC its ss = 0 then layV its ss else its
theorem Al.putS {es : List En} {bs : List Nat} {its : List Im} (h : Al es bs its) (s : Sv) : Al es bs (putS its s) := by
  unfold Go.Proofs.Ythalhidebkhclaa.putS
  split
  · exact h
  · exact h.set _ _
theorem Al.layV {es : List En} {bs : List Nat} {its : List Im} (h : Al es bs its) (ss : List Sv) : Al es bs (layV its ss) := by
  induction ss generalizing its with
  | nil => exact h
  | cons s r ih => exact ih (h.putS s)
theorem Al.loadI {es : List En} {bs : List Nat} {its : List Im} (h : Al es bs its) (b : List UInt8) : Al es bs (loadI its b) := by
  unfold Go.Proofs.Ythalhidebkhclaa.loadI
  split
  · exact h
  · split
    · exact h.layV _
    · exact h
/-- Entries alone tell what is found. -/
theorem fnd_e {a b : List Im} (h : a.map Im.e = b.map Im.e) (ix sb : Nat) : (fnd a ix sb).map Im.e = (fnd b ix sb).map Im.e := by
  have key : ∀ c : List Im, (fnd c ix sb).map Im.e = (c.map Im.e).find? (fun e => e.ix == ix && e.sb == sb) := fun c => by
    unfold fnd
    rw [List.find?_map]
    rfl
  rw [key, key, h]
theorem ldC_e {a b : List Im} (h : a.map Im.e = b.map Im.e) (ss : List Sv) : ldC a ss = ldC b ss := by
  induction ss with
  | nil => rfl
  | cons s r ih =>
    have hf := fnd_e h s.ix s.sb
    rw [ldC, ldC, ih]
    cases ha : fnd a s.ix s.sb with
    | none =>
      rw [ha] at hf
      cases hb : fnd b s.ix s.sb with
      | none => rfl
      | some j => rw [hb] at hf; cases hf
    | some i =>
      rw [ha] at hf
      cases hb : fnd b s.ix s.sb with
      | none => rw [hb] at hf; cases hf
      | some j =>
        rw [hb] at hf
        simp only [Option.map_some, Option.some.injEq] at hf
        simp only
        rw [hf]
/-- What is known of an item, whatever is done. -/
structure Ok (i : Im) : Prop where
  lim : i.e.li = true → ordE i.e.df i.e.mn = 0 ∧ ordE i.e.df i.e.mx = 0
  df : i.e.df.chk = 0
  dfp : decE i.e.df.t i.e.df.enc = 0 ∧ decW i.e.df.t i.e.df.enc = i.e.df
  val : decE i.e.df.t i.v.enc = 0 ∧ decW i.e.df.t i.v.enc = i.v
theorem Ok.t {i : Im} (h : Ok i) : i.v.t = i.e.df.t := by
  have := dec_t i.e.df.t i.e.df.ht i.v.enc h.val.1
  rw [h.val.2] at this
  exact this
theorem Ok.dec {i : Im} (h : Ok i) {l : List UInt8} (hE : decE i.e.df.t l = 0) : Ok ⟨i.b, i.e, decW i.e.df.t l⟩ := by
  have he := (dec_enc i.e.df.t i.e.df.ht l hE).2
  exact ⟨h.lim, h.df, h.dfp, by show decE i.e.df.t (decW i.e.df.t l).enc = 0 ∧ decW i.e.df.t (decW i.e.df.t l).enc = decW i.e.df.t l; rw [he]; exact ⟨hE, rfl⟩⟩
theorem plain_enc_dec {v : Vl} (h : v.chk = 0) : decE v.t v.plain.enc = 0 ∧ decW v.t v.plain.enc = v.plain := by
  have hp : v.plain.chk = 0 := by rw [chk_plain]; exact h
  have h1 := enc_dec v.plain hp
  have h2 := enc_dec v h
  have ht : v.plain.t = v.t := rfl
  rw [ht] at h1
  have h3 : v.plain.enc = v.enc := by
    have e1 := (dec_enc v.t v.ht v.plain.enc h1.1).2
    have e2 := (dec_enc v.t v.ht v.enc h2.1).2
    rw [h2.2] at e2
    exact e2
  rw [h3]
  exact h2
theorem Ok.plain {i : Im} (h : Ok i) {v : Vl} (hc : v.chk = 0) (ht : v.t = i.e.df.t) : Ok ⟨i.b, i.e, v.plain⟩ := by
  refine ⟨h.lim, h.df, h.dfp, ?_⟩
  show decE i.e.df.t v.plain.enc = 0 ∧ decW i.e.df.t v.plain.enc = v.plain
  rw [← ht]
  exact plain_enc_dec hc
theorem ok_new {e : En} (h : e.can = 0) (b : Nat) : Ok ⟨b, e.plain, e.plain.df⟩ := by
  have hg := gd_new h b
  have hd := (can_zero h).1
  have hp : e.plain.df.chk = 0 := by show e.df.plain.chk = 0; rw [chk_plain]; exact hd
  have hpe : decE e.plain.df.t e.plain.df.enc = 0 ∧ decW e.plain.df.t e.plain.df.enc = e.plain.df := plain_enc_dec hd
  exact ⟨hg.lim, hp, hpe, hpe⟩
theorem ok_set {its : List Im} (hd : (its.map Im.b).Nodup) (h : ∀ i ∈ its, Ok i) {i : Im} (hi : i ∈ its) {v : Vl} (hv : Ok ⟨i.b, i.e, v⟩) : ∀ j ∈ setV its i.b v, Ok j := by
  intro j hj
  obtain ⟨y, hy, rfl⟩ := List.mem_map.1 hj
  by_cases e : y.b = i.b
  · rw [if_pos e]
    have := mem_b hd hy hi e
    subst this
    exact hv
  · rw [if_neg e]; exact h y hy
theorem ok_wrt {its : List Im} (hd : (its.map Im.b).Nodup) (h : ∀ i ∈ its, Ok i) (ix sb : Nat) (l : List UInt8) : ∀ i ∈ wrt its ix sb l, Ok i := by
  unfold wrt
  split
  · rename_i hc
    obtain ⟨i, hf, ha, hE, hb⟩ := wc_zero hc
    rw [hf]
    exact ok_set hd h (fnd_mem hf) ((h i (fnd_mem hf)).dec hE)
  · exact h
theorem ok_sett {its : List Im} (hd : (its.map Im.b).Nodup) (h : ∀ i ∈ its, Ok i) (ix sb : Nat) (v : Vl) : ∀ i ∈ sett its ix sb v, Ok i := by
  unfold sett
  cases hf : fnd its ix sb with
  | none => exact h
  | some i =>
    simp only
    split
    · rename_i hc
      unfold setc at hc
      rw [hf] at hc
      simp only at hc
      split at hc
      · exact absurd hc (by decide)
      · split at hc
        · exact absurd hc (by decide)
        · rename_i h1 h2
          exact ok_set hd h (fnd_mem hf) ((h i (fnd_mem hf)).plain hc (Decidable.not_not.1 h2))
    · exact h
theorem ok_layV {its : List Im} (hd : (its.map Im.b).Nodup) (h : ∀ i ∈ its, Ok i) (ss : List Sv) (hc : ldC its ss = 0) : ∀ i ∈ layV its ss, Ok i := by
  induction ss generalizing its with
  | nil => exact h
  | cons s r ih =>
    rw [ldC] at hc
    cases hf : fnd its s.ix s.sb with
    | none => rw [hf] at hc; simp at hc
    | some i =>
      rw [hf] at hc
      simp only at hc
      split at hc
      · exact absurd hc (by decide)
      · split at hc
        · exact absurd hc (by decide)
        · rename_i h1 h2
          have al : Al (its.map Im.e) (its.map Im.b) (putS its s) := Al.putS ⟨rfl, rfl⟩ s
          have e1 : layV its (s :: r) = layV (putS its s) r := rfl
          rw [e1]
          refine ih (by rw [al.b]; exact hd) ?_ (by rw [ldC_e al.e]; exact hc)
          have e2 : putS its s = setV its i.b (decW i.e.df.t s.raw) := by unfold putS; rw [hf]
          rw [e2]
          exact ok_set hd h (fnd_mem hf) ((h i (fnd_mem hf)).dec (Decidable.not_not.1 h2))
theorem ok_loadI {its : List Im} (hd : (its.map Im.b).Nodup) (h : ∀ i ∈ its, Ok i) (b : List UInt8) : ∀ i ∈ loadI its b, Ok i := by
  unfold loadI
  split
  · exact h
  · split
    · rename_i hc; exact ok_layV hd h _ hc
    · exact h
/-- Items with what they had at first. -/
def resetI (its : List Im) : List Im := its.map (fun i => ⟨i.b, i.e, i.e.df⟩)
theorem Al.resetI {es : List En} {bs : List Nat} {its : List Im} (h : Al es bs its) : Al es bs (resetI its) := ⟨by rw [← h.e]; unfold Go.Proofs.Ythalhidebkhclaa.resetI; rw [List.map_map]; rfl, by rw [← h.b]; unfold Go.Proofs.Ythalhidebkhclaa.resetI; rw [List.map_map]; rfl⟩
theorem ok_resetI {its : List Im} (h : ∀ i ∈ its, Ok i) : ∀ i ∈ resetI its, Ok i := by
  intro j hj
  obtain ⟨i, hi, rfl⟩ := List.mem_map.1 hj
  have := h i hi
  exact ⟨this.lim, this.df, this.dfp, this.dfp⟩
/-- Limits: the program's code is the document's. -/
theorem bey_wi {i : Im} (h : Ok i) {l : List UInt8} (hE : decE i.e.df.t l = 0) (hl : i.e.li = true) : wiC i.e (decW i.e.df.t l) = bey i.e (decW i.e.df.t l) := by
  obtain ⟨k1, k2⟩ := h.lim hl
  have c1 := (dec_enc i.e.df.t i.e.df.ht l hE).1
  have t1 := dec_t i.e.df.t i.e.df.ht l hE
  obtain ⟨a1, a2, a3⟩ := ord_zero k1
  obtain ⟨b1, b2, b3⟩ := ord_zero k2
  have e1 : ordE (decW i.e.df.t l) i.e.mn = 0 := zero_ord c1 a2 (t1.trans a3)
  have e2 : ordE (decW i.e.df.t l) i.e.mx = 0 := zero_ord c1 b2 (t1.trans b3)
  have hB : wiB i.e (decW i.e.df.t l) = true := by unfold wiB; rw [e1, e2]; rfl
  unfold wiC bey
  rw [if_neg (show ¬ wiB i.e (decW i.e.df.t l) = false by rw [hB]; simp), if_neg (show ¬ i.e.li = false by rw [hl]; simp)]
/-- Where an entry is, in the document's list. -/
def fiN (L : List En) (ix sb : Nat) : Nat := match L.findIdx? (fun e => e.ix == ix && e.sb == sb) with
  | none => 0
  | some k => k
def fiC (L : List En) (ix sb : Nat) : Nat := match L.findIdx? (fun e => e.ix == ix && e.sb == sb) with
  | none => if L.any (fun e => e.ix == ix) then 101253137 else 100794368
  | some k => 0
theorem fi_none {its : List Im} {ix sb : Nat} (h : fnd its ix sb = none) : fiN (its.map Im.e) ix sb = 0 ∧ fiC (its.map Im.e) ix sb = noc its ix := by
  have h1 : (its.map Im.e).findIdx? (fun e => e.ix == ix && e.sb == sb) = none := by
    rw [List.findIdx?_eq_none_iff]
    intro e he
    obtain ⟨i, hi, rfl⟩ := List.mem_map.1 he
    have := List.find?_eq_none.1 h i hi
    simpa using this
  unfold fiN fiC noc
  rw [h1, List.any_map]
  exact ⟨rfl, rfl⟩
theorem fi_some {its : List Im} {ix sb : Nat} {i : Im} (h : fnd its ix sb = some i) : ∃ k, ∃ hk : k < its.length, its[k] = i ∧ fiN (its.map Im.e) ix sb = k ∧ fiC (its.map Im.e) ix sb = 0 := by
  obtain ⟨k, hk, e1, e2⟩ := List.find?_eq_some_iff_getElem.1 h |>.2
  refine ⟨k, hk, e1, ?_⟩
  have h0 := (List.find?_eq_some_iff_getElem.1 h).1
  have h1 : (its.map Im.e).findIdx? (fun e => e.ix == ix && e.sb == sb) = some k := by
    rw [List.findIdx?_eq_some_iff_getElem]
    refine ⟨by simpa using hk, ?_, fun j hj => ?_⟩
    · simp only [List.getElem_map]; rw [e1]; simpa using h0
    · have := e2 j hj
      simp at this ⊢
      intro g1 g2
      rcases this with g | g
      · exact g g1
      · exact g g2
  unfold fiN fiC
  rw [h1]
  exact ⟨rfl, rfl⟩
theorem setV_get (its : List Im) (b : Nat) (v : Vl) (j : Nat) (hj : j < its.length) (h : j < (setV its b v).length) : (setV its b v)[j] = if its[j].b = b then ⟨its[j].b, its[j].e, v⟩ else its[j] := by
  simp only [setV, List.getElem_map]
/-- A value put at one place, in the program's items and in the document's row. -/
theorem setV_v {its : List Im} (hd : (its.map Im.b).Nodup) {k : Nat} (hk : k < its.length) (v : Vl) : (setV its its[k].b v).map Im.v = (its.map Im.v).set k v := by
  apply List.ext_getElem
  · simp [setV_len]
  · intro j h1 h2
    have hj : j < its.length := by simpa [setV_len] using h1
    rw [List.getElem_set]
    simp only [List.getElem_map]
    rw [setV_get its _ v j hj]
    by_cases e : k = j
    · subst e; simp
    · rw [if_neg e]
      have : its[j].b ≠ its[k].b := fun h => by
        have h3 := List.pairwise_iff_getElem.1 hd
        rcases Nat.lt_or_gt_of_ne e with h4 | h4
        · exact h3 k j (by simpa using hk) (by simpa using hj) h4 (by simp only [List.getElem_map]; exact h.symm)
        · exact h3 j k (by simpa using hj) (by simpa using hk) h4 (by simp only [List.getElem_map]; exact h)
      rw [if_neg this]
end Go.Proofs.Ythalhidebkhclaa
namespace Go.Proofs.Ythalhidebkhclaa
open Go.RowKit Go.Proofs.Ty Go.Sort Go.Lib
set_option linter.unusedVariables false
set_option maxRecDepth 1000000
set_option linter.unusedSimpArgs false
set_option maxHeartbeats 4000000 in
theorem May_any {D R : Nat} {its : List Im} {w : World} (h : Dct D R its w) (ix sb : Nat) (h1 : ix < 65536) (h2 : sb < 256) (vb : Value) (l : List UInt8) (hB : Bytes w vb l) :
    Calls Try.prog 20 #[.pointer (some ⟨D, 0, none⟩), .int .u16 ix, .int .u8 sb, vb] w fun e w' => e = .returned (.int .u32 (wc its ix sb l)) ∧ Below w.heap.size w w' := by
  have hG := weigh_any h ix sb h1 h2 vb l hB
  obtain ⟨ao, cap, rfl⟩ := bytes_shape hB
  clear h hB
  unfold Wg at hG
  generalize wc its ix sb l = C at *
  go_enter Try.func20, Try.ntmps20
  go_wp2_with fail
  refine hG.mono ?_
  rintro e w1 ⟨p, v, rfl, b1, hz⟩
  clear hz hG
  obtain ⟨q, hq⟩ : ∃ q, w1.heap.size = q := ⟨_, rfl⟩
  have g0 : Va q Vl.nul (w1.alloc (.cells #[.int .i64 0, .int .u64 0, .string ⟨#[]⟩] 42)) := hq ▸ Va.new w1 Vl.nul
  have BA := b1.alloc b1.size (.cells #[.int .i64 0, .int .u64 0, .string ⟨#[]⟩] 42)
  have B2 := below_row BA (by have := b1.size; omega) BA.size (q := q) v.arr
  clear BA b1
  go_wp2_with (first | (refine g0.sd v rfl _ _ rfl rfl rfl ?_))
  go_ret
  exact ⟨rfl, B2⟩
/-- What Entry tells of an entry that is there. -/
theorem ent_results {Q : Nat} {e : En} {c : Bool} {w : World} (h : Eb Q e w) (tmps : Array Value) (h6 : tmps[6]?.getD undef = .pointer (some ⟨Q, 0, none⟩)) (h7 : tmps[7]?.getD undef = .bool c) :
    (results Try.f54 tmps).run Try.prog w = .ok (.tuple #[.agg e.arr, .bool c]) w := by
  have l0 : (loadVar 59 ⟨Q, 0, none⟩).run Try.prog w = .ok (.agg e.arr) w := run_ldE h.r0
  simp [Go.results, Try.results54, h6, h7, asAddr, l0]
set_option maxHeartbeats 4000000 in
theorem Entry_some {D R : Nat} {its : List Im} {w : World} (h : Dct D R its w) (ix sb : Nat) (h1 : ix < 65536) (h2 : sb < 256) {i : Im} (hf : fnd its ix sb = some i) :
    Calls Try.prog 54 #[.pointer (some ⟨D, 0, none⟩), .int .u16 ix, .int .u8 sb] w fun e w' => e = .returned (.tuple #[.agg i.e.arr, .bool true]) ∧ Below w.heap.size w w' := by
  obtain ⟨q, hq⟩ : ∃ q, w.heap.size = q := ⟨_, rfl⟩
  have hh : (w.alloc (.cells #[.int .u16 0, .int .u8 0, .int .i64 0, .bool false, .bool false, .int .i64 0, .int .u64 0, .string ⟨#[]⟩, .int .i64 0, .int .u64 0, .string ⟨#[]⟩, .int .i64 0, .int .u64 0, .string ⟨#[]⟩] 59)).heap[q]? = some (.cells #[.int .u16 0, .int .u8 0, .int .i64 0, .bool false, .bool false, .int .i64 0, .int .u64 0, .string ⟨#[]⟩, .int .i64 0, .int .u64 0, .string ⟨#[]⟩, .int .i64 0, .int .u64 0, .string ⟨#[]⟩] 59 (0, 0)) := by rw [← hq]; exact heap_alloc_new _ _
  have bA : Below w.heap.size w (w.alloc (.cells #[.int .u16 0, .int .u8 0, .int .i64 0, .bool false, .bool false, .int .i64 0, .int .u64 0, .string ⟨#[]⟩, .int .i64 0, .int .u64 0, .string ⟨#[]⟩, .int .i64 0, .int .u64 0, .string ⟨#[]⟩] 59)) := (Below.refl _ _).alloc (Nat.le_refl _) _
  have h0 := h.below bA
  have hF := find_some h0 ix sb h1 h2 hf
  have hI := h0.items i (fnd_mem hf)
  have s0 := bA.size
  unfold ptrI at hF
  clear h h0 hf
  go_enter Try.func54, Try.ntmps54
  go_upto_region 1 with fail
  generalize (w.alloc (.cells #[.int .u16 0, .int .u8 0, .int .i64 0, .bool false, .bool false, .int .i64 0, .int .u64 0, .string ⟨#[]⟩, .int .i64 0, .int .u64 0, .string ⟨#[]⟩, .int .i64 0, .int .u64 0, .string ⟨#[]⟩] 59)) = W at *
  try simp only [hq]
  go_wp2_with fail
  refine hF.mono ?_
  rintro e w1 ⟨rfl, b1⟩
  have hh1 : w1.heap[q]? = some (.cells #[.int .u16 0, .int .u8 0, .int .i64 0, .bool false, .bool false, .int .i64 0, .int .u64 0, .string ⟨#[]⟩, .int .i64 0, .int .u64 0, .string ⟨#[]⟩, .int .i64 0, .int .u64 0, .string ⟨#[]⟩] 59 (0, 0)) := (b1.block q (Array.getElem?_eq_some_iff.1 hh).1).trans hh
  have r0 := (hI.below b1).r0
  have B1 := bA.trans (b1.mono s0)
  have hE := Eb.row hh1 i.e
  have B2 := below_row B1 (by omega) B1.size (q := q) i.e.arr
  clear hF bA b1 B1 hI hh
  go_wp2_with (first | (refine ldE r0 rfl _ rfl rfl ?_) | (refine sdE hh1 rfl i.e rfl _ _ rfl rfl rfl ?_))
  exact bodyPost_ret (ent_results hE _ rfl rfl) rfl ⟨rfl, by first | exact B2 | (rw [← hq] at B2 ⊢; exact B2)⟩
/-- The first k items with other values. -/
def layT (g : Im → Vl) (its : List Im) (k : Nat) : List Im := its.mapIdx (fun j x => if j < k then ⟨x.b, x.e, g x⟩ else x)
section
variable {g : Im → Vl} {its : List Im}
theorem layT_len (k : Nat) : (layT g its k).length = its.length := by simp [layT]
theorem layT_zero : layT g its 0 = its := by
  apply List.ext_getElem
  · simp [layT]
  · intro j h1 h2; simp [layT]
theorem layT_full : layT g its its.length = its.map (fun x => ⟨x.b, x.e, g x⟩) := by
  apply List.ext_getElem
  · simp [layT]
  · intro j h1 h2
    simp only [layT, List.getElem_mapIdx, List.getElem_map]
    rw [if_pos (by simpa [layT] using h1)]
theorem layT_b (k : Nat) : (layT g its k).map Im.b = its.map Im.b := by
  apply List.ext_getElem
  · simp [layT]
  · intro j h1 h2
    simp only [layT, List.getElem_mapIdx, List.getElem_map]
    split <;> rfl
theorem layT_get {k : Nat} (hk : k < its.length) (h : k < (layT g its k).length) : (layT g its k)[k] = its[k] := by
  simp [layT]
theorem layT_step (hd : (its.map Im.b).Nodup) {k : Nat} (hk : k < its.length) : setV (layT g its k) its[k].b (g its[k]) = layT g its (k + 1) := by
  apply List.ext_getElem
  · rw [setV_len, layT_len, layT_len]
  · intro j h1 h2
    have hj : j < its.length := by rw [layT_len] at h2; exact h2
    rw [setV_get _ _ _ j (by rw [layT_len]; exact hj)]
    simp only [layT, List.getElem_mapIdx]
    by_cases e : j = k
    · subst e
      rw [if_neg (Nat.lt_irrefl _), if_pos rfl, if_pos (Nat.lt_succ_self _)]
    · have hne : its[j].b ≠ its[k].b := fun h => by
        have h3 := List.pairwise_iff_getElem.1 hd
        rcases Nat.lt_or_gt_of_ne e with h4 | h4
        · exact h3 j k (by simpa using hj) (by simpa using hk) h4 (by simp only [List.getElem_map]; exact h)
        · exact h3 k j (by simpa using hk) (by simpa using hj) h4 (by simp only [List.getElem_map]; exact h.symm)
      by_cases h5 : j < k
      · rw [if_pos h5, if_pos (show j < k + 1 by omega), if_neg hne]
      · rw [if_neg h5, if_neg (show ¬ j < k + 1 by omega), if_neg hne]
theorem layT_same {k : Nat} (hk : k < its.length) (h : g its[k] = its[k].v) : layT g its (k + 1) = layT g its k := by
  apply List.ext_getElem
  · rw [layT_len, layT_len]
  · intro j h1 h2
    simp only [layT, List.getElem_mapIdx]
    by_cases e : j = k
    · subst e
      rw [if_neg (Nat.lt_irrefl _), if_pos (Nat.lt_succ_self _), h]
    · by_cases h5 : j < k
      · rw [if_pos h5, if_pos (show j < k + 1 by omega)]
      · rw [if_neg h5, if_neg (show ¬ j < k + 1 by omega)]
end
end Go.Proofs.Ythalhidebkhclaa
