/- Contracts: Load. -/
import Derived.Test.YtjlbahgjjdfaeaaGreatO17
import Derived.Test.YtjlbahgjjdfaeaaGreatTy11
import Derived.Test.YtjlbahgjjdfaeaaGreatOOp
import Derived.Test.YtjlbahgjjdfaeaaGreatTyL
import Derived.Test.YtjlbahgjjdfaeaaGreatO12
import Derived.Test.YtjlbahgjjdfaeaaGreatTy12
import Derived.Test.YtjlbahgjjdfaeaaGreatQc
import Derived.Test.YtjlbahgjjdfaeaaGreatQ3
namespace Go.Proofs.YtjlbahgjjdfaeaaGreat
open Go.RowKit Go.Proofs.Ty Go.Sort Go.Lib
set_option linter.unusedVariables false
set_option maxRecDepth 1000000
set_option linter.unusedSimpArgs false
theorem low_mod (n k : Nat) : lowL n k = lowL (n % 256 ^ k) k := by
  have h := low_join (lowL n k)
  rw [lowL_length, join_low] at h
  exact h.symm
theorem ext_mod (n b z : Nat) (h : (z = 1 ∧ b = 8) ∨ (z = 2 ∧ b = 16) ∨ (z = 4 ∧ b = 32) ∨ (z = 8 ∧ b = 64)) : extN b n % 256 ^ z = n % 256 ^ z := by
  rcases h with ⟨rfl, rfl⟩ | ⟨rfl, rfl⟩ | ⟨rfl, rfl⟩ | ⟨rfl, rfl⟩ <;> unfold extN <;> split <;> omega
/-- What was read is written as it was. -/
theorem dec_enc (t : Int) (ht : -9223372036854775808 ≤ t ∧ t < 9223372036854775808) (l : List UInt8) (h : decE t l = 0) : (decW t l).chk = 0 ∧ (decW t l).enc = l := by
  have hF : fitE t l.length = 0 := by
    by_cases hc : fitE t l.length = 0
    · exact hc
    · unfold decE at h
      rw [if_pos hc] at h
      exact absurd h hc
  obtain ⟨hk, hl, hm⟩ := fit_zero hF
  have hC : chk t (decN t l) (decS t l) = 0 := by
    by_cases hc : chk t (decN t l) (decS t l) = 0
    · exact hc
    · unfold decE at h
      rw [if_neg (by omega), if_pos hc] at h
      omega
  have hz := siz_zero t
  by_cases hs : 0 < siz t
  · have hll := hl hs
    have hN := decN_lt hs hll
    have hk2 : kind t = 1 ∨ kind t = 2 := by omega
    have hS : decS t l = ⟨#[]⟩ := by unfold decS; rw [if_pos hk2]
    have hW : decW t l = ⟨t, decN t l, ⟨#[]⟩, ht, hN, by decide⟩ := by
      unfold decW
      rw [if_pos h, hS]
      exact mkV_eq _ _ _
    rw [hS] at hC
    rw [hW]
    refine ⟨hC, ?_⟩
    show encV t (decN t l) ⟨#[]⟩ = l
    unfold encV encL
    rw [if_pos hC, if_pos hs]
    have e : decN t l % 256 ^ siz t = joinL l % 256 ^ siz t := by
      unfold decN
      rcases hk2 with hk2 | hk2
      · rw [if_pos hk2]
      · rw [if_neg (by omega), if_pos hk2]
        exact ext_mod _ _ _ (sz2 hk2)
    rw [low_mod, e, ← low_mod, ← hll, low_join]
  · have hN : decN t l = 0 := by unfold decN; rw [if_neg (by omega), if_neg (by omega)]
    have hS : decS t l = ⟨l.toArray⟩ := by unfold decS; rw [if_neg (by omega)]
    have hsz : (⟨l.toArray⟩ : ByteArray).size ≤ maxLen := by
      simp only [ByteArray.size, List.size_toArray, maxLen]
      omega
    have hW : decW t l = ⟨t, 0, ⟨l.toArray⟩, ht, by decide, hsz⟩ := by
      unfold decW
      rw [if_pos h, hS, hN]
      exact mkV_eq _ _ _
    rw [hS, hN] at hC
    rw [hW]
    refine ⟨hC, ?_⟩
    show encV t 0 ⟨l.toArray⟩ = l
    unfold encV encL
    rw [if_pos hC, if_neg hs]
theorem dec_t (t : Int) (ht : -9223372036854775808 ≤ t ∧ t < 9223372036854775808) (l : List UInt8) (h : decE t l = 0) : (decW t l).t = t := by
  have hF : fitE t l.length = 0 := by
    by_cases hc : fitE t l.length = 0
    · exact hc
    · unfold decE at h
      rw [if_pos hc] at h
      exact absurd h hc
  obtain ⟨hk, hl, hm⟩ := fit_zero hF
  have hz := siz_zero t
  by_cases hs : 0 < siz t
  · have hll := hl hs
    have hN := decN_lt hs hll
    have hk2 : kind t = 1 ∨ kind t = 2 := by omega
    have hS : decS t l = ⟨#[]⟩ := by unfold decS; rw [if_pos hk2]
    have hW : decW t l = ⟨t, decN t l, ⟨#[]⟩, ht, hN, by decide⟩ := by
      unfold decW
      rw [if_pos h, hS]
      exact mkV_eq _ _ _
    rw [hW]
  · have hN : decN t l = 0 := by unfold decN; rw [if_neg (by omega), if_neg (by omega)]
    have hS : decS t l = ⟨l.toArray⟩ := by unfold decS; rw [if_neg (by omega)]
    have hsz : (⟨l.toArray⟩ : ByteArray).size ≤ maxLen := by
      simp only [ByteArray.size, List.size_toArray, maxLen]
      omega
    have hW : decW t l = ⟨t, 0, ⟨l.toArray⟩, ht, by decide, hsz⟩ := by
      unfold decW
      rw [if_pos h, hS, hN]
      exact mkV_eq _ _ _
    rw [hW]
theorem ord_zero {a b : Vl} (h : ordE a b = 0) : a.chk = 0 ∧ b.chk = 0 ∧ a.t = b.t := by
  unfold ordE at h
  by_cases h1 : a.chk = 0
  · rw [if_neg (by simpa using h1)] at h
    by_cases h2 : b.chk = 0
    · rw [if_neg (by simpa using h2)] at h
      by_cases h3 : a.t = b.t
      · exact ⟨h1, h2, h3⟩
      · rw [if_pos h3] at h; exact absurd h (by decide)
    · rw [if_pos h2] at h; exact absurd h h2
  · rw [if_pos h1] at h; exact absurd h h1
theorem zero_ord {a b : Vl} (h1 : a.chk = 0) (h2 : b.chk = 0) (h3 : a.t = b.t) : ordE a b = 0 := by
  unfold ordE
  rw [if_neg (by simpa using h1), if_neg (by simpa using h2), if_neg (by simpa using h3)]
theorem num_plain {v : Vl} (h : 0 < siz v.t) : v.plain.t = v.t ∧ v.plain.n = v.n := by
  have hz := siz_zero v.t
  have hk : kind v.t = 1 ∨ kind v.t = 2 := by omega
  rw [Vl.plain_num hk]
  exact ⟨rfl, rfl⟩
theorem num_chk {v : Vl} (h : 0 < siz v.t) : v.plain.chk = v.chk := by
  have hz := siz_zero v.t
  have hk : kind v.t = 1 ∨ kind v.t = 2 := by omega
  obtain ⟨h1, h2⟩ := num_plain h
  unfold Vl.chk
  rw [h1, h2]
  unfold Ty.chk
  rcases hk with hk | hk <;> simp [hk]
theorem num_ordE {v u : Vl} (h : 0 < siz v.t) : ordE v.plain u = ordE v u := by
  unfold ordE
  rw [num_chk h, (num_plain h).1]
theorem num_ordN {v u : Vl} (h : 0 < siz v.t) : ordN v.plain u = ordN v u := by
  have hz := siz_zero v.t
  have hk : kind v.t = 1 ∨ kind v.t = 2 := by omega
  obtain ⟨h1, h2⟩ := num_plain h
  unfold ordN
  rw [num_ordE h]
  unfold ordR
  rw [h1, h2]
  rcases hk with hk | hk <;> simp [hk]
/-- What is known of an item while nothing is set or loaded. -/
structure Gd (i : Im) : Prop where
  lim : i.e.li = true → ordE i.e.df i.e.mn = 0 ∧ ordE i.e.df i.e.mx = 0
  val : i.e.li = true → wiB i.e i.v = true ∧ wiC i.e i.v = 0
  con : i.e.ac ≠ 2 → i.e.ac ≠ 1 → i.v = i.e.df
theorem can_zero {e : En} (h : e.can = 0) : e.df.chk = 0 ∧ (e.li = true → 0 < siz e.df.t ∧ e.btw = true) := by
  unfold En.can at h
  by_cases h1 : e.df.chk = 0
  · rw [if_neg (by simpa using h1)] at h
    refine ⟨h1, fun hl => ?_⟩
    split at h
    · exact absurd h (by decide)
    · split at h
      · exact absurd h (by decide)
      · rename_i h3
        exact Decidable.not_not.1 (fun h4 => h3 ⟨hl, h4⟩)
  · rw [if_pos h1] at h; exact absurd h h1
theorem chkG_all {s l : List En} (h : chkG s l = 0) : ∀ e ∈ l, e.can = 0 := by
  induction l generalizing s with
  | nil => intro e he; simp at he
  | cons x r ih =>
    rw [chkG] at h
    split at h
    · rename_i h1; exact absurd h h1
    · rename_i h1
      split at h
      · exact absurd h (by decide)
      · intro e he
        rcases List.mem_cons.1 he with rfl | he
        · exact Decidable.not_not.1 h1
        · exact ih h e he
theorem gd_new {e : En} (h : e.can = 0) (b : Nat) : Gd ⟨b, e.plain, e.plain.df⟩ := by
  obtain ⟨h1, h2⟩ := can_zero h
  have key : e.li = true → (ordE e.plain.df e.mn = 0 ∧ ordE e.plain.df e.mx = 0) ∧ 0 ≤ ordN e.plain.df e.mn ∧ ordN e.plain.df e.mx ≤ 0 := fun hl => by
    obtain ⟨hz, hb⟩ := h2 hl
    show (ordE e.df.plain e.mn = 0 ∧ ordE e.df.plain e.mx = 0) ∧ 0 ≤ ordN e.df.plain e.mn ∧ ordN e.df.plain e.mx ≤ 0
    rw [num_ordE hz, num_ordE hz, num_ordN hz, num_ordN hz]
    unfold En.btw at hb
    simpa [and_assoc] using hb
  refine ⟨fun hl => (key hl).1, fun hl => ?_, fun _ _ => rfl⟩
  obtain ⟨⟨k1, k2⟩, k3, k4⟩ := key hl
  have hB : wiB e.plain e.plain.df = true := by
    show (decide (ordE e.plain.df e.mn = 0) && decide (ordE e.plain.df e.mx = 0)) = true
    rw [k1, k2]; rfl
  refine ⟨hB, ?_⟩
  show wiC e.plain e.plain.df = 0
  unfold wiC
  rw [if_neg (by rw [hB]; simp), if_neg (show ¬ 0 < ordN e.plain.df e.plain.mx from by show ¬ 0 < ordN e.plain.df e.mx; omega), if_neg (show ¬ ordN e.plain.df e.plain.mn < 0 from by show ¬ ordN e.plain.df e.mn < 0; omega)]
theorem gd_write {i : Im} (h : Gd i) (l : List UInt8) (ha : i.e.ac = 1 ∨ i.e.ac = 2) (hE : decE i.e.df.t l = 0) (hb : bey i.e (decW i.e.df.t l) = 0) : Gd ⟨i.b, i.e, decW i.e.df.t l⟩ := by
  refine ⟨h.lim, fun hl => ?_, fun h1 h2 => by rcases ha with h | h <;> contradiction⟩
  have hl : i.e.li = true := hl
  obtain ⟨k1, k2⟩ := h.lim hl
  have c1 := (dec_enc i.e.df.t i.e.df.ht l hE).1
  have t1 := dec_t i.e.df.t i.e.df.ht l hE
  obtain ⟨a1, a2, a3⟩ := ord_zero k1
  obtain ⟨b1, b2, b3⟩ := ord_zero k2
  have e1 : ordE (decW i.e.df.t l) i.e.mn = 0 := zero_ord c1 a2 (t1.trans a3)
  have e2 : ordE (decW i.e.df.t l) i.e.mx = 0 := zero_ord c1 b2 (t1.trans b3)
  have hB : wiB i.e (decW i.e.df.t l) = true := by unfold wiB; rw [e1, e2]; rfl
  refine ⟨hB, ?_⟩
  show wiC i.e (decW i.e.df.t l) = 0
  unfold bey at hb
  rw [if_neg (by rw [hl]; simp)] at hb
  unfold wiC
  rw [if_neg (by rw [hB]; simp)]
  exact hb
/-- Of these entries, in these blocks. -/
structure Al (es : List En) (bs : List Nat) (its : List Im) : Prop where
  e : its.map Im.e = es
  b : its.map Im.b = bs
theorem Al.set {es : List En} {bs : List Nat} {its : List Im} (h : Al es bs its) (b : Nat) (v : Vl) : Al es bs (setV its b v) := ⟨by rw [setV_e]; exact h.e, by rw [setV_b]; exact h.b⟩
theorem wc_zero {its : List Im} {ix sb : Nat} {l : List UInt8} (h : wc its ix sb l = 0) : ∃ i, fnd its ix sb = some i ∧ (i.e.ac = 1 ∨ i.e.ac = 2) ∧ decE i.e.df.t l = 0 ∧ bey i.e (decW i.e.df.t l) = 0 := by
  unfold wc at h
  split at h
  · exact absurd h (noc_ne _ _)
  · rename_i i hf
    refine ⟨i, hf, ?_⟩
    unfold wcode at h
    split at h
    · exact absurd h (by decide)
    · rename_i h1
      have ha : i.e.ac = 1 ∨ i.e.ac = 2 := by omega
      split at h
      · rename_i h2; exact ⟨ha, h2, h⟩
      · split at h
        · exact absurd h (by decide)
        · split at h <;> exact absurd h (by decide)
theorem Al.wrt {es : List En} {bs : List Nat} {its : List Im} (h : Al es bs its) (ix sb : Nat) (l : List UInt8) : Al es bs (wrt its ix sb l) := by
  unfold Go.Proofs.YtjlbahgjjdfaeaaGreat.wrt
  split
  · split
    · exact h
    · exact h.set _ _
  · exact h
theorem gd_wrt {its : List Im} (hd : (its.map Im.b).Nodup) (h : ∀ i ∈ its, Gd i) (ix sb : Nat) (l : List UInt8) : ∀ i ∈ wrt its ix sb l, Gd i := by
  unfold wrt
  split
  · rename_i hc
    obtain ⟨i, hf, ha, hE, hb⟩ := wc_zero hc
    rw [hf]
    intro x hx
    obtain ⟨y, hy, rfl⟩ := List.mem_map.1 hx
    by_cases e : y.b = i.b
    · rw [if_pos e]
      have : y = i := by
        have hi := fnd_mem hf
        obtain ⟨m, hm, rfl⟩ := List.getElem_of_mem hy
        obtain ⟨n, hn, rfl⟩ := List.getElem_of_mem hi
        have hmn : m = n := by
          have h1 := List.pairwise_iff_getElem.1 hd
          rcases Nat.lt_trichotomy m n with h2 | h2 | h2
          · exact (h1 m n (by simpa using hm) (by simpa using hn) h2 (by simp only [List.getElem_map]; exact e)).elim
          · exact h2
          · exact (h1 n m (by simpa using hn) (by simpa using hm) h2 (by simp only [List.getElem_map]; exact e.symm)).elim
        subst hmn; rfl
      subst this
      exact gd_write (h y hy) l ha hE hb
    · rw [if_neg e]; exact h y hy
  · exact h
theorem fnd_self {its : List Im} (hs : its.Pairwise (fun a b => a.e.pl < b.e.pl)) {i : Im} (hi : i ∈ its) : fnd its i.e.ix i.e.sb = some i := by
  rw [fnd_pl its i.e.hix i.e.hsb]
  rcases count_find its hs (i.e.ix * 256 + i.e.sb) with ⟨h1, _⟩ | ⟨h1, h2, h3⟩
  · exact absurd rfl (h1 i hi)
  · rw [h2]
    congr 1
    obtain ⟨m, hm, rfl⟩ := List.getElem_of_mem hi
    have h4 := List.pairwise_iff_getElem.1 hs
    generalize its.countP _ = n at *
    have hmn : n = m := by
      have e1 : (its[n]).e.pl = (its[m]).e.pl := h3
      rcases Nat.lt_trichotomy n m with h | h | h
      · have := h4 n m h1 hm h; omega
      · exact h
      · have := h4 m n hm h1 h; omega
    subst hmn; rfl
theorem fnd_entry {its : List Im} {l : List En} (hs : its.Pairwise (fun a b => a.e.pl < b.e.pl)) (hp : (its.map Im.e).Perm (l.map En.plain)) {e : En} (he : e ∈ l) : ∃ i, i ∈ its ∧ i.e = e.plain ∧ fnd its e.ix e.sb = some i := by
  have : e.plain ∈ its.map Im.e := hp.mem_iff.2 (List.mem_map.2 ⟨e, he, rfl⟩)
  obtain ⟨i, hi, h1⟩ := List.mem_map.1 this
  refine ⟨i, hi, h1, ?_⟩
  have := fnd_self hs hi
  rw [h1] at this
  exact this
end Go.Proofs.YtjlbahgjjdfaeaaGreat
namespace Go.Proofs.YtjlbahgjjdfaeaaGreat
open Go.RowKit Go.Proofs.Ty Go.Sort Go.Lib
set_option linter.unusedVariables false
set_option maxRecDepth 1000000
set_option linter.unusedSimpArgs false
theorem info_size {t : TypeId} {n : Nat} (h : (Tryz.prog.info? t).map (·.size) = some n) : ∃ i0, Tryz.prog.info? t = some i0 ∧ i0.size = n := by
  cases hh : Tryz.prog.info? t with
  | none => rw [hh] at h; cases h
  | some i0 => rw [hh] at h; exact ⟨i0, rfl, by simpa using h⟩
theorem exec_idxE {a : Act} {o : Oper} {s i : Operand} {b off n c k : Nat} (ho : o.op = .indexAddr 22 s i) (hs : a.eval s = .slice (some ⟨b, off, none⟩) n c) (hi : a.eval i = .int .i64 (k : Int)) (hk : k < n) (w : World) : (execOp a.eval o).run Tryz.prog w = .ok (.value (.pointer (some ⟨b, off + k * 14, none⟩))) w := by
  have h1 : (0 : Int) ≤ (k : Int) := by omega
  have h2 : (k : Int) < (n : Int) := by omega
  unfold execOp
  simp only [ho, hs, hi]
  obtain ⟨i0, hi0, hz0⟩ := info_size infoE
  simp [go_sem, run_underlying Tryz.underlying22, sizeOf, typeInfo, hi0, hz0, h1, h2, Addr.add_mid]
theorem load_bytes (x : World) (D k : Nat) (ao : Option Addr) (l c : Nat) (hc : x.cell? ⟨D, k, none⟩ = some (.slice ao l c)) : (loadVar 24 ⟨D, k, none⟩).run Tryz.prog x = .ok (.slice ao l c) x := by
  simp [go_sem, run_underlying Tryz.underlying24, hc]
theorem wp_allocV {o : Oper} {a : Act} {w : World} {K : Act → World → Prop} {Q : Exit → Act → World → Prop} (ho : o.op = .alloc 60) (h : K (a.put o.dst (.pointer (some ⟨w.heap.size, 0, none⟩))) (w.alloc (.cells Vl.nul.arr 60))) : o.wp Tryz.prog a w K Q := by
  obtain ⟨i0, hi0, hz0⟩ : ∃ i0, Tryz.prog.info? 60 = some i0 ∧ i0.zero = some (.agg Vl.nul.arr) := by
    have : (Tryz.prog.info? 60).map (·.zero) = some (some (.agg Vl.nul.arr)) := by kernel_rfl
    cases hh : Tryz.prog.info? 60 with
    | none => rw [hh] at this; cases this
    | some i0 => rw [hh] at this; exact ⟨i0, rfl, by simpa using this⟩
  unfold Oper.wp execOp
  simp [ho, go_sem, Instr.alloc, zeroValue, typeInfo, hi0, hz0, Value.cells]
  exact h
section
variable {w : World} {ops : Array Oper} {rest : List Oper} {o : Oper} {a : Act} {Q : Exit → Act → World → Prop}
theorem bs0E (hgd : Region.wanted o (yielded ops a.tmps) = true) (ho : o.op = .buildSlice 22 0 #[]) (hh : wpList Tryz.prog ops Q rest (a.put o.dst (.slice (some ⟨w.heap.size, 0, none⟩) 0 0)) (w.alloc (.cells #[] 64))) : wpList Tryz.prog ops Q (o :: rest) a w :=
  BigFrame.wpList_want hgd fun _ hK => wp_bs0g Tryz.underlying22 infoEz ho (hK _ _ hh)
theorem apE (hgd : Region.wanted o (yielded ops a.tmps) = true) (s x : Operand) (ho : o.op = .call { callee := .builtin .append, args := #[s, x], argTypes := #[22, 22] })
    (base : Nat) (v : Value) (xs : List En) (hs : a.eval s = v) (hown : w.ownsRow base 64 14 v xs.length (flatW DE xs))
    (vx : Value) (l : List En) (hx : a.eval x = vx) (hB : Wide 14 enC w vx l) (h63 : xs.length + l.length ≤ 1172812402927) (hbase : base ≤ w.heap.size)
    (h : ∀ v' w', w'.ownsRow base 64 14 v' (xs ++ l).length (flatW DE (xs ++ l)) → w.grownBy w' v.ownBlock → wpList Tryz.prog ops Q rest (a.put o.dst v') w') : wpList Tryz.prog ops Q (o :: rest) a w :=
  BigFrame.wpList_want hgd fun _ hK => wp_append_wide DE s x 22 64 _ 120 Tryz.underlying22 infoEz rfl ho base v xs hs hown vx l hx hB (by unfold maxLen; omega) (by omega) hbase fun v' w' h1 h2 => hK _ _ (h v' w' h1 h2)
end
theorem own0E (w : World) : (w.alloc (.cells #[] 64)).ownsRow w.heap.size 64 14 (.slice (some ⟨w.heap.size, 0, none⟩) 0 0) ([] : List En).length (flatW DE []) := own_empty_e w 64 14
end Go.Proofs.YtjlbahgjjdfaeaaGreat
namespace Go.Proofs.YtjlbahgjjdfaeaaGreat
open Go.RowKit Go.Proofs.Ty Go.Sort Go.Lib
set_option linter.unusedVariables false
set_option maxRecDepth 1000000
set_option linter.unusedSimpArgs false
def DV : Dec Vl := ⟨vlC, 3, by decide, fun _ => rfl, fun v u hu => by simp [vlC] at hu; rcases hu with rfl | rfl | rfl <;> rfl⟩
theorem infoVz : (Tryz.prog.info? 60).map (fun i => (i.zero, i.size, i.bytes)) = some (some (.agg #[.int .i64 0, .int .u64 0, .string ⟨#[]⟩]), 3, 32) := by kernel_rfl
theorem wp_bs1 {α : Type} (D : Dec α) {w : World} {o : Oper} {a : Act} {K : Act → World → Prop} {Q : Exit → Act → World → Prop} (s : α) (t e : TypeId) (z : Value) (bytes : Nat) (x : Operand) (ho : o.op = .buildSlice t 1 #[(0, x)]) (hx : a.eval x = .agg (D.dec s).toArray)
    (ht : Tryz.prog.underlying t = some (.slice e)) (hinfo : (Tryz.prog.info? e).map (fun i => (i.zero, i.size, i.bytes)) = some (some z, D.c, bytes)) (hsmall : D.c ≤ 1000)
    (h : K (a.put o.dst (.slice (some ⟨w.heap.size, 0, none⟩) 1 1)) (w.alloc (.cells (D.dec s).toArray e))) : o.wp Tryz.prog a w K Q := by
  obtain ⟨i0, hi, hz0, hz1, hz2⟩ := info_parts hinfo
  refine wp_buildSlice t e 1 _ ho (D.dec s).toArray i0 z ht hi hz0 (by rw [hz1]; omega) (by rw [hz1]; have := D.pos; omega) ?_ h
  rw [hz1]
  have hsz : (Value.agg (D.dec s).toArray).cells.size = D.c := by simp [Value.cells, D.len]
  have := Go.Great.fill_whole D.pos [Value.agg (D.dec s).toArray] ((Array.range (1 * D.c)).map (z.cells[· % z.cells.size]!)) (by intro v hv; simp at hv; subst hv; exact hsz) (by simp)
  simpa [hx, Value.cells] using this
theorem r8place_any (e : En) (w : World) : Calls Tryz.prog 37 #[.agg e.arr] w fun x w' => x = .returned (.int .i64 e.pl) ∧ Below w.heap.size w w' := by
  have h0 := Eb.new w e
  have B0 : Below w.heap.size w (w.alloc (.cells e.arr 64)) := (Below.refl _ _).alloc (Nat.le_refl _) _
  obtain ⟨c0, c1, _⟩ := h0.c
  have HX : Hid (e.pl = e.ix * 256 + e.sb) := rfl
  have h1 := e.hix
  have h2 := e.hsb
  generalize e.pl = P at *
  generalize e.ix = A at *
  generalize e.sb = B at *
  clear h0
  go_enter Tryz.func37, Tryz.ntmps37
  go_wp2
  go_ret
  exact ⟨ret_int (by rw [HX.out]; omega), B0⟩
/-- The document's dictionary at E: its entries, its values. -/
structure Rd (E : Nat) (L : List En) (vL : Value) (V : List Vl) (vV : Value) (w : World) : Prop where
  head : w.heap[E]? = some (.cells #[vL, vV] 100 (0, 0))
  rowL : RT 64 14 enC w vL L
  rowV : RT 60 3 vlC w vV V
section
variable {E : Nat} {L : List En} {vL : Value} {V : List Vl} {vV : Value} {w x : World}
theorem Rd.lt (h : Rd E L vL V vV w) : E < w.heap.size := (Array.getElem?_eq_some_iff.1 h.head).1
theorem Rd.c (h : Rd E L vL V vV w) : w.cell? ⟨E, 0, none⟩ = some vL ∧ w.cell? ⟨E, 1, none⟩ = some vV := ⟨by rw [Lib.cell_of_heap h.head]; rfl, by rw [Lib.cell_of_heap h.head]; rfl⟩
theorem Rd.below (h : Rd E L vL V vV w) (hb : Below w.heap.size w x) : Rd E L vL V vV x := ⟨(hb.block E h.lt).trans h.head, h.rowL.below hb, h.rowV.below hb⟩
theorem Rd.frozen (h : Rd E L vL V vV w) (k : Nat) : w.frozen? ⟨E, k, none⟩ = false := Lib.frozen_of_heap h.head _
theorem set_kept (w : World) (E k : Nat) (u : Value) : w.grownBy (w.setCell ⟨E, k, none⟩ u) (some E) := ⟨rfl, rfl, rfl, by simp [World.setCell], fun j hj hne => Below.heap_setCell w ⟨E, k, none⟩ u j (fun e => hne (by rw [show j = E from e]))⟩
theorem Rd.setL (h : Rd E L vL V vV w) {L' : List En} {u : Value} (hr : RT 64 14 enC w u L') : Rd E L' u V vV (w.setCell ⟨E, 0, none⟩ u) := by
  have hg := set_kept w E 0 u
  refine ⟨?_, hr.grown hg (hr.ne h.head (by decide)), h.rowV.grown hg (h.rowV.ne h.head (by decide))⟩
  have hh := h.head
  simp only [World.setCell, Array.getElem?_modify, hh]
  simp
theorem Rd.setV (h : Rd E L vL V vV w) {V' : List Vl} {u : Value} (hr : RT 60 3 vlC w u V') : Rd E L vL V' u (w.setCell ⟨E, 1, none⟩ u) := by
  have hg := set_kept w E 1 u
  refine ⟨?_, h.rowL.grown hg (h.rowL.ne h.head (by decide)), hr.grown hg (hr.ne h.head (by decide))⟩
  have hh := h.head
  simp only [World.setCell, Array.getElem?_modify, hh]
  simp
end
theorem load_ents (x : World) (D k : Nat) (ao : Option Addr) (l c : Nat) (hc : x.cell? ⟨D, k, none⟩ = some (.slice ao l c)) : (loadVar 22 ⟨D, k, none⟩).run Tryz.prog x = .ok (.slice ao l c) x := by
  simp [go_sem, run_underlying Tryz.underlying22, hc]
theorem store_ents (x : World) (D k : Nat) (u : Value) (ao : Option Addr) (l c : Nat) (hc : x.cell? ⟨D, k, none⟩ = some u) (hf : x.frozen? ⟨D, k, none⟩ = false) : (storeVar 22 ⟨D, k, none⟩ (.slice ao l c)).run Tryz.prog x = .ok () (x.setCell ⟨D, k, none⟩ (.slice ao l c)) := by
  simp [go_sem, run_underlying Tryz.underlying22, hc, hf]
theorem load_vals (x : World) (D k : Nat) (ao : Option Addr) (l c : Nat) (hc : x.cell? ⟨D, k, none⟩ = some (.slice ao l c)) : (loadVar 98 ⟨D, k, none⟩).run Tryz.prog x = .ok (.slice ao l c) x := by
  simp [go_sem, run_underlying Tryz.underlying98, hc]
theorem store_vals (x : World) (D k : Nat) (u : Value) (ao : Option Addr) (l c : Nat) (hc : x.cell? ⟨D, k, none⟩ = some u) (hf : x.frozen? ⟨D, k, none⟩ = false) : (storeVar 98 ⟨D, k, none⟩ (.slice ao l c)).run Tryz.prog x = .ok () (x.setCell ⟨D, k, none⟩ (.slice ao l c)) := by
  simp [go_sem, run_underlying Tryz.underlying98, hc, hf]
theorem wp_store_cell {o : Oper} {a : Act} {w w' : World} {K : Act → World → Prop} {Q : Exit → Act → World → Prop} (ty : TypeId) (x y : Operand) (ho : o.op = .store ty x y) (b k : Nat) (hx : a.eval x = .pointer (some ⟨b, k, none⟩)) (v : Value) (hy : a.eval y = v)
    (hr : (storeVar ty ⟨b, k, none⟩ v).run Tryz.prog w = .ok () w') (h : K (a.put o.dst undef) w') : o.wp Tryz.prog a w K Q := by
  unfold Oper.wp execOp
  simp only [ho, hx, hy, Instr.storeAt, Instr.sureAddr, Sem.run_bind, Sem.run_pure, Result.andThen_ok, hr]
  exact h
/-- The first k of a row, what is behind them. -/
theorem re_take {w : World} {v : Value} {l : List En} (h : RT 64 14 enC w v l) (k : Nat) (hk : k ≤ l.length) : ∃ v1, (∀ W, (Instr.sliceAt 22 v none (some (.int .i64 k)) none).run Tryz.prog W = .ok v1 W) ∧ ∀ x, Wide 14 enC x v l → Wide 14 enC x v1 (l.take k) := by
  obtain ⟨i0, hi, hz0, hz1, hz2⟩ := info_parts infoEz
  obtain ⟨ao, cap, rfl⟩ := h.wide.shape
  have hcap := h.cap _ _ _ rfl
  have a0 : (0 : Int) ≤ (k : Int) := by omega
  have a1 : (k : Int) ≤ (cap : Int) := by omega
  cases ao with
  | none =>
    obtain ⟨ao', cap', hv, h0, _⟩ := h.wide
    injection hv with e1 _ e3
    obtain ⟨rfl, rfl⟩ := h0 e1.symm
    subst e3
    have : k = 0 := by simpa using hk
    subst this
    refine ⟨.slice none 0 0, fun W => ?_, fun x hx => by simpa using hx⟩
    simp [Instr.sliceAt, run_underlying Tryz.underlying22, go_sem, sizeOf, typeInfo, hi, hz1, Addr.add]
  | some a =>
    refine ⟨.slice (some a) k cap, fun W => ?_, fun x hx => ?_⟩
    · simp [Instr.sliceAt, run_underlying Tryz.underlying22, go_sem, sizeOf, typeInfo, hi, hz1, Addr.add, a0, a1]
    · obtain ⟨ao', cap', hv, h0, hc⟩ := hx
      injection hv with e1 _ e3
      subst e1 e3
      refine ⟨_, _, by rw [List.length_take, Nat.min_eq_left hk], (fun h => by cases h), fun j hj => ?_⟩
      rw [List.length_take] at hj
      obtain ⟨b, off, e, hlt, hr⟩ := hc j (by omega)
      refine ⟨b, off, e, hlt, ?_⟩
      rw [List.getElem_take]; exact hr
theorem re_drop {w : World} {v : Value} {l : List En} (h : RT 64 14 enC w v l) (k : Nat) (hk : k ≤ l.length) : ∃ v1, (∀ W, (Instr.sliceAt 22 v (some (.int .i64 k)) none none).run Tryz.prog W = .ok v1 W) ∧ ∀ x, Wide 14 enC x v l → Wide 14 enC x v1 (l.drop k) := by
  obtain ⟨i0, hi, hz0, hz1, hz2⟩ := info_parts infoEz
  obtain ⟨ao, cap, rfl⟩ := h.wide.shape
  have hcap := h.cap _ _ _ rfl
  have a0 : (0 : Int) ≤ (k : Int) := by omega
  have a1 : (k : Int) ≤ (l.length : Int) := by omega
  have a2 : (l.length : Int) ≤ (cap : Int) := by omega
  cases ao with
  | none =>
    obtain ⟨ao', cap', hv, h0, _⟩ := h.wide
    injection hv with e1 _ e3
    obtain ⟨rfl, rfl⟩ := h0 e1.symm
    subst e3
    have : k = 0 := by simpa using hk
    subst this
    refine ⟨.slice none 0 0, fun W => ?_, fun x hx => by simpa using hx⟩
    simp [Instr.sliceAt, run_underlying Tryz.underlying22, go_sem, sizeOf, typeInfo, hi, hz1, Addr.add]
  | some a =>
    refine ⟨.slice (some (if cap = k then a else if k * 14 = 0 then a else ⟨a.block, a.off + k * 14, none⟩)) (l.length - k) (cap - k), fun W => ?_, fun x hx => ?_⟩
    · simp [Instr.sliceAt, run_underlying Tryz.underlying22, go_sem, sizeOf, typeInfo, hi, hz1, Addr.add, a0, a1, a2]
      split <;> rfl
    · obtain ⟨ao', cap', hv, h0, hc⟩ := hx
      injection hv with e1 _ e3
      subst e1 e3
      refine ⟨_, _, by rw [List.length_drop], (fun h => by cases h), fun j hj => ?_⟩
      rw [List.length_drop] at hj
      obtain ⟨b, off, e, hlt, hr⟩ := hc (k + j) (by omega)
      injection e with e
      subst e
      rw [if_neg (by omega)]
      by_cases hk0 : k * 14 = 0
      · rw [if_pos hk0]
        refine ⟨b, off, rfl, hlt, ?_⟩
        have : k = 0 := by omega
        subst this
        simpa using hr
      · rw [if_neg hk0]
        refine ⟨b, off + k * 14, rfl, hlt, ?_⟩
        rw [List.getElem_drop, show off + k * 14 + j * 14 = off + (k + j) * 14 by omega]
        exact hr
end Go.Proofs.YtjlbahgjjdfaeaaGreat
namespace Go.Proofs.YtjlbahgjjdfaeaaGreat
open Go.RowKit Go.Proofs.Ty Go.Sort Go.Lib
set_option linter.unusedVariables false
set_option maxRecDepth 1000000
set_option linter.unusedSimpArgs false
theorem rng_df8 {w : World} {b o : Nat} {e : En} (h : w.rangeAt b o (enC e)) : w.rangeAt b (o + 11) (vlC e.df) := by
  intro j u hj
  have : (enC e)[11 + j]? = some u := by
    match j, hj with
    | 0, hj => exact hj
    | 1, hj => exact hj
    | 2, hj => exact hj
    | j + 3, hj => simp [vlC] at hj
  have := h (11 + j) u this
  rw [← Nat.add_assoc] at this
  exact this
theorem wp_load_cell {o : Oper} {a : Act} {w : World} {K : Act → World → Prop} {Q : Exit → Act → World → Prop} (ty : TypeId) (x : Operand) (ho : o.op = .load ty x) (b k : Nat) (hx : a.eval x = .pointer (some ⟨b, k, none⟩)) (v : Value)
    (hr : (loadVar ty ⟨b, k, none⟩).run Tryz.prog w = .ok v w) (h : K (a.put o.dst v) w) : o.wp Tryz.prog a w K Q := by
  unfold Oper.wp execOp
  simp only [ho, hx, Instr.loadAt, Instr.sureAddr, Sem.run_bind, Sem.run_pure, Result.andThen_ok, hr]
  exact h
theorem own_set {w : World} {B : Nat} {e : TypeId} {c n : Nat} {v : Value} {xs : List Value} (h : w.ownsRow B e c v n xs) {E : Nat} (hE : v.ownBlock ≠ some E) (k : Nat) (u : Value) : (w.setCell ⟨E, k, none⟩ u).ownsRow B e c v n xs := by
  refine ⟨h.1, h.2.imp id ?_⟩
  rintro ⟨g, cap, cur, e1, e2, e3, e4⟩
  subst e1
  exact ⟨g, cap, cur, rfl, e2, (Below.heap_setCell w ⟨E, k, none⟩ u g (fun e => hE (by rw [← (show g = E from e)]; rfl))).trans e3, e4⟩
theorem own_ne {w : World} {B : Nat} {T c n : Nat} {v : Value} {xs : List Value} (h : w.ownsRow B T c v n xs) {E : Nat} {A : Array Value} {fr : Nat × Nat} (hE : w.heap[E]? = some (.cells A 100 fr)) (ht : T ≠ 100 := by decide) : v.ownBlock ≠ some E := fun e => by
  obtain ⟨_, cur, h1⟩ := own_of h e
  rw [hE] at h1
  simp at h1
  exact ht h1.2.1.symm
theorem Rd.put {E : Nat} {L : List En} {vL u0 : Value} {V' : List Vl} {u : Value} {w : World} (hh : w.heap[E]? = some (.cells #[vL, u0] 100 (0, 0))) (hL : RT 64 14 enC w vL L) (hr : RT 60 3 vlC w u V') : Rd E L vL V' u (w.setCell ⟨E, 1, none⟩ u) := by
  have hg := set_kept w E 1 u
  refine ⟨?_, hL.grown hg (hL.ne hh (by decide)), hr.grown hg (hr.ne hh (by decide))⟩
  simp only [World.setCell, Array.getElem?_modify, hh]
  simp
theorem rt_rng {E lb lo cL k : Nat} {L : List En} {w : World} (h : RT 64 14 enC w (.slice (some ⟨lb, lo, none⟩) L.length cL) L) (hk : k < L.length) : w.rangeAt lb (lo + k * 14) (enC L[k]) := by
  obtain ⟨b', o', c', hv', _, hR'⟩ := h.wide.at0 k hk
  injection hv' with e1 _ _
  injection e1 with e1
  injection e1 with e1 e2 _
  subst e1 e2
  exact hR'
theorem ownV_nil (w : World) (B : Nat) : w.ownsRow B 60 3 (.slice none 0 0) (([] : List Vl)).length (flatW DV []) := ⟨rfl, .inl ⟨rfl, rfl⟩⟩
set_option maxHeartbeats 8000000 in
theorem QReset_any {E : Nat} {L : List En} {vL : Value} {V : List Vl} {vV : Value} {w : World} (h : Rd E L vL V vV w) (hl : L.length ≤ 1024) :
    Calls Tryz.prog 38 #[.pointer (some ⟨E, 0, none⟩)] w fun e w' => e = .returned (.tuple #[]) ∧ ∃ vV', Rd E L vL (L.map En.df) vV' w' ∧ w'.ownsRow w.heap.size 60 3 vV' (L.map En.df).length (flatW DV (L.map En.df)) ∧ w.grownBy w' (some E) := by
  obtain ⟨aL, cL, rfl⟩ := h.rowL.wide.shape
  have c1 := h.c.2
  have f1 := h.frozen 1
  have h1 := h.setV (RT.nil 60 3 vlC w)
  have HR0 := hidOf2 h1
  have HP0 := hidOf2 (ownV_nil (w.setCell ⟨E, 1, none⟩ (.slice none 0 0)) w.heap.size)
  have HG0 := hidOf2 (set_kept w E 1 (.slice none 0 0))
  have hElt := h.lt
  have k0 := h1.c.1
  clear h h1
  go_enter Tryz.func38, Tryz.ntmps38
  go_wp2
  generalize w.setCell ⟨E, 1, none⟩ (.slice none 0 0) = w1 at *
  go_loopw [2] (fun i x => ∃ (k : Nat) (vV : Value), k ≤ L.length ∧ i = .int .i64 k ∧ Hid (Rd E L (.slice aL L.length cL) ((L.take k).map En.df) vV x) ∧ Hid (x.ownsRow w.heap.size 60 3 vV ((L.take k).map En.df).length (flatW DV ((L.take k).map En.df))) ∧ Hid (w.grownBy x (some E))) (fun i _ => L.length - (intOf i).toNat)
  case atStart => exact ⟨0, _, Nat.zero_le _, rfl, HR0, HP0, HG0⟩
  case round =>
    clear HR0 HP0 HG0 k0
    obtain ⟨k, vV, hk, rfl, HR, HP, HG⟩ := hrel
    have c0 := HR.out.c.1
    by_cases hkl : k < L.length
    · obtain ⟨lb, lo, lc, hv, hlb, hRj⟩ := HR.out.rowL.wide.at0 k hkl
      injection hv with hv1 _ hv3
      subst hv1
      subst hv3
      have HT := hidOf2 (show (L.take (k + 1)).map En.df = (L.take k).map En.df ++ [L[k].df] by rw [List.take_succ_eq_append_getElem hkl, List.map_append]; rfl)
      have hrX := rng_df8 hRj
      obtain ⟨X, hX⟩ : ∃ X, L[k].df = X := ⟨_, rfl⟩
      rw [hX] at hrX HT
      have hVL : ((L.take k).map En.df).length ≤ 1024 := by simp; omega
      obtain ⟨aV, cV, hvV⟩ := own_shape5 HP.out
      obtain ⟨nV, hnV⟩ : ∃ n, ((L.take k).map En.df).length = n := ⟨_, rfl⟩
      rw [hnV] at hvV
      subst hvV
      have b0 : Below wr.heap.size wr wr.drew := bdr (Below.refl _ _) 1
      have bA : Below wr.heap.size wr (wr.drew.alloc (.cells (vlC X).toArray 60)) := b0.alloc b0.size _
      have SS : Hid (∀ x, Below wr.heap.size wr x → x.cell? ⟨E, 0, none⟩ = some (.slice (some ⟨lb, lo, none⟩) L.length cL) ∧ x.rangeAt lb (lo + k * 14 + 11) (vlC X)) := fun x hb => ⟨(HR.out.below hb).c.1, rng_below hrX hb hlb⟩
      have SV : Hid (∀ x, Below wr.heap.size wr x → x.cell? ⟨E, 1, none⟩ = some (.slice aV nV cV)) := fun x hb => (HR.out.below hb).c.2
      have SSR : ∀ x, RT 64 14 enC x (.slice (some ⟨lb, lo, none⟩) L.length cL) L → x.rangeAt lb (lo + k * 14 + 11) (vlC X) := fun x hx => hX ▸ rng_df8 (rt_rng (E := E) hx hkl)
      have SSE : Hid (∀ (V' : List Vl) (u : Value) (x : World), Rd E L (.slice (some ⟨lb, lo, none⟩) L.length cL) V' u x → x.cell? ⟨E, 0, none⟩ = some (.slice (some ⟨lb, lo, none⟩) L.length cL) ∧ x.rangeAt lb (lo + k * 14 + 11) (vlC X)) := fun V' u x hx => ⟨hx.c.1, SSR x hx.rowL⟩
      have PA := ownsRow_alloc (own_drew HP.out) (.cells (vlC X).toArray 60)
      have RA := HR.out.below bA
      have SSV : Hid (∀ y, (wr.drew.alloc (.cells (vlC X).toArray 60)).grownBy y (Value.slice aV nV cV).ownBlock → y.heap[E]? = some (.cells #[.slice (some ⟨lb, lo, none⟩) L.length cL, .slice aV nV cV] 100 (0, 0)) ∧ RT 64 14 enC y (.slice (some ⟨lb, lo, none⟩) L.length cL) L ∧ y.cell? ⟨E, 0, none⟩ = some (.slice (some ⟨lb, lo, none⟩) L.length cL) ∧ y.rangeAt lb (lo + k * 14 + 11) (vlC X)) := fun y G => by
        have hd := (G.block E RA.lt (fun e => (own_ne PA RA.head (by decide)) e.symm)).trans RA.head
        have hr : RT 64 14 enC y (.slice (some ⟨lb, lo, none⟩) L.length cL) L := RA.rowL.same G.size (fun b A fr _ h1 => G.block b (Array.getElem?_eq_some_iff.1 h1).1 (fun e => by
          obtain ⟨_, cur, h2⟩ := own_of PA e.symm
          rw [h1] at h2
          simp at h2))
        exact ⟨hd, hr, by rw [Lib.cell_of_heap hd]; rfl, SSR y hr⟩
      have HGY : Hid (∀ y, (wr.drew.alloc (.cells (vlC X).toArray 60)).grownBy y (Value.slice aV nV cV).ownBlock → w.grownBy y (some E)) := fun y G =>
        ⟨G.os.trans (bA.os.trans HG.out.os), G.tape.trans (bA.tape.trans HG.out.tape), G.output.trans (bA.output.trans HG.out.output), Nat.le_trans HG.out.size (Nat.le_trans bA.size G.size), fun j hj hne =>
          (G.block j (Nat.lt_of_lt_of_le hj (Nat.le_trans HG.out.size bA.size)) (fun e => by have := own_lt HP.out j e.symm; omega)).trans ((bA.block j (Nat.lt_of_lt_of_le hj HG.out.size)).trans (HG.out.block j hj hne))⟩
      have S0 := SS.out _ b0
      clear PA RA SSR bA hrX hRj hX
      go_upto_region 4 with fail
      clear c0
      refine wp_region_held (S := fun x => x.cell? ⟨E, 0, none⟩ = some (.slice (some ⟨lb, lo, none⟩) L.length cL) ∧ x.rangeAt lb (lo + k * 14 + 11) (vlC X)) (by kernel_rfl) ?_
      change wpAnyH _ _ _ _ _ _ _ _ wr.drew
      refine wpAnyH_take (i := 0) (v := (.pointer (some ⟨E, 0, none⟩))) rfl (by kernel_rfl) (by kernel_rfl) (by kernel_rfl) (fun _ _ _ h => h) (.inl ⟨rfl, fun _ hS => rfl⟩) S0 ?_
      simp only [List.getElem_toArray, List.getElem_cons_succ, List.getElem_cons_zero, Act.put, List.setIfInBounds_toArray, List.set_cons_succ, List.set_cons_zero]
      refine wpAnyH_take (i := 1) (v := (.pointer (some ⟨E, 0, none⟩))) rfl (by kernel_rfl) (by kernel_rfl) (by kernel_rfl) (fun _ _ _ h => h) (.inl ⟨rfl, fun _ hS => rfl⟩) S0 ?_
      simp only [List.getElem_toArray, List.getElem_cons_succ, List.getElem_cons_zero, Act.put, List.setIfInBounds_toArray, List.set_cons_succ, List.set_cons_zero]
      refine wpAnyH_take (i := 2) (v := (.pointer (some ⟨E, 0, none⟩))) rfl (by kernel_rfl) (by kernel_rfl) (by kernel_rfl) (fun _ _ _ h => h) (.inl ⟨rfl, fun _ hS => by simp [execOp, go_sem, Act.eval]⟩) S0 ?_
      simp only [List.getElem_toArray, List.getElem_cons_succ, List.getElem_cons_zero, Act.put, List.setIfInBounds_toArray, List.set_cons_succ, List.set_cons_zero]
      refine wpAnyH_take (i := 3) (v := (.pointer (some ⟨E, 1, none⟩))) rfl (by kernel_rfl) (by kernel_rfl) (by kernel_rfl) (fun _ _ _ h => h) (.inl ⟨rfl, fun _ hS => by simp [execOp, go_sem, Act.eval]⟩) S0 ?_
      simp only [List.getElem_toArray, List.getElem_cons_succ, List.getElem_cons_zero, Act.put, List.setIfInBounds_toArray, List.set_cons_succ, List.set_cons_zero]
      refine wpAnyH_take (i := 5) (v := (.pointer (some ⟨E, 0, none⟩))) rfl (by kernel_rfl) (by kernel_rfl) (by kernel_rfl) (fun _ _ _ h => h) (.inl ⟨rfl, fun _ hS => rfl⟩) S0 ?_
      simp only [List.getElem_toArray, List.getElem_cons_succ, List.getElem_cons_zero, Act.put, List.setIfInBounds_toArray, List.set_cons_succ, List.set_cons_zero]
      refine wpAnyH_take (i := 6) (v := (.pointer (some ⟨E, 0, none⟩))) rfl (by kernel_rfl) (by kernel_rfl) (by kernel_rfl) (fun _ _ _ h => h) (.inl ⟨rfl, fun _ hS => by simp [execOp, go_sem, Act.eval]⟩) S0 ?_
      simp only [List.getElem_toArray, List.getElem_cons_succ, List.getElem_cons_zero, Act.put, List.setIfInBounds_toArray, List.set_cons_succ, List.set_cons_zero]
      refine wpAnyH_take (i := 7) (v := (.pointer (some ⟨E, 0, none⟩))) rfl (by kernel_rfl) (by kernel_rfl) (by kernel_rfl) (fun _ _ _ h => h) (.inl ⟨rfl, fun _ hS => by simp [execOp, go_sem, Act.eval]⟩) S0 ?_
      simp only [List.getElem_toArray, List.getElem_cons_succ, List.getElem_cons_zero, Act.put, List.setIfInBounds_toArray, List.set_cons_succ, List.set_cons_zero]
      refine wpAnyH_take (i := 8) (v := (.slice (some ⟨lb, lo, none⟩) L.length cL)) rfl (by kernel_rfl) (by kernel_rfl) (by kernel_rfl) (fun _ _ _ h => h) (.inl ⟨rfl, fun _ hS => exec_load rfl rfl (load_ents _ _ _ _ _ _ hS.1)⟩) S0 ?_
      simp only [List.getElem_toArray, List.getElem_cons_succ, List.getElem_cons_zero, Act.put, List.setIfInBounds_toArray, List.set_cons_succ, List.set_cons_zero]
      refine wpAnyH_take (i := 9) (v := (.int .i64 (k : Int))) rfl (by kernel_rfl) (by kernel_rfl) (by kernel_rfl) (fun _ _ _ h => h) (.inl ⟨rfl, fun _ hS => rfl⟩) S0 ?_
      simp only [List.getElem_toArray, List.getElem_cons_succ, List.getElem_cons_zero, Act.put, List.setIfInBounds_toArray, List.set_cons_succ, List.set_cons_zero]
      refine wpAnyH_take (i := 10) (v := (.pointer (some ⟨lb, lo + k * 14, none⟩))) rfl (by kernel_rfl) (by kernel_rfl) (by kernel_rfl) (fun _ _ _ h => h) (.inl ⟨rfl, fun _ hS => exec_idxE rfl rfl rfl hkl _⟩) S0 ?_
      simp only [List.getElem_toArray, List.getElem_cons_succ, List.getElem_cons_zero, Act.put, List.setIfInBounds_toArray, List.set_cons_succ, List.set_cons_zero]
      refine wpAnyH_take (i := 11) (v := (.pointer (some ⟨lb, lo + k * 14 + 11, none⟩))) rfl (by kernel_rfl) (by kernel_rfl) (by kernel_rfl) (fun _ _ _ h => h) (.inl ⟨rfl, fun _ hS => by simp [execOp, go_sem, Act.eval]⟩) S0 ?_
      simp only [List.getElem_toArray, List.getElem_cons_succ, List.getElem_cons_zero, Act.put, List.setIfInBounds_toArray, List.set_cons_succ, List.set_cons_zero]
      refine wpAnyH_take (i := 12) (v := (.agg X.arr)) rfl (by kernel_rfl) (by kernel_rfl) (by kernel_rfl) (fun _ _ _ h => h) (.inl ⟨rfl, fun _ hS => exec_load rfl rfl (run_ldV hS.2)⟩) S0 ?_
      simp only [List.getElem_toArray, List.getElem_cons_succ, List.getElem_cons_zero, Act.put, List.setIfInBounds_toArray, List.set_cons_succ, List.set_cons_zero]
      refine wpAnyH_all (rs := [4, 13]) (by kernel_rfl) (by simp) ?_
      intro k hk
      simp only [List.mem_cons, List.mem_nil_iff, or_false] at hk
      rcases hk with rfl | rfl
      · refine wpOp_run rfl rfl (wp_load_cell 98 _ rfl E 1 rfl (.slice aV nV cV) (load_vals _ E 1 _ _ _ (SV.out _ b0)) ?_)
        refine ⟨S0, ?_⟩
        simp only [List.getElem_toArray, List.getElem_cons_succ, List.getElem_cons_zero, Act.put, List.setIfInBounds_toArray, List.set_cons_succ, List.set_cons_zero]
        refine wpAnyH_all (rs := [13]) (by kernel_rfl) (by simp) ?_
        intro k hk
        simp only [List.mem_cons, List.mem_nil_iff, or_false] at hk
        subst hk
        refine wpOp_run rfl rfl (wp_bs1 DV X 98 60 _ 32 _ rfl rfl Tryz.underlying98 infoVz (by decide) ?_)
        have b1 := b0.alloc b0.size (.cells (vlC X).toArray 60)
        have Q1 := wide_new DV wr.drew X 60
        have P1 := ownsRow_alloc (own_drew HP.out) (.cells (vlC X).toArray 60)
        refine ⟨(SS.out _ b1), ?_⟩
        simp only [List.getElem_toArray, List.getElem_cons_succ, List.getElem_cons_zero, Act.put, List.setIfInBounds_toArray, List.set_cons_succ, List.set_cons_zero]
        refine wpAnyH_all (rs := [14]) (by kernel_rfl) (by simp) ?_
        intro k hk
        simp only [List.mem_cons, List.mem_nil_iff, or_false] at hk
        subst hk
        refine wpOp_run rfl rfl (wp_append_wide DV _ _ 98 60 _ 32 Tryz.underlying98 infoVz rfl rfl w.heap.size _ ((L.take k).map En.df) rfl P1 _ [X] rfl Q1 (by unfold maxLen; simp; omega) (by simp; omega) (Nat.le_trans HG.out.size b1.size) ?_)
        intro vY wY PY GY
        obtain ⟨hY, rY, eY⟩ := SSV.out wY GY
        obtain ⟨aY, cpY, hvY⟩ := own_shape5 PY
        obtain ⟨nY, hnY⟩ : ∃ n, ((L.take k).map En.df ++ [X]).length = n := ⟨_, rfl⟩
        rw [hnY] at hvY
        subst hvY
        refine ⟨eY, ?_⟩
        simp only [List.getElem_toArray, List.getElem_cons_succ, List.getElem_cons_zero, Act.put, List.setIfInBounds_toArray, List.set_cons_succ, List.set_cons_zero]
        refine wpAnyH_take (i := 15) (v := (.pointer (some ⟨E, 0, none⟩))) rfl (by kernel_rfl) (by kernel_rfl) (by kernel_rfl) (fun _ _ _ h => h) (.inl ⟨rfl, fun _ hS => by simp [execOp, go_sem, Act.eval]⟩) eY ?_
        simp only [List.getElem_toArray, List.getElem_cons_succ, List.getElem_cons_zero, Act.put, List.setIfInBounds_toArray, List.set_cons_succ, List.set_cons_zero]
        refine wpAnyH_take (i := 16) (v := (.pointer (some ⟨E, 1, none⟩))) rfl (by kernel_rfl) (by kernel_rfl) (by kernel_rfl) (fun _ _ _ h => h) (.inl ⟨rfl, fun _ hS => by simp [execOp, go_sem, Act.eval]⟩) eY ?_
        simp only [List.getElem_toArray, List.getElem_cons_succ, List.getElem_cons_zero, Act.put, List.setIfInBounds_toArray, List.set_cons_succ, List.set_cons_zero]
        refine wpAnyH_all (rs := [17]) (by kernel_rfl) (by simp) ?_
        intro k hk
        simp only [List.mem_cons, List.mem_nil_iff, or_false] at hk
        subst hk
        refine wpOp_run rfl rfl (wp_store_cell 98 _ _ rfl E 1 rfl _ rfl (store_vals wY E 1 (.slice aV nV cV) aY _ cpY (by rw [Lib.cell_of_heap hY]; rfl) (Lib.frozen_of_heap hY 1)) ?_)
        have RN := Rd.put hY rY (RT.own DV PY)
        have sN := (SSE.out _ _ _ RN)
        refine ⟨sN, ?_⟩
        simp only [List.getElem_toArray, List.getElem_cons_succ, List.getElem_cons_zero, Act.put, List.setIfInBounds_toArray, List.set_cons_succ, List.set_cons_zero]
        refine wpAnyH_done (by kernel_rfl) ?_ _
        have HRN := hidOf2 RN
        have HPN := hidOf2 (own_set PY (own_ne PY hY (by decide)) 1 (.slice aY nY cpY))
        have HGN := hidOf2 (grown_trans (HGY.out wY GY) (set_kept wY E 1 (.slice aY nY cpY)))
        clear RN sN hY rY eY PY GY P1 Q1 b1 SS SV SSV SSE S0 HGY HP HG HR
        generalize wY.setCell ⟨E, 1, none⟩ (.slice aY nY cpY) = wz at *
        go_wp2
        go_roundw
        case rel => exact ⟨k + 1, _, by omega, by go_num, by rw [HT.out]; exact HRN, by rw [HT.out]; exact HPN, HGN⟩
        case measure => simp [intOf]; omega
      · refine wpOp_run rfl rfl (wp_bs1 DV X 98 60 _ 32 _ rfl rfl Tryz.underlying98 infoVz (by decide) ?_)
        have b1 := b0.alloc b0.size (.cells (vlC X).toArray 60)
        have Q1 := wide_new DV wr.drew X 60
        have P1 := ownsRow_alloc (own_drew HP.out) (.cells (vlC X).toArray 60)
        refine ⟨(SS.out _ b1), ?_⟩
        simp only [List.getElem_toArray, List.getElem_cons_succ, List.getElem_cons_zero, Act.put, List.setIfInBounds_toArray, List.set_cons_succ, List.set_cons_zero]
        refine wpAnyH_all (rs := [4]) (by kernel_rfl) (by simp) ?_
        intro k hk
        simp only [List.mem_cons, List.mem_nil_iff, or_false] at hk
        subst hk
        refine wpOp_run rfl rfl (wp_load_cell 98 _ rfl E 1 rfl (.slice aV nV cV) (load_vals _ E 1 _ _ _ (SV.out _ b1)) ?_)
        refine ⟨(SS.out _ b1), ?_⟩
        simp only [List.getElem_toArray, List.getElem_cons_succ, List.getElem_cons_zero, Act.put, List.setIfInBounds_toArray, List.set_cons_succ, List.set_cons_zero]
        refine wpAnyH_all (rs := [14]) (by kernel_rfl) (by simp) ?_
        intro k hk
        simp only [List.mem_cons, List.mem_nil_iff, or_false] at hk
        subst hk
        refine wpOp_run rfl rfl (wp_append_wide DV _ _ 98 60 _ 32 Tryz.underlying98 infoVz rfl rfl w.heap.size _ ((L.take k).map En.df) rfl P1 _ [X] rfl Q1 (by unfold maxLen; simp; omega) (by simp; omega) (Nat.le_trans HG.out.size b1.size) ?_)
        intro vY wY PY GY
        obtain ⟨hY, rY, eY⟩ := SSV.out wY GY
        obtain ⟨aY, cpY, hvY⟩ := own_shape5 PY
        obtain ⟨nY, hnY⟩ : ∃ n, ((L.take k).map En.df ++ [X]).length = n := ⟨_, rfl⟩
        rw [hnY] at hvY
        subst hvY
        refine ⟨eY, ?_⟩
        simp only [List.getElem_toArray, List.getElem_cons_succ, List.getElem_cons_zero, Act.put, List.setIfInBounds_toArray, List.set_cons_succ, List.set_cons_zero]
        refine wpAnyH_take (i := 15) (v := (.pointer (some ⟨E, 0, none⟩))) rfl (by kernel_rfl) (by kernel_rfl) (by kernel_rfl) (fun _ _ _ h => h) (.inl ⟨rfl, fun _ hS => by simp [execOp, go_sem, Act.eval]⟩) eY ?_
        simp only [List.getElem_toArray, List.getElem_cons_succ, List.getElem_cons_zero, Act.put, List.setIfInBounds_toArray, List.set_cons_succ, List.set_cons_zero]
        refine wpAnyH_take (i := 16) (v := (.pointer (some ⟨E, 1, none⟩))) rfl (by kernel_rfl) (by kernel_rfl) (by kernel_rfl) (fun _ _ _ h => h) (.inl ⟨rfl, fun _ hS => by simp [execOp, go_sem, Act.eval]⟩) eY ?_
        simp only [List.getElem_toArray, List.getElem_cons_succ, List.getElem_cons_zero, Act.put, List.setIfInBounds_toArray, List.set_cons_succ, List.set_cons_zero]
        refine wpAnyH_all (rs := [17]) (by kernel_rfl) (by simp) ?_
        intro k hk
        simp only [List.mem_cons, List.mem_nil_iff, or_false] at hk
        subst hk
        refine wpOp_run rfl rfl (wp_store_cell 98 _ _ rfl E 1 rfl _ rfl (store_vals wY E 1 (.slice aV nV cV) aY _ cpY (by rw [Lib.cell_of_heap hY]; rfl) (Lib.frozen_of_heap hY 1)) ?_)
        have RN := Rd.put hY rY (RT.own DV PY)
        have sN := (SSE.out _ _ _ RN)
        refine ⟨sN, ?_⟩
        simp only [List.getElem_toArray, List.getElem_cons_succ, List.getElem_cons_zero, Act.put, List.setIfInBounds_toArray, List.set_cons_succ, List.set_cons_zero]
        refine wpAnyH_done (by kernel_rfl) ?_ _
        have HRN := hidOf2 RN
        have HPN := hidOf2 (own_set PY (own_ne PY hY (by decide)) 1 (.slice aY nY cpY))
        have HGN := hidOf2 (grown_trans (HGY.out wY GY) (set_kept wY E 1 (.slice aY nY cpY)))
        clear RN sN hY rY eY PY GY P1 Q1 b1 SS SV SSV SSE S0 HGY HP HG HR
        generalize wY.setCell ⟨E, 1, none⟩ (.slice aY nY cpY) = wz at *
        go_wp2
        go_roundw
        case rel => exact ⟨k + 1, _, by omega, by go_num, by rw [HT.out]; exact HRN, by rw [HT.out]; exact HPN, HGN⟩
        case measure => simp [intOf]; omega
    · have e1 : k = L.length := by omega
      subst e1
      rw [List.take_length] at HR HP
      have HR2 := hidOf2 HR.out
      have HP2 := hidOf2 HP.out
      clear HR HP
      go_wp2
      go_end0
      exact ⟨rfl, _, HR2.out, HP2.out, HG.out⟩
end Go.Proofs.YtjlbahgjjdfaeaaGreat
namespace Go.Proofs.YtjlbahgjjdfaeaaGreat
open Go.RowKit Go.Proofs.Ty Go.Sort Go.Lib
set_option linter.unusedVariables false
set_option maxRecDepth 1000000
set_option linter.unusedSimpArgs false
theorem wide_alloc {c : Nat} {α : Type} {dec : α → List Value} {w : World} {v : Value} {l : List α} (h : Wide c dec w v l) (o : Obj) : Wide c dec (w.alloc o) v l :=
  h.same (by rw [size_alloc]; omega) (fun b _ hl => Lib.alloc_old w o b hl)
/-- An entry put among others by its place. -/
def insP : List En → En → List En
  | [], x => [x]
  | y :: r, x => if y.pl < x.pl then y :: insP r x else x :: y :: r
def insL : List En → List En → List En
  | acc, [] => acc
  | acc, e :: r => insL (insP acc e.plain) r
theorem insP_len (L : List En) (x : En) : (insP L x).length = L.length + 1 := by
  induction L with
  | nil => rfl
  | cons y r ih =>
    rw [insP]
    split
    · rw [List.length_cons, ih, List.length_cons]
    · simp
theorem insL_len (acc l : List En) : (insL acc l).length = acc.length + l.length := by
  induction l generalizing acc with
  | nil => rfl
  | cons e r ih => rw [insL, ih, insP_len, List.length_cons]; omega
theorem insL_snoc (acc l : List En) (e : En) : insL acc (l ++ [e]) = insP (insL acc l) e.plain := by
  induction l generalizing acc with
  | nil => rfl
  | cons x r ih => rw [List.cons_append, insL, insL, ih]
theorem ins_at (L : List En) (x : En) (j : Nat) (hj : j ≤ L.length) (h1 : ∀ m (hm : m < L.length), m < j → L[m].pl < x.pl) (h2 : ∀ (hm : j < L.length), ¬ L[j].pl < x.pl) : insP L x = L.take j ++ [x] ++ L.drop j := by
  induction L generalizing j with
  | nil =>
    obtain rfl : j = 0 := by simpa using hj
    rfl
  | cons y r ih =>
    match j, hj with
    | 0, _ =>
      have := h2 (by simp)
      rw [insP, if_neg (by simpa using this)]
      rfl
    | j + 1, hj =>
      have := h1 0 (by simp) (by omega)
      rw [insP, if_pos (by simpa using this), ih j (by simpa using hj) (fun m hm h => by have := h1 (m + 1) (by simpa using hm) (by omega); simpa using this) (fun hm => by have := h2 (by simpa using hm); simpa using this)]
      simp
set_option maxHeartbeats 16000000 in
theorem r8New_any (v : Value) (l : List En) (w : World) (hW : Wide 14 enC w v l) (hn : l.length ≤ 4000000000000) :
    Calls Tryz.prog 15 #[v] w fun x w' => Below w.heap.size w w' ∧ (chkL l ≠ 0 → x = .returned (.tuple #[.pointer none, .int .i64 (chkL l)])) ∧ (chkL l = 0 → ∃ E vL vV, x = .returned (.tuple #[.pointer (some ⟨E, 0, none⟩), .int .i64 0]) ∧ w.heap.size ≤ E ∧ Rd E (insL [] l) vL ((insL [] l).map En.df) vV w') := by
  have hC := r8Check_any v l w hW hn
  obtain ⟨ao, cp, rfl, _, hc0⟩ := hW
  have HC : Hid (∀ (wr : World), Below w.heap.size w wr → ∀ k (hk : k < l.length), ∃ b off, ao = some ⟨b, off, none⟩ ∧ b < w.heap.size ∧ wr.rangeAt b (off + k * 14) (enC l[k])) := fun wr hb k hk => Wide.at hc0 hb k hk
  clear hc0
  by_cases hc : chkL l = 0
  · have hl := (chkL_ok hc).1
    rw [hc] at hC ⊢
    clear hc
    go_enter Tryz.func15, Tryz.ntmps15
    go_wp2_with fail
    refine hC.mono ?_
    rintro x w1 ⟨rfl, b1⟩
    clear hC
    obtain ⟨E, hE⟩ : ∃ E, w1.heap.size = E := ⟨_, rfl⟩
    have hEw : w.heap.size ≤ E := by rw [← hE]; exact b1.size
    have R0 : Rd E [] (.slice none 0 0) [] (.slice none 0 0) (w1.alloc (.cells #[.slice none 0 0, .slice none 0 0] 100)) := ⟨by rw [← hE]; exact heap_alloc_new _ _, RT.nil _ _ _ _, RT.nil _ _ _ _⟩
    have B0 := b1.alloc b1.size (.cells #[.slice none 0 0, .slice none 0 0] 100)
    have HR0 := hidOf2 R0
    have HB0 := hidOf2 B0
    clear R0 B0 b1
    go_wp2
    go_loopw [6] (fun i x => ∃ (k : Nat) (vL : Value), k ≤ l.length ∧ i = .int .i64 k ∧ Hid (Rd E (insL [] (l.take k)) vL [] (.slice none 0 0) x) ∧ Hid (Below w.heap.size w x)) (fun i _ => l.length - (intOf i).toNat)
    case atStart => exact ⟨0, _, Nat.zero_le _, rfl, HR0, HB0⟩
    case round =>
      clear HR0 HB0
      obtain ⟨k, vL, hk, rfl, HR, HB⟩ := hrel
      by_cases hkl : k < l.length
      · obtain ⟨b, off, rfl, hb, hR⟩ := HC.out wr HB.out k hkl
        have HI := hidOf2 (show insL [] (l.take (k + 1)) = insP (insL [] (l.take k)) l[k].plain by rw [List.take_succ_eq_append_getElem hkl, insL_snoc])
        have hLk : (insL [] (l.take k)).length ≤ 1024 := by rw [insL_len, List.length_take]; simp; omega
        generalize l[k] = e at *
        generalize insL [] (l.take k) = L at *
        obtain ⟨aL, cL, rfl⟩ := HR.out.rowL.wide.shape
        obtain ⟨q, hq⟩ : ∃ q, wr.heap.size = q := ⟨_, rfl⟩
        have hh : (wr.alloc (.cells #[.int .u16 0, .int .u8 0, .int .i64 0, .bool false, .bool false, .int .i64 0, .int .u64 0, .string ⟨#[]⟩, .int .i64 0, .int .u64 0, .string ⟨#[]⟩, .int .i64 0, .int .u64 0, .string ⟨#[]⟩] 64)).heap[q]? = some (.cells #[.int .u16 0, .int .u8 0, .int .i64 0, .bool false, .bool false, .int .i64 0, .int .u64 0, .string ⟨#[]⟩, .int .i64 0, .int .u64 0, .string ⟨#[]⟩, .int .i64 0, .int .u64 0, .string ⟨#[]⟩] 64 (0, 0)) := by rw [← hq]; exact heap_alloc_new _ _
        have hE1 := Eb.row hh e
        have BA : Below wr.heap.size wr (wr.alloc (.cells #[.int .u16 0, .int .u8 0, .int .i64 0, .bool false, .bool false, .int .i64 0, .int .u64 0, .string ⟨#[]⟩, .int .i64 0, .int .u64 0, .string ⟨#[]⟩, .int .i64 0, .int .u64 0, .string ⟨#[]⟩] 64)) := (Below.refl _ _).alloc (Nat.le_refl _) _
        have BB := below_row BA (by rw [← hq]; exact Nat.le_refl _) (by rw [size_alloc]; omega) (q := q) e.arr
        go_upto_region 9 with (first | (refine ldE hR rfl _ rfl rfl ?_) | (refine sdE hh rfl e rfl _ _ rfl rfl rfl ?_))
        try simp only [hq]
        generalize ((wr.alloc (.cells #[.int .u16 0, .int .u8 0, .int .i64 0, .bool false, .bool false, .int .i64 0, .int .u64 0, .string ⟨#[]⟩, .int .i64 0, .int .u64 0, .string ⟨#[]⟩, .int .i64 0, .int .u64 0, .string ⟨#[]⟩] 64)).setRow q e.arr) = W1 at *
        clear hh BA hR hb
        have r1 := hE1.r11
        have hPl := r7Plain_v e.df W1
        go_wp2_with (first | (refine ldV r1 rfl _ rfl rfl ?_))
        refine hPl.mono ?_
        rintro x w2 ⟨rfl, b2⟩
        have hE2 := hE1.below b2
        have BC := BB.trans (b2.mono BB.size)
        clear hE1 b2 r1 hPl BB
        have ht := hE2.there
        have hE3 := hE2.setdf
        have BD : Below wr.heap.size wr (w2.setCells q 11 (vlC e.plain.df)) := BC.grown (setCells_kept w2 q 11 _) BC.size (fun j hj => by cases hj; omega)
        go_wp2_with (first | (refine sdV ht e.plain.df rfl _ _ rfl rfl rfl ?_))
        generalize (w2.setCells q 11 (vlC e.plain.df)) = W3 at *
        have HRW : Hid (∀ x, Below W3.heap.size W3 x → Rd E L (.slice aL L.length cL) [] (.slice none 0 0) x ∧ Eb q e.plain x ∧ Below w.heap.size w x) := fun x hb => ⟨(HR.out.below BD).below hb, hE3.below hb, (HB.out.trans (BD.mono HB.out.size)).trans (hb.mono (Nat.le_trans HB.out.size BD.size))⟩
        generalize e.plain = X at *
        clear hE2 hE3 BC BD ht HR HB
        simp only [Act.put]
        go_loopw [8] (fun i x => ∃ j : Nat, j ≤ L.length ∧ i = .int .i64 j ∧ Hid (∀ m (hm : m < L.length), m < j → L[m].pl < X.pl) ∧ Hid (Below W3.heap.size W3 x)) (fun i _ => L.length - (intOf i).toNat)
        case atStart => exact ⟨0, Nat.zero_le _, rfl, fun m _ h => by omega, Below.refl _ _⟩
        case round =>
          obtain ⟨j, hj, rfl, HJ, HBx⟩ := hrel
          obtain ⟨RX, EX, BX⟩ := HRW.out wr HBx.out
          have k0 : ∀ x : Later wr, x.now.cell? ⟨E, 0, none⟩ = some (.slice aL L.length cL) := fun x => (RX.below x.below).c.1
          have hLw := Later.some wr
          by_cases hjl : j < L.length
          · obtain ⟨lb, lo, lc, hv, hlb, hRj⟩ := RX.rowL.wide.at0 j hjl
            injection hv with hv1 _ hv3
            subst hv1
            subst hv3
            have hp1 := r8place_any L[j]
            have hp2 := r8place_any X
            have rX := EX.r0
            have lX := EX.lt
            have HJ1 : Hid (L[j].pl < X.pl → ∀ m (hm : m < L.length), m < j + 1 → L[m].pl < X.pl) := fun h m hm h1 => by
              rcases Nat.lt_or_ge m j with h3 | h3
              · exact HJ.out m hm h3
              · have : m = j := by omega
                subst this; exact h
            have HJ2 : Hid (¬ L[j].pl < X.pl → insP L X = L.take j ++ [X] ++ L.drop j) := fun h => ins_at L X j hj HJ.out (fun _ => h)
            generalize L[j] = Y at *
            clear HJ
            by_cases hlt : Y.pl < X.pl
            · have d1 : decide ((Y.pl : Int) < (X.pl : Int)) = true := by simp; omega
              have HJ3 := hidOf2 (HJ1.out hlt)
              clear HJ1 HJ2
              go_upto_region 10 with fail
              refine wp_region_later (by kernel_rfl) (by kernel_rfl) ?_
              repeat (go_big_quiet_step (fail))
              refine quiet_ldE hRj hlb rfl _ rfl rfl ?_
              simp only [Act.put, List.setIfInBounds_toArray, List.set_cons_succ, List.set_cons_zero]
              go_big_quiet_step (first | (go_at_call 37; with_reducible exact later (hp1 _)))
              refine quiet_ldE rX lX rfl _ rfl rfl ?_
              simp only [Act.put, List.setIfInBounds_toArray, List.set_cons_succ, List.set_cons_zero]
              repeat (go_big_quiet_step (first | (go_at_call 37; with_reducible exact later (hp2 _))))
              refine wpQuiet_nil ?_
              rintro _ ⟨x1, rfl⟩
              have HB4 := hidOf2 (HBx.out.trans (x1.below.mono HBx.out.size))
              clear k0 hLw hRj rX RX EX BX HBx
              generalize x1.now = w5 at *
              clear x1
              go_wp2
              go_roundw
              case rel => exact ⟨j + 1, by omega, by go_num, HJ3, HB4⟩
              case measure => simp [intOf]; omega
            · have d1 : decide ((Y.pl : Int) < (X.pl : Int)) = false := by simp; omega
              have HINS := hidOf2 (HJ2.out hlt)
              clear HJ1 HJ2
              go_upto_region 10 with fail
              refine wp_region_later (by kernel_rfl) (by kernel_rfl) ?_
              repeat (go_big_quiet_step (fail))
              refine quiet_ldE hRj hlb rfl _ rfl rfl ?_
              simp only [Act.put, List.setIfInBounds_toArray, List.set_cons_succ, List.set_cons_zero]
              go_big_quiet_step (first | (go_at_call 37; with_reducible exact later (hp1 _)))
              refine quiet_ldE rX lX rfl _ rfl rfl ?_
              simp only [Act.put, List.setIfInBounds_toArray, List.set_cons_succ, List.set_cons_zero]
              repeat (go_big_quiet_step (first | (go_at_call 37; with_reducible exact later (hp2 _))))
              refine wpQuiet_nil ?_
              rintro _ ⟨x1, rfl⟩
              obtain ⟨Rk, Ek, Bk⟩ := HRW.out _ (HBx.out.trans (x1.below.mono HBx.out.size))
              clear k0 hLw RX EX BX HBx HRW
              generalize x1.now = wk at *
              clear x1
              have HBk := hidOf2 Bk
              have HRd : Hid (∀ x, Below wk.heap.size wk x → Rd E L _ [] (.slice none 0 0) x) := fun x hb => Rk.below hb
              have SS : Hid (∀ x, Below wk.heap.size wk x → x.cell? ⟨E, 0, none⟩ = some _ ∧ x.rangeAt q 0 (enC X)) := fun x hb => ⟨(Rk.below hb).c.1, (Ek.below hb).r0⟩
              obtain ⟨v1, hs1, hw1⟩ := re_take Rk.rowL j hj
              obtain ⟨v2, hs2, hw2⟩ := re_drop Rk.rowL j hj
              have b0 : Below wk.heap.size wk wk.drew := bdr (Below.refl _ _) 1
              have S0 := SS.out _ b0
              clear Rk Ek Bk
              go_upto_region 12 with fail
              refine wp_region_held (S := fun x => x.cell? ⟨E, 0, none⟩ = some (.slice (some ⟨lb, lo, none⟩) L.length cL) ∧ x.rangeAt q 0 (enC X)) (by kernel_rfl) ?_
              change wpAnyH _ _ _ _ _ _ _ _ wk.drew
              refine wpAnyH_take (i := 1) (v := (.pointer (some ⟨E, 0, none⟩))) rfl (by kernel_rfl) (by kernel_rfl) (by kernel_rfl) (fun _ _ _ h => h) (.inl ⟨rfl, fun _ hS => rfl⟩) S0 ?_
              simp only [List.getElem_toArray, List.getElem_cons_succ, List.getElem_cons_zero, Act.put, List.setIfInBounds_toArray, List.set_cons_succ, List.set_cons_zero]
              refine wpAnyH_take (i := 2) (v := (.pointer (some ⟨E, 0, none⟩))) rfl (by kernel_rfl) (by kernel_rfl) (by kernel_rfl) (fun _ _ _ h => h) (.inl ⟨rfl, fun _ hS => by simp [execOp, go_sem, Act.eval]⟩) S0 ?_
              simp only [List.getElem_toArray, List.getElem_cons_succ, List.getElem_cons_zero, Act.put, List.setIfInBounds_toArray, List.set_cons_succ, List.set_cons_zero]
              refine wpAnyH_take (i := 3) (v := (.pointer (some ⟨E, 0, none⟩))) rfl (by kernel_rfl) (by kernel_rfl) (by kernel_rfl) (fun _ _ _ h => h) (.inl ⟨rfl, fun _ hS => by simp [execOp, go_sem, Act.eval]⟩) S0 ?_
              simp only [List.getElem_toArray, List.getElem_cons_succ, List.getElem_cons_zero, Act.put, List.setIfInBounds_toArray, List.set_cons_succ, List.set_cons_zero]
              refine wpAnyH_take (i := 4) (v := (.slice (some ⟨lb, lo, none⟩) L.length cL)) rfl (by kernel_rfl) (by kernel_rfl) (by kernel_rfl) (fun _ _ _ h => h) (.inl ⟨rfl, fun _ hS => exec_load rfl rfl (load_ents _ _ _ _ _ _ hS.1)⟩) S0 ?_
              simp only [List.getElem_toArray, List.getElem_cons_succ, List.getElem_cons_zero, Act.put, List.setIfInBounds_toArray, List.set_cons_succ, List.set_cons_zero]
              refine wpAnyH_take (i := 5) (v := (.int .i64 (j : Int))) rfl (by kernel_rfl) (by kernel_rfl) (by kernel_rfl) (fun _ _ _ h => h) (.inl ⟨rfl, fun _ hS => rfl⟩) S0 ?_
              simp only [List.getElem_toArray, List.getElem_cons_succ, List.getElem_cons_zero, Act.put, List.setIfInBounds_toArray, List.set_cons_succ, List.set_cons_zero]
              refine wpAnyH_take (i := 6) (v := (v1)) rfl (by kernel_rfl) (by kernel_rfl) (by kernel_rfl) (fun _ _ _ h => h) (.inl ⟨rfl, fun _ hS => by simp [execOp, go_sem, Act.eval, hs1]⟩) S0 ?_
              simp only [List.getElem_toArray, List.getElem_cons_succ, List.getElem_cons_zero, Act.put, List.setIfInBounds_toArray, List.set_cons_succ, List.set_cons_zero]
              refine wpAnyH_take (i := 8) (v := (.agg X.arr)) rfl (by kernel_rfl) (by kernel_rfl) (by kernel_rfl) (fun _ _ _ h => h) (.inl ⟨rfl, fun _ hS => exec_load rfl rfl (run_ldE hS.2)⟩) S0 ?_
              simp only [List.getElem_toArray, List.getElem_cons_succ, List.getElem_cons_zero, Act.put, List.setIfInBounds_toArray, List.set_cons_succ, List.set_cons_zero]
              refine wpAnyH_all (rs := [0, 9]) (by kernel_rfl) (by simp) ?_
              intro k hk
              simp only [List.mem_cons, List.mem_nil_iff, or_false] at hk
              rcases hk with rfl | rfl
              · refine wpOp_run rfl rfl (wp_bs0g Tryz.underlying22 infoEz rfl ?_)
                have b1 := b0.alloc b0.size (.cells #[] 64)
                have P1 : (wk.drew.alloc (.cells #[] 64)).ownsRow wk.heap.size 64 14 (.slice (some ⟨wk.drew.heap.size, 0, none⟩) 0 0) ([] : List En).length (flatW DE []) := own_lower (own0E wk.drew) b0.size
                refine ⟨(SS.out _ b1), ?_⟩
                simp only [List.getElem_toArray, List.getElem_cons_succ, List.getElem_cons_zero, Act.put, List.setIfInBounds_toArray, List.set_cons_succ, List.set_cons_zero]
                refine wpAnyH_all (rs := [7, 9]) (by kernel_rfl) (by simp) ?_
                intro k hk
                simp only [List.mem_cons, List.mem_nil_iff, or_false] at hk
                rcases hk with rfl | rfl
                · refine wpOp_run rfl rfl (wp_append_wide DE _ _ 22 64 _ 120 Tryz.underlying22 infoEz rfl rfl wk.heap.size (.slice (some ⟨wk.drew.heap.size, 0, none⟩) 0 0) [] rfl P1 _ (L.take j) rfl (hw1 _ (HRd.out _ b1).rowL.wide) (by unfold maxLen; simp; omega) (by simp; omega) b1.size ?_)
                  intro v2 w2 P2 G2
                  rw [List.nil_append] at P2
                  have b2 := b1.grown G2 b1.size (own_lt P1)
                  refine ⟨(SS.out _ b2), ?_⟩
                  simp only [List.getElem_toArray, List.getElem_cons_succ, List.getElem_cons_zero, Act.put, List.setIfInBounds_toArray, List.set_cons_succ, List.set_cons_zero]
                  refine wpAnyH_all (rs := [9]) (by kernel_rfl) (by simp) ?_
                  intro k hk
                  simp only [List.mem_cons, List.mem_nil_iff, or_false] at hk
                  subst hk
                  refine wpOp_run rfl rfl (wp_bs1 DE X 22 64 _ 120 _ rfl rfl Tryz.underlying22 infoEz (by decide) ?_)
                  have b3 := b2.alloc b2.size (.cells (enC X).toArray 64)
                  have Q3 := wide_new DE w2 X 64
                  have P3 := ownsRow_alloc P2 (.cells (enC X).toArray 64)
                  refine ⟨(SS.out _ b3), ?_⟩
                  simp only [List.getElem_toArray, List.getElem_cons_succ, List.getElem_cons_zero, Act.put, List.setIfInBounds_toArray, List.set_cons_succ, List.set_cons_zero]
                  refine wpAnyH_all (rs := [10]) (by kernel_rfl) (by simp) ?_
                  intro k hk
                  simp only [List.mem_cons, List.mem_nil_iff, or_false] at hk
                  subst hk
                  refine wpOp_run rfl rfl (wp_append_wide DE _ _ 22 64 _ 120 Tryz.underlying22 infoEz rfl rfl wk.heap.size _ (L.take j) rfl P3 _ [X] rfl Q3 (by unfold maxLen; simp; omega) (by simp; omega) b3.size ?_)
                  intro vZ wZ PZ GZ
                  have bZ := b3.grown GZ b3.size (own_lt P3)
                  refine ⟨(SS.out _ bZ), ?_⟩
                  simp only [List.getElem_toArray, List.getElem_cons_succ, List.getElem_cons_zero, Act.put, List.setIfInBounds_toArray, List.set_cons_succ, List.set_cons_zero]
                  refine wpAnyH_take (i := 11) (v := (vZ)) rfl (by kernel_rfl) (by kernel_rfl) (by kernel_rfl) (fun _ _ _ h => h) (.inl ⟨rfl, fun _ hS => rfl⟩) (SS.out _ bZ) ?_
                  simp only [List.getElem_toArray, List.getElem_cons_succ, List.getElem_cons_zero, Act.put, List.setIfInBounds_toArray, List.set_cons_succ, List.set_cons_zero]
                  refine wpAnyH_done (by kernel_rfl) ?_ _
                  have HPZ := hidOf2 PZ
                  have HbZ := hidOf2 bZ
                  clear PZ GZ bZ SS S0
                  have RZ := HRd.out _ HbZ.out
                  have cZ0 := RZ.c.1
                  have hWd := hw2 _ RZ.rowL.wide
                  have hPZ := HPZ.out
                  clear RZ
                  go_wp2_with (first | (refine apE rfl _ _ rfl wk.heap.size vZ (L.take j ++ [X]) rfl hPZ _ (L.drop j) rfl hWd (by simp; omega) HbZ.out.size ?_; intro vY wY PY GY; have bY := HbZ.out.grown GY HbZ.out.size (own_lt hPZ); have RY := HRd.out _ bY; have cY := RY.c.1; have fY := RY.frozen 0; obtain ⟨aY, cpY, hvY⟩ := own_shape5 PY; obtain ⟨nY, hnY⟩ : ∃ n, (L.take j ++ [X] ++ L.drop j).length = n := ⟨_, rfl⟩; rw [hnY] at hvY; subst hvY; have HRn := hidOf2 (RY.setL (RT.own DE PY)); have HBn := hidOf2 ((HBk.out.trans (bY.mono HBk.out.size)).grown (set_kept wY E 0 (.slice aY nY cpY)) (Nat.le_trans HBk.out.size bY.size) (fun j hj => by cases hj; exact hEw)); clear PY GY bY RY))
                  go_roundw
                  case rel => exact ⟨k + 1, _, by omega, by go_num, by rw [HI.out, HINS.out]; exact HRn, HBn⟩
                  case measure => simp [intOf]; omega
                · refine wpOp_run rfl rfl (wp_bs1 DE X 22 64 _ 120 _ rfl rfl Tryz.underlying22 infoEz (by decide) ?_)
                  have b2 := b1.alloc b1.size (.cells (enC X).toArray 64)
                  have Q2 := wide_new DE (wk.drew.alloc (.cells #[] 64)) X 64
                  have P2 := ownsRow_alloc P1 (.cells (enC X).toArray 64)
                  refine ⟨(SS.out _ b2), ?_⟩
                  simp only [List.getElem_toArray, List.getElem_cons_succ, List.getElem_cons_zero, Act.put, List.setIfInBounds_toArray, List.set_cons_succ, List.set_cons_zero]
                  refine wpAnyH_all (rs := [7]) (by kernel_rfl) (by simp) ?_
                  intro k hk
                  simp only [List.mem_cons, List.mem_nil_iff, or_false] at hk
                  subst hk
                  refine wpOp_run rfl rfl (wp_append_wide DE _ _ 22 64 _ 120 Tryz.underlying22 infoEz rfl rfl wk.heap.size (.slice (some ⟨wk.drew.heap.size, 0, none⟩) 0 0) [] rfl P2 _ (L.take j) rfl (hw1 _ (HRd.out _ b2).rowL.wide) (by unfold maxLen; simp; omega) (by simp; omega) b2.size ?_)
                  intro v3 w3 P3 G3
                  rw [List.nil_append] at P3
                  have b3 := b2.grown G3 b2.size (own_lt P2)
                  have Q3 := Wide.same Q2 G3.size (fun b hb hl => G3.block b hl (fun e => by simp only [Value.ownBlock, Option.some.injEq, size_alloc] at hb e; omega))
                  refine ⟨(SS.out _ b3), ?_⟩
                  simp only [List.getElem_toArray, List.getElem_cons_succ, List.getElem_cons_zero, Act.put, List.setIfInBounds_toArray, List.set_cons_succ, List.set_cons_zero]
                  refine wpAnyH_all (rs := [10]) (by kernel_rfl) (by simp) ?_
                  intro k hk
                  simp only [List.mem_cons, List.mem_nil_iff, or_false] at hk
                  subst hk
                  refine wpOp_run rfl rfl (wp_append_wide DE _ _ 22 64 _ 120 Tryz.underlying22 infoEz rfl rfl wk.heap.size _ (L.take j) rfl P3 _ [X] rfl Q3 (by unfold maxLen; simp; omega) (by simp; omega) b3.size ?_)
                  intro vZ wZ PZ GZ
                  have bZ := b3.grown GZ b3.size (own_lt P3)
                  refine ⟨(SS.out _ bZ), ?_⟩
                  simp only [List.getElem_toArray, List.getElem_cons_succ, List.getElem_cons_zero, Act.put, List.setIfInBounds_toArray, List.set_cons_succ, List.set_cons_zero]
                  refine wpAnyH_take (i := 11) (v := (vZ)) rfl (by kernel_rfl) (by kernel_rfl) (by kernel_rfl) (fun _ _ _ h => h) (.inl ⟨rfl, fun _ hS => rfl⟩) (SS.out _ bZ) ?_
                  simp only [List.getElem_toArray, List.getElem_cons_succ, List.getElem_cons_zero, Act.put, List.setIfInBounds_toArray, List.set_cons_succ, List.set_cons_zero]
                  refine wpAnyH_done (by kernel_rfl) ?_ _
                  have HPZ := hidOf2 PZ
                  have HbZ := hidOf2 bZ
                  clear PZ GZ bZ SS S0
                  have RZ := HRd.out _ HbZ.out
                  have cZ0 := RZ.c.1
                  have hWd := hw2 _ RZ.rowL.wide
                  have hPZ := HPZ.out
                  clear RZ
                  go_wp2_with (first | (refine apE rfl _ _ rfl wk.heap.size vZ (L.take j ++ [X]) rfl hPZ _ (L.drop j) rfl hWd (by simp; omega) HbZ.out.size ?_; intro vY wY PY GY; have bY := HbZ.out.grown GY HbZ.out.size (own_lt hPZ); have RY := HRd.out _ bY; have cY := RY.c.1; have fY := RY.frozen 0; obtain ⟨aY, cpY, hvY⟩ := own_shape5 PY; obtain ⟨nY, hnY⟩ : ∃ n, (L.take j ++ [X] ++ L.drop j).length = n := ⟨_, rfl⟩; rw [hnY] at hvY; subst hvY; have HRn := hidOf2 (RY.setL (RT.own DE PY)); have HBn := hidOf2 ((HBk.out.trans (bY.mono HBk.out.size)).grown (set_kept wY E 0 (.slice aY nY cpY)) (Nat.le_trans HBk.out.size bY.size) (fun j hj => by cases hj; exact hEw)); clear PY GY bY RY))
                  go_roundw
                  case rel => exact ⟨k + 1, _, by omega, by go_num, by rw [HI.out, HINS.out]; exact HRn, HBn⟩
                  case measure => simp [intOf]; omega
              · refine wpOp_run rfl rfl (wp_bs1 DE X 22 64 _ 120 _ rfl rfl Tryz.underlying22 infoEz (by decide) ?_)
                have b1 := b0.alloc b0.size (.cells (enC X).toArray 64)
                have Q1 := wide_new DE wk.drew X 64
                refine ⟨(SS.out _ b1), ?_⟩
                simp only [List.getElem_toArray, List.getElem_cons_succ, List.getElem_cons_zero, Act.put, List.setIfInBounds_toArray, List.set_cons_succ, List.set_cons_zero]
                refine wpAnyH_all (rs := [0]) (by kernel_rfl) (by simp) ?_
                intro k hk
                simp only [List.mem_cons, List.mem_nil_iff, or_false] at hk
                subst hk
                refine wpOp_run rfl rfl (wp_bs0g Tryz.underlying22 infoEz rfl ?_)
                have b2 := b1.alloc b1.size (.cells #[] 64)
                have P2 : ((wk.drew.alloc (.cells (enC X).toArray 64)).alloc (.cells #[] 64)).ownsRow wk.heap.size 64 14 (.slice (some ⟨(wk.drew.alloc (.cells (enC X).toArray 64)).heap.size, 0, none⟩) 0 0) ([] : List En).length (flatW DE []) := own_lower (own0E (wk.drew.alloc (.cells (enC X).toArray 64))) b1.size
                have Q2 := wide_alloc Q1 (.cells #[] 64)
                refine ⟨(SS.out _ b2), ?_⟩
                simp only [List.getElem_toArray, List.getElem_cons_succ, List.getElem_cons_zero, Act.put, List.setIfInBounds_toArray, List.set_cons_succ, List.set_cons_zero]
                refine wpAnyH_all (rs := [7]) (by kernel_rfl) (by simp) ?_
                intro k hk
                simp only [List.mem_cons, List.mem_nil_iff, or_false] at hk
                subst hk
                refine wpOp_run rfl rfl (wp_append_wide DE _ _ 22 64 _ 120 Tryz.underlying22 infoEz rfl rfl wk.heap.size (.slice (some ⟨(wk.drew.alloc (.cells (enC X).toArray 64)).heap.size, 0, none⟩) 0 0) [] rfl P2 _ (L.take j) rfl (hw1 _ (HRd.out _ b2).rowL.wide) (by unfold maxLen; simp; omega) (by simp; omega) b2.size ?_)
                intro v3 w3 P3 G3
                rw [List.nil_append] at P3
                have b3 := b2.grown G3 b2.size (own_lt P2)
                have Q3 := Wide.same Q2 G3.size (fun b hb hl => G3.block b hl (fun e => by simp only [Value.ownBlock, Option.some.injEq, size_alloc] at hb e; omega))
                refine ⟨(SS.out _ b3), ?_⟩
                simp only [List.getElem_toArray, List.getElem_cons_succ, List.getElem_cons_zero, Act.put, List.setIfInBounds_toArray, List.set_cons_succ, List.set_cons_zero]
                refine wpAnyH_all (rs := [10]) (by kernel_rfl) (by simp) ?_
                intro k hk
                simp only [List.mem_cons, List.mem_nil_iff, or_false] at hk
                subst hk
                refine wpOp_run rfl rfl (wp_append_wide DE _ _ 22 64 _ 120 Tryz.underlying22 infoEz rfl rfl wk.heap.size _ (L.take j) rfl P3 _ [X] rfl Q3 (by unfold maxLen; simp; omega) (by simp; omega) b3.size ?_)
                intro vZ wZ PZ GZ
                have bZ := b3.grown GZ b3.size (own_lt P3)
                refine ⟨(SS.out _ bZ), ?_⟩
                simp only [List.getElem_toArray, List.getElem_cons_succ, List.getElem_cons_zero, Act.put, List.setIfInBounds_toArray, List.set_cons_succ, List.set_cons_zero]
                refine wpAnyH_take (i := 11) (v := (vZ)) rfl (by kernel_rfl) (by kernel_rfl) (by kernel_rfl) (fun _ _ _ h => h) (.inl ⟨rfl, fun _ hS => rfl⟩) (SS.out _ bZ) ?_
                simp only [List.getElem_toArray, List.getElem_cons_succ, List.getElem_cons_zero, Act.put, List.setIfInBounds_toArray, List.set_cons_succ, List.set_cons_zero]
                refine wpAnyH_done (by kernel_rfl) ?_ _
                have HPZ := hidOf2 PZ
                have HbZ := hidOf2 bZ
                clear PZ GZ bZ SS S0
                have RZ := HRd.out _ HbZ.out
                have cZ0 := RZ.c.1
                have hWd := hw2 _ RZ.rowL.wide
                have hPZ := HPZ.out
                clear RZ
                go_wp2_with (first | (refine apE rfl _ _ rfl wk.heap.size vZ (L.take j ++ [X]) rfl hPZ _ (L.drop j) rfl hWd (by simp; omega) HbZ.out.size ?_; intro vY wY PY GY; have bY := HbZ.out.grown GY HbZ.out.size (own_lt hPZ); have RY := HRd.out _ bY; have cY := RY.c.1; have fY := RY.frozen 0; obtain ⟨aY, cpY, hvY⟩ := own_shape5 PY; obtain ⟨nY, hnY⟩ : ∃ n, (L.take j ++ [X] ++ L.drop j).length = n := ⟨_, rfl⟩; rw [hnY] at hvY; subst hvY; have HRn := hidOf2 (RY.setL (RT.own DE PY)); have HBn := hidOf2 ((HBk.out.trans (bY.mono HBk.out.size)).grown (set_kept wY E 0 (.slice aY nY cpY)) (Nat.le_trans HBk.out.size bY.size) (fun j hj => by cases hj; exact hEw)); clear PY GY bY RY))
                go_roundw
                case rel => exact ⟨k + 1, _, by omega, by go_num, by rw [HI.out, HINS.out]; exact HRn, HBn⟩
                case measure => simp [intOf]; omega
          · have HINS := hidOf2 (ins_at L X j hj HJ.out (fun h => absurd h hjl))
            clear HJ
            go_upto_region 10 with fail
            refine wp_region_later (by kernel_rfl) (by kernel_rfl) ?_
            repeat (go_big_quiet_step (fail))
            refine wpQuiet_nil ?_
            rintro _ ⟨x1, rfl⟩
            obtain ⟨Rk, Ek, Bk⟩ := HRW.out _ (HBx.out.trans (x1.below.mono HBx.out.size))
            clear k0 hLw RX EX BX HBx HRW
            generalize x1.now = wk at *
            clear x1
            have HBk := hidOf2 Bk
            have HRd : Hid (∀ x, Below wk.heap.size wk x → Rd E L _ [] (.slice none 0 0) x) := fun x hb => Rk.below hb
            have SS : Hid (∀ x, Below wk.heap.size wk x → x.cell? ⟨E, 0, none⟩ = some _ ∧ x.rangeAt q 0 (enC X)) := fun x hb => ⟨(Rk.below hb).c.1, (Ek.below hb).r0⟩
            obtain ⟨v1, hs1, hw1⟩ := re_take Rk.rowL j hj
            obtain ⟨v2, hs2, hw2⟩ := re_drop Rk.rowL j hj
            have b0 : Below wk.heap.size wk wk.drew := bdr (Below.refl _ _) 1
            have S0 := SS.out _ b0
            clear Rk Ek Bk
            go_upto_region 12 with fail
            refine wp_region_held (S := fun x => x.cell? ⟨E, 0, none⟩ = some (.slice aL L.length cL) ∧ x.rangeAt q 0 (enC X)) (by kernel_rfl) ?_
            change wpAnyH _ _ _ _ _ _ _ _ wk.drew
            refine wpAnyH_take (i := 1) (v := (.pointer (some ⟨E, 0, none⟩))) rfl (by kernel_rfl) (by kernel_rfl) (by kernel_rfl) (fun _ _ _ h => h) (.inl ⟨rfl, fun _ hS => rfl⟩) S0 ?_
            simp only [List.getElem_toArray, List.getElem_cons_succ, List.getElem_cons_zero, Act.put, List.setIfInBounds_toArray, List.set_cons_succ, List.set_cons_zero]
            refine wpAnyH_take (i := 2) (v := (.pointer (some ⟨E, 0, none⟩))) rfl (by kernel_rfl) (by kernel_rfl) (by kernel_rfl) (fun _ _ _ h => h) (.inl ⟨rfl, fun _ hS => by simp [execOp, go_sem, Act.eval]⟩) S0 ?_
            simp only [List.getElem_toArray, List.getElem_cons_succ, List.getElem_cons_zero, Act.put, List.setIfInBounds_toArray, List.set_cons_succ, List.set_cons_zero]
            refine wpAnyH_take (i := 3) (v := (.pointer (some ⟨E, 0, none⟩))) rfl (by kernel_rfl) (by kernel_rfl) (by kernel_rfl) (fun _ _ _ h => h) (.inl ⟨rfl, fun _ hS => by simp [execOp, go_sem, Act.eval]⟩) S0 ?_
            simp only [List.getElem_toArray, List.getElem_cons_succ, List.getElem_cons_zero, Act.put, List.setIfInBounds_toArray, List.set_cons_succ, List.set_cons_zero]
            refine wpAnyH_take (i := 4) (v := (.slice aL L.length cL)) rfl (by kernel_rfl) (by kernel_rfl) (by kernel_rfl) (fun _ _ _ h => h) (.inl ⟨rfl, fun _ hS => exec_load rfl rfl (load_ents _ _ _ _ _ _ hS.1)⟩) S0 ?_
            simp only [List.getElem_toArray, List.getElem_cons_succ, List.getElem_cons_zero, Act.put, List.setIfInBounds_toArray, List.set_cons_succ, List.set_cons_zero]
            refine wpAnyH_take (i := 5) (v := (.int .i64 (j : Int))) rfl (by kernel_rfl) (by kernel_rfl) (by kernel_rfl) (fun _ _ _ h => h) (.inl ⟨rfl, fun _ hS => rfl⟩) S0 ?_
            simp only [List.getElem_toArray, List.getElem_cons_succ, List.getElem_cons_zero, Act.put, List.setIfInBounds_toArray, List.set_cons_succ, List.set_cons_zero]
            refine wpAnyH_take (i := 6) (v := (v1)) rfl (by kernel_rfl) (by kernel_rfl) (by kernel_rfl) (fun _ _ _ h => h) (.inl ⟨rfl, fun _ hS => by simp [execOp, go_sem, Act.eval, hs1]⟩) S0 ?_
            simp only [List.getElem_toArray, List.getElem_cons_succ, List.getElem_cons_zero, Act.put, List.setIfInBounds_toArray, List.set_cons_succ, List.set_cons_zero]
            refine wpAnyH_take (i := 8) (v := (.agg X.arr)) rfl (by kernel_rfl) (by kernel_rfl) (by kernel_rfl) (fun _ _ _ h => h) (.inl ⟨rfl, fun _ hS => exec_load rfl rfl (run_ldE hS.2)⟩) S0 ?_
            simp only [List.getElem_toArray, List.getElem_cons_succ, List.getElem_cons_zero, Act.put, List.setIfInBounds_toArray, List.set_cons_succ, List.set_cons_zero]
            refine wpAnyH_all (rs := [0, 9]) (by kernel_rfl) (by simp) ?_
            intro k hk
            simp only [List.mem_cons, List.mem_nil_iff, or_false] at hk
            rcases hk with rfl | rfl
            · refine wpOp_run rfl rfl (wp_bs0g Tryz.underlying22 infoEz rfl ?_)
              have b1 := b0.alloc b0.size (.cells #[] 64)
              have P1 : (wk.drew.alloc (.cells #[] 64)).ownsRow wk.heap.size 64 14 (.slice (some ⟨wk.drew.heap.size, 0, none⟩) 0 0) ([] : List En).length (flatW DE []) := own_lower (own0E wk.drew) b0.size
              refine ⟨(SS.out _ b1), ?_⟩
              simp only [List.getElem_toArray, List.getElem_cons_succ, List.getElem_cons_zero, Act.put, List.setIfInBounds_toArray, List.set_cons_succ, List.set_cons_zero]
              refine wpAnyH_all (rs := [7, 9]) (by kernel_rfl) (by simp) ?_
              intro k hk
              simp only [List.mem_cons, List.mem_nil_iff, or_false] at hk
              rcases hk with rfl | rfl
              · refine wpOp_run rfl rfl (wp_append_wide DE _ _ 22 64 _ 120 Tryz.underlying22 infoEz rfl rfl wk.heap.size (.slice (some ⟨wk.drew.heap.size, 0, none⟩) 0 0) [] rfl P1 _ (L.take j) rfl (hw1 _ (HRd.out _ b1).rowL.wide) (by unfold maxLen; simp; omega) (by simp; omega) b1.size ?_)
                intro v2 w2 P2 G2
                rw [List.nil_append] at P2
                have b2 := b1.grown G2 b1.size (own_lt P1)
                refine ⟨(SS.out _ b2), ?_⟩
                simp only [List.getElem_toArray, List.getElem_cons_succ, List.getElem_cons_zero, Act.put, List.setIfInBounds_toArray, List.set_cons_succ, List.set_cons_zero]
                refine wpAnyH_all (rs := [9]) (by kernel_rfl) (by simp) ?_
                intro k hk
                simp only [List.mem_cons, List.mem_nil_iff, or_false] at hk
                subst hk
                refine wpOp_run rfl rfl (wp_bs1 DE X 22 64 _ 120 _ rfl rfl Tryz.underlying22 infoEz (by decide) ?_)
                have b3 := b2.alloc b2.size (.cells (enC X).toArray 64)
                have Q3 := wide_new DE w2 X 64
                have P3 := ownsRow_alloc P2 (.cells (enC X).toArray 64)
                refine ⟨(SS.out _ b3), ?_⟩
                simp only [List.getElem_toArray, List.getElem_cons_succ, List.getElem_cons_zero, Act.put, List.setIfInBounds_toArray, List.set_cons_succ, List.set_cons_zero]
                refine wpAnyH_all (rs := [10]) (by kernel_rfl) (by simp) ?_
                intro k hk
                simp only [List.mem_cons, List.mem_nil_iff, or_false] at hk
                subst hk
                refine wpOp_run rfl rfl (wp_append_wide DE _ _ 22 64 _ 120 Tryz.underlying22 infoEz rfl rfl wk.heap.size _ (L.take j) rfl P3 _ [X] rfl Q3 (by unfold maxLen; simp; omega) (by simp; omega) b3.size ?_)
                intro vZ wZ PZ GZ
                have bZ := b3.grown GZ b3.size (own_lt P3)
                refine ⟨(SS.out _ bZ), ?_⟩
                simp only [List.getElem_toArray, List.getElem_cons_succ, List.getElem_cons_zero, Act.put, List.setIfInBounds_toArray, List.set_cons_succ, List.set_cons_zero]
                refine wpAnyH_take (i := 11) (v := (vZ)) rfl (by kernel_rfl) (by kernel_rfl) (by kernel_rfl) (fun _ _ _ h => h) (.inl ⟨rfl, fun _ hS => rfl⟩) (SS.out _ bZ) ?_
                simp only [List.getElem_toArray, List.getElem_cons_succ, List.getElem_cons_zero, Act.put, List.setIfInBounds_toArray, List.set_cons_succ, List.set_cons_zero]
                refine wpAnyH_done (by kernel_rfl) ?_ _
                have HPZ := hidOf2 PZ
                have HbZ := hidOf2 bZ
                clear PZ GZ bZ SS S0
                have RZ := HRd.out _ HbZ.out
                have cZ0 := RZ.c.1
                have hWd := hw2 _ RZ.rowL.wide
                have hPZ := HPZ.out
                clear RZ
                go_wp2_with (first | (refine apE rfl _ _ rfl wk.heap.size vZ (L.take j ++ [X]) rfl hPZ _ (L.drop j) rfl hWd (by simp; omega) HbZ.out.size ?_; intro vY wY PY GY; have bY := HbZ.out.grown GY HbZ.out.size (own_lt hPZ); have RY := HRd.out _ bY; have cY := RY.c.1; have fY := RY.frozen 0; obtain ⟨aY, cpY, hvY⟩ := own_shape5 PY; obtain ⟨nY, hnY⟩ : ∃ n, (L.take j ++ [X] ++ L.drop j).length = n := ⟨_, rfl⟩; rw [hnY] at hvY; subst hvY; have HRn := hidOf2 (RY.setL (RT.own DE PY)); have HBn := hidOf2 ((HBk.out.trans (bY.mono HBk.out.size)).grown (set_kept wY E 0 (.slice aY nY cpY)) (Nat.le_trans HBk.out.size bY.size) (fun j hj => by cases hj; exact hEw)); clear PY GY bY RY))
                go_roundw
                case rel => exact ⟨k + 1, _, by omega, by go_num, by rw [HI.out, HINS.out]; exact HRn, HBn⟩
                case measure => simp [intOf]; omega
              · refine wpOp_run rfl rfl (wp_bs1 DE X 22 64 _ 120 _ rfl rfl Tryz.underlying22 infoEz (by decide) ?_)
                have b2 := b1.alloc b1.size (.cells (enC X).toArray 64)
                have Q2 := wide_new DE (wk.drew.alloc (.cells #[] 64)) X 64
                have P2 := ownsRow_alloc P1 (.cells (enC X).toArray 64)
                refine ⟨(SS.out _ b2), ?_⟩
                simp only [List.getElem_toArray, List.getElem_cons_succ, List.getElem_cons_zero, Act.put, List.setIfInBounds_toArray, List.set_cons_succ, List.set_cons_zero]
                refine wpAnyH_all (rs := [7]) (by kernel_rfl) (by simp) ?_
                intro k hk
                simp only [List.mem_cons, List.mem_nil_iff, or_false] at hk
                subst hk
                refine wpOp_run rfl rfl (wp_append_wide DE _ _ 22 64 _ 120 Tryz.underlying22 infoEz rfl rfl wk.heap.size (.slice (some ⟨wk.drew.heap.size, 0, none⟩) 0 0) [] rfl P2 _ (L.take j) rfl (hw1 _ (HRd.out _ b2).rowL.wide) (by unfold maxLen; simp; omega) (by simp; omega) b2.size ?_)
                intro v3 w3 P3 G3
                rw [List.nil_append] at P3
                have b3 := b2.grown G3 b2.size (own_lt P2)
                have Q3 := Wide.same Q2 G3.size (fun b hb hl => G3.block b hl (fun e => by simp only [Value.ownBlock, Option.some.injEq, size_alloc] at hb e; omega))
                refine ⟨(SS.out _ b3), ?_⟩
                simp only [List.getElem_toArray, List.getElem_cons_succ, List.getElem_cons_zero, Act.put, List.setIfInBounds_toArray, List.set_cons_succ, List.set_cons_zero]
                refine wpAnyH_all (rs := [10]) (by kernel_rfl) (by simp) ?_
                intro k hk
                simp only [List.mem_cons, List.mem_nil_iff, or_false] at hk
                subst hk
                refine wpOp_run rfl rfl (wp_append_wide DE _ _ 22 64 _ 120 Tryz.underlying22 infoEz rfl rfl wk.heap.size _ (L.take j) rfl P3 _ [X] rfl Q3 (by unfold maxLen; simp; omega) (by simp; omega) b3.size ?_)
                intro vZ wZ PZ GZ
                have bZ := b3.grown GZ b3.size (own_lt P3)
                refine ⟨(SS.out _ bZ), ?_⟩
                simp only [List.getElem_toArray, List.getElem_cons_succ, List.getElem_cons_zero, Act.put, List.setIfInBounds_toArray, List.set_cons_succ, List.set_cons_zero]
                refine wpAnyH_take (i := 11) (v := (vZ)) rfl (by kernel_rfl) (by kernel_rfl) (by kernel_rfl) (fun _ _ _ h => h) (.inl ⟨rfl, fun _ hS => rfl⟩) (SS.out _ bZ) ?_
                simp only [List.getElem_toArray, List.getElem_cons_succ, List.getElem_cons_zero, Act.put, List.setIfInBounds_toArray, List.set_cons_succ, List.set_cons_zero]
                refine wpAnyH_done (by kernel_rfl) ?_ _
                have HPZ := hidOf2 PZ
                have HbZ := hidOf2 bZ
                clear PZ GZ bZ SS S0
                have RZ := HRd.out _ HbZ.out
                have cZ0 := RZ.c.1
                have hWd := hw2 _ RZ.rowL.wide
                have hPZ := HPZ.out
                clear RZ
                go_wp2_with (first | (refine apE rfl _ _ rfl wk.heap.size vZ (L.take j ++ [X]) rfl hPZ _ (L.drop j) rfl hWd (by simp; omega) HbZ.out.size ?_; intro vY wY PY GY; have bY := HbZ.out.grown GY HbZ.out.size (own_lt hPZ); have RY := HRd.out _ bY; have cY := RY.c.1; have fY := RY.frozen 0; obtain ⟨aY, cpY, hvY⟩ := own_shape5 PY; obtain ⟨nY, hnY⟩ : ∃ n, (L.take j ++ [X] ++ L.drop j).length = n := ⟨_, rfl⟩; rw [hnY] at hvY; subst hvY; have HRn := hidOf2 (RY.setL (RT.own DE PY)); have HBn := hidOf2 ((HBk.out.trans (bY.mono HBk.out.size)).grown (set_kept wY E 0 (.slice aY nY cpY)) (Nat.le_trans HBk.out.size bY.size) (fun j hj => by cases hj; exact hEw)); clear PY GY bY RY))
                go_roundw
                case rel => exact ⟨k + 1, _, by omega, by go_num, by rw [HI.out, HINS.out]; exact HRn, HBn⟩
                case measure => simp [intOf]; omega
            · refine wpOp_run rfl rfl (wp_bs1 DE X 22 64 _ 120 _ rfl rfl Tryz.underlying22 infoEz (by decide) ?_)
              have b1 := b0.alloc b0.size (.cells (enC X).toArray 64)
              have Q1 := wide_new DE wk.drew X 64
              refine ⟨(SS.out _ b1), ?_⟩
              simp only [List.getElem_toArray, List.getElem_cons_succ, List.getElem_cons_zero, Act.put, List.setIfInBounds_toArray, List.set_cons_succ, List.set_cons_zero]
              refine wpAnyH_all (rs := [0]) (by kernel_rfl) (by simp) ?_
              intro k hk
              simp only [List.mem_cons, List.mem_nil_iff, or_false] at hk
              subst hk
              refine wpOp_run rfl rfl (wp_bs0g Tryz.underlying22 infoEz rfl ?_)
              have b2 := b1.alloc b1.size (.cells #[] 64)
              have P2 : ((wk.drew.alloc (.cells (enC X).toArray 64)).alloc (.cells #[] 64)).ownsRow wk.heap.size 64 14 (.slice (some ⟨(wk.drew.alloc (.cells (enC X).toArray 64)).heap.size, 0, none⟩) 0 0) ([] : List En).length (flatW DE []) := own_lower (own0E (wk.drew.alloc (.cells (enC X).toArray 64))) b1.size
              have Q2 := wide_alloc Q1 (.cells #[] 64)
              refine ⟨(SS.out _ b2), ?_⟩
              simp only [List.getElem_toArray, List.getElem_cons_succ, List.getElem_cons_zero, Act.put, List.setIfInBounds_toArray, List.set_cons_succ, List.set_cons_zero]
              refine wpAnyH_all (rs := [7]) (by kernel_rfl) (by simp) ?_
              intro k hk
              simp only [List.mem_cons, List.mem_nil_iff, or_false] at hk
              subst hk
              refine wpOp_run rfl rfl (wp_append_wide DE _ _ 22 64 _ 120 Tryz.underlying22 infoEz rfl rfl wk.heap.size (.slice (some ⟨(wk.drew.alloc (.cells (enC X).toArray 64)).heap.size, 0, none⟩) 0 0) [] rfl P2 _ (L.take j) rfl (hw1 _ (HRd.out _ b2).rowL.wide) (by unfold maxLen; simp; omega) (by simp; omega) b2.size ?_)
              intro v3 w3 P3 G3
              rw [List.nil_append] at P3
              have b3 := b2.grown G3 b2.size (own_lt P2)
              have Q3 := Wide.same Q2 G3.size (fun b hb hl => G3.block b hl (fun e => by simp only [Value.ownBlock, Option.some.injEq, size_alloc] at hb e; omega))
              refine ⟨(SS.out _ b3), ?_⟩
              simp only [List.getElem_toArray, List.getElem_cons_succ, List.getElem_cons_zero, Act.put, List.setIfInBounds_toArray, List.set_cons_succ, List.set_cons_zero]
              refine wpAnyH_all (rs := [10]) (by kernel_rfl) (by simp) ?_
              intro k hk
              simp only [List.mem_cons, List.mem_nil_iff, or_false] at hk
              subst hk
              refine wpOp_run rfl rfl (wp_append_wide DE _ _ 22 64 _ 120 Tryz.underlying22 infoEz rfl rfl wk.heap.size _ (L.take j) rfl P3 _ [X] rfl Q3 (by unfold maxLen; simp; omega) (by simp; omega) b3.size ?_)
              intro vZ wZ PZ GZ
              have bZ := b3.grown GZ b3.size (own_lt P3)
              refine ⟨(SS.out _ bZ), ?_⟩
              simp only [List.getElem_toArray, List.getElem_cons_succ, List.getElem_cons_zero, Act.put, List.setIfInBounds_toArray, List.set_cons_succ, List.set_cons_zero]
              refine wpAnyH_take (i := 11) (v := (vZ)) rfl (by kernel_rfl) (by kernel_rfl) (by kernel_rfl) (fun _ _ _ h => h) (.inl ⟨rfl, fun _ hS => rfl⟩) (SS.out _ bZ) ?_
              simp only [List.getElem_toArray, List.getElem_cons_succ, List.getElem_cons_zero, Act.put, List.setIfInBounds_toArray, List.set_cons_succ, List.set_cons_zero]
              refine wpAnyH_done (by kernel_rfl) ?_ _
              have HPZ := hidOf2 PZ
              have HbZ := hidOf2 bZ
              clear PZ GZ bZ SS S0
              have RZ := HRd.out _ HbZ.out
              have cZ0 := RZ.c.1
              have hWd := hw2 _ RZ.rowL.wide
              have hPZ := HPZ.out
              clear RZ
              go_wp2_with (first | (refine apE rfl _ _ rfl wk.heap.size vZ (L.take j ++ [X]) rfl hPZ _ (L.drop j) rfl hWd (by simp; omega) HbZ.out.size ?_; intro vY wY PY GY; have bY := HbZ.out.grown GY HbZ.out.size (own_lt hPZ); have RY := HRd.out _ bY; have cY := RY.c.1; have fY := RY.frozen 0; obtain ⟨aY, cpY, hvY⟩ := own_shape5 PY; obtain ⟨nY, hnY⟩ : ∃ n, (L.take j ++ [X] ++ L.drop j).length = n := ⟨_, rfl⟩; rw [hnY] at hvY; subst hvY; have HRn := hidOf2 (RY.setL (RT.own DE PY)); have HBn := hidOf2 ((HBk.out.trans (bY.mono HBk.out.size)).grown (set_kept wY E 0 (.slice aY nY cpY)) (Nat.le_trans HBk.out.size bY.size) (fun j hj => by cases hj; exact hEw)); clear PY GY bY RY))
              go_roundw
              case rel => exact ⟨k + 1, _, by omega, by go_num, by rw [HI.out, HINS.out]; exact HRn, HBn⟩
              case measure => simp [intOf]; omega
      · have e1 : k = l.length := by omega
        subst e1
        rw [List.take_length] at HR
        have hLl : (insL [] l).length ≤ 1024 := by rw [insL_len]; simp; omega
        have hRs := QReset_any HR.out hLl
        clear HR
        go_wp2_with fail
        refine hRs.mono ?_
        rintro x w5 ⟨rfl, vV', RN, _, GN⟩
        have B5 : Below w.heap.size w w5 := HB.out.grown GN HB.out.size (fun j hj => by cases hj; exact hEw)
        have HRN := hidOf2 RN
        clear hRs RN GN HB
        go_wp2
        go_ret2
        exact ⟨B5, fun h => absurd rfl h, fun _ => ⟨E, _, _, rfl, hEw, HRN.out⟩⟩
  · have d1 : ((chkL l : Int) != 0) = true := by simpa using hc
    have HC2 : Hid (¬ chkL l = 0) := hc
    clear hc HC
    generalize chkL l = C at *
    generalize insL [] l = LL at *
    go_enter Tryz.func15, Tryz.ntmps15
    go_wp2_with fail
    refine hC.mono ?_
    rintro x w1 ⟨rfl, b1⟩
    clear hC
    go_wp2
    go_ret2
    exact ⟨b1, fun _ => rfl, fun h => absurd h HC2.out⟩
end Go.Proofs.YtjlbahgjjdfaeaaGreat
namespace Go.Proofs.YtjlbahgjjdfaeaaGreat
open Go.RowKit Go.Proofs.Ty Go.Sort Go.Lib
set_option linter.unusedVariables false
set_option maxRecDepth 1000000
set_option linter.unusedSimpArgs false
theorem build_pair (D E : Nat) (x : World) : (Instr.build 36 #[(0, .pointer (some ⟨D, 0, none⟩)), (1, .pointer (some ⟨E, 0, none⟩))]).run Tryz.prog x = .ok (.agg #[.pointer (some ⟨D, 0, none⟩), .pointer (some ⟨E, 0, none⟩)]) x := by kernel_rfl
/-- What Begins leaves, of entries that can be. -/
structure Bg (w : World) (X D R E : Nat) (its : List Im) (l : List En) (vL vV : Value) (x : World) : Prop where
  pair : x.heap[X]? = some (.cells #[.pointer (some ⟨D, 0, none⟩), .pointer (some ⟨E, 0, none⟩)] 36 (0, 0))
  dct : Dct D R its x
  vals : ∀ i ∈ its, i.v = i.e.df
  perm : (its.map Im.e).Perm (l.map En.plain)
  base : ∀ i ∈ its, w.heap.size ≤ i.b
  bD : w.heap.size ≤ D
  bX : w.heap.size ≤ X
  bE : w.heap.size ≤ E
  rd : Rd E (insL [] l) vL ((insL [] l).map En.df) vV x
  below : Below w.heap.size w x
set_option maxHeartbeats 8000000 in
theorem Begins_any (v : Value) (l : List En) (w : World) (hW : Wide 14 enC w v l) (hn : l.length ≤ 1172812402927) :
    Calls Tryz.prog 4 #[v] w fun x w' => Below w.heap.size w w' ∧ (chkL l ≠ 0 → x = .returned (.tuple #[.pointer none, .bool true])) ∧ (chkL l = 0 → ∃ X D R E its vL vV, x = .returned (.tuple #[.pointer (some ⟨X, 0, none⟩), .bool true]) ∧ Bg w X D R E its l vL vV w') := by
  have HW := hidOf2 hW
  obtain ⟨ao0, cp0, rfl⟩ := hW.shape
  have bA : Below w.heap.size w (w.alloc (.cells #[] 64)) := (Below.refl _ _).alloc (Nat.le_refl _) _
  have hWa := hW.same bA.size (fun b _ hl => bA.block b hl)
  have hown := own0E w
  clear hW
  go_enter Tryz.func4, Tryz.ntmps4
  go_wp2_with (first | (refine bs0E rfl rfl ?_) | (refine apE rfl _ _ rfl w.heap.size (.slice (some ⟨w.heap.size, 0, none⟩) 0 0) [] rfl hown _ l rfl hWa (by simpa using hn) bA.size ?_; intro v2 w1 P1 G1; rw [List.nil_append] at P1))
  have B1 : Below w.heap.size w w1 := bA.grown G1 bA.size (own_lt hown)
  have hN := oNew_any v2 l w1 (wide_of_own DE P1) (by omega)
  clear P1 G1 hown hWa bA
  refine hN.mono ?_
  rintro e w2 ⟨hbad, hgood⟩
  have HG := hidOf2 hgood
  have HB2 := hidOf2 hbad
  clear hN hgood hbad
  by_cases hc : chkL l = 0
  · obtain ⟨D, R, its, rfl, N2⟩ := HG.out hc
    have B2 := B1.trans (N2.below.mono B1.size)
    have hM := (r8New_any (.slice ao0 l.length cp0) l w2 (HW.out.same B2.size (fun b _ hl => B2.block b hl)) (by omega)).mono (fun _ _ h => And.intro h.1 (h.2.2 hc))
    have HN2 := hidOf2 N2
    clear HG HB2 N2
    go_wp2_with fail
    refine hM.mono ?_
    rintro e w3 ⟨b3, E, vL, vV, rfl, hE3, R3⟩
    have B3 := B2.trans (b3.mono B2.size)
    have hC := oCheck_any (.slice ao0 l.length cp0) l w3 (HW.out.same B3.size (fun b _ hl => B3.block b hl)) (by omega)
    rw [hc] at hC
    have HR3 := hidOf2 R3
    clear hM R3
    go_wp2_with fail
    refine hC.mono ?_
    rintro e w4 ⟨rfl, b4⟩
    have B4 := B3.trans (b4.mono B3.size)
    have D4 := (HN2.out.dct.below b3).below b4
    have R4 := HR3.out.below b4
    have bZ : Below w4.heap.size w4 (w4.alloc (.cells #[.pointer (some ⟨D, 0, none⟩), .pointer (some ⟨E, 0, none⟩)] 36)) := (Below.refl _ _).alloc (Nat.le_refl _) _
    have HF : Hid (Bg w w4.heap.size D R E its l vL vV (w4.alloc (.cells #[.pointer (some ⟨D, 0, none⟩), .pointer (some ⟨E, 0, none⟩)] 36))) := 
      ⟨heap_alloc_new _ _, D4.below bZ, HN2.out.vals, HN2.out.perm, fun i hi => Nat.le_trans B1.size (HN2.out.base i hi), Nat.le_trans B1.size HN2.out.bD, B4.size, Nat.le_trans B2.size hE3, R4.below bZ, B4.trans (bZ.mono B4.size)⟩
    have hbp := build_pair D E
    have hcc := hc
    clear hC HN2 HR3 D4 R4 hc b3 b4
    go_wp2
    go_ret2
    exact ⟨HF.out.below, fun h => absurd hcc h, fun _ => ⟨_, D, R, E, its, vL, vV, rfl, HF.out⟩⟩
  · obtain ⟨rfl, b2⟩ := HB2.out hc
    have B2 := B1.trans (b2.mono B1.size)
    have hM := (r8New_any (.slice ao0 l.length cp0) l w2 (HW.out.same B2.size (fun b _ hl => B2.block b hl)) (by omega)).mono (fun _ _ h => And.intro h.1 (h.2.1 hc))
    clear HG HB2
    have HCC := hidOf2 hc
    have HCO := hidOf2 (fun x hb => oCheck_any (.slice ao0 l.length cp0) l x (HW.out.same (Below.size hb) (fun b _ hl => Below.block hb b hl)) (by omega))
    clear hc HW
    go_wp2_with fail
    refine hM.mono ?_
    rintro e w3 ⟨b3, rfl⟩
    have B3 := B2.trans (b3.mono B2.size)
    have hC := HCO.out w3 B3
    clear hM HCO
    go_wp2_with fail
    refine hC.mono ?_
    rintro e w4 ⟨rfl, b4⟩
    have B4 := B3.trans (b4.mono B3.size)
    clear hC
    go_wp2
    go_ret2
    exact ⟨B4, fun _ => rfl, fun h => absurd h HCC.out⟩
end Go.Proofs.YtjlbahgjjdfaeaaGreat
namespace Go.Proofs.YtjlbahgjjdfaeaaGreat
open Go.RowKit Go.Proofs.Ty Go.Sort Go.Lib
set_option linter.unusedVariables false
set_option maxRecDepth 1000000
set_option linter.unusedSimpArgs false
/-- What Set tells, and leaves. -/
def setc (its : List Im) (ix sb : Nat) (v : Vl) : Nat := match fnd its ix sb with
  | none => 4
  | some i => if i.e.ac = 3 then 1 else if v.t ≠ i.e.df.t then 1 else v.chk
def sett (its : List Im) (ix sb : Nat) (v : Vl) : List Im := match fnd its ix sb with
  | none => its
  | some i => if setc its ix sb v = 0 then setV its i.b v.plain else its
end Go.Proofs.YtjlbahgjjdfaeaaGreat
namespace Go.Proofs.YtjlbahgjjdfaeaaGreat
open Go.RowKit Go.Proofs.Ty Go.Sort Go.Lib
set_option linter.unusedVariables false
set_option maxRecDepth 1000000
set_option linter.unusedSimpArgs false
theorem fnd_setV (its : List Im) (b : Nat) (v : Vl) (ix sb : Nat) : fnd (setV its b v) ix sb = (fnd its ix sb).map (fun x => if x.b = b then ⟨x.b, x.e, v⟩ else x) := by
  unfold fnd setV
  rw [List.find?_map]
  congr 1
  congr 1
  funext x
  simp only [Function.comp]
  split <;> rfl
theorem getV_setV (its : List Im) (b : Nat) (v : Vl) (ix sb : Nat) (h : ∀ i, fnd its ix sb = some i → i.b ≠ b) : getV (setV its b v) ix sb = getV its ix sb := by
  unfold getV
  rw [fnd_setV]
  cases hf : fnd its ix sb with
  | none => rfl
  | some i => simp only [Option.map_some]; rw [if_neg (h i hf)]
theorem fnd_place {its : List Im} {ix sb : Nat} {i : Im} (h : fnd its ix sb = some i) : i.e.ix = ix ∧ i.e.sb = sb := by
  have := List.find?_some h
  simpa using this
theorem mem_b {its : List Im} (hd : (its.map Im.b).Nodup) {x y : Im} (hx : x ∈ its) (hy : y ∈ its) (e : x.b = y.b) : x = y := by
  obtain ⟨m, hm, rfl⟩ := List.getElem_of_mem hx
  obtain ⟨n, hn, rfl⟩ := List.getElem_of_mem hy
  have h1 := List.pairwise_iff_getElem.1 hd
  have hmn : m = n := by
    rcases Nat.lt_trichotomy m n with h2 | h2 | h2
    · exact (h1 m n (by simpa using hm) (by simpa using hn) h2 (by simp only [List.getElem_map]; exact e)).elim
    · exact h2
    · exact (h1 n m (by simpa using hn) (by simpa using hm) h2 (by simp only [List.getElem_map]; exact e.symm)).elim
  subst hmn; rfl
/-- What is written to one place changes no other. -/
theorem apart_set {its : List Im} (hd : (its.map Im.b).Nodup) {ix sb jx jb : Nat} {i : Im} (hf : fnd its ix sb = some i) (hne : jx ≠ ix ∨ jb ≠ sb) (v : Vl) : getV (setV its i.b v) jx jb = getV its jx jb := by
  refine getV_setV its i.b v jx jb (fun x hx e => ?_)
  have := mem_b hd (fnd_mem hx) (fnd_mem hf) e
  subst this
  have h1 := fnd_place hx
  have h2 := fnd_place hf
  omega
theorem apart_wrt {its : List Im} (hd : (its.map Im.b).Nodup) {ix sb jx jb : Nat} (hne : jx ≠ ix ∨ jb ≠ sb) (l : List UInt8) : getV (wrt its ix sb l) jx jb = getV its jx jb := by
  unfold wrt
  split
  · cases hf : fnd its ix sb with
    | none => rfl
    | some i => exact apart_set hd hf hne _
  · rfl
theorem apart_sett {its : List Im} (hd : (its.map Im.b).Nodup) {ix sb jx jb : Nat} (hne : jx ≠ ix ∨ jb ≠ sb) (v : Vl) : getV (sett its ix sb v) jx jb = getV its jx jb := by
  unfold sett
  cases hf : fnd its ix sb with
  | none => rfl
  | some i =>
    simp only
    split
    · exact apart_set hd hf hne _
    · rfl
theorem Al.sett {es : List En} {bs : List Nat} {its : List Im} (h : Al es bs its) (ix sb : Nat) (v : Vl) : Al es bs (sett its ix sb v) := by
  unfold Go.Proofs.YtjlbahgjjdfaeaaGreat.sett
  split
  · exact h
  · split
    · exact h.set _ _
    · exact h
section
variable {w : World} {X D R E qa : Nat} {a : A8} {its : List Im} {x y : World}
end
theorem own_kp {its : List Im} {D R : Nat} {x y : World} {B : Nat} {c n : Nat} {v : Value} {xs : List Value} (h : x.ownsRow B 60 c v n xs) (hd : Dct D R its x) (hK : Kp (its.map Im.b) x y) : y.ownsRow B 60 c v n xs := by
  refine ⟨h.1, h.2.imp id ?_⟩
  rintro ⟨g, cap, cur, e1, e2, e3, e4⟩
  refine ⟨g, cap, cur, e1, e2, (hK.block g (Array.getElem?_eq_some_iff.1 e3).1 (fun hm => ?_)).trans e3, e4⟩
  obtain ⟨i, hi, e⟩ := List.mem_map.1 hm
  have h1 := hd.items i hi
  rw [show i.b = g from e] at h1
  have h2 : x.heap[g]? = some (.cells (imC i.e i.v).toArray 66 (0, 0)) := h1
  rw [e3] at h2
  simp at h2
theorem load_pd (x : World) (X k : Nat) (p : Option Addr) (hc : x.cell? ⟨X, k, none⟩ = some (.pointer p)) : (loadVar 33 ⟨X, k, none⟩).run Tryz.prog x = .ok (.pointer p) x := by
  simp [go_sem, run_underlying Tryz.underlying33, hc]
theorem exec_idxV {a : Act} {o : Oper} {s i : Operand} {b off n c k : Nat} (ho : o.op = .indexAddr 98 s i) (hs : a.eval s = .slice (some ⟨b, off, none⟩) n c) (hi : a.eval i = .int .i64 (k : Int)) (hk : k < n) (w : World) : (execOp a.eval o).run Tryz.prog w = .ok (.value (.pointer (some ⟨b, off + k * 3, none⟩))) w := by
  have h1 : (0 : Int) ≤ (k : Int) := by omega
  have h2 : (k : Int) < (n : Int) := by omega
  unfold execOp
  simp only [ho, hs, hi]
  obtain ⟨i0, hi0, hz0⟩ := info_size infoV
  simp [go_sem, run_underlying Tryz.underlying98, sizeOf, typeInfo, hi0, hz0, h1, h2, Addr.add_mid]
theorem quiet_pure {W : World} {ops : Array Oper} {rest : List Oper} {p : Oper} {a : Act} {Q : Act → Prop} (v : Value) (hgd : Region.wanted p (yielded ops a.tmps) = true) (hr : ∀ w, (execOp a.eval p).run Tryz.prog w = .ok (.value v) w)
    (hh : wpQuiet Tryz.prog ops (fun w' => ∃ x : Later W, w' = x.now) Q rest (a.put p.dst v)) : wpQuiet Tryz.prog ops (fun w' => ∃ x : Later W, w' = x.now) Q (p :: rest) a := by
  unfold wpQuiet
  rw [if_pos hgd]
  refine ⟨v, ?_, hh⟩
  rintro w' ⟨y, rfl⟩
  unfold Oper.quietAt
  rw [hr]
  exact ⟨rfl, rfl⟩
theorem own0V (w : World) : (w.alloc (.cells #[] 60)).ownsRow w.heap.size 60 3 (.slice (some ⟨w.heap.size, 0, none⟩) 0 0) ([] : List Vl).length (flatW DV []) := own_empty_e w 60 3
section
variable {w : World} {ops : Array Oper} {rest : List Oper} {o : Oper} {a : Act} {Q : Exit → Act → World → Prop}
theorem bs0V (hgd : Region.wanted o (yielded ops a.tmps) = true) (ho : o.op = .buildSlice 98 0 #[]) (hh : wpList Tryz.prog ops Q rest (a.put o.dst (.slice (some ⟨w.heap.size, 0, none⟩) 0 0)) (w.alloc (.cells #[] 60))) : wpList Tryz.prog ops Q (o :: rest) a w :=
  BigFrame.wpList_want hgd fun _ hK => wp_bs0g Tryz.underlying98 infoVz ho (hK _ _ hh)
theorem apV (hgd : Region.wanted o (yielded ops a.tmps) = true) (s x : Operand) (ho : o.op = .call { callee := .builtin .append, args := #[s, x], argTypes := #[98, 98] })
    (base : Nat) (v : Value) (xs : List Vl) (hs : a.eval s = v) (hown : w.ownsRow base 60 3 v xs.length (flatW DV xs))
    (vx : Value) (l : List Vl) (hx : a.eval x = vx) (hB : Wide 3 vlC w vx l) (h63 : xs.length + l.length ≤ 1172812402927) (hbase : base ≤ w.heap.size)
    (h : ∀ v' w', w'.ownsRow base 60 3 v' (xs ++ l).length (flatW DV (xs ++ l)) → w.grownBy w' v.ownBlock → wpList Tryz.prog ops Q rest (a.put o.dst v') w') : wpList Tryz.prog ops Q (o :: rest) a w :=
  BigFrame.wpList_want hgd fun _ hK => wp_append_wide DV s x 98 60 _ 32 Tryz.underlying98 infoVz rfl ho base v xs hs hown vx l hx hB (by unfold maxLen; omega) (by omega) hbase fun v' w' h1 h2 => hK _ _ (h v' w' h1 h2)
end
end Go.Proofs.YtjlbahgjjdfaeaaGreat
namespace Go.Proofs.YtjlbahgjjdfaeaaGreat
open Go.RowKit Go.Proofs.Ty Go.Sort Go.Lib
set_option linter.unusedVariables false
set_option maxRecDepth 1000000
set_option linter.unusedSimpArgs false
def zE : Array Value := #[.int .u16 0, .int .u8 0, .int .i64 0, .bool false, .bool false, .int .i64 0, .int .u64 0, .string ⟨#[]⟩, .int .i64 0, .int .u64 0, .string ⟨#[]⟩, .int .i64 0, .int .u64 0, .string ⟨#[]⟩]
theorem run_make_ents (n : Nat) (hn : n ≤ 1024) (w : World) : (Instr.makeSlice 22 (.int .i64 n) (.int .i64 n)).run Tryz.prog w = .ok (.slice (some ⟨w.heap.size, 0, none⟩) n n) (w.alloc (.cells (madeCells zE (n * 14)) 64)) := by
  obtain ⟨i0, hi, hz0, hz1, hz2⟩ := info_parts infoEz
  have := run_make (P := Tryz.prog) w 22 64 i0 _ Tryz.underlying22 hi hz0 .i64 .i64 n n (by omega) (Int.le_refl _) (by rw [hz2]; omega) (by omega)
  simp only [Int.toNat_natCast, hz1] at this
  exact this
theorem sdEm {w : World} {b o : Nat} (ht : w.there b o 14) {ops : Array Oper} {rest : List Oper} {p : Oper} {a : Act} {Q : Exit → Act → World → Prop} (e : En) (hgd : p.guard = none) (x y : Operand) (ho : p.op = .store 64 x y) (hx : a.eval x = .pointer (some ⟨b, o, none⟩)) (hy : a.eval y = .agg e.arr)
    (hh : wpList Tryz.prog ops Q rest (a.put p.dst undef) (w.setCells b o (enC e))) : wpList Tryz.prog ops Q (p :: rest) a w :=
  wpList_store_mid hgd 64 x y ho b o e.arr hx hy ht (by show _ = some 14; exact infoE) (all_oneCell_toArray e.one) hh
end Go.Proofs.YtjlbahgjjdfaeaaGreat
namespace Go.Proofs.YtjlbahgjjdfaeaaGreat
open Go.RowKit Go.Proofs.Ty Go.Sort Go.Lib
set_option linter.unusedVariables false
set_option maxRecDepth 1000000
set_option linter.unusedSimpArgs false
/-- Entries held against each other. -/
def En.lits (e : En) : List Lit := [.int .u16 e.ix, .int .u8 e.sb, .int .i64 e.ac, .bool e.mp, .bool e.li] ++ e.mn.lits ++ e.mx.lits ++ e.df.lits
theorem keyE : Tryz.prog.keyTypeAt 4 64 = true := by kernel_rfl
theorem guardE : Tryz.prog.eqGuardType Tryz.prog.depth 64 = false := by kernel_rfl
theorem en_formed (e : En) : (Value.agg e.arr).formed Tryz.prog 64 = true := by
  have c1 : Tryz.prog.cellsOf 64 = 14 := by kernel_rfl
  simp [Value.formed, Tryz.underlying64, c1, En.arr, enC]
theorem en_keyLits (e : En) (d : Nat) : Tryz.prog.keyLits (d + 4) 64 e.arr.toList = some e.lits := by
  have h1 := e.hix
  have h2 := e.hsb
  have h3 := e.hac
  have k1 := vl_keyLits e.mn d
  have k2 := vl_keyLits e.mx d
  have k3 := vl_keyLits e.df d
  have c1 : Tryz.prog.cellsOf 60 = 3 := by kernel_rfl
  have c2 : Tryz.prog.cellsOf 3 = 1 := by kernel_rfl
  have c3 : Tryz.prog.cellsOf 38 = 1 := by kernel_rfl
  have c4 : Tryz.prog.cellsOf 5 = 1 := by kernel_rfl
  have c5 : Tryz.prog.cellsOf 4 = 1 := by kernel_rfl
  have c6 : Tryz.prog.cellsOf 64 = 14 := by kernel_rfl
  have w1 : (Lit.int .u16 e.ix).wf = true := by simp [Lit.wf, IntKind.min, IntKind.max, IntKind.signed, IntKind.bits]; omega
  have w2 : (Lit.int .u8 e.sb).wf = true := by simp [Lit.wf, IntKind.min, IntKind.max, IntKind.signed, IntKind.bits]; omega
  have w3 : (Lit.int .i64 e.ac).wf = true := by simp [Lit.wf, IntKind.min, IntKind.max, IntKind.signed, IntKind.bits]; omega
  simp only [Vl.arr] at k1 k2 k3
  have s1 : Tryz.prog.keyLits (d + 3) 38 [.int .u16 e.ix] = some [.int .u16 e.ix] := by simp [Program.keyLits, Tryz.underlying38, w1]
  have s2 : Tryz.prog.keyLits (d + 3) 5 [.int .u8 e.sb] = some [.int .u8 e.sb] := by simp [Program.keyLits, Tryz.underlying5, w2]
  have s3 : Tryz.prog.keyLits (d + 3) 3 [.int .i64 e.ac] = some [.int .i64 e.ac] := by simp [Program.keyLits, Tryz.underlying3, w3]
  have s4 : Tryz.prog.keyLits (d + 3) 4 [.bool e.mp] = some [.bool e.mp] := by simp [Program.keyLits, Tryz.underlying4]
  have s5 : Tryz.prog.keyLits (d + 3) 4 [.bool e.li] = some [.bool e.li] := by simp [Program.keyLits, Tryz.underlying4]
  unfold Program.keyLits
  simp [En.arr, enC, En.lits, Tryz.underlying64, c1, c2, c3, c4, c5, c6, s1, s2, s3, s4, s5, k1, k2, k3]
theorem enSame (e : En) (w : World) : (binOp .neq 64 (.agg e.arr) (.agg e.arr)).run Tryz.prog w = .ok (.bool false) w := by
  obtain ⟨r, hr, hiff⟩ := run_equalIn_deep (10000 - 4) 4 64 keyE w 4 4 (.agg e.arr) (.agg e.arr) e.lits e.lits (en_formed e) (en_formed e) (en_keyLits e 0) (en_keyLits e 0)
  have e1 : r = true := hiff.2 rfl
  have hq : (Op.equal 64 (.agg e.arr) (.agg e.arr)).run Tryz.prog w = .ok true w := by rw [← e1]; exact hr
  simp [binOp, hq]
end Go.Proofs.YtjlbahgjjdfaeaaGreat
namespace Go.Proofs.YtjlbahgjjdfaeaaGreat
open Go.RowKit Go.Proofs.Ty Go.Sort Go.Lib
set_option linter.unusedVariables false
set_option maxRecDepth 1000000
set_option linter.unusedSimpArgs false
end Go.Proofs.YtjlbahgjjdfaeaaGreat
namespace Go.Proofs.YtjlbahgjjdfaeaaGreat
open Go.RowKit Go.Proofs.Ty Go.Sort Go.Lib
set_option linter.unusedVariables false
set_option maxRecDepth 1000000
set_option linter.unusedSimpArgs false
def er (i : Im) : En × Vl := (i.e, i.v)
/-- The same entries with the same values. -/
def Tw (a b : List Im) : Prop := a.map er = b.map er
theorem Tw.e {a b : List Im} (h : Tw a b) : a.map Im.e = b.map Im.e := by
  have : ∀ l : List Im, l.map Im.e = (l.map er).map Prod.fst := fun l => by rw [List.map_map]; rfl
  rw [this, this, h]
theorem fnd_er (a : List Im) (ix sb : Nat) : (fnd a ix sb).map er = (a.map er).find? (fun p => p.1.ix == ix && p.1.sb == sb) := by
  unfold fnd
  rw [List.find?_map]
  rfl
theorem Tw.fnd {a b : List Im} (h : Tw a b) (ix sb : Nat) : (fnd a ix sb).map er = (Go.Proofs.YtjlbahgjjdfaeaaGreat.fnd b ix sb).map er := by rw [fnd_er, fnd_er, h]
theorem noc_er (a : List Im) (ix : Nat) : noc a ix = if (a.map er).any (fun p => p.1.ix == ix) then 101253137 else 100794368 := by
  unfold noc
  rw [List.any_map]
  rfl
theorem Tw.wc {a b : List Im} (h : Tw a b) (ix sb : Nat) (l : List UInt8) : wc a ix sb l = Go.Proofs.YtjlbahgjjdfaeaaGreat.wc b ix sb l := by
  have hf := h.fnd ix sb
  unfold Go.Proofs.YtjlbahgjjdfaeaaGreat.wc
  cases ha : Go.Proofs.YtjlbahgjjdfaeaaGreat.fnd a ix sb with
  | none =>
    rw [ha] at hf
    cases hb : Go.Proofs.YtjlbahgjjdfaeaaGreat.fnd b ix sb with
    | none => simp only; rw [noc_er, noc_er, h]
    | some j => rw [hb] at hf; cases hf
  | some i =>
    rw [ha] at hf
    cases hb : Go.Proofs.YtjlbahgjjdfaeaaGreat.fnd b ix sb with
    | none => rw [hb] at hf; cases hf
    | some j =>
      rw [hb] at hf
      simp only [Option.map_some, Option.some.injEq, er, Prod.mk.injEq] at hf
      simp only [wcode]
      rw [hf.1]
theorem setV_er {a : List Im} (hd : (a.map Im.b).Nodup) (hs : a.Pairwise (fun x y => x.e.pl < y.e.pl)) {i : Im} (hi : i ∈ a) (v : Vl) : (setV a i.b v).map er = (a.map er).map (fun p => if p.1.pl = i.e.pl then (p.1, v) else p) := by
  unfold setV
  rw [List.map_map, List.map_map]
  apply List.map_congr_left
  intro x hx
  simp only [Function.comp, er]
  by_cases e : x.b = i.b
  · have := mem_b hd hx hi e
    subst this
    rw [if_pos rfl]
    exact (if_pos (show (er x).1.pl = x.e.pl from rfl)).symm
  · have hne : ¬ x.e.pl = i.e.pl := fun h => e (by
      obtain ⟨m, hm, rfl⟩ := List.getElem_of_mem hx
      obtain ⟨n, hn, rfl⟩ := List.getElem_of_mem hi
      have h1 := List.pairwise_iff_getElem.1 hs
      have : m = n := by
        rcases Nat.lt_trichotomy m n with h2 | h2 | h2
        · have := h1 m n hm hn h2; omega
        · exact h2
        · have := h1 n m hn hm h2; omega
      subst this; rfl)
    rw [if_neg e]
    exact (if_neg (show ¬ (er x).1.pl = i.e.pl from hne)).symm
theorem Tw.wrt {a b : List Im} (h : Tw a b) (ha : (a.map Im.b).Nodup) (hb : (b.map Im.b).Nodup) (sa : a.Pairwise (fun x y => x.e.pl < y.e.pl)) (sb' : b.Pairwise (fun x y => x.e.pl < y.e.pl)) (ix sb : Nat) (l : List UInt8) : Tw (wrt a ix sb l) (Go.Proofs.YtjlbahgjjdfaeaaGreat.wrt b ix sb l) := by
  unfold Go.Proofs.YtjlbahgjjdfaeaaGreat.wrt
  rw [h.wc ix sb l]
  split
  · have hf := h.fnd ix sb
    cases hfa : Go.Proofs.YtjlbahgjjdfaeaaGreat.fnd a ix sb with
    | none =>
      rw [hfa] at hf
      cases hfb : Go.Proofs.YtjlbahgjjdfaeaaGreat.fnd b ix sb with
      | none => exact h
      | some j => rw [hfb] at hf; cases hf
    | some i =>
      rw [hfa] at hf
      cases hfb : Go.Proofs.YtjlbahgjjdfaeaaGreat.fnd b ix sb with
      | none => rw [hfb] at hf; cases hf
      | some j =>
        rw [hfb] at hf
        simp only [Option.map_some, Option.some.injEq, er, Prod.mk.injEq] at hf
        show (setV a i.b (decW i.e.df.t l)).map er = (setV b j.b (decW j.e.df.t l)).map er
        rw [setV_er ha sa (fnd_mem hfa), setV_er hb sb' (fnd_mem hfb), hf.1, h]
  · exact h
theorem sav_er (a : List Im) : sav a = (a.map er).flatMap (fun p => svI ⟨0, p.1, p.2⟩) := by
  unfold sav
  rw [List.flatMap_map]
  rfl
theorem Tw.sav {a b : List Im} (h : Tw a b) : sav a = Go.Proofs.YtjlbahgjjdfaeaaGreat.sav b := by rw [sav_er, sav_er, h]
/-- Entries in order, whichever way they came. -/
theorem sorted_eq {a b : List En} (ha : a.Pairwise (fun x y => x.pl < y.pl)) (hb : b.Pairwise (fun x y => x.pl < y.pl)) (hp : a.Perm b) : a = b := by
  induction a generalizing b with
  | nil => exact (List.Perm.nil_eq hp)
  | cons x r ih =>
    cases b with
    | nil => exact absurd hp.length_eq (by simp)
    | cons y s =>
      obtain ⟨h1, h2⟩ := List.pairwise_cons.1 ha
      obtain ⟨k1, k2⟩ := List.pairwise_cons.1 hb
      have hxy : x = y := by
        have m1 : x ∈ y :: s := hp.mem_iff.1 List.mem_cons_self
        have m2 : y ∈ x :: r := hp.mem_iff.2 List.mem_cons_self
        rcases List.mem_cons.1 m1 with e | m1
        · exact e
        · rcases List.mem_cons.1 m2 with e | m2
          · exact e.symm
          · have := k1 x m1; have := h1 y m2; omega
      subst hxy
      rw [ih h2 k2 (List.Perm.cons_inv hp)]
theorem tw_new {a b : List Im} {l m : List En} (sa : a.Pairwise (fun x y => x.e.pl < y.e.pl)) (sb : b.Pairwise (fun x y => x.e.pl < y.e.pl)) (va : ∀ i ∈ a, i.v = i.e.df) (vb : ∀ i ∈ b, i.v = i.e.df) (pa : (a.map Im.e).Perm (l.map En.plain)) (pb : (b.map Im.e).Perm (m.map En.plain)) (hm : m.Perm l) : Tw a b := by
  have he : a.map Im.e = b.map Im.e := sorted_eq (List.pairwise_map.2 sa) (List.pairwise_map.2 sb) (pa.trans ((hm.map En.plain).symm.trans pb.symm))
  have key : ∀ c : List Im, (∀ i ∈ c, i.v = i.e.df) → c.map er = (c.map Im.e).map (fun e => (e, e.df)) := fun c hc => by
    rw [List.map_map]
    apply List.map_congr_left
    intro i hi
    simp only [Function.comp, er, hc i hi]
  unfold Tw
  rw [key a va, key b vb, he]
theorem chkG_perm {s l : List En} (hc : ∀ e ∈ l, e.can = 0) (hn : ((s ++ l).map En.pl).Nodup) : chkG s l = 0 := by
  induction l generalizing s with
  | nil => rfl
  | cons e r ih =>
    rw [chkG, if_neg (by have := hc e List.mem_cons_self; simpa using this), if_neg, ih (fun x hx => hc x (List.mem_cons_of_mem _ hx)) (by simpa using hn)]
    rw [Bool.not_eq_true, List.any_eq_false]
    intro x hx he
    rw [List.map_append, List.nodup_append] at hn
    exact hn.2.2 x.pl (List.mem_map.2 ⟨x, hx, rfl⟩) e.pl (List.mem_map.2 ⟨e, List.mem_cons_self, rfl⟩) (by simpa using he)
/-- Entries that can be can be in whatever order. -/
theorem chkL_perm {l m : List En} (h : chkL l = 0) (hp : m.Perm l) : chkL m = 0 := by
  obtain ⟨h1, h2, h3⟩ := chkL_ok h
  unfold chkL
  rw [if_neg (by rw [hp.length_eq]; omega)]
  refine chkG_perm (fun e he => chkG_all h3 e (hp.mem_iff.1 he)) ?_
  rw [List.nil_append]
  exact (hp.map En.pl).nodup_iff.2 h2
end Go.Proofs.YtjlbahgjjdfaeaaGreat
namespace Go.Proofs.YtjlbahgjjdfaeaaGreat
open Go.RowKit Go.Proofs.Ty
set_option linter.unusedVariables false
set_option maxRecDepth 1000000
/-- What was written is read as it was. -/
theorem chk_plain (v : Vl) : v.plain.chk = v.chk := by
  have hk := kind_le v.t
  by_cases h : kind v.t = 1 ∨ kind v.t = 2
  · rw [Vl.plain_num h]
    unfold Vl.chk chk Vl.setB
    rcases h with h | h <;> simp [h]
  · by_cases h3 : kind v.t = 3 ∨ kind v.t = 4
    · rw [Vl.plain_txt h3]
      unfold Vl.chk chk Vl.setN
      rcases h3 with h | h <;> simp [h]
    · rw [Vl.plain_none (by omega)]
theorem enc_dec (v : Vl) (h : v.chk = 0) : decE v.t v.enc = 0 ∧ decW v.t v.enc = v.plain := by
  have hE : v.enc = if 0 < siz v.t then lowL v.n (siz v.t) else v.s.data.toList := by
    show encV v.t v.n v.s = _
    unfold encV
    rw [if_pos (show chk v.t v.n v.s = 0 from h)]
    rfl
  have hk0 : kind v.t ≠ 0 := by
    intro e
    have : v.chk = 1 := by unfold Vl.chk chk; simp [e]
    omega
  have hz := siz_zero v.t
  have hp := chk_plain v
  rw [h] at hp
  by_cases hs : 0 < siz v.t
  · rw [if_pos hs] at hE
    have hl : v.enc.length = siz v.t := by rw [hE, lowL_length]
    have hk : kind v.t = 1 ∨ kind v.t = 2 := by omega
    have hN : decN v.t v.enc = v.n := by
      rw [← wide_dec hs hl, hE]
      show wv v = v.n
      rcases hk with hk | hk
      · by_cases h1 : v.t = 1
        · have := chk_bool h1
          rw [h] at this
          by_cases hc : wv v = v.n ∧ ¬ 1 < v.n
          · exact hc.1
          · rw [if_neg hc] at this; omega
        · have := chk_num1 hk h1
          rw [h] at this
          by_cases hc : wv v = v.n
          · exact hc
          · rw [if_neg hc] at this; omega
      · have := chk_num2 hk
        rw [h] at this
        by_cases hc : wv v = v.n
        · exact hc
        · rw [if_neg hc] at this; omega
    have hS : decS v.t v.enc = ⟨#[]⟩ := by unfold decS; rw [if_pos hk]
    have hF : fitE v.t v.enc.length = 0 := by
      have := siz_le v.t
      rw [hl]
      unfold fitE
      rw [if_neg hk0, if_neg (by omega), if_neg (by omega)]
    have e1 : decE v.t v.enc = 0 := by
      unfold decE
      rw [hF, hN, hS, if_neg (by simp)]
      rw [Vl.plain_num hk] at hp
      have : chk v.t v.n ⟨#[]⟩ = 0 := hp
      rw [this, if_neg (by simp)]
    refine ⟨e1, ?_⟩
    unfold decW
    rw [if_pos e1, hN, hS, Vl.plain_num hk]
    exact mkV_eq _ _ _
  · rw [if_neg hs] at hE
    have hk : kind v.t = 3 ∨ kind v.t = 4 := by
      have := kind_le v.t
      omega
    have hle : v.s.size ≤ 65536 := by
      have h' : Ty.chk v.t v.n v.s = 0 := h
      unfold chk at h'
      rw [if_neg (by omega), if_neg (by omega), if_neg hk0] at h'
      by_cases hc : 65536 < v.s.size
      · rw [if_pos hc] at h'; omega
      · omega
    have hN : decN v.t v.enc = 0 := by unfold decN; rw [if_neg (by omega), if_neg (by omega)]
    have hS : decS v.t v.enc = v.s := by
      unfold decS
      rw [if_neg (by omega), hE]
    have hF : fitE v.t v.enc.length = 0 := by
      rw [hE]
      unfold fitE
      rw [if_neg hk0, if_neg (by omega), if_neg (by simp; omega)]
    have e1 : decE v.t v.enc = 0 := by
      unfold decE
      rw [hF, hN, hS, if_neg (by simp)]
      rw [Vl.plain_txt hk] at hp
      have : chk v.t 0 v.s = 0 := hp
      rw [this, if_neg (by simp)]
    refine ⟨e1, ?_⟩
    unfold decW
    rw [if_pos e1, hN, hS, Vl.plain_txt hk]
    exact mkV_eq _ _ _
end Go.Proofs.YtjlbahgjjdfaeaaGreat
namespace Go.Proofs.YtjlbahgjjdfaeaaGreat
open Go.RowKit Go.Proofs.Ty Go.Sort Go.Lib
set_option linter.unusedVariables false
set_option maxRecDepth 1000000
set_option linter.unusedSimpArgs false
/-- The code with which a list is refused; the items behind it. -/
def ldC (its : List Im) : List Sv → Nat
  | [] => 0
  | s :: r => match fnd its s.ix s.sb with
    | none => 4
    | some i => if i.e.ac ≠ 2 then 4 else if decE i.e.df.t s.raw ≠ 0 then 8 else ldC its r
def putS (its : List Im) (s : Sv) : List Im := match fnd its s.ix s.sb with
  | none => its
  | some i => setV its i.b (decW i.e.df.t s.raw)
def layV (its : List Im) (ss : List Sv) : List Im := ss.foldl putS its
def loadC (its : List Im) (b : List UInt8) : Nat := match cutL (-1) b with
  | none => 8
  | some ss => ldC its ss
def loadI (its : List Im) (b : List UInt8) : List Im := match cutL (-1) b with
  | none => its
  | some ss => if ldC its ss = 0 then layV its ss else its
theorem Al.putS {es : List En} {bs : List Nat} {its : List Im} (h : Al es bs its) (s : Sv) : Al es bs (putS its s) := by
  unfold Go.Proofs.YtjlbahgjjdfaeaaGreat.putS
  split
  · exact h
  · exact h.set _ _
theorem Al.layV {es : List En} {bs : List Nat} {its : List Im} (h : Al es bs its) (ss : List Sv) : Al es bs (layV its ss) := by
  induction ss generalizing its with
  | nil => exact h
  | cons s r ih => exact ih (h.putS s)
theorem Al.loadI {es : List En} {bs : List Nat} {its : List Im} (h : Al es bs its) (b : List UInt8) : Al es bs (loadI its b) := by
  unfold Go.Proofs.YtjlbahgjjdfaeaaGreat.loadI
  split
  · exact h
  · split
    · exact h.layV _
    · exact h
/-- Entries alone tell what is found. -/
theorem fnd_e {a b : List Im} (h : a.map Im.e = b.map Im.e) (ix sb : Nat) : (fnd a ix sb).map Im.e = (fnd b ix sb).map Im.e := by
  have key : ∀ c : List Im, (fnd c ix sb).map Im.e = (c.map Im.e).find? (fun e => e.ix == ix && e.sb == sb) := fun c => by
    unfold fnd
    rw [List.find?_map]
    rfl
  rw [key, key, h]
theorem ldC_e {a b : List Im} (h : a.map Im.e = b.map Im.e) (ss : List Sv) : ldC a ss = ldC b ss := by
  induction ss with
  | nil => rfl
  | cons s r ih =>
    have hf := fnd_e h s.ix s.sb
    rw [ldC, ldC, ih]
    cases ha : fnd a s.ix s.sb with
    | none =>
      rw [ha] at hf
      cases hb : fnd b s.ix s.sb with
      | none => rfl
      | some j => rw [hb] at hf; cases hf
    | some i =>
      rw [ha] at hf
      cases hb : fnd b s.ix s.sb with
      | none => rw [hb] at hf; cases hf
      | some j =>
        rw [hb] at hf
        simp only [Option.map_some, Option.some.injEq] at hf
        simp only
        rw [hf]
/-- What is known of an item, whatever is done. -/
structure Ok (i : Im) : Prop where
  lim : i.e.li = true → ordE i.e.df i.e.mn = 0 ∧ ordE i.e.df i.e.mx = 0
  df : i.e.df.chk = 0
  dfp : decE i.e.df.t i.e.df.enc = 0 ∧ decW i.e.df.t i.e.df.enc = i.e.df
  val : decE i.e.df.t i.v.enc = 0 ∧ decW i.e.df.t i.v.enc = i.v
theorem Ok.t {i : Im} (h : Ok i) : i.v.t = i.e.df.t := by
  have := dec_t i.e.df.t i.e.df.ht i.v.enc h.val.1
  rw [h.val.2] at this
  exact this
theorem Ok.dec {i : Im} (h : Ok i) {l : List UInt8} (hE : decE i.e.df.t l = 0) : Ok ⟨i.b, i.e, decW i.e.df.t l⟩ := by
  have he := (dec_enc i.e.df.t i.e.df.ht l hE).2
  exact ⟨h.lim, h.df, h.dfp, by show decE i.e.df.t (decW i.e.df.t l).enc = 0 ∧ decW i.e.df.t (decW i.e.df.t l).enc = decW i.e.df.t l; rw [he]; exact ⟨hE, rfl⟩⟩
theorem plain_enc_dec {v : Vl} (h : v.chk = 0) : decE v.t v.plain.enc = 0 ∧ decW v.t v.plain.enc = v.plain := by
  have hp : v.plain.chk = 0 := by rw [chk_plain]; exact h
  have h1 := enc_dec v.plain hp
  have h2 := enc_dec v h
  have ht : v.plain.t = v.t := rfl
  rw [ht] at h1
  have h3 : v.plain.enc = v.enc := by
    have e1 := (dec_enc v.t v.ht v.plain.enc h1.1).2
    have e2 := (dec_enc v.t v.ht v.enc h2.1).2
    rw [h2.2] at e2
    exact e2
  rw [h3]
  exact h2
theorem Ok.plain {i : Im} (h : Ok i) {v : Vl} (hc : v.chk = 0) (ht : v.t = i.e.df.t) : Ok ⟨i.b, i.e, v.plain⟩ := by
  refine ⟨h.lim, h.df, h.dfp, ?_⟩
  show decE i.e.df.t v.plain.enc = 0 ∧ decW i.e.df.t v.plain.enc = v.plain
  rw [← ht]
  exact plain_enc_dec hc
theorem ok_new {e : En} (h : e.can = 0) (b : Nat) : Ok ⟨b, e.plain, e.plain.df⟩ := by
  have hg := gd_new h b
  have hd := (can_zero h).1
  have hp : e.plain.df.chk = 0 := by show e.df.plain.chk = 0; rw [chk_plain]; exact hd
  have hpe : decE e.plain.df.t e.plain.df.enc = 0 ∧ decW e.plain.df.t e.plain.df.enc = e.plain.df := plain_enc_dec hd
  exact ⟨hg.lim, hp, hpe, hpe⟩
theorem ok_set {its : List Im} (hd : (its.map Im.b).Nodup) (h : ∀ i ∈ its, Ok i) {i : Im} (hi : i ∈ its) {v : Vl} (hv : Ok ⟨i.b, i.e, v⟩) : ∀ j ∈ setV its i.b v, Ok j := by
  intro j hj
  obtain ⟨y, hy, rfl⟩ := List.mem_map.1 hj
  by_cases e : y.b = i.b
  · rw [if_pos e]
    have := mem_b hd hy hi e
    subst this
    exact hv
  · rw [if_neg e]; exact h y hy
theorem ok_wrt {its : List Im} (hd : (its.map Im.b).Nodup) (h : ∀ i ∈ its, Ok i) (ix sb : Nat) (l : List UInt8) : ∀ i ∈ wrt its ix sb l, Ok i := by
  unfold wrt
  split
  · rename_i hc
    obtain ⟨i, hf, ha, hE, hb⟩ := wc_zero hc
    rw [hf]
    exact ok_set hd h (fnd_mem hf) ((h i (fnd_mem hf)).dec hE)
  · exact h
theorem ok_sett {its : List Im} (hd : (its.map Im.b).Nodup) (h : ∀ i ∈ its, Ok i) (ix sb : Nat) (v : Vl) : ∀ i ∈ sett its ix sb v, Ok i := by
  unfold sett
  cases hf : fnd its ix sb with
  | none => exact h
  | some i =>
    simp only
    split
    · rename_i hc
      unfold setc at hc
      rw [hf] at hc
      simp only at hc
      split at hc
      · exact absurd hc (by decide)
      · split at hc
        · exact absurd hc (by decide)
        · rename_i h1 h2
          exact ok_set hd h (fnd_mem hf) ((h i (fnd_mem hf)).plain hc (Decidable.not_not.1 h2))
    · exact h
theorem ok_layV {its : List Im} (hd : (its.map Im.b).Nodup) (h : ∀ i ∈ its, Ok i) (ss : List Sv) (hc : ldC its ss = 0) : ∀ i ∈ layV its ss, Ok i := by
  induction ss generalizing its with
  | nil => exact h
  | cons s r ih =>
    rw [ldC] at hc
    cases hf : fnd its s.ix s.sb with
    | none => rw [hf] at hc; simp at hc
    | some i =>
      rw [hf] at hc
      simp only at hc
      split at hc
      · exact absurd hc (by decide)
      · split at hc
        · exact absurd hc (by decide)
        · rename_i h1 h2
          have al : Al (its.map Im.e) (its.map Im.b) (putS its s) := Al.putS ⟨rfl, rfl⟩ s
          have e1 : layV its (s :: r) = layV (putS its s) r := rfl
          rw [e1]
          refine ih (by rw [al.b]; exact hd) ?_ (by rw [ldC_e al.e]; exact hc)
          have e2 : putS its s = setV its i.b (decW i.e.df.t s.raw) := by unfold putS; rw [hf]
          rw [e2]
          exact ok_set hd h (fnd_mem hf) ((h i (fnd_mem hf)).dec (Decidable.not_not.1 h2))
theorem ok_loadI {its : List Im} (hd : (its.map Im.b).Nodup) (h : ∀ i ∈ its, Ok i) (b : List UInt8) : ∀ i ∈ loadI its b, Ok i := by
  unfold loadI
  split
  · exact h
  · split
    · rename_i hc; exact ok_layV hd h _ hc
    · exact h
/-- Items with what they had at first. -/
def resetI (its : List Im) : List Im := its.map (fun i => ⟨i.b, i.e, i.e.df⟩)
theorem Al.resetI {es : List En} {bs : List Nat} {its : List Im} (h : Al es bs its) : Al es bs (resetI its) := ⟨by rw [← h.e]; unfold Go.Proofs.YtjlbahgjjdfaeaaGreat.resetI; rw [List.map_map]; rfl, by rw [← h.b]; unfold Go.Proofs.YtjlbahgjjdfaeaaGreat.resetI; rw [List.map_map]; rfl⟩
theorem ok_resetI {its : List Im} (h : ∀ i ∈ its, Ok i) : ∀ i ∈ resetI its, Ok i := by
  intro j hj
  obtain ⟨i, hi, rfl⟩ := List.mem_map.1 hj
  have := h i hi
  exact ⟨this.lim, this.df, this.dfp, this.dfp⟩
/-- Limits: the program's code is the document's. -/
theorem bey_wi {i : Im} (h : Ok i) {l : List UInt8} (hE : decE i.e.df.t l = 0) (hl : i.e.li = true) : wiC i.e (decW i.e.df.t l) = bey i.e (decW i.e.df.t l) := by
  obtain ⟨k1, k2⟩ := h.lim hl
  have c1 := (dec_enc i.e.df.t i.e.df.ht l hE).1
  have t1 := dec_t i.e.df.t i.e.df.ht l hE
  obtain ⟨a1, a2, a3⟩ := ord_zero k1
  obtain ⟨b1, b2, b3⟩ := ord_zero k2
  have e1 : ordE (decW i.e.df.t l) i.e.mn = 0 := zero_ord c1 a2 (t1.trans a3)
  have e2 : ordE (decW i.e.df.t l) i.e.mx = 0 := zero_ord c1 b2 (t1.trans b3)
  have hB : wiB i.e (decW i.e.df.t l) = true := by unfold wiB; rw [e1, e2]; rfl
  unfold wiC bey
  rw [if_neg (show ¬ wiB i.e (decW i.e.df.t l) = false by rw [hB]; simp), if_neg (show ¬ i.e.li = false by rw [hl]; simp)]
/-- Where an entry is, in the document's list. -/
def fiN (L : List En) (ix sb : Nat) : Nat := match L.findIdx? (fun e => e.ix == ix && e.sb == sb) with
  | none => 0
  | some k => k
def fiC (L : List En) (ix sb : Nat) : Nat := match L.findIdx? (fun e => e.ix == ix && e.sb == sb) with
  | none => if L.any (fun e => e.ix == ix) then 101253137 else 100794368
  | some k => 0
theorem fi_none {its : List Im} {ix sb : Nat} (h : fnd its ix sb = none) : fiN (its.map Im.e) ix sb = 0 ∧ fiC (its.map Im.e) ix sb = noc its ix := by
  have h1 : (its.map Im.e).findIdx? (fun e => e.ix == ix && e.sb == sb) = none := by
    rw [List.findIdx?_eq_none_iff]
    intro e he
    obtain ⟨i, hi, rfl⟩ := List.mem_map.1 he
    have := List.find?_eq_none.1 h i hi
    simpa using this
  unfold fiN fiC noc
  rw [h1, List.any_map]
  exact ⟨rfl, rfl⟩
theorem fi_some {its : List Im} {ix sb : Nat} {i : Im} (h : fnd its ix sb = some i) : ∃ k, ∃ hk : k < its.length, its[k] = i ∧ fiN (its.map Im.e) ix sb = k ∧ fiC (its.map Im.e) ix sb = 0 := by
  obtain ⟨k, hk, e1, e2⟩ := List.find?_eq_some_iff_getElem.1 h |>.2
  refine ⟨k, hk, e1, ?_⟩
  have h0 := (List.find?_eq_some_iff_getElem.1 h).1
  have h1 : (its.map Im.e).findIdx? (fun e => e.ix == ix && e.sb == sb) = some k := by
    rw [List.findIdx?_eq_some_iff_getElem]
    refine ⟨by simpa using hk, ?_, fun j hj => ?_⟩
    · simp only [List.getElem_map]; rw [e1]; simpa using h0
    · have := e2 j hj
      simp at this ⊢
      intro g1 g2
      rcases this with g | g
      · exact g g1
      · exact g g2
  unfold fiN fiC
  rw [h1]
  exact ⟨rfl, rfl⟩
theorem setV_get (its : List Im) (b : Nat) (v : Vl) (j : Nat) (hj : j < its.length) (h : j < (setV its b v).length) : (setV its b v)[j] = if its[j].b = b then ⟨its[j].b, its[j].e, v⟩ else its[j] := by
  simp only [setV, List.getElem_map]
/-- A value put at one place, in the program's items and in the document's row. -/
theorem setV_v {its : List Im} (hd : (its.map Im.b).Nodup) {k : Nat} (hk : k < its.length) (v : Vl) : (setV its its[k].b v).map Im.v = (its.map Im.v).set k v := by
  apply List.ext_getElem
  · simp [setV_len]
  · intro j h1 h2
    have hj : j < its.length := by simpa [setV_len] using h1
    rw [List.getElem_set]
    simp only [List.getElem_map]
    rw [setV_get its _ v j hj]
    by_cases e : k = j
    · subst e; simp
    · rw [if_neg e]
      have : its[j].b ≠ its[k].b := fun h => by
        have h3 := List.pairwise_iff_getElem.1 hd
        rcases Nat.lt_or_gt_of_ne e with h4 | h4
        · exact h3 k j (by simpa using hk) (by simpa using hj) h4 (by simp only [List.getElem_map]; exact h.symm)
        · exact h3 j k (by simpa using hj) (by simpa using hk) h4 (by simp only [List.getElem_map]; exact h)
      rw [if_neg this]
end Go.Proofs.YtjlbahgjjdfaeaaGreat
namespace Go.Proofs.YtjlbahgjjdfaeaaGreat
open Go.RowKit Go.Proofs.Ty Go.Sort Go.Lib
set_option linter.unusedVariables false
set_option maxRecDepth 1000000
set_option linter.unusedSimpArgs false
/-- The first k items with other values. -/
def layT (g : Im → Vl) (its : List Im) (k : Nat) : List Im := its.mapIdx (fun j x => if j < k then ⟨x.b, x.e, g x⟩ else x)
section
variable {g : Im → Vl} {its : List Im}
theorem layT_len (k : Nat) : (layT g its k).length = its.length := by simp [layT]
theorem layT_zero : layT g its 0 = its := by
  apply List.ext_getElem
  · simp [layT]
  · intro j h1 h2; simp [layT]
theorem layT_full : layT g its its.length = its.map (fun x => ⟨x.b, x.e, g x⟩) := by
  apply List.ext_getElem
  · simp [layT]
  · intro j h1 h2
    simp only [layT, List.getElem_mapIdx, List.getElem_map]
    rw [if_pos (by simpa [layT] using h1)]
theorem layT_b (k : Nat) : (layT g its k).map Im.b = its.map Im.b := by
  apply List.ext_getElem
  · simp [layT]
  · intro j h1 h2
    simp only [layT, List.getElem_mapIdx, List.getElem_map]
    split <;> rfl
theorem layT_get {k : Nat} (hk : k < its.length) (h : k < (layT g its k).length) : (layT g its k)[k] = its[k] := by
  simp [layT]
theorem layT_step (hd : (its.map Im.b).Nodup) {k : Nat} (hk : k < its.length) : setV (layT g its k) its[k].b (g its[k]) = layT g its (k + 1) := by
  apply List.ext_getElem
  · rw [setV_len, layT_len, layT_len]
  · intro j h1 h2
    have hj : j < its.length := by rw [layT_len] at h2; exact h2
    rw [setV_get _ _ _ j (by rw [layT_len]; exact hj)]
    simp only [layT, List.getElem_mapIdx]
    by_cases e : j = k
    · subst e
      rw [if_neg (Nat.lt_irrefl _), if_pos rfl, if_pos (Nat.lt_succ_self _)]
    · have hne : its[j].b ≠ its[k].b := fun h => by
        have h3 := List.pairwise_iff_getElem.1 hd
        rcases Nat.lt_or_gt_of_ne e with h4 | h4
        · exact h3 j k (by simpa using hj) (by simpa using hk) h4 (by simp only [List.getElem_map]; exact h)
        · exact h3 k j (by simpa using hk) (by simpa using hj) h4 (by simp only [List.getElem_map]; exact h.symm)
      by_cases h5 : j < k
      · rw [if_pos h5, if_pos (show j < k + 1 by omega), if_neg hne]
      · rw [if_neg h5, if_neg (show ¬ j < k + 1 by omega), if_neg hne]
theorem layT_same {k : Nat} (hk : k < its.length) (h : g its[k] = its[k].v) : layT g its (k + 1) = layT g its k := by
  apply List.ext_getElem
  · rw [layT_len, layT_len]
  · intro j h1 h2
    simp only [layT, List.getElem_mapIdx]
    by_cases e : j = k
    · subst e
      rw [if_neg (Nat.lt_irrefl _), if_pos (Nat.lt_succ_self _), h]
    · by_cases h5 : j < k
      · rw [if_pos h5, if_pos (show j < k + 1 by omega)]
      · rw [if_neg h5, if_neg (show ¬ j < k + 1 by omega)]
end
end Go.Proofs.YtjlbahgjjdfaeaaGreat
namespace Go.Proofs.YtjlbahgjjdfaeaaGreat
open Go.RowKit Go.Proofs.Ty Go.Sort Go.Lib Go.Maps Go.WideMaps
set_option linter.unusedVariables false
set_option maxRecDepth 1000000
set_option linter.unusedSimpArgs false
/-- How a value reads. -/
def vlL (l : List Value) : Option (DataW Unit × List MemPlace) :=
  match l with
  | [.int .i64 t, .int .u64 n, .string s] => some (.agg [.lit (.int .i64 t), .lit (.int .u64 n), .lit (.string s.data.toList)], [])
  | _ => none
def vlR (v : Value) : Option (DataW Unit × List MemPlace) :=
  match v with
  | .agg A => vlL A.toList
  | _ => none
def vlD (u : Vl) : DataW Unit := .agg [.lit (.int .i64 u.t), .lit (.int .u64 u.n), .lit (.string u.s.data.toList)]
theorem vlR_mk (u : Vl) : vlR (.agg u.arr) = some (vlD u, []) := rfl
theorem vlR_inv {v : Value} {u : Vl} {ps : List MemPlace} (h : vlR v = some (vlD u, ps)) : v = .agg u.arr := by
  unfold vlR at h
  split at h
  · rename_i A
    unfold vlL at h
    split at h
    · rename_i t n s hA
      simp [vlD] at h
      obtain ⟨⟨h1, h2, h3⟩, _⟩ := h
      have hs : s = u.s := by
        cases s with
        | mk d =>
          cases hu : u.s with
          | mk e =>
            rw [hu] at h3
            simp only at h3
            congr 1
      subst h1 h2 hs
      have : A = u.arr := Array.toList_inj.1 hA
      rw [this]
    · cases h
  · cases h
theorem zeroV (w : World) : (zeroValue 60).run Tryz.prog w = .ok (.agg Vl.nul.arr) w := by rfl
/-- Block b is a map that has just these values. -/
def Pv (w : World) (b n : Nat) (m : Nat → Option Vl) : Prop := ∃ D : DataW Unit, w.ownsMap Tryz.prog 95 vlR b n D ∧ ∀ k : Nat, k < 16777216 → has D (.int .u32 k) = (m k).isSome ∧ ∀ z, D.atKey (.int .u32 k) z = ((m k).map vlD).getD z
section
variable {w : World} {b n : Nat} {m : Nat → Option Vl}
theorem Pv.lt (h : Pv w b n m) : b < w.heap.size := h.choose_spec.1.lt
theorem Pv.look (h : Pv w b n m) (k : Nat) (hk : k < 16777216) : (Instr.lookup 88 (.map (some b)) (.int .u32 k) true).run Tryz.prog w = .ok (.tuple #[.agg ((m k).getD Vl.nul).arr, .bool (m k).isSome]) w := by
  obtain ⟨D, h1, h2⟩ := h
  obtain ⟨v, ps, h3, h4⟩ := h1.look_ok lawP Tryz.underlying88 (zeroV w) (vlR_mk Vl.nul) (key_pl k hk)
  obtain ⟨g1, g2⟩ := h2 k hk
  rw [h3, g1]
  rw [g2] at h4
  have : v = .agg ((m k).getD Vl.nul).arr := by
    cases hm : m k with
    | none => rw [hm] at h4; exact vlR_inv h4
    | some u => rw [hm] at h4; exact vlR_inv h4
  rw [this]
theorem Pv.put (h : Pv w b n m) (p : Nat) (hp : p < 16777216) (u : Vl) (hn : n < 33554432) : ∃ w', (Instr.mapUpdate 88 (.map (some b)) (.int .u32 p) (.agg u.arr)).run Tryz.prog w = .ok () w' ∧ Pv w' b (n + 1) (fun j => if j = p then some u else m j) ∧ w.mapTurned w' b := by
  obtain ⟨D, h1, h2⟩ := h
  obtain ⟨w', h3, h4, h5⟩ := World.ownsMap.store h1 lawP Tryz.underlying88 (by unfold maxLen; omega) (key_pl p hp) (vlR_mk u)
  refine ⟨w', h3, ⟨_, h4, fun j hj => ?_⟩, h5⟩
  by_cases hjk : j = p
  · subst hjk
    show _ = (if j = j then some u else m j).isSome ∧ ∀ z, _ = ((if j = j then some u else m j).map vlD).getD z
    rw [if_pos rfl]
    exact ⟨has_put_same h1.isMap (by simp [WideAt.IsKeyLit]) _, fun z => atKey_put_same h1.isMap (by simp [WideAt.IsKeyLit]) _ _⟩
  · show _ = (if j = p then some u else m j).isSome ∧ ∀ z, _ = ((if j = p then some u else m j).map vlD).getD z
    rw [if_neg hjk]
    exact ⟨(has_put_other (by simp; omega) _).trans (h2 j hj).1, fun z => (atKey_put_other (by simp; omega) _ _).trans ((h2 j hj).2 z)⟩
theorem Pv.new (w : World) : Pv (w.alloc (.map #[] 0)) w.heap.size 0 (fun _ => none) := ⟨_, World.ownsMap_made w _ _ _, fun k _ => ⟨rfl, fun z => rfl⟩⟩
theorem Pv.same {w' : World} (h : Pv w b n m) (hb : w'.heap[b]? = w.heap[b]?) : Pv w' b n m := by
  obtain ⟨D, ⟨es, clock, h1, h2⟩, h3⟩ := h
  exact ⟨D, ⟨es, clock, hb.trans h1, h2⟩, h3⟩
theorem Pv.kp {D R : Nat} {its : List Im} {x : World} (h : Pv w b n m) (hd : Dct D R its w) (hK : Kp (its.map Im.b) w x) : Pv x b n m := by
  refine h.same (hK.block b h.lt (fun hm => ?_))
  obtain ⟨i, hi, e⟩ := List.mem_map.1 hm
  have h1 := hd.items i hi
  obtain ⟨D, ⟨es, clock, h2, _⟩, _⟩ := h
  have h3 : w.heap[i.b]? = some (.cells (imC i.e i.v).toArray 66 (0, 0)) := h1
  rw [show i.b = b from e, h2] at h3
  cases h3
end
theorem run_makeMapV (w : World) : (Instr.makeMap 88 none).run Tryz.prog w = .ok (.map (some w.heap.size)) (w.alloc (.map #[] 0)) := by
  simp [Instr.makeMap, run_underlying Tryz.underlying88, Result.andThen]
/-- What an item has, with a map laid over it. -/
def gM (m : Nat → Option Vl) (x : Im) : Vl := (m x.e.pl).getD x.v
def layM (m : Nat → Option Vl) (its : List Im) : List Im := its.map (fun x => ⟨x.b, x.e, gM m x⟩)
set_option maxHeartbeats 4000000 in
theorem lay_any {D R : Nat} {its : List Im} {w : World} (h : Dct D R its w) {b n : Nat} {m : Nat → Option Vl} (hm : Pv w b n m) :
    Calls Tryz.prog 34 #[.pointer (some ⟨D, 0, none⟩), .map (some b)] w fun e w' => e = .returned (.tuple #[]) ∧ Dct D R (layM m its) w' ∧ Kp (its.map Im.b) w w' := by
  have hl := h.len
  have c0 := h.cell
  have HD0 := hidOf2 (show Dct D R (layT (gM m) its 0) w by rw [layT_zero]; exact h)
  have AP := hidOf2 h.apart
  have HP := hidOf2 (fun x (hK : Kp (its.map Im.b) w x) => hm.kp h hK)
  clear h hm
  go_enter Tryz.func34, Tryz.ntmps34
  go_wp2
  go_loopw [13] (fun i x => ∃ k : Nat, k ≤ its.length ∧ i = .int .i64 k ∧ Hid (Dct D R (layT (gM m) its k) x) ∧ Hid (Kp (its.map Im.b) w x)) (fun i _ => its.length - (intOf i).toNat)
  case atStart => exact ⟨0, Nat.zero_le _, rfl, HD0, Kp.refl _ _⟩
  case round =>
    clear HD0
    obtain ⟨k, hk, rfl, HD, HK⟩ := hrel
    by_cases hkl : k < its.length
    · have hkk : k < (layT (gM m) its k).length := by rw [layT_len]; exact hkl
      have ca := HD.out.at k hkk
      have hmm := List.getElem_mem hkk
      rw [layT_get hkl] at ca hmm
      have hI := HD.out.items _ hmm
      have hpl := iplace_any hI
      have HST := hidOf2 (fun (x : World) (hx : Dct D R (layT (gM m) its k) x) => by
        have := hx.set hmm (gM m its[k])
        rw [layT_step (g := gM m) AP.out hkl] at this
        exact this)
      have HSM := hidOf2 (fun e => layT_same (g := gM m) hkl e)
      have hmb := List.mem_map.2 ⟨its[k], List.getElem_mem hkl, (rfl : Im.b _ = _)⟩
      unfold ptrI at ca hpl
      have HG : Hid (gM m its[k] = (m its[k].e.pl).getD its[k].v) := rfl
      clear hkk
      generalize its[k] = i at *
      go_wp2_with fail
      refine hpl.mono ?_
      rintro e w1 ⟨rfl, nd, rfl⟩
      have K1 := HK.out.trans (Kp.of_below (bs := its.map Im.b) (bdr (Below.refl _ wr) nd))
      have D1 := HD.out.below (bdr (Below.refl _ wr) nd)
      have hI1 := D1.items _ hmm
      have hlk := (HP.out _ K1).look i.e.pl i.e.pl_lt
      clear hpl HD HK hI ca
      generalize wr.drewN nd = w2 at *
      clear nd
      obtain ⟨q, hq⟩ : ∃ q, w2.heap.size = q := ⟨_, rfl⟩
      have g0 : Va q Vl.nul (w2.alloc (.cells #[.int .i64 0, .int .u64 0, .string ⟨#[]⟩] 60)) := hq ▸ Va.new w2 Vl.nul
      cases hmi : m i.e.pl with
      | none =>
        rw [hmi] at hlk HG
        have b3 : Below w2.heap.size w2 ((w2.alloc (.cells #[.int .i64 0, .int .u64 0, .string ⟨#[]⟩] 60)).setRow q Vl.nul.arr) := below_row ((Below.refl _ _).alloc (Nat.le_refl _) _) (by omega) (by rw [size_alloc]; omega) _
        have HS3 := hidOf2 (show Dct D R (layT (gM m) its (k + 1)) _ by rw [HSM.out HG.out]; exact D1.below b3)
        have HK3 := hidOf2 (K1.trans (Kp.of_below (bs := its.map Im.b) b3))
        simp only [Option.getD_none, Option.isSome_none] at hlk
        clear D1 K1 b3 HST HSM hI1
        go_upto_region 4 with (first | (refine g0.sd Vl.nul rfl _ _ rfl rfl rfl ?_))
        generalize ((w2.alloc (.cells #[.int .i64 0, .int .u64 0, .string ⟨#[]⟩] 60)).setRow q Vl.nul.arr) = w3 at *
        clear hlk g0
        go_wp2
        go_roundw
        case rel => exact ⟨k + 1, by omega, by go_num, HS3, HK3⟩
        case measure => simp [intOf]; omega
      | some u =>
        rw [hmi] at hlk HG
        have b3 : Below w2.heap.size w2 ((w2.alloc (.cells #[.int .i64 0, .int .u64 0, .string ⟨#[]⟩] 60)).setRow q u.arr) := below_row ((Below.refl _ _).alloc (Nat.le_refl _) _) (by omega) (by rw [size_alloc]; omega) _
        have g1 := g0.row u
        have D3 := D1.below b3
        have ht := (D3.items _ hmm).there
        have HS3 := hidOf2 (HST.out _ D3)
        have HGu : gM m i = u := HG.out
        rw [HGu] at HS3
        have HK3 := hidOf2 ((K1.trans (Kp.of_below (bs := its.map Im.b) b3)).trans (Kp.set hmb 14 (vlC u)))
        simp only [Option.getD_some, Option.isSome_some] at hlk
        clear D1 K1 b3 HST HSM hI1 D3 HG HGu
        go_upto_region 4 with (first | (refine g0.sd u rfl _ _ rfl rfl rfl ?_))
        try simp only [hq]
        generalize ((w2.alloc (.cells #[.int .i64 0, .int .u64 0, .string ⟨#[]⟩] 60)).setRow q u.arr) = w3 at *
        clear hlk g0
        go_upto_region 6 with (first | (refine g1.ld rfl _ rfl rfl ?_) | (refine sdV ht u rfl _ _ rfl rfl rfl ?_; clear ht g1; generalize w3.setCells i.b 14 (vlC u) = w4 at *))
        go_wp2
        go_roundw
        case rel => exact ⟨k + 1, by omega, by go_num, HS3, HK3⟩
        case measure => simp [intOf]; omega
    · have e1 : k = its.length := by omega
      subst e1
      rw [layT_full] at HD
      have HD2 := hidOf2 HD.out
      clear HD
      go_wp2
      go_end0
      exact ⟨rfl, HD2.out, HK.out⟩
end Go.Proofs.YtjlbahgjjdfaeaaGreat
namespace Go.Proofs.YtjlbahgjjdfaeaaGreat
open Go.RowKit Go.Proofs.Ty Go.Sort Go.Lib
set_option linter.unusedVariables false
set_option maxRecDepth 1000000
set_option linter.unusedSimpArgs false
theorem layM_none (its : List Im) : layM (fun _ => none) its = its := by
  unfold layM gM
  simp
theorem fnd_layM (m : Nat → Option Vl) (its : List Im) (ix sb : Nat) : fnd (layM m its) ix sb = (fnd its ix sb).map (fun x => ⟨x.b, x.e, gM m x⟩) := by
  unfold fnd layM
  rw [List.find?_map]
  rfl
/-- One saved value more, in the map and among the items. -/
theorem layM_put {its : List Im} (hd : (its.map Im.b).Nodup) (hs : its.Pairwise (fun a b => a.e.pl < b.e.pl)) (m : Nat → Option Vl) (s : Sv) {i : Im} (hf : fnd its s.ix s.sb = some i) : layM (fun j => if j = i.e.pl then some (decW i.e.df.t s.raw) else m j) its = putS (layM m its) s := by
  have e1 : putS (layM m its) s = setV (layM m its) i.b (decW i.e.df.t s.raw) := by
    unfold putS
    rw [fnd_layM, hf]
    rfl
  rw [e1]
  unfold layM setV
  rw [List.map_map]
  apply List.map_congr_left
  intro x hx
  have hi := fnd_mem hf
  simp only [Function.comp]
  by_cases e : x.b = i.b
  · have := mem_b hd hx hi e
    subst this
    rw [if_pos rfl]
    show (⟨x.b, x.e, gM _ x⟩ : Im) = _
    unfold gM
    simp
  · have hne : ¬ x.e.pl = i.e.pl := fun h => e (by
      obtain ⟨a, ha, rfl⟩ := List.getElem_of_mem hx
      obtain ⟨c, hc, rfl⟩ := List.getElem_of_mem hi
      have h1 := List.pairwise_iff_getElem.1 hs
      have : a = c := by
        rcases Nat.lt_trichotomy a c with h2 | h2 | h2
        · have := h1 a c ha hc h2; omega
        · exact h2
        · have := h1 c a hc ha h2; omega
      subst this; rfl)
    rw [if_neg e]
    show (⟨x.b, x.e, gM _ x⟩ : Im) = ⟨x.b, x.e, gM m x⟩
    unfold gM
    simp [hne]
theorem ldC_step {its : List Im} {ss : List Sv} {k : Nat} (hk : k < ss.length) : ldC its (ss.drop k) = match fnd its ss[k].ix ss[k].sb with
    | none => 4
    | some i => if i.e.ac ≠ 2 then 4 else if decE i.e.df.t ss[k].raw ≠ 0 then 8 else ldC its (ss.drop (k + 1)) := by
  rw [List.drop_eq_getElem_cons hk, ldC]
  try (cases fnd its ss[k].ix ss[k].sb <;> rfl)
theorem layV_step {its : List Im} {ss : List Sv} {k : Nat} (hk : k < ss.length) : layV its (ss.take (k + 1)) = putS (layV its (ss.take k)) ss[k] := by
  unfold layV
  rw [List.take_succ_eq_append_getElem hk, List.foldl_append]
  rfl
theorem enterDc : ∀ args x, (callFunc 32 args).run Tryz.prog x = .ok (.enter 32 args) x := fun _ _ => by rfl
theorem enterIp : ∀ args x, (callFunc 33 args).run Tryz.prog x = .ok (.enter 33 args) x := fun _ _ => by rfl
theorem ldS {w : World} {ops : Array Oper} {rest : List Oper} {p : Oper} {a : Act} {Q : Exit → Act → World → Prop} {b o : Nat} {s : Sw} (h : w.rangeAt b o (swC s)) (hgd : Region.wanted p (yielded ops a.tmps) = true) (x : Operand) (ho : p.op = .load 90 x) (hx : a.eval x = .pointer (some ⟨b, o, none⟩))
    (hh : wpList Tryz.prog ops Q rest (a.put p.dst (.agg s.arr)) w) : wpList Tryz.prog ops Q (p :: rest) a w :=
  BigFrame.wpList_want hgd fun _ hK => wp_load_mid 90 x ho b o hx (swC s) _ h Tryz.underlying90 rfl (by rw [infoS]; rfl) (hK _ _ hh)
/-- While a list is read: the dictionary, the list in memory, the values that were read, in a map. -/
structure Lst (w w1 : World) (D R : Nat) (its : List Im) (v : Value) (ws : List Sw) (mb n : Nat) (m : Nat → Option Vl) (x : World) : Prop where
  dct : Dct D R its x
  wide : Wide 3 swC x v ws
  raws : ∀ s ∈ ws, Bytes x s.bv s.s.raw
  map : Pv x mb n m
  below : Below w1.heap.size w1 x
  old : Below w.heap.size w w1
  fresh : w1.heap.size ≤ mb
section
variable {w w1 : World} {D R : Nat} {its : List Im} {v : Value} {ws : List Sw} {mb n : Nat} {m : Nat → Option Vl} {x y : World}
theorem Lst.next (h : Lst w w1 D R its v ws mb n m x) (hb : Below x.heap.size x y) : Lst w w1 D R its v ws mb n m y :=
  ⟨h.dct.below hb, h.wide.same hb.size (fun b _ hl => hb.block b hl), fun s hs => (h.raws s hs).below hb, h.map.same (hb.block mb h.map.lt), h.below.trans (hb.mono h.below.size), h.old, h.fresh⟩
theorem Lst.start (h0 : Dct D R its w) (hb : Below w.heap.size w w1) (hw : Wide 3 swC w1 v ws) (hr : ∀ s ∈ ws, Bytes w1 s.bv s.s.raw) : Lst w w1 D R its v ws w1.heap.size 0 (fun _ => none) (w1.alloc (.map #[] 0)) :=
  have bA : Below w1.heap.size w1 (w1.alloc (.map #[] 0)) := (Below.refl _ _).alloc (Nat.le_refl _) _
  ⟨(h0.below hb).below bA, hw.same bA.size (fun b _ hl => bA.block b hl), fun s hs => (hr s hs).below bA, Pv.new w1, bA, hb, Nat.le_refl _⟩
theorem Lst.put (h : Lst w w1 D R its v ws mb n m x) (h1 : Dct D R its w1) (hw : Wide 3 swC w1 v ws) (hr : ∀ s ∈ ws, Bytes w1 s.bv s.s.raw) {m' : Nat → Option Vl} {n' : Nat} (hp : Pv y mb n' m') (ht : x.mapTurned y mb) : Lst w w1 D R its v ws mb n' m' y := by
  have G := ht.grown
  have bY : Below w1.heap.size w1 y := h.below.grown G h.below.size (fun j hj => by injection hj with hj; have := h.fresh; omega)
  exact ⟨h1.below bY, hw.same bY.size (fun b _ hl => bY.block b hl), fun s hs => (hr s hs).below bY, hp, bY, h.old, h.fresh⟩
end
end Go.Proofs.YtjlbahgjjdfaeaaGreat
namespace Go.Proofs.YtjlbahgjjdfaeaaGreat
open Go.RowKit Go.Proofs.Ty Go.Sort Go.Lib
set_option linter.unusedVariables false
set_option maxRecDepth 1000000
set_option linter.unusedSimpArgs false
theorem insP_perm (L : List En) (x : En) : (insP L x).Perm (L ++ [x]) := by
  induction L with
  | nil => exact List.Perm.refl _
  | cons y r ih =>
    rw [insP]
    split
    · exact ih.cons y
    · exact (List.perm_append_comm (l₁ := [x]) (l₂ := y :: r))
theorem insL_perm (acc l : List En) : (insL acc l).Perm (acc ++ l.map En.plain) := by
  induction l generalizing acc with
  | nil => simp [insL]
  | cons e r ih =>
    rw [insL]
    refine (ih _).trans ?_
    rw [List.map_cons]
    have := (insP_perm acc e.plain).append_right (r.map En.plain)
    simpa using this
theorem insP_sorted {L : List En} (h : L.Pairwise (fun a b => a.pl < b.pl)) {x : En} (hx : ∀ y ∈ L, y.pl ≠ x.pl) : (insP L x).Pairwise (fun a b => a.pl < b.pl) := by
  induction L with
  | nil => simp [insP]
  | cons y r ih =>
    obtain ⟨h1, h2⟩ := List.pairwise_cons.1 h
    rw [insP]
    split
    · rename_i hlt
      refine List.pairwise_cons.2 ⟨fun z hz => ?_, ih h2 (fun z hz => hx z (List.mem_cons_of_mem _ hz))⟩
      rcases List.mem_append.1 ((insP_perm r x).mem_iff.1 hz) with h3 | h3
      · exact h1 z h3
      · obtain rfl := List.mem_singleton.1 h3; exact hlt
    · rename_i hge
      have := hx y List.mem_cons_self
      refine List.pairwise_cons.2 ⟨fun z hz => ?_, h⟩
      rcases List.mem_cons.1 hz with rfl | h3
      · omega
      · have := h1 z h3; omega
theorem plain_pl (e : En) : e.plain.pl = e.pl := rfl
theorem insL_sorted {acc l : List En} (h : acc.Pairwise (fun a b => a.pl < b.pl)) (hn : ((acc ++ l).map En.pl).Nodup) : (insL acc l).Pairwise (fun a b => a.pl < b.pl) := by
  induction l generalizing acc with
  | nil => exact h
  | cons e r ih =>
    rw [insL]
    refine ih (insP_sorted h (fun y hy => ?_)) ?_
    · rw [List.map_append, List.nodup_append] at hn
      have := hn.2.2 y.pl (List.mem_map.2 ⟨y, hy, rfl⟩) e.pl (List.mem_map.2 ⟨e, List.mem_cons_self, rfl⟩)
      rw [plain_pl]; exact this
    · have p1 : ((insP acc e.plain ++ r).map En.pl).Perm ((acc ++ e :: r).map En.pl) := by
        have := ((insP_perm acc e.plain).append_right r).map En.pl
        refine this.trans ?_
        simp [plain_pl]
      exact p1.nodup_iff.2 hn
/-- Both dictionaries have the same entries in the same order, at first. -/
theorem ins_its {its : List Im} {l : List En} (hs : its.Pairwise (fun a b => a.e.pl < b.e.pl)) (hp : (its.map Im.e).Perm (l.map En.plain)) (hn : (l.map En.pl).Nodup) : insL [] l = its.map Im.e :=
  sorted_eq (insL_sorted (by simp) (by simpa using hn)) (List.pairwise_map.2 hs) ((insL_perm [] l).trans hp.symm)
theorem ok_its {its : List Im} {l : List En} (hc : chkL l = 0) (hp : (its.map Im.e).Perm (l.map En.plain)) (hv : ∀ i ∈ its, i.v = i.e.df) : ∀ i ∈ its, Ok i := by
  intro i hi
  have h1 : i.e ∈ l.map En.plain := hp.mem_iff.1 (List.mem_map.2 ⟨i, hi, rfl⟩)
  obtain ⟨e, he, h2⟩ := List.mem_map.1 h1
  have := ok_new (chkG_all (chkL_ok hc).2.2 e he) i.b
  rw [h2] at this
  have h3 := hv i hi
  obtain ⟨b, e', v⟩ := i
  simp only at h3 this ⊢
  rw [h3]
  exact this
/-- What is saved, as a list. -/
def svO (i : Im) : Sv := ⟨i.e.ix, i.e.sb, i.v.enc, i.e.hix, i.e.hsb⟩
def svs (its : List Im) : List Sv := (its.filter (fun i => decide (i.e.ac = 2))).map svO
theorem hd_sv (i : Im) (r : List UInt8) (ha : i.e.ac = 2) : 7 ≤ (svI i ++ r).length ∧ hdN (svI i ++ r) = i.v.enc.length ∧ svOf (svI i ++ r) = svO i ∧ (svI i ++ r).drop (7 + i.v.enc.length) = r := by
  have hl := enc_len i.v
  have e1 : svI i = hd3 i.e ++ lowL i.v.enc.length 4 ++ i.v.enc := by unfold svI; rw [if_pos ha]
  have e2 : svI i ++ r = UInt8.ofNat (i.e.ix % 256) :: UInt8.ofNat (i.e.ix / 256) :: UInt8.ofNat i.e.sb :: (lowL i.v.enc.length 4 ++ (i.v.enc ++ r)) := by rw [e1]; simp [hd3]
  have hn : hdN (svI i ++ r) = i.v.enc.length := by
    unfold hdN
    rw [e2]
    have : ((UInt8.ofNat (i.e.ix % 256) :: UInt8.ofNat (i.e.ix / 256) :: UInt8.ofNat i.e.sb :: (lowL i.v.enc.length 4 ++ (i.v.enc ++ r))).drop 3).take 4 = lowL i.v.enc.length 4 := by
      show (lowL i.v.enc.length 4 ++ (i.v.enc ++ r)).take 4 = _
      have h4 : (lowL i.v.enc.length 4).length = 4 := lowL_length _ _
      rw [List.take_append_of_le_length (by omega), List.take_of_length_le (by omega)]
    rw [this, join_low]
    have : (256 : Nat) ^ 4 = 4294967296 := by decide
    omega
  have h7 : (svI i ++ r).drop 7 = i.v.enc ++ r := by
    rw [e2]
    show (lowL i.v.enc.length 4 ++ (i.v.enc ++ r)).drop 4 = _
    have h4 : (lowL i.v.enc.length 4).length = 4 := lowL_length _ _
    generalize lowL i.v.enc.length 4 = LL at *
    rw [← h4, List.drop_left]
  refine ⟨?_, hn, ?_, ?_⟩
  · rw [e2]; simp only [List.length_cons, List.length_append, lowL_length]; omega
  · have hx := i.e.hix
    have hsb := i.e.hsb
    have g0 : ((svI i ++ r).getD 0 0).toNat = i.e.ix % 256 := by rw [e2]; show (UInt8.ofNat (i.e.ix % 256)).toNat = _; rw [ofNat_toNat]; omega
    have g1 : ((svI i ++ r).getD 1 0).toNat = i.e.ix / 256 := by rw [e2]; show (UInt8.ofNat (i.e.ix / 256)).toNat = _; rw [ofNat_toNat]; omega
    have g2 : ((svI i ++ r).getD 2 0).toNat = i.e.sb := by rw [e2]; show (UInt8.ofNat i.e.sb).toNat = _; rw [ofNat_toNat]; omega
    have g3 : ((svI i ++ r).drop 7).take (hdN (svI i ++ r)) = i.v.enc := by rw [h7, hn, List.take_left]
    have : ∀ a b : Sv, a.ix = b.ix → a.sb = b.sb → a.raw = b.raw → a = b := fun a b h1 h2 h3 => by
      cases a; cases b; simp only at h1 h2 h3; subst h1; subst h2; subst h3; rfl
    refine this _ _ ?_ g2 g3
    show ((svI i ++ r).getD 0 0).toNat + 256 * ((svI i ++ r).getD 1 0).toNat = i.e.ix
    rw [g0, g1]; omega
  · rw [← List.drop_drop, h7, List.drop_left]
theorem svO_pl (i : Im) : (svO i).pl = i.e.pl := rfl
theorem cut_sav (its : List Im) (hs : its.Pairwise (fun a b => a.e.pl < b.e.pl)) (ah : Int) (hah : ∀ i ∈ its, ah < (i.e.pl : Int)) : cutL ah (sav its) = some (svs its) := by
  induction its generalizing ah with
  | nil => exact cutL_nil ah
  | cons i r ih =>
    obtain ⟨h1, h2⟩ := List.pairwise_cons.1 hs
    have e0 : sav (i :: r) = svI i ++ sav r := by simp [sav]
    by_cases ha : i.e.ac = 2
    · obtain ⟨g1, g2, g3, g4⟩ := hd_sv i (sav r) ha
      have hi := hah i List.mem_cons_self
      have hlen : i.v.enc.length ≤ (svI i ++ sav r).length - 7 := by
        have := congrArg List.length g4
        have e1 : svI i = hd3 i.e ++ lowL i.v.enc.length 4 ++ i.v.enc := by unfold svI; rw [if_pos ha]
        rw [e1]
        simp only [List.length_append, hd3_len, lowL_length]
        omega
      rw [e0, cutL_go g1 (by rw [g2]; omega) (by rw [g3, svO_pl]; omega), g2, g3, g4, ih h2 _ (fun j hj => by rw [svO_pl]; have := h1 j hj; omega)]
      unfold svs
      rw [List.filter_cons_of_pos (by simpa using ha)]
      rfl
    · have e1 : svI i = [] := by unfold svI; rw [if_neg ha]
      rw [e0, e1, List.nil_append, ih h2 _ (fun j hj => hah j (List.mem_cons_of_mem _ hj))]
      unfold svs
      rw [List.filter_cons_of_neg (by simpa using ha)]
theorem ld_svs {its its2 : List Im} (he : its2.map Im.e = its.map Im.e) (hs : its.Pairwise (fun a b => a.e.pl < b.e.pl)) (hok : ∀ i ∈ its, Ok i) (ss : List Sv) (h : ∀ s ∈ ss, ∃ i ∈ its, i.e.ac = 2 ∧ s = svO i) : ldC its2 ss = 0 := by
  induction ss with
  | nil => rfl
  | cons s r ih =>
    obtain ⟨i, hi, ha, rfl⟩ := h s List.mem_cons_self
    have hf := fnd_e he i.e.ix i.e.sb
    rw [fnd_self hs hi] at hf
    rw [ldC]
    cases hg : fnd its2 (svO i).ix (svO i).sb with
    | none =>
      have hg' : fnd its2 i.e.ix i.e.sb = none := hg
      rw [hg'] at hf; cases hf
    | some j =>
      have hg' : fnd its2 i.e.ix i.e.sb = some j := hg
      rw [hg'] at hf
      simp only [Option.map_some, Option.some.injEq] at hf
      simp only
      rw [if_neg (by rw [hf]; simpa using ha), if_neg (by rw [hf]; show ¬ decE i.e.df.t i.v.enc ≠ 0; simpa using (hok i hi).val.1)]
      exact ih (fun s hs => h s (List.mem_cons_of_mem _ hs))
theorem mem_svs {its : List Im} {s : Sv} (h : s ∈ svs its) : ∃ i ∈ its, i.e.ac = 2 ∧ s = svO i := by
  obtain ⟨i, hi, rfl⟩ := List.mem_map.1 h
  obtain ⟨h1, h2⟩ := List.mem_filter.1 hi
  exact ⟨i, h1, by simpa using h2, rfl⟩
theorem pl_inj {its : List Im} (hs : its.Pairwise (fun a b => a.e.pl < b.e.pl)) {j k : Nat} (hj : j < its.length) (hk : k < its.length) (h : its[j].e.pl = its[k].e.pl) : j = k := by
  have h1 := List.pairwise_iff_getElem.1 hs
  rcases Nat.lt_trichotomy j k with h2 | h2 | h2
  · have := h1 j k hj hk h2; omega
  · exact h2
  · have := h1 k j hk hj h2; omega
theorem putS_len (its : List Im) (s : Sv) : (putS its s).length = its.length := by
  have := congrArg List.length (Al.putS (⟨rfl, rfl⟩ : Al (its.map Im.e) (its.map Im.b) its) s).b
  simpa using this
theorem putS_v {its : List Im} (hd : (its.map Im.b).Nodup) (hs : its.Pairwise (fun a b => a.e.pl < b.e.pl)) (s : Sv) {k : Nat} (hk : k < its.length) (h2 : k < (putS its s).length) : (putS its s)[k].v = if its[k].e.pl = s.pl then decW its[k].e.df.t s.raw else its[k].v := by
  cases hf : fnd its s.ix s.sb with
  | none =>
    have e1 : putS its s = its := by unfold putS; rw [hf]
    have hne : ¬ its[k].e.pl = s.pl := fun e => by
      have := List.find?_eq_none.1 hf its[k] (List.getElem_mem hk)
      have h3 : its[k].e.ix = s.ix ∧ its[k].e.sb = s.sb := by
        have a1 := its[k].e.hsb; have a2 := s.hsb
        unfold En.pl Sv.pl at e
        omega
      simp [h3] at this
    rw [if_neg hne]
    simp only [e1]
  | some i =>
    have e1 : putS its s = setV its i.b (decW i.e.df.t s.raw) := by unfold putS; rw [hf]
    have hi := fnd_mem hf
    have hp := fnd_place hf
    have hip : i.e.pl = s.pl := by unfold En.pl Sv.pl; rw [hp.1, hp.2]
    obtain ⟨j, hj, rfl⟩ := List.getElem_of_mem hi
    simp only [e1]
    rw [setV_get its _ _ k hk]
    by_cases e : its[k].e.pl = s.pl
    · have : k = j := pl_inj hs hk hj (e.trans hip.symm)
      subst this
      rw [if_pos rfl, if_pos e]
    · have hne : ¬ its[k].b = its[j].b := fun h => e (by rw [mem_b hd (List.getElem_mem hk) hi h]; exact hip)
      rw [if_neg hne, if_neg e]
theorem e_get {a b : List Im} (h : a.map Im.e = b.map Im.e) {k : Nat} (ha : k < a.length) (hb : k < b.length) : a[k].e = b[k].e := by
  have := congrArg (fun z : List En => z[k]?) h
  simp only [List.getElem?_map, List.getElem?_eq_getElem ha, List.getElem?_eq_getElem hb, Option.map_some, Option.some.injEq] at this
  exact this
theorem sorted_of_e {a b : List Im} (h : a.map Im.e = b.map Im.e) (hb : b.Pairwise (fun x y => x.e.pl < y.e.pl)) : a.Pairwise (fun x y => x.e.pl < y.e.pl) := by
  have : (b.map Im.e).Pairwise (fun x y => x.pl < y.pl) := List.pairwise_map.2 hb
  rw [← h] at this
  exact (List.pairwise_map (f := Im.e) (R := fun a b : En => a.pl < b.pl)).1 this
/-- What was loaded has the values that were saved. -/
theorem lay_svs {its : List Im} (hs : its.Pairwise (fun a b => a.e.pl < b.e.pl)) (hok : ∀ i ∈ its, Ok i) (ss : List Sv) (h : ∀ s ∈ ss, ∃ i ∈ its, i.e.ac = 2 ∧ s = svO i) (its2 : List Im) (hd : (its2.map Im.b).Nodup) (he : its2.map Im.e = its.map Im.e) {k : Nat} (hk : k < its.length) (hk2 : k < its2.length) (h3 : k < (layV its2 ss).length) (hkv : its[k].e.pl ∈ ss.map Sv.pl ∨ its2[k].v = its[k].v) : (layV its2 ss)[k].v = its[k].v := by
  induction ss generalizing its2 with
  | nil =>
    rcases hkv with h1 | h1
    · simp at h1
    · exact h1
  | cons s r ih =>
    have al := Al.putS (⟨rfl, rfl⟩ : Al (its2.map Im.e) (its2.map Im.b) its2) s
    have hl := putS_len its2 s
    have hv := putS_v hd (sorted_of_e he hs) s hk2 (by rw [hl]; exact hk2)
    have ee := e_get he hk2 hk
    rw [ee] at hv
    obtain ⟨i, hi, ha, rfl⟩ := h s List.mem_cons_self
    have key : its[k].e.pl = (svO i).pl → ((putS its2 (svO i))[k]'(by rw [hl]; exact hk2)).v = its[k].v := fun e => by
      rw [hv, if_pos e]
      obtain ⟨j, hj, rfl⟩ := List.getElem_of_mem hi
      have : k = j := pl_inj hs hk hj e
      subst this
      exact (hok _ (List.getElem_mem hk)).val.2
    refine ih (fun s hs => h s (List.mem_cons_of_mem _ hs)) (putS its2 (svO i)) (by rw [al.b]; exact hd) (by rw [al.e]; exact he) (by rw [hl]; exact hk2) h3 ?_
    by_cases e : its[k].e.pl = (svO i).pl
    · exact .inr (key e)
    · rcases hkv with h1 | h1
      · rw [List.map_cons, List.mem_cons] at h1
        rcases h1 with h1 | h1
        · exact absurd h1 e
        · exact .inl h1
      · right
        rw [hv, if_neg e]
        exact h1
/-- What is saved, loaded into a dictionary of the same entries. -/
theorem kept {its its2 : List Im} (hs : its.Pairwise (fun a b => a.e.pl < b.e.pl)) (hok : ∀ i ∈ its, Ok i) (hd : (its2.map Im.b).Nodup) (he : its2.map Im.e = its.map Im.e) : loadC its2 (sav its) = 0 ∧ sav (loadI its2 (sav its)) = sav its ∧ ∀ ix sb i, fnd its ix sb = some i → i.e.ac = 2 → getV (loadI its2 (sav its)) ix sb = i.v := by
  have hc := cut_sav its hs (-1) (fun i _ => by omega)
  have h0 := ld_svs he hs hok (svs its) (fun s h => mem_svs h)
  have e1 : loadC its2 (sav its) = 0 := by unfold loadC; rw [hc]; exact h0
  have e2 : loadI its2 (sav its) = layV its2 (svs its) := by
    unfold loadI
    rw [hc]
    exact if_pos h0
  have al := Al.layV (⟨rfl, rfl⟩ : Al (its2.map Im.e) (its2.map Im.b) its2) (svs its)
  have hlen : (layV its2 (svs its)).length = its.length := by
    have h1 := congrArg List.length (al.e.trans he)
    simpa using h1
  have hlen2 : its2.length = its.length := by
    have h1 := congrArg List.length he
    simpa using h1
  have hee : (layV its2 (svs its)).map Im.e = its.map Im.e := al.e.trans he
  have hval : ∀ k (hk : k < its.length), its[k].e.ac = 2 → ((layV its2 (svs its))[k]'(by omega)).v = its[k].v := fun k hk ha => by
    refine lay_svs hs hok (svs its) (fun s h => mem_svs h) its2 hd he hk (by omega) (by omega) (.inl ?_)
    refine List.mem_map.2 ⟨svO its[k], List.mem_map.2 ⟨its[k], List.mem_filter.2 ⟨List.getElem_mem hk, by simpa using ha⟩, rfl⟩, rfl⟩
  refine ⟨e1, ?_, ?_⟩
  · rw [e2]
    have : (layV its2 (svs its)).map svI = its.map svI := by
      apply List.ext_getElem
      · simpa using hlen
      · intro k h1 h2
        have hk : k < its.length := by simpa using h2
        simp only [List.getElem_map]
        unfold svI
        have ee := e_get hee (by omega : k < (layV its2 (svs its)).length) hk
        rw [ee]
        by_cases ha : its[k].e.ac = 2
        · rw [if_pos ha, if_pos ha, hval k hk ha]
        · rw [if_neg ha, if_neg ha]
    unfold sav
    rw [List.flatMap_def, List.flatMap_def, this]
  · intro ix sb i hf ha
    rw [e2]
    obtain ⟨k, hk, hki, f1, f2⟩ := fi_some hf
    have hf2 := fnd_e hee ix sb
    rw [hf] at hf2
    cases hg : fnd (layV its2 (svs its)) ix sb with
    | none => rw [hg] at hf2; cases hf2
    | some y =>
      obtain ⟨m, hm, hmy, g1, g2⟩ := fi_some hg
      rw [hee, f1] at g1
      subst g1
      unfold getV
      rw [hg]
      show y.v = i.v
      rw [← hmy, ← hki]
      exact hval k hk (by rw [hki]; exact ha)
end Go.Proofs.YtjlbahgjjdfaeaaGreat
namespace Go.Proofs.YtjlbahgjjdfaeaaGreat
open Go.RowKit Go.Proofs.Ty Go.Sort Go.Lib
set_option linter.unusedVariables false
set_option maxRecDepth 1000000
set_option linter.unusedSimpArgs false
theorem kp_other {D R : Nat} {its : List Im} {x y : World} (hd : Dct D R its x) (hK : Kp (its.map Im.b) x y) {q T : Nat} {A : Array Value} {fr : Nat × Nat} (hq : x.heap[q]? = some (.cells A T fr)) (ht : T ≠ 66) : y.heap[q]? = some (.cells A T fr) :=
  (hK.block q (Array.getElem?_eq_some_iff.1 hq).1 (fun hm => by
    obtain ⟨i, hi, e⟩ := List.mem_map.1 hm
    have h1 := hd.items i hi
    rw [show i.b = q from e] at h1
    have h2 : x.heap[q]? = some (.cells (imC i.e i.v).toArray 66 (0, 0)) := h1
    rw [hq] at h2
    simp at h2
    exact ht h2.2.1)).trans hq
theorem kp_dct {D R D2 R2 : Nat} {its its2 : List Im} {x y : World} (hd : Dct D R its x) (h2 : Dct D2 R2 its2 x) (hK : Kp (its.map Im.b) x y) (dis : ∀ b ∈ its2.map Im.b, b ∉ its.map Im.b) : Dct D2 R2 its2 y :=
  ⟨kp_other hd hK h2.head (by decide), kp_other hd hK h2.row (by decide), fun i hi => (hK.block i.b (h2.items i hi).lt (dis i.b (List.mem_map.2 ⟨i, hi, rfl⟩))).trans (h2.items i hi), h2.apart, h2.sorted, h2.len⟩
theorem kp_own {D R : Nat} {its : List Im} {x y : World} {B T c n : Nat} {v : Value} {xs : List Value} (h : x.ownsRow B T c v n xs) (hd : Dct D R its x) (hK : Kp (its.map Im.b) x y) (ht : T ≠ 66) : y.ownsRow B T c v n xs := by
  refine ⟨h.1, h.2.imp id ?_⟩
  rintro ⟨g, cap, cur, e1, e2, e3, e4⟩
  exact ⟨g, cap, cur, e1, e2, kp_other hd hK e3 ht, e4⟩
/-- A block of another type than the row's. -/
theorem row_other {x y : World} {r : Option Nat} (G : x.grownBy y r) {U : Nat} (hr : ∀ b, r = some b → ∃ cur, x.heap[b]? = some (.cells cur U (0, 0))) {q T : Nat} {A : Array Value} {fr : Nat × Nat} (hq : x.heap[q]? = some (.cells A T fr)) (ht : T ≠ U) : y.heap[q]? = some (.cells A T fr) :=
  (G.block q (Array.getElem?_eq_some_iff.1 hq).1 (fun e => by
    obtain ⟨cur, h1⟩ := hr q e.symm
    rw [hq] at h1
    simp at h1
    exact ht h1.2.1)).trans hq
theorem row_dct {x y : World} {r : Option Nat} (G : x.grownBy y r) {U : Nat} (hr : ∀ b, r = some b → ∃ cur, x.heap[b]? = some (.cells cur U (0, 0))) (h1 : U ≠ 69) (h2 : U ≠ 57) (h3 : U ≠ 66) {D R : Nat} {its : List Im} (h : Dct D R its x) : Dct D R its y :=
  ⟨row_other G hr h.head h1.symm, row_other G hr h.row h2.symm, fun i hi => row_other G hr (show x.heap[i.b]? = _ from h.items i hi) h3.symm, h.apart, h.sorted, h.len⟩
/-- Two dictionaries. -/
structure Se (w : World) (X D R E D2 R2 : Nat) (its its2 : List Im) (x : World) : Prop where
  d1 : Dct D R its x
  d2 : Dct D2 R2 its2 x
  pair : x.heap[X]? = some (.cells #[.pointer (some ⟨D, 0, none⟩), .pointer (some ⟨E, 0, none⟩)] 36 (0, 0))
  below : Below w.heap.size w x
  b1 : ∀ b ∈ its.map Im.b, w.heap.size ≤ b
  b2 : ∀ b ∈ its2.map Im.b, w.heap.size ≤ b
  dis : ∀ b ∈ its.map Im.b, b ∉ its2.map Im.b
  tw : Tw its its2
section
variable {w : World} {X D R E D2 R2 : Nat} {its its2 : List Im} {x y : World}
theorem Se.next (h : Se w X D R E D2 R2 its its2 x) (hb : Below x.heap.size x y) : Se w X D R E D2 R2 its its2 y :=
  ⟨h.d1.below hb, h.d2.below hb, (hb.block X (Array.getElem?_eq_some_iff.1 h.pair).1).trans h.pair, h.below.trans (hb.mono h.below.size), h.b1, h.b2, h.dis, h.tw⟩
theorem Se.cX (h : Se w X D R E D2 R2 its its2 x) : x.cell? ⟨X, 0, none⟩ = some (.pointer (some ⟨D, 0, none⟩)) := Lib.cell_of_heap h.pair 0
theorem Se.row8 (h : Se w X D R E D2 R2 its its2 x) {r : Option Nat} (G : x.grownBy y r) (hr : ∀ b, r = some b → w.heap.size ≤ b ∧ ∃ cur, x.heap[b]? = some (.cells cur 5 (0, 0))) : Se w X D R E D2 R2 its its2 y :=
  have hr2 : ∀ b, r = some b → ∃ cur, x.heap[b]? = some (.cells cur 5 (0, 0)) := fun b hb => (hr b hb).2
  ⟨row_dct G hr2 (by decide) (by decide) (by decide) h.d1, row_dct G hr2 (by decide) (by decide) (by decide) h.d2, row_other G hr2 h.pair (by decide), h.below.grown G h.below.size (fun j hj => (hr j hj).1), h.b1, h.b2, h.dis, h.tw⟩
/-- Both are written. -/
theorem Se.both {z : World} (h : Se w X D R E D2 R2 its its2 x) (ix sb : Nat) (l : List UInt8) (hd : Dct D R (wrt its ix sb l) y) (hK : Kp (its.map Im.b) x y) {y' : World} (hy : Dct D2 R2 its2 y') (hd1 : Dct D R (wrt its ix sb l) y') (hp : y'.heap[X]? = some (.cells #[.pointer (some ⟨D, 0, none⟩), .pointer (some ⟨E, 0, none⟩)] 36 (0, 0))) (hB : Below w.heap.size w y')
    (hd2 : Dct D2 R2 (wrt its2 ix sb l) z) (hK2 : Kp (its2.map Im.b) y' z) : Se w X D R E D2 R2 (wrt its ix sb l) (wrt its2 ix sb l) z := by
  have a1 := (((⟨rfl, rfl⟩ : Al (its.map Im.e) (its.map Im.b) its)).wrt ix sb l).b
  have a2 := (((⟨rfl, rfl⟩ : Al (its2.map Im.e) (its2.map Im.b) its2)).wrt ix sb l).b
  refine ⟨kp_dct hy hd1 hK2 (by rw [a1]; exact h.dis), hd2, kp_other hy hK2 hp (by decide), hK2.below hB hB.size h.b2, by rw [a1]; exact h.b1, by rw [a2]; exact h.b2, by rw [a1, a2]; exact h.dis, h.tw.wrt h.d1.apart h.d2.apart h.d1.sorted h.d2.sorted ix sb l⟩
end
theorem acC_one (a : A8) (h : a.bv.oneCell' = true) : ∀ u ∈ acC a, u.oneCell' = true := by
  intro u hu
  simp [acC] at hu
  rcases hu with rfl | rfl | rfl | rfl | rfl | rfl | rfl | rfl <;> first | rfl | exact h
section
variable {w : World} {ops : Array Oper} {rest : List Oper} {p : Oper} {a : Act} {Q : Exit → Act → World → Prop} {b o : Nat}
end
end Go.Proofs.YtjlbahgjjdfaeaaGreat
namespace Go.Proofs.YtjlbahgjjdfaeaaGreat
open Go.RowKit Go.Proofs.Ty Go.Sort Go.Lib
set_option linter.unusedVariables false
set_option maxRecDepth 1000000
set_option linter.unusedSimpArgs false
theorem load_int8 (x : World) (D k : Nat) (z : Int) (hc : x.cell? ⟨D, k, none⟩ = some (.int .i64 z)) : (loadVar 3 ⟨D, k, none⟩).run Tryz.prog x = .ok (.int .i64 z) x := by
  simp [go_sem, run_underlying Tryz.underlying3, hc]
theorem wp_mapUpd {o : Oper} {a : Act} {w w' : World} {K : Act → World → Prop} {Q : Exit → Act → World → Prop} (x y z : Operand) (ho : o.op = .mapUpdate 88 x y z) (u v t : Value) (hx : a.eval x = u) (hy : a.eval y = v) (hz : a.eval z = t)
    (hr : (Instr.mapUpdate 88 u v t).run Tryz.prog w = .ok () w') (h : K (a.put o.dst undef) w') : o.wp Tryz.prog a w K Q := by
  unfold Oper.wp execOp
  simp only [ho, hx, hy, hz, Sem.run_bind, Sem.run_pure, Result.andThen_ok, hr]
  exact h
theorem Lst.all {w w1 : World} {D R : Nat} {its : List Im} {v : Value} {ws : List Sw} {mb n : Nat} {m : Nat → Option Vl} {x : World} (h : Lst w w1 D R its v ws mb n m x) : Below w.heap.size w x := h.old.trans (h.below.mono h.old.size)
set_option maxHeartbeats 8000000 in
theorem Load_any {D R : Nat} {its : List Im} {w : World} (h : Dct D R its w) (vb : Value) (l : List UInt8) (hB : Bytes w vb l) (hC : Cp vb) (hl : l.length ≤ 140737488351232) :
    Calls Tryz.prog 14 #[.pointer (some ⟨D, 0, none⟩), vb] w fun e w' => e = .returned (.int .i64 (loadC its l)) ∧ Dct D R (loadI its l) w' ∧ Kp (its.map Im.b) w w' := by
  have hcut := ocut_any vb l w hB hC hl
  obtain ⟨ao0, cp0, rfl⟩ := bytes_shape hB
  have HC : Hid (loadC its l = match cutL (-1) l with
    | none => 8
    | some ss => ldC its ss) := rfl
  have HI : Hid (loadI its l = match cutL (-1) l with
    | none => its
    | some ss => if ldC its ss = 0 then layV its ss else its) := rfl
  generalize loadC its l = LC at *
  generalize loadI its l = LI at *
  have HD := hidOf2 h
  clear hB hC h
  go_enter Tryz.func14, Tryz.ntmps14
  go_wp2_with fail
  refine hcut.mono ?_
  rintro e w1 ⟨b1, hbad, hgood⟩
  have HBA := hidOf2 hbad
  have HGO := hidOf2 hgood
  clear hcut hbad hgood
  cases hc : cutL (-1) l with
  | none =>
    obtain rfl := HBA.out hc
    rw [hc] at HC HI
    have HD1 := hidOf2 (HD.out.below b1)
    clear HBA HGO
    go_wp2
    go_ret
    exact ⟨ret_int (by rw [HC.out]; rfl), by rw [HI.out]; exact HD1.out, Kp.of_below b1⟩
  | some ss =>
    obtain ⟨v, ws, rfl, hws, hW, hR, hlen⟩ := HGO.out ss hc
    subst hws
    rw [hc] at HC HI
    obtain ⟨ao, cp, rfl⟩ := hW.shape
    have HL0 := hidOf2 (Lst.start HD.out b1 hW hR)
    have HD1 := hidOf2 (HD.out.below b1)
    have HW1 := hidOf2 hW
    have HR1 := hidOf2 hR
    have HC2 := hidOf2 (show LC = ldC its (ws.map Sw.s) from HC.out)
    have HI2 := hidOf2 (show LI = if ldC its (ws.map Sw.s) = 0 then layV its (ws.map Sw.s) else its from HI.out)
    have hmk := run_makeMapV
    have HAP := hidOf2 (And.intro HD.out.apart HD.out.sorted)
    clear HBA HGO HC HI hW hR hc b1 HD
    go_upto_region 5 with fail
    obtain ⟨mb, hmb⟩ : ∃ mb, w1.heap.size = mb := ⟨_, rfl⟩
    rw [hmb] at HL0
    try simp only [hmb]
    generalize w1.alloc (.map #[] 0) = w2 at *
    clear hmk
    go_wp2
    go_loopw [24] (fun s24 x => ∃ (k : Nat) (m : Nat → Option Vl), k ≤ ws.length ∧ s24 = .int .i64 k ∧ Hid (Lst w w1 D R its (.slice ao ws.length cp) ws mb k m x) ∧ Hid (ldC its (ws.map Sw.s) = ldC its ((ws.map Sw.s).drop k)) ∧ Hid (layM m its = layV its ((ws.map Sw.s).take k))) (fun s24 _ => ws.length - (intOf s24).toNat)
    case atStart => exact ⟨0, _, Nat.zero_le _, rfl, HL0, rfl, by rw [layM_none]; rfl⟩
    case round =>
      clear HL0
      obtain ⟨k, m, hk, rfl, HL, HA, HM⟩ := hrel
      by_cases hkl : k < ws.length
      · obtain ⟨sb, so, cp', hv, hsb, hRg⟩ := HL.out.wide.at0 k hkl
        injection hv with hv1 _ hv3
        subst hv1
        subst hv3
        have HA2 := hidOf2 (HA.out.trans (ldC_step (its := its) (ss := ws.map Sw.s) (k := k) (by simpa using hkl)))
        have HLY := hidOf2 (layV_step (its := its) (ss := ws.map Sw.s) (k := k) (by simpa using hkl))
        have HRW := hidOf2 (HR1.out ws[k] (List.getElem_mem hkl))
        have HBW := hidOf2 (HL.out.raws ws[k] (List.getElem_mem hkl))
        rw [List.getElem_map] at HA2 HLY
        generalize ws[k] = S at *
        obtain ⟨q, hq⟩ : ∃ q, wr.heap.size = q := ⟨_, rfl⟩
        have g0 : Sb q Sw.nul (wr.alloc (.cells #[.int .u16 0, .int .u8 0, .slice none 0 0] 90)) := hq ▸ Sb.new wr Sw.nul
        have b3 : Below wr.heap.size wr ((wr.alloc (.cells #[.int .u16 0, .int .u8 0, .slice none 0 0] 90)).setRow q S.arr) := below_row ((Below.refl _ _).alloc (Nat.le_refl _) _) (by omega) (by rw [size_alloc]; omega) _
        have g1 := g0.row S
        have HL3 := hidOf2 (HL.out.next b3)
        have HB3 := hidOf2 (HBW.out.below b3)
        clear HL HBW b3 hsb
        go_upto_region 8 with (first | (refine ldS hRg rfl _ rfl rfl ?_) | (refine g0.sd S rfl _ _ rfl rfl rfl ?_))
        try simp only [hq]
        generalize ((wr.alloc (.cells #[.int .u16 0, .int .u8 0, .slice none 0 0] 90)).setRow q S.arr) = w3 at *
        clear g0 hRg
        obtain ⟨c0, c1, c2⟩ := g1.c
        cases hf : fnd its S.s.ix S.s.sb with
        | none =>
          rw [hf] at HA2
          have hF := find_none HL3.out.dct S.s.ix S.s.sb S.s.hix S.s.hsb hf
          have d1 : ((noc its S.s.ix : Int) != 0) = true := by have := noc_ne its S.s.ix; simp; omega
          have E1 := hidOf2 (show LC = 4 by rw [HC2.out, HA2.out])
          have E2 := hidOf2 (show LI = its by rw [HI2.out, if_neg (by rw [HA2.out]; simp)])
          generalize noc its S.s.ix = N at *
          clear hf HA HM HA2 HLY HB3
          go_wp2_with fail
          refine hF.mono ?_
          rintro e w4 ⟨rfl, b4⟩
          have HL4 := hidOf2 (HL3.out.next b4)
          clear hF HL3
          go_wp2
          go_ret
          exact ⟨ret_int (by rw [E1.out]; rfl), by rw [E2.out]; exact HL4.out.dct, Kp.of_below HL4.out.all⟩
        | some i =>
          rw [hf] at HA2
          have hF := find_some HL3.out.dct S.s.ix S.s.sb S.s.hix S.s.hsb hf
          have hi := fnd_mem hf
          have HM3 := hidOf2 (layM_put HAP.out.1 HAP.out.2 m S.s hf)
          unfold ptrI at hF
          clear hf
          go_wp2_with fail
          refine hF.mono ?_
          rintro e w5 ⟨rfl, b5⟩
          have HL5 := hidOf2 (HL3.out.next b5)
          have HB5 := hidOf2 (HB3.out.below b5)
          have g5 := g1.below b5
          obtain ⟨_, _, k2, _, _, _⟩ := (HL5.out.dct.items i hi).c
          clear hF HL3 HB3 g1 c0 c1 c2 b5
          by_cases ha : i.e.ac = 2
          · rw [ha] at k2
            have HA3 := hidOf2 (HA2.out.trans (if_neg (by simpa using ha)))
            clear HA2
            have HSS : Hid (∀ x, Below w5.heap.size w5 x → x.cell? ⟨i.b, 11, none⟩ = some (.int .i64 i.e.df.t) ∧ x.cell? ⟨q, 2, none⟩ = some (.slice S.ao S.s.raw.length S.cp)) := fun x hb => ⟨((HL5.out.next hb).dct.items i hi).c.2.2.2.2.2, (g5.below hb).c.2.2⟩
            have hDec : Hid (∀ x, Below w5.heap.size w5 x → Calls Tryz.prog 32 #[.int .i64 i.e.df.t, .slice S.ao S.s.raw.length S.cp] x fun e w' => e = .returned (.tuple #[.agg (decW i.e.df.t S.s.raw).arr, .int .i64 (decE i.e.df.t S.s.raw)]) ∧ Below x.heap.size x w') := fun x hb => Decode_v i.e.df.t i.e.df.ht (.slice S.ao S.s.raw.length S.cp) S.s.raw x (HB5.out.below hb)
            obtain ⟨dE, hdE⟩ : ∃ d, decE i.e.df.t S.s.raw = d := ⟨_, rfl⟩
            obtain ⟨dV, hdV⟩ : ∃ d, decW i.e.df.t S.s.raw = d := ⟨_, rfl⟩
            rw [hdE] at HA3 hDec
            rw [hdV] at hDec HM3
            clear hdE hdV HB5
            have c0 : Below w5.heap.size w5 w5.drew := bdr (Below.refl _ _) 1
            have S0 := HSS.out _ c0
            go_upto_region 11 with fail
            refine wp_region_held (S := fun x => x.cell? ⟨i.b, 11, none⟩ = some (.int .i64 i.e.df.t) ∧ x.cell? ⟨q, 2, none⟩ = some (.slice S.ao S.s.raw.length S.cp)) (by kernel_rfl) ?_
            change wpAnyH _ _ _ _ _ _ _ _ w5.drew
            refine wpAnyH_take (i := 0) (v := (.pointer (some ⟨i.b, 0, none⟩))) rfl (by kernel_rfl) (by kernel_rfl) (by kernel_rfl) (fun _ _ _ h => h) (.inl ⟨rfl, fun _ hS => rfl⟩) S0 ?_
            simp only [List.getElem_toArray, List.getElem_cons_succ, List.getElem_cons_zero, Act.put, List.setIfInBounds_toArray, List.set_cons_succ, List.set_cons_zero]
            refine wpAnyH_take (i := 1) (v := (.pointer (some ⟨i.b, 0, none⟩))) rfl (by kernel_rfl) (by kernel_rfl) (by kernel_rfl) (fun _ _ _ h => h) (.inl ⟨rfl, fun _ hS => by simp [execOp, go_sem, Act.eval]⟩) S0 ?_
            simp only [List.getElem_toArray, List.getElem_cons_succ, List.getElem_cons_zero, Act.put, List.setIfInBounds_toArray, List.set_cons_succ, List.set_cons_zero]
            refine wpAnyH_take (i := 2) (v := (.pointer (some ⟨i.b, 0, none⟩))) rfl (by kernel_rfl) (by kernel_rfl) (by kernel_rfl) (fun _ _ _ h => h) (.inl ⟨rfl, fun _ hS => by simp [execOp, go_sem, Act.eval]⟩) S0 ?_
            simp only [List.getElem_toArray, List.getElem_cons_succ, List.getElem_cons_zero, Act.put, List.setIfInBounds_toArray, List.set_cons_succ, List.set_cons_zero]
            refine wpAnyH_take (i := 3) (v := (.pointer (some ⟨i.b, 11, none⟩))) rfl (by kernel_rfl) (by kernel_rfl) (by kernel_rfl) (fun _ _ _ h => h) (.inl ⟨rfl, fun _ hS => by simp [execOp, go_sem, Act.eval]⟩) S0 ?_
            simp only [List.getElem_toArray, List.getElem_cons_succ, List.getElem_cons_zero, Act.put, List.setIfInBounds_toArray, List.set_cons_succ, List.set_cons_zero]
            refine wpAnyH_take (i := 4) (v := (.pointer (some ⟨i.b, 11, none⟩))) rfl (by kernel_rfl) (by kernel_rfl) (by kernel_rfl) (fun _ _ _ h => h) (.inl ⟨rfl, fun _ hS => by simp [execOp, go_sem, Act.eval]⟩) S0 ?_
            simp only [List.getElem_toArray, List.getElem_cons_succ, List.getElem_cons_zero, Act.put, List.setIfInBounds_toArray, List.set_cons_succ, List.set_cons_zero]
            refine wpAnyH_take (i := 5) (v := (.int .i64 i.e.df.t)) rfl (by kernel_rfl) (by kernel_rfl) (by kernel_rfl) (fun _ _ _ h => h) (.inl ⟨rfl, fun _ hS => exec_load rfl rfl (load_int8 _ _ _ _ hS.1)⟩) S0 ?_
            simp only [List.getElem_toArray, List.getElem_cons_succ, List.getElem_cons_zero, Act.put, List.setIfInBounds_toArray, List.set_cons_succ, List.set_cons_zero]
            refine wpAnyH_take (i := 6) (v := (.pointer (some ⟨q, 2, none⟩))) rfl (by kernel_rfl) (by kernel_rfl) (by kernel_rfl) (fun _ _ _ h => h) (.inl ⟨rfl, fun _ hS => by simp [execOp, go_sem, Act.eval]⟩) S0 ?_
            simp only [List.getElem_toArray, List.getElem_cons_succ, List.getElem_cons_zero, Act.put, List.setIfInBounds_toArray, List.set_cons_succ, List.set_cons_zero]
            refine wpAnyH_take (i := 7) (v := (.slice S.ao S.s.raw.length S.cp)) rfl (by kernel_rfl) (by kernel_rfl) (by kernel_rfl) (fun _ _ _ h => h) (.inl ⟨rfl, fun _ hS => exec_load rfl rfl (load_bytes _ _ _ _ _ _ hS.2)⟩) S0 ?_
            simp only [List.getElem_toArray, List.getElem_cons_succ, List.getElem_cons_zero, Act.put, List.setIfInBounds_toArray, List.set_cons_succ, List.set_cons_zero]
            refine wpAnyH_all (rs := [8, 12]) (by kernel_rfl) (by simp) ?_
            intro k hk
            simp only [List.mem_cons, List.mem_nil_iff, or_false] at hk
            rcases hk with rfl | rfl
            · refine wpOp_run rfl rfl (wp_call_fn 32 #[.int .i64 i.e.df.t, .slice S.ao S.s.raw.length S.cp] (by simp [execOp, go_sem, Act.eval, resolve, invoke, enterDc]) ?_)
              refine (hDec.out w5.drew c0).mono ?_
              rintro e u1 ⟨rfl, b1⟩
              have c1 := c0.trans (b1.mono c0.size)
              have s1 := HSS.out _ c1
              refine ⟨s1, ?_⟩
              simp only [List.getElem_toArray, List.getElem_cons_succ, List.getElem_cons_zero, Act.put, List.setIfInBounds_toArray, List.set_cons_succ, List.set_cons_zero]
              refine wpAnyH_take (i := 9) (v := (.tuple #[.agg dV.arr, .int .i64 (dE : Int)])) rfl (by kernel_rfl) (by kernel_rfl) (by kernel_rfl) (fun _ _ _ h => h) (.inl ⟨rfl, fun _ hS => rfl⟩) s1 ?_
              simp only [List.getElem_toArray, List.getElem_cons_succ, List.getElem_cons_zero, Act.put, List.setIfInBounds_toArray, List.set_cons_succ, List.set_cons_zero]
              refine wpAnyH_take (i := 10) (v := (.agg dV.arr)) rfl (by kernel_rfl) (by kernel_rfl) (by kernel_rfl) (fun _ _ _ h => h) (.inl ⟨rfl, fun _ hS => by simp [execOp, go_sem, Act.eval]⟩) s1 ?_
              simp only [List.getElem_toArray, List.getElem_cons_succ, List.getElem_cons_zero, Act.put, List.setIfInBounds_toArray, List.set_cons_succ, List.set_cons_zero]
              refine wpAnyH_take (i := 11) (v := (.int .i64 (dE : Int))) rfl (by kernel_rfl) (by kernel_rfl) (by kernel_rfl) (fun _ _ _ h => h) (.inl ⟨rfl, fun _ hS => by simp [execOp, go_sem, Act.eval]⟩) s1 ?_
              simp only [List.getElem_toArray, List.getElem_cons_succ, List.getElem_cons_zero, Act.put, List.setIfInBounds_toArray, List.set_cons_succ, List.set_cons_zero]
              refine wpAnyH_all (rs := [12]) (by kernel_rfl) (by simp) ?_
              intro k hk
              simp only [List.mem_cons, List.mem_nil_iff, or_false] at hk
              subst hk
              refine wpOp_run rfl rfl (wp_allocV rfl ?_)
              obtain ⟨q2, hqv⟩ : ∃ q, u1.heap.size = q := ⟨_, rfl⟩
              have g2 := Va.new u1 Vl.nul
              have c2 := c1.alloc c1.size (.cells Vl.nul.arr 60)
              have s2 := HSS.out _ c2
              have hqr : w5.heap.size ≤ q2 := by rw [← hqv]; exact c1.size
              rw [hqv] at g2 ⊢
              generalize u1.alloc (.cells Vl.nul.arr 60) = u2 at *
              refine ⟨s2, ?_⟩
              simp only [List.getElem_toArray, List.getElem_cons_succ, List.getElem_cons_zero, Act.put, List.setIfInBounds_toArray, List.set_cons_succ, List.set_cons_zero]
              refine wpAnyH_all (rs := [13]) (by kernel_rfl) (by simp) ?_
              intro k hk
              simp only [List.mem_cons, List.mem_nil_iff, or_false] at hk
              subst hk
              refine wpOp_run rfl rfl (wp_store_row 60 _ _ rfl q2 (dV).arr rfl rfl 60 Vl.nul.arr g2 (by rw [Vl.arr_size]; exact infoV) (by rw [Vl.arr_size, Vl.arr_size]) (dV).one ?_)
              have gZ := g2.row (dV)
              have cZ := below_row c2 hqr c2.size (q := q2) (dV).arr
              have sZ := HSS.out _ cZ
              refine ⟨sZ, ?_⟩
              simp only [List.getElem_toArray, List.getElem_cons_succ, List.getElem_cons_zero, Act.put, List.setIfInBounds_toArray, List.set_cons_succ, List.set_cons_zero]
              refine wpAnyH_take (i := 14) (v := (.int .i64 (dE : Int))) rfl (by kernel_rfl) (by kernel_rfl) (by kernel_rfl) (fun _ _ _ h => h) (.inl ⟨rfl, fun _ hS => rfl⟩) sZ ?_
              simp only [List.getElem_toArray, List.getElem_cons_succ, List.getElem_cons_zero, Act.put, List.setIfInBounds_toArray, List.set_cons_succ, List.set_cons_zero]
              refine wpAnyH_done (by kernel_rfl) ?_ _
              have GZ := hidOf2 gZ
              have CZ := hidOf2 cZ
              clear s1 s2 sZ gZ cZ S0 HSS hDec c0
              generalize u2.setRow q2 dV.arr = w6 at *
              have HL6 := hidOf2 (HL5.out.next CZ.out)
              have HI6 := hidOf2 (HL6.out.dct.items i hi)
              have HQM := hidOf2 (show q2 ≠ mb from fun e => by have := hqr; have := HL5.out.map.lt; omega)
              clear CZ HL5
              by_cases hd : dE = 0
              · subst hd
                have E1 := hidOf2 (show ldC its (ws.map Sw.s) = ldC its ((ws.map Sw.s).drop (k + 1)) from HA3.out.trans (if_neg (by simp)))
                have E2 := hidOf2 (show layM (fun j => if j = i.e.pl then some dV else m j) its = layV its ((ws.map Sw.s).take (k + 1)) by rw [HM3.out, HLY.out, HM.out])
                go_upto_region 14 with fail
                have S14 : Va q2 dV w6.drew := GZ.out
                refine wp_region_held (S := fun x => Va q2 dV x) (by kernel_rfl) ?_
                change wpAnyH _ _ _ _ _ _ _ _ w6.drew
                refine wpAnyH_take (i := 0) (v := (.map (some mb))) rfl (by kernel_rfl) (by kernel_rfl) (by kernel_rfl) (fun _ _ _ h => h) (.inl ⟨rfl, fun _ hS => rfl⟩) S14 ?_
                simp only [List.getElem_toArray, List.getElem_cons_succ, List.getElem_cons_zero, Act.put, List.setIfInBounds_toArray, List.set_cons_succ, List.set_cons_zero]
                refine wpAnyH_take (i := 1) (v := (.pointer (some ⟨i.b, 0, none⟩))) rfl (by kernel_rfl) (by kernel_rfl) (by kernel_rfl) (fun _ _ _ h => h) (.inl ⟨rfl, fun _ hS => rfl⟩) S14 ?_
                simp only [List.getElem_toArray, List.getElem_cons_succ, List.getElem_cons_zero, Act.put, List.setIfInBounds_toArray, List.set_cons_succ, List.set_cons_zero]
                refine wpAnyH_take (i := 3) (v := (.agg dV.arr)) rfl (by kernel_rfl) (by kernel_rfl) (by kernel_rfl) (fun _ _ _ h => h) (.inl ⟨rfl, fun _ hS => exec_load rfl rfl hS.load⟩) S14 ?_
                simp only [List.getElem_toArray, List.getElem_cons_succ, List.getElem_cons_zero, Act.put, List.setIfInBounds_toArray, List.set_cons_succ, List.set_cons_zero]
                refine wpAnyH_all (rs := [2]) (by kernel_rfl) (by simp) ?_
                intro k hk
                simp only [List.mem_cons, List.mem_nil_iff, or_false] at hk
                subst hk
                refine wpOp_run rfl rfl (wp_call_fn 33 #[.pointer (some ⟨i.b, 0, none⟩)] (by simp [execOp, go_sem, Act.eval, resolve, invoke, enterIp]) ?_)
                refine (iplace_any (show Ib i.b i.e i.v w6.drew from HI6.out)).mono ?_
                rintro e u1 ⟨rfl, nd, rfl⟩
                have L7 : Lst w w1 D R its _ ws mb k m (w6.drew.drewN nd) := HL6.out.next (bdr (bdr (Below.refl _ w6) 1) nd)
                have g7 : Va q2 dV (w6.drew.drewN nd) := GZ.out
                generalize w6.drew.drewN nd = w7 at *
                refine ⟨g7, ?_⟩
                simp only [List.getElem_toArray, List.getElem_cons_succ, List.getElem_cons_zero, Act.put, List.setIfInBounds_toArray, List.set_cons_succ, List.set_cons_zero]
                refine wpAnyH_all (rs := [4]) (by kernel_rfl) (by simp) ?_
                intro k hk
                simp only [List.mem_cons, List.mem_nil_iff, or_false] at hk
                subst hk
                obtain ⟨w8, hr8, hp8, ht8⟩ := L7.map.put i.e.pl i.e.pl_lt dV (by omega)
                refine wpOp_run rfl rfl (wp_mapUpd _ _ _ rfl _ _ _ rfl rfl rfl hr8 ?_)
                have L8 := L7.put HD1.out HW1.out HR1.out hp8 ht8
                have g8 : Va q2 dV w8 := (ht8.grown.block q2 g7.lt (fun e => HQM.out (by injection e))).trans g7
                refine ⟨g8, ?_⟩
                simp only [List.getElem_toArray, List.getElem_cons_succ, List.getElem_cons_zero, Act.put, List.setIfInBounds_toArray, List.set_cons_succ, List.set_cons_zero]
                refine wpAnyH_done (by kernel_rfl) ?_ _
                have HL8 := hidOf2 L8
                clear L7 L8 g7 g8 hr8 hp8 ht8 HL6 HI6 GZ
                go_wp2
                go_roundw
                case rel => exact ⟨k + 1, _, by omega, by go_num, HL8, E1, E2⟩
                case measure => simp [intOf]; omega
              · have E1 := hidOf2 (show LC = 8 by rw [HC2.out, HA3.out, if_pos hd])
                have E2 := hidOf2 (show LI = its by rw [HI2.out, if_neg (by rw [HA3.out, if_pos hd]; decide)])
                have de : ((dE : Int) != 0) = true := by simpa using hd
                go_wp2
                go_ret
                exact ⟨ret_int (by rw [E1.out]; rfl), by rw [E2.out]; exact HL6.out.dct, Kp.of_below (HL6.out.all)⟩
            · refine wpOp_run rfl rfl (wp_allocV rfl ?_)
              obtain ⟨q2, hqv⟩ : ∃ q, w5.drew.heap.size = q := ⟨_, rfl⟩
              have g1 := Va.new w5.drew Vl.nul
              have c1 := c0.alloc c0.size (.cells Vl.nul.arr 60)
              have s1 := HSS.out _ c1
              have hqr : w5.heap.size ≤ q2 := by rw [← hqv]; exact c0.size
              rw [hqv] at g1 ⊢
              generalize w5.drew.alloc (.cells Vl.nul.arr 60) = u1 at *
              refine ⟨s1, ?_⟩
              simp only [List.getElem_toArray, List.getElem_cons_succ, List.getElem_cons_zero, Act.put, List.setIfInBounds_toArray, List.set_cons_succ, List.set_cons_zero]
              refine wpAnyH_all (rs := [8]) (by kernel_rfl) (by simp) ?_
              intro k hk
              simp only [List.mem_cons, List.mem_nil_iff, or_false] at hk
              subst hk
              refine wpOp_run rfl rfl (wp_call_fn 32 #[.int .i64 i.e.df.t, .slice S.ao S.s.raw.length S.cp] (by simp [execOp, go_sem, Act.eval, resolve, invoke, enterDc]) ?_)
              refine (hDec.out u1 c1).mono ?_
              rintro e u2 ⟨rfl, b2⟩
              have c2 := c1.trans (b2.mono c1.size)
              have s2 := HSS.out _ c2
              have g2 := g1.below b2
              refine ⟨s2, ?_⟩
              simp only [List.getElem_toArray, List.getElem_cons_succ, List.getElem_cons_zero, Act.put, List.setIfInBounds_toArray, List.set_cons_succ, List.set_cons_zero]
              refine wpAnyH_take (i := 9) (v := (.tuple #[.agg dV.arr, .int .i64 (dE : Int)])) rfl (by kernel_rfl) (by kernel_rfl) (by kernel_rfl) (fun _ _ _ h => h) (.inl ⟨rfl, fun _ hS => rfl⟩) s2 ?_
              simp only [List.getElem_toArray, List.getElem_cons_succ, List.getElem_cons_zero, Act.put, List.setIfInBounds_toArray, List.set_cons_succ, List.set_cons_zero]
              refine wpAnyH_take (i := 10) (v := (.agg dV.arr)) rfl (by kernel_rfl) (by kernel_rfl) (by kernel_rfl) (fun _ _ _ h => h) (.inl ⟨rfl, fun _ hS => by simp [execOp, go_sem, Act.eval]⟩) s2 ?_
              simp only [List.getElem_toArray, List.getElem_cons_succ, List.getElem_cons_zero, Act.put, List.setIfInBounds_toArray, List.set_cons_succ, List.set_cons_zero]
              refine wpAnyH_take (i := 11) (v := (.int .i64 (dE : Int))) rfl (by kernel_rfl) (by kernel_rfl) (by kernel_rfl) (fun _ _ _ h => h) (.inl ⟨rfl, fun _ hS => by simp [execOp, go_sem, Act.eval]⟩) s2 ?_
              simp only [List.getElem_toArray, List.getElem_cons_succ, List.getElem_cons_zero, Act.put, List.setIfInBounds_toArray, List.set_cons_succ, List.set_cons_zero]
              refine wpAnyH_all (rs := [13]) (by kernel_rfl) (by simp) ?_
              intro k hk
              simp only [List.mem_cons, List.mem_nil_iff, or_false] at hk
              subst hk
              refine wpOp_run rfl rfl (wp_store_row 60 _ _ rfl q2 (dV).arr rfl rfl 60 Vl.nul.arr g2 (by rw [Vl.arr_size]; exact infoV) (by rw [Vl.arr_size, Vl.arr_size]) (dV).one ?_)
              have gZ := g2.row (dV)
              have cZ := below_row c2 hqr c2.size (q := q2) (dV).arr
              have sZ := HSS.out _ cZ
              refine ⟨sZ, ?_⟩
              simp only [List.getElem_toArray, List.getElem_cons_succ, List.getElem_cons_zero, Act.put, List.setIfInBounds_toArray, List.set_cons_succ, List.set_cons_zero]
              refine wpAnyH_take (i := 14) (v := (.int .i64 (dE : Int))) rfl (by kernel_rfl) (by kernel_rfl) (by kernel_rfl) (fun _ _ _ h => h) (.inl ⟨rfl, fun _ hS => rfl⟩) sZ ?_
              simp only [List.getElem_toArray, List.getElem_cons_succ, List.getElem_cons_zero, Act.put, List.setIfInBounds_toArray, List.set_cons_succ, List.set_cons_zero]
              refine wpAnyH_done (by kernel_rfl) ?_ _
              have GZ := hidOf2 gZ
              have CZ := hidOf2 cZ
              clear s1 s2 sZ gZ cZ S0 HSS hDec c0
              generalize u2.setRow q2 dV.arr = w6 at *
              have HL6 := hidOf2 (HL5.out.next CZ.out)
              have HI6 := hidOf2 (HL6.out.dct.items i hi)
              have HQM := hidOf2 (show q2 ≠ mb from fun e => by have := hqr; have := HL5.out.map.lt; omega)
              clear CZ HL5
              by_cases hd : dE = 0
              · subst hd
                have E1 := hidOf2 (show ldC its (ws.map Sw.s) = ldC its ((ws.map Sw.s).drop (k + 1)) from HA3.out.trans (if_neg (by simp)))
                have E2 := hidOf2 (show layM (fun j => if j = i.e.pl then some dV else m j) its = layV its ((ws.map Sw.s).take (k + 1)) by rw [HM3.out, HLY.out, HM.out])
                go_upto_region 14 with fail
                have S14 : Va q2 dV w6.drew := GZ.out
                refine wp_region_held (S := fun x => Va q2 dV x) (by kernel_rfl) ?_
                change wpAnyH _ _ _ _ _ _ _ _ w6.drew
                refine wpAnyH_take (i := 0) (v := (.map (some mb))) rfl (by kernel_rfl) (by kernel_rfl) (by kernel_rfl) (fun _ _ _ h => h) (.inl ⟨rfl, fun _ hS => rfl⟩) S14 ?_
                simp only [List.getElem_toArray, List.getElem_cons_succ, List.getElem_cons_zero, Act.put, List.setIfInBounds_toArray, List.set_cons_succ, List.set_cons_zero]
                refine wpAnyH_take (i := 1) (v := (.pointer (some ⟨i.b, 0, none⟩))) rfl (by kernel_rfl) (by kernel_rfl) (by kernel_rfl) (fun _ _ _ h => h) (.inl ⟨rfl, fun _ hS => rfl⟩) S14 ?_
                simp only [List.getElem_toArray, List.getElem_cons_succ, List.getElem_cons_zero, Act.put, List.setIfInBounds_toArray, List.set_cons_succ, List.set_cons_zero]
                refine wpAnyH_take (i := 3) (v := (.agg dV.arr)) rfl (by kernel_rfl) (by kernel_rfl) (by kernel_rfl) (fun _ _ _ h => h) (.inl ⟨rfl, fun _ hS => exec_load rfl rfl hS.load⟩) S14 ?_
                simp only [List.getElem_toArray, List.getElem_cons_succ, List.getElem_cons_zero, Act.put, List.setIfInBounds_toArray, List.set_cons_succ, List.set_cons_zero]
                refine wpAnyH_all (rs := [2]) (by kernel_rfl) (by simp) ?_
                intro k hk
                simp only [List.mem_cons, List.mem_nil_iff, or_false] at hk
                subst hk
                refine wpOp_run rfl rfl (wp_call_fn 33 #[.pointer (some ⟨i.b, 0, none⟩)] (by simp [execOp, go_sem, Act.eval, resolve, invoke, enterIp]) ?_)
                refine (iplace_any (show Ib i.b i.e i.v w6.drew from HI6.out)).mono ?_
                rintro e u1 ⟨rfl, nd, rfl⟩
                have L7 : Lst w w1 D R its _ ws mb k m (w6.drew.drewN nd) := HL6.out.next (bdr (bdr (Below.refl _ w6) 1) nd)
                have g7 : Va q2 dV (w6.drew.drewN nd) := GZ.out
                generalize w6.drew.drewN nd = w7 at *
                refine ⟨g7, ?_⟩
                simp only [List.getElem_toArray, List.getElem_cons_succ, List.getElem_cons_zero, Act.put, List.setIfInBounds_toArray, List.set_cons_succ, List.set_cons_zero]
                refine wpAnyH_all (rs := [4]) (by kernel_rfl) (by simp) ?_
                intro k hk
                simp only [List.mem_cons, List.mem_nil_iff, or_false] at hk
                subst hk
                obtain ⟨w8, hr8, hp8, ht8⟩ := L7.map.put i.e.pl i.e.pl_lt dV (by omega)
                refine wpOp_run rfl rfl (wp_mapUpd _ _ _ rfl _ _ _ rfl rfl rfl hr8 ?_)
                have L8 := L7.put HD1.out HW1.out HR1.out hp8 ht8
                have g8 : Va q2 dV w8 := (ht8.grown.block q2 g7.lt (fun e => HQM.out (by injection e))).trans g7
                refine ⟨g8, ?_⟩
                simp only [List.getElem_toArray, List.getElem_cons_succ, List.getElem_cons_zero, Act.put, List.setIfInBounds_toArray, List.set_cons_succ, List.set_cons_zero]
                refine wpAnyH_done (by kernel_rfl) ?_ _
                have HL8 := hidOf2 L8
                clear L7 L8 g7 g8 hr8 hp8 ht8 HL6 HI6 GZ
                go_wp2
                go_roundw
                case rel => exact ⟨k + 1, _, by omega, by go_num, HL8, E1, E2⟩
                case measure => simp [intOf]; omega
              · have E1 := hidOf2 (show LC = 8 by rw [HC2.out, HA3.out, if_pos hd])
                have E2 := hidOf2 (show LI = its by rw [HI2.out, if_neg (by rw [HA3.out, if_pos hd]; decide)])
                have de : ((dE : Int) != 0) = true := by simpa using hd
                go_wp2
                go_ret
                exact ⟨ret_int (by rw [E1.out]; rfl), by rw [E2.out]; exact HL6.out.dct, Kp.of_below (HL6.out.all)⟩
          · have da : (i.e.ac != 2) = true := by simpa using ha
            have E1 := hidOf2 (show LC = 4 by rw [HC2.out, HA2.out]; exact if_pos (by simpa using ha))
            have E2 := hidOf2 (show LI = its by rw [HI2.out, if_neg (by rw [HA2.out, if_pos (by simpa using ha)]; decide)])
            clear HA HM HA2 HLY HM3
            generalize i.e.ac = A at *
            go_wp2
            go_ret
            exact ⟨ret_int (by rw [E1.out]; rfl), by rw [E2.out]; exact HL5.out.dct, Kp.of_below HL5.out.all⟩
      · have e1 : k = ws.length := by omega
        subst e1
        have E1 := hidOf2 (show LC = 0 by rw [HC2.out, HA.out, List.drop_of_length_le (by simp)]; rfl)
        have E2 := hidOf2 (show LI = layM m its by rw [HI2.out, if_pos (by rw [HA.out, List.drop_of_length_le (by simp)]; rfl), HM.out, List.take_of_length_le (by simp)])
        have hLy := lay_any HL.out.dct HL.out.map
        have HK0 := hidOf2 (Kp.of_below (bs := its.map Im.b) HL.out.all)
        clear HL HA HM HC2 HI2
        go_wp2_with fail
        refine hLy.mono ?_
        rintro e w4 ⟨rfl, D4, K4⟩
        have HD4 := hidOf2 D4
        have HK4 := hidOf2 (HK0.out.trans K4)
        clear hLy D4 K4
        go_wp2
        go_ret
        exact ⟨ret_int (by rw [E1.out]; rfl), by rw [E2.out]; exact HD4.out, HK4.out⟩
end Go.Proofs.YtjlbahgjjdfaeaaGreat
