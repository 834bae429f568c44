/- Plain facts on dictionaries: what stays, whatever is written. -/
import Derived.Test.YthalhidebkhclaaO17
import Derived.Test.YthalhidebkhclaaTy11
import Derived.Test.YthalhidebkhclaaOOp
namespace Go.Proofs.Ythalhidebkhclaa
open Go.RowKit Go.Proofs.Ty Go.Sort Go.Lib
set_option linter.unusedVariables false
set_option maxRecDepth 1000000
set_option linter.unusedSimpArgs false
theorem low_mod (n k : Nat) : lowL n k = lowL (n % 256 ^ k) k := by
  have h := low_join (lowL n k)
  rw [lowL_length, join_low] at h
  exact h.symm
theorem ext_mod (n b z : Nat) (h : (z = 1 ∧ b = 8) ∨ (z = 2 ∧ b = 16) ∨ (z = 4 ∧ b = 32) ∨ (z = 8 ∧ b = 64)) : extN b n % 256 ^ z = n % 256 ^ z := by
  rcases h with ⟨rfl, rfl⟩ | ⟨rfl, rfl⟩ | ⟨rfl, rfl⟩ | ⟨rfl, rfl⟩ <;> unfold extN <;> split <;> omega
/-- What was read is written as it was. -/
theorem dec_enc (t : Int) (ht : -9223372036854775808 ≤ t ∧ t < 9223372036854775808) (l : List UInt8) (h : decE t l = 0) : (decW t l).chk = 0 ∧ (decW t l).enc = l := by
  have hF : fitE t l.length = 0 := by
    by_cases hc : fitE t l.length = 0
    · exact hc
    · unfold decE at h
      rw [if_pos hc] at h
      exact absurd h hc
  obtain ⟨hk, hl, hm⟩ := fit_zero hF
  have hC : chk t (decN t l) (decS t l) = 0 := by
    by_cases hc : chk t (decN t l) (decS t l) = 0
    · exact hc
    · unfold decE at h
      rw [if_neg (by omega), if_pos hc] at h
      omega
  have hz := siz_zero t
  by_cases hs : 0 < siz t
  · have hll := hl hs
    have hN := decN_lt hs hll
    have hk2 : kind t = 1 ∨ kind t = 2 := by omega
    have hS : decS t l = ⟨#[]⟩ := by unfold decS; rw [if_pos hk2]
    have hW : decW t l = ⟨t, decN t l, ⟨#[]⟩, ht, hN, by decide⟩ := by
      unfold decW
      rw [if_pos h, hS]
      exact mkV_eq _ _ _
    rw [hS] at hC
    rw [hW]
    refine ⟨hC, ?_⟩
    show encV t (decN t l) ⟨#[]⟩ = l
    unfold encV encL
    rw [if_pos hC, if_pos hs]
    have e : decN t l % 256 ^ siz t = joinL l % 256 ^ siz t := by
      unfold decN
      rcases hk2 with hk2 | hk2
      · rw [if_pos hk2]
      · rw [if_neg (by omega), if_pos hk2]
        exact ext_mod _ _ _ (sz2 hk2)
    rw [low_mod, e, ← low_mod, ← hll, low_join]
  · have hN : decN t l = 0 := by unfold decN; rw [if_neg (by omega), if_neg (by omega)]
    have hS : decS t l = ⟨l.toArray⟩ := by unfold decS; rw [if_neg (by omega)]
    have hsz : (⟨l.toArray⟩ : ByteArray).size ≤ maxLen := by
      simp only [ByteArray.size, List.size_toArray, maxLen]
      omega
    have hW : decW t l = ⟨t, 0, ⟨l.toArray⟩, ht, by decide, hsz⟩ := by
      unfold decW
      rw [if_pos h, hS, hN]
      exact mkV_eq _ _ _
    rw [hS, hN] at hC
    rw [hW]
    refine ⟨hC, ?_⟩
    show encV t 0 ⟨l.toArray⟩ = l
    unfold encV encL
    rw [if_pos hC, if_neg hs]
theorem dec_t (t : Int) (ht : -9223372036854775808 ≤ t ∧ t < 9223372036854775808) (l : List UInt8) (h : decE t l = 0) : (decW t l).t = t := by
  have hF : fitE t l.length = 0 := by
    by_cases hc : fitE t l.length = 0
    · exact hc
    · unfold decE at h
      rw [if_pos hc] at h
      exact absurd h hc
  obtain ⟨hk, hl, hm⟩ := fit_zero hF
  have hz := siz_zero t
  by_cases hs : 0 < siz t
  · have hll := hl hs
    have hN := decN_lt hs hll
    have hk2 : kind t = 1 ∨ kind t = 2 := by omega
    have hS : decS t l = ⟨#[]⟩ := by unfold decS; rw [if_pos hk2]
    have hW : decW t l = ⟨t, decN t l, ⟨#[]⟩, ht, hN, by decide⟩ := by
      unfold decW
      rw [if_pos h, hS]
      exact mkV_eq _ _ _
    rw [hW]
  · have hN : decN t l = 0 := by unfold decN; rw [if_neg (by omega), if_neg (by omega)]
    have hS : decS t l = ⟨l.toArray⟩ := by unfold decS; rw [if_neg (by omega)]
    have hsz : (⟨l.toArray⟩ : ByteArray).size ≤ maxLen := by
      simp only [ByteArray.size, List.size_toArray, maxLen]
      omega
    have hW : decW t l = ⟨t, 0, ⟨l.toArray⟩, ht, by decide, hsz⟩ := by
      unfold decW
      rw [if_pos h, hS, hN]
      exact mkV_eq _ _ _
    rw [hW]
theorem ord_zero {a b : Vl} (h : ordE a b = 0) : a.chk = 0 ∧ b.chk = 0 ∧ a.t = b.t := by
  unfold ordE at h
  by_cases h1 : a.chk = 0
  · rw [if_neg (by simpa using h1)] at h
    by_cases h2 : b.chk = 0
    · rw [if_neg (by simpa using h2)] at h
      by_cases h3 : a.t = b.t
      · exact ⟨h1, h2, h3⟩
      · rw [if_pos h3] at h; exact absurd h (by decide)
    · rw [if_pos h2] at h; exact absurd h h2
  · rw [if_pos h1] at h; exact absurd h h1
theorem zero_ord {a b : Vl} (h1 : a.chk = 0) (h2 : b.chk = 0) (h3 : a.t = b.t) : ordE a b = 0 := by
  unfold ordE
  rw [if_neg (by simpa using h1), if_neg (by simpa using h2), if_neg (by simpa using h3)]
theorem num_plain {v : Vl} (h : 0 < siz v.t) : v.plain.t = v.t ∧ v.plain.n = v.n := by
  have hz := siz_zero v.t
  have hk : kind v.t = 1 ∨ kind v.t = 2 := by omega
  rw [Vl.plain_num hk]
  exact ⟨rfl, rfl⟩
theorem num_chk {v : Vl} (h : 0 < siz v.t) : v.plain.chk = v.chk := by
  have hz := siz_zero v.t
  have hk : kind v.t = 1 ∨ kind v.t = 2 := by omega
  obtain ⟨h1, h2⟩ := num_plain h
  unfold Vl.chk
  rw [h1, h2]
  unfold Ty.chk
  rcases hk with hk | hk <;> simp [hk]
theorem num_ordE {v u : Vl} (h : 0 < siz v.t) : ordE v.plain u = ordE v u := by
  unfold ordE
  rw [num_chk h, (num_plain h).1]
theorem num_ordN {v u : Vl} (h : 0 < siz v.t) : ordN v.plain u = ordN v u := by
  have hz := siz_zero v.t
  have hk : kind v.t = 1 ∨ kind v.t = 2 := by omega
  obtain ⟨h1, h2⟩ := num_plain h
  unfold ordN
  rw [num_ordE h]
  unfold ordR
  rw [h1, h2]
  rcases hk with hk | hk <;> simp [hk]
/-- What is known of an item while nothing is set or loaded. -/
structure Gd (i : Im) : Prop where
  lim : i.e.li = true → ordE i.e.df i.e.mn = 0 ∧ ordE i.e.df i.e.mx = 0
  val : i.e.li = true → wiB i.e i.v = true ∧ wiC i.e i.v = 0
  con : i.e.ac ≠ 2 → i.e.ac ≠ 1 → i.v = i.e.df
theorem can_zero {e : En} (h : e.can = 0) : e.df.chk = 0 ∧ (e.li = true → 0 < siz e.df.t ∧ e.btw = true) := by
  unfold En.can at h
  by_cases h1 : e.df.chk = 0
  · rw [if_neg (by simpa using h1)] at h
    refine ⟨h1, fun hl => ?_⟩
    split at h
    · exact absurd h (by decide)
    · split at h
      · exact absurd h (by decide)
      · rename_i h3
        exact Decidable.not_not.1 (fun h4 => h3 ⟨hl, h4⟩)
  · rw [if_pos h1] at h; exact absurd h h1
theorem chkG_all {s l : List En} (h : chkG s l = 0) : ∀ e ∈ l, e.can = 0 := by
  induction l generalizing s with
  | nil => intro e he; simp at he
  | cons x r ih =>
    rw [chkG] at h
    split at h
    · rename_i h1; exact absurd h h1
    · rename_i h1
      split at h
      · exact absurd h (by decide)
      · intro e he
        rcases List.mem_cons.1 he with rfl | he
        · exact Decidable.not_not.1 h1
        · exact ih h e he
theorem gd_new {e : En} (h : e.can = 0) (b : Nat) : Gd ⟨b, e.plain, e.plain.df⟩ := by
  obtain ⟨h1, h2⟩ := can_zero h
  have key : e.li = true → (ordE e.plain.df e.mn = 0 ∧ ordE e.plain.df e.mx = 0) ∧ 0 ≤ ordN e.plain.df e.mn ∧ ordN e.plain.df e.mx ≤ 0 := fun hl => by
    obtain ⟨hz, hb⟩ := h2 hl
    show (ordE e.df.plain e.mn = 0 ∧ ordE e.df.plain e.mx = 0) ∧ 0 ≤ ordN e.df.plain e.mn ∧ ordN e.df.plain e.mx ≤ 0
    rw [num_ordE hz, num_ordE hz, num_ordN hz, num_ordN hz]
    unfold En.btw at hb
    simpa [and_assoc] using hb
  refine ⟨fun hl => (key hl).1, fun hl => ?_, fun _ _ => rfl⟩
  obtain ⟨⟨k1, k2⟩, k3, k4⟩ := key hl
  have hB : wiB e.plain e.plain.df = true := by
    show (decide (ordE e.plain.df e.mn = 0) && decide (ordE e.plain.df e.mx = 0)) = true
    rw [k1, k2]; rfl
  refine ⟨hB, ?_⟩
  show wiC e.plain e.plain.df = 0
  unfold wiC
  rw [if_neg (by rw [hB]; simp), if_neg (show ¬ 0 < ordN e.plain.df e.plain.mx from by show ¬ 0 < ordN e.plain.df e.mx; omega), if_neg (show ¬ ordN e.plain.df e.plain.mn < 0 from by show ¬ ordN e.plain.df e.mn < 0; omega)]
theorem gd_write {i : Im} (h : Gd i) (l : List UInt8) (ha : i.e.ac = 1 ∨ i.e.ac = 2) (hE : decE i.e.df.t l = 0) (hb : bey i.e (decW i.e.df.t l) = 0) : Gd ⟨i.b, i.e, decW i.e.df.t l⟩ := by
  refine ⟨h.lim, fun hl => ?_, fun h1 h2 => by rcases ha with h | h <;> contradiction⟩
  have hl : i.e.li = true := hl
  obtain ⟨k1, k2⟩ := h.lim hl
  have c1 := (dec_enc i.e.df.t i.e.df.ht l hE).1
  have t1 := dec_t i.e.df.t i.e.df.ht l hE
  obtain ⟨a1, a2, a3⟩ := ord_zero k1
  obtain ⟨b1, b2, b3⟩ := ord_zero k2
  have e1 : ordE (decW i.e.df.t l) i.e.mn = 0 := zero_ord c1 a2 (t1.trans a3)
  have e2 : ordE (decW i.e.df.t l) i.e.mx = 0 := zero_ord c1 b2 (t1.trans b3)
  have hB : wiB i.e (decW i.e.df.t l) = true := by unfold wiB; rw [e1, e2]; rfl
  refine ⟨hB, ?_⟩
  show wiC i.e (decW i.e.df.t l) = 0
  unfold bey at hb
  rw [if_neg (by rw [hl]; simp)] at hb
  unfold wiC
  rw [if_neg (by rw [hB]; simp)]
  exact hb
/-- Of these entries, in these blocks. -/
structure Al (es : List En) (bs : List Nat) (its : List Im) : Prop where
  e : its.map Im.e = es
  b : its.map Im.b = bs
theorem Al.set {es : List En} {bs : List Nat} {its : List Im} (h : Al es bs its) (b : Nat) (v : Vl) : Al es bs (setV its b v) := ⟨by rw [setV_e]; exact h.e, by rw [setV_b]; exact h.b⟩
theorem wc_zero {its : List Im} {ix sb : Nat} {l : List UInt8} (h : wc its ix sb l = 0) : ∃ i, fnd its ix sb = some i ∧ (i.e.ac = 1 ∨ i.e.ac = 2) ∧ decE i.e.df.t l = 0 ∧ bey i.e (decW i.e.df.t l) = 0 := by
  unfold wc at h
  split at h
  · exact absurd h (noc_ne _ _)
  · rename_i i hf
    refine ⟨i, hf, ?_⟩
    unfold wcode at h
    split at h
    · exact absurd h (by decide)
    · rename_i h1
      have ha : i.e.ac = 1 ∨ i.e.ac = 2 := by omega
      split at h
      · rename_i h2; exact ⟨ha, h2, h⟩
      · split at h
        · exact absurd h (by decide)
        · split at h <;> exact absurd h (by decide)
theorem Al.wrt {es : List En} {bs : List Nat} {its : List Im} (h : Al es bs its) (ix sb : Nat) (l : List UInt8) : Al es bs (wrt its ix sb l) := by
  unfold Go.Proofs.Ythalhidebkhclaa.wrt
  split
  · split
    · exact h
    · exact h.set _ _
  · exact h
theorem gd_wrt {its : List Im} (hd : (its.map Im.b).Nodup) (h : ∀ i ∈ its, Gd i) (ix sb : Nat) (l : List UInt8) : ∀ i ∈ wrt its ix sb l, Gd i := by
  unfold wrt
  split
  · rename_i hc
    obtain ⟨i, hf, ha, hE, hb⟩ := wc_zero hc
    rw [hf]
    intro x hx
    obtain ⟨y, hy, rfl⟩ := List.mem_map.1 hx
    by_cases e : y.b = i.b
    · rw [if_pos e]
      have : y = i := by
        have hi := fnd_mem hf
        obtain ⟨m, hm, rfl⟩ := List.getElem_of_mem hy
        obtain ⟨n, hn, rfl⟩ := List.getElem_of_mem hi
        have hmn : m = n := by
          have h1 := List.pairwise_iff_getElem.1 hd
          rcases Nat.lt_trichotomy m n with h2 | h2 | h2
          · exact (h1 m n (by simpa using hm) (by simpa using hn) h2 (by simp only [List.getElem_map]; exact e)).elim
          · exact h2
          · exact (h1 n m (by simpa using hn) (by simpa using hm) h2 (by simp only [List.getElem_map]; exact e.symm)).elim
        subst hmn; rfl
      subst this
      exact gd_write (h y hy) l ha hE hb
    · rw [if_neg e]; exact h y hy
  · exact h
theorem fnd_self {its : List Im} (hs : its.Pairwise (fun a b => a.e.pl < b.e.pl)) {i : Im} (hi : i ∈ its) : fnd its i.e.ix i.e.sb = some i := by
  rw [fnd_pl its i.e.hix i.e.hsb]
  rcases count_find its hs (i.e.ix * 256 + i.e.sb) with ⟨h1, _⟩ | ⟨h1, h2, h3⟩
  · exact absurd rfl (h1 i hi)
  · rw [h2]
    congr 1
    obtain ⟨m, hm, rfl⟩ := List.getElem_of_mem hi
    have h4 := List.pairwise_iff_getElem.1 hs
    generalize its.countP _ = n at *
    have hmn : n = m := by
      have e1 : (its[n]).e.pl = (its[m]).e.pl := h3
      rcases Nat.lt_trichotomy n m with h | h | h
      · have := h4 n m h1 hm h; omega
      · exact h
      · have := h4 m n hm h1 h; omega
    subst hmn; rfl
theorem fnd_entry {its : List Im} {l : List En} (hs : its.Pairwise (fun a b => a.e.pl < b.e.pl)) (hp : (its.map Im.e).Perm (l.map En.plain)) {e : En} (he : e ∈ l) : ∃ i, i ∈ its ∧ i.e = e.plain ∧ fnd its e.ix e.sb = some i := by
  have : e.plain ∈ its.map Im.e := hp.mem_iff.2 (List.mem_map.2 ⟨e, he, rfl⟩)
  obtain ⟨i, hi, h1⟩ := List.mem_map.1 this
  refine ⟨i, hi, h1, ?_⟩
  have := fnd_self hs hi
  rw [h1] at this
  exact this
end Go.Proofs.Ythalhidebkhclaa
