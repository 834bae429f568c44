/- Saved bytes, cut and loaded: plain facts. -/
import Derived.Test.YthalhidebkhclaaP8
import Derived.Test.YthalhidebkhclaaTyEd
import Derived.Test.YthalhidebkhclaaQc
import Derived.Test.YthalhidebkhclaaP5
import Derived.Test.YthalhidebkhclaaP6
namespace Go.Proofs.Ythalhidebkhclaa
open Go.RowKit Go.Proofs.Ty Go.Sort Go.Lib
set_option linter.unusedVariables false
set_option maxRecDepth 1000000
set_option linter.unusedSimpArgs false
/-- The code with which a list is refused; the items behind it. -/
def ldC (its : List Im) : List Sv → Nat
  | [] => 0
  | s :: r => match fnd its s.ix s.sb with
    | none => 4
    | some i => if i.e.ac ≠ 2 then 4 else if decE i.e.df.t s.raw ≠ 0 then 8 else ldC its r
def putS (its : List Im) (s : Sv) : List Im := match fnd its s.ix s.sb with
  | none => its
  | some i => setV its i.b (decW i.e.df.t s.raw)
def layV (its : List Im) (ss : List Sv) : List Im := ss.foldl putS its
def loadC (its : List Im) (b : List UInt8) : Nat := match cutL (-1) b with
  | none => 8
  | some ss => ldC its ss
def loadI (its : List Im) (b : List UInt8) : List Im := match cutL (-1) b with
  | none => its
  | some ss => if ldC its ss = 0 then layV its ss else its
theorem Al.putS {es : List En} {bs : List Nat} {its : List Im} (h : Al es bs its) (s : Sv) : Al es bs (putS its s) := by
  unfold Go.Proofs.Ythalhidebkhclaa.putS
  split
  · exact h
  · exact h.set _ _
theorem Al.layV {es : List En} {bs : List Nat} {its : List Im} (h : Al es bs its) (ss : List Sv) : Al es bs (layV its ss) := by
  induction ss generalizing its with
  | nil => exact h
  | cons s r ih => exact ih (h.putS s)
theorem Al.loadI {es : List En} {bs : List Nat} {its : List Im} (h : Al es bs its) (b : List UInt8) : Al es bs (loadI its b) := by
  unfold Go.Proofs.Ythalhidebkhclaa.loadI
  split
  · exact h
  · split
    · exact h.layV _
    · exact h
/-- Entries alone tell what is found. -/
theorem fnd_e {a b : List Im} (h : a.map Im.e = b.map Im.e) (ix sb : Nat) : (fnd a ix sb).map Im.e = (fnd b ix sb).map Im.e := by
  have key : ∀ c : List Im, (fnd c ix sb).map Im.e = (c.map Im.e).find? (fun e => e.ix == ix && e.sb == sb) := fun c => by
    unfold fnd
    rw [List.find?_map]
    rfl
  rw [key, key, h]
theorem ldC_e {a b : List Im} (h : a.map Im.e = b.map Im.e) (ss : List Sv) : ldC a ss = ldC b ss := by
  induction ss with
  | nil => rfl
  | cons s r ih =>
    have hf := fnd_e h s.ix s.sb
    rw [ldC, ldC, ih]
    cases ha : fnd a s.ix s.sb with
    | none =>
      rw [ha] at hf
      cases hb : fnd b s.ix s.sb with
      | none => rfl
      | some j => rw [hb] at hf; cases hf
    | some i =>
      rw [ha] at hf
      cases hb : fnd b s.ix s.sb with
      | none => rw [hb] at hf; cases hf
      | some j =>
        rw [hb] at hf
        simp only [Option.map_some, Option.some.injEq] at hf
        simp only
        rw [hf]
/-- What is known of an item, whatever is done. -/
structure Ok (i : Im) : Prop where
  lim : i.e.li = true → ordE i.e.df i.e.mn = 0 ∧ ordE i.e.df i.e.mx = 0
  df : i.e.df.chk = 0
  dfp : decE i.e.df.t i.e.df.enc = 0 ∧ decW i.e.df.t i.e.df.enc = i.e.df
  val : decE i.e.df.t i.v.enc = 0 ∧ decW i.e.df.t i.v.enc = i.v
theorem Ok.t {i : Im} (h : Ok i) : i.v.t = i.e.df.t := by
  have := dec_t i.e.df.t i.e.df.ht i.v.enc h.val.1
  rw [h.val.2] at this
  exact this
theorem Ok.dec {i : Im} (h : Ok i) {l : List UInt8} (hE : decE i.e.df.t l = 0) : Ok ⟨i.b, i.e, decW i.e.df.t l⟩ := by
  have he := (dec_enc i.e.df.t i.e.df.ht l hE).2
  exact ⟨h.lim, h.df, h.dfp, by show decE i.e.df.t (decW i.e.df.t l).enc = 0 ∧ decW i.e.df.t (decW i.e.df.t l).enc = decW i.e.df.t l; rw [he]; exact ⟨hE, rfl⟩⟩
theorem plain_enc_dec {v : Vl} (h : v.chk = 0) : decE v.t v.plain.enc = 0 ∧ decW v.t v.plain.enc = v.plain := by
  have hp : v.plain.chk = 0 := by rw [chk_plain]; exact h
  have h1 := enc_dec v.plain hp
  have h2 := enc_dec v h
  have ht : v.plain.t = v.t := rfl
  rw [ht] at h1
  have h3 : v.plain.enc = v.enc := by
    have e1 := (dec_enc v.t v.ht v.plain.enc h1.1).2
    have e2 := (dec_enc v.t v.ht v.enc h2.1).2
    rw [h2.2] at e2
    exact e2
  rw [h3]
  exact h2
theorem Ok.plain {i : Im} (h : Ok i) {v : Vl} (hc : v.chk = 0) (ht : v.t = i.e.df.t) : Ok ⟨i.b, i.e, v.plain⟩ := by
  refine ⟨h.lim, h.df, h.dfp, ?_⟩
  show decE i.e.df.t v.plain.enc = 0 ∧ decW i.e.df.t v.plain.enc = v.plain
  rw [← ht]
  exact plain_enc_dec hc
theorem ok_new {e : En} (h : e.can = 0) (b : Nat) : Ok ⟨b, e.plain, e.plain.df⟩ := by
  have hg := gd_new h b
  have hd := (can_zero h).1
  have hp : e.plain.df.chk = 0 := by show e.df.plain.chk = 0; rw [chk_plain]; exact hd
  have hpe : decE e.plain.df.t e.plain.df.enc = 0 ∧ decW e.plain.df.t e.plain.df.enc = e.plain.df := plain_enc_dec hd
  exact ⟨hg.lim, hp, hpe, hpe⟩
theorem ok_set {its : List Im} (hd : (its.map Im.b).Nodup) (h : ∀ i ∈ its, Ok i) {i : Im} (hi : i ∈ its) {v : Vl} (hv : Ok ⟨i.b, i.e, v⟩) : ∀ j ∈ setV its i.b v, Ok j := by
  intro j hj
  obtain ⟨y, hy, rfl⟩ := List.mem_map.1 hj
  by_cases e : y.b = i.b
  · rw [if_pos e]
    have := mem_b hd hy hi e
    subst this
    exact hv
  · rw [if_neg e]; exact h y hy
theorem ok_wrt {its : List Im} (hd : (its.map Im.b).Nodup) (h : ∀ i ∈ its, Ok i) (ix sb : Nat) (l : List UInt8) : ∀ i ∈ wrt its ix sb l, Ok i := by
  unfold wrt
  split
  · rename_i hc
    obtain ⟨i, hf, ha, hE, hb⟩ := wc_zero hc
    rw [hf]
    exact ok_set hd h (fnd_mem hf) ((h i (fnd_mem hf)).dec hE)
  · exact h
theorem ok_sett {its : List Im} (hd : (its.map Im.b).Nodup) (h : ∀ i ∈ its, Ok i) (ix sb : Nat) (v : Vl) : ∀ i ∈ sett its ix sb v, Ok i := by
  unfold sett
  cases hf : fnd its ix sb with
  | none => exact h
  | some i =>
    simp only
    split
    · rename_i hc
      unfold setc at hc
      rw [hf] at hc
      simp only at hc
      split at hc
      · exact absurd hc (by decide)
      · split at hc
        · exact absurd hc (by decide)
        · rename_i h1 h2
          exact ok_set hd h (fnd_mem hf) ((h i (fnd_mem hf)).plain hc (Decidable.not_not.1 h2))
    · exact h
theorem ok_layV {its : List Im} (hd : (its.map Im.b).Nodup) (h : ∀ i ∈ its, Ok i) (ss : List Sv) (hc : ldC its ss = 0) : ∀ i ∈ layV its ss, Ok i := by
  induction ss generalizing its with
  | nil => exact h
  | cons s r ih =>
    rw [ldC] at hc
    cases hf : fnd its s.ix s.sb with
    | none => rw [hf] at hc; simp at hc
    | some i =>
      rw [hf] at hc
      simp only at hc
      split at hc
      · exact absurd hc (by decide)
      · split at hc
        · exact absurd hc (by decide)
        · rename_i h1 h2
          have al : Al (its.map Im.e) (its.map Im.b) (putS its s) := Al.putS ⟨rfl, rfl⟩ s
          have e1 : layV its (s :: r) = layV (putS its s) r := rfl
          rw [e1]
          refine ih (by rw [al.b]; exact hd) ?_ (by rw [ldC_e al.e]; exact hc)
          have e2 : putS its s = setV its i.b (decW i.e.df.t s.raw) := by unfold putS; rw [hf]
          rw [e2]
          exact ok_set hd h (fnd_mem hf) ((h i (fnd_mem hf)).dec (Decidable.not_not.1 h2))
theorem ok_loadI {its : List Im} (hd : (its.map Im.b).Nodup) (h : ∀ i ∈ its, Ok i) (b : List UInt8) : ∀ i ∈ loadI its b, Ok i := by
  unfold loadI
  split
  · exact h
  · split
    · rename_i hc; exact ok_layV hd h _ hc
    · exact h
/-- Items with what they had at first. -/
def resetI (its : List Im) : List Im := its.map (fun i => ⟨i.b, i.e, i.e.df⟩)
theorem Al.resetI {es : List En} {bs : List Nat} {its : List Im} (h : Al es bs its) : Al es bs (resetI its) := ⟨by rw [← h.e]; unfold Go.Proofs.Ythalhidebkhclaa.resetI; rw [List.map_map]; rfl, by rw [← h.b]; unfold Go.Proofs.Ythalhidebkhclaa.resetI; rw [List.map_map]; rfl⟩
theorem ok_resetI {its : List Im} (h : ∀ i ∈ its, Ok i) : ∀ i ∈ resetI its, Ok i := by
  intro j hj
  obtain ⟨i, hi, rfl⟩ := List.mem_map.1 hj
  have := h i hi
  exact ⟨this.lim, this.df, this.dfp, this.dfp⟩
/-- Limits: the program's code is the document's. -/
theorem bey_wi {i : Im} (h : Ok i) {l : List UInt8} (hE : decE i.e.df.t l = 0) (hl : i.e.li = true) : wiC i.e (decW i.e.df.t l) = bey i.e (decW i.e.df.t l) := by
  obtain ⟨k1, k2⟩ := h.lim hl
  have c1 := (dec_enc i.e.df.t i.e.df.ht l hE).1
  have t1 := dec_t i.e.df.t i.e.df.ht l hE
  obtain ⟨a1, a2, a3⟩ := ord_zero k1
  obtain ⟨b1, b2, b3⟩ := ord_zero k2
  have e1 : ordE (decW i.e.df.t l) i.e.mn = 0 := zero_ord c1 a2 (t1.trans a3)
  have e2 : ordE (decW i.e.df.t l) i.e.mx = 0 := zero_ord c1 b2 (t1.trans b3)
  have hB : wiB i.e (decW i.e.df.t l) = true := by unfold wiB; rw [e1, e2]; rfl
  unfold wiC bey
  rw [if_neg (show ¬ wiB i.e (decW i.e.df.t l) = false by rw [hB]; simp), if_neg (show ¬ i.e.li = false by rw [hl]; simp)]
/-- Where an entry is, in the document's list. -/
def fiN (L : List En) (ix sb : Nat) : Nat := match L.findIdx? (fun e => e.ix == ix && e.sb == sb) with
  | none => 0
  | some k => k
def fiC (L : List En) (ix sb : Nat) : Nat := match L.findIdx? (fun e => e.ix == ix && e.sb == sb) with
  | none => if L.any (fun e => e.ix == ix) then 101253137 else 100794368
  | some k => 0
theorem fi_none {its : List Im} {ix sb : Nat} (h : fnd its ix sb = none) : fiN (its.map Im.e) ix sb = 0 ∧ fiC (its.map Im.e) ix sb = noc its ix := by
  have h1 : (its.map Im.e).findIdx? (fun e => e.ix == ix && e.sb == sb) = none := by
    rw [List.findIdx?_eq_none_iff]
    intro e he
    obtain ⟨i, hi, rfl⟩ := List.mem_map.1 he
    have := List.find?_eq_none.1 h i hi
    simpa using this
  unfold fiN fiC noc
  rw [h1, List.any_map]
  exact ⟨rfl, rfl⟩
theorem fi_some {its : List Im} {ix sb : Nat} {i : Im} (h : fnd its ix sb = some i) : ∃ k, ∃ hk : k < its.length, its[k] = i ∧ fiN (its.map Im.e) ix sb = k ∧ fiC (its.map Im.e) ix sb = 0 := by
  obtain ⟨k, hk, e1, e2⟩ := List.find?_eq_some_iff_getElem.1 h |>.2
  refine ⟨k, hk, e1, ?_⟩
  have h0 := (List.find?_eq_some_iff_getElem.1 h).1
  have h1 : (its.map Im.e).findIdx? (fun e => e.ix == ix && e.sb == sb) = some k := by
    rw [List.findIdx?_eq_some_iff_getElem]
    refine ⟨by simpa using hk, ?_, fun j hj => ?_⟩
    · simp only [List.getElem_map]; rw [e1]; simpa using h0
    · have := e2 j hj
      simp at this ⊢
      intro g1 g2
      rcases this with g | g
      · exact g g1
      · exact g g2
  unfold fiN fiC
  rw [h1]
  exact ⟨rfl, rfl⟩
theorem setV_get (its : List Im) (b : Nat) (v : Vl) (j : Nat) (hj : j < its.length) (h : j < (setV its b v).length) : (setV its b v)[j] = if its[j].b = b then ⟨its[j].b, its[j].e, v⟩ else its[j] := by
  simp only [setV, List.getElem_map]
/-- A value put at one place, in the program's items and in the document's row. -/
theorem setV_v {its : List Im} (hd : (its.map Im.b).Nodup) {k : Nat} (hk : k < its.length) (v : Vl) : (setV its its[k].b v).map Im.v = (its.map Im.v).set k v := by
  apply List.ext_getElem
  · simp [setV_len]
  · intro j h1 h2
    have hj : j < its.length := by simpa [setV_len] using h1
    rw [List.getElem_set]
    simp only [List.getElem_map]
    rw [setV_get its _ v j hj]
    by_cases e : k = j
    · subst e; simp
    · rw [if_neg e]
      have : its[j].b ≠ its[k].b := fun h => by
        have h3 := List.pairwise_iff_getElem.1 hd
        rcases Nat.lt_or_gt_of_ne e with h4 | h4
        · exact h3 k j (by simpa using hk) (by simpa using hj) h4 (by simp only [List.getElem_map]; exact h.symm)
        · exact h3 j k (by simpa using hj) (by simpa using hk) h4 (by simp only [List.getElem_map]; exact h)
      rw [if_neg this]
end Go.Proofs.Ythalhidebkhclaa
