/- Two dictionaries of the same entries: plain facts; their state. -/
import Derived.Test.YthalhidebkhclaaP7d
namespace Go.Proofs.Ythalhidebkhclaa
open Go.RowKit Go.Proofs.Ty Go.Sort Go.Lib
set_option linter.unusedVariables false
set_option maxRecDepth 1000000
set_option linter.unusedSimpArgs false
def er (i : Im) : En × Vl := (i.e, i.v)
/-- The same entries with the same values. -/
def Tw (a b : List Im) : Prop := a.map er = b.map er
theorem Tw.e {a b : List Im} (h : Tw a b) : a.map Im.e = b.map Im.e := by
  have : ∀ l : List Im, l.map Im.e = (l.map er).map Prod.fst := fun l => by rw [List.map_map]; rfl
  rw [this, this, h]
theorem fnd_er (a : List Im) (ix sb : Nat) : (fnd a ix sb).map er = (a.map er).find? (fun p => p.1.ix == ix && p.1.sb == sb) := by
  unfold fnd
  rw [List.find?_map]
  rfl
theorem Tw.fnd {a b : List Im} (h : Tw a b) (ix sb : Nat) : (fnd a ix sb).map er = (Go.Proofs.Ythalhidebkhclaa.fnd b ix sb).map er := by rw [fnd_er, fnd_er, h]
theorem noc_er (a : List Im) (ix : Nat) : noc a ix = if (a.map er).any (fun p => p.1.ix == ix) then 101253137 else 100794368 := by
  unfold noc
  rw [List.any_map]
  rfl
theorem Tw.wc {a b : List Im} (h : Tw a b) (ix sb : Nat) (l : List UInt8) : wc a ix sb l = Go.Proofs.Ythalhidebkhclaa.wc b ix sb l := by
  have hf := h.fnd ix sb
  unfold Go.Proofs.Ythalhidebkhclaa.wc
  cases ha : Go.Proofs.Ythalhidebkhclaa.fnd a ix sb with
  | none =>
    rw [ha] at hf
    cases hb : Go.Proofs.Ythalhidebkhclaa.fnd b ix sb with
    | none => simp only; rw [noc_er, noc_er, h]
    | some j => rw [hb] at hf; cases hf
  | some i =>
    rw [ha] at hf
    cases hb : Go.Proofs.Ythalhidebkhclaa.fnd b ix sb with
    | none => rw [hb] at hf; cases hf
    | some j =>
      rw [hb] at hf
      simp only [Option.map_some, Option.some.injEq, er, Prod.mk.injEq] at hf
      simp only [wcode]
      rw [hf.1]
theorem setV_er {a : List Im} (hd : (a.map Im.b).Nodup) (hs : a.Pairwise (fun x y => x.e.pl < y.e.pl)) {i : Im} (hi : i ∈ a) (v : Vl) : (setV a i.b v).map er = (a.map er).map (fun p => if p.1.pl = i.e.pl then (p.1, v) else p) := by
  unfold setV
  rw [List.map_map, List.map_map]
  apply List.map_congr_left
  intro x hx
  simp only [Function.comp, er]
  by_cases e : x.b = i.b
  · have := mem_b hd hx hi e
    subst this
    rw [if_pos rfl]
    exact (if_pos (show (er x).1.pl = x.e.pl from rfl)).symm
  · have hne : ¬ x.e.pl = i.e.pl := fun h => e (by
      obtain ⟨m, hm, rfl⟩ := List.getElem_of_mem hx
      obtain ⟨n, hn, rfl⟩ := List.getElem_of_mem hi
      have h1 := List.pairwise_iff_getElem.1 hs
      have : m = n := by
        rcases Nat.lt_trichotomy m n with h2 | h2 | h2
        · have := h1 m n hm hn h2; omega
        · exact h2
        · have := h1 n m hn hm h2; omega
      subst this; rfl)
    rw [if_neg e]
    exact (if_neg (show ¬ (er x).1.pl = i.e.pl from hne)).symm
theorem Tw.wrt {a b : List Im} (h : Tw a b) (ha : (a.map Im.b).Nodup) (hb : (b.map Im.b).Nodup) (sa : a.Pairwise (fun x y => x.e.pl < y.e.pl)) (sb' : b.Pairwise (fun x y => x.e.pl < y.e.pl)) (ix sb : Nat) (l : List UInt8) : Tw (wrt a ix sb l) (Go.Proofs.Ythalhidebkhclaa.wrt b ix sb l) := by
  unfold Go.Proofs.Ythalhidebkhclaa.wrt
  rw [h.wc ix sb l]
  split
  · have hf := h.fnd ix sb
    cases hfa : Go.Proofs.Ythalhidebkhclaa.fnd a ix sb with
    | none =>
      rw [hfa] at hf
      cases hfb : Go.Proofs.Ythalhidebkhclaa.fnd b ix sb with
      | none => exact h
      | some j => rw [hfb] at hf; cases hf
    | some i =>
      rw [hfa] at hf
      cases hfb : Go.Proofs.Ythalhidebkhclaa.fnd b ix sb with
      | none => rw [hfb] at hf; cases hf
      | some j =>
        rw [hfb] at hf
        simp only [Option.map_some, Option.some.injEq, er, Prod.mk.injEq] at hf
        show (setV a i.b (decW i.e.df.t l)).map er = (setV b j.b (decW j.e.df.t l)).map er
        rw [setV_er ha sa (fnd_mem hfa), setV_er hb sb' (fnd_mem hfb), hf.1, h]
  · exact h
theorem sav_er (a : List Im) : sav a = (a.map er).flatMap (fun p => svI ⟨0, p.1, p.2⟩) := by
  unfold sav
  rw [List.flatMap_map]
  rfl
theorem Tw.sav {a b : List Im} (h : Tw a b) : sav a = Go.Proofs.Ythalhidebkhclaa.sav b := by rw [sav_er, sav_er, h]
/-- Entries in order, whichever way they came. -/
theorem sorted_eq {a b : List En} (ha : a.Pairwise (fun x y => x.pl < y.pl)) (hb : b.Pairwise (fun x y => x.pl < y.pl)) (hp : a.Perm b) : a = b := by
  induction a generalizing b with
  | nil => exact (List.Perm.nil_eq hp)
  | cons x r ih =>
    cases b with
    | nil => exact absurd hp.length_eq (by simp)
    | cons y s =>
      obtain ⟨h1, h2⟩ := List.pairwise_cons.1 ha
      obtain ⟨k1, k2⟩ := List.pairwise_cons.1 hb
      have hxy : x = y := by
        have m1 : x ∈ y :: s := hp.mem_iff.1 List.mem_cons_self
        have m2 : y ∈ x :: r := hp.mem_iff.2 List.mem_cons_self
        rcases List.mem_cons.1 m1 with e | m1
        · exact e
        · rcases List.mem_cons.1 m2 with e | m2
          · exact e.symm
          · have := k1 x m1; have := h1 y m2; omega
      subst hxy
      rw [ih h2 k2 (List.Perm.cons_inv hp)]
theorem tw_new {a b : List Im} {l m : List En} (sa : a.Pairwise (fun x y => x.e.pl < y.e.pl)) (sb : b.Pairwise (fun x y => x.e.pl < y.e.pl)) (va : ∀ i ∈ a, i.v = i.e.df) (vb : ∀ i ∈ b, i.v = i.e.df) (pa : (a.map Im.e).Perm (l.map En.plain)) (pb : (b.map Im.e).Perm (m.map En.plain)) (hm : m.Perm l) : Tw a b := by
  have he : a.map Im.e = b.map Im.e := sorted_eq (List.pairwise_map.2 sa) (List.pairwise_map.2 sb) (pa.trans ((hm.map En.plain).symm.trans pb.symm))
  have key : ∀ c : List Im, (∀ i ∈ c, i.v = i.e.df) → c.map er = (c.map Im.e).map (fun e => (e, e.df)) := fun c hc => by
    rw [List.map_map]
    apply List.map_congr_left
    intro i hi
    simp only [Function.comp, er, hc i hi]
  unfold Tw
  rw [key a va, key b vb, he]
theorem chkG_perm {s l : List En} (hc : ∀ e ∈ l, e.can = 0) (hn : ((s ++ l).map En.pl).Nodup) : chkG s l = 0 := by
  induction l generalizing s with
  | nil => rfl
  | cons e r ih =>
    rw [chkG, if_neg (by have := hc e List.mem_cons_self; simpa using this), if_neg, ih (fun x hx => hc x (List.mem_cons_of_mem _ hx)) (by simpa using hn)]
    rw [Bool.not_eq_true, List.any_eq_false]
    intro x hx he
    rw [List.map_append, List.nodup_append] at hn
    exact hn.2.2 x.pl (List.mem_map.2 ⟨x, hx, rfl⟩) e.pl (List.mem_map.2 ⟨e, List.mem_cons_self, rfl⟩) (by simpa using he)
/-- Entries that can be can be in whatever order. -/
theorem chkL_perm {l m : List En} (h : chkL l = 0) (hp : m.Perm l) : chkL m = 0 := by
  obtain ⟨h1, h2, h3⟩ := chkL_ok h
  unfold chkL
  rw [if_neg (by rw [hp.length_eq]; omega)]
  refine chkG_perm (fun e he => chkG_all h3 e (hp.mem_iff.1 he)) ?_
  rw [List.nil_append]
  exact (hp.map En.pl).nodup_iff.2 h2
end Go.Proofs.Ythalhidebkhclaa
