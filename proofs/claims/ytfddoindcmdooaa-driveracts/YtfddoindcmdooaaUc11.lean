/- The program's driver and the document's, held against each other. A call of does: Send. A call of does: Next. A call of does: Fetch. A call of does: Done. A call of does: Drop. A call of does: Take. -/
import Derived.Test.YtfddoindcmdooaaUc10
namespace Go.Proofs.Ytfddoindcmdooaa
open Go.RowKit Go.Proofs.Bits
set_option linter.unusedVariables false
set_option maxRecDepth 1000000
set_option linter.unusedSimpArgs false

structure Rl (s : Dv) (d : Dc) : Prop where
  bx : s.bx = d.most
  rm : s.rm = d.room
  tk : s.tk = d.tk
  lo : s.lo = d.lo
  cs : s.cs = d.inn
  l : s.l = d.l
  perm : s.ms.Perm d.out
  hp : Hp (gM s.ms) s.ms.length
  srt : d.out.Pairwise (fun a b => lessM a b = true)
  ok : ∀ m ∈ d.out, MOk m
  tks : ∀ m ∈ d.out, m.tk ≤ d.tk
  nod : d.out.Pairwise (fun a b => a.tk ≠ b.tk)
theorem Rl.start (bx rm : Int) (l : List Fi) : Rl ⟨bx, rm, 0, 0, [], [], l⟩ ⟨bx, rm, 0, 0, [], [], l⟩ :=
  ⟨rfl, rfl, rfl, rfl, rfl, rfl, .refl _, (fun j _ h => by simp at h), .nil, by simp, by simp, .nil⟩
theorem Rl.len {s : Dv} {d : Dc} (h : Rl s d) : s.ms.length = d.out.length := h.perm.length_eq
theorem lessM_irr (a : Ml) : lessM a a = false := leM_refl a
theorem Rl.send {s : Dv} {d : Dc} (h : Rl s d) (f : Fr) (hf : f.chk = 0) (k : Nat) (hk : insAt d.out f.field k) :
    Rl { s with ms := upF (s.ms ++ [⟨f.plain, f.field, s.tk + 1⟩]) s.ms.length, tk := s.tk + 1 } { d with out := d.out.take k ++ [⟨f.plain, f.field, d.tk + 1⟩] ++ d.out.drop k, tk := d.tk + 1 } := by
  obtain ⟨hk1, hk2, hk3⟩ := hk
  have htk := h.tk
  have hmem : ∀ m, m ∈ d.out.take k ++ [(⟨f.plain, f.field, d.tk + 1⟩ : Ml)] ++ d.out.drop k → m ∈ d.out ∨ m = ⟨f.plain, f.field, d.tk + 1⟩ := by
    intro m hm
    rcases List.mem_append.1 hm with hm | hm
    · rcases List.mem_append.1 hm with hm | hm
      · exact .inl (List.mem_of_mem_take hm)
      · simp at hm; exact .inr hm
    · exact .inl (List.mem_of_mem_drop hm)
  have hta : ∀ a ∈ d.out.take k, lessM a ⟨f.plain, f.field, d.tk + 1⟩ = true := by
    intro a ha
    obtain ⟨j, hj, rfl⟩ := List.getElem_of_mem ha
    rw [List.length_take] at hj
    rw [List.getElem_take]
    have h1 := hk2 j (by omega) (by omega)
    rw [lessM_iff]
    have h2 := h.tks _ (List.getElem_mem (l := d.out) (n := j) (by omega))
    by_cases he : d.out[j].fld = f.field
    · exact .inr ⟨he, by show _ < d.tk + 1; omega⟩
    · exact .inl (Std.lt_of_le_of_ne (Std.not_lt.1 h1) he)
  have htb : ∀ b ∈ d.out.drop k, lessM ⟨f.plain, f.field, d.tk + 1⟩ b = true := by
    intro b hb
    obtain ⟨j, hj, rfl⟩ := List.getElem_of_mem hb
    rw [List.length_drop] at hj
    rw [List.getElem_drop]
    have h1 := hk3 (by omega)
    rw [lessM_iff]
    refine .inl ?_
    by_cases hj0 : j = 0
    · subst hj0; simpa using h1
    · have := List.pairwise_iff_getElem.1 h.srt k (k + j) (by omega) (by omega) (by omega)
      exact Std.lt_of_lt_of_le h1 (leM_fld (leM_of_less this))
  have hsp := h.srt
  rw [← List.take_append_drop k d.out] at hsp
  have hnp := h.nod
  rw [← List.take_append_drop k d.out] at hnp
  obtain ⟨s1, s2, s3⟩ := List.pairwise_append.1 hsp
  obtain ⟨n1, n2, n3⟩ := List.pairwise_append.1 hnp
  refine ⟨h.bx, h.rm, by show s.tk + 1 = d.tk + 1; omega, h.lo, h.cs, h.l, ?_, ?_, ?_, ?_, ?_, ?_⟩
  · show (upF _ _).Perm _
    refine (upF_perm _ _).trans ?_
    rw [htk]
    have p1 : (s.ms ++ [(⟨f.plain, f.field, d.tk + 1⟩ : Ml)]).Perm (⟨f.plain, f.field, d.tk + 1⟩ :: d.out) := (List.perm_append_singleton _ _).trans (h.perm.cons _)
    refine p1.trans ?_
    have p2 : (⟨f.plain, f.field, d.tk + 1⟩ :: d.out : List Ml).Perm (⟨f.plain, f.field, d.tk + 1⟩ :: (d.out.take k ++ d.out.drop k)) := by rw [List.take_append_drop]
    refine p2.trans ?_
    rw [List.append_assoc]
    exact List.perm_middle.symm
  · have := push_heap s.ms ⟨f.plain, f.field, s.tk + 1⟩ h.hp
    show Hp (gM (upF _ _)) (upF _ _).length
    rw [upF_length]; simpa using this
  · rw [List.append_assoc]
    refine List.pairwise_append.2 ⟨s1, List.pairwise_append.2 ⟨by simp, s2, by simpa using htb⟩, ?_⟩
    intro a ha b hb
    rcases List.mem_append.1 hb with hb | hb
    · simp at hb; subst hb; exact hta a ha
    · exact s3 a ha b hb
  · intro m hm
    rcases hmem m hm with h1 | rfl
    · exact h.ok m h1
    · exact MOk.of f hf _
  · intro m hm
    show m.tk ≤ d.tk + 1
    rcases hmem m hm with h1 | rfl
    · have := h.tks m h1; omega
    · exact Int.le_refl _
  · rw [List.append_assoc]
    refine List.pairwise_append.2 ⟨n1, List.pairwise_append.2 ⟨by simp, n2, ?_⟩, ?_⟩
    · intro a ha b hb
      simp at ha; subst ha
      have := h.tks b (List.mem_of_mem_drop hb)
      show d.tk + 1 ≠ b.tk
      omega
    · intro a ha b hb
      rcases List.mem_append.1 hb with hb | hb
      · simp at hb; subst hb
        have := h.tks a (List.mem_of_mem_take ha)
        show a.tk ≠ d.tk + 1
        omega
      · exact n3 a ha b hb
theorem Rl.head {s : Dv} {d : Dc} (h : Rl s d) (h0 : 0 < s.ms.length) (h1 : 0 < d.out.length) : s.ms[0] = d.out[0] := by
  have hm : d.out[0] ∈ s.ms := h.perm.mem_iff.2 (List.getElem_mem h1)
  have hl := pop_least s.ms h0 h.hp _ hm
  have hm2 : s.ms[0] ∈ d.out := h.perm.mem_iff.1 (List.getElem_mem h0)
  obtain ⟨j, hj, he⟩ := List.getElem_of_mem hm2
  by_cases hj0 : j = 0
  · subst hj0; exact he.symm
  · have := List.pairwise_iff_getElem.1 h.srt 0 j h1 hj (by omega)
    rw [he] at this
    unfold leM at hl
    rw [this] at hl; cases hl
theorem Rl.next {s : Dv} {d : Dc} (h : Rl s d) : nextF s.ms = nextF d.out := by
  have hl := h.len
  by_cases h0 : 0 < s.ms.length
  · have := h.head h0 (by omega)
    unfold nextF
    cases hs : s.ms with
    | nil => rw [hs] at h0; simp at h0
    | cons a r =>
      cases hd : d.out with
      | nil => exfalso; rw [hd, hs] at hl; simp at hl
      | cons b t =>
        simp only [hs, hd, List.getElem_cons_zero] at this
        simp [this]
  · have e1 : s.ms = [] := List.length_eq_zero_iff.1 (by omega)
    have e2 : d.out = [] := List.length_eq_zero_iff.1 (by omega)
    rw [e1, e2]
/-- One mail taken out on both sides. -/
theorem Rl.out {s : Dv} {d : Dc} (h : Rl s d) (ls : List Ml) (m : Ml) (k : Nat) (hk : k < d.out.length) (hm : d.out[k] = m) (hp : (ls ++ [m]).Perm s.ms) (hh : Hp (gM ls) ls.length) :
    Rl { s with ms := ls } { d with out := d.out.take k ++ d.out.drop (k + 1) } := by
  have hsub : (d.out.take k ++ d.out.drop (k + 1)).Sublist d.out := by
    have h1 : (d.out.drop (k + 1)).Sublist (d.out.drop k) := by
      rw [show d.out.drop (k + 1) = (d.out.drop k).drop 1 by rw [List.drop_drop]]
      exact List.drop_sublist _ _
    have h2 := List.Sublist.append (List.Sublist.refl (d.out.take k)) h1
    rwa [List.take_append_drop] at h2
  refine ⟨h.bx, h.rm, h.tk, h.lo, h.cs, h.l, ?_, hh, h.srt.sublist hsub, fun m hm => h.ok m (hsub.subset hm), fun m hm => h.tks m (hsub.subset hm), h.nod.sublist hsub⟩
  have p1 : (m :: ls).Perm d.out := ((List.perm_append_singleton _ _).symm.trans hp).trans h.perm
  have p2 : d.out.Perm (m :: (d.out.take k ++ d.out.drop (k + 1))) := by
    have e : d.out = d.out.take k ++ m :: d.out.drop (k + 1) := by
      rw [← hm, ← List.drop_eq_getElem_cons hk, List.take_append_drop]
    conv => lhs; rw [e]
    exact List.perm_middle
  exact (p1.trans p2).cons_inv
theorem Rl.done {s : Dv} {d : Dc} (h : Rl s d) (h0 : 0 < s.ms.length) (k : Nat) (hk : dropAt d.out 0 true k) : Rl { s with ms := popF s.ms h0 } { d with out := d.out.take k ++ d.out.drop (k + 1) } := by
  have hl := h.len
  have hk0 : k = 0 := by
    rcases Nat.eq_zero_or_pos k with h1 | h1
    · exact h1
    · have := (hk.2 0 (by omega) h1).1; cases this
  subst hk0
  exact h.out (popF s.ms h0) s.ms[0] 0 (by omega) (h.head h0 (by omega)).symm (popF_perm s.ms h0) (pop_heap s.ms h0 h.hp)
theorem Rl.dist {s : Dv} {d : Dc} (h : Rl s d) : ∀ j k (hj : j < s.ms.length) (hk : k < s.ms.length), s.ms[j].tk = s.ms[k].tk → j = k := by
  have hn : s.ms.Pairwise (fun a b => a.tk ≠ b.tk) := (h.perm.pairwise_iff (fun {a b} hab => Ne.symm hab)).2 h.nod
  intro j k hj hk he
  rcases Nat.lt_trichotomy j k with h1 | h1 | h1
  · exact (List.pairwise_iff_getElem.1 hn j k hj hk h1 he).elim
  · exact h1
  · exact (List.pairwise_iff_getElem.1 hn k j hk hj h1 he.symm).elim
theorem Rl.drop {s : Dv} {d : Dc} (h : Rl s d) (t : Int) (k : Nat) (hk : dropAt d.out t false k) : (dropS s t).2 = true ∧ Rl (dropS s t).1 { d with out := d.out.take k ++ d.out.drop (k + 1) } := by
  obtain ⟨⟨hk1, hk2⟩, _⟩ := hk
  have hk2 : d.out[k].tk = t := by rcases hk2 with h | h; cases h; exact h
  have hm : d.out[k] ∈ s.ms := h.perm.mem_iff.2 (List.getElem_mem hk1)
  obtain ⟨i, hi, he⟩ := List.getElem_of_mem hm
  have hex : ∃ k, ∃ h : k < s.ms.length, s.ms[k].tk = t := ⟨i, hi, by rw [he, hk2]⟩
  unfold dropS
  rw [dif_pos hex]
  refine ⟨rfl, ?_⟩
  have hc := hex.choose_spec.choose_spec
  have hci : hex.choose = i := h.dist _ _ hex.choose_spec.choose hi (hc.trans (by rw [he, hk2]))
  refine h.out _ s.ms[i] k hk1 he.symm ?_ (rem_heap _ _ _ h.hp)
  have := remF_perm s.ms hex.choose hex.choose_spec.choose
  simp only [hci] at this ⊢
  exact this
theorem Rl.nodrop {s : Dv} {d : Dc} (h : Rl s d) (t : Int) (hk : ∀ j (hj : j < d.out.length), false = false ∧ d.out[j].tk ≠ t) : dropS s t = (s, false) := by
  unfold dropS
  rw [dif_neg]
  rintro ⟨k, hk', ht⟩
  obtain ⟨j, hj, he⟩ := List.getElem_of_mem (h.perm.mem_iff.1 (List.getElem_mem hk'))
  exact (hk j hj).2 (by rw [he]; exact ht)
theorem Rl.take {s : Dv} {d : Dc} (h : Rl s d) (f : Fr) : (takeS s f).2 = (takeC d f).2 ∧ Rl (takeS s f).1 (takeC d f).1 := by
  unfold takeS takeC
  rw [h.l, h.cs, h.rm]
  split
  · split
    · split
      · exact ⟨rfl, ⟨h.bx, by first | exact h.rm | rfl, h.tk, by show s.lo + 1 = d.lo + 1; rw [h.lo], by first | exact h.cs | rfl, by first | exact h.l | rfl, h.perm, h.hp, h.srt, h.ok, h.tks, h.nod⟩⟩
      · exact ⟨rfl, ⟨h.bx, by first | exact h.rm | rfl, h.tk, h.lo, by show _ = _; rfl, by first | exact h.l | rfl, h.perm, h.hp, h.srt, h.ok, h.tks, h.nod⟩⟩
    · exact ⟨rfl, h⟩
  · exact ⟨rfl, h⟩
theorem Rl.fetch {s : Dv} {d : Dc} (h : Rl s d) : (fetchS s).2 = (fetchC d).2 ∧ Rl (fetchS s).1 (fetchC d).1 := by
  unfold fetchS fetchC
  rw [h.cs]
  split
  · exact ⟨rfl, ⟨h.bx, h.rm, h.tk, h.lo, by show _ = _; rfl, h.l, h.perm, h.hp, h.srt, h.ok, h.tks, h.nod⟩⟩
  · exact ⟨rfl, h⟩
/-- Both drivers in one world. -/
structure Jt (D E : Nat) (s : Dv) (d : Dc) (vm vc vI : Value) (w : World) : Prop where
  dv : DvW D s vm vc w
  dc : DcW E d vI w
  sep : ∀ b, vI.ownBlock = some b → vc.ownBlock ≠ some b
theorem Jt.below {D E : Nat} {s : Dv} {d : Dc} {vm vc vI : Value} {w w' : World} (h : Jt D E s d vm vc vI w) (hb : Below w.heap.size w w') : Jt D E s d vm vc vI w' := ⟨h.dv.below hb, h.dc.below hb, h.sep⟩
theorem Jt.prog {D E : Nat} {s s' : Dv} {d : Dc} {vm vc vI vm' vc' : Value} {w w' : World} (h : Jt D E s d vm vc vI w) (h1 : DvW D s' vm' vc' w') (hk : Kz D vc vc' w w') : Jt D E s' d vm' vc' vI w' := by
  refine ⟨h1, h.dc.kz h.dv hk h.sep, fun b e e' => ?_⟩
  obtain ⟨A, fr, hb⟩ := h.dc.inn.typ b e
  exact h.sep b e (hk.news b (Array.getElem?_eq_some_iff.1 hb).1 e')
theorem Jt.doc {D E : Nat} {s : Dv} {d d' : Dc} {vm vc vI : Value} {w w' : World} (h : Jt D E s d vm vc vI w) (hDE : D < E) (hp : DcP E d' vI w w') : ∃ vI', Jt D E s d' vm vc vI' w' ∧ Below D w w' ∧ w.grownBy w' (some E) := by
  obtain ⟨vI', h1, h2, h3⟩ := hp
  have hl := h.dv.lt
  refine ⟨vI', ⟨h.dv.doc h.dc hDE h2, h1, fun b e e' => ?_⟩, ⟨h2.os, h2.tape, h2.output, h2.size, fun k hk => h2.block k (by omega) (by simp; omega)⟩, h2⟩
  obtain ⟨_, cur, hc⟩ := own_of h.dv.qu e'
  exact h.sep b (h3 b (Array.getElem?_eq_some_iff.1 hc).1 e) e'
theorem Aq.doc {E q : Nat} {d : Dc} {vI : Value} {w w' : World} {a : Ax} (h : Aq q a w) (hd : DcW E d vI w) (hg : w.grownBy w' (some E)) : Aq q a w' := by
  obtain ⟨vL, vO, h1, _⟩ := hd.ex
  refine (hg.block q h.lt (fun e => ?_)).trans h
  injection e with e
  unfold Aq at h
  rw [e, h1] at h
  simp at h
end Go.Proofs.Ytfddoindcmdooaa
namespace Go.Proofs.Ytfddoindcmdooaa
open Go.RowKit Go.Proofs.Bits
set_option linter.unusedVariables false
set_option maxRecDepth 1000000
set_option linter.unusedSimpArgs false

/-- Both drivers behind one call on each. -/
def DoesP (D E : Nat) (s : Dv) (w w' : World) : Prop := ∃ s' d' vm' vc' vI', Jt D E s' d' vm' vc' vI' w' ∧ Rl s' d' ∧ Below D w w' ∧ s'.tk ≤ s.tk + 1 ∧ s.lo ≤ s'.lo ∧ s'.lo ≤ s.lo + 1
set_option maxHeartbeats 4000000 in
theorem does5_k0 {D E : Nat} {s : Dv} {d : Dc} {vm vc vI : Value} {w : World} (a : Ax) (hJ : Jt D E s d vm vc vI w) (hR : Rl s d) (hDE : D < E) (ht : s.tk < 1152921504606846976) (hlo : 0 ≤ s.lo ∧ s.lo < 1152921504606846976) (hk : a.kd = 0) :
    Calls Try.prog 12 #[.pointer (some ⟨D, 0, none⟩), .pointer (some ⟨E, 0, none⟩), .agg a.arr] w fun e w' => e = .returned (.bool true) ∧ DoesP D E s w w' := by
  have lD := hJ.dv.lt
  obtain ⟨wa, hwa⟩ : ∃ wa, w.alloc (.cells a.arr 47) = wa := ⟨_, rfl⟩
  have ba : Below w.heap.size w wa := by rw [← hwa]; exact (Below.refl _ _).alloc (Nat.le_refl _) _
  have bD : Below D w wa := ba.mono (by omega)
  have qa : Aq w.heap.size a wa := by rw [← hwa]; exact Aq.new w a
  have ja := hJ.below ba
  obtain ⟨q, hq⟩ : ∃ q, w.heap.size = q := ⟨_, rfl⟩
  rw [hq] at qa
  have kq := qa.k
  clear ba hJ
  have d0 : (a.kd == 0) = true := by simpa using hk
  have hSd := Send_dv a.f ja.dv (by omega)
  have hfr := qa.fr
  generalize hr : sendS s a.f = r at *
  unfold Fr.val at hSd
  clear hk
  go_enter Try.func12, Try.ntmps12
  go_wp2_with (refine fld_ld5 hfr rfl _ rfl rfl ?_)
  refine hSd.mono ?_
  rintro e w2 ⟨rfl, vm2, D2, K2⟩
  have j2 := ja.prog D2 K2
  have q2 := qa.kz ja.dv K2
  have hfr2 := q2.fr
  have b2 : Below D w w2 := bD.trans (K2.belowD (Nat.le_of_lt ja.dv.lt))
  have hES := ESend_any j2.dc a.f hR.ok (by rw [← hR.tk]; omega)
  clear hSd qa q2 hfr D2 K2 ja bD hwa
  go_wp2_with (refine fld_ld5 hfr2 rfl _ rfl rfl ?_)
  refine hES.mono ?_
  rintro e w3 (⟨c1, rfl, P3⟩ | ⟨c1, c2, rfl, P3⟩ | ⟨c1, c2, rfl, k, hk, P3⟩)
  · have er : r = (s, 0, a.f.chk) := by rw [← hr]; unfold sendS; rw [if_neg c1]
    obtain ⟨vI3, j3, b3, _⟩ := j2.doc hDE P3
    rw [er] at j3
    have HX : Hid (DoesP D E s w w3) := ⟨s, d, vm2, vc, vI3, j3, hR, b2.trans b3, by omega, by omega, by omega⟩
    subst er
    clear hES P3 j2 j3 b3 b2 hr c1 hfr2
    generalize a.f.chk = z at *
    go_wp2
    go_ret
    exact ⟨rfl, HX.out⟩
  · have er : r = (s, 0, 31) := by rw [← hr]; unfold sendS; rw [if_pos c1, if_pos (by rw [hR.len, hR.bx]; exact c2)]
    obtain ⟨vI3, j3, b3, _⟩ := j2.doc hDE P3
    rw [er] at j3
    have HX : Hid (DoesP D E s w w3) := ⟨s, d, vm2, vc, vI3, j3, hR, b2.trans b3, by omega, by omega, by omega⟩
    subst er
    clear hES P3 j2 j3 b3 b2 hr c1 c2 hfr2
    go_wp2
    go_ret
    exact ⟨rfl, HX.out⟩
  · have er : r = ({ s with ms := upF (s.ms ++ [⟨a.f.plain, a.f.field, s.tk + 1⟩]) s.ms.length, tk := s.tk + 1 }, s.tk + 1, 0) := by rw [← hr]; unfold sendS; rw [if_pos c1, if_neg (by rw [hR.len, hR.bx]; omega)]
    obtain ⟨vI3, j3, b3, _⟩ := j2.doc hDE P3
    rw [er] at j3
    have HX : Hid (DoesP D E s w w3) := ⟨_, _, vm2, vc, vI3, j3, hR.send a.f c1 k hk, b2.trans b3, by show s.tk + 1 ≤ s.tk + 1; omega, by show s.lo ≤ s.lo; omega, by show s.lo ≤ s.lo + 1; omega⟩
    have htk := hR.tk
    subst er
    rw [htk]
    clear hES P3 j2 j3 b3 b2 hr c1 c2 hk hfr2
    generalize d.tk = z at *
    go_wp2
    go_ret
    exact ⟨rfl, HX.out⟩
end Go.Proofs.Ytfddoindcmdooaa
namespace Go.Proofs.Ytfddoindcmdooaa
open Go.RowKit Go.Proofs.Bits
set_option linter.unusedVariables false
set_option maxRecDepth 1000000
set_option linter.unusedSimpArgs false

set_option maxHeartbeats 4000000 in
theorem does5_k1 {D E : Nat} {s : Dv} {d : Dc} {vm vc vI : Value} {w : World} (a : Ax) (hJ : Jt D E s d vm vc vI w) (hR : Rl s d) (hDE : D < E) (ht : s.tk < 1152921504606846976) (hlo : 0 ≤ s.lo ∧ s.lo < 1152921504606846976) (hk : a.kd = 1) :
    Calls Try.prog 12 #[.pointer (some ⟨D, 0, none⟩), .pointer (some ⟨E, 0, none⟩), .agg a.arr] w fun e w' => e = .returned (.bool true) ∧ DoesP D E s w w' := by
  have lD := hJ.dv.lt
  obtain ⟨wa, hwa⟩ : ∃ wa, w.alloc (.cells a.arr 47) = wa := ⟨_, rfl⟩
  have ba : Below w.heap.size w wa := by rw [← hwa]; exact (Below.refl _ _).alloc (Nat.le_refl _) _
  have bD : Below D w wa := ba.mono (by omega)
  have qa : Aq w.heap.size a wa := by rw [← hwa]; exact Aq.new w a
  have ja := hJ.below ba
  obtain ⟨q, hq⟩ : ∃ q, w.heap.size = q := ⟨_, rfl⟩
  rw [hq] at qa
  have kq := qa.k
  clear ba hJ
  have d0 : (a.kd == 0) = false := by simp; omega
  have d1 : (a.kd == 1) = true := by simpa using hk
  have hN := Next_dv ja.dv
  have hnx := hR.next
  generalize hf0 : nextF s.ms = fb at *
  obtain ⟨f, bb⟩ := fb
  simp only at hN
  clear hk
  go_enter Try.func12, Try.ntmps12
  go_wp2_with fail
  refine hN.mono ?_
  rintro e w2 ⟨rfl, bq⟩
  have j2 := ja.below bq
  have b2 : Below D w w2 := bD.trans (bq.mono (Nat.le_of_lt ja.dv.lt))
  have gn := Fa.new w2 Fr.nul
  have g3 := gn.row f
  have b3 : Below w2.heap.size w2 ((w2.alloc (.cells Fr.nul.arr 45)).setRow w2.heap.size f.arr) := below_row ((Below.refl _ w2).alloc (Nat.le_refl _) _) (Nat.le_refl _) (by rw [size_alloc]; omega) _
  have j3 := j2.below b3
  have B3 : Below D w ((w2.alloc (.cells Fr.nul.arr 45)).setRow w2.heap.size f.arr) := b2.trans (b3.mono (Nat.le_of_lt j2.dv.lt))
  obtain ⟨q1, hq1⟩ : ∃ x, w2.heap.size = x := ⟨_, rfl⟩
  generalize hW3 : (w2.alloc (.cells Fr.nul.arr 45)).setRow w2.heap.size f.arr = w3 at *
  rw [hq1] at gn g3
  have hE := ENext_any j3.dc
  rw [← hnx] at hE
  simp only at hE
  clear hN qa hwa
  go_upto_region 8 with (refine gn.sd f rfl _ _ rfl rfl rfl ?_)
  rw [hq1] at hW3
  rw [hW3]
  clear gn hW3 b3 j2 b2
  go_wp2_with fail
  refine hE.mono ?_
  rintro e w4 ⟨rfl, b4⟩
  have g4 := g3.below5 b4
  have j4 := j3.below b4
  have B4 : Below D w w4 := B3.trans (b4.mono (Nat.le_of_lt j3.dv.lt))
  have hn4 := Fa.new w4 Fr.nul
  have h5 := hn4.row f
  have b5 : Below w4.heap.size w4 ((w4.alloc (.cells Fr.nul.arr 45)).setRow w4.heap.size f.arr) := below_row ((Below.refl _ w4).alloc (Nat.le_refl _) _) (Nat.le_refl _) (by rw [size_alloc]; omega) _
  have g5 := g4.below5 b5
  have j5 := j4.below b5
  have HX : Hid (DoesP D E s w ((w4.alloc (.cells Fr.nul.arr 45)).setRow w4.heap.size f.arr)) := ⟨_, _, _, _, _, j5, hR, B4.trans (b5.mono (Nat.le_of_lt j4.dv.lt)), by omega, by omega, by omega⟩
  obtain ⟨q2, hq2⟩ : ∃ x, w4.heap.size = x := ⟨_, rfl⟩
  have hss := frB_same f
  generalize hW5 : (w4.alloc (.cells Fr.nul.arr 45)).setRow w4.heap.size f.arr = w5 at *
  rw [hq2] at hn4 h5
  clear hE g3 g4 j4 B4 B3 j3 j5 b5
  go_upto_region 9 with (refine hn4.sd f rfl _ _ rfl rfl rfl ?_)
  rw [hq2] at hW5
  rw [hW5]
  clear hn4 hW5
  go_wp2_with (first | refine g5.ld rfl _ rfl rfl ?_ | refine h5.ld rfl _ rfl rfl ?_ | (refine eqw f f rfl _ _ rfl rfl rfl ?_; rw [hss]))
  go_ret
  exact ⟨rfl, HX.out⟩
end Go.Proofs.Ytfddoindcmdooaa
namespace Go.Proofs.Ytfddoindcmdooaa
open Go.RowKit Go.Proofs.Bits
set_option linter.unusedVariables false
set_option maxRecDepth 1000000
set_option linter.unusedSimpArgs false

set_option maxHeartbeats 4000000 in
theorem does5_k5 {D E : Nat} {s : Dv} {d : Dc} {vm vc vI : Value} {w : World} (a : Ax) (hJ : Jt D E s d vm vc vI w) (hR : Rl s d) (hDE : D < E) (ht : s.tk < 1152921504606846976) (hlo : 0 ≤ s.lo ∧ s.lo < 1152921504606846976) (hk : a.kd = 5) :
    Calls Try.prog 12 #[.pointer (some ⟨D, 0, none⟩), .pointer (some ⟨E, 0, none⟩), .agg a.arr] w fun e w' => e = .returned (.bool true) ∧ DoesP D E s w w' := by
  have lD := hJ.dv.lt
  obtain ⟨wa, hwa⟩ : ∃ wa, w.alloc (.cells a.arr 47) = wa := ⟨_, rfl⟩
  have ba : Below w.heap.size w wa := by rw [← hwa]; exact (Below.refl _ _).alloc (Nat.le_refl _) _
  have bD : Below D w wa := ba.mono (by omega)
  have qa : Aq w.heap.size a wa := by rw [← hwa]; exact Aq.new w a
  have ja := hJ.below ba
  obtain ⟨q, hq⟩ : ∃ q, w.heap.size = q := ⟨_, rfl⟩
  rw [hq] at qa
  have kq := qa.k
  clear ba hJ
  have d0 : (a.kd == 0) = false := by simp; omega
  have d1 : (a.kd == 1) = false := by simp; omega
  have d2 : (a.kd == 2) = false := by simp; omega
  have d3 : (a.kd == 3) = false := by simp; omega
  have d4 : (a.kd == 4) = false := by simp; omega
  have d5 : (a.kd == 5) = true := by simpa using hk
  have hN := Fetch_dv ja.dv
  obtain ⟨hfe, hRf⟩ := hR.fetch
  have hfs := fetch_same s
  generalize fetchS s = r at *
  obtain ⟨s1, f, bb⟩ := r
  simp only at hN hRf hfs
  clear hk
  go_enter Try.func12, Try.ntmps12
  go_wp2_with fail
  refine hN.mono ?_
  rintro e w2 ⟨rfl, vc2, D2, K2⟩
  have j2 := ja.prog D2 K2
  have b2 : Below D w w2 := bD.trans (K2.belowD (Nat.le_of_lt ja.dv.lt))
  have gn := Fa.new w2 Fr.nul
  have g3 := gn.row f
  have b3 : Below w2.heap.size w2 ((w2.alloc (.cells Fr.nul.arr 45)).setRow w2.heap.size f.arr) := below_row ((Below.refl _ w2).alloc (Nat.le_refl _) _) (Nat.le_refl _) (by rw [size_alloc]; omega) _
  have j3 := j2.below b3
  have B3 : Below D w ((w2.alloc (.cells Fr.nul.arr 45)).setRow w2.heap.size f.arr) := b2.trans (b3.mono (Nat.le_of_lt j2.dv.lt))
  obtain ⟨q1, hq1⟩ : ∃ x, w2.heap.size = x := ⟨_, rfl⟩
  generalize hW3 : (w2.alloc (.cells Fr.nul.arr 45)).setRow w2.heap.size f.arr = w3 at *
  rw [hq1] at gn g3
  have hE := EFetch_any j3.dc
  rw [← hfe] at hE
  simp only at hE
  clear hN qa hwa
  go_upto_region 18 with (refine gn.sd f rfl _ _ rfl rfl rfl ?_)
  rw [hq1] at hW3
  rw [hW3]
  have j2x : E < q1 := by rw [← hq1]; exact j2.dc.lt
  clear gn hW3 b3 j2 b2
  go_wp2_with fail
  refine hE.mono ?_
  rintro e w4 ⟨rfl, P4⟩
  obtain ⟨vI4, j4, bP, gP⟩ := j3.doc hDE P4
  have g4 : Fa q1 f w4 := (gP.block q1 g3.lt (by simp; have := j2x; omega)).trans g3
  have B4 : Below D w w4 := B3.trans bP
  have hn4 := Fa.new w4 Fr.nul
  have h5 := hn4.row f
  have b5 : Below w4.heap.size w4 ((w4.alloc (.cells Fr.nul.arr 45)).setRow w4.heap.size f.arr) := below_row ((Below.refl _ w4).alloc (Nat.le_refl _) _) (Nat.le_refl _) (by rw [size_alloc]; omega) _
  have g5 := g4.below5 b5
  have j5 := j4.below b5
  have HX : Hid (DoesP D E s w ((w4.alloc (.cells Fr.nul.arr 45)).setRow w4.heap.size f.arr)) := ⟨_, _, _, _, _, j5, hRf, B4.trans (b5.mono (Nat.le_of_lt j4.dv.lt)), by have := hfs.1.2.2.2; omega, by rw [hfs.2]; omega, by rw [hfs.2]; omega⟩
  obtain ⟨q2, hq2⟩ : ∃ x, w4.heap.size = x := ⟨_, rfl⟩
  have hss := frB_same f
  generalize hW5 : (w4.alloc (.cells Fr.nul.arr 45)).setRow w4.heap.size f.arr = w5 at *
  rw [hq2] at hn4 h5
  clear hE g3 g4 j4 B4 B3 j3 j5 b5
  go_upto_region 19 with (refine hn4.sd f rfl _ _ rfl rfl rfl ?_)
  rw [hq2] at hW5
  rw [hW5]
  clear hn4 hW5
  go_wp2_with (first | refine g5.ld rfl _ rfl rfl ?_ | refine h5.ld rfl _ rfl rfl ?_ | (refine eqw f f rfl _ _ rfl rfl rfl ?_; rw [hss]))
  go_ret
  exact ⟨rfl, HX.out⟩
end Go.Proofs.Ytfddoindcmdooaa
namespace Go.Proofs.Ytfddoindcmdooaa
open Go.RowKit Go.Proofs.Bits
set_option linter.unusedVariables false
set_option maxRecDepth 1000000
set_option linter.unusedSimpArgs false

set_option maxHeartbeats 4000000 in
theorem does5_k2 {D E : Nat} {s : Dv} {d : Dc} {vm vc vI : Value} {w : World} (a : Ax) (hJ : Jt D E s d vm vc vI w) (hR : Rl s d) (hDE : D < E) (ht : s.tk < 1152921504606846976) (hlo : 0 ≤ s.lo ∧ s.lo < 1152921504606846976) (hk : a.kd = 2) :
    Calls Try.prog 12 #[.pointer (some ⟨D, 0, none⟩), .pointer (some ⟨E, 0, none⟩), .agg a.arr] w fun e w' => e = .returned (.bool true) ∧ DoesP D E s w w' := by
  have lD := hJ.dv.lt
  obtain ⟨wa, hwa⟩ : ∃ wa, w.alloc (.cells a.arr 47) = wa := ⟨_, rfl⟩
  have ba : Below w.heap.size w wa := by rw [← hwa]; exact (Below.refl _ _).alloc (Nat.le_refl _) _
  have bD : Below D w wa := ba.mono (by omega)
  have qa : Aq w.heap.size a wa := by rw [← hwa]; exact Aq.new w a
  have ja := hJ.below ba
  obtain ⟨q, hq⟩ : ∃ q, w.heap.size = q := ⟨_, rfl⟩
  rw [hq] at qa
  have kq := qa.k
  clear ba hJ
  have d0 : (a.kd == 0) = false := by simp; omega
  have d1 : (a.kd == 1) = false := by simp; omega
  have d2 : (a.kd == 2) = true := by simpa using hk
  have hDn := Done_dv ja.dv
  generalize hr : doneS s = r at *
  clear hk
  go_enter Try.func12, Try.ntmps12
  go_wp2_with fail
  refine hDn.mono ?_
  rintro e w2 ⟨rfl, vm2, D2, K2⟩
  have j2 := ja.prog D2 K2
  have b2 : Below D w w2 := bD.trans (K2.belowD (Nat.le_of_lt ja.dv.lt))
  have hE := EDrop_any j2.dc 0 true
  have hl := hR.len
  clear hDn qa D2 K2 ja bD hwa
  go_wp2_with fail
  refine hE.mono ?_
  rintro e w3 (⟨rfl, k, hk, P3⟩ | ⟨rfl, hn, P3⟩)
  · have h0 : 0 < s.ms.length := by have := hk.1.choose; omega
    have er : r = ({ s with ms := popF s.ms h0 }, true) := by rw [← hr]; unfold doneS; rw [dif_pos h0]
    obtain ⟨vI3, j3, b3, _⟩ := j2.doc hDE P3
    rw [er] at j3
    have HX : Hid (DoesP D E s w w3) := ⟨_, _, vm2, vc, vI3, j3, hR.done h0 k hk, b2.trans b3, by show s.tk ≤ s.tk + 1; omega, by show s.lo ≤ s.lo; omega, by show s.lo ≤ s.lo + 1; omega⟩
    subst er
    clear hE P3 j2 j3 b3 b2 hr hk
    go_wp2
    go_ret
    exact ⟨rfl, HX.out⟩
  · have h0 : ¬ 0 < s.ms.length := fun h0 => by have := (hn 0 (by omega)).1; cases this
    have er : r = (s, false) := by rw [← hr]; unfold doneS; rw [dif_neg h0]
    obtain ⟨vI3, j3, b3, _⟩ := j2.doc hDE P3
    rw [er] at j3
    have HX : Hid (DoesP D E s w w3) := ⟨s, d, vm2, vc, vI3, j3, hR, b2.trans b3, by omega, by omega, by omega⟩
    subst er
    clear hE P3 j2 j3 b3 b2 hr hn h0
    go_wp2
    go_ret
    exact ⟨rfl, HX.out⟩
set_option maxHeartbeats 4000000 in
theorem does5_kx {D E : Nat} {s : Dv} {d : Dc} {vm vc vI : Value} {w : World} (a : Ax) (hJ : Jt D E s d vm vc vI w) (hR : Rl s d) (hDE : D < E) (ht : s.tk < 1152921504606846976) (hlo : 0 ≤ s.lo ∧ s.lo < 1152921504606846976) (hk0 : a.kd ≠ 0) (hk1 : a.kd ≠ 1) (hk2 : a.kd ≠ 2) (hk3 : a.kd ≠ 3) (hk4 : a.kd ≠ 4) (hk5 : a.kd ≠ 5) :
    Calls Try.prog 12 #[.pointer (some ⟨D, 0, none⟩), .pointer (some ⟨E, 0, none⟩), .agg a.arr] w fun e w' => e = .returned (.bool true) ∧ DoesP D E s w w' := by
  have lD := hJ.dv.lt
  obtain ⟨wa, hwa⟩ : ∃ wa, w.alloc (.cells a.arr 47) = wa := ⟨_, rfl⟩
  have ba : Below w.heap.size w wa := by rw [← hwa]; exact (Below.refl _ _).alloc (Nat.le_refl _) _
  have bD : Below D w wa := ba.mono (by omega)
  have qa : Aq w.heap.size a wa := by rw [← hwa]; exact Aq.new w a
  have ja := hJ.below ba
  obtain ⟨q, hq⟩ : ∃ q, w.heap.size = q := ⟨_, rfl⟩
  rw [hq] at qa
  have kq := qa.k
  clear ba hJ
  have d0 : (a.kd == 0) = false := by simpa using hk0
  have d1 : (a.kd == 1) = false := by simpa using hk1
  have d2 : (a.kd == 2) = false := by simpa using hk2
  have d3 : (a.kd == 3) = false := by simpa using hk3
  have d4 : (a.kd == 4) = false := by simpa using hk4
  have d5 : (a.kd == 5) = false := by simpa using hk5
  have HX : Hid (DoesP D E s w wa) := ⟨s, d, vm, vc, vI, ja, hR, bD, by omega, by omega, by omega⟩
  clear hk0 hk1 hk2 hk3 hk4 hk5 qa ja bD
  go_enter Try.func12, Try.ntmps12
  go_wp2
  go_ret
  exact ⟨rfl, HX.out⟩
end Go.Proofs.Ytfddoindcmdooaa
namespace Go.Proofs.Ytfddoindcmdooaa
open Go.RowKit Go.Proofs.Bits
set_option linter.unusedVariables false
set_option maxRecDepth 1000000
set_option linter.unusedSimpArgs false

theorem enterDrop : ∀ args x, (callFunc 26 args).run Try.prog x = .ok (.enter 26 args) x := fun _ _ => by rfl
theorem enterEDrop : ∀ args x, (callFunc 25 args).run Try.prog x = .ok (.enter 25 args) x := fun _ _ => by rfl
theorem drop_same (s : Dv) (t : Int) : Same4 s (dropS s t).1 ∧ (dropS s t).1.lo = s.lo := by
  unfold dropS Same4; split <;> simp <;> omega
set_option maxHeartbeats 4000000 in
theorem does5_k3 {D E : Nat} {s : Dv} {d : Dc} {vm vc vI : Value} {w : World} (a : Ax) (hJ : Jt D E s d vm vc vI w) (hR : Rl s d) (hDE : D < E) (ht : s.tk < 1152921504606846976) (hlo : 0 ≤ s.lo ∧ s.lo < 1152921504606846976) (hk : a.kd = 3) :
    Calls Try.prog 12 #[.pointer (some ⟨D, 0, none⟩), .pointer (some ⟨E, 0, none⟩), .agg a.arr] w fun e w' => e = .returned (.bool true) ∧ DoesP D E s w w' := by
  have lD := hJ.dv.lt
  obtain ⟨wa, hwa⟩ : ∃ wa, w.alloc (.cells a.arr 47) = wa := ⟨_, rfl⟩
  have ba : Below w.heap.size w wa := by rw [← hwa]; exact (Below.refl _ _).alloc (Nat.le_refl _) _
  have bD : Below D w wa := ba.mono (by omega)
  have qa : Aq w.heap.size a wa := by rw [← hwa]; exact Aq.new w a
  have ja := hJ.below ba
  obtain ⟨q, hq⟩ : ∃ q, w.heap.size = q := ⟨_, rfl⟩
  rw [hq] at qa
  have kq := qa.k
  clear ba hJ
  have d0 : (a.kd == 0) = false := by simp; omega
  have d1 : (a.kd == 1) = false := by simp; omega
  have d2 : (a.kd == 2) = false := by simp; omega
  have d3 : (a.kd == 3) = true := by simpa using hk
  clear hk
  go_enter Try.func12, Try.ntmps12
  go_wp2_with fail
  refine wp_region_held (S := Aq q a) (by kernel_rfl) ?_
  obtain ⟨w1, hw1⟩ : ∃ x : World, { wa with drawn := wa.drawn + 1 } = x := ⟨_, rfl⟩
  rw [hw1]
  have bq1 : Below wa.heap.size wa w1 := by rw [← hw1]; exact below_drawn (Below.refl _ _) 1
  have j1 := ja.below bq1
  have q1 := qa.below bq1
  have b1 : Below D w w1 := bD.trans (bq1.mono (Nat.le_of_lt ja.dv.lt))
  have hDn := Drop_dv a.tk j1.dv hR.dist
  have hsm := drop_same s a.tk
  generalize hr : dropS s a.tk = r at *
  clear hw1 bq1 ja qa bD kq
  refine wpAnyH_take (i := 0) (v := (.pointer (some ⟨D, 0, none⟩))) rfl (by kernel_rfl) (by kernel_rfl) (by kernel_rfl) (fun _ _ _ h => h) (.inl ⟨rfl, fun _ hS => rfl⟩) q1 ?_
  simp only [List.getElem_toArray, List.getElem_cons_succ, List.getElem_cons_zero, Act.put, List.setIfInBounds_toArray, List.set_cons_succ, List.set_cons_zero]
  refine wpAnyH_take (i := 1) (v := (.pointer (some ⟨q, 1, none⟩))) rfl (by kernel_rfl) (by kernel_rfl) (by kernel_rfl) (fun _ _ _ h => h) (.inl ⟨rfl, fun _ hS => by simp [execOp, go_sem, Act.eval]⟩) q1 ?_
  simp only [List.getElem_toArray, List.getElem_cons_succ, List.getElem_cons_zero, Act.put, List.setIfInBounds_toArray, List.set_cons_succ, List.set_cons_zero]
  refine wpAnyH_take (i := 2) (v := (.int .i64 a.tk)) rfl (by kernel_rfl) (by kernel_rfl) (by kernel_rfl) (fun _ _ _ h => h) (.inl ⟨rfl, fun _ hS => exec_load rfl rfl (load_int _ q 1 _ hS.t)⟩) q1 ?_
  simp only [List.getElem_toArray, List.getElem_cons_succ, List.getElem_cons_zero, Act.put, List.setIfInBounds_toArray, List.set_cons_succ, List.set_cons_zero]
  refine wpAnyH_take (i := 4) (v := (.pointer (some ⟨E, 0, none⟩))) rfl (by kernel_rfl) (by kernel_rfl) (by kernel_rfl) (fun _ _ _ h => h) (.inl ⟨rfl, fun _ hS => rfl⟩) q1 ?_
  simp only [List.getElem_toArray, List.getElem_cons_succ, List.getElem_cons_zero, Act.put, List.setIfInBounds_toArray, List.set_cons_succ, List.set_cons_zero]
  refine wpAnyH_take (i := 5) (v := (.pointer (some ⟨q, 1, none⟩))) rfl (by kernel_rfl) (by kernel_rfl) (by kernel_rfl) (fun _ _ _ h => h) (.inl ⟨rfl, fun _ hS => by simp [execOp, go_sem, Act.eval]⟩) q1 ?_
  simp only [List.getElem_toArray, List.getElem_cons_succ, List.getElem_cons_zero, Act.put, List.setIfInBounds_toArray, List.set_cons_succ, List.set_cons_zero]
  refine wpAnyH_take (i := 6) (v := (.int .i64 a.tk)) rfl (by kernel_rfl) (by kernel_rfl) (by kernel_rfl) (fun _ _ _ h => h) (.inl ⟨rfl, fun _ hS => exec_load rfl rfl (load_int _ q 1 _ hS.t)⟩) q1 ?_
  simp only [List.getElem_toArray, List.getElem_cons_succ, List.getElem_cons_zero, Act.put, List.setIfInBounds_toArray, List.set_cons_succ, List.set_cons_zero]
  refine wpAnyH_all (rs := [3]) (by kernel_rfl) (by simp) ?_
  intro k hk
  simp only [List.mem_cons, List.mem_nil_iff, or_false] at hk
  subst hk
  refine wpOp_run rfl rfl (wp_call_fn 26 #[.pointer (some ⟨D, 0, none⟩), .int .i64 a.tk] (by simp [execOp, go_sem, Act.eval, resolve, invoke, enterDrop]) (hDn.mono ?_))
  rintro e w2 ⟨rfl, vm2, D2, K2⟩
  have j2 := j1.prog D2 K2
  have q2 := q1.kz j1.dv K2
  have b2 : Below D w w2 := b1.trans (K2.belowD (Nat.le_of_lt j1.dv.lt))
  have hE := EDrop_any j2.dc a.tk false
  refine ⟨q2, ?_⟩
  simp only [List.getElem_toArray, List.getElem_cons_succ, List.getElem_cons_zero, Act.put, List.setIfInBounds_toArray, List.set_cons_succ, List.set_cons_zero]
  refine wpAnyH_all (rs := [7]) (by kernel_rfl) (by simp) ?_
  intro k hk
  simp only [List.mem_cons, List.mem_nil_iff, or_false] at hk
  subst hk
  refine wpOp_run rfl rfl (wp_call_fn 25 #[.pointer (some ⟨E, 0, none⟩), .int .i64 a.tk, .bool false] (by simp [execOp, go_sem, Act.eval, resolve, invoke, enterEDrop]) (hE.mono ?_))
  intro e w3 HP3
  have HP3' : e = .returned (.bool r.2) ∧ ∃ d3 vI3, Jt D E r.1 d3 vm2 vc vI3 w3 ∧ Rl r.1 d3 ∧ Below D w w3 ∧ Aq q a w3 ∧ Same4 s r.1 ∧ r.1.lo = s.lo := by
    rcases HP3 with ⟨rfl, k, hk, P3⟩ | ⟨rfl, hn, P3⟩
    · obtain ⟨vI3, j3, b3, g3⟩ := j2.doc hDE P3
      have hd := hR.drop a.tk k hk
      rw [hr] at hd
      exact ⟨by rw [hd.1], _, vI3, j3, hd.2, b2.trans b3, q2.doc j2.dc g3, hsm⟩
    · obtain ⟨vI3, j3, b3, g3⟩ := j2.doc hDE P3
      have hd := hR.nodrop a.tk hn
      rw [hr] at hd
      exact ⟨by rw [hd], d, vI3, j3, by rw [hd]; exact hR, b2.trans b3, q2.doc j2.dc g3, hsm⟩
  clear HP3
  obtain ⟨rfl, d3, vI3, j3, R3, b3, q3, sm3, lo3⟩ := HP3'
  refine ⟨q3, ?_⟩
  simp only [List.getElem_toArray, List.getElem_cons_succ, List.getElem_cons_zero, Act.put, List.setIfInBounds_toArray, List.set_cons_succ, List.set_cons_zero]
  refine wpAnyH_take (i := 8) (v := (.bool true)) rfl (by kernel_rfl) (by kernel_rfl) (by kernel_rfl) (fun _ _ _ h => h) (.inl ⟨rfl, fun _ hS => by simp [execOp, go_sem, Act.eval]⟩) q3 ?_
  simp only [List.getElem_toArray, List.getElem_cons_succ, List.getElem_cons_zero, Act.put, List.setIfInBounds_toArray, List.set_cons_succ, List.set_cons_zero]
  refine wpAnyH_take (i := 9) (v := (.bool true)) rfl (by kernel_rfl) (by kernel_rfl) (by kernel_rfl) (fun _ _ _ h => h) (.inl ⟨rfl, fun _ hS => rfl⟩) q3 ?_
  simp only [List.getElem_toArray, List.getElem_cons_succ, List.getElem_cons_zero, Act.put, List.setIfInBounds_toArray, List.set_cons_succ, List.set_cons_zero]
  refine wpAnyH_done (by kernel_rfl) ?_ _
  have HX : Hid (DoesP D E s w w3) := ⟨r.1, d3, vm2, vc, vI3, j3, R3, b3, sm3.2.2.2, by rw [lo3]; omega, by rw [lo3]; omega⟩
  clear hE hDn j2 j1 j3 q1 q2 q3 b1 b2 b3 R3 sm3 lo3 hr hsm D2 K2
  generalize r.2 = rb at *
  go_wp2
  go_ret
  exact ⟨rfl, HX.out⟩
end Go.Proofs.Ytfddoindcmdooaa
namespace Go.Proofs.Ytfddoindcmdooaa
open Go.RowKit Go.Proofs.Bits
set_option linter.unusedVariables false
set_option maxRecDepth 1000000
set_option linter.unusedSimpArgs false

theorem enterTk : ∀ args x, (callFunc 18 args).run Try.prog x = .ok (.enter 18 args) x := fun _ _ => by rfl
theorem enterETk : ∀ args x, (callFunc 27 args).run Try.prog x = .ok (.enter 27 args) x := fun _ _ => by rfl
theorem enterPs : ∀ args x, (callFunc 19 args).run Try.prog x = .ok (.enter 19 args) x := fun _ _ => by rfl
theorem enterEPs : ∀ args x, (callFunc 28 args).run Try.prog x = .ok (.enter 28 args) x := fun _ _ => by rfl
theorem PassD {D : Nat} {s : Dv} {vm vc : Value} {w : World} (f : Fr) (h : DvW D s vm vc w) : Calls Try.prog 19 #[.pointer (some ⟨D, 0, none⟩), .agg f.arr] w fun e w' => e = .returned (.bool (pasV s.l f)) ∧ Below w.heap.size w w' := by
  obtain ⟨g, h1, h2⟩ := h.at'
  obtain ⟨gs, h3⟩ := h2.fis
  exact Passes_any f h.l0 h1 h3
set_option maxHeartbeats 4000000 in
theorem does5_k4 {D E : Nat} {s : Dv} {d : Dc} {vm vc vI : Value} {w : World} (a : Ax) (hJ : Jt D E s d vm vc vI w) (hR : Rl s d) (hDE : D < E) (ht : s.tk < 1152921504606846976) (hlo : 0 ≤ s.lo ∧ s.lo < 1152921504606846976) (hk : a.kd = 4) :
    Calls Try.prog 12 #[.pointer (some ⟨D, 0, none⟩), .pointer (some ⟨E, 0, none⟩), .agg a.arr] w fun e w' => e = .returned (.bool true) ∧ DoesP D E s w w' := by
  have lD := hJ.dv.lt
  obtain ⟨wa, hwa⟩ : ∃ wa, w.alloc (.cells a.arr 47) = wa := ⟨_, rfl⟩
  have ba : Below w.heap.size w wa := by rw [← hwa]; exact (Below.refl _ _).alloc (Nat.le_refl _) _
  have bD : Below D w wa := ba.mono (by omega)
  have qa : Aq w.heap.size a wa := by rw [← hwa]; exact Aq.new w a
  have ja := hJ.below ba
  obtain ⟨q, hq⟩ : ∃ q, w.heap.size = q := ⟨_, rfl⟩
  rw [hq] at qa
  have kq := qa.k
  clear ba hJ
  have d0 : (a.kd == 0) = false := by simp; omega
  have d1 : (a.kd == 1) = false := by simp; omega
  have d2 : (a.kd == 2) = false := by simp; omega
  have d3 : (a.kd == 3) = false := by simp; omega
  have d4 : (a.kd == 4) = true := by simpa using hk
  clear hk
  go_enter Try.func12, Try.ntmps12
  go_wp2_with fail
  refine wp_region_held (S := Aq q a) (by kernel_rfl) ?_
  obtain ⟨w1, hw1⟩ : ∃ x : World, { wa with drawn := wa.drawn + 1 } = x := ⟨_, rfl⟩
  rw [hw1]
  have bq1 : Below wa.heap.size wa w1 := by rw [← hw1]; exact below_drawn (Below.refl _ _) 1
  have j1 := ja.below bq1
  have q1 := qa.below bq1
  have b1 : Below D w w1 := bD.trans (bq1.mono (Nat.le_of_lt ja.dv.lt))
  have hTk := Take_dv a.f j1.dv (by omega)
  unfold Fr.val at hTk
  obtain ⟨hTv, hTr⟩ := hR.take a.f
  have hsm := take_same s a.f
  clear hw1 bq1 ja qa bD kq
  refine wpAnyH_take (i := 0) (v := (.pointer (some ⟨D, 0, none⟩))) rfl (by kernel_rfl) (by kernel_rfl) (by kernel_rfl) (fun _ _ _ h => h) (.inl ⟨rfl, fun _ hS => rfl⟩) q1 ?_
  simp only [List.getElem_toArray, List.getElem_cons_succ, List.getElem_cons_zero, Act.put, List.setIfInBounds_toArray, List.set_cons_succ, List.set_cons_zero]
  refine wpAnyH_take (i := 1) (v := (.pointer (some ⟨q, 2, none⟩))) rfl (by kernel_rfl) (by kernel_rfl) (by kernel_rfl) (fun _ _ _ h => h) (.inl ⟨rfl, fun _ hS => by simp [execOp, go_sem, Act.eval]⟩) q1 ?_
  simp only [List.getElem_toArray, List.getElem_cons_succ, List.getElem_cons_zero, Act.put, List.setIfInBounds_toArray, List.set_cons_succ, List.set_cons_zero]
  refine wpAnyH_take (i := 2) (v := (.agg a.f.arr)) rfl (by kernel_rfl) (by kernel_rfl) (by kernel_rfl) (fun _ _ _ h => h) (.inl ⟨rfl, fun _ hS => exec_load rfl rfl (run_loadVar_mid (P := Try.prog) _ q 2 45 a.f.cells _ hS.fr Try.underlying45 rfl (by rw [infoF]; simp [Fr.cells, a.f.hdata]))⟩) q1 ?_
  simp only [List.getElem_toArray, List.getElem_cons_succ, List.getElem_cons_zero, Act.put, List.setIfInBounds_toArray, List.set_cons_succ, List.set_cons_zero]
  refine wpAnyH_take (i := 4) (v := (.pointer (some ⟨E, 0, none⟩))) rfl (by kernel_rfl) (by kernel_rfl) (by kernel_rfl) (fun _ _ _ h => h) (.inl ⟨rfl, fun _ hS => rfl⟩) q1 ?_
  simp only [List.getElem_toArray, List.getElem_cons_succ, List.getElem_cons_zero, Act.put, List.setIfInBounds_toArray, List.set_cons_succ, List.set_cons_zero]
  refine wpAnyH_take (i := 5) (v := (.pointer (some ⟨q, 2, none⟩))) rfl (by kernel_rfl) (by kernel_rfl) (by kernel_rfl) (fun _ _ _ h => h) (.inl ⟨rfl, fun _ hS => by simp [execOp, go_sem, Act.eval]⟩) q1 ?_
  simp only [List.getElem_toArray, List.getElem_cons_succ, List.getElem_cons_zero, Act.put, List.setIfInBounds_toArray, List.set_cons_succ, List.set_cons_zero]
  refine wpAnyH_take (i := 6) (v := (.agg a.f.arr)) rfl (by kernel_rfl) (by kernel_rfl) (by kernel_rfl) (fun _ _ _ h => h) (.inl ⟨rfl, fun _ hS => exec_load rfl rfl (run_loadVar_mid (P := Try.prog) _ q 2 45 a.f.cells _ hS.fr Try.underlying45 rfl (by rw [infoF]; simp [Fr.cells, a.f.hdata]))⟩) q1 ?_
  simp only [List.getElem_toArray, List.getElem_cons_succ, List.getElem_cons_zero, Act.put, List.setIfInBounds_toArray, List.set_cons_succ, List.set_cons_zero]
  refine wpAnyH_all (rs := [3]) (by kernel_rfl) (by simp) ?_
  intro k hk
  simp only [List.mem_cons, List.mem_nil_iff, or_false] at hk
  subst hk
  refine wpOp_run rfl rfl (wp_call_fn 18 #[.pointer (some ⟨D, 0, none⟩), .agg a.f.arr] (by simp [execOp, go_sem, Act.eval, resolve, invoke, enterTk]) (hTk.mono ?_))
  rintro e w2 ⟨rfl, vc2, D2, K2⟩
  have j2 := j1.prog D2 K2
  have q2 := q1.kz j1.dv K2
  have b2 : Below D w w2 := b1.trans (K2.belowD (Nat.le_of_lt j1.dv.lt))
  have hE := ETake_any j2.dc a.f (by rw [← hR.lo]; omega)
  rw [← hTv] at hE
  refine ⟨q2, ?_⟩
  simp only [List.getElem_toArray, List.getElem_cons_succ, List.getElem_cons_zero, Act.put, List.setIfInBounds_toArray, List.set_cons_succ, List.set_cons_zero]
  refine wpAnyH_all (rs := [7]) (by kernel_rfl) (by simp) ?_
  intro k hk
  simp only [List.mem_cons, List.mem_nil_iff, or_false] at hk
  subst hk
  refine wpOp_run rfl rfl (wp_call_fn 27 #[.pointer (some ⟨E, 0, none⟩), .agg a.f.arr] (by simp [execOp, go_sem, Act.eval, resolve, invoke, enterETk]) (hE.mono ?_))
  rintro e w3 ⟨rfl, P3⟩
  obtain ⟨vI3, j3, bP, gP⟩ := j2.doc hDE P3
  have q3 := q2.doc j2.dc gP
  have b3 := b2.trans bP
  have hP := PassD a.f j3.dv
  refine ⟨q3, ?_⟩
  simp only [List.getElem_toArray, List.getElem_cons_succ, List.getElem_cons_zero, Act.put, List.setIfInBounds_toArray, List.set_cons_succ, List.set_cons_zero]
  refine wpAnyH_take (i := 8) (v := (.bool true)) rfl (by kernel_rfl) (by kernel_rfl) (by kernel_rfl) (fun _ _ _ h => h) (.inl ⟨rfl, fun _ hS => by simp [execOp, go_sem, Act.eval]⟩) q3 ?_
  simp only [List.getElem_toArray, List.getElem_cons_succ, List.getElem_cons_zero, Act.put, List.setIfInBounds_toArray, List.set_cons_succ, List.set_cons_zero]
  refine wpAnyH_take (i := 9) (v := (.bool true)) rfl (by kernel_rfl) (by kernel_rfl) (by kernel_rfl) (fun _ _ _ h => h) (.inl ⟨rfl, fun _ hS => rfl⟩) q3 ?_
  simp only [List.getElem_toArray, List.getElem_cons_succ, List.getElem_cons_zero, Act.put, List.setIfInBounds_toArray, List.set_cons_succ, List.set_cons_zero]
  refine wpAnyH_take (i := 10) (v := (.pointer (some ⟨D, 0, none⟩))) rfl (by kernel_rfl) (by kernel_rfl) (by kernel_rfl) (fun _ _ _ h => h) (.inl ⟨rfl, fun _ hS => rfl⟩) q3 ?_
  simp only [List.getElem_toArray, List.getElem_cons_succ, List.getElem_cons_zero, Act.put, List.setIfInBounds_toArray, List.set_cons_succ, List.set_cons_zero]
  refine wpAnyH_take (i := 11) (v := (.pointer (some ⟨q, 2, none⟩))) rfl (by kernel_rfl) (by kernel_rfl) (by kernel_rfl) (fun _ _ _ h => h) (.inl ⟨rfl, fun _ hS => by simp [execOp, go_sem, Act.eval]⟩) q3 ?_
  simp only [List.getElem_toArray, List.getElem_cons_succ, List.getElem_cons_zero, Act.put, List.setIfInBounds_toArray, List.set_cons_succ, List.set_cons_zero]
  refine wpAnyH_take (i := 12) (v := (.agg a.f.arr)) rfl (by kernel_rfl) (by kernel_rfl) (by kernel_rfl) (fun _ _ _ h => h) (.inl ⟨rfl, fun _ hS => exec_load rfl rfl (run_loadVar_mid (P := Try.prog) _ q 2 45 a.f.cells _ hS.fr Try.underlying45 rfl (by rw [infoF]; simp [Fr.cells, a.f.hdata]))⟩) q3 ?_
  simp only [List.getElem_toArray, List.getElem_cons_succ, List.getElem_cons_zero, Act.put, List.setIfInBounds_toArray, List.set_cons_succ, List.set_cons_zero]
  refine wpAnyH_take (i := 14) (v := (.pointer (some ⟨E, 0, none⟩))) rfl (by kernel_rfl) (by kernel_rfl) (by kernel_rfl) (fun _ _ _ h => h) (.inl ⟨rfl, fun _ hS => rfl⟩) q3 ?_
  simp only [List.getElem_toArray, List.getElem_cons_succ, List.getElem_cons_zero, Act.put, List.setIfInBounds_toArray, List.set_cons_succ, List.set_cons_zero]
  refine wpAnyH_take (i := 15) (v := (.pointer (some ⟨q, 2, none⟩))) rfl (by kernel_rfl) (by kernel_rfl) (by kernel_rfl) (fun _ _ _ h => h) (.inl ⟨rfl, fun _ hS => by simp [execOp, go_sem, Act.eval]⟩) q3 ?_
  simp only [List.getElem_toArray, List.getElem_cons_succ, List.getElem_cons_zero, Act.put, List.setIfInBounds_toArray, List.set_cons_succ, List.set_cons_zero]
  refine wpAnyH_take (i := 16) (v := (.agg a.f.arr)) rfl (by kernel_rfl) (by kernel_rfl) (by kernel_rfl) (fun _ _ _ h => h) (.inl ⟨rfl, fun _ hS => exec_load rfl rfl (run_loadVar_mid (P := Try.prog) _ q 2 45 a.f.cells _ hS.fr Try.underlying45 rfl (by rw [infoF]; simp [Fr.cells, a.f.hdata]))⟩) q3 ?_
  simp only [List.getElem_toArray, List.getElem_cons_succ, List.getElem_cons_zero, Act.put, List.setIfInBounds_toArray, List.set_cons_succ, List.set_cons_zero]
  refine wpAnyH_all (rs := [13]) (by kernel_rfl) (by simp) ?_
  intro k hk
  simp only [List.mem_cons, List.mem_nil_iff, or_false] at hk
  subst hk
  refine wpOp_runw rfl rfl (wp_call_fn 19 #[.pointer (some ⟨D, 0, none⟩), .agg a.f.arr] (by simp [execOp, go_sem, Act.eval, resolve, invoke, enterPs]) (hP.mono ?_))
  rintro e w4 ⟨rfl, bq4⟩
  have j4 := j3.below bq4
  have q4 := q3.below bq4
  have b4 : Below D w w4 := b3.trans (bq4.mono (Nat.le_of_lt j3.dv.lt))
  have hP2 := EPasses_any j4.dc a.f
  rw [← hTr.l] at hP2
  refine ⟨q4, ?_⟩
  simp only [List.getElem_toArray, List.getElem_cons_succ, List.getElem_cons_zero, Act.put, List.setIfInBounds_toArray, List.set_cons_succ, List.set_cons_zero]
  refine wpAnyH_all (rs := [17]) (by kernel_rfl) (by simp) ?_
  intro k hk
  simp only [List.mem_cons, List.mem_nil_iff, or_false] at hk
  subst hk
  refine wpOp_runw rfl rfl (wp_call_fn 28 #[.pointer (some ⟨E, 0, none⟩), .agg a.f.arr] (by simp [execOp, go_sem, Act.eval, resolve, invoke, enterEPs]) (hP2.mono ?_))
  rintro e w5 ⟨rfl, bq5⟩
  have j5 := j4.below bq5
  have q5 := q4.below bq5
  have b5 : Below D w w5 := b4.trans (bq5.mono (Nat.le_of_lt j4.dv.lt))
  refine ⟨q5, ?_⟩
  simp only [List.getElem_toArray, List.getElem_cons_succ, List.getElem_cons_zero, Act.put, List.setIfInBounds_toArray, List.set_cons_succ, List.set_cons_zero]
  refine wpAnyH_take (i := 18) (v := (.bool true)) rfl (by kernel_rfl) (by kernel_rfl) (by kernel_rfl) (fun _ _ _ h => h) (.inl ⟨rfl, fun _ hS => by simp [execOp, go_sem, Act.eval]⟩) q5 ?_
  simp only [List.getElem_toArray, List.getElem_cons_succ, List.getElem_cons_zero, Act.put, List.setIfInBounds_toArray, List.set_cons_succ, List.set_cons_zero]
  refine wpAnyH_take (i := 19) (v := (.bool true)) rfl (by kernel_rfl) (by kernel_rfl) (by kernel_rfl) (fun _ _ _ h => h) (.inl ⟨rfl, fun _ hS => by simp [execOp, go_sem, Act.eval]⟩) q5 ?_
  simp only [List.getElem_toArray, List.getElem_cons_succ, List.getElem_cons_zero, Act.put, List.setIfInBounds_toArray, List.set_cons_succ, List.set_cons_zero]
  refine wpAnyH_take (i := 20) (v := (.bool true)) rfl (by kernel_rfl) (by kernel_rfl) (by kernel_rfl) (fun _ _ _ h => h) (.inl ⟨rfl, fun _ hS => rfl⟩) q5 ?_
  simp only [List.getElem_toArray, List.getElem_cons_succ, List.getElem_cons_zero, Act.put, List.setIfInBounds_toArray, List.set_cons_succ, List.set_cons_zero]
  refine wpAnyH_done (by kernel_rfl) ?_ _
  have HX : Hid (DoesP D E s w w5) := ⟨_, _, vm, vc2, vI3, j5, hTr, b5, hsm.1.2.2.2, by rw [hsm.2]; split <;> omega, by rw [hsm.2]; split <;> omega⟩
  clear hE hTk j1 j2 j3 j4 j5 q1 q2 q3 q4 q5 b1 b2 b3 b4 b5 hP hP2 hTr hTv hsm D2 K2 P3 bP gP
  generalize pasV _ a.f = pv at *
  go_wp2
  go_ret
  exact ⟨rfl, HX.out⟩
end Go.Proofs.Ytfddoindcmdooaa
