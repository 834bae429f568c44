/- Both watchers in one world; what a round of news says of who is there. -/
import Derived.Test.YtceomfefffngaaaBwV
namespace Go.Proofs.Ytceomfefffngaaa
open Go.RowKit
set_option linter.unusedVariables false
set_option maxRecDepth 1000000
set_option linter.unusedSimpArgs false
theorem isW_at {l : List Wt} (h : OkW l) {R : Nat} (hR : R < l.length) : isW l l[R].nd = decide (l[R].is = 1) := by
  unfold isW
  have e := fw_at h hR
  rw [dif_pos (by rw [e]; exact hR)]
  simp only [e]
/-- News that fit what was known and what is known then. -/
structure NsOk (l l' : List Wt) (ns : List Ne) : Prop where
  m : ∀ n ∈ ns, n.nd ∈ l.map Wt.nd
  nodup : (ns.map Ne.nd).Nodup
  wh : ∀ n ∈ ns, n.wh = 0 ∨ (n.wh = 1 ∧ isW l n.nd = false) ∨ (n.wh = 2 ∧ isW l n.nd = true) ∨ (n.wh = 3 ∧ isW l n.nd = true)
  is : ∀ n ∈ ns, isW l' n.nd = (n.wh == 1 || n.wh == 2)
  out : ∀ c ∈ l.map Wt.nd, c ∉ ns.map Ne.nd → isW l' c = isW l c
theorem NsOk.take {l : List Wt} (h : OkW l) (n : Int) (b : List UInt8) : NsOk l (takeW l n b) (saysW l n b) := by
  by_cases hk : fw l n < l.length
  · by_cases hb : ∃ c, b = [c] ∧ isB c.toNat = true
    · obtain ⟨c, rfl, hc⟩ := hb
      obtain ⟨_, h2, h3⟩ := take_yes l n c hk hc
      have hn := fw_nd l n hk
      have e0 := isW_at h hk
      rw [hn] at e0
      have h' := h.take n [c]
      have hk' : fw l n < (takeW l n [c]).length := by rw [takeW_len]; exact hk
      have e1 := isW_at h' hk'
      have e2 : (takeW l n [c])[fw l n] = l[fw l n].beat c.toNat := by simp [h3]
      rw [e2, Wt.beat_nd, hn] at e1
      have hout : ∀ d ∈ l.map Wt.nd, d ≠ n → isW (takeW l n [c]) d = isW l d := fun d hd hdn => by
        obtain ⟨x, hx, rfl⟩ := List.mem_map.1 hd
        obtain ⟨R, hR, rfl⟩ := List.getElem_of_mem hx
        have hRf : fw l n ≠ R := fun e => hdn (by subst e; exact hn)
        have f1 := isW_at h hR
        have f2 := isW_at h' (R := R) (by rw [takeW_len]; exact hR)
        have f3 : (takeW l n [c])[R]'(by rw [takeW_len]; exact hR) = l[R] := by simp [h3, List.getElem_set_ne hRf]
        rw [f3] at f2
        rw [f1, f2]
      have hmem : n ∈ l.map Wt.nd := by rw [← hn]; exact List.mem_map_of_mem (List.getElem_mem hk)
      rw [h2]
      generalize l[fw l n] = z at *
      unfold Wt.says
      unfold Wt.beat at e1
      by_cases h0 : c.toNat = 0
      · rw [if_pos h0] at e1 ⊢
        refine ⟨fun m hm => ?_, by simp, fun m hm => ?_, fun m hm => ?_, fun d hd hdn => hout d hd (fun e => hdn (by simp [e, hn]))⟩
        all_goals
          simp at hm
          subst hm
          simp only
        · rw [hn]; exact hmem
        · exact .inl (by trivial)
        · rw [hn, e1]; rfl
      · rw [if_neg h0] at e1 ⊢
        by_cases h1 : z.is = 1
        · rw [if_neg (by omega)]
          by_cases hs : z.st = c.toNat
          · rw [if_neg (by omega)]
            refine ⟨by simp, by simp, by simp, by simp, fun d hd _ => ?_⟩
            by_cases hdn : d = n
            · rw [hdn, e1, e0]; simp [h1]
            · exact hout d hd hdn
          · rw [if_pos hs]
            refine ⟨fun m hm => ?_, by simp, fun m hm => ?_, fun m hm => ?_, fun d hd hdn => hout d hd (fun e => hdn (by simp [e, hn]))⟩
            all_goals
              simp at hm
              subst hm
              simp only
            · rw [hn]; exact hmem
            · exact .inr (.inr (.inl ⟨by trivial, by rw [hn, e0]; simp [h1]⟩))
            · rw [hn, e1]; rfl
        · rw [if_pos h1]
          refine ⟨fun m hm => ?_, by simp, fun m hm => ?_, fun m hm => ?_, fun d hd hdn => hout d hd (fun e => hdn (by simp [e, hn]))⟩
          all_goals
            simp at hm
            subst hm
            simp only
          · rw [hn]; exact hmem
          · exact .inr (.inl ⟨by trivial, by rw [hn, e0]; simp [h1]⟩)
          · rw [hn, e1]; rfl
    · have hz : saysW l n b = [] ∧ takeW l n b = l := by
        match b, hb with
        | [], _ => exact ⟨rfl, rfl⟩
        | [c], hb =>
          have hc : isB c.toNat = false := by
            cases h5 : isB c.toNat
            · rfl
            · exact absurd ⟨c, rfl, h5⟩ hb
          exact (take_none l n c hc).2
        | _ :: _ :: _, _ => exact ⟨rfl, rfl⟩
      rw [hz.1, hz.2]
      exact ⟨by simp, by simp, by simp, by simp, fun _ _ _ => rfl⟩
  · have hz := (take_out l n b hk).2
    rw [hz.1, hz.2]
    exact ⟨by simp, by simp, by simp, by simp, fun _ _ _ => rfl⟩
theorem tells_sub : ∀ (l : List Wt), ((tellsW l).map Ne.nd).Sublist (l.map Wt.nd)
  | [] => by simp [tellsW]
  | x :: r => by
    have h1 : tellsW (x :: r) = x.tells ++ tellsW r := rfl
    rw [h1, List.map_append, List.map_cons]
    unfold Wt.tells
    split
    · exact (tells_sub r).cons_cons _
    · exact (tells_sub r).cons _
theorem NsOk.tick {l : List Wt} (h : OkW l) : NsOk l (tickW l) (tellsW l) := by
  have h' := h.tick
  have hat : ∀ R (hR : R < l.length), isW (tickW l) l[R].nd = decide (l[R].tick.is = 1) := fun R hR => by
    have hR' : R < (tickW l).length := by unfold tickW; simpa using hR
    have e := isW_at h' hR'
    have e2 : (tickW l)[R] = l[R].tick := by have := tickW_get l R hR; rw [List.getElem?_eq_getElem hR'] at this; exact Option.some.inj this
    rw [e2, Wt.tick_nd] at e
    exact e
  have hmem : ∀ n ∈ tellsW l, ∃ R, ∃ hR : R < l.length, n = ⟨l[R].nd, 3, l[R].st⟩ ∧ l[R].is = 1 ∧ l[R].si + 1 = l[R].tk := fun n hn => by
    unfold tellsW at hn
    obtain ⟨x, hx, hnx⟩ := List.mem_flatMap.1 hn
    obtain ⟨R, hR, rfl⟩ := List.getElem_of_mem hx
    unfold Wt.tells at hnx
    split at hnx
    · rename_i hc
      simp at hnx
      exact ⟨R, hR, hnx, hc⟩
    · simp at hnx
  refine ⟨fun n hn => ?_, (tells_sub l).nodup h.nd, fun n hn => ?_, fun n hn => ?_, fun c hc hcn => ?_⟩
  · obtain ⟨R, hR, rfl, _, _⟩ := hmem n hn
    exact List.mem_map_of_mem (List.getElem_mem hR)
  · obtain ⟨R, hR, rfl, h1, _⟩ := hmem n hn
    exact .inr (.inr (.inr ⟨rfl, by show isW l l[R].nd = true; rw [isW_at h hR]; simp [h1]⟩))
  · obtain ⟨R, hR, rfl, h1, h2⟩ := hmem n hn
    show isW (tickW l) l[R].nd = _
    rw [hat R hR]
    simp [Wt.tick, h1, h2]
  · obtain ⟨x, hx, rfl⟩ := List.mem_map.1 hc
    obtain ⟨R, hR, rfl⟩ := List.getElem_of_mem hx
    rw [hat R hR, isW_at h hR]
    by_cases h1 : l[R].is = 1
    · by_cases h2 : l[R].si + 1 = l[R].tk
      · exfalso
        apply hcn
        refine List.mem_map.2 ⟨⟨l[R].nd, 3, l[R].st⟩, ?_, rfl⟩
        unfold tellsW
        exact List.mem_flatMap.2 ⟨l[R], hx, by unfold Wt.tells; rw [if_pos ⟨h1, h2⟩]; simp⟩
      · simp [Wt.tick, h1, h2]
    · simp [Wt.tick, h1]
/-- Who is there, behind the first k pieces of news. -/
def Th (l l' : List Wt) (ns : List Ne) (k : Nat) (A : Array Value) : Prop :=
  A.size = 128 ∧ ∀ c ∈ l.map Wt.nd, A[c.toNat]? = some (.bool (if c ∈ (ns.take k).map Ne.nd then isW l' c else isW l c))
theorem Th.start {l l' : List Wt} {ns : List Ne} {A : Array Value} (hs : A.size = 128) (h : ∀ c ∈ l.map Wt.nd, A[c.toNat]? = some (.bool (isW l c))) : Th l l' ns 0 A := ⟨hs, fun c hc => by simpa using h c hc⟩
theorem Th.done {l l' : List Wt} {ns : List Ne} {A : Array Value} {k : Nat} (hN : NsOk l l' ns) (h : Th l l' ns k A) (hk : ns.length ≤ k) (he : l'.map Wt.nd = l.map Wt.nd) : A.size = 128 ∧ ∀ c ∈ l'.map Wt.nd, A[c.toNat]? = some (.bool (isW l' c)) := by
  refine ⟨h.1, fun c hc => ?_⟩
  rw [he] at hc
  rw [h.2 c hc, List.take_of_length_le hk]
  split
  · rfl
  · rename_i hn
    rw [hN.out c hc hn]
theorem Th.at {l l' : List Wt} {ns : List Ne} {A : Array Value} {k : Nat} (hO : OkW l) (hN : NsOk l l' ns) (h : Th l l' ns k A) (hk : k < ns.length) :
    ∃ C : Nat, ns[k].nd = (C : Int) ∧ C < 128 ∧ A[C]? = some (.bool (isW l ns[k].nd)) ∧ Th l l' ns (k + 1) (A.setIfInBounds C (.bool (ns[k].wh == 1 || ns[k].wh == 2))) := by
  have hm := hN.m _ (List.getElem_mem hk)
  have hb : ∀ c ∈ l.map Wt.nd, 1 ≤ c ∧ c ≤ 127 := fun c hc => by
    obtain ⟨x, hx, rfl⟩ := List.mem_map.1 hc
    exact ⟨(hO.ok x hx).n0, (hO.ok x hx).n1⟩
  have hb1 := hb _ hm
  have hnot : ns[k].nd ∉ (ns.take k).map Ne.nd := fun hin => by
    have hp := List.pairwise_iff_getElem.1 hN.nodup
    obtain ⟨n, hn, hne⟩ := List.mem_map.1 hin
    obtain ⟨i, hi, rfl⟩ := List.mem_take_iff_getElem.1 hn
    have := hp i k (by simp; omega) (by simpa using hk) (by omega)
    apply this
    simpa using hne
  refine ⟨ns[k].nd.toNat, by omega, by omega, by rw [h.2 _ hm, if_neg hnot], by rw [Array.size_setIfInBounds]; exact h.1, fun c hc => ?_⟩
  have hbc := hb c hc
  rw [Array.getElem?_setIfInBounds, List.take_succ_eq_append_getElem hk, List.map_append]
  by_cases hcn : c = ns[k].nd
  · subst hcn
    rw [if_pos rfl, if_pos (by rw [h.1]; omega), if_pos (by simp), hN.is _ (List.getElem_mem hk)]
  · rw [if_neg (by omega), h.2 c hc]
    congr 2
    simp [hcn]
/-- Both watchers and the row of who is there, in one world. -/
structure WA (w : World) (p g : Nat) (v : Value) (gd : Nat) (lv sv : Value) (L : List Wq) (tb : Nat) (l m : List Wt) (A : Array Value) (x : World) : Prop where
  a : Lw w p g v l x
  d : Ld w p gd lv sv L m x
  t : Bc 4 tb A x
structure WD (p g : Nat) (v : Value) (gd : Nat) (sv : Value) (tb : Nat) : Prop where
  h1 : v.ownBlock ≠ some gd
  h2 : ∀ k, sv.ownBlock = some k → v.ownBlock ≠ some k
  h3 : v.ownBlock ≠ some tb
  h4 : sv.ownBlock ≠ some g
  h5 : sv.ownBlock ≠ some tb
  h6 : tb ≠ g
  h7 : tb ≠ gd
  h8 : p ≤ tb
section
variable {w x y wr X1 : World} {p g gd tb : Nat} {v lv sv : Value} {L : List Wq} {l m : List Wt} {A : Array Value}
theorem WA.below (h : WA w p g v gd lv sv L tb l m A x) (t : Below x.heap.size x y) : WA w p g v gd lv sv L tb l m A y := ⟨h.a.below t, h.d.below t, h.t.below t⟩
theorem WA.drawn (h : WA w p g v gd lv sv L tb l m A x) (n : Nat) : WA w p g v gd lv sv L tb l m A (x.drewN n) := ⟨h.a.drawn n, h.d.drawn n, h.t⟩
theorem WA.one (D : WD p g v gd sv tb) (h : WA w p g v gd lv sv L tb l m A x) {l' : List Wt} (a : Lw w p g v l' y) (t : x.grownBy y v.ownBlock) : WA w p g v gd lv sv L tb l' m A y :=
  ⟨a, h.d.grown t h.a.hv D.h1 D.h2, h.t.grown18 t D.h3⟩
theorem WA.two (D : WD p g v gd sv tb) (h : WA w p g v gd lv sv L tb l m A x) {m' : List Wt} (d : Ld w p gd lv sv L m' y) (t : x.grownBy y sv.ownBlock) : WA w p g v gd lv sv L tb l m' A y :=
  ⟨h.a.grown t h.d.hs D.h4 (fun k hk e => D.h2 k e hk), d, h.t.grown18 t D.h5⟩
theorem WA.thr (D : WD p g v gd sv tb) (h : WA w p g v gd lv sv L tb l m A x) (C : Nat) (u : Value) : WA w p g v gd lv sv L tb l m (A.setIfInBounds C u) (x.setCell ⟨tb, C, none⟩ u) := by
  have G : x.grownBy (x.setCell ⟨tb, C, none⟩ u) (some tb) := by rw [one_set]; exact grown_put _ _ _ _
  exact ⟨h.a.grown G (fun k hk => by injection hk with hk; subst hk; exact D.h8) (fun e => D.h6 (by injection e)) (fun k hk e => D.h3 (by rw [hk, ← e])), h.d.grown G (fun k hk => by injection hk with hk; subst hk; exact D.h8) (fun e => D.h7 (by injection e)) (fun k hk e => D.h5 (by rw [hk, ← e])), Bc.set h.t C u⟩
theorem Nw.thr (h : WA w p g v gd lv sv L tb l m A x) (C : Nat) (u : Value) {B : Nat} {nv : Value} {ns : List Ne} (hN : Nw B nv ns x) : Nw B nv ns (x.setCell ⟨tb, C, none⟩ u) := by
  rw [one_set]
  refine hN.grown (grown_put _ _ _ _) (fun k hk e => ?_)
  injection e with e
  obtain ⟨_, cur, hc⟩ := own_of hN hk
  have := h.t
  unfold Bc at this
  rw [e, hc] at this
  simp at this
theorem Ld.keep (h : Ld w p gd lv sv L m x) {z : World} (t : x.grownBy z sv.ownBlock) {B : Nat} {nv : Value} {ns : List Ne} (hN : Nw B nv ns x) : Nw B nv ns z :=
  hN.grown t (fun k hk e => (h.raw.apart hN).2 k e hk)
theorem WA.tick1 (D : WD p g v gd sv tb) (h : WA w p g v gd lv sv L tb l m A x) : Calls Try.prog 17 #[.pointer (some ⟨g, 0, none⟩)] x fun e z => ∃ ao cap, e = .returned (.slice ao (tellsW l).length cap) ∧ Nw x.heap.size (.slice ao (tellsW l).length cap) (tellsW l) z ∧ WA w p g v gd lv sv L tb (tickW l) m A z := by
  refine h.a.tick.mono ?_
  rintro e z ⟨ao, cap, rfl, N, W, G⟩
  exact ⟨ao, cap, rfl, N, h.one D W G⟩
theorem WA.tick2 (D : WD p g v gd sv tb) (h : WA w p g v gd lv sv L tb l m A x) {B : Nat} {nv : Value} {ns : List Ne} (hN : Nw B nv ns x) : Calls Try.prog 18 #[.pointer (some ⟨gd, 0, none⟩)] x fun e z => ∃ ao cap, e = .returned (.slice ao (tellsW m).length cap) ∧ Nw x.heap.size (.slice ao (tellsW m).length cap) (tellsW m) z ∧ WA w p g v gd lv sv L tb l (tickW m) A z ∧ Nw B nv ns z := by
  refine h.d.tick.mono ?_
  rintro e z ⟨ao, cap, rfl, N, W, G⟩
  exact ⟨ao, cap, rfl, N, h.two D W G, h.d.keep G hN⟩
theorem WA.took1 (D : WD p g v gd sv tb) (h : WA w p g v gd lv sv L tb l m A wr) {e0 : Nat} (hX : wr.alloc (.cells #[] 5) = X1) (he : wr.heap.size = e0) (nd : Int) (bl : List UInt8) :
    ∀ v1 w2, w2.ownsRow e0 5 1 v1 bl.length (Lib.byteCells bl) → X1.grownBy w2 (some e0) → Calls Try.prog 15 #[.pointer (some ⟨g, 0, none⟩), .int .i64 nd, v1] w2 fun e z =>
      ∃ ao cap, e = .returned (.tuple #[.slice ao (saysW l nd bl).length cap, .bool (okW l nd bl)]) ∧ Nw e0 (.slice ao (saysW l nd bl).length cap) (saysW l nd bl) z ∧ WA w p g v gd lv sv L tb (takeW l nd bl) m A z := by
  intro v1 w2 ho hg
  refine (h.a.took hX he nd bl v1 w2 ho hg).mono ?_
  rintro e z ⟨ao, cap, rfl, N, W, G⟩
  rw [he] at N
  exact ⟨ao, cap, rfl, N, h.one D W G⟩
theorem WA.take2 (D : WD p g v gd sv tb) (h : WA w p g v gd lv sv L tb l m A x) (nd : Int) (bv : Value) (bl : List UInt8) (hB : Bytes x bv bl) {B : Nat} {nv : Value} {ns : List Ne} (hN : Nw B nv ns x) : Calls Try.prog 16 #[.pointer (some ⟨gd, 0, none⟩), .int .i64 nd, bv] x fun e z =>
      ∃ ao cap, e = .returned (.tuple #[.slice ao (saysW m nd bl).length cap, .bool (okW m nd bl)]) ∧ Nw x.heap.size (.slice ao (saysW m nd bl).length cap) (saysW m nd bl) z ∧ WA w p g v gd lv sv L tb l (takeW m nd bl) A z ∧ Nw B nv ns z := by
  refine (h.d.take nd bv bl hB).mono ?_
  rintro e z ⟨ao, cap, rfl, N, W, G⟩
  exact ⟨ao, cap, rfl, N, h.two D W G, h.d.keep G hN⟩
end
/-- A row of nodes of whom nothing is known. -/
theorem made_seen (l : List Wq) : (madeCells (Value.agg #[.int .i64 0, .int .i64 0, .int .u64 0]).cells (l.length * 3)).toList = flatW DS (l.map Wt.of) := by
  apply List.ext_getElem?
  intro i
  have hc : (Value.agg #[.int .i64 0, .int .i64 0, .int .u64 0]).cells = #[.int .i64 0, .int .i64 0, .int .u64 0] := rfl
  rw [hc]
  by_cases hi : i < l.length * 3
  · have hq : i / 3 < (l.map Wt.of).length := by simp; omega
    have hr : i % 3 < DS.c := Nat.mod_lt _ (by decide)
    have g1 := flatW_get DS (l.map Wt.of) (i / 3) (i % 3) hq hr
    have e : i / 3 * DS.c + i % 3 = i := by show i / 3 * 3 + i % 3 = i; omega
    rw [e] at g1
    rw [g1]
    have hm : i % 3 < 3 := Nat.mod_lt _ (by decide)
    rw [Array.getElem?_toList, Array.getElem?_eq_getElem (by simpa [size_madeCells] using hi)]
    simp only [madeCells, Array.getElem_ofFn]
    have e3 : (#[Value.int .i64 0, .int .i64 0, .int .u64 0] : Array Value).size = 3 := rfl
    simp only [e3]
    have e4 : ∀ r, r < 3 → (#[Value.int .i64 0, .int .i64 0, .int .u64 0] : Array Value)[r]? = (DS.dec (l.map Wt.of)[i / 3])[r]? := fun r hr => by
      simp only [List.getElem_map]
      match r, hr with
      | 0, _ => rfl
      | 1, _ => rfl
      | 2, _ => rfl
    have := e4 (i % 3) hm
    rw [← this]
    simp [Array.getElem?_eq_getElem, hm]
  · rw [List.getElem?_eq_none (by simp [size_madeCells]; omega), List.getElem?_eq_none (by rw [flatW_len]; show (l.map Wt.of).length * 3 ≤ i; simp; omega)]
end Go.Proofs.Ytceomfefffngaaa
