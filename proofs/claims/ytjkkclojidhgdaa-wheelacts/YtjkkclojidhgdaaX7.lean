/- The document's wheel beside the program's. -/
import Derived.Test.YtjkkclojidhgdaaX6
import Derived.Test.YtjkkclojidhgdaaLawWSl
namespace Go.Proofs.Ytjkkclojidhgdaa
open Go.RowKit Go.Maps Go.WideMaps
set_option linter.unusedVariables false
set_option maxRecDepth 1000000
set_option linter.unusedSimpArgs false
section
variable {E : Nat} {l : List Dt} {now last : Nat} {v : Value} {w : World}
theorem XAdd_bad1 (pv : Value) (first : Nat) (per0 : Value) (again : Bool) (what : Value) (f1 : ¬ (1 ≤ first ∧ first ≤ 4294967296)) :
    Calls Try.prog 20 #[pv, .int .u64 first, per0, .bool again, what] w fun e w' => e = .returned (.tuple #[.int .i64 0, .int .i64 1]) ∧ w' = w := by
  have hW1 := within_any first w
  rw [decide_eq_false f1] at hW1
  go_enter Try.func20, Try.ntmps20
  go_wp2_with fail
  refine hW1.mono ?_
  rintro e z1 ⟨rfl, rfl⟩
  clear hW1
  go_wp2
  go_ret2
  exact ⟨rfl, rfl⟩
theorem XAdd_bad2 (pv : Value) (first per0 : Nat) (what : Value) (f1 : 1 ≤ first ∧ first ≤ 4294967296) (f2 : ¬ (1 ≤ per0 ∧ per0 ≤ 4294967296)) :
    Calls Try.prog 20 #[pv, .int .u64 first, .int .u64 per0, .bool true, what] w fun e w' => e = .returned (.tuple #[.int .i64 0, .int .i64 1]) ∧ w' = w := by
  have hW1 := within_any first w
  rw [decide_eq_true f1] at hW1
  have hW2 := within_any per0 w
  rw [decide_eq_false f2] at hW2
  go_enter Try.func20, Try.ntmps20
  go_wp2_with fail
  refine hW1.mono ?_
  rintro e z1 ⟨rfl, rfl⟩
  go_wp2_with fail
  refine hW2.mono ?_
  rintro e z1 ⟨rfl, rfl⟩
  clear hW1 hW2
  go_wp2
  go_ret2
  exact ⟨rfl, rfl⟩
theorem XAdd_full (h : Xw E l now last v w) (first per0 : Nat) (again : Bool) (what : Value) (f1 : 1 ≤ first ∧ first ≤ 4294967296) (f2 : again = true → 1 ≤ per0 ∧ per0 ≤ 4294967296) (hl : ¬ l.length < 1024) :
    Calls Try.prog 20 #[.pointer (some ⟨E, 0, none⟩), .int .u64 first, .int .u64 per0, .bool again, what] w fun e w' => e = .returned (.tuple #[.int .i64 0, .int .i64 2]) ∧ w' = w := by
  have hW1 := within_any first w
  rw [decide_eq_true f1] at hW1
  obtain ⟨c0, c1, c2⟩ := h.c
  obtain ⟨ao, cap, rfl⟩ := h.row.wide.shape
  have hge : decide ((1024 : Int) ≤ (l.length : Int)) = true := by simp; omega
  have hlen := h.len
  clear h
  cases again with
  | true =>
    have hW2 := within_any per0 w
    rw [decide_eq_true (f2 rfl)] at hW2
    clear f2
    go_enter Try.func20, Try.ntmps20
    go_wp2_with fail
    refine hW1.mono ?_
    rintro e z1 ⟨rfl, rfl⟩
    go_wp2_with fail
    refine hW2.mono ?_
    rintro e z1 ⟨rfl, rfl⟩
    clear hW1 hW2
    go_wp2
    go_ret2
    exact ⟨rfl, rfl⟩
  | false =>
    clear f2
    go_enter Try.func20, Try.ntmps20
    go_wp2_with fail
    refine hW1.mono ?_
    rintro e z1 ⟨rfl, rfl⟩
    clear hW1
    go_wp2
    go_ret2
    exact ⟨rfl, rfl⟩
end
theorem XAdd_at {E now given : Nat} {es : List Tm} {v : Value} {w : World} (h : Xw E (dts now es) now given v w) (first per0 per : Nat) (again ok : Bool) (what : Int) (hok : ok = decide ((1 ≤ first ∧ first ≤ 4294967296) ∧ (again = true → 1 ≤ per0 ∧ per0 ≤ 4294967296))) (hp : per = if again then per0 else 0) (hg : given < 4611686018427387904) :
    Calls Try.prog 20 #[.pointer (some ⟨E, 0, none⟩), .int .u64 first, .int .u64 per0, .bool again, .int .i64 what] w fun e w' => ∃ v', e = .returned (.tuple #[.int .i64 (addF now given es ok first per what).2.2.1, .int .i64 (addF now given es ok first per what).2.2.2]) ∧ Xw E (dts now (addF now given es ok first per what).2.1) now (addF now given es ok first per what).1 v' w' ∧ w.grownBy w' (some E) := by
  have hlen : (dts now es).length = es.length := List.length_map ..
  by_cases f : (1 ≤ first ∧ first ≤ 4294967296) ∧ (again = true → 1 ≤ per0 ∧ per0 ≤ 4294967296)
  · rw [decide_eq_true f] at hok
    subst hok
    by_cases hl : es.length < 1024
    · have e1 : addF now given es true first per what = (given + 1, es ++ [⟨given + 1, now + first, per, what, 0⟩], ((given + 1 : Nat) : Int), 0) := by unfold addF; rw [if_pos rfl, if_pos hl]
      have e2 : dts now (es ++ [⟨given + 1, now + first, per, what, 0⟩]) = dts now es ++ [⟨given + 1, first, per, what⟩] := by
        unfold dts
        rw [List.map_append]
        show _ ++ [Dt.mk (given + 1) (now + first - now) per what] = _
        rw [Nat.add_sub_cancel_left]
      rw [e1]
      refine (XAdd_go h first per0 per again what f.1 f.2 hp (by omega) hg).mono ?_
      rintro e w' ⟨rfl, v', h1, h2⟩
      exact ⟨v', rfl, by rw [e2]; exact h1, h2⟩
    · have e1 : addF now given es true first per what = (given, es, 0, 2) := by unfold addF; rw [if_pos rfl, if_neg hl]
      rw [e1]
      refine (XAdd_full h first per0 again _ f.1 f.2 (by omega)).mono ?_
      rintro e w' ⟨rfl, rfl⟩
      exact ⟨v, rfl, h, grown_refl _ _⟩
  · rw [decide_eq_false f] at hok
    subst hok
    have e1 : addF now given es false first per what = (given, es, 0, 1) := by unfold addF; rw [if_neg (by decide)]
    rw [e1]
    by_cases f1 : 1 ≤ first ∧ first ≤ 4294967296
    · have ha : again = true := by
        cases again with
        | true => rfl
        | false => exact absurd ⟨f1, fun e => by cases e⟩ f
      subst ha
      refine (XAdd_bad2 _ first per0 _ f1 (fun f2 => f ⟨f1, fun _ => f2⟩)).mono ?_
      rintro e w' ⟨rfl, rfl⟩
      exact ⟨v, rfl, h, grown_refl _ _⟩
    · refine (XAdd_bad1 _ first _ again _ f1).mono ?_
      rintro e w' ⟨rfl, rfl⟩
      exact ⟨v, rfl, h, grown_refl _ _⟩
/-- What lies in a wheel's blocks. -/
theorem own_typ {x : Wl} {now given : Nat} {es : List Tm} {w : World} (h : At x now given es w) {k : Nat} (hk : x.own k) {A : Array Value} {T : TypeId} {fr : Nat × Nat} (hb : w.heap[k]? = some (.cells A T fr)) : T = 57 ∨ T = 73 ∨ T = 65 := by
  have hW := h.wh
  obtain ⟨cs, r1, r2, r3⟩ := hW.row
  rcases hk with (e | e | e | ⟨i, hi, e⟩) | ⟨t, ht, e⟩
  · rw [e, hW.head] at hb; simp at hb; exact .inl hb.2.1.symm
  · exact absurd e (hW.tim.ne hb)
  · rw [e, r1] at hb; simp at hb; exact .inr (.inl hb.2.1.symm)
  · exact absurd rfl ((hW.maps i k hi e).1.ne hb)
  · have h2 := hW.rts t ht
    unfold Ru at h2
    rw [e, hb] at h2; simp at h2; exact .inr (.inr h2.2.1)
/-- The two wheels, and an act beside them. -/
structure Jd (gx E bc : Nat) (c : Array Value) (w : World) (x : Wl) (nx vx : Nat) (ex : List Tm) (ld : List Dt) (nd vd : Nat) (v : Value) (wr : World) : Prop where
  ax : At x nx vx ex wr
  xd : Xw E ld nd vd v wr
  bel : Below w.heap.size w wr
  bx : ∀ k, x.own k → w.heap.size ≤ k
  bE : w.heap.size ≤ E
  gx : x.g = gx
  cb : wr.heap[bc]? = some (.cells c 34 (0, 0))
  cx : ¬ x.own bc
  c0 : w.heap.size ≤ bc
structure Jj (gx E : Nat) (w : World) (x : Wl) (now given : Nat) (es : List Tm) (v : Value) (wr : World) : Prop where
  ax : At x now given es wr
  xd : Xw E (dts now es) now given v wr
  bel : Below w.heap.size w wr
  bx : ∀ k, x.own k → w.heap.size ≤ k
  bE : w.heap.size ≤ E
  gx : x.g = gx
section
variable {gx E bc nx vx nd vd : Nat} {c : Array Value} {w wr : World} {x : Wl} {ex : List Tm} {ld : List Dt} {v : Value}
theorem Xw.mv (h : Xw E ld nd vd v wr) (a : At x nx vx ex wr) {x' : Wl} {w' : World} (m : Mv x x' wr w') : Xw E ld nd vd v w' := by
  have key : ∀ b A T fr, T ≠ 57 → T ≠ 73 → T ≠ 65 → wr.heap[b]? = some (Obj.cells A T fr) → w'.heap[b]? = wr.heap[b]? := fun b A T fr h1 h2 h3 hb => m.kw.keep b (Array.getElem?_eq_some_iff.1 hb).1 (fun ho => by
    rcases own_typ a ho hb with e | e | e
    · exact h1 e
    · exact h2 e
    · exact h3 e)
  exact ⟨(key _ _ _ _ (by decide) (by decide) (by decide) h.head).trans h.head, h.row.same m.kw.size (fun b A fr _ hb => key _ _ _ _ (by decide) (by decide) (by decide) hb), h.len⟩
theorem At.doc (a : At x nx vx ex wr) (h : Xw E ld nd vd v wr) {w' : World} (hg : wr.grownBy w' (some E)) : At x nx vx ex w' :=
  ⟨a.wh.stay (fun k hk ho => hg.block k hk (fun e => by
    cases e
    rcases own_typ a ho h.head with e | e | e
    · exact absurd e (by decide)
    · exact absurd e (by decide)
    · exact absurd e (by decide))), a.good, a.es⟩
theorem Jd.left (h : Jd gx E bc c w x nx vx ex ld nd vd v wr) {x' : Wl} {nx' vx' : Nat} {ex' : List Tm} {w' : World} (a : At x' nx' vx' ex' w') (m : Mv x x' wr w') : Jd gx E bc c w x' nx' vx' ex' ld nd vd v w' := by
  have hlt := (Array.getElem?_eq_some_iff.1 h.cb).1
  refine ⟨a, h.xd.mv h.ax m, kw_below h.bel m.kw (fun k hk e => by have := h.bx k e; omega), fun k hk => ?_, h.bE, m.g.trans h.gx, (m.kw.keep bc hlt h.cx).trans h.cb, fun e => ?_, h.c0⟩
  · rcases m.own k hk with e | e
    · exact h.bx k e
    · exact Nat.le_trans h.bel.size e
  · rcases m.own bc e with e | e
    · exact h.cx e
    · omega
theorem Jd.doc (h : Jd gx E bc c w x nx vx ex ld nd vd v wr) {ld' : List Dt} {nd' vd' : Nat} {v' : Value} {w' : World} (a : Xw E ld' nd' vd' v' w') (hg : wr.grownBy w' (some E)) : Jd gx E bc c w x nx vx ex ld' nd' vd' v' w' := by
  refine ⟨h.ax.doc h.xd hg, a, ⟨hg.os.trans h.bel.os, hg.tape.trans h.bel.tape, hg.output.trans h.bel.output, Nat.le_trans h.bel.size hg.size, fun k hk => (hg.block k (Nat.lt_of_lt_of_le hk h.bel.size) (fun e => ?_)).trans (h.bel.block k hk)⟩, h.bx, h.bE, h.gx, (hg.block bc (Array.getElem?_eq_some_iff.1 h.cb).1 (fun e => ?_)).trans h.cb, h.cx, h.c0⟩
  · cases e
    have := h.bE
    omega
  · cases e
    have := h.cb
    rw [h.xd.head] at this
    cases this
theorem Jd.below (h : Jd gx E bc c w x nx vx ex ld nd vd v wr) {w' : World} (b : Below wr.heap.size wr w') : Jd gx E bc c w x nx vx ex ld nd vd v w' :=
  ⟨h.ax.below b, h.xd.below b, h.bel.trans (b.mono h.bel.size), h.bx, h.bE, h.gx, (b.block bc (Array.getElem?_eq_some_iff.1 h.cb).1).trans h.cb, h.cx, h.c0⟩
theorem Jd.jj (h : Jd gx E bc c w x nx vx ex (dts nx ex) nx vx v wr) : Jj gx E w x nx vx ex v wr := ⟨h.ax, h.xd, h.bel, h.bx, h.bE, h.gx⟩
theorem Jj.jd (h : Jj gx E w x nx vx ex v wr) (c : Array Value) : Jd gx E wr.heap.size c w x nx vx ex (dts nx ex) nx vx v (wr.alloc (.cells c 34)) := by
  have b := one_alloc wr (.cells c 34)
  exact ⟨h.ax.below b, h.xd.below b, h.bel.trans (b.mono h.bel.size), h.bx, h.bE, h.gx, heap_alloc_new wr _, fun e => by have := h.ax.lt e; omega, h.bel.size⟩
theorem Jj.below (h : Jj gx E w x nx vx ex v wr) {w' : World} (b : Below wr.heap.size wr w') : Jj gx E w x nx vx ex v w' := ⟨h.ax.below b, h.xd.below b, h.bel.trans (b.mono h.bel.size), h.bx, h.bE, h.gx⟩
end
end Go.Proofs.Ytjkkclojidhgdaa
