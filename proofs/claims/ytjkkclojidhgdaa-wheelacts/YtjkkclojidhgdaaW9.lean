/- Cancel and Next of a wheel; the step of a loop over a map of timers. -/
import Derived.Test.YtjkkclojidhgdaaW8
import Derived.Maps.RangeWalk
namespace Go.Proofs.Ytjkkclojidhgdaa
open Go.RowKit Go.Maps Go.WideMaps
set_option linter.unusedVariables false
set_option maxRecDepth 1000000
set_option linter.unusedSimpArgs false

theorem grown_below {w w' : World} (h : w.grownBy w' none) : Below w.heap.size w w' := ⟨h.os, h.tape, h.output, h.size, fun k hk => h.block k hk (by simp)⟩
theorem ptrR_ptr {v : Value} {y : DataW Unit × List MemPlace} (h : ptrR v = some y) : ∃ c, v = Value.pointer c := by
  unfold ptrR at h
  split at h
  · exact ⟨_, rfl⟩
  · exact ⟨_, rfl⟩
  · cases h
/-- A step of a loop over a map of timers. -/
theorem wpList_next_pm (w : World) {ops : Array Oper} {rest : List Oper} {o : Oper} {a : Act} {Q : Exit → Act → World → Prop} (hg : o.guard = none) (it : Operand) (hop : o.op = Op.next it false) (b r : Nat) (ts : List Tm) (hr : Rise ts) (left : Lit → Bool) (cnt : Nat)
    (hit : a.eval it = .pointer (some ⟨r, 0, none⟩)) (h : w.ranges Try.prog 3 ptrR b r ts.length (.map (ts.map ent)) left cnt) (hle : ∀ kl, left kl = true → Maps.has (.map (ts.map ent)) kl = true)
    (hDone : (∀ kl, left kl = false) → wpList Try.prog ops Q rest (a.put o.dst (.tuple #[.bool false])) w)
    (hMore : ∀ (t : Tm) (w' : World) (cnt' : Nat), t ∈ ts → left (.int .i64 t.no) = true → w'.ranges Try.prog 3 ptrR b r ts.length (.map (ts.map ent)) (fun z => left z && !z.sameKey (.int .i64 t.no)) cnt' → cnt' < cnt →
      w.grownBy w' (some r) → (Instr.entry (.pointer (some ⟨r, 0, none⟩))).run Try.prog w' = .ok (.tuple #[.int .i64 t.no, ptrV t.bk]) w' → wpList Try.prog ops Q rest (a.put o.dst (.tuple #[.bool true, .int .i64 t.no, ptrV t.bk])) w') :
    wpList Try.prog ops Q (o :: rest) a w := by
  refine wpList_next_ranges w hg it hop 3 lawI ptrR (Value.int .i64) Value.pointer (fun key kl hkey => by obtain ⟨x, rfl, _⟩ := Maps.keyOf_int_inv Try.underlying3 hkey; exact ⟨x, rfl⟩) (fun v y hv => ptrR_ptr hv) b r ts.length _ left cnt hit h (fun _ => hDone) ?_
  intro x c kl y w' cnt' hkey hlk hv hat hrg hlt hgr hsz hen
  obtain ⟨x', ex, rfl, hwx⟩ := Maps.keyOf_int_inv Try.underlying3 hkey
  cases ex
  have hh := hle _ hlk
  rw [Maps.has_eq, List.any_map, List.any_eq_true] at hh
  obtain ⟨t, ht, hk⟩ := hh
  have hk' : (t.no : Int) = x := by simpa [ent, same_int] using hk
  subst hk'
  have hm : (Lit.int .i64 t.no, DataW.lit (.int .i64 t.bk)) ∈ ts.map ent := List.mem_map.2 ⟨t, ht, rfl⟩
  have h2 := hat .nil
  rw [WideAt.atKey_mem _ (isKey_int t.no) (ents_apart hr) hm] at h2
  obtain ⟨y1, y2⟩ := y
  have hc : Value.pointer c = ptrV t.bk := ptrR_lit (ps := y2) (by rw [hv]; simp at h2; rw [← h2])
  rw [hc] at hen ⊢
  exact hMore t w' cnt' ht hlk hrg hlt hgr hen
section
variable {g now given n : Nat} {ts ls : List Tm} {bt S : Nat} {sm : Nat → Option Nat} {w : World}
theorem Cancel_none (h : Wh g now given n ts ls bt S sm w) (k : Int) (hk : -9223372036854775808 ≤ k ∧ k < 9223372036854775808) (hf : findT ts k = none) :
    Calls Try.prog 19 #[.pointer (some ⟨g, 0, none⟩), .int .i64 k] w fun e w' => e = .returned (.bool false) ∧ w' = w := by
  obtain ⟨c0, c1, c2, c3⟩ := h.c
  have hlk := h.tim.look h.up k hk und_mapt
  rw [hf] at hlk
  simp only [Option.isSome_none] at hlk
  clear h
  go_enter Try.func19, Try.ntmps19
  go_wp2
  go_ret
  exact ⟨rfl, rfl⟩
set_option maxHeartbeats 2000000 in
theorem Cancel_some (h : Wh g now given n ts ts bt S sm w) (t : Tm) (ht : t ∈ ts) (hdu : t.due < 18446744073709551616) :
    Calls Try.prog 19 #[.pointer (some ⟨g, 0, none⟩), .int .i64 t.no] w fun e w' => e = .returned (.bool true) ∧ Wh g now given n (without t.no ts) (without t.no ts) bt S sm w' ∧ Kw (OwW g bt S n sm) w w' := by
  have hno : t.no < 4611686018427387904 := by have := h.nos t ht; have := h.g1; omega
  have hf : findT ts t.no = some t := by
    cases hc : findT ts t.no with
    | none => have := List.find?_eq_none.1 hc t ht; simp at this
    | some x =>
      have hxk : (x.no : Int) = t.no := by simpa using List.find?_some hc
      rw [rise_uniq h.up (List.mem_of_find?_eq_some hc) ht (by omega)]
  have hlk := h.tim.look h.up t.no (by omega) und_mapt
  rw [hf] at hlk
  simp only [Option.isSome_some] at hlk
  have hLi := lift_any h t ht hno hdu
  obtain ⟨c0, c1, c2, c3⟩ := h.c
  unfold ptrV at *
  go_enter Try.func19, Try.ntmps19
  go_wp2_with fail
  refine hLi.mono ?_
  rintro e w1 ⟨rfl, h1, k1⟩
  clear c0 c1 c2 c3 hlk
  obtain ⟨c0, c1, c2, c3⟩ := h1.c
  obtain ⟨w2, hr2, p2, t2⟩ := h1.tim.del t.no hno und_mapt 0
  have hr2' : ∀ ty, (Builtin.delete_ #[54, 3] ty #[.map (some bt), .int .i64 t.no]).run Try.prog w1 = .ok (.tuple #[]) w2 := fun ty => by rw [← hr2]; rfl
  have h2 : Wh g now given n (without t.no ts) (without t.no ts) bt S sm w2 := h1.timers t2 p2 (fun x hx => h1.rts x (mem_without hx).1) (rise_filter h1.up _) (fun x hx => h1.nos x (mem_without hx).1)
  have HX : Hid (Wh g now given n (without t.no ts) (without t.no ts) bt S sm w2 ∧ Kw (OwW g bt S n sm) w w2) := ⟨h2, (k1.mono (fun k hk => .inr (.inr (.inr hk)))).trans (Kw.turned t2 (.inr (.inl rfl)))⟩
  clear hLi h h1 k1 h2 p2 t2 hr2
  go_wp2
  go_ret
  exact ⟨rfl, HX.out⟩
/-- In how many ticks the next timer runs out. -/
def nextF (now : Nat) (ts : List Tm) : Nat := ts.foldl (fun a t => min a (t.due - now)) 4294967296
theorem fold_le (now : Nat) : ∀ (ts : List Tm) (a : Nat), ts.foldl (fun a t => min a (t.due - now)) a ≤ a ∧ (∀ t ∈ ts, ts.foldl (fun a t => min a (t.due - now)) a ≤ t.due - now) ∧ (ts.foldl (fun a t => min a (t.due - now)) a = a ∨ ∃ t ∈ ts, ts.foldl (fun a t => min a (t.due - now)) a = t.due - now)
  | [], a => ⟨Nat.le_refl _, fun _ h => by simp at h, .inl rfl⟩
  | y :: r, a => by
    obtain ⟨h1, h2, h3⟩ := fold_le now r (min a (y.due - now))
    rw [List.foldl_cons]
    refine ⟨by omega, fun t ht => ?_, ?_⟩
    · rcases List.mem_cons.1 ht with rfl | ht
      · clear h3 h2; omega
      · exact h2 t ht
    · rcases h3 with h3 | ⟨t, ht, h3⟩
      · rcases Nat.le_total a (y.due - now) with hh | hh
        · left; rw [h3]; omega
        · right; exact ⟨y, List.mem_cons_self, by rw [h3]; omega⟩
      · exact .inr ⟨t, List.mem_cons_of_mem _ ht, h3⟩
/-- The least of those that have come. -/
structure Nx (now : Nat) (ts : List Tm) (left : Lit → Bool) (nx : Nat) : Prop where
  le : nx ≤ 4294967296
  all : ∀ t ∈ ts, left (.int .i64 t.no) = false → nx ≤ t.due - now
  one : nx = 4294967296 ∨ ∃ t ∈ ts, nx = t.due - now
theorem Nx.done {now : Nat} {ts : List Tm} {left : Lit → Bool} {nx : Nat} (h : Nx now ts left nx) (hl : ∀ kl, left kl = false) : nx = nextF now ts := by
  obtain ⟨h1, h2, h3⟩ := fold_le now ts 4294967296
  have a1 := h.le
  rcases h.one with e | ⟨t, ht, e⟩
  · rcases h3 with f | ⟨u, hu, f⟩
    · unfold nextF; omega
    · have := h.all u hu (hl _); unfold nextF; omega
  · have b1 := h2 t ht
    rcases h3 with f | ⟨u, hu, f⟩
    · unfold nextF; omega
    · have := h.all u hu (hl _); unfold nextF; omega
theorem Nx.step {now : Nat} {ts : List Tm} {left : Lit → Bool} {nx : Nat} (h : Nx now ts left nx) (hu : Rise ts) {t : Tm} (ht : t ∈ ts) : Nx now ts (fun z => left z && !z.sameKey (.int .i64 t.no)) (min nx (t.due - now)) := by
  refine ⟨by have := h.le; omega, fun x hx hf => ?_, ?_⟩
  · simp only [same_int, Bool.and_eq_false_iff, Bool.not_eq_false', beq_iff_eq] at hf
    rcases hf with hf | hf
    · have := h.all x hx hf; omega
    · rw [rise_uniq hu hx ht (by omega)]; omega
  · rcases Nat.le_total nx (t.due - now) with hh | hh
    · rw [Nat.min_eq_left hh]; exact h.one
    · rw [Nat.min_eq_right hh]; exact .inr ⟨t, ht, rfl⟩
theorem Next_none (h : Wh g now given n [] ls bt S sm w) : Calls Try.prog 24 #[.pointer (some ⟨g, 0, none⟩)] w fun e w' => e = .returned (.tuple #[.int .u64 0, .bool false]) ∧ w' = w := by
  obtain ⟨c0, c1, c2, c3⟩ := h.c
  have hl := h.tim.len und_mapt
  clear h
  go_enter Try.func24, Try.ntmps24
  go_wp2
  go_ret2
  exact ⟨rfl, rfl⟩
set_option maxHeartbeats 2000000 in
theorem Next_some (h : Wh g now given n ts ls bt S sm w) (hne : ts ≠ []) (hl : ts.length < 4611686018427387904) (hd : ∀ t ∈ ts, now ≤ t.due ∧ t.due < 18446744073709551616) :
    Calls Try.prog 24 #[.pointer (some ⟨g, 0, none⟩)] w fun e w' => e = .returned (.tuple #[.int .u64 (nextF now ts), .bool true]) ∧ Below w.heap.size w w' := by
  obtain ⟨c0, c1, c2, c3⟩ := h.c
  have hln := h.tim.len und_mapt
  have h0 : ((ts.length : Int) == 0) = false := by rw [beq_eq_false_iff_ne]; have := List.length_pos_iff.2 hne; omega
  have hown := h.tim
  have hup := h.up
  have HW : Hid (Wh g now given n ts ls bt S sm w) := h
  unfold PM at hown
  clear h hne
  go_enter Try.func24, Try.ntmps24
  go_wp2_with (first
    | (at_range; refine wpList_range_own _ rfl _ 54 rfl 3 66 lawI und_mapt _ bt ts.length _ rfl hown ?_; intro w0 hrg0 hg0 hs0)
    | go_in)
  go_frame
  go_loopw [4] (fun nv wr => ∃ (left : Lit → Bool) (cnt nx : Nat), wr.ranges Try.prog 3 ptrR bt w.heap.size ts.length (.map (ts.map ent)) left cnt ∧ (∀ kl, left kl = true → Maps.has (.map (ts.map ent)) kl = true) ∧ w.grownBy wr none ∧ nv = .int .u64 nx ∧ Nx now ts left nx)
    (fun _ wr => wr.rangeLeft bt w.heap.size)
  case atStart =>
    refine ⟨_, _, 4294967296, hrg0, fun _ hk => hk, hg0, rfl, ⟨Nat.le_refl _, fun t ht hf => ?_, .inl rfl⟩⟩
    have ht1 : Maps.has (.map (ts.map ent)) (.int .i64 t.no) = true := by
      rw [Maps.has_eq, List.any_map, List.any_eq_true]; exact ⟨t, ht, by simp [ent, same_int]⟩
    rw [ht1] at hf; cases hf
  case round =>
    obtain ⟨left, cnt, nx, hrg, hle, hgw, rfl, hnx⟩ := hrel
    clear hrg0 hg0 hs0 c0 c1 c2 c3 hln
    go_wp2_with (first
      | (at_next; refine wpList_next_pm _ rfl _ rfl bt w.heap.size ts hup _ _ rfl hrg hle ?_ ?_)
      | go_in)
    · intro hl0
      have HE : Hid (nx = nextF now ts ∧ w.grownBy wr none) := ⟨hnx.done hl0, hgw⟩
      clear hrg hle hgw hnx hown hup HW hd
      go_wp2
      go_ret2
      obtain ⟨e1, e2⟩ := HE.out
      subst e1
      exact ⟨rfl, grown_below e2⟩
    · intro t w1 cnt1 ht hlt hrg1 hlc hg1 hen
      have hgw1 : w.grownBy w1 none := hgw.andThen hg1 (fun j hj => by cases hj; exact Or.inl (Nat.le_refl _))
      have hW1 := HW.out.below (grown_below hgw1)
      obtain ⟨c0, c1, c2, c3⟩ := hW1.c
      obtain ⟨d0, d1, d2⟩ := (hW1.rts t ht).c
      obtain ⟨hd1, hd2⟩ := hd t ht
      have hsub : (t.due : Int) - (now : Int) = ((t.due - now : Nat) : Int) := by omega
      have hnx2 := hnx.step hup ht
      have HS : Hid ((w1.ranges Try.prog 3 ptrR bt w.heap.size ts.length (.map (ts.map ent)) (fun z => left z && !z.sameKey (.int .i64 t.no)) cnt1) ∧ w.grownBy w1 none ∧ cnt1 < cnt ∧ Nx now ts (fun z => left z && !z.sameKey (.int .i64 t.no)) (min nx (t.due - now)) ∧ wr.rangeLeft bt w.heap.size = cnt) := ⟨hrg1, hgw1, hlc, hnx2, hrg.left_eq⟩
      have hmin : min (nx : Int) ((t.due - now : Nat) : Int) = ((min nx (t.due - now) : Nat) : Int) := by omega
      have hb1 : t.due - now < 18446744073709551616 := by omega
      generalize t.due - now = dl at *
      clear hnx hnx2 hrg1 hgw1 hgw hg1 hW1 hlt hlc hown hrg
      unfold ptrV at hen
      unfold ptrV
      go_wp2_with fail
      go_quiet (fail)
      go_roundw
      case rel =>
        obtain ⟨s1, s2, s3, s4, s5⟩ := HS.out
        have hif : (if dl < nx then (dl : Int) else (nx : Int)) = ((min nx dl : Nat) : Int) := by split <;> omega
        rw [hif]
        refine ⟨_, _, _, _, _, _, _, _, _, _, _, _, _, _, _, _, _, ⟨fun z => left z && !z.sameKey (.int .i64 t.no), cnt1, min nx dl, s1.kept (row := none) ⟨rfl, rfl, rfl, Nat.le_refl _, fun _ _ _ => rfl⟩ (by simp) (by simp), fun kl hk => hle kl (by rw [Bool.and_eq_true] at hk; exact hk.1), s2.andThen (row' := none) ⟨rfl, rfl, rfl, Nat.le_refl _, fun _ _ _ => rfl⟩ (fun j hj => by cases hj), rfl, s4⟩, rfl⟩
      case measure =>
        obtain ⟨s1, s2, s3, s4, s5⟩ := HS.out
        have s1' := s1.kept (w' := w1.drewN nq) (row := none) ⟨rfl, rfl, rfl, Nat.le_refl _, fun _ _ _ => rfl⟩ (by simp) (by simp)
        rw [s5, s1'.left_eq]
        exact s3
end
end Go.Proofs.Ytjkkclojidhgdaa
