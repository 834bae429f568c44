/- Wheels without their blocks; what each call does to one of several. -/
import Derived.Test.YtjkkclojidhgdaaW24
import Derived.Test.YtjkkclojidhgdaaW19
namespace Go.Proofs.Ytjkkclojidhgdaa
open Go.RowKit Go.Maps Go.WideMaps
set_option linter.unusedVariables false
set_option maxRecDepth 1000000
set_option linter.unusedSimpArgs false
def er (t : Tm) : Tm := { t with bk := 0 }
theorem er_without (k : Nat) (ts : List Tm) : (without k ts).map er = without k (ts.map er) := by
  unfold without
  rw [List.filter_map]
  rfl
theorem er_repl (ts : List Tm) (t : Tm) : (replT ts t).map er = replT (ts.map er) (er t) := by
  unfold replT
  rw [List.map_map, List.map_map]
  apply List.map_congr_left
  intro x _
  show er (if x.no = t.no then t else x) = if x.no = t.no then er t else er x
  split <;> rfl
theorem er_run1 (now : Nat) (ts : List Tm) (t : Tm) : (run1 now ts t).map er = run1 now (ts.map er) (er t) := by
  unfold run1
  show _ = if t.per = 0 then without t.no (ts.map er) else replT (ts.map er) (er { t with due := nextDue t now })
  split
  · exact er_without _ _
  · exact er_repl _ _
theorem er_outs (now : Nat) (ts : List Tm) : (outs now ts).map er = outs now (ts.map er) := by
  unfold outs
  rw [List.filter_map]
  rfl
theorem er_fold (now : Nat) : ∀ (l ts : List Tm), (l.foldl (run1 now) ts).map er = (l.map er).foldl (run1 now) (ts.map er)
  | [], ts => rfl
  | t :: l, ts => by rw [List.foldl_cons, er_fold now l, List.map_cons, List.foldl_cons, er_run1]
theorem er_aft (now : Nat) (ts : List Tm) : (aft now ts).map er = aft now (ts.map er) := by
  unfold aft
  rw [er_fold, er_outs]
theorem er_tkT (now : Nat) (ts : List Tm) : ∀ c, (tkT c now ts).map er = tkT c now (ts.map er)
  | 0 => rfl
  | c + 1 => by
    show (aft (now + c + 1) (tkT c now ts)).map er = aft (now + c + 1) (tkT c now (ts.map er))
    rw [er_aft, er_tkT now ts c]
theorem er_tkW (now : Nat) (ts : List Tm) : ∀ c, tkW c now ts = tkW c now (ts.map er)
  | 0 => rfl
  | c + 1 => by
    show tkW c now ts ++ (outs (now + c + 1) (tkT c now ts)).map (·.what) = tkW c now (ts.map er) ++ (outs (now + c + 1) (tkT c now (ts.map er))).map (·.what)
    rw [← er_tkW now ts c, ← er_tkT now ts c, ← er_outs, List.map_map]
    rfl
theorem er_pass (E : Nat) (ts : List Tm) : (passF E ts).map er = passF E (ts.map er) := by
  unfold passF
  rw [List.map_filterMap, List.filterMap_map]
  refine fm_congr (fun t _ => ?_)
  show (pfT E t).map er = pfT E (er t)
  unfold pfT
  show _ = if t.due ≤ E then (if t.per = 0 then none else some (er { t with due := nextDue t E })) else some (er t)
  split
  · split <;> rfl
  · rfl
theorem er_stop {m now : Nat} {ts : List Tm} {a : Nat} (h : Stop m now ts a) : Stop m now (ts.map er) a :=
  ⟨h.le, fun c hc => by rw [← er_tkW]; exact h.ahead c hc, by rw [← er_tkW]; exact h.at'⟩
theorem er_find (ts : List Tm) (k : Int) : findT (ts.map er) k = (findT ts k).map er := by
  unfold findT
  rw [List.find?_map]
  rfl
/-- A wheel in memory: where it lies. -/
structure Wl where
  g : Nat
  n : Nat
  bt : Nat
  S : Nat
  sm : Nat → Option Nat
  ts : List Tm
def Wl.own (x : Wl) (k : Nat) : Prop := OwT x.g x.bt x.S x.n x.sm x.ts k
structure At (x : Wl) (now given : Nat) (es : List Tm) (w : World) : Prop where
  wh : Wh x.g now given x.n x.ts x.ts x.bt x.S x.sm w
  good : Good now x.ts
  es : x.ts.map er = es
structure Mv (x x' : Wl) (w w' : World) : Prop where
  g : x'.g = x.g
  kw : Kw x.own w w'
  own : ∀ k, x'.own k → x.own k ∨ w.heap.size ≤ k
theorem At.lt {x : Wl} {now given : Nat} {es : List Tm} {w : World} (h : At x now given es w) {k : Nat} (hk : x.own k) : k < w.heap.size := by
  have hW := h.wh
  obtain ⟨cs, r1, r2, r3⟩ := hW.row
  rcases hk with (e | e | e | ⟨i, hi, e⟩) | ⟨t, ht, e⟩
  · rw [e]; exact hW.lt
  · rw [e]; exact hW.tim.lt
  · rw [e]; exact (Array.getElem?_eq_some_iff.1 r1).1
  · exact (hW.maps i k hi e).1.lt
  · rw [← e]; exact (Array.getElem?_eq_some_iff.1 (hW.rts t ht)).1
theorem At.stay {x y x' : Wl} {now given : Nat} {es : List Tm} {w w' : World} (h : At y now given es w) (ap : ∀ k, x.own k → ¬ y.own k) (m : Mv x x' w w') : At y now given es w' ∧ ∀ k, x'.own k → ¬ y.own k := by
  refine ⟨⟨h.wh.stay (fun k hk ho => m.kw.keep k hk (fun e => ap k e ho)), h.good, h.es⟩, fun k hk hy => ?_⟩
  rcases m.own k hk with e | e
  · exact ap k e hy
  · have := h.lt hy; omega
theorem At.below {y : Wl} {now given : Nat} {es : List Tm} {w w' : World} (h : At y now given es w) (b : Below w.heap.size w w') : At y now given es w' := ⟨h.wh.below b, h.good, h.es⟩
theorem Mv.same {x : Wl} {w w' : World} (b : Below w.heap.size w w') : Mv x x w w' := ⟨rfl, Kw.below b, fun k h => .inl h⟩
/-- What a timer that is asked for comes to: given, timers, answer, error. -/
def addF (now given : Nat) (es : List Tm) (ok : Bool) (first per : Nat) (what : Int) : Nat × List Tm × Int × Int :=
  if ok then (if es.length < 1024 then (given + 1, es ++ [⟨given + 1, now + first, per, what, 0⟩], ((given + 1 : Nat) : Int), 0) else (given, es, 0, 2)) else (given, es, 0, 1)
def canF (es : List Tm) (k : Int) : List Tm × Bool := match findT es k with | none => (es, false) | some t => (without t.no es, true)
section
variable {x : Wl} {now given : Nat} {es : List Tm} {w : World}
theorem add_at (h : At x now given es w) {w' : World} {first per : Nat} {what : Int} (hf : 1 ≤ first ∧ first ≤ 4294967296) (hp : per ≤ 4294967296) (hl : x.ts.length < 1024) {sm' : Nat → Option Nat} (hW : Wh x.g now (given + 1) x.n (x.ts ++ [⟨given + 1, now + first, per, what, w.heap.size⟩]) (x.ts ++ [⟨given + 1, now + first, per, what, w.heap.size⟩]) x.bt x.S sm' w') (hk : Kw (OwW x.g x.bt x.S x.n x.sm) w w') (hm : More x.n x.sm sm' w) :
    ∃ x' : Wl, At x' now (given + 1) (es ++ [⟨given + 1, now + first, per, what, 0⟩]) w' ∧ Mv x x' w w' := by
  refine ⟨{ x with sm := sm', ts := x.ts ++ [⟨given + 1, now + first, per, what, w.heap.size⟩] }, ⟨hW, ⟨?_, ?_, ?_⟩, ?_⟩, ⟨rfl, hk.mono (fun k e => .inl e), ?_⟩⟩
  · intro a ha b hb e
    rcases List.mem_append.1 ha with ha | ha <;> rcases List.mem_append.1 hb with hb | hb
    · exact h.good.bkd a ha b hb e
    · simp at hb
      have := h.lt (.inr ⟨a, ha, rfl⟩)
      rw [hb] at e
      simp at e
      omega
    · simp at ha
      have := h.lt (.inr ⟨b, hb, rfl⟩)
      rw [ha] at e
      simp at e
      omega
    · simp at ha hb
      rw [ha, hb]
  · show (x.ts ++ [_]).length ≤ 1024
    simp; omega
  · intro t ht
    rcases List.mem_append.1 ht with ht | ht
    · exact h.good.all t ht
    · simp at ht
      subst ht
      exact ⟨hp, by show now < now + first; omega, by show now + first ≤ _; omega⟩
  · show (x.ts ++ [_]).map er = _
    rw [List.map_append, h.es]
    rfl
  · intro k hk'
    rcases hk' with (e | e | e | ⟨i, hi, e⟩) | ⟨t, ht, e⟩
    · exact .inl (.inl (.inl e))
    · exact .inl (.inl (.inr (.inl e)))
    · exact .inl (.inl (.inr (.inr (.inl e))))
    · rcases hm i k hi e with e | e
      · exact .inl (.inl (.inr (.inr (.inr ⟨i, hi, e⟩))))
      · exact .inr e
    · rcases List.mem_append.1 ht with ht | ht
      · exact .inl (.inr ⟨t, ht, e⟩)
      · simp at ht
        subst ht
        exact .inr (by show w.heap.size ≤ k; simp at e; omega)
theorem es_len (h : At x now given es w) : es.length = x.ts.length := by rw [← h.es, List.length_map]
theorem Add_at (h : At x now given es w) (after : Nat) (what : Int) (hg : given < 2305843009213693952) :
    Calls Try.prog 13 #[.pointer (some ⟨x.g, 0, none⟩), .int .u64 after, .int .i64 what] w fun e w' => ∃ x', e = .returned (.tuple #[.int .i64 (addF now given es (decide (1 ≤ after ∧ after ≤ 4294967296)) after 0 what).2.2.1, .int .i64 (addF now given es (decide (1 ≤ after ∧ after ≤ 4294967296)) after 0 what).2.2.2]) ∧ At x' now (addF now given es (decide (1 ≤ after ∧ after ≤ 4294967296)) after 0 what).1 (addF now given es (decide (1 ≤ after ∧ after ≤ 4294967296)) after 0 what).2.1 w' ∧ Mv x x' w w' := by
  have hle := es_len h
  have hlg := h.good.len
  by_cases f : 1 ≤ after ∧ after ≤ 4294967296
  · rw [decide_eq_true f]
    by_cases hl : es.length < 1024
    · have e1 : addF now given es true after 0 what = (given + 1, es ++ [⟨given + 1, now + after, 0, what, 0⟩], ((given + 1 : Nat) : Int), 0) := by unfold addF; rw [if_pos rfl, if_pos hl]
      rw [e1]
      refine (Add_ok h.wh after what f (by omega) hg).mono ?_
      rintro e w' ⟨rfl, sm', h1, h2, h3⟩
      obtain ⟨x', a1, a2⟩ := add_at h f (by omega) (by omega) h1 h2 h3
      exact ⟨x', rfl, a1, a2⟩
    · have e1 : addF now given es true after 0 what = (given, es, 0, 2) := by unfold addF; rw [if_pos rfl, if_neg hl]
      rw [e1]
      refine (Add_full h.wh after what f (by omega)).mono ?_
      rintro e w' ⟨rfl, h1⟩
      exact ⟨x, rfl, h.below h1, Mv.same h1⟩
  · rw [decide_eq_false f]
    have e1 : addF now given es false after 0 what = (given, es, 0, 1) := by unfold addF; rw [if_neg (by decide)]
    rw [e1]
    refine (Add_arg _ after _ f).mono ?_
    rintro e w' ⟨rfl, rfl⟩
    exact ⟨x, rfl, h, Mv.same ⟨rfl, rfl, rfl, Nat.le_refl _, fun _ _ => rfl⟩⟩
theorem Every_at (h : At x now given es w) (first per : Nat) (what : Int) (hg : given < 2305843009213693952) :
    Calls Try.prog 14 #[.pointer (some ⟨x.g, 0, none⟩), .int .u64 first, .int .u64 per, .int .i64 what] w fun e w' => ∃ x', e = .returned (.tuple #[.int .i64 (addF now given es (decide ((1 ≤ first ∧ first ≤ 4294967296) ∧ (1 ≤ per ∧ per ≤ 4294967296))) first per what).2.2.1, .int .i64 (addF now given es (decide ((1 ≤ first ∧ first ≤ 4294967296) ∧ (1 ≤ per ∧ per ≤ 4294967296))) first per what).2.2.2]) ∧ At x' now (addF now given es (decide ((1 ≤ first ∧ first ≤ 4294967296) ∧ (1 ≤ per ∧ per ≤ 4294967296))) first per what).1 (addF now given es (decide ((1 ≤ first ∧ first ≤ 4294967296) ∧ (1 ≤ per ∧ per ≤ 4294967296))) first per what).2.1 w' ∧ Mv x x' w w' := by
  have hle := es_len h
  have hlg := h.good.len
  by_cases f : (1 ≤ first ∧ first ≤ 4294967296) ∧ (1 ≤ per ∧ per ≤ 4294967296)
  · rw [decide_eq_true f]
    by_cases hl : es.length < 1024
    · have e1 : addF now given es true first per what = (given + 1, es ++ [⟨given + 1, now + first, per, what, 0⟩], ((given + 1 : Nat) : Int), 0) := by unfold addF; rw [if_pos rfl, if_pos hl]
      rw [e1]
      refine (Every_ok h.wh first per what f.1 f.2 (by omega) hg).mono ?_
      rintro e w' ⟨rfl, sm', h1, h2, h3⟩
      obtain ⟨x', a1, a2⟩ := add_at h f.1 f.2.2 (by omega) h1 h2 h3
      exact ⟨x', rfl, a1, a2⟩
    · have e1 : addF now given es true first per what = (given, es, 0, 2) := by unfold addF; rw [if_pos rfl, if_neg hl]
      rw [e1]
      refine (Every_full h.wh first per what f.1 f.2 (by omega)).mono ?_
      rintro e w' ⟨rfl, h1⟩
      exact ⟨x, rfl, h.below h1, Mv.same h1⟩
  · rw [decide_eq_false f]
    have e1 : addF now given es false first per what = (given, es, 0, 1) := by unfold addF; rw [if_neg (by decide)]
    rw [e1]
    by_cases f1 : 1 ≤ first ∧ first ≤ 4294967296
    · refine (Every_arg2 _ first per _ f1 (fun f2 => f ⟨f1, f2⟩)).mono ?_
      rintro e w' ⟨rfl, rfl⟩
      exact ⟨x, rfl, h, Mv.same ⟨rfl, rfl, rfl, Nat.le_refl _, fun _ _ => rfl⟩⟩
    · refine (Every_arg1 _ first _ _ f1).mono ?_
      rintro e w' ⟨rfl, rfl⟩
      exact ⟨x, rfl, h, Mv.same ⟨rfl, rfl, rfl, Nat.le_refl _, fun _ _ => rfl⟩⟩
theorem without_bkd {k : Nat} {ts : List Tm} (h : Bkd ts) : Bkd (without k ts) := fun a ha b hb e => h a (mem_without ha).1 b (mem_without hb).1 e
theorem Cancel_at (h : At x now given es w) (k : Int) (hk : -9223372036854775808 ≤ k ∧ k < 9223372036854775808) :
    Calls Try.prog 19 #[.pointer (some ⟨x.g, 0, none⟩), .int .i64 k] w fun e w' => ∃ x', e = .returned (.bool (canF es k).2) ∧ At x' now given (canF es k).1 w' ∧ Mv x x' w w' := by
  have hf : findT es k = (findT x.ts k).map er := by rw [← h.es, er_find]
  cases hc : findT x.ts k with
  | none =>
    rw [hc] at hf
    have e1 : canF es k = (es, false) := by unfold canF; rw [hf]; rfl
    rw [e1]
    refine (Cancel_none h.wh k hk hc).mono ?_
    rintro e w' ⟨rfl, rfl⟩
    exact ⟨x, rfl, h, Mv.same ⟨rfl, rfl, rfl, Nat.le_refl _, fun _ _ => rfl⟩⟩
  | some t =>
    rw [hc] at hf
    have ht : t ∈ x.ts := List.mem_of_find?_eq_some hc
    have hkt : (t.no : Int) = k := by simpa using List.find?_some hc
    have e1 : canF es k = (without t.no es, true) := by unfold canF; rw [hf]; rfl
    rw [e1, ← hkt]
    have hd := h.good.all t ht
    have hw1 := h.wh.w1
    refine (Cancel_some h.wh t ht (by omega)).mono ?_
    rintro e w' ⟨rfl, h1, h2⟩
    refine ⟨{ x with ts := without t.no x.ts }, rfl, ⟨h1, ⟨without_bkd h.good.bkd, ?_, fun a ha => h.good.all a (mem_without ha).1⟩, ?_⟩, ⟨rfl, h2.mono (fun k e => .inl e), ?_⟩⟩
    · have : (without t.no x.ts).length ≤ x.ts.length := List.length_filter_le _ _
      have := h.good.len
      show (without t.no x.ts).length ≤ 1024
      omega
    · show (without t.no x.ts).map er = _
      rw [er_without, h.es]
    · intro j hj
      rcases hj with e | ⟨a, ha, e⟩
      · exact .inl (.inl e)
      · exact .inl (.inr ⟨a, (mem_without ha).1, e⟩)
theorem Tick_at (h : At x now given es w) (m : Nat) (hm : m ≤ 1048576) (hnow : now < 576460752303423488) :
    Calls Try.prog 18 #[.pointer (some ⟨x.g, 0, none⟩), .int .u64 m] w fun e w' => ∃ a tv x', e = .returned tv ∧ Stop m now es a ∧ w'.ownsRow w.heap.size 3 1 tv ((tkW a now es).take 65536).length (((tkW a now es).take 65536).map (Value.int .i64)) ∧ At x' (now + m) given (passF (now + m) (tkT a now es)) w' ∧ Mv x x' w w' := by
  refine (Tick_any h.wh h.good m hm hnow).mono ?_
  rintro e w' ⟨a, tv, sm', rfl, T⟩
  have hst := er_stop T.stop
  have hrow := T.row
  rw [er_tkW, h.es] at hrow
  rw [h.es] at hst
  refine ⟨a, tv, { x with sm := sm', ts := passF (now + m) (tkT a now x.ts) }, rfl, hst, hrow, ⟨T.wh, T.good, ?_⟩, ⟨rfl, T.kw, ?_⟩⟩
  · show (passF (now + m) (tkT a now x.ts)).map er = _
    rw [er_pass, er_tkT, h.es]
  · intro k hk
    rcases hk with (e | e | e | ⟨i, hi, e⟩) | ⟨t, ht, e⟩
    · exact .inl (.inl (.inl e))
    · exact .inl (.inl (.inr (.inl e)))
    · exact .inl (.inl (.inr (.inr (.inl e))))
    · rcases T.more i k hi e with e | e
      · exact .inl (.inl (.inr (.inr (.inr ⟨i, hi, e⟩))))
      · exact .inr e
    · obtain ⟨y, hy, e2⟩ := T.bks t ht
      exact .inl (.inr ⟨y, hy, e2.trans e⟩)
theorem New_at (n : Nat) (h0 : 0 < n) (h1 : n ≤ 4096) (w : World) :
    Calls Try.prog 7 #[.int .i64 n] w fun e w' => ∃ x, e = .returned (.tuple #[.pointer (some ⟨x.g, 0, none⟩), .int .i64 0]) ∧ At x 0 0 [] w' ∧ Below w.heap.size w w' ∧ ∀ k, x.own k → w.heap.size ≤ k := by
  refine (New_any n h0 h1 w).mono ?_
  rintro e w' ⟨g, bt, S, rfl, l1, l2, l3, h2, d⟩
  refine ⟨⟨g, n, bt, S, fun _ => none, []⟩, rfl, ⟨h2, ⟨fun a ha => (by cases ha), (by show (0 : Nat) ≤ 1024; omega), fun t ht => (by cases ht)⟩, rfl⟩, d, fun k hk => ?_⟩
  rcases hk with (e | e | e | ⟨i, hi, e⟩) | ⟨t, ht, e⟩
  · rw [e]; exact l1
  · rw [e]; exact l2
  · rw [e]; exact l3
  · cases e
  · cases ht
end
end Go.Proofs.Ytjkkclojidhgdaa
