/- The law DriverFilters returns true whatever comes in. New in all its ways; acts; what the calls leave as it was. A driver's form and acts that came in, opened. The heap's order, as plain facts. The heap's Remove, and the finding of a ticket; Next and Drop of the driver. -/
import Derived.Test.YtfddoindcmdooaaUc5
namespace Go.Proofs.Ytfddoindcmdooaa
open Go.RowKit Go.Proofs.Bits
set_option linter.unusedVariables false
set_option maxRecDepth 1000000
set_option linter.unusedSimpArgs false

def DFi : Dec Fi := ⟨Fi.cells, 3, by decide, fun _ => rfl, fun x u hu => by simp [Fi.cells] at hu; rcases hu with rfl | rfl | rfl <;> rfl⟩
theorem infoFiZ : (Try.prog.info? 60).map (fun i => (i.zero, i.size, i.bytes)) = some (some (.agg Fi.nul.arr), 3, 12) := by kernel_rfl
theorem Fa.ldw5 {ops : Array Oper} {rest : List Oper} {o : Oper} {a : Act} {w : World} {Q : Exit → Act → World → Prop} {q : Nat} {f : Fr} (h : Fa q f w) (hgd : Region.wanted o (yielded ops a.tmps) = true) (x : Operand) (ho : o.op = .load 45 x) (hx : a.eval x = .pointer (some ⟨q, 0, none⟩))
    (hh : wpList Try.prog ops Q rest (a.put o.dst (.agg f.arr)) w) : wpList Try.prog ops Q (o :: rest) a w :=
  BigFrame.wpList_want hgd fun _ hK => wp_load_row 45 x ho q hx 45 f.arr (0, 0) _ h Try.underlying45 rfl (by rw [f.arr_size]; exact infoF) (hK _ _ hh)
def anyP (l : List Fi) (f : Fr) (k : Nat) : Bool := (l.take k).any fun y => pasV [y] f
theorem anyP_succ (l : List Fi) (f : Fr) (k : Nat) (h : k < l.length) : anyP l f (k + 1) = (anyP l f k || pasV [l[k]] f) := by
  unfold anyP; rw [List.take_succ_eq_append_getElem h, List.any_append]; simp
theorem anyP_all (l : List Fi) (f : Fr) (h : l.length ≠ 0) : anyP l f l.length = pasV l f := by
  unfold anyP
  rw [List.take_length]
  unfold pasV
  rw [decide_eq_false h]
  cases hz : (f.chk == 0)
  · simp
  · simp
set_option maxHeartbeats 2000000 in
theorem dfil_walk (v : Value) (l : List Fi) (f : Fr) (w : World) (hz : l.length * 12 ≤ 140737488351232) (hS : FiIn w v l) :
    Calls Try.prog 6 #[v, f.val] w fun e w' => e = .returned (.bool true) ∧ Below w.heap.size w w' := by
  obtain ⟨wa, hwa⟩ : ∃ wa, w.alloc (.cells f.arr 45) = wa := ⟨_, rfl⟩
  have ba : Below w.heap.size w wa := by rw [← hwa]; exact (Below.refl _ _).alloc (Nat.le_refl _) _
  have fa : Fa w.heap.size f wa := by rw [← hwa]; exact Fa.new w f
  have hS1 := hS.below ba
  have hLv := fun x => lives5_any x
  have HI : Hid (∀ x, Below w.heap.size w x → FiIn x v l) := fun x hx => hS.below hx
  obtain ⟨ao, cap, rfl, _⟩ := hS
  obtain ⟨q, hq⟩ : ∃ q, w.heap.size = q := ⟨_, rfl⟩
  rw [hq] at fa
  unfold Fr.val
  by_cases h32 : 32 < l.length
  · have d1 : decide ((32 : Int) < (l.length : Int)) = true := by simp; omega
    have hL := hLv wa
    clear hLv HI hS1
    go_enter Try.func6, Try.ntmps6
    go_wp2_with fail
    refine hL.mono ?_
    rintro e w9 ⟨rfl, b9⟩
    have B9 := ba.trans (b9.mono ba.size)
    go_wp2
    go_ret
    exact ⟨rfl, B9⟩
  · have d1 : decide ((32 : Int) < (l.length : Int)) = false := by simp; omega
    by_cases h0 : l.length = 0
    · have d2 : ((l.length : Int) == 0) = true := by rw [h0]; rfl
      have hL := hLv wa
      clear hLv HI hS1 h0
      go_enter Try.func6, Try.ntmps6
      go_wp2_with fail
      refine hL.mono ?_
      rintro e w9 ⟨rfl, b9⟩
      have B9 := ba.trans (b9.mono ba.size)
      go_wp2
      go_ret
      exact ⟨rfl, B9⟩
    · have d2 : ((l.length : Int) == 0) = false := by rw [beq_eq_false_iff_ne]; omega
      have o1 := own_empty_e wa 60 3
      have hS2 := hS1.below ((Below.refl _ wa).alloc (Nat.le_refl _) (.cells #[] 60))
      have HAll : Hid (anyP l f l.length = pasV l f) := anyP_all l f h0
      clear h0 hS1
      go_enter Try.func6, Try.ntmps6
      go_upto_region 3 with fail
      go_wp2_with (at_builtin; refine append_wide DFi rfl _ _ 22 60 _ _ Try.underlying22 infoFiZ rfl rfl wa.heap.size _ [] rfl (by exact o1) _ l rfl (by exact hS2) (by unfold maxLen; simp; omega) (by simp; omega) (by rw [size_alloc]; omega) ?_)
      intro v1 w1 P1 G1
      have b1 : Below wa.heap.size wa w1 := ((Below.refl _ wa).alloc (Nat.le_refl _) (.cells #[] 60)).grown G1 (by simp) (by simp [Value.ownBlock])
      have P1' : FiIn w1 v1 l := wide_of_own DFi (l := l) P1
      have hN := New_fil 1 1 (by decide) (by decide) (by decide) (by decide) w1 (by omega) P1'
      have B1 := ba.trans (b1.mono ba.size)
      have f1 := fa.below5 b1
      clear P1 G1 o1 hS2 P1' b1 ba fa
      go_wp2_with fail
      refine hN.mono ?_
      rintro e w3 ⟨D, g, gs, rfl, hD, A3, FS3, b3⟩
      have B3 := B1.trans (b3.mono B1.size)
      have f3 := f1.below5 b3
      clear hN f1 B1 b3
      go_wp2
      go_loopw [7, 8] (fun av i x => ∃ k : Nat, k ≤ l.length ∧ i = .int .i64 k ∧ av = .bool (anyP l f k) ∧ Below w3.heap.size w3 x) (fun _ i _ => l.length - (intOf i).toNat)
      case atStart => exact ⟨0, Nat.zero_le _, rfl, rfl, Below.refl _ _⟩
      case round =>
        obtain ⟨k, hk, rfl, rfl, bx⟩ := hrel
        have BX := B3.trans (bx.mono B3.size)
        have fx := f3.below5 bx
        by_cases hkl : k < l.length
        · obtain ⟨ao', cap', hv', _, hc⟩ := HI.out wr BX
          obtain ⟨b, off, hao, hb, hR⟩ := hc k hkl
          have hao2 : ao = some ⟨b, off, none⟩ := by injection hv' with e1; rw [e1]; exact hao
          subst hao2
          have HN : Hid (anyP l f (k + 1) = (anyP l f k || pasV [l[k]] f)) := anyP_succ l f k hkl
          have hN := New_fil (l := [l[k]]) 1 1 (by decide) (by decide) (by decide) (by decide) (wr.alloc (.cells l[k].arr 60)) (by simp) (show FiIn _ _ [l[k]] from wide_new DFi wr l[k] 60)
          generalize l[k] = x at *
          generalize anyP l f k = ak at *
          clear hc hao hv' HI
          go_upto_region 10 with fail
          go_wp2_with (first | refine fi_ld hR rfl _ rfl rfl ?_ | refine one_bs DFi x 22 60 _ _ rfl _ rfl rfl Try.underlying22 infoFiZ (by decide) ?_)
          refine hN.mono ?_
          rintro e w5 ⟨D5, g5, gs5, rfl, hD5, A5, FS5, b5⟩
          have bx5 : Below w3.heap.size w3 w5 := (bx.alloc bx.size _).trans (b5.mono (by rw [size_alloc]; have := bx.size; omega))
          have f5 := f3.below5 bx5
          have hP := Passes_any f (by simp) A5 FS5
          clear hN hR b5 fx bx
          cases ak
          · have HN2 : Hid (anyP l f (k + 1) = pasV [x] f) := by show _ = _; rw [HN.out]; rfl
            generalize pasV [x] f = pv at *
            clear HN
            go_upto_region 13 with fail
            go_wp2_with (first | refine f5.ldw5 rfl _ rfl rfl ?_)
            refine hP.mono ?_
            rintro e w6 ⟨rfl, b6⟩
            have bx6 := bx5.trans (b6.mono bx5.size)
            clear hP
            go_wp2
            go_roundw
            case rel => exact ⟨k + 1, by omega, by go_num, by rw [HN2.out], bx6⟩
            case measure => simp [intOf]; omega
          · have HN2 : Hid (anyP l f (k + 1) = true) := by show _ = _; rw [HN.out]; rfl
            clear HN hP
            go_wp2
            go_roundw
            case rel => exact ⟨k + 1, by omega, by go_num, by rw [HN2.out], bx5⟩
            case measure => simp [intOf]; omega
        · obtain rfl : k = l.length := by omega
          have Ax : Dr D _ wr := (bx.block D (Array.getElem?_eq_some_iff.1 A3).1).trans A3
          have hP := Passes_any f (by omega) Ax (FS3.below bx)
          rw [HAll.out]
          have hpp : ∀ b : Bool, (b == b) = true := fun b => by simp
          have hpp2 := hpp (pasV l f)
          generalize pasV l f = pv at *
          clear HI HAll
          go_upto_region 14 with fail
          go_wp2_with (refine fx.ld rfl _ rfl rfl ?_)
          refine hP.mono ?_
          rintro e w6 ⟨rfl, b6⟩
          have B6 := BX.trans (b6.mono BX.size)
          have hL := hLv w6
          clear hP hLv
          go_wp2_with fail
          refine hL.mono ?_
          rintro e w9 ⟨rfl, b9⟩
          have B9 := B6.trans (b9.mono B6.size)
          go_wp2
          go_ret
          exact ⟨rfl, B9⟩
end Go.Proofs.Ytfddoindcmdooaa
namespace Go.Proofs.Ytfddoindcmdooaa
open Go.RowKit Go.Proofs.Bits
set_option linter.unusedVariables false
set_option maxRecDepth 1000000
set_option linter.unusedSimpArgs false

def newE (bx rm : Int) (l : List Fi) : Int := if (1 ≤ bx ∧ bx ≤ 64) ∧ (1 ≤ rm ∧ rm ≤ 64) then if 32 < l.length then 2 else 0 else 1
theorem New_all {v : Value} {l : List Fi} (bx rm : Int) (w : World) (hS : FiIn w v l) :
    Calls Try.prog 7 #[.int .i64 bx, .int .i64 rm, v] w fun e w' => Below w.heap.size w w' ∧ ((newE bx rm l ≠ 0 ∧ e = .returned (.tuple #[.pointer none, .int .i64 (newE bx rm l)])) ∨ (newE bx rm l = 0 ∧ (1 ≤ bx ∧ 1 ≤ rm) ∧ ∃ D, e = .returned (.tuple #[.pointer (some ⟨D, 0, none⟩), .int .i64 0]) ∧ w.heap.size ≤ D ∧ DvW D ⟨bx, rm, 0, 0, [], [], l⟩ (.slice none 0 0) (.slice none 0 0) w')) := by
  unfold newE
  by_cases h1 : (1 ≤ bx ∧ bx ≤ 64) ∧ (1 ≤ rm ∧ rm ≤ 64)
  · rw [if_pos h1]
    by_cases h2 : 32 < l.length
    · rw [if_pos h2]
      obtain ⟨ao, cap, rfl, _⟩ := hS
      refine (New_long bx rm ao l.length cap h1.1.1 h1.1.2 h1.2.1 h1.2.2 h2 w).mono ?_
      rintro e w' ⟨rfl, rfl⟩
      exact ⟨Below.refl _ _, .inl ⟨by decide, rfl⟩⟩
    · rw [if_neg h2]
      refine (New_dv bx rm h1.1.1 h1.1.2 h1.2.1 h1.2.2 w (by omega) hS).mono ?_
      rintro e w' ⟨D, rfl, a, b, c⟩
      exact ⟨c, .inr ⟨rfl, ⟨h1.1.1, h1.2.1⟩, D, rfl, a, b⟩⟩
  · rw [if_neg h1]
    refine (New_arg bx rm v (by by_cases h : 1 ≤ bx ∧ bx ≤ 64; exact .inr (fun h' => h1 ⟨h, h'⟩); exact .inl h) w).mono ?_
    rintro e w' ⟨rfl, rfl⟩
    exact ⟨Below.refl _ _, .inl ⟨by decide, rfl⟩⟩
/-- An act: its kind, a ticket, a frame. -/
structure Ax where
  kd : Int
  tk : Int
  f : Fr
def Ax.cells (a : Ax) : List Value := [.int .i64 a.kd, .int .i64 a.tk] ++ a.f.cells
def Ax.arr (a : Ax) : Array Value := a.cells.toArray
theorem Ax.len (a : Ax) : a.cells.length = 14 := by simp [Ax.cells, Fr.cells, a.f.hdata]
theorem Ax.arr_size (a : Ax) : a.arr.size = 14 := by simp [Ax.arr, a.len]
theorem Ax.one (a : Ax) : ∀ u ∈ a.cells, u.oneCell' = true := by
  intro u hu
  unfold Ax.cells at hu
  rcases List.mem_append.1 hu with h | h
  · simp at h; rcases h with rfl | rfl <;> rfl
  · exact DF.one a.f u h
theorem infoAx : (Try.prog.info? 47).map (·.size) = some 14 := by kernel_rfl
def Ax.nul : Ax := ⟨0, 0, Fr.nul⟩
def Aq (q : Nat) (a : Ax) (w : World) : Prop := w.heap[q]? = some (.cells a.arr 47 (0, 0))
theorem Aq.new (w : World) (a : Ax) : Aq w.heap.size a (w.alloc (.cells a.arr 47)) := heap_alloc_new w _
theorem Aq.row {q : Nat} {a : Ax} {w : World} (h : Aq q a w) (b : Ax) : Aq q b (w.setRow q b.arr) := setRow_heap w q _ _ 47 _ h
theorem Aq.lt {q : Nat} {a : Ax} {w : World} (h : Aq q a w) : q < w.heap.size := (Array.getElem?_eq_some_iff.1 h).1
theorem Aq.below {q : Nat} {a : Ax} {w w' : World} (h : Aq q a w) (hb : Below w.heap.size w w') : Aq q a w' := (hb.block q h.lt).trans h
theorem ax_ld {w : World} {ops : Array Oper} {rest : List Oper} {p : Oper} {a : Act} {Q : Exit → Act → World → Prop} {b o : Nat} {m : Ax} (h : w.rangeAt b o m.cells) (hgd : p.guard = none) (x : Operand) (ho : p.op = .load 47 x) (hx : a.eval x = .pointer (some ⟨b, o, none⟩))
    (hh : wpList Try.prog ops Q rest (a.put p.dst (.agg m.arr)) w) : wpList Try.prog ops Q (p :: rest) a w :=
  wpList_load_mid hgd 47 x ho b o hx m.cells _ h Try.underlying47 rfl (by rw [infoAx]; simp [Ax.len]) hh
theorem Aq.sd {q : Nat} {m : Ax} {w : World} {ops : Array Oper} {rest : List Oper} {o : Oper} {a : Act} {Q : Exit → Act → World → Prop} (h : Aq q m w) (m' : Ax) (hgd : o.guard = none) (x y : Operand) (ho : o.op = .store 47 x y) (hx : a.eval x = .pointer (some ⟨q, 0, none⟩)) (hy : a.eval y = .agg m'.arr)
    (hh : wpList Try.prog ops Q rest (a.put o.dst undef) (w.setRow q m'.arr)) : wpList Try.prog ops Q (o :: rest) a w :=
  wpList_store_row hgd 47 x y ho q m'.arr hx hy 47 m.arr h (by rw [m'.arr_size]; exact infoAx) (by rw [m.arr_size, m'.arr_size]) (all_oneCell_toArray (Ax.one m')) hh
theorem Aq.k {q : Nat} {m : Ax} {w : World} (h : Aq q m w) : w.cell? ⟨q, 0, none⟩ = some (.int .i64 m.kd) := (Lib.cell_of_heap h 0).trans rfl
theorem Aq.t {q : Nat} {m : Ax} {w : World} (h : Aq q m w) : w.cell? ⟨q, 1, none⟩ = some (.int .i64 m.tk) := (Lib.cell_of_heap h 1).trans rfl
theorem Aq.fr {q : Nat} {m : Ax} {w : World} (h : Aq q m w) : w.rangeAt q 2 m.f.cells := by
  intro j u hj
  rw [Lib.cell_of_heap h]
  have : m.arr[2 + j]? = m.cells[2 + j]? := by simp [Ax.arr]
  rw [this]
  unfold Ax.cells
  rw [List.getElem?_append_right (by simp)]
  simpa using hj
theorem Aq.kz {D : Nat} {s : Dv} {vm vc vc' : Value} {w w' : World} {q : Nat} {m : Ax} (h : Aq q m w) (hd : DvW D s vm vc w) (hk : Kz D vc vc' w w') : Aq q m w' := by
  refine hk.typ q _ _ _ (by decide) ?_ ?_ h
  · intro e
    obtain ⟨g, h1, _⟩ := hd.at'
    unfold Aq at h
    rw [e, h1] at h
    simp at h
  · intro e
    obtain ⟨_, cur, hc⟩ := own_of hd.qu e
    unfold Aq at h
    rw [hc] at h
    simp at h
def Same4 (s t : Dv) : Prop := t.bx = s.bx ∧ t.rm = s.rm ∧ t.l = s.l ∧ t.tk ≤ s.tk + 1
theorem send_same (s : Dv) (f : Fr) : Same4 s (sendS s f).1 ∧ (sendS s f).1.lo = s.lo := by
  unfold sendS Same4; split
  · split
    · simp; omega
    · simp
  · simp; omega
theorem done_same (s : Dv) : Same4 s (doneS s).1 ∧ (doneS s).1.lo = s.lo := by
  unfold doneS Same4; split <;> simp <;> omega
theorem fetch_same (s : Dv) : Same4 s (fetchS s).1 ∧ (fetchS s).1.lo = s.lo := by
  unfold fetchS Same4; split <;> simp <;> omega
theorem take_same (s : Dv) (f : Fr) : Same4 s (takeS s f).1 ∧ (takeS s f).1.lo = s.lo + (if (takeS s f).2 = 50 then 1 else 0) := by
  unfold takeS Same4
  have hc := chk_cases f
  split
  · split
    · split
      · simp; omega
      · simp; omega
    · simp; omega
  · refine ⟨by simp; omega, ?_⟩
    rw [if_neg (by rcases hc with h | h <;> omega)]
    simp
theorem take_fifty (s : Dv) (f : Fr) : ((takeS s f).2 == 50) = (decide ((s.cs.length : Int) = s.rm) && pasV s.l f) := by
  have hc := chk_cases f
  unfold takeS
  by_cases h0 : f.chk = 0
  · rw [if_pos h0]
    by_cases hp : pasV s.l f = true
    · rw [if_pos hp]
      by_cases hb : (s.cs.length : Int) = s.rm
      · rw [if_pos hb]; simp [hb, hp]
      · rw [if_neg hb]; simp [hb]
    · rw [if_neg hp]; simp [hp]
  · rw [if_neg h0]
    have : pasV s.l f = false := by unfold pasV; simp [h0]
    rw [this, Bool.and_false, beq_eq_false_iff_ne]
    rcases hc with h | h <;> omega
theorem exec_load {a : Act} {o : Oper} {x : Operand} {ty : TypeId} {ad : Addr} {v : Value} {w : World} (ho : o.op = .load ty x) (hx : a.eval x = .pointer (some ad)) (hr : (loadVar ty ad).run Try.prog w = .ok v w) :
    (execOp a.eval o).run Try.prog w = .ok (.value v) w := by
  unfold execOp
  simp only [ho, hx, Instr.loadAt, Instr.sureAddr, Sem.run_bind, Sem.run_pure, Result.andThen_ok, hr]
theorem load_fils (x : World) (D k : Nat) (ao : Option Addr) (l c : Nat) (hc : x.cell? ⟨D, k, none⟩ = some (.slice ao l c)) : (loadVar 22 ⟨D, k, none⟩).run Try.prog x = .ok (.slice ao l c) x := by
  simp [go_sem, run_underlying Try.underlying22, hc]
theorem wp_bs0 {o : Oper} {a : Act} {w : World} {K : Act → World → Prop} {Q : Exit → Act → World → Prop} (ho : o.op = .buildSlice 22 0 #[]) (h : K (a.put o.dst (.slice (some ⟨w.heap.size, 0, none⟩) 0 0)) (w.alloc (.cells #[] 60))) : o.wp Try.prog a w K Q := by
  obtain ⟨i0, hi0, hz0, hz1, hz2⟩ := info_parts infoFiZ
  unfold Oper.wp execOp
  simp [ho, Instr.buildSlice, go_sem, run_underlying Try.underlying22, zeroValue, sizeOf, typeInfo, hi0, hz0, hz1, Instr.fill]
  exact h
theorem wp_append_wide {α : Type} (D : Dec α) {w : World} {o : Oper} {a : Act} {K : Act → World → Prop} {Q : Exit → Act → World → Prop} (s x : Operand) (t e : TypeId) (z : Value) (bytes : Nat)
    (ht : Try.prog.underlying t = some (.slice e)) (hinfo : (Try.prog.info? e).map (fun i => (i.zero, i.size, i.bytes)) = some (some z, D.c, bytes)) (hzs : z.cells.size = D.c)
    (ho : o.op = .call { callee := .builtin .append, args := #[s, x], argTypes := #[t, t] })
    (base : Nat) (v : Value) (xs : List α) (hs : a.eval s = v) (hown : w.ownsRow base e D.c v xs.length (flatW D xs))
    (vx : Value) (l : List α) (hx : a.eval x = vx) (hB : Wide D.c D.dec w vx l) (h63 : xs.length + l.length ≤ maxLen) (hbytes : (xs.length + l.length) * bytes ≤ 140737488355328) (hbase : base ≤ w.heap.size)
    (h : ∀ v' w', w'.ownsRow base e D.c v' (xs ++ l).length (flatW D (xs ++ l)) → w.grownBy w' v.ownBlock → K (a.put o.dst v') w') : o.wp Try.prog a w K Q := by
  obtain ⟨i0, hi, hz0, hz1, hz2⟩ := info_parts hinfo
  obtain ⟨ao, cap, rfl, h0, hc⟩ := hB
  cases ao with
  | none =>
    obtain ⟨rfl, rfl⟩ := h0 rfl
    have hrun := run_append_owned_none (P := Try.prog) (w := w) base t o.type e i0 D.c ht hi v xs.length (flatW D xs) hown
    unfold Oper.wp
    simp only [List.length_nil] at hx
    simp [execOp, ho, resolve, invoke, builtin, hs, hx, hrun, Result.andThen]
    refine h _ _ ?_ (grown_refl _ _)
    simpa using hown
  | some ad =>
    refine wp_append_own w s x t ho base e i0 z D.c bytes ht hi hz0 hz1 hz2 hzs D.pos v xs.length (flatW D xs) hs hown ad l.length cap (flatW D l) hx (flatW_len D l) ?_ (flatW_one D l) h63 hbytes hbase ?_
    · intro j u hj
      have hlt : j < l.length * D.c := by have := (List.getElem?_eq_some_iff.1 hj).1; rw [flatW_len] at this; exact this
      have hdm := Nat.div_add_mod j D.c
      rw [Nat.mul_comm] at hdm
      have hk : j / D.c < l.length := Nat.div_lt_of_lt_mul (by rw [Nat.mul_comm]; exact hlt)
      have hm : j % D.c < D.c := Nat.mod_lt _ D.pos
      obtain ⟨b, off, ha, _, hR⟩ := hc (j / D.c) hk
      simp only [Option.some.injEq] at ha
      subst ha
      have hg := flatW_get D l (j / D.c) (j % D.c) hk hm
      rw [hdm] at hg
      rw [hj] at hg
      have := hR (j % D.c) u hg.symm
      rw [Addr.add_mid]
      rw [Nat.add_assoc, hdm] at this
      exact this
    · intro v' w' h1 h2 _
      refine h v' w' ?_ h2
      rw [flatW_append, List.length_append]
      exact h1
end Go.Proofs.Ytfddoindcmdooaa
namespace Go.Proofs.Ytfddoindcmdooaa
open Go.ChangeShapes Go.WideShapes Go.ChangeAt Go.RowKit Go.Proofs.Bits
set_option linter.unusedVariables false
set_option maxRecDepth 1000000

theorem cellsAx : Try.prog.cellsOf 47 = 14 := by kernel_rfl
theorem bytesAx : Try.prog.bytesOf 47 = 40 := by kernel_rfl
theorem cellsFo : Try.prog.cellsOf 24 = 3 := by kernel_rfl
theorem cellsFs1 : Try.prog.cellsOf 22 = 1 := by kernel_rfl
theorem list14 {l : List Value} (h : l.length = 14) : ∃ a b r, l = a :: b :: r ∧ r.length = 12 := by
  match l, h with
  | a :: b :: r, h => exact ⟨a, b, r, rfl, by simpa using h⟩
theorem one_ax {H : Type} {enc : TypeId × Value → H} {W : World} (n : Nat) (cs : List Value) (y : DataW H × List MemPlace) (h : DataW.trod enc Try.prog W 0 (fun _ => true) true n 47 cs = some y) : ∃ a : Ax, cs = a.cells := by
  obtain ⟨xs, m, _, _, hn, hl, hfs⟩ := DataW.trod_struct Try.underlying47 h
  rw [cellsAx] at hn
  obtain ⟨a, b, r, rfl, hr⟩ := list14 hn
  have g0 := hfs 0 _ rfl
  have g1 := hfs 1 _ rfl
  have g2 := hfs 2 _ rfl
  simp [cells1int, cellsF12] at g0 g1 g2
  match xs, hl with
  | [y0, y1, y2], _ =>
    simp at g0 g1 g2
    obtain ⟨x, e0, _, w0⟩ := DataW.trod_int Try.underlying3 g0
    obtain ⟨z, e1, _, w1⟩ := DataW.trod_int Try.underlying3 g1
    simp at e0 e1
    subst e0 e1
    rw [List.take_of_length_le (by omega)] at g2
    obtain ⟨f, rfl⟩ := one_frame _ _ _ g2
    exact ⟨⟨x, z, f⟩, rfl⟩
theorem open_acts5 {H : Type} {enc : TypeId × Value → H} {W : World} {base : Nat} {v : Value} {d : DataW H} {ps : List MemPlace}
    (hval : Value.okWide Try.prog W .any base 25 v) (h : DataW.Trod enc Try.prog W 0 (fun _ => true) true 25 v d ps) (hlt : ∀ x ∈ ps, x.block < W.heap.size) :
    ∃ l, Wide 14 Ax.cells W v l ∧ ((d = .nil ∧ l = []) ∨ ∃ e s, d = .slice e s ∧ e.length = l.length) :=
  open_wide Try.underlying25 cellsAx (by decide) one_ax hval h hlt
theorem size_acts5 {H : Type} {ts : List TypeId} {ds : List (DataW H)} {j : Nat} {d : DataW H} {l : List Ax} (h : (DataW.weightsEach Try.prog ts ds).all (· ≤ reachBytes) = true) (ht : ts[j]? = some 25) (hd : ds[j]? = some d) (e : (d = .nil ∧ l = []) ∨ ∃ e s, d = .slice e s ∧ e.length = l.length) : l.length * 40 ≤ 140737488351232 :=
  size_wide h ht hd Try.underlying25 bytesAx e
/-- A slice that lies as one cell in a struct. -/
theorem open_wide1 {α : Type} {c : Nat} {dec : α → List Value} {P : Program} {H : Type} {enc : TypeId × Value → H} {W : World} {v : Value} {t e : TypeId} {fuel : Nat} {y : DataW H × List MemPlace}
    (ht : P.underlying t = some (.slice e)) (hc : P.cellsOf e = c) (h0 : 0 < c)
    (hone : ∀ n cs y, DataW.trod enc P W 0 (fun _ => true) true n e cs = some y → ∃ a : α, cs = dec a)
    (hf : DataW.trod enc P W 0 (fun _ => true) true fuel t [v] = some y) :
    ∃ l : List α, Wide c dec W v l ∧ ((y.1 = .nil ∧ l = []) ∨ ∃ e s, y.1 = .slice e s ∧ e.length = l.length) := by
  have hlt := DataW.trod_lt _ _ _ _ hf
  rcases DataW.trod_slice ht hf with ⟨hcs, hx⟩ | ⟨a, len, cap, elems, rest, n, _, hcs, hx, _, hl, hm, hlen, hel, _, _⟩
  · simp at hcs
    subst hcs hx
    exact ⟨[], ⟨none, 0, rfl, fun _ => ⟨rfl, rfl⟩, fun k hk => by simp at hk⟩, .inl ⟨rfl, rfl⟩⟩
  · simp at hcs
    subst hcs
    have each : ∀ i : Fin len, ∃ x : α, ∃ b off, a = ⟨b, off, none⟩ ∧ b < W.heap.size ∧ W.rangeAt b (off + i.1 * c) (dec x) := by
      intro i
      have hi := hel i.1 i.2
      rw [List.getElem?_eq_getElem (by omega), Option.bind_eq_some_iff] at hi
      obtain ⟨cs, hcs, hy⟩ := hi
      obtain ⟨x, rfl⟩ := hone _ _ _ hy
      obtain ⟨_, h2, h3⟩ := World.cells?_some hcs
      rw [hc] at h2 h3
      have hs : a.spot = none := by
        have hi0 := hel 0 (by have := i.2; omega)
        rw [List.getElem?_eq_getElem (by have := i.2; omega), Option.bind_eq_some_iff] at hi0
        obtain ⟨cs0, hcs0, _⟩ := hi0
        obtain ⟨_, l2, l3⟩ := World.cells?_some hcs0
        have h4 := l3 0 (by omega)
        rw [List.getElem?_eq_getElem (by omega)] at h4
        have := World.cell?_spot h4
        simpa [Addr.add] using this
      obtain ⟨b, off, spot⟩ := a
      simp only at hs
      subst hs
      refine ⟨x, b, off, rfl, ?_, ?_⟩
      · have hlt2 : i.1 * c < (elems.length + rest.length) * c := Nat.mul_lt_mul_of_pos_right (by have := i.2; omega) h0
        have := hlt (.cell b (off + i.1 * c)) (by rw [hx, hc]; simp [MemPlace.row]; left; exact hlt2)
        exact this
      · intro j u hj
        have hjl := (List.getElem?_eq_some_iff.1 hj).1
        have := h3 j (by omega)
        rw [Addr.add_mid, Addr.add_mid, hj] at this
        exact this
    have hlist : ∃ l : List α, l.length = len ∧ ∀ k (h : k < l.length), ∃ b off, a = ⟨b, off, none⟩ ∧ b < W.heap.size ∧ W.rangeAt b (off + k * c) (dec l[k]) := by
      refine ⟨List.ofFn fun i => Classical.choose (each i), by simp, fun k hk => ?_⟩
      rw [List.getElem_ofFn]
      exact Classical.choose_spec (each ⟨k, by simpa using hk⟩)
    obtain ⟨l, hll, hat⟩ := hlist
    refine ⟨l, ⟨some a, cap, by rw [hll], (fun h => by cases h), fun k hk => ?_⟩, .inr ⟨_, _, by rw [hx], by rw [List.length_map, hlen, hll]⟩⟩
    obtain ⟨b, off, rfl, hb, hr⟩ := hat k hk
    exact ⟨b, off, rfl, hb, hr⟩
theorem open_form {H : Type} {enc : TypeId × Value → H} {W : World} {base : Nat} {v : Value} {d : DataW H} {ps : List MemPlace}
    (hval : Value.okWide Try.prog W .any base 24 v) (h : DataW.Trod enc Try.prog W 0 (fun _ => true) true 24 v d ps) :
    ∃ (bx rm : Int) (c : Value) (l : List Fi) (d0 d1 d2 : DataW H), v = .agg #[.int .i64 bx, .int .i64 rm, c] ∧ FiIn W c l ∧ d = .agg [d0, d1, d2] ∧ ((d2 = .nil ∧ l = []) ∨ ∃ e s, d2 = .slice e s ∧ e.length = l.length) := by
  obtain ⟨cs, rfl, hsz⟩ := okWide_struct Try.underlying24 hval
  obtain ⟨fuel, hf⟩ := h
  obtain ⟨l, rfl⟩ : ∃ l : List Value, cs = l.toArray := ⟨cs.toList, by simp⟩
  rw [cellsFo] at hsz
  obtain ⟨c0, c1, c2, rfl⟩ := list3 (by simpa using hsz)
  obtain ⟨xs, n, _, hd, _, hl, hfs⟩ := DataW.trod_struct Try.underlying24 hf
  have g0 := hfs 0 _ rfl
  have g1 := hfs 1 _ rfl
  have g2 := hfs 2 _ rfl
  simp [Value.cells, cells1int, cellsFs1] at g0 g1 g2
  match xs, hl with
  | [y0, y1, y2], _ =>
    simp at g0 g1 g2
    obtain ⟨x, e0, _, w0⟩ := DataW.trod_int Try.underlying3 g0
    obtain ⟨z, e1, _, w1⟩ := DataW.trod_int Try.underlying3 g1
    simp at e0 e1
    subst e0 e1
    obtain ⟨l, h1, h2⟩ := open_wide1 Try.underlying22 cellsFi (by decide) one_filter g2
    refine ⟨x, z, c2, l, y0.1, y1.1, y2.1, rfl, h1, ?_, h2⟩
    have := congrArg Prod.fst hd
    simpa using this
theorem size_form {H : Type} {ts : List TypeId} {ds : List (DataW H)} {j : Nat} {d0 d1 d2 : DataW H} {l : List Fi} (h : (DataW.weightsEach Try.prog ts ds).all (· ≤ reachBytes) = true) (ht : ts[j]? = some 24) (hd : ds[j]? = some (.agg [d0, d1, d2])) (e : (d2 = .nil ∧ l = []) ∨ ∃ e s, d2 = .slice e s ∧ e.length = l.length) : l.length * 12 ≤ 140737488351232 := by
  rcases e with ⟨_, rfl⟩ | ⟨x, s, rfl, he⟩
  · simp
  · have hm : (x.length + s.length) * Try.prog.bytesOf 60 ∈ DataW.weights Try.prog 24 (.agg [d0, d1, .slice x s]) := by
      simp only [DataW.weights, Try.underlying24]
      refine DataW.weights_mem_each (j := 2) rfl rfl _ ?_
      simp [DataW.weights, Try.underlying22]
    have := List.all_eq_true.1 h _ (DataW.weights_mem_each ht hd _ hm)
    have hr : reachBytes = 140737488351232 := by decide
    rw [bytesFi] at this
    simp at this
    have h2 : l.length * 12 ≤ (x.length + s.length) * 12 := Nat.mul_le_mul_right _ (by omega)
    omega
end Go.Proofs.Ytfddoindcmdooaa
namespace Go.Proofs.Ytfddoindcmdooaa
open Go.RowKit Go.Proofs.Bits
set_option linter.unusedVariables false
set_option maxRecDepth 1000000
set_option linter.unusedSimpArgs false

/-- a does not come behind b. -/
def leM (a b : Ml) : Prop := lessM b a = false
theorem leM_iff (a b : Ml) : leM a b ↔ a.fld < b.fld ∨ (a.fld = b.fld ∧ a.tk ≤ b.tk) := by
  unfold leM lessM
  by_cases h : b.fld = a.fld
  · rw [if_pos h, decide_eq_false_iff_not]
    constructor
    · intro h1; exact .inr ⟨h.symm, by omega⟩
    · rintro (h1 | ⟨_, h1⟩)
      · rw [h] at h1; exact (Std.lt_irrefl h1).elim
      · omega
  · rw [if_neg h, decide_eq_false_iff_not]
    constructor
    · intro h1; exact .inl (Std.lt_of_le_of_ne (Std.not_lt.1 h1) (fun e => h e.symm))
    · rintro (h1 | ⟨h1, _⟩)
      · exact fun h2 => Std.lt_irrefl (Std.lt_trans h1 h2)
      · exact (h h1.symm).elim
theorem lessM_iff (a b : Ml) : lessM a b = true ↔ a.fld < b.fld ∨ (a.fld = b.fld ∧ a.tk < b.tk) := by
  unfold lessM
  by_cases h : a.fld = b.fld
  · rw [if_pos h, decide_eq_true_iff]
    constructor
    · intro h1; exact .inr ⟨h, h1⟩
    · rintro (h1 | ⟨_, h1⟩)
      · rw [h] at h1; exact (Std.lt_irrefl h1).elim
      · exact h1
  · rw [if_neg h, decide_eq_true_iff]
    constructor
    · exact .inl
    · rintro (h1 | ⟨h1, _⟩)
      · exact h1
      · exact (h h1).elim
theorem leM_refl (a : Ml) : leM a a := (leM_iff a a).2 (.inr ⟨rfl, by omega⟩)
theorem leM_trans {a b c : Ml} (h1 : leM a b) (h2 : leM b c) : leM a c := by
  rw [leM_iff] at *
  rcases h1 with h1 | ⟨h1, h1'⟩ <;> rcases h2 with h2 | ⟨h2, h2'⟩
  · exact .inl (Std.lt_trans h1 h2)
  · rw [← h2]; exact .inl h1
  · rw [h1]; exact .inl h2
  · exact .inr ⟨h1.trans h2, by omega⟩
theorem leM_of_less {a b : Ml} (h : lessM a b = true) : leM a b := by
  rw [leM_iff]; rw [lessM_iff] at h
  rcases h with h | ⟨h, h'⟩
  · exact .inl h
  · exact .inr ⟨h, by omega⟩
theorem leM_fld {a b : Ml} (h : leM a b) : a.fld ≤ b.fld := by
  rw [leM_iff] at h
  rcases h with h | ⟨h, _⟩
  · exact Std.le_of_lt h
  · rw [h]; exact Std.le_refl _
/-- The mail at a place. -/
def gM (ms : List Ml) (k : Nat) : Ml := ms[k]?.getD Ml.nul
theorem gM_eq {ms : List Ml} {k : Nat} (h : k < ms.length) : gM ms k = ms[k] := by unfold gM; rw [List.getElem?_eq_getElem h]; rfl
theorem gM_swap (ms : List Ml) (i j : Nat) (hi : i < ms.length) (hj : j < ms.length) (k : Nat) : gM (swapM ms i j hi hj) k = if k = j then gM ms i else if k = i then gM ms j else gM ms k := by
  unfold gM
  rw [swapM_get?]
  by_cases h1 : k = j
  · rw [if_pos h1, if_pos h1, List.getElem?_eq_getElem hi]
  · rw [if_neg h1, if_neg h1]
    by_cases h2 : k = i
    · rw [if_pos h2, if_pos h2, List.getElem?_eq_getElem hj]
    · rw [if_neg h2, if_neg h2]
def Hp (g : Nat → Ml) (n : Nat) : Prop := ∀ j, 0 < j → j < n → leM (g ((j - 1) / 2)) (g j)
/-- A heap but for the place k. -/
def HpX (g : Nat → Ml) (n k : Nat) : Prop := (∀ j, 0 < j → j < n → j ≠ k → (j - 1) / 2 ≠ k → leM (g ((j - 1) / 2)) (g j)) ∧ (∀ j, 0 < j → j < n → (j - 1) / 2 = k → 0 < k → leM (g ((k - 1) / 2)) (g j))
theorem Hp.least {g : Nat → Ml} {n : Nat} (h : Hp g n) : ∀ j, j < n → leM (g 0) (g j) := by
  intro j
  induction j using Nat.strongRecOn with
  | ind j ih =>
    intro hj
    by_cases h0 : j = 0
    · subst h0; exact leM_refl _
    · exact leM_trans (ih ((j - 1) / 2) (by omega) (by omega)) (h j (by omega) hj)
theorem up_heap (ms : List Ml) (k : Nat) (hk : k < ms.length) (h : HpX (gM ms) ms.length k) (ho : ∀ j, 0 < j → j < ms.length → (j - 1) / 2 = k → leM (gM ms k) (gM ms j)) : Hp (gM (upF ms k)) ms.length := by
  induction ms, k using upF.induct with
  | case1 ms k hc hl ih =>
    rw [upF_go hc.1 hc.2 hl]
    have hl2 : leM (gM ms k) (gM ms ((k - 1) / 2)) := by rw [gM_eq hc.2, gM_eq (by omega)]; exact leM_of_less hl
    have e := fun j => gM_swap ms ((k - 1) / 2) k (by omega) hc.2 j
    rw [swapM_length] at ih
    refine ih (by omega) ⟨fun j h0 hj h1 h2 => ?_, fun j h0 hj h1 h2 => ?_⟩ (fun j h0 hj h1 => ?_)
    · rw [e, e]
      rw [if_neg (show j ≠ k by omega), if_neg h1]
      by_cases h3 : (j - 1) / 2 = k
      · rw [if_pos h3]; exact h.2 j h0 hj h3 hc.1
      · rw [if_neg h3, if_neg h2]; exact h.1 j h0 hj (by omega) h3
    · rw [e, e]
      rw [if_neg (show ¬ ((k - 1) / 2 - 1) / 2 = k by omega), if_neg (show ¬ ((k - 1) / 2 - 1) / 2 = (k - 1) / 2 by omega)]
      have hp := h.1 ((k - 1) / 2) h2 (by omega) (by omega) (by omega)
      by_cases h3 : j = k
      · rw [if_pos h3]; exact hp
      · rw [if_neg h3, if_neg (by omega)]
        have := h.1 j h0 hj h3 (by omega)
        rw [h1] at this
        exact leM_trans hp this
    · rw [e, e]
      rw [if_neg (show ¬ (k - 1) / 2 = k by omega), if_pos rfl]
      by_cases h3 : j = k
      · rw [if_pos h3]; exact hl2
      · rw [if_neg h3, if_neg (by omega)]
        have := h.1 j h0 hj h3 (by omega)
        rw [h1] at this
        exact leM_trans hl2 this
  | case2 ms k hc hl =>
    rw [upF_stop hc.1 hc.2 (by simpa using hl)]
    intro j h0 hj
    by_cases h1 : j = k
    · subst h1
      rw [gM_eq hc.2, gM_eq (by omega)]
      unfold leM; simpa using hl
    · by_cases h2 : (j - 1) / 2 = k
      · rw [h2]; exact ho j h0 hj h2
      · exact h.1 j h0 hj h1 h2
  | case3 ms k hc =>
    rw [upF, dif_neg hc]
    intro j h0 hj
    by_cases h2 : (j - 1) / 2 = k
    · rw [h2]; exact ho j h0 hj h2
    · exact h.1 j h0 hj (by omega) h2
theorem kid_min (ms : List Ml) (k n : Nat) (h : 2 * k + 1 < n) (hn : n ≤ ms.length) : ∀ j, 0 < j → j < n → (j - 1) / 2 = k → leM (gM ms (kidM ms k n h hn)) (gM ms j) := by
  intro j h0 hj hp
  have hj2 : j = 2 * k + 1 ∨ j = 2 * k + 2 := by omega
  unfold kidM
  by_cases h2 : 2 * k + 2 < n
  · rw [dif_pos h2]
    by_cases hl : lessM (ms[2 * k + 2]'(by omega)) (ms[2 * k + 1]'(by omega)) = true
    · rw [if_pos hl]
      rcases hj2 with rfl | rfl
      · rw [gM_eq (by omega), gM_eq (by omega)]; exact leM_of_less hl
      · exact leM_refl _
    · rw [if_neg hl]
      rcases hj2 with rfl | rfl
      · exact leM_refl _
      · rw [gM_eq (by omega), gM_eq (by omega)]; unfold leM; simpa using hl
  · rw [dif_neg h2]
    rcases hj2 with rfl | rfl
    · exact leM_refl _
    · omega
theorem kid_par (ms : List Ml) (k n : Nat) (h : 2 * k + 1 < n) (hn : n ≤ ms.length) : (kidM ms k n h hn - 1) / 2 = k := by
  unfold kidM; split
  · split <;> omega
  · omega
theorem down_heap (ms : List Ml) (k n : Nat) (hn : n ≤ ms.length) (h : HpX (gM ms) n k) (hi : 0 < k → k < n → leM (gM ms ((k - 1) / 2)) (gM ms k)) : Hp (gM (downP ms k n).1) n := by
  induction ms, k using downP.induct (n := n) with
  | case1 ms k hc hl ih =>
    have hkl := kidM_lt ms k n hc.1 hc.2
    have hkp := kid_par ms k n hc.1 hc.2
    have hkm := kid_min ms k n hc.1 hc.2
    rw [downP_go hc.1 hc.2 rfl (Nat.lt_of_lt_of_le hkl.2 hc.2) hl]
    have hl2 : leM (gM ms (kidM ms k n hc.1 hc.2)) (gM ms k) := by rw [gM_eq (by omega), gM_eq (by omega)]; exact leM_of_less hl
    have e := fun j => gM_swap ms k (kidM ms k n hc.1 hc.2) (by omega) (by omega) j
    refine ih (by rw [swapM_length]; exact hn) ⟨fun j h0 hj h1 h2 => ?_, fun j h0 hj h1 h2 => ?_⟩ (fun h1 h2 => ?_)
    · rw [e, e, if_neg h1, if_neg h2]
      by_cases h3 : j = k
      · rw [if_pos h3, if_neg (by omega)]
        have := h.2 (kidM ms k n hc.1 hc.2) (by omega) hkl.2 hkp (by omega); rw [h3]; exact this
      · rw [if_neg h3]
        by_cases h4 : (j - 1) / 2 = k
        · rw [if_pos h4]; exact hkm j h0 hj h4
        · rw [if_neg h4]; exact h.1 j h0 hj h3 h4
    · rw [e, e, hkp, if_neg (by omega), if_pos rfl, if_neg (by omega), if_neg (by omega)]
      have := h.1 j h0 hj (by omega) (by omega)
      rw [h1] at this; exact this
    · rw [e, e, hkp, if_neg (by omega), if_pos rfl, if_pos rfl]; exact hl2
  | case2 ms k hc hl =>
    have hkl := kidM_lt ms k n hc.1 hc.2
    have hkm := kid_min ms k n hc.1 hc.2
    rw [downP_stop hc.1 hc.2 rfl (Nat.lt_of_lt_of_le hkl.2 hc.2) (by simpa using hl)]
    have hl2 : leM (gM ms k) (gM ms (kidM ms k n hc.1 hc.2)) := by rw [gM_eq (by omega), gM_eq (by omega)]; unfold leM; simpa using hl
    intro j h0 hj
    by_cases h1 : j = k
    · subst h1; exact hi h0 hj
    · by_cases h2 : (j - 1) / 2 = k
      · rw [h2]; exact leM_trans hl2 (hkm j h0 hj h2)
      · exact h.1 j h0 hj h1 h2
  | case3 ms k hc =>
    rw [downP, dif_neg hc]
    intro j h0 hj
    by_cases h1 : j = k
    · subst h1; exact hi h0 hj
    · exact h.1 j h0 hj h1 (by omega)
theorem downP_same (ms : List Ml) (k n : Nat) : k ≤ (downP ms k n).2 ∧ ((downP ms k n).2 ≤ k → (downP ms k n).1 = ms) := by
  induction ms, k using downP.induct (n := n) with
  | case1 ms k hc hl ih =>
    have hkl := kidM_lt ms k n hc.1 hc.2
    rw [downP_go hc.1 hc.2 rfl (Nat.lt_of_lt_of_le hkl.2 hc.2) hl]
    exact ⟨by omega, fun h => by omega⟩
  | case2 ms k hc hl =>
    have hkl := kidM_lt ms k n hc.1 hc.2
    rw [downP_stop hc.1 hc.2 rfl (Nat.lt_of_lt_of_le hkl.2 hc.2) (by simpa using hl)]
    exact ⟨Nat.le_refl _, fun _ => rfl⟩
  | case3 ms k hc => rw [downP, dif_neg hc]; exact ⟨Nat.le_refl _, fun _ => rfl⟩
theorem swapM_perm (ms : List Ml) (i j : Nat) (hi : i < ms.length) (hj : j < ms.length) : (swapM ms i j hi hj).Perm ms := List.set_set_perm hi hj
theorem upF_perm (ms : List Ml) (k : Nat) : (upF ms k).Perm ms := by
  induction ms, k using upF.induct with
  | case1 ms k hc hl ih => rw [upF_go hc.1 hc.2 hl]; exact ih.trans (swapM_perm _ _ _ _ _)
  | case2 ms k hc hl => rw [upF_stop hc.1 hc.2 (by simpa using hl)]
  | case3 ms k hc => rw [upF, dif_neg hc]
theorem downP_perm (ms : List Ml) (k n : Nat) : (downP ms k n).1.Perm ms := by
  induction ms, k using downP.induct (n := n) with
  | case1 ms k hc hl ih => rw [downP_go hc.1 hc.2 rfl (Nat.lt_of_lt_of_le (kidM_lt ms k n hc.1 hc.2).2 hc.2) hl]; exact ih.trans (swapM_perm _ _ _ _ _)
  | case2 ms k hc hl => rw [downP_stop hc.1 hc.2 rfl (Nat.lt_of_lt_of_le (kidM_lt ms k n hc.1 hc.2).2 hc.2) (by simpa using hl)]
  | case3 ms k hc => rw [downP, dif_neg hc]
theorem push_heap (ms : List Ml) (m : Ml) (h : Hp (gM ms) ms.length) : Hp (gM (upF (ms ++ [m]) ms.length)) (ms.length + 1) := by
  have hg : ∀ k, k < ms.length → gM (ms ++ [m]) k = gM ms k := fun k hk => by unfold gM; rw [List.getElem?_append_left hk]
  have := up_heap (ms ++ [m]) ms.length (by simp) ⟨fun j h0 hj h1 h2 => ?_, fun j h0 hj h1 _ => ?_⟩ (fun j h0 hj h1 => ?_)
  · rw [List.length_append] at this; exact this
  · rw [List.length_append] at hj; simp at hj; rw [hg _ (by omega), hg _ (by omega)]; exact h j h0 (by omega)
  · rw [List.length_append] at hj; simp at hj; omega
  · rw [List.length_append] at hj; simp at hj; omega
theorem popF_perm (ms : List Ml) (h : 0 < ms.length) : (popF ms h ++ [ms[0]]).Perm ms := by
  rw [← popF_all]; exact (downP_perm _ _ _).trans (swapM_perm _ _ _ _ _)
theorem pop_heap (ms : List Ml) (h0 : 0 < ms.length) (h : Hp (gM ms) ms.length) : Hp (gM (popF ms h0)) (popF ms h0).length := by
  have h1 := down_heap (swapM ms 0 (ms.length - 1) h0 (by omega)) 0 (ms.length - 1) (by rw [swapM_length]; omega) ⟨fun j a b c d => ?_, fun j _ _ _ h => by omega⟩ (fun h => by omega)
  · rw [popF_all] at h1
    rw [popF_len]
    have hg : ∀ k, k < (popF ms h0).length → gM (popF ms h0 ++ [ms[0]]) k = gM (popF ms h0) k := fun k hk => by unfold gM; rw [List.getElem?_append_left hk]
    intro j a b
    have := h1 j a b
    rw [hg _ (by rw [popF_len]; omega), hg _ (by rw [popF_len]; omega)] at this
    exact this
  · rw [gM_swap, gM_swap, if_neg (by omega), if_neg d, if_neg (by omega), if_neg c]
    exact h j a (by omega)
theorem pop_least (ms : List Ml) (h0 : 0 < ms.length) (h : Hp (gM ms) ms.length) : ∀ m ∈ ms, leM ms[0] m := by
  intro m hm
  obtain ⟨k, hk, rfl⟩ := List.mem_iff_getElem.1 hm
  have := h.least k hk
  rwa [gM_eq h0, gM_eq hk] at this
end Go.Proofs.Ytfddoindcmdooaa
namespace Go.Proofs.Ytfddoindcmdooaa
open Go.RowKit Go.Proofs.Bits
set_option linter.unusedVariables false
set_option maxRecDepth 1000000
set_option linter.unusedSimpArgs false

theorem upF_keep (ms : List Ml) (i : Nat) : ∀ k, i < k → (upF ms i)[k]? = ms[k]? := by
  induction ms, i using upF.induct with
  | case1 ms i hc hl ih =>
    intro k hk
    rw [upF_go hc.1 hc.2 hl, ih k (by omega), swapM_get?, if_neg (by omega), if_neg (by omega)]
  | case2 ms i hc hl => intro k hk; rw [upF_stop hc.1 hc.2 (by simpa using hl)]
  | case3 ms i hc => intro k hk; rw [upF, dif_neg hc]
/-- The row ahead of the Pop in a Remove. -/
def remR (ms : List Ml) (i : Nat) (hi : i < ms.length) : List Ml :=
  if ms.length - 1 = i then ms else
    if i < (downP (swapM ms i (ms.length - 1) hi (by omega)) i (ms.length - 1)).2 then (downP (swapM ms i (ms.length - 1) hi (by omega)) i (ms.length - 1)).1
    else upF (downP (swapM ms i (ms.length - 1) hi (by omega)) i (ms.length - 1)).1 i
theorem remR_len (ms : List Ml) (i : Nat) (hi : i < ms.length) : (remR ms i hi).length = ms.length := by
  unfold remR; split
  · rfl
  · split
    · rw [downP_len, swapM_length]
    · rw [(upF_perm _ _).length_eq, downP_len, swapM_length]
theorem remR_last (ms : List Ml) (i : Nat) (hi : i < ms.length) : (remR ms i hi)[ms.length - 1]? = some ms[i] := by
  unfold remR; split
  · rename_i h; rw [List.getElem?_eq_getElem (by omega)]; simp only [h]
  · split
    · rw [downP_keep _ _ _ _ (Nat.le_refl _), swapM_get?, if_pos rfl]
    · rw [upF_keep _ _ _ (by omega), downP_keep _ _ _ _ (Nat.le_refl _), swapM_get?, if_pos rfl]
def remF (ms : List Ml) (i : Nat) (hi : i < ms.length) : List Ml := (remR ms i hi).dropLast
theorem remF_all (ms : List Ml) (i : Nat) (hi : i < ms.length) : remR ms i hi = remF ms i hi ++ [ms[i]] := last_is (remR_len ms i hi) (by omega) (remR_last ms i hi)
theorem remF_len (ms : List Ml) (i : Nat) (hi : i < ms.length) : (remF ms i hi).length = ms.length - 1 := by unfold remF; rw [List.length_dropLast, remR_len]
theorem remF_perm (ms : List Ml) (i : Nat) (hi : i < ms.length) : (remF ms i hi ++ [ms[i]]).Perm ms := by
  rw [← remF_all]; unfold remR; split
  · exact .refl _
  · split
    · exact (downP_perm _ _ _).trans (swapM_perm _ _ _ _ _)
    · exact (upF_perm _ _).trans ((downP_perm _ _ _).trans (swapM_perm _ _ _ _ _))
theorem up_heapN (ms : List Ml) (k n : Nat) (hn : n ≤ ms.length) (hk : k < n) (h : HpX (gM ms) n k) (ho : ∀ j, 0 < j → j < n → (j - 1) / 2 = k → leM (gM ms k) (gM ms j)) : Hp (gM (upF ms k)) n := by
  induction ms, k using upF.induct with
  | case1 ms k hc hl ih =>
    rw [upF_go hc.1 hc.2 hl]
    have hl2 : leM (gM ms k) (gM ms ((k - 1) / 2)) := by rw [gM_eq hc.2, gM_eq (by omega)]; exact leM_of_less hl
    have e := fun j => gM_swap ms ((k - 1) / 2) k (by omega) hc.2 j
    refine ih (by rw [swapM_length]; exact hn) (by omega) ⟨fun j h0 hj h1 h2 => ?_, fun j h0 hj h1 h2 => ?_⟩ (fun j h0 hj h1 => ?_)
    · rw [e, e]
      rw [if_neg (show j ≠ k by omega), if_neg h1]
      by_cases h3 : (j - 1) / 2 = k
      · rw [if_pos h3]; exact h.2 j h0 hj h3 hc.1
      · rw [if_neg h3, if_neg h2]; exact h.1 j h0 hj (by omega) h3
    · rw [e, e]
      rw [if_neg (show ¬ ((k - 1) / 2 - 1) / 2 = k by omega), if_neg (show ¬ ((k - 1) / 2 - 1) / 2 = (k - 1) / 2 by omega)]
      have hp := h.1 ((k - 1) / 2) h2 (by omega) (by omega) (by omega)
      by_cases h3 : j = k
      · rw [if_pos h3]; exact hp
      · rw [if_neg h3, if_neg (by omega)]
        have := h.1 j h0 hj h3 (by omega)
        rw [h1] at this
        exact leM_trans hp this
    · rw [e, e]
      rw [if_neg (show ¬ (k - 1) / 2 = k by omega), if_pos rfl]
      by_cases h3 : j = k
      · rw [if_pos h3]; exact hl2
      · rw [if_neg h3, if_neg (by omega)]
        have := h.1 j h0 hj h3 (by omega)
        rw [h1] at this
        exact leM_trans hl2 this
  | case2 ms k hc hl =>
    rw [upF_stop hc.1 hc.2 (by simpa using hl)]
    intro j h0 hj
    by_cases h1 : j = k
    · subst h1
      rw [gM_eq hc.2, gM_eq (by omega)]
      unfold leM; simpa using hl
    · by_cases h2 : (j - 1) / 2 = k
      · rw [h2]; exact ho j h0 hj h2
      · exact h.1 j h0 hj h1 h2
  | case3 ms k hc =>
    rw [upF, dif_neg hc]
    intro j h0 hj
    by_cases h2 : (j - 1) / 2 = k
    · rw [h2]; exact ho j h0 hj h2
    · exact h.1 j h0 hj (by omega) h2
theorem Hp.cut {ls : List Ml} {m : Ml} (h : Hp (gM (ls ++ [m])) ls.length) : Hp (gM ls) ls.length := by
  have hg : ∀ k, k < ls.length → gM (ls ++ [m]) k = gM ls k := fun k hk => by unfold gM; rw [List.getElem?_append_left hk]
  intro j a b
  have := h j a b
  rwa [hg _ (by omega), hg _ b] at this
theorem rem_heap (ms : List Ml) (i : Nat) (hi : i < ms.length) (h : Hp (gM ms) ms.length) : Hp (gM (remF ms i hi)) (remF ms i hi).length := by
  apply Hp.cut (m := ms[i])
  rw [← remF_all, remF_len]
  unfold remR
  split
  · intro j a b; exact h j a (by omega)
  · rename_i hne
    have e := fun j => gM_swap ms i (ms.length - 1) hi (by omega) j
    have hsl := swapM_length ms i (ms.length - 1) hi (by omega)
    generalize swapM ms i (ms.length - 1) hi (by omega) = ss at *
    have hX : HpX (gM ss) (ms.length - 1) i := by
      refine ⟨fun j h0 hj h1 h2 => ?_, fun j h0 hj h1 h2 => ?_⟩
      · rw [e, e, if_neg (by omega), if_neg h2, if_neg (by omega), if_neg h1]; exact h j h0 (by omega)
      · rw [e, e, if_neg (by omega), if_neg (by omega), if_neg (by omega), if_neg (by omega)]
        have a1 := h j h0 (by omega)
        rw [h1] at a1
        exact leM_trans (h i h2 hi) a1
    by_cases hin : 0 < i ∧ lessM (gM ss i) (gM ss ((i - 1) / 2)) = true
    · have hle : ∀ j, 0 < j → j < ms.length - 1 → (j - 1) / 2 = i → leM (gM ss i) (gM ss j) := fun j h0 hj h1 => leM_trans (leM_of_less hin.2) (hX.2 j h0 hj h1 hin.1)
      have hd : downP ss i (ms.length - 1) = (ss, i) := by
        by_cases hk : 2 * i + 1 < ms.length - 1
        · have hkl := kidM_lt ss i (ms.length - 1) hk (by omega)
          refine downP_stop hk (by omega) rfl (by omega) ?_
          have := hle _ (by omega) hkl.2 (kid_par ss i _ hk (by omega))
          rw [gM_eq (by omega), gM_eq (by omega)] at this
          exact this
        · exact downP_end (by omega)
      rw [hd, if_neg (Nat.lt_irrefl _)]
      exact up_heapN ss i (ms.length - 1) (by omega) (by omega) hX hle
    · have hin2 : 0 < i → leM (gM ss ((i - 1) / 2)) (gM ss i) := fun h0 => by
        unfold leM
        cases hb : lessM (gM ss i) (gM ss ((i - 1) / 2))
        · rfl
        · exact (hin ⟨h0, hb⟩).elim
      have hD := down_heap ss i (ms.length - 1) (by omega) hX (fun h0 _ => hin2 h0)
      split
      · exact hD
      · rename_i h3
        have h4 := (downP_same ss i (ms.length - 1)).2 (by omega)
        rw [h4] at hD ⊢
        by_cases h0 : 0 < i
        · have := hin2 h0
          rw [gM_eq (by omega), gM_eq (by omega)] at this
          rw [upF_stop h0 (by omega) this]
          exact hD
        · obtain rfl : i = 0 := by omega
          rw [upF_zero]; exact hD
set_option maxHeartbeats 1000000 in
theorem Next_none {w : World} {D : Nat} {am : Option Addr} {cm : Nat} {vc vf : Value} {bx tk rm lo : Int} (hA : Dr D (dA bx (.slice am 0 cm) tk rm vc lo vf) w) :
    Calls Try.prog 14 #[.pointer (some ⟨D, 0, none⟩)] w fun e w' => e = .returned (.tuple #[.agg Fr.nul.arr, .bool false]) ∧ Below w.heap.size w w' := by
  obtain ⟨wa, hwa⟩ : ∃ wa, w.alloc (.cells Fr.nul.arr 45) = wa := ⟨_, rfl⟩
  have ba : Below w.heap.size w wa := by rw [← hwa]; exact (Below.refl _ _).alloc (Nat.le_refl _) _
  have fa : Fa w.heap.size Fr.nul wa := by rw [← hwa]; exact Fa.new w Fr.nul
  have A2 : Dr D _ wa := (ba.block D (Array.getElem?_eq_some_iff.1 hA).1).trans hA
  have c1 := A2.cell (k := 1) (v := .slice am 0 cm) rfl
  have fb := fa.row Fr.nul
  obtain ⟨q, hq⟩ : ∃ q, w.heap.size = q := ⟨_, rfl⟩
  rw [hq] at fa fb
  have hld := load_fa _ q _ fb
  have HB : Hid (Below w.heap.size w (wa.setRow q Fr.nul.arr)) := by
    show Below _ _ _
    exact below_row ba (q := q) (by omega) (by have := (Array.getElem?_eq_some_iff.1 fa).1; omega) _
  have hwa2 : w.alloc (.cells #[.int .u32 0, .bool false, .bool false, .int .i64 0, .int .u8 0, .int .u8 0, .int .u8 0, .int .u8 0, .int .u8 0, .int .u8 0, .int .u8 0, .int .u8 0] 45) = wa := hwa
  clear hwa hA A2 ba fb
  go_enter Try.func14, Try.ntmps14
  go_wp2_with (first | refine fa.sd Fr.nul rfl _ _ rfl rfl rfl ?_)
  exact bodyPost_ret (v := .tuple #[.agg Fr.nul.arr, .bool false]) (by simp [results, Try.results14, asAddr, hld]) rfl ⟨rfl, HB.out⟩
/-- What Next tells. -/
def nextF (ms : List Ml) : Fr × Bool := match ms with | [] => (Fr.nul, false) | m :: _ => (m.f, true)
theorem Next_dv {w : World} {D : Nat} {s : Dv} {vm vc : Value} (h : DvW D s vm vc w) :
    Calls Try.prog 14 #[.pointer (some ⟨D, 0, none⟩)] w fun e w' => e = .returned (.tuple #[.agg (nextF s.ms).1.arr, .bool (nextF s.ms).2]) ∧ Below w.heap.size w w' := by
  obtain ⟨⟨g, h1, _⟩, h3, _⟩ := h
  cases hm : s.ms with
  | nil =>
    rw [hm] at h3
    obtain ⟨am, cm, rfl⟩ := own_shape5 h3
    exact Next_none h1
  | cons m r =>
    rw [hm] at h3
    exact Next_some h1 h3 (by simp)
set_option maxHeartbeats 1000000 in
theorem drop1_any {w : World} {p : Nat} {t : Int} (m : Ml) (hp : w.cell? ⟨p, 0, none⟩ = some (.int .i64 t)) :
    Calls Try.prog 43 #[.agg m.arr, .pointer (some ⟨p, 0, none⟩)] w fun e w' => e = .returned (.bool (m.tk == t)) ∧ Below w.heap.size w w' := by
  obtain ⟨wa, hwa⟩ : ∃ wa, w.alloc (.cells m.arr 73) = wa := ⟨_, rfl⟩
  have ba : Below w.heap.size w wa := by rw [← hwa]; exact (Below.refl _ _).alloc (Nat.le_refl _) _
  have na : Mq w.heap.size m wa := by rw [← hwa]; exact heap_alloc_new w _
  have lp := World.block_lt_of_cell? w _ hp
  have hp2 : wa.cell? ⟨p, 0, none⟩ = some (.int .i64 t) := (ba.cell (p := ⟨p, 0, none⟩) lp).trans hp
  have c13 : wa.cell? ⟨w.heap.size, 13, none⟩ = some (.int .i64 m.tk) := by
    rw [Lib.cell_of_heap na]
    have hl : m.f.cells.length = 12 := by simp [Fr.cells, m.f.hdata]
    simp only [Ml.arr, Ml.cells, List.getElem?_toArray]
    rw [List.getElem?_append_right (by omega), hl]; rfl
  obtain ⟨q, hq⟩ : ∃ q, w.heap.size = q := ⟨_, rfl⟩
  rw [hq] at c13 ba
  generalize m.tk = z at *
  generalize m.arr = A at *
  clear na hp
  go_enter Try.func43, Try.ntmps43
  go_wp2
  go_ret
  exact ⟨rfl, ba⟩
set_option maxHeartbeats 1000000 in
theorem IFm_any {w : World} {B p : Nat} {v : Value} {ms : List Ml} {t : Int} (hM : Mb w B v ms) (hl : ms.length ≤ 64) (hp : w.cell? ⟨p, 0, none⟩ = some (.int .i64 t)) :
    Calls Try.prog 42 #[v, .func (.func 43) #[] #[.pointer (some ⟨p, 0, none⟩)]] w fun e w' => (∃ z : Int, e = .returned (.int .i64 z) ∧ ((∃ k, ∃ h : k < ms.length, z = (k : Int) ∧ ms[k].tk = t) ∨ (z = -1 ∧ ∀ m ∈ ms, m.tk ≠ t))) ∧ Below w.heap.size w w' := by
  have lp := World.block_lt_of_cell? w _ hp
  have HP : Hid (∀ (m : Ml) x, Below w.heap.size w x → Calls Try.prog 43 #[.agg m.arr, .pointer (some ⟨p, 0, none⟩)] x fun e y => e = .returned (.bool (m.tk == t)) ∧ Below x.heap.size x y) := fun m x hx => drop1_any m ((hx.cell (p := ⟨p, 0, none⟩) lp).trans hp)
  have HM : Hid (∀ x, Below w.heap.size w x → Mb x B v ms) := fun x hx => own_below5 hM hx
  have hen : ∀ args x, (callFunc 43 args).run Try.prog x = .ok (.enter 43 args) x := fun _ _ => by rfl
  obtain ⟨ao, cap, rfl⟩ := own_shape5 hM
  clear hM hp lp
  go_enter Try.func42, Try.ntmps42
  go_wp2
  go_loopw [8] (fun i x => ∃ k : Nat, k ≤ ms.length ∧ i = .int .i64 k ∧ (∀ j (hj : j < ms.length), j < k → ms[j].tk ≠ t) ∧ Below w.heap.size w x) (fun i _ => ms.length - (intOf i).toNat)
  case atStart => exact ⟨0, Nat.zero_le _, rfl, fun j _ h => by omega, Below.refl _ _⟩
  case round =>
    obtain ⟨k, hk, rfl, H1, B1⟩ := hrel
    by_cases hkl : k < ms.length
    · obtain ⟨ao', cap', hv, hc⟩ := (HM.out wr B1).at
      obtain ⟨b, hao, hb, hR, _, _⟩ := hc k hkl
      have hao2 : ao = some ⟨b, 0, none⟩ := by injection hv with e1; rw [e1]; exact hao
      subst hao2
      have hF := HP.out ms[k] wr B1
      have HT : Hid ((ms[k].tk == t) = true → ms[k].tk = t) := fun h => by simpa using h
      have HJ : Hid ((ms[k].tk == t) = false → ∀ j (hj : j < ms.length), j < k + 1 → ms[j].tk ≠ t) := by
        intro h2 j hj h1
        rcases Nat.lt_or_ge j k with h3 | h3
        · exact H1 j hj h3
        · have : j = k := by omega
          subst this; simpa using h2
      generalize hbv : (ms[k].tk == t) = bv at *
      clear HM HP H1 hbv hc hv hao
      go_wp2_with (refine ml_ld hR rfl _ rfl (by simp [Act.eval]) ?_)
      refine hF.mono ?_
      rintro e w4 ⟨rfl, B4⟩
      have B5 := B1.trans (B4.mono B1.size)
      clear hF B1 B4
      cases bv
      · have HJ2 := HJ.out rfl
        have HJ3 : Hid _ := HJ2
        clear HJ HJ2 HT
        go_wp2
        go_roundw
        case rel => exact ⟨k + 1, by omega, by go_num, HJ3.out, B5⟩
        case measure => simp [intOf]; omega
      · have HA : Hid (ms[k].tk = t) := HT.out rfl
        clear HJ HT
        go_wp2
        go_ret
        exact ⟨⟨k, rfl, .inl ⟨k, hkl, rfl, HA.out⟩⟩, B5⟩
    · have HA : Hid (∀ m ∈ ms, m.tk ≠ t) := by
        intro m hm
        obtain ⟨j, hj, rfl⟩ := List.getElem_of_mem hm
        exact H1 j hj (by omega)
      clear HM HP H1
      go_wp2
      go_ret
      exact ⟨⟨-1, rfl, .inr ⟨rfl, HA.out⟩⟩, B1⟩
end Go.Proofs.Ytfddoindcmdooaa
