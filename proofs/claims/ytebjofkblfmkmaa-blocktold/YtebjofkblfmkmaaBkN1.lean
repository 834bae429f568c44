/- A receiver in memory; NewReceiver, Ask, end, giveUp, Done. -/
import Derived.Test.YtebjofkblfmkmaaBkE0
namespace Go.Proofs.Ytebjofkblfmkmaa
open Go.RowKit Go.Proofs.Ty Go.Proofs.Bits
set_option linter.unusedVariables false
set_option maxRecDepth 1000000
set_option linter.unusedSimpArgs false
def rcA (r : Rc) (v : Value) : Array Value := #[.int .i64 (r.st : Int), .int .i64 (r.sz : Int), v, .int .i64 (r.cm : Int), .int .u32 (r.cd : Int)]
theorem infoRc : (Try.prog.info? 67).map (·.size) = some 5 := by kernel_rfl
/-- A receiver in block R, its bytes in a block of its own. -/
structure Rv (R : Nat) (r : Rc) (v : Value) (w : World) : Prop where
  hd : w.heap[R]? = some (.cells (rcA r v) 67 (0, 0))
  own : w.ownsRow 0 5 1 v r.bs.length (Lib.byteCells r.bs)
  ok : r.Wk
/-- Its own blocks. -/
def rB (R : Nat) (v : Value) : List Nat := R :: v.ownBlock.toList
section
variable {R : Nat} {r t : Rc} {v u : Value} {w x : World}
theorem Rv.lt (h : Rv R r v w) : R < w.heap.size := (Array.getElem?_eq_some_iff.1 h.hd).1
theorem Rv.c0 (h : Rv R r v w) : w.cell? ⟨R, 0, none⟩ = some (.int .i64 (r.st : Int)) := Lib.cell_of_heap h.hd 0
theorem Rv.c1 (h : Rv R r v w) : w.cell? ⟨R, 1, none⟩ = some (.int .i64 (r.sz : Int)) := Lib.cell_of_heap h.hd 1
theorem Rv.c2 (h : Rv R r v w) : w.cell? ⟨R, 2, none⟩ = some v := Lib.cell_of_heap h.hd 2
theorem Rv.c3 (h : Rv R r v w) : w.cell? ⟨R, 3, none⟩ = some (.int .i64 (r.cm : Int)) := Lib.cell_of_heap h.hd 3
theorem Rv.c4 (h : Rv R r v w) : w.cell? ⟨R, 4, none⟩ = some (.int .u32 (r.cd : Int)) := Lib.cell_of_heap h.hd 4
theorem Rv.fr (h : Rv R r v w) (k : Nat) : w.frozen? ⟨R, k, none⟩ = false := Lib.frozen_of_heap h.hd k
theorem Rv.below (h : Rv R r v w) (hb : Below w.heap.size w x) : Rv R r v x := ⟨(hb.block R h.lt).trans h.hd, own_below8 h.own hb, h.ok⟩
theorem Rv.drawn (h : Rv R r v w) (n : Nat) : Rv R r v (w.drewN n) := ⟨h.hd, h.own, h.ok⟩
theorem Rv.shape (h : Rv R r v w) : ∃ ao cp, v = .slice ao r.bs.length cp := own_shape5 h.own
theorem own_same8 {B : Nat} {e : TypeId} {c n : Nat} {xs : List Value} (h : w.ownsRow B e c v n xs) (hb : ∀ b, v.ownBlock = some b → x.heap[b]? = w.heap[b]?) : x.ownsRow B e c v n xs := by
  refine ⟨h.1, ?_⟩
  rcases h.2 with hn | ⟨g, cap, cur, hv, hB, hg, rest⟩
  · exact .inl hn
  · exact .inr ⟨g, cap, cur, hv, hB, (hb g (by rw [hv]; rfl)).trans hg, rest⟩
theorem Rv.olt (h : Rv R r v w) {b : Nat} (hb : v.ownBlock = some b) : b < w.heap.size ∧ b ≠ R := by
  obtain ⟨_, cur, hc⟩ := own_of h.own hb
  refine ⟨(Array.getElem?_eq_some_iff.1 hc).1, ?_⟩
  rintro rfl
  rw [h.hd] at hc
  simp at hc
/-- Whatever else is written. -/
theorem Rv.kp {bs : List Nat} (h : Rv R r v w) (hK : Kp bs w x) (hn : ∀ b ∈ rB R v, b ∉ bs) : Rv R r v x :=
  ⟨(hK.block R h.lt (hn R (by simp [rB]))).trans h.hd, own_same8 h.own (fun b hb => hK.block b (h.olt hb).1 (hn b (by simp [rB, hb]))), h.ok⟩
/-- One field is written. -/
theorem Rv.set (h : Rv R r v w) (k : Nat) (z : Value) (hA : (rcA r v).setIfInBounds k z = rcA t v) (hb : t.bs = r.bs) (ht : t.Wk) : Rv R t v (w.setCell ⟨R, k, none⟩ z) := by
  refine ⟨?_, ?_, ht⟩
  · simp only [World.setCell, Array.getElem?_modify, h.hd]
    simp [hA]
  · rw [hb]
    exact own_same8 h.own (fun b hb => Below.heap_setCell w _ z b (h.olt hb).2)
theorem rcA_one (r : Rc) (ao : Option Addr) (n c : Nat) : ((rcA r (.slice ao n c)).all fun x => x.oneCell') = true := by simp [rcA, Value.oneCell']
theorem sdRc {ops : Array Oper} {rest : List Oper} {p : Oper} {a : Act} {Q : Exit → Act → World → Prop} {ao : Option Addr} {n c : Nat} (h : Rv R r v w) (hgd : p.guard = none) (x y : Operand) (ho : p.op = .store 67 x y) (hx : a.eval x = .pointer (some ⟨R, 0, none⟩)) (hy : a.eval y = .agg (rcA t (.slice ao n c)))
    (hh : wpList Try.prog ops Q rest (a.put p.dst undef) (w.setRow R (rcA t (.slice ao n c)))) : wpList Try.prog ops Q (p :: rest) a w :=
  wpList_store_row hgd 67 x y ho R (rcA t (.slice ao n c)) hx hy 67 _ h.hd infoRc rfl (rcA_one _ _ _ _) hh
/-- A new one. -/
def Rc.new (size : Nat) : Rc := ⟨1, size, [], 0, 0⟩
theorem Rc.new_ok (size : Nat) (h1 : 1 ≤ size) (h2 : size ≤ 127) : (Rc.new size).Ok := ⟨⟨by simp [Rc.new], h2, by simp [Rc.new], by simp [Rc.new], by simp [Rc.new]⟩, by simp [Rc.new], fun _ => h1, by simp [Rc.new]⟩
theorem NewReceiver_any (size : Nat) (h1 : 1 ≤ size) (h2 : size ≤ 127) (w : World) : Calls Try.prog 14 #[.int .i64 (size : Int)] w fun e w' => e = .returned (.tuple #[.pointer (some ⟨w.heap.size, 0, none⟩), .int .i64 0]) ∧ Rv w.heap.size (Rc.new size) (.slice none 0 0) w' ∧ Below w.heap.size w w' := by
  have hcb := canBe_any (size : Int) w
  rw [decide_eq_true (show (1 : Int) ≤ (size : Int) ∧ (size : Int) ≤ 127 by omega)] at hcb
  have HX : Hid (Rv w.heap.size (Rc.new size) (.slice none 0 0) (w.alloc (.cells #[.int .i64 1, .int .i64 (size : Int), .slice none 0 0, .int .i64 0, .int .u32 0] 67))) := ⟨heap_alloc_new w _, World.ownsRow_nil _ _ _ _, (Rc.new_ok size h1 h2).toWk⟩
  have HB : Hid (Below w.heap.size w (w.alloc (.cells #[.int .i64 1, .int .i64 (size : Int), .slice none 0 0, .int .i64 0, .int .u32 0] 67))) := (Below.refl _ _).alloc (Nat.le_refl _) _
  go_enter Try.func14, Try.ntmps14
  go_wp2_with (first | (go_at_call 26; refine hcb.mono ?_; rintro e w1 ⟨rfl, hw1⟩; rw [hw1]; clear hw1 w1))
  go_ret2
  exact ⟨rfl, HX.out, HB.out⟩
theorem NewReceiver_bad (z : Int) (hz : ¬ (1 ≤ z ∧ z ≤ 127)) (w : World) : Calls Try.prog 14 #[.int .i64 z] w fun e w' => e = .returned (.tuple #[.pointer none, .int .i64 1]) ∧ w' = w := by
  have hcb := canBe_any z w
  rw [decide_eq_false hz] at hcb
  go_enter Try.func14, Try.ntmps14
  go_wp2_with (first | (go_at_call 26; refine hcb.mono ?_; rintro e w1 ⟨rfl, hw1⟩; rw [hw1]; clear hw1 w1))
  go_ret2
  exact ⟨rfl, rfl⟩
/-- It ends with bytes of whatever block. -/
theorem rend_any (h : Rv R r v w) (cd : Nat) (hcd : cd < 4294967296) (b : List UInt8) (hbl : b.length ≤ 65543) (ao : Option Addr) (cp : Nat) (ho : w.ownsRow 0 5 1 (.slice ao b.length cp) b.length (Lib.byteCells b)) (hne : ao.map Addr.block ≠ some R) : Calls Try.prog 34 #[.pointer (some ⟨R, 0, none⟩), .int .u32 (cd : Int), .slice ao b.length cp] w fun e w' => e = .returned (.tuple #[]) ∧ Rv R (Rc.fin cd b) (.slice ao b.length cp) w' ∧ Kp [R] w w' := by
  have HR : Hid (Rv R (Rc.fin cd b) (.slice ao b.length cp) (w.setRow R (rcA (Rc.fin cd b) (.slice ao b.length cp)))) := ⟨setRow_heap w R _ _ _ _ h.hd, own_same8 ho (fun k hk => setRow_other _ _ _ _ (by
    rintro rfl
    apply hne
    cases ao with
    | none => cases hk
    | some a => exact hk)), (Rc.fin_ok cd b hcd hbl).toWk⟩
  have HK := hidOf2 (Kp.setRow1 w R (rcA (Rc.fin cd b) (.slice ao b.length cp)))
  go_enter Try.func34, Try.ntmps34
  go_wp2_with (first | (refine sdRc (t := Rc.fin cd b) (ao := ao) (n := b.length) (c := cp) h rfl _ _ rfl rfl rfl ?_))
  go_end0
  exact ⟨rfl, HR.out, HK.out⟩
theorem rgiveUp_results {Q : Nat} {f : F8} {b : Bool} {w : World} (h : Qb Q f w) (tmps : Array Value) (h2 : tmps[4]?.getD undef = .pointer (some ⟨Q, 0, none⟩)) (h3 : tmps[5]?.getD undef = .bool b) :
    (results Try.f44 tmps).run Try.prog w = .ok (.tuple #[.agg f.arr, .bool b]) w := by
  have l0 := h.load
  simp [Go.results, Try.results44, h2, h3, asAddr, l0]
set_option maxHeartbeats 2000000 in
theorem rgiveUp_any (h : Rv R r v w) (cd : Nat) (hcd : cd < 4294967296) : Calls Try.prog 44 #[.pointer (some ⟨R, 0, none⟩), .int .u32 (cd : Int)] w fun e w' => e = .returned (.tuple #[.agg (frm 128 0 0 cd).arr, .bool true]) ∧ Rv R (Rc.fin cd []) (.slice none 0 0) w' ∧ Kp [R] w w' := by
  obtain ⟨q, hq⟩ : ∃ q, w.heap.size = q := ⟨_, rfl⟩
  obtain ⟨W, hW⟩ : ∃ W, w.alloc (.cells zA8 30) = W := ⟨_, rfl⟩
  have b0 : Below w.heap.size w W := by rw [← hW]; exact (Below.refl _ _).alloc (Nat.le_refl _) _
  have q0 : Qb q F8.nul W := by rw [← hW, ← hq]; exact heap_alloc_new w _
  have hRq : R < q := by rw [← hq]; exact h.lt
  have hE := rend_any (h.below b0) cd hcd [] (by simp) none 0 (World.ownsRow_nil _ _ _ _) (by simp)
  simp only [List.length_nil] at hE
  have HQ := hidOf2 q0
  have HB := hidOf2 b0
  have hA := abort_any cd hcd
  obtain ⟨ff, hff⟩ : ∃ f, frm 128 0 0 cd = f := ⟨_, rfl⟩
  rw [hff] at hA ⊢
  clear hff b0 q0
  go_enter Try.func44, Try.ntmps44
  go_upto_region 1 with fail
  change Code.wp Try.prog _ _ _ (w.alloc (.cells zA8 30))
  rw [hW]
  go_wp2_with fail
  refine hE.mono ?_
  rintro e w1 ⟨rfl, r1, k1⟩
  have q1 : Qb q F8.nul w1 := (k1.block q HQ.out.lt (by simp; omega)).trans HQ.out
  go_wp2_with fail
  refine (hA w1).mono ?_
  rintro e w2 ⟨rfl, b2⟩
  have q2 := q1.below b2
  have HR2 := hidOf2 (r1.below b2)
  have HK := hidOf2 (((Kp.of_below (bs := [R]) HB.out).trans k1).trans (Kp.of_below b2))
  have HZ := hidOf2 (q2.row ff)
  have HX : Hid (Rv R (Rc.fin cd []) (.slice none 0 0) (w2.setRow q ff.arr) ∧ Kp [R] w (w2.setRow q ff.arr)) := ⟨HR2.out.kp (Kp.setRow1 w2 q ff.arr) (fun b hb => by simp [rB, Value.ownBlock] at hb; simp; omega), HK.out.fresh (Kp.setRow1 w2 q ff.arr) (fun b hb => .inr (by simp at hb; omega))⟩
  clear hE hA q1 r1 k1 b2 HR2 HK
  go_wp2_with (first | (refine sdF (g := ff) q2 rfl _ _ rfl rfl rfl ?_))
  exact bodyPost_ret (rgiveUp_results HZ.out _ rfl rfl) rfl ⟨rfl, HX.out⟩
theorem rDone_not (h : Rv R r v w) (h3 : r.st ≠ 3) : Calls Try.prog 19 #[.pointer (some ⟨R, 0, none⟩)] w fun e w' => e = .returned (.tuple #[.slice none 0 0, .int .u32 0, .bool false]) ∧ w' = w := by
  have y0 := h.c0
  have d0 : ((r.st : Int) != 3) = true := by simp; omega
  go_enter Try.func19, Try.ntmps19
  go_wp2
  go_ret3
  exact ⟨rfl, rfl⟩
theorem enClone : ∀ args x, (callFunc 20 args).run Try.prog x = .ok (.enter 20 args) x := fun _ _ => by rfl
theorem load_u32 (x : World) (D k : Nat) (z : Int) (hc : x.cell? ⟨D, k, none⟩ = some (.int .u32 z)) : (loadVar 32 ⟨D, k, none⟩).run Try.prog x = .ok (.int .u32 z) x := by
  simp [go_sem, run_underlying Try.underlying32, hc]
set_option maxHeartbeats 4000000 in
theorem rDone_any (h : Rv R r v w) (h3 : r.st = 3) : Calls Try.prog 19 #[.pointer (some ⟨R, 0, none⟩)] w fun e w' => ∃ u, e = .returned (.tuple #[u, .int .u32 (r.cd : Int), .bool true]) ∧ w'.ownsRow w.heap.size 5 1 u r.bs.length (Lib.byteCells r.bs) ∧ Below w.heap.size w w' := by
  have y0 := h.c0
  have d0 : ((r.st : Int) != 3) = false := by simp; omega
  obtain ⟨ao, cp, hv⟩ := h.shape
  have hl := h.ok.bl
  have HC : Hid (∀ y, Below w.heap.size w y → Calls Try.prog 20 #[v] y fun e w' => ∃ x, e = .returned x ∧ w'.ownsRow y.heap.size 5 1 x r.bs.length (Lib.byteCells r.bs) ∧ Below y.heap.size y w') := fun y hy => Clone_any v r.bs y (by omega) (bytes_of_own (h.below hy).own)
  have HC2 : Hid (∀ y, Below w.heap.size w y → y.cell? ⟨R, 2, none⟩ = some v) := fun y hy => (h.below hy).c2
  have HC4 : Hid (∀ y, Below w.heap.size w y → y.cell? ⟨R, 4, none⟩ = some (.int .u32 (r.cd : Int))) := fun y hy => (h.below hy).c4
  have c0 : Below w.heap.size w w.drew := bdr (Below.refl _ _) 1
  have S0 := c0
  subst hv
  go_enter Try.func19, Try.ntmps19
  go_upto_region 3 with fail
  refine wp_region_held (S := fun y => Below w.heap.size w y) (by kernel_rfl) ?_
  change wpAnyH _ _ _ _ _ _ _ _ w.drew
  refine wpAnyH_take (i := 0) (v := (.pointer (some ⟨R, 0, none⟩))) rfl (by kernel_rfl) (by kernel_rfl) (by kernel_rfl) (fun _ _ _ h => h) (.inl ⟨rfl, fun _ hS => rfl⟩) S0 ?_
  simp only [List.getElem_toArray, List.getElem_cons_succ, List.getElem_cons_zero, Act.put, List.setIfInBounds_toArray, List.set_cons_succ, List.set_cons_zero]
  refine wpAnyH_take (i := 1) (v := (.pointer (some ⟨R, 0, none⟩))) rfl (by kernel_rfl) (by kernel_rfl) (by kernel_rfl) (fun _ _ _ h => h) (.inl ⟨rfl, fun _ hS => by simp [execOp, go_sem, Act.eval]⟩) S0 ?_
  simp only [List.getElem_toArray, List.getElem_cons_succ, List.getElem_cons_zero, Act.put, List.setIfInBounds_toArray, List.set_cons_succ, List.set_cons_zero]
  refine wpAnyH_take (i := 2) (v := (.pointer (some ⟨R, 2, none⟩))) rfl (by kernel_rfl) (by kernel_rfl) (by kernel_rfl) (fun _ _ _ h => h) (.inl ⟨rfl, fun _ hS => by simp [execOp, go_sem, Act.eval]⟩) S0 ?_
  simp only [List.getElem_toArray, List.getElem_cons_succ, List.getElem_cons_zero, Act.put, List.setIfInBounds_toArray, List.set_cons_succ, List.set_cons_zero]
  refine wpAnyH_take (i := 3) (v := (.slice ao r.bs.length cp)) rfl (by kernel_rfl) (by kernel_rfl) (by kernel_rfl) (fun _ _ _ h => h) (.inl ⟨rfl, fun _ hS => exec_load rfl rfl (load_bytes _ _ _ _ _ _ (HC2.out _ hS))⟩) S0 ?_
  simp only [List.getElem_toArray, List.getElem_cons_succ, List.getElem_cons_zero, Act.put, List.setIfInBounds_toArray, List.set_cons_succ, List.set_cons_zero]
  refine wpAnyH_take (i := 5) (v := (.pointer (some ⟨R, 0, none⟩))) rfl (by kernel_rfl) (by kernel_rfl) (by kernel_rfl) (fun _ _ _ h => h) (.inl ⟨rfl, fun _ hS => rfl⟩) S0 ?_
  simp only [List.getElem_toArray, List.getElem_cons_succ, List.getElem_cons_zero, Act.put, List.setIfInBounds_toArray, List.set_cons_succ, List.set_cons_zero]
  refine wpAnyH_take (i := 6) (v := (.pointer (some ⟨R, 0, none⟩))) rfl (by kernel_rfl) (by kernel_rfl) (by kernel_rfl) (fun _ _ _ h => h) (.inl ⟨rfl, fun _ hS => by simp [execOp, go_sem, Act.eval]⟩) S0 ?_
  simp only [List.getElem_toArray, List.getElem_cons_succ, List.getElem_cons_zero, Act.put, List.setIfInBounds_toArray, List.set_cons_succ, List.set_cons_zero]
  refine wpAnyH_take (i := 7) (v := (.pointer (some ⟨R, 4, none⟩))) rfl (by kernel_rfl) (by kernel_rfl) (by kernel_rfl) (fun _ _ _ h => h) (.inl ⟨rfl, fun _ hS => by simp [execOp, go_sem, Act.eval]⟩) S0 ?_
  simp only [List.getElem_toArray, List.getElem_cons_succ, List.getElem_cons_zero, Act.put, List.setIfInBounds_toArray, List.set_cons_succ, List.set_cons_zero]
  refine wpAnyH_take (i := 8) (v := (.int .u32 (r.cd : Int))) rfl (by kernel_rfl) (by kernel_rfl) (by kernel_rfl) (fun _ _ _ h => h) (.inl ⟨rfl, fun _ hS => exec_load rfl rfl (load_u32 _ _ _ _ (HC4.out _ hS))⟩) S0 ?_
  simp only [List.getElem_toArray, List.getElem_cons_succ, List.getElem_cons_zero, Act.put, List.setIfInBounds_toArray, List.set_cons_succ, List.set_cons_zero]
  refine wpAnyH_all (rs := [4]) (by kernel_rfl) (by simp) ?_
  intro k hk
  simp only [List.mem_cons, List.mem_nil_iff, or_false] at hk
  subst hk
  refine wpOp_run rfl rfl (wp_call_fn 20 #[.slice ao r.bs.length cp] (by simp [execOp, go_sem, Act.eval, resolve, invoke, enClone]) ?_)
  refine (HC.out _ S0).mono ?_
  rintro e w1 ⟨x1, rfl, ho1, b1⟩
  have c1 := S0.trans (b1.mono S0.size)
  refine ⟨c1, ?_⟩
  simp only [List.getElem_toArray, List.getElem_cons_succ, List.getElem_cons_zero, Act.put, List.setIfInBounds_toArray, List.set_cons_succ, List.set_cons_zero]
  refine wpAnyH_take (i := 9) (v := (x1)) rfl (by kernel_rfl) (by kernel_rfl) (by kernel_rfl) (fun _ _ _ h => h) (.inl ⟨rfl, fun _ hS => rfl⟩) c1 ?_
  simp only [List.getElem_toArray, List.getElem_cons_succ, List.getElem_cons_zero, Act.put, List.setIfInBounds_toArray, List.set_cons_succ, List.set_cons_zero]
  refine wpAnyH_take (i := 10) (v := (.int .u32 (r.cd : Int))) rfl (by kernel_rfl) (by kernel_rfl) (by kernel_rfl) (fun _ _ _ h => h) (.inl ⟨rfl, fun _ hS => rfl⟩) c1 ?_
  simp only [List.getElem_toArray, List.getElem_cons_succ, List.getElem_cons_zero, Act.put, List.setIfInBounds_toArray, List.set_cons_succ, List.set_cons_zero]
  refine wpAnyH_take (i := 11) (v := ((Value.bool true))) rfl (by kernel_rfl) (by kernel_rfl) (by kernel_rfl) (fun _ _ _ h => h) (.inl ⟨rfl, fun _ hS => rfl⟩) c1 ?_
  simp only [List.getElem_toArray, List.getElem_cons_succ, List.getElem_cons_zero, Act.put, List.setIfInBounds_toArray, List.set_cons_succ, List.set_cons_zero]
  refine wpAnyH_done (by kernel_rfl) ?_ _
  go_wp2
  go_ret3
  exact ⟨x1, rfl, own_lower ho1 (c0.size), c1⟩
theorem Ask_results {Q : Nat} {f : F8} {b : Bool} {w : World} (h : Qb Q f w) (tmps : Array Value) (h2 : tmps[2]?.getD undef = .pointer (some ⟨Q, 0, none⟩)) (h3 : tmps[3]?.getD undef = .bool b) :
    (results Try.f17 tmps).run Try.prog w = .ok (.tuple #[.agg f.arr, .bool b]) w := by
  have l0 := h.load
  simp [Go.results, Try.results17, h2, h3, asAddr, l0]
theorem rAns_arr (cm sz : Nat) (h1 : cm < 256) (h2 : sz < 256) : (rAns cm sz).arr = #[.int .u8 162, .int .u8 (cm : Int), .int .u8 (sz : Int), .int .u8 0, .int .u8 0, .int .u8 0, .int .u8 0, .int .u8 0] := by
  unfold rAns F8.arr F8.c
  simp only [un cm h1, un sz h2]
  simp
end
end Go.Proofs.Ytebjofkblfmkmaa
