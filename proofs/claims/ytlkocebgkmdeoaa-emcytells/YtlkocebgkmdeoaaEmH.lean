/- A teller's small calls: New, mayTell, Tick, Forget, copies, write, Read. -/
import Derived.Test.YtlkocebgkmdeoaaEmD
import Derived.Test.YtlkocebgkmdeoaaEmE
import Derived.Test.YtlkocebgkmdeoaaEmF
import Derived.Test.YtlkocebgkmdeoaaEmG
namespace Go.Proofs.Ytlkocebgkmdeoaa
open Go.RowKit
set_option linter.unusedVariables false
set_option maxRecDepth 1000000
set_option linter.unusedSimpArgs false
theorem ldG {w : World} {ops : Array Oper} {rest : List Oper} {p : Oper} {a : Act} {Q : Exit → Act → World → Prop} {ty : TypeId} {ad : Addr} {v : Value} (hr : (loadVar ty ad).run Try.prog w = .ok v w) (hgd : Region.wanted p (yielded ops a.tmps) = true) (x : Operand) (ho : p.op = .load ty x) (hx : a.eval x = .pointer (some ad))
    (hh : wpList Try.prog ops Q rest (a.put p.dst v) w) : wpList Try.prog ops Q (p :: rest) a w := by
  refine BigFrame.wpList_want hgd fun K hK => ?_
  unfold Oper.wp execOp
  simp only [ho, hx, Instr.loadAt, Instr.sureAddr, Sem.run_bind, Sem.run_pure, Result.andThen_ok, hr]
  exact hK _ _ hh
section
variable {w : World} {q : Nat} {A B : Array Value}
theorem Bc.ld8 (h : Bc 42 q A w) (hs : A.size = 8) : (loadVar 42 ⟨q, 0, none⟩).run Try.prog w = .ok (.agg A) w :=
  run_loadVar_row w q 42 42 A (0, 0) _ h Try.underlying42 rfl (by rw [hs]; exact size8F)
theorem Bc.ldT (h : Bc 37 q A w) (hs : A.size = 7) : (loadVar 37 ⟨q, 0, none⟩).run Try.prog w = .ok (.agg A) w :=
  run_loadVar_row w q 37 37 A (0, 0) _ h Try.underlying37 rfl (by rw [hs]; exact sizeT)
theorem Bc.row {T : TypeId} (h : Bc T q A w) (B : Array Value) : Bc T q B (w.setRow q B) := setRow_heap w q A B T _ h
theorem Bc.st8 {ops : Array Oper} {rest : List Oper} {p : Oper} {a : Act} {Q : Exit → Act → World → Prop} (h : Bc 42 q A w) (hA : A.size = 8) (hB : B.size = 8) (h1 : (B.all fun x => x.oneCell') = true) (hgd : p.guard = none) (x y : Operand) (ho : p.op = .store 42 x y) (hx : a.eval x = .pointer (some ⟨q, 0, none⟩)) (hy : a.eval y = .agg B)
    (hh : wpList Try.prog ops Q rest (a.put p.dst undef) (w.setRow q B)) : wpList Try.prog ops Q (p :: rest) a w :=
  wpList_store_row hgd 42 x y ho q B hx hy 42 A h (by rw [hB]; exact size8F) (by rw [hA, hB]) h1 hh
theorem Bc.stT {ops : Array Oper} {rest : List Oper} {p : Oper} {a : Act} {Q : Exit → Act → World → Prop} (h : Bc 37 q A w) (hA : A.size = 7) (hB : B.size = 7) (h1 : (B.all fun x => x.oneCell') = true) (hgd : p.guard = none) (x y : Operand) (ho : p.op = .store 37 x y) (hx : a.eval x = .pointer (some ⟨q, 0, none⟩)) (hy : a.eval y = .agg B)
    (hh : wpList Try.prog ops Q rest (a.put p.dst undef) (w.setRow q B)) : wpList Try.prog ops Q (p :: rest) a w :=
  wpList_store_row hgd 37 x y ho q B hx hy 37 A h (by rw [hB]; exact sizeT) (by rw [hA, hB]) h1 hh
theorem Bc.other {T : TypeId} {g : Nat} (h : Bc T g A w) (hg : g ≠ q) (B : Array Value) : Bc T g A (w.setRow q B) := (setRow_other w q g B hg).trans h
theorem below_row {a : World} {B0 : Nat} (h : Below B0 a w) (hq : B0 ≤ q) (B : Array Value) : Below B0 a (w.setRow q B) :=
  ⟨h.os, h.tape, h.output, by have := h.size; simpa [World.setRow] using this, fun k hk => (setRow_other w q k B (by omega)).trans (h.block k hk)⟩
end
theorem Tr.arr_one (x : Tr) : (x.arr.all fun v => v.oneCell') = true := by simp [Tr.arr, Value.oneCell']
theorem Tr.far_one (x : Tr) : (x.far.all fun v => v.oneCell') = true := by simp [Tr.far, Value.oneCell']
theorem Kq.one (w : World) (g i : Nat) (v : Value) : Kq (fun k => k = g) w (w.setCell ⟨g, i, none⟩ v) := (Kq.refl (fun k => k = g) w).setCell ⟨g, i, none⟩ rfl v
theorem eq_nilT (w : World) (a : Option Addr) (n c : Nat) : (binOp .eql 30 (.slice a n c) (.slice none 0 0)).run Try.prog w = .ok (.bool a.isNone) w := by
  exact Lib.run_eql_slice_nil w _ 37 a n c 0 0 Try.underlying30
theorem clo_any {v : Value} {l : List Tr} {w : World} (hl : l.length * 8 ≤ 140737488355328) (hB : Wide 7 Tr.cs w v l) : Calls Try.prog 33 #[v] w fun e w' => ∃ x, e = .returned x ∧ w'.ownsRow w.heap.size 37 7 x l.length (flatW DT l) ∧ Below w.heap.size w w' := by
  have HB := hidOf2 hB
  have hq := eq_nilT
  obtain ⟨ao, cap, rfl, h0, hc⟩ := hB
  cases ao with
  | none =>
    obtain ⟨rfl, rfl⟩ := h0 rfl
    go_enter Try.func33, Try.ntmps33
    go_wp2
    go_ret
    exact ⟨_, rfl, World.ownsRow_nil _ _ _ _, Below.refl _ _⟩
  | some ad =>
    have HO := hidOf2 (own_empty_e w 37 7)
    have b0 : Below w.heap.size w (w.alloc (.cells #[] 37)) := (Below.refl _ _).alloc (Nat.le_refl _) _
    have HL := hidOf2 b0
    have HB2 := hidOf2 (HB.out.same b0.size (fun b _ hlt => b0.block b hlt))
    have hsz := size_alloc w (.cells #[] 37)
    obtain ⟨n, hn⟩ : ∃ n, l.length = n := ⟨_, rfl⟩
    have HN := hidOf2 hn
    rw [hn] at HB2 hl ⊢
    clear HB hc h0 b0 hn
    go_enter Try.func33, Try.ntmps33
    go_wp2_with (at_builtin; refine wpList_plain rfl fun K hK => ?_; refine wp_append_wide DT _ _ 30 37 _ 8 Try.underlying30 infoT rfl rfl w.heap.size _ [] rfl (by exact HO.out) _ l rfl (by exact HB2.out) (by rw [HN.out]; unfold maxLen; simp; omega) (by rw [HN.out]; simp; omega) (by rw [hsz]; omega) ?_; intro v1 w2 ho hgr; refine hK _ _ ?_; have HO2 := hidOf2 (show w2.ownsRow w.heap.size 37 7 v1 l.length (flatW DT l) from ho); have HL2 := hidOf2 (HL.out.grown hgr (by rw [hsz]; omega) (fun k e => own_lt HO.out k e)); clear ho hgr)
    go_ret
    exact ⟨_, rfl, by rw [← HN.out]; exact HO2.out, HL2.out⟩
section
variable {g : Nat} {P : Nat → Prop} {s : Te} {vn vp vw : Value} {w : World}
theorem hist_any (h : Ptv g P s vn vp vw w) : Calls Try.prog 21 #[.pointer (some ⟨g, 0, none⟩)] w fun e w' => ∃ x, e = .returned x ∧ w'.ownsRow w.heap.size 37 7 x s.past.length (flatW DT s.past) ∧ Below w.heap.size w w' := by
  obtain ⟨_, _, _, c3, _⟩ := h.cells
  have hC := clo_any (by have := h.ok.h4; have := h.ok.h2; omega) (wide_of_own DT h.rp)
  obtain ⟨ao, cap, hv⟩ := own_shapeT h.rp
  subst hv
  generalize s.past.length = n at *
  clear h
  go_enter Try.func21, Try.ntmps21
  go_wp2_with (go_at_call 33; refine hC.mono ?_; rintro e w' ⟨x, rfl, r1, b1⟩)
  go_ret
  exact ⟨_, rfl, r1, b1⟩
theorem now_any (h : Ptv g P s vn vp vw w) (hl : s.now.length * 8 ≤ 140737488355328) : Calls Try.prog 22 #[.pointer (some ⟨g, 0, none⟩)] w fun e w' => ∃ x, e = .returned x ∧ w'.ownsRow w.heap.size 37 7 x s.now.length (flatW DT s.now) ∧ Below w.heap.size w w' := by
  obtain ⟨_, _, c2, _⟩ := h.cells
  have hC := clo_any hl (wide_of_own DT h.rn)
  obtain ⟨ao, cap, hv⟩ := own_shapeT h.rn
  subst hv
  generalize s.now.length = n at *
  clear h
  go_enter Try.func22, Try.ntmps22
  go_wp2_with (go_at_call 33; refine hC.mono ?_; rintro e w' ⟨x, rfl, r1, b1⟩)
  go_ret
  exact ⟨_, rfl, r1, b1⟩
theorem mayT_any (h : Ptv g P s vn vp vw w) : Calls Try.prog 31 #[.pointer (some ⟨g, 0, none⟩)] w fun e w' => e = .returned (.bool s.may) ∧ w' = w := by
  obtain ⟨_, _, _, _, c4, c5, _⟩ := h.cells
  have HM : Hid (s.may = (decide (0 < s.waits.length) && decide (s.quiet = 0))) := rfl
  obtain ⟨ao, cap, hv⟩ := own_shapeT h.rw
  subst hv
  generalize s.may = m at *
  clear h
  generalize s.waits.length = n at *
  generalize s.quiet = q at *
  by_cases hn : 0 < n
  · have d1 : decide ((0 : Int) < (n : Int)) = true := by simp; omega
    have e1 : decide (0 < n) = true := by simp; omega
    by_cases hq : q = 0
    · subst hq
      rw [e1] at HM
      clear hn
      go_enter Try.func31, Try.ntmps31
      go_wp2
      go_ret
      exact ⟨ret_bool (by rw [HM.out]; simp), rfl⟩
    · have d2 : decide ((q : Int) = 0) = false := by simp; omega
      have d3 : ((q : Int) == 0) = false := by rw [beq_eq_false_iff_ne]; omega
      have e2 : decide (q = 0) = false := by simp; omega
      rw [e1, e2] at HM
      clear hn hq e2
      go_enter Try.func31, Try.ntmps31
      go_wp2
      go_ret
      exact ⟨ret_bool (by rw [HM.out]; simp), rfl⟩
  · obtain rfl : n = 0 := by omega
    have e1 : decide (0 < 0) = false := by decide
    rw [e1] at HM
    clear hn
    go_enter Try.func31, Try.ntmps31
    go_wp2
    go_ret
    exact ⟨ret_bool (by rw [HM.out]; simp), rfl⟩
theorem Ptv.setPast (h : Ptv g P s vn vp vw w) (v : Value) (l : List Tr) (hr : w.ownsRow 0 37 7 v l.length (flatW DT l)) (hl : l.length ≤ 255) (hb : ∀ k, v.ownBlock = some k → P k ∧ k ≠ g ∧ vn.ownBlock ≠ some k ∧ vw.ownBlock ≠ some k) : Ptv g P { s with past := l } vn v vw (w.setCell ⟨g, 3, none⟩ v) := by
  have K : Kq (fun k => k = g) w (w.setCell ⟨g, 3, none⟩ v) := Kq.one w g 3 _
  exact ⟨h.blk.set 3 v, own_kq h.rn K (fun k e => (h.bn k e).2.1), own_kq hr K (fun k e => (hb k e).2.1), own_kq h.rw K (fun k e => (h.bw k e).2), h.pg, fun k e => ⟨(h.bn k e).1, (h.bn k e).2.1, fun e2 => (hb k e2).2.2.1 e, (h.bn k e).2.2.2⟩, fun k e => ⟨(hb k e).1, (hb k e).2.1, (hb k e).2.2.2⟩, h.bw, ⟨h.ok.h1, h.ok.h2, h.ok.h3, hl, h.ok.h5, h.ok.h6⟩⟩
theorem Ptv.setNow (h : Ptv g P s vn vp vw w) (v : Value) (l : List Tr) (hr : w.ownsRow 0 37 7 v l.length (flatW DT l)) (hb : ∀ k, v.ownBlock = some k → P k ∧ k ≠ g ∧ vp.ownBlock ≠ some k ∧ vw.ownBlock ≠ some k) : Ptv g P { s with now := l } v vp vw (w.setCell ⟨g, 2, none⟩ v) := by
  have K : Kq (fun k => k = g) w (w.setCell ⟨g, 2, none⟩ v) := Kq.one w g 2 _
  exact ⟨h.blk.set 2 v, own_kq hr K (fun k e => (hb k e).2.1), own_kq h.rp K (fun k e => (h.bp k e).2.1), own_kq h.rw K (fun k e => (h.bw k e).2), h.pg, fun k e => ⟨(hb k e).1, (hb k e).2.1, (hb k e).2.2.1, (hb k e).2.2.2⟩, h.bp, h.bw, ⟨h.ok.h1, h.ok.h2, h.ok.h3, h.ok.h4, h.ok.h5, h.ok.h6⟩⟩
theorem Ptv.setWaits (h : Ptv g P s vn vp vw w) (v : Value) (l : List Tr) (hr : w.ownsRow 0 42 8 v l.length (flatW DF l)) (hl : l.length ≤ 16) (hb : ∀ k, v.ownBlock = some k → P k ∧ k ≠ g ∧ vn.ownBlock ≠ some k ∧ vp.ownBlock ≠ some k) : Ptv g P { s with waits := l } vn vp v (w.setCell ⟨g, 4, none⟩ v) := by
  have K : Kq (fun k => k = g) w (w.setCell ⟨g, 4, none⟩ v) := Kq.one w g 4 _
  exact ⟨h.blk.set 4 v, own_kq h.rn K (fun k e => (h.bn k e).2.1), own_kq h.rp K (fun k e => (h.bp k e).2.1), own_kq hr K (fun k e => (hb k e).2.1), h.pg, fun k e => ⟨(h.bn k e).1, (h.bn k e).2.1, (h.bn k e).2.2.1, fun e2 => (hb k e2).2.2.1 e⟩, fun k e => ⟨(h.bp k e).1, (h.bp k e).2.1, fun e2 => (hb k e2).2.2.2 e⟩, fun k e => ⟨(hb k e).1, (hb k e).2.1⟩, ⟨h.ok.h1, h.ok.h2, h.ok.h3, h.ok.h4, hl, h.ok.h6⟩⟩
theorem Ptv.setQuiet (h : Ptv g P s vn vp vw w) (n : Nat) (hn : n ≤ s.inh) : Ptv g P { s with quiet := n } vn vp vw (w.setCell ⟨g, 5, none⟩ (.int .u64 n)) := by
  have K : Kq (fun k => k = g) w (w.setCell ⟨g, 5, none⟩ (.int .u64 n)) := Kq.one w g 5 _
  exact ⟨h.blk.set 5 _, own_kq h.rn K (fun k e => (h.bn k e).2.1), own_kq h.rp K (fun k e => (h.bp k e).2.1), own_kq h.rw K (fun k e => (h.bw k e).2), h.pg, h.bn, h.bp, h.bw, ⟨h.ok.h1, h.ok.h2, h.ok.h3, h.ok.h4, h.ok.h5, hn⟩⟩
theorem forget_any (h : Ptv g P s vn vp vw w) : Calls Try.prog 17 #[.pointer (some ⟨g, 0, none⟩)] w fun e w' => e = .returned (.tuple #[]) ∧ Pt g P s.forget w' ∧ Kq P w w' := by
  obtain ⟨_, _, _, c3, _, _, hf⟩ := h.cells
  have f3 := hf 3
  have HP : Hid (Pt g P s.forget (w.setCell ⟨g, 3, none⟩ (.slice none 0 0))) := ⟨_, _, _, h.setPast (.slice none 0 0) [] (World.ownsRow_nil _ _ _ _) (Nat.zero_le _) (fun k e => by simp [Value.ownBlock] at e)⟩
  have HK : Hid (Kq P w (w.setCell ⟨g, 3, none⟩ (.slice none 0 0))) := (Kq.refl _ _).setCell ⟨g, 3, none⟩ h.pg _
  obtain ⟨ao, cap, hv⟩ := own_shapeT h.rp
  subst hv
  clear h
  go_enter Try.func17, Try.ntmps17
  go_wp2
  go_end0
  exact ⟨rfl, HP.out, HK.out⟩
theorem tick_any (h : Ptv g P s vn vp vw w) : Calls Try.prog 13 #[.pointer (some ⟨g, 0, none⟩)] w fun e w' => e = .returned (.bool s.tick.may) ∧ Ptv g P s.tick vn vp vw w' ∧ Kq P w w' := by
  obtain ⟨_, _, _, _, _, c5, hf⟩ := h.cells
  have f5 := hf 5
  have HP : Hid (∀ z : Int, z = ((s.quiet - 1 : Nat) : Int) → Ptv g P s.tick vn vp vw (w.setCell ⟨g, 5, none⟩ (.int .u64 z)).drew ∧ Kq P w (w.setCell ⟨g, 5, none⟩ (.int .u64 z)).drew) := fun z hz => by
    rw [hz]
    have h1 : Ptv g P s.tick vn vp vw (w.setCell ⟨g, 5, none⟩ (.int .u64 (s.quiet - 1 : Nat))) := h.setQuiet (s.quiet - 1) (by have := h.ok.h6; omega)
    exact ⟨h1.kq (Q := fun _ => False) ((Kq.refl _ _).drawn 1) (fun _ _ _ h => h), ((Kq.refl P w).setCell ⟨g, 5, none⟩ h.pg _).drawn 1⟩
  have hb := h.ok.h6
  have hb2 := h.ok.h3
  have HM : Hid (∀ x, Ptv g P s.tick vn vp vw x → Calls Try.prog 31 #[.pointer (some ⟨g, 0, none⟩)] x fun e w' => e = .returned (.bool s.tick.may) ∧ w' = x) := fun x hx => mayT_any hx
  generalize s.tick = T at *
  by_cases hq : s.quiet = 0
  · rw [hq] at c5 HP
    have HP1 := hidOf2 (HP.out 0 rfl)
    clear h HP hb hq
    go_enter Try.func13, Try.ntmps13
    go_wp2_with fail
    go_region
    go_wp2_with (go_at_call 31; refine (HM.out _ HP1.out.1).mono ?_; rintro e w' ⟨rfl, hw⟩; rw [hw])
    go_ret
    exact ⟨rfl, HP1.out.1, HP1.out.2⟩
  · obtain ⟨q, hqq⟩ : ∃ q, s.quiet = q + 1 := ⟨s.quiet - 1, by omega⟩
    have HP1 : Hid (∀ z : Int, z = (q : Int) → Ptv g P T vn vp vw (w.setCell ⟨g, 5, none⟩ (.int .u64 z)).drew ∧ Kq P w (w.setCell ⟨g, 5, none⟩ (.int .u64 z)).drew) := fun z hz => HP.out z (by rw [hz, hqq]; rfl)
    rw [hqq] at c5
    have hq0 : q + 1 ≤ 4294967296 := by omega
    clear h HP hb hq hqq
    go_enter Try.func13, Try.ntmps13
    go_wp2_with fail
    go_region
    go_wp2_with (go_at_call 31; refine (HM.out _ (HP1.out _ (by omega)).1).mono ?_; rintro e w' ⟨rfl, hw⟩; rw [hw])
    all_goals
      go_ret
      exact ⟨rfl, (HP1.out _ (by omega)).1, (HP1.out _ (by omega)).2⟩
end
end Go.Proofs.Ytlkocebgkmdeoaa
