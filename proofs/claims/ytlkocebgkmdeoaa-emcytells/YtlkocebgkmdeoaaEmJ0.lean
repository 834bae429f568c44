/- What a teller's longer calls are walked with. -/
import Derived.Test.YtlkocebgkmdeoaaEmI
namespace Go.Proofs.Ytlkocebgkmdeoaa
open Go.RowKit
set_option linter.unusedVariables false
set_option maxRecDepth 1000000
set_option linter.unusedSimpArgs false
theorem wp_load_run {o : Oper} {a : Act} {w : World} {K : Act → World → Prop} {Q : Exit → Act → World → Prop} (ty : TypeId) (x : Operand) (ho : o.op = .load ty x) (ad : Addr) (hx : a.eval x = .pointer (some ad)) (v : Value)
    (hr : (loadVar ty ad).run Try.prog w = .ok v w) (h : K (a.put o.dst v) w) : o.wp Try.prog a w K Q := by
  unfold Oper.wp execOp
  simp only [ho, hx, Instr.loadAt, Instr.sureAddr, Sem.run_bind, Sem.run_pure, Result.andThen_ok, hr]
  exact h
theorem wp_store_run {o : Oper} {a : Act} {w w' : World} {K : Act → World → Prop} {Q : Exit → Act → World → Prop} (ty : TypeId) (x y : Operand) (ho : o.op = .store ty x y) (ad : Addr) (hx : a.eval x = .pointer (some ad)) (v : Value) (hy : a.eval y = v)
    (hr : (storeVar ty ad v).run Try.prog w = .ok () w') (h : K (a.put o.dst undef) w') : o.wp Try.prog a w K Q := by
  unfold Oper.wp execOp
  simp only [ho, hx, hy, Instr.storeAt, Instr.sureAddr, Sem.run_bind, Sem.run_pure, Result.andThen_ok, hr]
  exact h
section
variable {x : World} {D k : Nat} {ao : Option Addr} {l c : Nat} {u : Value}
theorem load_ts (hc : x.cell? ⟨D, k, none⟩ = some (.slice ao l c)) : (loadVar 30 ⟨D, k, none⟩).run Try.prog x = .ok (.slice ao l c) x := by
  simp [go_sem, run_underlying Try.underlying30, hc]
theorem load_fs (hc : x.cell? ⟨D, k, none⟩ = some (.slice ao l c)) : (loadVar 31 ⟨D, k, none⟩).run Try.prog x = .ok (.slice ao l c) x := by
  simp [go_sem, run_underlying Try.underlying31, hc]
theorem store_ts (hc : x.cell? ⟨D, k, none⟩ = some u) (hf : x.frozen? ⟨D, k, none⟩ = false) : (storeVar 30 ⟨D, k, none⟩ (.slice ao l c)).run Try.prog x = .ok () (x.setCell ⟨D, k, none⟩ (.slice ao l c)) := by
  simp [go_sem, run_underlying Try.underlying30, hc, hf]
theorem store_fs (hc : x.cell? ⟨D, k, none⟩ = some u) (hf : x.frozen? ⟨D, k, none⟩ = false) : (storeVar 31 ⟨D, k, none⟩ (.slice ao l c)).run Try.prog x = .ok () (x.setCell ⟨D, k, none⟩ (.slice ao l c)) := by
  simp [go_sem, run_underlying Try.underlying31, hc, hf]
end
theorem Bc.ld5 {w : World} {q : Nat} {A : Array Value} (h : Bc 35 q A w) (hs : A.size = 5) : (loadVar 35 ⟨q, 0, none⟩).run Try.prog w = .ok (.agg A) w :=
  run_loadVar_row w q 35 35 A (0, 0) _ h Try.underlying35 rfl (by rw [hs]; kernel_rfl)
theorem wp_one (D : Dec Tr) {o : Oper} {a : Act} {w : World} {K : Act → World → Prop} {Q : Exit → Act → World → Prop} (s : Tr) (t e : TypeId) (z : Value) (bytes : Nat) (x : Operand) (ho : o.op = .buildSlice t 1 #[(0, x)]) (hx : a.eval x = .agg (D.dec s).toArray)
    (ht : Try.prog.underlying t = some (.slice e)) (hinfo : (Try.prog.info? e).map (fun i => (i.zero, i.size, i.bytes)) = some (some z, D.c, bytes)) (hsmall : D.c ≤ 1000)
    (h : K (a.put o.dst (.slice (some ⟨w.heap.size, 0, none⟩) 1 1)) (w.alloc (.cells (D.dec s).toArray e))) : o.wp Try.prog a w K Q := by
  obtain ⟨i0, hi, hz0, hz1, hz2⟩ := info_parts hinfo
  refine wp_buildSlice t e 1 _ ho (D.dec s).toArray i0 z ht hi hz0 (by rw [hz1]; omega) (by rw [hz1]; have := D.pos; omega) ?_ h
  rw [hz1]
  have hsz : (Value.agg (D.dec s).toArray).cells.size = D.c := by simp [Value.cells, D.len]
  have := Go.Great.fill_whole D.pos [Value.agg (D.dec s).toArray] ((Array.range (1 * D.c)).map (z.cells[· % z.cells.size]!)) (by intro v hv; simp at hv; subst hv; exact hsz) (by simp)
  simpa [hx, Value.cells] using this
theorem wp_app (D : Dec Tr) {o : Oper} {a : Act} {w : World} {K : Act → World → Prop} {Q : Exit → Act → World → Prop} (s x : Operand) (t e : TypeId) (z : Value) (bytes : Nat)
    (ht : Try.prog.underlying t = some (.slice e)) (hinfo : (Try.prog.info? e).map (fun i => (i.zero, i.size, i.bytes)) = some (some z, D.c, bytes)) (hzs : z.cells.size = D.c)
    (ho : o.op = .call { callee := .builtin .append, args := #[s, x], argTypes := #[t, t] })
    (v : Value) (xs : List Tr) (hs : a.eval s = v) (hown : w.ownsRow 0 e D.c v xs.length (flatW D xs)) (b : Nat) (f : Tr) (hx : a.eval x = .slice (some ⟨b, 0, none⟩) 1 1) (hb : w.heap[b]? = some (.cells (D.dec f).toArray e (0, 0)))
    (h63 : xs.length + 1 ≤ maxLen) (hbytes : (xs.length + 1) * bytes ≤ 140737488355328)
    (h : ∀ v' w', w'.ownsRow 0 e D.c v' (xs ++ [f]).length (flatW D (xs ++ [f])) → w.grownBy w' v.ownBlock → (∀ k, v'.ownBlock = some k → v.ownBlock = some k ∨ w.heap.size ≤ k) → K (a.put o.dst v') w') : o.wp Try.prog a w K Q := by
  obtain ⟨i0, hi, hz0, hz1, hz2⟩ := info_parts hinfo
  refine wp_append_own2 w s x t ho 0 e i0 z D.c bytes ht hi hz0 hz1 hz2 hzs D.pos v xs.length (flatW D xs) hs hown ⟨b, 0, none⟩ 1 1 (D.dec f) hx (by rw [D.len, Nat.one_mul]) (fun j u hj => ?_) (D.one f) h63 hbytes (Nat.zero_le _) fun v' w' h1 h2 h3 => h v' w' ?_ h2 (fun k hk => ?_)
  · rw [add_off, Lib.cell_of_heap hb, Nat.zero_add]
    simpa using hj
  · rw [flatW_append, List.length_append]
    simpa [flatW] using h1
  · rcases Nat.lt_or_ge k w.heap.size with hlt | hge
    · exact .inl (h3 k hlt hk)
    · exact .inr hge
theorem Ptv.wide {g : Nat} {P Q : Nat → Prop} {s : Te} {vn vp vw : Value} {w : World} (h : Ptv g P s vn vp vw w) (hR : ∀ k, k < w.heap.size → P k → Q k) : Ptv g Q s vn vp vw w :=
  ⟨h.blk, h.rn, h.rp, h.rw, hR g h.blk.lt h.pg, fun k e => ⟨hR k (own_lt2 h.rn e).2 (h.bn k e).1, (h.bn k e).2⟩, fun k e => ⟨hR k (own_lt2 h.rp e).2 (h.bp k e).1, (h.bp k e).2⟩, fun k e => ⟨hR k (own_lt2 h.rw e).2 (h.bw k e).1, (h.bw k e).2⟩, h.ok⟩
theorem Kq.row {P : Nat → Prop} {w x : World} (h : Kq P w x) (q : Nat) (hq : P q) (A : Array Value) : Kq P w (x.setRow q A) :=
  ⟨h.os, h.tape, h.output, by have := h.size; simpa [World.setRow] using this, fun k hk hn => (setRow_other x q k A (fun e => hn (e ▸ hq))).trans (h.block k hk hn)⟩
theorem enterReg : ∀ args x, (callFunc 18 args).run Try.prog x = .ok (.enter 18 args) x := fun _ _ => by rfl
theorem enterWr : ∀ args x, (callFunc 38 args).run Try.prog x = .ok (.enter 38 args) x := fun _ _ => by rfl
theorem enterIns : ∀ args x, (callFunc 25 args).run Try.prog x = .ok (.enter 25 args) x := fun _ _ => by rfl
section
variable {g n cap : Nat} {ao : Option Addr} {P : Nat → Prop} {s : Te} {vn vp vw v : Value} {w x y : World}
theorem Ptv.grownW2 (h : Ptv g P s vn vp vw w) (l : List Tr) (ho : y.ownsRow 0 42 8 v l.length (flatW DF l)) (hg : w.grownBy y vw.ownBlock) (hb : ∀ k, v.ownBlock = some k → vw.ownBlock = some k ∨ w.heap.size ≤ k) (hP : ∀ k, w.heap.size ≤ k → P k) (hl : l.length ≤ 16) :
    Ptv g P { s with waits := l } vn vp v (y.setCell ⟨g, 4, none⟩ v) ∧ Kq P w (y.setCell ⟨g, 4, none⟩ v) ∧ y.cell? ⟨g, 4, none⟩ = some vw ∧ y.frozen? ⟨g, 4, none⟩ = false := by
  have K : Kq (fun k => vw.ownBlock = some k) w y := (Kq.refl _ _).grown hg (fun k e => e)
  have K2 : Kq P w y := (Kq.refl _ _).grown hg (fun k e => (h.bw k e).1)
  have B := h.blk.kq K (fun e => (h.bw g e).2 rfl)
  have R1 := own_kq h.rn K (fun k e => (h.bn k e).2.2.2)
  have R2 := own_kq h.rp K (fun k e => (h.bp k e).2.2)
  have K3 := Kq.one y g 4 v
  refine ⟨⟨B.set 4 v, own_kq R1 K3 (fun k e => (h.bn k e).2.1), own_kq R2 K3 (fun k e => (h.bp k e).2.1), own_kq ho K3 (fun k e => ?_), h.pg, fun k e => ⟨(h.bn k e).1, (h.bn k e).2.1, (h.bn k e).2.2.1, fun e2 => ?_⟩, fun k e => ⟨(h.bp k e).1, (h.bp k e).2.1, fun e2 => ?_⟩, fun k e => ?_, ⟨h.ok.h1, h.ok.h2, h.ok.h3, h.ok.h4, hl, h.ok.h6⟩⟩, K2.setCell ⟨g, 4, none⟩ h.pg v, B.cell 4, B.frozen 4⟩
  · have := h.blk.lt
    rcases hb k e with h1 | h1
    · exact (h.bw k h1).2
    · intro e9; omega
  · rcases hb k e2 with h1 | h1
    · exact (h.bn k e).2.2.2 h1
    · have := (own_lt2 h.rn e).2; omega
  · rcases hb k e2 with h1 | h1
    · exact (h.bp k e).2.2 h1
    · have := (own_lt2 h.rp e).2; omega
  · have := h.blk.lt
    rcases hb k e with h1 | h1
    · exact h.bw k h1
    · exact ⟨hP k h1, by omega⟩
theorem Ptv.grownW (h : Ptv g P s vn vp vw w) (f : Tr) (ho : y.ownsRow 0 42 8 v (s.waits ++ [f]).length (flatW DF (s.waits ++ [f]))) (hg : w.grownBy y vw.ownBlock) (hb : ∀ k, v.ownBlock = some k → vw.ownBlock = some k ∨ w.heap.size ≤ k) (hP : ∀ k, w.heap.size ≤ k → P k) (hl : s.waits.length < 16) :
    Ptv g P { s with waits := s.waits ++ [f] } vn vp v (y.setCell ⟨g, 4, none⟩ v) ∧ Kq P w (y.setCell ⟨g, 4, none⟩ v) ∧ y.cell? ⟨g, 4, none⟩ = some vw ∧ y.frozen? ⟨g, 4, none⟩ = false :=
  h.grownW2 (s.waits ++ [f]) ho hg hb hP (by simp; omega)
theorem Ptv.grownN (h : Ptv g P s vn vp vw w) (l : List Tr) (ho : y.ownsRow 0 37 7 v l.length (flatW DT l)) (hg : w.grownBy y vn.ownBlock) (hb : ∀ k, v.ownBlock = some k → vn.ownBlock = some k ∨ w.heap.size ≤ k) (hP : ∀ k, w.heap.size ≤ k → P k) :
    Ptv g P { s with now := l } v vp vw (y.setCell ⟨g, 2, none⟩ v) ∧ Kq P w (y.setCell ⟨g, 2, none⟩ v) ∧ y.cell? ⟨g, 2, none⟩ = some vn ∧ y.frozen? ⟨g, 2, none⟩ = false := by
  have K : Kq (fun k => vn.ownBlock = some k) w y := (Kq.refl _ _).grown hg (fun k e => e)
  have K2 : Kq P w y := (Kq.refl _ _).grown hg (fun k e => (h.bn k e).1)
  have B := h.blk.kq K (fun e => (h.bn g e).2.1 rfl)
  have R1 := own_kq h.rp K (fun k e e2 => (h.bn k e2).2.2.1 e)
  have R2 := own_kq h.rw K (fun k e e2 => (h.bn k e2).2.2.2 e)
  have K3 := Kq.one y g 2 v
  have hlt := h.blk.lt
  have hv : ∀ k, v.ownBlock = some k → P k ∧ k ≠ g ∧ vp.ownBlock ≠ some k ∧ vw.ownBlock ≠ some k := fun k e => by
    rcases hb k e with h1 | h1
    · exact h.bn k h1
    · refine ⟨hP k h1, by omega, fun e2 => ?_, fun e2 => ?_⟩
      · have := (own_lt2 h.rp e2).2; omega
      · have := (own_lt2 h.rw e2).2; omega
  exact ⟨⟨B.set 2 v, own_kq ho K3 (fun k e => (hv k e).2.1), own_kq R1 K3 (fun k e => (h.bp k e).2.1), own_kq R2 K3 (fun k e => (h.bw k e).2), h.pg, hv, h.bp, h.bw, ⟨h.ok.h1, h.ok.h2, h.ok.h3, h.ok.h4, h.ok.h5, h.ok.h6⟩⟩, K2.setCell ⟨g, 2, none⟩ h.pg v, B.cell 2, B.frozen 2⟩
theorem own_cut {w : World} {B : Nat} {e : TypeId} {D : Dec Tr} {v : Value} {l : List Tr} (h : w.ownsRow B e D.c v l.length (flatW D l)) (n : Nat) (hn : n ≤ l.length) : ∃ v', (match v, v' with | .slice a _ c, .slice a' m c' => a' = a ∧ m = n ∧ c' = c | _, _ => False) ∧ v'.ownBlock = v.ownBlock ∧ w.ownsRow B e D.c v' (l.take n).length (flatW D (l.take n)) := by
  have hl : (l.take n).length = n := by rw [List.length_take]; omega
  rcases h.2 with ⟨rfl, h0⟩ | ⟨g, cap, cur, rfl, hg, hcur, h1, h2, h3, h4⟩
  · have : n = 0 := by omega
    subst this
    exact ⟨.slice none 0 0, ⟨rfl, rfl, rfl⟩, rfl, by simp [flatW, World.ownsRow_nil]⟩
  · refine ⟨.slice (some ⟨g, 0, none⟩) n cap, ⟨rfl, rfl, rfl⟩, rfl, by rw [flatW_len], .inr ⟨g, cap, cur, by rw [hl], hg, hcur, by omega, h2, h3, ?_⟩⟩
    rw [hl, ← flatW_take, ← h4, List.take_take, Nat.min_eq_left (Nat.mul_le_mul_right _ hn)]
theorem Ptv.grownP (h : Ptv g P s vn vp vw w) (l : List Tr) (hl : l.length ≤ 255) (ho : y.ownsRow 0 37 7 v l.length (flatW DT l)) (hg : w.grownBy y vp.ownBlock) (hb : ∀ k, v.ownBlock = some k → vp.ownBlock = some k ∨ w.heap.size ≤ k) (hP : ∀ k, w.heap.size ≤ k → P k) :
    Ptv g P { s with past := l } vn v vw (y.setCell ⟨g, 3, none⟩ v) ∧ Kq P w (y.setCell ⟨g, 3, none⟩ v) ∧ y.cell? ⟨g, 3, none⟩ = some vp ∧ y.frozen? ⟨g, 3, none⟩ = false := by
  have K : Kq (fun k => vp.ownBlock = some k) w y := (Kq.refl _ _).grown hg (fun k e => e)
  have K2 : Kq P w y := (Kq.refl _ _).grown hg (fun k e => (h.bp k e).1)
  have B := h.blk.kq K (fun e => (h.bp g e).2.1 rfl)
  have R1 := own_kq h.rn K (fun k e e2 => (h.bn k e).2.2.1 e2)
  have R2 := own_kq h.rw K (fun k e e2 => (h.bp k e2).2.2 e)
  have K3 := Kq.one y g 3 v
  have hlt := h.blk.lt
  have hv : ∀ k, v.ownBlock = some k → P k ∧ k ≠ g ∧ vn.ownBlock ≠ some k ∧ vw.ownBlock ≠ some k := fun k e => by
    rcases hb k e with h1 | h1
    · exact ⟨(h.bp k h1).1, (h.bp k h1).2.1, fun e2 => (h.bn k e2).2.2.1 h1, (h.bp k h1).2.2⟩
    · refine ⟨hP k h1, by omega, fun e2 => ?_, fun e2 => ?_⟩
      · have := (own_lt2 h.rn e2).2; omega
      · have := (own_lt2 h.rw e2).2; omega
  exact ⟨⟨B.set 3 v, own_kq R1 K3 (fun k e => (h.bn k e).2.1), own_kq ho K3 (fun k e => (hv k e).2.1), own_kq R2 K3 (fun k e => (h.bw k e).2), h.pg, fun k e => ⟨(h.bn k e).1, (h.bn k e).2.1, fun e2 => (hv k e2).2.2.1 e, (h.bn k e).2.2.2⟩, fun k e => ⟨(hv k e).1, (hv k e).2.1, (hv k e).2.2.2⟩, h.bw, ⟨h.ok.h1, h.ok.h2, h.ok.h3, hl, h.ok.h5, h.ok.h6⟩⟩, K2.setCell ⟨g, 3, none⟩ h.pg v, B.cell 3, B.frozen 3⟩
/-- The history is cut. -/
theorem Ptv.cutP (h : Ptv g P s vn (.slice ao n cap) vw w) (m : Nat) (hm : m ≤ s.past.length) : Ptv g P { s with past := s.past.take m } vn (.slice ao m cap) vw (w.setCell ⟨g, 3, none⟩ (.slice ao m cap)) := by
  have hn : n = s.past.length := by
    rcases h.rp.2 with ⟨e, h0⟩ | ⟨g', cap', cur, e, _⟩
    · injection e with _ e2 _; omega
    · injection e with _ e2 _
  subst hn
  obtain ⟨v', h1, h2, h3⟩ := own_cut (D := DT) h.rp m hm
  cases v' with
  | slice a' m' c' =>
    simp only at h1
    obtain ⟨rfl, rfl, rfl⟩ := h1
    refine h.setPast _ _ h3 (by have := h.ok.h4; rw [List.length_take]; omega) (fun k e => ?_)
    rw [h2] at e
    exact ⟨(h.bp k e).1, (h.bp k e).2.1, fun e2 => (h.bn k e2).2.2.1 e, (h.bp k e).2.2⟩
  | _ => exact absurd h1 (by simp)
end
end Go.Proofs.Ytlkocebgkmdeoaa
