/- Contracts: a receiver takes a segment. -/
import Derived.Test.YtebjofkblfmkmaaBkN2
namespace Go.Proofs.Ytebjofkblfmkmaa
open Go.RowKit Go.Proofs.Ty Go.Proofs.Bits
set_option linter.unusedVariables false
set_option maxRecDepth 1000000
set_option linter.unusedSimpArgs false
theorem wp_loadR {o : Oper} {a : Act} {w : World} {K : Act → World → Prop} {Q : Exit → Act → World → Prop} {ty : TypeId} {x : Operand} {ad : Addr} {v : Value} (ho : o.op = .load ty x) (hx : a.eval x = .pointer (some ad)) (hr : (loadVar ty ad).run Try.prog w = .ok v w) (h : K (a.put o.dst v) w) : o.wp Try.prog a w K Q := by
  unfold Oper.wp
  rw [exec_load ho hx hr]
  exact h
theorem andn128 : ∀ n < 256, bits .andNot .u8 ((n : Nat) : Int) 128 = ((n % 128 : Nat) : Int) := by decide +kernel
theorem and128 : ∀ n < 256, (bits .and .u8 ((n : Nat) : Int) 128 != 0) = decide (128 ≤ n) := by decide +kernel
theorem take_results {Q : Nat} {f : F8} {b : Bool} {w : World} (h : Qb Q f w) (tmps : Array Value) (h2 : tmps[4]?.getD undef = .pointer (some ⟨Q, 0, none⟩)) (h3 : tmps[5]?.getD undef = .bool b) :
    (results Try.f33 tmps).run Try.prog w = .ok (.tuple #[.agg f.arr, .bool b]) w := by
  have l0 := h.load
  simp [Go.results, Try.results33, h2, h3, asAddr, l0]
section
variable {R : Nat} {r t : Rc} {v u : Value} {w x : World}
theorem Kp.drawn' (bs : List Nat) (w : World) (n : Nat) : Kp bs w (w.drewN n) := ⟨rfl, rfl, rfl, Nat.le_refl _, fun _ _ _ => rfl⟩
theorem Rv.nq {q : Nat} {g : F8} (h : Rv R r u w) (hq : Qb q g w) : ∀ b ∈ rB R u, b ≠ q := by
  intro b hb e
  subst e
  simp [rB] at hb
  rcases hb with rfl | hb
  · have := h.hd
    rw [show w.heap[b]? = _ from hq] at this
    simp at this
  · obtain ⟨_, cur, hc⟩ := own_of h.own hb
    rw [show w.heap[b]? = _ from hq] at hc
    simp at hc
theorem RPost.back {V : World} {res : Option F8 × Rc} {e : Ending} {w' : World} (hK : Kp (rB R v) w V) (hu : ∀ b, u.ownBlock = some b → v.ownBlock = some b ∨ w.heap.size ≤ b) (h : RPost V R u res e w') : RPost w R v res e w' := by
  obtain ⟨he, u', hr, hk, ho⟩ := h
  refine ⟨he, u', hr, hK.fresh hk (fun b hb => ?_), fun b hb => ?_⟩
  · simp [rB] at hb ⊢
    rcases hb with rfl | hb
    · exact .inl (.inl rfl)
    · rcases hu b hb with h1 | h1
      · exact .inl (.inr h1)
      · exact .inr h1
  · rcases ho b hb with h1 | h1
    · exact hu b h1
    · exact .inr (Nat.le_trans hK.size h1)
theorem RPost.store {res : Option F8 × Rc} {e : Ending} {w' : World} {q : Nat} {g : F8} (h : RPost w R v res e w') (hq : Qb q g w') (hwq : w.heap.size ≤ q) (A : Array Value) : RPost w R v res e (w'.setRow q A) := by
  obtain ⟨he, u', hr, hk, ho⟩ := h
  exact ⟨he, u', hr.kp (Kp.setRow1 w' q A) (fun b hb => by simpa using hr.nq hq b hb), hk.fresh (Kp.setRow1 w' q A) (fun b hb => .inr (by simp at hb; omega)), ho⟩
/-- Behind an append and the store of its slice. -/
theorem Rv.app {D w2 : World} {ap : Option Addr} {cq : Nat} {l : List UInt8} (h : Rv R r v D) (ho : w2.ownsRow 0 5 1 (.slice ap (r.bs ++ l).length cq) (r.bs ++ l).length (Lib.byteCells (r.bs ++ l))) (hg : D.grownBy w2 v.ownBlock) (hk : ∀ k, k < D.heap.size → (Value.slice ap (r.bs ++ l).length cq).ownBlock = some k → v.ownBlock = some k) (hl : (r.bs ++ l).length ≤ 70000) :
    Rv R ⟨r.st, r.sz, r.bs ++ l, r.cm, r.cd⟩ (.slice ap (r.bs ++ l).length cq) (w2.setCell ⟨R, 2, none⟩ (.slice ap (r.bs ++ l).length cq)) ∧ Kp (rB R v) D (w2.setCell ⟨R, 2, none⟩ (.slice ap (r.bs ++ l).length cq)) ∧ ∀ b, (Value.slice ap (r.bs ++ l).length cq).ownBlock = some b → v.ownBlock = some b ∨ D.heap.size ≤ b := by
  have hRn : v.ownBlock ≠ some R := fun e => (h.olt e).2 rfl
  have hR2 : w2.heap[R]? = some (.cells (rcA r v) 67 (0, 0)) := (hg.block R h.lt (fun e => hRn e.symm)).trans h.hd
  refine ⟨⟨?_, ?_, ⟨h.ok.st, h.ok.sz, hl, h.ok.cm, h.ok.cd⟩⟩, ?_, fun b hb => ?_⟩
  · simp only [World.setCell, Array.getElem?_modify, hR2]
    simp [rcA]
  · refine own_same8 ho (fun b hb => Below.heap_setCell w2 _ _ b ?_)
    rintro rfl
    obtain ⟨_, cur, hc⟩ := own_of ho hb
    rw [hR2] at hc
    simp at hc
  · have k1 : Kp (rB R v) D w2 := ⟨hg.os, hg.tape, hg.output, hg.size, fun k hk' hn => hg.block k hk' (fun e => hn (by simp [rB, ← e]))⟩
    exact k1.trans ((Kp.cell1 w2 R 2 _).more (by simp [rB]))
  · by_cases hb2 : b < D.heap.size
    · exact .inl (hk b hb2 hb)
    · exact .inr (by omega)
set_option maxHeartbeats 8000000 in
theorem take_any (h : Rv R r v w) (hok : r.Ok) (h1 : r.st = 1) (f : F8) : Calls Try.prog 33 #[.pointer (some ⟨R, 0, none⟩), .agg f.arr] w fun e w' => RPost w R v (rTake r f) e w' := by
  have hlt := hok.lt h1
  have hsz := hok.sz
  have hbl := hok.bs
  obtain ⟨ao, cp, hv⟩ := h.shape
  obtain ⟨p, hp⟩ : ∃ p, w.heap.size = p := ⟨_, rfl⟩
  obtain ⟨W0, hW0⟩ : ∃ W, w.alloc (.cells f.arr 30) = W := ⟨_, rfl⟩
  have hW0s : W0.heap.size = p + 1 := by rw [← hW0, size_alloc, hp]
  obtain ⟨q, hq⟩ : ∃ q, W0.heap.size = q := ⟨_, rfl⟩
  obtain ⟨W, hW⟩ : ∃ W, W0.alloc (.cells zA8 30) = W := ⟨_, rfl⟩
  have b0 : Below w.heap.size w W := by
    rw [← hW, ← hW0]
    exact ((Below.refl _ _).alloc (Nat.le_refl _) _).alloc (by rw [size_alloc]; omega) _
  have p0 : Qb p f W := by
    rw [← hW]
    refine (Lib.alloc_old W0 _ p (by omega)).trans ?_
    rw [← hW0, ← hp]
    exact Qb.new w f
  have q0 : Qb q F8.nul W := by rw [← hW, ← hq]; exact heap_alloc_new W0 _
  have hpq : p < q := by omega
  have hRp : R < p := by rw [← hp]; exact h.lt
  have hvp : ∀ b ∈ rB R v, b < p := fun b hb => by
    rw [← hp]
    simp [rB] at hb
    rcases hb with rfl | hb
    · exact h.lt
    · exact (h.olt hb).1
  have HF := hidOf2 h
  have r0 := h.below b0
  have x0 := p0.c0
  have y3 := r0.c3
  have lf := f.b0.toNat_lt
  have han := andn128 _ f.b0.toNat_lt
  have HAN := hidOf2 (and128 _ f.b0.toNat_lt)
  have HR : Hid (rTake r f = if f.b0.toNat % 128 ≠ r.cm + 1 then (none, r)
    else if 65543 < r.bs.length + 7 then rGive 84148229
    else if 128 ≤ f.b0.toNat then (some (rAns (r.cm + 1) r.sz), ⟨2, r.sz, r.bs ++ f.l.drop 1, r.cm + 1, r.cd⟩)
    else if r.cm + 1 = r.sz then (some (rAns (r.cm + 1) r.sz), ⟨1, r.sz, r.bs ++ f.l.drop 1, 0, r.cd⟩)
    else (none, ⟨1, r.sz, r.bs ++ f.l.drop 1, r.cm + 1, r.cd⟩)) := rfl
  generalize rTake r f = RS at *
  have HQn : Hid (∀ n, Qb q F8.nul (W.drewN n)) := fun n => q0
  have HPn : Hid (∀ n, Qb p f (W.drewN n)) := fun n => p0
  have HRn : Hid (∀ n, Rv R r v (W.drewN n)) := fun n => r0.drawn n
  have HBn : Hid (∀ n, Below w.heap.size w (W.drewN n)) := fun n => bdr b0 n
  generalize hF0 : f.b0.toNat = f0 at *
  clear q0 p0 r0 b0 hW0s
  by_cases c0 : f0 % 128 = r.cm + 1
  · have d0 : (((f0 % 128 : Nat) : Int) != (r.cm : Int) + 1) = false := by simp; omega
    have d0' : (((f0 : Int) % 128) != (r.cm : Int) + 1) = false := by simp; omega
    have hbs7 : (r.bs ++ f.l.drop 1).length = r.bs.length + 7 := by rw [List.length_append, f.seven]
    go_enter Try.func33, Try.ntmps33
    go_upto_region 1 with fail
    first | (change Code.wp Try.prog _ _ _ ((w.alloc (.cells f.arr 30)).alloc (.cells zA8 30)); rw [hW0, hW]) | (change Code.wp Try.prog _ _ _ (W0.alloc (.cells zA8 30)); rw [hW]) | (change Code.wp Try.prog _ _ _ W)
    go_quiet (fail)
    go_upto_region 3 with fail
    obtain ⟨WD, hWD⟩ : ∃ y, W.drewN nq = y := ⟨_, rfl⟩
    have rD : Rv R r v WD := hWD ▸ HRn.out nq
    have qD : Qb q F8.nul WD := hWD ▸ HQn.out nq
    have pD : Qb p f WD := hWD ▸ HPn.out nq
    have BD : Below w.heap.size w WD := hWD ▸ HBn.out nq
    rw [hWD]
    clear HRn HQn HPn HBn hWD x0 y3
    have HHD : Hid (WD.drew.heap[R]? = some (.cells (rcA r v) 67 (0, 0))) := rD.hd
    have HD := hidOf2 (show Rv R r v WD.drew from rD.drawn 1)
    have C2 : Hid (WD.drew.cell? ⟨R, 2, none⟩ = some (.slice ao r.bs.length cp)) := by show _ = _; rw [← hv]; exact HD.out.c2
    have HOW : Hid (WD.drew.ownsRow 0 5 1 (.slice ao r.bs.length cp) r.bs.length (Lib.byteCells r.bs)) := by show World.ownsRow _ _ _ _ _ _ _; rw [← hv]; exact HD.out.own
    have HBY : Hid (Bytes WD.drew (.slice (some ⟨p, 1, none⟩) 7 7) (f.l.drop 1)) := Qb.bytes (k := p) (q := f) (w := WD.drew) pD 1 7 (by decide) (by decide)
    have HLN : Hid (r.bs.length ≤ 65543) := hbl
    have HRl : Hid (R < WD.drew.heap.size) := rD.lt
    have HRn2 : Hid (v.ownBlock ≠ some R) := fun e => (rD.olt e).2 rfl
    refine wp_region_held (S := fun y => True) (by kernel_rfl) ?_
    change wpAnyH _ _ _ _ _ _ _ _ WD.drew
    refine wpAnyH_take (i := 0) (v := (.pointer (some ⟨R, 0, none⟩))) rfl (by kernel_rfl) (by kernel_rfl) (by kernel_rfl) (fun _ _ _ h => h) (.inl ⟨rfl, fun _ hS => rfl⟩) trivial ?_
    simp only [List.getElem_toArray, List.getElem_cons_succ, List.getElem_cons_zero, Act.put, List.setIfInBounds_toArray, List.set_cons_succ, List.set_cons_zero]
    refine wpAnyH_take (i := 1) (v := (.pointer (some ⟨R, 0, none⟩))) rfl (by kernel_rfl) (by kernel_rfl) (by kernel_rfl) (fun _ _ _ h => h) (.inl ⟨rfl, fun _ hS => rfl⟩) trivial ?_
    simp only [List.getElem_toArray, List.getElem_cons_succ, List.getElem_cons_zero, Act.put, List.setIfInBounds_toArray, List.set_cons_succ, List.set_cons_zero]
    refine wpAnyH_take (i := 2) (v := (.pointer (some ⟨R, 0, none⟩))) rfl (by kernel_rfl) (by kernel_rfl) (by kernel_rfl) (fun _ _ _ h => h) (.inl ⟨rfl, fun _ hS => by simp [execOp, go_sem, Act.eval]⟩) trivial ?_
    simp only [List.getElem_toArray, List.getElem_cons_succ, List.getElem_cons_zero, Act.put, List.setIfInBounds_toArray, List.set_cons_succ, List.set_cons_zero]
    refine wpAnyH_take (i := 3) (v := (.pointer (some ⟨R, 2, none⟩))) rfl (by kernel_rfl) (by kernel_rfl) (by kernel_rfl) (fun _ _ _ h => h) (.inl ⟨rfl, fun _ hS => by simp [execOp, go_sem, Act.eval]⟩) trivial ?_
    simp only [List.getElem_toArray, List.getElem_cons_succ, List.getElem_cons_zero, Act.put, List.setIfInBounds_toArray, List.set_cons_succ, List.set_cons_zero]
    refine wpAnyH_take (i := 5) (v := (.slice (some ⟨p, 1, none⟩) 7 7)) rfl (by kernel_rfl) (by kernel_rfl) (by kernel_rfl) (fun _ _ _ h => h) (.inl ⟨rfl, fun _ hS => exec_slice8t (k := p) (lo := 1) rfl rfl rfl (by decide) _⟩) trivial ?_
    simp only [List.getElem_toArray, List.getElem_cons_succ, List.getElem_cons_zero, Act.put, List.setIfInBounds_toArray, List.set_cons_succ, List.set_cons_zero]
    refine wpAnyH_all (rs := [4]) (by kernel_rfl) (by simp) ?_
    intro k hk
    simp only [List.mem_cons, List.mem_nil_iff, or_false] at hk
    subst hk
    refine wpOp_run rfl rfl (wp_loadR rfl rfl (load_bytes _ _ _ _ _ _ C2.out) ?_)
    refine ⟨trivial, ?_⟩
    simp only [List.getElem_toArray, List.getElem_cons_succ, List.getElem_cons_zero, Act.put, List.setIfInBounds_toArray, List.set_cons_succ, List.set_cons_zero]
    refine wpAnyH_all (rs := [6]) (by kernel_rfl) (by simp) ?_
    intro k hk
    simp only [List.mem_cons, List.mem_nil_iff, or_false] at hk
    subst hk
    refine wpOp_run rfl rfl (wp_append_bytes _ _ rfl 0 (.slice ao r.bs.length cp) r.bs rfl HOW.out _ (f.l.drop 1) rfl HBY.out (by have := HLN.out; simp [F8.l]; omega) (Nat.zero_le _) ?_)
    intro v1 w2 ho2 hg2 hk2
    obtain ⟨ap, cq, rfl⟩ := own_shape5 ho2
    have hR2 := (hg2.block R HRl.out (fun e => HRn2.out (by rw [hv]; exact e.symm))).trans HHD.out
    have hc2 : w2.cell? ⟨R, 2, none⟩ = some (.slice ao r.bs.length cp) := by rw [← hv]; exact Lib.cell_of_heap hR2 2
    have hf2 : w2.frozen? ⟨R, 2, none⟩ = false := Lib.frozen_of_heap hR2 2
    refine ⟨trivial, ?_⟩
    simp only [List.getElem_toArray, List.getElem_cons_succ, List.getElem_cons_zero, Act.put, List.setIfInBounds_toArray, List.set_cons_succ, List.set_cons_zero]
    refine wpAnyH_take (i := 7) (v := (.pointer (some ⟨R, 0, none⟩))) rfl (by kernel_rfl) (by kernel_rfl) (by kernel_rfl) (fun _ _ _ h => h) (.inl ⟨rfl, fun _ hS => by simp [execOp, go_sem, Act.eval]⟩) trivial ?_
    simp only [List.getElem_toArray, List.getElem_cons_succ, List.getElem_cons_zero, Act.put, List.setIfInBounds_toArray, List.set_cons_succ, List.set_cons_zero]
    refine wpAnyH_take (i := 8) (v := (.pointer (some ⟨R, 2, none⟩))) rfl (by kernel_rfl) (by kernel_rfl) (by kernel_rfl) (fun _ _ _ h => h) (.inl ⟨rfl, fun _ hS => by simp [execOp, go_sem, Act.eval]⟩) trivial ?_
    simp only [List.getElem_toArray, List.getElem_cons_succ, List.getElem_cons_zero, Act.put, List.setIfInBounds_toArray, List.set_cons_succ, List.set_cons_zero]
    refine wpAnyH_all (rs := [9]) (by kernel_rfl) (by simp) ?_
    intro k hk
    simp only [List.mem_cons, List.mem_nil_iff, or_false] at hk
    subst hk
    refine wpOp_run rfl rfl (wp_store_cell 22 _ _ rfl R 2 rfl (.slice ap (r.bs ++ f.l.drop 1).length cq) rfl (store_bytes _ R 2 _ _ _ _ hc2 hf2) ?_)
    refine ⟨trivial, ?_⟩
    simp only [List.getElem_toArray, List.getElem_cons_succ, List.getElem_cons_zero, Act.put, List.setIfInBounds_toArray, List.set_cons_succ, List.set_cons_zero]
    refine wpAnyH_done (by kernel_rfl) ?_ _
    obtain ⟨rX, kX, oX⟩ := HD.out.app ho2 (by rw [hv]; exact hg2) (by rw [hv]; exact hk2) (by rw [hbs7]; omega)
    obtain ⟨X, hX⟩ : ∃ X, w2.setCell ⟨R, 2, none⟩ (.slice ap (r.bs ++ f.l.drop 1).length cq) = X := ⟨_, rfl⟩
    rw [hX] at rX kX ⊢
    have qX : Qb q F8.nul X := (kX.block q (show q < WD.drew.heap.size from qD.lt) (fun hm => by have := hvp q hm; omega)).trans qD
    have pX : Qb p f X := (kX.block p (show p < WD.drew.heap.size from pD.lt) (fun hm => by have := hvp p hm; omega)).trans pD
    have KX : Kp (rB R v) w X := (Kp.of_below (bdr BD 1)).trans kX
    have OX : ∀ b, (Value.slice ap (r.bs ++ f.l.drop 1).length cq).ownBlock = some b → v.ownBlock = some b ∨ w.heap.size ≤ b := fun b hb => (oX b hb).imp id (fun hh => Nat.le_trans (bdr BD 1).size hh)
    rw [h1] at rX
    obtain ⟨u, hu⟩ : ∃ u, Value.slice ap (r.bs ++ f.l.drop 1).length cq = u := ⟨_, rfl⟩
    have HU := hidOf2 hu
    rw [hu] at rX OX
    have hcI : (r.cm : Int) + 1 = ((r.cm + 1 : Nat) : Int) := by omega
    have HY : Hid (∀ Z, Z = X.setCell ⟨R, 3, none⟩ (.int .i64 ((r.cm : Int) + 1)) → Rv R ⟨1, r.sz, r.bs ++ f.l.drop 1, r.cm + 1, r.cd⟩ u Z ∧ Kp (rB R v) w Z ∧ Qb q F8.nul Z ∧ Qb p f Z) := fun Z hZ => by
      subst hZ
      have hk := Kp.cell1 X R 3 (.int .i64 ((r.cm : Int) + 1))
      refine ⟨rX.set 3 _ (by rw [hcI]; simp [rcA]) rfl ⟨by simp, hok.sz, by show (r.bs ++ f.l.drop 1).length ≤ 70000; rw [hbs7]; omega, by show r.cm + 1 ≤ 127; omega, hok.cd⟩, KX.trans (hk.more (by simp [rB])), (hk.block q qX.lt (by simp; omega)).trans qX, (hk.block p pX.lt (by simp; omega)).trans pX⟩
    have y3 := rX.c3
    have f3 := rX.fr 3
    have hcs : r.cm < 127 := by omega
    clear HHD HD C2 HOW HBY HLN HRl HRn2 rD pD qD BD ho2 hg2 hk2 hR2 hc2 hf2 kX oX hX rX qX pX KX hu hcI
    go_upto_region 5 with fail
    obtain ⟨Y, hY⟩ : ∃ Y, X.setCell ⟨R, 3, none⟩ (.int .i64 ((r.cm : Int) + 1)) = Y := ⟨_, rfl⟩
    rw [hY]
    obtain ⟨rY, kY, qY, pY⟩ := HY.out Y hY.symm
    have y2 : Y.cell? ⟨R, 2, none⟩ = some (.slice ap (r.bs ++ f.l.drop 1).length cq) := by rw [HU.out]; exact rY.c2
    rw [hbs7] at y2
    have x0 := pY.c0
    rw [hF0] at x0
    have HRY := hidOf2 rY
    have HKY := hidOf2 kY
    have HQY := hidOf2 qY
    have HPY := hidOf2 pY
    have HOX := hidOf2 OX
    have hqw : w.heap.size ≤ q := by omega
    clear HY hY y3 f3 rY kY pY OX
    -- how it ends
    have fin : ∀ (w' : World) (o : Option F8) (r' : Rc) (V : World) (u' : Value) (rv : Rc), Kp (rB R v) w V → (∀ b, u'.ownBlock = some b → v.ownBlock = some b ∨ w.heap.size ≤ b) → Rv R rv u' V → Qb q F8.nul V → RPost V R u' (o, r') (.returned (ansV o)) w' → RS = (o, r') → Qb q F8.nul w' ∧ ∀ g : F8, (o.getD F8.nul) = g → Qb q g (w'.setRow q g.arr) ∧ RPost w R v RS (.returned (ansV o)) (w'.setRow q g.arr) := by
      intro w' o r' V u' rv hKV hOV hRV hQV hpost hRS
      have hk' : Kp (rB R u') V w' := by obtain ⟨_, _, _, hk, _⟩ := hpost; exact hk
      have q' : Qb q F8.nul w' := (hk'.block q hQV.lt (fun hm => hRV.nq hQV q hm rfl)).trans hQV
      refine ⟨q', fun g hg => ⟨q'.row g, ?_⟩⟩
      rw [hRS]
      exact (RPost.back hKV hOV hpost).store q' hqw _
    have HFIN := hidOf2 fin
    clear fin
    by_cases c1 : 65543 < r.bs.length + 7
    · have d1 : decide ((65543 : Int) < ((r.bs.length + 7 : Nat) : Int)) = true := by simp; omega
      have e1 : RS = rGive 84148229 := by rw [HR.out, if_neg (by simpa using c0), if_pos c1]
      have hG := rgiveUp_any HRY.out 84148229 (by decide)
      have HE := hidOf2 e1
      clear HR e1
      go_wp2_with (first | (go_at_call 44; refine hG.mono ?_; rintro e w3 ⟨rfl, r3, k3⟩; have HH := HFIN.out w3 (some (frm 128 0 0 84148229)) (.fin 84148229 []) Y u _ HKY.out HOX.out HRY.out HQY.out ⟨rfl, _, r3, k3.more (by simp [rB]), fun b hb => by cases hb⟩ HE.out; have q3 := HH.1; have HP := hidOf2 ((HH.2 (frm 128 0 0 84148229) rfl).2); have HZ := hidOf2 ((HH.2 (frm 128 0 0 84148229) rfl).1); clear HH r3 k3) | (refine sdF (g := frm 128 0 0 84148229) q3 rfl _ _ rfl rfl rfl ?_))
      exact bodyPost_ret (take_results HZ.out _ rfl rfl) rfl HP.out
    · have d1 : decide ((65543 : Int) < ((r.bs.length + 7 : Nat) : Int)) = false := by simp; omega
      by_cases c2 : 128 ≤ f0
      · have d2 : (bits .and .u8 (f0 : Int) 128 != 0) = true := by rw [HAN.out]; simpa using c2
        have e1 : RS = (some (rAns (r.cm + 1) r.sz), ⟨2, r.sz, r.bs ++ f.l.drop 1, r.cm + 1, r.cd⟩) := by rw [HR.out, if_neg (by simpa using c0), if_neg c1, if_pos c2]
        have HE := hidOf2 e1
        have y0 := HRY.out.c0
        have f0' := HRY.out.fr 0
        have HZ8 : Hid (∀ Z, Z = Y.setCell ⟨R, 0, none⟩ (.int .i64 2) → Rv R ⟨2, r.sz, r.bs ++ f.l.drop 1, r.cm + 1, r.cd⟩ u Z ∧ Kp (rB R v) w Z ∧ Qb q F8.nul Z) := fun Z hZ => by
          subst hZ
          have hk := Kp.cell1 Y R 0 (.int .i64 2)
          have wk := HRY.out.ok
          exact ⟨HRY.out.set 0 _ (by simp [rcA]) rfl ⟨by simp, wk.sz, wk.bl, wk.cm, wk.cd⟩, HKY.out.trans (hk.more (by simp [rB])), (hk.block q HQY.out.lt (by simp; omega)).trans HQY.out⟩
        clear HR e1
        go_upto_region 9 with fail
        obtain ⟨Z, hZ⟩ : ∃ Z, Y.setCell ⟨R, 0, none⟩ (.int .i64 2) = Z := ⟨_, rfl⟩
        rw [hZ]
        obtain ⟨rZ, kZ, qZ⟩ := HZ8.out Z hZ.symm
        have y0 : Z.cell? ⟨R, 0, none⟩ = some (.int .i64 2) := rZ.c0
        have e9 : rAsk ⟨2, r.sz, r.bs ++ f.l.drop 1, r.cm + 1, r.cd⟩ = (some (rAns (r.cm + 1) r.sz), ⟨2, r.sz, r.bs ++ f.l.drop 1, r.cm + 1, r.cd⟩) := by simp [rAsk]
        have hA : ∀ n, Calls Try.prog 17 #[.pointer (some ⟨R, 0, none⟩)] (Z.drewN n) fun e w' => e = .returned (.tuple #[.agg (rAns (r.cm + 1) r.sz).arr, .bool true]) ∧ Qb q F8.nul w' ∧ Qb q (rAns (r.cm + 1) r.sz) (w'.setRow q (rAns (r.cm + 1) r.sz).arr) ∧ RPost w R v RS (.returned (.tuple #[.agg (rAns (r.cm + 1) r.sz).arr, .bool true])) (w'.setRow q (rAns (r.cm + 1) r.sz).arr) := fun n => (rAsk_any (rZ.drawn n)).mono fun e w' hp => by
          rw [e9] at hp
          have he := hp.1
          have HH := HFIN.out w' _ _ (Z.drewN n) u _ (kZ.trans (Kp.drawn' _ _ n)) HOX.out (rZ.drawn n) qZ ⟨rfl, hp.2⟩ HE.out
          exact ⟨he, HH.1, HH.2 _ rfl⟩
        clear HZ8 hZ rZ kZ qZ f0' HFIN HE e9
        generalize rAns (r.cm + 1) r.sz = ga at *
        go_quiet (fail)
        have hA := hA nq
        go_wp2_with (first | (go_at_call 17; refine hA.mono ?_; rintro e w3 ⟨rfl, q3, hz3, hp3⟩; have HZ := hidOf2 hz3; have HP := hidOf2 hp3; clear hz3 hp3) | (refine sdF (g := ga) q3 rfl _ _ rfl rfl rfl ?_))
        exact bodyPost_ret (take_results HZ.out _ rfl rfl) rfl HP.out
      · have d2 : (bits .and .u8 (f0 : Int) 128 != 0) = false := by rw [HAN.out]; simpa using c2
        have y0 : Y.cell? ⟨R, 0, none⟩ = some (.int .i64 1) := HRY.out.c0
        have y3 : Y.cell? ⟨R, 3, none⟩ = some (.int .i64 ((r.cm + 1 : Nat) : Int)) := HRY.out.c3
        have y1 : Y.cell? ⟨R, 1, none⟩ = some (.int .i64 (r.sz : Int)) := HRY.out.c1
        by_cases c3 : r.cm + 1 = r.sz
        · have d3 : (((r.cm + 1 : Nat) : Int) == (r.sz : Int)) = true := by simp; omega
          have e1 : RS = (some (rAns (r.cm + 1) r.sz), ⟨1, r.sz, r.bs ++ f.l.drop 1, 0, r.cd⟩) := by rw [HR.out, if_neg (by simpa using c0), if_neg c1, if_neg c2, if_pos c3]
          have HE := hidOf2 e1
          have e9 : rAsk ⟨1, r.sz, r.bs ++ f.l.drop 1, r.cm + 1, r.cd⟩ = (some (rAns (r.cm + 1) r.sz), ⟨1, r.sz, r.bs ++ f.l.drop 1, 0, r.cd⟩) := by simp [rAsk]
          have hA : ∀ n, Calls Try.prog 17 #[.pointer (some ⟨R, 0, none⟩)] (Y.drewN n) fun e w' => e = .returned (.tuple #[.agg (rAns (r.cm + 1) r.sz).arr, .bool true]) ∧ Qb q F8.nul w' ∧ Qb q (rAns (r.cm + 1) r.sz) (w'.setRow q (rAns (r.cm + 1) r.sz).arr) ∧ RPost w R v RS (.returned (.tuple #[.agg (rAns (r.cm + 1) r.sz).arr, .bool true])) (w'.setRow q (rAns (r.cm + 1) r.sz).arr) := fun n => (rAsk_any (HRY.out.drawn n)).mono fun e w' hp => by
            rw [e9] at hp
            have he := hp.1
            have HH := HFIN.out w' _ _ (Y.drewN n) u _ (HKY.out.trans (Kp.drawn' _ _ n)) HOX.out (HRY.out.drawn n) HQY.out ⟨rfl, hp.2⟩ HE.out
            exact ⟨he, HH.1, HH.2 _ rfl⟩
          clear HR e1 HFIN HE e9
          generalize rAns (r.cm + 1) r.sz = ga at *
          go_upto_region 9 with fail
          go_quiet (fail)
          have hA := hA nq
          go_wp2_with (first | (go_at_call 17; refine hA.mono ?_; rintro e w3 ⟨rfl, q3, hz3, hp3⟩; have HZ := hidOf2 hz3; have HP := hidOf2 hp3; clear hz3 hp3) | (refine sdF (g := ga) q3 rfl _ _ rfl rfl rfl ?_))
          exact bodyPost_ret (take_results HZ.out _ rfl rfl) rfl HP.out
        · have d3 : (((r.cm + 1 : Nat) : Int) == (r.sz : Int)) = false := by simp; omega
          have e1 : RS = (none, ⟨1, r.sz, r.bs ++ f.l.drop 1, r.cm + 1, r.cd⟩) := by rw [HR.out, if_neg (by simpa using c0), if_neg c1, if_neg c2, if_neg c3]
          have HX3 : Hid (∀ n, Qb q F8.nul (Y.drewN n) ∧ Qb q F8.nul ((Y.drewN n).setRow q F8.nul.arr) ∧ RPost w R v RS (.returned (ansV none)) ((Y.drewN n).setRow q F8.nul.arr)) := fun n => by
            have HH := HFIN.out (Y.drewN n) none _ (Y.drewN n) u _ (HKY.out.trans (Kp.drawn' _ _ n)) HOX.out (HRY.out.drawn n) HQY.out (RPost.same (HRY.out.drawn n) (Kp.refl _ _)) e1
            exact ⟨HH.1, HH.2 _ rfl⟩
          clear HR e1 HFIN
          go_upto_region 9 with fail
          go_quiet (fail)
          obtain ⟨q3, hz3, hp3⟩ := HX3.out nq
          have HZ := hidOf2 hz3
          have HP := hidOf2 hp3
          clear hz3 hp3 HX3
          go_wp2_with (first | (refine sdF (g := F8.nul) q3 rfl _ _ rfl rfl rfl ?_))
          exact bodyPost_ret (take_results HZ.out _ rfl rfl) rfl HP.out
  · have d0 : (((f0 % 128 : Nat) : Int) != (r.cm : Int) + 1) = true := by simp; omega
    have d0' : (((f0 : Int) % 128) != (r.cm : Int) + 1) = true := by simp; omega
    have HP : Hid (∀ n, RPost w R v RS (.returned (ansV none)) ((W.drewN n).setRow q F8.nul.arr)) := fun n => by
      rw [HR.out, if_pos c0]
      exact RPost.same ((HRn.out n).kp (Kp.setRow1 _ q F8.nul.arr) (fun b hb => by have := hvp b hb; simp; omega)) ((Kp.of_below (HBn.out n)).fresh (Kp.setRow1 _ q F8.nul.arr) (fun b hb => .inr (by simp at hb; omega)))
    clear HR
    go_enter Try.func33, Try.ntmps33
    go_upto_region 1 with fail
    first | (change Code.wp Try.prog _ _ _ ((w.alloc (.cells f.arr 30)).alloc (.cells zA8 30)); rw [hW0, hW]) | (change Code.wp Try.prog _ _ _ (W0.alloc (.cells zA8 30)); rw [hW]) | (change Code.wp Try.prog _ _ _ W)
    go_quiet (fail)
    have q1 := HQn.out nq
    have HZ := hidOf2 (q1.row F8.nul)
    go_wp2_with (first | (refine sdF (g := F8.nul) q1 rfl _ _ rfl rfl rfl ?_))
    exact bodyPost_ret (take_results HZ.out _ rfl rfl) rfl (HP.out nq)
end
end Go.Proofs.Ytebjofkblfmkmaa
