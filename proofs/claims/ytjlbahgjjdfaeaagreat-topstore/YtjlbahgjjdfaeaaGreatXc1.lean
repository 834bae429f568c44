/- What is asked, opened as it came in. -/
import Derived.Test.YtjlbahgjjdfaeaaGreatXa1
import Derived.Test.YtjlbahgjjdfaeaaGreatXe1
import Derived.Test.YtjlbahgjjdfaeaaGreatO14
import Derived.Test.YtjlbahgjjdfaeaaGreatOOp
namespace Go.Proofs.Nv
/-- What stands between two Saves, of a chip of whatever room. -/
structure Kx (r : Nat) (d : Ch) (an : Bool) (kl : List UInt8) : Prop where
  ok : d.Ok
  live : d.dead = false
  left : d.left = -1
  room : d.room = r
  kept : d.kept.2 = kl
  any : an = (d.kept.1 != 0)
theorem Kx.mk' {r : Nat} {d : Ch} {an : Bool} {kl : List UInt8} (ok : d.Ok) (room : d.room = r) (kept : d.kept.2 = kl) (any : an = (d.kept.1 != 0)) : Kx r d.power an kl :=
  ⟨Ch.power_ok ok, rfl, rfl, room, by rw [kept_power]; exact kept, by rw [kept_power]; exact any⟩
theorem Kx.step {r : Nat} {d : Ch} {an : Bool} {kl : List UInt8} (h : Kx r d an kl) (dd : Ch) (hdd : dd = d ∨ ∃ k : Nat, k < 256 ∧ dd = d.cut k) (b : List UInt8) (hl : b.length ≤ r) :
    ((dd.save b).2 = 0 ∧ Kx r (dd.save b).1.power true b) ∨ ((dd.save b).2 = 6 ∧ Kx r (dd.save b).1.power an kl) := by
  have hd : dd.Ok ∧ dd.dead = false ∧ dd.room = r ∧ dd.kept = d.kept := by
    rcases hdd with rfl | ⟨k, hk, rfl⟩
    · exact ⟨h.ok, h.live, h.room, rfl⟩
    · exact ⟨Ch.cut_ok h.ok (by omega), h.live, h.room, kept_cut _ _⟩
  obtain ⟨h1, h2, h3, h4⟩ := hd
  obtain ⟨g1, g2⟩ := save_spec h1 b (by omega) h2
  by_cases hc : dd.left < 0 ∨ ((2 + nch b : Nat) : Int) ≤ dd.left
  · obtain ⟨a1, a2, a3, a4⟩ := g1 hc
    exact .inl ⟨a1, Kx.mk' (Ch.save_ok h1 b) ((save_room _ _).trans h3) (by rw [a3]) (by rw [a3]; have := nxt_pos dd.kept.1; simp; omega)⟩
  · obtain ⟨a1, a2, a3⟩ := g2 hc
    exact .inr ⟨a1, Kx.mk' (Ch.save_ok h1 b) ((save_room _ _).trans h3) (by rw [a3, h4]; exact h.kept) (by rw [a3, h4]; exact h.any)⟩
end Go.Proofs.Nv
namespace Go.Proofs.YtjlbahgjjdfaeaaGreat
open Go.RowKit Go.Proofs.Ty Go.Proofs.Nv
set_option linter.unusedVariables false
set_option maxRecDepth 1000000
set_option linter.unusedSimpArgs false
/-- The pair's first dictionary and the chip. -/
structure Ts (w : World) (X D R E C P : Nat) (its : List Im) (d : Ch) (x : World) : Prop where
  dct : Dct D R its x
  pair : x.heap[X]? = some (.cells #[.pointer (some ⟨D, 0, none⟩), .pointer (some ⟨E, 0, none⟩)] 36 (0, 0))
  chip : Nz.Cm C P d x
  below : Below w.heap.size w x
  base : ∀ b ∈ its.map Im.b, w.heap.size ≤ b
  c1 : w.heap.size ≤ C
  p1 : w.heap.size ≤ P
section
variable {w : World} {X D R E C P : Nat} {its : List Im} {d d' : Ch} {x y : World}
theorem ne_of_ty {a b : Nat} {A B : Array Value} {T U : TypeId} {f g : Nat × Nat} (h1 : x.heap[a]? = some (.cells A T f)) (h2 : x.heap[b]? = some (.cells B U g)) (hT : T ≠ U) : a ≠ b := by
  intro e
  rw [e, h2] at h1
  simp at h1
  exact hT h1.2.1.symm
theorem Ts.next (h : Ts w X D R E C P its d x) (hb : Below x.heap.size x y) : Ts w X D R E C P its d y :=
  ⟨h.dct.below hb, (hb.block X (Array.getElem?_eq_some_iff.1 h.pair).1).trans h.pair, h.chip.below hb, h.below.trans (hb.mono h.below.size), h.base, h.c1, h.p1⟩
theorem Ts.draw (h : Ts w X D R E C P its d x) : Ts w X D R E C P its d { x with drawn := x.drawn + 1 } :=
  ⟨⟨h.dct.head, h.dct.row, h.dct.items, h.dct.apart, h.dct.sorted, h.dct.len⟩, h.pair, ⟨h.chip.head, h.chip.pages, h.chip.ok⟩, ⟨h.below.os, h.below.tape, h.below.output, h.below.size, h.below.block⟩, h.base, h.c1, h.p1⟩
theorem Ts.cX (h : Ts w X D R E C P its d x) : x.cell? ⟨X, 0, none⟩ = some (.pointer (some ⟨D, 0, none⟩)) := Lib.cell_of_heap h.pair 0
theorem Ts.kp {its' : List Im} (h : Ts w X D R E C P its d x) (hd : Dct D R its' y) (hK : Kp (its.map Im.b) x y) (hb : its'.map Im.b = its.map Im.b) : Ts w X D R E C P its' d y :=
  ⟨hd, kp_other h.dct hK h.pair (by decide), ⟨kp_other h.dct hK h.chip.head (by decide), kp_other h.dct hK h.chip.pages (by decide), h.chip.ok⟩, hK.below h.below h.below.size h.base, by rw [hb]; exact h.base, h.c1, h.p1⟩
theorem dct_two {D2 R2 : Nat} {i2 : List Im} (h : Dct D2 R2 i2 x) (hc : Nz.Cm C P d x) (t : Nz.Two C P x y) : Dct D2 R2 i2 y :=
  ⟨(t.block D2 h.lt.1 (ne_of_ty h.head hc.head (by decide)) (ne_of_ty h.head hc.pages (by decide))).trans h.head,
   (t.block R2 h.lt.2 (ne_of_ty h.row hc.head (by decide)) (ne_of_ty h.row hc.pages (by decide))).trans h.row,
   fun i hi => (t.block i.b (h.items i hi).lt (ne_of_ty (h.items i hi) hc.head (by decide)) (ne_of_ty (h.items i hi) hc.pages (by decide))).trans (h.items i hi), h.apart, h.sorted, h.len⟩
theorem Ts.two (h : Ts w X D R E C P its d x) (hc : Nz.Cm C P d' y) (t : Nz.Two C P x y) : Ts w X D R E C P its d' y :=
  ⟨dct_two h.dct h.chip t, (t.block X (Array.getElem?_eq_some_iff.1 h.pair).1 (ne_of_ty h.pair h.chip.head (by decide)) (ne_of_ty h.pair h.chip.pages (by decide))).trans h.pair, hc,
   ⟨t.os.trans h.below.os, t.tape.trans h.below.tape, t.output.trans h.below.output, Nat.le_trans h.below.size t.size, fun k hk => (t.block k (Nat.lt_of_lt_of_le hk h.below.size) (by have := h.c1; omega) (by have := h.p1; omega)).trans (h.below.block k hk)⟩, h.base, h.c1, h.p1⟩
/-- Another dictionary, made within a round, loads. -/
theorem Ts.other {D2 R2 : Nat} {i2 : List Im} (h : Ts w X D R E C P its d x) (h2 : Dct D2 R2 i2 x) (hK : Kp (i2.map Im.b) x y) (dis : ∀ b ∈ its.map Im.b, b ∉ i2.map Im.b) (hB : ∀ b ∈ i2.map Im.b, w.heap.size ≤ b) : Ts w X D R E C P its d y :=
  ⟨kp_dct h2 h.dct hK dis, kp_other h2 hK h.pair (by decide), ⟨kp_other h2 hK h.chip.head (by decide), kp_other h2 hK h.chip.pages (by decide), h.chip.ok⟩, hK.below h.below h.below.size hB, h.base, h.c1, h.p1⟩
/-- What was saved once: of a dictionary of these entries. -/
def Sd (l : List En) (kl : List UInt8) : Prop := ∃ its : List Im, (its.map Im.e).Perm (l.map En.plain) ∧ its.Pairwise (fun a b => a.e.pl < b.e.pl) ∧ (∀ i ∈ its, Ok i) ∧ kl = sav its ∧ kl.length ≤ 2040
theorem Sd.load {l : List En} {kl : List UInt8} (h : Sd l kl) {D2 R2 : Nat} {its2 : List Im} {w0 x : World} (N : Nw w0 D2 R2 its2 l x) : loadC its2 kl = 0 ∧ sav (loadI its2 kl) = kl := by
  obtain ⟨its, hp, hs, ho, rfl, _⟩ := h
  have he : its2.map Im.e = its.map Im.e := sorted_eq (List.pairwise_map.2 N.dct.sorted) (List.pairwise_map.2 hs) (N.perm.trans hp.symm)
  obtain ⟨kc, ks, _⟩ := kept hs ho N.dct.apart he
  exact ⟨kc, ks⟩
/-- What is asked. -/
structure A3 where
  ix : Nat
  sb : Nat
  v : Value
  l : List UInt8
def A3.cells (a : A3) : List Value := [.int .u16 a.ix, .int .u8 a.sb, a.v]
structure A3.ok (w : World) (a : A3) : Prop where
  ix : a.ix < 65536
  sb : a.sb < 256
  by' : Bytes w a.v a.l
  le : a.l.length ≤ 140737488351232
theorem info3a : (Tryz.prog.info? 40).map (·.size) = some 3 := by kernel_rfl
theorem exec_ixQ {a : Act} {o : Oper} {s i : Operand} {b off n c k : Nat} (ho : o.op = .indexAddr 23 s i) (hs : a.eval s = .slice (some ⟨b, off, none⟩) n c) (hi : a.eval i = .int .i64 (k : Int)) (hk : k < n) (w : World) : (execOp a.eval o).run Tryz.prog w = .ok (.value (.pointer (some ⟨b, off + k * 3, none⟩))) w := by
  have h1 : (0 : Int) ≤ (k : Int) := by omega
  have h2 : (k : Int) < (n : Int) := by omega
  unfold execOp
  simp only [ho, hs, hi]
  obtain ⟨i0, hi0, hz0⟩ := Nz.info_sizeN info3a
  simp [go_sem, run_underlying Tryz.underlying23, sizeOf, typeInfo, hi0, hz0, h1, h2, Addr.add_mid]
theorem load_pdQ (x : World) (q k D : Nat) (hc : x.cell? ⟨q, k, none⟩ = some (.pointer (some ⟨D, 0, none⟩))) : (loadVar 33 ⟨q, k, none⟩).run Tryz.prog x = .ok (.pointer (some ⟨D, 0, none⟩)) x := by
  simp [go_sem, run_underlying Tryz.underlying33, hc]
theorem load_u16Q (x : World) (q k : Nat) (z : Int) (hc : x.cell? ⟨q, k, none⟩ = some (.int .u16 z)) : (loadVar 38 ⟨q, k, none⟩).run Tryz.prog x = .ok (.int .u16 z) x := by
  simp [go_sem, run_underlying Tryz.underlying38, hc]
theorem load_u8Q (x : World) (q k : Nat) (z : Int) (hc : x.cell? ⟨q, k, none⟩ = some (.int .u8 z)) : (loadVar 5 ⟨q, k, none⟩).run Tryz.prog x = .ok (.int .u8 z) x := by
  simp [go_sem, run_underlying Tryz.underlying5, hc]
theorem load_bysQ (x : World) (q k : Nat) (ao : Option Addr) (l c : Nat) (hc : x.cell? ⟨q, k, none⟩ = some (.slice ao l c)) : (loadVar 24 ⟨q, k, none⟩).run Tryz.prog x = .ok (.slice ao l c) x := by
  simp [go_sem, run_underlying Tryz.underlying24, hc]
theorem wp_appQ {w : World} {o : Oper} {a : Act} {K : Act → World → Prop} {Q : Exit → Act → World → Prop} (s x : Operand)
    (ho : o.op = .call { callee := .builtin .append, args := #[s, x], argTypes := #[24, 24] })
    (base : Nat) (v : Value) (xs : List UInt8) (hs : a.eval s = v) (hown : w.ownsRow base 5 1 v xs.length (Lib.byteCells xs))
    (vx : Value) (l : List UInt8) (hx : a.eval x = vx) (hB : Bytes w vx l) (hbytes : xs.length + l.length ≤ 140737488355328) (hbase : base ≤ w.heap.size)
    (h : ∀ v' w', w'.ownsRow base 5 1 v' (xs ++ l).length (Lib.byteCells (xs ++ l)) → w.grownBy w' v.ownBlock → K (a.put o.dst v') w') : o.wp Tryz.prog a w K Q := by
  obtain ⟨i0, hi, hz0, hz1, hz2⟩ := info_parts info5
  obtain ⟨ao, cap, rfl, h0, hc⟩ := hB
  cases ao with
  | none =>
    obtain ⟨rfl, rfl⟩ := h0 rfl
    have hrun := run_append_owned_none (P := Tryz.prog) (w := w) base 24 o.type 5 i0 1 Tryz.underlying24 hi v xs.length (Lib.byteCells xs) hown
    unfold Oper.wp
    simp only [List.length_nil] at hx
    simp [execOp, ho, resolve, invoke, builtin, hs, hx, hrun, Result.andThen]
    refine h _ _ ?_ (grown_refl _ _)
    simpa using hown
  | some ad =>
    refine wp_append_own w s x 24 ho base 5 i0 (.int .u8 0) 1 1 Tryz.underlying24 hi hz0 hz1 hz2 rfl (by decide) v xs.length (Lib.byteCells xs) hs hown ad l.length cap (Lib.byteCells l) hx (by simp [Lib.byteCells_length]) ?_ (byteCells_one l) (by unfold maxLen; omega) (by omega) hbase ?_
    · intro j u hj
      have hlt : j < l.length := by
        have := (List.getElem?_eq_some_iff.1 hj).1
        rwa [Lib.byteCells_length] at this
      obtain ⟨b, off, ha, _, hcell⟩ := hc j hlt
      simp at ha
      subst ha
      rw [add_off, hcell]
      simp [Lib.byteCells, hlt] at hj
      rw [hj]
    · intro v' w' h1 h2 _
      refine h v' w' ?_ h2
      rw [List.length_append, Lib.byteCells_append]
      exact h1
theorem enQ : ∀ args x, (callFunc 6 args).run Tryz.prog x = .ok (.enter 6 args) x := fun _ _ => by rfl
end
end Go.Proofs.YtjlbahgjjdfaeaaGreat
namespace Go.Proofs.YtjlbahgjjdfaeaaGreat
open Go.ChangeShapes Go.WideShapes Go.ChangeAt Go.RowKit Go.Proofs.Ty
set_option linter.unusedVariables false
set_option maxRecDepth 1000000
set_option linter.unusedSimpArgs false
theorem cellsK3 : Tryz.prog.cellsOf 40 = 3 := by kernel_rfl
theorem cellsKu16 : Tryz.prog.cellsOf 38 = 1 := by kernel_rfl
theorem cellsKu8 : Tryz.prog.cellsOf 5 = 1 := by kernel_rfl
theorem cellsKb : Tryz.prog.cellsOf 24 = 1 := by kernel_rfl
theorem bytesK : Tryz.prog.bytesOf 40 = 32 := by kernel_rfl
theorem list3K {l : List Value} (h : l.length = 3) : ∃ c0 c1 c2, l = [c0, c1, c2] := by
  match l, h with
  | [c0, c1, c2], _ => exact ⟨c0, c1, c2, rfl⟩
def G3 {H : Type} (W : World) (d : DataW H) (a : A3) : Prop := a.ix < 65536 ∧ a.sb < 256 ∧ Bytes W a.v a.l ∧ ∃ d0 d1 d2, d = .agg [d0, d1, d2] ∧ ((d2 = .nil ∧ a.l = []) ∨ ∃ e s, d2 = .slice e s ∧ e.length = a.l.length)
theorem one_a3 {H : Type} {enc : TypeId × Value → H} {W : World} (n : Nat) (cs : List Value) (y : DataW H × List MemPlace) (h : DataW.trod enc Tryz.prog W 0 (fun _ => true) true n 40 cs = some y) (hlt : ∀ x ∈ y.2, x.block < W.heap.size) : ∃ a : A3, cs = a.cells ∧ G3 W y.1 a := by
  obtain ⟨xs, m, _, hd, hn, hl, hfs⟩ := DataW.trod_struct Tryz.underlying40 h
  rw [cellsK3] at hn
  obtain ⟨c0, c1, c2, rfl⟩ := list3K hn
  have g0 := hfs 0 _ rfl
  have g1 := hfs 1 _ rfl
  have g2 := hfs 2 _ rfl
  simp [cellsKu16, cellsKu8, cellsKb] at g0 g1 g2
  match xs, hl with
  | [y0, y1, y2], _ =>
    simp at g0 g1 g2
    obtain ⟨i0, e0, _, w0⟩ := DataW.trod_int Tryz.underlying38 g0
    obtain ⟨i1, e1, _, w1⟩ := DataW.trod_int Tryz.underlying5 g1
    obtain ⟨l2, hB2, hl2⟩ := Nz.one_bytesN _ _ _ g2 (fun x hx => hlt x (by rw [hd]; simp [hx]))
    simp at e0 e1
    subst e0 e1
    obtain ⟨n0, rfl, k0⟩ := u16_of w0
    obtain ⟨n1, rfl, k1⟩ := u8_of w1
    exact ⟨⟨n0, n1, c2, l2⟩, rfl, k0, k1, hB2, y0.1, y1.1, y2.1, by rw [hd]; simp, hl2⟩
theorem open_asks {H : Type} {enc : TypeId × Value → H} {W : World} {base : Nat} {v : Value} {d : DataW H} {ps : List MemPlace}
    (hval : Value.okWide Tryz.prog W .any base 23 v) (h : DataW.Trod enc Tryz.prog W 0 (fun _ => true) true 23 v d ps) (hlt : ∀ x ∈ ps, x.block < W.heap.size) :
    ∃ l : List A3, Wide 3 A3.cells W v l ∧ ((d = .nil ∧ l = []) ∨ ∃ e s, d = .slice e s ∧ e.length = l.length ∧ ∀ k (h : k < l.length) (h2 : k < e.length), G3 W e[k] l[k]) :=
  Nz.open_gen Tryz.underlying23 cellsK3 (by decide) one_a3 hval h hlt
theorem weight_a3 {H : Type} {W : World} {d : DataW H} {a : A3} (h : G3 W d a) : a.l = [] ∨ ∃ n, a.l.length ≤ n ∧ n ∈ d.weights Tryz.prog 40 := by
  obtain ⟨_, _, _, d0, d1, d2, rfl, h3⟩ := h
  rcases h3 with ⟨_, h⟩ | ⟨e, s, rfl, h⟩
  · exact .inl h
  · right
    refine ⟨(e.length + s.length) * Tryz.prog.bytesOf 5, by rw [bytes5]; omega, ?_⟩
    simp only [DataW.weights, Tryz.underlying40]
    refine DataW.weights_mem_each (j := 2) rfl rfl _ ?_
    simp [DataW.weights, Tryz.underlying24]
theorem size_asks {H : Type} {W : World} {ts : List TypeId} {ds : List (DataW H)} {j : Nat} {d : DataW H} {l : List A3} (h : (DataW.weightsEach Tryz.prog ts ds).all (· ≤ reachBytes) = true) (ht : ts[j]? = some 23) (hd : ds[j]? = some d) (e : (d = .nil ∧ l = []) ∨ ∃ e s, d = .slice e s ∧ e.length = l.length ∧ ∀ k (h : k < l.length) (h2 : k < e.length), G3 W e[k] l[k]) :
    l.length ≤ 140737488351232 ∧ ∀ a ∈ l, a.ok W := by
  have hr : reachBytes = 140737488351232 := by decide
  rcases e with ⟨_, rfl⟩ | ⟨e, s, rfl, h1, h2⟩
  · exact ⟨by simp, fun a ha => by simp at ha⟩
  · refine ⟨?_, fun a ha => ?_⟩
    · have hs := sized_slice h ht hd Tryz.underlying23
      rw [bytesK] at hs
      omega
    · obtain ⟨k, hk, rfl⟩ := List.getElem_of_mem ha
      have hG := h2 k hk (by omega)
      have hG2 := hG
      obtain ⟨r1, r2, r3, _⟩ := hG2
      refine ⟨r1, r2, r3, ?_⟩
      rcases weight_a3 hG with h0 | ⟨n, hn, hm⟩
      · rw [h0]; simp
      · have hm2 : n ∈ DataW.weights Tryz.prog 23 (.slice e s) := by
          simp only [DataW.weights, Tryz.underlying23]
          exact List.mem_cons_of_mem _ (List.mem_append_left _ (Nz.weights_memN (by omega) hm))
        have := List.all_eq_true.1 h _ (DataW.weights_mem_each ht hd _ hm2)
        simp at this
        omega
end Go.Proofs.YtjlbahgjjdfaeaaGreat
