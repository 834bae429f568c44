/- What is told of one node of many; a watcher takes bytes that the law copied first. -/
import Derived.Test.YtceomfefffngaaaLawBBck
import Derived.Test.YtceomfefffngaaaDwX
import Derived.Deep.RegionHeld3
namespace Go.Proofs.Ytceomfefffngaaa
open Go.RowKit
set_option linter.unusedVariables false
set_option maxRecDepth 1000000
set_option linter.unusedSimpArgs false
theorem OkW.ne {l : List Wt} (h : OkW l) {i j : Nat} (hi : i < l.length) (hj : j < l.length) (hij : i ≠ j) : l[i].nd ≠ l[j].nd := by
  have hp := List.pairwise_iff_getElem.1 h.nd
  rcases Nat.lt_or_gt_of_ne hij with h1 | h1
  · have := hp i j (by simpa using hi) (by simpa using hj) h1
    simpa using this
  · have := hp j i (by simpa using hj) (by simpa using hi) h1
    intro e
    apply this
    simpa using e.symm
theorem fw_at {l : List Wt} (h : OkW l) {R : Nat} (hR : R < l.length) : fw l l[R].nd = R :=
  fw_hit' l _ R hR rfl (fun j hj => h.ne (by omega) hR (by omega))
theorem tells_nd {x : Wt} {a : Ne} (h : a ∈ x.tells) : a.nd = x.nd := by
  unfold Wt.tells at h
  split at h
  · simp at h; rw [h]
  · simp at h
theorem says_nd {x : Wt} {b : Nat} {a : Ne} (h : a ∈ x.says b) : a.nd = x.nd := by
  unfold Wt.says at h
  repeat' split at h
  all_goals first | (simp at h; done) | (simp at h; rw [h])
theorem saysW_nd {l : List Wt} {n : Int} {b : List UInt8} {a : Ne} (h : a ∈ saysW l n b) : a.nd = n := by
  unfold saysW at h
  split at h
  · split at h
    · rename_i hk
      split at h
      · rw [says_nd h]; exact fw_nd l n hk
      · simp at h
    · simp at h
  · simp at h
def mineF (c : Int) (l : List Ne) : List Ne := l.filter (fun a => decide (a.nd = c))
theorem mine_all {c : Int} {l : List Ne} (h : ∀ a ∈ l, a.nd = c) : mineF c l = l := List.filter_eq_self.2 (fun a ha => by simp [h a ha])
theorem mine_none {c : Int} {l : List Ne} (h : ∀ a ∈ l, a.nd ≠ c) : mineF c l = [] := List.filter_eq_nil_iff.2 (fun a ha => by simp [h a ha])
theorem mine_tells : ∀ (l : List Wt), (l.map Wt.nd).Nodup → ∀ x ∈ l, mineF x.nd (tellsW l) = x.tells
  | y :: r, hn, x, hx => by
    have h1 : tellsW (y :: r) = y.tells ++ tellsW r := rfl
    rw [h1]
    unfold mineF
    rw [List.filter_append]
    have h2 : y.nd ∉ r.map Wt.nd := (List.nodup_cons.1 hn).1
    rcases List.mem_cons.1 hx with rfl | hx
    · have e1 := mine_all (c := x.nd) (l := x.tells) (fun a ha => tells_nd ha)
      have e2 := mine_none (c := x.nd) (l := tellsW r) (fun a ha e => by
        unfold tellsW at ha
        obtain ⟨z, hz, haz⟩ := List.mem_flatMap.1 ha
        apply h2
        rw [← e, tells_nd haz]
        exact List.mem_map_of_mem hz)
      unfold mineF at e1 e2
      rw [e1, e2, List.append_nil]
    · have hne : y.nd ≠ x.nd := fun e => h2 (e ▸ List.mem_map_of_mem hx)
      have e1 := mine_none (c := x.nd) (l := y.tells) (fun a ha => by rw [tells_nd ha]; exact hne)
      have e2 := mine_tells r (List.nodup_cons.1 hn).2 x hx
      unfold mineF at e1 e2
      rw [e1, e2, List.nil_append]
theorem mine_next (c : Int) (l : List Ne) (k : Nat) (h : k < l.length) : mineF c (l.take (k + 1)) = mineF c (l.take k) ++ (if l[k].nd = c then [l[k]] else []) := by
  unfold mineF
  rw [List.take_succ_eq_append_getElem h, List.filter_append]
  congr 1
  by_cases hc : l[k].nd = c
  · simp [hc]
  · simp [hc]
def tk1 (y : Wt) : List UInt8 → Wt
  | [c] => if isB c.toNat then y.beat c.toNat else y
  | _ => y
theorem tk1_nd (y : Wt) (b : List UInt8) : (tk1 y b).nd = y.nd := by
  unfold tk1
  split
  · split
    · exact Wt.beat_nd _ _
    · rfl
  · rfl
theorem takeW_get (l : List Wt) (n : Int) (b : List UInt8) (R : Nat) (hR : R < l.length) : (takeW l n b)[R]? = some (if fw l n = R then tk1 l[R] b else l[R]) := by
  unfold takeW tk1
  split
  · split
    · rw [List.getElem?_modify, List.getElem?_eq_getElem hR]
      simp only [Option.map_eq_map, Option.map_some]
      split <;> rfl
    · rename_i hb
      rw [List.getElem?_eq_getElem hR]
      simp [hb]
  · rw [List.getElem?_eq_getElem hR]
    simp
theorem takeW_one (y : Wt) (b : List UInt8) : takeW [y] y.nd b = [tk1 y b] := by
  have h := takeW_get [y] y.nd b 0 (by simp)
  rw [fw_one, if_pos rfl] at h
  have hl := takeW_len [y] y.nd b
  match e : takeW [y] y.nd b, hl with
  | [z], _ => rw [e] at h; simpa using h
theorem saysW_at {l : List Wt} (hO : OkW l) {R : Nat} (hR : R < l.length) (b : List UInt8) : saysW l l[R].nd b = saysW [l[R]] l[R].nd b := by
  have h1 := fw_at hO hR
  have h2 := fw_one l[R]
  unfold saysW
  split
  · rename_i c
    rw [dif_pos (by rw [h1]; exact hR), dif_pos (by rw [h2]; simp)]
    simp only [h1, h2, List.getElem_cons_zero]
  · rfl
theorem fw_not {l : List Wt} {R : Nat} (hR : R < l.length) {n : Int} (hn : n ≠ l[R].nd) : fw l n ≠ R := by
  intro e
  have h := fw_nd l n (by omega)
  apply hn
  rw [← h]
  congr 1
  exact List.getElem_of_eq rfl _ |>.symm ▸ (by simp [e])
theorem tickW_get (l : List Wt) (R : Nat) (hR : R < l.length) : (tickW l)[R]? = some l[R].tick := by
  unfold tickW
  rw [List.getElem?_map, List.getElem?_eq_getElem hR]
  rfl
theorem copy_grown {a X b c : World} {r : Option Nat} {o : Obj} (hX : a.alloc o = X) (h : X.grownBy b (some a.heap.size)) (g : b.grownBy c r) : a.grownBy c r := by
  have h1 : a.grownBy X r := by rw [← hX]; exact gb_any ((Below.refl _ _).alloc (Nat.le_refl _) _) r
  have h2 : a.grownBy b r := grown_then h1 h (fun k hk => by simp at hk; omega)
  exact grown_trans h2 g
theorem Lw.took {w wr X1 : World} {p g : Nat} {v : Value} {l : List Wt} {e0 : Nat} (hX : wr.alloc (.cells #[] 5) = X1) (he : wr.heap.size = e0) (h : Lw w p g v l wr) (nd : Int) (bl : List UInt8) :
    ∀ v1 w2, w2.ownsRow e0 5 1 v1 bl.length (Lib.byteCells bl) → X1.grownBy w2 (some e0) → Calls Try.prog 15 #[.pointer (some ⟨g, 0, none⟩), .int .i64 nd, v1] w2 fun e y =>
      ∃ ao cap, e = .returned (.tuple #[.slice ao (saysW l nd bl).length cap, .bool (okW l nd bl)]) ∧ Nw wr.heap.size (.slice ao (saysW l nd bl).length cap) (saysW l nd bl) y ∧ Lw w p g v (takeW l nd bl) y ∧ wr.grownBy y v.ownBlock := by
  intro v1 w2 ho hg
  subst he
  have g1 : wr.grownBy X1 none := by rw [← hX]; exact gb_any ((Below.refl _ _).alloc (Nat.le_refl _) _) none
  have g2 : wr.grownBy w2 none := grown_then g1 hg (fun k hk => by simp at hk; omega)
  have L2 : Lw w p g v l w2 := h.grown g2 (fun k hk => by cases hk) (by simp) (fun k _ => by simp)
  refine (L2.take nd v1 bl (bytes_of_own ho)).mono ?_
  rintro e y ⟨ao, cap, rfl, N, L, G⟩
  exact ⟨ao, cap, rfl, N.lower g2.size, L, copy_grown hX hg G⟩
theorem Lw.new {L : List Wq} (h0 : chkW [] L = 0) (w x : World) (p : Nat) (hb : Below p w x) (hp : p ≤ x.heap.size) (q : Value) (hQ : Wide 2 Wq.qs x q L) (hl : L.length ≤ 140737488351232) :
    Calls Try.prog 13 #[q] x fun e y => ∃ v, e = .returned (.tuple #[.pointer (some ⟨x.heap.size, 0, none⟩), .int .i64 0]) ∧ Lw w p x.heap.size v (L.map Wt.of) y ∧ (∀ k, v.ownBlock = some k → x.heap.size ≤ k) ∧ Below x.heap.size x y := by
  refine (neww_any q L x hQ hl).mono ?_
  rintro e y ⟨r, rfl, hr, b2⟩
  have hO := chkW_good h0
  unfold NwW at hr
  rw [if_pos h0] at hr
  obtain ⟨v, rfl, W2, hv⟩ := hr
  exact ⟨v, rfl, ⟨W2, hO, fun k hk => Nat.le_trans hp (hv k hk), hp, below_low hb b2 hp, Nat.le_trans hp b2.size⟩, hv, b2⟩
theorem neww_none {L : List Wq} (h0 : chkW [] L ≠ 0) (x : World) (q : Value) (hQ : Wide 2 Wq.qs x q L) (hl : L.length ≤ 140737488351232) :
    Calls Try.prog 13 #[q] x fun e y => e = .returned (.tuple #[.pointer none, .int .i64 (chkW [] L)]) ∧ Below x.heap.size x y := by
  refine (neww_any q L x hQ hl).mono ?_
  rintro e y ⟨r, rfl, hr, b2⟩
  unfold NwW at hr
  rw [if_neg h0] at hr
  exact ⟨by rw [hr], b2⟩
theorem exec_idxA18 {a : Act} {o : Oper} {s i : Operand} {b off n c k : Nat} (ho : o.op = .indexAddr 37 s i) (hs : a.eval s = .slice (some ⟨b, off, none⟩) n c) (hi : a.eval i = .int .i64 (k : Int)) (hk : k < n) (w : World) : (execOp a.eval o).run Try.prog w = .ok (.value (.pointer (some ⟨b, off + k * 3, none⟩))) w := by
  have h1 : (0 : Int) ≤ (k : Int) := by omega
  have h2 : (k : Int) < (n : Int) := by omega
  have hsz : (Try.prog.info? 49).map (·.size) = some 3 := by kernel_rfl
  obtain ⟨i0, hi0, hz1⟩ : ∃ i0, Try.prog.info? 49 = some i0 ∧ i0.size = 3 := by
    cases hh : Try.prog.info? 49 with
    | none => rw [hh] at hsz; cases hsz
    | some i0 => rw [hh] at hsz; exact ⟨i0, rfl, by simpa using hsz⟩
  unfold execOp
  simp only [ho, hs, hi]
  simp [go_sem, run_underlying Try.underlying37, sizeOf, typeInfo, hi0, hz1, h1, h2, Addr.add_mid]
theorem load_bytesN (x : World) (D k : Nat) (a : Option Addr) (n c : Nat) (hc : x.cell? ⟨D, k, none⟩ = some (.slice a n c)) : (loadVar 32 ⟨D, k, none⟩).run Try.prog x = .ok (.slice a n c) x := by
  simp [go_sem, run_underlying Try.underlying32, hc]
theorem enterWT : ∀ args x, (callFunc 15 args).run Try.prog x = .ok (.enter 15 args) x := fun _ _ => by rfl
theorem wp_appN {w : World} {o : Oper} {a : Act} {K : Act → World → Prop} {Q : Exit → Act → World → Prop} (s x : Operand)
    (ho : o.op = .call { callee := .builtin .append, args := #[s, x], argTypes := #[32, 32] })
    (base : Nat) (v : Value) (xs : List UInt8) (hs : a.eval s = v) (hown : w.ownsRow base 5 1 v xs.length (Lib.byteCells xs))
    (vx : Value) (l : List UInt8) (hx : a.eval x = vx) (hB : Bytes w vx l) (hbytes : xs.length + l.length ≤ 140737488355328) (hbase : base ≤ w.heap.size)
    (h : ∀ v' w', w'.ownsRow base 5 1 v' (xs ++ l).length (Lib.byteCells (xs ++ l)) → w.grownBy w' v.ownBlock → K (a.put o.dst v') w') : o.wp Try.prog a w K Q := by
  obtain ⟨i0, hi, hz0, hz1, hz2⟩ := info_parts info5
  obtain ⟨ao, cap, rfl, h0, hc⟩ := hB
  cases ao with
  | none =>
    obtain ⟨rfl, rfl⟩ := h0 rfl
    have hrun := run_append_owned_none (P := Try.prog) (w := w) base 32 o.type 5 i0 1 Try.underlying32 hi v xs.length (Lib.byteCells xs) hown
    unfold Oper.wp
    simp only [List.length_nil] at hx
    simp [execOp, ho, resolve, invoke, builtin, hs, hx, hrun, Result.andThen]
    refine h _ _ ?_ (grown_refl _ _)
    simpa using hown
  | some ad =>
    refine wp_append_own w s x 32 ho base 5 i0 (.int .u8 0) 1 1 Try.underlying32 hi hz0 hz1 hz2 rfl (by decide) v xs.length (Lib.byteCells xs) hs hown ad l.length cap (Lib.byteCells l) hx (by simp [Lib.byteCells_length]) ?_ (byteCells_one l) (by unfold maxLen; omega) (by omega) hbase ?_
    · intro j u hj
      have hlt : j < l.length := by
        have := (List.getElem?_eq_some_iff.1 hj).1
        rwa [Lib.byteCells_length] at this
      obtain ⟨b, off, ha, _, hcell⟩ := hc j hlt
      simp at ha
      subst ha
      rw [add_off, hcell]
      simp [Lib.byteCells, hlt] at hj
      rw [hj]
    · intro v' w' h1 h2 _
      refine h v' w' ?_ h2
      rw [List.length_append, Lib.byteCells_append]
      exact h1
end Go.Proofs.Ytceomfefffngaaa
