/- NewWatcher. -/
import Derived.Test.YtceomfefffngaaaBwE
namespace Go.Proofs.Ytceomfefffngaaa
open Go.RowKit
set_option linter.unusedVariables false
set_option maxRecDepth 1000000
set_option linter.unusedSimpArgs false
def Wq.bad (q : Wq) : Bool := decide (q.nd < 1) || decide (127 < q.nd) || decide (q.tk < 1) || decide (4294967296 < q.tk)
/-- What is wrong with nodes that are to be watched, behind those that are good. -/
def chkW : List Wq → List Wq → Int
  | _, [] => 0
  | pre, q :: r => if q.bad then 1 else if q.nd ∈ pre.map Wq.nd then 5 else chkW (pre ++ [q]) r
theorem chkW_cons (pre : List Wq) (q : Wq) (r : List Wq) : chkW pre (q :: r) = if q.bad then 1 else if q.nd ∈ pre.map Wq.nd then 5 else chkW (pre ++ [q]) r := rfl
theorem fw_mem (l : List Wt) (n : Int) : fw l n < l.length ↔ n ∈ l.map Wt.nd := by
  unfold fw
  rw [List.findIdx_lt_length]
  simp
theorem map_of_nd (l : List Wq) : (l.map Wt.of).map Wt.nd = l.map Wq.nd := by rw [List.map_map]; rfl
theorem of_ok {q : Wq} (h : q.bad = false) : (Wt.of q).Ok := by
  simp [Wq.bad] at h
  obtain ⟨⟨⟨h1, h2⟩, h3⟩, h4⟩ := h
  constructor <;> simp [Wt.of] <;> omega
theorem okW_snoc {pre : List Wq} {q : Wq} (hO : OkW (pre.map Wt.of)) (hb : q.bad = false) (hm : q.nd ∉ pre.map Wq.nd) : OkW ((pre ++ [q]).map Wt.of) := by
  refine ⟨fun x hx => ?_, ?_⟩
  · simp only [List.map_append, List.mem_append, List.map_cons, List.map_nil, List.mem_singleton] at hx
    rcases hx with hx | rfl
    · exact hO.ok x hx
    · exact of_ok hb
  · rw [map_of_nd, List.map_append]
    rw [List.nodup_append]
    refine ⟨by have := hO.nd; rwa [map_of_nd] at this, by simp, fun a ha b hb2 => ?_⟩
    simp at hb2
    subst hb2
    exact fun e => hm (e ▸ ha)
theorem chkW_ok : ∀ (r pre : List Wq), chkW pre r = 0 → OkW (pre.map Wt.of) → OkW ((pre ++ r).map Wt.of)
  | [], pre, _, h => by simpa using h
  | q :: r, pre, h, hO => by
    rw [chkW_cons] at h
    split at h
    · cases h
    · rename_i hb
      split at h
      · cases h
      · rename_i hm
        have := chkW_ok r (pre ++ [q]) h (okW_snoc hO (by simpa using hb) hm)
        simpa using this
theorem chkW_good {l : List Wq} (h : chkW [] l = 0) : OkW (l.map Wt.of) := by
  have := chkW_ok l [] h ⟨fun x hx => by simp at hx, by simp⟩
  simpa using this
def Wq.qs (q : Wq) : List Value := [.int .i64 q.nd, .int .u64 q.tk]
section
variable {g : Nat} {v : Value} {l : List Wt} {w : World}
theorem step_append_g {α : Type} (D : Dec α) (t e : TypeId) (z : Value) (bytes : Nat) (ht : Try.prog.underlying t = some (.slice e)) (hinfo : (Try.prog.info? e).map (fun i => (i.zero, i.size, i.bytes)) = some (some z, D.c, bytes)) (hzs : z.cells.size = D.c)
    {ops : Array Oper} {o : Oper} {a : Act} {w : World} {K : Act → World → Prop} {Q : Exit → Act → World → Prop} {E : Prop}
    (hg : o.guard = none) (s x : Operand) (ho : o.op = .call { callee := .builtin .append, args := #[s, x], argTypes := #[t, t] })
    (base : Nat) (v : Value) (xs : List α) (hs : a.eval s = v) (hown : w.ownsRow base e D.c v xs.length (flatW D xs))
    (q : Nat) (c : α) (hx : a.eval x = .slice (some ⟨q, 0, none⟩) 1 1) (hc : Wide D.c D.dec w (.slice (some ⟨q, 0, none⟩) 1 1) [c]) (h63 : xs.length + 1 ≤ maxLen) (hbytes : (xs.length + 1) * bytes ≤ 140737488355328) (hbase : base ≤ w.heap.size)
    (hK : ∀ v' w', w'.ownsRow base e D.c v' (xs ++ [c]).length (flatW D (xs ++ [c])) → w.grownBy w' v.ownBlock → K (a.put o.dst v') w') :
    if Region.wanted o (yielded ops a.tmps) = true then Oper.wp Try.prog o a w K Q else E := by
  have hw : Region.wanted o (yielded ops a.tmps) = true := by simp [Region.wanted, hg]
  rw [if_pos hw]
  exact wp_append_wide D s x t e z bytes ht hinfo hzs ho base v xs hs hown _ [c] hx hc (by simpa using h63) (by simpa using hbytes) hbase (fun v' w' h1 h2 => hK v' w' h1 h2)
theorem Wa.store (h : Bc 81 g #[v] w) (v' : Value) (l' : List Wt) (hr : w.ownsRow 0 84 6 v' l'.length (flatW DW l')) : Wa g v' l' (w.setCell ⟨g, 0, none⟩ v') := by
  refine ⟨Bc.set h 0 v', own_kq hr (P := fun k => k = g) (Kq.setCell (P := fun k => k = g) (Kq.refl _ _) ⟨g, 0, none⟩ rfl _) (fun k hk e => ?_)⟩
  obtain ⟨_, cur, hc⟩ := own_of hr hk
  have := h
  unfold Bc at this
  rw [← e, hc] at this
  simp at this
theorem own_raise {w : World} {B : Nat} {e : TypeId} {c n : Nat} {v : Value} {xs : List Value} (h : w.ownsRow 0 e c v n xs) (hb : ∀ j, v.ownBlock = some j → B ≤ j) : w.ownsRow B e c v n xs :=
  ⟨h.1, h.2.imp id (fun ⟨g, cap, cur, e1, e2, e3⟩ => ⟨g, cap, cur, e1, hb g (by rw [e1]; rfl), e3⟩)⟩
/-- What NewWatcher answers. -/
def NwW (l : List Wq) (B : Nat) (r : Value) (w' : World) : Prop :=
  if chkW [] l = 0 then ∃ v, r = .tuple #[.pointer (some ⟨B, 0, none⟩), .int .i64 0] ∧ Wa B v (l.map Wt.of) w' ∧ ∀ j, v.ownBlock = some j → B ≤ j else r = .tuple #[.pointer none, .int .i64 (chkW [] l)]
theorem wide_wd (w : World) (q : Wq) : Wide 6 Wt.cs (w.alloc (.cells #[.int .i64 q.nd, .int .u64 q.tk, .bool false, .bool false, .int .i64 0, .int .u64 0] 84)) (.slice (some ⟨w.heap.size, 0, none⟩) 1 1) [Wt.of q] := wide_new DW w (Wt.of q) 84
theorem chkW_take (l : List Wq) (k : Nat) (h : k < l.length) (e : chkW [] l = chkW (l.take k) (l.drop k)) : (l[k].bad = true → chkW [] l = 1) ∧ (l[k].bad = false → l[k].nd ∈ (l.take k).map Wq.nd → chkW [] l = 5) ∧ (l[k].bad = false → l[k].nd ∉ (l.take k).map Wq.nd → chkW [] l = chkW (l.take (k + 1)) (l.drop (k + 1))) := by
  rw [List.drop_eq_getElem_cons h, chkW_cons] at e
  refine ⟨fun h1 => by rw [e]; simp [h1], fun h1 h2 => by rw [e, if_neg (by simp [h1]), if_pos h2], fun h1 h2 => ?_⟩
  rw [if_neg (by simp [h1]), if_neg h2] at e
  rw [List.take_succ_eq_append_getElem h]
  exact e
end
set_option maxHeartbeats 2000000 in
theorem neww_any (lv : Value) (l : List Wq) (w : World) (hB : Wide 2 Wq.qs w lv l) (hl : l.length ≤ 140737488351232) : Calls Try.prog 13 #[lv] w fun e w' => ∃ r, e = .returned r ∧ NwW l w.heap.size r w' ∧ Below w.heap.size w w' := by
  obtain ⟨ao, cap, rfl, _, hc⟩ := hB
  obtain ⟨p, hp⟩ : ∃ p, w.heap.size = p := ⟨_, rfl⟩
  have HC : Hid (∀ (wr : World), Below w.heap.size w wr → ∀ k (hk : k < l.length), ∃ b off, ao = some ⟨b, off, none⟩ ∧ b < w.heap.size ∧ wr.rangeAt b (off + k * 2) (Wq.qs l[k])) := fun wr hb k hk => Wide.at hc hb k hk
  have hI0 : Wa p (.slice none 0 0) [] (w.alloc (.cells #[.slice none 0 0] 81)) := ⟨by rw [← hp]; exact heap_alloc_new w _, World.ownsRow_nil _ _ _ _⟩
  have HI0 := hidOf2 hI0
  have HB0 : Hid (Below p w (w.alloc (.cells #[.slice none 0 0] 81))) := by rw [← hp]; exact (Below.refl _ _).alloc (Nat.le_refl _) _
  rw [hp] at HC ⊢
  clear hc hI0
  obtain ⟨L, hL⟩ : ∃ L, l.length = L := ⟨_, rfl⟩
  have HL := hidOf2 hL
  rw [hL] at hl ⊢
  clear hL
  go_enter Try.func13, Try.ntmps13
  go_wp2_with fail
  go_loopw [10] (fun s10 x => ∃ k v, k ≤ L ∧ s10 = .int .i64 (k : Nat) ∧ Wa p v ((l.take k).map Wt.of) x ∧ (∀ j, v.ownBlock = some j → p ≤ j) ∧ Below p w x ∧ Hid (chkW [] l = chkW (l.take k) (l.drop k) ∧ OkW ((l.take k).map Wt.of))) (fun s10 _ => L - (intOf s10).toNat)
  case atStart => exact ⟨0, _, by omega, rfl, HI0.out, (fun j hj => by cases hj), HB0.out, rfl, ⟨fun x hx => by simp at hx, by simp⟩⟩
  case round =>
    clear HI0 HB0
    obtain ⟨k, v, hk, rfl, hW, hvp, hb, hck⟩ := hrel
    obtain ⟨av, nv, cv, hv⟩ : ∃ av nv cv, v = .slice av nv cv := by
      obtain ⟨av, cv, hv⟩ := hW.shape
      exact ⟨av, _, cv, hv⟩
    subst hv
    have HV := hidOf2 hvp
    have HBw := hidOf2 hb
    have hpw : p ≤ wr.heap.size := by have := hb.size; omega
    by_cases hkl : k < L
    · have hd : decide ((k : Int) < (L : Int)) = true := by simp; omega
      have hkL : k < l.length := by rw [HL.out]; exact hkl
      obtain ⟨b, off, rfl, hbl, hR⟩ := HC.out wr hb k hkL
      obtain ⟨t1, t2, t3⟩ := chkW_take l k hkL hck.out.1
      have HT1 := hidOf2 t1
      have HT2 := hidOf2 t2
      have HT3 := hidOf2 t3
      have hof : (l.take (k + 1)).map Wt.of = (l.take k).map Wt.of ++ [Wt.of l[k]] := by rw [List.take_succ_eq_append_getElem hkL, List.map_append]; rfl
      have hlen : ((l.take k).map Wt.of).length = k := by simp; omega
      obtain ⟨q, hq⟩ : ∃ q, l[k] = q := ⟨_, rfl⟩
      rw [hq] at hR HT1 HT2 HT3 hof
      have hR2 : wr.rangeAt b (off + k * 2) [.int .i64 q.nd, .int .u64 q.tk] := hR
      obtain ⟨o, ho⟩ : ∃ o, off + k * 2 = o := ⟨_, rfl⟩
      rw [ho] at hR2
      have hx0 : wr.cell? ⟨b, o, none⟩ = some (.int .i64 q.nd) := hR2 0 _ rfl
      have hx1 : wr.cell? ⟨b, o + 1, none⟩ = some (.int .u64 q.tk) := hR2 1 _ rfl
      obtain ⟨X1, hX1⟩ : ∃ X, wr.alloc (.cells #[.int .i64 q.nd, .int .u64 q.tk] 59) = X := ⟨_, rfl⟩
      have BX1 : Below wr.heap.size wr X1 := by rw [← hX1]; exact (Below.refl _ _).alloc (Nat.le_refl _) _
      obtain ⟨e, he⟩ : ∃ e, wr.heap.size = e := ⟨_, rfl⟩
      have C1 : Bc 59 e #[.int .i64 q.nd, .int .u64 q.tk] X1 := by rw [← hX1, ← he]; exact heap_alloc_new wr _
      have B1 : Below p w X1 := hb.trans (BX1.mono hpw)
      have W1 := hW.below BX1
      by_cases hbad : q.bad = true
      · have HE : Hid (∀ x, Below p w x → NwW l p (.tuple #[.pointer none, .int .i64 1]) x) := fun x _ => by
          have := HT1.out hbad
          unfold NwW
          rw [this, if_neg (by decide)]
        have HBX := hidOf2 B1
        have hk1 : X1.cell? ⟨e, 0, none⟩ = some (.int .i64 q.nd) := C1.cell 0
        have hk2 : X1.cell? ⟨e, 1, none⟩ = some (.int .u64 q.tk) := C1.cell 1
        obtain ⟨N, hN⟩ : ∃ N, q.nd = N := ⟨_, rfl⟩
        obtain ⟨T, hT⟩ : ∃ T, q.tk = T := ⟨_, rfl⟩
        have hbd : (decide (N < 1) || decide (127 < N) || decide (T < 1) || decide (4294967296 < T)) = true := by rw [← hN, ← hT]; exact hbad
        rw [hN] at hR2 hx0 hk1 hX1
        rw [hT] at hR2 hx1 hk2 hX1
        have hR3 : wr.rangeAt b (off + k * 2) [.int .i64 N, .int .u64 T] := by rw [ho]; exact hR2
        have clr := hR
        clear clr hR HT1 HT2 HT3 hof hlen hW W1 B1 BX1 C1 hb hck hvp hbad hq HC t1 t2 t3 hR2
        by_cases h1 : N < 1
        · have d1 : decide (N < 1) = true := by simp [h1]
          clear hbd
          go_wp2_with (refine Wq.ld hR3 rfl _ rfl rfl ?_; clear hR3)
          go_ret2
          exact ⟨_, rfl, HE.out _ HBX.out, HBX.out⟩
        · have d1 : decide (N < 1) = false := by simp [h1]
          by_cases h2 : 127 < N
          · have d2 : decide (127 < N) = true := by simp [h2]
            clear hbd
            go_wp2_with (refine Wq.ld hR3 rfl _ rfl rfl ?_; clear hR3)
            go_ret2
            exact ⟨_, rfl, HE.out _ HBX.out, HBX.out⟩
          · have d2 : decide (127 < N) = false := by simp [h2]
            by_cases h3 : T < 1
            · have d3 : decide ((T : Int) < 1) = true := by simp; omega
              have d3' : decide (T < 1) = true := by simp; omega
              clear hbd h3
              go_wp2_with (refine Wq.ld hR3 rfl _ rfl rfl ?_; clear hR3)
              go_ret2
              exact ⟨_, rfl, HE.out _ HBX.out, HBX.out⟩
            · have d3 : decide ((T : Int) < 1) = false := by simp; omega
              have d3' : decide (T < 1) = false := by simp; omega
              have h4 : 4294967296 < T := by simpa [h1, h2, h3] using hbd
              have d4 : decide ((4294967296 : Int) < (T : Int)) = true := by simp; omega
              have d4' : decide (4294967296 < T) = true := by simp; omega
              clear hbd
              go_wp2_with (refine Wq.ld hR3 rfl _ rfl rfl ?_; clear hR3)
              go_ret2
              exact ⟨_, rfl, HE.out _ HBX.out, HBX.out⟩
      · have hbad' : q.bad = false := by simpa using hbad
        have hP := place_any W1 (by rw [hlen]; omega) q.nd
        have HB1 := hidOf2 B1
        have HW1 := hidOf2 W1
        have HC1 := hidOf2 C1
        have hk1 : X1.cell? ⟨e, 0, none⟩ = some (.int .i64 q.nd) := C1.cell 0
        have hk2 : X1.cell? ⟨e, 1, none⟩ = some (.int .u64 q.tk) := C1.cell 1
        obtain ⟨N, hN⟩ : ∃ N, q.nd = N := ⟨_, rfl⟩
        obtain ⟨T, hT⟩ : ∃ T, q.tk = T := ⟨_, rfl⟩
        have hbd : (decide (N < 1) || decide (127 < N) || decide (T < 1) || decide (4294967296 < T)) = false := by rw [← hN, ← hT]; exact hbad'
        simp only [Bool.or_eq_false_iff] at hbd
        obtain ⟨⟨⟨d1, d2⟩, d3'⟩, d4'⟩ := hbd
        have d3 : decide ((T : Int) < 1) = false := by simp at d3' ⊢; omega
        have d4 : decide ((4294967296 : Int) < (T : Int)) = false := by simp at d4' ⊢; omega
        rw [hN] at hR2 hx0 hk1 hX1 hP
        rw [hT] at hR2 hx1 hk2 hX1
        have hR3 : wr.rangeAt b (off + k * 2) [.int .i64 N, .int .u64 T] := by rw [ho]; exact hR2
        by_cases hf : fw ((l.take k).map Wt.of) N < ((l.take k).map Wt.of).length
        · rw [ixw_pos _ _ hf] at hP
          have HE : Hid (∀ x, NwW l p (.tuple #[.pointer none, .int .i64 5]) x) := fun x => by
            have := HT2.out hbad' (by rw [hN]; rw [fw_mem, map_of_nd] at hf; exact hf)
            unfold NwW
            rw [this, if_neg (by decide)]
          have hge : decide ((0 : Int) ≤ (fw ((l.take k).map Wt.of) N : Nat)) = true := by simp
          generalize fw ((l.take k).map Wt.of) N = I at *
          clear hR HT1 HT2 HT3 hof hlen hW W1 B1 BX1 C1 hb hck hvp hbad hbad' hq HC t1 t2 t3 hR2 hf
          go_wp2_with (first | (refine Wq.ld hR3 rfl _ rfl rfl ?_; clear hR3) | (go_at_call 29; refine hP.mono ?_; rintro e W2 ⟨rfl, B2⟩))
          go_ret2
          exact ⟨_, rfl, HE.out _, HB1.out.trans (B2.mono (by have := HB1.out.size; omega))⟩
        · rw [ixw_neg _ _ hf] at hP
          have hni : q.nd ∉ (l.take k).map Wq.nd := by rw [hN]; rw [fw_mem, map_of_nd] at hf; exact hf
          have HN : Hid (Hid (chkW [] l = chkW (l.take (k + 1)) (l.drop (k + 1)) ∧ OkW ((l.take (k + 1)).map Wt.of))) := ⟨HT3.out hbad' hni, by
            rw [List.take_succ_eq_append_getElem hkL, hq]
            exact okW_snoc hck.out.2 hbad' hni⟩
          have h127 := hck.out.2.len
          have HOF := hidOf2 hof
          have HLN := hidOf2 hlen
          have hqe : Hid (q = ⟨N, T⟩) := by show _ = _; rw [← hN, ← hT]
          clear hR HT1 HT2 HT3 hof hlen hW W1 B1 BX1 C1 hb hck hvp hbad hbad' hq HC t1 t2 t3 hR2 hf hN hT hni
          go_upto_region 9 with (first | (refine Wq.ld hR3 rfl _ rfl rfl ?_; clear hR3) | (go_at_call 29; refine hP.mono ?_; rintro e W2 ⟨rfl, B2⟩))
          have B3 := HB1.out.trans (B2.mono (by have := HB1.out.size; omega))
          have W3 := HW1.out.below B2
          have C3 := HC1.out.below B2
          have e0 : W2.cell? ⟨e, 0, none⟩ = some (.int .i64 N) := by have := C3.cell 0; rw [hqe.out] at this; exact this
          have e1 : W2.cell? ⟨e, 1, none⟩ = some (.int .u64 T) := by have := C3.cell 1; rw [hqe.out] at this; exact this
          have eg : W2.cell? ⟨p, 0, none⟩ = some (.slice av nv cv) := W3.cell.1
          have HB3 := hidOf2 B3
          have HW3 := hidOf2 W3
          clear B2 B3 W3 C3 HB1 HW1 HC1 HBw hP hX1 hk1 hk2 hx0 hx1 ho
          obtain ⟨X2, hX2⟩ : ∃ X, (W2.alloc (.cells #[.int .i64 N, .int .u64 T, .bool false, .bool false, .int .i64 0, .int .u64 0] 84)).drew = X := ⟨_, rfl⟩
          have BX2 : Below W2.heap.size W2 X2 := by rw [← hX2]; exact below_drawn ((Below.refl _ _).alloc (Nat.le_refl _) _) 1
          have W4 := HW3.out.below BX2
          have HO4 : Hid (X2.ownsRow p 84 6 (.slice av nv cv) ((l.take k).map Wt.of).length (flatW DW ((l.take k).map Wt.of))) := own_raise W4.row HV.out
          have HX4 : Hid (Wide 6 Wt.cs X2 (.slice (some ⟨W2.heap.size, 0, none⟩) 1 1) [Wt.of ⟨N, T⟩]) := by rw [← hX2]; exact wide_wd W2 ⟨N, T⟩
          have B4 : Below p w X2 := HB3.out.trans (BX2.mono (by have := HB3.out.size; omega))
          have HE : Hid (∀ v' w', w'.ownsRow p 84 6 v' ((l.take k).map Wt.of ++ [Wt.of ⟨N, T⟩]).length (flatW DW ((l.take k).map Wt.of ++ [Wt.of ⟨N, T⟩])) → X2.grownBy w' (Value.slice av nv cv).ownBlock → w'.cell? ⟨p, 0, none⟩ = some (.slice av nv cv) ∧ w'.frozen? ⟨p, 0, none⟩ = false ∧ Hid (Wa p v' ((l.take (k + 1)).map Wt.of) (w'.setCell ⟨p, 0, none⟩ v') ∧ (∀ j, v'.ownBlock = some j → p ≤ j) ∧ Below p w (w'.setCell ⟨p, 0, none⟩ v'))) := fun v' w' a1 a2 => by
            have hb : Bc 81 p #[.slice av nv cv] w' := (a2.block p W4.blk.lt (fun e => W4.ne p e.symm rfl)).trans W4.blk
            refine ⟨hb.cell 0, hb.frozen 0, ?_⟩
            show _ ∧ _ ∧ _
            refine ⟨?_, fun j hj => own_base a1 hj, ?_⟩
            · have e6 := HOF.out
              rw [hqe.out] at e6
              rw [e6]
              exact Wa.store hb v' _ (own_lower a1 (Nat.zero_le _))
            · refine Below.trans ?_ ((Below.refl p w').setCell (p := ⟨p, 0, none⟩) (Nat.le_refl _) _)
              exact B4.grown a2 (by have := B4.size; omega) (fun j hj => HV.out j hj)
          have hl4 : ((l.take k).map Wt.of).length + 1 ≤ 140737488351233 := by have := HLN.out; omega
          have hp2 : p ≤ X2.heap.size := by have := B4.size; omega
          have h63 : ((l.take k).map Wt.of).length + 1 ≤ maxLen := by unfold maxLen; omega
          have hlb : (((l.take k).map Wt.of).length + 1) * 40 ≤ 140737488355328 := by omega
          have x2c := W4.cell.1
          clear W4 B4 BX2 HW3 HB3
          go_region_law (refine step_append_g DW 79 84 _ 40 Try.underlying79 infoWd rfl rfl _ _ rfl p (.slice av nv cv) ((l.take k).map Wt.of) rfl (by first | exact HO4.out | (rw [hX2]; exact HO4.out)) W2.heap.size (Wt.of ⟨N, T⟩) rfl (by first | exact HX4.out | (rw [hX2]; exact HX4.out)) h63 hlb (by first | exact hp2 | (rw [hX2]; exact hp2)) ?_; intro v' w' a1 a2; (try rw [hX2] at a2); obtain ⟨bv, mv, dv, rfl⟩ : ∃ bv mv dv, v' = .slice bv mv dv := (by obtain ⟨x1, x2, x3⟩ := own_shape5 a1; exact ⟨x1, _, x2, x3⟩); obtain ⟨a3, a4, a5⟩ := HE.out _ w' a1 a2; clear a1 a2)
          all_goals
            go_wp2_with fail
            go_roundw
            case rel => exact ⟨k + 1, _, by omega, rfl, a5.out.1, a5.out.2.1, a5.out.2.2, HN.out⟩
            case measure => simp [intOf]; omega
    · obtain rfl : k = L := by omega
      have hd : decide ((k : Int) < (k : Int)) = false := by simp
      have HE : Hid (NwW l p (.tuple #[.pointer (some ⟨p, 0, none⟩), .int .i64 0]) wr ∧ Below p w wr) := by
        have h4 := HL.out
        have h5 := hck.out.1
        rw [List.drop_eq_nil_of_le (by omega)] at h5
        have h6 : chkW [] l = 0 := by rw [h5]; unfold chkW; cases l.take k <;> rfl
        rw [List.take_of_length_le (by omega)] at hW
        refine ⟨?_, hb⟩
        unfold NwW
        rw [h6, if_pos rfl]
        exact ⟨_, rfl, hW, hvp⟩
      clear hW hck hb hvp HV HBw HC
      go_wp2
      go_ret2
      exact ⟨_, rfl, HE.out⟩
end Go.Proofs.Ytceomfefffngaaa
