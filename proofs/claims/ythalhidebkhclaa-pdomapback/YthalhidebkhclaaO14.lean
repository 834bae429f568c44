/- Contracts: Save. -/
import Derived.Test.YthalhidebkhclaaO13
import Derived.Test.YthalhidebkhclaaTy5f
import Derived.Test.YthalhidebkhclaaOApp
namespace Go.Proofs.Ythalhidebkhclaa
open Go.RowKit Go.Proofs.Ty Go.Sort Go.Lib
set_option linter.unusedVariables false
set_option maxRecDepth 1000000
set_option linter.unusedSimpArgs false
theorem enc_len (v : Vl) : v.enc.length ≤ 65536 := by
  have hE : v.enc = if v.chk = 0 then (if 0 < siz v.t then lowL v.n (siz v.t) else v.s.data.toList) else [] := rfl
  rw [hE]
  split
  · rename_i h0
    split
    · rw [lowL_length]; have := siz_le v.t; omega
    · rename_i hz
      have hz' : siz v.t = 0 := by omega
      obtain ⟨k1, k2⟩ := (siz_zero v.t).1 hz'
      unfold Vl.chk Ty.chk at h0
      rw [if_neg k1, if_neg k2] at h0
      split at h0
      · exact absurd h0 (by decide)
      · split at h0
        · exact absurd h0 (by decide)
        · rename_i h3
          have : v.s.data.toList.length = v.s.size := by simp
          omega
  · simp
theorem bytes_same {w x : World} {v : Value} {l : List UInt8} (h : Bytes w v l) (hs : w.heap.size ≤ x.heap.size) (hb : ∀ b, v.ownBlock = some b → b < w.heap.size → x.heap[b]? = w.heap[b]?) : Bytes x v l := by
  obtain ⟨ao, cap, rfl, h0, hc⟩ := h
  refine ⟨ao, cap, rfl, h0, fun k hk => ?_⟩
  obtain ⟨b, off, ha, hlt, hcell⟩ := hc k hk
  exact ⟨b, off, ha, by omega, (World.cell?_of_block (a := ⟨b, off + k, none⟩) (hb b (by rw [ha]; rfl) hlt)).trans hcell⟩
def hd3 (e : En) : List UInt8 := [UInt8.ofNat (e.ix % 256), UInt8.ofNat (e.ix / 256), UInt8.ofNat e.sb]
theorem hd3_len (e : En) : (hd3 e).length = 3 := rfl
/-- What is saved of an item, of items. -/
def svI (i : Im) : List UInt8 := if i.e.ac = 2 then hd3 i.e ++ lowL i.v.enc.length 4 ++ i.v.enc else []
def sav (its : List Im) : List UInt8 := its.flatMap svI
theorem svI_len (i : Im) : (svI i).length ≤ 65543 := by
  unfold svI
  split
  · rw [List.length_append, List.length_append, hd3_len, lowL_length]; have := enc_len i.v; omega
  · simp
theorem sav_len (its : List Im) : (sav its).length ≤ its.length * 65543 := by
  induction its with
  | nil => simp [sav]
  | cons i r ih =>
    have : sav (i :: r) = svI i ++ sav r := by simp [sav]
    rw [this, List.length_append, List.length_cons, Nat.succ_mul]
    have := svI_len i
    omega
theorem sav_take (its : List Im) (k : Nat) : (sav (its.take k)).length ≤ its.length * 65543 := by
  refine Nat.le_trans (sav_len _) (Nat.mul_le_mul_right _ ?_)
  rw [List.length_take]; omega
theorem sav_step (its : List Im) (k : Nat) (hk : k < its.length) : sav (its.take (k + 1)) = sav (its.take k) ++ svI its[k] := by
  rw [sav, sav, List.take_succ_eq_append_getElem hk, List.flatMap_append, List.flatMap_cons, List.flatMap_nil, List.append_nil]
theorem load_u16 (x : World) (D k : Nat) (z : Int) (hc : x.cell? ⟨D, k, none⟩ = some (.int .u16 z)) : (loadVar 45 ⟨D, k, none⟩).run Try.prog x = .ok (.int .u16 z) x := by
  simp [go_sem, run_underlying Try.underlying45, hc]
theorem load_u8 (x : World) (D k : Nat) (z : Int) (hc : x.cell? ⟨D, k, none⟩ = some (.int .u8 z)) : (loadVar 5 ⟨D, k, none⟩).run Try.prog x = .ok (.int .u8 z) x := by
  simp [go_sem, run_underlying Try.underlying5, hc]
theorem wp_bs3 {o : Oper} {a : Act} {w : World} {K : Act → World → Prop} {Q : Exit → Act → World → Prop} (x y z : Operand) (ho : o.op = .buildSlice 24 3 #[(0, x), (1, y), (2, z)]) (p q r : Int) (hx : a.eval x = .int .u8 p) (hy : a.eval y = .int .u8 q) (hz : a.eval z = .int .u8 r)
    (h : K (a.put o.dst (.slice (some ⟨w.heap.size, 0, none⟩) 3 3)) (w.alloc (.cells #[.int .u8 p, .int .u8 q, .int .u8 r] 5))) : o.wp Try.prog a w K Q := by
  obtain ⟨i0, hi0, hz0, hz1, hz2⟩ := info_parts info5
  unfold Oper.wp execOp
  simp only [ho, List.map_toArray, List.map_cons, List.map_nil, hx, hy, hz]
  simp [Instr.buildSlice, go_sem, run_underlying Try.underlying24, zeroValue, sizeOf, typeInfo, hi0, hz0, hz1, Instr.fill]
  exact h
theorem wp_append_bytes {w : World} {o : Oper} {a : Act} {K : Act → World → Prop} {Q : Exit → Act → World → Prop} (s x : Operand)
    (ho : o.op = .call { callee := .builtin .append, args := #[s, x], argTypes := #[24, 24] })
    (base : Nat) (v : Value) (xs : List UInt8) (hs : a.eval s = v) (hown : w.ownsRow base 5 1 v xs.length (Lib.byteCells xs))
    (vx : Value) (l : List UInt8) (hx : a.eval x = vx) (hB : Bytes w vx l) (hbytes : xs.length + l.length ≤ 140737488355328) (hbase : base ≤ w.heap.size)
    (h : ∀ v' w', w'.ownsRow base 5 1 v' (xs ++ l).length (Lib.byteCells (xs ++ l)) → w.grownBy w' v.ownBlock → (∀ k, k < w.heap.size → v'.ownBlock = some k → v.ownBlock = some k) → K (a.put o.dst v') w') : o.wp Try.prog a w K Q := by
  obtain ⟨i0, hi, hz0, hz1, hz2⟩ := info_parts info5
  obtain ⟨ao, cap, rfl, h0, hc⟩ := hB
  cases ao with
  | none =>
    obtain ⟨rfl, rfl⟩ := h0 rfl
    have hrun := run_append_owned_none (P := Try.prog) (w := w) base 24 o.type 5 i0 1 Try.underlying24 hi v xs.length (Lib.byteCells xs) hown
    unfold Oper.wp
    simp only [List.length_nil] at hx
    simp [execOp, ho, resolve, invoke, builtin, hs, hx, hrun, Result.andThen]
    refine h _ _ ?_ (grown_refl _ _) (fun _ _ e => e)
    simpa using hown
  | some ad =>
    refine wp_append_own2 w s x 24 ho base 5 i0 (.int .u8 0) 1 1 Try.underlying24 hi hz0 hz1 hz2 rfl (by decide) v xs.length (Lib.byteCells xs) hs hown ad l.length cap (Lib.byteCells l) hx (by simp [Lib.byteCells_length]) ?_ (byteCells_one l) (by unfold maxLen; omega) (by omega) hbase ?_
    · intro j u hj
      have hlt : j < l.length := by
        have := (List.getElem?_eq_some_iff.1 hj).1
        rwa [Lib.byteCells_length] at this
      obtain ⟨b, off, ha, _, hcell⟩ := hc j hlt
      simp at ha
      subst ha
      rw [add_off, hcell]
      simp [Lib.byteCells, hlt] at hj
      rw [hj]
    · intro v' w' h1 h2 h5
      refine h v' w' ?_ h2 h5
      rw [List.length_append, Lib.byteCells_append]
      exact h1
theorem bytes3 (w : World) (e : En) : Bytes (w.alloc (.cells #[.int .u8 ((e.ix : Int) % 256), .int .u8 ((e.ix : Int) / 256), .int .u8 (e.sb : Int)] 5)) (.slice (some ⟨w.heap.size, 0, none⟩) 3 3) (hd3 e) := by
  refine ⟨some ⟨w.heap.size, 0, none⟩, 3, rfl, (fun h => by cases h), fun k hk => ⟨w.heap.size, 0, rfl, by rw [size_alloc]; omega, ?_⟩⟩
  rw [Lib.cell_of_heap (heap_alloc_new w _)]
  have h1 := e.hix
  have h2 := e.hsb
  rw [hd3_len] at hk
  match k, hk with
  | 0, _ => simp [hd3, ofNat_toNat]
  | 1, _ => simp [hd3, ofNat_toNat]; omega
  | 2, _ => simp [hd3, ofNat_toNat]; omega
theorem own_drew {w : World} {B : Nat} {e : TypeId} {c n : Nat} {v : Value} {xs : List Value} (h : w.ownsRow B e c v n xs) : w.drew.ownsRow B e c v n xs := h
theorem own_nil (w : World) (B : Nat) : w.ownsRow B 5 1 (.slice none 0 0) ([] : List UInt8).length (Lib.byteCells []) := ⟨rfl, .inl ⟨rfl, rfl⟩⟩
theorem own_below5 {w x : World} {B : Nat} {e : TypeId} {c n : Nat} {v : Value} {xs : List Value} (h : w.ownsRow B e c v n xs) (hb : Below w.heap.size w x) : x.ownsRow B e c v n xs := by
  refine ⟨h.1, h.2.imp id ?_⟩
  rintro ⟨g, cap, cur, e1, e2, e3, e4⟩
  exact ⟨g, cap, cur, e1, e2, (hb.block g (Array.getElem?_eq_some_iff.1 e3).1).trans e3, e4⟩
theorem own_block_lt {w : World} {B : Nat} {e : TypeId} {c n : Nat} {v : Value} {xs : List Value} (h : w.ownsRow B e c v n xs) : ∀ b, v.ownBlock = some b → b < w.heap.size := by
  intro b hb
  rcases h.2 with ⟨rfl, _⟩ | ⟨g, cap, cur, rfl, _, hg, _⟩
  · cases hb
  · cases hb; exact (Array.getElem?_eq_some_iff.1 hg).1
theorem wrap8 (z : Int) : IntKind.u8.wrap z = z % 256 := by simp [IntKind.wrap, IntKind.bits, IntKind.signed]
theorem bytes_lt {w : World} {v : Value} {l : List UInt8} (h : Bytes w v l) (hl : l ≠ []) : ∀ b, v.ownBlock = some b → b < w.heap.size := by
  obtain ⟨ao, cap, rfl, h0, hc⟩ := h
  intro b hb
  obtain ⟨b', off, ha, hlt, _⟩ := hc 0 (List.length_pos_iff.2 hl)
  subst ha
  cases hb; exact hlt
theorem bytes_keep {w x : World} {v s : Value} {l : List UInt8} (h : Bytes w v l) (hne : l ≠ [] → ∀ b, v.ownBlock = some b → s.ownBlock ≠ some b) (G : w.grownBy x s.ownBlock) : Bytes x v l := by
  by_cases hl : l = []
  · subst hl
    obtain ⟨ao, cap, rfl, h0, hc⟩ := h
    exact ⟨ao, cap, rfl, h0, fun k hk => by simp at hk⟩
  · exact bytes_same h G.size (fun b hb hlt => G.block b hlt (fun e => hne hl b hb e.symm))
theorem ne_keep {w : World} {v s s' : Value} {l : List UInt8} (h : Bytes w v l) (hne : l ≠ [] → ∀ b, v.ownBlock = some b → s.ownBlock ≠ some b) (H : ∀ k, k < w.heap.size → s'.ownBlock = some k → s.ownBlock = some k) : l ≠ [] → ∀ b, v.ownBlock = some b → s'.ownBlock ≠ some b :=
  fun hl b hb e => hne hl b hb (H b (bytes_lt h hl b hb) e)
/-- append of bytes, guarded or not. -/
theorem append_bytes2 {w : World} {ops : Array Oper} {rest : List Oper} {o : Oper} {a : Act} {Q : Exit → Act → World → Prop} (hgd : Region.wanted o (yielded ops a.tmps) = true) (s x : Operand)
    (ho : o.op = .call { callee := .builtin .append, args := #[s, x], argTypes := #[24, 24] })
    (base : Nat) (v : Value) (xs : List UInt8) (hs : a.eval s = v) (hown : w.ownsRow base 5 1 v xs.length (Lib.byteCells xs))
    (vx : Value) (l : List UInt8) (hx : a.eval x = vx) (hB : Bytes w vx l) (hbytes : xs.length + l.length ≤ 140737488355328) (hbase : base ≤ w.heap.size)
    (h : ∀ v' w', w'.ownsRow base 5 1 v' (xs ++ l).length (Lib.byteCells (xs ++ l)) → w.grownBy w' v.ownBlock → (∀ k, k < w.heap.size → v'.ownBlock = some k → v.ownBlock = some k) → wpList Try.prog ops Q rest (a.put o.dst v') w') : wpList Try.prog ops Q (o :: rest) a w :=
  BigFrame.wpList_want hgd fun _ hK => wp_append_bytes s x ho base v xs hs hown vx l hx hB hbytes hbase fun v' w' h1 h2 h3 => hK _ _ (h v' w' h1 h2 h3)
theorem bytes1 (w : World) (c : UInt8) : Bytes (w.alloc (.cells #[.int .u8 c.toNat] 5)) (.slice (some ⟨w.heap.size, 0, none⟩) 1 1) [c] := by
  refine ⟨some ⟨w.heap.size, 0, none⟩, 1, rfl, (fun h => by cases h), fun k hk => ⟨w.heap.size, 0, rfl, by rw [size_alloc]; omega, ?_⟩⟩
  rw [Lib.cell_of_heap (heap_alloc_new w _)]
  match k, hk with
  | 0, _ => simp
end Go.Proofs.Ythalhidebkhclaa
