/- A read in segments: what is got so far lies beside both servers. -/
import Derived.Test.YtahfnknbmikmkaaGreatKbX
import Derived.Test.YtahfnknbmikmkaaGreatZs
import Derived.Test.YtahfnknbmikmkaaGreatKbSzK
namespace Go.Proofs.YtahfnknbmikmkaaGreat
open Go.RowKit Go.Proofs.Ty
set_option linter.unusedVariables false
set_option maxRecDepth 1000000
set_option linter.unusedSimpArgs false
theorem app_w {w : World} {ops : Array Oper} {rest : List Oper} {o : Oper} {a : Act} {Q : Exit → Act → World → Prop} (hgd : Region.wanted o (yielded ops a.tmps) = true) (s x : Operand)
    (ho : o.op = .call { callee := .builtin .append, args := #[s, x], argTypes := #[47, 47] })
    (base : Nat) (v : Value) (xs : List UInt8) (hs : a.eval s = v) (hown : w.ownsRow base 5 1 v xs.length (Lib.byteCells xs))
    (vx : Value) (l : List UInt8) (hx : a.eval x = vx) (hB : Bytes w vx l) (hbytes : xs.length + l.length ≤ 140737488355328) (hbase : base ≤ w.heap.size)
    (h : ∀ v' w', w'.ownsRow base 5 1 v' (xs ++ l).length (Lib.byteCells (xs ++ l)) → w.grownBy w' v.ownBlock → (∀ k, k < w.heap.size → v'.ownBlock = some k → v.ownBlock = some k) → wpList Tryz.prog ops Q rest (a.put o.dst v') w') : wpList Tryz.prog ops Q (o :: rest) a w :=
  BigFrame.wpList_want hgd fun K hK => wp_append_bytes s x ho base v xs hs hown vx l hx hB hbytes hbase (fun v' w' h1 h2 h3 => hK _ _ (h v' w' h1 h2 h3))
section
variable {w x y : World} {p : Pl} {its its' : List Im} {s s' : Ss} {ao ap ao' ap' : Option Addr} {cp cq cp' cq' : Nat}
/-- Blocks of bytes beside both servers are written. -/
theorem Jt.kpU {cs : List Nat} (h : Jt w p its its s s ao cp ap cq x) (hK : Kp cs x y) (hc : ∀ b ∈ cs, w.heap.size ≤ b ∧ p.Y < b ∧ b ∉ blk ao ∧ b ∉ blk ap ∧ ∃ (A : Array Value) (fr : Nat × Nat), x.heap[b]? = some (Obj.cells A 5 fr)) : Jt w p its its s s ao cp ap cq y := by
  obtain ⟨o1, o2, o3, o4⟩ := h.ord
  refine ⟨h.pv.kp hK ?_ (fun b hb hm => (hc b hm).2.2.1 hb), h.dv.kp hK ?_ (fun b hb hm => (hc b hm).2.2.2.1 hb), (hK.block _ (Array.getElem?_eq_some_iff.1 h.prX).1 (fun hm => by have := (hc _ hm).2.1; omega)).trans h.prX, (hK.block _ (Array.getElem?_eq_some_iff.1 h.prY).1 (fun hm => by have := (hc _ hm).2.1; omega)).trans h.prY, hK.below h.below h.below.size (fun b hb => (hc b hb).1), h.base, h.bE, h.bS, h.bT, h.ord, h.farA, h.farB, h.sep⟩
  · intro b hb
    obtain ⟨_, _, _, _, A, fr, hh⟩ := hc b hb
    exact ⟨_, _, _, hh, by decide, by decide, by decide, by decide⟩
  · intro b hb
    obtain ⟨_, _, _, _, A, fr, hh⟩ := hc b hb
    exact ⟨_, _, _, hh, by decide, by decide, by decide, by decide⟩
/-- Both servers, a frame's block, and a row of bytes that is got. -/
structure Lp (w : World) (p : Pl) (z : Nat) (its : List Im) (s : Ss) (ao : Option Addr) (cp : Nat) (ap : Option Addr) (cq : Nat) (gv : Value) (G : List UInt8) (x : World) : Prop where
  jt : Jt w p its its s s ao cp ap cq x
  q : ∃ f, Qb z f x
  zY : p.Y < z
  zw : w.heap.size ≤ z
  own : x.ownsRow (z + 1) 5 1 gv G.length (Lib.byteCells G)
  zA : ∀ b ∈ blk ao, b ≠ z
  zB : ∀ b ∈ blk ap, b ≠ z
  gA : ∀ g, gv.ownBlock = some g → g ∉ blk ao
  gB : ∀ g, gv.ownBlock = some g → g ∉ blk ap
variable {z : Nat} {gv gv' : Value} {G G' : List UInt8}
theorem Lp.next (h : Lp w p z its s ao cp ap cq gv G x) (hb : Below x.heap.size x y) : Lp w p z its s ao cp ap cq gv G y := by
  obtain ⟨f, hf⟩ := h.q
  exact ⟨h.jt.next hb, ⟨f, hf.below hb⟩, h.zY, h.zw, own_below5 h.own hb, h.zA, h.zB, h.gA, h.gB⟩
theorem Lp.glt (h : Lp w p z its s ao cp ap cq gv G x) {g : Nat} (hg : gv.ownBlock = some g) : g < x.heap.size := by
  obtain ⟨cur, hc⟩ := own_ty h.own g hg
  exact (Array.getElem?_eq_some_iff.1 hc).1
theorem Lp.hand (h : Lp w p z its s ao cp ap cq gv G x) (hn : s.dn ≠ 1) (hJ : Jt w p its' its' s' s' ao' cp' ap' cq' y) (hK : Kp (hch p its s ao) x y) (h1 : ∀ b ∈ blk ao', b ∈ blk ao ∨ x.heap.size ≤ b) (h2 : ∀ b ∈ blk ap', b ∈ blk ap ∨ x.heap.size ≤ b) : Lp w p z its' s' ao' cp' ap' cq' gv G y := by
  obtain ⟨f, hf⟩ := h.q
  obtain ⟨o1, o2, o3, o4⟩ := h.jt.ord
  have hwl : wl s ao = [] := by unfold wl; rw [if_neg hn]
  have hno : ∀ b, p.Y < b → b ∉ hch p its s ao := fun b hb hm => by
    unfold hch at hm
    rw [hwl] at hm
    simp at hm
    rcases hm with h4 | h4 | h4 | ⟨i, h4, h5⟩
    · omega
    · omega
    · omega
    · have := h.jt.pv.near i.b (List.mem_map.2 ⟨i, h4, rfl⟩); omega
  have hzl := hf.lt
  refine ⟨hJ, ⟨f, (hK.block z hzl (hno z h.zY)).trans hf⟩, h.zY, h.zw, own_same h.own (fun b hb => hK.block b (h.glt hb) (hno b ?_)), ?_, ?_, ?_, ?_⟩
  · have := own_base h.own hb; have := h.zY; omega
  · intro b hb
    rcases h1 b hb with h3 | h3
    · exact h.zA b h3
    · omega
  · intro b hb
    rcases h2 b hb with h3 | h3
    · exact h.zB b h3
    · omega
  · intro g hg hm
    rcases h1 g hm with h3 | h3
    · exact h.gA g hg h3
    · have := h.glt hg; omega
  · intro g hg hm
    rcases h2 g hm with h3 | h3
    · exact h.gB g hg h3
    · have := h.glt hg; omega
theorem Lp.store (h : Lp w p z its s ao cp ap cq gv G x) (f : F8) (hq : Qb z f y) (hK : Kp [z] x y) : Lp w p z its s ao cp ap cq gv G y := by
  obtain ⟨f0, hf⟩ := h.q
  refine ⟨h.jt.frame hf ⟨h.zw, h.zY⟩ h.zA h.zB hK, ⟨f, hq⟩, h.zY, h.zw, own_same h.own (fun b hb => hK.block b (h.glt hb) ?_), h.zA, h.zB, h.gA, h.gB⟩
  have := own_base h.own hb
  simp
  omega
theorem Lp.app (h : Lp w p z its s ao cp ap cq gv G x) (ho : y.ownsRow (z + 1) 5 1 gv' G'.length (Lib.byteCells G')) (hg : x.grownBy y gv.ownBlock) (hb : ∀ k, k < x.heap.size → gv'.ownBlock = some k → gv.ownBlock = some k) : Lp w p z its s ao cp ap cq gv' G' y := by
  obtain ⟨f0, hf⟩ := h.q
  have hK : Kp gv.ownBlock.toList x y := ⟨hg.os, hg.tape, hg.output, hg.size, fun j hj hn => hg.block j hj (fun e => hn (by rw [← e]; simp))⟩
  have hm : ∀ b ∈ gv.ownBlock.toList, gv.ownBlock = some b := fun b hb => by simpa using hb
  have hz : z ∉ gv.ownBlock.toList := fun hzm => by have := own_base h.own (hm z hzm); omega
  refine ⟨h.jt.kpU hK (fun b hb => ?_), ⟨f0, (hK.block z hf.lt hz).trans hf⟩, h.zY, h.zw, ho, h.zA, h.zB, fun g hg hm2 => ?_, fun g hg hm2 => ?_⟩
  · have h1 := own_base h.own (hm b hb)
    have h2 := h.zY
    have h3 := h.zw
    obtain ⟨cur, hc⟩ := own_ty h.own b (hm b hb)
    exact ⟨by omega, by omega, h.gA b (hm b hb), h.gB b (hm b hb), cur, _, hc⟩
  · by_cases hl : g < x.heap.size
    · exact h.gA g (hb g hl hg) hm2
    · have := h.jt.pv.lt g hm2; omega
  · by_cases hl : g < x.heap.size
    · exact h.gB g (hb g hl hg) hm2
    · have := h.jt.dv.lt g hm2; omega
theorem Lp.setK (h : Lp w p z its s ao cp ap cq gv G x) (hJ : Jt w p its' its' s s ao cp ap cq y) (hK : Kp (p.E :: its.map Im.b) x y) : Lp w p z its' s ao cp ap cq gv G y := by
  obtain ⟨f, hf⟩ := h.q
  obtain ⟨o1, o2, o3, o4⟩ := h.jt.ord
  have hno : ∀ b, p.Y < b → b ∉ p.E :: its.map Im.b := fun b hb hm => by
    simp at hm
    rcases hm with h4 | ⟨i, h4, h5⟩
    · omega
    · have := h.jt.pv.near i.b (List.mem_map.2 ⟨i, h4, rfl⟩); omega
  refine ⟨hJ, ⟨f, (hK.block z hf.lt (hno z h.zY)).trans hf⟩, h.zY, h.zw, own_same h.own (fun b hb => hK.block b (h.glt hb) (hno b ?_)), h.zA, h.zB, h.gA, h.gB⟩
  have := own_base h.own hb; have := h.zY; omega
theorem Lp.start (hJ : Jt w p its its s s ao cp ap cq x) {f : F8} (hq : Qb z f x) (hz : p.Y < z) (hw : w.heap.size ≤ z) (hA : ∀ b ∈ blk ao, b ≠ z) (hB : ∀ b ∈ blk ap, b ≠ z) (hy : x.alloc (.cells #[] 5) = y) : Lp w p z its s ao cp ap cq (.slice (some ⟨x.heap.size, 0, none⟩) 0 0) [] y := by
  subst hy
  have bA : Below x.heap.size x (x.alloc (.cells #[] 5)) := (Below.refl _ _).alloc (Nat.le_refl _) _
  have hlt := hq.lt
  refine ⟨hJ.next bA, ⟨f, hq.below bA⟩, hz, hw, ?_, hA, hB, ?_, ?_⟩
  · refine ⟨rfl, .inr ⟨x.heap.size, 0, #[], rfl, by omega, heap_alloc_new x _, Nat.le_refl _, by decide, rfl, rfl⟩⟩
  · intro g hg hm
    simp [Value.ownBlock] at hg
    have := hJ.pv.lt g hm
    omega
  · intro g hg hm
    simp [Value.ownBlock] at hg
    have := hJ.dv.lt g hm
    omega
end
theorem sett_one (b : Nat) (s : ByteArray) (h : s.size ≤ maxLen) (v u : Vl) : ∃ v', sett (one b s h v) 12288 0 u = one b s h v' := by
  unfold sett
  rw [one_fnd]
  simp only
  split
  · exact ⟨u.plain, by simp [setV, one]⟩
  · exact ⟨v, rfl⟩
end Go.Proofs.YtahfnknbmikmkaaGreat
