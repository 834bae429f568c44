/- Contracts of a node's calls: take. Contracts of a bus' calls: at, Power, Submit, Fetch, Time. Contracts: idle, dropOff. Contracts: settle. -/
import Derived.Test.YtlghjfomliappaaTa8
import Derived.Deep.RegionHeld3
import Derived.Deep.RegionLaw
import Derived.Deep.AppendLies
namespace Go.Proofs.Ytlghjfomliappaa
open Go.RowKit Go.Proofs.Bits
set_option linter.unusedVariables false
set_option maxRecDepth 1000000

def tk (got : List Fr) (f : Fr) : List Fr := if got.length < 64 then got ++ [f] else got
theorem run_bs_frame (f : Fr) (w : World) : (Instr.buildSlice 42 1 #[(0, .agg f.arr)]).run Try.prog w = .ok (.slice (some ⟨w.heap.size, 0, none⟩) 1 1) (w.alloc (.cells f.arr 38)) := by
  obtain ⟨i0, hi, hz0, hz1, hz2⟩ := info_parts infoFZ
  refine run_buildSlice w 42 38 1 _ f.arr i0 _ Try.underlying42 hi hz0 (by rw [hz1]; decide) (by rw [hz1]; decide) ?_
  rw [hz1]
  have hsz : (Value.agg f.arr).cells.size = 12 := f.arr_size
  have := Go.Great.fill_whole (by decide : 0 < 12) [Value.agg f.arr] ((Array.range (1 * 12)).map ((Value.agg Fr.nul.arr).cells[· % (Value.agg Fr.nul.arr).cells.size]!)) (by intro v hv; simp at hv; subst hv; exact hsz) (by simp)
  simpa [Value.cells] using this
theorem arr_letters (f : Fr) : ∃ a0 a1 a2 a3 a4 a5 a6 a7 a8 a9 a10 a11 : Value, f.arr = #[a0, a1, a2, a3, a4, a5, a6, a7, a8, a9, a10, a11] := by
  obtain ⟨i, x, r, n, d0, d1, d2, d3, d4, d5, d6, d7, e⟩ := arr_full f
  exact ⟨_, _, _, _, _, _, _, _, _, _, _, _, e⟩
section
variable {b nb : Nat} {ρ : Nat → Ro} {t : Int} {l : List Nd} {G : Nat → Nat} {V : Nat → Value} {w : World}
/-- Behind the append and the store: the node has one frame more. -/
theorem BusM.more (h : BusM b nb ρ t l G V w) {i : Nat} (hi : i < l.length) (f : Fr) {w1 : World} {g cap : Nat} (hgrow : w.grownBy w1 (V i).ownBlock) (hown : w1.ownsRow 0 38 12 (.slice (some ⟨g, 0, none⟩) (l[i].got.length + 1) cap) (l[i].got.length + 1) (flatW DF l[i].got ++ f.cells)) (hat : (V i).ownBlock = some g ∨ g = w.heap.size) (hlt : g < w1.heap.size) :
    ∃ ρ', BusAt b nb ρ' t (l.set i { l[i] with got := l[i].got ++ [f] }) (w1.setCell ⟨nb, i * 16 + 15, none⟩ (.slice (some ⟨g, 0, none⟩) (l[i].got.length + 1) cap)) ∧ Ext ρ ρ' w (w1.setCell ⟨nb, i * 16 + 15, none⟩ (.slice (some ⟨g, 0, none⟩) (l[i].got.length + 1) cap)) := by
  have kn : w1.heap[nb]? = w.heap[nb]? := hgrow.block nb h.lt_n (fun e => h.n_g hi e.symm)
  have gn : g ≠ nb := by
    rcases hat with e | e
    · intro x; subst x; exact h.n_g hi e
    · have := h.lt_n; omega
  obtain ⟨c0, c1, c2, c3, c4⟩ := range_node.1 (range_kept (h.hn i hi) kn)
  have out : ∀ q, q ≠ i * 16 + 15 → (w1.setCell ⟨nb, i * 16 + 15, none⟩ (.slice (some ⟨g, 0, none⟩) (l[i].got.length + 1) cap)).cell? ⟨nb, q, none⟩ = w1.cell? ⟨nb, q, none⟩ := fun q hq => World.cell?_setCell_other _ _ _ _ (by intro e; injection e with _ e2; exact hq e2.symm)
  have hsz : (w1.setCell ⟨nb, i * 16 + 15, none⟩ (.slice (some ⟨g, 0, none⟩) (l[i].got.length + 1) cap)).heap.size = w1.heap.size := by simp [World.setCell]
  have hblk : ∀ k, k < w.heap.size → k ≠ nb → (V i).ownBlock ≠ some k → (w1.setCell ⟨nb, i * 16 + 15, none⟩ (.slice (some ⟨g, 0, none⟩) (l[i].got.length + 1) cap)).heap[k]? = w.heap[k]? := fun k hk h1 h2 => (Below.heap_setCell w1 ⟨nb, i * 16 + 15, none⟩ _ k h1).trans (hgrow.block k hk (fun e => h2 e.symm))
  refine ⟨fun k => if k = g then .got i else ρ k, ⟨G, _, h.upd hi { l[i] with got := l[i].got ++ [f] } (.slice (some ⟨g, 0, none⟩) (l[i].got.length + 1) cap) _ _ (by rw [hsz]; exact hgrow.size) (fun k hk h1 _ h2 => hblk k hk h1 h2) (fun o ho => ?_) (there_setCell (there_kept h.ht kn) _ _) (range_node.2 ⟨?_, ?_, ?_, ?_, ?_⟩) ?_ ?_ (fun k hk => ?_) (fun k hk => ?_) (fun k hk => ?_)⟩, hgrow.os, hgrow.tape, hgrow.output, by rw [hsz]; exact hgrow.size, fun k hk hr => ?_, fun k hk => ?_⟩
  · rw [out o (by omega)]; exact World.cell?_of_block (a := ⟨nb, o, none⟩) kn
  · rw [out _ (by omega)]; exact c0
  · rw [out _ (by omega)]; exact c1
  · intro j u hj
    have hjl : j < 12 := by have := (List.getElem?_eq_some_iff.1 hj).1; rw [frc_len] at this; exact this
    rw [out _ (by omega)]; exact c2 j u hj
  · rw [out _ (by omega)]; exact c3
  · exact World.cell?_setCell_same _ _ _ c4
  · exact (hblk _ (h.lt_u hi) (h.n_u hi).symm (h.u_g hi hi)).trans (h.hu i hi)
  · have e : flatW DF (l[i].got ++ [f]) = flatW DF l[i].got ++ f.cells := by rw [flatW_append]; simp [flatW, DF]
    simp only [List.length_append, List.length_cons, List.length_nil, Nat.zero_add]
    rw [e]
    exact own_at hown fun g' hg' => by cases hg'; exact Below.heap_setCell w1 ⟨nb, i * 16 + 15, none⟩ _ g gn
  · by_cases e : k = g
    · subst e
      rcases hat with e | e
      · simp only [if_true]; exact (h.rg i hi k e).symm
      · omega
    · rw [if_neg e]
  · cases hk; simp
  · rw [hsz] at hk
    rw [if_neg (by omega)]
    exact h.rz k (Nat.le_trans hgrow.size hk)
  · exact hblk k hk (fun e => by rw [e, h.rn] at hr; cases hr) (fun e => by rw [h.rg i hi k e] at hr; cases hr)
  · by_cases e : k = g
    · subst e
      rcases hat with e | e
      · simp only [if_true]; exact (h.rg i hi k e).symm
      · omega
    · simp only [if_neg e]
set_option maxHeartbeats 3200000 in
theorem take_any4 (h : BusM b nb ρ t l G V w) {i : Nat} (hi : i < l.length) (f : Fr) (h64 : l[i].got.length ≤ 64) :
    Calls Try.prog 59 #[.pointer (some ⟨nb, i * 16, none⟩), f.val] w fun e w' => e = .returned (.tuple #[]) ∧ ∃ ρ', BusAt b nb ρ' t (l.set i { l[i] with got := tk l[i].got f }) w' ∧ Ext ρ ρ' w w' := by
  have b1 : Below w.heap.size w (w.alloc (.cells f.arr 38)) := (Below.refl _ _).alloc (Nat.le_refl _) _
  have h1 := h.below b1
  obtain ⟨c0, c1, c2, c3, c4⟩ := range_node.1 (h1.hn i hi)
  have hown := h1.hg i hi
  obtain ⟨ao, cp, hv⟩ := own_shape hown
  unfold Fr.val
  by_cases hlt : l[i].got.length < 64
  · have HT : Hid (tk l[i].got f = l[i].got ++ [f]) := by show _ = _; unfold tk; rw [if_pos hlt]
    rw [HT.out]
    obtain ⟨i0, hi0, hz0, hz1, hz2⟩ := info_parts infoFZ
    have hbs := run_bs_frame f
    have hu := Try.underlying38
    have hl12 : f.cells.length = 12 := frc_len f
    have hin : (Try.prog.info? 38).map (·.size) = some f.cells.length := by rw [hl12]; exact infoF
    have hone : ∀ v ∈ f.cells, v.oneCell' = true := DF.one f
    have rf : (w.alloc (.cells f.arr 38)).rangeAt w.heap.size 0 f.cells := by
      intro j v hj
      rw [Lib.cell_of_heap (heap_alloc_new w _), Nat.zero_add]
      simpa [Fr.arr] using hj
    have ff : (w.alloc (.cells f.arr 38)).frozen? ⟨nb, i * 16 + 15, none⟩ = false := by
      have := (h1.ht (i * 16 + 15) (by omega)).2
      rw [Nat.zero_add] at this; exact this
    have ag := h1.n_g hi
    have hln := h.lt_n
    have hog : (V i).ownBlock ≠ some w.heap.size := fun e => by
      have := (own_block_lt (h.hg i hi) e).2.1; omega
    have HV : Hid (V i = .slice ao l[i].got.length cp) := hv
    rw [hv] at c4 hown ag hog
    have HI : Hid (i < l.length) := hi
    have hl64 : (l[i].got.length : Int) < 64 := by omega
    generalize hgo : l[i].got = got at *
    have HG : Hid (l[i].got = got) := hgo
    obtain ⟨a0, a1, a2, a3, a4, a5, a6, a7, a8, a9, a10, a11, ha⟩ := arr_letters f
    have HNews : Hid (∀ j u, f.cells[j]? = some u → (((w.alloc (.cells f.arr 38)).alloc (.cells #[a0, a1, a2, a3, a4, a5, a6, a7, a8, a9, a10, a11] 38)).drew).cell? ((⟨w.heap.size + 1, 0, none⟩ : Addr).add j) = some u) := by
      show ∀ j u, _ → _
      rw [← ha]
      have h9 := heap_alloc_new (w.alloc (.cells f.arr 38)) (.cells f.arr 38)
      rw [size_alloc] at h9
      intro j u hj
      have := Lib.cell_of_heap h9 j
      rw [add_off, Nat.zero_add]
      exact this.trans (by simpa [Fr.arr] using hj)
    have HFz : Hid ((((w.alloc (.cells f.arr 38)).alloc (.cells #[a0, a1, a2, a3, a4, a5, a6, a7, a8, a9, a10, a11] 38)).drew).frozen? ⟨nb, i * 16 + 15, none⟩ = false) := by
      show _ = _
      have hl2 := h1.lt_n
      exact (World.frozen?_of_block (a := ⟨nb, i * 16 + 15, none⟩) (Below.heap_alloc (w.alloc (.cells f.arr 38)) (.cells #[a0, a1, a2, a3, a4, a5, a6, a7, a8, a9, a10, a11] 38) nb hl2)).trans ff
    have H2 : Hid (BusM b nb ρ t l G V ((w.alloc (.cells f.arr 38)).alloc (.cells #[a0, a1, a2, a3, a4, a5, a6, a7, a8, a9, a10, a11] 38)).drew) := h1.below (below_drawn ((Below.refl _ _).alloc (Nat.le_refl _) _) 1)
    have HX : Hid (Ext ρ ρ w ((w.alloc (.cells f.arr 38)).alloc (.cells #[a0, a1, a2, a3, a4, a5, a6, a7, a8, a9, a10, a11] 38)).drew) := Ext.below (below_drawn (((Below.refl _ _).alloc (Nat.le_refl _) _).alloc (by rw [size_alloc]; omega) _) 1)
    have HCz : Hid ((((w.alloc (.cells f.arr 38)).alloc (.cells #[a0, a1, a2, a3, a4, a5, a6, a7, a8, a9, a10, a11] 38)).drew).cell? ⟨nb, i * 16 + 15, none⟩ = some (.slice ao got.length cp)) := by
      show _ = _
      have hl2 := h1.lt_n
      exact (World.cell?_of_block (a := ⟨nb, i * 16 + 15, none⟩) (Below.heap_alloc (w.alloc (.cells f.arr 38)) (.cells #[a0, a1, a2, a3, a4, a5, a6, a7, a8, a9, a10, a11] 38) nb hl2)).trans c4
    have cells12 : ∀ k v, f.arr[k]? = some v → (w.alloc (.cells f.arr 38)).cell? ⟨w.heap.size, k, none⟩ = some v := fun k v hk => (Lib.cell_of_heap (heap_alloc_new w _) k).trans hk
    have k0 := cells12 0 a0 (by rw [ha]; rfl)
    have k1 := cells12 1 a1 (by rw [ha]; rfl)
    have k2 := cells12 2 a2 (by rw [ha]; rfl)
    have k3 := cells12 3 a3 (by rw [ha]; rfl)
    have k4 := cells12 4 a4 (by rw [ha]; rfl)
    have k5 := cells12 5 a5 (by rw [ha]; rfl)
    have k6 := cells12 6 a6 (by rw [ha]; rfl)
    have k7 := cells12 7 a7 (by rw [ha]; rfl)
    have k8 := cells12 8 a8 (by rw [ha]; rfl)
    have k9 := cells12 9 a9 (by rw [ha]; rfl)
    have k10 := cells12 10 a10 (by rw [ha]; rfl)
    have k11 := cells12 11 a11 (by rw [ha]; rfl)
    rw [show (Value.agg f.arr) = .agg #[a0, a1, a2, a3, a4, a5, a6, a7, a8, a9, a10, a11] by rw [ha]] at hbs
    clear c0 c1 c2 c3 h1 b1 hv hlt hgo HT rf cells12 hu hin ha
    go_enter Try.func59, Try.ntmps59
    go_wp2_with fail
    go_region_law
      ((refine step_append_lies _ (by rfl) _ _ _ (by rfl) 0 38 i0 _ 12 24 Try.underlying42 hi0 hz0 hz1 hz2 rfl (by omega) (.slice ao got.length cp) got.length (flatW DF got) (by rfl) ((hown.alloc _).drew)
            ⟨w.heap.size + 1, 0, none⟩ 1 1 f.cells (by rfl) (by rw [hl12]) HNews.out hone
            (by omega) (by unfold maxLen; omega) (by omega) (by omega) (w.heap.size + 2) (by simp) ?_; intro gg cap w1 hown1 hgrow hat hlt; have hfz : w1.frozen? ⟨nb, i * 16 + 15, none⟩ = false := (hgrow.frozen_far _ (by simp; omega) (Ne.symm ag)).trans HFz.out; have hcz : w1.cell? ⟨nb, i * 16 + 15, none⟩ = some (.slice ao got.length cp) := (hgrow.cell_far _ (by simp; omega) (Ne.symm ag)).trans HCz.out))
    all_goals
      go_end0
      have hgo := HG.out
      subst hgo
      rw [← HV.out] at hgrow hat
      obtain ⟨ρ', r1, r2⟩ := H2.out.more HI.out f hgrow hown1 (by simpa using hat) hlt
      exact ⟨rfl, ρ', r1, HX.out.trans r2⟩
  · have HT : Hid (tk l[i].got f = l[i].got) := by show _ = _; unfold tk; rw [if_neg hlt]
    have HE : Hid (l.set i { l[i] with got := tk l[i].got f } = l) := by show _ = _; rw [HT.out]; exact List.set_getElem_self hi
    have e64 : l[i].got.length = 64 := by omega
    rw [hv, e64] at c4
    rw [HE.out]
    have hR : Hid (∃ ρ', BusAt b nb ρ' t l (w.alloc (.cells f.arr 38)) ∧ Ext ρ ρ' w (w.alloc (.cells f.arr 38))) := ⟨ρ, ⟨G, V, h1⟩, Ext.below b1⟩
    clear h1 hown HE HT h64 hlt
    go_enter Try.func59, Try.ntmps59
    go_wp2
    go_end0
    exact ⟨rfl, hR.out⟩
end
end Go.Proofs.Ytlghjfomliappaa
namespace Go.Proofs.Ytlghjfomliappaa
open Go.RowKit Go.Proofs.Bits
set_option linter.unusedVariables false
set_option maxRecDepth 1000000

section
variable {b nb : Nat} {ρ : Nat → Ro} {t : Int} {l : List Nd} {G : Nat → Nat} {V : Nat → Value} {w : World}
theorem BusM.cells (h : BusM b nb ρ t l G V w) : w.cell? ⟨b, 0, none⟩ = some (.slice (some ⟨nb, 0, none⟩) l.length l.length) ∧ w.cell? ⟨b, 1, none⟩ = some (.int .u64 t) ∧ ∀ k, w.frozen? ⟨b, k, none⟩ = false :=
  ⟨Lib.cell_of_heap h.hb 0, Lib.cell_of_heap h.hb 1, fun k => Lib.frozen_of_heap h.hb k⟩
theorem at_no (h : BusM b nb ρ t l G V w) (hl : l.length ≤ 127) {i : Int} (hi : i < 0 ∨ (l.length : Int) ≤ i) :
    Calls Try.prog 29 #[.pointer (some ⟨b, 0, none⟩), .int .i64 i] w fun e w' => e = .returned (.pointer none) ∧ w' = w := by
  obtain ⟨c0, c1, hf⟩ := h.cells
  clear h
  by_cases h0 : i < 0
  · have d0 : decide (i < 0) = true := by simpa using h0
    go_enter Try.func29, Try.ntmps29
    go_wp2
    go_ret
    exact ⟨rfl, rfl⟩
  · have d0 : decide (i < 0) = false := by simpa using h0
    have d1 : decide ((l.length : Int) ≤ i) = true := by simp; omega
    go_enter Try.func29, Try.ntmps29
    go_wp2
    go_ret
    exact ⟨rfl, rfl⟩
theorem at_yes (h : BusM b nb ρ t l G V w) (hl : l.length ≤ 127) {k : Nat} (hk : k < l.length) :
    Calls Try.prog 29 #[.pointer (some ⟨b, 0, none⟩), .int .i64 k] w fun e w' => e = .returned (.pointer (some ⟨nb, k * 16, none⟩)) ∧ w' = w := by
  obtain ⟨c0, c1, hf⟩ := h.cells
  clear h
  have d1 : decide ((l.length : Int) ≤ k) = false := by simp; omega
  go_enter Try.func29, Try.ntmps29
  go_wp2
  go_ret
  exact ⟨rfl, rfl⟩
def powL (l : List Nd) (k : Nat) (on : Bool) : List Nd := if (l.getD k Nd.nul).pw = on then l else l.set k { Nd.nul with pw := on }
theorem Power_no (h : BusM b nb ρ t l G V w) (hl : l.length ≤ 127) {i : Int} (on : Bool) (hi : i < 0 ∨ (l.length : Int) ≤ i) :
    Calls Try.prog 13 #[.pointer (some ⟨b, 0, none⟩), .int .i64 i, .bool on] w fun e w' => e = .returned (.int .i64 1) ∧ w' = w := by
  have HA := at_no h hl hi
  clear h hi
  go_enter Try.func13, Try.ntmps13
  go_wp2_with fail
  refine HA.mono ?_
  rintro e w' ⟨rfl, rfl⟩
  go_wp2
  go_ret
  exact ⟨rfl, rfl⟩
theorem Power_any (h : BusAt b nb ρ t l w) (hl : l.length ≤ 127) {k : Nat} (on : Bool) (hk : k < l.length) :
    Calls Try.prog 13 #[.pointer (some ⟨b, 0, none⟩), .int .i64 k, .bool on] w fun e w' => e = .returned (.int .i64 0) ∧ BusAt b nb ρ t (powL l k on) w' ∧ Ext ρ ρ w w' := by
  obtain ⟨G, V, h⟩ := h
  have HA := at_yes h hl hk
  have HT := turn_any h hk on
  obtain ⟨c0, c1, c2, c3, c4⟩ := range_node.1 (h.hn k hk)
  have HP : Hid (powL l k on = if l[k].pw = on then l else l.set k { Nd.nul with pw := on }) := by show _ = _; unfold powL; simp [hk]
  have HR : Hid (BusAt b nb ρ t l w ∧ Ext ρ ρ w w) := ⟨⟨G, V, h⟩, Ext.refl _ _⟩
  clear h
  generalize powL l k on = L at *
  generalize l[k].pw = pw at *
  cases pw <;> cases on
  · have HQ : Hid (L = l) := HP.out
    clear HP HT
    go_enter Try.func13, Try.ntmps13
    go_wp2_with fail
    refine HA.mono ?_
    rintro e w' ⟨rfl, rfl⟩
    go_wp2
    go_ret
    exact ⟨rfl, by rw [HQ.out]; exact HR.out⟩
  · have HQ : Hid (L = l.set k { Nd.nul with pw := true }) := HP.out
    clear HP HR
    go_enter Try.func13, Try.ntmps13
    go_wp2_with fail
    refine HA.mono ?_
    rintro e w' ⟨rfl, rfl⟩
    go_wp2_with fail
    refine HT.mono ?_
    rintro e w1 ⟨rfl, r1⟩
    go_wp2
    go_ret
    exact ⟨rfl, by rw [HQ.out]; exact r1⟩
  · have HQ : Hid (L = l.set k { Nd.nul with pw := false }) := HP.out
    clear HP HR
    go_enter Try.func13, Try.ntmps13
    go_wp2_with fail
    refine HA.mono ?_
    rintro e w' ⟨rfl, rfl⟩
    go_wp2_with fail
    refine HT.mono ?_
    rintro e w1 ⟨rfl, r1⟩
    go_wp2
    go_ret
    exact ⟨rfl, by rw [HQ.out]; exact r1⟩
  · have HQ : Hid (L = l) := HP.out
    clear HP HT
    go_enter Try.func13, Try.ntmps13
    go_wp2_with fail
    refine HA.mono ?_
    rintro e w' ⟨rfl, rfl⟩
    go_wp2
    go_ret
    exact ⟨rfl, by rw [HQ.out]; exact HR.out⟩
def subE (l : List Nd) (k : Nat) (f : Fr) : Int := if f.chk = 0 then (if (l.getD k Nd.nul).pw && !(l.getD k Nd.nul).u.off then (if (l.getD k Nd.nul).has then 31 else 0) else 30) else f.chk
def subL (l : List Nd) (k : Nat) (f : Fr) : List Nd := if subE l k f = 0 then l.set k { l.getD k Nd.nul with f := f.plain, has := true } else l
set_option maxHeartbeats 1000000 in
theorem Submit_any (h : BusAt b nb ρ t l w) (hl : l.length ≤ 127) {k : Nat} (hk : k < l.length) (f : Fr) :
    Calls Try.prog 14 #[.pointer (some ⟨b, 0, none⟩), .int .i64 k, f.val] w fun e w' => e = .returned (.int .i64 (subE l k f)) ∧ BusAt b nb ρ t (subL l k f) w' ∧ Ext ρ ρ w w' := by
  obtain ⟨G, V, h⟩ := h
  have b1 : Below w.heap.size w (w.alloc (.cells f.arr 38)) := (Below.refl _ _).alloc (Nat.le_refl _) _
  have h1 := h.below b1
  have HA := at_yes h1 hl hk
  have fn := Fa.new w f
  have HC := fCheck_any f (w.alloc (.cells f.arr 38))
  have hget : l.getD k Nd.nul = l[k] := by simp [hk]
  have HE : Hid (subE l k f = if f.chk = 0 then (if l[k].pw && !l[k].u.off then (if l[k].has then 31 else 0) else 30) else f.chk) := by show _ = _; unfold subE; rw [hget]
  have HL : Hid (subL l k f = if subE l k f = 0 then l.set k { l[k] with f := f.plain, has := true } else l) := by show _ = _; unfold subL; rw [hget]
  generalize subE l k f = E at *
  generalize subL l k f = L at *
  clear hget
  unfold Fr.val at HC
  rcases chk_cases f with hz | hz
  · rw [hz] at HC
    rw [if_pos hz] at HE
    generalize htp : (l[k].pw && !l[k].u.off) = tp at *
    cases tp
    · have HE2 : Hid (E = 30) := HE.out
      have HL2 : Hid (L = l) := by show _ = _; rw [HL.out, HE2.out]; rfl
      clear HE HL
      unfold Fr.val
      go_enter Try.func14, Try.ntmps14
      go_wp2_with fail
      refine HA.mono ?_
      rintro e w' ⟨rfl, rfl⟩
      go_wp2_with (refine fn.ldw rfl _ rfl rfl ?_)
      refine HC.mono ?_
      rintro e w2 ⟨rfl, b2⟩
      have h2 := h1.below b2
      obtain ⟨c0, c1, c2, c3, c4⟩ := range_node.1 (h2.hn k hk)
      have HT := takesPart_any c0 c1 (h2.hu k hk)
      rw [htp] at HT
      have HR : Hid (∀ n, BusAt b nb ρ t l (w2.drewN n) ∧ Ext ρ ρ w (w2.drewN n)) := fun n => ⟨⟨G, V, h2.below (below_drawn (Below.refl _ _) n)⟩, (Ext.below (b1.trans (b2.mono b1.size))).trans (Ext.drawn n)⟩
      clear HC HA fn h1 h b1 b2 h2
      go_wp2_with fail
      refine HT.mono ?_
      rintro e w3 ⟨rfl, n, rfl⟩
      go_wp2
      go_ret
      exact ⟨ret_int HE2.out.symm, by rw [HL2.out]; exact HR.out n⟩
    · rw [if_pos rfl] at HE
      generalize hha : l[k].has = ha at *
      cases ha
      · have HE2 : Hid (E = 0) := HE.out
        have HL2 : Hid (L = l.set k { l[k] with f := f.plain, has := true }) := by show _ = _; rw [HL.out, if_pos HE2.out]
        clear HE HL
        unfold Fr.val
        go_enter Try.func14, Try.ntmps14
        go_wp2_with fail
        refine HA.mono ?_
        rintro e w' ⟨rfl, rfl⟩
        go_wp2_with (refine fn.ldw rfl _ rfl rfl ?_)
        refine HC.mono ?_
        rintro e w2 ⟨rfl, b2⟩
        have h2 := h1.below b2
        have fn2 : Fa w.heap.size f w2 := (b2.block _ fn.lt).trans fn
        obtain ⟨c0, c1, c2, c3, c4⟩ := range_node.1 (h2.hn k hk)
        have HT := takesPart_any c0 c1 (h2.hu k hk)
        rw [htp] at HT
        clear HC HA fn h1 h
        go_wp2_with fail
        refine HT.mono ?_
        rintro e w3 ⟨rfl, n, rfl⟩
        have h3 := h2.below (below_drawn (Below.refl _ _) n)
        have fn3 : Fa w.heap.size f (w2.drewN n) := fn2
        have HPl := fPlain_any f (w2.drewN n)
        unfold Fr.val at HPl
        obtain ⟨c0, c1, c2, c3, c4⟩ := range_node.1 (h3.hn k hk)
        rw [hha] at c3
        clear HT
        go_wp2_with (refine fn3.ldw rfl _ rfl rfl ?_)
        refine HPl.mono ?_
        rintro e w4 ⟨rfl, b4⟩
        have h4 := h3.below b4
        have HX : Hid (Ext ρ ρ w w4) := ((Ext.below (b1.trans (b2.mono b1.size))).trans (Ext.drawn n)).trans (Ext.below b4)
        have HR := h4.frm hk f.plain true
        obtain ⟨m1, m2⟩ := h4.mark hk f.plain
        have HR2 : Hid (BusAt b nb ρ t (l.set k { l[k] with f := f.plain, has := true }) (FrW w4 nb k f.plain true) ∧ Ext ρ ρ w (FrW w4 nb k f.plain true)) := ⟨HR.1, HX.out.trans HR.2⟩
        clear HPl b4 h3 fn3 fn2 h2 b2 b1 HR
        go_wp2_with (refine h4.stf hk f.plain rfl _ _ rfl rfl rfl ?_)
        go_ret
        exact ⟨ret_int HE2.out.symm, by rw [HL2.out]; exact HR2.out⟩
      · have HE2 : Hid (E = 31) := HE.out
        have HL2 : Hid (L = l) := by show _ = _; rw [HL.out, HE2.out]; rfl
        clear HE HL
        unfold Fr.val
        go_enter Try.func14, Try.ntmps14
        go_wp2_with fail
        refine HA.mono ?_
        rintro e w' ⟨rfl, rfl⟩
        go_wp2_with (refine fn.ldw rfl _ rfl rfl ?_)
        refine HC.mono ?_
        rintro e w2 ⟨rfl, b2⟩
        have h2 := h1.below b2
        obtain ⟨c0, c1, c2, c3, c4⟩ := range_node.1 (h2.hn k hk)
        have HT := takesPart_any c0 c1 (h2.hu k hk)
        rw [htp] at HT
        have HR : Hid (∀ n, BusAt b nb ρ t l (w2.drewN n) ∧ Ext ρ ρ w (w2.drewN n)) := fun n => ⟨⟨G, V, h2.below (below_drawn (Below.refl _ _) n)⟩, (Ext.below (b1.trans (b2.mono b1.size))).trans (Ext.drawn n)⟩
        rw [hha] at c3
        clear HC HA fn h1 h b1 b2
        go_wp2_with fail
        refine HT.mono ?_
        rintro e w3 ⟨rfl, n, rfl⟩
        have h3 := h2.below (below_drawn (Below.refl _ _) n)
        obtain ⟨c0, c1, c2, c3, c4⟩ := range_node.1 (h3.hn k hk)
        rw [hha] at c3
        clear h2 HT
        go_wp2
        go_ret
        exact ⟨ret_int HE2.out.symm, by rw [HL2.out]; exact HR.out n⟩
  · rw [hz] at HC HE
    have HE2 : Hid (E = 1) := HE.out
    have HL2 : Hid (L = l) := by show _ = _; rw [HL.out, HE2.out]; rfl
    clear HE HL
    unfold Fr.val
    go_enter Try.func14, Try.ntmps14
    go_wp2_with fail
    refine HA.mono ?_
    rintro e w' ⟨rfl, rfl⟩
    go_wp2_with (refine fn.ldw rfl _ rfl rfl ?_)
    refine HC.mono ?_
    rintro e w2 ⟨rfl, b2⟩
    have HR : Hid (BusAt b nb ρ t l w2 ∧ Ext ρ ρ w w2) := ⟨⟨G, V, h1.below b2⟩, Ext.below (b1.trans (b2.mono b1.size))⟩
    clear HC HA fn h1 h b1 b2
    go_wp2
    go_ret
    exact ⟨ret_int HE2.out.symm, by rw [HL2.out]; exact HR.out⟩
theorem BusM.emptied (h : BusM b nb ρ t l G V w) {i : Nat} (hi : i < l.length) : BusAt b nb ρ t (l.set i { l[i] with got := [] }) (w.setCell ⟨nb, i * 16 + 15, none⟩ nilV) ∧ Ext ρ ρ w (w.setCell ⟨nb, i * 16 + 15, none⟩ nilV) := by
  obtain ⟨c0, c1, c2, c3, c4⟩ := range_node.1 (h.hn i hi)
  have out : ∀ q, q ≠ i * 16 + 15 → (w.setCell ⟨nb, i * 16 + 15, none⟩ nilV).cell? ⟨nb, q, none⟩ = w.cell? ⟨nb, q, none⟩ := fun q hq => World.cell?_setCell_other _ _ _ _ (by intro e; injection e with _ e2; exact hq e2.symm)
  refine h.put hi { l[i] with got := [] } nilV rfl rfl rfl rfl (by simp [World.setCell]) (fun k hk => Below.heap_setCell _ _ _ _ hk) (fun o ho => out o (by omega)) (there_setCell h.ht _ _) (range_node.2 ⟨?_, ?_, ?_, ?_, ?_⟩) (.inr ⟨rfl, rfl⟩)
  · rw [out _ (by omega)]; exact c0
  · rw [out _ (by omega)]; exact c1
  · intro j u hj
    have hjl : j < 12 := by have := (List.getElem?_eq_some_iff.1 hj).1; rw [frc_len] at this; exact this
    rw [out _ (by omega)]; exact c2 j u hj
  · rw [out _ (by omega)]; exact c3
  · exact World.cell?_setCell_same _ _ _ c4
theorem Fetch_any (h : BusAt b nb ρ t l w) (hl : l.length ≤ 127) {k : Nat} (hk : k < l.length) :
    Calls Try.prog 17 #[.pointer (some ⟨b, 0, none⟩), .int .i64 k] w fun e w' => ∃ v, e = .returned (.tuple #[v, .int .i64 0]) ∧ Frames w' v l[k].got ∧ BusAt b nb ρ t (l.set k { l[k] with got := [] }) w' ∧ Ext ρ ρ w w' := by
  obtain ⟨G, V, h⟩ := h
  have HA := at_yes h hl hk
  obtain ⟨c0, c1, c2, c3, c4⟩ := range_node.1 (h.hn k hk)
  have fz : w.frozen? ⟨nb, k * 16 + 15, none⟩ = false := by
    have := (h.ht (k * 16 + 15) (by omega)).2
    rw [Nat.zero_add] at this; exact this
  obtain ⟨ao, cp, hv⟩ := own_shape (h.hg k hk)
  have HR : Hid (BusAt b nb ρ t (l.set k { l[k] with got := [] }) (w.setCell ⟨nb, k * 16 + 15, none⟩ nilV) ∧ Ext ρ ρ w (w.setCell ⟨nb, k * 16 + 15, none⟩ nilV)) := h.emptied hk
  have HF : Hid (Frames (w.setCell ⟨nb, k * 16 + 15, none⟩ nilV) (V k) l[k].got) := wide_of_own DF (own_at (h.hg k hk) fun g hg => Below.heap_setCell w ⟨nb, k * 16 + 15, none⟩ nilV g (fun e => h.n_g hk (by rw [hg, e])))
  rw [hv] at c4 HF
  clear h hv
  go_enter Try.func17, Try.ntmps17
  go_wp2_with fail
  refine HA.mono ?_
  rintro e w' ⟨rfl, rfl⟩
  go_wp2
  go_ret2
  exact ⟨_, rfl, HF.out, HR.out⟩
theorem Time_any (h : BusAt b nb ρ t l w) : Calls Try.prog 23 #[.pointer (some ⟨b, 0, none⟩)] w fun e w' => e = .returned (.int .u64 t) ∧ w' = w := by
  obtain ⟨G, V, h⟩ := h
  obtain ⟨c0, c1, hf⟩ := h.cells
  clear h
  go_enter Try.func23, Try.ntmps23
  go_wp2
  go_ret
  exact ⟨rfl, rfl⟩
end
end Go.Proofs.Ytlghjfomliappaa
namespace Go.Proofs.Ytlghjfomliappaa
open Go.RowKit Go.Proofs.Bits
set_option linter.unusedVariables false
set_option maxRecDepth 1000000

/-- The first k nodes are turned. -/
def mapK (f : Nat → Nd → Nd) (l : List Nd) (k : Nat) : List Nd := l.mapIdx fun i n => if i < k then f i n else n
section
variable {f : Nat → Nd → Nd} {l : List Nd} {k : Nat}
theorem mapK_len : (mapK f l k).length = l.length := by simp [mapK]
theorem mapK_zero : mapK f l 0 = l := by
  unfold mapK
  apply List.ext_getElem
  · simp
  · intro i h1 h2; simp
theorem mapK_full : mapK f l l.length = l.mapIdx f := by
  unfold mapK
  apply List.ext_getElem
  · simp
  · intro i h1 h2
    simp at h1
    simp [h1]
theorem mapK_at (hk : k < l.length) (h2 : k < (mapK f l k).length) : (mapK f l k)[k] = l[k] := by
  simp [mapK]
theorem mapK_set (hk : k < l.length) : (mapK f l k).set k (f k l[k]) = mapK f l (k + 1) := by
  unfold mapK
  apply List.ext_getElem
  · simp
  · intro i h1 h2
    simp at h1 h2
    rw [List.getElem_set]
    by_cases e : k = i
    · subst e; simp
    · rw [if_neg e]
      simp only [List.getElem_mapIdx]
      have : (i < k ↔ i < k + 1) := by omega
      simp only [this]
theorem mapK_same (hk : k < l.length) (he : f k l[k] = l[k]) : mapK f l k = mapK f l (k + 1) := by
  have h2 : k < (mapK f l k).length := by rw [mapK_len]; exact hk
  rw [← mapK_set hk, he]
  have := List.set_getElem_self h2
  rw [mapK_at hk h2] at this
  exact this.symm
end
/-- A copy of a node. -/
def Na (q : Nat) (n : Nd) (g : Nat) (v : Value) (w : World) : Prop := w.heap[q]? = some (.cells (n.cells g v).toArray 80 (0, 0))
def nodeZ : Array Value := #[.bool false, .pointer none, .int .u32 0, .bool false, .bool false, .int .i64 0, .int .u8 0, .int .u8 0, .int .u8 0, .int .u8 0, .int .u8 0, .int .u8 0, .int .u8 0, .int .u8 0, .bool false, .slice none 0 0]
theorem na_row (w : World) (n : Nd) (g : Nat) (v : Value) : Na w.heap.size n g v ((w.alloc (.cells nodeZ 80)).setRow w.heap.size (n.cells g v).toArray) := setRow_heap _ _ _ _ 80 _ (heap_alloc_new w _)
theorem na_below (w : World) (n : Nd) (g : Nat) (v : Value) : Below w.heap.size w ((w.alloc (.cells nodeZ 80)).setRow w.heap.size (n.cells g v).toArray) := below_row ((Below.refl _ w).alloc (Nat.le_refl _) _) (Nat.le_refl _) (by rw [size_alloc]; omega) _
theorem Nd.one (n : Nd) (g : Nat) (v : Value) (hv : okV v) : (n.cells g v).toArray.all (·.oneCell') = true := by
  refine all_oneCell_toArray fun u hu => ?_
  simp only [Nd.cells, List.mem_cons, List.mem_append, List.not_mem_nil, or_false] at hu
  rcases hu with rfl | rfl | hu | rfl | rfl
  · rfl
  · rfl
  · exact DF.one n.f u hu
  · rfl
  · exact hv
theorem na_sd {w : World} {ops : Array Oper} {rest : List Oper} {o : Oper} {a : Act} {Q : Exit → Act → World → Prop} (n : Nd) (g : Nat) (v : Value) (hv : okV v) (hgd : o.guard = none) (x y : Operand) (ho : o.op = .store 80 x y) (hx : a.eval x = .pointer (some ⟨w.heap.size, 0, none⟩)) (hy : a.eval y = .agg (n.cells g v).toArray)
    (hh : wpList Try.prog ops Q rest (a.put o.dst undef) ((w.alloc (.cells nodeZ 80)).setRow w.heap.size (n.cells g v).toArray)) : wpList Try.prog ops Q (o :: rest) a (w.alloc (.cells nodeZ 80)) :=
  wpList_store_row hgd 80 x y ho w.heap.size _ hx hy 80 _ (heap_alloc_new w _) (by rw [infoNd, List.size_toArray, Nd.len]) (by simp only [List.size_toArray, Nd.len]; rfl) (n.one g v hv) hh
theorem nd_ld {w : World} {ops : Array Oper} {rest : List Oper} {p : Oper} {a : Act} {Q : Exit → Act → World → Prop} {b o g : Nat} {n : Nd} {v : Value} (h : w.rangeAt b o (n.cells g v)) (hgd : p.guard = none) (x : Operand) (ho : p.op = .load 80 x) (hx : a.eval x = .pointer (some ⟨b, o, none⟩))
    (hh : wpList Try.prog ops Q rest (a.put p.dst (.agg (n.cells g v).toArray)) w) : wpList Try.prog ops Q (p :: rest) a w :=
  wpList_load_mid hgd 80 x ho b o hx (n.cells g v) _ h Try.underlying80 rfl (by rw [infoNd, Nd.len]) hh
theorem Na.range {w : World} {q : Nat} {n : Nd} {g : Nat} {v : Value} (h : Na q n g v w) : w.rangeAt q 0 (n.cells g v) := by
  intro j u hj
  rw [Lib.cell_of_heap h, Nat.zero_add]
  simpa using hj
theorem own_ok {w : World} {B : Nat} {e : TypeId} {c : Nat} {v : Value} {n : Nat} {xs : List Value} (h : w.ownsRow B e c v n xs) : okV v := by
  obtain ⟨ao, cp, rfl⟩ := own_shape h
  rfl
def idleN (_ : Nat) (n : Nd) : Nd := if n.pw then { n with u := n.u.idle 1 } else n
section
variable {b nb : Nat} {ρ : Nat → Ro} {t : Int} {l : List Nd} {w : World}
set_option maxHeartbeats 1000000 in
theorem idle_bus (h : BusAt b nb ρ t l w) (hl : l.length ≤ 127) (hok : ∀ i (hi : i < l.length), l[i].u.ok) :
    Calls Try.prog 36 #[.pointer (some ⟨b, 0, none⟩)] w fun e w' => e = .returned (.tuple #[]) ∧ BusAt b nb ρ t (l.mapIdx idleN) w' ∧ Ext ρ ρ w w' := by
  have h0 : BusAt b nb ρ t (mapK idleN l 0) w := by rw [mapK_zero]; exact h
  have HF : Hid (mapK idleN l l.length = l.mapIdx idleN) := mapK_full
  obtain ⟨G, V, h⟩ := h
  obtain ⟨c0, c1, hf⟩ := h.cells
  clear h
  go_enter Try.func36, Try.ntmps36
  go_wp2
  go_loopw [9] (fun i x => ∃ k : Nat, k ≤ l.length ∧ i = .int .i64 k ∧ BusAt b nb ρ t (mapK idleN l k) x ∧ Ext ρ ρ w x) (fun i _ => l.length - (intOf i).toNat)
  case atStart => exact ⟨0, Nat.zero_le _, rfl, h0, Ext.refl _ _⟩
  case round =>
    clear h0 c0 c1 hf G V
    obtain ⟨k, hk, rfl, ⟨G, V, h1⟩, X1⟩ := hrel
    by_cases hkl : k < l.length
    · have hkm : k < (mapK idleN l k).length := by rw [mapK_len]; exact hkl
      have hat := mapK_at (f := idleN) hkl hkm
      have hR := h1.hn k hkm
      have hu := h1.hu k hkm
      have hv := own_ok (h1.hg k hkm)
      rw [hat] at hR hu
      have na := na_row wr l[k] (G k) (V k)
      have nb' := na_below wr l[k] (G k) (V k)
      obtain ⟨e0, e1, e2, e3, e4⟩ := range_node.1 na.range
      rw [Nat.zero_add] at e1
      have h2 := h1.below nb'
      have hu2 : Ua (G k) l[k].u _ := hu.below nb'
      have X2 := X1.trans (Ext.below (ρ := ρ) nb')
      cases hpw : l[k].pw
      · have HS : Hid (mapK idleN l k = mapK idleN l (k + 1)) := mapK_same hkl (by unfold idleN; rw [hpw]; rfl)
        rw [hpw] at e0
        have HB : Hid (BusAt b nb ρ t (mapK idleN l (k + 1)) _ ∧ Ext ρ ρ w _) := ⟨by rw [← HS.out]; exact ⟨G, V, h2⟩, X2⟩
        clear h1 h2 X1 X2 hat hu hu2 nb' hkm e2 e3 e4 HS hpw
        generalize l[k] = n at *
        go_wp2_with (first | refine nd_ld hR rfl _ rfl rfl ?_ | refine na_sd n (G k) (V k) hv rfl _ _ rfl rfl rfl ?_)
        go_roundw
        case rel => exact ⟨k + 1, by omega, by go_num, HB.out⟩
        case measure => simp [intOf]; omega
      · have HI := idle_any 1 (by omega) (hok k hkl) hu2
        have HS : Hid ((mapK idleN l k).set k { l[k] with u := l[k].u.idle 1 } = mapK idleN l (k + 1)) := by
          have e : idleN k l[k] = { l[k] with u := l[k].u.idle 1 } := by unfold idleN; rw [if_pos hpw]
          show _ = _; rw [← mapK_set hkl, e]
        rw [hpw] at e0
        have HU := @BusM.unit b nb ρ t (mapK idleN l k) G V _ h2 k hkm (l[k].u.idle 1)
        rw [hat, HS.out] at HU
        clear h1 h2 X1 hat hu hu2 nb' hkm e2 e3 e4 HS hpw
        generalize l[k] = n at *
        go_wp2_with (first | refine nd_ld hR rfl _ rfl rfl ?_ | refine na_sd n (G k) (V k) hv rfl _ _ rfl rfl rfl ?_)
        refine HI.mono ?_
        rintro e w4 ⟨rfl, u4, t4⟩
        obtain ⟨r1, r2⟩ := HU u4 t4
        have X4 := X2.trans r2
        clear HU X2 HI
        go_wp2
        go_roundw
        case rel => exact ⟨k + 1, by omega, by go_num, r1, X4⟩
        case measure => simp [intOf]; omega
    · obtain rfl : k = l.length := by omega
      go_wp2
      go_end0
      exact ⟨rfl, by rw [← HF.out]; exact ⟨G, V, h1⟩, X1⟩
def dropN (_ : Nat) (n : Nd) : Nd := if n.u.off then { n with f := Fr.nul, has := false } else n
set_option maxHeartbeats 1000000 in
theorem dropOff_bus (h : BusAt b nb ρ t l w) (hl : l.length ≤ 127) :
    Calls Try.prog 38 #[.pointer (some ⟨b, 0, none⟩)] w fun e w' => e = .returned (.tuple #[]) ∧ BusAt b nb ρ t (l.mapIdx dropN) w' ∧ Ext ρ ρ w w' := by
  have h0 : BusAt b nb ρ t (mapK dropN l 0) w := by rw [mapK_zero]; exact h
  have HF : Hid (mapK dropN l l.length = l.mapIdx dropN) := mapK_full
  obtain ⟨G, V, h⟩ := h
  obtain ⟨c0, c1, hf⟩ := h.cells
  clear h
  go_enter Try.func38, Try.ntmps38
  go_wp2
  go_loopw [8] (fun i x => ∃ k : Nat, k ≤ l.length ∧ i = .int .i64 k ∧ BusAt b nb ρ t (mapK dropN l k) x ∧ Ext ρ ρ w x) (fun i _ => l.length - (intOf i).toNat)
  case atStart => exact ⟨0, Nat.zero_le _, rfl, h0, Ext.refl _ _⟩
  case round =>
    clear h0 c0 c1 hf G V
    obtain ⟨k, hk, rfl, ⟨G, V, h1⟩, X1⟩ := hrel
    by_cases hkl : k < l.length
    · have hkm : k < (mapK dropN l k).length := by rw [mapK_len]; exact hkl
      have hat := mapK_at (f := dropN) hkl hkm
      have hR := h1.hn k hkm
      have hu := h1.hu k hkm
      rw [hat] at hR hu
      obtain ⟨e0, e1, e2, e3, e4⟩ := range_node.1 hR
      obtain ⟨c0, c1, hf⟩ := h1.cells
      rw [mapK_len] at c0
      have HO := noff_any e1 hu
      cases hof : l[k].u.off
      · rw [hof] at HO
        have HS : Hid (mapK dropN l k = mapK dropN l (k + 1)) := mapK_same hkl (by unfold dropN; rw [hof]; rfl)
        have HB : Hid (∀ m, BusAt b nb ρ t (mapK dropN l (k + 1)) (wr.drewN m) ∧ Ext ρ ρ w (wr.drewN m)) := fun m => ⟨by rw [← HS.out]; exact ⟨G, V, h1.below (below_drawn (Below.refl _ _) m)⟩, X1.trans (Ext.drawn m)⟩
        clear h1 X1 hat hu hkm e2 e3 e4 HS hof hR e0 e1
        go_wp2_with fail
        refine HO.mono ?_
        rintro e w4 ⟨rfl, m, rfl⟩
        have HB2 : Hid _ := HB.out m
        clear HB HO
        go_wp2
        go_roundw
        case rel => exact ⟨k + 1, by omega, by go_num, HB2.out⟩
        case measure => simp [intOf]; omega
      · rw [hof] at HO
        have HS : Hid ((mapK dropN l k).set k { l[k] with f := Fr.nul, has := false } = mapK dropN l (k + 1)) := by
          have e : dropN k l[k] = { l[k] with f := Fr.nul, has := false } := by unfold dropN; rw [if_pos hof]
          show _ = _; rw [← mapK_set hkl, e]
        have HD := fun m => drop_any (h1.below (below_drawn (Below.refl _ _) m)) hkm
        simp only [hat, HS.out] at HD
        clear h1 hat hu hkm e2 e3 e4 HS hof hR e0 e1
        go_wp2_with fail
        refine HO.mono ?_
        rintro e w4 ⟨rfl, m, rfl⟩
        have HD2 := HD m
        have X2 := X1.trans (Ext.drawn (ρ := ρ) (w := wr) m)
        clear HD HO X1
        go_wp2_with fail
        refine HD2.mono ?_
        rintro e w5 ⟨rfl, r1, r2⟩
        have X3 := X2.trans r2
        clear HD2 X2
        go_wp2
        go_roundw
        case rel => exact ⟨k + 1, by omega, by go_num, r1, X3⟩
        case measure => simp [intOf]; omega
    · obtain rfl : k = l.length := by omega
      go_wp2
      go_end0
      exact ⟨rfl, by rw [← HF.out]; exact ⟨G, V, h1⟩, X1⟩
end
end Go.Proofs.Ytlghjfomliappaa
namespace Go.Proofs.Ytlghjfomliappaa
open Go.RowKit Go.Proofs.Bits
set_option linter.unusedVariables false
set_option maxRecDepth 1000000

def setN (r : Rn) (sf : Fr) (i : Nat) (n : Nd) : Nd :=
  if (i : Int) = r.win then (if r.sent then { n with f := Fr.nul, has := false, u := n.u.sent } else { n with u := n.u.fail (decide (r.errs.getD i 0 = 23)) })
  else if r.got.getD i false then { n with got := tk n.got sf, u := n.u.recv }
  else if r.errs.getD i 0 ≠ 0 then { n with u := n.u.err (decide ((i : Int) = r.late)) } else n
section
variable {b nb : Nat} {ρ : Nat → Ro} {t : Int} {l : List Nd} {w : World}
/-- What stands when settle has begun. -/
def SetP (b nb : Nat) (ρ : Nat → Ro) (t : Int) (l : List Nd) (w : World) (r : Rn) (ge gg : Nat) (v : Value) (wn : Nat) (hwn : wn < l.length) (W : World) : Prop :=
  BusAt b nb ρ t l W ∧ Below w.heap.size w W ∧ Ru w.heap.size r (sl ge l.length) (sl gg l.length) v W ∧ Fa (w.heap.size + 1) l[wn].f W
set_option maxHeartbeats 4000000 in
theorem settle_bus (h : BusAt b nb ρ t l w) (hl : l.length ≤ 127) (hok : ∀ i (hi : i < l.length), l[i].u.ok ∧ l[i].got.length ≤ 64) (r : Rn) (wn ge gg : Nat) (v : Value) (hv : okV v) (hwn : wn < l.length) (hw : r.win = wn)
    (he : Row w ge (r.errs.map errV)) (hg : Row w gg (r.got.map Value.bool)) (hle : r.errs.length = l.length) (hlg : r.got.length = l.length) (re : ρ ge = .no) (rg : ρ gg = .no) :
    Calls Try.prog 37 #[.pointer (some ⟨b, 0, none⟩), .agg (r.arr (sl ge l.length) (sl gg l.length) v)] w fun e w' => e = .returned (.tuple #[]) ∧ ∃ ρ', BusAt b nb ρ' t (l.mapIdx (setN r l[wn].f)) w' ∧ Ext ρ ρ' w w' := by
  have bb1 : Below w.heap.size w (w.alloc (.cells (r.arr (sl ge l.length) (sl gg l.length) v) 67)) := (Below.refl _ _).alloc (Nat.le_refl _) _
  have R1 := Ru.new w r (sl ge l.length) (sl gg l.length) v
  have h1 := h.below bb1
  obtain ⟨G, V, h1⟩ := h1
  obtain ⟨G0, V0, h0⟩ := h
  obtain ⟨c0, c1, hf⟩ := h0.cells
  have ltb := h0.lt_b
  have ltn := h0.lt_n
  obtain ⟨d0, d1, d2, d3, d4, d5, d6, d7, df⟩ := R1.cells
  obtain ⟨n0, n1, n2, n3, n4⟩ := range_node.1 (h0.hn wn hwn)
  obtain ⟨a0, a1, a2, a3, a4, a5, a6, a7, a8, a9, a10, a11, ha⟩ := arr_full l[wn].f
  have cells12 : ∀ k u, l[wn].f.arr[k]? = some u → w.cell? ⟨nb, wn * 16 + 2 + k, none⟩ = some u := fun k u hk => n2 k u (by simpa [Fr.arr] using hk)
  have k0 : w.cell? ⟨nb, wn * 16 + 2, none⟩ = some (.int .u32 a0) := cells12 0 (.int .u32 a0) (by rw [ha]; rfl)
  have k1 : w.cell? ⟨nb, wn * 16 + 2 + 1, none⟩ = some (.bool a1) := cells12 1 (.bool a1) (by rw [ha]; rfl)
  have k2 : w.cell? ⟨nb, wn * 16 + 2 + 2, none⟩ = some (.bool a2) := cells12 2 (.bool a2) (by rw [ha]; rfl)
  have k3 : w.cell? ⟨nb, wn * 16 + 2 + 3, none⟩ = some (.int .i64 a3) := cells12 3 (.int .i64 a3) (by rw [ha]; rfl)
  have k4 : w.cell? ⟨nb, wn * 16 + 2 + 4, none⟩ = some (.int .u8 a4) := cells12 4 (.int .u8 a4) (by rw [ha]; rfl)
  have k5 : w.cell? ⟨nb, wn * 16 + 2 + 5, none⟩ = some (.int .u8 a5) := cells12 5 (.int .u8 a5) (by rw [ha]; rfl)
  have k6 : w.cell? ⟨nb, wn * 16 + 2 + 6, none⟩ = some (.int .u8 a6) := cells12 6 (.int .u8 a6) (by rw [ha]; rfl)
  have k7 : w.cell? ⟨nb, wn * 16 + 2 + 7, none⟩ = some (.int .u8 a7) := cells12 7 (.int .u8 a7) (by rw [ha]; rfl)
  have k8 : w.cell? ⟨nb, wn * 16 + 2 + 8, none⟩ = some (.int .u8 a8) := cells12 8 (.int .u8 a8) (by rw [ha]; rfl)
  have k9 : w.cell? ⟨nb, wn * 16 + 2 + 9, none⟩ = some (.int .u8 a9) := cells12 9 (.int .u8 a9) (by rw [ha]; rfl)
  have k10 : w.cell? ⟨nb, wn * 16 + 2 + 10, none⟩ = some (.int .u8 a10) := cells12 10 (.int .u8 a10) (by rw [ha]; rfl)
  have k11 : w.cell? ⟨nb, wn * 16 + 2 + 11, none⟩ = some (.int .u8 a11) := cells12 11 (.int .u8 a11) (by rw [ha]; rfl)
  have HB2 : Hid (BusAt b nb ρ t l (((w.alloc (.cells (r.arr (sl ge l.length) (sl gg l.length) v) 67)).alloc (.cells #[.int .u32 a0, .bool a1, .bool a2, .int .i64 a3, .int .u8 a4, .int .u8 a5, .int .u8 a6, .int .u8 a7, .int .u8 a8, .int .u8 a9, .int .u8 a10, .int .u8 a11] 38)).drew)) := ⟨G, V, h1.below (below_drawn ((Below.refl _ _).alloc (Nat.le_refl _) _) 1)⟩
  have bb2 : Below w.heap.size w (((w.alloc (.cells (r.arr (sl ge l.length) (sl gg l.length) v) 67)).alloc (.cells #[.int .u32 a0, .bool a1, .bool a2, .int .i64 a3, .int .u8 a4, .int .u8 a5, .int .u8 a6, .int .u8 a7, .int .u8 a8, .int .u8 a9, .int .u8 a10, .int .u8 a11] 38)).drew) := below_drawn (bb1.alloc (by rw [size_alloc]; omega) _) 1
  have FA : Hid (Fa (w.heap.size + 1) l[wn].f (((w.alloc (.cells (r.arr (sl ge l.length) (sl gg l.length) v) 67)).alloc (.cells #[.int .u32 a0, .bool a1, .bool a2, .int .i64 a3, .int .u8 a4, .int .u8 a5, .int .u8 a6, .int .u8 a7, .int .u8 a8, .int .u8 a9, .int .u8 a10, .int .u8 a11] 38)).drew)) := by
    show Fa _ _ _
    unfold Fa
    rw [ha]
    have := heap_alloc_new (w.alloc (.cells (r.arr (sl ge l.length) (sl gg l.length) v) 67)) (.cells #[.int .u32 a0, .bool a1, .bool a2, .int .i64 a3, .int .u8 a4, .int .u8 a5, .int .u8 a6, .int .u8 a7, .int .u8 a8, .int .u8 a9, .int .u8 a10, .int .u8 a11] 38)
    rw [size_alloc] at this
    exact this
  have HP : Hid (SetP b nb ρ t l w r ge gg v wn hwn _) := ⟨HB2.out, bb2, R1.below (below_drawn ((Below.refl _ _).alloc (Nat.le_refl _) _) 1), FA.out⟩
  have HF : Hid (mapK (setN r l[wn].f) l l.length = l.mapIdx (setN r l[wn].f)) := mapK_full
  have e1 : b ≠ w.heap.size := by omega
  have e2 : b ≠ w.heap.size + 1 := by omega
  have e3 : nb ≠ w.heap.size := by omega
  have e4 : nb ≠ w.heap.size + 1 := by omega
  clear n0 n1 n2 n3 n4 cells12 ha bb2 HB2 FA d0 d1 d2 d3 d4 d5 d6 d7 df R1
  unfold Rn.arr sl at *
  rw [hw] at HP
  rw [hw]
  have HW : Hid (r.win = wn) := hw
  clear hw h1 bb1
  go_enter Try.func37, Try.ntmps37
  go_wp2_with fail
  go_cut [4] from 7 to 16 (fun s4 wx => s4 = .pointer (some ⟨w.heap.size + 1, 0, none⟩) ∧ SetP b nb ρ t l w r ge gg v wn hwn wx)
  case first =>
    go_region
    all_goals
      go_wp2_with fail
      go_meet
      case rel => exact ⟨rfl, HP.out⟩
  case rest =>
  obtain ⟨rfl, P1⟩ := hcut
  clear k0 k1 k2 k3 k4 k5 k6 k7 k8 k9 k10 k11 c0 c1 hf HP
  obtain ⟨hb1, B1, R1, F1⟩ := P1
  have hb0 : BusAt b nb ρ t (mapK (setN r l[wn].f) l 0) wc := by rw [mapK_zero]; exact hb1
  obtain ⟨G1, V1, h1⟩ := hb1
  obtain ⟨c0, c1, hf⟩ := h1.cells
  have zq := h0.rz w.heap.size (Nat.le_refl _)
  have zf := h0.rz (w.heap.size + 1) (by omega)
  have HK : Hid (∀ ρ' x, Ext ρ ρ' wc x → Ru w.heap.size r (sl ge l.length) (sl gg l.length) v x ∧ Fa (w.heap.size + 1) l[wn].f x ∧ Row x ge (r.errs.map errV) ∧ Row x gg (r.got.map Value.bool)) := fun ρ' x X =>
    ⟨R1.kept (X.keep _ R1.lt zq), (X.keep _ F1.lt zf).trans F1, (he.below B1).kept (X.keep _ (he.below B1).lt re), (hg.below B1).kept (X.keep _ (hg.below B1).lt rg)⟩
  have HX0 : Hid (Ext ρ ρ w wc) := Ext.below B1
  have HOK : Hid _ := hok
  have HST : Hid (∀ i n, setN r l[wn].f i n = if (i : Int) = r.win then (if r.sent then { n with f := Fr.nul, has := false, u := n.u.sent } else { n with u := n.u.fail (decide (r.errs.getD i 0 = 23)) }) else if r.got.getD i false then { n with got := tk n.got l[wn].f, u := n.u.recv } else if r.errs.getD i 0 ≠ 0 then { n with u := n.u.err (decide ((i : Int) = r.late)) } else n) := fun i n => rfl
  clear he hg re rg zq zf R1 F1 B1 h1 hok h0 G1 V1 G0 V0 ltb ltn G V e1 e2 e3 e4
  go_wp2
  go_loopw [22] (fun i x => ∃ (k : Nat) (ρ' : Nat → Ro), k ≤ l.length ∧ i = .int .i64 k ∧ BusAt b nb ρ' t (mapK (setN r l[wn].f) l k) x ∧ Ext ρ ρ' wc x) (fun i _ => l.length - (intOf i).toNat)
  case atStart => exact ⟨0, ρ, Nat.zero_le _, rfl, hb0, Ext.refl _ _⟩
  case round =>
    clear hb0 c0 c1 hf
    obtain ⟨k, ρ1, hk, rfl, ⟨G, V, h1⟩, X1⟩ := hrel
    by_cases hkl : k < l.length
    · obtain ⟨R1, F1, E1, G1⟩ := HK.out _ _ X1
      have hkm : k < (mapK (setN r l[wn].f) l k).length := by rw [mapK_len]; exact hkl
      have hat := mapK_at (f := setN r l[wn].f) hkl hkm
      have hR := h1.hn k hkm
      have hu := h1.hu k hkm
      rw [hat] at hR hu
      obtain ⟨n0, n1, n2, n3, n4⟩ := range_node.1 hR
      obtain ⟨c0, c1, hf⟩ := h1.cells
      rw [mapK_len] at c0
      obtain ⟨d0, d1, d2, d3, d4, d5, d6, d7, df⟩ := R1.cells
      rw [HW.out] at d0
      unfold sl at d3 d4
      obtain ⟨uo, g64⟩ := HOK.out k hkl
      have HS := mapK_set (f := setN r l[wn].f) hkl
      have HStep := HST.out k l[k]
      rw [HW.out] at HStep
      have ce := E1.cell k (by rw [List.length_map, hle]; exact hkl)
      have cg := G1.cell k (by rw [List.length_map, hlg]; exact hkl)
      rw [List.getElem_map] at ce cg
      have ge' : r.errs.getD k 0 = r.errs[k]'(by rw [hle]; exact hkl) := by simp [hle, hkl]
      have gg' : r.got.getD k false = r.got[k]'(by rw [hlg]; exact hkl) := by simp [hlg, hkl]
      unfold errV at ce
      rw [ge', gg'] at HStep
      generalize r.errs[k]'(by rw [hle]; exact hkl) = ek at *
      generalize r.got[k]'(by rw [hlg]; exact hkl) = gk at *
      clear ge' gg' E1 G1 hR n2
      by_cases hkw : k = wn
      · rw [if_pos (by rw [hkw])] at HStep
        have q1 : ((k : Int) == (wn : Int)) = true := by rw [hkw]; simp
        have HKW : Hid (k = wn) := hkw
        clear hkw
        generalize hse : r.sent = se at *
        cases se
        · rw [if_neg (by simp)] at HStep
          have hu' : Ua (G k) l[k].u wr.drew := hu
          have h1' : BusM b nb ρ1 t (mapK (setN r l[wn].f) l k) G V wr.drew := h1.below (below_drawn (Below.refl _ _) 1)
          have X2 : Ext ρ ρ1 wc wr.drew := X1.trans (Ext.drawn 1)
          have HFl := fail_any (decide (ek = 23)) uo hu'
          have HU := @BusM.unit b nb ρ1 t (mapK (setN r l[wn].f) l k) G V _ h1' k hkm (l[k].u.fail (decide (ek = 23)))
          rw [hat, ← HStep, HS] at HU
          have hdec : (ek == 23) = decide (ek = 23) := eq_dec ek 23
          generalize decide (ek = 23) = dq at *
          clear h1 hat HS HStep HST hkm uo g64 h1' hu' X1
          go_wp2_with fail
          go_region_with (go_at_call 58; refine HFl.mono ?_; rintro e w4 ⟨rfl, u4, t4⟩)
          all_goals
            obtain ⟨r1, r2⟩ := HU u4 t4
            have X4 := X2.trans r2
            go_wp2_with fail
            go_roundw
            case rel => exact ⟨k + 1, ρ1, by omega, by go_num, r1, X4⟩
            case measure => simp [intOf]; omega
        · rw [if_pos rfl] at HStep
          have HD := drop_any h1 hkm
          rw [hat] at HD
          have HZ : Hid (∀ (x : World), BusAt b nb ρ1 t ((mapK (setN r l[wn].f) l k).set k { l[k] with f := Fr.nul, has := false }) x → ∃ g, x.cell? ⟨nb, k * 16 + 1, none⟩ = some (.pointer (some ⟨g, 0, none⟩)) ∧ Calls Try.prog 57 #[.pointer (some ⟨g, 0, none⟩)] x fun e w' => e = .returned (.tuple #[]) ∧ BusAt b nb ρ1 t (mapK (setN r l[wn].f) l (k + 1)) w' ∧ Ext ρ1 ρ1 x w') := by
            rintro x ⟨G2, V2, h2⟩
            have hk2 : k < ((mapK (setN r l[wn].f) l k).set k { l[k] with f := Fr.nul, has := false }).length := by rw [List.length_set]; exact hkm
            have hat2 : ((mapK (setN r l[wn].f) l k).set k { l[k] with f := Fr.nul, has := false })[k] = { l[k] with f := Fr.nul, has := false } := List.getElem_set_self hk2
            have hu2 := h2.hu k hk2
            obtain ⟨_, m1, _, _, _⟩ := range_node.1 (h2.hn k hk2)
            rw [hat2] at hu2
            refine ⟨G2 k, m1, (sent_any uo hu2).mono ?_⟩
            rintro e w' ⟨rfl, u4, t4⟩
            obtain ⟨r1, r2⟩ := h2.unit hk2 u4 t4
            rw [hat2, List.set_set] at r1
            refine ⟨rfl, ?_, r2⟩
            rw [← HS, HStep]; exact r1
          clear h1 hat HS HStep HST hkm uo g64 hu n1
          go_wp2_with fail
          refine HD.mono ?_
          rintro e w4 ⟨rfl, r1, r2⟩
          have X2 := X1.trans r2
          obtain ⟨g2, m1, HSn⟩ := HZ.out w4 r1
          clear HZ HD r1 r2 X1 n0 n3 n4 c0 c1 hf d0 d1 d2 d3 d4 d5 d6 d7 df ce cg
          go_wp2_with fail
          refine HSn.mono ?_
          rintro e w5 ⟨rfl, r1, r2⟩
          have X3 := X2.trans r2
          clear HSn X2 m1
          go_wp2_with fail
          go_roundw
          case rel => exact ⟨k + 1, ρ1, by omega, by go_num, r1, X3⟩
          case measure => simp [intOf]; omega
      · rw [if_neg (by omega)] at HStep
        have q1 : ((k : Int) == (wn : Int)) = false := by rw [beq_eq_false_iff_ne]; omega
        have HKW : Hid (k ≠ wn) := hkw
        clear hkw
        cases gk
        · rw [if_neg (by simp)] at HStep
          by_cases he0 : ek = 0
          · have HQ : Hid (mapK (setN r l[wn].f) l k = mapK (setN r l[wn].f) l (k + 1)) := mapK_same hkl (by rw [HStep, he0]; rfl)
            have HB : Hid (BusAt b nb ρ1 t (mapK (setN r l[wn].f) l (k + 1)) wr) := by
              show BusAt _ _ _ _ _ _
              rw [← HQ.out]; exact ⟨G, V, h1⟩
            rw [he0] at ce
            clear h1 hat HS HStep HST hkm uo g64 hu HQ
            go_wp2_with fail
            go_roundw
            case rel => exact ⟨k + 1, ρ1, by omega, by go_num, HB.out, X1⟩
            case measure => simp [intOf]; omega
          · rw [if_pos he0] at HStep
            have hu' : Ua (G k) l[k].u wr.drew := hu
            have h1' : BusM b nb ρ1 t (mapK (setN r l[wn].f) l k) G V wr.drew := h1.below (below_drawn (Below.refl _ _) 1)
            have X2 : Ext ρ ρ1 wc wr.drew := X1.trans (Ext.drawn 1)
            have HFl := err_any (decide ((k : Int) = r.late)) uo hu'
            have HU := @BusM.unit b nb ρ1 t (mapK (setN r l[wn].f) l k) G V _ h1' k hkm (l[k].u.err (decide ((k : Int) = r.late)))
            rw [hat, ← HStep, HS] at HU
            have hdec : ((k : Int) == r.late) = decide ((k : Int) = r.late) := eq_dec _ _
            have hne0 : (ek != 0) = true := by simpa using he0
            generalize decide ((k : Int) = r.late) = dq at *
            clear h1 hat HS HStep HST hkm uo g64 h1' hu' X1
            go_wp2_with fail
            go_region_with (go_at_call 61; refine HFl.mono ?_; rintro e w4 ⟨rfl, u4, t4⟩)
            all_goals
              obtain ⟨r1, r2⟩ := HU u4 t4
              have X4 := X2.trans r2
              go_wp2_with fail
              go_roundw
              case rel => exact ⟨k + 1, ρ1, by omega, by go_num, r1, X4⟩
              case measure => simp [intOf]; omega
        · rw [if_pos rfl] at HStep
          have HT := take_any4 h1 hkm l[wn].f (by rw [hat]; exact g64)
          rw [hat] at HT
          have HZ : Hid (∀ ρ2 (x : World), BusAt b nb ρ2 t ((mapK (setN r l[wn].f) l k).set k { l[k] with got := tk l[k].got l[wn].f }) x → ∃ g, x.cell? ⟨nb, k * 16 + 1, none⟩ = some (.pointer (some ⟨g, 0, none⟩)) ∧ Calls Try.prog 60 #[.pointer (some ⟨g, 0, none⟩)] x fun e w' => e = .returned (.tuple #[]) ∧ BusAt b nb ρ2 t (mapK (setN r l[wn].f) l (k + 1)) w' ∧ Ext ρ2 ρ2 x w') := by
            rintro ρ2 x ⟨G2, V2, h2⟩
            have hk2 : k < ((mapK (setN r l[wn].f) l k).set k { l[k] with got := tk l[k].got l[wn].f }).length := by rw [List.length_set]; exact hkm
            have hat2 : ((mapK (setN r l[wn].f) l k).set k { l[k] with got := tk l[k].got l[wn].f })[k] = { l[k] with got := tk l[k].got l[wn].f } := List.getElem_set_self hk2
            have hu2 := h2.hu k hk2
            obtain ⟨_, m1, _, _, _⟩ := range_node.1 (h2.hn k hk2)
            rw [hat2] at hu2
            refine ⟨G2 k, m1, (recv_any uo hu2).mono ?_⟩
            rintro e w' ⟨rfl, u4, t4⟩
            obtain ⟨r1, r2⟩ := h2.unit hk2 u4 t4
            rw [hat2, List.set_set] at r1
            refine ⟨rfl, ?_, r2⟩
            rw [← HS, HStep]; exact r1
          unfold Fr.val at HT
          clear h1 hat HS HStep HST hkm uo g64 hu n1
          go_wp2_with (refine F1.ldw rfl _ rfl rfl ?_)
          refine HT.mono ?_
          rintro e w4 ⟨rfl, ρ2, r1, r2⟩
          have X2 := X1.trans r2
          obtain ⟨g2, m1, HSn⟩ := HZ.out ρ2 w4 r1
          clear HZ HT r1 r2 X1 n0 n3 n4 c0 c1 hf d0 d1 d2 d3 d4 d5 d6 d7 df ce cg
          go_wp2_with fail
          refine HSn.mono ?_
          rintro e w5 ⟨rfl, r1, r2⟩
          have X3 := X2.trans r2
          clear HSn X2 m1
          go_wp2_with fail
          go_roundw
          case rel => exact ⟨k + 1, ρ2, by omega, by go_num, r1, X3⟩
          case measure => simp [intOf]; omega
    · obtain rfl : k = l.length := by omega
      go_wp2
      go_end0
      exact ⟨rfl, ρ1, by rw [← HF.out]; exact ⟨G, V, h1⟩, HX0.out.trans X1⟩
end
end Go.Proofs.Ytlghjfomliappaa
