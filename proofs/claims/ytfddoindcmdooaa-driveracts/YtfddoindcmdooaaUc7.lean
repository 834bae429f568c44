/- The heap's Remove; Drop of the driver. The document's driver in memory; New, Next and Fetch of it. The document's Fetch and Passes. Contract of the document's own Plain. The document's New, Fetch and Take. -/
import Derived.Test.YtfddoindcmdooaaUc6
import Derived.Test.YtfddoindcmdooaaPla
namespace Go.Proofs.Ytfddoindcmdooaa
open Go.RowKit Go.Proofs.Bits
set_option linter.unusedVariables false
set_option maxRecDepth 1000000
set_option linter.unusedSimpArgs false

set_option maxHeartbeats 2000000 in
theorem hRem_any {w : World} {B D : Nat} {A : Array Value} {v : Value} {ms : List Ml} (hA : Dr D A w) (hA1 : A[1]? = some v) (h : Mb w B v ms) (i : Nat) (hi : i < ms.length) (hl : ms.length ≤ 64) :
    Calls Try.prog 44 #[.iface 71 (.pointer (some ⟨D, 1, none⟩)), .int .i64 i] w fun e w' => e = .returned (.iface 73 (.agg ms[i].arr)) ∧ ∃ v', Dr D (A.setIfInBounds 1 v') w' ∧ Mb w' B v' (remF ms i hi) ∧ Kd D B w w' := by
  have c1 := hA.cell hA1
  obtain ⟨ao, cap, hv⟩ := own_shape5 h
  subst hv
  have hLn := mLen_any (.slice ao ms.length cap) _ ⟨ao, cap, rfl⟩ w
  have hme : (method 234 71 (.pointer (some ⟨D, 1, none⟩)) "Len").run Try.prog w = .ok (81, .slice ao ms.length cap) w := meth_at (by kernel_rfl) _ D ao _ cap w c1
  have hme1 : (method 234 71 (.pointer (some ⟨D, 1, none⟩)) "Swap").run Try.prog w = .ok (83, .slice ao ms.length cap) w := meth_at (by kernel_rfl) _ D ao _ cap w c1
  have enter1 : ∀ args x, (callFunc 81 args).run Try.prog x = .ok (.enter 81 args) x := fun _ _ => by rfl
  have enter2 : ∀ args x, (callFunc 83 args).run Try.prog x = .ok (.enter 83 args) x := fun _ _ => by rfl
  have enter3 : ∀ args x, (callFunc 84 args).run Try.prog x = .ok (.enter 84 args) x := fun _ _ => by rfl
  have HL : Hid ((remF ms i hi).length < 64) := by show _ < _; rw [remF_len]; omega
  have HA : Hid (∀ x ls, Mb x B (.slice ao ms.length cap) ls → w.grownBy x (Value.slice ao ms.length cap).ownBlock → Dr D A x ∧ Kd D B w x ∧ (Value.slice ao ms.length cap).ownBlock ≠ some D) := fun x ls h1 hx => ⟨hA.grown h hx, Kd.grown h hx, (hA.grown h hx).ne h1⟩
  have HA1 : Hid (A[1]? = some (.slice ao ms.length cap)) := hA1
  have HPf : Hid (remR ms i hi = remF ms i hi ++ [ms[i]]) := remF_all ms i hi
  by_cases hn : ms.length - 1 = i
  · have M3 : Mb w B (.slice ao ms.length cap) (remF ms i hi ++ [ms[i]]) := by
      rw [← HPf.out]; unfold remR; rw [if_pos hn]; exact h
    have G3 : w.grownBy w (Value.slice ao ms.length cap).ownBlock := grown_refl _ _
    have hlen : (ms.length : Int) - 1 = (i : Int) := by omega
    have hbn : ((i : Int) != (i : Int)) = false := by simp
    clear hn HPf h hA hA1 c1
    generalize ms[i] = m at *
    go_enter Try.func44, Try.ntmps44
    go_wp2_with fail
    refine hLn.mono ?_
    rintro e w1 ⟨rfl, rfl⟩
    clear hLn hme
    obtain ⟨A3, K3, n3⟩ := HA.out w1 _ M3 G3
    have hPo := mPop_any A3 HA1.out M3 HL.out
    have hme3 : (method 234 71 (.pointer (some ⟨D, 1, none⟩)) "Pop").run Try.prog w1 = .ok (84, .pointer (some ⟨D, 1, none⟩)) w1 := meth_ptr (by kernel_rfl) _ D w1
    go_wp2_with fail
    refine hPo.mono ?_
    rintro e w9 ⟨rfl, v', A4, M4, K4⟩
    have HX : Hid (Dr D (A.setIfInBounds 1 v') w9 ∧ Mb w9 B v' (remF ms i hi) ∧ Kd D B w1 w9) := ⟨A4, M4, K3.trans K4⟩
    clear hPo A4 M4 K4 hme3 A3 M3 G3 HA
    go_wp2
    go_ret
    exact ⟨rfl, _, HX.out⟩
  · obtain ⟨N, hN⟩ : ∃ N, ms.length - 1 = N := ⟨_, rfl⟩
    have hN2 : N < ms.length := by omega
    have hSw := mSwap_any h i N hi hN2
    have hlen : (ms.length : Int) - 1 = (N : Int) := by omega
    have hbn : ((N : Int) != (i : Int)) = true := by simp; omega
    have HSl : Hid ((swapM ms i N hi hN2).length = ms.length) := swapM_length _ _ _ _ _
    have HR1 : Hid (i < (downP (swapM ms i N hi hN2) i N).2 → (downP (swapM ms i N hi hN2) i N).1 = remF ms i hi ++ [ms[i]]) := fun h' => by
      subst hN; rw [← HPf.out]; unfold remR; rw [if_neg hn, if_pos h']
    have HR0 : Hid (¬ i < (downP (swapM ms i N hi hN2) i N).2 → upF (downP (swapM ms i N hi hN2) i N).1 i = remF ms i hi ++ [ms[i]]) := fun h' => by
      subst hN; rw [← HPf.out]; unfold remR; rw [if_neg hn, if_neg h']
    have HDl : Hid ((downP (swapM ms i N hi hN2) i N).1.length = ms.length) := by show _ = _; rw [downP_len, swapM_length]
    generalize swapM ms i N hi hN2 = ss at *
    clear hn HPf h hA hA1 c1
    generalize ms[i] = m at *
    go_enter Try.func44, Try.ntmps44
    go_wp2_with fail
    refine hLn.mono ?_
    rintro e w1 ⟨rfl, rfl⟩
    clear hLn hme
    go_wp2_with fail
    refine hSw.mono ?_
    rintro e w2 ⟨rfl, M2, G2⟩
    obtain ⟨A2, K2, n2⟩ := HA.out w2 _ M2 G2
    have hDn := hdown_any (A2.cell HA1.out) n2 M2 i N (by omega) (by rw [HSl.out]; omega) (by rw [HSl.out]; exact hl)
    clear hSw hme1 M2 A2 K2 n2
    generalize hdd : downP ss i N = dp at *
    by_cases hmv : i < dp.2
    · have d1 : decide (i < dp.2) = true := by simpa using hmv
      rw [d1] at hDn
      rw [HR1.out hmv] at hDn
      clear HR1 HR0 hmv d1 hdd
      go_wp2_with fail
      refine hDn.mono ?_
      rintro e w3 ⟨rfl, M3, g3⟩
      have G3 := grown_trans G2 g3
      clear hDn g3 G2
      obtain ⟨A3, K3, n3⟩ := HA.out w3 _ M3 G3
      have hPo := mPop_any A3 HA1.out M3 HL.out
      have hme3 : (method 234 71 (.pointer (some ⟨D, 1, none⟩)) "Pop").run Try.prog w3 = .ok (84, .pointer (some ⟨D, 1, none⟩)) w3 := meth_ptr (by kernel_rfl) _ D w3
      go_wp2_with fail
      refine hPo.mono ?_
      rintro e w9 ⟨rfl, v', A4, M4, K4⟩
      have HX : Hid (Dr D (A.setIfInBounds 1 v') w9 ∧ Mb w9 B v' (remF ms i hi) ∧ Kd D B w1 w9) := ⟨A4, M4, K3.trans K4⟩
      clear hPo A4 M4 K4 hme3 A3 M3 G3 HA
      go_wp2
      go_ret
      exact ⟨rfl, _, HX.out⟩
    · have d1 : decide (i < dp.2) = false := by simpa using hmv
      rw [d1] at hDn
      have HR := HR0.out hmv
      clear HR1 HR0 hmv d1 hdd
      go_wp2_with fail
      refine hDn.mono ?_
      rintro e w3 ⟨rfl, m3, g3⟩
      have G4 := grown_trans G2 g3
      obtain ⟨A5, K5, n5⟩ := HA.out w3 _ m3 G4
      have hUp := hup_any (A5.cell HA1.out) n5 m3 i (by rw [HDl.out]; exact hi) (by rw [HDl.out]; exact hl)
      rw [HR] at hUp
      clear hDn g3 G2 m3 A5 K5 n5 HR HDl
      go_wp2_with fail
      refine hUp.mono ?_
      rintro e w5 ⟨rfl, M3, g5⟩
      have G3 := grown_trans G4 g5
      clear hUp g5 G4
      obtain ⟨A3, K3, n3⟩ := HA.out w5 _ M3 G3
      have hPo := mPop_any A3 HA1.out M3 HL.out
      have hme3 : (method 234 71 (.pointer (some ⟨D, 1, none⟩)) "Pop").run Try.prog w5 = .ok (84, .pointer (some ⟨D, 1, none⟩)) w5 := meth_ptr (by kernel_rfl) _ D w5
      go_wp2_with fail
      refine hPo.mono ?_
      rintro e w9 ⟨rfl, v', A4, M4, K4⟩
      have HX : Hid (Dr D (A.setIfInBounds 1 v') w9 ∧ Mb w9 B v' (remF ms i hi) ∧ Kd D B w1 w9) := ⟨A4, M4, K3.trans K4⟩
      clear hPo A4 M4 K4 hme3 A3 M3 G3 HA
      go_wp2
      go_ret
      exact ⟨rfl, _, HX.out⟩
/-- Drop, as a function: the ticket's place, if there is one. -/
noncomputable def dropS (s : Dv) (t : Int) : Dv × Bool := if h : ∃ k, ∃ h : k < s.ms.length, s.ms[k].tk = t then ({ s with ms := remF s.ms h.choose h.choose_spec.choose }, true) else (s, false)
set_option maxHeartbeats 1000000 in
theorem Drop_dv {w : World} {D : Nat} {s : Dv} {vm vc : Value} (t : Int) (h : DvW D s vm vc w) (hd : ∀ j k (hj : j < s.ms.length) (hk : k < s.ms.length), s.ms[j].tk = s.ms[k].tk → j = k) :
    Calls Try.prog 26 #[.pointer (some ⟨D, 0, none⟩), .int .i64 t] w fun e w' => e = .returned (.bool (dropS s t).2) ∧ ∃ vm', DvW D (dropS s t).1 vm' vc w' ∧ Kz D vc vc w w' := by
  have hlt := h.lt
  have hne := h.quNe
  have hh := h
  obtain ⟨wa, hwa⟩ : ∃ wa, w.alloc (.cells #[.int .i64 t] 3) = wa := ⟨_, rfl⟩
  have ba : Below w.heap.size w wa := by rw [← hwa]; exact (Below.refl _ _).alloc (Nat.le_refl _) _
  have ca : wa.cell? ⟨w.heap.size, 0, none⟩ = some (.int .i64 t) := by rw [← hwa]; exact (Lib.cell_of_heap (heap_alloc_new w _) 0).trans rfl
  have ha := h.below ba
  obtain ⟨⟨g, h1, h2⟩, h3, h4, h5, h6, h7, h8, h9, h10⟩ := ha
  have hIF := IFm_any h3 (by omega) ca
  have HR : Hid (∀ x, Below wa.heap.size wa x → ∀ i (hi : i < s.ms.length), Calls Try.prog 44 #[.iface 71 (.pointer (some ⟨D, 1, none⟩)), .int .i64 i] x fun e w' => e = .returned (.iface 73 (.agg s.ms[i].arr)) ∧ ∃ v', DvW D { s with ms := remF s.ms i hi } v' vc w' ∧ Kz D vc vc w w') := fun x hx i hi => by
    have hx' := (hh.below ba).below hx
    have bx : Below w.heap.size w x := ba.trans (hx.mono ba.size)
    obtain ⟨⟨g', k1, k2⟩, k3, k4, k5, k6, k7, k8, k9, k10⟩ := hx'
    refine (hRem_any k1 (v := vm) rfl k3 i hi (by omega)).mono ?_
    rintro e w' ⟨rfl, v', A, M, K⟩
    refine ⟨rfl, v', ⟨⟨g', A, k2.below (K.below5 (Nat.le_refl _) (by have := bx.size; omega))⟩, M, own_kd K k4 (by decide) hne, ?_, h6, h7, h8, h9, h10⟩, (Kz.below bx).trans (Kz.kd K)⟩
    show ((remF _ _ _).length : Int) ≤ s.bx
    rw [remF_len]; omega
  have hmf := hmf5
  obtain ⟨q, hq⟩ : ∃ q, w.heap.size = q := ⟨_, rfl⟩
  rw [hq] at ca hIF
  obtain ⟨am, cm, rfl⟩ := own_shape5 h3
  have c1 := h1.cell (k := 1) (v := .slice am s.ms.length cm) rfl
  have HD : Hid (∀ z : Int, ((∃ k, ∃ h : k < s.ms.length, z = (k : Int) ∧ s.ms[k].tk = t) ∨ (z = -1 ∧ ∀ m ∈ s.ms, m.tk ≠ t)) → (∃ k, ∃ h : k < s.ms.length, z = (k : Int) ∧ dropS s t = ({ s with ms := remF s.ms k h }, true)) ∨ (z = -1 ∧ dropS s t = (s, false))) := by
    rintro z (⟨k, hk, rfl, ht⟩ | ⟨rfl, hn⟩)
    · refine .inl ⟨k, hk, rfl, ?_⟩
      have hex : ∃ k, ∃ h : k < s.ms.length, s.ms[k].tk = t := ⟨k, hk, ht⟩
      unfold dropS
      rw [dif_pos hex]
      have : hex.choose = k := hd _ _ hex.choose_spec.choose hk (hex.choose_spec.choose_spec.trans ht.symm)
      congr 2
      simp only [this]
    · refine .inr ⟨rfl, ?_⟩
      unfold dropS
      rw [dif_neg]
      rintro ⟨k, hk, ht⟩
      exact hn _ (List.getElem_mem hk) ht
  have HN : Hid (∀ x, Below wa.heap.size wa x → DvW D s (.slice am s.ms.length cm) vc x ∧ Kz D vc vc w x) := fun x hx => ⟨(hh.below ba).below hx, Kz.below (ba.trans (hx.mono ba.size))⟩
  clear h1 h2 h3 h4 hh ca
  go_enter Try.func26, Try.ntmps26
  go_wp2_with fail
  refine hIF.mono ?_
  rintro e w2 ⟨⟨z, rfl, hz⟩, b2⟩
  rcases HD.out z hz with ⟨k, hk, rfl, hdr⟩ | ⟨rfl, hdr⟩
  · have hRm := HR.out w2 b2 k hk
    have hk0 : decide ((k : Int) < 0) = false := by simp
    have HDr : Hid _ := hdr
    have hmake : ∀ x, (Instr.typeAssert (.iface 73 (.agg s.ms[k].arr)) 20 73 true).run Try.prog x = .ok (.tuple #[.agg s.ms[k].arr, .bool true]) x := assert_ml2 _
    generalize s.ms[k] = m at *
    clear hIF hz HD HR hd hdr
    go_wp2_with fail
    refine hRm.mono ?_
    rintro e w3 ⟨rfl, v', D3, K3⟩
    have na : Mq w3.heap.size Ml.nul (w3.alloc (.cells Ml.nul.arr 73)) := heap_alloc_new w3 _
    have bb : Below w3.heap.size w3 ((w3.alloc (.cells Ml.nul.arr 73)).setRow w3.heap.size m.arr) := below_row ((Below.refl _ w3).alloc (Nat.le_refl _) _) (Nat.le_refl _) (by rw [size_alloc]; omega) _
    have HX : Hid (DvW D { s with ms := remF s.ms k hk } v' vc ((w3.alloc (.cells Ml.nul.arr 73)).setRow w3.heap.size m.arr) ∧ Kz D vc vc w ((w3.alloc (.cells Ml.nul.arr 73)).setRow w3.heap.size m.arr)) := ⟨D3.below bb, K3.trans (Kz.below bb)⟩
    clear hRm D3 K3 bb
    go_wp2_with (refine na.sd m rfl _ _ rfl rfl rfl ?_)
    go_ret
    exact ⟨congrArg (fun r : Dv × Bool => Ending.returned (Value.bool r.2)) HDr.out.symm, by rw [HDr.out]; exact ⟨_, HX.out⟩⟩
  · have HDr : Hid _ := hdr
    have HX : Hid (DvW D s (.slice am s.ms.length cm) vc w2 ∧ Kz D vc vc w w2) := HN.out w2 b2
    clear hIF hz HD HR hd hdr
    go_wp2
    go_ret
    exact ⟨congrArg (fun r : Dv × Bool => Ending.returned (Value.bool r.2)) HDr.out.symm, by rw [HDr.out]; exact ⟨_, HX.out⟩⟩
end Go.Proofs.Ytfddoindcmdooaa
namespace Go.Proofs.Ytfddoindcmdooaa
open Go.RowKit Go.Proofs.Bits
set_option linter.unusedVariables false
set_option maxRecDepth 1000000
set_option linter.unusedSimpArgs false

/-- The document's driver. -/
structure Dc where
  most : Int
  room : Int
  tk : Int
  lo : Int
  out : List Ml
  inn : List Fr
  l : List Fi
def rA (most room : Int) (vL vO : Value) (tk : Int) (vI : Value) (lo : Int) : Array Value := #[.int .i64 most, .int .i64 room, vL, vO, .int .i64 tk, vI, .int .i64 lo]
abbrev Er (E : Nat) (A : Array Value) (w : World) : Prop := w.heap[E]? = some (.cells A 39 (0, 0))
theorem Er.cell {E : Nat} {A : Array Value} {w : World} (h : Er E A w) {k : Nat} {v : Value} (hv : A[k]? = some v) : w.cell? ⟨E, k, none⟩ = some v := (Lib.cell_of_heap h k).trans hv
theorem Er.free {E : Nat} {A : Array Value} {w : World} (h : Er E A w) (k : Nat) : w.frozen? ⟨E, k, none⟩ = false := by simp [World.frozen?, h]
theorem Er.set {E : Nat} {A : Array Value} {w : World} (h : Er E A w) (k : Nat) (u : Value) : Er E (A.setIfInBounds k u) (w.setCell ⟨E, k, none⟩ u) := by
  unfold Er at *; simp [World.setCell, Array.getElem?_modify, h]
def rmC (m : Ml) : List Value := m.f.cells ++ [.int .i64 m.tk]
theorem rmC_len (m : Ml) : (rmC m).length = 13 := by simp [rmC, Fr.cells, m.f.hdata]
theorem rmC_one (m : Ml) : ∀ u ∈ rmC m, u.oneCell' = true := by
  intro u hu
  unfold rmC at hu
  rcases List.mem_append.1 hu with h | h
  · exact DF.one m.f u h
  · simp at h; subst h; rfl
def DR : Dec Ml := ⟨rmC, 13, by decide, rmC_len, rmC_one⟩
/-- A row that is only read, its block's type, its room. -/
structure RT (T c : Nat) {α : Type} (dec : α → List Value) (w : World) (v : Value) (l : List α) : Prop where
  wide : Wide c dec w v l
  typ : ∀ b, v.ownBlock = some b → ∃ A fr, w.heap[b]? = some (.cells A T fr)
  cap : ∀ ao n k, v = .slice ao n k → n ≤ k
theorem Wide.same {c : Nat} {α : Type} {dec : α → List Value} {w w' : World} {v : Value} {l : List α} (h : Wide c dec w v l) (hs : w.heap.size ≤ w'.heap.size) (hb : ∀ b, v.ownBlock = some b → b < w.heap.size → w'.heap[b]? = w.heap[b]?) : Wide c dec w' v l := by
  obtain ⟨ao, cap, rfl, h0, hc⟩ := h
  refine ⟨ao, cap, rfl, h0, fun k hk => ?_⟩
  obtain ⟨b, off, ha, hlt, hr⟩ := hc k hk
  refine ⟨b, off, ha, by omega, fun j u hj => ?_⟩
  have := hb b (by rw [ha]; rfl) hlt
  exact (World.cell?_of_block (a := ⟨b, off + k * c + j, none⟩) this).trans (hr j u hj)
theorem RT.same {T c : Nat} {α : Type} {dec : α → List Value} {w w' : World} {v : Value} {l : List α} (h : RT T c dec w v l) (hs : w.heap.size ≤ w'.heap.size) (hb : ∀ b A fr, v.ownBlock = some b → w.heap[b]? = some (.cells A T fr) → w'.heap[b]? = w.heap[b]?) : RT T c dec w' v l := by
  have hb' : ∀ b, v.ownBlock = some b → b < w.heap.size → w'.heap[b]? = w.heap[b]? := fun b e _ => by
    obtain ⟨A, fr, h1⟩ := h.typ b e
    exact hb b A fr e h1
  refine ⟨h.wide.same hs hb', fun b e => ?_, h.cap⟩
  obtain ⟨A, fr, h1⟩ := h.typ b e
  exact ⟨A, fr, (hb b A fr e h1).trans h1⟩
theorem RT.below {T c : Nat} {α : Type} {dec : α → List Value} {w w' : World} {v : Value} {l : List α} (h : RT T c dec w v l) (hb : Below w.heap.size w w') : RT T c dec w' v l :=
  h.same hb.size (fun b A fr _ h1 => hb.block b (Array.getElem?_eq_some_iff.1 h1).1)
theorem RT.grown {T c q : Nat} {α : Type} {dec : α → List Value} {w w' : World} {v : Value} {l : List α} (h : RT T c dec w v l) (hg : w.grownBy w' (some q)) (hq : v.ownBlock ≠ some q) : RT T c dec w' v l :=
  h.same hg.size (fun b A fr e h1 => hg.block b (Array.getElem?_eq_some_iff.1 h1).1 (fun e' => hq (e.trans e')))
theorem RT.ne {T c q : Nat} {α : Type} {dec : α → List Value} {w : World} {v : Value} {l : List α} (h : RT T c dec w v l) {A : Array Value} {T' : Nat} {fr : Nat × Nat} (hq : w.heap[q]? = some (.cells A T' fr)) (ht : T ≠ T') : v.ownBlock ≠ some q := fun e => by
  obtain ⟨A', fr', h1⟩ := h.typ q e
  rw [hq] at h1
  simp at h1
  exact ht h1.2.1.symm
theorem RT.nil (T c : Nat) {α : Type} (dec : α → List Value) (w : World) : RT T c dec w (.slice none 0 0) [] :=
  ⟨⟨none, 0, rfl, fun _ => ⟨rfl, rfl⟩, fun k hk => by simp at hk⟩, (fun b e => by cases e), (fun ao n k e => by cases e; omega)⟩
theorem RT.own {α : Type} (D : Dec α) {T B : Nat} {w : World} {v : Value} {l : List α} (h : w.ownsRow B T D.c v l.length (flatW D l)) : RT T D.c D.dec w v l := by
  refine ⟨wide_of_own D h, fun b e => ?_, fun ao n k e => ?_⟩
  · obtain ⟨_, cur, hc⟩ := own_of h e
    exact ⟨cur, _, hc⟩
  · rcases h.2 with ⟨rfl, _⟩ | ⟨g, cap, cur, rfl, hB, hcur, h1, _⟩
    · cases e; omega
    · cases e; exact h1
/-- The document's driver d lies at E: vI its queue. -/
structure DcW (E : Nat) (d : Dc) (vI : Value) (w : World) : Prop where
  ex : ∃ vL vO, Er E (rA d.most d.room vL vO d.tk vI d.lo) w ∧ RT 60 3 Fi.cells w vL d.l ∧ RT 90 13 rmC w vO d.out
  inn : RT 45 12 Fr.cells w vI d.inn
  b0 : (d.out.length : Int) ≤ d.most
  b1 : d.most ≤ 64
  r0 : (d.inn.length : Int) ≤ d.room
  r1 : d.room ≤ 64
  l0 : d.l.length ≤ 32
  t0 : 0 ≤ d.tk
theorem DcW.lt {E : Nat} {d : Dc} {vI : Value} {w : World} (h : DcW E d vI w) : E < w.heap.size := by
  obtain ⟨vL, vO, h1, _⟩ := h.ex
  exact (Array.getElem?_eq_some_iff.1 h1).1
theorem DcW.below {E : Nat} {d : Dc} {vI : Value} {w w' : World} (h : DcW E d vI w) (hb : Below w.heap.size w w') : DcW E d vI w' := by
  have hl := h.lt
  obtain ⟨⟨vL, vO, h1, h2, h3⟩, h4, h5, h6, h7, h8, h9, h10⟩ := h
  exact ⟨⟨vL, vO, (hb.block E hl).trans h1, h2.below hb, h3.below hb⟩, h4.below hb, h5, h6, h7, h8, h9, h10⟩
/-- A program's step leaves the document's driver. -/
theorem DcW.kz {E D : Nat} {d : Dc} {s : Dv} {vI vm vc vc' : Value} {w w' : World} (h : DcW E d vI w) (hd : DvW D s vm vc w) (hk : Kz D vc vc' w w') (hs : ∀ b, vI.ownBlock = some b → vc.ownBlock ≠ some b) : DcW E d vI w' := by
  obtain ⟨⟨vL, vO, h1, h2, h3⟩, h4, h5, h6, h7, h8, h9, h10⟩ := h
  obtain ⟨g, hD, _⟩ := hd.at'
  have hq := hd.qu
  have key : ∀ (b : Nat) (A : Array Value) (T : Nat) (fr : Nat × Nat), T ≠ 73 → T ≠ 68 → vc.ownBlock ≠ some b → w.heap[b]? = some (.cells A T fr) → w'.heap[b]? = w.heap[b]? := fun b A T fr ht hd' hv hb => by
    refine (hk.typ b A T fr ht (fun e => ?_) hv hb).trans hb.symm
    rw [e, hD] at hb
    simp at hb
    exact hd' hb.2.1.symm
  have key2 : ∀ (b : Nat) (A : Array Value) (T : Nat) (fr : Nat × Nat), T ≠ 73 → T ≠ 68 → T ≠ 45 → w.heap[b]? = some (.cells A T fr) → w'.heap[b]? = w.heap[b]? := fun b A T fr ht hd' hf hb => by
    refine key b A T fr ht hd' (fun e => ?_) hb
    obtain ⟨_, cur, hc⟩ := own_of hq e
    rw [hb] at hc
    simp at hc
    exact hf hc.2.1
  exact ⟨⟨vL, vO, (key2 E _ 39 _ (by decide) (by decide) (by decide) h1).trans h1, h2.same hk.size (fun b A fr _ hb => key2 b A 60 fr (by decide) (by decide) (by decide) hb), h3.same hk.size (fun b A fr _ hb => key2 b A 90 fr (by decide) (by decide) (by decide) hb)⟩,
    h4.same hk.size (fun b A fr e hb => key b A 45 fr (by decide) (by decide) (hs b e) hb), h5, h6, h7, h8, h9, h10⟩
/-- A step of the document's leaves the program's driver. -/
theorem DvW.doc {E D : Nat} {d : Dc} {s : Dv} {vI vm vc : Value} {w w' : World} (h : DvW D s vm vc w) (hd : DcW E d vI w) (hDE : D < E) (hg : w.grownBy w' (some E)) : DvW D s vm vc w' := by
  obtain ⟨vL, vO, h1, _⟩ := hd.ex
  refine h.other hg hDE (fun e => ?_) (fun e => ?_)
  · obtain ⟨_, cur, hc⟩ := own_of h.mb e
    rw [h1] at hc; simp at hc
  · obtain ⟨_, cur, hc⟩ := own_of h.qu e
    rw [h1] at hc; simp at hc
theorem infoRm : (Try.prog.info? 90).map (·.size) = some 13 := by kernel_rfl
theorem rm_fr {w : World} {b o : Nat} {m : Ml} (h : w.rangeAt b o (rmC m)) : w.rangeAt b o m.f.cells := fun j u hj => h j u (by
  unfold rmC
  rw [List.getElem?_append_left (List.getElem?_eq_some_iff.1 hj).1]
  exact hj)
theorem rm_tk {w : World} {b o : Nat} {m : Ml} (h : w.rangeAt b o (rmC m)) : w.cell? ⟨b, o + 12, none⟩ = some (.int .i64 m.tk) := h 12 _ (by
  unfold rmC
  have hl : m.f.cells.length = 12 := by simp [Fr.cells, m.f.hdata]
  rw [List.getElem?_append_right (by omega), hl]; rfl)
theorem Wide.at0 {c : Nat} {α : Type} {dec : α → List Value} {w : World} {v : Value} {l : List α} (h : Wide c dec w v l) (k : Nat) (hk : k < l.length) : ∃ b off cap, v = .slice (some ⟨b, off, none⟩) l.length cap ∧ b < w.heap.size ∧ w.rangeAt b (off + k * c) (dec l[k]) := by
  obtain ⟨ao, cap, rfl, h0, hc⟩ := h
  obtain ⟨b, off, rfl, hlt, hr⟩ := hc k hk
  exact ⟨b, off, cap, rfl, hlt, hr⟩
theorem Wide.shape {c : Nat} {α : Type} {dec : α → List Value} {w : World} {v : Value} {l : List α} (h : Wide c dec w v l) : ∃ ao cap, v = .slice ao l.length cap := by
  obtain ⟨ao, cap, rfl, _⟩ := h
  exact ⟨ao, cap, rfl⟩
set_option maxHeartbeats 2000000 in
theorem ENext_any {E : Nat} {d : Dc} {vI : Value} {w : World} (h : DcW E d vI w) :
    Calls Try.prog 24 #[.pointer (some ⟨E, 0, none⟩)] w fun e w' => e = .returned (.tuple #[.agg (nextF d.out).1.arr, .bool (nextF d.out).2]) ∧ Below w.heap.size w w' := by
  have hl := h.lt
  obtain ⟨⟨vL, vO, h1, h2, h3⟩, _⟩ := h
  obtain ⟨wa, hwa⟩ : ∃ wa, w.alloc (.cells Fr.nul.arr 45) = wa := ⟨_, rfl⟩
  have ba : Below w.heap.size w wa := by rw [← hwa]; exact (Below.refl _ _).alloc (Nat.le_refl _) _
  have fa : Fa w.heap.size Fr.nul wa := by rw [← hwa]; exact Fa.new w Fr.nul
  have A2 : Er E _ wa := (ba.block E hl).trans h1
  have c3 := A2.cell (k := 3) (v := vO) rfl
  have O2 := h3.below ba
  obtain ⟨q, hq⟩ : ∃ q, w.heap.size = q := ⟨_, rfl⟩
  rw [hq] at fa
  have hwa2 : w.alloc (.cells #[.int .u32 0, .bool false, .bool false, .int .i64 0, .int .u8 0, .int .u8 0, .int .u8 0, .int .u8 0, .int .u8 0, .int .u8 0, .int .u8 0, .int .u8 0] 45) = wa := hwa
  have HB : Hid (∀ f : Fr, Below w.heap.size w (wa.setRow q f.arr)) := fun f => below_row ba (q := q) (by omega) (by have := fa.lt; omega) _
  clear hwa h1 h2 h3 A2 ba
  cases ho : d.out with
  | nil =>
    rw [ho] at O2
    obtain ⟨ao, cap, rfl⟩ := O2.wide.shape
    have fb := fa.row Fr.nul
    have hld := load_fa _ q _ fb
    clear O2
    unfold nextF
    go_enter Try.func24, Try.ntmps24
    go_wp2_with (first | refine fa.sd Fr.nul rfl _ _ rfl rfl rfl ?_)
    exact bodyPost_ret (v := .tuple #[.agg Fr.nul.arr, .bool false]) (by simp [results, Try.results24, asAddr, hld]) rfl ⟨rfl, HB.out _⟩
  | cons m r =>
    rw [ho] at O2
    obtain ⟨b, off, cap, rfl, hb, hR⟩ := O2.wide.at0 0 (by simp)
    have R2 : wa.rangeAt b off m.f.cells := by
      have := rm_fr hR
      simpa using this
    have fb := fa.row m.f
    have hld := load_fa _ q _ fb
    have hne : (((m :: r).length : Int) == 0) = false := by rw [beq_eq_false_iff_ne]; simp; omega
    have hle : (0 : Int) < ((m :: r).length : Int) := by simp
    show Calls Try.prog 24 #[.pointer (some ⟨E, 0, none⟩)] w fun e w' => e = .returned (.tuple #[.agg m.f.arr, .bool true]) ∧ Below w.heap.size w w'
    generalize (m :: r).length = n at *
    clear O2 hR ho
    generalize m.f = f at *
    go_enter Try.func24, Try.ntmps24
    go_wp2_with (first | refine fld_ld5 R2 rfl _ rfl rfl ?_ | refine fa.sd f rfl _ _ rfl rfl rfl ?_)
    exact bodyPost_ret (v := .tuple #[.agg f.arr, .bool true]) (by simp [results, Try.results24, asAddr, hld]) rfl ⟨rfl, HB.out _⟩
end Go.Proofs.Ytfddoindcmdooaa
namespace Go.Proofs.Ytfddoindcmdooaa
open Go.RowKit Go.Proofs.Bits
set_option linter.unusedVariables false
set_option maxRecDepth 1000000
set_option linter.unusedSimpArgs false

theorem wrap32 (n : Nat) (h : n < 4294967296) : IntKind.wrap .u32 (n : Int) = (n : Int) := by
  simp [IntKind.wrap, IntKind.signed, IntKind.bits]
  omega
theorem bits_eq (op : BinOp) (x y : Int) : bits op .u32 x y = (((match op with | .and => BitVec.ofInt 32 x &&& BitVec.ofInt 32 y | .or => BitVec.ofInt 32 x ||| BitVec.ofInt 32 y | .xor => BitVec.ofInt 32 x ^^^ BitVec.ofInt 32 y | _ => BitVec.ofInt 32 x &&& ~~~ BitVec.ofInt 32 y).toNat : Nat) : Int) := by
  unfold bits
  exact wrap32 _ (BitVec.isLt _)
theorem xor_and_zero (A B M : BitVec 32) : ((A ^^^ B) &&& M = 0#32) ↔ (B &&& M = A &&& M) := by
  constructor
  · intro h
    apply BitVec.eq_of_getLsbD_eq
    intro i hi
    have := congrArg (·.getLsbD i) h
    simp at this ⊢
    cases hA : A.getLsbD i <;> cases hB : B.getLsbD i <;> cases hM : M.getLsbD i <;> simp_all
  · intro h
    apply BitVec.eq_of_getLsbD_eq
    intro i hi
    have := congrArg (·.getLsbD i) h
    simp at this ⊢
    cases hA : A.getLsbD i <;> cases hB : B.getLsbD i <;> cases hM : M.getLsbD i <;> simp_all
def fiD (x : Fi) (f : Fr) : Bool := (x.ext == f.ext) && (bits .and .u32 x.id x.mask == bits .and .u32 f.id x.mask)
theorem fiB_eq (x : Fi) (f : Fr) : fiB x f = fiD x f := by
  unfold fiB fiD
  have h1 : (f.ext == x.ext) = (x.ext == f.ext) := by cases f.ext <;> cases x.ext <;> rfl
  rw [h1]
  congr 1
  rw [Bool.eq_iff_iff, beq_iff_eq, beq_iff_eq]
  rw [bits_eq .xor, bits_eq .and, bits_eq .and, bits_eq .and]
  simp only
  have h2 : BitVec.ofInt 32 (((BitVec.ofInt 32 (f.id : Int) ^^^ BitVec.ofInt 32 (x.id : Int)).toNat : Nat) : Int) = BitVec.ofInt 32 (f.id : Int) ^^^ BitVec.ofInt 32 (x.id : Int) := by
    rw [BitVec.ofInt_natCast, BitVec.ofNat_toNat, BitVec.setWidth_eq]
  rw [h2]
  constructor
  · intro h
    have h3 : (BitVec.ofInt 32 (f.id : Int) ^^^ BitVec.ofInt 32 (x.id : Int)) &&& BitVec.ofInt 32 (x.mask : Int) = 0#32 := by
      apply BitVec.eq_of_toNat_eq; simpa using h
    rw [(xor_and_zero _ _ _).1 h3]
  · intro h
    have h3 : BitVec.ofInt 32 (x.id : Int) &&& BitVec.ofInt 32 (x.mask : Int) = BitVec.ofInt 32 (f.id : Int) &&& BitVec.ofInt 32 (x.mask : Int) := by
      apply BitVec.eq_of_toNat_eq; exact_mod_cast h
    rw [(xor_and_zero _ _ _).2 h3]; rfl
theorem pas_eq (l : List Fi) (f : Fr) : pasV l f = ((f.chk == 0) && (decide (l.length = 0) || l.any (fiD · f))) := by
  unfold pasV
  congr 2
  induction l with
  | nil => rfl
  | cons a r ih => simp [fiB_eq]
set_option maxHeartbeats 2000000 in
theorem EPasses_any {E : Nat} {d : Dc} {vI : Value} {w : World} (h : DcW E d vI w) (f : Fr) :
    Calls Try.prog 28 #[.pointer (some ⟨E, 0, none⟩), .agg f.arr] w fun e w' => e = .returned (.bool (pasV d.l f)) ∧ Below w.heap.size w w' := by
  have hl := h.lt
  have hl32 := h.l0
  obtain ⟨⟨vL, vO, h1, h2, h3⟩, _⟩ := h
  obtain ⟨wa, hwa⟩ : ∃ wa, w.alloc (.cells f.arr 45) = wa := ⟨_, rfl⟩
  have ba : Below w.heap.size w wa := by rw [← hwa]; exact (Below.refl _ _).alloc (Nat.le_refl _) _
  have fa : Fa w.heap.size f wa := by rw [← hwa]; exact Fa.new w f
  have hC := r2Check_any f wa
  have HV : Hid (pasV d.l f = ((f.chk == 0) && (decide (d.l.length = 0) || d.l.any (fiD · f)))) := pas_eq _ _
  have HI : Hid (∀ x, Below w.heap.size w x → Er E (rA d.most d.room vL vO d.tk vI d.lo) x ∧ Wide 3 Fi.cells x vL d.l) := fun x hx => ⟨(hx.block E hl).trans h1, (h2.below hx).wide⟩
  obtain ⟨ao, cap, rfl⟩ := h2.wide.shape
  obtain ⟨q, hq⟩ : ∃ q, w.heap.size = q := ⟨_, rfl⟩
  have sa : q < wa.heap.size := by rw [← hq]; exact fa.lt
  rw [hq] at fa ba HI
  unfold Fr.val at hC
  generalize pasV d.l f = V at *
  generalize hz0 : f.chk = z at *
  clear h1 h2 h3
  by_cases hz : z = 0
  · have d1 : (z != 0) = false := by simpa using hz
    have HE : Hid (V = (decide (d.l.length = 0) || d.l.any (fiD · f))) := by show _ = _; rw [HV.out, hz]; rfl
    clear HV hz hz0
    go_enter Try.func28, Try.ntmps28
    go_upto_region 1 with fail
    go_wp2_with (refine fa.ld rfl _ rfl rfl ?_)
    refine hC.mono ?_
    rintro e w2 ⟨rfl, b2⟩
    have B2 : Below q w w2 := ba.trans (b2.mono (by omega))
    have f2 := fa.below5 b2
    clear hC fa
    go_wp2
    go_loopw [5] (fun iv x => ∃ k : Nat, k ≤ d.l.length ∧ iv = .int .i64 k ∧ (∀ j (hj : j < d.l.length), j < k → fiD d.l[j] f = false) ∧ Below w2.heap.size w2 x) (fun iv _ => d.l.length - (intOf iv).toNat)
    case atStart => exact ⟨0, Nat.zero_le _, rfl, (fun j _ h => by omega), Below.refl _ _⟩
    case round =>
      obtain ⟨k, hk, rfl, H1, bx⟩ := hrel
      have BX : Below q w wr := B2.trans (bx.mono (by have := b2.size; omega))
      obtain ⟨A3, W3⟩ := HI.out wr BX
      have c2 := A3.cell (k := 2) (v := .slice ao d.l.length cap) rfl
      have fx := f2.below5 bx
      by_cases hkl : k < d.l.length
      · obtain ⟨b, off, cap', hv, hb, hR⟩ := W3.at0 k hkl
        have hao : ao = some ⟨b, off, none⟩ := by injection hv
        subst hao
        have xn := Xa.new wr Fi.nul
        have HT : Hid (fiD d.l[k] f = true → V = true) := fun h => by
          rw [HE.out, List.any_eq_true.2 ⟨d.l[k], List.getElem_mem hkl, h⟩, Bool.or_true]
        have HJ : Hid (fiD d.l[k] f = false → ∀ j (hj : j < d.l.length), j < k + 1 → fiD d.l[j] f = false) := by
          intro h2 j hj h1
          rcases Nat.lt_or_ge j k with h3 | h3
          · exact H1 j hj h3
          · have : j = k := by omega
            subst this; exact h2
        have HD : Hid (fiD d.l[k] f = ((d.l[k].ext == f.ext) && (bits .and .u32 d.l[k].id d.l[k].mask == bits .and .u32 f.id d.l[k].mask))) := rfl
        generalize fiD d.l[k] f = bv at *
        generalize d.l[k] = x at *
        have b3 : Below wr.heap.size wr ((wr.alloc (.cells Fi.nul.arr 60)).setRow wr.heap.size x.arr) := below_row ((Below.refl _ wr).alloc (Nat.le_refl _) _) (Nat.le_refl _) (by rw [size_alloc]; omega) _
        have x3 := xn.row x
        obtain ⟨y0, y1, y2⟩ := x3.cells
        have f3 := fx.below5 b3
        have z0 := f3.c0
        have z1 := f3.c1
        have bx3 := bx.trans (b3.mono bx.size)
        generalize hW : (wr.alloc (.cells Fi.nul.arr 60)).setRow wr.heap.size x.arr = w3 at *
        obtain ⟨p, hp⟩ : ∃ p, wr.heap.size = p := ⟨_, rfl⟩
        rw [hp] at y0 y1 y2 xn
        clear H1 HI A3 W3 BX fx bx x3 f3 hv b3
        go_upto_region 7 with (first | refine fi_ld hR rfl _ rfl rfl ?_ | refine xn.sd x rfl _ _ rfl rfl rfl ?_)
        rw [hp] at hW
        rw [hW]
        clear hR xn hW c2
        by_cases he : x.ext = f.ext
        · have he2 : (x.ext == f.ext) = true := by simpa using he
          have HB : Hid (bv = (bits .and .u32 x.id x.mask == bits .and .u32 f.id x.mask)) := by show _ = _; rw [HD.out, he2, Bool.true_and]
          clear HD he
          by_cases hm : bits .and .u32 x.id x.mask = bits .and .u32 f.id x.mask
          · have hm2 : (bits .and .u32 x.id x.mask == bits .and .u32 f.id x.mask) = true := by simpa using hm
            have HVt : Hid (V = true) := HT.out (HB.out.trans hm2)
            clear HT HJ HB hm
            go_wp2
            go_ret
            exact ⟨ret_bool HVt.out.symm, by rw [hq]; exact B2.trans (bx3.mono (by have := b2.size; omega))⟩
          · have hm2 : (bits .and .u32 x.id x.mask == bits .and .u32 f.id x.mask) = false := by simpa using hm
            have HJ2 : Hid _ := HJ.out (HB.out.trans hm2)
            clear HT HJ HB hm
            go_wp2
            go_roundw
            case rel => exact ⟨k + 1, by omega, by go_num, HJ2.out, bx3⟩
            case measure => simp [intOf]; omega
        · have he2 : (x.ext == f.ext) = false := by simpa using he
          have HJ2 : Hid _ := HJ.out (by rw [HD.out, he2, Bool.false_and])
          clear HT HJ HD he
          go_wp2
          go_roundw
          case rel => exact ⟨k + 1, by omega, by go_num, HJ2.out, bx3⟩
          case measure => simp [intOf]; omega
      · have hkl2 : decide (k < d.l.length) = false := by simp; omega
        have HF : Hid (V = decide (d.l.length = 0)) := by
          show _ = _
          rw [HE.out]
          have : d.l.any (fiD · f) = false := by
            rw [List.any_eq_false]
            intro y hy
            obtain ⟨j, hj, rfl⟩ := List.getElem_of_mem hy
            simp [H1 j hj (by omega)]
          rw [this, Bool.or_false]
        have hle : ((d.l.length : Int) == 0) = decide (d.l.length = 0) := by rw [Bool.eq_iff_iff]; simp
        clear H1 HI HE hkl A3 W3
        go_wp2
        go_ret
        exact ⟨ret_bool (by rw [HF.out]; simp), by rw [hq]; exact BX⟩
  · have d1 : (z != 0) = true := by simpa using hz
    have HE : Hid (V = false) := by show _ = _; rw [HV.out, show (z == 0) = false by simpa using hz]; rfl
    clear HV hz hz0
    go_enter Try.func28, Try.ntmps28
    go_upto_region 1 with fail
    go_wp2_with (refine fa.ld rfl _ rfl rfl ?_)
    refine hC.mono ?_
    rintro e w2 ⟨rfl, b2⟩
    have B2 : Below q w w2 := ba.trans (b2.mono (by omega))
    clear hC fa
    go_wp2
    go_ret
    exact ⟨ret_bool HE.out.symm, by rw [hq]; exact B2⟩
end Go.Proofs.Ytfddoindcmdooaa
namespace Go.Proofs.Ytfddoindcmdooaa
open Go.RowKit Go.Proofs.Bits
set_option linter.unusedVariables false
set_option maxRecDepth 1000000

/-- A frame whose bytes from n on up to k are 0. -/
def Fr.hole (f : Fr) (n k : Nat) (hk : n ≤ k ∧ k ≤ 8) : Fr := { f with data := f.data.take n ++ List.replicate (k - n) 0 ++ f.data.drop k, hdata := by simp [f.hdata]; omega }
theorem hole_full (f : Fr) (n : Nat) (hn : n ≤ 8) : f.hole n 8 ⟨hn, Nat.le_refl _⟩ = f.cut n hn := by
  simp only [Fr.hole, Fr.cut, Fr.mk.injEq, true_and]
  rw [List.drop_eq_nil_of_le (by rw [f.hdata]; omega), List.append_nil]
theorem hole_none (f : Fr) (n : Nat) (hn : n ≤ 8) : f.hole n n ⟨Nat.le_refl _, hn⟩ = f := by
  obtain ⟨id, ext, rem, len, data, h1, h2, h3⟩ := f
  simp [Fr.hole]
theorem hole_arr (f : Fr) (n k : Nat) (hk : n ≤ k ∧ k ≤ 8) (h8 : k < 8) : (f.hole n k hk).arr.setIfInBounds (4 + k) (.int .u8 0) = (f.hole n (k + 1) ⟨by omega, by omega⟩).arr := by
  obtain ⟨id, ext, rem, len, data, h1, h2, h3⟩ := f
  simp only [Fr.hole, Fr.arr, Fr.cells, List.setIfInBounds_toArray]
  congr 1
  rw [show 4 + k = k + 1 + 1 + 1 + 1 by omega]
  simp only [List.cons_append, List.nil_append, List.set_cons_succ]
  congr 4
  have hd : data.drop k = data[k]'(by omega) :: data.drop (k + 1) := List.drop_eq_getElem_cons (by omega)
  have e0 : (Value.int IntKind.u8 0) = (fun c : UInt8 => Value.int .u8 (c.toNat : Int)) 0 := rfl
  rw [hd, show k + 1 - n = (k - n) + 1 by omega, List.replicate_succ', e0, ← List.map_set]
  congr 1
  rw [List.set_append_right _ _ (by simp; omega)]
  simp [h3]
  rw [show k - (min n 8 + (k - n)) = 0 by omega, hd]
  rfl
theorem Fa.holes {q : Nat} {f : Fr} {w : World} {n k : Nat} {hk : n ≤ k ∧ k ≤ 8} (h : Fa q (f.hole n k hk) w) (h8 : k < 8) : Fa q (f.hole n (k + 1) ⟨by omega, by omega⟩) (w.setCell ⟨q, 4 + k, none⟩ (.int .u8 0)) := by
  unfold Fa
  rw [h.set, hole_arr f n k hk h8]

set_option maxHeartbeats 4000000 in
theorem r2Plain_any (f : Fr) (w : World) :
    Calls Try.prog 16 #[f.val] w fun e w' => e = .returned f.plain.val ∧ Below w.heap.size w w' := by
  have fA : Fa w.heap.size f ((w.alloc (.cells f.arr 45)).alloc (.cells Fr.nul.arr 45)) := (Fa.new w f).alloc _
  have fB : Fa (w.heap.size + 1) Fr.nul ((w.alloc (.cells f.arr 45)).alloc (.cells Fr.nul.arr 45)) := by
    have := Fa.new (w.alloc (.cells f.arr 45)) Fr.nul
    rw [size_alloc] at this
    exact this
  have bA : Below w.heap.size w ((w.alloc (.cells f.arr 45)).alloc (.cells Fr.nul.arr 45)) := ((Below.refl _ _).alloc (Nat.le_refl _) _).alloc (by rw [size_alloc]; omega) _
  have sA : ((w.alloc (.cells f.arr 45)).alloc (.cells Fr.nul.arr 45)).heap.size = w.heap.size + 2 := by rw [size_alloc, size_alloc]
  have hbl := f.bytes_le
  have HP : Hid (∀ h, f.plain = f.cut f.bytes h) := fun _ => rfl
  unfold Fr.val
  go_enter Try.func16, Try.ntmps16
  go_wp2_with (refine fA.ld rfl _ rfl rfl ?_)
  change Calls Try.prog 35 _ ((w.alloc (.cells f.arr 45)).alloc (.cells Fr.nul.arr 45)) _
  generalize ((w.alloc (.cells f.arr 45)).alloc (.cells Fr.nul.arr 45)) = A at *
  refine (r2Bytes_any f _).mono ?_
  rintro e w1 ⟨rfl, b1⟩
  have f1 : Fa w.heap.size f w1 := (b1.block _ (by omega)).trans fA
  have g1 : Fa (w.heap.size + 1) Fr.nul w1 := (b1.block _ (by omega)).trans fB
  have B1 := bA.trans (b1.mono (by omega))
  have s1 := b1.size
  generalize hn : f.bytes = n at *
  generalize hq : w.heap.size = q at *
  clear fA fB bA b1
  go_wp2_with fail
  go_loopw [3] (fun i wr => ∃ (k : Nat) (hk : n ≤ k ∧ k ≤ 8), i = .int .i64 k ∧ Fa q (f.hole n k hk) wr ∧ Fa (q + 1) Fr.nul wr ∧ Below q w wr ∧ q + 1 < wr.heap.size) (fun i _ => 8 - (intOf i).toNat)
  case atStart => exact ⟨n, ⟨Nat.le_refl _, hbl⟩, rfl, by rw [hole_none f n hbl]; exact f1, g1, B1, by omega⟩
  case round =>
    obtain ⟨k, hk, rfl, f2, g2, B2, l2⟩ := hrel
    clear f1 g1 B1
    by_cases hk8 : k < 8
    · have f3 := f2.holes hk8
      have cD : wr.cell? ⟨q, 4 + k, none⟩ = some _ := (Lib.cell_of_heap f2 (4 + k)).trans ((f.hole n k hk).arrD k hk8)
      have zD := f2.frozen (4 + k)
      have g3 := g2.other (p := ⟨q, 4 + k, none⟩) (by simp) (.int .u8 0)
      have B3 := B2.setCell (p := ⟨q, 4 + k, none⟩) (Nat.le_refl q) (.int .u8 0)
      have l3 : q + 1 < (wr.setCell ⟨q, 4 + k, none⟩ (.int .u8 0)).heap.size := g3.lt
      clear f2 g2 B2
      go_wp2
      go_roundw
      case rel => exact ⟨k + 1, ⟨by omega, by omega⟩, by go_num, f3, g3, B3, l3⟩
      case measure => simp [intOf]; omega
    · obtain rfl : k = 8 := by omega
      rw [hole_full f n hbl] at f2
      have D3 := g2.row (f.cut n hbl)
      have B3 := below_row (q := q + 1) B2 (by omega) (by omega) (f.cut n hbl).arr
      go_wp2_with (first | refine f2.ld rfl _ rfl rfl ?_ | refine g2.sd (f.cut n hbl) rfl _ _ rfl rfl rfl ?_)
      refine bodyPost_ret (v := .agg (f.cut n hbl).arr) (results_cell_row rfl _ _ (q + 1) 45 (f.cut n hbl).arr (0, 0) _ rfl D3 Try.underlying45 rfl (by rw [(f.cut n hbl).arr_size]; exact infoF)) rfl ⟨by rw [HP.out hbl], by rw [hq]; exact B3⟩
end Go.Proofs.Ytfddoindcmdooaa
namespace Go.Proofs.Ytfddoindcmdooaa
open Go.RowKit Go.Proofs.Bits
set_option linter.unusedVariables false
set_option maxRecDepth 1000000
set_option linter.unusedSimpArgs false

theorem wp_bs0g {t e : TypeId} {z : Value} {c y : Nat} (hu : Try.prog.underlying t = some (.slice e)) (hinfo : (Try.prog.info? e).map (fun i => (i.zero, i.size, i.bytes)) = some (some z, c, y)) {o : Oper} {a : Act} {w : World} {K : Act → World → Prop} {Q : Exit → Act → World → Prop} (ho : o.op = .buildSlice t 0 #[]) (h : K (a.put o.dst (.slice (some ⟨w.heap.size, 0, none⟩) 0 0)) (w.alloc (.cells #[] e))) : o.wp Try.prog a w K Q := by
  obtain ⟨i0, hi0, hz0, hz1, hz2⟩ := info_parts hinfo
  unfold Oper.wp execOp
  simp [ho, Instr.buildSlice, go_sem, run_underlying hu, zeroValue, sizeOf, typeInfo, hi0, hz0, hz1, Instr.fill]
  exact h
theorem cut_tailO (b off n cap : Nat) (h : 1 ≤ n) (hc : n ≤ cap) (W : World) : (Instr.sliceAt 37 (.slice (some ⟨b, off, none⟩) n cap) (some (.int .i64 1)) none none).run Try.prog W = .ok (.slice (some ⟨b, if cap = 1 then off else off + 12, none⟩) (n - 1) (cap - 1)) W := by
  obtain ⟨i0, hi, hz0, hz1, hz2⟩ := info_parts infoFZ
  have h1 : (1 : Int) ≤ (n : Int) := by omega
  have h2 : (n : Int) ≤ (cap : Int) := by omega
  simp [Instr.sliceAt, run_underlying Try.underlying37, go_sem, sizeOf, typeInfo, hi, hz1, Addr.add, h1, h2]
  split <;> rfl
theorem Wide.tail {w : World} {b off n cap : Nat} {l : List Fr} (h : Wide 12 Fr.cells w (.slice (some ⟨b, off, none⟩) n cap) l) (hn : l.length ≤ cap) (h0 : 0 < l.length) : Wide 12 Fr.cells w (.slice (some ⟨b, if cap = 1 then off else off + 12, none⟩) (l.length - 1) (cap - 1)) l.tail := by
  obtain ⟨ao, cap', hv, _, hc⟩ := h
  injection hv with e1 e2 e3
  subst e1 e3
  refine ⟨_, _, by rw [List.length_tail], (fun h => by cases h), fun k hk => ?_⟩
  rw [List.length_tail] at hk
  obtain ⟨b', off', e, hlt, hr⟩ := hc (k + 1) (by omega)
  injection e with e
  injection e with e1 e2
  subst e1 e2
  refine ⟨b, _, rfl, hlt, ?_⟩
  rw [if_neg (by omega), List.getElem_tail]
  rw [show off + 12 + k * 12 = off + (k + 1) * 12 by omega]
  exact hr
/-- Fetch of the document, as a function. -/
def fetchC (d : Dc) : Dc × Fr × Bool := if 0 < d.inn.length then ({ d with inn := d.inn.tail }, d.inn.headD Fr.nul, true) else (d, Fr.nul, false)
/-- What a step of the document leaves. -/
def DcP (E : Nat) (d : Dc) (vI : Value) (w w' : World) : Prop := ∃ vI', DcW E d vI' w' ∧ w.grownBy w' (some E) ∧ ∀ b, b < w.heap.size → vI'.ownBlock = some b → vI.ownBlock = some b
theorem DcW.stay {E : Nat} {d : Dc} {vI : Value} {w w' : World} (h : DcW E d vI w) (hb : Below w.heap.size w w') : DcP E d vI w w' := ⟨vI, h.below hb, grown_below hb _, fun _ _ e => e⟩
theorem headD_get (l : List Fr) (h : 0 < l.length) : l.headD Fr.nul = l[0] := by
  cases l with
  | nil => simp at h
  | cons a b => simp
set_option maxHeartbeats 4000000 in
theorem EFetch_any {E : Nat} {d : Dc} {vI : Value} {w : World} (h : DcW E d vI w) :
    Calls Try.prog 29 #[.pointer (some ⟨E, 0, none⟩)] w fun e w' => e = .returned (.tuple #[.agg (fetchC d).2.1.arr, .bool (fetchC d).2.2]) ∧ DcP E (fetchC d).1 vI w w' := by
  have hh := h
  have hlt := h.lt
  obtain ⟨⟨vL, vO, h1, h2, h3⟩, h4, h5, h6, h7, h8, h9, h10⟩ := h
  obtain ⟨wa, hwa⟩ : ∃ wa, w.alloc (.cells Fr.nul.arr 45) = wa := ⟨_, rfl⟩
  have ba : Below w.heap.size w wa := by rw [← hwa]; exact (Below.refl _ _).alloc (Nat.le_refl _) _
  have sa : wa.heap.size = w.heap.size + 1 := by rw [← hwa, size_alloc]
  have fa : Fa w.heap.size Fr.nul wa := by rw [← hwa]; exact Fa.new w Fr.nul
  have hwa2 : w.alloc (.cells #[.int .u32 0, .bool false, .bool false, .int .i64 0, .int .u8 0, .int .u8 0, .int .u8 0, .int .u8 0, .int .u8 0, .int .u8 0, .int .u8 0, .int .u8 0] 45) = wa := hwa
  have Aa : Er E _ wa := (ba.block E hlt).trans h1
  obtain ⟨q, hq⟩ : ∃ q, w.heap.size = q := ⟨_, rfl⟩
  unfold fetchC
  by_cases h0 : 0 < d.inn.length
  · rw [if_pos h0]
    obtain ⟨b, off, cap, rfl, hb, hR0⟩ := h4.wide.at0 0 h0
    have hcap := h4.cap _ _ _ rfl
    rw [headD_get _ h0]
    obtain ⟨f, hf⟩ : ∃ f, d.inn[0] = f := ⟨_, rfl⟩
    rw [hf] at hR0
    have R0 : wa.rangeAt b off f.cells := fun j u hj => (ba.cell (p := ⟨b, off + j, none⟩) hb).trans (by have := hR0 j u hj; simpa using this)
    obtain ⟨wb, hwb⟩ : ∃ wb, wa.alloc (.cells Fr.nul.arr 45) = wb := ⟨_, rfl⟩
    have bb : Below w.heap.size w wb := by rw [← hwb]; exact ba.alloc (by omega) _
    have fb : Fa wa.heap.size Fr.nul wb := by rw [← hwb]; exact Fa.new wa Fr.nul
    have fab : Fa w.heap.size Fr.nul wb := by rw [← hwb]; exact fa.alloc _
    obtain ⟨q1, hq1⟩ : ∃ q1, wa.heap.size = q1 := ⟨_, rfl⟩
    rw [hq1] at fb
    rw [hq] at fa fab
    have hqq : q1 = q + 1 := by omega
    obtain ⟨wc, hwc⟩ : ∃ wc, wb.setRow q1 f.arr = wc := ⟨_, rfl⟩
    have bc : Below w.heap.size w wc := by rw [← hwc]; exact below_row bb (by omega) (by have := fb.lt; omega) _
    have fc : Fa q1 f wc := by rw [← hwc]; exact fb.row f
    have fac : Fa q Fr.nul wc := by rw [← hwc]; exact (setRow_other wb q1 q _ (by omega)).trans fab
    have Ac : Er E _ wc := (bc.block E hlt).trans h1
    have ca := Aa.cell (k := 5) (v := .slice (some ⟨b, off, none⟩) d.inn.length cap) rfl
    have cc := Ac.cell (k := 5) (v := .slice (some ⟨b, off, none⟩) d.inn.length cap) rfl
    have frc := Ac.free 5
    have ct := cut_tailO b off d.inn.length cap h0 hcap
    have hwt := h4.wide.tail hcap h0
    generalize hoo : (if cap = 1 then off else off + 12) = oo at *
    have x3 : Fa q1 f (wc.setCell ⟨E, 5, none⟩ (.slice (some ⟨b, oo, none⟩) (d.inn.length - 1) (cap - 1))) := fc.other (p := ⟨E, 5, none⟩) (by show q1 ≠ E; omega) _
    have x4 : Fa q Fr.nul (wc.setCell ⟨E, 5, none⟩ (.slice (some ⟨b, oo, none⟩) (d.inn.length - 1) (cap - 1))) := fac.other (p := ⟨E, 5, none⟩) (by show q ≠ E; omega) _
    have x6 := x4.row f
    have hld := load_fa _ q _ x6
    have HX : Hid (DcP E { d with inn := d.inn.tail } (.slice (some ⟨b, off, none⟩) d.inn.length cap) w ((wc.setCell ⟨E, 5, none⟩ (.slice (some ⟨b, oo, none⟩) (d.inn.length - 1) (cap - 1))).setRow q f.arr)) := by
      have hg : w.grownBy ((wc.setCell ⟨E, 5, none⟩ (.slice (some ⟨b, oo, none⟩) (d.inn.length - 1) (cap - 1))).setRow q f.arr) (some E) :=
        ⟨bc.os, bc.tape, bc.output, Nat.le_trans bc.size (by simp [World.setCell, World.setRow]), fun k hk hne => (setRow_other _ q k _ (by omega)).trans ((Below.heap_setCell wc ⟨E, 5, none⟩ _ k (fun e => hne (by rw [show k = E from e]))).trans (bc.block k hk))⟩
      have hEq : Er E (rA d.most d.room vL vO d.tk (.slice (some ⟨b, oo, none⟩) (d.inn.length - 1) (cap - 1)) d.lo) ((wc.setCell ⟨E, 5, none⟩ (.slice (some ⟨b, oo, none⟩) (d.inn.length - 1) (cap - 1))).setRow q f.arr) :=
        (setRow_other _ q E _ (by omega)).trans (Ac.set 5 _)
      have hIw : RT 45 12 Fr.cells w (.slice (some ⟨b, oo, none⟩) (d.inn.length - 1) (cap - 1)) d.inn.tail := ⟨hwt, fun b' e => h4.typ b' e, fun ao n k e => by cases e; omega⟩
      refine ⟨_, ⟨⟨vL, vO, hEq, h2.grown hg (h2.ne h1 (by decide)), h3.grown hg (h3.ne h1 (by decide))⟩, hIw.grown hg (hIw.ne h1 (by decide)), h5, h6, ?_, h8, h9, h10⟩, hg, fun _ _ e => e⟩
      show ((d.inn.tail.length : Nat) : Int) ≤ d.room
      rw [List.length_tail]; omega
    have hne : ((d.inn.length : Int) == 0) = false := by rw [beq_eq_false_iff_ne]; omega
    have hle : (0 : Int) < (d.inn.length : Int) := by omega
    have hwb2 : wa.alloc (.cells #[.int .u32 0, .bool false, .bool false, .int .i64 0, .int .u8 0, .int .u8 0, .int .u8 0, .int .u8 0, .int .u8 0, .int .u8 0, .int .u8 0, .int .u8 0] 45) = wb := hwb
    rw [hf]
    clear hwa hwb ba bb bc fab fc fac Aa Ac h1 h2 h3 h4 hh hf sa fa hqq hR0 hoo x6 hwt hcap
    generalize d.inn.length = n at *
    generalize n - 1 = n1 at *
    generalize cap - 1 = cp1 at *
    go_enter Try.func29, Try.ntmps29
    go_wp2_with (first | refine fld_ld5 R0 rfl _ rfl rfl ?_ | refine fb.sd f rfl _ _ rfl rfl rfl ?_ | refine x3.ld rfl _ rfl rfl ?_ | refine x4.sd f rfl _ _ rfl rfl rfl ?_)
    exact bodyPost_ret (v := .tuple #[.agg f.arr, .bool true]) (by simp [results, Try.results29, asAddr, hld]) rfl ⟨rfl, HX.out⟩
  · rw [if_neg h0]
    obtain ⟨ao, cap, rfl⟩ := h4.wide.shape
    have e0 : d.inn.length = 0 := by omega
    rw [e0] at Aa
    have ca := Aa.cell (k := 5) (v := .slice ao 0 cap) rfl
    rw [hq] at fa
    have fb := fa.row Fr.nul
    have hld := load_fa _ q _ fb
    have HX : Hid (DcP E d (.slice ao d.inn.length cap) w (wa.setRow q Fr.nul.arr)) := hh.stay (below_row ba (q := q) (by omega) (by have := fa.lt; omega) _)
    clear hwa h1 h2 h3 h4 hh Aa ba fb h0 e0
    go_enter Try.func29, Try.ntmps29
    go_wp2_with (first | refine fa.sd Fr.nul rfl _ _ rfl rfl rfl ?_)
    exact bodyPost_ret (v := .tuple #[.agg Fr.nul.arr, .bool false]) (by simp [results, Try.results29, asAddr, hld]) rfl ⟨rfl, HX.out⟩
set_option maxHeartbeats 2000000 in
theorem ENew_any {v : Value} {l : List Fi} (bx rm : Int) (w : World) (hS : FiIn w v l) (hz : l.length * 12 ≤ 140737488351232) :
    Calls Try.prog 8 #[.int .i64 bx, .int .i64 rm, v] w fun e w' => Below w.heap.size w w' ∧ ((newE bx rm l ≠ 0 ∧ e = .returned (.tuple #[.pointer none, .int .i64 (newE bx rm l)])) ∨ (newE bx rm l = 0 ∧ ∃ E, e = .returned (.tuple #[.pointer (some ⟨E, 0, none⟩), .int .i64 0]) ∧ w.heap.size ≤ E ∧ DcW E ⟨bx, rm, 0, 0, [], [], l⟩ (.slice none 0 0) w')) := by
  have HArg : ¬ ((1 ≤ bx ∧ bx ≤ 64) ∧ (1 ≤ rm ∧ rm ≤ 64)) → Hid (newE bx rm l = 1) := fun h => by show _ = _; unfold newE; rw [if_neg h]
  have hS0 := hS
  obtain ⟨ao, cap, rfl, _⟩ := hS
  by_cases a1 : bx < 1
  · have d1 : decide (bx < 1) = true := by simpa using a1
    have HE := HArg (by omega)
    generalize newE bx rm l = z at *
    clear HArg hS0 a1
    go_enter Try.func8, Try.ntmps8
    go_wp2
    go_ret2
    exact ⟨Below.refl _ _, .inl ⟨by rw [HE.out]; decide, congrArg (fun y => Ending.returned (Value.tuple #[Value.pointer none, Value.int IntKind.i64 y])) HE.out.symm⟩⟩
  · have d1 : decide (bx < 1) = false := by simpa using a1
    by_cases a2 : 64 < bx
    · have d2 : decide (64 < bx) = true := by simpa using a2
      have HE := HArg (by omega)
      generalize newE bx rm l = z at *
      clear HArg hS0 a1 a2
      go_enter Try.func8, Try.ntmps8
      go_wp2
      go_ret2
      exact ⟨Below.refl _ _, .inl ⟨by rw [HE.out]; decide, congrArg (fun y => Ending.returned (Value.tuple #[Value.pointer none, Value.int IntKind.i64 y])) HE.out.symm⟩⟩
    · have d2 : decide (64 < bx) = false := by simpa using a2
      by_cases a3 : rm < 1
      · have d3 : decide (rm < 1) = true := by simpa using a3
        have HE := HArg (by omega)
        generalize newE bx rm l = z at *
        clear HArg hS0 a1 a2 a3
        go_enter Try.func8, Try.ntmps8
        go_wp2
        go_ret2
        exact ⟨Below.refl _ _, .inl ⟨by rw [HE.out]; decide, congrArg (fun y => Ending.returned (Value.tuple #[Value.pointer none, Value.int IntKind.i64 y])) HE.out.symm⟩⟩
      · have d3 : decide (rm < 1) = false := by simpa using a3
        by_cases a4 : 64 < rm
        · have d4 : decide (64 < rm) = true := by simpa using a4
          have HE := HArg (by omega)
          generalize newE bx rm l = z at *
          clear HArg hS0 a1 a2 a3 a4
          go_enter Try.func8, Try.ntmps8
          go_wp2
          go_ret2
          exact ⟨Below.refl _ _, .inl ⟨by rw [HE.out]; decide, congrArg (fun y => Ending.returned (Value.tuple #[Value.pointer none, Value.int IntKind.i64 y])) HE.out.symm⟩⟩
        · have d4 : decide (64 < rm) = false := by simpa using a4
          have HOk : Hid (newE bx rm l = if 32 < l.length then 2 else 0) := by show _ = _; unfold newE; rw [if_pos (by omega)]
          have HB : Hid (1 ≤ bx ∧ bx ≤ 64 ∧ 1 ≤ rm ∧ rm ≤ 64) := by show _ ∧ _; omega
          generalize newE bx rm l = z at *
          clear HArg a1 a2 a3 a4
          by_cases a5 : 32 < l.length
          · have d5 : decide ((32 : Int) < (l.length : Int)) = true := by simp; omega
            have HE : Hid (z = 2) := by show _ = _; rw [HOk.out, if_pos a5]
            clear hS0 HOk a5
            go_enter Try.func8, Try.ntmps8
            go_wp2
            go_ret2
            exact ⟨Below.refl _ _, .inl ⟨by rw [HE.out]; decide, congrArg (fun y => Ending.returned (Value.tuple #[Value.pointer none, Value.int IntKind.i64 y])) HE.out.symm⟩⟩
          · have d5 : decide ((32 : Int) < (l.length : Int)) = false := by simp; omega
            have HE : Hid (z = 0) := by show _ = _; rw [HOk.out, if_neg a5]
            have H32 : Hid (l.length ≤ 32) := by show _ ≤ _; omega
            have o1 := own_empty_e w 60 3
            have hS2 := hS0.below ((Below.refl _ w).alloc (Nat.le_refl _) (.cells #[] 60))
            clear HOk a5 hS0
            go_enter Try.func8, Try.ntmps8
            go_wp2_with (at_builtin; refine append_wide DFi rfl _ _ 22 60 _ _ Try.underlying22 infoFiZ rfl rfl w.heap.size _ [] rfl (by exact o1) _ l rfl (by exact hS2) (by unfold maxLen; simp; omega) (by simp; omega) (by rw [size_alloc]; omega) ?_)
            intro v1 w1 P1 G1
            have b1 : Below w.heap.size w w1 := ((Below.refl _ w).alloc (Nat.le_refl _) (.cells #[] 60)).grown G1 (by simp) (by simp [Value.ownBlock])
            have P1' : RT 60 3 Fi.cells w1 v1 l := RT.own DFi (l := l) P1
            have bA : Below w1.heap.size w1 (w1.alloc (.cells (rA bx rm v1 (.slice none 0 0) 0 (.slice none 0 0) 0) 39)) := (Below.refl _ w1).alloc (Nat.le_refl _) _
            have HX : Hid (DcW w1.heap.size ⟨bx, rm, 0, 0, [], [], l⟩ (.slice none 0 0) (w1.alloc (.cells (rA bx rm v1 (.slice none 0 0) 0 (.slice none 0 0) 0) 39))) :=
              ⟨⟨v1, _, heap_alloc_new w1 _, P1'.below bA, RT.nil _ _ _ _⟩, RT.nil _ _ _ _, by simp; have := HB.out; omega, HB.out.2.1, by simp; have := HB.out; omega, HB.out.2.2.2, H32.out, by simp⟩
            have HBl : Hid (Below w.heap.size w (w1.alloc (.cells (rA bx rm v1 (.slice none 0 0) 0 (.slice none 0 0) 0) 39))) := b1.alloc b1.size _
            have hs := b1.size
            obtain ⟨a1', c1', rfl⟩ := P1'.wide.shape
            clear P1 G1 o1 hS2 P1' b1 bA
            go_wp2
            go_ret2
            exact ⟨HBl.out, .inr ⟨HE.out, _, rfl, hs, HX.out⟩⟩
end Go.Proofs.Ytfddoindcmdooaa
