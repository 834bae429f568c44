/- Contracts: Handle. -/
import Derived.Test.YtahfnknbmikmkaaGreatKb28
namespace Go.Proofs.YtahfnknbmikmkaaGreat
open Go.RowKit Go.Proofs.Ty
set_option linter.unusedVariables false
set_option maxRecDepth 1000000
set_option linter.unusedSimpArgs false
/-- What Handle leaves. -/
def HdPost (S D R : Nat) (its : List Im) (L : List Nat) (ao : Option Addr) (O : Ro × List Im × Ss) (b : Bool) (w : World) (e : Ending) (w' : World) : Prop :=
  e = .returned (.tuple #[.agg O.1.f.arr, .bool b]) ∧ ∃ ap cq, Pv S D R O.2.1 O.2.2 ap cq w' ∧ Kp (S :: (L ++ its.map Im.b)) w w' ∧ ∀ b ∈ blk ap, b ∈ blk ao ∨ w.heap.size ≤ b
theorem Pv.kp {S D R : Nat} {its : List Im} {s : Ss} {ao : Option Addr} {cp : Nat} {cs : List Nat} {x y : World} (h : Pv S D R its s ao cp x) (hK : Kp cs x y) (hty : ∀ b ∈ cs, ∃ (A : Array Value) (T : TypeId) (fr : Nat × Nat), x.heap[b]? = some (Obj.cells A T fr) ∧ T ≠ 113 ∧ T ≠ 102 ∧ T ≠ 106 ∧ T ≠ 91) (hb : ∀ b ∈ blk ao, b ∉ cs) : Pv S D R its s ao cp y := by
  have hne : ∀ b ∈ blk ao, y.heap[b]? = x.heap[b]? := fun b hm => hK.block b (h.lt b hm) (hb b hm)
  refine ⟨h.dct.of_heap fun b A T fr hh hT => hK.block b (Array.getElem?_eq_some_iff.1 hh).1 (fun hm => ?_), (hK.block S h.head.lt (fun hm => ?_)).trans h.head, bytes_same h.by_ hK.size (fun b hm _ => hne b ((own_blk _ _ _ _).1 hm)), fun e => own_same (h.own e) (fun b hm => hne b ((own_blk _ _ _ _).1 hm)), h.cap, h.far, h.near, h.ok, fun b hm => Nat.lt_of_lt_of_le (h.lt b hm) hK.size⟩
  · obtain ⟨A', T', fr', h1, n1, n2, n3, n4⟩ := hty b hm
    rw [hh] at h1
    injection h1 with h1
    injection h1 with _ h2
    subst h2
    rcases hT with h | h | h
    · exact n1 h
    · exact n2 h
    · exact n3 h
  · obtain ⟨A', T', fr', h1, n1, n2, n3, n4⟩ := hty S hm
    rw [show x.heap[S]? = some (.cells (psA D s ao cp) 91 (0, 0)) from h.head] at h1
    injection h1 with h1
    injection h1 with _ h2
    exact n4 h2.symm
theorem ns_ty {q : Nat} {f : F8} {b : Bool} {x : World} (h : Ns q f b x) : ∀ j ∈ [q, q + 1], ∃ (A : Array Value) (T : TypeId) (fr : Nat × Nat), x.heap[j]? = some (Obj.cells A T fr) ∧ T ≠ 113 ∧ T ≠ 102 ∧ T ≠ 106 ∧ T ≠ 91 := by
  intro j hj
  simp at hj
  rcases hj with rfl | rfl
  · exact ⟨_, _, _, h.a, by decide, by decide, by decide, by decide⟩
  · exact ⟨_, _, _, h.is, by decide, by decide, by decide, by decide⟩
theorem small (its : List Im) (s : Ss) (hs : s.Ok) (q : F8) : (hndO its s q).1.Small := by
  have h1 := pix_lt q
  have h2 := psb_lt q
  have h3 := hs.ix
  have h4 := hs.sb
  unfold hndO
  split
  · unfold takO
    split
    · exact ⟨by decide, by decide, by decide⟩
    · split
      · exact ⟨h3, h4, by decide⟩
      · split
        · exact ⟨h3, h4, by decide⟩
        · split
          · unfold finO
            split
            · exact ⟨h3, h4, by decide⟩
            · show Ro.Small (if _ then _ else _)
              split
              · trivial
              · exact ⟨h3, h4, wc_lt _ _ _ _⟩
          · trivial
  · split
    · unfold wrtO
      split
      · show Ro.Small (if _ then _ else _)
        split
        · trivial
        · exact ⟨h1, h2, wc_lt _ _ _ _⟩
      · split
        · refine ⟨h1, h2, ?_⟩
          unfold leaC
          split
          · exact wc_lt _ _ _ _
          · decide
        · split
          · exact ⟨h1, h2, by decide⟩
          · trivial
    · split
      · unfold redO
        split
        · exact ⟨h1, h2, rdC_lt _ _ _⟩
        · split
          · trivial
          · trivial
      · split
        · unfold telO
          split
          · exact ⟨by decide, by decide, by decide⟩
          · split
            · exact ⟨h3, h4, by decide⟩
            · trivial
        · split
          · trivial
          · exact ⟨h1, h2, by decide⟩
section
variable {S D R : Nat} {s : Ss} {ao : Option Addr} {cp : Nat} {its : List Im} {w : World}
set_option maxHeartbeats 16000000 in
theorem Handle_any (h : Pv S D R its s ao cp w) (q : F8) : Calls Tryz.prog 35 #[.pointer (some ⟨S, 0, none⟩), .agg q.arr] w (HdPost S D R its (wl s ao) ao (hndO its s q) (hndB q) w) := by
  have hmf : ∀ (fn : Fn) (first cap : Array Value) (w : World), (Instr.makeFunc fn first cap).run Tryz.prog w = .ok (.func fn first cap) w := fun _ _ _ _ => rfl
  obtain ⟨W, hW⟩ : ∃ W, w.alloc (.cells q.arr 32) = W := ⟨_, rfl⟩
  obtain ⟨k, hk⟩ : ∃ k, w.heap.size = k := ⟨_, rfl⟩
  have hWs : W.heap.size = k + 1 := by rw [← hW, size_alloc, hk]
  obtain ⟨V, hV⟩ : ∃ V, W.alloc (.cells zA8 32) = V := ⟨_, rfl⟩
  have hVs : V.heap.size = k + 1 + 1 := by rw [← hV, size_alloc, hWs]
  have b0 : Below w.heap.size w (V.alloc (.cells #[.bool false] 4)) := by
    have x1 : Below w.heap.size w W := hW ▸ (Below.refl _ _).alloc (Nat.le_refl _) _
    have x2 : Below w.heap.size w V := hV ▸ x1.alloc (by omega) _
    exact x2.alloc (by omega) _
  have q0 : Qb k q (V.alloc (.cells #[.bool false] 4)) := (Lib.alloc_old V _ k (by omega)).trans (by rw [← hV]; exact (Lib.alloc_old W _ k (by omega)).trans (by rw [← hk, ← hW]; exact Qb.new w q))
  have N0 : Ns (k + 1) F8.nul false (V.alloc (.cells #[.bool false] 4)) := ⟨(Lib.alloc_old V _ (k + 1) (by omega)).trans (by rw [← hWs, ← hV]; exact heap_alloc_new W _), by rw [← hVs]; exact heap_alloc_new V _⟩
  have hSk : S < k := by rw [← hk]; exact h.head.lt
  have h0 := h.below b0
  have hcm : ∀ V, Calls Tryz.prog 62 #[.agg q.arr] V fun e w' => e = .returned (.int .u8 ((q.b0.toNat / 32 : Nat) : Int)) ∧ Below V.heap.size V w' := command_any q
  have hb0 := q.b0.toNat_lt
  have hnear := hidOf2 h.near
  have HLT := hidOf2 (show ∀ b ∈ blk ao, b < k from fun b hb => by rw [← hk]; exact h.lt b hb)
  have HB0 := hidOf2 b0
  have HSM := hidOf2 (small its s h.ok q)
  have HOW := hidOf2 (show ∀ b ∈ wl s ao, b < k from fun b hb => by
    unfold wl at hb
    split at hb
    · exact HLT.out b hb
    · cases hb)
  obtain ⟨EE, hEE⟩ : ∃ e, HdPost S D R its (wl s ao) ao (hndO its s q) (hndB q) w = e := ⟨_, rfl⟩
  have HRP : Hid (∀ e w', HdPost S D R its (wl s ao) ao (hndO its s q) (hndB q) w e w' → EE e w') := fun e w' hh => by rw [← hEE]; exact hh
  rw [hEE]
  clear h hEE b0
  go_enter_defers Tryz.func35, Tryz.ntmps35
  go_upto_region 1 with fail
  change Code.wp Tryz.prog _ _ _ ((W.alloc (.cells zA8 32)).alloc (.cells #[.bool false] 4))
  rw [hV]
  obtain ⟨U, hU⟩ : ∃ U, V.alloc (.cells #[.bool false] 4) = U := ⟨_, rfl⟩
  have hUs : U.heap.size = k + 1 + 1 + 1 := by rw [← hU, size_alloc, hVs]
  rw [hU] at q0 N0 HB0 h0 ⊢
  have l0 := q0.load
  go_wp2_with (first | (refine ldG l0 rfl _ rfl rfl ?_))
  refine (hcm _).mono ?_
  rintro e w1 ⟨rfl, b1⟩
  have P1 := h0.below b1
  have q1 := q0.below b1
  have N1 := N0.below b1
  have HK1 := hidOf2 (Kp.of_below (bs := S :: (wl s ao ++ its.map Im.b)) (HB0.out.trans (b1.mono HB0.out.size)))
  have hsz1 : k + 1 + 1 < w1.heap.size := N1.lt
  have HNK : Hid (∀ w2, Kp (S :: (wl s ao ++ its.map Im.b)) w1 w2 → Ns (k + 1) F8.nul false w2) := fun w2 K => by
    have hno : ∀ j, k < j → j ∉ S :: (wl s ao ++ its.map Im.b) := fun j hj hm => by
      simp at hm
      rcases hm with h1 | h1 | ⟨a, h1, h2⟩
      · omega
      · have := HOW.out j h1; omega
      · have := hnear.out j (List.mem_map.2 ⟨a, h1, h2⟩); omega
    exact ⟨(K.block _ N1.a.lt (hno _ (by omega))).trans N1.a, (K.block _ N1.lt (hno _ (by omega))).trans N1.is⟩
  have l1 := q1.load
  clear l0 q0 N0 h0 HB0 b1 hcm
  obtain hc | hc | hc | hc | hc | hc : q.b0.toNat / 32 = 0 ∨ q.b0.toNat / 32 = 1 ∨ q.b0.toNat / 32 = 2 ∨ q.b0.toNat / 32 = 3 ∨ q.b0.toNat / 32 = 4 ∨ 5 ≤ q.b0.toNat / 32 := by omega
  · have hO : hndO its s q = takO its s q := by unfold hndO; rw [if_pos hc]
    have hcall := take_any P1 q
    have hb9 : hndB q = true := by unfold hndB; simp; omega
    rw [hb9] at HRP
    have HC := hidOf2 hcall
    rw [hc]
    clear hcall hc
    go_wp2_with (first | (refine ldG l1 rfl _ rfl rfl ?_))
    refine HC.out.mono ?_
    rintro e w2 ⟨he, ap, cq, P2, K2, f2⟩
    have N2 : Ns (k + 1) F8.nul false w2 := HNK.out w2 K2
    have hap : ∀ b ∈ blk ap, b ∉ [k + 1, k + 1 + 1] := fun b hb => by
      rcases f2 b hb with h1 | h1
      · have := HLT.out b h1; simp; omega
      · have := hsz1; simp; omega
    have HF2 := hidOf2 (show ∀ b ∈ blk ap, b ∈ blk ao ∨ w.heap.size ≤ b from fun b hb => (f2 b hb).imp id (fun h1 => by omega))
    have HK2 := hidOf2 (HK1.out.fresh K2 (fun b hb => .inl hb))
    cases hr : (takO its s q).1 with
    | ok f =>
      rw [hr] at he
      change e = .returned (.agg f.arr) at he
      subst he
      have N3 := N2.put f true
      have hKs := ((Kp.refl [k + 1, k + 1 + 1] w2).fresh (Kp.setRow1 w2 (k + 1) f.arr) (fun b hb => .inl (by simp at hb; simp [hb]))).fresh (Kp.cell1 _ (k + 1 + 1) 0 (.bool true)) (fun b hb => .inl (by simp at hb; simp [hb]))
      have HP3 := hidOf2 (P2.kp hKs (ns_ty N2) hap)
      have HK3 := hidOf2 (HK2.out.fresh hKs (fun b hb => .inr (by simp at hb; omega)))
      have na := N2.a
      have cb : (w2.setRow (k + 1) f.arr).cell? ⟨k + 1 + 1, 0, none⟩ = some (.bool false) := by rw [World.cell?_of_block (setRow_other _ _ _ _ (by show k + 1 + 1 ≠ k + 1; omega))]; exact N2.cb
      have zb : (w2.setRow (k + 1) f.arr).frozen? ⟨k + 1 + 1, 0, none⟩ = false := by rw [World.frozen?_of_block (setRow_other _ _ _ _ (by show k + 1 + 1 ≠ k + 1; omega))]; exact N2.zb
      have HN3 := hidOf2 N3
      have HE : Hid ((hndO its s q).1.f = f) := by show (hndO its s q).1.f = f; rw [hO, hr]; rfl
      clear N2 N3 hKs P2 K2 f2 hap HC l1 HNK hr
      go_wp2_with (first | (refine sdF (g := f) na rfl _ _ rfl rfl rfl ?_))
      refine leaves_cons (f := 60) (args := #[.pointer (some ⟨k + 1, 0, none⟩), .pointer (some ⟨k + 1 + 1, 0, none⟩)]) (by simp) (by simp [go_sem]) ?_
      refine (catch10_idle (k + 1) _).mono ?_
      rintro e u' w4 ⟨rfl, rfl, b4⟩
      exact ⟨_, (HN3.out.below b4).results _ rfl rfl, HRP.out _ _ ⟨by rw [HE.out], ap, cq, by rw [hO]; exact HP3.out.below b4, HK3.out.trans (Kp.of_below b4), HF2.out⟩⟩
    | bad ix sb c =>
      rw [hr] at he
      change e = .panicked [{ v := flV ix sb c, recovered := false }] at he
      subst he
      have hsm : ix < 65536 ∧ sb < 256 ∧ c < 4294967296 := by have := HSM.out; rw [hO, hr] at this; exact this
      refine leaves_cons (f := 60) (args := #[.pointer (some ⟨k + 1, 0, none⟩), .pointer (some ⟨k + 1 + 1, 0, none⟩)]) (by simp) (by simp [go_sem]) ?_
      refine (catch10_fault (k + 1) _ _ ix sb c hsm.1 hsm.2.1 hsm.2.2 w2 N2).mono ?_
      rintro e u' w4 ⟨rfl, rfl, N4, K4⟩
      exact ⟨_, N4.results _ rfl rfl, HRP.out _ _ ⟨by rw [hO, hr]; rfl, ap, cq, by rw [hO]; exact P2.kp K4 (ns_ty N2) hap, HK2.out.fresh K4 (fun b hb => .inr (by simp at hb; omega)), HF2.out⟩⟩
  · have hO : hndO its s q = wrtO its q := by unfold hndO; rw [if_neg (by omega), if_pos hc]
    have hcall := bw_post P1 q
    have hb9 : hndB q = true := by unfold hndB; simp; omega
    rw [hb9] at HRP
    have HC := hidOf2 hcall
    rw [hc]
    clear hcall hc
    go_wp2_with (first | (refine ldG l1 rfl _ rfl rfl ?_))
    refine HC.out.mono ?_
    rintro e w2 ⟨he, ap, cq, P2, K2, f2⟩
    have N2 : Ns (k + 1) F8.nul false w2 := HNK.out w2 K2
    have hap : ∀ b ∈ blk ap, b ∉ [k + 1, k + 1 + 1] := fun b hb => by
      rcases f2 b hb with h1 | h1
      · have := HLT.out b h1; simp; omega
      · have := hsz1; simp; omega
    have HF2 := hidOf2 (show ∀ b ∈ blk ap, b ∈ blk ao ∨ w.heap.size ≤ b from fun b hb => (f2 b hb).imp id (fun h1 => by omega))
    have HK2 := hidOf2 (HK1.out.fresh K2 (fun b hb => .inl hb))
    cases hr : (wrtO its q).1 with
    | ok f =>
      rw [hr] at he
      change e = .returned (.agg f.arr) at he
      subst he
      have N3 := N2.put f true
      have hKs := ((Kp.refl [k + 1, k + 1 + 1] w2).fresh (Kp.setRow1 w2 (k + 1) f.arr) (fun b hb => .inl (by simp at hb; simp [hb]))).fresh (Kp.cell1 _ (k + 1 + 1) 0 (.bool true)) (fun b hb => .inl (by simp at hb; simp [hb]))
      have HP3 := hidOf2 (P2.kp hKs (ns_ty N2) hap)
      have HK3 := hidOf2 (HK2.out.fresh hKs (fun b hb => .inr (by simp at hb; omega)))
      have na := N2.a
      have cb : (w2.setRow (k + 1) f.arr).cell? ⟨k + 1 + 1, 0, none⟩ = some (.bool false) := by rw [World.cell?_of_block (setRow_other _ _ _ _ (by show k + 1 + 1 ≠ k + 1; omega))]; exact N2.cb
      have zb : (w2.setRow (k + 1) f.arr).frozen? ⟨k + 1 + 1, 0, none⟩ = false := by rw [World.frozen?_of_block (setRow_other _ _ _ _ (by show k + 1 + 1 ≠ k + 1; omega))]; exact N2.zb
      have HN3 := hidOf2 N3
      have HE : Hid ((hndO its s q).1.f = f) := by show (hndO its s q).1.f = f; rw [hO, hr]; rfl
      clear N2 N3 hKs P2 K2 f2 hap HC l1 HNK hr
      go_wp2_with (first | (refine sdF (g := f) na rfl _ _ rfl rfl rfl ?_))
      refine leaves_cons (f := 60) (args := #[.pointer (some ⟨k + 1, 0, none⟩), .pointer (some ⟨k + 1 + 1, 0, none⟩)]) (by simp) (by simp [go_sem]) ?_
      refine (catch10_idle (k + 1) _).mono ?_
      rintro e u' w4 ⟨rfl, rfl, b4⟩
      exact ⟨_, (HN3.out.below b4).results _ rfl rfl, HRP.out _ _ ⟨by rw [HE.out], ap, cq, by rw [hO]; exact HP3.out.below b4, HK3.out.trans (Kp.of_below b4), HF2.out⟩⟩
    | bad ix sb c =>
      rw [hr] at he
      change e = .panicked [{ v := flV ix sb c, recovered := false }] at he
      subst he
      have hsm : ix < 65536 ∧ sb < 256 ∧ c < 4294967296 := by have := HSM.out; rw [hO, hr] at this; exact this
      refine leaves_cons (f := 60) (args := #[.pointer (some ⟨k + 1, 0, none⟩), .pointer (some ⟨k + 1 + 1, 0, none⟩)]) (by simp) (by simp [go_sem]) ?_
      refine (catch10_fault (k + 1) _ _ ix sb c hsm.1 hsm.2.1 hsm.2.2 w2 N2).mono ?_
      rintro e u' w4 ⟨rfl, rfl, N4, K4⟩
      exact ⟨_, N4.results _ rfl rfl, HRP.out _ _ ⟨by rw [hO, hr]; rfl, ap, cq, by rw [hO]; exact P2.kp K4 (ns_ty N2) hap, HK2.out.fresh K4 (fun b hb => .inr (by simp at hb; omega)), HF2.out⟩⟩
  · have hO : hndO its s q = redO its q := by unfold hndO; rw [if_neg (by omega), if_neg (by omega), if_pos hc]
    have hcall := br_post P1 q
    have hb9 : hndB q = true := by unfold hndB; simp; omega
    rw [hb9] at HRP
    have HC := hidOf2 hcall
    rw [hc]
    clear hcall hc
    go_wp2_with (first | (refine ldG l1 rfl _ rfl rfl ?_))
    refine HC.out.mono ?_
    rintro e w2 ⟨he, ap, cq, P2, K2, f2⟩
    have N2 : Ns (k + 1) F8.nul false w2 := HNK.out w2 K2
    have hap : ∀ b ∈ blk ap, b ∉ [k + 1, k + 1 + 1] := fun b hb => by
      rcases f2 b hb with h1 | h1
      · have := HLT.out b h1; simp; omega
      · have := hsz1; simp; omega
    have HF2 := hidOf2 (show ∀ b ∈ blk ap, b ∈ blk ao ∨ w.heap.size ≤ b from fun b hb => (f2 b hb).imp id (fun h1 => by omega))
    have HK2 := hidOf2 (HK1.out.fresh K2 (fun b hb => .inl hb))
    cases hr : (redO its q).1 with
    | ok f =>
      rw [hr] at he
      change e = .returned (.agg f.arr) at he
      subst he
      have N3 := N2.put f true
      have hKs := ((Kp.refl [k + 1, k + 1 + 1] w2).fresh (Kp.setRow1 w2 (k + 1) f.arr) (fun b hb => .inl (by simp at hb; simp [hb]))).fresh (Kp.cell1 _ (k + 1 + 1) 0 (.bool true)) (fun b hb => .inl (by simp at hb; simp [hb]))
      have HP3 := hidOf2 (P2.kp hKs (ns_ty N2) hap)
      have HK3 := hidOf2 (HK2.out.fresh hKs (fun b hb => .inr (by simp at hb; omega)))
      have na := N2.a
      have cb : (w2.setRow (k + 1) f.arr).cell? ⟨k + 1 + 1, 0, none⟩ = some (.bool false) := by rw [World.cell?_of_block (setRow_other _ _ _ _ (by show k + 1 + 1 ≠ k + 1; omega))]; exact N2.cb
      have zb : (w2.setRow (k + 1) f.arr).frozen? ⟨k + 1 + 1, 0, none⟩ = false := by rw [World.frozen?_of_block (setRow_other _ _ _ _ (by show k + 1 + 1 ≠ k + 1; omega))]; exact N2.zb
      have HN3 := hidOf2 N3
      have HE : Hid ((hndO its s q).1.f = f) := by show (hndO its s q).1.f = f; rw [hO, hr]; rfl
      clear N2 N3 hKs P2 K2 f2 hap HC l1 HNK hr
      go_wp2_with (first | (refine sdF (g := f) na rfl _ _ rfl rfl rfl ?_))
      refine leaves_cons (f := 60) (args := #[.pointer (some ⟨k + 1, 0, none⟩), .pointer (some ⟨k + 1 + 1, 0, none⟩)]) (by simp) (by simp [go_sem]) ?_
      refine (catch10_idle (k + 1) _).mono ?_
      rintro e u' w4 ⟨rfl, rfl, b4⟩
      exact ⟨_, (HN3.out.below b4).results _ rfl rfl, HRP.out _ _ ⟨by rw [HE.out], ap, cq, by rw [hO]; exact HP3.out.below b4, HK3.out.trans (Kp.of_below b4), HF2.out⟩⟩
    | bad ix sb c =>
      rw [hr] at he
      change e = .panicked [{ v := flV ix sb c, recovered := false }] at he
      subst he
      have hsm : ix < 65536 ∧ sb < 256 ∧ c < 4294967296 := by have := HSM.out; rw [hO, hr] at this; exact this
      refine leaves_cons (f := 60) (args := #[.pointer (some ⟨k + 1, 0, none⟩), .pointer (some ⟨k + 1 + 1, 0, none⟩)]) (by simp) (by simp [go_sem]) ?_
      refine (catch10_fault (k + 1) _ _ ix sb c hsm.1 hsm.2.1 hsm.2.2 w2 N2).mono ?_
      rintro e u' w4 ⟨rfl, rfl, N4, K4⟩
      exact ⟨_, N4.results _ rfl rfl, HRP.out _ _ ⟨by rw [hO, hr]; rfl, ap, cq, by rw [hO]; exact P2.kp K4 (ns_ty N2) hap, HK2.out.fresh K4 (fun b hb => .inr (by simp at hb; omega)), HF2.out⟩⟩
  · have hO : hndO its s q = telO its s q := by unfold hndO; rw [if_neg (by omega), if_neg (by omega), if_neg (by omega), if_pos hc]
    have hcall := tell_any P1 q
    have hb9 : hndB q = true := by unfold hndB; simp; omega
    rw [hb9] at HRP
    have HC := hidOf2 hcall
    rw [hc]
    clear hcall hc
    go_wp2_with (first | (refine ldG l1 rfl _ rfl rfl ?_))
    refine HC.out.mono ?_
    rintro e w2 ⟨he, ap, cq, P2, K2, f2⟩
    have N2 : Ns (k + 1) F8.nul false w2 := HNK.out w2 K2
    have hap : ∀ b ∈ blk ap, b ∉ [k + 1, k + 1 + 1] := fun b hb => by
      rcases f2 b hb with h1 | h1
      · have := HLT.out b h1; simp; omega
      · have := hsz1; simp; omega
    have HF2 := hidOf2 (show ∀ b ∈ blk ap, b ∈ blk ao ∨ w.heap.size ≤ b from fun b hb => (f2 b hb).imp id (fun h1 => by omega))
    have HK2 := hidOf2 (HK1.out.fresh K2 (fun b hb => .inl hb))
    cases hr : (telO its s q).1 with
    | ok f =>
      rw [hr] at he
      change e = .returned (.agg f.arr) at he
      subst he
      have N3 := N2.put f true
      have hKs := ((Kp.refl [k + 1, k + 1 + 1] w2).fresh (Kp.setRow1 w2 (k + 1) f.arr) (fun b hb => .inl (by simp at hb; simp [hb]))).fresh (Kp.cell1 _ (k + 1 + 1) 0 (.bool true)) (fun b hb => .inl (by simp at hb; simp [hb]))
      have HP3 := hidOf2 (P2.kp hKs (ns_ty N2) hap)
      have HK3 := hidOf2 (HK2.out.fresh hKs (fun b hb => .inr (by simp at hb; omega)))
      have na := N2.a
      have cb : (w2.setRow (k + 1) f.arr).cell? ⟨k + 1 + 1, 0, none⟩ = some (.bool false) := by rw [World.cell?_of_block (setRow_other _ _ _ _ (by show k + 1 + 1 ≠ k + 1; omega))]; exact N2.cb
      have zb : (w2.setRow (k + 1) f.arr).frozen? ⟨k + 1 + 1, 0, none⟩ = false := by rw [World.frozen?_of_block (setRow_other _ _ _ _ (by show k + 1 + 1 ≠ k + 1; omega))]; exact N2.zb
      have HN3 := hidOf2 N3
      have HE : Hid ((hndO its s q).1.f = f) := by show (hndO its s q).1.f = f; rw [hO, hr]; rfl
      clear N2 N3 hKs P2 K2 f2 hap HC l1 HNK hr
      go_wp2_with (first | (refine sdF (g := f) na rfl _ _ rfl rfl rfl ?_))
      refine leaves_cons (f := 60) (args := #[.pointer (some ⟨k + 1, 0, none⟩), .pointer (some ⟨k + 1 + 1, 0, none⟩)]) (by simp) (by simp [go_sem]) ?_
      refine (catch10_idle (k + 1) _).mono ?_
      rintro e u' w4 ⟨rfl, rfl, b4⟩
      exact ⟨_, (HN3.out.below b4).results _ rfl rfl, HRP.out _ _ ⟨by rw [HE.out], ap, cq, by rw [hO]; exact HP3.out.below b4, HK3.out.trans (Kp.of_below b4), HF2.out⟩⟩
    | bad ix sb c =>
      rw [hr] at he
      change e = .panicked [{ v := flV ix sb c, recovered := false }] at he
      subst he
      have hsm : ix < 65536 ∧ sb < 256 ∧ c < 4294967296 := by have := HSM.out; rw [hO, hr] at this; exact this
      refine leaves_cons (f := 60) (args := #[.pointer (some ⟨k + 1, 0, none⟩), .pointer (some ⟨k + 1 + 1, 0, none⟩)]) (by simp) (by simp [go_sem]) ?_
      refine (catch10_fault (k + 1) _ _ ix sb c hsm.1 hsm.2.1 hsm.2.2 w2 N2).mono ?_
      rintro e u' w4 ⟨rfl, rfl, N4, K4⟩
      exact ⟨_, N4.results _ rfl rfl, HRP.out _ _ ⟨by rw [hO, hr]; rfl, ap, cq, by rw [hO]; exact P2.kp K4 (ns_ty N2) hap, HK2.out.fresh K4 (fun b hb => .inr (by simp at hb; omega)), HF2.out⟩⟩
  · have hO : hndO its s q = (.ok F8.nul, its, Ss.nul) := by unfold hndO; rw [if_neg (by omega), if_neg (by omega), if_neg (by omega), if_neg (by omega), if_pos hc]
    have hb9 : hndB q = false := by unfold hndB; simp; omega
    rw [hb9] at HRP
    have hRs := Reset10_any P1.head
    have HP1 := hidOf2 P1
    rw [hc]
    clear hc
    go_wp2_with fail
    refine hRs.mono ?_
    rintro e w2 ⟨rfl, p2, K2⟩
    have K2' := K2.mono (cs := S :: (wl s ao ++ its.map Im.b)) (fun b hb => by simp at hb; simp [hb])
    have N2 : Ns (k + 1) F8.nul false w2 := HNK.out w2 K2'
    have P2 := Pv.nul (HP1.out.dct.kpS HP1.out.head K2) p2 hnear.out
    have N3 := N2.put F8.nul false
    have hKs := ((Kp.refl [k + 1, k + 1 + 1] w2).fresh (Kp.setRow1 w2 (k + 1) F8.nul.arr) (fun b hb => .inl (by simp at hb; simp [hb]))).fresh (Kp.cell1 _ (k + 1 + 1) 0 (.bool false)) (fun b hb => .inl (by simp at hb; simp [hb]))
    have HP3 := hidOf2 (P2.kp hKs (ns_ty N2) (fun b hb => by simp [blk] at hb))
    have HK3 := hidOf2 ((HK1.out.fresh K2' (fun b hb => .inl hb)).fresh hKs (fun b hb => .inr (by simp at hb; omega)))
    have na := N2.a
    have cb : (w2.setRow (k + 1) F8.nul.arr).cell? ⟨k + 1 + 1, 0, none⟩ = some (.bool false) := by rw [World.cell?_of_block (setRow_other _ _ _ _ (by show k + 1 + 1 ≠ k + 1; omega))]; exact N2.cb
    have zb : (w2.setRow (k + 1) F8.nul.arr).frozen? ⟨k + 1 + 1, 0, none⟩ = false := by rw [World.frozen?_of_block (setRow_other _ _ _ _ (by show k + 1 + 1 ≠ k + 1; omega))]; exact N2.zb
    have HN3 := hidOf2 N3
    clear N2 N3 hKs P2 K2 K2' p2 l1 HNK HP1
    go_wp2_with (first | (refine sdF (g := F8.nul) na rfl _ _ rfl rfl rfl ?_))
    refine leaves_cons (f := 60) (args := #[.pointer (some ⟨k + 1, 0, none⟩), .pointer (some ⟨k + 1 + 1, 0, none⟩)]) (by simp) (by simp [go_sem]) ?_
    refine (catch10_idle (k + 1) _).mono ?_
    rintro e u' w4 ⟨rfl, rfl, b4⟩
    exact ⟨_, (HN3.out.below b4).results _ rfl rfl, HRP.out _ _ ⟨by rw [hO]; rfl, none, 0, by rw [hO]; exact HP3.out.below b4, HK3.out.trans (Kp.of_below b4), fun b hb => by simp [blk] at hb⟩⟩
  · have hO : hndO its s q = (.bad (pix q) (psb q) 84148225, its, Ss.nul) := by unfold hndO; rw [if_neg (by omega), if_neg (by omega), if_neg (by omega), if_neg (by omega), if_neg (by omega)]
    have hb9 : hndB q = true := by unfold hndB; simp; omega
    rw [hb9] at HRP
    have hRs := Reset10_any P1.head
    have HP1 := hidOf2 P1
    have hso : ∀ V, Calls Tryz.prog 67 #[.agg q.arr] V fun e w' => e = .returned (.agg #[.int .u16 (pix q : Int), .int .u8 (psb q : Int)]) ∧ Below V.heap.size V w' := spotOf_any q
    obtain ⟨n, hn⟩ : ∃ n, q.b0.toNat / 32 = n := ⟨_, rfl⟩
    rw [hn] at hc ⊢
    have e0 : ((n : Int) == 0) = false := by simp; omega
    have e1 : ((n : Int) == 1) = false := by simp; omega
    have e2 : ((n : Int) == 2) = false := by simp; omega
    have e3 : ((n : Int) == 3) = false := by simp; omega
    have e4 : ((n : Int) == 4) = false := by simp; omega
    go_wp2_with fail
    refine hRs.mono ?_
    rintro e w2 ⟨rfl, p2, K2⟩
    have K2' := K2.mono (cs := S :: (wl s ao ++ its.map Im.b)) (fun b hb => by simp at hb; simp [hb])
    have N2 : Ns (k + 1) F8.nul false w2 := HNK.out w2 K2'
    have P2 := Pv.nul (HP1.out.dct.kpS HP1.out.head K2) p2 hnear.out
    have HK2 := hidOf2 (HK1.out.fresh K2' (fun b hb => .inl hb))
    have q2 : Qb k q w2 := (K2.block _ q1.lt (by simp; omega)).trans q1
    have l2 := q2.load
    have HP2 := hidOf2 P2
    have HN2 := hidOf2 N2
    clear hRs K2 K2' p2 l1 HNK HP1 N2 P2 q2
    go_wp2_with (first | (refine ldG l2 rfl _ rfl rfl ?_))
    refine (hso _).mono ?_
    rintro e w3 ⟨rfl, b3⟩
    go_wp2
    refine leaves_cons (f := 60) (args := #[.pointer (some ⟨k + 1, 0, none⟩), .pointer (some ⟨k + 1 + 1, 0, none⟩)]) (by simp) (by simp [go_sem]) ?_
    refine (catch10_fault (k + 1) _ _ (pix q) (psb q) 84148225 (pix_lt q) (psb_lt q) (by decide) w3 (HN2.out.below b3)).mono ?_
    rintro e u' w4 ⟨rfl, rfl, N4, K4⟩
    exact ⟨_, N4.results _ rfl rfl, HRP.out _ _ ⟨by rw [hO]; rfl, none, 0, by rw [hO]; exact (HP2.out.below b3).kp K4 (ns_ty (HN2.out.below b3)) (fun b hb => by simp [blk] at hb), (HK2.out.trans (Kp.of_below b3)).fresh K4 (fun b hb => .inr (by simp at hb; omega)), fun b hb => by simp [blk] at hb⟩⟩
end
end Go.Proofs.YtahfnknbmikmkaaGreat
