/- Contracts: take. Steps for tell. -/
import Derived.Test.YtahfnknbmikmkaaGreatZs
import Derived.Test.YtahfnknbmikmkaaGreatKb23
namespace Go.Proofs.YtahfnknbmikmkaaGreat
open Go.RowKit Go.Proofs.Ty
set_option linter.unusedVariables false
set_option maxRecDepth 1000000
set_option linter.unusedSimpArgs false
theorem tk_results {Q : Nat} {f : F8} {w : World} (h : Qb Q f w) (tmps : Array Value) (h2 : tmps[4]?.getD undef = .pointer (some ⟨Q, 0, none⟩)) :
    (results Tryz.f63 tmps).run Tryz.prog w = .ok (.agg f.arr) w := by
  have l0 := h.load
  simp [Go.results, Tryz.results63, h2, asAddr, l0]
theorem and7 : ∀ n < 256, bits .and .u8 ((n / 2 ^ 1 : Nat) : Int) 7 = ((n / 2 % 8 : Nat) : Int) := by decide +kernel
theorem or32 : ∀ t < 2, bits .or .u8 32 ((16 * t : Nat) : Int) = ((32 + 16 * t : Nat) : Int) := by decide +kernel
theorem took_arr (t : Nat) (ht : t ≤ 1) : (took t).arr = #[.int .u8 ((32 + 16 * t : Nat) : Int), .int .u8 0, .int .u8 0, .int .u8 0, .int .u8 0, .int .u8 0, .int .u8 0, .int .u8 0] := by
  have : ((UInt8.ofNat (32 + 16 * t)).toNat : Int) = ((32 + 16 * t : Nat) : Int) := un _ (by omega)
  unfold took F8.arr F8.c
  simp only [this]
  rfl
theorem fin_rel (its : List Im) (t : Ss) : (finE its t = .returned (.tuple #[]) ∧ (finO its t).1 = .ok (took t.tn)) ∨ (∃ ix sb c, finE its t = flE ix sb c ∧ (finO its t).1.e = flE ix sb c) := by
  unfold finE finO
  split
  · exact .inr ⟨_, _, _, rfl, rfl⟩
  · split
    · exact .inl ⟨rfl, rfl⟩
    · exact .inr ⟨_, _, _, rfl, rfl⟩
theorem finO_b (its : List Im) (t : Ss) : (finO its t).2.map Im.b = its.map Im.b := by
  unfold finO
  split
  · rfl
  · exact wrt_b _ _ _ _
/-- The state in the midst of take and tell: a transfer at p, the frame at k, the answer at k + 1. -/
structure Mid (S D R k p : Nat) (its : List Im) (q : F8) (t : Ss) (ap : Option Addr) (cq : Nat) (bs : List Nat) (w x : World) : Prop where
  dct : Dct D R its x
  head : Pb S D Ss.nul none 0 x
  fr : Qb k q x
  an : Qb (k + 1) F8.nul x
  tr : Tb p t ap cq x
  kp : Kp bs w x
theorem Mid.below {S D R k p : Nat} {its : List Im} {q : F8} {t : Ss} {ap : Option Addr} {cq : Nat} {bs : List Nat} {w x y : World} (h : Mid S D R k p its q t ap cq bs w x) (hb : Below x.heap.size x y) : Mid S D R k p its q t ap cq bs w y :=
  ⟨h.dct.below hb, h.head.below hb, h.fr.below hb, h.an.below hb, h.tr.below hb, h.kp.trans (Kp.of_below hb)⟩
theorem Kp.of_grown {w x : World} {ao : Option Addr} {n c : Nat} (G : w.grownBy x (Value.slice ao n c).ownBlock) : Kp (blk ao) w x :=
  ⟨G.os, G.tape, G.output, G.size, fun j hj hn => G.block j hj (fun e => hn ((own_blk ao n c j).1 e.symm))⟩
theorem Tb.setB {p : Nat} {s : Ss} {ao ap : Option Addr} {cp cq : Nat} {w : World} (h : Tb p s ao cp w) (l : List UInt8) : Tb p { s with bs := l } ap cq (w.setCell ⟨p, 4, none⟩ (.slice ap l.length cq)) := by
  have h : w.heap[p]? = some (.cells (trA s ao cp) 89 (0, 0)) := h
  unfold Tb
  simp [World.setCell, Array.getElem?_modify, h, trA, trC]
theorem Kp.cell1 (w : World) (p : Nat) (o : Nat) (v : Value) : Kp [p] w (w.setCell ⟨p, o, none⟩ v) :=
  ⟨rfl, rfl, rfl, by simp [World.setCell], fun j hj hn => Below.heap_setCell w ⟨p, o, none⟩ v j (by simpa using hn)⟩
theorem Kp.fresh {bs cs : List Nat} {w x y : World} (h : Kp bs w x) (g : Kp cs x y) (hc : ∀ b ∈ cs, b ∈ bs ∨ w.heap.size ≤ b) : Kp bs w y :=
  ⟨g.os.trans h.os, g.tape.trans h.tape, g.output.trans h.output, Nat.le_trans h.size g.size, fun j hj hn => (g.block j (Nat.lt_of_lt_of_le hj h.size) (fun hb => by rcases hc j hb with h1 | h1; exact hn h1; omega)).trans (h.block j hj hn)⟩
section
variable {S D R : Nat} {s : Ss} {ao : Option Addr} {cp : Nat} {its : List Im} {w : World}
set_option maxHeartbeats 8000000 in
theorem take_any (h : Pv S D R its s ao cp w) (q : F8) : Calls Tryz.prog 63 #[.pointer (some ⟨S, 0, none⟩), .agg q.arr] w (HPost S D R its (wl s ao) ao (takO its s q) w) := by
  obtain ⟨W, hW⟩ : ∃ W, w.alloc (.cells q.arr 32) = W := ⟨_, rfl⟩
  obtain ⟨k, hk⟩ : ∃ k, w.heap.size = k := ⟨_, rfl⟩
  have hWs : W.heap.size = k + 1 := by rw [← hW, size_alloc, hk]
  have b0 : Below w.heap.size w (W.alloc (.cells zA8 32)) := (hW ▸ (Below.refl _ _).alloc (Nat.le_refl _) _).alloc (by rw [hWs, hk]; omega) _
  have q0 : Qb k q (W.alloc (.cells zA8 32)) := (Lib.alloc_old W _ k (by omega)).trans (by rw [← hk, ← hW]; exact Qb.new w q)
  have r0 : Qb (k + 1) F8.nul (W.alloc (.cells zA8 32)) := by rw [← hWs]; exact heap_alloc_new W _
  have hSk : S < k := by rw [← hk]; exact h.head.lt
  have h0 := h.below b0
  have hb0 := q.b0.toNat_lt
  have hok := h.ok
  have hnear := hidOf2 h.near
  have hfar := hidOf2 h.far
  have HB0 := hidOf2 b0
  obtain ⟨EE, hEE⟩ : ∃ e, HPost S D R its (wl s ao) ao (takO its s q) w = e := ⟨_, rfl⟩
  have HRP : Hid (∀ O, takO its s q = O → ∀ e w', HPost S D R its (wl s ao) ao O w e w' → EE e w') := fun O hO e w' hh => by rw [← hEE, hO]; exact hh
  rw [hEE]
  clear h hEE b0
  go_enter Tryz.func63, Tryz.ntmps63
  go_upto_region 1 with fail
  change Code.wp Tryz.prog _ _ _ (W.alloc (.cells zA8 32))
  obtain ⟨V, hV⟩ : ∃ V, W.alloc (.cells zA8 32) = V := ⟨_, rfl⟩
  have hVs : V.heap.size = k + 2 := by rw [← hV, size_alloc, hWs]
  rw [hV] at q0 r0 HB0 h0 ⊢
  have l0 := q0.load
  by_cases hdn : s.dn = 1
  · have hdu := due_yes h0.head q (q.b0.toNat / 16 % 2) (by omega) rfl
    rw [hdn] at hdu
    have hown := h0.own hdn
    have hwl : wl s ao = blk ao := if_pos hdn
    rw [hwl] at HRP
    have H0 := hidOf2 h0
    have hTK := took_arr s.tn hok.tn
    have hor := or32 s.tn (by have := hok.tn; omega)
    have hTu : ∀ V, Calls Tryz.prog 108 #[.agg q.arr] V fun e w' => e = .returned (.int .u8 ((16 * (q.b0.toNat / 16 % 2) : Nat) : Int)) ∧ Below V.heap.size V w' := turn_any q
    by_cases ht : q.b0.toNat / 16 % 2 ≠ s.tn
    · rw [if_pos ht] at hdu
      have hto : takO its s q = (.bad s.ix s.sb 84082688, its, Ss.nul) := by unfold takO; rw [if_neg (by simp [hdn]), if_pos ht]
      clear q0 r0 h0 hTu
      go_wp2_with (first | (refine ldG l0 rfl _ rfl rfl ?_))
      refine hdu.mono ?_
      rintro e w1 ⟨rfl, p1, K1⟩
      exact ⟨rfl, HRP.out _ hto _ _ ⟨rfl, none, 0, Pv.nul (H0.out.dct.kpS H0.out.head K1) p1 hnear.out, ((Kp.of_below HB0.out).trans K1).mono (fun b hb => by simp at hb; simp [hb]), fun b hb => by simp [blk] at hb⟩⟩
    · rw [if_neg ht] at hdu
      have ht2 : q.b0.toNat / 16 % 2 = s.tn := by simpa using ht
      rw [ht2] at hTu
      have hto : takO its s q = if 65536 < (s.bs ++ seg q).length then (.bad s.ix s.sb 84148229, its, Ss.nul)
          else if q.b0.toNat % 2 = 1 then ((finO its { s with bs := s.bs ++ seg q }).1, (finO its { s with bs := s.bs ++ seg q }).2, Ss.nul)
          else (.ok (took s.tn), its, { s with bs := s.bs ++ seg q, tn := 1 - s.tn }) := by unfold takO; rw [if_neg (by simp [hdn]), if_neg ht]
      clear h0
      go_wp2_with (first | (refine ldG l0 rfl _ rfl rfl ?_))
      refine hdu.mono ?_
      rintro e w1 ⟨rfl, p1, K1⟩
      have d1 := H0.out.dct.kpS H0.out.head K1
      have q1 : Qb k q w1 := (K1.block _ q0.lt (by simp; omega)).trans q0
      have r1 : Qb (k + 1) F8.nul w1 := (K1.block _ r0.lt (by simp; omega)).trans r0
      have o1 : w1.ownsRow (S + 1) 5 1 (.slice ao s.bs.length cp) s.bs.length (Lib.byteCells s.bs) := own_same hown (fun b hb => K1.block b (own_block_lt hown b hb) (by have := hfar.out b ((own_blk _ _ _ _).1 hb); simp; omega))
      have HK1 := hidOf2 (((Kp.of_below (bs := [S]) HB0.out).trans K1).mono (cs := S :: (blk ao ++ its.map Im.b)) (fun b hb => by simp at hb; simp [hb]))
      have hsz1 : k + 2 ≤ w1.heap.size := by rw [← hVs]; exact K1.size
      clear hdu K1 q0 r0 hown HB0 l0 H0
      obtain ⟨p, hp⟩ : ∃ p, w1.heap.size = p := ⟨_, rfl⟩
      have z1 : Tb p Ss.nul none 0 (w1.alloc (.cells zTA 89)) := by rw [← hp]; exact heap_alloc_new w1 _
      have bz : Below w1.heap.size w1 (w1.alloc (.cells zTA 89)) := (Below.refl _ _).alloc (Nat.le_refl _) _
      have bz2 := below_row bz (by omega) (by rw [size_alloc]; omega) (q := p) (trA s ao cp)
      have z2 := z1.row (t := s) (ap := ao) (cq := cp)
      have HZ : Hid (∀ X, X = (w1.alloc (.cells zTA 89)).setRow p (trA s ao cp) → Tb p s ao cp X ∧ Below w1.heap.size w1 X) := fun X hX => by subst hX; exact ⟨z2, bz2⟩
      clear z2 bz2 bz
      go_upto_region 2 with (first | (refine sdTb (t := s) (ap := ao) (cq := cp) z1 rfl _ _ rfl rfl rfl ?_))
      change Code.wp Tryz.prog _ _ _ ((w1.alloc (.cells zTA 89)).setRow p (trA s ao cp))
      generalize hX : (w1.alloc (.cells zTA 89)).setRow p (trA s ao cp) = wb
      obtain ⟨t2, b2⟩ := HZ.out wb hX.symm
      have M := hidOf2 (show Mid S D R k p its q s ao cp (S :: (blk ao ++ its.map Im.b)) w wb from ⟨d1.below b2, p1.below b2, q1.below b2, r1.below b2, t2, HK1.out.trans (Kp.of_below b2)⟩)
      have oW := own_below5 o1 b2
      clear HZ hX z1 t2 b2 d1 p1 q1 r1 o1 HK1
      have c0 : Below wb.heap.size wb wb.drew := bdr (Below.refl _ _) 1
      have MD := hidOf2 (M.out.below c0)
      have S0 : Qb k q wb.drew := MD.out.fr
      have tD : Tb p s ao cp wb.drew := MD.out.tr
      have oD := own_below5 oW c0
      have hlen : s.bs.length + (seg q).length ≤ 140737488355328 := by have := hok.len; have := seg_len q; omega
      have hbase : S + 1 ≤ wb.drew.heap.size := by have := S0.lt; omega
      refine wp_region_held (S := fun y => Qb k q y) (by kernel_rfl) ?_
      change wpAnyH _ _ _ _ _ _ _ _ wb.drew
      refine tk 0 (.pointer (some ⟨p, 4, none⟩)) rfl (by kernel_rfl) (fun _ _ _ h => h) rfl (fun _ hS => by simp [execOp, go_sem, Act.eval]) S0 ?_
      simp only [zzA, zzB, zzC, Act.put, zzD, zzE, zzF]
      refine tk 2 (.pointer (some ⟨k, 0, none⟩)) rfl (by kernel_rfl) (fun _ _ _ h => h) rfl (fun _ hS => exec_idx8 (k := 0) rfl rfl rfl (by decide) _) S0 ?_
      simp only [zzA, zzB, zzC, Act.put, zzD, zzE, zzF]
      refine tk 3 (.int .u8 (q.b0.toNat : Int)) rfl (by kernel_rfl) (fun _ _ _ h => h) rfl (fun _ hS => exec_load rfl rfl (load_u8 _ _ _ _ hS.c0)) S0 ?_
      simp only [zzA, zzB, zzC, Act.put, zzD, zzE, zzF]
      refine tk 4 (.int .u8 ((q.b0.toNat / 2 ^ 1 : Nat) : Int)) rfl (by kernel_rfl) (fun _ _ _ h => h) rfl (fun _ hS => exec_shr8 (n := q.b0.toNat) (k := 1) rfl rfl rfl hb0 (by decide) _) S0 ?_
      simp only [zzA, zzB, zzC, Act.put, zzD, zzE, zzF]
      refine tk 5 (.int .u8 ((q.b0.toNat / 2 % 8 : Nat) : Int)) rfl (by kernel_rfl) (fun _ _ _ h => h) rfl (fun _ hS => exec_and8 (and7 _ hb0) rfl rfl rfl _) S0 ?_
      simp only [zzA, zzB, zzC, Act.put, zzD, zzE, zzF]
      refine tk 6 (.int .i64 ((q.b0.toNat / 2 % 8 : Nat) : Int)) rfl (by kernel_rfl) (fun _ _ _ h => h) rfl (fun _ hS => exec_conv8 (m := q.b0.toNat / 2 % 8) rfl rfl (by omega) _) S0 ?_
      simp only [zzA, zzB, zzC, Act.put, zzD, zzE, zzF]
      refine tk 7 (.int .i64 ((8 - q.b0.toNat / 2 % 8 : Nat) : Int)) rfl (by kernel_rfl) (fun _ _ _ h => h) rfl (fun _ hS => exec_sub (m := 8) (n := q.b0.toNat / 2 % 8) rfl rfl rfl (by omega) (by omega) _) S0 ?_
      simp only [zzA, zzB, zzC, Act.put, zzD, zzE, zzF]
      refine tk 8 (.slice (some ⟨k, 1, none⟩) (7 - q.b0.toNat / 2 % 8) 7) rfl (by kernel_rfl) (fun _ _ _ h => h) rfl (fun _ hS => exec_slice8n (k := k) (lo := 1) (hi := 8 - q.b0.toNat / 2 % 8) rfl rfl rfl rfl (by omega) (by omega) (by omega) (by omega) (by omega) _) S0 ?_
      simp only [zzA, zzB, zzC, Act.put, zzD, zzE, zzF]
      refine wpAnyH_all (rs := [1]) (by kernel_rfl) (by simp) ?_
      intro k hk
      simp only [List.mem_cons, List.mem_nil_iff, or_false] at hk
      subst hk
      refine wpOp_run rfl rfl (wp_ldG (load_bytes _ _ _ _ _ _ tD.c.2.2.2.2.1) _ rfl rfl ?_)
      refine ⟨S0, ?_⟩
      simp only [zzA, zzB, zzC, Act.put, zzD, zzE, zzF]
      refine wpAnyH_all (rs := [9]) (by kernel_rfl) (by simp) ?_
      intro k hk
      simp only [List.mem_cons, List.mem_nil_iff, or_false] at hk
      subst hk
      refine wpOp_run rfl rfl (wp_append_bytes _ _ rfl (S + 1) (.slice ao s.bs.length cp) s.bs rfl oD (.slice (some ⟨k, 1, none⟩) (7 - q.b0.toNat / 2 % 8) 7) (seg q) rfl (S0.bytes 1 (7 - q.b0.toNat / 2 % 8) (by omega) (by omega)) hlen hbase ?_)
      intro v' u1 o1 G1 H1
      obtain ⟨a2, c2, hv'⟩ := own_shape5 o1
      subst hv'
      have qA : Qb k q u1 := row_other G1 (own_ty oD) S0 (by decide)
      refine ⟨qA, ?_⟩
      simp only [zzA, zzB, zzC, Act.put, zzD, zzE, zzF]
      refine tk 10 (.pointer (some ⟨p, 4, none⟩)) rfl (by kernel_rfl) (fun _ _ _ h => h) rfl (fun _ hS => by simp [execOp, go_sem, Act.eval]) qA ?_
      simp only [zzA, zzB, zzC, Act.put, zzD, zzE, zzF]
      refine wpAnyH_all (rs := [11]) (by kernel_rfl) (by simp) ?_
      intro k hk
      simp only [List.mem_cons, List.mem_nil_iff, or_false] at hk
      subst hk
      have tA : Tb p s ao cp u1 := row_other G1 (own_ty oD) tD (by decide)
      refine wpOp_run rfl rfl (wp_store_cell 47 _ _ rfl p 4 rfl (.slice a2 (s.bs ++ seg q).length c2) rfl (store_bytes u1 p 4 _ _ _ _ tA.c.2.2.2.2.1 (Lib.frozen_of_heap tA 4)) ?_)
      have qB : Qb k q (u1.setCell ⟨p, 4, none⟩ (.slice a2 (s.bs ++ seg q).length c2)) := qA.other (by show k ≠ p; omega) _
      refine ⟨qB, ?_⟩
      simp only [zzA, zzB, zzC, Act.put, zzD, zzE, zzF]
      refine wpAnyH_done (by kernel_rfl) ?_ _
      have G2 := hidOf2 (show Mid S D R k p its q { s with bs := s.bs ++ seg q } a2 c2 (S :: (blk ao ++ its.map Im.b)) w (u1.setCell ⟨p, 4, none⟩ (.slice a2 (s.bs ++ seg q).length c2)) ∧ (u1.setCell ⟨p, 4, none⟩ (.slice a2 (s.bs ++ seg q).length c2)).ownsRow (S + 1) 5 1 (.slice a2 (s.bs ++ seg q).length c2) (s.bs ++ seg q).length (Lib.byteCells (s.bs ++ seg q)) ∧ (∀ b ∈ blk a2, b ∈ blk ao ∨ w.heap.size ≤ b) from by
        have dA : Dct D R its u1 := row_dct G1 (own_ty oD) (by decide) (by decide) (by decide) MD.out.dct
        have pA : Pb S D Ss.nul none 0 u1 := row_other G1 (own_ty oD) MD.out.head (by decide)
        have rA : Qb (k + 1) F8.nul u1 := row_other G1 (own_ty oD) MD.out.an (by decide)
        have KA := MD.out.kp.fresh (Kp.of_grown G1) (fun b hb => .inl (by simp [hb]))
        have KB := Kp.cell1 u1 p 4 (.slice a2 (s.bs ++ seg q).length c2)
        refine ⟨⟨?_, ?_, qB, ?_, tA.setB _, KA.fresh KB (fun b hb => .inr (by simp at hb; omega))⟩, ?_, ?_⟩
        · exact dA.of_heap fun b A T fr hb hT => KB.block b (Array.getElem?_eq_some_iff.1 hb).1 (by
            rw [List.mem_singleton]
            rintro rfl
            rw [show u1.heap[b]? = some (.cells (trA s ao cp) 89 (0, 0)) from tA] at hb
            injection hb with hb
            injection hb with _ hb2
            subst hb2
            revert hT
            decide)
        · exact (KB.block _ pA.lt (by simp; omega)).trans pA
        · exact (KB.block _ rA.lt (by simp; omega)).trans rA
        · refine own_same o1 (fun b hb => KB.block b (own_block_lt o1 b hb) ?_)
          rw [List.mem_singleton]
          rintro rfl
          obtain ⟨cur, hc⟩ := own_ty o1 b hb
          rw [show u1.heap[b]? = some (.cells (trA s ao cp) 89 (0, 0)) from tA] at hc
          injection hc with hc
          injection hc with _ hc2
          revert hc2
          decide
        · intro b hb
          by_cases hlt : b < wb.drew.heap.size
          · left
            exact (own_blk ao s.bs.length cp b).1 (H1 b hlt ((own_blk a2 _ c2 b).2 hb))
          · right
            have : w.heap.size ≤ wb.drew.heap.size := MD.out.kp.size
            omega)
      clear MD M oW oD tD S0 hlen hbase o1 G1 H1 qA qB tA c0
      generalize u1.setCell ⟨p, 4, none⟩ (.slice a2 (s.bs ++ seg q).length c2) = Y at *
      obtain ⟨M2, o2, f2⟩ := G2.out
      obtain ⟨s2, hs2⟩ : ∃ t : Ss, { s with bs := s.bs ++ seg q } = t := ⟨_, rfl⟩
      have e1 : s2.ix = s.ix := by rw [← hs2]
      have e2 : s2.sb = s.sb := by rw [← hs2]
      have e3 : s2.tn = s.tn := by rw [← hs2]
      have e4 : s2.bs = s.bs ++ seg q := by rw [← hs2]
      have e5 : s2.dn = s.dn := by rw [← hs2]
      have e6 : s2.sz = s.sz := by rw [← hs2]
      rw [hs2] at M2 hto
      rw [← e4] at o2 hto
      have c4 := M2.tr.c.2.2.2.2.1
      have rs := M2.tr.sp
      have lt2 := M2.tr.load
      have hc0 := M2.fr.c0
      obtain ⟨nn, hnn⟩ : ∃ n, s2.bs.length = n := ⟨_, rfl⟩
      rw [← e4]
      rw [hnn] at c4 hto ⊢
      have HM2 := hidOf2 M2
      have HO2 := hidOf2 o2
      have HF2 := hidOf2 f2
      have HTO := hidOf2 hto
      clear G2 M2 o2 f2 hto
      have hnl : nn ≤ 65543 := by rw [← hnn, e4, List.length_append]; have := hok.len; have := seg_len q; omega
      by_cases hbig : 65536 < nn
      · have dd : decide ((65536 : Int) < (nn : Int)) = true := by simp; omega
        have hP := pass_bad s2.ix s2.sb 84148229 (by decide) Y
        rw [if_pos hbig] at HTO
        rw [e1, e2] at hP rs
        go_wp2_with (first | (refine ldSp rs rfl _ rfl rfl ?_))
        refine hP.mono ?_
        rintro e w5 ⟨rfl, b5⟩
        have M5 := HM2.out.below b5
        exact ⟨rfl, HRP.out _ HTO.out _ _ ⟨rfl, none, 0, Pv.nul M5.dct M5.head hnear.out, M5.kp, fun b hb => by simp [blk] at hb⟩⟩
      · have dd : decide ((65536 : Int) < (nn : Int)) = false := by simp; omega
        rw [if_neg hbig] at HTO
        have hok2 : s2.Ok := ⟨by rw [e5]; exact hok.dn, by rw [e1]; exact hok.ix, by rw [e2]; exact hok.sb, by rw [e3]; exact hok.tn, by rw [hnn]; omega, fun n hn => hok.sz n (by rw [← e6]; exact hn)⟩
        have a1 := and1 _ hb0
        by_cases hl : q.b0.toNat % 2 = 1
        · rw [if_pos hl] at HTO
          have d2 : (((q.b0.toNat % 2 : Nat) : Int) != 0) = true := by simp; omega
          have hF := finish_any HM2.out.head HM2.out.dct s2 a2 c2 hok2 (by rw [hnn]; rw [hnn] at HO2; exact bytes_of_own (by rw [hnn]; exact HO2.out))
          have HFB := hidOf2 (finO_b its s2)
          obtain ⟨FO, hFO⟩ : ∃ f, finO its s2 = f := ⟨_, rfl⟩
          rcases fin_rel its s2 with ⟨f1, f3⟩ | ⟨fx, fs, fc, f1, f3⟩
          · rw [f1, hFO] at hF
            rw [hFO] at f3 HTO HFB
            obtain ⟨m, hm⟩ : ∃ m, q.b0.toNat % 2 = m := ⟨_, rfl⟩
            obtain ⟨b0, hb0n⟩ : ∃ m, q.b0.toNat = m := ⟨_, rfl⟩
            rw [hm] at a1 d2
            rw [hb0n] at a1 hc0
            go_wp2_with (first | (refine ldG lt2 rfl _ rfl rfl ?_))
            refine hF.mono ?_
            rintro e w6 ⟨rfl, d6, K6⟩
            have q6 : Qb k q w6 := kp_other HM2.out.dct K6 HM2.out.fr (by decide)
            have r6 : Qb (k + 1) F8.nul w6 := kp_other HM2.out.dct K6 HM2.out.an (by decide)
            have p6 : Pb S D Ss.nul none 0 w6 := kp_other HM2.out.dct K6 HM2.out.head (by decide)
            have HK6 := hidOf2 (HM2.out.kp.fresh K6 (fun b hb => .inl (by simp; exact .inr (.inr (by simpa using hb)))))
            have HD6 := hidOf2 d6
            have HP6 := hidOf2 p6
            have l6 := q6.load
            clear hF K6 d6 p6 lt2 rs c4 hc0 HM2 HO2 HF2
            go_wp2_with (first | (refine ldG l6 rfl _ rfl rfl ?_))
            refine (hTu _).mono ?_
            rintro e w8 ⟨rfl, b8⟩
            have r8 := r6.below b8
            have r9 := r8.row (took s.tn)
            have r8l := r8.lt
            have HZ : Hid (HPost S D R its (blk ao) ao (FO.1, FO.2, Ss.nul) w (.returned (.agg (took s.tn).arr)) (w8.setRow (k + 1) (took s.tn).arr)) := by
              obtain ⟨x1, x2, x3⟩ := row_stays (HP6.out.below b8) (HD6.out.below b8) (HK6.out.trans (Kp.of_below b8)) r8 (by omega) (took s.tn).arr
              refine ⟨?_, none, 0, Pv.nul x2 x1 (by rw [HFB.out]; exact hnear.out), x3, fun b hb => by simp [blk] at hb⟩
              show _ = FO.1.e
              rw [f3, e3]
              rfl
            clear l6 b8 hTu HP6 HD6 HK6 r6 q6
            obtain ⟨t16, ht16⟩ : ∃ m, 16 * s.tn = m := ⟨_, rfl⟩
            obtain ⟨t32, ht32⟩ : ∃ m, 32 + 16 * s.tn = m := ⟨_, rfl⟩
            rw [ht32] at hor hTK
            rw [ht16] at hor ⊢
            go_wp2_with (first | (refine sdF (g := took s.tn) r8 rfl _ _ rfl rfl (by rw [hTK]; first | rfl | (simp [Act.eval, hor]; done)) ?_))
            exact bodyPost_ret (tk_results r9 _ rfl) rfl (HRP.out _ HTO.out _ _ HZ.out)
          · rw [f1, hFO] at hF
            rw [hFO] at f3 HTO HFB
            obtain ⟨m, hm⟩ : ∃ m, q.b0.toNat % 2 = m := ⟨_, rfl⟩
            obtain ⟨b0, hb0n⟩ : ∃ m, q.b0.toNat = m := ⟨_, rfl⟩
            rw [hm] at a1 d2
            rw [hb0n] at a1 hc0
            go_wp2_with (first | (refine ldG lt2 rfl _ rfl rfl ?_))
            refine hF.mono ?_
            rintro e w6 ⟨rfl, d6, K6⟩
            have p6 : Pb S D Ss.nul none 0 w6 := kp_other HM2.out.dct K6 HM2.out.head (by decide)
            exact ⟨rfl, HRP.out _ HTO.out _ _ ⟨f3.symm, none, 0, Pv.nul d6 p6 (by rw [HFB.out]; exact hnear.out), HM2.out.kp.fresh K6 (fun b hb => .inl (by simp; exact .inr (.inr (by simpa using hb)))), fun b hb => by simp [blk] at hb⟩⟩
        · rw [if_neg hl] at HTO
          have d2 : (((q.b0.toNat % 2 : Nat) : Int) != 0) = false := by simp; omega
          have hG := goOn_any HM2.out.head s2 a2 c2 hok2.tn
          obtain ⟨m, hm⟩ : ∃ m, q.b0.toNat % 2 = m := ⟨_, rfl⟩
          obtain ⟨b0, hb0n⟩ : ∃ m, q.b0.toNat = m := ⟨_, rfl⟩
          rw [hm] at a1 d2
          rw [hb0n] at a1 hc0
          go_wp2_with (first | (refine ldG lt2 rfl _ rfl rfl ?_))
          refine hG.mono ?_
          rintro e w6 ⟨rfl, p6, K6⟩
          have q6 : Qb k q w6 := (K6.block _ HM2.out.fr.lt (by simp; omega)).trans HM2.out.fr
          have r6 : Qb (k + 1) F8.nul w6 := (K6.block _ HM2.out.an.lt (by simp; omega)).trans HM2.out.an
          have HD6 := hidOf2 (HM2.out.dct.kpS HM2.out.head K6)
          have hfar2 : ∀ b ∈ blk a2, S < b := fun b hb => by rcases HF2.out b hb with h1 | h1; exact hfar.out b h1; omega
          have o6 := own_same HO2.out (fun b hb => K6.block b (own_block_lt HO2.out b hb) (by have := hfar2 b ((own_blk _ _ _ _).1 hb); simp; omega))
          have HO6 := hidOf2 o6
          have HK6 := hidOf2 (HM2.out.kp.fresh K6 (fun b hb => .inl (by simp at hb; simp [hb])))
          have HP6 := hidOf2 p6
          have l6 := q6.load
          clear hG K6 o6 p6 lt2 rs c4 hc0 HM2 HO2
          go_wp2_with (first | (refine ldG l6 rfl _ rfl rfl ?_))
          refine (hTu _).mono ?_
          rintro e w8 ⟨rfl, b8⟩
          have r8 := r6.below b8
          have r9 := r8.row (took s.tn)
          have r8l := r8.lt
          have HZ : Hid (HPost S D R its (blk ao) ao (.ok (took s.tn), its, { s with bs := s.bs ++ seg q, tn := 1 - s.tn }) w (.returned (.agg (took s.tn).arr)) (w8.setRow (k + 1) (took s.tn).arr)) := by
            obtain ⟨x1, x2, x3⟩ := row_stays (HP6.out.below b8) (HD6.out.below b8) (HK6.out.trans (Kp.of_below b8)) r8 (by omega) (took s.tn).arr
            have o8 := own_below5 HO6.out b8
            have o9 := own_same o8 (x := w8.setRow (k + 1) (took s.tn).arr) (fun b hb => setRow_other _ _ _ _ (by
              rintro rfl
              obtain ⟨cur, hc⟩ := own_ty o8 (k + 1) hb
              rw [show w8.heap[k + 1]? = some (.cells F8.nul.arr 32 (0, 0)) from r8] at hc
              injection hc with hc
              injection hc with _ hc2
              revert hc2
              decide))
            subst hs2
            exact ⟨rfl, a2, c2, ⟨x2, x1, bytes_of_own o9, fun _ => o9, own_cp o9, hfar2, hnear.out, ⟨hok2.dn, hok2.ix, hok2.sb, (show 1 - s.tn ≤ 1 by omega), hok2.len, hok2.sz⟩, fun b hb => own_block_lt o9 b ((own_blk _ _ _ _).2 hb)⟩, x3, HF2.out⟩
          clear l6 b8 hTu HP6 HD6 HK6 r6 q6 HO6
          rw [e4] at HTO
          obtain ⟨t16, ht16⟩ : ∃ m, 16 * s.tn = m := ⟨_, rfl⟩
          obtain ⟨t32, ht32⟩ : ∃ m, 32 + 16 * s.tn = m := ⟨_, rfl⟩
          rw [ht32] at hor hTK
          rw [ht16] at hor ⊢
          go_wp2_with (first | (refine sdF (g := took s.tn) r8 rfl _ _ rfl rfl (by rw [hTK]; first | rfl | (simp [Act.eval, hor]; done)) ?_))
          exact bodyPost_ret (tk_results r9 _ rfl) rfl (HRP.out _ HTO.out _ _ HZ.out)
  · have hdu := due_no h0.head 1 q hdn
    have hto : takO its s q = (.bad 0 0 84148225, its, s) := by unfold takO; rw [if_pos hdn]
    have H0 := hidOf2 h0
    clear q0 r0 h0
    go_wp2_with (first | (refine ldG l0 rfl _ rfl rfl ?_))
    refine hdu.mono ?_
    rintro e w1 ⟨rfl, b1⟩
    exact ⟨rfl, HRP.out _ hto _ _ ⟨rfl, ao, cp, H0.out.below b1, Kp.of_below (HB0.out.trans (b1.mono HB0.out.size)), fun b hb => .inl hb⟩⟩
end
end Go.Proofs.YtahfnknbmikmkaaGreat
namespace Go.Proofs.YtahfnknbmikmkaaGreat
open Go.RowKit Go.Proofs.Ty
set_option linter.unusedVariables false
set_option maxRecDepth 1000000
set_option linter.unusedSimpArgs false
theorem tl_results {Q : Nat} {f : F8} {w : World} (h : Qb Q f w) (tmps : Array Value) (h2 : tmps[4]?.getD undef = .pointer (some ⟨Q, 0, none⟩)) :
    (results Tryz.f66 tmps).run Tryz.prog w = .ok (.agg f.arr) w := by
  have l0 := h.load
  simp [Go.results, Tryz.results66, h2, asAddr, l0]
/-- A frame with the next bytes in it. -/
def pn (s : Ss) : F8 := ⟨0, s.bs.getD 0 0, s.bs.getD 1 0, s.bs.getD 2 0, s.bs.getD 3 0, s.bs.getD 4 0, s.bs.getD 5 0, s.bs.getD 6 0⟩
theorem F8.set0 (f : F8) (c : UInt8) (z : Int) (hz : z = (c.toNat : Int)) : f.arr.setIfInBounds 0 (.int .u8 z) = ({ f with b0 := c } : F8).arr := by subst hz; rfl
theorem put_nul' (l : List UInt8) : F8.nul.put 1 (l.take 7) = ⟨0, l.getD 0 0, l.getD 1 0, l.getD 2 0, l.getD 3 0, l.getD 4 0, l.getD 5 0, l.getD 6 0⟩ := by
  match l with
  | [] => rfl
  | [a] => rfl
  | [a, b] => rfl
  | [a, b, c] => rfl
  | [a, b, c, d] => rfl
  | [a, b, c, d, e] => rfl
  | [a, b, c, d, e, f] => rfl
  | a :: b :: c :: d :: e :: f :: g :: r => rfl
theorem put_nul (s : Ss) : F8.nul.put 1 (s.bs.take 7) = pn s := put_nul' s.bs
theorem exec_slice8t {a : Act} {o : Oper} {x y : Operand} {k lo : Nat} (ho : o.op = .slice 32 x (some y) none none) (hx : a.eval x = .pointer (some ⟨k, 0, none⟩)) (hy : a.eval y = .int .i64 (lo : Int)) (h3 : lo < 8) (w : World) : (execOp a.eval o).run Tryz.prog w = .ok (.value (.slice (some ⟨k, lo, none⟩) (8 - lo) (8 - lo))) w := by
  have hr := sl8t k lo h3 w
  unfold execOp
  simp only [ho, hx, hy, Option.map_some, Option.map_none, Sem.run_bind, hr, Result.andThen_ok, Sem.run_pure]
theorem wp_copy8 {o : Oper} {a : Act} {w w' : World} {K : Act → World → Prop} {Q : Exit → Act → World → Prop} {t t' : TypeId} {v u v' : Value} (hr : (Builtin.copy_ #[t, t'] o.type #[v, u]).run Tryz.prog w = .ok v' w') (d s : Operand) (ho : o.op = .call { callee := .builtin .copy, args := #[d, s], argTypes := #[t, t'] }) (hd : a.eval d = v) (hs : a.eval s = u) (h : K (a.put o.dst v') w') : o.wp Tryz.prog a w K Q := by
  unfold Oper.wp execOp
  simp only [ho, resolve, invoke, builtin, Sem.run_bind, Sem.run_pure, Result.andThen_ok, List.map_toArray, List.map_cons, List.map_nil, hd, hs, hr]
  exact h
theorem slBt {w : World} {ops : Array Oper} {rest : List Oper} {Q : Exit → Act → World → Prop} {a : Act} {o : Oper} {v u lo' : Value} (hr : ∀ W, (Instr.sliceAt 47 v (some lo') none none).run Tryz.prog W = .ok u W) (hgd : Region.wanted o (yielded ops a.tmps) = true) (x lov : Operand) (ho : o.op = .slice 47 x (some lov) none none) (hx : a.eval x = v) (hlo : a.eval lov = lo')
    (hh : wpList Tryz.prog ops Q rest (a.put o.dst u) w) : wpList Tryz.prog ops Q (o :: rest) a w := by
  refine BigFrame.wpList_want hgd fun K hK => ?_
  have h2 := hK _ _ hh
  have hr := hr w
  unfold Oper.wp execOp
  simp only [ho, hx, hlo, Option.map_some, Option.map_none, Sem.run_bind, hr, Result.andThen_ok, Sem.run_pure]
  exact h2
theorem orT : ∀ t < 2, ∀ m < 8, bits .or .u8 ((16 * t : Nat) : Int) ((2 * m : Nat) : Int) = ((16 * t : Nat) : Int) + ((2 * m : Nat) : Int) := by decide +kernel
theorem orT2 : ∀ t < 2, ∀ m < 8, bits .or .u8 (((16 * t : Nat) : Int) + ((2 * m : Nat) : Int)) 1 = ((16 * t : Nat) : Int) + ((2 * m + 1 : Nat) : Int) := by decide +kernel
theorem Mid.setB {S D R k p : Nat} {its : List Im} {q : F8} {t : Ss} {ao ap : Option Addr} {cp cq : Nat} {bs : List Nat} {w x : World} (h : Mid S D R k p its q t ao cp bs w x) (l : List UInt8) (hp : w.heap.size ≤ p ∧ S ≠ p ∧ k ≠ p ∧ k + 1 ≠ p) : Mid S D R k p its q { t with bs := l } ap cq bs w (x.setCell ⟨p, 4, none⟩ (.slice ap l.length cq)) := by
  have KB := Kp.cell1 x p 4 (.slice ap l.length cq)
  refine ⟨?_, (KB.block _ h.head.lt (by simp; exact hp.2.1)).trans h.head, (KB.block _ h.fr.lt (by simp; exact hp.2.2.1)).trans h.fr, (KB.block _ h.an.lt (by simp; exact hp.2.2.2)).trans h.an, h.tr.setB l, h.kp.fresh KB (fun b hb => .inr (by simp at hb; rw [hb]; exact hp.1))⟩
  exact h.dct.of_heap fun b A T fr hb hT => KB.block b (Array.getElem?_eq_some_iff.1 hb).1 (by
    rw [List.mem_singleton]
    rintro rfl
    rw [show x.heap[b]? = some (.cells (trA t ao cp) 89 (0, 0)) from h.tr] at hb
    injection hb with hb
    injection hb with _ hb2
    subst hb2
    revert hT
    decide)
theorem mid_cell {S D R k p z : Nat} {its : List Im} {q f : F8} {t : Ss} {ao : Option Addr} {cp : Nat} {bs : List Nat} {w x y : World} (h : Mid S D R k p its q t ao cp bs w x) (hq : Qb z f x) (hz : w.heap.size ≤ z ∧ S ≠ z ∧ k ≠ z ∧ k + 1 ≠ z ∧ p ≠ z) (KB : Kp [z] x y) : Mid S D R k p its q t ao cp bs w y := by
  refine ⟨?_, (KB.block _ h.head.lt (by simp; exact hz.2.1)).trans h.head, (KB.block _ h.fr.lt (by simp; exact hz.2.2.1)).trans h.fr, (KB.block _ h.an.lt (by simp; exact hz.2.2.2.1)).trans h.an, (KB.block _ h.tr.lt (by simp; exact hz.2.2.2.2)).trans h.tr, h.kp.fresh KB (fun b hb => .inr (by simp at hb; rw [hb]; exact hz.1))⟩
  exact h.dct.of_heap fun b A T fr hb hT => KB.block b (Array.getElem?_eq_some_iff.1 hb).1 (by
    rw [List.mem_singleton]
    rintro rfl
    rw [show x.heap[b]? = some (.cells f.arr 32 (0, 0)) from hq] at hb
    injection hb with hb
    injection hb with _ hb2
    subst hb2
    revert hT
    decide)
end Go.Proofs.YtahfnknbmikmkaaGreat
