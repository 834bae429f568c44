/- The document's takes. -/
import Derived.Test.YtahfnknbmikmkaaGreatZs
import Derived.Test.YtahfnknbmikmkaaGreatKb31
import Derived.BigQuiet
namespace Go.Proofs.YtahfnknbmikmkaaGreat
open Go.RowKit Go.Proofs.Ty
set_option linter.unusedVariables false
set_option maxRecDepth 1000000
set_option linter.unusedSimpArgs false
theorem ts_results {Q : Nat} {f : F8} {w : World} (h : Qb Q f w) (tmps : Array Value) (h2 : tmps[4]?.getD undef = .pointer (some ⟨Q, 0, none⟩)) :
    (results Tryz.f68 tmps).run Tryz.prog w = .ok (.agg f.arr) w := by
  have l0 := h.load
  simp [Go.results, Tryz.results68, h2, asAddr, l0]
theorem exec_quo8 {a : Act} {o : Oper} {x y : Operand} {n k : Nat} (ho : o.op = .binOp .quo 5 x y 5) (hx : a.eval x = .int .u8 (n : Int)) (hy : a.eval y = .int .u8 (k : Int)) (hk : 0 < k) (hn : n < 256) (w : World) : (execOp a.eval o).run Tryz.prog w = .ok (.value (.int .u8 ((n / k : Nat) : Int))) w := by
  have e2 : ¬ k = 0 := by omega
  have e3 : (n : Int).tdiv (k : Int) = ((n / k : Nat) : Int) := by rw [Int.tdiv_eq_ediv_of_nonneg (by omega)]; rfl
  have h4 : n / k < 256 := Nat.lt_of_le_of_lt (Nat.div_le_self _ _) hn
  obtain ⟨m, hm⟩ : ∃ m, n / k = m := ⟨_, rfl⟩
  have e5 : (n : Int) / (k : Int) = (m : Int) := by rw [← hm]; rfl
  rw [hm] at h4 e3 ⊢
  have e4 : IntKind.u8.wrap (m : Int) = (m : Int) := by simp [IntKind.wrap, IntKind.bits, IntKind.signed]; omega
  unfold execOp
  simp only [ho, hx, hy]
  simp [go_sem, run_underlying Tryz.underlying5, e2, e3, e4, e5]
theorem exec_rem8 {a : Act} {o : Oper} {x y : Operand} {n k : Nat} (ho : o.op = .binOp .rem 5 x y 5) (hx : a.eval x = .int .u8 (n : Int)) (hy : a.eval y = .int .u8 (k : Int)) (hk : 0 < k) (hn : n < 256) (w : World) : (execOp a.eval o).run Tryz.prog w = .ok (.value (.int .u8 ((n % k : Nat) : Int))) w := by
  have e2 : ¬ k = 0 := by omega
  have e3 : (n : Int).tmod (k : Int) = ((n % k : Nat) : Int) := by rw [Int.tmod_eq_emod_of_nonneg (by omega)]; rfl
  have h4 : n % k < 256 := Nat.lt_of_le_of_lt (Nat.mod_le _ _) hn
  obtain ⟨m, hm⟩ : ∃ m, n % k = m := ⟨_, rfl⟩
  have e5 : (n : Int) % (k : Int) = (m : Int) := by rw [← hm]; rfl
  rw [hm] at h4 e3 ⊢
  have e4 : IntKind.u8.wrap (m : Int) = (m : Int) := by simp [IntKind.wrap, IntKind.bits, IntKind.signed]; omega
  unfold execOp
  simp only [ho, hx, hy]
  simp [go_sem, run_underlying Tryz.underlying5, e2, e3, e4, e5]
/-- In the midst of the document's takes and gives. -/
structure Mf (T E k : Nat) (its : List Im) (q : F8) (s : Ss) (ao : Option Addr) (cp : Nat) (V x : World) : Prop where
  rd : ∃ vL vV, Rd E (its.map Im.e) vL (its.map Im.v) vV x
  head : Db T E s ao cp x
  fr : Qb k q x
  an : Qb (k + 1) F8.nul x
  kp : Kp [T] V x
theorem Mf.size {T E k : Nat} {its : List Im} {q : F8} {s : Ss} {ao : Option Addr} {cp : Nat} {V x : World} (h : Mf T E k its q s ao cp V x) : V.heap.size ≤ x.heap.size := h.kp.size
theorem Mf.below {T E k : Nat} {its : List Im} {q : F8} {s : Ss} {ao : Option Addr} {cp : Nat} {V x y : World} (h : Mf T E k its q s ao cp V x) (hb : Below x.heap.size x y) : Mf T E k its q s ao cp V y :=
  ⟨by obtain ⟨vL, vV, hr⟩ := h.rd; exact ⟨vL, vV, hr.below hb⟩, h.head.below hb, h.fr.below hb, h.an.below hb, h.kp.trans (Kp.of_below hb)⟩
theorem Mf.grown {T E k : Nat} {its : List Im} {q : F8} {s : Ss} {ao : Option Addr} {cp : Nat} {V x y : World} {v : Value} (h : Mf T E k its q s ao cp V x) (G : x.grownBy y v.ownBlock) (hr : ∀ b, v.ownBlock = some b → ∃ cur, x.heap[b]? = some (Obj.cells cur 5 (0, 0))) (hv : ∀ b, v.ownBlock = some b → V.heap.size ≤ b) : Mf T E k its q s ao cp V y := by
  refine ⟨?_, row_other G hr h.head (by decide), row_other G hr h.fr (by decide), row_other G hr h.an (by decide), ?_⟩
  · obtain ⟨vL, vV, hd⟩ := h.rd
    exact ⟨vL, vV, row_other G hr hd.head (by decide), hd.rowL.same G.size (fun b A fr _ h1 => (row_other G hr h1 (by decide)).trans h1.symm), hd.rowV.same G.size (fun b A fr _ h1 => (row_other G hr h1 (by decide)).trans h1.symm)⟩
  · refine ⟨G.os.trans h.kp.os, G.tape.trans h.kp.tape, G.output.trans h.kp.output, Nat.le_trans h.kp.size G.size, fun j hj hn => (G.block j (Nat.lt_of_lt_of_le hj h.kp.size) (fun e => ?_)).trans (h.kp.block j hj hn)⟩
    have := hv j e.symm
    omega
theorem Db.setB {T E : Nat} {s : Ss} {ao ap : Option Addr} {cp cq : Nat} {w : World} (h : Db T E s ao cp w) (l : List UInt8) : Db T E { s with bs := l } ap cq (w.setCell ⟨T, 5, none⟩ (.slice ap l.length cq)) := by
  have h : w.heap[T]? = some (.cells (dsC E s ao cp).toArray 85 (0, 0)) := h
  unfold Db
  simp [World.setCell, Array.getElem?_modify, h, dsC, szI]
theorem Mf.setB {T E k : Nat} {its : List Im} {q : F8} {s : Ss} {ao ap : Option Addr} {cp cq : Nat} {V x : World} (h : Mf T E k its q s ao cp V x) (l : List UInt8) (hT : T < k) : Mf T E k its q { s with bs := l } ap cq V (x.setCell ⟨T, 5, none⟩ (.slice ap l.length cq)) := by
  have KB := Kp.cell1 x T 5 (.slice ap l.length cq)
  refine ⟨?_, h.head.setB l, (KB.block _ h.fr.lt (by simp; omega)).trans h.fr, (KB.block _ h.an.lt (by simp; omega)).trans h.an, h.kp.trans KB⟩
  obtain ⟨vL, vV, hd⟩ := h.rd
  exact ⟨vL, vV, hd.kpT h.head KB⟩
section
variable {T E : Nat} {s : Ss} {ao : Option Addr} {cp : Nat} {its : List Im} {w : World}
set_option maxHeartbeats 16000000 in
theorem takes_any (h : Dv T E its s ao cp w) (q : F8) : Calls Tryz.prog 68 #[.pointer (some ⟨T, 0, none⟩), .agg q.arr] w (DPost T E ao (takO its s q) w) := by
  obtain ⟨W, hW⟩ : ∃ W, w.alloc (.cells q.arr 32) = W := ⟨_, rfl⟩
  obtain ⟨k, hk⟩ : ∃ k, w.heap.size = k := ⟨_, rfl⟩
  have hWs : W.heap.size = k + 1 := by rw [← hW, size_alloc, hk]
  have b0 : Below w.heap.size w (W.alloc (.cells zA8 32)) := (hW ▸ (Below.refl _ _).alloc (Nat.le_refl _) _).alloc (by rw [hWs, hk]; omega) _
  have q0 : Qb k q (W.alloc (.cells zA8 32)) := (Lib.alloc_old W _ k (by omega)).trans (by rw [← hk, ← hW]; exact Qb.new w q)
  have r0 : Qb (k + 1) F8.nul (W.alloc (.cells zA8 32)) := by rw [← hWs]; exact heap_alloc_new W _
  have h0 := h.below b0
  have hTk : T < k := by rw [← hk]; exact h.head.lt
  have hET := h.et
  have hok := h.ok
  have HLW := hidOf2 (show ∀ b ∈ blk ao, b < k from fun b hb => by rw [← hk]; exact h.lt b hb)
  have HB0 := hidOf2 b0
  obtain ⟨EE, hEE⟩ : ∃ e, DPost T E ao (takO its s q) w = e := ⟨_, rfl⟩
  have HRP : Hid (∀ O, takO its s q = O → ∀ e w', DPost T E ao O w e w' → EE e w') := fun O hO e w' hh => by rw [← hEE, hO]; exact hh
  rw [hEE]
  have hb0 := q.b0.toNat_lt
  clear h hEE b0
  obtain ⟨V, hV⟩ : ∃ V, W.alloc (.cells zA8 32) = V := ⟨_, rfl⟩
  have hVs : V.heap.size = k + 2 := by rw [← hV, size_alloc, hWs]
  rw [hV] at q0 r0 HB0 h0
  have HH0 := hidOf2 h0
  obtain ⟨cT0, cT1, cT2, cT3, cT4, cT5, cT6⟩ := h0.head.c
  have c00 := q0.c0
  have HR0 := hidOf2 r0
  have HQ0 := hidOf2 q0
  clear h0 q0 r0
  go_enter Tryz.func68, Tryz.ntmps68
  go_upto_region 1 with fail
  change Code.wp Tryz.prog _ _ _ (W.alloc (.cells zA8 32))
  rw [hV]
  by_cases hdn : s.dn = 1
  · have e1 : ((s.dn : Int) != 1) = false := by simp; omega
    by_cases ht : q.b0.toNat / 16 % 2 ≠ s.tn
    · have hto : takO its s q = (.bad s.ix s.sb 84082688, its, Ss.nul) := by unfold takO; rw [if_neg (by simp [hdn]), if_pos ht]
      have e2 : (((q.b0.toNat : Int) / 16 % 2) != (s.tn : Int)) = true := by simp; omega
      have hE := ends_any HH0.out.head 84082688 hok.ix hok.sb (by decide)
      generalize q.b0.toNat = bv at *
      go_wp2_with fail
      refine hE.mono ?_
      rintro e w7 ⟨rfl, d7, K7⟩
      have r7 : Qb (k + 1) F8.nul w7 := (K7.block _ HR0.out.lt (by simp; omega)).trans HR0.out
      have r8 := r7.row (frm 128 s.ix s.sb 84082688)
      have r7l := r7.lt
      have HZ : Hid (Dv T E its Ss.nul none 0 (w7.setRow (k + 1) (frm 128 s.ix s.sb 84082688).arr) ∧ Kp [T, E] w (w7.setRow (k + 1) (frm 128 s.ix s.sb 84082688).arr)) := by
        obtain ⟨vL, vV, hr⟩ := HH0.out.rd
        exact ⟨Dv.nul ⟨vL, vV, (hr.kpT HH0.out.head K7).row r7 _⟩ ((setRow_other _ _ _ _ (by omega)).trans d7) hET HH0.out.len HH0.out.oks HH0.out.nod, ((Kp.of_below (bs := [T, E]) HB0.out).fresh K7 (fun b hb => .inl (by simp at hb; simp [hb]))).fresh (Kp.setRow1 _ _ _) (fun b hb => .inr (by simp at hb; omega))⟩
      clear hE d7 K7 HH0 HR0 HQ0 HB0
      go_wp2_with (first | (refine sdF (g := frm 128 s.ix s.sb 84082688) r7 rfl _ _ rfl rfl rfl ?_))
      exact bodyPost_ret (ts_results r8 _ rfl) rfl (HRP.out _ hto _ _ ⟨rfl, none, 0, HZ.out.1, HZ.out.2, fun b hb => by simp [blk] at hb⟩)
    · have ht2 : q.b0.toNat / 16 % 2 = s.tn := by simpa using ht
      have hto : takO its s q = if 65536 < (s.bs ++ seg q).length then (.bad s.ix s.sb 84148229, its, Ss.nul)
          else if q.b0.toNat % 2 = 1 then ((finO its { s with bs := s.bs ++ seg q }).1, (finO its { s with bs := s.bs ++ seg q }).2, Ss.nul)
          else (.ok (took s.tn), its, { s with bs := s.bs ++ seg q, tn := 1 - s.tn }) := by unfold takO; rw [if_neg (by simp [hdn]), if_neg ht]
      have e2 : (((q.b0.toNat : Int) / 16 % 2) != (s.tn : Int)) = false := by simp; omega
      have hti : (q.b0.toNat : Int) / 16 % 2 = (s.tn : Int) := by omega
      have M0 : Mf T E k its q s ao cp V V := ⟨HH0.out.rd, HH0.out.head, HQ0.out, HR0.out, Kp.refl _ _⟩
      have HBV := hidOf2 HH0.out.by_
      have HFA := hidOf2 HH0.out.far
      have HLT := hidOf2 HH0.out.lt
      have HBY : Hid (∀ x, Mf T E k its q s ao cp V x → Bytes x (.slice ao s.bs.length cp) s.bs) := fun x hx => bytes_same HBV.out hx.kp.size (fun b hb hl => hx.kp.block b hl (by have := HFA.out b ((own_blk _ _ _ _).1 hb); simp; omega))
      have hlen1 : ([] : List UInt8).length + s.bs.length ≤ 140737488355328 := by have := hok.len; simp; omega
      have hlen2 : s.bs.length + (seg q).length ≤ 140737488355328 := by have := hok.len; have := seg_len q; omega
      have HST : Hid (∀ x a3 c3, Mf T E k its q s ao cp V x → x.ownsRow V.heap.size 5 1 (.slice a3 (s.bs ++ seg q).length c3) (s.bs ++ seg q).length (Lib.byteCells (s.bs ++ seg q)) → Qb k q (x.setCell ⟨T, 5, none⟩ (.slice a3 (s.bs ++ seg q).length c3)) ∧ Mf T E k its q { s with bs := s.bs ++ seg q } a3 c3 V (x.setCell ⟨T, 5, none⟩ (.slice a3 (s.bs ++ seg q).length c3)) ∧ (x.setCell ⟨T, 5, none⟩ (.slice a3 (s.bs ++ seg q).length c3)).ownsRow V.heap.size 5 1 (.slice a3 (s.bs ++ seg q).length c3) (s.bs ++ seg q).length (Lib.byteCells (s.bs ++ seg q))) := fun x a3 c3 hx ho => by
        have m := hx.setB (ap := a3) (cq := c3) (s.bs ++ seg q) hTk
        refine ⟨m.fr, m, own_same ho (fun b hb => (Kp.cell1 x T 5 _).block b (own_block_lt ho b hb) ?_)⟩
        have := own_lt ho b hb
        simp
        omega
      go_upto_region 6 with fail
      have c0 : Below V.heap.size V V.drew := bdr (Below.refl _ _) 1
      have d0 := M0.below c0
      clear cT0 cT1 cT2 cT3 cT4 cT5 cT6 c00 HQ0 HR0
      refine wp_cut (α := Nat × (Option Addr × Nat) × (Option Addr × Nat)) (fun u y => Mf T E k its q { s with bs := s.bs ++ seg q } u.2.2.1 u.2.2.2 V y ∧ y.ownsRow V.heap.size 5 1 (.slice u.2.2.1 (s.bs ++ seg q).length u.2.2.2) (s.bs ++ seg q).length (Lib.byteCells (s.bs ++ seg q))) (fun a u => (((((((((((((((((a.put (some 25) (.pointer (some ⟨T, 0, none⟩))).put (some 26) (.slice (some ⟨u.1, 0, none⟩) 0 0)).put (some 27) (.pointer (some ⟨T, 0, none⟩))).put (some 28) (.pointer (some ⟨T, 0, none⟩))).put (some 29) (.pointer (some ⟨T, 5, none⟩))).put (some 30) (.slice ao s.bs.length cp)).put (some 31) (.slice u.2.1.1 s.bs.length u.2.1.2)).put (some 32) (.pointer (some ⟨k, 0, none⟩))).put (some 33) (.int .u8 (q.b0.toNat : Int))).put (some 34) (.int .u8 ((q.b0.toNat / 2 : Nat) : Int))).put (some 35) (.int .u8 ((q.b0.toNat / 2 % 8 : Nat) : Int))).put (some 36) (.int .i64 ((q.b0.toNat / 2 % 8 : Nat) : Int))).put (some 37) (.int .i64 ((8 - q.b0.toNat / 2 % 8 : Nat) : Int))).put (some 38) (.slice (some ⟨k, 1, none⟩) (7 - q.b0.toNat / 2 % 8) 7)).put (some 39) (.slice u.2.2.1 (s.bs ++ seg q).length u.2.2.2)).put (some 40) (.pointer (some ⟨T, 0, none⟩))).put (some 41) (.pointer (some ⟨T, 5, none⟩)))) ?_ ?_
      · refine wp_region_held (S := fun y => Qb k q y) (by kernel_rfl) ?_
        change wpAnyH _ _ _ _ _ _ _ _ V.drew
        refine tk 0 (.pointer (some ⟨T, 0, none⟩)) rfl (by kernel_rfl) (fun _ _ _ h => nomatch h.1) rfl (fun _ hS => rfl) d0.fr ?_
        simp only [zzA, zzB, zzC, Act.put, zzD, zzE, zzF]
        refine tk 2 (.pointer (some ⟨T, 0, none⟩)) rfl (by kernel_rfl) (fun _ _ _ h => nomatch h.1) rfl (fun _ hS => rfl) d0.fr ?_
        simp only [zzA, zzB, zzC, Act.put, zzD, zzE, zzF]
        refine tk 3 (.pointer (some ⟨T, 0, none⟩)) rfl (by kernel_rfl) (fun _ _ _ h => nomatch h.1) rfl (fun _ hS => by simp [execOp, go_sem, Act.eval]) d0.fr ?_
        simp only [zzA, zzB, zzC, Act.put, zzD, zzE, zzF]
        refine tk 4 (.pointer (some ⟨T, 5, none⟩)) rfl (by kernel_rfl) (fun _ _ _ h => nomatch h.1) rfl (fun _ hS => by simp [execOp, go_sem, Act.eval]) d0.fr ?_
        simp only [zzA, zzB, zzC, Act.put, zzD, zzE, zzF]
        refine tk 7 (.pointer (some ⟨k, 0, none⟩)) rfl (by kernel_rfl) (fun _ _ _ h => nomatch h.1) rfl (fun _ hS => exec_idx8 (k := 0) rfl rfl rfl (by decide) _) d0.fr ?_
        simp only [zzA, zzB, zzC, Act.put, zzD, zzE, zzF]
        refine tk 8 (.int .u8 (q.b0.toNat : Int)) rfl (by kernel_rfl) (fun _ _ _ h => nomatch h.1) rfl (fun _ hS => exec_load rfl rfl (load_u8 _ _ _ _ hS.c0)) d0.fr ?_
        simp only [zzA, zzB, zzC, Act.put, zzD, zzE, zzF]
        refine tk 9 (.int .u8 ((q.b0.toNat / 2 : Nat) : Int)) rfl (by kernel_rfl) (fun _ _ _ h => nomatch h.1) rfl (fun _ hS => exec_quo8 (n := q.b0.toNat) (k := 2) rfl rfl rfl (by decide) hb0 _) d0.fr ?_
        simp only [zzA, zzB, zzC, Act.put, zzD, zzE, zzF]
        refine tk 10 (.int .u8 ((q.b0.toNat / 2 % 8 : Nat) : Int)) rfl (by kernel_rfl) (fun _ _ _ h => nomatch h.1) rfl (fun _ hS => exec_rem8 (n := q.b0.toNat / 2) (k := 8) rfl rfl rfl (by decide) (by omega) _) d0.fr ?_
        simp only [zzA, zzB, zzC, Act.put, zzD, zzE, zzF]
        refine tk 11 (.int .i64 ((q.b0.toNat / 2 % 8 : Nat) : Int)) rfl (by kernel_rfl) (fun _ _ _ h => nomatch h.1) rfl (fun _ hS => exec_conv8 (m := q.b0.toNat / 2 % 8) rfl rfl (by omega) _) d0.fr ?_
        simp only [zzA, zzB, zzC, Act.put, zzD, zzE, zzF]
        refine tk 12 (.int .i64 ((8 - q.b0.toNat / 2 % 8 : Nat) : Int)) rfl (by kernel_rfl) (fun _ _ _ h => nomatch h.1) rfl (fun _ hS => exec_sub (m := 8) (n := q.b0.toNat / 2 % 8) rfl rfl rfl (by omega) (by omega) _) d0.fr ?_
        simp only [zzA, zzB, zzC, Act.put, zzD, zzE, zzF]
        refine tk 13 (.slice (some ⟨k, 1, none⟩) (7 - q.b0.toNat / 2 % 8) 7) rfl (by kernel_rfl) (fun _ _ _ h => nomatch h.1) rfl (fun _ hS => exec_slice8n (k := k) (lo := 1) (hi := 8 - q.b0.toNat / 2 % 8) rfl rfl rfl rfl (by omega) (by omega) (by omega) (by omega) (by omega) _) d0.fr ?_
        simp only [zzA, zzB, zzC, Act.put, zzD, zzE, zzF]
        refine wpAnyH_all (rs := [1, 5]) (by kernel_rfl) (by simp) ?_
        intro k hk
        simp only [List.mem_cons, List.mem_nil_iff, or_false] at hk
        rcases hk with rfl | rfl
        · refine wpOp_run rfl rfl (wp_bs0g Tryz.underlying47 info5 rfl ?_)
          have o1 : (V.drew.alloc (.cells #[] 5)).ownsRow V.heap.size 5 1 (.slice (some ⟨V.drew.heap.size, 0, none⟩) 0 0) ([] : List UInt8).length (Lib.byteCells []) := own_lower (own_empty V.drew) d0.size
          have d1 := d0.below ((Below.refl _ V.drew).alloc (Nat.le_refl _) (.cells #[] 5))
          obtain ⟨g1, hg1⟩ : ∃ g, V.drew.heap.size = g := ⟨_, rfl⟩
          rw [hg1] at o1 ⊢
          generalize V.drew.alloc (.cells #[] 5) = u1 at *
          refine ⟨d1.fr, ?_⟩
          simp only [zzA, zzB, zzC, Act.put, zzD, zzE, zzF]
          refine wpAnyH_all (rs := [5]) (by kernel_rfl) (by simp) ?_
          intro k hk
          simp only [List.mem_cons, List.mem_nil_iff, or_false] at hk
          subst hk
          refine wpOp_run rfl rfl (wp_ldG (load_bytes _ _ _ _ _ _ d1.head.c.2.2.2.2.2.1) _ rfl rfl ?_)
          refine ⟨d1.fr, ?_⟩
          simp only [zzA, zzB, zzC, Act.put, zzD, zzE, zzF]
          refine wpAnyH_all (rs := [6]) (by kernel_rfl) (by simp) ?_
          intro k hk
          simp only [List.mem_cons, List.mem_nil_iff, or_false] at hk
          subst hk
          refine wpOp_run rfl rfl (wp_append_bytes _ _ rfl V.heap.size (.slice (some ⟨g1, 0, none⟩) 0 0) [] rfl o1 (.slice ao s.bs.length cp) s.bs rfl (HBY.out _ d1) hlen1 d1.size ?_)
          intro v2 u2 o2 G2 H2
          obtain ⟨a2, c2, hv2⟩ := own_shape5 o2
          subst hv2
          have d2 := d1.grown G2 (own_ty o1) (own_lt o1)
          rw [List.nil_append] at o2
          refine ⟨d2.fr, ?_⟩
          simp only [zzA, zzB, zzC, Act.put, zzD, zzE, zzF]
          refine wpAnyH_all (rs := [14]) (by kernel_rfl) (by simp) ?_
          intro k hk
          simp only [List.mem_cons, List.mem_nil_iff, or_false] at hk
          subst hk
          refine wpOp_run rfl rfl (wp_append_bytes _ _ rfl V.heap.size (.slice a2 s.bs.length c2) s.bs rfl o2 (.slice (some ⟨k, 1, none⟩) (7 - q.b0.toNat / 2 % 8) 7) (seg q) rfl (d2.fr.bytes 1 (7 - q.b0.toNat / 2 % 8) (by omega) (by omega)) hlen2 d2.size ?_)
          intro v3 u3 o3 G3 H3
          obtain ⟨a3, c3, hv3⟩ := own_shape5 o3
          subst hv3
          have d3 := d2.grown G3 (own_ty o2) (own_lt o2)
          refine ⟨d3.fr, ?_⟩
          simp only [zzA, zzB, zzC, Act.put, zzD, zzE, zzF]
          refine tk 15 (.pointer (some ⟨T, 0, none⟩)) rfl (by kernel_rfl) (fun _ _ _ h => nomatch h.1) rfl (fun _ hS => by simp [execOp, go_sem, Act.eval]) d3.fr ?_
          simp only [zzA, zzB, zzC, Act.put, zzD, zzE, zzF]
          refine tk 16 (.pointer (some ⟨T, 5, none⟩)) rfl (by kernel_rfl) (fun _ _ _ h => nomatch h.1) rfl (fun _ hS => by simp [execOp, go_sem, Act.eval]) d3.fr ?_
          simp only [zzA, zzB, zzC, Act.put, zzD, zzE, zzF]
          refine wpAnyH_all (rs := [17]) (by kernel_rfl) (by simp) ?_
          intro k hk
          simp only [List.mem_cons, List.mem_nil_iff, or_false] at hk
          subst hk
          refine wpOp_run rfl rfl (wp_store_cell 47 _ _ rfl T 5 rfl (.slice a3 (s.bs ++ seg q).length c3) rfl (store_bytes u3 T 5 _ _ _ _ d3.head.c.2.2.2.2.2.1 (d3.head.zz 5)) ?_)
          have z9 := HST.out u3 a3 c3 d3 o3
          refine ⟨z9.1, ?_⟩
          simp only [zzA, zzB, zzC, Act.put, zzD, zzE, zzF]
          refine wpAnyH_done (by kernel_rfl) ?_ _
          exact ⟨rfl, (g1, (a2, c2), (a3, c3)), rfl, z9.2⟩
        · refine wpOp_run rfl rfl (wp_ldG (load_bytes _ _ _ _ _ _ d0.head.c.2.2.2.2.2.1) _ rfl rfl ?_)
          refine ⟨d0.fr, ?_⟩
          simp only [zzA, zzB, zzC, Act.put, zzD, zzE, zzF]
          refine wpAnyH_all (rs := [1]) (by kernel_rfl) (by simp) ?_
          intro k hk
          simp only [List.mem_cons, List.mem_nil_iff, or_false] at hk
          subst hk
          refine wpOp_run rfl rfl (wp_bs0g Tryz.underlying47 info5 rfl ?_)
          have o1 : (V.drew.alloc (.cells #[] 5)).ownsRow V.heap.size 5 1 (.slice (some ⟨V.drew.heap.size, 0, none⟩) 0 0) ([] : List UInt8).length (Lib.byteCells []) := own_lower (own_empty V.drew) d0.size
          have d1 := d0.below ((Below.refl _ V.drew).alloc (Nat.le_refl _) (.cells #[] 5))
          obtain ⟨g1, hg1⟩ : ∃ g, V.drew.heap.size = g := ⟨_, rfl⟩
          rw [hg1] at o1 ⊢
          generalize V.drew.alloc (.cells #[] 5) = u1 at *
          refine ⟨d1.fr, ?_⟩
          simp only [zzA, zzB, zzC, Act.put, zzD, zzE, zzF]
          refine wpAnyH_all (rs := [6]) (by kernel_rfl) (by simp) ?_
          intro k hk
          simp only [List.mem_cons, List.mem_nil_iff, or_false] at hk
          subst hk
          refine wpOp_run rfl rfl (wp_append_bytes _ _ rfl V.heap.size (.slice (some ⟨g1, 0, none⟩) 0 0) [] rfl o1 (.slice ao s.bs.length cp) s.bs rfl (HBY.out _ d1) hlen1 d1.size ?_)
          intro v2 u2 o2 G2 H2
          obtain ⟨a2, c2, hv2⟩ := own_shape5 o2
          subst hv2
          have d2 := d1.grown G2 (own_ty o1) (own_lt o1)
          rw [List.nil_append] at o2
          refine ⟨d2.fr, ?_⟩
          simp only [zzA, zzB, zzC, Act.put, zzD, zzE, zzF]
          refine wpAnyH_all (rs := [14]) (by kernel_rfl) (by simp) ?_
          intro k hk
          simp only [List.mem_cons, List.mem_nil_iff, or_false] at hk
          subst hk
          refine wpOp_run rfl rfl (wp_append_bytes _ _ rfl V.heap.size (.slice a2 s.bs.length c2) s.bs rfl o2 (.slice (some ⟨k, 1, none⟩) (7 - q.b0.toNat / 2 % 8) 7) (seg q) rfl (d2.fr.bytes 1 (7 - q.b0.toNat / 2 % 8) (by omega) (by omega)) hlen2 d2.size ?_)
          intro v3 u3 o3 G3 H3
          obtain ⟨a3, c3, hv3⟩ := own_shape5 o3
          subst hv3
          have d3 := d2.grown G3 (own_ty o2) (own_lt o2)
          refine ⟨d3.fr, ?_⟩
          simp only [zzA, zzB, zzC, Act.put, zzD, zzE, zzF]
          refine tk 15 (.pointer (some ⟨T, 0, none⟩)) rfl (by kernel_rfl) (fun _ _ _ h => nomatch h.1) rfl (fun _ hS => by simp [execOp, go_sem, Act.eval]) d3.fr ?_
          simp only [zzA, zzB, zzC, Act.put, zzD, zzE, zzF]
          refine tk 16 (.pointer (some ⟨T, 5, none⟩)) rfl (by kernel_rfl) (fun _ _ _ h => nomatch h.1) rfl (fun _ hS => by simp [execOp, go_sem, Act.eval]) d3.fr ?_
          simp only [zzA, zzB, zzC, Act.put, zzD, zzE, zzF]
          refine wpAnyH_all (rs := [17]) (by kernel_rfl) (by simp) ?_
          intro k hk
          simp only [List.mem_cons, List.mem_nil_iff, or_false] at hk
          subst hk
          refine wpOp_run rfl rfl (wp_store_cell 47 _ _ rfl T 5 rfl (.slice a3 (s.bs ++ seg q).length c3) rfl (store_bytes u3 T 5 _ _ _ _ d3.head.c.2.2.2.2.2.1 (d3.head.zz 5)) ?_)
          have z9 := HST.out u3 a3 c3 d3 o3
          refine ⟨z9.1, ?_⟩
          simp only [zzA, zzB, zzC, Act.put, zzD, zzE, zzF]
          refine wpAnyH_done (by kernel_rfl) ?_ _
          exact ⟨rfl, (g1, (a2, c2), (a3, c3)), rfl, z9.2⟩
      intro u y hI
      simp only [Act.put, List.setIfInBounds_toArray, List.set_cons_succ, List.set_cons_zero]
      obtain ⟨g1, ⟨a2, c2⟩, ⟨a3, c3⟩⟩ := u
      obtain ⟨M2, o2⟩ := hI
      simp only at M2 o2
      obtain ⟨s2, hs2⟩ : ∃ t : Ss, { s with bs := s.bs ++ seg q } = t := ⟨_, rfl⟩
      have e1 : s2.ix = s.ix := by rw [← hs2]
      have e2 : s2.sb = s.sb := by rw [← hs2]
      have e3 : s2.tn = s.tn := by rw [← hs2]
      have e4 : s2.bs = s.bs ++ seg q := by rw [← hs2]
      have e5 : s2.dn = s.dn := by rw [← hs2]
      have e6 : s2.sz = s.sz := by rw [← hs2]
      rw [hs2] at M2 hto
      rw [← e4] at o2 hto
      obtain ⟨n3, hn3⟩ : ∃ n, s2.bs.length = n := ⟨_, rfl⟩
      have hnl : n3 ≤ 65543 := by rw [← hn3, e4, List.length_append]; have := hok.len; have := seg_len q; omega
      rw [← e4]
      obtain ⟨cT0, cT1, cT2, cT3, cT4, cT5, cT6⟩ := M2.head.c
      rw [hn3] at cT5 hto ⊢
      have c00 := M2.fr.c0
      have HM2 := hidOf2 M2
      have HO2 := hidOf2 o2
      have HTO := hidOf2 hto
      have hTK := took_arr s.tn hok.tn
      have hF2 : ∀ b ∈ blk a3, V.heap.size ≤ b := fun b hb => own_lt o2 b ((own_blk _ _ _ _).2 hb)
      clear M2 o2 hto HST d0 c0 M0 HBY
      by_cases hbig : 65536 < n3
      · have dd : decide ((65536 : Int) < (n3 : Int)) = true := by simp; omega
        rw [if_pos hbig] at HTO
        have hE := ends_any HM2.out.head 84148229 (by rw [e1]; exact hok.ix) (by rw [e2]; exact hok.sb) (by decide)
        rw [e1, e2] at hE
        go_wp2_with fail
        refine hE.mono ?_
        rintro e w7 ⟨rfl, d7, K7⟩
        have r7 : Qb (k + 1) F8.nul w7 := (K7.block _ HM2.out.an.lt (by simp; omega)).trans HM2.out.an
        have r8 := r7.row (frm 128 s.ix s.sb 84148229)
        have r7l := r7.lt
        have HZ : Hid (Dv T E its Ss.nul none 0 (w7.setRow (k + 1) (frm 128 s.ix s.sb 84148229).arr) ∧ Kp [T, E] w (w7.setRow (k + 1) (frm 128 s.ix s.sb 84148229).arr)) := by
          obtain ⟨vL, vV, hr⟩ := HM2.out.rd
          exact ⟨Dv.nul ⟨vL, vV, (hr.kpT HM2.out.head K7).row r7 _⟩ ((setRow_other _ _ _ _ (by omega)).trans d7) hET HH0.out.len HH0.out.oks HH0.out.nod, (((Kp.of_below (bs := [T, E]) HB0.out).fresh HM2.out.kp (fun b hb => .inl (by simp at hb; simp [hb]))).fresh K7 (fun b hb => .inl (by simp at hb; simp [hb]))).fresh (Kp.setRow1 _ _ _) (fun b hb => .inr (by simp at hb; omega))⟩
        clear hE d7 K7
        go_wp2_with (first | (refine sdF (g := frm 128 s.ix s.sb 84148229) r7 rfl _ _ rfl rfl rfl ?_))
        exact bodyPost_ret (ts_results r8 _ rfl) rfl (HRP.out _ HTO.out _ _ ⟨rfl, none, 0, HZ.out.1, HZ.out.2, fun b hb => by simp [blk] at hb⟩)
      · have dd : decide ((65536 : Int) < (n3 : Int)) = false := by simp; omega
        rw [if_neg hbig] at HTO
        by_cases hl : q.b0.toNat % 2 = 1
        · rw [if_pos hl] at HTO
          have d9 : ((q.b0.toNat : Int) % 2 == 1) = true := by simp; omega
          have hLq := Later.some y
          have k6 : ∀ x : Later y, x.now.cell? ⟨T, 6, none⟩ = some (.int .i64 (szI s2)) := fun x => (HM2.out.head.below x.below).c.2.2.2.2.2.2
          have k5 : ∀ x : Later y, x.now.cell? ⟨T, 5, none⟩ = some (.slice a3 n3 c3) := fun x => by have := (HM2.out.head.below x.below).c.2.2.2.2.2.1; rw [hn3] at this; exact this
          obtain ⟨bv, hbv⟩ : ∃ n, q.b0.toNat = n := ⟨_, rfl⟩
          rw [hbv] at d9 c00 hti
          go_upto_region 10 with fail
          cases hsz : s2.sz with
          | none =>
            have hszc : ¬ (s2.sz ≠ none ∧ s2.sz ≠ some s2.bs.length) := by rw [hsz]; simp
            have hs9 : szI s2 = -1 := by unfold szI; rw [hsz]
            rw [hs9] at k6
            refine wp_region_later (by kernel_rfl) (by kernel_rfl) ?_
            repeat (go_big_quiet_step (fail))
            refine wpQuiet_nil ?_
            rintro _ ⟨x1, rfl⟩
            obtain ⟨Z, hZ⟩ : ∃ z, x1.now = z := ⟨_, rfl⟩
            have MZ := hidOf2 (HM2.out.below x1.below)
            have OZ := hidOf2 (own_below5 HO2.out x1.below)
            rw [hZ] at MZ OZ ⊢
            clear k6 k5 hLq cT0 cT1 cT2 cT3 cT4 cT5 cT6 c00 HM2 HO2
            obtain ⟨wcc, hwc⟩ : ∃ c, wc its s2.ix s2.sb s2.bs = c := ⟨_, rfl⟩
            obtain ⟨I2, hI2⟩ : ∃ c, wrt its s2.ix s2.sb s2.bs = c := ⟨_, rfl⟩
            have hwl := wc_lt its s2.ix s2.sb s2.bs
            have HLW2 := hidOf2 (show I2.length ≤ 1024 by rw [← hI2]; have := congrArg List.length (wrt_b its s2.ix s2.sb s2.bs); simp at this; rw [this]; exact HH0.out.len)
            have HOW := hidOf2 (show ∀ i ∈ I2, Ok i by rw [← hI2]; exact ok_wrt HH0.out.nod HH0.out.oks s2.ix s2.sb s2.bs)
            have HNW := hidOf2 (show (I2.map Im.b).Nodup by rw [← hI2, wrt_b]; exact HH0.out.nod)
            have HFO := hidOf2 (show finO its s2 = (if wcc = 0 then .ok (took s.tn) else .bad s2.ix s2.sb wcc, I2) from by unfold finO; rw [if_neg hszc, hwc, hI2, e3])
            rw [HFO.out] at HTO
            rw [hwc] at hwl
            have HWR : Hid (∀ y, Below Z.heap.size Z y → Calls Tryz.prog 113 #[.pointer (some ⟨E, 0, none⟩), .int .u16 (s2.ix : Int), .int .u8 (s2.sb : Int), .slice a3 n3 c3] y fun e w' => e = .returned (.int .u32 (wcc : Nat)) ∧ (∃ vL vV', Rd E (I2.map Im.e) vL (I2.map Im.v) vV' w') ∧ y.grownBy w' (some E)) := fun y hb => by
              obtain ⟨vL, vV, hr⟩ := (MZ.out.below hb).rd
              have hby : Bytes y (.slice a3 n3 c3) s2.bs := by have := bytes_of_own (own_below5 OZ.out hb); rw [← hn3] at *; exact this
              refine (QWrite_any hr HH0.out.len HH0.out.oks HH0.out.nod s2.ix s2.sb _ s2.bs hby).mono ?_
              rintro e w' ⟨he, ⟨vV', hr'⟩, G⟩
              rw [hwc] at he
              rw [hI2] at hr'
              exact ⟨he, ⟨vL, vV', hr'⟩, G⟩
            have hrE : ∀ y, Below Z.heap.size Z y → ∀ b, some E = some b → ∃ cur, y.heap[b]? = some (Obj.cells cur 98 (0, 0)) := fun y hb b he => by
              injection he with he
              subst he
              obtain ⟨vL, vV, hr⟩ := (MZ.out.below hb).rd
              exact ⟨_, hr.head⟩
            obtain ⟨ix, hix⟩ : ∃ n, s2.ix = n := ⟨_, rfl⟩
            obtain ⟨sb, hsb⟩ : ∃ n, s2.sb = n := ⟨_, rfl⟩
            have HAF : Hid (∀ y z, Below Z.heap.size Z y → (∃ vL vV', Rd E (I2.map Im.e) vL (I2.map Im.v) vV' z) → y.grownBy z (some E) → (z.cell? ⟨T, 0, none⟩ = some (.pointer (some ⟨E, 0, none⟩)) ∧ z.cell? ⟨T, 2, none⟩ = some (.int .u16 (ix : Int)) ∧ z.cell? ⟨T, 3, none⟩ = some (.int .u8 (sb : Int)) ∧ z.cell? ⟨T, 5, none⟩ = some (.slice a3 n3 c3)) ∧ (∃ vL vV', Rd E (I2.map Im.e) vL (I2.map Im.v) vV' z) ∧ Db T E s2 a3 c3 z ∧ Qb (k + 1) F8.nul z ∧ Kp [T, E] w z) := fun y z hb hd G => by
              have hz : Db T E s2 a3 c3 z := row_other G (hrE y hb) (MZ.out.head.below hb) (by decide)
              have hzc := hz.c
              rw [hn3, hix, hsb] at hzc
              exact ⟨⟨hzc.1, hzc.2.2.1, hzc.2.2.2.1, hzc.2.2.2.2.2.1⟩, hd, hz, row_other G (hrE y hb) (MZ.out.an.below hb) (by decide), (((Kp.of_below (bs := [T, E]) HB0.out).fresh MZ.out.kp (fun b hb => .inl (by simp at hb; simp [hb]))).trans (Kp.of_below hb)).trans ((Kp.ofE G).mono (fun b hb => by simp at hb; simp [hb]))⟩
            have c0 : Below Z.heap.size Z Z.drew := bdr (Below.refl _ _) 1
            have S0 := (show (fun y => y.cell? ⟨T, 0, none⟩ = some (.pointer (some ⟨E, 0, none⟩)) ∧ y.cell? ⟨T, 2, none⟩ = some (.int .u16 (ix : Int)) ∧ y.cell? ⟨T, 3, none⟩ = some (.int .u8 (sb : Int)) ∧ y.cell? ⟨T, 5, none⟩ = some (.slice a3 n3 c3)) Z.drew from by have hzc := (MZ.out.head.below c0).c; rw [hn3, hix, hsb] at hzc; exact ⟨hzc.1, hzc.2.2.1, hzc.2.2.2.1, hzc.2.2.2.2.2.1⟩)
            rw [hix, hsb] at HWR
            go_upto_region 12 with fail
            refine wp_region_held (S := fun y => y.cell? ⟨T, 0, none⟩ = some (.pointer (some ⟨E, 0, none⟩)) ∧ y.cell? ⟨T, 2, none⟩ = some (.int .u16 (ix : Int)) ∧ y.cell? ⟨T, 3, none⟩ = some (.int .u8 (sb : Int)) ∧ y.cell? ⟨T, 5, none⟩ = some (.slice a3 n3 c3)) (by kernel_rfl) ?_
            change wpAnyH _ _ _ _ _ _ _ _ Z.drew
            refine tk 0 (.pointer (some ⟨T, 0, none⟩)) rfl (by kernel_rfl) (fun _ _ _ h => h) rfl (fun _ hS => rfl) S0 ?_
            simp only [zzA, zzB, zzC, Act.put, zzD, zzE, zzF]
            refine tk 1 (.pointer (some ⟨T, 0, none⟩)) rfl (by kernel_rfl) (fun _ _ _ h => h) rfl (fun _ hS => by simp [execOp, go_sem, Act.eval]) S0 ?_
            simp only [zzA, zzB, zzC, Act.put, zzD, zzE, zzF]
            refine tk 2 (.pointer (some ⟨T, 0, none⟩)) rfl (by kernel_rfl) (fun _ _ _ h => h) rfl (fun _ hS => by simp [execOp, go_sem, Act.eval]) S0 ?_
            simp only [zzA, zzB, zzC, Act.put, zzD, zzE, zzF]
            refine tk 3 (.pointer (some ⟨E, 0, none⟩)) rfl (by kernel_rfl) (fun _ _ _ h => h) rfl (fun _ hS => exec_load rfl rfl (load_rd _ _ _ _ hS.1)) S0 ?_
            simp only [zzA, zzB, zzC, Act.put, zzD, zzE, zzF]
            refine tk 4 (.pointer (some ⟨T, 0, none⟩)) rfl (by kernel_rfl) (fun _ _ _ h => h) rfl (fun _ hS => rfl) S0 ?_
            simp only [zzA, zzB, zzC, Act.put, zzD, zzE, zzF]
            refine tk 5 (.pointer (some ⟨T, 0, none⟩)) rfl (by kernel_rfl) (fun _ _ _ h => h) rfl (fun _ hS => by simp [execOp, go_sem, Act.eval]) S0 ?_
            simp only [zzA, zzB, zzC, Act.put, zzD, zzE, zzF]
            refine tk 6 (.pointer (some ⟨T, 2, none⟩)) rfl (by kernel_rfl) (fun _ _ _ h => h) rfl (fun _ hS => by simp [execOp, go_sem, Act.eval]) S0 ?_
            simp only [zzA, zzB, zzC, Act.put, zzD, zzE, zzF]
            refine tk 7 (.int .u16 (ix : Int)) rfl (by kernel_rfl) (fun _ _ _ h => h) rfl (fun _ hS => exec_load rfl rfl (load_u16 _ _ _ _ hS.2.1)) S0 ?_
            simp only [zzA, zzB, zzC, Act.put, zzD, zzE, zzF]
            refine tk 8 (.pointer (some ⟨T, 0, none⟩)) rfl (by kernel_rfl) (fun _ _ _ h => h) rfl (fun _ hS => rfl) S0 ?_
            simp only [zzA, zzB, zzC, Act.put, zzD, zzE, zzF]
            refine tk 9 (.pointer (some ⟨T, 0, none⟩)) rfl (by kernel_rfl) (fun _ _ _ h => h) rfl (fun _ hS => by simp [execOp, go_sem, Act.eval]) S0 ?_
            simp only [zzA, zzB, zzC, Act.put, zzD, zzE, zzF]
            refine tk 10 (.pointer (some ⟨T, 3, none⟩)) rfl (by kernel_rfl) (fun _ _ _ h => h) rfl (fun _ hS => by simp [execOp, go_sem, Act.eval]) S0 ?_
            simp only [zzA, zzB, zzC, Act.put, zzD, zzE, zzF]
            refine tk 11 (.int .u8 (sb : Int)) rfl (by kernel_rfl) (fun _ _ _ h => h) rfl (fun _ hS => exec_load rfl rfl (load_u8 _ _ _ _ hS.2.2.1)) S0 ?_
            simp only [zzA, zzB, zzC, Act.put, zzD, zzE, zzF]
            refine tk 12 (.pointer (some ⟨T, 0, none⟩)) rfl (by kernel_rfl) (fun _ _ _ h => h) rfl (fun _ hS => rfl) S0 ?_
            simp only [zzA, zzB, zzC, Act.put, zzD, zzE, zzF]
            refine tk 13 (.pointer (some ⟨T, 0, none⟩)) rfl (by kernel_rfl) (fun _ _ _ h => h) rfl (fun _ hS => by simp [execOp, go_sem, Act.eval]) S0 ?_
            simp only [zzA, zzB, zzC, Act.put, zzD, zzE, zzF]
            refine tk 14 (.pointer (some ⟨T, 5, none⟩)) rfl (by kernel_rfl) (fun _ _ _ h => h) rfl (fun _ hS => by simp [execOp, go_sem, Act.eval]) S0 ?_
            simp only [zzA, zzB, zzC, Act.put, zzD, zzE, zzF]
            refine tk 15 (.slice a3 n3 c3) rfl (by kernel_rfl) (fun _ _ _ h => h) rfl (fun _ hS => exec_load rfl rfl (load_bytes _ _ _ _ _ _ hS.2.2.2)) S0 ?_
            simp only [zzA, zzB, zzC, Act.put, zzD, zzE, zzF]
            refine wpAnyH_all (rs := [16]) (by kernel_rfl) (by simp) ?_
            intro k hk
            simp only [List.mem_cons, List.mem_nil_iff, or_false] at hk
            subst hk
            refine wpOp_run rfl rfl (wp_call_fn 113 #[.pointer (some ⟨E, 0, none⟩), .int .u16 (ix : Int), .int .u8 (sb : Int), .slice a3 n3 c3] (by simp [execOp, go_sem, Act.eval, resolve, invoke, enterQW10]) ?_)
            refine (HWR.out _ c0).mono ?_
            rintro e w5 ⟨rfl, d5, G5⟩
            have g5 := HAF.out _ w5 c0 d5 G5
            have s5 := (show (fun y => y.cell? ⟨T, 0, none⟩ = some (.pointer (some ⟨E, 0, none⟩)) ∧ y.cell? ⟨T, 2, none⟩ = some (.int .u16 (ix : Int)) ∧ y.cell? ⟨T, 3, none⟩ = some (.int .u8 (sb : Int)) ∧ y.cell? ⟨T, 5, none⟩ = some (.slice a3 n3 c3)) w5 from g5.1)
            refine ⟨s5, ?_⟩
            simp only [zzA, zzB, zzC, Act.put, zzD, zzE, zzF]
            refine tk 17 (.int .u32 (wcc : Int)) rfl (by kernel_rfl) (fun _ _ _ h => h) rfl (fun _ hS => rfl) s5 ?_
            simp only [zzA, zzB, zzC, Act.put, zzD, zzE, zzF]
            refine wpAnyH_done (by kernel_rfl) ?_ _
            obtain ⟨_, hrd5, hdb5, r5, K5⟩ := g5
            have HR5 := hidOf2 hrd5
            have HK5 := hidOf2 K5
            have HD5 := hidOf2 hdb5
            have hix2 : s2.ix < 65536 := by rw [e1]; exact hok.ix
            have hsb2 : s2.sb < 256 := by rw [e2]; exact hok.sb
            clear HWR HAF S0 s5 c0 G5 d5 hrd5 K5 hrE
            by_cases hwz : wcc = 0
            · subst hwz
              have hRs := Rests_any hdb5
              rw [if_pos rfl] at HTO
              go_wp2_with fail
              refine hRs.mono ?_
              rintro e w7 ⟨rfl, d7, K7⟩
              have r7 : Qb (k + 1) F8.nul w7 := (K7.block _ r5.lt (by simp; omega)).trans r5
              have r7l := r7.lt
              have r8 := r7.row (took s.tn)
              have HZ : Hid (Dv T E I2 Ss.nul none 0 (w7.setRow (k + 1) (took s.tn).arr) ∧ Kp [T, E] w (w7.setRow (k + 1) (took s.tn).arr)) := by
                obtain ⟨vL, vV, hr⟩ := HR5.out
                exact ⟨Dv.nul ⟨vL, vV, (hr.kpT HD5.out K7).row r7 _⟩ ((setRow_other _ _ _ _ (by omega)).trans d7) hET HLW2.out HOW.out HNW.out, (HK5.out.fresh K7 (fun b hb => .inl (by simp at hb; simp [hb]))).fresh (Kp.setRow1 _ _ _) (fun b hb => .inr (by simp at hb; omega))⟩
              clear hRs d7 K7 HR5 HK5 HD5
              go_wp2_with (first | (refine sdF (g := took s.tn) r7 rfl _ _ rfl rfl (by rw [hTK]; first | rfl | (simp [Act.eval]; done)) ?_))
              exact bodyPost_ret (ts_results r8 _ rfl) rfl (HRP.out _ HTO.out _ _ ⟨rfl, none, 0, HZ.out.1, HZ.out.2, fun b hb => by simp [blk] at hb⟩)
            · have dw : ((wcc : Int) != 0) = true := by simp; omega
              have hE := ends_any hdb5 wcc hix2 hsb2 hwl
              rw [if_neg hwz] at HTO
              go_wp2_with fail
              refine hE.mono ?_
              rintro e w7 ⟨rfl, d7, K7⟩
              have r7 : Qb (k + 1) F8.nul w7 := (K7.block _ r5.lt (by simp; omega)).trans r5
              have r7l := r7.lt
              obtain ⟨ff, hff⟩ : ∃ f, frm 128 s2.ix s2.sb wcc = f := ⟨_, rfl⟩
              have r8 := r7.row ff
              have HFF := hidOf2 hff
              have HZ : Hid (Dv T E I2 Ss.nul none 0 (w7.setRow (k + 1) ff.arr) ∧ Kp [T, E] w (w7.setRow (k + 1) ff.arr)) := by
                obtain ⟨vL, vV, hr⟩ := HR5.out
                exact ⟨Dv.nul ⟨vL, vV, (hr.kpT HD5.out K7).row r7 _⟩ ((setRow_other _ _ _ _ (by omega)).trans d7) hET HLW2.out HOW.out HNW.out, (HK5.out.fresh K7 (fun b hb => .inl (by simp at hb; simp [hb]))).fresh (Kp.setRow1 _ _ _) (fun b hb => .inr (by simp at hb; omega))⟩
              rw [hff]
              clear hE d7 K7 HR5 HK5 HD5 hff
              go_wp2_with (first | (refine sdF (g := ff) r7 rfl _ _ rfl rfl rfl ?_))
              exact bodyPost_ret (ts_results r8 _ rfl) rfl (HRP.out _ HTO.out _ _ ⟨by rw [← HFF.out]; rfl, none, 0, HZ.out.1, HZ.out.2, fun b hb => by simp [blk] at hb⟩)
          | some n =>
            by_cases hnn : n = n3
            · have hszc : ¬ (s2.sz ≠ none ∧ s2.sz ≠ some s2.bs.length) := by rw [hsz, hn3, hnn]; simp
              have hs9 : szI s2 = (n3 : Int) := by unfold szI; rw [hsz, hnn]
              rw [hs9] at k6
              have d10 : decide ((0 : Int) ≤ (n3 : Int)) = true := by simp
              have d11 : ((n3 : Int) != (n3 : Int)) = false := by simp
              refine wp_region_later (by kernel_rfl) (by kernel_rfl) ?_
              repeat (go_big_quiet_step (fail))
              refine wpQuiet_nil ?_
              rintro _ ⟨x1, rfl⟩
              obtain ⟨Z, hZ⟩ : ∃ z, x1.now = z := ⟨_, rfl⟩
              have MZ := hidOf2 (HM2.out.below x1.below)
              have OZ := hidOf2 (own_below5 HO2.out x1.below)
              rw [hZ] at MZ OZ ⊢
              clear k6 k5 hLq cT0 cT1 cT2 cT3 cT4 cT5 cT6 c00 HM2 HO2
              obtain ⟨wcc, hwc⟩ : ∃ c, wc its s2.ix s2.sb s2.bs = c := ⟨_, rfl⟩
              obtain ⟨I2, hI2⟩ : ∃ c, wrt its s2.ix s2.sb s2.bs = c := ⟨_, rfl⟩
              have hwl := wc_lt its s2.ix s2.sb s2.bs
              have HLW2 := hidOf2 (show I2.length ≤ 1024 by rw [← hI2]; have := congrArg List.length (wrt_b its s2.ix s2.sb s2.bs); simp at this; rw [this]; exact HH0.out.len)
              have HOW := hidOf2 (show ∀ i ∈ I2, Ok i by rw [← hI2]; exact ok_wrt HH0.out.nod HH0.out.oks s2.ix s2.sb s2.bs)
              have HNW := hidOf2 (show (I2.map Im.b).Nodup by rw [← hI2, wrt_b]; exact HH0.out.nod)
              have HFO := hidOf2 (show finO its s2 = (if wcc = 0 then .ok (took s.tn) else .bad s2.ix s2.sb wcc, I2) from by unfold finO; rw [if_neg hszc, hwc, hI2, e3])
              rw [HFO.out] at HTO
              rw [hwc] at hwl
              have HWR : Hid (∀ y, Below Z.heap.size Z y → Calls Tryz.prog 113 #[.pointer (some ⟨E, 0, none⟩), .int .u16 (s2.ix : Int), .int .u8 (s2.sb : Int), .slice a3 n3 c3] y fun e w' => e = .returned (.int .u32 (wcc : Nat)) ∧ (∃ vL vV', Rd E (I2.map Im.e) vL (I2.map Im.v) vV' w') ∧ y.grownBy w' (some E)) := fun y hb => by
                obtain ⟨vL, vV, hr⟩ := (MZ.out.below hb).rd
                have hby : Bytes y (.slice a3 n3 c3) s2.bs := by have := bytes_of_own (own_below5 OZ.out hb); rw [← hn3] at *; exact this
                refine (QWrite_any hr HH0.out.len HH0.out.oks HH0.out.nod s2.ix s2.sb _ s2.bs hby).mono ?_
                rintro e w' ⟨he, ⟨vV', hr'⟩, G⟩
                rw [hwc] at he
                rw [hI2] at hr'
                exact ⟨he, ⟨vL, vV', hr'⟩, G⟩
              have hrE : ∀ y, Below Z.heap.size Z y → ∀ b, some E = some b → ∃ cur, y.heap[b]? = some (Obj.cells cur 98 (0, 0)) := fun y hb b he => by
                injection he with he
                subst he
                obtain ⟨vL, vV, hr⟩ := (MZ.out.below hb).rd
                exact ⟨_, hr.head⟩
              obtain ⟨ix, hix⟩ : ∃ n, s2.ix = n := ⟨_, rfl⟩
              obtain ⟨sb, hsb⟩ : ∃ n, s2.sb = n := ⟨_, rfl⟩
              have HAF : Hid (∀ y z, Below Z.heap.size Z y → (∃ vL vV', Rd E (I2.map Im.e) vL (I2.map Im.v) vV' z) → y.grownBy z (some E) → (z.cell? ⟨T, 0, none⟩ = some (.pointer (some ⟨E, 0, none⟩)) ∧ z.cell? ⟨T, 2, none⟩ = some (.int .u16 (ix : Int)) ∧ z.cell? ⟨T, 3, none⟩ = some (.int .u8 (sb : Int)) ∧ z.cell? ⟨T, 5, none⟩ = some (.slice a3 n3 c3)) ∧ (∃ vL vV', Rd E (I2.map Im.e) vL (I2.map Im.v) vV' z) ∧ Db T E s2 a3 c3 z ∧ Qb (k + 1) F8.nul z ∧ Kp [T, E] w z) := fun y z hb hd G => by
                have hz : Db T E s2 a3 c3 z := row_other G (hrE y hb) (MZ.out.head.below hb) (by decide)
                have hzc := hz.c
                rw [hn3, hix, hsb] at hzc
                exact ⟨⟨hzc.1, hzc.2.2.1, hzc.2.2.2.1, hzc.2.2.2.2.2.1⟩, hd, hz, row_other G (hrE y hb) (MZ.out.an.below hb) (by decide), (((Kp.of_below (bs := [T, E]) HB0.out).fresh MZ.out.kp (fun b hb => .inl (by simp at hb; simp [hb]))).trans (Kp.of_below hb)).trans ((Kp.ofE G).mono (fun b hb => by simp at hb; simp [hb]))⟩
              have c0 : Below Z.heap.size Z Z.drew := bdr (Below.refl _ _) 1
              have S0 := (show (fun y => y.cell? ⟨T, 0, none⟩ = some (.pointer (some ⟨E, 0, none⟩)) ∧ y.cell? ⟨T, 2, none⟩ = some (.int .u16 (ix : Int)) ∧ y.cell? ⟨T, 3, none⟩ = some (.int .u8 (sb : Int)) ∧ y.cell? ⟨T, 5, none⟩ = some (.slice a3 n3 c3)) Z.drew from by have hzc := (MZ.out.head.below c0).c; rw [hn3, hix, hsb] at hzc; exact ⟨hzc.1, hzc.2.2.1, hzc.2.2.2.1, hzc.2.2.2.2.2.1⟩)
              rw [hix, hsb] at HWR
              go_upto_region 12 with fail
              refine wp_region_held (S := fun y => y.cell? ⟨T, 0, none⟩ = some (.pointer (some ⟨E, 0, none⟩)) ∧ y.cell? ⟨T, 2, none⟩ = some (.int .u16 (ix : Int)) ∧ y.cell? ⟨T, 3, none⟩ = some (.int .u8 (sb : Int)) ∧ y.cell? ⟨T, 5, none⟩ = some (.slice a3 n3 c3)) (by kernel_rfl) ?_
              change wpAnyH _ _ _ _ _ _ _ _ Z.drew
              refine tk 0 (.pointer (some ⟨T, 0, none⟩)) rfl (by kernel_rfl) (fun _ _ _ h => h) rfl (fun _ hS => rfl) S0 ?_
              simp only [zzA, zzB, zzC, Act.put, zzD, zzE, zzF]
              refine tk 1 (.pointer (some ⟨T, 0, none⟩)) rfl (by kernel_rfl) (fun _ _ _ h => h) rfl (fun _ hS => by simp [execOp, go_sem, Act.eval]) S0 ?_
              simp only [zzA, zzB, zzC, Act.put, zzD, zzE, zzF]
              refine tk 2 (.pointer (some ⟨T, 0, none⟩)) rfl (by kernel_rfl) (fun _ _ _ h => h) rfl (fun _ hS => by simp [execOp, go_sem, Act.eval]) S0 ?_
              simp only [zzA, zzB, zzC, Act.put, zzD, zzE, zzF]
              refine tk 3 (.pointer (some ⟨E, 0, none⟩)) rfl (by kernel_rfl) (fun _ _ _ h => h) rfl (fun _ hS => exec_load rfl rfl (load_rd _ _ _ _ hS.1)) S0 ?_
              simp only [zzA, zzB, zzC, Act.put, zzD, zzE, zzF]
              refine tk 4 (.pointer (some ⟨T, 0, none⟩)) rfl (by kernel_rfl) (fun _ _ _ h => h) rfl (fun _ hS => rfl) S0 ?_
              simp only [zzA, zzB, zzC, Act.put, zzD, zzE, zzF]
              refine tk 5 (.pointer (some ⟨T, 0, none⟩)) rfl (by kernel_rfl) (fun _ _ _ h => h) rfl (fun _ hS => by simp [execOp, go_sem, Act.eval]) S0 ?_
              simp only [zzA, zzB, zzC, Act.put, zzD, zzE, zzF]
              refine tk 6 (.pointer (some ⟨T, 2, none⟩)) rfl (by kernel_rfl) (fun _ _ _ h => h) rfl (fun _ hS => by simp [execOp, go_sem, Act.eval]) S0 ?_
              simp only [zzA, zzB, zzC, Act.put, zzD, zzE, zzF]
              refine tk 7 (.int .u16 (ix : Int)) rfl (by kernel_rfl) (fun _ _ _ h => h) rfl (fun _ hS => exec_load rfl rfl (load_u16 _ _ _ _ hS.2.1)) S0 ?_
              simp only [zzA, zzB, zzC, Act.put, zzD, zzE, zzF]
              refine tk 8 (.pointer (some ⟨T, 0, none⟩)) rfl (by kernel_rfl) (fun _ _ _ h => h) rfl (fun _ hS => rfl) S0 ?_
              simp only [zzA, zzB, zzC, Act.put, zzD, zzE, zzF]
              refine tk 9 (.pointer (some ⟨T, 0, none⟩)) rfl (by kernel_rfl) (fun _ _ _ h => h) rfl (fun _ hS => by simp [execOp, go_sem, Act.eval]) S0 ?_
              simp only [zzA, zzB, zzC, Act.put, zzD, zzE, zzF]
              refine tk 10 (.pointer (some ⟨T, 3, none⟩)) rfl (by kernel_rfl) (fun _ _ _ h => h) rfl (fun _ hS => by simp [execOp, go_sem, Act.eval]) S0 ?_
              simp only [zzA, zzB, zzC, Act.put, zzD, zzE, zzF]
              refine tk 11 (.int .u8 (sb : Int)) rfl (by kernel_rfl) (fun _ _ _ h => h) rfl (fun _ hS => exec_load rfl rfl (load_u8 _ _ _ _ hS.2.2.1)) S0 ?_
              simp only [zzA, zzB, zzC, Act.put, zzD, zzE, zzF]
              refine tk 12 (.pointer (some ⟨T, 0, none⟩)) rfl (by kernel_rfl) (fun _ _ _ h => h) rfl (fun _ hS => rfl) S0 ?_
              simp only [zzA, zzB, zzC, Act.put, zzD, zzE, zzF]
              refine tk 13 (.pointer (some ⟨T, 0, none⟩)) rfl (by kernel_rfl) (fun _ _ _ h => h) rfl (fun _ hS => by simp [execOp, go_sem, Act.eval]) S0 ?_
              simp only [zzA, zzB, zzC, Act.put, zzD, zzE, zzF]
              refine tk 14 (.pointer (some ⟨T, 5, none⟩)) rfl (by kernel_rfl) (fun _ _ _ h => h) rfl (fun _ hS => by simp [execOp, go_sem, Act.eval]) S0 ?_
              simp only [zzA, zzB, zzC, Act.put, zzD, zzE, zzF]
              refine tk 15 (.slice a3 n3 c3) rfl (by kernel_rfl) (fun _ _ _ h => h) rfl (fun _ hS => exec_load rfl rfl (load_bytes _ _ _ _ _ _ hS.2.2.2)) S0 ?_
              simp only [zzA, zzB, zzC, Act.put, zzD, zzE, zzF]
              refine wpAnyH_all (rs := [16]) (by kernel_rfl) (by simp) ?_
              intro k hk
              simp only [List.mem_cons, List.mem_nil_iff, or_false] at hk
              subst hk
              refine wpOp_run rfl rfl (wp_call_fn 113 #[.pointer (some ⟨E, 0, none⟩), .int .u16 (ix : Int), .int .u8 (sb : Int), .slice a3 n3 c3] (by simp [execOp, go_sem, Act.eval, resolve, invoke, enterQW10]) ?_)
              refine (HWR.out _ c0).mono ?_
              rintro e w5 ⟨rfl, d5, G5⟩
              have g5 := HAF.out _ w5 c0 d5 G5
              have s5 := (show (fun y => y.cell? ⟨T, 0, none⟩ = some (.pointer (some ⟨E, 0, none⟩)) ∧ y.cell? ⟨T, 2, none⟩ = some (.int .u16 (ix : Int)) ∧ y.cell? ⟨T, 3, none⟩ = some (.int .u8 (sb : Int)) ∧ y.cell? ⟨T, 5, none⟩ = some (.slice a3 n3 c3)) w5 from g5.1)
              refine ⟨s5, ?_⟩
              simp only [zzA, zzB, zzC, Act.put, zzD, zzE, zzF]
              refine tk 17 (.int .u32 (wcc : Int)) rfl (by kernel_rfl) (fun _ _ _ h => h) rfl (fun _ hS => rfl) s5 ?_
              simp only [zzA, zzB, zzC, Act.put, zzD, zzE, zzF]
              refine wpAnyH_done (by kernel_rfl) ?_ _
              obtain ⟨_, hrd5, hdb5, r5, K5⟩ := g5
              have HR5 := hidOf2 hrd5
              have HK5 := hidOf2 K5
              have HD5 := hidOf2 hdb5
              have hix2 : s2.ix < 65536 := by rw [e1]; exact hok.ix
              have hsb2 : s2.sb < 256 := by rw [e2]; exact hok.sb
              clear HWR HAF S0 s5 c0 G5 d5 hrd5 K5 hrE
              by_cases hwz : wcc = 0
              · subst hwz
                have hRs := Rests_any hdb5
                rw [if_pos rfl] at HTO
                go_wp2_with fail
                refine hRs.mono ?_
                rintro e w7 ⟨rfl, d7, K7⟩
                have r7 : Qb (k + 1) F8.nul w7 := (K7.block _ r5.lt (by simp; omega)).trans r5
                have r7l := r7.lt
                have r8 := r7.row (took s.tn)
                have HZ : Hid (Dv T E I2 Ss.nul none 0 (w7.setRow (k + 1) (took s.tn).arr) ∧ Kp [T, E] w (w7.setRow (k + 1) (took s.tn).arr)) := by
                  obtain ⟨vL, vV, hr⟩ := HR5.out
                  exact ⟨Dv.nul ⟨vL, vV, (hr.kpT HD5.out K7).row r7 _⟩ ((setRow_other _ _ _ _ (by omega)).trans d7) hET HLW2.out HOW.out HNW.out, (HK5.out.fresh K7 (fun b hb => .inl (by simp at hb; simp [hb]))).fresh (Kp.setRow1 _ _ _) (fun b hb => .inr (by simp at hb; omega))⟩
                clear hRs d7 K7 HR5 HK5 HD5
                go_wp2_with (first | (refine sdF (g := took s.tn) r7 rfl _ _ rfl rfl (by rw [hTK]; first | rfl | (simp [Act.eval]; done)) ?_))
                exact bodyPost_ret (ts_results r8 _ rfl) rfl (HRP.out _ HTO.out _ _ ⟨rfl, none, 0, HZ.out.1, HZ.out.2, fun b hb => by simp [blk] at hb⟩)
              · have dw : ((wcc : Int) != 0) = true := by simp; omega
                have hE := ends_any hdb5 wcc hix2 hsb2 hwl
                rw [if_neg hwz] at HTO
                go_wp2_with fail
                refine hE.mono ?_
                rintro e w7 ⟨rfl, d7, K7⟩
                have r7 : Qb (k + 1) F8.nul w7 := (K7.block _ r5.lt (by simp; omega)).trans r5
                have r7l := r7.lt
                obtain ⟨ff, hff⟩ : ∃ f, frm 128 s2.ix s2.sb wcc = f := ⟨_, rfl⟩
                have r8 := r7.row ff
                have HFF := hidOf2 hff
                have HZ : Hid (Dv T E I2 Ss.nul none 0 (w7.setRow (k + 1) ff.arr) ∧ Kp [T, E] w (w7.setRow (k + 1) ff.arr)) := by
                  obtain ⟨vL, vV, hr⟩ := HR5.out
                  exact ⟨Dv.nul ⟨vL, vV, (hr.kpT HD5.out K7).row r7 _⟩ ((setRow_other _ _ _ _ (by omega)).trans d7) hET HLW2.out HOW.out HNW.out, (HK5.out.fresh K7 (fun b hb => .inl (by simp at hb; simp [hb]))).fresh (Kp.setRow1 _ _ _) (fun b hb => .inr (by simp at hb; omega))⟩
                rw [hff]
                clear hE d7 K7 HR5 HK5 HD5 hff
                go_wp2_with (first | (refine sdF (g := ff) r7 rfl _ _ rfl rfl rfl ?_))
                exact bodyPost_ret (ts_results r8 _ rfl) rfl (HRP.out _ HTO.out _ _ ⟨by rw [← HFF.out]; rfl, none, 0, HZ.out.1, HZ.out.2, fun b hb => by simp [blk] at hb⟩)
            · have hszc : s2.sz ≠ none ∧ s2.sz ≠ some s2.bs.length := by rw [hsz, hn3]; simp; exact hnn
              have hs9 : szI s2 = (n : Int) := by unfold szI; rw [hsz]
              rw [hs9] at k6
              have d10 : decide ((0 : Int) ≤ (n : Int)) = true := by simp
              have d11 : ((n : Int) != (n3 : Int)) = true := by simp; omega
              have HFO := hidOf2 (show finO its s2 = (.bad s.ix s.sb 101122064, its) from by unfold finO; rw [if_pos hszc, e1, e2])
              rw [HFO.out] at HTO
              refine wp_region_later (by kernel_rfl) (by kernel_rfl) ?_
              repeat (go_big_quiet_step (fail))
              refine wpQuiet_nil ?_
              rintro _ ⟨x1, rfl⟩
              obtain ⟨Z, hZ⟩ : ∃ z, x1.now = z := ⟨_, rfl⟩
              have MZ := hidOf2 (HM2.out.below x1.below)
              rw [hZ] at MZ ⊢
              clear k6 k5 hLq cT0 cT1 cT2 cT3 cT4 cT5 cT6 c00 HM2 HO2
              have hE := ends_any MZ.out.head 101122064 (by rw [e1]; exact hok.ix) (by rw [e2]; exact hok.sb) (by decide)
              rw [e1, e2] at hE
              go_wp2_with fail
              refine hE.mono ?_
              rintro e w7 ⟨rfl, d7, K7⟩
              have r7 : Qb (k + 1) F8.nul w7 := (K7.block _ MZ.out.an.lt (by simp; omega)).trans MZ.out.an
              have r8 := r7.row (frm 128 s.ix s.sb 101122064)
              have r7l := r7.lt
              have HZ : Hid (Dv T E its Ss.nul none 0 (w7.setRow (k + 1) (frm 128 s.ix s.sb 101122064).arr) ∧ Kp [T, E] w (w7.setRow (k + 1) (frm 128 s.ix s.sb 101122064).arr)) := by
                obtain ⟨vL, vV, hr⟩ := MZ.out.rd
                exact ⟨Dv.nul ⟨vL, vV, (hr.kpT MZ.out.head K7).row r7 _⟩ ((setRow_other _ _ _ _ (by omega)).trans d7) hET HH0.out.len HH0.out.oks HH0.out.nod, (((Kp.of_below (bs := [T, E]) HB0.out).fresh MZ.out.kp (fun b hb => .inl (by simp at hb; simp [hb]))).fresh K7 (fun b hb => .inl (by simp at hb; simp [hb]))).fresh (Kp.setRow1 _ _ _) (fun b hb => .inr (by simp at hb; omega))⟩
              clear hE d7 K7
              go_wp2_with (first | (refine sdF (g := frm 128 s.ix s.sb 101122064) r7 rfl _ _ rfl rfl rfl ?_))
              exact bodyPost_ret (ts_results r8 _ rfl) rfl (HRP.out _ HTO.out _ _ ⟨rfl, none, 0, HZ.out.1, HZ.out.2, fun b hb => by simp [blk] at hb⟩)
        · rw [if_neg hl] at HTO
          have d9 : ((q.b0.toNat : Int) % 2 == 1) = false := by simp; omega
          have hT1 := hok.tn
          have hsub : (1 : Int) - (s.tn : Int) = ((1 - s.tn : Nat) : Int) := by omega
          rw [e3] at cT4
          have z4 := HM2.out.head.zz 4
          have KB := Kp.cell1 y T 4 (.int .u8 ((1 - s.tn : Nat) : Int))
          have r4 : Qb (k + 1) F8.nul (y.setCell ⟨T, 4, none⟩ (.int .u8 ((1 - s.tn : Nat) : Int))) := (KB.block _ HM2.out.an.lt (by simp; omega)).trans HM2.out.an
          have hdb : Db T E { s with bs := s.bs ++ seg q, tn := 1 - s.tn } a3 c3 (y.setCell ⟨T, 4, none⟩ (.int .u8 ((1 - s.tn : Nat) : Int))) := by
            have h9 := HM2.out.head
            rw [← hs2] at h9
            have h9 : y.heap[T]? = some (.cells (dsC E { s with bs := s.bs ++ seg q } a3 c3).toArray 85 (0, 0)) := h9
            unfold Db
            simp [World.setCell, Array.getElem?_modify, h9, dsC, szI]
          have HY : Hid (∀ Z, Z = y.setCell ⟨T, 4, none⟩ (.int .u8 ((1 - s.tn : Nat) : Int)) → Db T E { s with bs := s.bs ++ seg q, tn := 1 - s.tn } a3 c3 Z ∧ Qb (k + 1) F8.nul Z ∧ (∃ vL vV, Rd E (its.map Im.e) vL (its.map Im.v) vV Z) ∧ Kp [T] V Z ∧ Z.ownsRow V.heap.size 5 1 (.slice a3 (s.bs ++ seg q).length c3) (s.bs ++ seg q).length (Lib.byteCells (s.bs ++ seg q))) := fun Z hZ => by
            subst hZ
            refine ⟨hdb, r4, ?_, HM2.out.kp.trans KB, ?_⟩
            · obtain ⟨vL, vV, hr⟩ := HM2.out.rd
              exact ⟨vL, vV, hr.kpT HM2.out.head KB⟩
            · have ho := HO2.out
              rw [e4] at ho
              exact own_same ho (fun b hb => KB.block b (own_block_lt ho b hb) (by have := own_lt ho b hb; simp; omega))
          obtain ⟨bv, hbv⟩ : ∃ n, q.b0.toNat = n := ⟨_, rfl⟩
          rw [hbv] at d9 c00 hti
          obtain ⟨tv, htv⟩ : ∃ n, 1 - s.tn = n := ⟨_, rfl⟩
          have HTV := hidOf2 htv
          rw [htv] at hsub hdb r4 HY HTO KB
          rw [e4] at HTO
          obtain ⟨t16, ht16⟩ : ∃ m, 16 * s.tn = m := ⟨_, rfl⟩
          obtain ⟨t32, ht32⟩ : ∃ m, 32 + 16 * s.tn = m := ⟨_, rfl⟩
          have hw1 : (16 : Int) * (s.tn : Int) = (t16 : Int) := by omega
          have hw2 : (32 : Int) + (t16 : Int) = (t32 : Int) := by omega
          rw [ht32] at hTK
          clear hdb r4 KB HM2 HO2
          go_upto_region 17 with fail
          generalize hZ : y.setCell ⟨T, 4, none⟩ (.int .u8 (tv : Int)) = Z
          obtain ⟨z1, z2, z3, z5, z6⟩ := HY.out Z hZ.symm
          have r8 := z2.row (took s.tn)
          have z2l := z2.lt
          have HZ : Hid (Dv T E its { s with bs := s.bs ++ seg q, tn := tv } a3 c3 (Z.setRow (k + 1) (took s.tn).arr) ∧ Kp [T, E] w (Z.setRow (k + 1) (took s.tn).arr)) := by
            obtain ⟨vL, vV, hr⟩ := z3
            have o9 := own_same z6 (x := Z.setRow (k + 1) (took s.tn).arr) (fun b hb => setRow_other _ _ _ _ (by have := own_lt z6 b hb; omega))
            exact ⟨⟨⟨vL, vV, hr.row z2 _⟩, (setRow_other _ _ _ _ (by omega)).trans z1, bytes_of_own o9, own_cp o9, fun b hb => by have := hF2 b hb; omega, fun b hb => own_block_lt o9 b ((own_blk _ _ _ _).2 hb), hET, HH0.out.len, HH0.out.oks, HH0.out.nod, ⟨hok.dn, hok.ix, hok.sb, (show tv ≤ 1 by have := HTV.out; omega), (show (s.bs ++ seg q).length ≤ 65536 by rw [← e4, hn3]; omega), hok.sz⟩⟩, ((Kp.of_below (bs := [T, E]) HB0.out).fresh z5 (fun b hb => .inl (by simp at hb; simp [hb]))).fresh (Kp.setRow1 _ _ _) (fun b hb => .inr (by simp at hb; omega))⟩
          have HW9 : Hid (∀ b ∈ blk a3, w.heap.size ≤ b) := fun b hb => by have := hF2 b hb; omega
          clear HY hZ z1 z3 z5 z6 cT0 cT1 cT2 cT3 cT4 cT5 cT6 c00 z4
          go_wp2_with (first | (refine sdF (g := took s.tn) z2 rfl _ _ rfl rfl (by rw [hTK]; first | rfl | (simp [Act.eval]; done)) ?_))
          exact bodyPost_ret (ts_results r8 _ rfl) rfl (HRP.out _ HTO.out _ _ ⟨rfl, a3, c3, HZ.out.1, HZ.out.2, fun b hb => .inr (HW9.out b hb)⟩)
  · have hto : takO its s q = (.bad 0 0 84148225, its, s) := by unfold takO; rw [if_pos hdn]
    have e1 : ((s.dn : Int) != 1) = true := by simp; omega
    have hF := r10Frame_any 128 0 0 84148225 V (by decide) (by decide) (by decide) (by decide)
    go_wp2_with fail
    refine hF.mono ?_
    rintro e w7 ⟨rfl, b7⟩
    have r7 := HR0.out.below b7
    have r8 := r7.row (frm 128 0 0 84148225)
    have r7l := r7.lt
    have HZ : Hid (Dv T E its s ao cp (w7.setRow (k + 1) (frm 128 0 0 84148225).arr) ∧ Kp [T, E] w (w7.setRow (k + 1) (frm 128 0 0 84148225).arr)) := by
      have d7 := HH0.out.below b7
      obtain ⟨vL, vV, hr⟩ := d7.rd
      refine ⟨⟨⟨vL, vV, hr.row r7 _⟩, (setRow_other _ _ _ _ (by omega)).trans d7.head, bytes_same d7.by_ (by simp) (fun b hb _ => setRow_other _ _ _ _ ?_), d7.cap, d7.far, (fun b hb => by have := d7.lt b hb; simp only [World.setRow, Array.size_modify]; exact this), d7.et, d7.len, d7.oks, d7.nod, d7.ok⟩, (Kp.of_below (HB0.out.trans (b7.mono HB0.out.size))).fresh (Kp.setRow1 _ _ _) (fun b hb => .inr (by simp at hb; omega))⟩
      have := HLW.out b ((own_blk _ _ _ _).1 hb)
      omega
    clear hF HH0 HR0 HQ0 HB0
    go_wp2_with (first | (refine sdF (g := frm 128 0 0 84148225) r7 rfl _ _ rfl rfl rfl ?_))
    exact bodyPost_ret (ts_results r8 _ rfl) rfl (HRP.out _ hto _ _ ⟨rfl, ao, cp, HZ.out.1, HZ.out.2, fun b hb => .inl hb⟩)
end
end Go.Proofs.YtahfnknbmikmkaaGreat
