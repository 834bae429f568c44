/- The document's writes: at once. -/
import Derived.Test.YtahfnknbmikmkaaGreatZs
import Derived.Test.YtahfnknbmikmkaaGreatKb28
namespace Go.Proofs.YtahfnknbmikmkaaGreat
open Go.RowKit Go.Proofs.Ty
set_option linter.unusedVariables false
set_option maxRecDepth 1000000
set_option linter.unusedSimpArgs false
/-- The document's server and its dictionary. -/
structure Dv (T E : Nat) (its : List Im) (s : Ss) (ao : Option Addr) (cp : Nat) (x : World) : Prop where
  rd : ∃ vL vV, Rd E (its.map Im.e) vL (its.map Im.v) vV x
  head : Db T E s ao cp x
  by_ : Bytes x (.slice ao s.bs.length cp) s.bs
  cap : Cp (.slice ao s.bs.length cp)
  far : ∀ b ∈ blk ao, T < b
  lt : ∀ b ∈ blk ao, b < x.heap.size
  et : E < T
  len : its.length ≤ 1024
  oks : ∀ i ∈ its, Ok i
  nod : (its.map Im.b).Nodup
  ok : s.Ok
def DPost (T E : Nat) (ao : Option Addr) (O : Ro × List Im × Ss) (w : World) (e : Ending) (w' : World) : Prop :=
  e = .returned (.agg O.1.f.arr) ∧ ∃ ap cq, Dv T E O.2.1 O.2.2 ap cq w' ∧ Kp [T, E] w w' ∧ ∀ b ∈ blk ap, b ∈ blk ao ∨ w.heap.size ≤ b
theorem Dv.below {T E : Nat} {its : List Im} {s : Ss} {ao : Option Addr} {cp : Nat} {w x : World} (h : Dv T E its s ao cp w) (hb : Below w.heap.size w x) : Dv T E its s ao cp x :=
  ⟨by obtain ⟨vL, vV, hr⟩ := h.rd; exact ⟨vL, vV, hr.below hb⟩, h.head.below hb, h.by_.below hb, h.cap, h.far, fun b hm => Nat.lt_of_lt_of_le (h.lt b hm) hb.size, h.et, h.len, h.oks, h.nod, h.ok⟩
theorem Dv.nul {T E : Nat} {its : List Im} {x : World} (hr : ∃ vL vV, Rd E (its.map Im.e) vL (its.map Im.v) vV x) (hp : Db T E Ss.nul none 0 x) (he : E < T) (hl : its.length ≤ 1024) (ho : ∀ i ∈ its, Ok i) (hn : (its.map Im.b).Nodup) : Dv T E its Ss.nul none 0 x :=
  ⟨hr, hp, bytes_nil _, cp_nil, (fun b hb => by simp [blk] at hb), (fun b hb => by simp [blk] at hb), he, hl, ho, hn, Ss.nul_ok⟩
theorem ws_results {Q : Nat} {f : F8} {w : World} (h : Qb Q f w) (tmps : Array Value) (h2 : tmps[8]?.getD undef = .pointer (some ⟨Q, 0, none⟩)) :
    (results Tryz.f69 tmps).run Tryz.prog w = .ok (.agg f.arr) w := by
  have l0 := h.load
  simp [Go.results, Tryz.results69, h2, asAddr, l0]
theorem enterQW10 : ∀ args x, (callFunc 113 args).run Tryz.prog x = .ok (.enter 113 args) x := fun _ _ => by rfl
/-- A frame's block written: the document's dictionary stays. -/
theorem Rd.row {E k : Nat} {L : List En} {vL : Value} {V : List Vl} {vV : Value} {x : World} {f : F8} (h : Rd E L vL V vV x) (hq : Qb k f x) (A : Array Value) : Rd E L vL V vV (x.setRow k A) := by
  have hne : ∀ (b : Nat) (A' : Array Value) (U : TypeId) (fr : Nat × Nat), x.heap[b]? = some (Obj.cells A' U fr) → U ≠ 32 → (x.setRow k A).heap[b]? = x.heap[b]? := fun b A' U fr hb hU => setRow_other _ _ _ _ (by
    rintro rfl
    rw [show x.heap[b]? = some (.cells f.arr 32 (0, 0)) from hq] at hb
    injection hb with hb
    injection hb with _ hb2
    exact hU hb2.symm)
  exact ⟨(hne _ _ _ _ h.head (by decide)).trans h.head, h.rowL.same (by simp) (fun b A' fr _ h1 => hne _ _ _ _ h1 (by decide)), h.rowV.same (by simp) (fun b A' fr _ h1 => hne _ _ _ _ h1 (by decide))⟩
theorem Rd.kpT {E T : Nat} {L : List En} {vL : Value} {V : List Vl} {vV : Value} {x y : World} {s : Ss} {ao : Option Addr} {cp : Nat} (h : Rd E L vL V vV x) (hp : Db T E s ao cp x) (hK : Kp [T] x y) : Rd E L vL V vV y := by
  have hne : ∀ (b : Nat) (A' : Array Value) (U : TypeId) (fr : Nat × Nat), x.heap[b]? = some (Obj.cells A' U fr) → U ≠ 85 → y.heap[b]? = x.heap[b]? := fun b A' U fr hb hU => hK.block b (Array.getElem?_eq_some_iff.1 hb).1 (by
    rw [List.mem_singleton]
    rintro rfl
    rw [show x.heap[b]? = some (.cells (dsC E s ao cp).toArray 85 (0, 0)) from hp] at hb
    injection hb with hb
    injection hb with _ hb2
    exact hU hb2.symm)
  exact ⟨(hne _ _ _ _ h.head (by decide)).trans h.head, h.rowL.same hK.size (fun b A' fr _ h1 => hne _ _ _ _ h1 (by decide)), h.rowV.same hK.size (fun b A' fr _ h1 => hne _ _ _ _ h1 (by decide))⟩
theorem Kp.ofE {w x : World} {E : Nat} (G : w.grownBy x (some E)) : Kp [E] w x := ⟨G.os, G.tape, G.output, G.size, fun j hj hn => G.block j hj (fun e => hn (by injection e with e; simp [e]))⟩
section
variable {T E : Nat} {its : List Im} {w : World}
set_option maxHeartbeats 16000000 in
theorem writes_now (h : Dv T E its Ss.nul none 0 w) (q : F8) (hat : q.b0.toNat / 2 % 2 = 1) : Calls Tryz.prog 69 #[.pointer (some ⟨T, 0, none⟩), .agg q.arr, .int .u16 (pix q : Int), .int .u8 (psb q : Int)] w (DPost T E none (wrtO its q) w) := by
  obtain ⟨W, hW⟩ : ∃ W, w.alloc (.cells q.arr 32) = W := ⟨_, rfl⟩
  obtain ⟨k, hk⟩ : ∃ k, w.heap.size = k := ⟨_, rfl⟩
  have hWs : W.heap.size = k + 1 := by rw [← hW, size_alloc, hk]
  have b0 : Below w.heap.size w (W.alloc (.cells zA8 32)) := (hW ▸ (Below.refl _ _).alloc (Nat.le_refl _) _).alloc (by rw [hWs, hk]; omega) _
  have q0 : Qb k q (W.alloc (.cells zA8 32)) := (Lib.alloc_old W _ k (by omega)).trans (by rw [← hk, ← hW]; exact Qb.new w q)
  have r0 : Qb (k + 1) F8.nul (W.alloc (.cells zA8 32)) := by rw [← hWs]; exact heap_alloc_new W _
  have h0 := h.below b0
  have hTk : T < k := by rw [← hk]; exact h.head.lt
  have hET := h.et
  have hix := pix_lt q
  have hsb := psb_lt q
  have HB0 := hidOf2 b0
  have hwo := wrtO_at its q hat
  obtain ⟨EE, hEE⟩ : ∃ e, DPost T E none (wrtO its q) w = e := ⟨_, rfl⟩
  obtain ⟨RO, hRO⟩ : ∃ r, wrtO its q = r := ⟨_, rfl⟩
  have HRP : Hid (∀ e w', DPost T E none RO w e w' → EE e w') := fun e w' hh => by rw [← hEE, hRO]; exact hh
  rw [hEE]
  have hb0 := q.b0.toNat_lt
  have hb4 := q.b4.toNat_lt
  have hb5 := q.b5.toNat_lt
  have hb6 := q.b6.toNat_lt
  have hb7 := q.b7.toNat_lt
  clear h hEE b0
  obtain ⟨V, hV⟩ : ∃ V, W.alloc (.cells zA8 32) = V := ⟨_, rfl⟩
  rw [hV] at q0 r0 HB0 h0
  obtain ⟨cn, hcn⟩ : ∃ c, cnt its q = c := ⟨_, rfl⟩
  have hcn4 : cn ≤ 4 := hcn ▸ cnt_le its q
  rw [hcn] at hwo
  obtain ⟨l, hl⟩ : ∃ l, (q.l.drop 4).take cn = l := ⟨_, rfl⟩
  rw [hl] at hwo
  have hcc : cnt its q = if q.b0.toNat % 2 = 1 then 4 - q.b0.toNat / 4 % 4 else match fnd its (pix q) (psb q) with
    | none => 4
    | some i => if 0 < siz i.e.df.t ∧ siz i.e.df.t ≤ 4 then siz i.e.df.t else 4 := rfl
  rw [hcn] at hcc
  have HH0 := hidOf2 h0
  have HWR : Hid (∀ y, Below V.heap.size V y → Calls Tryz.prog 113 #[.pointer (some ⟨E, 0, none⟩), .int .u16 (pix q : Int), .int .u8 (psb q : Int), .slice (some ⟨k, 4, none⟩) cn 4] y fun e w' => e = .returned (.int .u32 (wc its (pix q) (psb q) l : Nat)) ∧ (∃ vL vV', Rd E ((wrt its (pix q) (psb q) l).map Im.e) vL ((wrt its (pix q) (psb q) l).map Im.v) vV' w') ∧ y.grownBy w' (some E)) := fun y hb => by
    obtain ⟨vL, vV, hr⟩ := (HH0.out.below hb).rd
    refine (QWrite_any hr HH0.out.len HH0.out.oks HH0.out.nod (pix q) (psb q) _ l (hl ▸ (q0.below hb).bytes 4 cn (by omega) (by omega))).mono ?_
    rintro e w' ⟨he, ⟨vV', hr'⟩, G⟩
    exact ⟨he, ⟨vL, vV', hr'⟩, G⟩
  have hrE : ∀ y, Below V.heap.size V y → ∀ b, some E = some b → ∃ cur, y.heap[b]? = some (Obj.cells cur 98 (0, 0)) := fun y hb b he => by
    injection he with he
    subst he
    obtain ⟨vL, vV, hr⟩ := (HH0.out.below hb).rd
    exact ⟨_, hr.head⟩
  have HAF : Hid (∀ y z, Below V.heap.size V y → y.grownBy z (some E) → Db T E Ss.nul none 0 z ∧ Qb (k + 1) F8.nul z ∧ Kp [T, E] w z) := fun y z hb G =>
    ⟨row_other G (hrE y hb) (HH0.out.head.below hb) (by decide), row_other G (hrE y hb) (r0.below hb) (by decide), ((Kp.of_below (HB0.out.trans (hb.mono HB0.out.size))).trans ((Kp.ofE G).mono (fun b hb => by simp at hb; simp [hb])))⟩
  have HSS : Hid (∀ y, Below V.heap.size V y → y.cell? ⟨T, 0, none⟩ = some (.pointer (some ⟨E, 0, none⟩))) := fun y hb => (HH0.out.head.below hb).c.1
  have HLW := hidOf2 (show (wrt its (pix q) (psb q) l).length ≤ 1024 by have := congrArg List.length (wrt_b its (pix q) (psb q) l); simp at this; rw [this]; exact HH0.out.len)
  have HOW := hidOf2 (ok_wrt HH0.out.nod HH0.out.oks (pix q) (psb q) l)
  have HNW := hidOf2 (show ((wrt its (pix q) (psb q) l).map Im.b).Nodup by rw [wrt_b]; exact HH0.out.nod)
  obtain ⟨wcc, hwc⟩ : ∃ c, wc its (pix q) (psb q) l = c := ⟨_, rfl⟩
  have hwl := wc_lt its (pix q) (psb q) l
  obtain ⟨I2, hI2⟩ : ∃ c, wrt its (pix q) (psb q) l = c := ⟨_, rfl⟩
  rw [hwc] at HWR hwo hwl
  rw [hI2] at HWR HLW HOW HNW hwo
  have HF96 : Hid (∀ V, Calls Tryz.prog 19 #[.int .u8 96, .int .u16 (pix q : Int), .int .u8 (psb q : Int), .int .u32 0] V fun e w' => e = .returned (.agg (frm 96 (pix q) (psb q) 0).arr) ∧ Below V.heap.size V w') := fun V => r10Frame_any 96 _ _ 0 V (by decide) hix hsb (by decide)
  have HF128 : Hid (∀ V, Calls Tryz.prog 19 #[.int .u8 128, .int .u16 (pix q : Int), .int .u8 (psb q : Int), .int .u32 (wcc : Int)] V fun e w' => e = .returned (.agg (frm 128 (pix q) (psb q) wcc).arr) ∧ Below V.heap.size V w') := fun V => r10Frame_any 128 _ _ wcc V (by decide) hix hsb hwl
  obtain ⟨ff, hff⟩ : ∃ f, frm 96 (pix q) (psb q) 0 = f := ⟨_, rfl⟩
  obtain ⟨fg, hfg⟩ : ∃ f, frm 128 (pix q) (psb q) wcc = f := ⟨_, rfl⟩
  have HO1 : Hid (wcc = 0 → RO.1.f = ff) := fun h => by rw [← hRO, hwo, if_pos h]; exact hff
  have HO2 : Hid (wcc ≠ 0 → RO.1.f = fg) := fun h => by rw [← hRO, hwo, if_neg h]; exact hfg
  have e21 : RO.2.1 = I2 := by rw [← hRO, hwo]
  have e22 : RO.2.2 = Ss.nul := by rw [← hRO, hwo]
  rw [hff] at HF96
  rw [hfg] at HF128
  have HFIN : Hid (∀ {w6 : World} (w7 : World), Below w6.heap.size w6 w7 → (∃ vL vV', Rd E (I2.map Im.e) vL (I2.map Im.v) vV' w6) → Db T E Ss.nul none 0 w6 → Kp [T, E] w w6 → Qb (k + 1) F8.nul w7 → ∀ f : F8, Dv T E RO.2.1 RO.2.2 none 0 (w7.setRow (k + 1) f.arr) ∧ Kp [T, E] w (w7.setRow (k + 1) f.arr)) := fun {w6} w7 b7 hr hd hK hq f => by
    rw [e21, e22]
    obtain ⟨vL, vV, hr⟩ := hr
    have hl7 := hq.lt
    refine ⟨Dv.nul ⟨vL, vV, (hr.below b7).row hq _⟩ ((setRow_other _ _ _ _ (by omega)).trans (hd.below b7)) hET HLW.out HOW.out HNW.out, (hK.trans (Kp.of_below b7)).fresh (Kp.setRow1 _ _ _) (fun b hb => .inr (by simp at hb; omega))⟩
  have c00 := q0.c0
  have c04 := q0.c4
  have c05 := q0.c5
  have c06 := q0.c6
  have c07 := q0.c7
  have cT := HH0.out.head.c.1
  have HQ0 := hidOf2 q0
  clear hRO hwo hwc hI2 hl hff hfg h0 q0 r0 hrE e21 e22 HLW HOW HNW
  generalize hbv : q.b0.toNat = bv at *
  generalize q.b4.toNat = v4 at *
  generalize q.b5.toNat = v5 at *
  generalize q.b6.toNat = v6 at *
  generalize q.b7.toNat = v7 at *
  generalize pix q = ix at *
  generalize psb q = sb at *
  have d2 : (((bv : Int) / 2) % 2 == 1) = true := by simp; omega
  go_enter Tryz.func69, Tryz.ntmps69
  go_upto_region 1 with fail
  change Code.wp Tryz.prog _ _ _ (W.alloc (.cells zA8 32))
  rw [hV]
  by_cases hsd : bv % 2 = 1
  · have d1 : ((bv : Int) % 2 == 1) = true := by simp; omega
    rw [if_pos hsd] at hcc
    have hsub : (4 : Int) - (bv : Int) / 4 % 4 = (cn : Int) := by omega
    clear hcc hcn
    go_upto_region 12 with fail
    have c0 : Below V.heap.size V V.drew := bdr (Below.refl _ _) 1
    have S0 := HSS.out _ c0
    refine wp_region_held (S := fun y => y.cell? ⟨T, 0, none⟩ = some (.pointer (some ⟨E, 0, none⟩))) (by kernel_rfl) ?_
    change wpAnyH _ _ _ _ _ _ _ _ V.drew
    refine tk 0 (.pointer (some ⟨T, 0, none⟩)) rfl (by kernel_rfl) (fun _ _ _ h => h) rfl (fun _ hS => rfl) S0 ?_
    simp only [zzA, zzB, zzC, Act.put, zzD, zzE, zzF]
    refine tk 1 (.pointer (some ⟨T, 0, none⟩)) rfl (by kernel_rfl) (fun _ _ _ h => h) rfl (fun _ hS => by simp [execOp, go_sem, Act.eval]) S0 ?_
    simp only [zzA, zzB, zzC, Act.put, zzD, zzE, zzF]
    refine tk 2 (.pointer (some ⟨T, 0, none⟩)) rfl (by kernel_rfl) (fun _ _ _ h => h) rfl (fun _ hS => by simp [execOp, go_sem, Act.eval]) S0 ?_
    simp only [zzA, zzB, zzC, Act.put, zzD, zzE, zzF]
    refine tk 3 (.pointer (some ⟨E, 0, none⟩)) rfl (by kernel_rfl) (fun _ _ _ h => h) rfl (fun _ hS => exec_load rfl rfl (load_rd _ _ _ _ hS)) S0 ?_
    simp only [zzA, zzB, zzC, Act.put, zzD, zzE, zzF]
    refine tk 4 (.int .u16 (ix : Int)) rfl (by kernel_rfl) (fun _ _ _ h => h) rfl (fun _ hS => rfl) S0 ?_
    simp only [zzA, zzB, zzC, Act.put, zzD, zzE, zzF]
    refine tk 5 (.int .u8 (sb : Int)) rfl (by kernel_rfl) (fun _ _ _ h => h) rfl (fun _ hS => rfl) S0 ?_
    simp only [zzA, zzB, zzC, Act.put, zzD, zzE, zzF]
    refine tk 6 (.int .i64 (cn : Int)) rfl (by kernel_rfl) (fun _ _ _ h => h) rfl (fun _ hS => rfl) S0 ?_
    simp only [zzA, zzB, zzC, Act.put, zzD, zzE, zzF]
    refine tk 7 (.int .i64 ((4 + cn : Nat) : Int)) rfl (by kernel_rfl) (fun _ _ _ h => h) rfl (fun _ hS => exec_add (m := 4) (n := cn) rfl rfl rfl (by omega) _) S0 ?_
    simp only [zzA, zzB, zzC, Act.put, zzD, zzE, zzF]
    refine tk 8 (.slice (some ⟨k, 4, none⟩) cn 4) rfl (by kernel_rfl) (fun _ _ _ h => h) rfl (fun _ hS => exec_slice8n (k := k) (lo := 4) (hi := 4 + cn) rfl rfl rfl rfl (by omega) (by omega) (by omega) (by omega) (by omega) _) S0 ?_
    simp only [zzA, zzB, zzC, Act.put, zzD, zzE, zzF]
    refine wpAnyH_all (rs := [9]) (by kernel_rfl) (by simp) ?_
    intro k hk
    simp only [List.mem_cons, List.mem_nil_iff, or_false] at hk
    subst hk
    refine wpOp_run rfl rfl (wp_call_fn 113 #[.pointer (some ⟨E, 0, none⟩), .int .u16 (ix : Int), .int .u8 (sb : Int), .slice (some ⟨k, 4, none⟩) cn 4] (by simp [execOp, go_sem, Act.eval, resolve, invoke, enterQW10]) ?_)
    refine (HWR.out _ c0).mono ?_
    rintro e w5 ⟨rfl, d5, G5⟩
    have g5 := HAF.out _ w5 c0 G5
    have s5 := g5.1.c.1
    refine ⟨s5, ?_⟩
    simp only [zzA, zzB, zzC, Act.put, zzD, zzE, zzF]
    refine tk 10 (.int .u32 (wcc : Int)) rfl (by kernel_rfl) (fun _ _ _ h => h) rfl (fun _ hS => rfl) s5 ?_
    simp only [zzA, zzB, zzC, Act.put, zzD, zzE, zzF]
    refine wpAnyH_done (by kernel_rfl) ?_ _
    obtain ⟨d6, r6, K6⟩ := g5
    have HR5 := hidOf2 d5
    have HD6 := hidOf2 d6
    have HK6 := hidOf2 K6
    clear HWR HAF HSS S0 s5 c0 G5 d5 d6 K6
    by_cases hwz : wcc = 0
    · subst hwz
      go_wp2_with fail
      refine (HF96.out _).mono ?_
      rintro e w7 ⟨rfl, b7⟩
      have r7 := r6.below b7
      have r8 := r7.row ff
      have HZ := hidOf2 (HFIN.out w7 b7 HR5.out HD6.out HK6.out r7 ff)
      clear r6 b7 HR5 HD6 HK6 HF96 HF128
      go_wp2_with (first | (refine sdF (g := ff) r7 rfl _ _ rfl rfl rfl ?_))
      exact bodyPost_ret (ws_results r8 _ rfl) rfl (HRP.out _ _ ⟨by rw [HO1.out (by first | rfl | trivial)], none, 0, HZ.out.1, HZ.out.2, fun b hb => by simp [blk] at hb⟩)
    · have dw : ((wcc : Int) != 0) = true := by simp; omega
      go_wp2_with fail
      refine (HF128.out _).mono ?_
      rintro e w7 ⟨rfl, b7⟩
      have r7 := r6.below b7
      have r8 := r7.row fg
      have HZ := hidOf2 (HFIN.out w7 b7 HR5.out HD6.out HK6.out r7 fg)
      clear r6 b7 HR5 HD6 HK6 HF96 HF128
      go_wp2_with (first | (refine sdF (g := fg) r7 rfl _ _ rfl rfl rfl ?_))
      exact bodyPost_ret (ws_results r8 _ rfl) rfl (HRP.out _ _ ⟨by rw [HO2.out hwz], none, 0, HZ.out.1, HZ.out.2, fun b hb => by simp [blk] at hb⟩)
  · have d1 : ((bv : Int) % 2 == 1) = false := by simp; omega
    rw [if_neg hsd] at hcc
    obtain ⟨vL, vV, hr⟩ := HH0.out.rd
    have hFi := QFind_any hr (by simpa using HH0.out.len) ix sb
    cases hf : fnd its ix sb with
    | none =>
      rw [hf] at hcc
      obtain ⟨f1, f2⟩ := fi_none hf
      have dn : ((noc its ix : Int) == 0) = false := by have := noc_ne its ix; simp; omega
      rw [f1, f2] at hFi
      generalize noc its ix = nc at *
      have hc4 : cn = 4 := hcc
      subst hc4
      clear hcc hcn hf f1 f2 hr
      go_wp2_with fail
      refine hFi.mono ?_
      rintro e w1 ⟨rfl, hw1⟩
      rw [hw1]
      clear hw1 w1
      clear hFi
      go_upto_region 12 with fail
      have c0 : Below V.heap.size V V.drew := bdr (Below.refl _ _) 1
      have S0 := HSS.out _ c0
      refine wp_region_held (S := fun y => y.cell? ⟨T, 0, none⟩ = some (.pointer (some ⟨E, 0, none⟩))) (by kernel_rfl) ?_
      change wpAnyH _ _ _ _ _ _ _ _ V.drew
      refine tk 0 (.pointer (some ⟨T, 0, none⟩)) rfl (by kernel_rfl) (fun _ _ _ h => h) rfl (fun _ hS => rfl) S0 ?_
      simp only [zzA, zzB, zzC, Act.put, zzD, zzE, zzF]
      refine tk 1 (.pointer (some ⟨T, 0, none⟩)) rfl (by kernel_rfl) (fun _ _ _ h => h) rfl (fun _ hS => by simp [execOp, go_sem, Act.eval]) S0 ?_
      simp only [zzA, zzB, zzC, Act.put, zzD, zzE, zzF]
      refine tk 2 (.pointer (some ⟨T, 0, none⟩)) rfl (by kernel_rfl) (fun _ _ _ h => h) rfl (fun _ hS => by simp [execOp, go_sem, Act.eval]) S0 ?_
      simp only [zzA, zzB, zzC, Act.put, zzD, zzE, zzF]
      refine tk 3 (.pointer (some ⟨E, 0, none⟩)) rfl (by kernel_rfl) (fun _ _ _ h => h) rfl (fun _ hS => exec_load rfl rfl (load_rd _ _ _ _ hS)) S0 ?_
      simp only [zzA, zzB, zzC, Act.put, zzD, zzE, zzF]
      refine tk 4 (.int .u16 (ix : Int)) rfl (by kernel_rfl) (fun _ _ _ h => h) rfl (fun _ hS => rfl) S0 ?_
      simp only [zzA, zzB, zzC, Act.put, zzD, zzE, zzF]
      refine tk 5 (.int .u8 (sb : Int)) rfl (by kernel_rfl) (fun _ _ _ h => h) rfl (fun _ hS => rfl) S0 ?_
      simp only [zzA, zzB, zzC, Act.put, zzD, zzE, zzF]
      refine tk 6 (.int .i64 4) rfl (by kernel_rfl) (fun _ _ _ h => h) rfl (fun _ hS => rfl) S0 ?_
      simp only [zzA, zzB, zzC, Act.put, zzD, zzE, zzF]
      refine tk 7 (.int .i64 ((4 + 4 : Nat) : Int)) rfl (by kernel_rfl) (fun _ _ _ h => h) rfl (fun _ hS => exec_add (m := 4) (n := 4) rfl rfl rfl (by omega) _) S0 ?_
      simp only [zzA, zzB, zzC, Act.put, zzD, zzE, zzF]
      refine tk 8 (.slice (some ⟨k, 4, none⟩) 4 4) rfl (by kernel_rfl) (fun _ _ _ h => h) rfl (fun _ hS => exec_slice8n (k := k) (lo := 4) (hi := 4 + 4) rfl rfl rfl rfl (by omega) (by omega) (by omega) (by omega) (by omega) _) S0 ?_
      simp only [zzA, zzB, zzC, Act.put, zzD, zzE, zzF]
      refine wpAnyH_all (rs := [9]) (by kernel_rfl) (by simp) ?_
      intro k hk
      simp only [List.mem_cons, List.mem_nil_iff, or_false] at hk
      subst hk
      refine wpOp_run rfl rfl (wp_call_fn 113 #[.pointer (some ⟨E, 0, none⟩), .int .u16 (ix : Int), .int .u8 (sb : Int), .slice (some ⟨k, 4, none⟩) 4 4] (by simp [execOp, go_sem, Act.eval, resolve, invoke, enterQW10]) ?_)
      refine (HWR.out _ c0).mono ?_
      rintro e w5 ⟨rfl, d5, G5⟩
      have g5 := HAF.out _ w5 c0 G5
      have s5 := g5.1.c.1
      refine ⟨s5, ?_⟩
      simp only [zzA, zzB, zzC, Act.put, zzD, zzE, zzF]
      refine tk 10 (.int .u32 (wcc : Int)) rfl (by kernel_rfl) (fun _ _ _ h => h) rfl (fun _ hS => rfl) s5 ?_
      simp only [zzA, zzB, zzC, Act.put, zzD, zzE, zzF]
      refine wpAnyH_done (by kernel_rfl) ?_ _
      obtain ⟨d6, r6, K6⟩ := g5
      have HR5 := hidOf2 d5
      have HD6 := hidOf2 d6
      have HK6 := hidOf2 K6
      clear HWR HAF HSS S0 s5 c0 G5 d5 d6 K6
      by_cases hwz : wcc = 0
      · subst hwz
        go_wp2_with fail
        refine (HF96.out _).mono ?_
        rintro e w7 ⟨rfl, b7⟩
        have r7 := r6.below b7
        have r8 := r7.row ff
        have HZ := hidOf2 (HFIN.out w7 b7 HR5.out HD6.out HK6.out r7 ff)
        clear r6 b7 HR5 HD6 HK6 HF96 HF128
        go_wp2_with (first | (refine sdF (g := ff) r7 rfl _ _ rfl rfl rfl ?_))
        exact bodyPost_ret (ws_results r8 _ rfl) rfl (HRP.out _ _ ⟨by rw [HO1.out (by first | rfl | trivial)], none, 0, HZ.out.1, HZ.out.2, fun b hb => by simp [blk] at hb⟩)
      · have dw : ((wcc : Int) != 0) = true := by simp; omega
        go_wp2_with fail
        refine (HF128.out _).mono ?_
        rintro e w7 ⟨rfl, b7⟩
        have r7 := r6.below b7
        have r8 := r7.row fg
        have HZ := hidOf2 (HFIN.out w7 b7 HR5.out HD6.out HK6.out r7 fg)
        clear r6 b7 HR5 HD6 HK6 HF96 HF128
        go_wp2_with (first | (refine sdF (g := fg) r7 rfl _ _ rfl rfl rfl ?_))
        exact bodyPost_ret (ws_results r8 _ rfl) rfl (HRP.out _ _ ⟨by rw [HO2.out hwz], none, 0, HZ.out.1, HZ.out.2, fun b hb => by simp [blk] at hb⟩)
    | some i =>
      rw [hf] at hcc
      obtain ⟨kk, hkk, e1, f1, f2⟩ := fi_some hf
      rw [f1, f2] at hFi
      obtain ⟨lb, lo, cL, vb, vo, cV, rfl, rfl, hlb, hvb, rL, rV⟩ := hr.atI hkk
      rw [e1] at rL
      have ct := rL 11 _ rfl
      have ch := hr.c.1
      change cn = (if 0 < siz i.e.df.t ∧ siz i.e.df.t ≤ 4 then siz i.e.df.t else 4) at hcc
      have hSz : ∀ V, Calls Tryz.prog 85 #[.int .i64 i.e.df.t] V fun e w' => e = .returned (.int .i64 (siz i.e.df.t)) ∧ w' = V := fun V => r7Size_any _ V
      have hkl : kk < its.length := hkk
      have HCC := hidOf2 hcc
      clear hcc hcn hf f1 f2 hr rL rV e1 hvb hlb hkk
      generalize its.length = ln at *
      by_cases g1 : 0 < siz i.e.df.t
      · have d3 : decide ((0 : Int) < ((siz i.e.df.t : Nat) : Int)) = true := by simp; omega
        by_cases g2 : siz i.e.df.t < 4
        · have hz : siz i.e.df.t = cn := by rw [HCC.out, if_pos ⟨g1, by omega⟩]
          rw [hz] at hSz d3
          have d4 : decide ((cn : Int) < 4) = true := by simp; omega
          have n1 : 0 < cn := by omega
          have n2 : cn < 4 := by omega
          have n3 : (0 : Int) < (cn : Int) := by omega
          have n4 : (cn : Int) < 4 := by omega
          generalize i.e.df.t = tt at *
          clear HCC hz g1 g2
          go_wp2_with fail
          refine hFi.mono ?_
          rintro e w1 ⟨rfl, hw1⟩
          rw [hw1]
          clear hw1 w1 hFi
          go_wp2_with fail
          refine (hSz _).mono ?_
          rintro e w1 ⟨rfl, hw1⟩
          rw [hw1]
          clear hw1 w1 hSz
          go_upto_region 12 with fail
          have c0 : Below V.heap.size V V.drew := bdr (Below.refl _ _) 1
          have S0 := HSS.out _ c0
          refine wp_region_held (S := fun y => y.cell? ⟨T, 0, none⟩ = some (.pointer (some ⟨E, 0, none⟩))) (by kernel_rfl) ?_
          change wpAnyH _ _ _ _ _ _ _ _ V.drew
          refine tk 0 (.pointer (some ⟨T, 0, none⟩)) rfl (by kernel_rfl) (fun _ _ _ h => h) rfl (fun _ hS => rfl) S0 ?_
          simp only [zzA, zzB, zzC, Act.put, zzD, zzE, zzF]
          refine tk 1 (.pointer (some ⟨T, 0, none⟩)) rfl (by kernel_rfl) (fun _ _ _ h => h) rfl (fun _ hS => by simp [execOp, go_sem, Act.eval]) S0 ?_
          simp only [zzA, zzB, zzC, Act.put, zzD, zzE, zzF]
          refine tk 2 (.pointer (some ⟨T, 0, none⟩)) rfl (by kernel_rfl) (fun _ _ _ h => h) rfl (fun _ hS => by simp [execOp, go_sem, Act.eval]) S0 ?_
          simp only [zzA, zzB, zzC, Act.put, zzD, zzE, zzF]
          refine tk 3 (.pointer (some ⟨E, 0, none⟩)) rfl (by kernel_rfl) (fun _ _ _ h => h) rfl (fun _ hS => exec_load rfl rfl (load_rd _ _ _ _ hS)) S0 ?_
          simp only [zzA, zzB, zzC, Act.put, zzD, zzE, zzF]
          refine tk 4 (.int .u16 (ix : Int)) rfl (by kernel_rfl) (fun _ _ _ h => h) rfl (fun _ hS => rfl) S0 ?_
          simp only [zzA, zzB, zzC, Act.put, zzD, zzE, zzF]
          refine tk 5 (.int .u8 (sb : Int)) rfl (by kernel_rfl) (fun _ _ _ h => h) rfl (fun _ hS => rfl) S0 ?_
          simp only [zzA, zzB, zzC, Act.put, zzD, zzE, zzF]
          refine tk 6 (.int .i64 (cn : Int)) rfl (by kernel_rfl) (fun _ _ _ h => h) rfl (fun _ hS => rfl) S0 ?_
          simp only [zzA, zzB, zzC, Act.put, zzD, zzE, zzF]
          refine tk 7 (.int .i64 ((4 + cn : Nat) : Int)) rfl (by kernel_rfl) (fun _ _ _ h => h) rfl (fun _ hS => exec_add (m := 4) (n := cn) rfl rfl rfl (by omega) _) S0 ?_
          simp only [zzA, zzB, zzC, Act.put, zzD, zzE, zzF]
          refine tk 8 (.slice (some ⟨k, 4, none⟩) cn 4) rfl (by kernel_rfl) (fun _ _ _ h => h) rfl (fun _ hS => exec_slice8n (k := k) (lo := 4) (hi := 4 + cn) rfl rfl rfl rfl (by omega) (by omega) (by omega) (by omega) (by omega) _) S0 ?_
          simp only [zzA, zzB, zzC, Act.put, zzD, zzE, zzF]
          refine wpAnyH_all (rs := [9]) (by kernel_rfl) (by simp) ?_
          intro k hk
          simp only [List.mem_cons, List.mem_nil_iff, or_false] at hk
          subst hk
          refine wpOp_run rfl rfl (wp_call_fn 113 #[.pointer (some ⟨E, 0, none⟩), .int .u16 (ix : Int), .int .u8 (sb : Int), .slice (some ⟨k, 4, none⟩) cn 4] (by simp [execOp, go_sem, Act.eval, resolve, invoke, enterQW10]) ?_)
          refine (HWR.out _ c0).mono ?_
          rintro e w5 ⟨rfl, d5, G5⟩
          have g5 := HAF.out _ w5 c0 G5
          have s5 := g5.1.c.1
          refine ⟨s5, ?_⟩
          simp only [zzA, zzB, zzC, Act.put, zzD, zzE, zzF]
          refine tk 10 (.int .u32 (wcc : Int)) rfl (by kernel_rfl) (fun _ _ _ h => h) rfl (fun _ hS => rfl) s5 ?_
          simp only [zzA, zzB, zzC, Act.put, zzD, zzE, zzF]
          refine wpAnyH_done (by kernel_rfl) ?_ _
          obtain ⟨d6, r6, K6⟩ := g5
          have HR5 := hidOf2 d5
          have HD6 := hidOf2 d6
          have HK6 := hidOf2 K6
          clear HWR HAF HSS S0 s5 c0 G5 d5 d6 K6
          by_cases hwz : wcc = 0
          · subst hwz
            go_wp2_with fail
            refine (HF96.out _).mono ?_
            rintro e w7 ⟨rfl, b7⟩
            have r7 := r6.below b7
            have r8 := r7.row ff
            have HZ := hidOf2 (HFIN.out w7 b7 HR5.out HD6.out HK6.out r7 ff)
            clear r6 b7 HR5 HD6 HK6 HF96 HF128
            go_wp2_with (first | (refine sdF (g := ff) r7 rfl _ _ rfl rfl rfl ?_))
            exact bodyPost_ret (ws_results r8 _ rfl) rfl (HRP.out _ _ ⟨by rw [HO1.out (by first | rfl | trivial)], none, 0, HZ.out.1, HZ.out.2, fun b hb => by simp [blk] at hb⟩)
          · have dw : ((wcc : Int) != 0) = true := by simp; omega
            go_wp2_with fail
            refine (HF128.out _).mono ?_
            rintro e w7 ⟨rfl, b7⟩
            have r7 := r6.below b7
            have r8 := r7.row fg
            have HZ := hidOf2 (HFIN.out w7 b7 HR5.out HD6.out HK6.out r7 fg)
            clear r6 b7 HR5 HD6 HK6 HF96 HF128
            go_wp2_with (first | (refine sdF (g := fg) r7 rfl _ _ rfl rfl rfl ?_))
            exact bodyPost_ret (ws_results r8 _ rfl) rfl (HRP.out _ _ ⟨by rw [HO2.out hwz], none, 0, HZ.out.1, HZ.out.2, fun b hb => by simp [blk] at hb⟩)
        · have d4 : decide (((siz i.e.df.t : Nat) : Int) < 4) = false := by simp; omega
          have hc4 : cn = 4 := by
            rw [HCC.out]
            by_cases g3 : siz i.e.df.t ≤ 4
            · rw [if_pos ⟨g1, g3⟩]; omega
            · rw [if_neg (fun h => g3 h.2)]
          clear HCC
          subst hc4
          obtain ⟨z, hz⟩ : ∃ z, siz i.e.df.t = z := ⟨_, rfl⟩
          rw [hz] at hSz d3 d4 g1 g2
          have n1 : 4 ≤ z := by omega
          have n3 : (0 : Int) < (z : Int) := by omega
          have n4 : ¬ (z : Int) < 4 := by omega
          generalize i.e.df.t = tt at *
          clear hz
          go_wp2_with fail
          refine hFi.mono ?_
          rintro e w1 ⟨rfl, hw1⟩
          rw [hw1]
          clear hw1 w1 hFi
          go_wp2_with fail
          refine (hSz _).mono ?_
          rintro e w1 ⟨rfl, hw1⟩
          rw [hw1]
          clear hw1 w1 hSz
          go_upto_region 12 with fail
          have c0 : Below V.heap.size V V.drew := bdr (Below.refl _ _) 1
          have S0 := HSS.out _ c0
          refine wp_region_held (S := fun y => y.cell? ⟨T, 0, none⟩ = some (.pointer (some ⟨E, 0, none⟩))) (by kernel_rfl) ?_
          change wpAnyH _ _ _ _ _ _ _ _ V.drew
          refine tk 0 (.pointer (some ⟨T, 0, none⟩)) rfl (by kernel_rfl) (fun _ _ _ h => h) rfl (fun _ hS => rfl) S0 ?_
          simp only [zzA, zzB, zzC, Act.put, zzD, zzE, zzF]
          refine tk 1 (.pointer (some ⟨T, 0, none⟩)) rfl (by kernel_rfl) (fun _ _ _ h => h) rfl (fun _ hS => by simp [execOp, go_sem, Act.eval]) S0 ?_
          simp only [zzA, zzB, zzC, Act.put, zzD, zzE, zzF]
          refine tk 2 (.pointer (some ⟨T, 0, none⟩)) rfl (by kernel_rfl) (fun _ _ _ h => h) rfl (fun _ hS => by simp [execOp, go_sem, Act.eval]) S0 ?_
          simp only [zzA, zzB, zzC, Act.put, zzD, zzE, zzF]
          refine tk 3 (.pointer (some ⟨E, 0, none⟩)) rfl (by kernel_rfl) (fun _ _ _ h => h) rfl (fun _ hS => exec_load rfl rfl (load_rd _ _ _ _ hS)) S0 ?_
          simp only [zzA, zzB, zzC, Act.put, zzD, zzE, zzF]
          refine tk 4 (.int .u16 (ix : Int)) rfl (by kernel_rfl) (fun _ _ _ h => h) rfl (fun _ hS => rfl) S0 ?_
          simp only [zzA, zzB, zzC, Act.put, zzD, zzE, zzF]
          refine tk 5 (.int .u8 (sb : Int)) rfl (by kernel_rfl) (fun _ _ _ h => h) rfl (fun _ hS => rfl) S0 ?_
          simp only [zzA, zzB, zzC, Act.put, zzD, zzE, zzF]
          refine tk 6 (.int .i64 4) rfl (by kernel_rfl) (fun _ _ _ h => h) rfl (fun _ hS => rfl) S0 ?_
          simp only [zzA, zzB, zzC, Act.put, zzD, zzE, zzF]
          refine tk 7 (.int .i64 ((4 + 4 : Nat) : Int)) rfl (by kernel_rfl) (fun _ _ _ h => h) rfl (fun _ hS => exec_add (m := 4) (n := 4) rfl rfl rfl (by omega) _) S0 ?_
          simp only [zzA, zzB, zzC, Act.put, zzD, zzE, zzF]
          refine tk 8 (.slice (some ⟨k, 4, none⟩) 4 4) rfl (by kernel_rfl) (fun _ _ _ h => h) rfl (fun _ hS => exec_slice8n (k := k) (lo := 4) (hi := 4 + 4) rfl rfl rfl rfl (by omega) (by omega) (by omega) (by omega) (by omega) _) S0 ?_
          simp only [zzA, zzB, zzC, Act.put, zzD, zzE, zzF]
          refine wpAnyH_all (rs := [9]) (by kernel_rfl) (by simp) ?_
          intro k hk
          simp only [List.mem_cons, List.mem_nil_iff, or_false] at hk
          subst hk
          refine wpOp_run rfl rfl (wp_call_fn 113 #[.pointer (some ⟨E, 0, none⟩), .int .u16 (ix : Int), .int .u8 (sb : Int), .slice (some ⟨k, 4, none⟩) 4 4] (by simp [execOp, go_sem, Act.eval, resolve, invoke, enterQW10]) ?_)
          refine (HWR.out _ c0).mono ?_
          rintro e w5 ⟨rfl, d5, G5⟩
          have g5 := HAF.out _ w5 c0 G5
          have s5 := g5.1.c.1
          refine ⟨s5, ?_⟩
          simp only [zzA, zzB, zzC, Act.put, zzD, zzE, zzF]
          refine tk 10 (.int .u32 (wcc : Int)) rfl (by kernel_rfl) (fun _ _ _ h => h) rfl (fun _ hS => rfl) s5 ?_
          simp only [zzA, zzB, zzC, Act.put, zzD, zzE, zzF]
          refine wpAnyH_done (by kernel_rfl) ?_ _
          obtain ⟨d6, r6, K6⟩ := g5
          have HR5 := hidOf2 d5
          have HD6 := hidOf2 d6
          have HK6 := hidOf2 K6
          clear HWR HAF HSS S0 s5 c0 G5 d5 d6 K6
          by_cases hwz : wcc = 0
          · subst hwz
            go_wp2_with fail
            refine (HF96.out _).mono ?_
            rintro e w7 ⟨rfl, b7⟩
            have r7 := r6.below b7
            have r8 := r7.row ff
            have HZ := hidOf2 (HFIN.out w7 b7 HR5.out HD6.out HK6.out r7 ff)
            clear r6 b7 HR5 HD6 HK6 HF96 HF128
            go_wp2_with (first | (refine sdF (g := ff) r7 rfl _ _ rfl rfl rfl ?_))
            exact bodyPost_ret (ws_results r8 _ rfl) rfl (HRP.out _ _ ⟨by rw [HO1.out (by first | rfl | trivial)], none, 0, HZ.out.1, HZ.out.2, fun b hb => by simp [blk] at hb⟩)
          · have dw : ((wcc : Int) != 0) = true := by simp; omega
            go_wp2_with fail
            refine (HF128.out _).mono ?_
            rintro e w7 ⟨rfl, b7⟩
            have r7 := r6.below b7
            have r8 := r7.row fg
            have HZ := hidOf2 (HFIN.out w7 b7 HR5.out HD6.out HK6.out r7 fg)
            clear r6 b7 HR5 HD6 HK6 HF96 HF128
            go_wp2_with (first | (refine sdF (g := fg) r7 rfl _ _ rfl rfl rfl ?_))
            exact bodyPost_ret (ws_results r8 _ rfl) rfl (HRP.out _ _ ⟨by rw [HO2.out hwz], none, 0, HZ.out.1, HZ.out.2, fun b hb => by simp [blk] at hb⟩)
      · have d3 : decide ((0 : Int) < ((siz i.e.df.t : Nat) : Int)) = false := by simp; omega
        have hc4 : cn = 4 := by rw [HCC.out, if_neg (fun h => g1 h.1)]
        clear HCC
        subst hc4
        have hz : siz i.e.df.t = 0 := by omega
        rw [hz] at hSz d3
        generalize i.e.df.t = tt at *
        clear hz g1
        go_wp2_with fail
        refine hFi.mono ?_
        rintro e w1 ⟨rfl, hw1⟩
        rw [hw1]
        clear hw1 w1 hFi
        go_wp2_with fail
        refine (hSz _).mono ?_
        rintro e w1 ⟨rfl, hw1⟩
        rw [hw1]
        clear hw1 w1 hSz
        go_upto_region 12 with fail
        have c0 : Below V.heap.size V V.drew := bdr (Below.refl _ _) 1
        have S0 := HSS.out _ c0
        refine wp_region_held (S := fun y => y.cell? ⟨T, 0, none⟩ = some (.pointer (some ⟨E, 0, none⟩))) (by kernel_rfl) ?_
        change wpAnyH _ _ _ _ _ _ _ _ V.drew
        refine tk 0 (.pointer (some ⟨T, 0, none⟩)) rfl (by kernel_rfl) (fun _ _ _ h => h) rfl (fun _ hS => rfl) S0 ?_
        simp only [zzA, zzB, zzC, Act.put, zzD, zzE, zzF]
        refine tk 1 (.pointer (some ⟨T, 0, none⟩)) rfl (by kernel_rfl) (fun _ _ _ h => h) rfl (fun _ hS => by simp [execOp, go_sem, Act.eval]) S0 ?_
        simp only [zzA, zzB, zzC, Act.put, zzD, zzE, zzF]
        refine tk 2 (.pointer (some ⟨T, 0, none⟩)) rfl (by kernel_rfl) (fun _ _ _ h => h) rfl (fun _ hS => by simp [execOp, go_sem, Act.eval]) S0 ?_
        simp only [zzA, zzB, zzC, Act.put, zzD, zzE, zzF]
        refine tk 3 (.pointer (some ⟨E, 0, none⟩)) rfl (by kernel_rfl) (fun _ _ _ h => h) rfl (fun _ hS => exec_load rfl rfl (load_rd _ _ _ _ hS)) S0 ?_
        simp only [zzA, zzB, zzC, Act.put, zzD, zzE, zzF]
        refine tk 4 (.int .u16 (ix : Int)) rfl (by kernel_rfl) (fun _ _ _ h => h) rfl (fun _ hS => rfl) S0 ?_
        simp only [zzA, zzB, zzC, Act.put, zzD, zzE, zzF]
        refine tk 5 (.int .u8 (sb : Int)) rfl (by kernel_rfl) (fun _ _ _ h => h) rfl (fun _ hS => rfl) S0 ?_
        simp only [zzA, zzB, zzC, Act.put, zzD, zzE, zzF]
        refine tk 6 (.int .i64 4) rfl (by kernel_rfl) (fun _ _ _ h => h) rfl (fun _ hS => rfl) S0 ?_
        simp only [zzA, zzB, zzC, Act.put, zzD, zzE, zzF]
        refine tk 7 (.int .i64 ((4 + 4 : Nat) : Int)) rfl (by kernel_rfl) (fun _ _ _ h => h) rfl (fun _ hS => exec_add (m := 4) (n := 4) rfl rfl rfl (by omega) _) S0 ?_
        simp only [zzA, zzB, zzC, Act.put, zzD, zzE, zzF]
        refine tk 8 (.slice (some ⟨k, 4, none⟩) 4 4) rfl (by kernel_rfl) (fun _ _ _ h => h) rfl (fun _ hS => exec_slice8n (k := k) (lo := 4) (hi := 4 + 4) rfl rfl rfl rfl (by omega) (by omega) (by omega) (by omega) (by omega) _) S0 ?_
        simp only [zzA, zzB, zzC, Act.put, zzD, zzE, zzF]
        refine wpAnyH_all (rs := [9]) (by kernel_rfl) (by simp) ?_
        intro k hk
        simp only [List.mem_cons, List.mem_nil_iff, or_false] at hk
        subst hk
        refine wpOp_run rfl rfl (wp_call_fn 113 #[.pointer (some ⟨E, 0, none⟩), .int .u16 (ix : Int), .int .u8 (sb : Int), .slice (some ⟨k, 4, none⟩) 4 4] (by simp [execOp, go_sem, Act.eval, resolve, invoke, enterQW10]) ?_)
        refine (HWR.out _ c0).mono ?_
        rintro e w5 ⟨rfl, d5, G5⟩
        have g5 := HAF.out _ w5 c0 G5
        have s5 := g5.1.c.1
        refine ⟨s5, ?_⟩
        simp only [zzA, zzB, zzC, Act.put, zzD, zzE, zzF]
        refine tk 10 (.int .u32 (wcc : Int)) rfl (by kernel_rfl) (fun _ _ _ h => h) rfl (fun _ hS => rfl) s5 ?_
        simp only [zzA, zzB, zzC, Act.put, zzD, zzE, zzF]
        refine wpAnyH_done (by kernel_rfl) ?_ _
        obtain ⟨d6, r6, K6⟩ := g5
        have HR5 := hidOf2 d5
        have HD6 := hidOf2 d6
        have HK6 := hidOf2 K6
        clear HWR HAF HSS S0 s5 c0 G5 d5 d6 K6
        by_cases hwz : wcc = 0
        · subst hwz
          go_wp2_with fail
          refine (HF96.out _).mono ?_
          rintro e w7 ⟨rfl, b7⟩
          have r7 := r6.below b7
          have r8 := r7.row ff
          have HZ := hidOf2 (HFIN.out w7 b7 HR5.out HD6.out HK6.out r7 ff)
          clear r6 b7 HR5 HD6 HK6 HF96 HF128
          go_wp2_with (first | (refine sdF (g := ff) r7 rfl _ _ rfl rfl rfl ?_))
          exact bodyPost_ret (ws_results r8 _ rfl) rfl (HRP.out _ _ ⟨by rw [HO1.out (by first | rfl | trivial)], none, 0, HZ.out.1, HZ.out.2, fun b hb => by simp [blk] at hb⟩)
        · have dw : ((wcc : Int) != 0) = true := by simp; omega
          go_wp2_with fail
          refine (HF128.out _).mono ?_
          rintro e w7 ⟨rfl, b7⟩
          have r7 := r6.below b7
          have r8 := r7.row fg
          have HZ := hidOf2 (HFIN.out w7 b7 HR5.out HD6.out HK6.out r7 fg)
          clear r6 b7 HR5 HD6 HK6 HF96 HF128
          go_wp2_with (first | (refine sdF (g := fg) r7 rfl _ _ rfl rfl rfl ?_))
          exact bodyPost_ret (ws_results r8 _ rfl) rfl (HRP.out _ _ ⟨by rw [HO2.out hwz], none, 0, HZ.out.1, HZ.out.2, fun b hb => by simp [blk] at hb⟩)
end
end Go.Proofs.YtahfnknbmikmkaaGreat
