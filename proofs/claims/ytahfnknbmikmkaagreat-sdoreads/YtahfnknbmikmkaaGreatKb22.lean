/- Contracts: beginRead. -/
import Derived.Test.YtahfnknbmikmkaaGreatZs
import Derived.Test.YtahfnknbmikmkaaGreatKb20
import Derived.Test.YtahfnknbmikmkaaGreatKb21
namespace Go.Proofs.YtahfnknbmikmkaaGreat
open Go.RowKit Go.Proofs.Ty
set_option linter.unusedVariables false
set_option maxRecDepth 1000000
set_option linter.unusedSimpArgs false
theorem br_results {Q : Nat} {f : F8} {w : World} (h : Qb Q f w) (tmps : Array Value) (h2 : tmps[4]?.getD undef = .pointer (some ⟨Q, 0, none⟩)) :
    (results Tryz.f65 tmps).run Tryz.prog w = .ok (.agg f.arr) w := by
  have l0 := h.load
  simp [Go.results, Tryz.results65, h2, asAddr, l0]
theorem enterRd : ∀ args x, (callFunc 112 args).run Tryz.prog x = .ok (.enter 112 args) x := fun _ _ => by rfl
theorem rdL_len (its : List Im) (ix sb : Nat) : (rdL its ix sb).length ≤ 65536 := by
  unfold rdL
  split
  · simp
  · split
    · simp
    · exact enc_len _
/-- What stays when a frame's block is written: the server, the dictionary. -/
theorem row_stays {S D R k : Nat} {s : Ss} {ao : Option Addr} {cp : Nat} {its : List Im} {bs : List Nat} {w x : World} {f : F8} (h : Pb S D s ao cp x) (hd : Dct D R its x) (hK : Kp bs w x) (hq : Qb k f x) (hk : w.heap.size ≤ k) (A : Array Value) : Pb S D s ao cp (x.setRow k A) ∧ Dct D R its (x.setRow k A) ∧ Kp bs w (x.setRow k A) := by
  refine ⟨(setRow_other _ _ _ _ ?_).trans h, hd.of_heap fun b A' T fr hb hT => setRow_other _ _ _ _ ?_, ?_⟩
  · rintro rfl
    have h1 : x.heap[S]? = some (.cells (psA D s ao cp) 91 (0, 0)) := h
    rw [show x.heap[S]? = some (.cells f.arr 32 (0, 0)) from hq] at h1
    injection h1 with h1
    injection h1 with _ h2
    revert h2
    decide
  · rintro rfl
    rw [show x.heap[b]? = some (.cells f.arr 32 (0, 0)) from hq] at hb
    injection hb with hb
    injection hb with _ hb2
    subst hb2
    revert hT
    decide
  · exact ⟨hK.os, hK.tape, hK.output, by simpa using hK.size, fun j hj hn => (setRow_other _ _ _ _ (by omega)).trans (hK.block j hj hn)⟩
theorem bytes_kp {bs : List Nat} {w x : World} {v : Value} {l : List UInt8} (h : Bytes w v l) (hK : Kp bs w x) (hn : ∀ b, v.ownBlock = some b → b ∉ bs) : Bytes x v l := bytes_same h hK.size (fun b hb hl => hK.block b hl (hn b hb))
section
variable {S D R : Nat} {s : Ss} {ao : Option Addr} {cp : Nat} {its : List Im} {w : World}
theorem cp_nil : Cp (.slice none ([] : List UInt8).length 0) := fun _ _ _ e => by injection e with _ e2 e3; simp at e2; omega
/-- What beginRead leaves. -/
def RdPost (S D R : Nat) (its : List Im) (q : F8) (w : World) (e : Ending) (w' : World) : Prop :=
  e = (redO its q).1.e ∧ ∃ ap cq, Pb S D (redO its q).2.2 ap cq w' ∧ Bytes w' (.slice ap (redO its q).2.2.bs.length cq) (redO its q).2.2.bs ∧ (∀ b, (Value.slice ap (redO its q).2.2.bs.length cq).ownBlock = some b → w.heap.size ≤ b) ∧ Dct D R its w' ∧ Kp [S] w w' ∧ Cp (.slice ap (redO its q).2.2.bs.length cq) ∧ (∀ b, (Value.slice ap (redO its q).2.2.bs.length cq).ownBlock = some b → b < w'.heap.size)
set_option maxHeartbeats 8000000 in
theorem beginRead_any (h : Pb S D s ao cp w) (hd : Dct D R its w) (q : F8) : Calls Tryz.prog 65 #[.pointer (some ⟨S, 0, none⟩), .agg q.arr] w (RdPost S D R its q w) := by
  obtain ⟨W, hW⟩ : ∃ W, w.alloc (.cells q.arr 32) = W := ⟨_, rfl⟩
  obtain ⟨k, hk⟩ : ∃ k, w.heap.size = k := ⟨_, rfl⟩
  have hWs : W.heap.size = k + 1 := by rw [← hW, size_alloc, hk]
  have b0 : Below w.heap.size w (W.alloc (.cells zA8 32)) := (hW ▸ (Below.refl _ _).alloc (Nat.le_refl _) _).alloc (by rw [hWs, hk]; omega) _
  have q0 : Qb k q (W.alloc (.cells zA8 32)) := (Lib.alloc_old W _ k (by omega)).trans (by rw [← hk, ← hW]; exact Qb.new w q)
  have r0 : Qb (k + 1) F8.nul (W.alloc (.cells zA8 32)) := by rw [← hWs]; exact heap_alloc_new W _
  have hSk : S < k := by rw [← hk]; exact h.lt
  have h0 := h.below b0
  have d0 := hd.below b0
  have hRs := Reset10_any h0
  have hso : ∀ V, Calls Tryz.prog 67 #[.agg q.arr] V fun e w' => e = .returned (.agg (spA (pix q) (psb q))) ∧ Below V.heap.size V w' := spotOf_any q
  have hb0 := q.b0.toNat_lt
  have hix := pix_lt q
  have hsb := psb_lt q
  have HB0 := hidOf2 b0
  have HD0 := hidOf2 d0
  have HP0 := hidOf2 h0

  obtain ⟨EE, hEE⟩ : ∃ e, RdPost S D R its q w = e := ⟨_, rfl⟩
  rw [hEE]
  clear h hd b0 d0 h0
  go_enter Tryz.func65, Tryz.ntmps65
  go_upto_region 1 with fail
  change Code.wp Tryz.prog _ _ _ (W.alloc (.cells zA8 32))
  obtain ⟨V, hV⟩ : ∃ V, W.alloc (.cells zA8 32) = V := ⟨_, rfl⟩
  have hVs : V.heap.size = k + 2 := by rw [← hV, size_alloc, hWs]
  rw [hV] at q0 r0 HB0 HD0 HP0 hRs ⊢
  go_wp2_with fail
  refine hRs.mono ?_
  rintro e w1 ⟨rfl, h1, K1⟩
  have q1 : Qb k q w1 := (K1.block _ q0.lt (by simp; omega)).trans q0
  have r1 : Qb (k + 1) F8.nul w1 := (K1.block _ r0.lt (by simp; omega)).trans r0
  have D1 := hidOf2 (HD0.out.kpS HP0.out K1)
  have HK1 := hidOf2 ((Kp.of_below (bs := [S]) HB0.out).trans K1)
  have HP1 := hidOf2 h1
  have l1 := q1.load
  clear hRs K1 h1 q0 r0 HB0 HD0 HP0
  go_wp2_with (first | (refine ldG l1 rfl _ rfl rfl ?_))
  refine (hso _).mono ?_
  rintro e w2 ⟨rfl, b2⟩
  obtain ⟨p, hp⟩ : ∃ p, w2.heap.size = p := ⟨_, rfl⟩
  have z1 : Sp p 0 0 (w2.alloc (.cells (spA 0 0) 87)) := by rw [← hp]; exact Sp.new w2 0 0
  have bz : Below w2.heap.size w2 (w2.alloc (.cells (spA 0 0) 87)) := (Below.refl _ _).alloc (Nat.le_refl _) _
  have bz2 := below_row bz (by omega) (by rw [size_alloc]; omega) (q := p) (spA (pix q) (psb q))
  have z2 := z1.row (pix q) (psb q)
  have HZ : Hid (∀ X, X = (w2.alloc (.cells (spA 0 0) 87)).setRow p (spA (pix q) (psb q)) → Sp p (pix q) (psb q) X ∧ Below w2.heap.size w2 X) := fun X hX => by subst hX; exact ⟨z2, bz2⟩
  clear z2 bz2 bz l1
  go_upto_region 3 with (first | (refine sdS (jx := pix q) (tb := psb q) z1 rfl _ _ rfl rfl rfl ?_))
  change Code.wp Tryz.prog _ _ _ ((w2.alloc (.cells (spA 0 0) 87)).setRow p (spA (pix q) (psb q)))
  generalize hX : (w2.alloc (.cells (spA 0 0) 87)).setRow p (spA (pix q) (psb q)) = wb
  obtain ⟨p3, b3⟩ := HZ.out wb hX.symm
  have b23 := b2.trans (b3.mono b2.size)
  have q3 := q1.below b23
  have r3 := r1.below b23
  have hrp : k + 1 < p := by have := r1.lt; have := b2.size; omega
  have HK3 := hidOf2 (HK1.out.trans (Kp.of_below b23))
  have HP3 := hidOf2 (HP1.out.below b23)
  have HD3 := hidOf2 (D1.out.below b23)
  have c3 := q3.c0
  clear HZ hX z1 hso b2 b3 b23 HK1 HP1 D1 q1 r1

  have HRD : Hid (∀ y, Below wb.heap.size wb y → Calls Tryz.prog 112 #[.pointer (some ⟨D, 0, none⟩), .int .u16 (pix q : Int), .int .u8 (psb q : Int)] y fun e w' => ∃ x, e = .returned (.tuple #[x, .int .u32 (rdC its (pix q) (psb q) : Nat)]) ∧ Bytes w' x (rdL its (pix q) (psb q)) ∧ Below y.heap.size y w' ∧ (∀ b, x.ownBlock = some b → y.heap.size ≤ b) ∧ Cp x ∧ (∀ b, x.ownBlock = some b → b < w'.heap.size)) := fun y hb => Read_g (HD3.out.below hb) _ _ hix hsb
  have hro : redO its q = if rdC its (pix q) (psb q) ≠ 0 then (.bad (pix q) (psb q) (rdC its (pix q) (psb q)), its, Ss.nul)
      else if 1 ≤ (rdL its (pix q) (psb q)).length ∧ (rdL its (pix q) (psb q)).length ≤ 4 then (.ok (here (pix q) (psb q) (rdL its (pix q) (psb q))), its, Ss.nul)
      else (.ok (frm 65 (pix q) (psb q) (rdL its (pix q) (psb q)).length), its, ⟨2, pix q, psb q, 0, rdL its (pix q) (psb q), none⟩) := rfl
  have hLl := rdL_len its (pix q) (psb q)
  have HRO := hidOf2 hro
  have HAN : Hid (∀ (a : Nat) (V : World), a < 256 → Calls Tryz.prog 72 #[.agg (spA (pix q) (psb q)), .int .u8 (a : Int)] V fun e w' => e = .returned (.agg (frm a (pix q) (psb q) 0).arr) ∧ Below V.heap.size V w') := fun a V ha => answer_any a _ _ V ha hix hsb
  have HCO : Hid (∀ (n : Nat) (V : World), n ≤ 65536 → Calls Tryz.prog 41 #[.agg (spA (pix q) (psb q)), .int .u8 65, .int .u32 (n : Int)] V fun e w' => e = .returned (.agg (frm 65 (pix q) (psb q) n).arr) ∧ Below V.heap.size V w') := fun n V hn => counted_any 65 _ _ n V (by decide) hix hsb (by omega)
  have HHP : Hid (∀ (ix sb : Nat) (b : List UInt8), 1 ≤ b.length → b.length ≤ 4 → (frm (67 + 4 * (4 - b.length)) ix sb 0).put 4 (b.take 4) = here ix sb b) := here_put
  clear hro
  have hRP : ∀ e w', RdPost S D R its q w e w' ↔ EE e w' := fun e w' => by rw [hEE]
  have HRP : Hid (∀ e w', (e = (redO its q).1.e ∧ ∃ ap cq, Pb S D (redO its q).2.2 ap cq w' ∧ Bytes w' (.slice ap (redO its q).2.2.bs.length cq) (redO its q).2.2.bs ∧ (∀ b, (Value.slice ap (redO its q).2.2.bs.length cq).ownBlock = some b → w.heap.size ≤ b) ∧ Dct D R its w' ∧ Kp [S] w w' ∧ Cp (.slice ap (redO its q).2.2.bs.length cq) ∧ (∀ b, (Value.slice ap (redO its q).2.2.bs.length cq).ownBlock = some b → b < w'.heap.size)) → EE e w') := fun e w' hh => (hRP e w').1 hh
  clear hRP hEE
  generalize redO its q = RO at *
  generalize rdC its (pix q) (psb q) = C at *
  generalize rdL its (pix q) (psb q) = L at *
  generalize pix q = ix at *
  generalize psb q = sb at *
  have HSS : Hid (∀ y, Below wb.heap.size wb y → (fun y => y.cell? ⟨S, 0, none⟩ = some (.pointer (some ⟨D, 0, none⟩)) ∧ Sp p ix sb y) y) := fun y hb => ⟨(HP3.out.below hb).c.1, p3.below hb⟩
  have c0 : Below wb.heap.size wb wb.drew := bdr (Below.refl _ _) 1
  have S0 := HSS.out _ c0
  have HWB : Hid (w.heap.size ≤ wb.heap.size) := HK3.out.size
  clear q3 c3
  refine wp_region_held (S := fun y => y.cell? ⟨S, 0, none⟩ = some (.pointer (some ⟨D, 0, none⟩)) ∧ Sp p ix sb y) (by kernel_rfl) ?_
  change wpAnyH _ _ _ _ _ _ _ _ wb.drew
  refine tk 0 (.pointer (some ⟨S, 0, none⟩)) rfl (by kernel_rfl) (fun _ _ _ h => h) rfl (fun _ hS => rfl) S0 ?_
  simp only [zzA, zzB, zzC, Act.put, zzD, zzE, zzF]
  refine tk 1 (.pointer (some ⟨S, 0, none⟩)) rfl (by kernel_rfl) (fun _ _ _ h => h) rfl (fun _ hS => by simp [execOp, go_sem, Act.eval]) S0 ?_
  simp only [zzA, zzB, zzC, Act.put, zzD, zzE, zzF]
  refine tk 2 (.pointer (some ⟨S, 0, none⟩)) rfl (by kernel_rfl) (fun _ _ _ h => h) rfl (fun _ hS => by simp [execOp, go_sem, Act.eval]) S0 ?_
  simp only [zzA, zzB, zzC, Act.put, zzD, zzE, zzF]
  refine tk 3 (.pointer (some ⟨D, 0, none⟩)) rfl (by kernel_rfl) (fun _ _ _ h => h) rfl (fun _ hS => exec_load rfl rfl (load_pd _ _ _ _ hS.1)) S0 ?_
  simp only [zzA, zzB, zzC, Act.put, zzD, zzE, zzF]
  refine tk 4 (.pointer (some ⟨p, 0, none⟩)) rfl (by kernel_rfl) (fun _ _ _ h => h) rfl (fun _ hS => by simp [execOp, go_sem, Act.eval]) S0 ?_
  simp only [zzA, zzB, zzC, Act.put, zzD, zzE, zzF]
  refine tk 5 (.int .u16 (ix : Int)) rfl (by kernel_rfl) (fun _ _ _ h => h) rfl (fun _ hS => exec_load rfl rfl (load_u16 _ _ _ _ hS.2.c0)) S0 ?_
  simp only [zzA, zzB, zzC, Act.put, zzD, zzE, zzF]
  refine tk 6 (.pointer (some ⟨p, 1, none⟩)) rfl (by kernel_rfl) (fun _ _ _ h => h) rfl (fun _ hS => by simp [execOp, go_sem, Act.eval]) S0 ?_
  simp only [zzA, zzB, zzC, Act.put, zzD, zzE, zzF]
  refine tk 7 (.int .u8 (sb : Int)) rfl (by kernel_rfl) (fun _ _ _ h => h) rfl (fun _ hS => exec_load rfl rfl (load_u8 _ _ _ _ hS.2.c1)) S0 ?_
  simp only [zzA, zzB, zzC, Act.put, zzD, zzE, zzF]
  refine wpAnyH_all (rs := [8]) (by kernel_rfl) (by simp) ?_
  intro k hk
  simp only [List.mem_cons, List.mem_nil_iff, or_false] at hk
  subst hk
  refine wpOp_run rfl rfl (wp_call_fn 112 #[.pointer (some ⟨D, 0, none⟩), .int .u16 (ix : Int), .int .u8 (sb : Int)] (by simp [execOp, go_sem, Act.eval, resolve, invoke, enterRd]) ?_)
  refine (HRD.out _ c0).mono ?_
  rintro e w3 ⟨x, rfl, hBy, b3, hNw, hCx, hLx⟩
  obtain ⟨ar, cr, rfl⟩ := bytes_shape hBy
  have c3 := c0.trans (b3.mono c0.size)
  have s3 := HSS.out _ c3
  refine ⟨s3, ?_⟩
  simp only [zzA, zzB, zzC, Act.put, zzD, zzE, zzF]
  refine tk 9 (.tuple #[.slice ar L.length cr, .int .u32 (C : Int)]) rfl (by kernel_rfl) (fun _ _ _ h => h) rfl (fun _ hS => rfl) s3 ?_
  simp only [zzA, zzB, zzC, Act.put, zzD, zzE, zzF]
  refine tk 10 (.slice ar L.length cr) rfl (by kernel_rfl) (fun _ _ _ h => h) rfl (fun _ hS => by simp [execOp, go_sem, Act.eval]) s3 ?_
  simp only [zzA, zzB, zzC, Act.put, zzD, zzE, zzF]
  refine tk 11 (.int .u32 (C : Int)) rfl (by kernel_rfl) (fun _ _ _ h => h) rfl (fun _ hS => by simp [execOp, go_sem, Act.eval]) s3 ?_
  simp only [zzA, zzB, zzC, Act.put, zzD, zzE, zzF]
  refine tk 12 (.slice ar L.length cr) rfl (by kernel_rfl) (fun _ _ _ h => h) rfl (fun _ hS => rfl) s3 ?_
  simp only [zzA, zzB, zzC, Act.put, zzD, zzE, zzF]
  refine tk 13 (.int .u32 (C : Int)) rfl (by kernel_rfl) (fun _ _ _ h => h) rfl (fun _ hS => rfl) s3 ?_
  simp only [zzA, zzB, zzC, Act.put, zzD, zzE, zzF]
  refine wpAnyH_done (by kernel_rfl) ?_ _
  have p4 := p3.below c3
  have r4 := r3.below c3
  have HP4 := hidOf2 (HP3.out.below c3)
  have HD4 := hidOf2 (HD3.out.below c3)
  have HK4 := hidOf2 (HK3.out.trans (Kp.of_below c3))
  have HBy := hidOf2 hBy
  have HCx := hidOf2 hCx
  have HLx := hidOf2 hLx
  clear hCx hLx
  have HNw := hidOf2 (fun b hb => Nat.le_trans HWB.out (Nat.le_trans c0.size (hNw b hb)))
  have HNw2 := hidOf2 (fun b hb => Nat.le_trans (Nat.le_of_lt p3.lt) (Nat.le_trans c0.size (hNw b hb)))
  have hpw := p3.lt
  have hPS : ∀ V, Calls Tryz.prog 105 #[.agg (spA ix sb), .int .u32 (C : Int)] V fun e w' => e = (if C = 0 then .returned (.tuple #[]) else flE ix sb C) ∧ Below V.heap.size V w' := fun V => pass_any ix sb C V
  have l4 := p4.load
  clear S0 s3 HSS HRD hBy hNw b3 c3 c0 p3 r3 HP3 HD3 HK3 HWB
  by_cases hC : C ≠ 0
  · rw [if_pos hC] at HRO
    have hRO := HRO.out
    subst hRO
    simp only [if_neg hC] at hPS
    go_wp2_with (first | (refine ldG l4 rfl _ rfl rfl ?_))
    refine (hPS _).mono ?_
    rintro e w5 ⟨rfl, b5⟩
    exact ⟨rfl, HRP.out _ _ ⟨rfl, none, 0, HP4.out.below b5, bytes_nil _, fun b hb => (by cases hb), HD4.out.below b5, HK4.out.trans (Kp.of_below b5), cp_nil, fun b hb => (by cases hb)⟩⟩
  · rw [if_neg hC] at HRO
    obtain rfl : C = 0 := by omega
    simp only [if_true, eq_self_iff_true] at hPS
    go_wp2_with (first | (refine ldG l4 rfl _ rfl rfl ?_))
    refine (hPS _).mono ?_
    rintro e w5 ⟨rfl, b5⟩
    have p5 := p4.below b5
    have hsz5 := b5.size
    have r5 := r4.below b5
    have HP5 := hidOf2 (HP4.out.below b5)
    have HD5 := hidOf2 (HD4.out.below b5)
    have HK5 := hidOf2 (HK4.out.trans (Kp.of_below b5))
    have HB5 := hidOf2 (HBy.out.below b5)
    clear p4 r4 HP4 HD4 HK4 HBy b5 l4 hPS hC
    obtain ⟨n, hn⟩ : ∃ n, L.length = n := ⟨_, rfl⟩
    have l5 : (loadVar 87 ⟨p, 0, none⟩).run Tryz.prog w5 = .ok (.agg #[.int .u16 (ix : Int), .int .u8 (sb : Int)]) w5 := p5.load
    have HL5 := hidOf2 (fun b hb => Nat.lt_of_lt_of_le (HLx.out b hb) hsz5)
    rw [hn] at hLl HRO HB5 HNw HNw2
    have hL2 := hidOf2 hn
    by_cases h4 : 1 ≤ n ∧ n ≤ 4
    · rw [if_pos h4] at HRO
      have hRO := HRO.out
      subst hRO
      have l5s := p5.load
      have o1 : bits .or .u8 67 12 = 79 := by decide +kernel
      have o2 : bits .or .u8 67 8 = 75 := by decide +kernel
      have o3 : bits .or .u8 67 4 = 71 := by decide +kernel
      have o4 : bits .or .u8 67 0 = 67 := by decide +kernel
      clear l5
      have hd1 : n = 1 ∨ n = 2 ∨ n = 3 ∨ n = 4 := by omega
      obtain rfl | rfl | rfl | rfl := hd1
      · go_wp2_with (first | (refine ldG l5s rfl _ rfl rfl ?_))
        refine (HAN.out 79 _ (by decide)).mono ?_
        rintro e w6 ⟨rfl, b6⟩
        have hf : (frm 79 ix sb 0).put 4 (L.take 4) = here ix sb L := by have := HHP.out ix sb L (by rw [hL2.out]; decide) (by rw [hL2.out]; decide); rw [hL2.out] at this; exact this
        have r6 := r5.below b6
        have HP6 := HP5.out.below b6
        have HD6 := HD5.out.below b6
        have HK6 := HK5.out.trans (Kp.of_below b6)
        have HB6 := HB5.out.below b6
        obtain ⟨z, hz⟩ : ∃ z, w6.heap.size = z := ⟨_, rfl⟩
        have y1 : Qb z F8.nul (w6.alloc (.cells zA8 32)) := by rw [← hz]; exact heap_alloc_new w6 _
        have ba : Below w6.heap.size w6 (w6.alloc (.cells zA8 32)) := (Below.refl _ _).alloc (Nat.le_refl _) _
        have y2 := y1.row (frm 79 ix sb 0)
        have by2 := below_row ba (by omega) (by rw [size_alloc]; omega) (q := z) (frm 79 ix sb 0).arr
        have Hy : Hid (∀ X, X = (w6.alloc (.cells zA8 32)).setRow z (frm 79 ix sb 0).arr → Qb z (frm 79 ix sb 0) X ∧ Below w6.heap.size w6 X) := fun X hX => by subst hX; exact ⟨y2, by2⟩
        have r6l := r6.lt
        clear y2 by2 ba l5s
        go_upto_region 9 with (first | (refine sdF (g := frm 79 ix sb 0) y1 rfl _ _ rfl rfl rfl ?_))
        change Code.wp Tryz.prog _ _ _ ((w6.alloc (.cells zA8 32)).setRow z (frm 79 ix sb 0).arr)
        generalize hX : (w6.alloc (.cells zA8 32)).setRow z (frm 79 ix sb 0).arr = X
        obtain ⟨y3, b7⟩ := Hy.out X hX.symm
        obtain ⟨w7, hcp, y4, K7⟩ := copy8 X z 4 _ y3 (by decide) ar 1 cr L hL2.out (HB6.below b7)
        rw [show (8 - 4 : Nat) = 4 from rfl, hf] at y4
        have r7 : Qb (k + 1) F8.nul w7 := (K7.block _ (r6.below b7).lt (by simp; omega)).trans (r6.below b7)
        have hP7 : Pb S D Ss.nul none 0 w7 := (K7.block _ (HP6.below b7).lt (by have := HP6.lt; simp; omega)).trans (HP6.below b7)
        have hD7 : Dct D R its w7 := (HD6.below b7).of_heap fun b A T fr hb hT => K7.block b (Array.getElem?_eq_some_iff.1 hb).1 (by
          rw [List.mem_singleton]
          rintro rfl
          rw [show X.heap[b]? = some (.cells (frm 79 ix sb 0).arr 32 (0, 0)) from y3] at hb
          injection hb with hb
          injection hb with _ hb2
          subst hb2
          revert hT
          decide)
        have hK7 : Kp [S] w w7 := by
          have K0 := HK6.trans (Kp.of_below b7)
          exact ⟨K7.os.trans K0.os, K7.tape.trans K0.tape, K7.output.trans K0.output, Nat.le_trans K0.size K7.size, fun j hj hn => (K7.block j (Nat.lt_of_lt_of_le hj K0.size) (by simp; have := HK6.size; omega)).trans (K0.block j hj hn)⟩
        have y4l := y4.load
        have r8 := r7.row (here ix sb L)
        have HZ := hidOf2 (row_stays hP7 hD7 hK7 r7 (by omega) (here ix sb L).arr)
        clear hP7 hD7 hK7 K7 y3 b7 hX Hy y1 r6 HP6 HD6 HK6 HB6 HP5 HD5 HK5 HB5 y4 hf
        go_wp2_with (first | (refine sl8L (k := z) (lo := 4) (by decide) rfl _ rfl rfl rfl ?_) | (at_builtin; refine wpList_copy8 _ rfl _ _ _ _ rfl _ _ rfl rfl (hcp _) ?_) | (refine ldG y4l rfl _ rfl rfl ?_) | (refine sdF (g := here ix sb L) r7 rfl _ _ rfl rfl rfl ?_))
        exact bodyPost_ret (br_results r8 _ rfl) rfl (HRP.out _ _ ⟨rfl, none, 0, HZ.out.1, bytes_nil _, fun b hb => (by cases hb), HZ.out.2.1, HZ.out.2.2, cp_nil, fun b hb => (by cases hb)⟩)
      · go_wp2_with (first | (refine ldG l5s rfl _ rfl rfl ?_))
        refine (HAN.out 75 _ (by decide)).mono ?_
        rintro e w6 ⟨rfl, b6⟩
        have hf : (frm 75 ix sb 0).put 4 (L.take 4) = here ix sb L := by have := HHP.out ix sb L (by rw [hL2.out]; decide) (by rw [hL2.out]; decide); rw [hL2.out] at this; exact this
        have r6 := r5.below b6
        have HP6 := HP5.out.below b6
        have HD6 := HD5.out.below b6
        have HK6 := HK5.out.trans (Kp.of_below b6)
        have HB6 := HB5.out.below b6
        obtain ⟨z, hz⟩ : ∃ z, w6.heap.size = z := ⟨_, rfl⟩
        have y1 : Qb z F8.nul (w6.alloc (.cells zA8 32)) := by rw [← hz]; exact heap_alloc_new w6 _
        have ba : Below w6.heap.size w6 (w6.alloc (.cells zA8 32)) := (Below.refl _ _).alloc (Nat.le_refl _) _
        have y2 := y1.row (frm 75 ix sb 0)
        have by2 := below_row ba (by omega) (by rw [size_alloc]; omega) (q := z) (frm 75 ix sb 0).arr
        have Hy : Hid (∀ X, X = (w6.alloc (.cells zA8 32)).setRow z (frm 75 ix sb 0).arr → Qb z (frm 75 ix sb 0) X ∧ Below w6.heap.size w6 X) := fun X hX => by subst hX; exact ⟨y2, by2⟩
        have r6l := r6.lt
        clear y2 by2 ba l5s
        go_upto_region 9 with (first | (refine sdF (g := frm 75 ix sb 0) y1 rfl _ _ rfl rfl rfl ?_))
        change Code.wp Tryz.prog _ _ _ ((w6.alloc (.cells zA8 32)).setRow z (frm 75 ix sb 0).arr)
        generalize hX : (w6.alloc (.cells zA8 32)).setRow z (frm 75 ix sb 0).arr = X
        obtain ⟨y3, b7⟩ := Hy.out X hX.symm
        obtain ⟨w7, hcp, y4, K7⟩ := copy8 X z 4 _ y3 (by decide) ar 2 cr L hL2.out (HB6.below b7)
        rw [show (8 - 4 : Nat) = 4 from rfl, hf] at y4
        have r7 : Qb (k + 1) F8.nul w7 := (K7.block _ (r6.below b7).lt (by simp; omega)).trans (r6.below b7)
        have hP7 : Pb S D Ss.nul none 0 w7 := (K7.block _ (HP6.below b7).lt (by have := HP6.lt; simp; omega)).trans (HP6.below b7)
        have hD7 : Dct D R its w7 := (HD6.below b7).of_heap fun b A T fr hb hT => K7.block b (Array.getElem?_eq_some_iff.1 hb).1 (by
          rw [List.mem_singleton]
          rintro rfl
          rw [show X.heap[b]? = some (.cells (frm 75 ix sb 0).arr 32 (0, 0)) from y3] at hb
          injection hb with hb
          injection hb with _ hb2
          subst hb2
          revert hT
          decide)
        have hK7 : Kp [S] w w7 := by
          have K0 := HK6.trans (Kp.of_below b7)
          exact ⟨K7.os.trans K0.os, K7.tape.trans K0.tape, K7.output.trans K0.output, Nat.le_trans K0.size K7.size, fun j hj hn => (K7.block j (Nat.lt_of_lt_of_le hj K0.size) (by simp; have := HK6.size; omega)).trans (K0.block j hj hn)⟩
        have y4l := y4.load
        have r8 := r7.row (here ix sb L)
        have HZ := hidOf2 (row_stays hP7 hD7 hK7 r7 (by omega) (here ix sb L).arr)
        clear hP7 hD7 hK7 K7 y3 b7 hX Hy y1 r6 HP6 HD6 HK6 HB6 HP5 HD5 HK5 HB5 y4 hf
        go_wp2_with (first | (refine sl8L (k := z) (lo := 4) (by decide) rfl _ rfl rfl rfl ?_) | (at_builtin; refine wpList_copy8 _ rfl _ _ _ _ rfl _ _ rfl rfl (hcp _) ?_) | (refine ldG y4l rfl _ rfl rfl ?_) | (refine sdF (g := here ix sb L) r7 rfl _ _ rfl rfl rfl ?_))
        exact bodyPost_ret (br_results r8 _ rfl) rfl (HRP.out _ _ ⟨rfl, none, 0, HZ.out.1, bytes_nil _, fun b hb => (by cases hb), HZ.out.2.1, HZ.out.2.2, cp_nil, fun b hb => (by cases hb)⟩)
      · go_wp2_with (first | (refine ldG l5s rfl _ rfl rfl ?_))
        refine (HAN.out 71 _ (by decide)).mono ?_
        rintro e w6 ⟨rfl, b6⟩
        have hf : (frm 71 ix sb 0).put 4 (L.take 4) = here ix sb L := by have := HHP.out ix sb L (by rw [hL2.out]; decide) (by rw [hL2.out]; decide); rw [hL2.out] at this; exact this
        have r6 := r5.below b6
        have HP6 := HP5.out.below b6
        have HD6 := HD5.out.below b6
        have HK6 := HK5.out.trans (Kp.of_below b6)
        have HB6 := HB5.out.below b6
        obtain ⟨z, hz⟩ : ∃ z, w6.heap.size = z := ⟨_, rfl⟩
        have y1 : Qb z F8.nul (w6.alloc (.cells zA8 32)) := by rw [← hz]; exact heap_alloc_new w6 _
        have ba : Below w6.heap.size w6 (w6.alloc (.cells zA8 32)) := (Below.refl _ _).alloc (Nat.le_refl _) _
        have y2 := y1.row (frm 71 ix sb 0)
        have by2 := below_row ba (by omega) (by rw [size_alloc]; omega) (q := z) (frm 71 ix sb 0).arr
        have Hy : Hid (∀ X, X = (w6.alloc (.cells zA8 32)).setRow z (frm 71 ix sb 0).arr → Qb z (frm 71 ix sb 0) X ∧ Below w6.heap.size w6 X) := fun X hX => by subst hX; exact ⟨y2, by2⟩
        have r6l := r6.lt
        clear y2 by2 ba l5s
        go_upto_region 9 with (first | (refine sdF (g := frm 71 ix sb 0) y1 rfl _ _ rfl rfl rfl ?_))
        change Code.wp Tryz.prog _ _ _ ((w6.alloc (.cells zA8 32)).setRow z (frm 71 ix sb 0).arr)
        generalize hX : (w6.alloc (.cells zA8 32)).setRow z (frm 71 ix sb 0).arr = X
        obtain ⟨y3, b7⟩ := Hy.out X hX.symm
        obtain ⟨w7, hcp, y4, K7⟩ := copy8 X z 4 _ y3 (by decide) ar 3 cr L hL2.out (HB6.below b7)
        rw [show (8 - 4 : Nat) = 4 from rfl, hf] at y4
        have r7 : Qb (k + 1) F8.nul w7 := (K7.block _ (r6.below b7).lt (by simp; omega)).trans (r6.below b7)
        have hP7 : Pb S D Ss.nul none 0 w7 := (K7.block _ (HP6.below b7).lt (by have := HP6.lt; simp; omega)).trans (HP6.below b7)
        have hD7 : Dct D R its w7 := (HD6.below b7).of_heap fun b A T fr hb hT => K7.block b (Array.getElem?_eq_some_iff.1 hb).1 (by
          rw [List.mem_singleton]
          rintro rfl
          rw [show X.heap[b]? = some (.cells (frm 71 ix sb 0).arr 32 (0, 0)) from y3] at hb
          injection hb with hb
          injection hb with _ hb2
          subst hb2
          revert hT
          decide)
        have hK7 : Kp [S] w w7 := by
          have K0 := HK6.trans (Kp.of_below b7)
          exact ⟨K7.os.trans K0.os, K7.tape.trans K0.tape, K7.output.trans K0.output, Nat.le_trans K0.size K7.size, fun j hj hn => (K7.block j (Nat.lt_of_lt_of_le hj K0.size) (by simp; have := HK6.size; omega)).trans (K0.block j hj hn)⟩
        have y4l := y4.load
        have r8 := r7.row (here ix sb L)
        have HZ := hidOf2 (row_stays hP7 hD7 hK7 r7 (by omega) (here ix sb L).arr)
        clear hP7 hD7 hK7 K7 y3 b7 hX Hy y1 r6 HP6 HD6 HK6 HB6 HP5 HD5 HK5 HB5 y4 hf
        go_wp2_with (first | (refine sl8L (k := z) (lo := 4) (by decide) rfl _ rfl rfl rfl ?_) | (at_builtin; refine wpList_copy8 _ rfl _ _ _ _ rfl _ _ rfl rfl (hcp _) ?_) | (refine ldG y4l rfl _ rfl rfl ?_) | (refine sdF (g := here ix sb L) r7 rfl _ _ rfl rfl rfl ?_))
        exact bodyPost_ret (br_results r8 _ rfl) rfl (HRP.out _ _ ⟨rfl, none, 0, HZ.out.1, bytes_nil _, fun b hb => (by cases hb), HZ.out.2.1, HZ.out.2.2, cp_nil, fun b hb => (by cases hb)⟩)
      · go_wp2_with (first | (refine ldG l5s rfl _ rfl rfl ?_))
        refine (HAN.out 67 _ (by decide)).mono ?_
        rintro e w6 ⟨rfl, b6⟩
        have hf : (frm 67 ix sb 0).put 4 (L.take 4) = here ix sb L := by have := HHP.out ix sb L (by rw [hL2.out]; decide) (by rw [hL2.out]; decide); rw [hL2.out] at this; exact this
        have r6 := r5.below b6
        have HP6 := HP5.out.below b6
        have HD6 := HD5.out.below b6
        have HK6 := HK5.out.trans (Kp.of_below b6)
        have HB6 := HB5.out.below b6
        obtain ⟨z, hz⟩ : ∃ z, w6.heap.size = z := ⟨_, rfl⟩
        have y1 : Qb z F8.nul (w6.alloc (.cells zA8 32)) := by rw [← hz]; exact heap_alloc_new w6 _
        have ba : Below w6.heap.size w6 (w6.alloc (.cells zA8 32)) := (Below.refl _ _).alloc (Nat.le_refl _) _
        have y2 := y1.row (frm 67 ix sb 0)
        have by2 := below_row ba (by omega) (by rw [size_alloc]; omega) (q := z) (frm 67 ix sb 0).arr
        have Hy : Hid (∀ X, X = (w6.alloc (.cells zA8 32)).setRow z (frm 67 ix sb 0).arr → Qb z (frm 67 ix sb 0) X ∧ Below w6.heap.size w6 X) := fun X hX => by subst hX; exact ⟨y2, by2⟩
        have r6l := r6.lt
        clear y2 by2 ba l5s
        go_upto_region 9 with (first | (refine sdF (g := frm 67 ix sb 0) y1 rfl _ _ rfl rfl rfl ?_))
        change Code.wp Tryz.prog _ _ _ ((w6.alloc (.cells zA8 32)).setRow z (frm 67 ix sb 0).arr)
        generalize hX : (w6.alloc (.cells zA8 32)).setRow z (frm 67 ix sb 0).arr = X
        obtain ⟨y3, b7⟩ := Hy.out X hX.symm
        obtain ⟨w7, hcp, y4, K7⟩ := copy8 X z 4 _ y3 (by decide) ar 4 cr L hL2.out (HB6.below b7)
        rw [show (8 - 4 : Nat) = 4 from rfl, hf] at y4
        have r7 : Qb (k + 1) F8.nul w7 := (K7.block _ (r6.below b7).lt (by simp; omega)).trans (r6.below b7)
        have hP7 : Pb S D Ss.nul none 0 w7 := (K7.block _ (HP6.below b7).lt (by have := HP6.lt; simp; omega)).trans (HP6.below b7)
        have hD7 : Dct D R its w7 := (HD6.below b7).of_heap fun b A T fr hb hT => K7.block b (Array.getElem?_eq_some_iff.1 hb).1 (by
          rw [List.mem_singleton]
          rintro rfl
          rw [show X.heap[b]? = some (.cells (frm 67 ix sb 0).arr 32 (0, 0)) from y3] at hb
          injection hb with hb
          injection hb with _ hb2
          subst hb2
          revert hT
          decide)
        have hK7 : Kp [S] w w7 := by
          have K0 := HK6.trans (Kp.of_below b7)
          exact ⟨K7.os.trans K0.os, K7.tape.trans K0.tape, K7.output.trans K0.output, Nat.le_trans K0.size K7.size, fun j hj hn => (K7.block j (Nat.lt_of_lt_of_le hj K0.size) (by simp; have := HK6.size; omega)).trans (K0.block j hj hn)⟩
        have y4l := y4.load
        have r8 := r7.row (here ix sb L)
        have HZ := hidOf2 (row_stays hP7 hD7 hK7 r7 (by omega) (here ix sb L).arr)
        clear hP7 hD7 hK7 K7 y3 b7 hX Hy y1 r6 HP6 HD6 HK6 HB6 HP5 HD5 HK5 HB5 y4 hf
        go_wp2_with (first | (refine sl8L (k := z) (lo := 4) (by decide) rfl _ rfl rfl rfl ?_) | (at_builtin; refine wpList_copy8 _ rfl _ _ _ _ rfl _ _ rfl rfl (hcp _) ?_) | (refine ldG y4l rfl _ rfl rfl ?_) | (refine sdF (g := here ix sb L) r7 rfl _ _ rfl rfl rfl ?_))
        exact bodyPost_ret (br_results r8 _ rfl) rfl (HRP.out _ _ ⟨rfl, none, 0, HZ.out.1, bytes_nil _, fun b hb => (by cases hb), HZ.out.2.1, HZ.out.2.2, cp_nil, fun b hb => (by cases hb)⟩)
    · rw [if_neg h4] at HRO
      have hRO := HRO.out
      subst hRO
      have d1 : ((n : Int) == 0) = true ∨ (((n : Int) == 0) = false ∧ decide ((4 : Int) < (n : Int)) = true) := by
        by_cases h : n = 0
        · left; simp [h]
        · right; constructor
          · simp [h]
          · simp; omega
      have th := HP5.out.there
      have Hz : Hid (∀ X, X = w5.setCells S 1 (trC ⟨2, ix, sb, 0, L, none⟩ ar cr) → Pb S D ⟨2, ix, sb, 0, L, none⟩ ar cr X ∧ Dct D R its X ∧ Kp [S] w X ∧ Sp p ix sb X ∧ Qb (k + 1) F8.nul X ∧ Bytes X (.slice ar L.length cr) L) := fun X hX => by
        subst hX
        have Ks := Kp.sets w5 S 1 (trC ⟨2, ix, sb, 0, L, none⟩ ar cr)
        refine ⟨HP5.out.set _ ar cr, HD5.out.kpS HP5.out Ks, HK5.out.trans Ks, (Ks.block _ p5.lt (by simp; omega)).trans p5, (Ks.block _ r5.lt (by simp; omega)).trans r5, ?_⟩
        rw [hL2.out]
        refine bytes_kp HB5.out Ks (fun b hb => ?_)
        have := HNw.out b hb
        simp
        omega
      obtain ⟨s2, hs2⟩ : ∃ s : Ss, (⟨2, ix, sb, 0, L, none⟩ : Ss) = s := ⟨_, rfl⟩
      have hst : trA s2 ar cr = #[.int .u16 (ix : Int), .int .u8 (sb : Int), .int .i64 2, .int .u8 0, .slice ar n cr, .bool false, .int .u32 0] := by rw [← hs2, ← hL2.out]; rfl
      have hsb2 : s2.bs = L := by rw [← hs2]
      rw [hs2] at Hz HRP
      rw [hn]
      clear HHP HAN
      obtain d1 | ⟨d1, d2⟩ := d1
      · go_upto_region 7 with (first | (refine ldG l5 rfl _ rfl rfl ?_) | (refine sdTr th s2 ar cr rfl _ _ rfl rfl (by rw [hst]; rfl) ?_))
        generalize hX : w5.setCells S 1 (trC s2 ar cr) = X
        obtain ⟨h6, d6, K6, p6, r6, B6⟩ := Hz.out X hX.symm
        have l6 := p6.load
        have hX6 : w5.heap.size ≤ X.heap.size := by rw [← hX]; exact (Kp.sets w5 S 1 (trC s2 ar cr)).size
        have HH6 := hidOf2 (And.intro h6 (And.intro d6 (And.intro K6 B6)))
        clear Hz hX th p6 h6 d6 K6 B6 l5 p5 r5 HP5 HD5 HK5 HB5 d1
        go_wp2_with (first | (refine ldG l6 rfl _ rfl rfl ?_))
        refine (HCO.out n _ hLl).mono ?_
        rintro e w7 ⟨rfl, b7⟩
        obtain ⟨ff, hff⟩ : ∃ f, frm 65 ix sb n = f := ⟨_, rfl⟩
        have r7 := r6.below b7
        have r7l := r7.lt
        have r8 := r7.row ff
        have HL8 : Hid (∀ b, (Value.slice ar L.length cr).ownBlock = some b → b < (w7.setRow (k + 1) ff.arr).heap.size) := fun b hb => Nat.lt_of_lt_of_le (HL5.out b hb) (by have h1 := hX6; have h2 := b7.size; simp only [World.setRow, Array.size_modify]; omega)
        have HZ : Hid (Pb S D s2 ar cr (w7.setRow (k + 1) ff.arr) ∧ Dct D R its (w7.setRow (k + 1) ff.arr) ∧ Kp [S] w (w7.setRow (k + 1) ff.arr) ∧ Bytes (w7.setRow (k + 1) ff.arr) (.slice ar L.length cr) L) := by
          obtain ⟨h6, d6, K6, B6⟩ := HH6.out
          obtain ⟨x1, x2, x3⟩ := row_stays (h6.below b7) (d6.below b7) (K6.trans (Kp.of_below b7)) r7 (by omega) ff.arr
          refine ⟨x1, x2, x3, bytes_kp (B6.below b7) (Kp.setRow1 _ _ _) (fun b hb => ?_)⟩
          rw [hL2.out] at hb
          have := HNw2.out b hb
          simp
          omega
        have HFF : Hid ((Ro.ok (frm 65 ix sb n)).e = .returned (.agg ff.arr)) := by rw [hff]; rfl
        rw [hff]
        clear HH6 r6 b7 l6
        go_wp2_with (first | (refine sdF (g := ff) r7 rfl _ _ rfl rfl rfl ?_))
        exact bodyPost_ret (br_results r8 _ rfl) rfl (HRP.out _ _ ⟨by first | exact HFF.out.symm | (rw [hL2.out]; exact HFF.out.symm), ar, cr, HZ.out.1, by rw [hsb2]; exact HZ.out.2.2.2, by rw [hsb2, hL2.out]; exact fun b hb => Nat.le_trans (by omega) (HNw2.out b hb), HZ.out.2.1, HZ.out.2.2.1, by rw [hsb2]; exact HCx.out, by rw [hsb2]; exact HL8.out⟩)
      · go_upto_region 7 with (first | (refine ldG l5 rfl _ rfl rfl ?_) | (refine sdTr th s2 ar cr rfl _ _ rfl rfl (by rw [hst]; rfl) ?_))
        generalize hX : w5.setCells S 1 (trC s2 ar cr) = X
        obtain ⟨h6, d6, K6, p6, r6, B6⟩ := Hz.out X hX.symm
        have l6 := p6.load
        have hX6 : w5.heap.size ≤ X.heap.size := by rw [← hX]; exact (Kp.sets w5 S 1 (trC s2 ar cr)).size
        have HH6 := hidOf2 (And.intro h6 (And.intro d6 (And.intro K6 B6)))
        clear Hz hX th p6 h6 d6 K6 B6 l5 p5 r5 HP5 HD5 HK5 HB5 d1 d2
        go_wp2_with (first | (refine ldG l6 rfl _ rfl rfl ?_))
        refine (HCO.out n _ hLl).mono ?_
        rintro e w7 ⟨rfl, b7⟩
        obtain ⟨ff, hff⟩ : ∃ f, frm 65 ix sb n = f := ⟨_, rfl⟩
        have r7 := r6.below b7
        have r7l := r7.lt
        have r8 := r7.row ff
        have HL8 : Hid (∀ b, (Value.slice ar L.length cr).ownBlock = some b → b < (w7.setRow (k + 1) ff.arr).heap.size) := fun b hb => Nat.lt_of_lt_of_le (HL5.out b hb) (by have h1 := hX6; have h2 := b7.size; simp only [World.setRow, Array.size_modify]; omega)
        have HZ : Hid (Pb S D s2 ar cr (w7.setRow (k + 1) ff.arr) ∧ Dct D R its (w7.setRow (k + 1) ff.arr) ∧ Kp [S] w (w7.setRow (k + 1) ff.arr) ∧ Bytes (w7.setRow (k + 1) ff.arr) (.slice ar L.length cr) L) := by
          obtain ⟨h6, d6, K6, B6⟩ := HH6.out
          obtain ⟨x1, x2, x3⟩ := row_stays (h6.below b7) (d6.below b7) (K6.trans (Kp.of_below b7)) r7 (by omega) ff.arr
          refine ⟨x1, x2, x3, bytes_kp (B6.below b7) (Kp.setRow1 _ _ _) (fun b hb => ?_)⟩
          rw [hL2.out] at hb
          have := HNw2.out b hb
          simp
          omega
        have HFF : Hid ((Ro.ok (frm 65 ix sb n)).e = .returned (.agg ff.arr)) := by rw [hff]; rfl
        rw [hff]
        clear HH6 r6 b7 l6
        go_wp2_with (first | (refine sdF (g := ff) r7 rfl _ _ rfl rfl rfl ?_))
        exact bodyPost_ret (br_results r8 _ rfl) rfl (HRP.out _ _ ⟨by first | exact HFF.out.symm | (rw [hL2.out]; exact HFF.out.symm), ar, cr, HZ.out.1, by rw [hsb2]; exact HZ.out.2.2.2, by rw [hsb2, hL2.out]; exact fun b hb => Nat.le_trans (by omega) (HNw2.out b hb), HZ.out.2.1, HZ.out.2.2.1, by rw [hsb2]; exact HCx.out, by rw [hsb2]; exact HL8.out⟩)
end
end Go.Proofs.YtahfnknbmikmkaaGreat
