/- The law SdoReads returns true whatever comes in. -/
import Derived.Test.YtahfnknbmikmkaaGreatKbX
import Derived.Test.YtahfnknbmikmkaaGreatZs
import Derived.Test.YtahfnknbmikmkaaGreatKbSzL
import Derived.Test.YtahfnknbmikmkaaGreatKb36
import Derived.Deep.DeepCutAuto
namespace Go.Proofs.YtahfnknbmikmkaaGreat
open Go.RowKit Go.Proofs.Ty
set_option linter.unusedVariables false
set_option maxRecDepth 1000000
set_option linter.unusedSimpArgs false
theorem load_pp (x : World) (X k : Nat) (p : Option Addr) (hc : x.cell? ⟨X, k, none⟩ = some (.pointer p)) : (loadVar 36 ⟨X, k, none⟩).run Tryz.prog x = .ok (.pointer p) x := by
  simp [go_sem, run_underlying Tryz.underlying36, hc]
theorem load_prd (x : World) (X k : Nat) (p : Option Addr) (hc : x.cell? ⟨X, k, none⟩ = some (.pointer p)) : (loadVar 54 ⟨X, k, none⟩).run Tryz.prog x = .ok (.pointer p) x := by
  simp [go_sem, run_underlying Tryz.underlying54, hc]
theorem enterST : ∀ args x, (callFunc 21 args).run Tryz.prog x = .ok (.enter 21 args) x := fun _ _ => by rfl
theorem enterSD : ∀ args x, (callFunc 22 args).run Tryz.prog x = .ok (.enter 22 args) x := fun _ _ => by rfl
theorem enterL10 : ∀ args x, (callFunc 11 args).run Tryz.prog x = .ok (.enter 11 args) x := fun _ _ => by rfl
theorem exec_conv {a : Act} {o : Oper} {x : Operand} {t u : TypeId} {v r : Value} {w : World} (ho : o.op = .convert t u x) (hx : a.eval x = v) (hr : (convert t u v).run Tryz.prog w = .ok r w) : (execOp a.eval o).run Tryz.prog w = .ok (.value r) w := by
  unfold execOp
  simp only [ho, hx, Sem.run_bind, hr, Result.andThen_ok]
  rfl
theorem Jt.cXx {w x : World} {p : Pl} {ia ib : List Im} {s t : Ss} {ao ap : Option Addr} {cp cq : Nat} (h : Jt w p ia ib s t ao cp ap cq x) : x.cell? ⟨p.X, 0, none⟩ = some (.pointer (some ⟨p.D, 0, none⟩)) ∧ x.cell? ⟨p.X, 1, none⟩ = some (.pointer (some ⟨p.E, 0, none⟩)) := ⟨Lib.cell_of_heap h.prX 0, Lib.cell_of_heap h.prX 1⟩
/-- An operation that only yields a value. -/
theorem opE {w : World} {ops : Array Oper} {rest : List Oper} {o : Oper} {a : Act} {Q : Exit → Act → World → Prop} {v : Value} (hgd : Region.wanted o (yielded ops a.tmps) = true) (hr : (execOp a.eval o).run Tryz.prog w = .ok (.value v) w)
    (hh : wpList Tryz.prog ops Q rest (a.put o.dst v) w) : wpList Tryz.prog ops Q (o :: rest) a w := by
  refine BigFrame.wpList_want hgd fun K hK => ?_
  have h2 := hK _ _ hh
  unfold Oper.wp
  rw [hr]
  exact h2
def qR : F8 := ⟨64, 0, 48, 0, 0, 0, 0, 0⟩
theorem here_seg (ix sb : Nat) (l : List UInt8) (h : l.length ≤ 4) : ((here ix sb l).l.drop 4).take l.length = l := by
  match l, h with
  | [], _ => rfl
  | [a], _ => rfl
  | [a, b], _ => rfl
  | [a, b, c], _ => rfl
  | [a, b, c, d], _ => rfl
set_option maxHeartbeats 64000000 in
theorem srea_walk (v v1 : Value) (l la : List UInt8) (t : Nat) (ht : t < 256) (w : World) (hB : Bytes w v l) (hC : Cp v) (hl : l.length ≤ 140737488351232) (hB1 : Bytes w v1 la) (hl1 : la.length ≤ 140737488351232) :
    Calls Tryz.prog 4 #[v, v1, .int .u8 t] w fun e w' => e = .returned (.bool true) ∧ Below w.heap.size w w' := by
  obtain ⟨ao0, cap0, rfl⟩ := bytes_shape hB
  obtain ⟨ao1, cap1, rfl⟩ := bytes_shape hB1
  have HB := hidOf2 hB
  have HC := hidOf2 hC
  have HLA := hidOf2 hB1
  have HLV := lives10_any
  have hml : (⟨la.toArray⟩ : ByteArray).size ≤ maxLen := by show la.toArray.size ≤ _; simp [maxLen]; omega
  obtain ⟨nl, hnl⟩ : ∃ n, l.length = n := ⟨_, rfl⟩
  obtain ⟨na, hna⟩ : ∃ n, la.length = n := ⟨_, rfl⟩
  have HNL := hidOf2 hnl
  rw [hnl] at hl HB HC ⊢
  rw [hna] at hl1 HLA ⊢
  have HTL : Hid (∀ x, Below w.heap.size w x → (convert 47 9 (.slice ao1 na cap1)).run Tryz.prog x = .ok (.string ⟨la.toArray⟩) x) := fun x hx => (HLA.out.below hx).text
  clear hB hC hnl hna hB1
  have hcap : nl ≤ cap0 := HC.out _ _ _ rfl
  go_enter Tryz.func4, Tryz.ntmps4
  go_upto_if 17 with fail
  go_cut [0] (fun s0 wx => wx = w ∧ ∃ (B : List UInt8) (a5 : Option Addr) (nb c5 : Nat), s0 = .slice a5 nb c5 ∧ B.length = nb ∧ nb ≤ 2000 ∧ (∀ x, Below w.heap.size w x → Bytes x (.slice a5 nb c5) B))
  case first =>
    by_cases hlong : 2000 < nl
    · have hd : decide ((2000 : Int) < (nl : Int)) = true := by simp; omega
      go_wp2_with fail
      go_meet
      case rel => exact ⟨rfl, l.take 2000, ao0, 2000, cap0, rfl, by rw [List.length_take, HNL.out]; omega, by omega, fun x hx => bytes_take (HB.out.below hx) 2000 (by omega)⟩
    · have hd : decide ((2000 : Int) < (nl : Int)) = false := by simp; omega
      go_wp2_with fail
      go_meet
      case rel => exact ⟨rfl, l, ao0, nl, cap0, rfl, HNL.out, by omega, fun x hx => HB.out.below hx⟩
  case rest =>
  obtain ⟨rfl, B, a5, nb, c0, rfl, hnb, hnb2, hBB⟩ := hcut
  have HNB := hidOf2 hnb
  have HBB := hidOf2 hBB
  have hmb : (⟨B.toArray⟩ : ByteArray).size ≤ maxLen := by show B.toArray.size ≤ _; simp [maxLen]; omega
  have hsb : (⟨B.toArray⟩ : ByteArray).size ≤ 65536 := by show B.toArray.size ≤ _; simp; omega
  have hWh := (whole_any ⟨B.toArray⟩ hmb wc).mono fun _ _ h => h.2.2 hsb
  have HEN := hidOf2 (vD_enc (s := ⟨B.toArray⟩) (h := hmb) hsb)
  have HT2 : Hid (∀ x, Below wc.heap.size wc x → (convert 47 9 (.slice a5 nb c0)).run Tryz.prog x = .ok (.string ⟨B.toArray⟩) x) := fun x hx => (HBB.out x hx).text
  have htx0 := HT2.out wc (Below.refl _ _)
  obtain ⟨TB, hTB⟩ : ∃ T : ByteArray, (⟨B.toArray⟩ : ByteArray) = T := ⟨_, rfl⟩
  have HTB := hidOf2 hTB
  have HENB : Hid ((vD ⟨B.toArray⟩ hmb).enc = B) := HEN.out
  clear hnb hBB HB HC HNL hcap hl HEN
  revert hWh HENB HT2 htx0 hmb hsb
  rw [hTB]
  intro hmb hsb hWh HT2 htx0 HENB
  clear hTB
  go_wp2_with fail
  refine hWh.mono ?_
  rintro e w1 ⟨p, b, rfl, hJ⟩
  have HJ1 := hidOf2 hJ
  clear hWh hJ htx0
  by_cases hsm : 1 ≤ nb ∧ nb ≤ 4
  · have hH := Handles_to HJ1.out qR (rs_once (by decide) (by decide) (by decide) HENB.out (by rw [HNB.out]; exact hsm.1) (by rw [HNB.out]; exact hsm.2))
    go_wp2_with fail
    refine hH.mono ?_
    rintro e w2 ⟨rfl, ao2, cp2, ap2, cq2, J2, _⟩
    obtain ⟨z, hz, y1, hYz, Hy⟩ := J2.got (here 12288 0 B)
    clear hH J2 HJ1
    go_upto_region 7 with (first | (refine sdF (g := here 12288 0 B) y1 rfl _ _ rfl rfl rfl ?_))
    change Code.wp Tryz.prog _ _ _ ((w2.alloc (.cells zA8 32)).setRow z (here 12288 0 B).arr)
    generalize hZ : (w2.alloc (.cells zA8 32)).setRow z (here 12288 0 B).arr = w3
    obtain ⟨y3, J3, _⟩ := Hy.out w3 hZ.symm
    have HB3 := hidOf2 J3.below
    have HY3 := hidOf2 y3
    have hb0 : (here 12288 0 B).b0.toNat = 67 + 4 * (4 - nb) := by
      have := un (67 + 4 * (4 - B.length)) (by omega)
      rw [HNB.out] at this
      show (UInt8.ofNat (67 + 4 * (4 - B.length))).toNat = _
      rw [HNB.out]
      omega
    have HC0 : Hid (∀ y, Qb z (here 12288 0 B) y → y.cell? ⟨z, 0, none⟩ = some (.int .u8 ((67 + 4 * (4 - nb) : Nat) : Int))) := fun y hy => by rw [hy.c0, hb0]
    have HT1 : Hid (∀ x, Qb z (here 12288 0 B) x → (convert 47 9 (.slice (some ⟨z, 4, none⟩) nb 4)).run Tryz.prog x = .ok (.string TB) x) := fun x hx => by
      have h1 := (hx.bytes 4 nb (by omega) (by decide)).text
      have h2 := here_seg 12288 0 B (by rw [HNB.out]; omega)
      rw [HNB.out] at h2
      rw [h2, HTB.out] at h1
      exact h1
    have c3 := HC0.out w3 y3
    clear Hy hZ y1 y3 J3 hz hb0 HBB HENB
    rcases (show nb = 1 ∨ nb = 2 ∨ nb = 3 ∨ nb = 4 by omega) with rfl | rfl | rfl | rfl
    · as_aux_lemma =>
        have cd : Below w3.heap.size w3 w3.drew := bdr (Below.refl _ _) 1
        have S0 : (fun y => Qb z (here 12288 0 B) y ∧ Below wc.heap.size wc y) w3.drew := ⟨HY3.out.below cd, HB3.out.trans (cd.mono HB3.out.size)⟩
        have c3' : w3.cell? ⟨z, 0, none⟩ = some (.int .u8 79) := c3
        have hx3 : bits .and .u8 19 3 = 3 := by decide +kernel
        clear c3
        go_upto_region 11 with fail
        refine wp_region_held (S := fun y => Qb z (here 12288 0 B) y ∧ Below wc.heap.size wc y) (by kernel_rfl) ?_
        change wpAnyH _ _ _ _ _ _ _ _ w3.drew
        refine tk 0 (.pointer (some ⟨z, 0, none⟩)) rfl (by kernel_rfl) (fun _ _ _ h => h) rfl (fun _ hS => exec_idx8 (k := 0) rfl rfl rfl (by decide) _) S0 ?_
        simp only [zzA, zzB, zzC, Act.put, zzD, zzE, zzF]
        refine tk 1 (.int .u8 79) rfl (by kernel_rfl) (fun _ _ _ h => h) rfl (fun _ hS => exec_load rfl rfl (load_u8 _ _ _ _ (HC0.out _ hS.1))) S0 ?_
        simp only [zzA, zzB, zzC, Act.put, zzD, zzE, zzF]
        refine tk 2 (.int .u8 67) rfl (by kernel_rfl) (fun _ _ _ h => h) rfl (fun _ hS => by (simp [execOp, go_sem, Act.eval] <;> first | rfl | decide)) S0 ?_
        simp only [zzA, zzB, zzC, Act.put, zzD, zzE, zzF]
        refine tk 3 (.bool true) rfl (by kernel_rfl) (fun _ _ _ h => h) rfl (fun _ hS => by simp [execOp, go_sem, Act.eval]) S0 ?_
        simp only [zzA, zzB, zzC, Act.put, zzD, zzE, zzF]
        refine tk 4 (.bool true) rfl (by kernel_rfl) (fun _ _ _ h => h) rfl (fun _ hS => rfl) S0 ?_
        simp only [zzA, zzB, zzC, Act.put, zzD, zzE, zzF]
        refine tk 5 (.slice a5 1 c0) rfl (by kernel_rfl) (fun _ _ _ h => h) rfl (fun _ hS => rfl) S0 ?_
        simp only [zzA, zzB, zzC, Act.put, zzD, zzE, zzF]
        refine tk 6 (.int .i64 1) rfl (by kernel_rfl) (fun _ _ _ h => h) rfl (fun _ hS => by simp [execOp, go_sem, Act.eval, resolve, invoke]) S0 ?_
        simp only [zzA, zzB, zzC, Act.put, zzD, zzE, zzF]
        refine tk 7 (.bool true) rfl (by kernel_rfl) (fun _ _ _ h => h) rfl (fun _ hS => by simp [execOp, go_sem, Act.eval]) S0 ?_
        simp only [zzA, zzB, zzC, Act.put, zzD, zzE, zzF]
        refine tk 8 (.bool true) rfl (by kernel_rfl) (fun _ _ _ h => h) rfl (fun _ hS => by simp [execOp, go_sem, Act.eval]) S0 ?_
        simp only [zzA, zzB, zzC, Act.put, zzD, zzE, zzF]
        refine tk 9 (.bool true) rfl (by kernel_rfl) (fun _ _ _ h => h) rfl (fun _ hS => rfl) S0 ?_
        simp only [zzA, zzB, zzC, Act.put, zzD, zzE, zzF]
        refine tk 10 (.slice a5 1 c0) rfl (by kernel_rfl) (fun _ _ _ h => h) rfl (fun _ hS => rfl) S0 ?_
        simp only [zzA, zzB, zzC, Act.put, zzD, zzE, zzF]
        refine tk 11 (.int .i64 1) rfl (by kernel_rfl) (fun _ _ _ h => h) rfl (fun _ hS => by simp [execOp, go_sem, Act.eval, resolve, invoke]) S0 ?_
        simp only [zzA, zzB, zzC, Act.put, zzD, zzE, zzF]
        refine tk 12 (.bool true) rfl (by kernel_rfl) (fun _ _ _ h => h) rfl (fun _ hS => by simp [execOp, go_sem, Act.eval]) S0 ?_
        simp only [zzA, zzB, zzC, Act.put, zzD, zzE, zzF]
        refine tk 13 (.bool true) rfl (by kernel_rfl) (fun _ _ _ h => h) rfl (fun _ hS => by simp [execOp, go_sem, Act.eval]) S0 ?_
        simp only [zzA, zzB, zzC, Act.put, zzD, zzE, zzF]
        refine tk 14 (.bool true) rfl (by kernel_rfl) (fun _ _ _ h => h) rfl (fun _ hS => rfl) S0 ?_
        simp only [zzA, zzB, zzC, Act.put, zzD, zzE, zzF]
        refine tk 15 (.int .i64 1) rfl (by kernel_rfl) (fun _ _ _ h => h) rfl (fun _ hS => rfl) S0 ?_
        simp only [zzA, zzB, zzC, Act.put, zzD, zzE, zzF]
        refine tk 16 (.int .i64 5) rfl (by kernel_rfl) (fun _ _ _ h => h) rfl (fun _ hS => by (simp [execOp, go_sem, Act.eval] <;> first | rfl | decide)) S0 ?_
        simp only [zzA, zzB, zzC, Act.put, zzD, zzE, zzF]
        refine tk 17 (.slice (some ⟨z, 4, none⟩) 1 4) rfl (by kernel_rfl) (fun _ _ _ h => h) rfl (fun _ hS => exec_slice8n (lo := 4) (hi := 5) rfl rfl rfl rfl (by decide) (by decide) (by decide) (by decide) (by decide) _) S0 ?_
        simp only [zzA, zzB, zzC, Act.put, zzD, zzE, zzF]
        refine tk 18 (.string TB) rfl (by kernel_rfl) (fun _ _ _ h => h) rfl (fun _ hS => exec_conv rfl rfl (HT1.out _ hS.1)) S0 ?_
        simp only [zzA, zzB, zzC, Act.put, zzD, zzE, zzF]
        refine tk 19 (.slice a5 1 c0) rfl (by kernel_rfl) (fun _ _ _ h => h) rfl (fun _ hS => rfl) S0 ?_
        simp only [zzA, zzB, zzC, Act.put, zzD, zzE, zzF]
        refine tk 20 (.string TB) rfl (by kernel_rfl) (fun _ _ _ h => h) rfl (fun _ hS => exec_conv rfl rfl (HT2.out _ hS.2)) S0 ?_
        simp only [zzA, zzB, zzC, Act.put, zzD, zzE, zzF]
        refine tk 21 (.bool true) rfl (by kernel_rfl) (fun _ _ _ h => h) rfl (fun _ hS => by simp [execOp, go_sem, Act.eval]) S0 ?_
        simp only [zzA, zzB, zzC, Act.put, zzD, zzE, zzF]
        refine tk 22 (.bool true) rfl (by kernel_rfl) (fun _ _ _ h => h) rfl (fun _ hS => by simp [execOp, go_sem, Act.eval]) S0 ?_
        simp only [zzA, zzB, zzC, Act.put, zzD, zzE, zzF]
        refine tk 23 (.bool true) rfl (by kernel_rfl) (fun _ _ _ h => h) rfl (fun _ hS => rfl) S0 ?_
        simp only [zzA, zzB, zzC, Act.put, zzD, zzE, zzF]
        refine wpAnyH_all (rs := [24]) (by kernel_rfl) (by simp) ?_
        intro k hk
        simp only [List.mem_cons, List.mem_nil_iff, or_false] at hk
        subst hk
        refine wpOp_runw rfl rfl (wp_call_fn 11 #[] (by simp [execOp, go_sem, Act.eval, resolve, invoke, enterL10]) ?_)
        refine (HLV _).mono ?_
        rintro e x5 ⟨rfl, b5⟩
        have c5 := S0.2.trans (b5.mono S0.2.size)
        have s5 : (fun y => Qb z (here 12288 0 B) y ∧ Below wc.heap.size wc y) x5 := ⟨S0.1.below b5, c5⟩
        refine ⟨s5, ?_⟩
        simp only [zzA, zzB, zzC, Act.put, zzD, zzE, zzF]
        refine tk 25 (.bool true) rfl (by kernel_rfl) (fun _ _ _ h => h) rfl (fun _ hS => by simp [execOp, go_sem, Act.eval]) s5 ?_
        simp only [zzA, zzB, zzC, Act.put, zzD, zzE, zzF]
        refine tk 26 (.bool true) rfl (by kernel_rfl) (fun _ _ _ h => h) rfl (fun _ hS => rfl) s5 ?_
        simp only [zzA, zzB, zzC, Act.put, zzD, zzE, zzF]
        refine wpAnyH_done (by kernel_rfl) ?_ _
        have HO := hidOf2 c5
        clear S0 s5 c5 b5 cd
        go_wp2
        go_ret
        exact ⟨rfl, HO.out⟩
    · as_aux_lemma =>
        have cd : Below w3.heap.size w3 w3.drew := bdr (Below.refl _ _) 1
        have S0 : (fun y => Qb z (here 12288 0 B) y ∧ Below wc.heap.size wc y) w3.drew := ⟨HY3.out.below cd, HB3.out.trans (cd.mono HB3.out.size)⟩
        have c3' : w3.cell? ⟨z, 0, none⟩ = some (.int .u8 75) := c3
        have hx3 : bits .and .u8 18 3 = 2 := by decide +kernel
        clear c3
        go_upto_region 11 with fail
        refine wp_region_held (S := fun y => Qb z (here 12288 0 B) y ∧ Below wc.heap.size wc y) (by kernel_rfl) ?_
        change wpAnyH _ _ _ _ _ _ _ _ w3.drew
        refine tk 0 (.pointer (some ⟨z, 0, none⟩)) rfl (by kernel_rfl) (fun _ _ _ h => h) rfl (fun _ hS => exec_idx8 (k := 0) rfl rfl rfl (by decide) _) S0 ?_
        simp only [zzA, zzB, zzC, Act.put, zzD, zzE, zzF]
        refine tk 1 (.int .u8 75) rfl (by kernel_rfl) (fun _ _ _ h => h) rfl (fun _ hS => exec_load rfl rfl (load_u8 _ _ _ _ (HC0.out _ hS.1))) S0 ?_
        simp only [zzA, zzB, zzC, Act.put, zzD, zzE, zzF]
        refine tk 2 (.int .u8 67) rfl (by kernel_rfl) (fun _ _ _ h => h) rfl (fun _ hS => by (simp [execOp, go_sem, Act.eval] <;> first | rfl | decide)) S0 ?_
        simp only [zzA, zzB, zzC, Act.put, zzD, zzE, zzF]
        refine tk 3 (.bool true) rfl (by kernel_rfl) (fun _ _ _ h => h) rfl (fun _ hS => by simp [execOp, go_sem, Act.eval]) S0 ?_
        simp only [zzA, zzB, zzC, Act.put, zzD, zzE, zzF]
        refine tk 4 (.bool true) rfl (by kernel_rfl) (fun _ _ _ h => h) rfl (fun _ hS => rfl) S0 ?_
        simp only [zzA, zzB, zzC, Act.put, zzD, zzE, zzF]
        refine tk 5 (.slice a5 2 c0) rfl (by kernel_rfl) (fun _ _ _ h => h) rfl (fun _ hS => rfl) S0 ?_
        simp only [zzA, zzB, zzC, Act.put, zzD, zzE, zzF]
        refine tk 6 (.int .i64 2) rfl (by kernel_rfl) (fun _ _ _ h => h) rfl (fun _ hS => by simp [execOp, go_sem, Act.eval, resolve, invoke]) S0 ?_
        simp only [zzA, zzB, zzC, Act.put, zzD, zzE, zzF]
        refine tk 7 (.bool true) rfl (by kernel_rfl) (fun _ _ _ h => h) rfl (fun _ hS => by simp [execOp, go_sem, Act.eval]) S0 ?_
        simp only [zzA, zzB, zzC, Act.put, zzD, zzE, zzF]
        refine tk 8 (.bool true) rfl (by kernel_rfl) (fun _ _ _ h => h) rfl (fun _ hS => by simp [execOp, go_sem, Act.eval]) S0 ?_
        simp only [zzA, zzB, zzC, Act.put, zzD, zzE, zzF]
        refine tk 9 (.bool true) rfl (by kernel_rfl) (fun _ _ _ h => h) rfl (fun _ hS => rfl) S0 ?_
        simp only [zzA, zzB, zzC, Act.put, zzD, zzE, zzF]
        refine tk 10 (.slice a5 2 c0) rfl (by kernel_rfl) (fun _ _ _ h => h) rfl (fun _ hS => rfl) S0 ?_
        simp only [zzA, zzB, zzC, Act.put, zzD, zzE, zzF]
        refine tk 11 (.int .i64 2) rfl (by kernel_rfl) (fun _ _ _ h => h) rfl (fun _ hS => by simp [execOp, go_sem, Act.eval, resolve, invoke]) S0 ?_
        simp only [zzA, zzB, zzC, Act.put, zzD, zzE, zzF]
        refine tk 12 (.bool true) rfl (by kernel_rfl) (fun _ _ _ h => h) rfl (fun _ hS => by simp [execOp, go_sem, Act.eval]) S0 ?_
        simp only [zzA, zzB, zzC, Act.put, zzD, zzE, zzF]
        refine tk 13 (.bool true) rfl (by kernel_rfl) (fun _ _ _ h => h) rfl (fun _ hS => by simp [execOp, go_sem, Act.eval]) S0 ?_
        simp only [zzA, zzB, zzC, Act.put, zzD, zzE, zzF]
        refine tk 14 (.bool true) rfl (by kernel_rfl) (fun _ _ _ h => h) rfl (fun _ hS => rfl) S0 ?_
        simp only [zzA, zzB, zzC, Act.put, zzD, zzE, zzF]
        refine tk 15 (.int .i64 2) rfl (by kernel_rfl) (fun _ _ _ h => h) rfl (fun _ hS => rfl) S0 ?_
        simp only [zzA, zzB, zzC, Act.put, zzD, zzE, zzF]
        refine tk 16 (.int .i64 6) rfl (by kernel_rfl) (fun _ _ _ h => h) rfl (fun _ hS => by (simp [execOp, go_sem, Act.eval] <;> first | rfl | decide)) S0 ?_
        simp only [zzA, zzB, zzC, Act.put, zzD, zzE, zzF]
        refine tk 17 (.slice (some ⟨z, 4, none⟩) 2 4) rfl (by kernel_rfl) (fun _ _ _ h => h) rfl (fun _ hS => exec_slice8n (lo := 4) (hi := 6) rfl rfl rfl rfl (by decide) (by decide) (by decide) (by decide) (by decide) _) S0 ?_
        simp only [zzA, zzB, zzC, Act.put, zzD, zzE, zzF]
        refine tk 18 (.string TB) rfl (by kernel_rfl) (fun _ _ _ h => h) rfl (fun _ hS => exec_conv rfl rfl (HT1.out _ hS.1)) S0 ?_
        simp only [zzA, zzB, zzC, Act.put, zzD, zzE, zzF]
        refine tk 19 (.slice a5 2 c0) rfl (by kernel_rfl) (fun _ _ _ h => h) rfl (fun _ hS => rfl) S0 ?_
        simp only [zzA, zzB, zzC, Act.put, zzD, zzE, zzF]
        refine tk 20 (.string TB) rfl (by kernel_rfl) (fun _ _ _ h => h) rfl (fun _ hS => exec_conv rfl rfl (HT2.out _ hS.2)) S0 ?_
        simp only [zzA, zzB, zzC, Act.put, zzD, zzE, zzF]
        refine tk 21 (.bool true) rfl (by kernel_rfl) (fun _ _ _ h => h) rfl (fun _ hS => by simp [execOp, go_sem, Act.eval]) S0 ?_
        simp only [zzA, zzB, zzC, Act.put, zzD, zzE, zzF]
        refine tk 22 (.bool true) rfl (by kernel_rfl) (fun _ _ _ h => h) rfl (fun _ hS => by simp [execOp, go_sem, Act.eval]) S0 ?_
        simp only [zzA, zzB, zzC, Act.put, zzD, zzE, zzF]
        refine tk 23 (.bool true) rfl (by kernel_rfl) (fun _ _ _ h => h) rfl (fun _ hS => rfl) S0 ?_
        simp only [zzA, zzB, zzC, Act.put, zzD, zzE, zzF]
        refine wpAnyH_all (rs := [24]) (by kernel_rfl) (by simp) ?_
        intro k hk
        simp only [List.mem_cons, List.mem_nil_iff, or_false] at hk
        subst hk
        refine wpOp_runw rfl rfl (wp_call_fn 11 #[] (by simp [execOp, go_sem, Act.eval, resolve, invoke, enterL10]) ?_)
        refine (HLV _).mono ?_
        rintro e x5 ⟨rfl, b5⟩
        have c5 := S0.2.trans (b5.mono S0.2.size)
        have s5 : (fun y => Qb z (here 12288 0 B) y ∧ Below wc.heap.size wc y) x5 := ⟨S0.1.below b5, c5⟩
        refine ⟨s5, ?_⟩
        simp only [zzA, zzB, zzC, Act.put, zzD, zzE, zzF]
        refine tk 25 (.bool true) rfl (by kernel_rfl) (fun _ _ _ h => h) rfl (fun _ hS => by simp [execOp, go_sem, Act.eval]) s5 ?_
        simp only [zzA, zzB, zzC, Act.put, zzD, zzE, zzF]
        refine tk 26 (.bool true) rfl (by kernel_rfl) (fun _ _ _ h => h) rfl (fun _ hS => rfl) s5 ?_
        simp only [zzA, zzB, zzC, Act.put, zzD, zzE, zzF]
        refine wpAnyH_done (by kernel_rfl) ?_ _
        have HO := hidOf2 c5
        clear S0 s5 c5 b5 cd
        go_wp2
        go_ret
        exact ⟨rfl, HO.out⟩
    · as_aux_lemma =>
        have cd : Below w3.heap.size w3 w3.drew := bdr (Below.refl _ _) 1
        have S0 : (fun y => Qb z (here 12288 0 B) y ∧ Below wc.heap.size wc y) w3.drew := ⟨HY3.out.below cd, HB3.out.trans (cd.mono HB3.out.size)⟩
        have c3' : w3.cell? ⟨z, 0, none⟩ = some (.int .u8 71) := c3
        have hx3 : bits .and .u8 17 3 = 1 := by decide +kernel
        clear c3
        go_upto_region 11 with fail
        refine wp_region_held (S := fun y => Qb z (here 12288 0 B) y ∧ Below wc.heap.size wc y) (by kernel_rfl) ?_
        change wpAnyH _ _ _ _ _ _ _ _ w3.drew
        refine tk 0 (.pointer (some ⟨z, 0, none⟩)) rfl (by kernel_rfl) (fun _ _ _ h => h) rfl (fun _ hS => exec_idx8 (k := 0) rfl rfl rfl (by decide) _) S0 ?_
        simp only [zzA, zzB, zzC, Act.put, zzD, zzE, zzF]
        refine tk 1 (.int .u8 71) rfl (by kernel_rfl) (fun _ _ _ h => h) rfl (fun _ hS => exec_load rfl rfl (load_u8 _ _ _ _ (HC0.out _ hS.1))) S0 ?_
        simp only [zzA, zzB, zzC, Act.put, zzD, zzE, zzF]
        refine tk 2 (.int .u8 67) rfl (by kernel_rfl) (fun _ _ _ h => h) rfl (fun _ hS => by (simp [execOp, go_sem, Act.eval] <;> first | rfl | decide)) S0 ?_
        simp only [zzA, zzB, zzC, Act.put, zzD, zzE, zzF]
        refine tk 3 (.bool true) rfl (by kernel_rfl) (fun _ _ _ h => h) rfl (fun _ hS => by simp [execOp, go_sem, Act.eval]) S0 ?_
        simp only [zzA, zzB, zzC, Act.put, zzD, zzE, zzF]
        refine tk 4 (.bool true) rfl (by kernel_rfl) (fun _ _ _ h => h) rfl (fun _ hS => rfl) S0 ?_
        simp only [zzA, zzB, zzC, Act.put, zzD, zzE, zzF]
        refine tk 5 (.slice a5 3 c0) rfl (by kernel_rfl) (fun _ _ _ h => h) rfl (fun _ hS => rfl) S0 ?_
        simp only [zzA, zzB, zzC, Act.put, zzD, zzE, zzF]
        refine tk 6 (.int .i64 3) rfl (by kernel_rfl) (fun _ _ _ h => h) rfl (fun _ hS => by simp [execOp, go_sem, Act.eval, resolve, invoke]) S0 ?_
        simp only [zzA, zzB, zzC, Act.put, zzD, zzE, zzF]
        refine tk 7 (.bool true) rfl (by kernel_rfl) (fun _ _ _ h => h) rfl (fun _ hS => by simp [execOp, go_sem, Act.eval]) S0 ?_
        simp only [zzA, zzB, zzC, Act.put, zzD, zzE, zzF]
        refine tk 8 (.bool true) rfl (by kernel_rfl) (fun _ _ _ h => h) rfl (fun _ hS => by simp [execOp, go_sem, Act.eval]) S0 ?_
        simp only [zzA, zzB, zzC, Act.put, zzD, zzE, zzF]
        refine tk 9 (.bool true) rfl (by kernel_rfl) (fun _ _ _ h => h) rfl (fun _ hS => rfl) S0 ?_
        simp only [zzA, zzB, zzC, Act.put, zzD, zzE, zzF]
        refine tk 10 (.slice a5 3 c0) rfl (by kernel_rfl) (fun _ _ _ h => h) rfl (fun _ hS => rfl) S0 ?_
        simp only [zzA, zzB, zzC, Act.put, zzD, zzE, zzF]
        refine tk 11 (.int .i64 3) rfl (by kernel_rfl) (fun _ _ _ h => h) rfl (fun _ hS => by simp [execOp, go_sem, Act.eval, resolve, invoke]) S0 ?_
        simp only [zzA, zzB, zzC, Act.put, zzD, zzE, zzF]
        refine tk 12 (.bool true) rfl (by kernel_rfl) (fun _ _ _ h => h) rfl (fun _ hS => by simp [execOp, go_sem, Act.eval]) S0 ?_
        simp only [zzA, zzB, zzC, Act.put, zzD, zzE, zzF]
        refine tk 13 (.bool true) rfl (by kernel_rfl) (fun _ _ _ h => h) rfl (fun _ hS => by simp [execOp, go_sem, Act.eval]) S0 ?_
        simp only [zzA, zzB, zzC, Act.put, zzD, zzE, zzF]
        refine tk 14 (.bool true) rfl (by kernel_rfl) (fun _ _ _ h => h) rfl (fun _ hS => rfl) S0 ?_
        simp only [zzA, zzB, zzC, Act.put, zzD, zzE, zzF]
        refine tk 15 (.int .i64 3) rfl (by kernel_rfl) (fun _ _ _ h => h) rfl (fun _ hS => rfl) S0 ?_
        simp only [zzA, zzB, zzC, Act.put, zzD, zzE, zzF]
        refine tk 16 (.int .i64 7) rfl (by kernel_rfl) (fun _ _ _ h => h) rfl (fun _ hS => by (simp [execOp, go_sem, Act.eval] <;> first | rfl | decide)) S0 ?_
        simp only [zzA, zzB, zzC, Act.put, zzD, zzE, zzF]
        refine tk 17 (.slice (some ⟨z, 4, none⟩) 3 4) rfl (by kernel_rfl) (fun _ _ _ h => h) rfl (fun _ hS => exec_slice8n (lo := 4) (hi := 7) rfl rfl rfl rfl (by decide) (by decide) (by decide) (by decide) (by decide) _) S0 ?_
        simp only [zzA, zzB, zzC, Act.put, zzD, zzE, zzF]
        refine tk 18 (.string TB) rfl (by kernel_rfl) (fun _ _ _ h => h) rfl (fun _ hS => exec_conv rfl rfl (HT1.out _ hS.1)) S0 ?_
        simp only [zzA, zzB, zzC, Act.put, zzD, zzE, zzF]
        refine tk 19 (.slice a5 3 c0) rfl (by kernel_rfl) (fun _ _ _ h => h) rfl (fun _ hS => rfl) S0 ?_
        simp only [zzA, zzB, zzC, Act.put, zzD, zzE, zzF]
        refine tk 20 (.string TB) rfl (by kernel_rfl) (fun _ _ _ h => h) rfl (fun _ hS => exec_conv rfl rfl (HT2.out _ hS.2)) S0 ?_
        simp only [zzA, zzB, zzC, Act.put, zzD, zzE, zzF]
        refine tk 21 (.bool true) rfl (by kernel_rfl) (fun _ _ _ h => h) rfl (fun _ hS => by simp [execOp, go_sem, Act.eval]) S0 ?_
        simp only [zzA, zzB, zzC, Act.put, zzD, zzE, zzF]
        refine tk 22 (.bool true) rfl (by kernel_rfl) (fun _ _ _ h => h) rfl (fun _ hS => by simp [execOp, go_sem, Act.eval]) S0 ?_
        simp only [zzA, zzB, zzC, Act.put, zzD, zzE, zzF]
        refine tk 23 (.bool true) rfl (by kernel_rfl) (fun _ _ _ h => h) rfl (fun _ hS => rfl) S0 ?_
        simp only [zzA, zzB, zzC, Act.put, zzD, zzE, zzF]
        refine wpAnyH_all (rs := [24]) (by kernel_rfl) (by simp) ?_
        intro k hk
        simp only [List.mem_cons, List.mem_nil_iff, or_false] at hk
        subst hk
        refine wpOp_runw rfl rfl (wp_call_fn 11 #[] (by simp [execOp, go_sem, Act.eval, resolve, invoke, enterL10]) ?_)
        refine (HLV _).mono ?_
        rintro e x5 ⟨rfl, b5⟩
        have c5 := S0.2.trans (b5.mono S0.2.size)
        have s5 : (fun y => Qb z (here 12288 0 B) y ∧ Below wc.heap.size wc y) x5 := ⟨S0.1.below b5, c5⟩
        refine ⟨s5, ?_⟩
        simp only [zzA, zzB, zzC, Act.put, zzD, zzE, zzF]
        refine tk 25 (.bool true) rfl (by kernel_rfl) (fun _ _ _ h => h) rfl (fun _ hS => by simp [execOp, go_sem, Act.eval]) s5 ?_
        simp only [zzA, zzB, zzC, Act.put, zzD, zzE, zzF]
        refine tk 26 (.bool true) rfl (by kernel_rfl) (fun _ _ _ h => h) rfl (fun _ hS => rfl) s5 ?_
        simp only [zzA, zzB, zzC, Act.put, zzD, zzE, zzF]
        refine wpAnyH_done (by kernel_rfl) ?_ _
        have HO := hidOf2 c5
        clear S0 s5 c5 b5 cd
        go_wp2
        go_ret
        exact ⟨rfl, HO.out⟩
    · as_aux_lemma =>
        have cd : Below w3.heap.size w3 w3.drew := bdr (Below.refl _ _) 1
        have S0 : (fun y => Qb z (here 12288 0 B) y ∧ Below wc.heap.size wc y) w3.drew := ⟨HY3.out.below cd, HB3.out.trans (cd.mono HB3.out.size)⟩
        have c3' : w3.cell? ⟨z, 0, none⟩ = some (.int .u8 67) := c3
        have hx3 : bits .and .u8 16 3 = 0 := by decide +kernel
        clear c3
        go_upto_region 11 with fail
        refine wp_region_held (S := fun y => Qb z (here 12288 0 B) y ∧ Below wc.heap.size wc y) (by kernel_rfl) ?_
        change wpAnyH _ _ _ _ _ _ _ _ w3.drew
        refine tk 0 (.pointer (some ⟨z, 0, none⟩)) rfl (by kernel_rfl) (fun _ _ _ h => h) rfl (fun _ hS => exec_idx8 (k := 0) rfl rfl rfl (by decide) _) S0 ?_
        simp only [zzA, zzB, zzC, Act.put, zzD, zzE, zzF]
        refine tk 1 (.int .u8 67) rfl (by kernel_rfl) (fun _ _ _ h => h) rfl (fun _ hS => exec_load rfl rfl (load_u8 _ _ _ _ (HC0.out _ hS.1))) S0 ?_
        simp only [zzA, zzB, zzC, Act.put, zzD, zzE, zzF]
        refine tk 2 (.int .u8 67) rfl (by kernel_rfl) (fun _ _ _ h => h) rfl (fun _ hS => by (simp [execOp, go_sem, Act.eval] <;> first | rfl | decide)) S0 ?_
        simp only [zzA, zzB, zzC, Act.put, zzD, zzE, zzF]
        refine tk 3 (.bool true) rfl (by kernel_rfl) (fun _ _ _ h => h) rfl (fun _ hS => by simp [execOp, go_sem, Act.eval]) S0 ?_
        simp only [zzA, zzB, zzC, Act.put, zzD, zzE, zzF]
        refine tk 4 (.bool true) rfl (by kernel_rfl) (fun _ _ _ h => h) rfl (fun _ hS => rfl) S0 ?_
        simp only [zzA, zzB, zzC, Act.put, zzD, zzE, zzF]
        refine tk 5 (.slice a5 4 c0) rfl (by kernel_rfl) (fun _ _ _ h => h) rfl (fun _ hS => rfl) S0 ?_
        simp only [zzA, zzB, zzC, Act.put, zzD, zzE, zzF]
        refine tk 6 (.int .i64 4) rfl (by kernel_rfl) (fun _ _ _ h => h) rfl (fun _ hS => by simp [execOp, go_sem, Act.eval, resolve, invoke]) S0 ?_
        simp only [zzA, zzB, zzC, Act.put, zzD, zzE, zzF]
        refine tk 7 (.bool true) rfl (by kernel_rfl) (fun _ _ _ h => h) rfl (fun _ hS => by simp [execOp, go_sem, Act.eval]) S0 ?_
        simp only [zzA, zzB, zzC, Act.put, zzD, zzE, zzF]
        refine tk 8 (.bool true) rfl (by kernel_rfl) (fun _ _ _ h => h) rfl (fun _ hS => by simp [execOp, go_sem, Act.eval]) S0 ?_
        simp only [zzA, zzB, zzC, Act.put, zzD, zzE, zzF]
        refine tk 9 (.bool true) rfl (by kernel_rfl) (fun _ _ _ h => h) rfl (fun _ hS => rfl) S0 ?_
        simp only [zzA, zzB, zzC, Act.put, zzD, zzE, zzF]
        refine tk 10 (.slice a5 4 c0) rfl (by kernel_rfl) (fun _ _ _ h => h) rfl (fun _ hS => rfl) S0 ?_
        simp only [zzA, zzB, zzC, Act.put, zzD, zzE, zzF]
        refine tk 11 (.int .i64 4) rfl (by kernel_rfl) (fun _ _ _ h => h) rfl (fun _ hS => by simp [execOp, go_sem, Act.eval, resolve, invoke]) S0 ?_
        simp only [zzA, zzB, zzC, Act.put, zzD, zzE, zzF]
        refine tk 12 (.bool true) rfl (by kernel_rfl) (fun _ _ _ h => h) rfl (fun _ hS => by simp [execOp, go_sem, Act.eval]) S0 ?_
        simp only [zzA, zzB, zzC, Act.put, zzD, zzE, zzF]
        refine tk 13 (.bool true) rfl (by kernel_rfl) (fun _ _ _ h => h) rfl (fun _ hS => by simp [execOp, go_sem, Act.eval]) S0 ?_
        simp only [zzA, zzB, zzC, Act.put, zzD, zzE, zzF]
        refine tk 14 (.bool true) rfl (by kernel_rfl) (fun _ _ _ h => h) rfl (fun _ hS => rfl) S0 ?_
        simp only [zzA, zzB, zzC, Act.put, zzD, zzE, zzF]
        refine tk 15 (.int .i64 4) rfl (by kernel_rfl) (fun _ _ _ h => h) rfl (fun _ hS => rfl) S0 ?_
        simp only [zzA, zzB, zzC, Act.put, zzD, zzE, zzF]
        refine tk 16 (.int .i64 8) rfl (by kernel_rfl) (fun _ _ _ h => h) rfl (fun _ hS => by (simp [execOp, go_sem, Act.eval] <;> first | rfl | decide)) S0 ?_
        simp only [zzA, zzB, zzC, Act.put, zzD, zzE, zzF]
        refine tk 17 (.slice (some ⟨z, 4, none⟩) 4 4) rfl (by kernel_rfl) (fun _ _ _ h => h) rfl (fun _ hS => exec_slice8n (lo := 4) (hi := 8) rfl rfl rfl rfl (by decide) (by decide) (by decide) (by decide) (by decide) _) S0 ?_
        simp only [zzA, zzB, zzC, Act.put, zzD, zzE, zzF]
        refine tk 18 (.string TB) rfl (by kernel_rfl) (fun _ _ _ h => h) rfl (fun _ hS => exec_conv rfl rfl (HT1.out _ hS.1)) S0 ?_
        simp only [zzA, zzB, zzC, Act.put, zzD, zzE, zzF]
        refine tk 19 (.slice a5 4 c0) rfl (by kernel_rfl) (fun _ _ _ h => h) rfl (fun _ hS => rfl) S0 ?_
        simp only [zzA, zzB, zzC, Act.put, zzD, zzE, zzF]
        refine tk 20 (.string TB) rfl (by kernel_rfl) (fun _ _ _ h => h) rfl (fun _ hS => exec_conv rfl rfl (HT2.out _ hS.2)) S0 ?_
        simp only [zzA, zzB, zzC, Act.put, zzD, zzE, zzF]
        refine tk 21 (.bool true) rfl (by kernel_rfl) (fun _ _ _ h => h) rfl (fun _ hS => by simp [execOp, go_sem, Act.eval]) S0 ?_
        simp only [zzA, zzB, zzC, Act.put, zzD, zzE, zzF]
        refine tk 22 (.bool true) rfl (by kernel_rfl) (fun _ _ _ h => h) rfl (fun _ hS => by simp [execOp, go_sem, Act.eval]) S0 ?_
        simp only [zzA, zzB, zzC, Act.put, zzD, zzE, zzF]
        refine tk 23 (.bool true) rfl (by kernel_rfl) (fun _ _ _ h => h) rfl (fun _ hS => rfl) S0 ?_
        simp only [zzA, zzB, zzC, Act.put, zzD, zzE, zzF]
        refine wpAnyH_all (rs := [24]) (by kernel_rfl) (by simp) ?_
        intro k hk
        simp only [List.mem_cons, List.mem_nil_iff, or_false] at hk
        subst hk
        refine wpOp_runw rfl rfl (wp_call_fn 11 #[] (by simp [execOp, go_sem, Act.eval, resolve, invoke, enterL10]) ?_)
        refine (HLV _).mono ?_
        rintro e x5 ⟨rfl, b5⟩
        have c5 := S0.2.trans (b5.mono S0.2.size)
        have s5 : (fun y => Qb z (here 12288 0 B) y ∧ Below wc.heap.size wc y) x5 := ⟨S0.1.below b5, c5⟩
        refine ⟨s5, ?_⟩
        simp only [zzA, zzB, zzC, Act.put, zzD, zzE, zzF]
        refine tk 25 (.bool true) rfl (by kernel_rfl) (fun _ _ _ h => h) rfl (fun _ hS => by simp [execOp, go_sem, Act.eval]) s5 ?_
        simp only [zzA, zzB, zzC, Act.put, zzD, zzE, zzF]
        refine tk 26 (.bool true) rfl (by kernel_rfl) (fun _ _ _ h => h) rfl (fun _ hS => rfl) s5 ?_
        simp only [zzA, zzB, zzC, Act.put, zzD, zzE, zzF]
        refine wpAnyH_done (by kernel_rfl) ?_ _
        have HO := hidOf2 c5
        clear S0 s5 c5 b5 cd
        go_wp2
        go_ret
        exact ⟨rfl, HO.out⟩
  · have hH := Handles_to HJ1.out qR (rs_begin (by decide) (by decide) (by decide) HENB.out (by rw [HNB.out]; omega))
    rw [HNB.out] at hH
    go_wp2_with fail
    refine hH.mono ?_
    rintro e w2 ⟨rfl, ao2, cp2, ap2, cq2, J2, _⟩
    obtain ⟨z, hz, y1, hYz, Hy⟩ := J2.got (frm 65 12288 0 nb)
    have HJ2 := hidOf2 J2
    clear hH J2 HJ1
    go_upto_region 7 with (first | (refine sdF (g := frm 65 12288 0 nb) y1 rfl _ _ rfl rfl rfl ?_))
    change Code.wp Tryz.prog _ _ _ ((w2.alloc (.cells zA8 32)).setRow z (frm 65 12288 0 nb).arr)
    generalize hZ : (w2.alloc (.cells zA8 32)).setRow z (frm 65 12288 0 nb).arr = w3
    obtain ⟨y3, J3, _⟩ := Hy.out w3 hZ.symm
    have c3 : w3.cell? ⟨z, 0, none⟩ = some (.int .u8 65) := y3.c0
    have HY3 := hidOf2 y3
    have HJ3 := hidOf2 J3
    have HZZ := hidOf2 (show wc.heap.size ≤ z ∧ (∀ b ∈ blk ao2, b ≠ z) ∧ (∀ b ∈ blk ap2, b ≠ z) from ⟨by rw [← hz]; exact HJ2.out.below.size, fun b hb => by have := HJ2.out.pv.lt b hb; omega, fun b hb => by have := HJ2.out.dv.lt b hb; omega⟩)
    obtain ⟨W4, hW4⟩ : ∃ x, w3.alloc (.cells #[] 5) = x := ⟨_, rfl⟩
    have HL4 := hidOf2 (Lp.start HJ3.out HY3.out hYz HZZ.out.1 HZZ.out.2.1 HZZ.out.2.2 hW4)
    have HR4 : Hid (Rs ⟨2, 12288, 0, 0, B, none⟩ 0 B) := ⟨rfl, rfl, rfl⟩
    clear Hy hZ y1 y3 J3 hz HJ2 HZZ HJ3 HY3
    go_wp2_with fail
    go_loopw [11, 12, 13] (fun gv tv i x => ∃ (k : Nat) (R G : List UInt8) (ag : Option Addr) (ng cg : Nat) (u : Vl) (st : Ss) (ao : Option Addr) (cp : Nat) (ap : Option Addr) (cq : Nat), 7 * k + R.length = nb ∧ i = .int .i64 k ∧ gv = .slice ag ng cg ∧ (k % 2 = 0 ∧ tv = .int .u8 0 ∨ k % 2 = 1 ∧ tv = .int .u8 16) ∧ Hid (G ++ R = B ∧ G.length = 7 * k) ∧ Hid (Lp wc p z (one b TB hmb u) st ao cp ap cq (.slice ag ng cg) G x) ∧ Hid (Rs st (k % 2) R)) (fun _ _ i _ => 300 - (intOf i).toNat)
    case atStart => exact ⟨0, B, [], some ⟨_, 0, none⟩, 0, 0, vD TB hmb, ⟨2, 12288, 0, 0, B, none⟩, ao2, cp2, ap2, cq2, by rw [HNB.out]; omega, rfl, rfl, .inl ⟨rfl, rfl⟩, ⟨rfl, rfl⟩, HL4, HR4⟩
    case round =>
      clear HL4 HR4 c3
      obtain ⟨k, R, G, ag, ng, cg, u, st, ao, cp, ap, cq, hk, rfl, rfl, hpar, HG, HL, HR⟩ := hrel
      obtain ⟨V, hV⟩ : ∃ V, V = wr := ⟨wr, rfl⟩
      subst hV
      have hdn1 : st.dn ≠ 1 := by rw [HR.out.dn]; decide
      obtain ⟨rl, hrl⟩ : ∃ n, R.length = n := ⟨_, rfl⟩
      have HRL := hidOf2 hrl
      rw [hrl] at hk
      clear hrl
      rcases hpar with ⟨hpar, rfl⟩ | ⟨hpar, rfl⟩
      · as_aux_lemma =>
        go_upto_if 81 with fail
        go_cut [] (fun wx => ∃ u' : Vl, Hid (Lp wc p z (one b TB hmb u') st ao cp ap cq (.slice ag ng cg) G wx))
        case first =>
          by_cases hkt : k = t
          · as_aux_lemma =>
              have hde : decide ((k : Int) = (t : Int)) = true := by simp; omega
              have htl := HTL.out V HL.out.jt.below
              have hbv := build_vD ⟨la.toArray⟩ hml
              obtain ⟨zv, hzv⟩ : ∃ n, V.heap.size = n := ⟨_, rfl⟩
              have Hy : Hid (∀ Z, Z = V.alloc (.cells #[.int .i64 15, .int .u64 0, .string ⟨la.toArray⟩] 52) → Va zv (vD ⟨la.toArray⟩ hml) Z ∧ Below V.heap.size V Z) := fun Z hZ => by
                subst hZ
                exact ⟨by rw [← hzv]; exact Va.new V (vD ⟨la.toArray⟩ hml), (Below.refl _ _).alloc (Nat.le_refl _) _⟩
              obtain ⟨vu, hvu⟩ : ∃ v, vD ⟨la.toArray⟩ hml = v := ⟨_, rfl⟩
              rw [hvu] at Hy
              obtain ⟨LT, hLT⟩ : ∃ T : ByteArray, (⟨la.toArray⟩ : ByteArray) = T := ⟨_, rfl⟩
              rw [hLT] at htl Hy
              clear hvu hLT hbv
              go_upto_region 17 with fail
              generalize hZ : V.alloc (.cells #[.int .i64 15, .int .u64 0, .string LT] 52) = w5
              obtain ⟨g5, b5⟩ := Hy.out w5 hZ.symm
              have HL5 := hidOf2 (HL.out.next b5)
              have hYv : p.Y < zv := by rw [← hzv]; exact (Array.getElem?_eq_some_iff.1 HL.out.jt.prY).1
              obtain ⟨o1, o2, o3, o4⟩ := HL.out.jt.ord
              have hI1 := sett_one b TB hmb u vu
              obtain ⟨its, hits⟩ : ∃ i, one b TB hmb u = i := ⟨_, rfl⟩
              rw [hits] at HL5 hI1
              have HVA : Hid (∀ y, Kp (p.E :: its.map Im.b) w5 y → Va zv vu y) := fun y hK => (hK.block zv (Array.getElem?_eq_some_iff.1 g5).1 (fun hm => by
                simp at hm
                rcases hm with h4 | ⟨i, h4, h5⟩
                · omega
                · have := HL5.out.jt.pv.near i.b (List.mem_map.2 ⟨i, h4, rfl⟩); omega)).trans g5
              have HCP : Hid (∀ b ∈ its.map Im.b, b ∈ p.E :: its.map Im.b) := fun b hb => List.mem_cons_of_mem _ hb
              have HCD : Hid (∀ b ∈ [p.E], b ∈ p.E :: its.map Im.b) := fun b hb => by simp at hb; simp [hb]
              have cd : Below w5.heap.size w5 w5.drew := bdr (Below.refl _ _) 1
              have J0 := HL5.out.jt.next cd
              have KX0 : Kp (p.E :: its.map Im.b) w5 w5.drew := Kp.of_below cd
              have S0 : (fun y => y.cell? ⟨p.Y, 0, none⟩ = some (.pointer (some ⟨p.X, 0, none⟩)) ∧ y.cell? ⟨p.X, 0, none⟩ = some (.pointer (some ⟨p.D, 0, none⟩)) ∧ y.cell? ⟨p.X, 1, none⟩ = some (.pointer (some ⟨p.E, 0, none⟩)) ∧ Va zv vu y) w5.drew := ⟨J0.cY.1, J0.cXx.1, J0.cXx.2, HVA.out _ KX0⟩
              clear Hy hZ g5 b5 htl hzv
              refine wp_cut (α := Nat) (fun _ y => Jt wc p (sett its 12288 0 vu) (sett its 12288 0 vu) st st ao cp ap cq y ∧ Kp (p.E :: its.map Im.b) w5 y) (fun a u => (((((((((((((((((((a.put (some 85) (.pointer (some ⟨p.Y, 0, none⟩))).put (some 86) (.pointer (some ⟨p.Y, 0, none⟩))).put (some 87) (.pointer (some ⟨p.Y, 0, none⟩))).put (some 88) (.pointer (some ⟨p.X, 0, none⟩))).put (some 89) (.pointer (some ⟨p.X, 0, none⟩))).put (some 90) (.pointer (some ⟨p.X, 0, none⟩))).put (some 91) (.pointer (some ⟨p.D, 0, none⟩))).put (some 92) (.agg vu.arr)).put (some 93) (.int .i64 (setc its 12288 0 vu))).put (some 94) (.pointer (some ⟨p.Y, 0, none⟩))).put (some 95) (.pointer (some ⟨p.Y, 0, none⟩))).put (some 96) (.pointer (some ⟨p.Y, 0, none⟩))).put (some 97) (.pointer (some ⟨p.X, 0, none⟩))).put (some 98) (.pointer (some ⟨p.X, 0, none⟩))).put (some 99) (.pointer (some ⟨p.X, 1, none⟩))).put (some 100) (.pointer (some ⟨p.E, 0, none⟩))).put (some 101) (.agg vu.arr)).put (some 102) (.int .i64 (setc its 12288 0 vu))).put (some 103) (.bool false))) ?_ ?_
              · refine wp_region_held (S := fun y => y.cell? ⟨p.Y, 0, none⟩ = some (.pointer (some ⟨p.X, 0, none⟩)) ∧ y.cell? ⟨p.X, 0, none⟩ = some (.pointer (some ⟨p.D, 0, none⟩)) ∧ y.cell? ⟨p.X, 1, none⟩ = some (.pointer (some ⟨p.E, 0, none⟩)) ∧ Va zv vu y) (by kernel_rfl) ?_
                change wpAnyH _ _ _ _ _ _ _ _ w5.drew
                refine tk 0 (.pointer (some ⟨p.Y, 0, none⟩)) rfl (by kernel_rfl) (fun _ _ _ h => nomatch h.1) rfl (fun _ hS => rfl) S0 ?_
                simp only [zzA, zzB, zzC, Act.put, zzD, zzE, zzF]
                refine tk 1 (.pointer (some ⟨p.Y, 0, none⟩)) rfl (by kernel_rfl) (fun _ _ _ h => nomatch h.1) rfl (fun _ hS => by simp [execOp, go_sem, Act.eval]) S0 ?_
                simp only [zzA, zzB, zzC, Act.put, zzD, zzE, zzF]
                refine tk 2 (.pointer (some ⟨p.Y, 0, none⟩)) rfl (by kernel_rfl) (fun _ _ _ h => nomatch h.1) rfl (fun _ hS => by simp [execOp, go_sem, Act.eval]) S0 ?_
                simp only [zzA, zzB, zzC, Act.put, zzD, zzE, zzF]
                refine tk 3 (.pointer (some ⟨p.X, 0, none⟩)) rfl (by kernel_rfl) (fun _ _ _ h => nomatch h.1) rfl (fun _ hS => exec_load rfl rfl (load_pp _ _ _ _ hS.1)) S0 ?_
                simp only [zzA, zzB, zzC, Act.put, zzD, zzE, zzF]
                refine tk 4 (.pointer (some ⟨p.X, 0, none⟩)) rfl (by kernel_rfl) (fun _ _ _ h => nomatch h.1) rfl (fun _ hS => by simp [execOp, go_sem, Act.eval]) S0 ?_
                simp only [zzA, zzB, zzC, Act.put, zzD, zzE, zzF]
                refine tk 5 (.pointer (some ⟨p.X, 0, none⟩)) rfl (by kernel_rfl) (fun _ _ _ h => nomatch h.1) rfl (fun _ hS => by simp [execOp, go_sem, Act.eval]) S0 ?_
                simp only [zzA, zzB, zzC, Act.put, zzD, zzE, zzF]
                refine tk 6 (.pointer (some ⟨p.D, 0, none⟩)) rfl (by kernel_rfl) (fun _ _ _ h => nomatch h.1) rfl (fun _ hS => exec_load rfl rfl (load_pd _ _ _ _ hS.2.1)) S0 ?_
                simp only [zzA, zzB, zzC, Act.put, zzD, zzE, zzF]
                refine tk 7 (.agg vu.arr) rfl (by kernel_rfl) (fun _ _ _ h => nomatch h.1) rfl (fun _ hS => exec_load rfl rfl (hS.2.2.2.load)) S0 ?_
                simp only [zzA, zzB, zzC, Act.put, zzD, zzE, zzF]
                refine tk 9 (.pointer (some ⟨p.Y, 0, none⟩)) rfl (by kernel_rfl) (fun _ _ _ h => nomatch h.1) rfl (fun _ hS => rfl) S0 ?_
                simp only [zzA, zzB, zzC, Act.put, zzD, zzE, zzF]
                refine tk 10 (.pointer (some ⟨p.Y, 0, none⟩)) rfl (by kernel_rfl) (fun _ _ _ h => nomatch h.1) rfl (fun _ hS => by simp [execOp, go_sem, Act.eval]) S0 ?_
                simp only [zzA, zzB, zzC, Act.put, zzD, zzE, zzF]
                refine tk 11 (.pointer (some ⟨p.Y, 0, none⟩)) rfl (by kernel_rfl) (fun _ _ _ h => nomatch h.1) rfl (fun _ hS => by simp [execOp, go_sem, Act.eval]) S0 ?_
                simp only [zzA, zzB, zzC, Act.put, zzD, zzE, zzF]
                refine tk 12 (.pointer (some ⟨p.X, 0, none⟩)) rfl (by kernel_rfl) (fun _ _ _ h => nomatch h.1) rfl (fun _ hS => exec_load rfl rfl (load_pp _ _ _ _ hS.1)) S0 ?_
                simp only [zzA, zzB, zzC, Act.put, zzD, zzE, zzF]
                refine tk 13 (.pointer (some ⟨p.X, 0, none⟩)) rfl (by kernel_rfl) (fun _ _ _ h => nomatch h.1) rfl (fun _ hS => by simp [execOp, go_sem, Act.eval]) S0 ?_
                simp only [zzA, zzB, zzC, Act.put, zzD, zzE, zzF]
                refine tk 14 (.pointer (some ⟨p.X, 1, none⟩)) rfl (by kernel_rfl) (fun _ _ _ h => nomatch h.1) rfl (fun _ hS => by simp [execOp, go_sem, Act.eval]) S0 ?_
                simp only [zzA, zzB, zzC, Act.put, zzD, zzE, zzF]
                refine tk 15 (.pointer (some ⟨p.E, 0, none⟩)) rfl (by kernel_rfl) (fun _ _ _ h => nomatch h.1) rfl (fun _ hS => exec_load rfl rfl (load_prd _ _ _ _ hS.2.2.1)) S0 ?_
                simp only [zzA, zzB, zzC, Act.put, zzD, zzE, zzF]
                refine tk 16 (.agg vu.arr) rfl (by kernel_rfl) (fun _ _ _ h => nomatch h.1) rfl (fun _ hS => exec_load rfl rfl (hS.2.2.2.load)) S0 ?_
                simp only [zzA, zzB, zzC, Act.put, zzD, zzE, zzF]
                refine wpAnyH_all (rs := [8]) (by kernel_rfl) (by simp) ?_
                intro k hk
                simp only [List.mem_cons, List.mem_nil_iff, or_false] at hk
                subst hk
                refine wpOp_run rfl rfl (wp_call_fn 21 #[.pointer (some ⟨p.D, 0, none⟩), .int .u16 ((12288 : Nat) : Int), .int .u8 ((0 : Nat) : Int), .agg vu.arr] (by simp [execOp, go_sem, Act.eval, resolve, invoke, enterST]) ?_)
                refine (J0.setP hdn1 12288 0 (by decide) (by decide) vu).mono ?_
                rintro e u1 ⟨rfl, J1, K1⟩
                have KX1 := KX0.trans (K1.mono HCP.out)
                have gx1 := HVA.out u1 KX1
                have s1 := (show (fun y => y.cell? ⟨p.Y, 0, none⟩ = some (.pointer (some ⟨p.X, 0, none⟩)) ∧ y.cell? ⟨p.X, 0, none⟩ = some (.pointer (some ⟨p.D, 0, none⟩)) ∧ y.cell? ⟨p.X, 1, none⟩ = some (.pointer (some ⟨p.E, 0, none⟩)) ∧ Va zv vu y) u1 from ⟨J1.cY.1, J1.cXx.1, J1.cXx.2, gx1⟩)
                refine ⟨s1, ?_⟩
                simp only [zzA, zzB, zzC, Act.put, zzD, zzE, zzF]
                refine wpAnyH_all (rs := [17]) (by kernel_rfl) (by simp) ?_
                intro k hk
                simp only [List.mem_cons, List.mem_nil_iff, or_false] at hk
                subst hk
                refine wpOp_run rfl rfl (wp_call_fn 22 #[.pointer (some ⟨p.E, 0, none⟩), .int .u16 ((12288 : Nat) : Int), .int .u8 ((0 : Nat) : Int), .agg vu.arr] (by simp [execOp, go_sem, Act.eval, resolve, invoke, enterSD]) ?_)
                refine (J1.setD 12288 0 vu).mono ?_
                rintro e u2 ⟨rfl, J2, K2⟩
                have KX2 := KX1.trans (K2.mono HCD.out)
                have gx2 := HVA.out u2 KX2
                have s2 := (show (fun y => y.cell? ⟨p.Y, 0, none⟩ = some (.pointer (some ⟨p.X, 0, none⟩)) ∧ y.cell? ⟨p.X, 0, none⟩ = some (.pointer (some ⟨p.D, 0, none⟩)) ∧ y.cell? ⟨p.X, 1, none⟩ = some (.pointer (some ⟨p.E, 0, none⟩)) ∧ Va zv vu y) u2 from ⟨J2.cY.1, J2.cXx.1, J2.cXx.2, gx2⟩)
                refine ⟨s2, ?_⟩
                simp only [zzA, zzB, zzC, Act.put, zzD, zzE, zzF]
                refine tk 18 (.bool false) rfl (by kernel_rfl) (fun _ _ _ h => nomatch h.1) rfl (fun _ hS => by simp [execOp, go_sem, Act.eval]) s2 ?_
                simp only [zzA, zzB, zzC, Act.put, zzD, zzE, zzF]
                refine wpAnyH_done (by kernel_rfl) ?_ _
                exact ⟨rfl, 0, rfl, J2, KX2⟩
              intro u0 y hI
              simp only [Act.put, List.setIfInBounds_toArray, List.set_cons_succ, List.set_cons_zero]
              obtain ⟨J6, K6⟩ := hI
              obtain ⟨u', hu'⟩ := hI1
              rw [hu'] at J6
              have HL6 := hidOf2 (HL5.out.setK J6 K6)
              clear S0 J0 KX0 cd J6 K6 HVA HCP HCD
              go_wp2_with fail
              go_meet
              case rel => exact ⟨u', HL6⟩
          · have hde : decide ((k : Int) = (t : Int)) = false := by simp; omega
            go_wp2_with fail
            go_meet
            case rel => exact ⟨u, HL⟩
        case rest =>
        obtain ⟨u', HL6⟩ := hcut
        obtain ⟨st', hst, hn1, hn2⟩ := rs_step (its := one b TB hmb u') (q := ⟨96, 0, 0, 0, 0, 0, 0, 0⟩) HR.out (by rw [hpar]; rfl) (by omega)
        have hH := Handles_to HL6.out.jt ⟨96, 0, 0, 0, 0, 0, 0, 0⟩ hst
        have HN1 := hidOf2 hn1
        have HN2 := hidOf2 hn2
        have hb0 := told_b0 HR.out (by omega)
        have hsg := told_seg HR.out
        rw [hpar, HRL.out] at hb0
        rw [HRL.out] at hsg
        obtain ⟨ft, hft⟩ : ∃ f, told st = f := ⟨_, rfl⟩
        change Calls Tryz.prog _ _ _ (fun e x' => e = .returned (.tuple #[.agg (told st).arr, .bool true]) ∧ _) at hH
        rw [hft] at hH hb0 hsg
        have hm7 : min 7 rl ≤ 7 := by omega
        obtain ⟨m, hm⟩ : ∃ m, min 7 rl = m := ⟨_, rfl⟩
        rw [hm] at hb0 hsg hm7
        have HSG := hidOf2 hsg
        have HB0 := hidOf2 hb0
        have HM := hidOf2 hm
        clear hst hn1 hn2 hft hm hsg hb0
        go_wp2_with fail
        refine hH.mono ?_
        rintro e w7 ⟨rfl, ao3, cp3, ap3, cq3, J7, K7, f7, g7⟩
        have HL7 := hidOf2 (HL6.out.hand hdn1 J7 K7 f7 g7)
        obtain ⟨q0, q7⟩ := HL7.out.q
        have HS7 := hidOf2 (And.intro (q7.row ft) (Kp.setRow1 w7 z ft.arr))
        clear hH J7 K7 f7 g7
        go_upto_region 20 with (first | (refine sdF (g := ft) q7 rfl _ _ rfl rfl rfl ?_))
        generalize hZ : w7.setRow z ft.arr = w8
        rw [hZ] at HS7
        have y8 := HS7.out.1
        have HL8 := hidOf2 (HL7.out.store ft y8 HS7.out.2)
        have c8 := y8.c0
        have hB8 := y8.bytes 1 m (by omega) (by decide)
        rw [HSG.out] at hB8
        have HB8 := hidOf2 hB8
        have HY8 := hidOf2 y8
        have h32 : ft.b0.toNat < 32 := by have := HB0.out; split at this <;> omega
        have hx7 : bits .and .u8 ((ft.b0.toNat : Int) / 2) 7 = ((7 - m : Nat) : Int) := by
          have := and7 ft.b0.toNat (by omega)
          rw [show ((ft.b0.toNat / 2 ^ 1 : Nat) : Int) = (ft.b0.toNat : Int) / 2 by omega] at this
          rw [this]
          have := HB0.out
          split at this <;> omega
        have hx1 := and1 ft.b0.toNat (by omega)
        have HB0' : Hid (ft.b0.toNat % 2 = if rl ≤ 7 then 1 else 0) := by
          have := HB0.out
          show _ = _
          split at this <;> rename_i h <;> simp [h] <;> omega
        have hd32 : (ft.b0.toNat : Int) / 32 = 0 := by omega
        obtain ⟨n0, hn0⟩ : ∃ n, ft.b0.toNat = n := ⟨_, rfl⟩
        rw [hn0] at c8 h32 hx7 hx1 HB0' hd32
        have HN0 := hidOf2 hn0
        have hsub : (8 : Int) - ((7 - m : Nat) : Int) = ((1 + m : Nat) : Int) := by omega
        have hs8 := sl8 z 1 (1 + m) (by omega) (by omega) (by decide)
        rw [show 1 + m - 1 = m by omega] at hs8
        have hk3 : decide ((2000 : Int) < (k : Int)) = false := by simp; omega
        have hown := HL8.out.own
        have HG2 := hidOf2 (show G.length ≤ 2000 by have h1 := HG.out.2; omega)
        have hze : z + 1 ≤ w8.heap.size := HY8.out.lt
        have hng := (own_shape5 hown)
        clear hZ q7 y8 hB8 hn0 HL7 HS7 HL6 HB0
        have HNZ := hidOf2 (show (Value.slice ag ng cg).ownBlock ≠ some z from fun e => by have := own_base hown e; omega)
        have HT7 := hidOf2 (show (R.take 7).length ≤ 7 by rw [List.length_take]; omega)
        clear hng
        by_cases hr7 : rl ≤ 7
        · as_aux_lemma =>
            have hp1 : n0 % 2 = 1 := by rw [HB0'.out, if_pos hr7]
            rw [hp1] at hx1
            have hst0 := HN1.out (by rw [HRL.out]; exact hr7)
            subst hst0
            have HGB := hidOf2 (show G ++ R.take 7 = B by rw [List.take_of_length_le (by rw [HRL.out]; exact hr7)]; exact HG.out.1)
            clear hp1
            go_upto_region 23 with (first | (refine opE rfl (exec_slice8n (k := z) (lo := 1) (hi := 1 + m) (n := m) (c := 7) rfl rfl rfl (by first | rfl | exact congrArg (Value.int .i64) hsub) (by omega) (by omega) (by decide) (by omega) (by decide) _) ?_) | (at_builtin; refine app_w rfl _ _ rfl (z + 1) (.slice ag ng cg) G rfl hown _ (R.take 7) rfl HB8.out (by have := HG2.out; have := HT7.out; omega) hze ?_; intro gv' w9 ho hgr hbk))
            have HL9 := hidOf2 (HL8.out.app ho hgr hbk)
            have c9 := (World.cell?_of_block (a := ⟨z, 0, none⟩) (hgr.block z HY8.out.lt (fun e => HNZ.out e.symm))).trans c8
            obtain ⟨ag2, cg2, hv⟩ := own_shape5 ho
            subst hv
            have htx9 := (bytes_of_own ho).text
            rw [HGB.out, HTB.out] at htx9
            have htxb := HT2.out w9 HL9.out.jt.below
            obtain ⟨_, cY1, _⟩ := HL9.out.jt.cY
            have hD := Doing_any HL9.out.jt.pv.head
            have HB9 := hidOf2 HL9.out.jt.below
            obtain ⟨ng2, hng2⟩ : ∃ n, (G ++ R.take 7).length = n := ⟨_, rfl⟩
            have hng3 := hng2
            rw [HGB.out] at hng3
            rw [hng3] at htx9
            rw [hng2]
            clear ho hgr hbk HL8 HL9 c8 hown HB8 hx7 hs8 hsub hng2 hng3
            go_wp2_with fail
            refine hD.mono ?_
            rintro e x1 ⟨rfl, hx1'⟩
            rw [hx1']
            clear hx1' x1 hD
            go_wp2_with fail
            refine (HLV _).mono ?_
            rintro e w14 ⟨rfl, b14⟩
            have HO := hidOf2 (HB9.out.trans (b14.mono HB9.out.size))
            clear b14
            go_wp2
            go_ret
            exact ⟨rfl, HO.out⟩
        · as_aux_lemma =>
            have hp1 : n0 % 2 = 0 := by rw [HB0'.out, if_neg hr7]
            rw [hp1] at hx1
            have HR2 := hidOf2 (HN2.out (by rw [HRL.out]; omega))
            have HG3 : Hid ((G ++ R.take 7) ++ R.drop 7 = B ∧ (G ++ R.take 7).length = 7 * (k + 1)) := ⟨by rw [List.append_assoc, List.take_append_drop]; exact HG.out.1, by rw [List.length_append, List.length_take, HRL.out, HG.out.2]; omega⟩
            clear hp1
            go_upto_region 23 with (first | (refine opE rfl (exec_slice8n (k := z) (lo := 1) (hi := 1 + m) (n := m) (c := 7) rfl rfl rfl (by first | rfl | exact congrArg (Value.int .i64) hsub) (by omega) (by omega) (by decide) (by omega) (by decide) _) ?_) | (at_builtin; refine app_w rfl _ _ rfl (z + 1) (.slice ag ng cg) G rfl hown _ (R.take 7) rfl HB8.out (by have := HG2.out; have := HT7.out; omega) hze ?_; intro gv' w9 ho hgr hbk))
            have c9 := (World.cell?_of_block (a := ⟨z, 0, none⟩) (hgr.block z HY8.out.lt (fun e => HNZ.out e.symm))).trans c8
            obtain ⟨ag2, cg2, hv⟩ := own_shape5 ho
            subst hv
            have HL9 := hidOf2 (HL8.out.app ho hgr hbk)
            obtain ⟨ng2, hng2⟩ : ∃ n, (G ++ R.take 7).length = n := ⟨_, rfl⟩
            rw [hng2] at HL9 ⊢
            have HRD := hidOf2 (show (R.drop 7).length = rl - 7 by rw [List.length_drop, HRL.out])
            clear ho hgr hbk HL8 c8 hown HB8 hx7 hs8 hsub hng2
            go_wp2
            go_roundw
            case rel => exact ⟨k + 1, R.drop 7, G ++ R.take 7, ag2, ng2, cg2, u', st', ao3, cp3, ap3, cq3, by rw [HRD.out]; omega, by go_num, rfl, .inr ⟨by omega, rfl⟩, HG3, HL9, by have := HR2.out; rw [hpar] at this; rw [show (k + 1) % 2 = 1 - 0 by omega]; exact this⟩
            case measure => simp [intOf]; omega
      · as_aux_lemma =>
        go_upto_if 81 with fail
        go_cut [] (fun wx => ∃ u' : Vl, Hid (Lp wc p z (one b TB hmb u') st ao cp ap cq (.slice ag ng cg) G wx))
        case first =>
          by_cases hkt : k = t
          · as_aux_lemma =>
              have hde : decide ((k : Int) = (t : Int)) = true := by simp; omega
              have htl := HTL.out V HL.out.jt.below
              have hbv := build_vD ⟨la.toArray⟩ hml
              obtain ⟨zv, hzv⟩ : ∃ n, V.heap.size = n := ⟨_, rfl⟩
              have Hy : Hid (∀ Z, Z = V.alloc (.cells #[.int .i64 15, .int .u64 0, .string ⟨la.toArray⟩] 52) → Va zv (vD ⟨la.toArray⟩ hml) Z ∧ Below V.heap.size V Z) := fun Z hZ => by
                subst hZ
                exact ⟨by rw [← hzv]; exact Va.new V (vD ⟨la.toArray⟩ hml), (Below.refl _ _).alloc (Nat.le_refl _) _⟩
              obtain ⟨vu, hvu⟩ : ∃ v, vD ⟨la.toArray⟩ hml = v := ⟨_, rfl⟩
              rw [hvu] at Hy
              obtain ⟨LT, hLT⟩ : ∃ T : ByteArray, (⟨la.toArray⟩ : ByteArray) = T := ⟨_, rfl⟩
              rw [hLT] at htl Hy
              clear hvu hLT hbv
              go_upto_region 17 with fail
              generalize hZ : V.alloc (.cells #[.int .i64 15, .int .u64 0, .string LT] 52) = w5
              obtain ⟨g5, b5⟩ := Hy.out w5 hZ.symm
              have HL5 := hidOf2 (HL.out.next b5)
              have hYv : p.Y < zv := by rw [← hzv]; exact (Array.getElem?_eq_some_iff.1 HL.out.jt.prY).1
              obtain ⟨o1, o2, o3, o4⟩ := HL.out.jt.ord
              have hI1 := sett_one b TB hmb u vu
              obtain ⟨its, hits⟩ : ∃ i, one b TB hmb u = i := ⟨_, rfl⟩
              rw [hits] at HL5 hI1
              have HVA : Hid (∀ y, Kp (p.E :: its.map Im.b) w5 y → Va zv vu y) := fun y hK => (hK.block zv (Array.getElem?_eq_some_iff.1 g5).1 (fun hm => by
                simp at hm
                rcases hm with h4 | ⟨i, h4, h5⟩
                · omega
                · have := HL5.out.jt.pv.near i.b (List.mem_map.2 ⟨i, h4, rfl⟩); omega)).trans g5
              have HCP : Hid (∀ b ∈ its.map Im.b, b ∈ p.E :: its.map Im.b) := fun b hb => List.mem_cons_of_mem _ hb
              have HCD : Hid (∀ b ∈ [p.E], b ∈ p.E :: its.map Im.b) := fun b hb => by simp at hb; simp [hb]
              have cd : Below w5.heap.size w5 w5.drew := bdr (Below.refl _ _) 1
              have J0 := HL5.out.jt.next cd
              have KX0 : Kp (p.E :: its.map Im.b) w5 w5.drew := Kp.of_below cd
              have S0 : (fun y => y.cell? ⟨p.Y, 0, none⟩ = some (.pointer (some ⟨p.X, 0, none⟩)) ∧ y.cell? ⟨p.X, 0, none⟩ = some (.pointer (some ⟨p.D, 0, none⟩)) ∧ y.cell? ⟨p.X, 1, none⟩ = some (.pointer (some ⟨p.E, 0, none⟩)) ∧ Va zv vu y) w5.drew := ⟨J0.cY.1, J0.cXx.1, J0.cXx.2, HVA.out _ KX0⟩
              clear Hy hZ g5 b5 htl hzv
              refine wp_cut (α := Nat) (fun _ y => Jt wc p (sett its 12288 0 vu) (sett its 12288 0 vu) st st ao cp ap cq y ∧ Kp (p.E :: its.map Im.b) w5 y) (fun a u => (((((((((((((((((((a.put (some 85) (.pointer (some ⟨p.Y, 0, none⟩))).put (some 86) (.pointer (some ⟨p.Y, 0, none⟩))).put (some 87) (.pointer (some ⟨p.Y, 0, none⟩))).put (some 88) (.pointer (some ⟨p.X, 0, none⟩))).put (some 89) (.pointer (some ⟨p.X, 0, none⟩))).put (some 90) (.pointer (some ⟨p.X, 0, none⟩))).put (some 91) (.pointer (some ⟨p.D, 0, none⟩))).put (some 92) (.agg vu.arr)).put (some 93) (.int .i64 (setc its 12288 0 vu))).put (some 94) (.pointer (some ⟨p.Y, 0, none⟩))).put (some 95) (.pointer (some ⟨p.Y, 0, none⟩))).put (some 96) (.pointer (some ⟨p.Y, 0, none⟩))).put (some 97) (.pointer (some ⟨p.X, 0, none⟩))).put (some 98) (.pointer (some ⟨p.X, 0, none⟩))).put (some 99) (.pointer (some ⟨p.X, 1, none⟩))).put (some 100) (.pointer (some ⟨p.E, 0, none⟩))).put (some 101) (.agg vu.arr)).put (some 102) (.int .i64 (setc its 12288 0 vu))).put (some 103) (.bool false))) ?_ ?_
              · refine wp_region_held (S := fun y => y.cell? ⟨p.Y, 0, none⟩ = some (.pointer (some ⟨p.X, 0, none⟩)) ∧ y.cell? ⟨p.X, 0, none⟩ = some (.pointer (some ⟨p.D, 0, none⟩)) ∧ y.cell? ⟨p.X, 1, none⟩ = some (.pointer (some ⟨p.E, 0, none⟩)) ∧ Va zv vu y) (by kernel_rfl) ?_
                change wpAnyH _ _ _ _ _ _ _ _ w5.drew
                refine tk 0 (.pointer (some ⟨p.Y, 0, none⟩)) rfl (by kernel_rfl) (fun _ _ _ h => nomatch h.1) rfl (fun _ hS => rfl) S0 ?_
                simp only [zzA, zzB, zzC, Act.put, zzD, zzE, zzF]
                refine tk 1 (.pointer (some ⟨p.Y, 0, none⟩)) rfl (by kernel_rfl) (fun _ _ _ h => nomatch h.1) rfl (fun _ hS => by simp [execOp, go_sem, Act.eval]) S0 ?_
                simp only [zzA, zzB, zzC, Act.put, zzD, zzE, zzF]
                refine tk 2 (.pointer (some ⟨p.Y, 0, none⟩)) rfl (by kernel_rfl) (fun _ _ _ h => nomatch h.1) rfl (fun _ hS => by simp [execOp, go_sem, Act.eval]) S0 ?_
                simp only [zzA, zzB, zzC, Act.put, zzD, zzE, zzF]
                refine tk 3 (.pointer (some ⟨p.X, 0, none⟩)) rfl (by kernel_rfl) (fun _ _ _ h => nomatch h.1) rfl (fun _ hS => exec_load rfl rfl (load_pp _ _ _ _ hS.1)) S0 ?_
                simp only [zzA, zzB, zzC, Act.put, zzD, zzE, zzF]
                refine tk 4 (.pointer (some ⟨p.X, 0, none⟩)) rfl (by kernel_rfl) (fun _ _ _ h => nomatch h.1) rfl (fun _ hS => by simp [execOp, go_sem, Act.eval]) S0 ?_
                simp only [zzA, zzB, zzC, Act.put, zzD, zzE, zzF]
                refine tk 5 (.pointer (some ⟨p.X, 0, none⟩)) rfl (by kernel_rfl) (fun _ _ _ h => nomatch h.1) rfl (fun _ hS => by simp [execOp, go_sem, Act.eval]) S0 ?_
                simp only [zzA, zzB, zzC, Act.put, zzD, zzE, zzF]
                refine tk 6 (.pointer (some ⟨p.D, 0, none⟩)) rfl (by kernel_rfl) (fun _ _ _ h => nomatch h.1) rfl (fun _ hS => exec_load rfl rfl (load_pd _ _ _ _ hS.2.1)) S0 ?_
                simp only [zzA, zzB, zzC, Act.put, zzD, zzE, zzF]
                refine tk 7 (.agg vu.arr) rfl (by kernel_rfl) (fun _ _ _ h => nomatch h.1) rfl (fun _ hS => exec_load rfl rfl (hS.2.2.2.load)) S0 ?_
                simp only [zzA, zzB, zzC, Act.put, zzD, zzE, zzF]
                refine tk 9 (.pointer (some ⟨p.Y, 0, none⟩)) rfl (by kernel_rfl) (fun _ _ _ h => nomatch h.1) rfl (fun _ hS => rfl) S0 ?_
                simp only [zzA, zzB, zzC, Act.put, zzD, zzE, zzF]
                refine tk 10 (.pointer (some ⟨p.Y, 0, none⟩)) rfl (by kernel_rfl) (fun _ _ _ h => nomatch h.1) rfl (fun _ hS => by simp [execOp, go_sem, Act.eval]) S0 ?_
                simp only [zzA, zzB, zzC, Act.put, zzD, zzE, zzF]
                refine tk 11 (.pointer (some ⟨p.Y, 0, none⟩)) rfl (by kernel_rfl) (fun _ _ _ h => nomatch h.1) rfl (fun _ hS => by simp [execOp, go_sem, Act.eval]) S0 ?_
                simp only [zzA, zzB, zzC, Act.put, zzD, zzE, zzF]
                refine tk 12 (.pointer (some ⟨p.X, 0, none⟩)) rfl (by kernel_rfl) (fun _ _ _ h => nomatch h.1) rfl (fun _ hS => exec_load rfl rfl (load_pp _ _ _ _ hS.1)) S0 ?_
                simp only [zzA, zzB, zzC, Act.put, zzD, zzE, zzF]
                refine tk 13 (.pointer (some ⟨p.X, 0, none⟩)) rfl (by kernel_rfl) (fun _ _ _ h => nomatch h.1) rfl (fun _ hS => by simp [execOp, go_sem, Act.eval]) S0 ?_
                simp only [zzA, zzB, zzC, Act.put, zzD, zzE, zzF]
                refine tk 14 (.pointer (some ⟨p.X, 1, none⟩)) rfl (by kernel_rfl) (fun _ _ _ h => nomatch h.1) rfl (fun _ hS => by simp [execOp, go_sem, Act.eval]) S0 ?_
                simp only [zzA, zzB, zzC, Act.put, zzD, zzE, zzF]
                refine tk 15 (.pointer (some ⟨p.E, 0, none⟩)) rfl (by kernel_rfl) (fun _ _ _ h => nomatch h.1) rfl (fun _ hS => exec_load rfl rfl (load_prd _ _ _ _ hS.2.2.1)) S0 ?_
                simp only [zzA, zzB, zzC, Act.put, zzD, zzE, zzF]
                refine tk 16 (.agg vu.arr) rfl (by kernel_rfl) (fun _ _ _ h => nomatch h.1) rfl (fun _ hS => exec_load rfl rfl (hS.2.2.2.load)) S0 ?_
                simp only [zzA, zzB, zzC, Act.put, zzD, zzE, zzF]
                refine wpAnyH_all (rs := [8]) (by kernel_rfl) (by simp) ?_
                intro k hk
                simp only [List.mem_cons, List.mem_nil_iff, or_false] at hk
                subst hk
                refine wpOp_run rfl rfl (wp_call_fn 21 #[.pointer (some ⟨p.D, 0, none⟩), .int .u16 ((12288 : Nat) : Int), .int .u8 ((0 : Nat) : Int), .agg vu.arr] (by simp [execOp, go_sem, Act.eval, resolve, invoke, enterST]) ?_)
                refine (J0.setP hdn1 12288 0 (by decide) (by decide) vu).mono ?_
                rintro e u1 ⟨rfl, J1, K1⟩
                have KX1 := KX0.trans (K1.mono HCP.out)
                have gx1 := HVA.out u1 KX1
                have s1 := (show (fun y => y.cell? ⟨p.Y, 0, none⟩ = some (.pointer (some ⟨p.X, 0, none⟩)) ∧ y.cell? ⟨p.X, 0, none⟩ = some (.pointer (some ⟨p.D, 0, none⟩)) ∧ y.cell? ⟨p.X, 1, none⟩ = some (.pointer (some ⟨p.E, 0, none⟩)) ∧ Va zv vu y) u1 from ⟨J1.cY.1, J1.cXx.1, J1.cXx.2, gx1⟩)
                refine ⟨s1, ?_⟩
                simp only [zzA, zzB, zzC, Act.put, zzD, zzE, zzF]
                refine wpAnyH_all (rs := [17]) (by kernel_rfl) (by simp) ?_
                intro k hk
                simp only [List.mem_cons, List.mem_nil_iff, or_false] at hk
                subst hk
                refine wpOp_run rfl rfl (wp_call_fn 22 #[.pointer (some ⟨p.E, 0, none⟩), .int .u16 ((12288 : Nat) : Int), .int .u8 ((0 : Nat) : Int), .agg vu.arr] (by simp [execOp, go_sem, Act.eval, resolve, invoke, enterSD]) ?_)
                refine (J1.setD 12288 0 vu).mono ?_
                rintro e u2 ⟨rfl, J2, K2⟩
                have KX2 := KX1.trans (K2.mono HCD.out)
                have gx2 := HVA.out u2 KX2
                have s2 := (show (fun y => y.cell? ⟨p.Y, 0, none⟩ = some (.pointer (some ⟨p.X, 0, none⟩)) ∧ y.cell? ⟨p.X, 0, none⟩ = some (.pointer (some ⟨p.D, 0, none⟩)) ∧ y.cell? ⟨p.X, 1, none⟩ = some (.pointer (some ⟨p.E, 0, none⟩)) ∧ Va zv vu y) u2 from ⟨J2.cY.1, J2.cXx.1, J2.cXx.2, gx2⟩)
                refine ⟨s2, ?_⟩
                simp only [zzA, zzB, zzC, Act.put, zzD, zzE, zzF]
                refine tk 18 (.bool false) rfl (by kernel_rfl) (fun _ _ _ h => nomatch h.1) rfl (fun _ hS => by simp [execOp, go_sem, Act.eval]) s2 ?_
                simp only [zzA, zzB, zzC, Act.put, zzD, zzE, zzF]
                refine wpAnyH_done (by kernel_rfl) ?_ _
                exact ⟨rfl, 0, rfl, J2, KX2⟩
              intro u0 y hI
              simp only [Act.put, List.setIfInBounds_toArray, List.set_cons_succ, List.set_cons_zero]
              obtain ⟨J6, K6⟩ := hI
              obtain ⟨u', hu'⟩ := hI1
              rw [hu'] at J6
              have HL6 := hidOf2 (HL5.out.setK J6 K6)
              clear S0 J0 KX0 cd J6 K6 HVA HCP HCD
              go_wp2_with fail
              go_meet
              case rel => exact ⟨u', HL6⟩
          · have hde : decide ((k : Int) = (t : Int)) = false := by simp; omega
            go_wp2_with fail
            go_meet
            case rel => exact ⟨u, HL⟩
        case rest =>
        obtain ⟨u', HL6⟩ := hcut
        obtain ⟨st', hst, hn1, hn2⟩ := rs_step (its := one b TB hmb u') (q := ⟨112, 0, 0, 0, 0, 0, 0, 0⟩) HR.out (by rw [hpar]; rfl) (by omega)
        have hH := Handles_to HL6.out.jt ⟨112, 0, 0, 0, 0, 0, 0, 0⟩ hst
        have HN1 := hidOf2 hn1
        have HN2 := hidOf2 hn2
        have hb0 := told_b0 HR.out (by omega)
        have hsg := told_seg HR.out
        rw [hpar, HRL.out] at hb0
        rw [HRL.out] at hsg
        obtain ⟨ft, hft⟩ : ∃ f, told st = f := ⟨_, rfl⟩
        change Calls Tryz.prog _ _ _ (fun e x' => e = .returned (.tuple #[.agg (told st).arr, .bool true]) ∧ _) at hH
        rw [hft] at hH hb0 hsg
        have hm7 : min 7 rl ≤ 7 := by omega
        obtain ⟨m, hm⟩ : ∃ m, min 7 rl = m := ⟨_, rfl⟩
        rw [hm] at hb0 hsg hm7
        have HSG := hidOf2 hsg
        have HB0 := hidOf2 hb0
        have HM := hidOf2 hm
        clear hst hn1 hn2 hft hm hsg hb0
        go_wp2_with fail
        refine hH.mono ?_
        rintro e w7 ⟨rfl, ao3, cp3, ap3, cq3, J7, K7, f7, g7⟩
        have HL7 := hidOf2 (HL6.out.hand hdn1 J7 K7 f7 g7)
        obtain ⟨q0, q7⟩ := HL7.out.q
        have HS7 := hidOf2 (And.intro (q7.row ft) (Kp.setRow1 w7 z ft.arr))
        clear hH J7 K7 f7 g7
        go_upto_region 20 with (first | (refine sdF (g := ft) q7 rfl _ _ rfl rfl rfl ?_))
        generalize hZ : w7.setRow z ft.arr = w8
        rw [hZ] at HS7
        have y8 := HS7.out.1
        have HL8 := hidOf2 (HL7.out.store ft y8 HS7.out.2)
        have c8 := y8.c0
        have hB8 := y8.bytes 1 m (by omega) (by decide)
        rw [HSG.out] at hB8
        have HB8 := hidOf2 hB8
        have HY8 := hidOf2 y8
        have h32 : ft.b0.toNat < 32 := by have := HB0.out; split at this <;> omega
        have hx7 : bits .and .u8 ((ft.b0.toNat : Int) / 2) 7 = ((7 - m : Nat) : Int) := by
          have := and7 ft.b0.toNat (by omega)
          rw [show ((ft.b0.toNat / 2 ^ 1 : Nat) : Int) = (ft.b0.toNat : Int) / 2 by omega] at this
          rw [this]
          have := HB0.out
          split at this <;> omega
        have hx1 := and1 ft.b0.toNat (by omega)
        have HB0' : Hid (ft.b0.toNat % 2 = if rl ≤ 7 then 1 else 0) := by
          have := HB0.out
          show _ = _
          split at this <;> rename_i h <;> simp [h] <;> omega
        have hd32 : (ft.b0.toNat : Int) / 32 = 0 := by omega
        obtain ⟨n0, hn0⟩ : ∃ n, ft.b0.toNat = n := ⟨_, rfl⟩
        rw [hn0] at c8 h32 hx7 hx1 HB0' hd32
        have HN0 := hidOf2 hn0
        have hsub : (8 : Int) - ((7 - m : Nat) : Int) = ((1 + m : Nat) : Int) := by omega
        have hs8 := sl8 z 1 (1 + m) (by omega) (by omega) (by decide)
        rw [show 1 + m - 1 = m by omega] at hs8
        have hk3 : decide ((2000 : Int) < (k : Int)) = false := by simp; omega
        have hown := HL8.out.own
        have HG2 := hidOf2 (show G.length ≤ 2000 by have h1 := HG.out.2; omega)
        have hze : z + 1 ≤ w8.heap.size := HY8.out.lt
        have hng := (own_shape5 hown)
        clear hZ q7 y8 hB8 hn0 HL7 HS7 HL6 HB0
        have HNZ := hidOf2 (show (Value.slice ag ng cg).ownBlock ≠ some z from fun e => by have := own_base hown e; omega)
        have HT7 := hidOf2 (show (R.take 7).length ≤ 7 by rw [List.length_take]; omega)
        clear hng
        by_cases hr7 : rl ≤ 7
        · as_aux_lemma =>
            have hp1 : n0 % 2 = 1 := by rw [HB0'.out, if_pos hr7]
            rw [hp1] at hx1
            have hst0 := HN1.out (by rw [HRL.out]; exact hr7)
            subst hst0
            have HGB := hidOf2 (show G ++ R.take 7 = B by rw [List.take_of_length_le (by rw [HRL.out]; exact hr7)]; exact HG.out.1)
            clear hp1
            go_upto_region 23 with (first | (refine opE rfl (exec_slice8n (k := z) (lo := 1) (hi := 1 + m) (n := m) (c := 7) rfl rfl rfl (by first | rfl | exact congrArg (Value.int .i64) hsub) (by omega) (by omega) (by decide) (by omega) (by decide) _) ?_) | (at_builtin; refine app_w rfl _ _ rfl (z + 1) (.slice ag ng cg) G rfl hown _ (R.take 7) rfl HB8.out (by have := HG2.out; have := HT7.out; omega) hze ?_; intro gv' w9 ho hgr hbk))
            have HL9 := hidOf2 (HL8.out.app ho hgr hbk)
            have c9 := (World.cell?_of_block (a := ⟨z, 0, none⟩) (hgr.block z HY8.out.lt (fun e => HNZ.out e.symm))).trans c8
            obtain ⟨ag2, cg2, hv⟩ := own_shape5 ho
            subst hv
            have htx9 := (bytes_of_own ho).text
            rw [HGB.out, HTB.out] at htx9
            have htxb := HT2.out w9 HL9.out.jt.below
            obtain ⟨_, cY1, _⟩ := HL9.out.jt.cY
            have hD := Doing_any HL9.out.jt.pv.head
            have HB9 := hidOf2 HL9.out.jt.below
            obtain ⟨ng2, hng2⟩ : ∃ n, (G ++ R.take 7).length = n := ⟨_, rfl⟩
            have hng3 := hng2
            rw [HGB.out] at hng3
            rw [hng3] at htx9
            rw [hng2]
            clear ho hgr hbk HL8 HL9 c8 hown HB8 hx7 hs8 hsub hng2 hng3
            go_wp2_with fail
            refine hD.mono ?_
            rintro e x1 ⟨rfl, hx1'⟩
            rw [hx1']
            clear hx1' x1 hD
            go_wp2_with fail
            refine (HLV _).mono ?_
            rintro e w14 ⟨rfl, b14⟩
            have HO := hidOf2 (HB9.out.trans (b14.mono HB9.out.size))
            clear b14
            go_wp2
            go_ret
            exact ⟨rfl, HO.out⟩
        · as_aux_lemma =>
            have hp1 : n0 % 2 = 0 := by rw [HB0'.out, if_neg hr7]
            rw [hp1] at hx1
            have HR2 := hidOf2 (HN2.out (by rw [HRL.out]; omega))
            have HG3 : Hid ((G ++ R.take 7) ++ R.drop 7 = B ∧ (G ++ R.take 7).length = 7 * (k + 1)) := ⟨by rw [List.append_assoc, List.take_append_drop]; exact HG.out.1, by rw [List.length_append, List.length_take, HRL.out, HG.out.2]; omega⟩
            clear hp1
            go_upto_region 23 with (first | (refine opE rfl (exec_slice8n (k := z) (lo := 1) (hi := 1 + m) (n := m) (c := 7) rfl rfl rfl (by first | rfl | exact congrArg (Value.int .i64) hsub) (by omega) (by omega) (by decide) (by omega) (by decide) _) ?_) | (at_builtin; refine app_w rfl _ _ rfl (z + 1) (.slice ag ng cg) G rfl hown _ (R.take 7) rfl HB8.out (by have := HG2.out; have := HT7.out; omega) hze ?_; intro gv' w9 ho hgr hbk))
            have c9 := (World.cell?_of_block (a := ⟨z, 0, none⟩) (hgr.block z HY8.out.lt (fun e => HNZ.out e.symm))).trans c8
            obtain ⟨ag2, cg2, hv⟩ := own_shape5 ho
            subst hv
            have HL9 := hidOf2 (HL8.out.app ho hgr hbk)
            obtain ⟨ng2, hng2⟩ : ∃ n, (G ++ R.take 7).length = n := ⟨_, rfl⟩
            rw [hng2] at HL9 ⊢
            have HRD := hidOf2 (show (R.drop 7).length = rl - 7 by rw [List.length_drop, HRL.out])
            clear ho hgr hbk HL8 c8 hown HB8 hx7 hs8 hsub hng2
            go_wp2
            go_roundw
            case rel => exact ⟨k + 1, R.drop 7, G ++ R.take 7, ag2, ng2, cg2, u', st', ao3, cp3, ap3, cq3, by rw [HRD.out]; omega, by go_num, rfl, .inl ⟨by omega, rfl⟩, HG3, HL9, by have := HR2.out; rw [hpar] at this; rw [show (k + 1) % 2 = 1 - 1 by omega]; exact this⟩
            case measure => simp [intOf]; omega
end Go.Proofs.YtahfnknbmikmkaaGreat
