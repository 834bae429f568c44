/- An act, whichever; both dictionaries at first. -/
import Derived.Test.YtdcogpadioeclaaXa1
namespace Go.Proofs.Ytdcogpadioeclaa
open Go.RowKit Go.Proofs.Ty Go.Sort Go.Lib
set_option linter.unusedVariables false
set_option maxRecDepth 1000000
set_option linter.unusedSimpArgs false
set_option maxHeartbeats 8000000 in
theorem does_2 {w : World} {X D R E : Nat} {its : List Im} {x : World} (h : Sm w X D R E its its x) (hok : ∀ i ∈ its, Ok i) (A : A8) (hk : A.kind = 2) (hBy : Bytes w A.bv A.bl) (hCp : Cp A.bv) (hbl : A.bl.length ≤ 140737488351232) :
    Calls Try.prog 10 #[.pointer (some ⟨X, 0, none⟩), .agg A.arr] x (DoesPost w X D R E its) := by
  obtain ⟨aob, cpb, hbv⟩ := bytes_shape hBy
  obtain ⟨q, hq⟩ : ∃ q, x.heap.size = q := ⟨_, rfl⟩
  have a0 : Aq q A (x.alloc (.cells A.arr 35)) := hq ▸ heap_alloc_new x _
  have b0 : Below x.heap.size x (x.alloc (.cells A.arr 35)) := (Below.refl _ _).alloc (Nat.le_refl _) _
  have HM0 := hidOf2 (h.next b0)
  have HBY := hidOf2 hBy
  have HCP := hidOf2 hCp
  have HAP := hidOf2 h.dct.apart
  have HLN := hidOf2 h.len
  have HOK := hidOf2 hok
  have HAc : Hid (∀ y, Aq q A y → y.cell? ⟨q, 1, none⟩ = some (.int .u16 A.ix) ∧ y.cell? ⟨q, 2, none⟩ = some (.int .u8 A.sb) ∧ y.cell? ⟨q, 3, none⟩ = some (.slice aob A.bl.length cpb)) := fun y h => by
    have h2 := Aq.c h
    rw [hbv] at h2
    exact h2
  have HK0 : Hid (∀ y, Aq q A y → y.cell? ⟨q, 0, none⟩ = some (.int .i64 A.kind)) := fun y h => Lib.cell_of_heap h 0
  clear h hok b0 hCp
  go_enter Try.func10, Try.ntmps10
  go_upto_region 1 with fail
  generalize x.alloc (.cells A.arr 35) = w0 at *
  try simp only [hq]
  have bB : Below w0.heap.size w0 (w0.alloc (.cells #[] 5)) := (Below.refl _ _).alloc (Nat.le_refl _) _
  have c3 := (HAc.out _ (a0.next bB)).2.2
  have hown := own_empty w0
  have hBx := hBy.below ((HM0.out.next bB).below)
  rw [hbv] at hBx
  have hl0 : ([] : List UInt8).length + A.bl.length ≤ 140737488355328 := by simp; omega
  go_upto_region 2 with (first | (refine append_bytes2 rfl _ _ rfl w0.heap.size _ [] rfl hown _ A.bl rfl hBx hl0 bB.size ?_; intro v5 w1 P5 G5 _; rw [List.nil_append] at P5; have B1 : Below w0.heap.size w0 w1 := bB.grown G5 bB.size (own_lt hown); have HT5 := hidOf2 (bytes_of_own P5); have HC5 := hidOf2 (own_cp P5); obtain ⟨a5, c5, hv5⟩ := own_shape5 P5; subst hv5; have HM1 := hidOf2 (HM0.out.next B1); have HA1 := hidOf2 (a0.next B1); clear P5 G5 B1 hown hBx c3 bB a0 HM0 hl0))
  clear hBy
  rw [hbv] at HBY HCP
  have k0 := HK0.out _ HA1.out
  rw [hk] at k0
  have HSS : Hid (∀ y, Below w1.heap.size w1 y → (fun y => y.cell? ⟨X, 0, none⟩ = some (.pointer (some ⟨D, 0, none⟩)) ∧ y.cell? ⟨X, 1, none⟩ = some (.pointer (some ⟨E, 0, none⟩)) ∧ y.cell? ⟨q, 1, none⟩ = some (.int .u16 A.ix) ∧ y.cell? ⟨q, 2, none⟩ = some (.int .u8 A.sb) ∧ y.cell? ⟨q, 3, none⟩ = some (.slice aob A.bl.length cpb)) y) := fun y hb => ⟨(HM1.out.next hb).cX.1, (HM1.out.next hb).cX.2, (HAc.out _ (HA1.out.next hb)).1, (HAc.out _ (HA1.out.next hb)).2.1, (HAc.out _ (HA1.out.next hb)).2.2⟩
  have HGT := hidOf2 (fun y (hb : Below w1.heap.size w1 y) => Get_any (HM1.out.next hb).dct A.ix A.sb A.hix A.hsb)
  have c0 : Below w1.heap.size w1 w1.drew := bdr (Below.refl _ _) 1
  have S0 := HSS.out _ c0
  go_upto_region 10 with fail
  refine wp_region_held (S := fun y => y.cell? ⟨X, 0, none⟩ = some (.pointer (some ⟨D, 0, none⟩)) ∧ y.cell? ⟨X, 1, none⟩ = some (.pointer (some ⟨E, 0, none⟩)) ∧ y.cell? ⟨q, 1, none⟩ = some (.int .u16 A.ix) ∧ y.cell? ⟨q, 2, none⟩ = some (.int .u8 A.sb) ∧ y.cell? ⟨q, 3, none⟩ = some (.slice aob A.bl.length cpb)) (by kernel_rfl) ?_
  change wpAnyH _ _ _ _ _ _ _ _ w1.drew
  refine wpAnyH_take (i := 0) (v := (.pointer (some ⟨X, 0, none⟩))) rfl (by kernel_rfl) (by kernel_rfl) (by kernel_rfl) (fun _ _ _ h => h) (.inl ⟨rfl, fun _ hS => rfl⟩) S0 ?_
  simp only [List.getElem_toArray, List.getElem_cons_succ, List.getElem_cons_zero, Act.put, List.setIfInBounds_toArray, List.set_cons_succ, List.set_cons_zero]
  refine wpAnyH_take (i := 1) (v := (.pointer (some ⟨X, 0, none⟩))) rfl (by kernel_rfl) (by kernel_rfl) (by kernel_rfl) (fun _ _ _ h => h) (.inl ⟨rfl, fun _ hS => by simp [execOp, go_sem, Act.eval]⟩) S0 ?_
  simp only [List.getElem_toArray, List.getElem_cons_succ, List.getElem_cons_zero, Act.put, List.setIfInBounds_toArray, List.set_cons_succ, List.set_cons_zero]
  refine wpAnyH_take (i := 2) (v := (.pointer (some ⟨X, 0, none⟩))) rfl (by kernel_rfl) (by kernel_rfl) (by kernel_rfl) (fun _ _ _ h => h) (.inl ⟨rfl, fun _ hS => by simp [execOp, go_sem, Act.eval]⟩) S0 ?_
  simp only [List.getElem_toArray, List.getElem_cons_succ, List.getElem_cons_zero, Act.put, List.setIfInBounds_toArray, List.set_cons_succ, List.set_cons_zero]
  refine wpAnyH_take (i := 3) (v := (.pointer (some ⟨D, 0, none⟩))) rfl (by kernel_rfl) (by kernel_rfl) (by kernel_rfl) (fun _ _ _ h => h) (.inl ⟨rfl, fun _ hS => exec_load rfl rfl (load_pd _ _ _ _ hS.1)⟩) S0 ?_
  simp only [List.getElem_toArray, List.getElem_cons_succ, List.getElem_cons_zero, Act.put, List.setIfInBounds_toArray, List.set_cons_succ, List.set_cons_zero]
  refine wpAnyH_take (i := 4) (v := (.pointer (some ⟨q, 1, none⟩))) rfl (by kernel_rfl) (by kernel_rfl) (by kernel_rfl) (fun _ _ _ h => h) (.inl ⟨rfl, fun _ hS => by simp [execOp, go_sem, Act.eval]⟩) S0 ?_
  simp only [List.getElem_toArray, List.getElem_cons_succ, List.getElem_cons_zero, Act.put, List.setIfInBounds_toArray, List.set_cons_succ, List.set_cons_zero]
  refine wpAnyH_take (i := 5) (v := (.int .u16 A.ix)) rfl (by kernel_rfl) (by kernel_rfl) (by kernel_rfl) (fun _ _ _ h => h) (.inl ⟨rfl, fun _ hS => exec_load rfl rfl (load_u16 _ _ _ _ hS.2.2.1)⟩) S0 ?_
  simp only [List.getElem_toArray, List.getElem_cons_succ, List.getElem_cons_zero, Act.put, List.setIfInBounds_toArray, List.set_cons_succ, List.set_cons_zero]
  refine wpAnyH_take (i := 6) (v := (.pointer (some ⟨q, 2, none⟩))) rfl (by kernel_rfl) (by kernel_rfl) (by kernel_rfl) (fun _ _ _ h => h) (.inl ⟨rfl, fun _ hS => by simp [execOp, go_sem, Act.eval]⟩) S0 ?_
  simp only [List.getElem_toArray, List.getElem_cons_succ, List.getElem_cons_zero, Act.put, List.setIfInBounds_toArray, List.set_cons_succ, List.set_cons_zero]
  refine wpAnyH_take (i := 7) (v := (.int .u8 A.sb)) rfl (by kernel_rfl) (by kernel_rfl) (by kernel_rfl) (fun _ _ _ h => h) (.inl ⟨rfl, fun _ hS => exec_load rfl rfl (load_u8 _ _ _ _ hS.2.2.2.1)⟩) S0 ?_
  simp only [List.getElem_toArray, List.getElem_cons_succ, List.getElem_cons_zero, Act.put, List.setIfInBounds_toArray, List.set_cons_succ, List.set_cons_zero]
  refine wpAnyH_all (rs := [8, 12]) (by kernel_rfl) (by simp) ?_
  intro k hk
  simp only [List.mem_cons, List.mem_nil_iff, or_false] at hk
  rcases hk with rfl | rfl
  · refine wpOp_run rfl rfl (wp_call_fn 15 #[.pointer (some ⟨D, 0, none⟩), .int .u16 A.ix, .int .u8 A.sb] (by simp [execOp, go_sem, Act.eval, resolve, invoke, enterPG]) ?_)
    refine (HGT.out w1.drew c0).mono ?_
    rintro e u1 ⟨rfl, b1⟩
    have c1 := c0.trans (b1.mono c0.size)
    have s1 := HSS.out _ c1
    refine ⟨s1, ?_⟩
    simp only [List.getElem_toArray, List.getElem_cons_succ, List.getElem_cons_zero, Act.put, List.setIfInBounds_toArray, List.set_cons_succ, List.set_cons_zero]
    refine wpAnyH_take (i := 9) (v := (.tuple #[.agg (getV its A.ix A.sb).arr, .int .i64 (getE its A.ix A.sb)])) rfl (by kernel_rfl) (by kernel_rfl) (by kernel_rfl) (fun _ _ _ h => h) (.inl ⟨rfl, fun _ hS => rfl⟩) s1 ?_
    simp only [List.getElem_toArray, List.getElem_cons_succ, List.getElem_cons_zero, Act.put, List.setIfInBounds_toArray, List.set_cons_succ, List.set_cons_zero]
    refine wpAnyH_take (i := 10) (v := (.agg (getV its A.ix A.sb).arr)) rfl (by kernel_rfl) (by kernel_rfl) (by kernel_rfl) (fun _ _ _ h => h) (.inl ⟨rfl, fun _ hS => by simp [execOp, go_sem, Act.eval]⟩) s1 ?_
    simp only [List.getElem_toArray, List.getElem_cons_succ, List.getElem_cons_zero, Act.put, List.setIfInBounds_toArray, List.set_cons_succ, List.set_cons_zero]
    refine wpAnyH_take (i := 11) (v := (.int .i64 (getE its A.ix A.sb))) rfl (by kernel_rfl) (by kernel_rfl) (by kernel_rfl) (fun _ _ _ h => h) (.inl ⟨rfl, fun _ hS => by simp [execOp, go_sem, Act.eval]⟩) s1 ?_
    simp only [List.getElem_toArray, List.getElem_cons_succ, List.getElem_cons_zero, Act.put, List.setIfInBounds_toArray, List.set_cons_succ, List.set_cons_zero]
    refine wpAnyH_all (rs := [12]) (by kernel_rfl) (by simp) ?_
    intro k hk
    simp only [List.mem_cons, List.mem_nil_iff, or_false] at hk
    subst hk
    refine wpOp_run rfl rfl (wp_allocV rfl ?_)
    obtain ⟨q2, hqv⟩ : ∃ q, u1.heap.size = q := ⟨_, rfl⟩
    have g2 := Va.new u1 Vl.nul
    have c2 := c1.alloc c1.size (.cells Vl.nul.arr 33)
    have s2 := HSS.out _ c2
    have hqr : w1.heap.size ≤ q2 := by rw [← hqv]; exact c1.size
    rw [hqv] at g2 ⊢
    generalize u1.alloc (.cells Vl.nul.arr 33) = u2 at *
    refine ⟨s2, ?_⟩
    simp only [List.getElem_toArray, List.getElem_cons_succ, List.getElem_cons_zero, Act.put, List.setIfInBounds_toArray, List.set_cons_succ, List.set_cons_zero]
    refine wpAnyH_all (rs := [13]) (by kernel_rfl) (by simp) ?_
    intro k hk
    simp only [List.mem_cons, List.mem_nil_iff, or_false] at hk
    subst hk
    refine wpOp_run rfl rfl (wp_store_row 33 _ _ rfl q2 (getV its A.ix A.sb).arr rfl rfl 33 Vl.nul.arr g2 (by rw [Vl.arr_size]; exact infoV) (by rw [Vl.arr_size, Vl.arr_size]) (getV its A.ix A.sb).one ?_)
    have gZ := g2.row (getV its A.ix A.sb)
    have cZ := below_row c2 hqr c2.size (q := q2) (getV its A.ix A.sb).arr
    have sZ := HSS.out _ cZ
    refine ⟨sZ, ?_⟩
    simp only [List.getElem_toArray, List.getElem_cons_succ, List.getElem_cons_zero, Act.put, List.setIfInBounds_toArray, List.set_cons_succ, List.set_cons_zero]
    refine wpAnyH_take (i := 14) (v := (.int .i64 (getE its A.ix A.sb))) rfl (by kernel_rfl) (by kernel_rfl) (by kernel_rfl) (fun _ _ _ h => h) (.inl ⟨rfl, fun _ hS => rfl⟩) sZ ?_
    simp only [List.getElem_toArray, List.getElem_cons_succ, List.getElem_cons_zero, Act.put, List.setIfInBounds_toArray, List.set_cons_succ, List.set_cons_zero]
    refine wpAnyH_done (by kernel_rfl) ?_ _
    have M2 := HM1.out.next cZ
    have A2 := HA1.out.next cZ
    have G2 := hidOf2 gZ
    clear s1 s2 sZ gZ cZ S0 HSS HGT c0
    generalize u2.setRow q2 (getV its A.ix A.sb).arr = w2 at *
    have M11d := M2.next (bdr (Below.refl _ w2) 1)
    have A11d : Aq q A w2.drew := A2.next (bdr (Below.refl _ w2) 1)
    have M11e : Sm w X D R E its its w2.drew := M11d
    have S11 := (show (fun y => y.cell? ⟨X, 0, none⟩ = some (.pointer (some ⟨D, 0, none⟩)) ∧ y.cell? ⟨X, 1, none⟩ = some (.pointer (some ⟨E, 0, none⟩)) ∧ y.cell? ⟨q, 1, none⟩ = some (.int .u16 A.ix) ∧ y.cell? ⟨q, 2, none⟩ = some (.int .u8 A.sb) ∧ y.cell? ⟨q, 3, none⟩ = some (.slice aob A.bl.length cpb)) w2.drew from ⟨M11d.cX.1, M11d.cX.2, (HAc.out _ A11d).1, (HAc.out _ A11d).2.1, (HAc.out _ A11d).2.2⟩)
    go_upto_region 11 with fail
    refine wp_region_held (S := fun y => y.cell? ⟨X, 0, none⟩ = some (.pointer (some ⟨D, 0, none⟩)) ∧ y.cell? ⟨X, 1, none⟩ = some (.pointer (some ⟨E, 0, none⟩)) ∧ y.cell? ⟨q, 1, none⟩ = some (.int .u16 A.ix) ∧ y.cell? ⟨q, 2, none⟩ = some (.int .u8 A.sb) ∧ y.cell? ⟨q, 3, none⟩ = some (.slice aob A.bl.length cpb)) (by kernel_rfl) ?_
    change wpAnyH _ _ _ _ _ _ _ _ w2.drew
    refine wpAnyH_take (i := 0) (v := (.pointer (some ⟨X, 0, none⟩))) rfl (by kernel_rfl) (by kernel_rfl) (by kernel_rfl) (fun _ _ _ h => h) (.inl ⟨rfl, fun _ hS => rfl⟩) S11 ?_
    simp only [List.getElem_toArray, List.getElem_cons_succ, List.getElem_cons_zero, Act.put, List.setIfInBounds_toArray, List.set_cons_succ, List.set_cons_zero]
    refine wpAnyH_take (i := 1) (v := (.pointer (some ⟨X, 0, none⟩))) rfl (by kernel_rfl) (by kernel_rfl) (by kernel_rfl) (fun _ _ _ h => h) (.inl ⟨rfl, fun _ hS => by simp [execOp, go_sem, Act.eval]⟩) S11 ?_
    simp only [List.getElem_toArray, List.getElem_cons_succ, List.getElem_cons_zero, Act.put, List.setIfInBounds_toArray, List.set_cons_succ, List.set_cons_zero]
    refine wpAnyH_take (i := 2) (v := (.pointer (some ⟨X, 1, none⟩))) rfl (by kernel_rfl) (by kernel_rfl) (by kernel_rfl) (fun _ _ _ h => h) (.inl ⟨rfl, fun _ hS => by simp [execOp, go_sem, Act.eval]⟩) S11 ?_
    simp only [List.getElem_toArray, List.getElem_cons_succ, List.getElem_cons_zero, Act.put, List.setIfInBounds_toArray, List.set_cons_succ, List.set_cons_zero]
    refine wpAnyH_take (i := 3) (v := (.pointer (some ⟨E, 0, none⟩))) rfl (by kernel_rfl) (by kernel_rfl) (by kernel_rfl) (fun _ _ _ h => h) (.inl ⟨rfl, fun _ hS => exec_load rfl rfl (load_rd _ _ _ _ hS.2.1)⟩) S11 ?_
    simp only [List.getElem_toArray, List.getElem_cons_succ, List.getElem_cons_zero, Act.put, List.setIfInBounds_toArray, List.set_cons_succ, List.set_cons_zero]
    refine wpAnyH_take (i := 4) (v := (.pointer (some ⟨q, 1, none⟩))) rfl (by kernel_rfl) (by kernel_rfl) (by kernel_rfl) (fun _ _ _ h => h) (.inl ⟨rfl, fun _ hS => by simp [execOp, go_sem, Act.eval]⟩) S11 ?_
    simp only [List.getElem_toArray, List.getElem_cons_succ, List.getElem_cons_zero, Act.put, List.setIfInBounds_toArray, List.set_cons_succ, List.set_cons_zero]
    refine wpAnyH_take (i := 5) (v := (.int .u16 A.ix)) rfl (by kernel_rfl) (by kernel_rfl) (by kernel_rfl) (fun _ _ _ h => h) (.inl ⟨rfl, fun _ hS => exec_load rfl rfl (load_u16 _ _ _ _ hS.2.2.1)⟩) S11 ?_
    simp only [List.getElem_toArray, List.getElem_cons_succ, List.getElem_cons_zero, Act.put, List.setIfInBounds_toArray, List.set_cons_succ, List.set_cons_zero]
    refine wpAnyH_take (i := 6) (v := (.pointer (some ⟨q, 2, none⟩))) rfl (by kernel_rfl) (by kernel_rfl) (by kernel_rfl) (fun _ _ _ h => h) (.inl ⟨rfl, fun _ hS => by simp [execOp, go_sem, Act.eval]⟩) S11 ?_
    simp only [List.getElem_toArray, List.getElem_cons_succ, List.getElem_cons_zero, Act.put, List.setIfInBounds_toArray, List.set_cons_succ, List.set_cons_zero]
    refine wpAnyH_take (i := 7) (v := (.int .u8 A.sb)) rfl (by kernel_rfl) (by kernel_rfl) (by kernel_rfl) (fun _ _ _ h => h) (.inl ⟨rfl, fun _ hS => exec_load rfl rfl (load_u8 _ _ _ _ hS.2.2.2.1)⟩) S11 ?_
    simp only [List.getElem_toArray, List.getElem_cons_succ, List.getElem_cons_zero, Act.put, List.setIfInBounds_toArray, List.set_cons_succ, List.set_cons_zero]
    refine wpAnyH_all (rs := [8]) (by kernel_rfl) (by simp) ?_
    intro k hk
    simp only [List.mem_cons, List.mem_nil_iff, or_false] at hk
    subst hk
    refine wpOp_run rfl rfl (wp_call_fn 29 #[.pointer (some ⟨E, 0, none⟩), .int .u16 A.ix, .int .u8 A.sb] (by simp [execOp, go_sem, Act.eval, resolve, invoke, enterQF]) ?_)
    obtain ⟨vL, vV, hrd⟩ := M11e.rd
    refine (QFind_any hrd (by rw [List.length_map]; exact HLN.out) A.ix A.sb).mono ?_
    rintro e u3 ⟨rfl, hu3⟩
    subst hu3
    refine ⟨S11, ?_⟩
    simp only [List.getElem_toArray, List.getElem_cons_succ, List.getElem_cons_zero, Act.put, List.setIfInBounds_toArray, List.set_cons_succ, List.set_cons_zero]
    refine wpAnyH_take (i := 9) (v := (.tuple #[.int .i64 (fiN (its.map Im.e) A.ix A.sb : Nat), .int .u32 (fiC (its.map Im.e) A.ix A.sb : Nat)])) rfl (by kernel_rfl) (by kernel_rfl) (by kernel_rfl) (fun _ _ _ h => h) (.inl ⟨rfl, fun _ hS => rfl⟩) S11 ?_
    simp only [List.getElem_toArray, List.getElem_cons_succ, List.getElem_cons_zero, Act.put, List.setIfInBounds_toArray, List.set_cons_succ, List.set_cons_zero]
    refine wpAnyH_take (i := 10) (v := (.int .i64 (fiN (its.map Im.e) A.ix A.sb : Nat))) rfl (by kernel_rfl) (by kernel_rfl) (by kernel_rfl) (fun _ _ _ h => h) (.inl ⟨rfl, fun _ hS => by simp [execOp, go_sem, Act.eval]⟩) S11 ?_
    simp only [List.getElem_toArray, List.getElem_cons_succ, List.getElem_cons_zero, Act.put, List.setIfInBounds_toArray, List.set_cons_succ, List.set_cons_zero]
    refine wpAnyH_take (i := 11) (v := (.int .u32 (fiC (its.map Im.e) A.ix A.sb : Nat))) rfl (by kernel_rfl) (by kernel_rfl) (by kernel_rfl) (fun _ _ _ h => h) (.inl ⟨rfl, fun _ hS => by simp [execOp, go_sem, Act.eval]⟩) S11 ?_
    simp only [List.getElem_toArray, List.getElem_cons_succ, List.getElem_cons_zero, Act.put, List.setIfInBounds_toArray, List.set_cons_succ, List.set_cons_zero]
    refine wpAnyH_take (i := 12) (v := (.int .i64 (fiN (its.map Im.e) A.ix A.sb : Nat))) rfl (by kernel_rfl) (by kernel_rfl) (by kernel_rfl) (fun _ _ _ h => h) (.inl ⟨rfl, fun _ hS => rfl⟩) S11 ?_
    simp only [List.getElem_toArray, List.getElem_cons_succ, List.getElem_cons_zero, Act.put, List.setIfInBounds_toArray, List.set_cons_succ, List.set_cons_zero]
    refine wpAnyH_take (i := 13) (v := (.int .u32 (fiC (its.map Im.e) A.ix A.sb : Nat))) rfl (by kernel_rfl) (by kernel_rfl) (by kernel_rfl) (fun _ _ _ h => h) (.inl ⟨rfl, fun _ hS => rfl⟩) S11 ?_
    simp only [List.getElem_toArray, List.getElem_cons_succ, List.getElem_cons_zero, Act.put, List.setIfInBounds_toArray, List.set_cons_succ, List.set_cons_zero]
    refine wpAnyH_done (by kernel_rfl) ?_ _
    have M3 : Sm w X D R E its its w2.drew := M11e
    have A3 : Aq q A w2.drew := A11d
    have G3 := hidOf2 (show Va q2 (getV its A.ix A.sb) w2.drew from G2.out)
    clear M11d M11e A11d S11 G2
    generalize w2.drew = w3 at *
    cases hf : fnd its A.ix A.sb with
    | none =>
      obtain ⟨f1, f2⟩ := fi_none hf
      have hge : getE its A.ix A.sb = 4 := by unfold getE; rw [hf]
      have HF := hidOf2 (doesPost M3 HOK.out ⟨rfl, rfl⟩)
      rw [f1, f2, hge]
      have d1 : ((noc its A.ix : Int) != 0) = true := by have := noc_ne its A.ix; simp; omega
      generalize noc its A.ix = NC at *
      clear M3 A3 G3 hf f1 f2 hge hrd
      go_wp2
      go_ret
      exact HF.out
    | some i =>
      obtain ⟨j, hj, e1, f1, f2⟩ := fi_some hf
      have hge : getE its A.ix A.sb = 0 := by unfold getE; rw [hf]
      have hgv : getV its A.ix A.sb = i.v := by unfold getV; rw [hf]
      obtain ⟨lb, lo, cL, vb, vo, cV, q1, q3, hlb, hvb, rL, rV⟩ := hrd.atI hj
      subst q1
      subst q3
      rw [e1] at rV
      rw [f1, f2, hge]
      rw [hgv] at G3 ⊢
      have S14 : w3.drew.cell? ⟨X, 1, none⟩ = some (.pointer (some ⟨E, 0, none⟩)) ∧ w3.drew.cell? ⟨E, 1, none⟩ = some (.slice (some ⟨vb, vo, none⟩) its.length cV) ∧ Va q2 i.v w3.drew ∧ w3.drew.rangeAt vb (vo + j * 3) (vlC i.v) := ⟨M3.cX.2, hrd.c.2, G3.out, rV⟩
      clear hf e1 f1 f2 hge hgv rL rV hrd G3 A3 hlb hvb
      go_upto_region 14 with fail
      refine wp_region_held (S := fun y => y.cell? ⟨X, 1, none⟩ = some (.pointer (some ⟨E, 0, none⟩)) ∧ y.cell? ⟨E, 1, none⟩ = some (.slice (some ⟨vb, vo, none⟩) its.length cV) ∧ Va q2 i.v y ∧ y.rangeAt vb (vo + j * 3) (vlC i.v)) (by kernel_rfl) ?_
      change wpAnyH _ _ _ _ _ _ _ _ w3.drew
      refine wpAnyH_take (i := 0) (v := (.int .i64 0)) rfl (by kernel_rfl) (by kernel_rfl) (by kernel_rfl) (fun _ _ _ h => h) (.inl ⟨rfl, fun _ hS => rfl⟩) S14 ?_
      simp only [List.getElem_toArray, List.getElem_cons_succ, List.getElem_cons_zero, Act.put, List.setIfInBounds_toArray, List.set_cons_succ, List.set_cons_zero]
      refine wpAnyH_take (i := 1) (v := (.bool true)) rfl (by kernel_rfl) (by kernel_rfl) (by kernel_rfl) (fun _ _ _ h => h) (.inl ⟨rfl, fun _ hS => by simp [execOp, go_sem, Act.eval]⟩) S14 ?_
      simp only [List.getElem_toArray, List.getElem_cons_succ, List.getElem_cons_zero, Act.put, List.setIfInBounds_toArray, List.set_cons_succ, List.set_cons_zero]
      refine wpAnyH_take (i := 2) (v := (.bool true)) rfl (by kernel_rfl) (by kernel_rfl) (by kernel_rfl) (fun _ _ _ h => h) (.inl ⟨rfl, fun _ hS => rfl⟩) S14 ?_
      simp only [List.getElem_toArray, List.getElem_cons_succ, List.getElem_cons_zero, Act.put, List.setIfInBounds_toArray, List.set_cons_succ, List.set_cons_zero]
      refine wpAnyH_take (i := 3) (v := (.agg i.v.arr)) rfl (by kernel_rfl) (by kernel_rfl) (by kernel_rfl) (fun _ _ _ h => h) (.inl ⟨rfl, fun _ hS => exec_load rfl rfl hS.2.2.1.load⟩) S14 ?_
      simp only [List.getElem_toArray, List.getElem_cons_succ, List.getElem_cons_zero, Act.put, List.setIfInBounds_toArray, List.set_cons_succ, List.set_cons_zero]
      refine wpAnyH_take (i := 4) (v := (.pointer (some ⟨X, 0, none⟩))) rfl (by kernel_rfl) (by kernel_rfl) (by kernel_rfl) (fun _ _ _ h => h) (.inl ⟨rfl, fun _ hS => rfl⟩) S14 ?_
      simp only [List.getElem_toArray, List.getElem_cons_succ, List.getElem_cons_zero, Act.put, List.setIfInBounds_toArray, List.set_cons_succ, List.set_cons_zero]
      refine wpAnyH_take (i := 5) (v := (.pointer (some ⟨X, 0, none⟩))) rfl (by kernel_rfl) (by kernel_rfl) (by kernel_rfl) (fun _ _ _ h => h) (.inl ⟨rfl, fun _ hS => by simp [execOp, go_sem, Act.eval]⟩) S14 ?_
      simp only [List.getElem_toArray, List.getElem_cons_succ, List.getElem_cons_zero, Act.put, List.setIfInBounds_toArray, List.set_cons_succ, List.set_cons_zero]
      refine wpAnyH_take (i := 6) (v := (.pointer (some ⟨X, 1, none⟩))) rfl (by kernel_rfl) (by kernel_rfl) (by kernel_rfl) (fun _ _ _ h => h) (.inl ⟨rfl, fun _ hS => by simp [execOp, go_sem, Act.eval]⟩) S14 ?_
      simp only [List.getElem_toArray, List.getElem_cons_succ, List.getElem_cons_zero, Act.put, List.setIfInBounds_toArray, List.set_cons_succ, List.set_cons_zero]
      refine wpAnyH_take (i := 7) (v := (.pointer (some ⟨E, 0, none⟩))) rfl (by kernel_rfl) (by kernel_rfl) (by kernel_rfl) (fun _ _ _ h => h) (.inl ⟨rfl, fun _ hS => exec_load rfl rfl (load_rd _ _ _ _ hS.1)⟩) S14 ?_
      simp only [List.getElem_toArray, List.getElem_cons_succ, List.getElem_cons_zero, Act.put, List.setIfInBounds_toArray, List.set_cons_succ, List.set_cons_zero]
      refine wpAnyH_take (i := 8) (v := (.pointer (some ⟨E, 0, none⟩))) rfl (by kernel_rfl) (by kernel_rfl) (by kernel_rfl) (fun _ _ _ h => h) (.inl ⟨rfl, fun _ hS => by simp [execOp, go_sem, Act.eval]⟩) S14 ?_
      simp only [List.getElem_toArray, List.getElem_cons_succ, List.getElem_cons_zero, Act.put, List.setIfInBounds_toArray, List.set_cons_succ, List.set_cons_zero]
      refine wpAnyH_take (i := 9) (v := (.pointer (some ⟨E, 1, none⟩))) rfl (by kernel_rfl) (by kernel_rfl) (by kernel_rfl) (fun _ _ _ h => h) (.inl ⟨rfl, fun _ hS => by simp [execOp, go_sem, Act.eval]⟩) S14 ?_
      simp only [List.getElem_toArray, List.getElem_cons_succ, List.getElem_cons_zero, Act.put, List.setIfInBounds_toArray, List.set_cons_succ, List.set_cons_zero]
      refine wpAnyH_take (i := 10) (v := (.slice (some ⟨vb, vo, none⟩) its.length cV)) rfl (by kernel_rfl) (by kernel_rfl) (by kernel_rfl) (fun _ _ _ h => h) (.inl ⟨rfl, fun _ hS => exec_load rfl rfl (load_vals _ _ _ _ _ _ hS.2.1)⟩) S14 ?_
      simp only [List.getElem_toArray, List.getElem_cons_succ, List.getElem_cons_zero, Act.put, List.setIfInBounds_toArray, List.set_cons_succ, List.set_cons_zero]
      refine wpAnyH_take (i := 11) (v := (.int .i64 (j : Int))) rfl (by kernel_rfl) (by kernel_rfl) (by kernel_rfl) (fun _ _ _ h => h) (.inl ⟨rfl, fun _ hS => rfl⟩) S14 ?_
      simp only [List.getElem_toArray, List.getElem_cons_succ, List.getElem_cons_zero, Act.put, List.setIfInBounds_toArray, List.set_cons_succ, List.set_cons_zero]
      refine wpAnyH_take (i := 12) (v := (.pointer (some ⟨vb, vo + j * 3, none⟩))) rfl (by kernel_rfl) (by kernel_rfl) (by kernel_rfl) (fun _ _ _ h => h) (.inl ⟨rfl, fun _ hS => exec_idxV rfl rfl rfl hj _⟩) S14 ?_
      simp only [List.getElem_toArray, List.getElem_cons_succ, List.getElem_cons_zero, Act.put, List.setIfInBounds_toArray, List.set_cons_succ, List.set_cons_zero]
      refine wpAnyH_take (i := 13) (v := (.agg i.v.arr)) rfl (by kernel_rfl) (by kernel_rfl) (by kernel_rfl) (fun _ _ _ h => h) (.inl ⟨rfl, fun _ hS => exec_load rfl rfl (run_ldV hS.2.2.2)⟩) S14 ?_
      simp only [List.getElem_toArray, List.getElem_cons_succ, List.getElem_cons_zero, Act.put, List.setIfInBounds_toArray, List.set_cons_succ, List.set_cons_zero]
      refine wpAnyH_take (i := 14) (v := (.bool true)) rfl (by kernel_rfl) (by kernel_rfl) (by kernel_rfl) (fun _ _ _ h => h) (.inl ⟨rfl, fun _ hS => exec_eqV i.v rfl rfl rfl _⟩) S14 ?_
      simp only [List.getElem_toArray, List.getElem_cons_succ, List.getElem_cons_zero, Act.put, List.setIfInBounds_toArray, List.set_cons_succ, List.set_cons_zero]
      refine wpAnyH_take (i := 15) (v := (.bool true)) rfl (by kernel_rfl) (by kernel_rfl) (by kernel_rfl) (fun _ _ _ h => h) (.inl ⟨rfl, fun _ hS => by simp [execOp, go_sem, Act.eval]⟩) S14 ?_
      simp only [List.getElem_toArray, List.getElem_cons_succ, List.getElem_cons_zero, Act.put, List.setIfInBounds_toArray, List.set_cons_succ, List.set_cons_zero]
      refine wpAnyH_take (i := 16) (v := (.bool true)) rfl (by kernel_rfl) (by kernel_rfl) (by kernel_rfl) (fun _ _ _ h => h) (.inl ⟨rfl, fun _ hS => rfl⟩) S14 ?_
      simp only [List.getElem_toArray, List.getElem_cons_succ, List.getElem_cons_zero, Act.put, List.setIfInBounds_toArray, List.set_cons_succ, List.set_cons_zero]
      refine wpAnyH_done (by kernel_rfl) ?_ _
      have HF := hidOf2 (doesPost (M3.next (bdr (Below.refl _ _) 1)) HOK.out ⟨rfl, rfl⟩)
      clear S14 M3
      go_wp2
      go_ret
      exact HF.out
  · refine wpOp_run rfl rfl (wp_allocV rfl ?_)
    obtain ⟨q2, hqv⟩ : ∃ q, w1.drew.heap.size = q := ⟨_, rfl⟩
    have g1 := Va.new w1.drew Vl.nul
    have c1 := c0.alloc c0.size (.cells Vl.nul.arr 33)
    have s1 := HSS.out _ c1
    have hqr : w1.heap.size ≤ q2 := by rw [← hqv]; exact c0.size
    rw [hqv] at g1 ⊢
    generalize w1.drew.alloc (.cells Vl.nul.arr 33) = u1 at *
    refine ⟨s1, ?_⟩
    simp only [List.getElem_toArray, List.getElem_cons_succ, List.getElem_cons_zero, Act.put, List.setIfInBounds_toArray, List.set_cons_succ, List.set_cons_zero]
    refine wpAnyH_all (rs := [8]) (by kernel_rfl) (by simp) ?_
    intro k hk
    simp only [List.mem_cons, List.mem_nil_iff, or_false] at hk
    subst hk
    refine wpOp_run rfl rfl (wp_call_fn 15 #[.pointer (some ⟨D, 0, none⟩), .int .u16 A.ix, .int .u8 A.sb] (by simp [execOp, go_sem, Act.eval, resolve, invoke, enterPG]) ?_)
    refine (HGT.out u1 c1).mono ?_
    rintro e u2 ⟨rfl, b2⟩
    have c2 := c1.trans (b2.mono c1.size)
    have s2 := HSS.out _ c2
    have g2 := g1.below b2
    refine ⟨s2, ?_⟩
    simp only [List.getElem_toArray, List.getElem_cons_succ, List.getElem_cons_zero, Act.put, List.setIfInBounds_toArray, List.set_cons_succ, List.set_cons_zero]
    refine wpAnyH_take (i := 9) (v := (.tuple #[.agg (getV its A.ix A.sb).arr, .int .i64 (getE its A.ix A.sb)])) rfl (by kernel_rfl) (by kernel_rfl) (by kernel_rfl) (fun _ _ _ h => h) (.inl ⟨rfl, fun _ hS => rfl⟩) s2 ?_
    simp only [List.getElem_toArray, List.getElem_cons_succ, List.getElem_cons_zero, Act.put, List.setIfInBounds_toArray, List.set_cons_succ, List.set_cons_zero]
    refine wpAnyH_take (i := 10) (v := (.agg (getV its A.ix A.sb).arr)) rfl (by kernel_rfl) (by kernel_rfl) (by kernel_rfl) (fun _ _ _ h => h) (.inl ⟨rfl, fun _ hS => by simp [execOp, go_sem, Act.eval]⟩) s2 ?_
    simp only [List.getElem_toArray, List.getElem_cons_succ, List.getElem_cons_zero, Act.put, List.setIfInBounds_toArray, List.set_cons_succ, List.set_cons_zero]
    refine wpAnyH_take (i := 11) (v := (.int .i64 (getE its A.ix A.sb))) rfl (by kernel_rfl) (by kernel_rfl) (by kernel_rfl) (fun _ _ _ h => h) (.inl ⟨rfl, fun _ hS => by simp [execOp, go_sem, Act.eval]⟩) s2 ?_
    simp only [List.getElem_toArray, List.getElem_cons_succ, List.getElem_cons_zero, Act.put, List.setIfInBounds_toArray, List.set_cons_succ, List.set_cons_zero]
    refine wpAnyH_all (rs := [13]) (by kernel_rfl) (by simp) ?_
    intro k hk
    simp only [List.mem_cons, List.mem_nil_iff, or_false] at hk
    subst hk
    refine wpOp_run rfl rfl (wp_store_row 33 _ _ rfl q2 (getV its A.ix A.sb).arr rfl rfl 33 Vl.nul.arr g2 (by rw [Vl.arr_size]; exact infoV) (by rw [Vl.arr_size, Vl.arr_size]) (getV its A.ix A.sb).one ?_)
    have gZ := g2.row (getV its A.ix A.sb)
    have cZ := below_row c2 hqr c2.size (q := q2) (getV its A.ix A.sb).arr
    have sZ := HSS.out _ cZ
    refine ⟨sZ, ?_⟩
    simp only [List.getElem_toArray, List.getElem_cons_succ, List.getElem_cons_zero, Act.put, List.setIfInBounds_toArray, List.set_cons_succ, List.set_cons_zero]
    refine wpAnyH_take (i := 14) (v := (.int .i64 (getE its A.ix A.sb))) rfl (by kernel_rfl) (by kernel_rfl) (by kernel_rfl) (fun _ _ _ h => h) (.inl ⟨rfl, fun _ hS => rfl⟩) sZ ?_
    simp only [List.getElem_toArray, List.getElem_cons_succ, List.getElem_cons_zero, Act.put, List.setIfInBounds_toArray, List.set_cons_succ, List.set_cons_zero]
    refine wpAnyH_done (by kernel_rfl) ?_ _
    have M2 := HM1.out.next cZ
    have A2 := HA1.out.next cZ
    have G2 := hidOf2 gZ
    clear s1 s2 sZ gZ cZ S0 HSS HGT c0
    generalize u2.setRow q2 (getV its A.ix A.sb).arr = w2 at *
    have M11d := M2.next (bdr (Below.refl _ w2) 1)
    have A11d : Aq q A w2.drew := A2.next (bdr (Below.refl _ w2) 1)
    have M11e : Sm w X D R E its its w2.drew := M11d
    have S11 := (show (fun y => y.cell? ⟨X, 0, none⟩ = some (.pointer (some ⟨D, 0, none⟩)) ∧ y.cell? ⟨X, 1, none⟩ = some (.pointer (some ⟨E, 0, none⟩)) ∧ y.cell? ⟨q, 1, none⟩ = some (.int .u16 A.ix) ∧ y.cell? ⟨q, 2, none⟩ = some (.int .u8 A.sb) ∧ y.cell? ⟨q, 3, none⟩ = some (.slice aob A.bl.length cpb)) w2.drew from ⟨M11d.cX.1, M11d.cX.2, (HAc.out _ A11d).1, (HAc.out _ A11d).2.1, (HAc.out _ A11d).2.2⟩)
    go_upto_region 11 with fail
    refine wp_region_held (S := fun y => y.cell? ⟨X, 0, none⟩ = some (.pointer (some ⟨D, 0, none⟩)) ∧ y.cell? ⟨X, 1, none⟩ = some (.pointer (some ⟨E, 0, none⟩)) ∧ y.cell? ⟨q, 1, none⟩ = some (.int .u16 A.ix) ∧ y.cell? ⟨q, 2, none⟩ = some (.int .u8 A.sb) ∧ y.cell? ⟨q, 3, none⟩ = some (.slice aob A.bl.length cpb)) (by kernel_rfl) ?_
    change wpAnyH _ _ _ _ _ _ _ _ w2.drew
    refine wpAnyH_take (i := 0) (v := (.pointer (some ⟨X, 0, none⟩))) rfl (by kernel_rfl) (by kernel_rfl) (by kernel_rfl) (fun _ _ _ h => h) (.inl ⟨rfl, fun _ hS => rfl⟩) S11 ?_
    simp only [List.getElem_toArray, List.getElem_cons_succ, List.getElem_cons_zero, Act.put, List.setIfInBounds_toArray, List.set_cons_succ, List.set_cons_zero]
    refine wpAnyH_take (i := 1) (v := (.pointer (some ⟨X, 0, none⟩))) rfl (by kernel_rfl) (by kernel_rfl) (by kernel_rfl) (fun _ _ _ h => h) (.inl ⟨rfl, fun _ hS => by simp [execOp, go_sem, Act.eval]⟩) S11 ?_
    simp only [List.getElem_toArray, List.getElem_cons_succ, List.getElem_cons_zero, Act.put, List.setIfInBounds_toArray, List.set_cons_succ, List.set_cons_zero]
    refine wpAnyH_take (i := 2) (v := (.pointer (some ⟨X, 1, none⟩))) rfl (by kernel_rfl) (by kernel_rfl) (by kernel_rfl) (fun _ _ _ h => h) (.inl ⟨rfl, fun _ hS => by simp [execOp, go_sem, Act.eval]⟩) S11 ?_
    simp only [List.getElem_toArray, List.getElem_cons_succ, List.getElem_cons_zero, Act.put, List.setIfInBounds_toArray, List.set_cons_succ, List.set_cons_zero]
    refine wpAnyH_take (i := 3) (v := (.pointer (some ⟨E, 0, none⟩))) rfl (by kernel_rfl) (by kernel_rfl) (by kernel_rfl) (fun _ _ _ h => h) (.inl ⟨rfl, fun _ hS => exec_load rfl rfl (load_rd _ _ _ _ hS.2.1)⟩) S11 ?_
    simp only [List.getElem_toArray, List.getElem_cons_succ, List.getElem_cons_zero, Act.put, List.setIfInBounds_toArray, List.set_cons_succ, List.set_cons_zero]
    refine wpAnyH_take (i := 4) (v := (.pointer (some ⟨q, 1, none⟩))) rfl (by kernel_rfl) (by kernel_rfl) (by kernel_rfl) (fun _ _ _ h => h) (.inl ⟨rfl, fun _ hS => by simp [execOp, go_sem, Act.eval]⟩) S11 ?_
    simp only [List.getElem_toArray, List.getElem_cons_succ, List.getElem_cons_zero, Act.put, List.setIfInBounds_toArray, List.set_cons_succ, List.set_cons_zero]
    refine wpAnyH_take (i := 5) (v := (.int .u16 A.ix)) rfl (by kernel_rfl) (by kernel_rfl) (by kernel_rfl) (fun _ _ _ h => h) (.inl ⟨rfl, fun _ hS => exec_load rfl rfl (load_u16 _ _ _ _ hS.2.2.1)⟩) S11 ?_
    simp only [List.getElem_toArray, List.getElem_cons_succ, List.getElem_cons_zero, Act.put, List.setIfInBounds_toArray, List.set_cons_succ, List.set_cons_zero]
    refine wpAnyH_take (i := 6) (v := (.pointer (some ⟨q, 2, none⟩))) rfl (by kernel_rfl) (by kernel_rfl) (by kernel_rfl) (fun _ _ _ h => h) (.inl ⟨rfl, fun _ hS => by simp [execOp, go_sem, Act.eval]⟩) S11 ?_
    simp only [List.getElem_toArray, List.getElem_cons_succ, List.getElem_cons_zero, Act.put, List.setIfInBounds_toArray, List.set_cons_succ, List.set_cons_zero]
    refine wpAnyH_take (i := 7) (v := (.int .u8 A.sb)) rfl (by kernel_rfl) (by kernel_rfl) (by kernel_rfl) (fun _ _ _ h => h) (.inl ⟨rfl, fun _ hS => exec_load rfl rfl (load_u8 _ _ _ _ hS.2.2.2.1)⟩) S11 ?_
    simp only [List.getElem_toArray, List.getElem_cons_succ, List.getElem_cons_zero, Act.put, List.setIfInBounds_toArray, List.set_cons_succ, List.set_cons_zero]
    refine wpAnyH_all (rs := [8]) (by kernel_rfl) (by simp) ?_
    intro k hk
    simp only [List.mem_cons, List.mem_nil_iff, or_false] at hk
    subst hk
    refine wpOp_run rfl rfl (wp_call_fn 29 #[.pointer (some ⟨E, 0, none⟩), .int .u16 A.ix, .int .u8 A.sb] (by simp [execOp, go_sem, Act.eval, resolve, invoke, enterQF]) ?_)
    obtain ⟨vL, vV, hrd⟩ := M11e.rd
    refine (QFind_any hrd (by rw [List.length_map]; exact HLN.out) A.ix A.sb).mono ?_
    rintro e u3 ⟨rfl, hu3⟩
    subst hu3
    refine ⟨S11, ?_⟩
    simp only [List.getElem_toArray, List.getElem_cons_succ, List.getElem_cons_zero, Act.put, List.setIfInBounds_toArray, List.set_cons_succ, List.set_cons_zero]
    refine wpAnyH_take (i := 9) (v := (.tuple #[.int .i64 (fiN (its.map Im.e) A.ix A.sb : Nat), .int .u32 (fiC (its.map Im.e) A.ix A.sb : Nat)])) rfl (by kernel_rfl) (by kernel_rfl) (by kernel_rfl) (fun _ _ _ h => h) (.inl ⟨rfl, fun _ hS => rfl⟩) S11 ?_
    simp only [List.getElem_toArray, List.getElem_cons_succ, List.getElem_cons_zero, Act.put, List.setIfInBounds_toArray, List.set_cons_succ, List.set_cons_zero]
    refine wpAnyH_take (i := 10) (v := (.int .i64 (fiN (its.map Im.e) A.ix A.sb : Nat))) rfl (by kernel_rfl) (by kernel_rfl) (by kernel_rfl) (fun _ _ _ h => h) (.inl ⟨rfl, fun _ hS => by simp [execOp, go_sem, Act.eval]⟩) S11 ?_
    simp only [List.getElem_toArray, List.getElem_cons_succ, List.getElem_cons_zero, Act.put, List.setIfInBounds_toArray, List.set_cons_succ, List.set_cons_zero]
    refine wpAnyH_take (i := 11) (v := (.int .u32 (fiC (its.map Im.e) A.ix A.sb : Nat))) rfl (by kernel_rfl) (by kernel_rfl) (by kernel_rfl) (fun _ _ _ h => h) (.inl ⟨rfl, fun _ hS => by simp [execOp, go_sem, Act.eval]⟩) S11 ?_
    simp only [List.getElem_toArray, List.getElem_cons_succ, List.getElem_cons_zero, Act.put, List.setIfInBounds_toArray, List.set_cons_succ, List.set_cons_zero]
    refine wpAnyH_take (i := 12) (v := (.int .i64 (fiN (its.map Im.e) A.ix A.sb : Nat))) rfl (by kernel_rfl) (by kernel_rfl) (by kernel_rfl) (fun _ _ _ h => h) (.inl ⟨rfl, fun _ hS => rfl⟩) S11 ?_
    simp only [List.getElem_toArray, List.getElem_cons_succ, List.getElem_cons_zero, Act.put, List.setIfInBounds_toArray, List.set_cons_succ, List.set_cons_zero]
    refine wpAnyH_take (i := 13) (v := (.int .u32 (fiC (its.map Im.e) A.ix A.sb : Nat))) rfl (by kernel_rfl) (by kernel_rfl) (by kernel_rfl) (fun _ _ _ h => h) (.inl ⟨rfl, fun _ hS => rfl⟩) S11 ?_
    simp only [List.getElem_toArray, List.getElem_cons_succ, List.getElem_cons_zero, Act.put, List.setIfInBounds_toArray, List.set_cons_succ, List.set_cons_zero]
    refine wpAnyH_done (by kernel_rfl) ?_ _
    have M3 : Sm w X D R E its its w2.drew := M11e
    have A3 : Aq q A w2.drew := A11d
    have G3 := hidOf2 (show Va q2 (getV its A.ix A.sb) w2.drew from G2.out)
    clear M11d M11e A11d S11 G2
    generalize w2.drew = w3 at *
    cases hf : fnd its A.ix A.sb with
    | none =>
      obtain ⟨f1, f2⟩ := fi_none hf
      have hge : getE its A.ix A.sb = 4 := by unfold getE; rw [hf]
      have HF := hidOf2 (doesPost M3 HOK.out ⟨rfl, rfl⟩)
      rw [f1, f2, hge]
      have d1 : ((noc its A.ix : Int) != 0) = true := by have := noc_ne its A.ix; simp; omega
      generalize noc its A.ix = NC at *
      clear M3 A3 G3 hf f1 f2 hge hrd
      go_wp2
      go_ret
      exact HF.out
    | some i =>
      obtain ⟨j, hj, e1, f1, f2⟩ := fi_some hf
      have hge : getE its A.ix A.sb = 0 := by unfold getE; rw [hf]
      have hgv : getV its A.ix A.sb = i.v := by unfold getV; rw [hf]
      obtain ⟨lb, lo, cL, vb, vo, cV, q1, q3, hlb, hvb, rL, rV⟩ := hrd.atI hj
      subst q1
      subst q3
      rw [e1] at rV
      rw [f1, f2, hge]
      rw [hgv] at G3 ⊢
      have S14 : w3.drew.cell? ⟨X, 1, none⟩ = some (.pointer (some ⟨E, 0, none⟩)) ∧ w3.drew.cell? ⟨E, 1, none⟩ = some (.slice (some ⟨vb, vo, none⟩) its.length cV) ∧ Va q2 i.v w3.drew ∧ w3.drew.rangeAt vb (vo + j * 3) (vlC i.v) := ⟨M3.cX.2, hrd.c.2, G3.out, rV⟩
      clear hf e1 f1 f2 hge hgv rL rV hrd G3 A3 hlb hvb
      go_upto_region 14 with fail
      refine wp_region_held (S := fun y => y.cell? ⟨X, 1, none⟩ = some (.pointer (some ⟨E, 0, none⟩)) ∧ y.cell? ⟨E, 1, none⟩ = some (.slice (some ⟨vb, vo, none⟩) its.length cV) ∧ Va q2 i.v y ∧ y.rangeAt vb (vo + j * 3) (vlC i.v)) (by kernel_rfl) ?_
      change wpAnyH _ _ _ _ _ _ _ _ w3.drew
      refine wpAnyH_take (i := 0) (v := (.int .i64 0)) rfl (by kernel_rfl) (by kernel_rfl) (by kernel_rfl) (fun _ _ _ h => h) (.inl ⟨rfl, fun _ hS => rfl⟩) S14 ?_
      simp only [List.getElem_toArray, List.getElem_cons_succ, List.getElem_cons_zero, Act.put, List.setIfInBounds_toArray, List.set_cons_succ, List.set_cons_zero]
      refine wpAnyH_take (i := 1) (v := (.bool true)) rfl (by kernel_rfl) (by kernel_rfl) (by kernel_rfl) (fun _ _ _ h => h) (.inl ⟨rfl, fun _ hS => by simp [execOp, go_sem, Act.eval]⟩) S14 ?_
      simp only [List.getElem_toArray, List.getElem_cons_succ, List.getElem_cons_zero, Act.put, List.setIfInBounds_toArray, List.set_cons_succ, List.set_cons_zero]
      refine wpAnyH_take (i := 2) (v := (.bool true)) rfl (by kernel_rfl) (by kernel_rfl) (by kernel_rfl) (fun _ _ _ h => h) (.inl ⟨rfl, fun _ hS => rfl⟩) S14 ?_
      simp only [List.getElem_toArray, List.getElem_cons_succ, List.getElem_cons_zero, Act.put, List.setIfInBounds_toArray, List.set_cons_succ, List.set_cons_zero]
      refine wpAnyH_take (i := 3) (v := (.agg i.v.arr)) rfl (by kernel_rfl) (by kernel_rfl) (by kernel_rfl) (fun _ _ _ h => h) (.inl ⟨rfl, fun _ hS => exec_load rfl rfl hS.2.2.1.load⟩) S14 ?_
      simp only [List.getElem_toArray, List.getElem_cons_succ, List.getElem_cons_zero, Act.put, List.setIfInBounds_toArray, List.set_cons_succ, List.set_cons_zero]
      refine wpAnyH_take (i := 4) (v := (.pointer (some ⟨X, 0, none⟩))) rfl (by kernel_rfl) (by kernel_rfl) (by kernel_rfl) (fun _ _ _ h => h) (.inl ⟨rfl, fun _ hS => rfl⟩) S14 ?_
      simp only [List.getElem_toArray, List.getElem_cons_succ, List.getElem_cons_zero, Act.put, List.setIfInBounds_toArray, List.set_cons_succ, List.set_cons_zero]
      refine wpAnyH_take (i := 5) (v := (.pointer (some ⟨X, 0, none⟩))) rfl (by kernel_rfl) (by kernel_rfl) (by kernel_rfl) (fun _ _ _ h => h) (.inl ⟨rfl, fun _ hS => by simp [execOp, go_sem, Act.eval]⟩) S14 ?_
      simp only [List.getElem_toArray, List.getElem_cons_succ, List.getElem_cons_zero, Act.put, List.setIfInBounds_toArray, List.set_cons_succ, List.set_cons_zero]
      refine wpAnyH_take (i := 6) (v := (.pointer (some ⟨X, 1, none⟩))) rfl (by kernel_rfl) (by kernel_rfl) (by kernel_rfl) (fun _ _ _ h => h) (.inl ⟨rfl, fun _ hS => by simp [execOp, go_sem, Act.eval]⟩) S14 ?_
      simp only [List.getElem_toArray, List.getElem_cons_succ, List.getElem_cons_zero, Act.put, List.setIfInBounds_toArray, List.set_cons_succ, List.set_cons_zero]
      refine wpAnyH_take (i := 7) (v := (.pointer (some ⟨E, 0, none⟩))) rfl (by kernel_rfl) (by kernel_rfl) (by kernel_rfl) (fun _ _ _ h => h) (.inl ⟨rfl, fun _ hS => exec_load rfl rfl (load_rd _ _ _ _ hS.1)⟩) S14 ?_
      simp only [List.getElem_toArray, List.getElem_cons_succ, List.getElem_cons_zero, Act.put, List.setIfInBounds_toArray, List.set_cons_succ, List.set_cons_zero]
      refine wpAnyH_take (i := 8) (v := (.pointer (some ⟨E, 0, none⟩))) rfl (by kernel_rfl) (by kernel_rfl) (by kernel_rfl) (fun _ _ _ h => h) (.inl ⟨rfl, fun _ hS => by simp [execOp, go_sem, Act.eval]⟩) S14 ?_
      simp only [List.getElem_toArray, List.getElem_cons_succ, List.getElem_cons_zero, Act.put, List.setIfInBounds_toArray, List.set_cons_succ, List.set_cons_zero]
      refine wpAnyH_take (i := 9) (v := (.pointer (some ⟨E, 1, none⟩))) rfl (by kernel_rfl) (by kernel_rfl) (by kernel_rfl) (fun _ _ _ h => h) (.inl ⟨rfl, fun _ hS => by simp [execOp, go_sem, Act.eval]⟩) S14 ?_
      simp only [List.getElem_toArray, List.getElem_cons_succ, List.getElem_cons_zero, Act.put, List.setIfInBounds_toArray, List.set_cons_succ, List.set_cons_zero]
      refine wpAnyH_take (i := 10) (v := (.slice (some ⟨vb, vo, none⟩) its.length cV)) rfl (by kernel_rfl) (by kernel_rfl) (by kernel_rfl) (fun _ _ _ h => h) (.inl ⟨rfl, fun _ hS => exec_load rfl rfl (load_vals _ _ _ _ _ _ hS.2.1)⟩) S14 ?_
      simp only [List.getElem_toArray, List.getElem_cons_succ, List.getElem_cons_zero, Act.put, List.setIfInBounds_toArray, List.set_cons_succ, List.set_cons_zero]
      refine wpAnyH_take (i := 11) (v := (.int .i64 (j : Int))) rfl (by kernel_rfl) (by kernel_rfl) (by kernel_rfl) (fun _ _ _ h => h) (.inl ⟨rfl, fun _ hS => rfl⟩) S14 ?_
      simp only [List.getElem_toArray, List.getElem_cons_succ, List.getElem_cons_zero, Act.put, List.setIfInBounds_toArray, List.set_cons_succ, List.set_cons_zero]
      refine wpAnyH_take (i := 12) (v := (.pointer (some ⟨vb, vo + j * 3, none⟩))) rfl (by kernel_rfl) (by kernel_rfl) (by kernel_rfl) (fun _ _ _ h => h) (.inl ⟨rfl, fun _ hS => exec_idxV rfl rfl rfl hj _⟩) S14 ?_
      simp only [List.getElem_toArray, List.getElem_cons_succ, List.getElem_cons_zero, Act.put, List.setIfInBounds_toArray, List.set_cons_succ, List.set_cons_zero]
      refine wpAnyH_take (i := 13) (v := (.agg i.v.arr)) rfl (by kernel_rfl) (by kernel_rfl) (by kernel_rfl) (fun _ _ _ h => h) (.inl ⟨rfl, fun _ hS => exec_load rfl rfl (run_ldV hS.2.2.2)⟩) S14 ?_
      simp only [List.getElem_toArray, List.getElem_cons_succ, List.getElem_cons_zero, Act.put, List.setIfInBounds_toArray, List.set_cons_succ, List.set_cons_zero]
      refine wpAnyH_take (i := 14) (v := (.bool true)) rfl (by kernel_rfl) (by kernel_rfl) (by kernel_rfl) (fun _ _ _ h => h) (.inl ⟨rfl, fun _ hS => exec_eqV i.v rfl rfl rfl _⟩) S14 ?_
      simp only [List.getElem_toArray, List.getElem_cons_succ, List.getElem_cons_zero, Act.put, List.setIfInBounds_toArray, List.set_cons_succ, List.set_cons_zero]
      refine wpAnyH_take (i := 15) (v := (.bool true)) rfl (by kernel_rfl) (by kernel_rfl) (by kernel_rfl) (fun _ _ _ h => h) (.inl ⟨rfl, fun _ hS => by simp [execOp, go_sem, Act.eval]⟩) S14 ?_
      simp only [List.getElem_toArray, List.getElem_cons_succ, List.getElem_cons_zero, Act.put, List.setIfInBounds_toArray, List.set_cons_succ, List.set_cons_zero]
      refine wpAnyH_take (i := 16) (v := (.bool true)) rfl (by kernel_rfl) (by kernel_rfl) (by kernel_rfl) (fun _ _ _ h => h) (.inl ⟨rfl, fun _ hS => rfl⟩) S14 ?_
      simp only [List.getElem_toArray, List.getElem_cons_succ, List.getElem_cons_zero, Act.put, List.setIfInBounds_toArray, List.set_cons_succ, List.set_cons_zero]
      refine wpAnyH_done (by kernel_rfl) ?_ _
      have HF := hidOf2 (doesPost (M3.next (bdr (Below.refl _ _) 1)) HOK.out ⟨rfl, rfl⟩)
      clear S14 M3
      go_wp2
      go_ret
      exact HF.out
end Go.Proofs.Ytdcogpadioeclaa
namespace Go.Proofs.Ytdcogpadioeclaa
open Go.RowKit Go.Proofs.Ty Go.Sort Go.Lib
set_option linter.unusedVariables false
set_option maxRecDepth 1000000
set_option linter.unusedSimpArgs false
theorem Aq.r4 {x : World} {q : Nat} {a : A8} (h : Aq q a x) : x.rangeAt q 4 (vlC a.v) := wf_rng h 4 _ (fun j u hj => by
  match j, hj with
  | 0, hj => exact hj
  | 1, hj => exact hj
  | 2, hj => exact hj
  | j + 3, hj => simp [vlC] at hj)
set_option maxHeartbeats 8000000 in
theorem does_3 {w : World} {X D R E : Nat} {its : List Im} {x : World} (h : Sm w X D R E its its x) (hok : ∀ i ∈ its, Ok i) (A : A8) (hk : A.kind = 3) (hBy : Bytes w A.bv A.bl) (hCp : Cp A.bv) (hbl : A.bl.length ≤ 140737488351232) :
    Calls Try.prog 10 #[.pointer (some ⟨X, 0, none⟩), .agg A.arr] x (DoesPost w X D R E its) := by
  obtain ⟨aob, cpb, hbv⟩ := bytes_shape hBy
  obtain ⟨q, hq⟩ : ∃ q, x.heap.size = q := ⟨_, rfl⟩
  have a0 : Aq q A (x.alloc (.cells A.arr 35)) := hq ▸ heap_alloc_new x _
  have b0 : Below x.heap.size x (x.alloc (.cells A.arr 35)) := (Below.refl _ _).alloc (Nat.le_refl _) _
  have HM0 := hidOf2 (h.next b0)
  have HBY := hidOf2 hBy
  have HCP := hidOf2 hCp
  have HAP := hidOf2 h.dct.apart
  have HLN := hidOf2 h.len
  have HOK := hidOf2 hok
  have HAc : Hid (∀ y, Aq q A y → y.cell? ⟨q, 1, none⟩ = some (.int .u16 A.ix) ∧ y.cell? ⟨q, 2, none⟩ = some (.int .u8 A.sb) ∧ y.cell? ⟨q, 3, none⟩ = some (.slice aob A.bl.length cpb)) := fun y h => by
    have h2 := Aq.c h
    rw [hbv] at h2
    exact h2
  have HK0 : Hid (∀ y, Aq q A y → y.cell? ⟨q, 0, none⟩ = some (.int .i64 A.kind)) := fun y h => Lib.cell_of_heap h 0
  clear h hok b0 hCp
  go_enter Try.func10, Try.ntmps10
  go_upto_region 1 with fail
  generalize x.alloc (.cells A.arr 35) = w0 at *
  try simp only [hq]
  have bB : Below w0.heap.size w0 (w0.alloc (.cells #[] 5)) := (Below.refl _ _).alloc (Nat.le_refl _) _
  have c3 := (HAc.out _ (a0.next bB)).2.2
  have hown := own_empty w0
  have hBx := hBy.below ((HM0.out.next bB).below)
  rw [hbv] at hBx
  have hl0 : ([] : List UInt8).length + A.bl.length ≤ 140737488355328 := by simp; omega
  go_upto_region 2 with (first | (refine append_bytes2 rfl _ _ rfl w0.heap.size _ [] rfl hown _ A.bl rfl hBx hl0 bB.size ?_; intro v5 w1 P5 G5 _; rw [List.nil_append] at P5; have B1 : Below w0.heap.size w0 w1 := bB.grown G5 bB.size (own_lt hown); have HT5 := hidOf2 (bytes_of_own P5); have HC5 := hidOf2 (own_cp P5); obtain ⟨a5, c5, hv5⟩ := own_shape5 P5; subst hv5; have HM1 := hidOf2 (HM0.out.next B1); have HA1 := hidOf2 (a0.next B1); clear P5 G5 B1 hown hBx c3 bB a0 HM0 hl0))
  clear hBy
  rw [hbv] at HBY HCP
  have k0 := HK0.out _ HA1.out
  rw [hk] at k0
  have AL := hidOf2 (Al.sett (⟨rfl, rfl⟩ : Al (its.map Im.e) (its.map Im.b) its) A.ix A.sb A.v)
  have M16d := HM1.out.next (bdr (Below.refl _ w1) 1)
  have A16d : Aq q A w1.drew := HA1.out.next (bdr (Below.refl _ w1) 1)
  have M16e : Sm w X D R E its its w1.drew := M16d
  have S16 := (show (fun y => y.cell? ⟨X, 0, none⟩ = some (.pointer (some ⟨D, 0, none⟩)) ∧ y.cell? ⟨X, 1, none⟩ = some (.pointer (some ⟨E, 0, none⟩)) ∧ y.cell? ⟨q, 1, none⟩ = some (.int .u16 A.ix) ∧ y.cell? ⟨q, 2, none⟩ = some (.int .u8 A.sb) ∧ y.cell? ⟨q, 3, none⟩ = some (.slice aob A.bl.length cpb) ∧ y.rangeAt q 4 (vlC A.v)) w1.drew from ⟨M16d.cX.1, M16d.cX.2, (HAc.out _ A16d).1, (HAc.out _ A16d).2.1, (HAc.out _ A16d).2.2, Aq.r4 A16d⟩)
  go_upto_region 16 with fail
  refine wp_region_held (S := fun y => y.cell? ⟨X, 0, none⟩ = some (.pointer (some ⟨D, 0, none⟩)) ∧ y.cell? ⟨X, 1, none⟩ = some (.pointer (some ⟨E, 0, none⟩)) ∧ y.cell? ⟨q, 1, none⟩ = some (.int .u16 A.ix) ∧ y.cell? ⟨q, 2, none⟩ = some (.int .u8 A.sb) ∧ y.cell? ⟨q, 3, none⟩ = some (.slice aob A.bl.length cpb) ∧ y.rangeAt q 4 (vlC A.v)) (by kernel_rfl) ?_
  change wpAnyH _ _ _ _ _ _ _ _ w1.drew
  refine wpAnyH_take (i := 0) (v := (.pointer (some ⟨X, 0, none⟩))) rfl (by kernel_rfl) (by kernel_rfl) (by kernel_rfl) (fun _ _ _ h => h) (.inl ⟨rfl, fun _ hS => rfl⟩) S16 ?_
  simp only [List.getElem_toArray, List.getElem_cons_succ, List.getElem_cons_zero, Act.put, List.setIfInBounds_toArray, List.set_cons_succ, List.set_cons_zero]
  refine wpAnyH_take (i := 1) (v := (.pointer (some ⟨X, 0, none⟩))) rfl (by kernel_rfl) (by kernel_rfl) (by kernel_rfl) (fun _ _ _ h => h) (.inl ⟨rfl, fun _ hS => by simp [execOp, go_sem, Act.eval]⟩) S16 ?_
  simp only [List.getElem_toArray, List.getElem_cons_succ, List.getElem_cons_zero, Act.put, List.setIfInBounds_toArray, List.set_cons_succ, List.set_cons_zero]
  refine wpAnyH_take (i := 2) (v := (.pointer (some ⟨X, 0, none⟩))) rfl (by kernel_rfl) (by kernel_rfl) (by kernel_rfl) (fun _ _ _ h => h) (.inl ⟨rfl, fun _ hS => by simp [execOp, go_sem, Act.eval]⟩) S16 ?_
  simp only [List.getElem_toArray, List.getElem_cons_succ, List.getElem_cons_zero, Act.put, List.setIfInBounds_toArray, List.set_cons_succ, List.set_cons_zero]
  refine wpAnyH_take (i := 3) (v := (.pointer (some ⟨D, 0, none⟩))) rfl (by kernel_rfl) (by kernel_rfl) (by kernel_rfl) (fun _ _ _ h => h) (.inl ⟨rfl, fun _ hS => exec_load rfl rfl (load_pd _ _ _ _ hS.1)⟩) S16 ?_
  simp only [List.getElem_toArray, List.getElem_cons_succ, List.getElem_cons_zero, Act.put, List.setIfInBounds_toArray, List.set_cons_succ, List.set_cons_zero]
  refine wpAnyH_take (i := 4) (v := (.pointer (some ⟨q, 1, none⟩))) rfl (by kernel_rfl) (by kernel_rfl) (by kernel_rfl) (fun _ _ _ h => h) (.inl ⟨rfl, fun _ hS => by simp [execOp, go_sem, Act.eval]⟩) S16 ?_
  simp only [List.getElem_toArray, List.getElem_cons_succ, List.getElem_cons_zero, Act.put, List.setIfInBounds_toArray, List.set_cons_succ, List.set_cons_zero]
  refine wpAnyH_take (i := 5) (v := (.int .u16 A.ix)) rfl (by kernel_rfl) (by kernel_rfl) (by kernel_rfl) (fun _ _ _ h => h) (.inl ⟨rfl, fun _ hS => exec_load rfl rfl (load_u16 _ _ _ _ hS.2.2.1)⟩) S16 ?_
  simp only [List.getElem_toArray, List.getElem_cons_succ, List.getElem_cons_zero, Act.put, List.setIfInBounds_toArray, List.set_cons_succ, List.set_cons_zero]
  refine wpAnyH_take (i := 6) (v := (.pointer (some ⟨q, 2, none⟩))) rfl (by kernel_rfl) (by kernel_rfl) (by kernel_rfl) (fun _ _ _ h => h) (.inl ⟨rfl, fun _ hS => by simp [execOp, go_sem, Act.eval]⟩) S16 ?_
  simp only [List.getElem_toArray, List.getElem_cons_succ, List.getElem_cons_zero, Act.put, List.setIfInBounds_toArray, List.set_cons_succ, List.set_cons_zero]
  refine wpAnyH_take (i := 7) (v := (.int .u8 A.sb)) rfl (by kernel_rfl) (by kernel_rfl) (by kernel_rfl) (fun _ _ _ h => h) (.inl ⟨rfl, fun _ hS => exec_load rfl rfl (load_u8 _ _ _ _ hS.2.2.2.1)⟩) S16 ?_
  simp only [List.getElem_toArray, List.getElem_cons_succ, List.getElem_cons_zero, Act.put, List.setIfInBounds_toArray, List.set_cons_succ, List.set_cons_zero]
  refine wpAnyH_take (i := 8) (v := (.pointer (some ⟨q, 4, none⟩))) rfl (by kernel_rfl) (by kernel_rfl) (by kernel_rfl) (fun _ _ _ h => h) (.inl ⟨rfl, fun _ hS => by simp [execOp, go_sem, Act.eval]⟩) S16 ?_
  simp only [List.getElem_toArray, List.getElem_cons_succ, List.getElem_cons_zero, Act.put, List.setIfInBounds_toArray, List.set_cons_succ, List.set_cons_zero]
  refine wpAnyH_take (i := 9) (v := (.agg A.v.arr)) rfl (by kernel_rfl) (by kernel_rfl) (by kernel_rfl) (fun _ _ _ h => h) (.inl ⟨rfl, fun _ hS => exec_load rfl rfl (run_ldV hS.2.2.2.2.2)⟩) S16 ?_
  simp only [List.getElem_toArray, List.getElem_cons_succ, List.getElem_cons_zero, Act.put, List.setIfInBounds_toArray, List.set_cons_succ, List.set_cons_zero]
  refine wpAnyH_take (i := 11) (v := (.pointer (some ⟨X, 0, none⟩))) rfl (by kernel_rfl) (by kernel_rfl) (by kernel_rfl) (fun _ _ _ h => h) (.inl ⟨rfl, fun _ hS => rfl⟩) S16 ?_
  simp only [List.getElem_toArray, List.getElem_cons_succ, List.getElem_cons_zero, Act.put, List.setIfInBounds_toArray, List.set_cons_succ, List.set_cons_zero]
  refine wpAnyH_take (i := 12) (v := (.pointer (some ⟨X, 0, none⟩))) rfl (by kernel_rfl) (by kernel_rfl) (by kernel_rfl) (fun _ _ _ h => h) (.inl ⟨rfl, fun _ hS => by simp [execOp, go_sem, Act.eval]⟩) S16 ?_
  simp only [List.getElem_toArray, List.getElem_cons_succ, List.getElem_cons_zero, Act.put, List.setIfInBounds_toArray, List.set_cons_succ, List.set_cons_zero]
  refine wpAnyH_take (i := 13) (v := (.pointer (some ⟨X, 1, none⟩))) rfl (by kernel_rfl) (by kernel_rfl) (by kernel_rfl) (fun _ _ _ h => h) (.inl ⟨rfl, fun _ hS => by simp [execOp, go_sem, Act.eval]⟩) S16 ?_
  simp only [List.getElem_toArray, List.getElem_cons_succ, List.getElem_cons_zero, Act.put, List.setIfInBounds_toArray, List.set_cons_succ, List.set_cons_zero]
  refine wpAnyH_take (i := 14) (v := (.pointer (some ⟨E, 0, none⟩))) rfl (by kernel_rfl) (by kernel_rfl) (by kernel_rfl) (fun _ _ _ h => h) (.inl ⟨rfl, fun _ hS => exec_load rfl rfl (load_rd _ _ _ _ hS.2.1)⟩) S16 ?_
  simp only [List.getElem_toArray, List.getElem_cons_succ, List.getElem_cons_zero, Act.put, List.setIfInBounds_toArray, List.set_cons_succ, List.set_cons_zero]
  refine wpAnyH_take (i := 15) (v := (.pointer (some ⟨q, 1, none⟩))) rfl (by kernel_rfl) (by kernel_rfl) (by kernel_rfl) (fun _ _ _ h => h) (.inl ⟨rfl, fun _ hS => by simp [execOp, go_sem, Act.eval]⟩) S16 ?_
  simp only [List.getElem_toArray, List.getElem_cons_succ, List.getElem_cons_zero, Act.put, List.setIfInBounds_toArray, List.set_cons_succ, List.set_cons_zero]
  refine wpAnyH_take (i := 16) (v := (.int .u16 A.ix)) rfl (by kernel_rfl) (by kernel_rfl) (by kernel_rfl) (fun _ _ _ h => h) (.inl ⟨rfl, fun _ hS => exec_load rfl rfl (load_u16 _ _ _ _ hS.2.2.1)⟩) S16 ?_
  simp only [List.getElem_toArray, List.getElem_cons_succ, List.getElem_cons_zero, Act.put, List.setIfInBounds_toArray, List.set_cons_succ, List.set_cons_zero]
  refine wpAnyH_take (i := 17) (v := (.pointer (some ⟨q, 2, none⟩))) rfl (by kernel_rfl) (by kernel_rfl) (by kernel_rfl) (fun _ _ _ h => h) (.inl ⟨rfl, fun _ hS => by simp [execOp, go_sem, Act.eval]⟩) S16 ?_
  simp only [List.getElem_toArray, List.getElem_cons_succ, List.getElem_cons_zero, Act.put, List.setIfInBounds_toArray, List.set_cons_succ, List.set_cons_zero]
  refine wpAnyH_take (i := 18) (v := (.int .u8 A.sb)) rfl (by kernel_rfl) (by kernel_rfl) (by kernel_rfl) (fun _ _ _ h => h) (.inl ⟨rfl, fun _ hS => exec_load rfl rfl (load_u8 _ _ _ _ hS.2.2.2.1)⟩) S16 ?_
  simp only [List.getElem_toArray, List.getElem_cons_succ, List.getElem_cons_zero, Act.put, List.setIfInBounds_toArray, List.set_cons_succ, List.set_cons_zero]
  refine wpAnyH_take (i := 19) (v := (.pointer (some ⟨q, 4, none⟩))) rfl (by kernel_rfl) (by kernel_rfl) (by kernel_rfl) (fun _ _ _ h => h) (.inl ⟨rfl, fun _ hS => by simp [execOp, go_sem, Act.eval]⟩) S16 ?_
  simp only [List.getElem_toArray, List.getElem_cons_succ, List.getElem_cons_zero, Act.put, List.setIfInBounds_toArray, List.set_cons_succ, List.set_cons_zero]
  refine wpAnyH_take (i := 20) (v := (.agg A.v.arr)) rfl (by kernel_rfl) (by kernel_rfl) (by kernel_rfl) (fun _ _ _ h => h) (.inl ⟨rfl, fun _ hS => exec_load rfl rfl (run_ldV hS.2.2.2.2.2)⟩) S16 ?_
  simp only [List.getElem_toArray, List.getElem_cons_succ, List.getElem_cons_zero, Act.put, List.setIfInBounds_toArray, List.set_cons_succ, List.set_cons_zero]
  refine wpAnyH_all (rs := [10]) (by kernel_rfl) (by simp) ?_
  intro k hk
  simp only [List.mem_cons, List.mem_nil_iff, or_false] at hk
  subst hk
  refine wpOp_run rfl rfl (wp_call_fn 20 #[.pointer (some ⟨D, 0, none⟩), .int .u16 A.ix, .int .u8 A.sb, .agg A.v.arr] (by simp [execOp, go_sem, Act.eval, resolve, invoke, enterPS]) ?_)
  refine (Set_any M16e.dct A.ix A.sb A.hix A.hsb A.v).mono ?_
  rintro e u3 ⟨rfl, D3, K3⟩
  have M16h := M16e.prog D3 K3 AL.out.b
  have A16h : Aq q A u3 := kp_other M16e.dct K3 A16d (by decide)
  refine ⟨⟨M16h.cX.1, M16h.cX.2, (HAc.out _ A16h).1, (HAc.out _ A16h).2.1, (HAc.out _ A16h).2.2, Aq.r4 A16h⟩, ?_⟩
  simp only [List.getElem_toArray, List.getElem_cons_succ, List.getElem_cons_zero, Act.put, List.setIfInBounds_toArray, List.set_cons_succ, List.set_cons_zero]
  refine wpAnyH_all (rs := [21]) (by kernel_rfl) (by simp) ?_
  intro k hk
  simp only [List.mem_cons, List.mem_nil_iff, or_false] at hk
  subst hk
  refine wpOp_run rfl rfl (wp_call_fn 30 #[.pointer (some ⟨E, 0, none⟩), .int .u16 A.ix, .int .u8 A.sb, .agg A.v.arr] (by simp [execOp, go_sem, Act.eval, resolve, invoke, enterQS]) ?_)
  obtain ⟨vL, vV, hrd⟩ := M16h.rd
  refine (QSet_any hrd HLN.out HOK.out HAP.out A.ix A.sb A.v).mono ?_
  rintro e u4 ⟨rfl, ⟨vV2, hrd2⟩, G4⟩
  have M16i := M16h.doc ⟨vL, vV2, hrd2⟩ G4 AL.out.b
  have A16i : Aq q A u4 := row_other G4 M16h.hr A16h (by decide)
  refine ⟨⟨M16i.cX.1, M16i.cX.2, (HAc.out _ A16i).1, (HAc.out _ A16i).2.1, (HAc.out _ A16i).2.2, Aq.r4 A16i⟩, ?_⟩
  simp only [List.getElem_toArray, List.getElem_cons_succ, List.getElem_cons_zero, Act.put, List.setIfInBounds_toArray, List.set_cons_succ, List.set_cons_zero]
  refine wpAnyH_take (i := 22) (v := (.bool true)) rfl (by kernel_rfl) (by kernel_rfl) (by kernel_rfl) (fun _ _ _ h => h) (.inl ⟨rfl, fun _ hS => by simp [execOp, go_sem, Act.eval]⟩) ⟨M16i.cX.1, M16i.cX.2, (HAc.out _ A16i).1, (HAc.out _ A16i).2.1, (HAc.out _ A16i).2.2, Aq.r4 A16i⟩ ?_
  simp only [List.getElem_toArray, List.getElem_cons_succ, List.getElem_cons_zero, Act.put, List.setIfInBounds_toArray, List.set_cons_succ, List.set_cons_zero]
  refine wpAnyH_take (i := 23) (v := (.bool true)) rfl (by kernel_rfl) (by kernel_rfl) (by kernel_rfl) (fun _ _ _ h => h) (.inl ⟨rfl, fun _ hS => rfl⟩) ⟨M16i.cX.1, M16i.cX.2, (HAc.out _ A16i).1, (HAc.out _ A16i).2.1, (HAc.out _ A16i).2.2, Aq.r4 A16i⟩ ?_
  simp only [List.getElem_toArray, List.getElem_cons_succ, List.getElem_cons_zero, Act.put, List.setIfInBounds_toArray, List.set_cons_succ, List.set_cons_zero]
  refine wpAnyH_done (by kernel_rfl) ?_ _
  have HF := hidOf2 (doesPost M16i (ok_sett HAP.out HOK.out A.ix A.sb A.v) AL.out)
  clear M16d M16e M16h M16i A16d A16h A16i D3 K3 G4 S16 hrd2 hrd
  go_wp2
  go_ret
  exact HF.out
end Go.Proofs.Ytdcogpadioeclaa
namespace Go.Proofs.Ytdcogpadioeclaa
open Go.RowKit Go.Proofs.Ty Go.Sort Go.Lib
set_option linter.unusedVariables false
set_option maxRecDepth 1000000
set_option linter.unusedSimpArgs false
set_option maxHeartbeats 8000000 in
theorem does_4 {w : World} {X D R E : Nat} {its : List Im} {x : World} (h : Sm w X D R E its its x) (hok : ∀ i ∈ its, Ok i) (A : A8) (hk : A.kind = 4) (hBy : Bytes w A.bv A.bl) (hCp : Cp A.bv) (hbl : A.bl.length ≤ 140737488351232) :
    Calls Try.prog 10 #[.pointer (some ⟨X, 0, none⟩), .agg A.arr] x (DoesPost w X D R E its) := by
  obtain ⟨aob, cpb, hbv⟩ := bytes_shape hBy
  obtain ⟨q, hq⟩ : ∃ q, x.heap.size = q := ⟨_, rfl⟩
  have a0 : Aq q A (x.alloc (.cells A.arr 35)) := hq ▸ heap_alloc_new x _
  have b0 : Below x.heap.size x (x.alloc (.cells A.arr 35)) := (Below.refl _ _).alloc (Nat.le_refl _) _
  have HM0 := hidOf2 (h.next b0)
  have HBY := hidOf2 hBy
  have HCP := hidOf2 hCp
  have HAP := hidOf2 h.dct.apart
  have HLN := hidOf2 h.len
  have HOK := hidOf2 hok
  have HAc : Hid (∀ y, Aq q A y → y.cell? ⟨q, 1, none⟩ = some (.int .u16 A.ix) ∧ y.cell? ⟨q, 2, none⟩ = some (.int .u8 A.sb) ∧ y.cell? ⟨q, 3, none⟩ = some (.slice aob A.bl.length cpb)) := fun y h => by
    have h2 := Aq.c h
    rw [hbv] at h2
    exact h2
  have HK0 : Hid (∀ y, Aq q A y → y.cell? ⟨q, 0, none⟩ = some (.int .i64 A.kind)) := fun y h => Lib.cell_of_heap h 0
  clear h hok b0 hCp
  go_enter Try.func10, Try.ntmps10
  go_upto_region 1 with fail
  generalize x.alloc (.cells A.arr 35) = w0 at *
  try simp only [hq]
  have bB : Below w0.heap.size w0 (w0.alloc (.cells #[] 5)) := (Below.refl _ _).alloc (Nat.le_refl _) _
  have c3 := (HAc.out _ (a0.next bB)).2.2
  have hown := own_empty w0
  have hBx := hBy.below ((HM0.out.next bB).below)
  rw [hbv] at hBx
  have hl0 : ([] : List UInt8).length + A.bl.length ≤ 140737488355328 := by simp; omega
  go_upto_region 2 with (first | (refine append_bytes2 rfl _ _ rfl w0.heap.size _ [] rfl hown _ A.bl rfl hBx hl0 bB.size ?_; intro v5 w1 P5 G5 _; rw [List.nil_append] at P5; have B1 : Below w0.heap.size w0 w1 := bB.grown G5 bB.size (own_lt hown); have HT5 := hidOf2 (bytes_of_own P5); have HC5 := hidOf2 (own_cp P5); obtain ⟨a5, c5, hv5⟩ := own_shape5 P5; subst hv5; have HM1 := hidOf2 (HM0.out.next B1); have HA1 := hidOf2 (a0.next B1); clear P5 G5 B1 hown hBx c3 bB a0 HM0 hl0))
  clear hBy
  rw [hbv] at HBY HCP
  have k0 := HK0.out _ HA1.out
  rw [hk] at k0
  have cX := HM1.out.cX
  have hP := Reset_any HM1.out.dct
  have AL := hidOf2 (Al.resetI (⟨rfl, rfl⟩ : Al (its.map Im.e) (its.map Im.b) its))
  obtain ⟨cX0, cX1⟩ := cX
  go_wp2_with fail
  refine hP.mono ?_
  rintro e w2 ⟨rfl, D2, K2⟩
  have M2 := HM1.out.prog D2 K2 AL.out.b
  obtain ⟨vL, vV, hrd⟩ := M2.rd
  have hQ := QReset_any hrd (by rw [List.length_map]; exact HLN.out)
  obtain ⟨cX0, cX1⟩ := M2.cX
  have HM2 := hidOf2 M2
  clear hP D2 K2 M2 hrd
  go_wp2_with fail
  refine hQ.mono ?_
  rintro e w3 ⟨rfl, vV2, R3, _, G3⟩
  have e1 : (resetI its).map Im.v = (its.map Im.e).map En.df := by unfold resetI; rw [List.map_map, List.map_map]; rfl
  have M3 := HM2.out.doc (ib' := resetI its) ⟨vL, vV2, by rw [AL.out.e, e1]; exact R3⟩ G3 AL.out.b
  have HF := hidOf2 (doesPost M3 (ok_resetI HOK.out) AL.out)
  clear hQ R3 G3 M3 HM2
  go_wp2
  go_ret
  exact HF.out
end Go.Proofs.Ytdcogpadioeclaa
namespace Go.Proofs.Ytdcogpadioeclaa
open Go.RowKit Go.Proofs.Ty Go.Sort Go.Lib
set_option linter.unusedVariables false
set_option maxRecDepth 1000000
set_option linter.unusedSimpArgs false
/-- What stands at a place, in bytes. -/
structure At7 (l : List UInt8) (t : Nat) (A0 A1 A2 A3 A4 A5 A6 : Nat) : Prop where
  b : A0 < 256 ∧ A1 < 256 ∧ A2 < 256 ∧ A3 < 256 ∧ A4 < 256 ∧ A5 < 256 ∧ A6 < 256
  pl : (svOf (l.drop t)).pl = (A0 + 256 * A1) * 256 + A2
  ix : (svOf (l.drop t)).ix = A0 + 256 * A1
  sb : (svOf (l.drop t)).sb = A2
  n : hdN (l.drop t) = A3 + 256 * A4 + 65536 * A5 + 16777216 * A6
theorem at7 {l : List UInt8} {t : Nat} (h : t + 7 ≤ l.length) : At7 l t l[t].toNat (l[t + 1]'(by omega)).toNat (l[t + 2]'(by omega)).toNat (l[t + 3]'(by omega)).toNat (l[t + 4]'(by omega)).toNat (l[t + 5]'(by omega)).toNat (l[t + 6]'(by omega)).toNat := by
  have g : ∀ j, j < 7 → ∀ (hj : t + j < l.length), (l.drop t)[j]? = some (l[t + j]'hj) := fun j h7 hj => by rw [List.getElem?_drop, List.getElem?_eq_getElem hj]
  have hx : (svOf (l.drop t)).ix = l[t].toNat + 256 * (l[t + 1]'(by omega)).toNat := by
    simp only [svOf, List.getD_eq_getElem?_getD]
    rw [g 0 (by omega) (by omega), g 1 (by omega) (by omega)]
    rfl
  have hs : (svOf (l.drop t)).sb = (l[t + 2]'(by omega)).toNat := by
    simp only [svOf, List.getD_eq_getElem?_getD]
    rw [g 2 (by omega) (by omega)]
    rfl
  refine ⟨⟨UInt8.toNat_lt _, UInt8.toNat_lt _, UInt8.toNat_lt _, UInt8.toNat_lt _, UInt8.toNat_lt _, UInt8.toNat_lt _, UInt8.toNat_lt _⟩, by unfold Sv.pl; rw [hx, hs], hx, hs, ?_⟩
  unfold hdN
  have e : ((l.drop t).drop 3).take 4 = [l[t + 3]'(by omega), l[t + 4]'(by omega), l[t + 5]'(by omega), l[t + 6]'(by omega)] := by
    rw [List.drop_drop]
    rw [List.drop_eq_getElem_cons (by omega), List.drop_eq_getElem_cons (by omega), List.drop_eq_getElem_cons (by omega), List.drop_eq_getElem_cons (by omega)]
    rfl
  rw [e]
  simp only [joinL]
  omega
/-- The bytes of an opened slice, at a place. -/
theorem bytes7 {w : World} {b off cap : Nat} {l : List UInt8} (h : Bytes w (.slice (some ⟨b, off, none⟩) l.length cap) l) {t : Nat} (ht : t + 7 ≤ l.length) : w.cell? ⟨b, off + t, none⟩ = some (.int .u8 l[t].toNat) ∧ w.cell? ⟨b, off + (t + 1), none⟩ = some (.int .u8 (l[t + 1]'(by omega)).toNat) ∧ w.cell? ⟨b, off + (t + 2), none⟩ = some (.int .u8 (l[t + 2]'(by omega)).toNat) ∧ w.cell? ⟨b, off + (t + 3), none⟩ = some (.int .u8 (l[t + 3]'(by omega)).toNat) ∧ w.cell? ⟨b, off + (t + 4), none⟩ = some (.int .u8 (l[t + 4]'(by omega)).toNat) ∧ w.cell? ⟨b, off + (t + 5), none⟩ = some (.int .u8 (l[t + 5]'(by omega)).toNat) ∧ w.cell? ⟨b, off + (t + 6), none⟩ = some (.int .u8 (l[t + 6]'(by omega)).toNat) :=
  ⟨(h.get t (by omega)).2, (h.get (t + 1) (by omega)).2, (h.get (t + 2) (by omega)).2, (h.get (t + 3) (by omega)).2, (h.get (t + 4) (by omega)).2, (h.get (t + 5) (by omega)).2, (h.get (t + 6) (by omega)).2⟩
theorem q_none {o : Option (List Sv)} (h : o.isSome = false) : o = none := by cases o <;> first | rfl | cases h
theorem q_short {l : List UInt8} {ah : Int} {t : Nat} (h : (cutL (-1) l).isSome = (cutL ah (l.drop t)).isSome) (ht : t < l.length) (h7 : l.length - t < 7) : cutL (-1) l = none := by
  refine q_none (h.trans ?_)
  rw [cutL_short (b := l.drop t) (by intro e; have := congrArg List.length e; rw [List.length_drop] at this; simp at this; omega) (by rw [List.length_drop]; omega)]
  rfl
theorem q_low {l : List UInt8} {ah : Int} {t : Nat} (h : (cutL (-1) l).isSome = (cutL ah (l.drop t)).isSome) (h7 : ¬ l.length - t < 7) (ht : t < l.length) (hp : ((svOf (l.drop t)).pl : Int) ≤ ah) : cutL (-1) l = none := by
  refine q_none (h.trans ?_)
  rw [cutL_low (b := l.drop t) (by rw [List.length_drop]; omega) hp]
  rfl
theorem q_long {l : List UInt8} {ah : Int} {t : Nat} (h : (cutL (-1) l).isSome = (cutL ah (l.drop t)).isSome) (h7 : ¬ l.length - t < 7) (ht : t < l.length) (hp : l.length - t - 7 < hdN (l.drop t)) : cutL (-1) l = none := by
  refine q_none (h.trans ?_)
  rw [cutL_long (b := l.drop t) (by rw [List.length_drop]; omega) (by rw [List.length_drop]; exact hp)]
  rfl
theorem q_go {l : List UInt8} {ah : Int} {t : Nat} (h : (cutL (-1) l).isSome = (cutL ah (l.drop t)).isSome) (h7 : ¬ l.length - t < 7) (ht : t < l.length) (hp : ¬ ((svOf (l.drop t)).pl : Int) ≤ ah) (hn : ¬ l.length - t - 7 < hdN (l.drop t)) : (cutL (-1) l).isSome = (cutL ((svOf (l.drop t)).pl : Int) (l.drop (t + 7 + hdN (l.drop t)))).isSome := by
  rw [h, cutL_go (b := l.drop t) (by rw [List.length_drop]; omega) (by rw [List.length_drop]; exact hn) hp, List.drop_drop, Option.isSome_map, Nat.add_assoc]
theorem q_end {l : List UInt8} {ah : Int} {t : Nat} (h : (cutL (-1) l).isSome = (cutL ah (l.drop t)).isSome) (ht : ¬ t < l.length) : ∃ ss, cutL (-1) l = some ss := by
  rw [List.drop_of_length_le (by omega), cutL_nil] at h
  exact Option.isSome_iff_exists.1 h
theorem exec_addi {a : Act} {o : Oper} {x y : Operand} {m n : Nat} (ho : o.op = .binOp .add 3 x y 3) (hx : a.eval x = .int .i64 (m : Int)) (hy : a.eval y = .int .i64 (n : Int)) (h : m + n < 4611686018427387904) (w : World) : (execOp a.eval o).run Try.prog w = .ok (.value (.int .i64 ((m + n : Nat) : Int))) w := by
  have : IntKind.i64.wrap ((m : Int) + (n : Int)) = ((m + n : Nat) : Int) := by simp [IntKind.wrap, IntKind.bits, IntKind.signed]; omega
  unfold execOp
  simp only [ho, hx, hy]
  simp [go_sem, this]
theorem exec_mul16 {a : Act} {o : Oper} {x y : Operand} {n : Nat} (ho : o.op = .binOp .mul 29 x y 29) (hx : a.eval x = .int .u16 256) (hy : a.eval y = .int .u16 (n : Int)) (h : n < 256) (w : World) : (execOp a.eval o).run Try.prog w = .ok (.value (.int .u16 ((256 * n : Nat) : Int))) w := by
  have : IntKind.u16.wrap (256 * (n : Int)) = ((256 * n : Nat) : Int) := by simp [IntKind.wrap, IntKind.bits, IntKind.signed]; omega
  unfold execOp
  simp only [ho, hx, hy]
  simp [go_sem, this]
theorem exec_add16 {a : Act} {o : Oper} {x y : Operand} {m n : Nat} (ho : o.op = .binOp .add 29 x y 29) (hx : a.eval x = .int .u16 (m : Int)) (hy : a.eval y = .int .u16 ((256 * n : Nat) : Int)) (hm : m < 256) (h : n < 256) (w : World) : (execOp a.eval o).run Try.prog w = .ok (.value (.int .u16 ((m + 256 * n : Nat) : Int))) w := by
  have : IntKind.u16.wrap ((m : Int) + 256 * (n : Int)) = ((m + 256 * n : Nat) : Int) := by simp [IntKind.wrap, IntKind.bits, IntKind.signed]; omega
  unfold execOp
  simp only [ho, hx, hy]
  simp [go_sem, this]
theorem enterFi : ∀ args x, (callFunc 29 args).run Try.prog x = .ok (.enter 29 args) x := fun _ _ => by rfl
theorem enterRd : ∀ args x, (callFunc 54 args).run Try.prog x = .ok (.enter 54 args) x := fun _ _ => by rfl
theorem q_step {l : List UInt8} {ss : List Sv} {t k : Nat} (h : ∃ ah, cutL ah (l.drop t) = some (ss.drop k)) (ht : t < l.length) : ∃ hk : k < ss.length, t + 7 ≤ l.length ∧ hdN (l.drop t) ≤ l.length - t - 7 ∧ ss[k] = svOf (l.drop t) ∧ (∃ ah, cutL ah (l.drop (t + 7 + hdN (l.drop t))) = some (ss.drop (k + 1))) ∧ ss[k].raw = (l.drop (t + 7)).take (hdN (l.drop t)) := by
  obtain ⟨ah, h⟩ := h
  have hk : k < ss.length := by
    rcases Nat.lt_or_ge k ss.length with h1 | h1
    · exact h1
    · rw [List.drop_of_length_le h1] at h
      have := congrArg List.length (cutL_done h)
      rw [List.length_drop] at this
      simp at this
      omega
  rw [List.drop_eq_getElem_cons hk] at h
  obtain ⟨h1, h2, h3, h4⟩ := cutL_cons h
  rw [List.length_drop] at h1 h2
  rw [List.drop_drop] at h4
  refine ⟨hk, by omega, by omega, h3, ⟨_, by rw [Nat.add_assoc]; exact h4⟩, ?_⟩
  rw [h3]
  show ((l.drop t).drop 7).take _ = _
  rw [List.drop_drop]
theorem q_fin {l : List UInt8} {ss : List Sv} {t k : Nat} (h : ∃ ah, cutL ah (l.drop t) = some (ss.drop k)) (ht : ¬ t < l.length) : ss.drop k = [] := by
  obtain ⟨ah, h⟩ := h
  rw [List.drop_of_length_le (by omega), cutL_nil] at h
  injection h with h
  exact h.symm
theorem lay_len (its : List Im) (ss : List Sv) : (layV its ss).length = its.length := by
  have := (Al.layV (⟨rfl, rfl⟩ : Al (its.map Im.e) (its.map Im.b) its) ss).b
  have := congrArg List.length this
  simpa using this
/-- One saved value more, among the items and in the document's row. -/
theorem lay_v {its : List Im} (hap : (its.map Im.b).Nodup) {ix sb : Nat} {i : Im} (hf : fnd its ix sb = some i) {j : Nat} (hj : j < its.length) (e1 : its[j] = i) (ss : List Sv) (s : Sv) (hx : s.ix = ix) (hs : s.sb = sb) : (putS (layV its ss) s).map Im.v = ((layV its ss).map Im.v).set j (decW i.e.df.t s.raw) := by
  have al := Al.layV (⟨rfl, rfl⟩ : Al (its.map Im.e) (its.map Im.b) its) ss
  have hl := lay_len its ss
  have ge : ∀ m (hm : m < its.length), (layV its ss)[m].e = its[m].e := fun m hm => by
    have := congrArg (fun z : List En => z[m]?) al.e
    simp only [List.getElem?_map, List.getElem?_eq_getElem (show m < (layV its ss).length by omega), List.getElem?_eq_getElem hm, Option.map_some, Option.some.injEq] at this
    exact this
  have gb : ∀ m (hm : m < its.length), (layV its ss)[m].b = its[m].b := fun m hm => by
    have := congrArg (fun z : List Nat => z[m]?) al.b
    simp only [List.getElem?_map, List.getElem?_eq_getElem (show m < (layV its ss).length by omega), List.getElem?_eq_getElem hm, Option.map_some, Option.some.injEq] at this
    exact this
  have hfl := fnd_e al.e ix sb
  rw [hf] at hfl
  cases hg : fnd (layV its ss) ix sb with
  | none => rw [hg] at hfl; cases hfl
  | some y =>
    rw [hg] at hfl
    simp only [Option.map_some, Option.some.injEq] at hfl
    obtain ⟨n, hn, hny, _, _⟩ := fi_some hg
    have hap2 : ((layV its ss).map Im.b).Nodup := by rw [al.b]; exact hap
    obtain ⟨n0, hn0, hn0i, f1, f2⟩ := fi_some hf
    obtain ⟨n1, hn1, hn1y, f3, f4⟩ := fi_some hg
    rw [al.e, f1] at f3
    subst f3
    have hjn : j = n0 := by
      have h3 := List.pairwise_iff_getElem.1 hap
      rcases Nat.lt_trichotomy j n0 with h4 | h4 | h4
      · exact (h3 j n0 (by simpa using hj) (by simpa using hn0) h4 (by simp only [List.getElem_map]; rw [e1, hn0i])).elim
      · exact h4
      · exact (h3 n0 j (by simpa using hn0) (by simpa using hj) h4 (by simp only [List.getElem_map]; rw [e1, hn0i])).elim
    subst hjn
    unfold putS
    rw [hx, hs, hg]
    show (setV (layV its ss) y.b (decW y.e.df.t s.raw)).map Im.v = _
    rw [hfl, ← hn1y]
    exact setV_v hap2 hn1 _
set_option maxHeartbeats 8000000 in
theorem QLoad_any {E : Nat} {its : List Im} {vL vV : Value} {w : World} (h : Rd E (its.map Im.e) vL (its.map Im.v) vV w) (hlen : its.length ≤ 1024) (hap : (its.map Im.b).Nodup) (vb : Value) (l : List UInt8) (hB : Bytes w vb l) (hC : Cp vb) (hl : l.length ≤ 140737488351232) :
    Calls Try.prog 33 #[.pointer (some ⟨E, 0, none⟩), vb] w fun e w' => e = .returned (.int .i64 (loadC its l)) ∧ (∃ vV', Rd E ((loadI its l).map Im.e) vL ((loadI its l).map Im.v) vV' w') ∧ w.grownBy w' (some E) := by
  obtain ⟨ao, cap, rfl⟩ := bytes_shape hB
  have HC : Hid (loadC its l = match cutL (-1) l with
    | none => 8
    | some ss => ldC its ss) := rfl
  have HI : Hid (loadI its l = match cutL (-1) l with
    | none => its
    | some ss => if ldC its ss = 0 then layV its ss else its) := rfl
  generalize loadC its l = LC at *
  generalize loadI its l = LI at *
  have HR := hidOf2 h
  have HBY := hidOf2 hB
  have HCP := hidOf2 hC
  clear h hB hC
  go_enter Try.func33, Try.ntmps33
  go_wp2
  go_loopw [5, 6] (fun s5 s6 x => ∃ (t : Nat) (ah : Int), t ≤ l.length ∧ (-1 ≤ ah ∧ ah < 16777216) ∧ s5 = .int .i64 t ∧ s6 = .int .i64 ah ∧ Hid ((cutL (-1) l).isSome = (cutL ah (l.drop t)).isSome) ∧ Hid (Below w.heap.size w x)) (fun s5 _ _ => l.length - (intOf s5).toNat)
  case atStart => exact ⟨0, -1, Nat.zero_le _, by omega, rfl, rfl, rfl, Below.refl _ _⟩
  case round =>
    obtain ⟨t, ah, ht, hah, rfl, rfl, HQ, HB⟩ := hrel
    by_cases htl : t < l.length
    · by_cases h7 : l.length - t < 7
      · have d1 : decide ((l.length : Int) - (t : Int) < 7) = true := by simp; omega
        have E0 := hidOf2 (q_short HQ.out htl h7)
        rw [E0.out] at HC HI
        clear HQ
        go_wp2
        go_ret
        exact ⟨ret_int (by rw [HC.out]; rfl), ⟨_, by rw [HI.out]; exact HR.out.below HB.out⟩, gb_any HB.out _⟩
      · have d1 : decide ((l.length : Int) - (t : Int) < 7) = false := by simp; omega
        obtain ⟨b, off, hao⟩ := HBY.out.is (by omega)
        subst hao
        obtain ⟨x0, x1, x2, x3, x4, x5, x6⟩ := bytes7 (HBY.out.below HB.out) (t := t) (by omega)
        have HAt := at7 (l := l) (t := t) (by omega)
        generalize l[t].toNat = A0 at *
        generalize (l[t + 1]'(by omega)).toNat = A1 at *
        generalize (l[t + 2]'(by omega)).toNat = A2 at *
        generalize (l[t + 3]'(by omega)).toNat = A3 at *
        generalize (l[t + 4]'(by omega)).toNat = A4 at *
        generalize (l[t + 5]'(by omega)).toNat = A5 at *
        generalize (l[t + 6]'(by omega)).toNat = A6 at *
        obtain ⟨hb0, hb1, hb2, hb3, hb4, hb5, hb6⟩ := HAt.b
        have HAT := hidOf2 HAt
        clear HAt
        go_upto_region 5 with fail
        go_quiet (fail)
        have y3 : (wr.drewN nq).cell? ⟨b, off + (t + 3), none⟩ = some (.int .u8 A3) := x3
        have y4 : (wr.drewN nq).cell? ⟨b, off + (t + 4), none⟩ = some (.int .u8 A4) := x4
        have y5 : (wr.drewN nq).cell? ⟨b, off + (t + 5), none⟩ = some (.int .u8 A5) := x5
        have y6 : (wr.drewN nq).cell? ⟨b, off + (t + 6), none⟩ = some (.int .u8 A6) := x6
        have HB2 := hidOf2 (bdr HB.out nq)
        clear x0 x1 x2 x3 x4 x5 x6 HB
        generalize wr.drewN nq = w2 at *
        clear nq
        go_upto_region 6 with fail
        go_quiet (fail)
        have HB3 := hidOf2 (bdr HB2.out nq)
        clear y3 y4 y5 y6 HB2
        generalize w2.drewN nq = w3 at *
        clear nq
        obtain ⟨P, hP⟩ : ∃ P : Nat, (A0 + 256 * A1) * 256 + A2 = P := ⟨_, rfl⟩
        obtain ⟨N, hN⟩ : ∃ N : Nat, A3 + 256 * A4 + 65536 * A5 + 16777216 * A6 = N := ⟨_, rfl⟩
        have eP : ((A0 : Int) + 256 * (A1 : Int)) * 256 + (A2 : Int) = (P : Int) := by omega
        have eN : (A3 : Int) + 256 * (A4 : Int) + 65536 * (A5 : Int) + 16777216 * (A6 : Int) = (N : Int) := by omega
        rw [eP, eN]
        have HPe := hidOf2 (HAT.out.pl.trans hP)
        have HNe := hidOf2 (HAT.out.n.trans hN)
        have hPb : P < 16777216 := by omega
        have hNb : N < 4294967296 := by omega
        clear eP eN hP hN HAT
        by_cases hp : (P : Int) ≤ ah
        · have dp : decide ((P : Int) ≤ ah) = true := decide_eq_true hp
          have E0 := hidOf2 (q_low HQ.out h7 htl (by rw [HPe.out]; exact hp))
          rw [E0.out] at HC HI
          clear HQ
          go_wp2
          go_ret
          exact ⟨ret_int (by rw [HC.out]; rfl), ⟨_, by rw [HI.out]; exact HR.out.below HB3.out⟩, gb_any HB3.out _⟩
        · have dp : decide ((P : Int) ≤ ah) = false := decide_eq_false hp
          by_cases hn : l.length - t - 7 < N
          · have dn : decide ((l.length : Int) - (t : Int) - 7 < (N : Int)) = true := decide_eq_true (by omega)
            have E0 := hidOf2 (q_long HQ.out h7 htl (by rw [HNe.out]; exact hn))
            rw [E0.out] at HC HI
            clear HQ
            go_wp2
            go_ret
            exact ⟨ret_int (by rw [HC.out]; rfl), ⟨_, by rw [HI.out]; exact HR.out.below HB3.out⟩, gb_any HB3.out _⟩
          · have dn : decide ((l.length : Int) - (t : Int) - 7 < (N : Int)) = false := decide_eq_false (by omega)
            have HQ2 := hidOf2 (q_go HQ.out h7 htl (by rw [HPe.out]; exact hp) (by rw [HNe.out]; exact hn))
            rw [HPe.out, HNe.out] at HQ2
            clear HQ
            go_wp2
            go_roundw
            case rel => exact ⟨t + 7 + N, (P : Int), by omega, by omega, by go_num, rfl, HQ2, HB3⟩
            case measure => simp [intOf]; omega
    · obtain ⟨ss, hss⟩ := q_end HQ.out htl
      rw [hss] at HC HI
      have HC2 := hidOf2 (show LC = ldC its ss from HC.out)
      have HI2 := hidOf2 (show LI = if ldC its ss = 0 then layV its ss else its from HI.out)
      have HCU0 := hidOf2 (show ∃ ah, cutL ah (l.drop 0) = some (ss.drop 0) from ⟨-1, hss⟩)
      have HRA := hidOf2 (HR.out.below HB.out)
      have HBA := hidOf2 HB.out
      have hElt := HRA.out.lt
      clear HQ HC HI HB hss
      obtain ⟨aL, cL, hvL⟩ := HRA.out.rowL.wide.shape
      rw [List.length_map] at hvL
      subst hvL
      obtain ⟨aV, cV, hvV⟩ := HRA.out.rowV.wide.shape
      rw [List.length_map] at hvV
      subst hvV
      have bA : Below wr.heap.size wr (wr.alloc (.cells #[] 33)) := (Below.refl _ _).alloc (Nat.le_refl _) _
      have hWa := (HRA.out.below bA).rowV.wide
      have c1 := (HRA.out.below bA).c.2
      have hown := own0V wr
      have hVl : (its.map Im.v).length ≤ 1024 := by rw [List.length_map]; exact hlen
      generalize hwA : wr = wA at *
      go_upto_region 11 with (first | (refine bs0V rfl rfl ?_) | (refine apV rfl _ _ rfl wA.heap.size (.slice (some ⟨wA.heap.size, 0, none⟩) 0 0) [] rfl hown _ (its.map Im.v) rfl hWa (by simp at hVl ⊢; omega) bA.size ?_; intro v9 w9 P9 G9; rw [List.nil_append, List.length_map] at P9; have HB9 := hidOf2 (show Below wA.heap.size wA w9 from bA.grown G9 bA.size (own_lt hown)); obtain ⟨a9, c9, hv9⟩ := own_shape5 P9; subst hv9; have HO9 := hidOf2 (show w9.ownsRow wA.heap.size 33 3 (.slice a9 its.length c9) its.length (flatW DV ((layV its (ss.take 0)).map Im.v)) from P9); clear P9 G9))
      clear hWa c1 hown bA hVl
      go_wp2
      go_loopw [5] (fun s5 x => ∃ t k : Nat, t ≤ l.length ∧ k ≤ ss.length ∧ s5 = .int .i64 t ∧ Hid (∃ ah, cutL ah (l.drop t) = some (ss.drop k)) ∧ Hid (ldC its ss = ldC its (ss.drop k)) ∧ Hid (x.ownsRow wA.heap.size 33 3 (.slice a9 its.length c9) its.length (flatW DV ((layV its (ss.take k)).map Im.v))) ∧ Hid (Below wA.heap.size wA x)) (fun s5 _ => l.length - (intOf s5).toNat)
      case atStart => exact ⟨0, 0, Nat.zero_le _, Nat.zero_le _, rfl, HCU0, rfl, HO9, HB9⟩
      case round =>
        clear HCU0 HO9 HB9
        obtain ⟨t, k, ht, hk, rfl, HCU, HA, HO, HB⟩ := hrel
        by_cases htl : t < l.length
        · obtain ⟨hkl, h7, hdn, hsv, HNX0, hrw⟩ := q_step HCU.out htl
          have HA2 := hidOf2 (HA.out.trans (ldC_step (its := its) hkl))
          obtain ⟨b, off, hao⟩ := HBY.out.is (by omega)
          subst hao
          obtain ⟨x0, x1, x2, x3, x4, x5, x6⟩ := bytes7 (HBY.out.below (HBA.out.trans (HB.out.mono HBA.out.size))) (t := t) h7
          have HAt := at7 (l := l) (t := t) h7
          generalize l[t].toNat = A0 at *
          generalize (l[t + 1]'(by omega)).toNat = A1 at *
          generalize (l[t + 2]'(by omega)).toNat = A2 at *
          generalize (l[t + 3]'(by omega)).toNat = A3 at *
          generalize (l[t + 4]'(by omega)).toNat = A4 at *
          generalize (l[t + 5]'(by omega)).toNat = A5 at *
          generalize (l[t + 6]'(by omega)).toNat = A6 at *
          obtain ⟨hb0, hb1, hb2, hb3, hb4, hb5, hb6⟩ := HAt.b
          obtain ⟨N, hN⟩ : ∃ N : Nat, A3 + 256 * A4 + 65536 * A5 + 16777216 * A6 = N := ⟨_, rfl⟩
          have eN : (A3 : Int) + 256 * (A4 : Int) + 65536 * (A5 : Int) + 16777216 * (A6 : Int) = (N : Int) := by omega
          have hNe := HAt.n.trans hN
          rw [hNe] at hdn hrw HNX0
          have HNX := hidOf2 HNX0
          have HIX := hidOf2 (show ss[k].ix = A0 + 256 * A1 by rw [hsv]; exact HAt.ix)
          have HSB := hidOf2 (show ss[k].sb = A2 by rw [hsv]; exact HAt.sb)
          obtain ⟨ra, rc, rrun, rB, _⟩ := bslice_lh HBY.out HCP.out (t + 7) (t + 7 + N) (by omega) (by omega)
          have e7 : t + 7 + N - (t + 7) = N := by omega
          rw [e7] at rB rrun
          have HRB := hidOf2 (fun x (hx : Bytes x (.slice (some ⟨b, off, none⟩) l.length cap) l) => by have := rB x hx; rw [← hrw] at this; exact this)
          have HFi := hidOf2 (fun x (hb : Below wA.heap.size wA x) => QFind_any (HRA.out.below hb) (by rw [List.length_map]; exact hlen) (A0 + 256 * A1) A2)
          obtain ⟨FN, hFN⟩ : ∃ F, fiN (its.map Im.e) (A0 + 256 * A1) A2 = F := ⟨_, rfl⟩
          obtain ⟨FC, hFC⟩ : ∃ F, fiC (its.map Im.e) (A0 + 256 * A1) A2 = F := ⟨_, rfl⟩
          rw [hFN, hFC] at HFi
          have HFN := hidOf2 hFN
          have HFC := hidOf2 hFC
          clear hFN hFC hNe hN hrw rB e7 HAt HNX0 hsv HA HCU
          go_upto_region 13 with fail
          go_quiet (fail)
          try rw [eN]
          have HB5 := hidOf2 (bdr HB.out nq)
          have HO5 := hidOf2 (show (wr.drewN nq).ownsRow wA.heap.size 33 3 (.slice a9 its.length c9) its.length (flatW DV ((layV its (ss.take k)).map Im.v)) from HO.out)
          have S14 : (wr.drewN nq).drew.cell? ⟨b, off + t, none⟩ = some (.int .u8 A0) ∧ (wr.drewN nq).drew.cell? ⟨b, off + (t + 1), none⟩ = some (.int .u8 A1) ∧ (wr.drewN nq).drew.cell? ⟨b, off + (t + 2), none⟩ = some (.int .u8 A2) := ⟨x0, x1, x2⟩
          clear x0 x1 x2 x3 x4 x5 x6 HB HO eN
          generalize wr.drewN nq = w5 at *
          clear nq
          go_upto_region 14 with fail
          refine wp_region_held (S := fun x => x.cell? ⟨b, off + t, none⟩ = some (.int .u8 A0) ∧ x.cell? ⟨b, off + (t + 1), none⟩ = some (.int .u8 A1) ∧ x.cell? ⟨b, off + (t + 2), none⟩ = some (.int .u8 A2)) (by kernel_rfl) ?_
          change wpAnyH _ _ _ _ _ _ _ _ w5.drew
          refine wpAnyH_take (i := 0) (v := (.pointer (some ⟨E, 0, none⟩))) rfl (by kernel_rfl) (by kernel_rfl) (by kernel_rfl) (fun _ _ _ h => h) (.inl ⟨rfl, fun _ hS => rfl⟩) S14 ?_
          simp only [List.getElem_toArray, List.getElem_cons_succ, List.getElem_cons_zero, Act.put, List.setIfInBounds_toArray, List.set_cons_succ, List.set_cons_zero]
          refine wpAnyH_take (i := 1) (v := (.slice (some ⟨b, off, none⟩) l.length cap)) rfl (by kernel_rfl) (by kernel_rfl) (by kernel_rfl) (fun _ _ _ h => h) (.inl ⟨rfl, fun _ hS => rfl⟩) S14 ?_
          simp only [List.getElem_toArray, List.getElem_cons_succ, List.getElem_cons_zero, Act.put, List.setIfInBounds_toArray, List.set_cons_succ, List.set_cons_zero]
          refine wpAnyH_take (i := 2) (v := (.int .i64 (t : Int))) rfl (by kernel_rfl) (by kernel_rfl) (by kernel_rfl) (fun _ _ _ h => h) (.inl ⟨rfl, fun _ hS => rfl⟩) S14 ?_
          simp only [List.getElem_toArray, List.getElem_cons_succ, List.getElem_cons_zero, Act.put, List.setIfInBounds_toArray, List.set_cons_succ, List.set_cons_zero]
          refine wpAnyH_take (i := 3) (v := (.pointer (some ⟨b, off + t, none⟩))) rfl (by kernel_rfl) (by kernel_rfl) (by kernel_rfl) (fun _ _ _ h => h) (.inl ⟨rfl, fun _ hS => exec_idxB (k := t) rfl rfl rfl htl _⟩) S14 ?_
          simp only [List.getElem_toArray, List.getElem_cons_succ, List.getElem_cons_zero, Act.put, List.setIfInBounds_toArray, List.set_cons_succ, List.set_cons_zero]
          refine wpAnyH_take (i := 4) (v := (.int .u8 (A0 : Int))) rfl (by kernel_rfl) (by kernel_rfl) (by kernel_rfl) (fun _ _ _ h => h) (.inl ⟨rfl, fun _ hS => exec_load rfl rfl (load_u8 _ _ _ _ hS.1)⟩) S14 ?_
          simp only [List.getElem_toArray, List.getElem_cons_succ, List.getElem_cons_zero, Act.put, List.setIfInBounds_toArray, List.set_cons_succ, List.set_cons_zero]
          refine wpAnyH_take (i := 5) (v := (.int .u16 (A0 : Int))) rfl (by kernel_rfl) (by kernel_rfl) (by kernel_rfl) (fun _ _ _ h => h) (.inl ⟨rfl, fun _ hS => exec_cv16 rfl rfl hb0 _⟩) S14 ?_
          simp only [List.getElem_toArray, List.getElem_cons_succ, List.getElem_cons_zero, Act.put, List.setIfInBounds_toArray, List.set_cons_succ, List.set_cons_zero]
          refine wpAnyH_take (i := 6) (v := (.slice (some ⟨b, off, none⟩) l.length cap)) rfl (by kernel_rfl) (by kernel_rfl) (by kernel_rfl) (fun _ _ _ h => h) (.inl ⟨rfl, fun _ hS => rfl⟩) S14 ?_
          simp only [List.getElem_toArray, List.getElem_cons_succ, List.getElem_cons_zero, Act.put, List.setIfInBounds_toArray, List.set_cons_succ, List.set_cons_zero]
          refine wpAnyH_take (i := 7) (v := (.int .i64 (t : Int))) rfl (by kernel_rfl) (by kernel_rfl) (by kernel_rfl) (fun _ _ _ h => h) (.inl ⟨rfl, fun _ hS => rfl⟩) S14 ?_
          simp only [List.getElem_toArray, List.getElem_cons_succ, List.getElem_cons_zero, Act.put, List.setIfInBounds_toArray, List.set_cons_succ, List.set_cons_zero]
          refine wpAnyH_take (i := 8) (v := (.int .i64 ((t + 1 : Nat) : Int))) rfl (by kernel_rfl) (by kernel_rfl) (by kernel_rfl) (fun _ _ _ h => h) (.inl ⟨rfl, fun _ hS => exec_addi rfl rfl rfl (by omega) _⟩) S14 ?_
          simp only [List.getElem_toArray, List.getElem_cons_succ, List.getElem_cons_zero, Act.put, List.setIfInBounds_toArray, List.set_cons_succ, List.set_cons_zero]
          refine wpAnyH_take (i := 9) (v := (.pointer (some ⟨b, off + (t + 1), none⟩))) rfl (by kernel_rfl) (by kernel_rfl) (by kernel_rfl) (fun _ _ _ h => h) (.inl ⟨rfl, fun _ hS => exec_idxB (k := t + 1) rfl rfl rfl (by omega) _⟩) S14 ?_
          simp only [List.getElem_toArray, List.getElem_cons_succ, List.getElem_cons_zero, Act.put, List.setIfInBounds_toArray, List.set_cons_succ, List.set_cons_zero]
          refine wpAnyH_take (i := 10) (v := (.int .u8 (A1 : Int))) rfl (by kernel_rfl) (by kernel_rfl) (by kernel_rfl) (fun _ _ _ h => h) (.inl ⟨rfl, fun _ hS => exec_load rfl rfl (load_u8 _ _ _ _ hS.2.1)⟩) S14 ?_
          simp only [List.getElem_toArray, List.getElem_cons_succ, List.getElem_cons_zero, Act.put, List.setIfInBounds_toArray, List.set_cons_succ, List.set_cons_zero]
          refine wpAnyH_take (i := 11) (v := (.int .u16 (A1 : Int))) rfl (by kernel_rfl) (by kernel_rfl) (by kernel_rfl) (fun _ _ _ h => h) (.inl ⟨rfl, fun _ hS => exec_cv16 rfl rfl hb1 _⟩) S14 ?_
          simp only [List.getElem_toArray, List.getElem_cons_succ, List.getElem_cons_zero, Act.put, List.setIfInBounds_toArray, List.set_cons_succ, List.set_cons_zero]
          refine wpAnyH_take (i := 12) (v := (.int .u16 ((256 * A1 : Nat) : Int))) rfl (by kernel_rfl) (by kernel_rfl) (by kernel_rfl) (fun _ _ _ h => h) (.inl ⟨rfl, fun _ hS => exec_mul16 rfl rfl rfl hb1 _⟩) S14 ?_
          simp only [List.getElem_toArray, List.getElem_cons_succ, List.getElem_cons_zero, Act.put, List.setIfInBounds_toArray, List.set_cons_succ, List.set_cons_zero]
          refine wpAnyH_take (i := 13) (v := (.int .u16 ((A0 + 256 * A1 : Nat) : Int))) rfl (by kernel_rfl) (by kernel_rfl) (by kernel_rfl) (fun _ _ _ h => h) (.inl ⟨rfl, fun _ hS => exec_add16 rfl rfl rfl hb0 hb1 _⟩) S14 ?_
          simp only [List.getElem_toArray, List.getElem_cons_succ, List.getElem_cons_zero, Act.put, List.setIfInBounds_toArray, List.set_cons_succ, List.set_cons_zero]
          refine wpAnyH_take (i := 14) (v := (.slice (some ⟨b, off, none⟩) l.length cap)) rfl (by kernel_rfl) (by kernel_rfl) (by kernel_rfl) (fun _ _ _ h => h) (.inl ⟨rfl, fun _ hS => rfl⟩) S14 ?_
          simp only [List.getElem_toArray, List.getElem_cons_succ, List.getElem_cons_zero, Act.put, List.setIfInBounds_toArray, List.set_cons_succ, List.set_cons_zero]
          refine wpAnyH_take (i := 15) (v := (.int .i64 (t : Int))) rfl (by kernel_rfl) (by kernel_rfl) (by kernel_rfl) (fun _ _ _ h => h) (.inl ⟨rfl, fun _ hS => rfl⟩) S14 ?_
          simp only [List.getElem_toArray, List.getElem_cons_succ, List.getElem_cons_zero, Act.put, List.setIfInBounds_toArray, List.set_cons_succ, List.set_cons_zero]
          refine wpAnyH_take (i := 16) (v := (.int .i64 ((t + 2 : Nat) : Int))) rfl (by kernel_rfl) (by kernel_rfl) (by kernel_rfl) (fun _ _ _ h => h) (.inl ⟨rfl, fun _ hS => exec_addi rfl rfl rfl (by omega) _⟩) S14 ?_
          simp only [List.getElem_toArray, List.getElem_cons_succ, List.getElem_cons_zero, Act.put, List.setIfInBounds_toArray, List.set_cons_succ, List.set_cons_zero]
          refine wpAnyH_take (i := 17) (v := (.pointer (some ⟨b, off + (t + 2), none⟩))) rfl (by kernel_rfl) (by kernel_rfl) (by kernel_rfl) (fun _ _ _ h => h) (.inl ⟨rfl, fun _ hS => exec_idxB (k := t + 2) rfl rfl rfl (by omega) _⟩) S14 ?_
          simp only [List.getElem_toArray, List.getElem_cons_succ, List.getElem_cons_zero, Act.put, List.setIfInBounds_toArray, List.set_cons_succ, List.set_cons_zero]
          refine wpAnyH_take (i := 18) (v := (.int .u8 (A2 : Int))) rfl (by kernel_rfl) (by kernel_rfl) (by kernel_rfl) (fun _ _ _ h => h) (.inl ⟨rfl, fun _ hS => exec_load rfl rfl (load_u8 _ _ _ _ hS.2.2)⟩) S14 ?_
          simp only [List.getElem_toArray, List.getElem_cons_succ, List.getElem_cons_zero, Act.put, List.setIfInBounds_toArray, List.set_cons_succ, List.set_cons_zero]
          refine wpAnyH_all (rs := [19]) (by kernel_rfl) (by simp) ?_
          intro k hk
          simp only [List.mem_cons, List.mem_nil_iff, or_false] at hk
          subst hk
          refine wpOp_run rfl rfl (wp_call_fn 29 #[.pointer (some ⟨E, 0, none⟩), .int .u16 ((A0 + 256 * A1 : Nat) : Int), .int .u8 (A2 : Int)] (by simp [execOp, go_sem, Act.eval, resolve, invoke, enterFi]) ?_)
          refine (HFi.out w5.drew (bdr HB5.out 1)).mono ?_
          rintro e u1 ⟨rfl, hu1⟩
          subst hu1
          refine ⟨S14, ?_⟩
          simp only [List.getElem_toArray, List.getElem_cons_succ, List.getElem_cons_zero, Act.put, List.setIfInBounds_toArray, List.set_cons_succ, List.set_cons_zero]
          refine wpAnyH_take (i := 20) (v := (.tuple #[.int .i64 (FN : Int), .int .u32 (FC : Int)])) rfl (by kernel_rfl) (by kernel_rfl) (by kernel_rfl) (fun _ _ _ h => h) (.inl ⟨rfl, fun _ hS => rfl⟩) S14 ?_
          simp only [List.getElem_toArray, List.getElem_cons_succ, List.getElem_cons_zero, Act.put, List.setIfInBounds_toArray, List.set_cons_succ, List.set_cons_zero]
          refine wpAnyH_take (i := 21) (v := (.int .i64 (FN : Int))) rfl (by kernel_rfl) (by kernel_rfl) (by kernel_rfl) (fun _ _ _ h => h) (.inl ⟨rfl, fun _ hS => by simp [execOp, go_sem, Act.eval]⟩) S14 ?_
          simp only [List.getElem_toArray, List.getElem_cons_succ, List.getElem_cons_zero, Act.put, List.setIfInBounds_toArray, List.set_cons_succ, List.set_cons_zero]
          refine wpAnyH_take (i := 22) (v := (.int .u32 (FC : Int))) rfl (by kernel_rfl) (by kernel_rfl) (by kernel_rfl) (fun _ _ _ h => h) (.inl ⟨rfl, fun _ hS => by simp [execOp, go_sem, Act.eval]⟩) S14 ?_
          simp only [List.getElem_toArray, List.getElem_cons_succ, List.getElem_cons_zero, Act.put, List.setIfInBounds_toArray, List.set_cons_succ, List.set_cons_zero]
          refine wpAnyH_take (i := 23) (v := (.int .i64 (FN : Int))) rfl (by kernel_rfl) (by kernel_rfl) (by kernel_rfl) (fun _ _ _ h => h) (.inl ⟨rfl, fun _ hS => rfl⟩) S14 ?_
          simp only [List.getElem_toArray, List.getElem_cons_succ, List.getElem_cons_zero, Act.put, List.setIfInBounds_toArray, List.set_cons_succ, List.set_cons_zero]
          refine wpAnyH_take (i := 24) (v := (.int .u32 (FC : Int))) rfl (by kernel_rfl) (by kernel_rfl) (by kernel_rfl) (fun _ _ _ h => h) (.inl ⟨rfl, fun _ hS => rfl⟩) S14 ?_
          simp only [List.getElem_toArray, List.getElem_cons_succ, List.getElem_cons_zero, Act.put, List.setIfInBounds_toArray, List.set_cons_succ, List.set_cons_zero]
          refine wpAnyH_done (by kernel_rfl) ?_ _
          have HB6 := hidOf2 (show Below wA.heap.size wA w5.drew from bdr HB5.out 1)
          have HR6 := hidOf2 (show Rd E _ _ _ _ w5.drew from HRA.out.below HB6.out)
          have HO6 := hidOf2 (own_drew HO5.out)
          clear S14 HB5 HO5 HFi
          generalize w5.drew = w6 at *
          cases hf : fnd its (A0 + 256 * A1) A2 with
          | none =>
            obtain ⟨f1, f2⟩ := fi_none hf
            rw [HIX.out, HSB.out, hf] at HA2
            have E1 := hidOf2 (show LC = 4 by rw [HC2.out, HA2.out])
            have E2 := hidOf2 (show LI = its by rw [HI2.out, if_neg (by rw [HA2.out]; simp)])
            have d1 : ((FC : Int) != 0) = true := by have := noc_ne its (A0 + 256 * A1); have e3 := HFC.out.symm.trans f2; simp; omega
            have R7 := hidOf2 (HRA.out.below HB6.out)
            have HW7 := hidOf2 (HBA.out.trans (HB6.out.mono HBA.out.size))
            clear HO6 HR6 HA2 hf f1 f2
            go_wp2
            go_ret
            exact ⟨ret_int (by rw [E1.out]; rfl), ⟨_, by rw [E2.out]; exact R7.out⟩, gb_any HW7.out _⟩
          | some i =>
            obtain ⟨j, hj, e1, f1, f2⟩ := fi_some hf
            have eFN : j = FN := f1.symm.trans HFN.out
            have eFC : FC = 0 := HFC.out.symm.trans f2
            subst eFN
            subst eFC
            rw [HIX.out, HSB.out, hf] at HA2
            have HLL := hidOf2 (show ((layV its (ss.take k)).map Im.v).length = its.length by rw [List.length_map]; exact lay_len its _)
            have HLV := hidOf2 (lay_v hap hf hj e1 (ss.take k) ss[k] (by rw [HIX.out]) (by rw [HSB.out]))
            rw [← layV_step hkl] at HLV
            obtain ⟨c0, _⟩ := HR6.out.c
            obtain ⟨lb, lo, cL', vb', vo', cV', q1, q2, hlb, hvb, rL, rV⟩ := HR6.out.atI hj
            injection q1 with q1 _ q1c
            subst q1
            subst q1c
            rw [e1] at rL
            have k2 := rL 2 _ rfl
            have HK11 := hidOf2 (fun x (hb : Below w6.heap.size w6 x) => And.intro (HR6.out.below hb).c.1 (rng_below rL hb hlb 11 _ rfl))
            clear hf rV q2 hvb e1 f1 f2 rL
            by_cases ha : i.e.ac = 2
            · rw [ha] at k2
              have HA3 := hidOf2 (HA2.out.trans (if_neg (by simpa using ha)))
              clear HA2
              have hDec := hidOf2 (fun x (hb : Below w6.heap.size w6 x) => r7Decode_v i.e.df.t i.e.df.ht (.slice ra N rc) ss[k].raw x (HRB.out x (HBY.out.below (HBA.out.trans ((HB6.out.trans (hb.mono HB6.out.size)).mono HBA.out.size)))))
              have HSS := HK11
              clear HK11 HRB
              obtain ⟨dE, hdE⟩ : ∃ d, decE i.e.df.t ss[k].raw = d := ⟨_, rfl⟩
              obtain ⟨dV, hdV⟩ : ∃ d, decW i.e.df.t ss[k].raw = d := ⟨_, rfl⟩
              rw [hdE] at HA3 hDec
              rw [hdV] at hDec HLV
              clear hdE hdV
              have c0z := c0
              clear c0
              have c0 : Below w6.heap.size w6 w6.drew := bdr (Below.refl _ _) 1
              have S17 := HSS.out _ c0
              go_upto_region 17 with fail
              clear c0z k2
              refine wp_region_held (S := fun x => x.cell? ⟨E, 0, none⟩ = some (.slice (some ⟨lb, lo, none⟩) its.length cL) ∧ x.cell? ⟨lb, lo + j * 14 + 11, none⟩ = some (.int .i64 i.e.df.t)) (by kernel_rfl) ?_
              change wpAnyH _ _ _ _ _ _ _ _ w6.drew
              refine wpAnyH_take (i := 0) (v := (.pointer (some ⟨E, 0, none⟩))) rfl (by kernel_rfl) (by kernel_rfl) (by kernel_rfl) (fun _ _ _ h => h) (.inl ⟨rfl, fun _ hS => rfl⟩) S17 ?_
              simp only [List.getElem_toArray, List.getElem_cons_succ, List.getElem_cons_zero, Act.put, List.setIfInBounds_toArray, List.set_cons_succ, List.set_cons_zero]
              refine wpAnyH_take (i := 1) (v := (.pointer (some ⟨E, 0, none⟩))) rfl (by kernel_rfl) (by kernel_rfl) (by kernel_rfl) (fun _ _ _ h => h) (.inl ⟨rfl, fun _ hS => by simp [execOp, go_sem, Act.eval]⟩) S17 ?_
              simp only [List.getElem_toArray, List.getElem_cons_succ, List.getElem_cons_zero, Act.put, List.setIfInBounds_toArray, List.set_cons_succ, List.set_cons_zero]
              refine wpAnyH_take (i := 2) (v := (.pointer (some ⟨E, 0, none⟩))) rfl (by kernel_rfl) (by kernel_rfl) (by kernel_rfl) (fun _ _ _ h => h) (.inl ⟨rfl, fun _ hS => by simp [execOp, go_sem, Act.eval]⟩) S17 ?_
              simp only [List.getElem_toArray, List.getElem_cons_succ, List.getElem_cons_zero, Act.put, List.setIfInBounds_toArray, List.set_cons_succ, List.set_cons_zero]
              refine wpAnyH_take (i := 3) (v := (.slice (some ⟨lb, lo, none⟩) its.length cL)) rfl (by kernel_rfl) (by kernel_rfl) (by kernel_rfl) (fun _ _ _ h => h) (.inl ⟨rfl, fun _ hS => exec_load rfl rfl (load_ents _ _ _ _ _ _ hS.1)⟩) S17 ?_
              simp only [List.getElem_toArray, List.getElem_cons_succ, List.getElem_cons_zero, Act.put, List.setIfInBounds_toArray, List.set_cons_succ, List.set_cons_zero]
              refine wpAnyH_take (i := 4) (v := (.int .i64 (j : Int))) rfl (by kernel_rfl) (by kernel_rfl) (by kernel_rfl) (fun _ _ _ h => h) (.inl ⟨rfl, fun _ hS => rfl⟩) S17 ?_
              simp only [List.getElem_toArray, List.getElem_cons_succ, List.getElem_cons_zero, Act.put, List.setIfInBounds_toArray, List.set_cons_succ, List.set_cons_zero]
              refine wpAnyH_take (i := 5) (v := (.pointer (some ⟨lb, lo + j * 14, none⟩))) rfl (by kernel_rfl) (by kernel_rfl) (by kernel_rfl) (fun _ _ _ h => h) (.inl ⟨rfl, fun _ hS => exec_idxE rfl rfl rfl hj _⟩) S17 ?_
              simp only [List.getElem_toArray, List.getElem_cons_succ, List.getElem_cons_zero, Act.put, List.setIfInBounds_toArray, List.set_cons_succ, List.set_cons_zero]
              refine wpAnyH_take (i := 6) (v := (.pointer (some ⟨lb, lo + j * 14 + 11, none⟩))) rfl (by kernel_rfl) (by kernel_rfl) (by kernel_rfl) (fun _ _ _ h => h) (.inl ⟨rfl, fun _ hS => by simp [execOp, go_sem, Act.eval]⟩) S17 ?_
              simp only [List.getElem_toArray, List.getElem_cons_succ, List.getElem_cons_zero, Act.put, List.setIfInBounds_toArray, List.set_cons_succ, List.set_cons_zero]
              refine wpAnyH_take (i := 7) (v := (.pointer (some ⟨lb, lo + j * 14 + 11, none⟩))) rfl (by kernel_rfl) (by kernel_rfl) (by kernel_rfl) (fun _ _ _ h => h) (.inl ⟨rfl, fun _ hS => by simp [execOp, go_sem, Act.eval]⟩) S17 ?_
              simp only [List.getElem_toArray, List.getElem_cons_succ, List.getElem_cons_zero, Act.put, List.setIfInBounds_toArray, List.set_cons_succ, List.set_cons_zero]
              refine wpAnyH_take (i := 8) (v := (.int .i64 i.e.df.t)) rfl (by kernel_rfl) (by kernel_rfl) (by kernel_rfl) (fun _ _ _ h => h) (.inl ⟨rfl, fun _ hS => exec_load rfl rfl (load_int8 _ _ _ _ hS.2)⟩) S17 ?_
              simp only [List.getElem_toArray, List.getElem_cons_succ, List.getElem_cons_zero, Act.put, List.setIfInBounds_toArray, List.set_cons_succ, List.set_cons_zero]
              refine wpAnyH_take (i := 9) (v := (.slice (some ⟨b, off, none⟩) l.length cap)) rfl (by kernel_rfl) (by kernel_rfl) (by kernel_rfl) (fun _ _ _ h => h) (.inl ⟨rfl, fun _ hS => rfl⟩) S17 ?_
              simp only [List.getElem_toArray, List.getElem_cons_succ, List.getElem_cons_zero, Act.put, List.setIfInBounds_toArray, List.set_cons_succ, List.set_cons_zero]
              refine wpAnyH_take (i := 10) (v := (.int .i64 (t : Int))) rfl (by kernel_rfl) (by kernel_rfl) (by kernel_rfl) (fun _ _ _ h => h) (.inl ⟨rfl, fun _ hS => rfl⟩) S17 ?_
              simp only [List.getElem_toArray, List.getElem_cons_succ, List.getElem_cons_zero, Act.put, List.setIfInBounds_toArray, List.set_cons_succ, List.set_cons_zero]
              refine wpAnyH_take (i := 11) (v := (.int .i64 ((t + 7 : Nat) : Int))) rfl (by kernel_rfl) (by kernel_rfl) (by kernel_rfl) (fun _ _ _ h => h) (.inl ⟨rfl, fun _ hS => exec_addi rfl rfl rfl (by omega) _⟩) S17 ?_
              simp only [List.getElem_toArray, List.getElem_cons_succ, List.getElem_cons_zero, Act.put, List.setIfInBounds_toArray, List.set_cons_succ, List.set_cons_zero]
              refine wpAnyH_take (i := 12) (v := (.int .i64 (t : Int))) rfl (by kernel_rfl) (by kernel_rfl) (by kernel_rfl) (fun _ _ _ h => h) (.inl ⟨rfl, fun _ hS => rfl⟩) S17 ?_
              simp only [List.getElem_toArray, List.getElem_cons_succ, List.getElem_cons_zero, Act.put, List.setIfInBounds_toArray, List.set_cons_succ, List.set_cons_zero]
              refine wpAnyH_take (i := 13) (v := (.int .i64 ((t + 7 : Nat) : Int))) rfl (by kernel_rfl) (by kernel_rfl) (by kernel_rfl) (fun _ _ _ h => h) (.inl ⟨rfl, fun _ hS => exec_addi rfl rfl rfl (by omega) _⟩) S17 ?_
              simp only [List.getElem_toArray, List.getElem_cons_succ, List.getElem_cons_zero, Act.put, List.setIfInBounds_toArray, List.set_cons_succ, List.set_cons_zero]
              refine wpAnyH_take (i := 14) (v := (.int .i64 (N : Int))) rfl (by kernel_rfl) (by kernel_rfl) (by kernel_rfl) (fun _ _ _ h => h) (.inl ⟨rfl, fun _ hS => rfl⟩) S17 ?_
              simp only [List.getElem_toArray, List.getElem_cons_succ, List.getElem_cons_zero, Act.put, List.setIfInBounds_toArray, List.set_cons_succ, List.set_cons_zero]
              refine wpAnyH_take (i := 15) (v := (.int .i64 ((t + 7 + N : Nat) : Int))) rfl (by kernel_rfl) (by kernel_rfl) (by kernel_rfl) (fun _ _ _ h => h) (.inl ⟨rfl, fun _ hS => exec_addi rfl rfl rfl (by omega) _⟩) S17 ?_
              simp only [List.getElem_toArray, List.getElem_cons_succ, List.getElem_cons_zero, Act.put, List.setIfInBounds_toArray, List.set_cons_succ, List.set_cons_zero]
              refine wpAnyH_take (i := 16) (v := (.slice ra N rc)) rfl (by kernel_rfl) (by kernel_rfl) (by kernel_rfl) (fun _ _ _ h => h) (.inl ⟨rfl, fun _ hS => exec_sliceB (v := .slice (some ⟨b, off, none⟩) l.length cap) (lo' := some (.int .i64 ((t + 7 : Nat) : Int))) (hi' := some (.int .i64 ((t + 7 + N : Nat) : Int))) rfl rfl rfl rfl rrun _⟩) S17 ?_
              simp only [List.getElem_toArray, List.getElem_cons_succ, List.getElem_cons_zero, Act.put, List.setIfInBounds_toArray, List.set_cons_succ, List.set_cons_zero]
              refine wpAnyH_all (rs := [17, 21]) (by kernel_rfl) (by simp) ?_
              intro k hk
              simp only [List.mem_cons, List.mem_nil_iff, or_false] at hk
              rcases hk with rfl | rfl
              · refine wpOp_run rfl rfl (wp_call_fn 54 #[.int .i64 i.e.df.t, .slice ra N rc] (by simp [execOp, go_sem, Act.eval, resolve, invoke, enterRd]) ?_)
                refine (hDec.out w6.drew c0).mono ?_
                rintro e v1 ⟨rfl, b1⟩
                have c1 := c0.trans (b1.mono c0.size)
                have s1 := HSS.out _ c1
                refine ⟨s1, ?_⟩
                simp only [List.getElem_toArray, List.getElem_cons_succ, List.getElem_cons_zero, Act.put, List.setIfInBounds_toArray, List.set_cons_succ, List.set_cons_zero]
                refine wpAnyH_take (i := 18) (v := (.tuple #[.agg dV.arr, .int .i64 (dE : Int)])) rfl (by kernel_rfl) (by kernel_rfl) (by kernel_rfl) (fun _ _ _ h => h) (.inl ⟨rfl, fun _ hS => rfl⟩) s1 ?_
                simp only [List.getElem_toArray, List.getElem_cons_succ, List.getElem_cons_zero, Act.put, List.setIfInBounds_toArray, List.set_cons_succ, List.set_cons_zero]
                refine wpAnyH_take (i := 19) (v := (.agg dV.arr)) rfl (by kernel_rfl) (by kernel_rfl) (by kernel_rfl) (fun _ _ _ h => h) (.inl ⟨rfl, fun _ hS => by simp [execOp, go_sem, Act.eval]⟩) s1 ?_
                simp only [List.getElem_toArray, List.getElem_cons_succ, List.getElem_cons_zero, Act.put, List.setIfInBounds_toArray, List.set_cons_succ, List.set_cons_zero]
                refine wpAnyH_take (i := 20) (v := (.int .i64 (dE : Int))) rfl (by kernel_rfl) (by kernel_rfl) (by kernel_rfl) (fun _ _ _ h => h) (.inl ⟨rfl, fun _ hS => by simp [execOp, go_sem, Act.eval]⟩) s1 ?_
                simp only [List.getElem_toArray, List.getElem_cons_succ, List.getElem_cons_zero, Act.put, List.setIfInBounds_toArray, List.set_cons_succ, List.set_cons_zero]
                refine wpAnyH_all (rs := [21]) (by kernel_rfl) (by simp) ?_
                intro k hk
                simp only [List.mem_cons, List.mem_nil_iff, or_false] at hk
                subst hk
                refine wpOp_run rfl rfl (wp_allocV rfl ?_)
                obtain ⟨q2, hqv⟩ : ∃ q, v1.heap.size = q := ⟨_, rfl⟩
                have g2 := Va.new v1 Vl.nul
                have c2 := c1.alloc c1.size (.cells Vl.nul.arr 33)
                have s2 := HSS.out _ c2
                have hqr : w6.heap.size ≤ q2 := by rw [← hqv]; exact c1.size
                rw [hqv] at g2 ⊢
                generalize v1.alloc (.cells Vl.nul.arr 33) = v2 at *
                refine ⟨s2, ?_⟩
                simp only [List.getElem_toArray, List.getElem_cons_succ, List.getElem_cons_zero, Act.put, List.setIfInBounds_toArray, List.set_cons_succ, List.set_cons_zero]
                refine wpAnyH_all (rs := [22]) (by kernel_rfl) (by simp) ?_
                intro k hk
                simp only [List.mem_cons, List.mem_nil_iff, or_false] at hk
                subst hk
                refine wpOp_run rfl rfl (wp_store_row 33 _ _ rfl q2 (dV).arr rfl rfl 33 Vl.nul.arr g2 (by rw [Vl.arr_size]; exact infoV) (by rw [Vl.arr_size, Vl.arr_size]) (dV).one ?_)
                have gZ := g2.row (dV)
                have cZ := below_row c2 hqr c2.size (q := q2) (dV).arr
                have sZ := HSS.out _ cZ
                refine ⟨sZ, ?_⟩
                simp only [List.getElem_toArray, List.getElem_cons_succ, List.getElem_cons_zero, Act.put, List.setIfInBounds_toArray, List.set_cons_succ, List.set_cons_zero]
                refine wpAnyH_take (i := 23) (v := (.int .i64 (dE : Int))) rfl (by kernel_rfl) (by kernel_rfl) (by kernel_rfl) (fun _ _ _ h => h) (.inl ⟨rfl, fun _ hS => rfl⟩) sZ ?_
                simp only [List.getElem_toArray, List.getElem_cons_succ, List.getElem_cons_zero, Act.put, List.setIfInBounds_toArray, List.set_cons_succ, List.set_cons_zero]
                refine wpAnyH_done (by kernel_rfl) ?_ _
                have GZ := hidOf2 gZ
                have HB7 := hidOf2 (HB6.out.trans (cZ.mono HB6.out.size))
                have HR7 := hidOf2 (HR6.out.below cZ)
                have HO7 := hidOf2 (own_below5 HO6.out cZ)
                clear s1 s2 sZ gZ cZ S17 HSS hDec c0 HB6 HR6 HO6
                generalize v2.setRow q2 dV.arr = w7 at *
                by_cases hd : dE = 0
                · subst hd
                  have E1 := hidOf2 (show ldC its ss = ldC its (ss.drop (k + 1)) from HA3.out.trans (if_neg (by simp)))
                  obtain ⟨g, hv9⟩ : ∃ g, a9 = some ⟨g, 0, none⟩ := by
                    obtain ⟨g, cg, hv9⟩ := own_some HO7.out (by omega)
                    injection hv9 with hv9 _ _
                    exact ⟨g, hv9⟩
                  subst hv9
                  have hO7 := HO7.out
                  have hjL : j < ((layV its (ss.take k)).map Im.v).length := by rw [HLL.out]; exact hj
                  rw [← HLL.out] at hO7
                  have ht := own_there hO7 hjL
                  have hz := own_setV hO7 hjL dV
                  rw [List.length_set, HLL.out] at hz
                  have HZ := hidOf2 (show (w7.setCells g (j * 3) (vlC dV)).ownsRow wA.heap.size 33 3 (.slice (some ⟨g, 0, none⟩) its.length c9) its.length (flatW DV ((layV its (ss.take (k + 1))).map Im.v)) by rw [HLV.out]; exact hz)
                  have HgB := own_lt hO7 g rfl
                  have HBz := hidOf2 (show Below wA.heap.size wA (w7.setCells g (j * 3) (vlC dV)) from HB7.out.grown (setCells_kept _ _ _ _) HB7.out.size (fun k hk => by injection hk with hk; omega))
                  have gz := GZ.out
                  clear hO7 hz HO7 HB7 HgB hjL
                  go_upto_region 21 with (first | (refine gz.ld rfl _ rfl rfl ?_) | (refine sdV ht dV rfl _ _ rfl rfl rfl ?_))
                  generalize w7.setCells g (j * 3) (vlC dV) = w8 at *
                  clear gz ht GZ
                  go_wp2
                  go_roundw
                  case rel => exact ⟨t + 7 + N, k + 1, by omega, by omega, by go_num, HNX, E1, HZ, HBz⟩
                  case measure => simp [intOf]; omega
                · have E1 := hidOf2 (show LC = 8 by rw [HC2.out, HA3.out, if_pos hd])
                  have E2 := hidOf2 (show LI = its by rw [HI2.out, if_neg (by rw [HA3.out, if_pos hd]; decide)])
                  have de : ((dE : Int) != 0) = true := by simpa using hd
                  have R7 := hidOf2 (HRA.out.below HB7.out)
                  have HW7 := hidOf2 (HBA.out.trans (HB7.out.mono HBA.out.size))
                  clear HO7 GZ
                  go_wp2
                  go_ret
                  exact ⟨ret_int (by rw [E1.out]; rfl), ⟨_, by rw [E2.out]; exact R7.out⟩, gb_any HW7.out _⟩
              · refine wpOp_run rfl rfl (wp_allocV rfl ?_)
                obtain ⟨q2, hqv⟩ : ∃ q, w6.drew.heap.size = q := ⟨_, rfl⟩
                have g1 := Va.new w6.drew Vl.nul
                have c1 := c0.alloc c0.size (.cells Vl.nul.arr 33)
                have s1 := HSS.out _ c1
                have hqr : w6.heap.size ≤ q2 := by rw [← hqv]; exact c0.size
                rw [hqv] at g1 ⊢
                generalize w6.drew.alloc (.cells Vl.nul.arr 33) = v1 at *
                refine ⟨s1, ?_⟩
                simp only [List.getElem_toArray, List.getElem_cons_succ, List.getElem_cons_zero, Act.put, List.setIfInBounds_toArray, List.set_cons_succ, List.set_cons_zero]
                refine wpAnyH_all (rs := [17]) (by kernel_rfl) (by simp) ?_
                intro k hk
                simp only [List.mem_cons, List.mem_nil_iff, or_false] at hk
                subst hk
                refine wpOp_run rfl rfl (wp_call_fn 54 #[.int .i64 i.e.df.t, .slice ra N rc] (by simp [execOp, go_sem, Act.eval, resolve, invoke, enterRd]) ?_)
                refine (hDec.out v1 c1).mono ?_
                rintro e v2 ⟨rfl, b2⟩
                have c2 := c1.trans (b2.mono c1.size)
                have s2 := HSS.out _ c2
                have g2 := g1.below b2
                refine ⟨s2, ?_⟩
                simp only [List.getElem_toArray, List.getElem_cons_succ, List.getElem_cons_zero, Act.put, List.setIfInBounds_toArray, List.set_cons_succ, List.set_cons_zero]
                refine wpAnyH_take (i := 18) (v := (.tuple #[.agg dV.arr, .int .i64 (dE : Int)])) rfl (by kernel_rfl) (by kernel_rfl) (by kernel_rfl) (fun _ _ _ h => h) (.inl ⟨rfl, fun _ hS => rfl⟩) s2 ?_
                simp only [List.getElem_toArray, List.getElem_cons_succ, List.getElem_cons_zero, Act.put, List.setIfInBounds_toArray, List.set_cons_succ, List.set_cons_zero]
                refine wpAnyH_take (i := 19) (v := (.agg dV.arr)) rfl (by kernel_rfl) (by kernel_rfl) (by kernel_rfl) (fun _ _ _ h => h) (.inl ⟨rfl, fun _ hS => by simp [execOp, go_sem, Act.eval]⟩) s2 ?_
                simp only [List.getElem_toArray, List.getElem_cons_succ, List.getElem_cons_zero, Act.put, List.setIfInBounds_toArray, List.set_cons_succ, List.set_cons_zero]
                refine wpAnyH_take (i := 20) (v := (.int .i64 (dE : Int))) rfl (by kernel_rfl) (by kernel_rfl) (by kernel_rfl) (fun _ _ _ h => h) (.inl ⟨rfl, fun _ hS => by simp [execOp, go_sem, Act.eval]⟩) s2 ?_
                simp only [List.getElem_toArray, List.getElem_cons_succ, List.getElem_cons_zero, Act.put, List.setIfInBounds_toArray, List.set_cons_succ, List.set_cons_zero]
                refine wpAnyH_all (rs := [22]) (by kernel_rfl) (by simp) ?_
                intro k hk
                simp only [List.mem_cons, List.mem_nil_iff, or_false] at hk
                subst hk
                refine wpOp_run rfl rfl (wp_store_row 33 _ _ rfl q2 (dV).arr rfl rfl 33 Vl.nul.arr g2 (by rw [Vl.arr_size]; exact infoV) (by rw [Vl.arr_size, Vl.arr_size]) (dV).one ?_)
                have gZ := g2.row (dV)
                have cZ := below_row c2 hqr c2.size (q := q2) (dV).arr
                have sZ := HSS.out _ cZ
                refine ⟨sZ, ?_⟩
                simp only [List.getElem_toArray, List.getElem_cons_succ, List.getElem_cons_zero, Act.put, List.setIfInBounds_toArray, List.set_cons_succ, List.set_cons_zero]
                refine wpAnyH_take (i := 23) (v := (.int .i64 (dE : Int))) rfl (by kernel_rfl) (by kernel_rfl) (by kernel_rfl) (fun _ _ _ h => h) (.inl ⟨rfl, fun _ hS => rfl⟩) sZ ?_
                simp only [List.getElem_toArray, List.getElem_cons_succ, List.getElem_cons_zero, Act.put, List.setIfInBounds_toArray, List.set_cons_succ, List.set_cons_zero]
                refine wpAnyH_done (by kernel_rfl) ?_ _
                have GZ := hidOf2 gZ
                have HB7 := hidOf2 (HB6.out.trans (cZ.mono HB6.out.size))
                have HR7 := hidOf2 (HR6.out.below cZ)
                have HO7 := hidOf2 (own_below5 HO6.out cZ)
                clear s1 s2 sZ gZ cZ S17 HSS hDec c0 HB6 HR6 HO6
                generalize v2.setRow q2 dV.arr = w7 at *
                by_cases hd : dE = 0
                · subst hd
                  have E1 := hidOf2 (show ldC its ss = ldC its (ss.drop (k + 1)) from HA3.out.trans (if_neg (by simp)))
                  obtain ⟨g, hv9⟩ : ∃ g, a9 = some ⟨g, 0, none⟩ := by
                    obtain ⟨g, cg, hv9⟩ := own_some HO7.out (by omega)
                    injection hv9 with hv9 _ _
                    exact ⟨g, hv9⟩
                  subst hv9
                  have hO7 := HO7.out
                  have hjL : j < ((layV its (ss.take k)).map Im.v).length := by rw [HLL.out]; exact hj
                  rw [← HLL.out] at hO7
                  have ht := own_there hO7 hjL
                  have hz := own_setV hO7 hjL dV
                  rw [List.length_set, HLL.out] at hz
                  have HZ := hidOf2 (show (w7.setCells g (j * 3) (vlC dV)).ownsRow wA.heap.size 33 3 (.slice (some ⟨g, 0, none⟩) its.length c9) its.length (flatW DV ((layV its (ss.take (k + 1))).map Im.v)) by rw [HLV.out]; exact hz)
                  have HgB := own_lt hO7 g rfl
                  have HBz := hidOf2 (show Below wA.heap.size wA (w7.setCells g (j * 3) (vlC dV)) from HB7.out.grown (setCells_kept _ _ _ _) HB7.out.size (fun k hk => by injection hk with hk; omega))
                  have gz := GZ.out
                  clear hO7 hz HO7 HB7 HgB hjL
                  go_upto_region 21 with (first | (refine gz.ld rfl _ rfl rfl ?_) | (refine sdV ht dV rfl _ _ rfl rfl rfl ?_))
                  generalize w7.setCells g (j * 3) (vlC dV) = w8 at *
                  clear gz ht GZ
                  go_wp2
                  go_roundw
                  case rel => exact ⟨t + 7 + N, k + 1, by omega, by omega, by go_num, HNX, E1, HZ, HBz⟩
                  case measure => simp [intOf]; omega
                · have E1 := hidOf2 (show LC = 8 by rw [HC2.out, HA3.out, if_pos hd])
                  have E2 := hidOf2 (show LI = its by rw [HI2.out, if_neg (by rw [HA3.out, if_pos hd]; decide)])
                  have de : ((dE : Int) != 0) = true := by simpa using hd
                  have R7 := hidOf2 (HRA.out.below HB7.out)
                  have HW7 := hidOf2 (HBA.out.trans (HB7.out.mono HBA.out.size))
                  clear HO7 GZ
                  go_wp2
                  go_ret
                  exact ⟨ret_int (by rw [E1.out]; rfl), ⟨_, by rw [E2.out]; exact R7.out⟩, gb_any HW7.out _⟩
            · have da : (i.e.ac != 2) = true := by simpa using ha
              have HA4 := hidOf2 (show ldC its ss = 4 from HA2.out.trans (if_pos (by simpa using ha)))
              have E1 := hidOf2 (show LC = 4 by rw [HC2.out, HA4.out])
              have E2 := hidOf2 (show LI = its by rw [HI2.out, if_neg (by rw [HA4.out]; decide)])
              have R7 := hidOf2 (HRA.out.below HB6.out)
              have HW7 := hidOf2 (HBA.out.trans (HB6.out.mono HBA.out.size))
              clear HO6 HR6 HA2 HLV HLL
              generalize i.e.ac = A at *
              go_wp2
              go_ret
              exact ⟨ret_int (by rw [E1.out]; rfl), ⟨_, by rw [E2.out]; exact R7.out⟩, gb_any HW7.out _⟩
        · have hfin := q_fin HCU.out htl
          have E1 := hidOf2 (show LC = 0 by rw [HC2.out, HA.out, hfin]; rfl)
          have hks : k = ss.length := by have := congrArg List.length hfin; rw [List.length_drop] at this; simp at this; omega
          have E2 := hidOf2 (show LI = layV its ss by rw [HI2.out, if_pos (by rw [HA.out, hfin]; rfl)])
          rw [hks, List.take_length] at HO
          have R8 := HRA.out.below HB.out
          have hO8 := HO.out
          have hLLn : ((layV its ss).map Im.v).length = its.length := by rw [List.length_map]; exact lay_len its _
          rw [← hLLn] at hO8
          have RN := R8.setV (RT.own DV hO8)
          have c8 := R8.c.2
          have f8 := R8.frozen 1
          have HG8 := hidOf2 (grown_trans (gb_any (HBA.out.trans (HB.out.mono HBA.out.size)) (some E)) (set_kept wr E 1 (.slice a9 ((layV its ss).map Im.v).length c9)))
          have HRN := hidOf2 (show Rd E (LI.map Im.e) _ (LI.map Im.v) _ _ by rw [E2.out, (Al.layV (⟨rfl, rfl⟩ : Al (its.map Im.e) (its.map Im.b) its) ss).e]; exact RN)
          rw [hLLn] at HRN HG8
          clear RN hO8 HO HB R8 HA HCU hfin hks hLLn HC2 HI2
          go_wp2
          generalize wr.setCell ⟨E, 1, none⟩ (.slice a9 its.length c9) = w9z at *
          go_ret
          exact ⟨ret_int (by rw [E1.out]; rfl), ⟨_, HRN.out⟩, HG8.out⟩
end Go.Proofs.Ytdcogpadioeclaa
namespace Go.Proofs.Ytdcogpadioeclaa
open Go.RowKit Go.Proofs.Ty Go.Sort Go.Lib
set_option linter.unusedVariables false
set_option maxRecDepth 1000000
set_option linter.unusedSimpArgs false
set_option maxHeartbeats 8000000 in
theorem does_5 {w : World} {X D R E : Nat} {its : List Im} {x : World} (h : Sm w X D R E its its x) (hok : ∀ i ∈ its, Ok i) (A : A8) (hk : A.kind = 5) (hBy : Bytes w A.bv A.bl) (hCp : Cp A.bv) (hbl : A.bl.length ≤ 140737488351232) :
    Calls Try.prog 10 #[.pointer (some ⟨X, 0, none⟩), .agg A.arr] x (DoesPost w X D R E its) := by
  obtain ⟨aob, cpb, hbv⟩ := bytes_shape hBy
  obtain ⟨q, hq⟩ : ∃ q, x.heap.size = q := ⟨_, rfl⟩
  have a0 : Aq q A (x.alloc (.cells A.arr 35)) := hq ▸ heap_alloc_new x _
  have b0 : Below x.heap.size x (x.alloc (.cells A.arr 35)) := (Below.refl _ _).alloc (Nat.le_refl _) _
  have HM0 := hidOf2 (h.next b0)
  have HBY := hidOf2 hBy
  have HCP := hidOf2 hCp
  have HAP := hidOf2 h.dct.apart
  have HLN := hidOf2 h.len
  have HOK := hidOf2 hok
  have HAc : Hid (∀ y, Aq q A y → y.cell? ⟨q, 1, none⟩ = some (.int .u16 A.ix) ∧ y.cell? ⟨q, 2, none⟩ = some (.int .u8 A.sb) ∧ y.cell? ⟨q, 3, none⟩ = some (.slice aob A.bl.length cpb)) := fun y h => by
    have h2 := Aq.c h
    rw [hbv] at h2
    exact h2
  have HK0 : Hid (∀ y, Aq q A y → y.cell? ⟨q, 0, none⟩ = some (.int .i64 A.kind)) := fun y h => Lib.cell_of_heap h 0
  clear h hok b0 hCp
  go_enter Try.func10, Try.ntmps10
  go_upto_region 1 with fail
  generalize x.alloc (.cells A.arr 35) = w0 at *
  try simp only [hq]
  have bB : Below w0.heap.size w0 (w0.alloc (.cells #[] 5)) := (Below.refl _ _).alloc (Nat.le_refl _) _
  have c3 := (HAc.out _ (a0.next bB)).2.2
  have hown := own_empty w0
  have hBx := hBy.below ((HM0.out.next bB).below)
  rw [hbv] at hBx
  have hl0 : ([] : List UInt8).length + A.bl.length ≤ 140737488355328 := by simp; omega
  go_upto_region 2 with (first | (refine append_bytes2 rfl _ _ rfl w0.heap.size _ [] rfl hown _ A.bl rfl hBx hl0 bB.size ?_; intro v5 w1 P5 G5 _; rw [List.nil_append] at P5; have B1 : Below w0.heap.size w0 w1 := bB.grown G5 bB.size (own_lt hown); have HT5 := hidOf2 (bytes_of_own P5); have HC5 := hidOf2 (own_cp P5); obtain ⟨a5, c5, hv5⟩ := own_shape5 P5; subst hv5; have HM1 := hidOf2 (HM0.out.next B1); have HA1 := hidOf2 (a0.next B1); clear P5 G5 B1 hown hBx c3 bB a0 HM0 hl0))
  clear hBy
  rw [hbv] at HBY HCP
  have k0 := HK0.out _ HA1.out
  rw [hk] at k0
  have T21 := HT5.out.below (bdr (Below.refl _ w1) 1)
  have AL := hidOf2 (Al.loadI (⟨rfl, rfl⟩ : Al (its.map Im.e) (its.map Im.b) its) A.bl)
  have M21d := HM1.out.next (bdr (Below.refl _ w1) 1)
  have A21d : Aq q A w1.drew := HA1.out.next (bdr (Below.refl _ w1) 1)
  have M21e : Sm w X D R E its its w1.drew := M21d
  have S21 := (show (fun y => y.cell? ⟨X, 0, none⟩ = some (.pointer (some ⟨D, 0, none⟩)) ∧ y.cell? ⟨X, 1, none⟩ = some (.pointer (some ⟨E, 0, none⟩)) ∧ y.cell? ⟨q, 1, none⟩ = some (.int .u16 A.ix) ∧ y.cell? ⟨q, 2, none⟩ = some (.int .u8 A.sb) ∧ y.cell? ⟨q, 3, none⟩ = some (.slice aob A.bl.length cpb)) w1.drew from ⟨M21d.cX.1, M21d.cX.2, (HAc.out _ A21d).1, (HAc.out _ A21d).2.1, (HAc.out _ A21d).2.2⟩)
  go_upto_region 21 with fail
  refine wp_region_held (S := fun y => y.cell? ⟨X, 0, none⟩ = some (.pointer (some ⟨D, 0, none⟩)) ∧ y.cell? ⟨X, 1, none⟩ = some (.pointer (some ⟨E, 0, none⟩)) ∧ y.cell? ⟨q, 1, none⟩ = some (.int .u16 A.ix) ∧ y.cell? ⟨q, 2, none⟩ = some (.int .u8 A.sb) ∧ y.cell? ⟨q, 3, none⟩ = some (.slice aob A.bl.length cpb)) (by kernel_rfl) ?_
  change wpAnyH _ _ _ _ _ _ _ _ w1.drew
  refine wpAnyH_take (i := 0) (v := (.pointer (some ⟨X, 0, none⟩))) rfl (by kernel_rfl) (by kernel_rfl) (by kernel_rfl) (fun _ _ _ h => h) (.inl ⟨rfl, fun _ hS => rfl⟩) S21 ?_
  simp only [List.getElem_toArray, List.getElem_cons_succ, List.getElem_cons_zero, Act.put, List.setIfInBounds_toArray, List.set_cons_succ, List.set_cons_zero]
  refine wpAnyH_take (i := 1) (v := (.pointer (some ⟨X, 0, none⟩))) rfl (by kernel_rfl) (by kernel_rfl) (by kernel_rfl) (fun _ _ _ h => h) (.inl ⟨rfl, fun _ hS => by simp [execOp, go_sem, Act.eval]⟩) S21 ?_
  simp only [List.getElem_toArray, List.getElem_cons_succ, List.getElem_cons_zero, Act.put, List.setIfInBounds_toArray, List.set_cons_succ, List.set_cons_zero]
  refine wpAnyH_take (i := 2) (v := (.pointer (some ⟨X, 0, none⟩))) rfl (by kernel_rfl) (by kernel_rfl) (by kernel_rfl) (fun _ _ _ h => h) (.inl ⟨rfl, fun _ hS => by simp [execOp, go_sem, Act.eval]⟩) S21 ?_
  simp only [List.getElem_toArray, List.getElem_cons_succ, List.getElem_cons_zero, Act.put, List.setIfInBounds_toArray, List.set_cons_succ, List.set_cons_zero]
  refine wpAnyH_take (i := 3) (v := (.pointer (some ⟨D, 0, none⟩))) rfl (by kernel_rfl) (by kernel_rfl) (by kernel_rfl) (fun _ _ _ h => h) (.inl ⟨rfl, fun _ hS => exec_load rfl rfl (load_pd _ _ _ _ hS.1)⟩) S21 ?_
  simp only [List.getElem_toArray, List.getElem_cons_succ, List.getElem_cons_zero, Act.put, List.setIfInBounds_toArray, List.set_cons_succ, List.set_cons_zero]
  refine wpAnyH_take (i := 4) (v := (.slice a5 A.bl.length c5)) rfl (by kernel_rfl) (by kernel_rfl) (by kernel_rfl) (fun _ _ _ h => h) (.inl ⟨rfl, fun _ hS => rfl⟩) S21 ?_
  simp only [List.getElem_toArray, List.getElem_cons_succ, List.getElem_cons_zero, Act.put, List.setIfInBounds_toArray, List.set_cons_succ, List.set_cons_zero]
  refine wpAnyH_take (i := 6) (v := (.pointer (some ⟨X, 0, none⟩))) rfl (by kernel_rfl) (by kernel_rfl) (by kernel_rfl) (fun _ _ _ h => h) (.inl ⟨rfl, fun _ hS => rfl⟩) S21 ?_
  simp only [List.getElem_toArray, List.getElem_cons_succ, List.getElem_cons_zero, Act.put, List.setIfInBounds_toArray, List.set_cons_succ, List.set_cons_zero]
  refine wpAnyH_take (i := 7) (v := (.pointer (some ⟨X, 0, none⟩))) rfl (by kernel_rfl) (by kernel_rfl) (by kernel_rfl) (fun _ _ _ h => h) (.inl ⟨rfl, fun _ hS => by simp [execOp, go_sem, Act.eval]⟩) S21 ?_
  simp only [List.getElem_toArray, List.getElem_cons_succ, List.getElem_cons_zero, Act.put, List.setIfInBounds_toArray, List.set_cons_succ, List.set_cons_zero]
  refine wpAnyH_take (i := 8) (v := (.pointer (some ⟨X, 1, none⟩))) rfl (by kernel_rfl) (by kernel_rfl) (by kernel_rfl) (fun _ _ _ h => h) (.inl ⟨rfl, fun _ hS => by simp [execOp, go_sem, Act.eval]⟩) S21 ?_
  simp only [List.getElem_toArray, List.getElem_cons_succ, List.getElem_cons_zero, Act.put, List.setIfInBounds_toArray, List.set_cons_succ, List.set_cons_zero]
  refine wpAnyH_take (i := 9) (v := (.pointer (some ⟨E, 0, none⟩))) rfl (by kernel_rfl) (by kernel_rfl) (by kernel_rfl) (fun _ _ _ h => h) (.inl ⟨rfl, fun _ hS => exec_load rfl rfl (load_rd _ _ _ _ hS.2.1)⟩) S21 ?_
  simp only [List.getElem_toArray, List.getElem_cons_succ, List.getElem_cons_zero, Act.put, List.setIfInBounds_toArray, List.set_cons_succ, List.set_cons_zero]
  refine wpAnyH_take (i := 10) (v := (.pointer (some ⟨q, 3, none⟩))) rfl (by kernel_rfl) (by kernel_rfl) (by kernel_rfl) (fun _ _ _ h => h) (.inl ⟨rfl, fun _ hS => by simp [execOp, go_sem, Act.eval]⟩) S21 ?_
  simp only [List.getElem_toArray, List.getElem_cons_succ, List.getElem_cons_zero, Act.put, List.setIfInBounds_toArray, List.set_cons_succ, List.set_cons_zero]
  refine wpAnyH_take (i := 11) (v := (.slice aob A.bl.length cpb)) rfl (by kernel_rfl) (by kernel_rfl) (by kernel_rfl) (fun _ _ _ h => h) (.inl ⟨rfl, fun _ hS => exec_load rfl rfl (load_bytes _ _ _ _ _ _ hS.2.2.2.2)⟩) S21 ?_
  simp only [List.getElem_toArray, List.getElem_cons_succ, List.getElem_cons_zero, Act.put, List.setIfInBounds_toArray, List.set_cons_succ, List.set_cons_zero]
  refine wpAnyH_all (rs := [5]) (by kernel_rfl) (by simp) ?_
  intro k hk
  simp only [List.mem_cons, List.mem_nil_iff, or_false] at hk
  subst hk
  refine wpOp_run rfl rfl (wp_call_fn 18 #[.pointer (some ⟨D, 0, none⟩), .slice a5 A.bl.length c5] (by simp [execOp, go_sem, Act.eval, resolve, invoke, enterPL]) ?_)
  refine (Load_any M21e.dct _ A.bl T21 HC5.out hbl).mono ?_
  rintro e u3 ⟨rfl, D3, K3⟩
  have M21h := M21e.prog D3 K3 AL.out.b
  have A21h : Aq q A u3 := kp_other M21e.dct K3 A21d (by decide)
  refine ⟨⟨M21h.cX.1, M21h.cX.2, (HAc.out _ A21h).1, (HAc.out _ A21h).2.1, (HAc.out _ A21h).2.2⟩, ?_⟩
  simp only [List.getElem_toArray, List.getElem_cons_succ, List.getElem_cons_zero, Act.put, List.setIfInBounds_toArray, List.set_cons_succ, List.set_cons_zero]
  refine wpAnyH_all (rs := [12]) (by kernel_rfl) (by simp) ?_
  intro k hk
  simp only [List.mem_cons, List.mem_nil_iff, or_false] at hk
  subst hk
  refine wpOp_run rfl rfl (wp_call_fn 33 #[.pointer (some ⟨E, 0, none⟩), .slice aob A.bl.length cpb] (by simp [execOp, go_sem, Act.eval, resolve, invoke, enterQL]) ?_)
  obtain ⟨vL, vV, hrd⟩ := M21h.rd
  refine (QLoad_any hrd HLN.out HAP.out _ A.bl (HBY.out.below M21h.below) HCP.out hbl).mono ?_
  rintro e u4 ⟨rfl, ⟨vV2, hrd2⟩, G4⟩
  have M21i := M21h.doc ⟨vL, vV2, hrd2⟩ G4 AL.out.b
  have A21i : Aq q A u4 := row_other G4 M21h.hr A21h (by decide)
  refine ⟨⟨M21i.cX.1, M21i.cX.2, (HAc.out _ A21i).1, (HAc.out _ A21i).2.1, (HAc.out _ A21i).2.2⟩, ?_⟩
  simp only [List.getElem_toArray, List.getElem_cons_succ, List.getElem_cons_zero, Act.put, List.setIfInBounds_toArray, List.set_cons_succ, List.set_cons_zero]
  refine wpAnyH_take (i := 13) (v := (.bool true)) rfl (by kernel_rfl) (by kernel_rfl) (by kernel_rfl) (fun _ _ _ h => h) (.inl ⟨rfl, fun _ hS => by simp [execOp, go_sem, Act.eval]⟩) ⟨M21i.cX.1, M21i.cX.2, (HAc.out _ A21i).1, (HAc.out _ A21i).2.1, (HAc.out _ A21i).2.2⟩ ?_
  simp only [List.getElem_toArray, List.getElem_cons_succ, List.getElem_cons_zero, Act.put, List.setIfInBounds_toArray, List.set_cons_succ, List.set_cons_zero]
  refine wpAnyH_take (i := 14) (v := (.bool true)) rfl (by kernel_rfl) (by kernel_rfl) (by kernel_rfl) (fun _ _ _ h => h) (.inl ⟨rfl, fun _ hS => rfl⟩) ⟨M21i.cX.1, M21i.cX.2, (HAc.out _ A21i).1, (HAc.out _ A21i).2.1, (HAc.out _ A21i).2.2⟩ ?_
  simp only [List.getElem_toArray, List.getElem_cons_succ, List.getElem_cons_zero, Act.put, List.setIfInBounds_toArray, List.set_cons_succ, List.set_cons_zero]
  refine wpAnyH_done (by kernel_rfl) ?_ _
  have HF := hidOf2 (doesPost M21i (ok_loadI HAP.out HOK.out A.bl) AL.out)
  clear M21d M21e M21h M21i A21d A21h A21i D3 K3 G4 S21 hrd2 hrd T21
  go_wp2
  go_ret
  exact HF.out
end Go.Proofs.Ytdcogpadioeclaa
namespace Go.Proofs.Ytdcogpadioeclaa
open Go.RowKit Go.Proofs.Ty Go.Sort Go.Lib
set_option linter.unusedVariables false
set_option maxRecDepth 1000000
set_option linter.unusedSimpArgs false
theorem own_keepK {x y : World} {B e c n : Nat} {v : Value} {xs : List Value} (h : x.ownsRow B e c v n xs) {r : Option Nat} (G : x.grownBy y r) (hne : v.ownBlock ≠ r) : y.ownsRow B e c v n xs := by
  refine ⟨h.1, h.2.imp id ?_⟩
  rintro ⟨g, cap, cur, e1, e2, e3, e4⟩
  subst e1
  exact ⟨g, cap, cur, rfl, e2, (G.block g (Array.getElem?_eq_some_iff.1 e3).1 (fun e => hne e)).trans e3, e4⟩
theorem Sm.row8 {w : World} {X D R E : Nat} {ia ib : List Im} {x y : World} (h : Sm w X D R E ia ib x) {r : Option Nat} (G : x.grownBy y r) (hr : ∀ b, r = some b → w.heap.size ≤ b ∧ ∃ cur, x.heap[b]? = some (.cells cur 5 (0, 0))) : Sm w X D R E ia ib y :=
  have hr2 : ∀ b, r = some b → ∃ cur, x.heap[b]? = some (.cells cur 5 (0, 0)) := fun b hb => (hr b hb).2
  ⟨row_dct G hr2 (by decide) (by decide) (by decide) h.dct, by
    obtain ⟨vL, vV, hd⟩ := h.rd
    exact ⟨vL, vV, row_other G hr2 hd.head (by decide), hd.rowL.same G.size (fun b A fr _ h1 => (row_other G hr2 h1 (by decide)).trans h1.symm), hd.rowV.same G.size (fun b A fr _ h1 => (row_other G hr2 h1 (by decide)).trans h1.symm)⟩, row_other G hr2 h.pair (by decide), h.below.grown G h.below.size (fun j hj => (hr j hj).1), h.base, h.bE, h.len⟩
set_option maxHeartbeats 8000000 in
theorem does_6 {w : World} {X D R E : Nat} {its : List Im} {x : World} (h : Sm w X D R E its its x) (hok : ∀ i ∈ its, Ok i) (A : A8) (hk : A.kind = 6) (hBy : Bytes w A.bv A.bl) (hCp : Cp A.bv) (hbl : A.bl.length ≤ 140737488351232) :
    Calls Try.prog 10 #[.pointer (some ⟨X, 0, none⟩), .agg A.arr] x (DoesPost w X D R E its) := by
  obtain ⟨aob, cpb, hbv⟩ := bytes_shape hBy
  obtain ⟨q, hq⟩ : ∃ q, x.heap.size = q := ⟨_, rfl⟩
  have a0 : Aq q A (x.alloc (.cells A.arr 35)) := hq ▸ heap_alloc_new x _
  have b0 : Below x.heap.size x (x.alloc (.cells A.arr 35)) := (Below.refl _ _).alloc (Nat.le_refl _) _
  have HM0 := hidOf2 (h.next b0)
  have HBY := hidOf2 hBy
  have HCP := hidOf2 hCp
  have HAP := hidOf2 h.dct.apart
  have HLN := hidOf2 h.len
  have HOK := hidOf2 hok
  have HAc : Hid (∀ y, Aq q A y → y.cell? ⟨q, 1, none⟩ = some (.int .u16 A.ix) ∧ y.cell? ⟨q, 2, none⟩ = some (.int .u8 A.sb) ∧ y.cell? ⟨q, 3, none⟩ = some (.slice aob A.bl.length cpb)) := fun y h => by
    have h2 := Aq.c h
    rw [hbv] at h2
    exact h2
  have HK0 : Hid (∀ y, Aq q A y → y.cell? ⟨q, 0, none⟩ = some (.int .i64 A.kind)) := fun y h => Lib.cell_of_heap h 0
  clear h hok b0 hCp
  go_enter Try.func10, Try.ntmps10
  go_upto_region 1 with fail
  generalize x.alloc (.cells A.arr 35) = w0 at *
  try simp only [hq]
  have bB : Below w0.heap.size w0 (w0.alloc (.cells #[] 5)) := (Below.refl _ _).alloc (Nat.le_refl _) _
  have c3 := (HAc.out _ (a0.next bB)).2.2
  have hown := own_empty w0
  have hBx := hBy.below ((HM0.out.next bB).below)
  rw [hbv] at hBx
  have hl0 : ([] : List UInt8).length + A.bl.length ≤ 140737488355328 := by simp; omega
  go_upto_region 2 with (first | (refine append_bytes2 rfl _ _ rfl w0.heap.size _ [] rfl hown _ A.bl rfl hBx hl0 bB.size ?_; intro v5 w1 P5 G5 _; rw [List.nil_append] at P5; have B1 : Below w0.heap.size w0 w1 := bB.grown G5 bB.size (own_lt hown); have HT5 := hidOf2 (bytes_of_own P5); have HC5 := hidOf2 (own_cp P5); obtain ⟨a5, c5, hv5⟩ := own_shape5 P5; subst hv5; have HM1 := hidOf2 (HM0.out.next B1); have HA1 := hidOf2 (a0.next B1); clear P5 G5 B1 hown hBx c3 bB a0 HM0 hl0))
  clear hBy
  rw [hbv] at HBY HCP
  have k0 := HK0.out _ HA1.out
  rw [hk] at k0
  have cX := HM1.out.cX
  obtain ⟨cX0, cX1⟩ := cX
  obtain ⟨vL0, vV0, hrd0⟩ := HM1.out.rd
  have hQ := QSave_any hrd0 HLN.out
  have hAn := A.hn
  clear hrd0
  go_wp2_with fail
  refine hQ.mono ?_
  rintro e w2 ⟨xS, rfl, PS, b2⟩
  obtain ⟨aS, cS, hxS⟩ := own_shape5 PS
  subst hxS
  have HM2 := hidOf2 (HM1.out.next b2)
  have HA2 := hidOf2 (HA1.out.next b2)
  have k7 : w2.cell? ⟨q, 7, none⟩ = some (.int .u16 A.n) := Lib.cell_of_heap HA2.out 7
  have HPS := hidOf2 PS
  have hsl := sav_len its
  obtain ⟨mm, hmm⟩ : ∃ m, (sav its).length - A.n % ((sav its).length + 1) = m := ⟨_, rfl⟩
  have hml : mm ≤ (sav its).length := by omega
  have hrm : A.n % ((sav its).length + 1) < (sav its).length + 1 := Nat.mod_lt _ (Nat.succ_pos _)
  have hSl : (sav its).length ≤ 67116032 := by have := HLN.out; omega
  have hmi : ((sav its).length : Int) - (A.n : Int) % (((sav its).length : Int) + 1) = (mm : Int) := by
    rw [← hmm, Int.ofNat_sub (by omega)]
    simp
  have hrm2 : 0 ≤ (A.n : Int) % (((sav its).length : Int) + 1) ∧ (A.n : Int) % (((sav its).length : Int) + 1) ≤ ((sav its).length : Int) := by
    have h1 : (A.n : Int) % (((sav its).length : Int) + 1) = ((A.n % ((sav its).length + 1) : Nat) : Int) := by simp
    rw [h1]
    omega
  obtain ⟨ra, rc, rrun, rB, rC⟩ := bslice_h (bytes_of_own PS) (own_cp PS) .i64 mm hml
  have HRB := hidOf2 rB
  have HRC := hidOf2 (show Cp (.slice ra ((sav its).take mm).length rc) by rw [List.length_take, Nat.min_eq_left hml]; exact rC)
  have hlt : ((sav its).take mm).length = mm := by rw [List.length_take, Nat.min_eq_left hml]
  rw [hlt] at HRC
  have AL := hidOf2 (Al.loadI (⟨rfl, rfl⟩ : Al (its.map Im.e) (its.map Im.b) its) ((sav its).take mm))
  clear hQ PS b2 rB rC HM1 HA1 cX0 cX1 hmm hrm hlt
  go_upto_region 25 with (first | (refine slB _ _ _ _ _ none (some (.int .i64 mm)) rfl rfl rfl rfl (by first | rfl | (simp [Act.eval, hmi])) rrun ?_))
  have M3 := HM2.out
  have A3 := HA2.out
  have PS3 := HPS.out
  clear HM2 HA2 HPS k7 k0 hmi hrm2 rrun
  have M25d := M3.next (bdr (Below.refl _ w2) 1)
  have A25d := A3.next (bdr (Below.refl _ w2) 1)
  have S25 := (show (fun y => y.cell? ⟨X, 0, none⟩ = some (.pointer (some ⟨D, 0, none⟩)) ∧ y.cell? ⟨X, 1, none⟩ = some (.pointer (some ⟨E, 0, none⟩)) ∧ y.cell? ⟨q, 1, none⟩ = some (.int .u16 A.ix) ∧ y.cell? ⟨q, 2, none⟩ = some (.int .u8 A.sb) ∧ y.cell? ⟨q, 3, none⟩ = some (.slice aob A.bl.length cpb)) w2.drew from ⟨M25d.cX.1, M25d.cX.2, (HAc.out _ A25d).1, (HAc.out _ A25d).2.1, (HAc.out _ A25d).2.2⟩)
  clear M25d A25d
  refine wp_region_held (S := fun y => y.cell? ⟨X, 0, none⟩ = some (.pointer (some ⟨D, 0, none⟩)) ∧ y.cell? ⟨X, 1, none⟩ = some (.pointer (some ⟨E, 0, none⟩)) ∧ y.cell? ⟨q, 1, none⟩ = some (.int .u16 A.ix) ∧ y.cell? ⟨q, 2, none⟩ = some (.int .u8 A.sb) ∧ y.cell? ⟨q, 3, none⟩ = some (.slice aob A.bl.length cpb)) (by kernel_rfl) ?_
  change wpAnyH _ _ _ _ _ _ _ _ w2.drew
  refine wpAnyH_take (i := 0) (v := (.pointer (some ⟨X, 0, none⟩))) rfl (by kernel_rfl) (by kernel_rfl) (by kernel_rfl) (fun _ _ _ h => h) (.inl ⟨rfl, fun _ hS => rfl⟩) S25 ?_
  simp only [List.getElem_toArray, List.getElem_cons_succ, List.getElem_cons_zero, Act.put, List.setIfInBounds_toArray, List.set_cons_succ, List.set_cons_zero]
  refine wpAnyH_take (i := 1) (v := (.pointer (some ⟨X, 0, none⟩))) rfl (by kernel_rfl) (by kernel_rfl) (by kernel_rfl) (fun _ _ _ h => h) (.inl ⟨rfl, fun _ hS => by simp [execOp, go_sem, Act.eval]⟩) S25 ?_
  simp only [List.getElem_toArray, List.getElem_cons_succ, List.getElem_cons_zero, Act.put, List.setIfInBounds_toArray, List.set_cons_succ, List.set_cons_zero]
  refine wpAnyH_take (i := 2) (v := (.pointer (some ⟨X, 0, none⟩))) rfl (by kernel_rfl) (by kernel_rfl) (by kernel_rfl) (fun _ _ _ h => h) (.inl ⟨rfl, fun _ hS => by simp [execOp, go_sem, Act.eval]⟩) S25 ?_
  simp only [List.getElem_toArray, List.getElem_cons_succ, List.getElem_cons_zero, Act.put, List.setIfInBounds_toArray, List.set_cons_succ, List.set_cons_zero]
  refine wpAnyH_take (i := 3) (v := (.pointer (some ⟨D, 0, none⟩))) rfl (by kernel_rfl) (by kernel_rfl) (by kernel_rfl) (fun _ _ _ h => h) (.inl ⟨rfl, fun _ hS => exec_load rfl rfl (load_pd _ _ _ _ hS.1)⟩) S25 ?_
  simp only [List.getElem_toArray, List.getElem_cons_succ, List.getElem_cons_zero, Act.put, List.setIfInBounds_toArray, List.set_cons_succ, List.set_cons_zero]
  refine wpAnyH_take (i := 5) (v := (.slice ra mm rc)) rfl (by kernel_rfl) (by kernel_rfl) (by kernel_rfl) (fun _ _ _ h => h) (.inl ⟨rfl, fun _ hS => rfl⟩) S25 ?_
  simp only [List.getElem_toArray, List.getElem_cons_succ, List.getElem_cons_zero, Act.put, List.setIfInBounds_toArray, List.set_cons_succ, List.set_cons_zero]
  refine wpAnyH_take (i := 8) (v := (.pointer (some ⟨X, 0, none⟩))) rfl (by kernel_rfl) (by kernel_rfl) (by kernel_rfl) (fun _ _ _ h => h) (.inl ⟨rfl, fun _ hS => rfl⟩) S25 ?_
  simp only [List.getElem_toArray, List.getElem_cons_succ, List.getElem_cons_zero, Act.put, List.setIfInBounds_toArray, List.set_cons_succ, List.set_cons_zero]
  refine wpAnyH_take (i := 9) (v := (.pointer (some ⟨X, 0, none⟩))) rfl (by kernel_rfl) (by kernel_rfl) (by kernel_rfl) (fun _ _ _ h => h) (.inl ⟨rfl, fun _ hS => by simp [execOp, go_sem, Act.eval]⟩) S25 ?_
  simp only [List.getElem_toArray, List.getElem_cons_succ, List.getElem_cons_zero, Act.put, List.setIfInBounds_toArray, List.set_cons_succ, List.set_cons_zero]
  refine wpAnyH_take (i := 10) (v := (.pointer (some ⟨X, 1, none⟩))) rfl (by kernel_rfl) (by kernel_rfl) (by kernel_rfl) (fun _ _ _ h => h) (.inl ⟨rfl, fun _ hS => by simp [execOp, go_sem, Act.eval]⟩) S25 ?_
  simp only [List.getElem_toArray, List.getElem_cons_succ, List.getElem_cons_zero, Act.put, List.setIfInBounds_toArray, List.set_cons_succ, List.set_cons_zero]
  refine wpAnyH_take (i := 11) (v := (.pointer (some ⟨E, 0, none⟩))) rfl (by kernel_rfl) (by kernel_rfl) (by kernel_rfl) (fun _ _ _ h => h) (.inl ⟨rfl, fun _ hS => exec_load rfl rfl (load_rd _ _ _ _ hS.2.1)⟩) S25 ?_
  simp only [List.getElem_toArray, List.getElem_cons_succ, List.getElem_cons_zero, Act.put, List.setIfInBounds_toArray, List.set_cons_succ, List.set_cons_zero]
  refine wpAnyH_take (i := 12) (v := (.slice ra mm rc)) rfl (by kernel_rfl) (by kernel_rfl) (by kernel_rfl) (fun _ _ _ h => h) (.inl ⟨rfl, fun _ hS => rfl⟩) S25 ?_
  simp only [List.getElem_toArray, List.getElem_cons_succ, List.getElem_cons_zero, Act.put, List.setIfInBounds_toArray, List.set_cons_succ, List.set_cons_zero]
  refine wpAnyH_all (rs := [4]) (by kernel_rfl) (by simp) ?_
  intro k hk
  simp only [List.mem_cons, List.mem_nil_iff, or_false] at hk
  subst hk
  refine wpOp_run rfl rfl (wp_bs0g Try.underlying30 info5 rfl ?_)
  have b3 : Below w2.heap.size w2 (w2.drew.alloc (.cells #[] 5)) := (bdr (Below.refl _ w2) 1).alloc (Nat.le_refl _) _
  obtain ⟨q6, hq6⟩ : ∃ q, w2.drew.heap.size = q := ⟨_, rfl⟩
  have P6 := own_empty w2.drew
  have M6 := M3.next b3
  have A6 := A3.next b3
  have PS6 := own_below5 PS3 b3
  have hq7 : w2.heap.size = q6 := hq6
  rw [hq6] at P6 ⊢
  have HNE := hidOf2 (show (Value.slice aS (sav its).length cS).ownBlock ≠ some q6 from fun e => by have := own_block_lt PS3 _ e; omega)
  generalize w2.drew.alloc (.cells #[] 5) = u1 at *
  refine ⟨⟨M6.cX.1, M6.cX.2, (HAc.out _ A6).1, (HAc.out _ A6).2.1, (HAc.out _ A6).2.2⟩, ?_⟩
  simp only [List.getElem_toArray, List.getElem_cons_succ, List.getElem_cons_zero, Act.put, List.setIfInBounds_toArray, List.set_cons_succ, List.set_cons_zero]
  refine wpAnyH_all (rs := [6]) (by kernel_rfl) (by simp) ?_
  intro k hk
  simp only [List.mem_cons, List.mem_nil_iff, or_false] at hk
  subst hk
  refine wpOp_run rfl rfl (wp_append_bytes _ _ rfl q6 (.slice (some ⟨q6, 0, none⟩) 0 0) [] rfl P6 _ ((sav its).take mm) rfl (HRB.out u1 (bytes_of_own PS6)) (by have := sav_len its; simp; omega) (by rw [← hq7]; exact b3.size) ?_)
  intro v7 u2 P7 G7 _
  rw [List.nil_append] at P7
  have M7 := M6.row8 G7 (fun b hb => ⟨by have := own_lt P6 b hb; rw [← hq7] at this; exact Nat.le_trans M3.below.size this, (own_of P6 hb).2⟩)
  have A7 : Aq q A u2 := row_other G7 (fun b hb => (own_of P6 hb).2) A6 (by decide)
  have PS7 := own_keepK PS6 G7 (fun e => HNE.out (by rw [e]; rfl))
  obtain ⟨a7, c7, hv7⟩ := own_shape5 P7
  subst hv7
  have T7 := bytes_of_own P7
  have C7 := own_cp P7
  refine ⟨⟨M7.cX.1, M7.cX.2, (HAc.out _ A7).1, (HAc.out _ A7).2.1, (HAc.out _ A7).2.2⟩, ?_⟩
  simp only [List.getElem_toArray, List.getElem_cons_succ, List.getElem_cons_zero, Act.put, List.setIfInBounds_toArray, List.set_cons_succ, List.set_cons_zero]
  refine wpAnyH_all (rs := [7]) (by kernel_rfl) (by simp) ?_
  intro k hk
  simp only [List.mem_cons, List.mem_nil_iff, or_false] at hk
  subst hk
  refine wpOp_run rfl rfl (wp_call_fn 18 #[.pointer (some ⟨D, 0, none⟩), .slice a7 ((sav its).take mm).length c7] (by simp [execOp, go_sem, Act.eval, resolve, invoke, enterPL]) ?_)
  refine (Load_any M7.dct _ _ T7 C7 (by have := sav_len its; rw [List.length_take]; omega)).mono ?_
  rintro e u3 ⟨rfl, D8, K8⟩
  have M8 := M7.prog D8 K8 AL.out.b
  have A8 : Aq q A u3 := kp_other M7.dct K8 A7 (by decide)
  have PS8 := kp_own PS7 M7.dct K8 (by decide)
  refine ⟨⟨M8.cX.1, M8.cX.2, (HAc.out _ A8).1, (HAc.out _ A8).2.1, (HAc.out _ A8).2.2⟩, ?_⟩
  simp only [List.getElem_toArray, List.getElem_cons_succ, List.getElem_cons_zero, Act.put, List.setIfInBounds_toArray, List.set_cons_succ, List.set_cons_zero]
  refine wpAnyH_all (rs := [13]) (by kernel_rfl) (by simp) ?_
  intro k hk
  simp only [List.mem_cons, List.mem_nil_iff, or_false] at hk
  subst hk
  refine wpOp_run rfl rfl (wp_call_fn 33 #[.pointer (some ⟨E, 0, none⟩), .slice ra mm rc] (by simp [execOp, go_sem, Act.eval, resolve, invoke, enterQL]) ?_)
  obtain ⟨vL, vV, hrd⟩ := M8.rd
  have hTq := HRB.out u3 (bytes_of_own PS8)
  refine (QLoad_any hrd HLN.out HAP.out _ _ hTq HRC.out (by have := sav_len its; rw [List.length_take]; omega)).mono ?_
  rintro e u4 ⟨rfl, ⟨vV2, hrd2⟩, G9⟩
  have M9 := M8.doc ⟨vL, vV2, hrd2⟩ G9 AL.out.b
  have A9 : Aq q A u4 := row_other G9 M8.hr A8 (by decide)
  refine ⟨⟨M9.cX.1, M9.cX.2, (HAc.out _ A9).1, (HAc.out _ A9).2.1, (HAc.out _ A9).2.2⟩, ?_⟩
  simp only [List.getElem_toArray, List.getElem_cons_succ, List.getElem_cons_zero, Act.put, List.setIfInBounds_toArray, List.set_cons_succ, List.set_cons_zero]
  refine wpAnyH_take (i := 14) (v := (.bool true)) rfl (by kernel_rfl) (by kernel_rfl) (by kernel_rfl) (fun _ _ _ h => h) (.inl ⟨rfl, fun _ hS => by simp [execOp, go_sem, Act.eval]⟩) ⟨M9.cX.1, M9.cX.2, (HAc.out _ A9).1, (HAc.out _ A9).2.1, (HAc.out _ A9).2.2⟩ ?_
  simp only [List.getElem_toArray, List.getElem_cons_succ, List.getElem_cons_zero, Act.put, List.setIfInBounds_toArray, List.set_cons_succ, List.set_cons_zero]
  refine wpAnyH_take (i := 15) (v := (.bool true)) rfl (by kernel_rfl) (by kernel_rfl) (by kernel_rfl) (fun _ _ _ h => h) (.inl ⟨rfl, fun _ hS => rfl⟩) ⟨M9.cX.1, M9.cX.2, (HAc.out _ A9).1, (HAc.out _ A9).2.1, (HAc.out _ A9).2.2⟩ ?_
  simp only [List.getElem_toArray, List.getElem_cons_succ, List.getElem_cons_zero, Act.put, List.setIfInBounds_toArray, List.set_cons_succ, List.set_cons_zero]
  refine wpAnyH_done (by kernel_rfl) ?_ _
  have HF := hidOf2 (doesPost M9 (ok_loadI HAP.out HOK.out _) AL.out)
  clear M3 M6 M7 M8 M9 A3 A6 A7 A8 A9 PS3 PS6 PS7 PS8 P6 P7 D8 K8 G7 G9 S25 hrd hrd2 T7 C7 hTq
  go_wp2
  go_ret
  exact HF.out
end Go.Proofs.Ytdcogpadioeclaa
namespace Go.Proofs.Ytdcogpadioeclaa
open Go.RowKit Go.Proofs.Ty Go.Sort Go.Lib
set_option linter.unusedVariables false
set_option maxRecDepth 1000000
set_option linter.unusedSimpArgs false
set_option maxHeartbeats 8000000 in
theorem does_7 {w : World} {X D R E : Nat} {its : List Im} {x : World} (h : Sm w X D R E its its x) (hok : ∀ i ∈ its, Ok i) (A : A8) (hk : A.kind < 0 ∨ 6 < A.kind) (hBy : Bytes w A.bv A.bl) (hCp : Cp A.bv) (hbl : A.bl.length ≤ 140737488351232) :
    Calls Try.prog 10 #[.pointer (some ⟨X, 0, none⟩), .agg A.arr] x (DoesPost w X D R E its) := by
  obtain ⟨aob, cpb, hbv⟩ := bytes_shape hBy
  obtain ⟨q, hq⟩ : ∃ q, x.heap.size = q := ⟨_, rfl⟩
  have a0 : Aq q A (x.alloc (.cells A.arr 35)) := hq ▸ heap_alloc_new x _
  have b0 : Below x.heap.size x (x.alloc (.cells A.arr 35)) := (Below.refl _ _).alloc (Nat.le_refl _) _
  have HM0 := hidOf2 (h.next b0)
  have HBY := hidOf2 hBy
  have HCP := hidOf2 hCp
  have HAP := hidOf2 h.dct.apart
  have HLN := hidOf2 h.len
  have HOK := hidOf2 hok
  have HAc : Hid (∀ y, Aq q A y → y.cell? ⟨q, 1, none⟩ = some (.int .u16 A.ix) ∧ y.cell? ⟨q, 2, none⟩ = some (.int .u8 A.sb) ∧ y.cell? ⟨q, 3, none⟩ = some (.slice aob A.bl.length cpb)) := fun y h => by
    have h2 := Aq.c h
    rw [hbv] at h2
    exact h2
  have HK0 : Hid (∀ y, Aq q A y → y.cell? ⟨q, 0, none⟩ = some (.int .i64 A.kind)) := fun y h => Lib.cell_of_heap h 0
  clear h hok b0 hCp
  go_enter Try.func10, Try.ntmps10
  go_upto_region 1 with fail
  generalize x.alloc (.cells A.arr 35) = w0 at *
  try simp only [hq]
  have bB : Below w0.heap.size w0 (w0.alloc (.cells #[] 5)) := (Below.refl _ _).alloc (Nat.le_refl _) _
  have c3 := (HAc.out _ (a0.next bB)).2.2
  have hown := own_empty w0
  have hBx := hBy.below ((HM0.out.next bB).below)
  rw [hbv] at hBx
  have hl0 : ([] : List UInt8).length + A.bl.length ≤ 140737488355328 := by simp; omega
  go_upto_region 2 with (first | (refine append_bytes2 rfl _ _ rfl w0.heap.size _ [] rfl hown _ A.bl rfl hBx hl0 bB.size ?_; intro v5 w1 P5 G5 _; rw [List.nil_append] at P5; have B1 : Below w0.heap.size w0 w1 := bB.grown G5 bB.size (own_lt hown); have HT5 := hidOf2 (bytes_of_own P5); have HC5 := hidOf2 (own_cp P5); obtain ⟨a5, c5, hv5⟩ := own_shape5 P5; subst hv5; have HM1 := hidOf2 (HM0.out.next B1); have HA1 := hidOf2 (a0.next B1); clear P5 G5 B1 hown hBx c3 bB a0 HM0 hl0))
  clear hBy
  rw [hbv] at HBY HCP
  have k0 := HK0.out _ HA1.out
  have d0 : (A.kind == 0) = false := by simp; omega
  have d1 : (A.kind == 1) = false := by simp; omega
  have d2 : (A.kind == 2) = false := by simp; omega
  have d3 : (A.kind == 3) = false := by simp; omega
  have d4 : (A.kind == 4) = false := by simp; omega
  have d5 : (A.kind == 5) = false := by simp; omega
  have d6 : (A.kind == 6) = false := by simp; omega
  generalize A.kind = KD at *
  have HF := hidOf2 (doesPost HM1.out HOK.out ⟨rfl, rfl⟩)
  go_wp2
  go_ret
  exact HF.out
end Go.Proofs.Ytdcogpadioeclaa
namespace Go.Proofs.Ytdcogpadioeclaa
open Go.RowKit Go.Proofs.Ty Go.Sort Go.Lib
set_option linter.unusedVariables false
set_option maxRecDepth 1000000
set_option linter.unusedSimpArgs false
theorem insP_perm (L : List En) (x : En) : (insP L x).Perm (L ++ [x]) := by
  induction L with
  | nil => exact List.Perm.refl _
  | cons y r ih =>
    rw [insP]
    split
    · exact ih.cons y
    · exact (List.perm_append_comm (l₁ := [x]) (l₂ := y :: r))
theorem insL_perm (acc l : List En) : (insL acc l).Perm (acc ++ l.map En.plain) := by
  induction l generalizing acc with
  | nil => simp [insL]
  | cons e r ih =>
    rw [insL]
    refine (ih _).trans ?_
    rw [List.map_cons]
    have := (insP_perm acc e.plain).append_right (r.map En.plain)
    simpa using this
theorem insP_sorted {L : List En} (h : L.Pairwise (fun a b => a.pl < b.pl)) {x : En} (hx : ∀ y ∈ L, y.pl ≠ x.pl) : (insP L x).Pairwise (fun a b => a.pl < b.pl) := by
  induction L with
  | nil => simp [insP]
  | cons y r ih =>
    obtain ⟨h1, h2⟩ := List.pairwise_cons.1 h
    rw [insP]
    split
    · rename_i hlt
      refine List.pairwise_cons.2 ⟨fun z hz => ?_, ih h2 (fun z hz => hx z (List.mem_cons_of_mem _ hz))⟩
      rcases List.mem_append.1 ((insP_perm r x).mem_iff.1 hz) with h3 | h3
      · exact h1 z h3
      · obtain rfl := List.mem_singleton.1 h3; exact hlt
    · rename_i hge
      have := hx y List.mem_cons_self
      refine List.pairwise_cons.2 ⟨fun z hz => ?_, h⟩
      rcases List.mem_cons.1 hz with rfl | h3
      · omega
      · have := h1 z h3; omega
theorem plain_pl (e : En) : e.plain.pl = e.pl := rfl
theorem insL_sorted {acc l : List En} (h : acc.Pairwise (fun a b => a.pl < b.pl)) (hn : ((acc ++ l).map En.pl).Nodup) : (insL acc l).Pairwise (fun a b => a.pl < b.pl) := by
  induction l generalizing acc with
  | nil => exact h
  | cons e r ih =>
    rw [insL]
    refine ih (insP_sorted h (fun y hy => ?_)) ?_
    · rw [List.map_append, List.nodup_append] at hn
      have := hn.2.2 y.pl (List.mem_map.2 ⟨y, hy, rfl⟩) e.pl (List.mem_map.2 ⟨e, List.mem_cons_self, rfl⟩)
      rw [plain_pl]; exact this
    · have p1 : ((insP acc e.plain ++ r).map En.pl).Perm ((acc ++ e :: r).map En.pl) := by
        have := ((insP_perm acc e.plain).append_right r).map En.pl
        refine this.trans ?_
        simp [plain_pl]
      exact p1.nodup_iff.2 hn
/-- Both dictionaries have the same entries in the same order, at first. -/
theorem ins_its {its : List Im} {l : List En} (hs : its.Pairwise (fun a b => a.e.pl < b.e.pl)) (hp : (its.map Im.e).Perm (l.map En.plain)) (hn : (l.map En.pl).Nodup) : insL [] l = its.map Im.e :=
  sorted_eq (insL_sorted (by simp) (by simpa using hn)) (List.pairwise_map.2 hs) ((insL_perm [] l).trans hp.symm)
theorem ok_its {its : List Im} {l : List En} (hc : chkL l = 0) (hp : (its.map Im.e).Perm (l.map En.plain)) (hv : ∀ i ∈ its, i.v = i.e.df) : ∀ i ∈ its, Ok i := by
  intro i hi
  have h1 : i.e ∈ l.map En.plain := hp.mem_iff.1 (List.mem_map.2 ⟨i, hi, rfl⟩)
  obtain ⟨e, he, h2⟩ := List.mem_map.1 h1
  have := ok_new (chkG_all (chkL_ok hc).2.2 e he) i.b
  rw [h2] at this
  have h3 := hv i hi
  obtain ⟨b, e', v⟩ := i
  simp only at h3 this ⊢
  rw [h3]
  exact this
/-- What is saved, as a list. -/
def svO (i : Im) : Sv := ⟨i.e.ix, i.e.sb, i.v.enc, i.e.hix, i.e.hsb⟩
def svs (its : List Im) : List Sv := (its.filter (fun i => decide (i.e.ac = 2))).map svO
theorem hd_sv (i : Im) (r : List UInt8) (ha : i.e.ac = 2) : 7 ≤ (svI i ++ r).length ∧ hdN (svI i ++ r) = i.v.enc.length ∧ svOf (svI i ++ r) = svO i ∧ (svI i ++ r).drop (7 + i.v.enc.length) = r := by
  have hl := enc_len i.v
  have e1 : svI i = hd3 i.e ++ lowL i.v.enc.length 4 ++ i.v.enc := by unfold svI; rw [if_pos ha]
  have e2 : svI i ++ r = UInt8.ofNat (i.e.ix % 256) :: UInt8.ofNat (i.e.ix / 256) :: UInt8.ofNat i.e.sb :: (lowL i.v.enc.length 4 ++ (i.v.enc ++ r)) := by rw [e1]; simp [hd3]
  have hn : hdN (svI i ++ r) = i.v.enc.length := by
    unfold hdN
    rw [e2]
    have : ((UInt8.ofNat (i.e.ix % 256) :: UInt8.ofNat (i.e.ix / 256) :: UInt8.ofNat i.e.sb :: (lowL i.v.enc.length 4 ++ (i.v.enc ++ r))).drop 3).take 4 = lowL i.v.enc.length 4 := by
      show (lowL i.v.enc.length 4 ++ (i.v.enc ++ r)).take 4 = _
      have h4 : (lowL i.v.enc.length 4).length = 4 := lowL_length _ _
      rw [List.take_append_of_le_length (by omega), List.take_of_length_le (by omega)]
    rw [this, join_low]
    have : (256 : Nat) ^ 4 = 4294967296 := by decide
    omega
  have h7 : (svI i ++ r).drop 7 = i.v.enc ++ r := by
    rw [e2]
    show (lowL i.v.enc.length 4 ++ (i.v.enc ++ r)).drop 4 = _
    have h4 : (lowL i.v.enc.length 4).length = 4 := lowL_length _ _
    generalize lowL i.v.enc.length 4 = LL at *
    rw [← h4, List.drop_left]
  refine ⟨?_, hn, ?_, ?_⟩
  · rw [e2]; simp only [List.length_cons, List.length_append, lowL_length]; omega
  · have hx := i.e.hix
    have hsb := i.e.hsb
    have g0 : ((svI i ++ r).getD 0 0).toNat = i.e.ix % 256 := by rw [e2]; show (UInt8.ofNat (i.e.ix % 256)).toNat = _; rw [ofNat_toNat]; omega
    have g1 : ((svI i ++ r).getD 1 0).toNat = i.e.ix / 256 := by rw [e2]; show (UInt8.ofNat (i.e.ix / 256)).toNat = _; rw [ofNat_toNat]; omega
    have g2 : ((svI i ++ r).getD 2 0).toNat = i.e.sb := by rw [e2]; show (UInt8.ofNat i.e.sb).toNat = _; rw [ofNat_toNat]; omega
    have g3 : ((svI i ++ r).drop 7).take (hdN (svI i ++ r)) = i.v.enc := by rw [h7, hn, List.take_left]
    have : ∀ a b : Sv, a.ix = b.ix → a.sb = b.sb → a.raw = b.raw → a = b := fun a b h1 h2 h3 => by
      cases a; cases b; simp only at h1 h2 h3; subst h1; subst h2; subst h3; rfl
    refine this _ _ ?_ g2 g3
    show ((svI i ++ r).getD 0 0).toNat + 256 * ((svI i ++ r).getD 1 0).toNat = i.e.ix
    rw [g0, g1]; omega
  · rw [← List.drop_drop, h7, List.drop_left]
theorem svO_pl (i : Im) : (svO i).pl = i.e.pl := rfl
theorem cut_sav (its : List Im) (hs : its.Pairwise (fun a b => a.e.pl < b.e.pl)) (ah : Int) (hah : ∀ i ∈ its, ah < (i.e.pl : Int)) : cutL ah (sav its) = some (svs its) := by
  induction its generalizing ah with
  | nil => exact cutL_nil ah
  | cons i r ih =>
    obtain ⟨h1, h2⟩ := List.pairwise_cons.1 hs
    have e0 : sav (i :: r) = svI i ++ sav r := by simp [sav]
    by_cases ha : i.e.ac = 2
    · obtain ⟨g1, g2, g3, g4⟩ := hd_sv i (sav r) ha
      have hi := hah i List.mem_cons_self
      have hlen : i.v.enc.length ≤ (svI i ++ sav r).length - 7 := by
        have := congrArg List.length g4
        have e1 : svI i = hd3 i.e ++ lowL i.v.enc.length 4 ++ i.v.enc := by unfold svI; rw [if_pos ha]
        rw [e1]
        simp only [List.length_append, hd3_len, lowL_length]
        omega
      rw [e0, cutL_go g1 (by rw [g2]; omega) (by rw [g3, svO_pl]; omega), g2, g3, g4, ih h2 _ (fun j hj => by rw [svO_pl]; have := h1 j hj; omega)]
      unfold svs
      rw [List.filter_cons_of_pos (by simpa using ha)]
      rfl
    · have e1 : svI i = [] := by unfold svI; rw [if_neg ha]
      rw [e0, e1, List.nil_append, ih h2 _ (fun j hj => hah j (List.mem_cons_of_mem _ hj))]
      unfold svs
      rw [List.filter_cons_of_neg (by simpa using ha)]
theorem ld_svs {its its2 : List Im} (he : its2.map Im.e = its.map Im.e) (hs : its.Pairwise (fun a b => a.e.pl < b.e.pl)) (hok : ∀ i ∈ its, Ok i) (ss : List Sv) (h : ∀ s ∈ ss, ∃ i ∈ its, i.e.ac = 2 ∧ s = svO i) : ldC its2 ss = 0 := by
  induction ss with
  | nil => rfl
  | cons s r ih =>
    obtain ⟨i, hi, ha, rfl⟩ := h s List.mem_cons_self
    have hf := fnd_e he i.e.ix i.e.sb
    rw [fnd_self hs hi] at hf
    rw [ldC]
    cases hg : fnd its2 (svO i).ix (svO i).sb with
    | none =>
      have hg' : fnd its2 i.e.ix i.e.sb = none := hg
      rw [hg'] at hf; cases hf
    | some j =>
      have hg' : fnd its2 i.e.ix i.e.sb = some j := hg
      rw [hg'] at hf
      simp only [Option.map_some, Option.some.injEq] at hf
      simp only
      rw [if_neg (by rw [hf]; simpa using ha), if_neg (by rw [hf]; show ¬ decE i.e.df.t i.v.enc ≠ 0; simpa using (hok i hi).val.1)]
      exact ih (fun s hs => h s (List.mem_cons_of_mem _ hs))
theorem mem_svs {its : List Im} {s : Sv} (h : s ∈ svs its) : ∃ i ∈ its, i.e.ac = 2 ∧ s = svO i := by
  obtain ⟨i, hi, rfl⟩ := List.mem_map.1 h
  obtain ⟨h1, h2⟩ := List.mem_filter.1 hi
  exact ⟨i, h1, by simpa using h2, rfl⟩
theorem pl_inj {its : List Im} (hs : its.Pairwise (fun a b => a.e.pl < b.e.pl)) {j k : Nat} (hj : j < its.length) (hk : k < its.length) (h : its[j].e.pl = its[k].e.pl) : j = k := by
  have h1 := List.pairwise_iff_getElem.1 hs
  rcases Nat.lt_trichotomy j k with h2 | h2 | h2
  · have := h1 j k hj hk h2; omega
  · exact h2
  · have := h1 k j hk hj h2; omega
theorem putS_len (its : List Im) (s : Sv) : (putS its s).length = its.length := by
  have := congrArg List.length (Al.putS (⟨rfl, rfl⟩ : Al (its.map Im.e) (its.map Im.b) its) s).b
  simpa using this
theorem putS_v {its : List Im} (hd : (its.map Im.b).Nodup) (hs : its.Pairwise (fun a b => a.e.pl < b.e.pl)) (s : Sv) {k : Nat} (hk : k < its.length) (h2 : k < (putS its s).length) : (putS its s)[k].v = if its[k].e.pl = s.pl then decW its[k].e.df.t s.raw else its[k].v := by
  cases hf : fnd its s.ix s.sb with
  | none =>
    have e1 : putS its s = its := by unfold putS; rw [hf]
    have hne : ¬ its[k].e.pl = s.pl := fun e => by
      have := List.find?_eq_none.1 hf its[k] (List.getElem_mem hk)
      have h3 : its[k].e.ix = s.ix ∧ its[k].e.sb = s.sb := by
        have a1 := its[k].e.hsb; have a2 := s.hsb
        unfold En.pl Sv.pl at e
        omega
      simp [h3] at this
    rw [if_neg hne]
    simp only [e1]
  | some i =>
    have e1 : putS its s = setV its i.b (decW i.e.df.t s.raw) := by unfold putS; rw [hf]
    have hi := fnd_mem hf
    have hp := fnd_place hf
    have hip : i.e.pl = s.pl := by unfold En.pl Sv.pl; rw [hp.1, hp.2]
    obtain ⟨j, hj, rfl⟩ := List.getElem_of_mem hi
    simp only [e1]
    rw [setV_get its _ _ k hk]
    by_cases e : its[k].e.pl = s.pl
    · have : k = j := pl_inj hs hk hj (e.trans hip.symm)
      subst this
      rw [if_pos rfl, if_pos e]
    · have hne : ¬ its[k].b = its[j].b := fun h => e (by rw [mem_b hd (List.getElem_mem hk) hi h]; exact hip)
      rw [if_neg hne, if_neg e]
theorem e_get {a b : List Im} (h : a.map Im.e = b.map Im.e) {k : Nat} (ha : k < a.length) (hb : k < b.length) : a[k].e = b[k].e := by
  have := congrArg (fun z : List En => z[k]?) h
  simp only [List.getElem?_map, List.getElem?_eq_getElem ha, List.getElem?_eq_getElem hb, Option.map_some, Option.some.injEq] at this
  exact this
theorem sorted_of_e {a b : List Im} (h : a.map Im.e = b.map Im.e) (hb : b.Pairwise (fun x y => x.e.pl < y.e.pl)) : a.Pairwise (fun x y => x.e.pl < y.e.pl) := by
  have : (b.map Im.e).Pairwise (fun x y => x.pl < y.pl) := List.pairwise_map.2 hb
  rw [← h] at this
  exact (List.pairwise_map (f := Im.e) (R := fun a b : En => a.pl < b.pl)).1 this
/-- What was loaded has the values that were saved. -/
theorem lay_svs {its : List Im} (hs : its.Pairwise (fun a b => a.e.pl < b.e.pl)) (hok : ∀ i ∈ its, Ok i) (ss : List Sv) (h : ∀ s ∈ ss, ∃ i ∈ its, i.e.ac = 2 ∧ s = svO i) (its2 : List Im) (hd : (its2.map Im.b).Nodup) (he : its2.map Im.e = its.map Im.e) {k : Nat} (hk : k < its.length) (hk2 : k < its2.length) (h3 : k < (layV its2 ss).length) (hkv : its[k].e.pl ∈ ss.map Sv.pl ∨ its2[k].v = its[k].v) : (layV its2 ss)[k].v = its[k].v := by
  induction ss generalizing its2 with
  | nil =>
    rcases hkv with h1 | h1
    · simp at h1
    · exact h1
  | cons s r ih =>
    have al := Al.putS (⟨rfl, rfl⟩ : Al (its2.map Im.e) (its2.map Im.b) its2) s
    have hl := putS_len its2 s
    have hv := putS_v hd (sorted_of_e he hs) s hk2 (by rw [hl]; exact hk2)
    have ee := e_get he hk2 hk
    rw [ee] at hv
    obtain ⟨i, hi, ha, rfl⟩ := h s List.mem_cons_self
    have key : its[k].e.pl = (svO i).pl → ((putS its2 (svO i))[k]'(by rw [hl]; exact hk2)).v = its[k].v := fun e => by
      rw [hv, if_pos e]
      obtain ⟨j, hj, rfl⟩ := List.getElem_of_mem hi
      have : k = j := pl_inj hs hk hj e
      subst this
      exact (hok _ (List.getElem_mem hk)).val.2
    refine ih (fun s hs => h s (List.mem_cons_of_mem _ hs)) (putS its2 (svO i)) (by rw [al.b]; exact hd) (by rw [al.e]; exact he) (by rw [hl]; exact hk2) h3 ?_
    by_cases e : its[k].e.pl = (svO i).pl
    · exact .inr (key e)
    · rcases hkv with h1 | h1
      · rw [List.map_cons, List.mem_cons] at h1
        rcases h1 with h1 | h1
        · exact absurd h1 e
        · exact .inl h1
      · right
        rw [hv, if_neg e]
        exact h1
/-- What is saved, loaded into a dictionary of the same entries. -/
theorem kept {its its2 : List Im} (hs : its.Pairwise (fun a b => a.e.pl < b.e.pl)) (hok : ∀ i ∈ its, Ok i) (hd : (its2.map Im.b).Nodup) (he : its2.map Im.e = its.map Im.e) : loadC its2 (sav its) = 0 ∧ sav (loadI its2 (sav its)) = sav its ∧ ∀ ix sb i, fnd its ix sb = some i → i.e.ac = 2 → getV (loadI its2 (sav its)) ix sb = i.v := by
  have hc := cut_sav its hs (-1) (fun i _ => by omega)
  have h0 := ld_svs he hs hok (svs its) (fun s h => mem_svs h)
  have e1 : loadC its2 (sav its) = 0 := by unfold loadC; rw [hc]; exact h0
  have e2 : loadI its2 (sav its) = layV its2 (svs its) := by
    unfold loadI
    rw [hc]
    exact if_pos h0
  have al := Al.layV (⟨rfl, rfl⟩ : Al (its2.map Im.e) (its2.map Im.b) its2) (svs its)
  have hlen : (layV its2 (svs its)).length = its.length := by
    have h1 := congrArg List.length (al.e.trans he)
    simpa using h1
  have hlen2 : its2.length = its.length := by
    have h1 := congrArg List.length he
    simpa using h1
  have hee : (layV its2 (svs its)).map Im.e = its.map Im.e := al.e.trans he
  have hval : ∀ k (hk : k < its.length), its[k].e.ac = 2 → ((layV its2 (svs its))[k]'(by omega)).v = its[k].v := fun k hk ha => by
    refine lay_svs hs hok (svs its) (fun s h => mem_svs h) its2 hd he hk (by omega) (by omega) (.inl ?_)
    refine List.mem_map.2 ⟨svO its[k], List.mem_map.2 ⟨its[k], List.mem_filter.2 ⟨List.getElem_mem hk, by simpa using ha⟩, rfl⟩, rfl⟩
  refine ⟨e1, ?_, ?_⟩
  · rw [e2]
    have : (layV its2 (svs its)).map svI = its.map svI := by
      apply List.ext_getElem
      · simpa using hlen
      · intro k h1 h2
        have hk : k < its.length := by simpa using h2
        simp only [List.getElem_map]
        unfold svI
        have ee := e_get hee (by omega : k < (layV its2 (svs its)).length) hk
        rw [ee]
        by_cases ha : its[k].e.ac = 2
        · rw [if_pos ha, if_pos ha, hval k hk ha]
        · rw [if_neg ha, if_neg ha]
    unfold sav
    rw [List.flatMap_def, List.flatMap_def, this]
  · intro ix sb i hf ha
    rw [e2]
    obtain ⟨k, hk, hki, f1, f2⟩ := fi_some hf
    have hf2 := fnd_e hee ix sb
    rw [hf] at hf2
    cases hg : fnd (layV its2 (svs its)) ix sb with
    | none => rw [hg] at hf2; cases hf2
    | some y =>
      obtain ⟨m, hm, hmy, g1, g2⟩ := fi_some hg
      rw [hee, f1] at g1
      subst g1
      unfold getV
      rw [hg]
      show y.v = i.v
      rw [← hmy, ← hki]
      exact hval k hk (by rw [hki]; exact ha)
end Go.Proofs.Ytdcogpadioeclaa
namespace Go.Proofs.Ytdcogpadioeclaa
open Go.RowKit Go.Proofs.Ty Go.Sort Go.Lib
set_option linter.unusedVariables false
set_option maxRecDepth 1000000
set_option linter.unusedSimpArgs false
theorem does_any {w : World} {X D R E : Nat} {its : List Im} {x : World} (h : Sm w X D R E its its x) (hok : ∀ i ∈ its, Ok i) (A : A8) (hBy : Bytes w A.bv A.bl) (hCp : Cp A.bv) (hbl : A.bl.length ≤ 140737488351232) :
    Calls Try.prog 10 #[.pointer (some ⟨X, 0, none⟩), .agg A.arr] x (DoesPost w X D R E its) := by
  have hk : (A.kind < 0 ∨ 6 < A.kind) ∨ A.kind = 0 ∨ A.kind = 1 ∨ A.kind = 2 ∨ A.kind = 3 ∨ A.kind = 4 ∨ A.kind = 5 ∨ A.kind = 6 := by omega
  rcases hk with hk | hk | hk | hk | hk | hk | hk | hk
  · exact does_7 h hok A hk hBy hCp hbl
  · exact does_0 h hok A hk hBy hCp hbl
  · exact does_1 h hok A hk hBy hCp hbl
  · exact does_2 h hok A hk hBy hCp hbl
  · exact does_3 h hok A hk hBy hCp hbl
  · exact does_4 h hok A hk hBy hCp hbl
  · exact does_5 h hok A hk hBy hCp hbl
  · exact does_6 h hok A hk hBy hCp hbl
theorem Sm.start {w : World} {l : List En} {X D R E : Nat} {its : List Im} {vL vV : Value} {x : World} (h : Bg w X D R E its l vL vV x) (hc : chkL l = 0) : Sm w X D R E its its x ∧ ∀ i ∈ its, Ok i := by
  have e1 := ins_its h.dct.sorted h.perm (chkL_ok hc).2.1
  have e2 : (its.map Im.e).map En.df = its.map Im.v := by
    rw [List.map_map]
    apply List.map_congr_left
    intro i hi
    exact (h.vals i hi).symm
  have hr := h.rd
  rw [e1, e2] at hr
  exact ⟨⟨h.dct, ⟨vL, vV, hr⟩, h.pair, h.below, (fun b hb => by obtain ⟨i, hi, rfl⟩ := List.mem_map.1 hb; exact h.base i hi), h.bE, h.dct.len⟩, ok_its hc h.perm h.vals⟩
theorem enterDo : ∀ args x, (callFunc 10 args).run Try.prog x = .ok (.enter 10 args) x := fun _ _ => by rfl
end Go.Proofs.Ytdcogpadioeclaa
