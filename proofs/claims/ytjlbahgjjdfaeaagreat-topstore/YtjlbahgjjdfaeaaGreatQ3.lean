/- Contracts: saved bytes, cut into a list. -/
import Derived.Test.YtjlbahgjjdfaeaaGreatQ2
namespace Go.Proofs.YtjlbahgjjdfaeaaGreat
open Go.RowKit Go.Proofs.Ty
set_option linter.unusedVariables false
set_option maxRecDepth 1000000
set_option linter.unusedSimpArgs false
theorem Sv.pl_lt (s : Sv) : s.pl < 16777216 := by have := s.hix; have := s.hsb; unfold Sv.pl; omega
/-- What is cut so far. -/
structure Cst (w : World) (l : List UInt8) (vb : Value) (r : List UInt8) (vl : Value) (ws : List Sw) (ah : Int) (x : World) : Prop where
  bytes : Bytes w vb r
  cp : Cp vb
  row : x.ownsRow w.heap.size 90 3 vl ws.length (flatW DS ws)
  raws : ∀ s ∈ ws, Bytes w s.bv s.s.raw
  below : Below w.heap.size w x
  eq : cutL (-1) l = (cutL ah r).map (ws.map Sw.s ++ ·)
  cnt : (ws.length : Int) ≤ ah + 1 ∧ -1 ≤ ah ∧ ah < 16777216
  len : r.length ≤ l.length
section
variable {w : World} {l : List UInt8} {vb : Value} {r : List UInt8} {vl : Value} {ws : List Sw} {ah : Int} {x : World}
theorem Cst.start {v : Value} (hB : Bytes w v l) (hC : Cp v) : Cst w l v l (.slice none 0 0) [] (-1) w :=
  ⟨hB, hC, ⟨rfl, .inl ⟨rfl, rfl⟩⟩, fun s hs => by simp at hs, Below.refl _ _, by simp, by simp, Nat.le_refl _⟩
theorem Cst.next {y : World} (h : Cst w l vb r vl ws ah x) (hb : Below x.heap.size x y) : Cst w l vb r vl ws ah y :=
  ⟨h.bytes, h.cp, ⟨h.row.1, h.row.2.imp id (by
    rintro ⟨g, cap, cur, e1, e2, e3, e4⟩
    exact ⟨g, cap, cur, e1, e2, (hb.block g (Array.getElem?_eq_some_iff.1 e3).1).trans e3, e4⟩)⟩, h.raws, h.below.trans (hb.mono h.below.size), h.eq, h.cnt, h.len⟩
theorem Cst.bad (h : Cst w l vb r vl ws ah x) (h0 : r ≠ []) (hd : hdB r = false) : cutL (-1) l = none := by
  rw [h.eq]
  unfold hdB at hd
  by_cases h7 : r.length < 7
  · rw [cutL_short h0 h7]; rfl
  · rw [cutL_long (by omega) (by rw [decide_eq_true (by omega), Bool.true_and, decide_eq_false_iff_not] at hd; omega)]; rfl
theorem hdB_true (hd : hdB r = true) : 7 ≤ r.length ∧ hdN r ≤ r.length - 7 := by
  unfold hdB at hd
  simpa using hd
theorem Cst.low (h : Cst w l vb r vl ws ah x) (hd : hdB r = true) (hp : ((svOf r).pl : Int) ≤ ah) : cutL (-1) l = none := by
  rw [h.eq, cutL_low (hdB_true hd).1 hp]; rfl
theorem Cst.done (h : Cst w l vb [] vl ws ah x) : cutL (-1) l = some (ws.map Sw.s) := by
  rw [h.eq, cutL_nil]; simp
theorem raw_len (hd : hdB r = true) : (svOf r).raw.length = hdN r := by
  have := hdB_true hd
  show ((r.drop 7).take (hdN r)).length = hdN r
  rw [List.length_take, List.length_drop]; omega
theorem Cst.more (h : Cst w l vb r vl ws ah x) (hd : hdB r = true) (hp : ¬ ((svOf r).pl : Int) ≤ ah) {S : Sw} (hs : S.s = svOf r) (hr : ∀ y, Bytes y vb r → Bytes y S.bv S.s.raw) {y : World} {vl' : Value} (hrow : y.ownsRow w.heap.size 90 3 vl' (ws ++ [S]).length (flatW DS (ws ++ [S]))) (hb : Below w.heap.size w y) {vb' : Value} (hB' : ∀ x, Bytes x vb r → Bytes x vb' (r.drop (7 + S.s.raw.length))) (hC' : Cp vb') :
    Cst w l vb' (r.drop (7 + S.s.raw.length)) vl' (ws ++ [S]) (S.s.pl : Int) y := by
  have h7 := hdB_true hd
  have hl := raw_len hd
  have hpl := S.s.pl_lt
  have hc := h.cnt
  refine ⟨hB' w h.bytes, hC', hrow, ?_, hb, ?_, ?_, ?_⟩
  · intro s hm
    rcases List.mem_append.1 hm with h1 | h1
    · exact h.raws s h1
    · obtain rfl := List.mem_singleton.1 h1
      exact hr w h.bytes
  · rw [h.eq, cutL_go h7.1 (by omega) hp, hs, hl, Option.map_map]
    congr 1
    funext z
    simp [hs]
  · rw [← hs] at hp
    rw [List.length_append, List.length_singleton]
    omega
  · rw [List.length_drop]; have := h.len; omega
theorem Cst.shape (h : Cst w l vb r vl ws ah x) : (∃ ao cap, vb = .slice ao r.length cap) ∧ ∃ ao cap, vl = .slice ao ws.length cap := ⟨by obtain ⟨ao, cap, h, _⟩ := h.bytes; exact ⟨ao, cap, h⟩, own_shape5 h.row⟩
end
theorem Cst.blk {w : World} {l : List UInt8} {vb : Value} {r : List UInt8} {vl : Value} {ws : List Sw} {ah : Int} {x : World} (h : Cst w l vb r vl ws ah x) : ∀ g, vl.ownBlock = some g → g < x.heap.size := by
  intro g hg
  obtain ⟨_, cur, h1⟩ := own_of h.row hg
  exact (Array.getElem?_eq_some_iff.1 h1).1
theorem load_bytesq (x : World) (D k : Nat) (ao : Option Addr) (l c : Nat) (hc : x.cell? ⟨D, k, none⟩ = some (.slice ao l c)) : (loadVar 24 ⟨D, k, none⟩).run Tryz.prog x = .ok (.slice ao l c) x := by
  simp [go_sem, run_underlying Tryz.underlying24, hc]
theorem exec_add7 {a : Act} {o : Oper} {x y : Operand} {n : Nat} (ho : o.op = .binOp .add 3 x y 3) (hx : a.eval x = .int .i64 7) (hy : a.eval y = .int .i64 (n : Int)) (hn : n < 4611686018427387904) (w : World) : (execOp a.eval o).run Tryz.prog w = .ok (.value (.int .i64 ((7 + n : Nat) : Int))) w := by
  have : IntKind.i64.wrap (7 + (n : Int)) = ((7 + n : Nat) : Int) := by simp [IntKind.wrap, IntKind.bits, IntKind.signed]; omega
  unfold execOp
  simp only [ho, hx, hy]
  simp [go_sem, this]
def slen : Value → Nat
  | .slice _ n _ => n
  | _ => 0
set_option maxHeartbeats 4000000 in
theorem ocut_any (x0 : Value) (l : List UInt8) (w : World) (hB : Bytes w x0 l) (hC : Cp x0) (hl : l.length ≤ 140737488351232) :
    Calls Tryz.prog 30 #[x0] w fun e w' => Below w.heap.size w w' ∧ (cutL (-1) l = none → e = .returned (.tuple #[.slice none 0 0, .bool false])) ∧ ∀ ss, cutL (-1) l = some ss → ∃ v ws, e = .returned (.tuple #[v, .bool true]) ∧ ws.map Sw.s = ss ∧ Wide 3 swC w' v ws ∧ (∀ s ∈ ws, Bytes w' s.bv s.s.raw) ∧ ws.length ≤ 16777216 := by
  have HC0 := hidOf2 (Cst.start hB hC)
  have hP := placeOf_any
  clear hB hC
  go_enter Tryz.func30, Tryz.ntmps30
  go_wp2
  go_loopw [0, 4, 5] (fun s0 s4 s5 x => ∃ vb r vl ws ah, (s0 = vb ∧ s4 = vl ∧ s5 = .int .i64 ah) ∧ Hid (Cst w l vb r vl ws ah x)) (fun s0 _ _ _ => slen s0)
  case atStart => exact ⟨_, _, _, _, _, ⟨rfl, rfl, rfl⟩, HC0⟩
  case round =>
    clear HC0
    obtain ⟨vb, r, vl, ws, ah, ⟨rfl, rfl, rfl⟩, HC⟩ := hrel
    obtain ⟨⟨ao, cp, rfl⟩, al, cl, rfl⟩ := HC.out.shape
    have hrl := HC.out.len
    by_cases h0 : r = []
    · subst h0
      have E1 := hidOf2 HC.out.done
      have E2 := hidOf2 HC.out.below
      have E3 := hidOf2 (wide_of_own DS HC.out.row)
      have E4 := hidOf2 (fun s hs => (HC.out.raws s hs).below HC.out.below)
      have E5 := hidOf2 HC.out.cnt
      clear HC
      go_wp2
      go_ret2
      exact ⟨E2.out, (fun h => by rw [E1.out] at h; cases h), fun ss h => ⟨_, ws, rfl, by rw [E1.out] at h; injection h, E3.out, E4.out, by have := E5.out; omega⟩⟩
    · have hr0 : 0 < r.length := List.length_pos_iff.2 h0
      have d0 : decide ((0 : Int) < (r.length : Int)) = true := by simp; omega
      have hH := head_any (.slice ao r.length cp) r wr (HC.out.bytes.below HC.out.below) HC.out.cp (by omega)
      have HBD := hidOf2 (HC.out.bad h0)
      have HLW := hidOf2 HC.out.low
      obtain ⟨HD, hHD⟩ : ∃ b, hdB r = b := ⟨_, rfl⟩
      have HHD := hidOf2 hHD
      rw [hHD] at hH HBD HLW
      clear hHD
      go_wp2_with fail
      refine hH.mono ?_
      rintro e w1 ⟨S, rfl, b1, hS⟩
      have HS := hidOf2 hS
      have HC1 := hidOf2 (HC.out.next b1)
      obtain ⟨q, hq⟩ : ∃ q, w1.heap.size = q := ⟨_, rfl⟩
      have g0 : Sb q Sw.nul (w1.alloc (.cells #[.int .u16 0, .int .u8 0, .slice none 0 0] 90)) := hq ▸ Sb.new w1 Sw.nul
      have bA : Below w1.heap.size w1 (w1.alloc (.cells #[.int .u16 0, .int .u8 0, .slice none 0 0] 90)) := (Below.refl _ _).alloc (Nat.le_refl _) _
      have bN := below_row bA (by omega) bA.size (q := q) S.arr
      have g1 := g0.row S
      have HC2 := hidOf2 (HC1.out.next bN)
      have HNQ := hidOf2 (show (Value.slice al ws.length cl).ownBlock ≠ some q from fun e => by have := HC1.out.blk q e; omega)
      have hpS := hP S.s.ix S.s.sb S.s.hix S.s.hsb
      clear hH hS HC HC1 bA bN b1
      go_upto_region 5 with (first | (refine g0.sd S rfl _ _ rfl rfl rfl ?_))
      generalize ((w1.alloc (.cells #[.int .u16 0, .int .u8 0, .slice none 0 0] 90)).setRow q S.arr) = w2 at *
      try simp only [hq]
      obtain ⟨c0, c1, c2⟩ := g1.c
      clear g0
      go_wp2_with fail
      refine (hpS w2).mono ?_
      rintro e w3 ⟨rfl, rfl⟩
      clear hpS c0 c1
      have hPL := S.s.pl_lt
      have HP : Hid (S.s.pl = S.s.ix * 256 + S.s.sb) := rfl
      obtain ⟨P, hPe⟩ : ∃ P, S.s.ix * 256 + S.s.sb = P := ⟨_, rfl⟩
      rw [hPe] at HP ⊢
      rw [HP.out] at hPL
      clear hPe
      cases HD with
      | false =>
        have E1 := hidOf2 (HBD.out rfl)
        have E2 := hidOf2 HC2.out.below
        clear HBD HLW HC2 HS
        go_wp2
        go_ret2
        exact ⟨E2.out, fun _ => rfl, fun ss h => by rw [E1.out] at h; cases h⟩
      | true =>
        obtain ⟨hs1, hs2⟩ := HS.out rfl
        by_cases hp : (P : Int) ≤ ah
        · have d1 : decide ((P : Int) ≤ ah) = true := decide_eq_true hp
          have E1 := hidOf2 (HLW.out rfl (by rw [← hs1, HP.out]; exact hp))
          have E2 := hidOf2 HC2.out.below
          clear HBD HLW HC2 HS hs1 hs2
          go_wp2
          go_ret2
          exact ⟨E2.out, fun _ => rfl, fun ss h => by rw [E1.out] at h; cases h⟩
        · have d1 : decide ((P : Int) ≤ ah) = false := decide_eq_false hp
          have hraw : S.s.raw.length = hdN r := by rw [hs1]; exact raw_len HHD.out
          have h7 := hdB_true HHD.out
          have hcn := HC2.out.cnt
          obtain ⟨na, nc, nrun, nB, nC⟩ := bslice_l HC2.out.bytes HC2.out.cp (7 + S.s.raw.length) (by omega)
          have nlen : r.length - (7 + S.s.raw.length) = (r.drop (7 + S.s.raw.length)).length := by rw [List.length_drop]
          have HM := hidOf2 (fun (y : World) (vl' : Value) hrow hb => HC2.out.more HHD.out (by rw [← hs1, HP.out]; exact hp) hs1 hs2 (y := y) (vl' := vl') hrow hb (vb' := .slice na (r.length - (7 + S.s.raw.length)) nc) nB nC)
          have MEA := hidOf2 (show slen (.slice na (r.length - (7 + S.s.raw.length)) nc) < slen (.slice ao r.length cp) by show r.length - (7 + S.s.raw.length) < r.length; omega)
          have bO : Below w3.heap.size w3 (w3.alloc (.cells (DS.dec S).toArray 90)) := (Below.refl _ _).alloc (Nat.le_refl _) _
          have P7 := ownsRow_alloc HC2.out.row (.cells (DS.dec S).toArray 90)
          have hWv := wide_new DS w3 S 90
          have hbs : w.heap.size ≤ (w3.alloc (.cells (DS.dec S).toArray 90)).heap.size := Nat.le_trans HC2.out.below.size bO.size
          have BO := HC2.out.below.trans (bO.mono HC2.out.below.size)
          have gO := g1.below bO
          rw [HP.out] at HM
          have hrawle : S.s.raw.length ≤ 140737488351232 := by omega
          clear HBD HLW HS nB nC hs1 hs2 nlen hraw
          go_upto_region 9 with (first | (refine g1.ld rfl _ rfl rfl ?_) | (refine one_bs DS S 85 90 _ 32 rfl _ rfl rfl Tryz.underlying85 infoSz (by decide) ?_) | (refine BigFrame.wpList_want rfl fun _ hK => wp_append_wide DS _ _ 85 90 _ 32 Tryz.underlying85 infoSz rfl rfl w.heap.size _ ws rfl P7 _ [S] rfl hWv (by unfold maxLen; simp; omega) (by simp; omega) hbs ?_; intro v8 wZ P8 G8; refine hK _ _ ?_; have BZ := BO.grown G8 hbs (own_lt P7); have gZ : Sb q S wZ := (G8.block q gO.lt (fun e => HNQ.out e.symm)).trans gO; obtain ⟨a8, c8, rfl⟩ := own_shape5 P8; have CN := HM.out wZ _ P8 BZ; clear P8 G8 P7 hWv BO hbs HM bO))
          clear gO hK
          have S0 : wZ.drew.cell? ⟨q, 2, none⟩ = some (.slice S.ao S.s.raw.length S.cp) := gZ.c.2.2
          refine wp_region_held (S := fun x => x.cell? ⟨q, 2, none⟩ = some (.slice S.ao S.s.raw.length S.cp)) (by kernel_rfl) ?_
          change wpAnyH _ _ _ _ _ _ _ _ wZ.drew
          refine wpAnyH_take (i := 0) (v := (.int .i64 (P : Int))) rfl (by kernel_rfl) (by kernel_rfl) (by kernel_rfl) (fun _ _ _ h => h) (.inl ⟨rfl, fun _ hS => rfl⟩) S0 ?_
          simp only [List.getElem_toArray, List.getElem_cons_succ, List.getElem_cons_zero, Act.put, List.setIfInBounds_toArray, List.set_cons_succ, List.set_cons_zero]
          refine wpAnyH_take (i := 1) (v := (.slice ao r.length cp)) rfl (by kernel_rfl) (by kernel_rfl) (by kernel_rfl) (fun _ _ _ h => h) (.inl ⟨rfl, fun _ hS => rfl⟩) S0 ?_
          simp only [List.getElem_toArray, List.getElem_cons_succ, List.getElem_cons_zero, Act.put, List.setIfInBounds_toArray, List.set_cons_succ, List.set_cons_zero]
          refine wpAnyH_take (i := 2) (v := (.pointer (some ⟨q, 2, none⟩))) rfl (by kernel_rfl) (by kernel_rfl) (by kernel_rfl) (fun _ _ _ h => h) (.inl ⟨rfl, fun _ hS => by simp [execOp, go_sem, Act.eval]⟩) S0 ?_
          simp only [List.getElem_toArray, List.getElem_cons_succ, List.getElem_cons_zero, Act.put, List.setIfInBounds_toArray, List.set_cons_succ, List.set_cons_zero]
          refine wpAnyH_take (i := 3) (v := (.slice S.ao S.s.raw.length S.cp)) rfl (by kernel_rfl) (by kernel_rfl) (by kernel_rfl) (fun _ _ _ h => h) (.inl ⟨rfl, fun _ hS => exec_loadq rfl rfl (load_bytesq _ _ _ _ _ _ hS)⟩) S0 ?_
          simp only [List.getElem_toArray, List.getElem_cons_succ, List.getElem_cons_zero, Act.put, List.setIfInBounds_toArray, List.set_cons_succ, List.set_cons_zero]
          refine wpAnyH_take (i := 4) (v := (.int .i64 (S.s.raw.length : Int))) rfl (by kernel_rfl) (by kernel_rfl) (by kernel_rfl) (fun _ _ _ h => h) (.inl ⟨rfl, fun _ hS => by simp [execOp, go_sem, Act.eval, resolve, invoke]⟩) S0 ?_
          simp only [List.getElem_toArray, List.getElem_cons_succ, List.getElem_cons_zero, Act.put, List.setIfInBounds_toArray, List.set_cons_succ, List.set_cons_zero]
          refine wpAnyH_take (i := 5) (v := (.int .i64 ((7 + S.s.raw.length : Nat) : Int))) rfl (by kernel_rfl) (by kernel_rfl) (by kernel_rfl) (fun _ _ _ h => h) (.inl ⟨rfl, fun _ hS => exec_add7 rfl rfl rfl (by omega) _⟩) S0 ?_
          simp only [List.getElem_toArray, List.getElem_cons_succ, List.getElem_cons_zero, Act.put, List.setIfInBounds_toArray, List.set_cons_succ, List.set_cons_zero]
          refine wpAnyH_take (i := 6) (v := (.slice na (r.length - (7 + S.s.raw.length)) nc)) rfl (by kernel_rfl) (by kernel_rfl) (by kernel_rfl) (fun _ _ _ h => h) (.inl ⟨rfl, fun _ hS => exec_sliceB (v := .slice ao r.length cp) (lo' := some (.int .i64 ((7 + S.s.raw.length : Nat) : Int))) (hi' := none) rfl rfl rfl rfl nrun _⟩) S0 ?_
          simp only [List.getElem_toArray, List.getElem_cons_succ, List.getElem_cons_zero, Act.put, List.setIfInBounds_toArray, List.set_cons_succ, List.set_cons_zero]
          refine wpAnyH_take (i := 7) (v := (.int .i64 (P : Int))) rfl (by kernel_rfl) (by kernel_rfl) (by kernel_rfl) (fun _ _ _ h => h) (.inl ⟨rfl, fun _ hS => by simp [execOp, go_sem, Act.eval]⟩) S0 ?_
          simp only [List.getElem_toArray, List.getElem_cons_succ, List.getElem_cons_zero, Act.put, List.setIfInBounds_toArray, List.set_cons_succ, List.set_cons_zero]
          refine wpAnyH_take (i := 8) (v := (.slice na (r.length - (7 + S.s.raw.length)) nc)) rfl (by kernel_rfl) (by kernel_rfl) (by kernel_rfl) (fun _ _ _ h => h) (.inl ⟨rfl, fun _ hS => by simp [execOp, go_sem, Act.eval]⟩) S0 ?_
          simp only [List.getElem_toArray, List.getElem_cons_succ, List.getElem_cons_zero, Act.put, List.setIfInBounds_toArray, List.set_cons_succ, List.set_cons_zero]
          refine wpAnyH_done (by kernel_rfl) ?_ _
          have HCN := hidOf2 (show Cst w l _ _ _ _ _ wZ.drew from CN.next (bdr (Below.refl _ _) 1))
          clear CN
          generalize wZ.drew = wz at *
          go_wp2
          go_roundw
          case rel => exact ⟨_, _, .slice a8 (ws ++ [S]).length c8, ws ++ [S], (P : Int), ⟨rfl, by simp, rfl⟩, HCN⟩
          case measure => exact MEA.out
end Go.Proofs.YtjlbahgjjdfaeaaGreat
