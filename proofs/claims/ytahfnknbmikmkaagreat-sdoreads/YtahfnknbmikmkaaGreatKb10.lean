/- Contracts: Save. The small living call of every statement on dictionaries answers true. Contracts of the document's own: Check of a Bool. Contracts of the document's own: Check, Plain, Encode. -/
import Derived.Test.YtahfnknbmikmkaaGreatKb9
import Derived.Test.YtahfnknbmikmkaaGreatZs
import Derived.Test.YtahfnknbmikmkaaGreatKb8
namespace Go.Proofs.YtahfnknbmikmkaaGreat
open Go.RowKit Go.Proofs.Ty Go.Sort Go.Lib
set_option linter.unusedVariables false
set_option maxRecDepth 1000000
set_option linter.unusedSimpArgs false
theorem enc_len (v : Vl) : v.enc.length ≤ 65536 := by
  have hE : v.enc = if v.chk = 0 then (if 0 < siz v.t then lowL v.n (siz v.t) else v.s.data.toList) else [] := rfl
  rw [hE]
  split
  · rename_i h0
    split
    · rw [lowL_length]; have := siz_le v.t; omega
    · rename_i hz
      have hz' : siz v.t = 0 := by omega
      obtain ⟨k1, k2⟩ := (siz_zero v.t).1 hz'
      unfold Vl.chk Ty.chk at h0
      rw [if_neg k1, if_neg k2] at h0
      split at h0
      · exact absurd h0 (by decide)
      · split at h0
        · exact absurd h0 (by decide)
        · rename_i h3
          have : v.s.data.toList.length = v.s.size := by simp
          omega
  · simp
theorem bytes_same {w x : World} {v : Value} {l : List UInt8} (h : Bytes w v l) (hs : w.heap.size ≤ x.heap.size) (hb : ∀ b, v.ownBlock = some b → b < w.heap.size → x.heap[b]? = w.heap[b]?) : Bytes x v l := by
  obtain ⟨ao, cap, rfl, h0, hc⟩ := h
  refine ⟨ao, cap, rfl, h0, fun k hk => ?_⟩
  obtain ⟨b, off, ha, hlt, hcell⟩ := hc k hk
  exact ⟨b, off, ha, by omega, (World.cell?_of_block (a := ⟨b, off + k, none⟩) (hb b (by rw [ha]; rfl) hlt)).trans hcell⟩
theorem load_u16 (x : World) (D k : Nat) (z : Int) (hc : x.cell? ⟨D, k, none⟩ = some (.int .u16 z)) : (loadVar 43 ⟨D, k, none⟩).run Tryz.prog x = .ok (.int .u16 z) x := by
  simp [go_sem, run_underlying Tryz.underlying43, hc]
theorem load_u8 (x : World) (D k : Nat) (z : Int) (hc : x.cell? ⟨D, k, none⟩ = some (.int .u8 z)) : (loadVar 5 ⟨D, k, none⟩).run Tryz.prog x = .ok (.int .u8 z) x := by
  simp [go_sem, run_underlying Tryz.underlying5, hc]
theorem wp_append_bytes {w : World} {o : Oper} {a : Act} {K : Act → World → Prop} {Q : Exit → Act → World → Prop} (s x : Operand)
    (ho : o.op = .call { callee := .builtin .append, args := #[s, x], argTypes := #[47, 47] })
    (base : Nat) (v : Value) (xs : List UInt8) (hs : a.eval s = v) (hown : w.ownsRow base 5 1 v xs.length (Lib.byteCells xs))
    (vx : Value) (l : List UInt8) (hx : a.eval x = vx) (hB : Bytes w vx l) (hbytes : xs.length + l.length ≤ 140737488355328) (hbase : base ≤ w.heap.size)
    (h : ∀ v' w', w'.ownsRow base 5 1 v' (xs ++ l).length (Lib.byteCells (xs ++ l)) → w.grownBy w' v.ownBlock → (∀ k, k < w.heap.size → v'.ownBlock = some k → v.ownBlock = some k) → K (a.put o.dst v') w') : o.wp Tryz.prog a w K Q := by
  obtain ⟨i0, hi, hz0, hz1, hz2⟩ := info_parts info5
  obtain ⟨ao, cap, rfl, h0, hc⟩ := hB
  cases ao with
  | none =>
    obtain ⟨rfl, rfl⟩ := h0 rfl
    have hrun := run_append_owned_none (P := Tryz.prog) (w := w) base 47 o.type 5 i0 1 Tryz.underlying47 hi v xs.length (Lib.byteCells xs) hown
    unfold Oper.wp
    simp only [List.length_nil] at hx
    simp [execOp, ho, resolve, invoke, builtin, hs, hx, hrun, Result.andThen]
    refine h _ _ ?_ (grown_refl _ _) (fun _ _ e => e)
    simpa using hown
  | some ad =>
    refine wp_append_own2 w s x 47 ho base 5 i0 (.int .u8 0) 1 1 Tryz.underlying47 hi hz0 hz1 hz2 rfl (by decide) v xs.length (Lib.byteCells xs) hs hown ad l.length cap (Lib.byteCells l) hx (by simp [Lib.byteCells_length]) ?_ (byteCells_one l) (by unfold maxLen; omega) (by omega) hbase ?_
    · intro j u hj
      have hlt : j < l.length := by
        have := (List.getElem?_eq_some_iff.1 hj).1
        rwa [Lib.byteCells_length] at this
      obtain ⟨b, off, ha, _, hcell⟩ := hc j hlt
      simp at ha
      subst ha
      rw [add_off, hcell]
      simp [Lib.byteCells, hlt] at hj
      rw [hj]
    · intro v' w' h1 h2 h5
      refine h v' w' ?_ h2 h5
      rw [List.length_append, Lib.byteCells_append]
      exact h1
theorem own_drew {w : World} {B : Nat} {e : TypeId} {c n : Nat} {v : Value} {xs : List Value} (h : w.ownsRow B e c v n xs) : w.drew.ownsRow B e c v n xs := h
theorem own_below5 {w x : World} {B : Nat} {e : TypeId} {c n : Nat} {v : Value} {xs : List Value} (h : w.ownsRow B e c v n xs) (hb : Below w.heap.size w x) : x.ownsRow B e c v n xs := by
  refine ⟨h.1, h.2.imp id ?_⟩
  rintro ⟨g, cap, cur, e1, e2, e3, e4⟩
  exact ⟨g, cap, cur, e1, e2, (hb.block g (Array.getElem?_eq_some_iff.1 e3).1).trans e3, e4⟩
theorem own_block_lt {w : World} {B : Nat} {e : TypeId} {c n : Nat} {v : Value} {xs : List Value} (h : w.ownsRow B e c v n xs) : ∀ b, v.ownBlock = some b → b < w.heap.size := by
  intro b hb
  rcases h.2 with ⟨rfl, _⟩ | ⟨g, cap, cur, rfl, _, hg, _⟩
  · cases hb
  · cases hb; exact (Array.getElem?_eq_some_iff.1 hg).1
theorem bytes_lt {w : World} {v : Value} {l : List UInt8} (h : Bytes w v l) (hl : l ≠ []) : ∀ b, v.ownBlock = some b → b < w.heap.size := by
  obtain ⟨ao, cap, rfl, h0, hc⟩ := h
  intro b hb
  obtain ⟨b', off, ha, hlt, _⟩ := hc 0 (List.length_pos_iff.2 hl)
  subst ha
  cases hb; exact hlt
end Go.Proofs.YtahfnknbmikmkaaGreat
namespace Go.Proofs.YtahfnknbmikmkaaGreat
open Go.RowKit Go.Proofs.Ty Go.Sort Go.Lib
set_option linter.unusedVariables false
set_option maxRecDepth 1000000
set_option linter.unusedSimpArgs false
def DE : Dec En := ⟨enC, 14, by decide, fun _ => rfl, fun e u hu => e.one u hu⟩
def u1 : Vl := ⟨5, 1, ⟨#[]⟩, by decide, by decide, by decide⟩
def u5 : Vl := ⟨5, 5, ⟨#[]⟩, by decide, by decide, by decide⟩
def e0 : En := ⟨8192, 0, 2, false, true, u1, u5, u1, by decide, by decide, by decide⟩
theorem infoEz : (Tryz.prog.info? 93).map (fun i => (i.zero, i.size, i.bytes)) = some (some (.agg #[.int .u16 0, .int .u8 0, .int .i64 0, .bool false, .bool false, .int .i64 0, .int .u64 0, .string ⟨#[]⟩, .int .i64 0, .int .u64 0, .string ⟨#[]⟩, .int .i64 0, .int .u64 0, .string ⟨#[]⟩]), 14, 120) := by kernel_rfl
section
variable (b : Nat) (v : Vl)
end
end Go.Proofs.YtahfnknbmikmkaaGreat
namespace Go.Proofs.YtahfnknbmikmkaaGreat
open Go.RowKit Go.Proofs.Ty
set_option linter.unusedVariables false
set_option maxRecDepth 1000000
set_option linter.unusedSimpArgs false
set_option maxHeartbeats 2000000 in
theorem r7Check_b1 (v : Vl) (hz : 0 < siz v.t) (heq : wv v = v.n) (h1 : v.t = 1) (hn : 1 < v.n) (w : World) :
    Calls Tryz.prog 46 #[.agg v.arr] w fun e w' => e = .returned (.int .i64 (1)) ∧ Below w.heap.size w w' := by
  have fA := Va.new w v
  have bA : Below w.heap.size w (w.alloc (.cells v.arr 52)) := (Below.refl _ _).alloc (Nat.le_refl _) _
  have hI := r7Is_any v.t
  have hS7 := r7Size_any v.t
  have hk : (kind v.t != 0) = true := by
    have := siz_zero v.t
    simp
    omega
  rw [hk] at hI
  have h8 := siz_le v.t
  have hLow := fun w => r7low_any v.n (siz v.t) h8 w
  have hWide := fun x w => r7Wide_v v.t x (lowL v.n (siz v.t)) w (by rw [lowL_length]; exact h8)
  have hwv : wideN (kind v.t == 2) (lowL v.n (siz v.t)) = wv v := rfl
  rw [hwv] at hWide
  obtain ⟨W, hW⟩ : ∃ W, w.alloc (.cells v.arr 52) = W := ⟨_, rfl⟩
  obtain ⟨q, hq⟩ : ∃ q, w.heap.size = q := ⟨_, rfl⟩
  rw [hW, hq] at fA
  rw [hW] at bA
  have c0 := fA.c0
  have dz : decide ((0 : Int) < (siz v.t : Int)) = true := decide_eq_true (by omega)
  have hne : (((wv v : Nat) : Int) != (v.n : Int)) = false := by simp; omega
  have ht1 : (v.t == 1) = true := by simpa using h1
  have hbb : decide ((1 : Int) < (v.n : Int)) = true := decide_eq_true (by omega)
  clear h1 heq hn
  clear hk hwv
  generalize wv v = V at *
  generalize siz v.t = z at *
  go_enter Tryz.func46, Tryz.ntmps46
  go_upto_region 5 with (first | (go_at_call 84; refine (hI _).mono ?_; rintro e w1 ⟨rfl, rfl⟩) | (go_at_call 85; refine (hS7 _).mono ?_; rintro e w1 ⟨rfl, rfl⟩))
  refine wp_region_held (S := fun x => Va q v x) (by kernel_rfl) ?_
  obtain ⟨y, hy⟩ : ∃ y : World, { w1 with drawn := w1.drawn + 1 } = y := ⟨_, rfl⟩
  rw [hy]
  have f1 : Va q v y := by rw [← hy]; exact fA
  have B1 : Below q w y := by rw [← hy, ← hq]; exact ⟨bA.os, bA.tape, bA.output, bA.size, bA.block⟩
  clear hy hW fA bA hI hS7 c0
  refine tk 0 (.pointer (some ⟨q, 0, none⟩)) rfl (by kernel_rfl) (fun _ _ _ h => h) rfl (fun _ hS => by simp [execOp, go_sem, Act.eval]) f1 ?_
  simp only [zzA, zzB, zzC, Act.put, zzD, zzE, zzF]
  refine tk 1 (.int .i64 v.t) rfl (by kernel_rfl) (fun _ _ _ h => h) rfl (fun _ hS => exec_load rfl rfl (load_int _ q 0 _ hS.c0)) f1 ?_
  simp only [zzA, zzB, zzC, Act.put, zzD, zzE, zzF]
  refine tk 2 (.pointer (some ⟨q, 1, none⟩)) rfl (by kernel_rfl) (fun _ _ _ h => h) rfl (fun _ hS => by simp [execOp, go_sem, Act.eval]) f1 ?_
  simp only [zzA, zzB, zzC, Act.put, zzD, zzE, zzF]
  refine tk 3 (.int .u64 v.n) rfl (by kernel_rfl) (fun _ _ _ h => h) rfl (fun _ hS => exec_load rfl rfl (load_u64 _ q 1 _ hS.c1)) f1 ?_
  simp only [zzA, zzB, zzC, Act.put, zzD, zzE, zzF]
  refine tk 4 (.int .i64 z) rfl (by kernel_rfl) (fun _ _ _ h => h) rfl (fun _ hS => rfl) f1 ?_
  simp only [zzA, zzB, zzC, Act.put, zzD, zzE, zzF]
  refine tk 7 (.pointer (some ⟨q, 1, none⟩)) rfl (by kernel_rfl) (fun _ _ _ h => h) rfl (fun _ hS => by simp [execOp, go_sem, Act.eval]) f1 ?_
  simp only [zzA, zzB, zzC, Act.put, zzD, zzE, zzF]
  refine tk 8 (.int .u64 v.n) rfl (by kernel_rfl) (fun _ _ _ h => h) rfl (fun _ hS => exec_load rfl rfl (load_u64 _ q 1 _ hS.c1)) f1 ?_
  simp only [zzA, zzB, zzC, Act.put, zzD, zzE, zzF]
  refine wpAnyH_all (rs := [5]) (by kernel_rfl) (by simp) ?_
  intro k hk
  simp only [List.mem_cons, List.mem_nil_iff, or_false] at hk
  subst hk
  refine wpOp_run rfl rfl (wp_call_fn 87 #[.int .u64 v.n, .int .i64 z] (by simp [execOp, go_sem, Act.eval, resolve, invoke, enterLow]) ((hLow _).mono ?_))
  rintro e w2 ⟨x, rfl, hB2, b2⟩
  have f2 := f1.below b2
  have B2 := B1.trans (b2.mono (by have := f1.lt; omega))
  have hWd := hWide x w2 hB2
  refine ⟨f2, ?_⟩
  simp only [zzA, zzB, zzC, Act.put, zzD, zzE, zzF]
  refine wpAnyH_all (rs := [6]) (by kernel_rfl) (by simp) ?_
  intro k hk
  simp only [List.mem_cons, List.mem_nil_iff, or_false] at hk
  subst hk
  refine wpOp_run rfl rfl (wp_call_fn 86 #[.int .i64 v.t, x] (by simp [execOp, go_sem, Act.eval, resolve, invoke, enterWide]) (hWd.mono ?_))
  rintro e w2 ⟨rfl, rfl⟩
  refine ⟨f2, ?_⟩
  simp only [zzA, zzB, zzC, Act.put, zzD, zzE, zzF]
  refine tk 9 (.bool false) rfl (by kernel_rfl) (fun _ _ _ h => h) rfl (fun _ hS => by simp [execOp, go_sem, Act.eval, run_underlying Tryz.underlying50, run_underlying Tryz.underlying3, run_underlying Tryz.underlying4, hne]) f2 ?_
  simp only [zzA, zzB, zzC, Act.put, zzD, zzE, zzF]
  refine tk 10 (.bool false) rfl (by kernel_rfl) (fun _ _ _ h => h) rfl (fun _ hS => rfl) f2 ?_
  simp only [zzA, zzB, zzC, Act.put, zzD, zzE, zzF]
  refine tk 11 (.pointer (some ⟨q, 0, none⟩)) rfl (by kernel_rfl) (fun _ _ _ h => h) rfl (fun _ hS => by simp [execOp, go_sem, Act.eval]) f2 ?_
  simp only [zzA, zzB, zzC, Act.put, zzD, zzE, zzF]
  refine tk 12 (.int .i64 v.t) rfl (by kernel_rfl) (fun _ _ _ h => h) rfl (fun _ hS => exec_load rfl rfl (load_int _ q 0 _ hS.c0)) f2 ?_
  simp only [zzA, zzB, zzC, Act.put, zzD, zzE, zzF]
  refine tk 13 (.bool true) rfl (by kernel_rfl) (fun _ _ _ h => h) rfl (fun _ hS => by simp [execOp, go_sem, Act.eval, run_underlying Tryz.underlying50, run_underlying Tryz.underlying3, run_underlying Tryz.underlying4, ht1]) f2 ?_
  simp only [zzA, zzB, zzC, Act.put, zzD, zzE, zzF]
  refine tk 14 (.bool true) rfl (by kernel_rfl) (fun _ _ _ h => h) rfl (fun _ hS => rfl) f2 ?_
  simp only [zzA, zzB, zzC, Act.put, zzD, zzE, zzF]
  refine tk 15 (.pointer (some ⟨q, 1, none⟩)) rfl (by kernel_rfl) (fun _ _ _ h => h) rfl (fun _ hS => by simp [execOp, go_sem, Act.eval]) f2 ?_
  simp only [zzA, zzB, zzC, Act.put, zzD, zzE, zzF]
  refine tk 16 (.int .u64 v.n) rfl (by kernel_rfl) (fun _ _ _ h => h) rfl (fun _ hS => exec_load rfl rfl (load_u64 _ q 1 _ hS.c1)) f2 ?_
  simp only [zzA, zzB, zzC, Act.put, zzD, zzE, zzF]
  refine tk 17 (.bool true) rfl (by kernel_rfl) (fun _ _ _ h => h) rfl (fun _ hS => by simp [execOp, go_sem, Act.eval, run_underlying Tryz.underlying50, run_underlying Tryz.underlying3, run_underlying Tryz.underlying4, hbb]) f2 ?_
  simp only [zzA, zzB, zzC, Act.put, zzD, zzE, zzF]
  refine tk 18 (.bool true) rfl (by kernel_rfl) (fun _ _ _ h => h) rfl (fun _ hS => by simp [execOp, go_sem, Act.eval, run_underlying Tryz.underlying50, run_underlying Tryz.underlying3, run_underlying Tryz.underlying4, hbb]) f2 ?_
  simp only [zzA, zzB, zzC, Act.put, zzD, zzE, zzF]
  refine tk 19 (.bool true) rfl (by kernel_rfl) (fun _ _ _ h => h) rfl (fun _ hS => by simp [execOp, go_sem, Act.eval, run_underlying Tryz.underlying50, run_underlying Tryz.underlying3, run_underlying Tryz.underlying4, hbb]) f2 ?_
  simp only [zzA, zzB, zzC, Act.put, zzD, zzE, zzF]
  refine wpAnyH_done (by kernel_rfl) ?_ _
  go_wp2
  go_ret
  exact ⟨rfl, by rw [hq]; exact B2⟩
set_option maxHeartbeats 2000000 in
theorem r7Check_b0 (v : Vl) (hz : 0 < siz v.t) (heq : wv v = v.n) (h1 : v.t = 1) (hn : ¬ 1 < v.n) (w : World) :
    Calls Tryz.prog 46 #[.agg v.arr] w fun e w' => e = .returned (.int .i64 (0)) ∧ Below w.heap.size w w' := by
  have fA := Va.new w v
  have bA : Below w.heap.size w (w.alloc (.cells v.arr 52)) := (Below.refl _ _).alloc (Nat.le_refl _) _
  have hI := r7Is_any v.t
  have hS7 := r7Size_any v.t
  have hk : (kind v.t != 0) = true := by
    have := siz_zero v.t
    simp
    omega
  rw [hk] at hI
  have h8 := siz_le v.t
  have hLow := fun w => r7low_any v.n (siz v.t) h8 w
  have hWide := fun x w => r7Wide_v v.t x (lowL v.n (siz v.t)) w (by rw [lowL_length]; exact h8)
  have hwv : wideN (kind v.t == 2) (lowL v.n (siz v.t)) = wv v := rfl
  rw [hwv] at hWide
  obtain ⟨W, hW⟩ : ∃ W, w.alloc (.cells v.arr 52) = W := ⟨_, rfl⟩
  obtain ⟨q, hq⟩ : ∃ q, w.heap.size = q := ⟨_, rfl⟩
  rw [hW, hq] at fA
  rw [hW] at bA
  have c0 := fA.c0
  have dz : decide ((0 : Int) < (siz v.t : Int)) = true := decide_eq_true (by omega)
  have hne : (((wv v : Nat) : Int) != (v.n : Int)) = false := by simp; omega
  have ht1 : (v.t == 1) = true := by simpa using h1
  have hbb : decide ((1 : Int) < (v.n : Int)) = false := decide_eq_false (by omega)
  clear h1 heq hn
  clear hk hwv
  generalize wv v = V at *
  generalize siz v.t = z at *
  go_enter Tryz.func46, Tryz.ntmps46
  go_upto_region 5 with (first | (go_at_call 84; refine (hI _).mono ?_; rintro e w1 ⟨rfl, rfl⟩) | (go_at_call 85; refine (hS7 _).mono ?_; rintro e w1 ⟨rfl, rfl⟩))
  refine wp_region_held (S := fun x => Va q v x) (by kernel_rfl) ?_
  obtain ⟨y, hy⟩ : ∃ y : World, { w1 with drawn := w1.drawn + 1 } = y := ⟨_, rfl⟩
  rw [hy]
  have f1 : Va q v y := by rw [← hy]; exact fA
  have B1 : Below q w y := by rw [← hy, ← hq]; exact ⟨bA.os, bA.tape, bA.output, bA.size, bA.block⟩
  clear hy hW fA bA hI hS7 c0
  refine tk 0 (.pointer (some ⟨q, 0, none⟩)) rfl (by kernel_rfl) (fun _ _ _ h => h) rfl (fun _ hS => by simp [execOp, go_sem, Act.eval]) f1 ?_
  simp only [zzA, zzB, zzC, Act.put, zzD, zzE, zzF]
  refine tk 1 (.int .i64 v.t) rfl (by kernel_rfl) (fun _ _ _ h => h) rfl (fun _ hS => exec_load rfl rfl (load_int _ q 0 _ hS.c0)) f1 ?_
  simp only [zzA, zzB, zzC, Act.put, zzD, zzE, zzF]
  refine tk 2 (.pointer (some ⟨q, 1, none⟩)) rfl (by kernel_rfl) (fun _ _ _ h => h) rfl (fun _ hS => by simp [execOp, go_sem, Act.eval]) f1 ?_
  simp only [zzA, zzB, zzC, Act.put, zzD, zzE, zzF]
  refine tk 3 (.int .u64 v.n) rfl (by kernel_rfl) (fun _ _ _ h => h) rfl (fun _ hS => exec_load rfl rfl (load_u64 _ q 1 _ hS.c1)) f1 ?_
  simp only [zzA, zzB, zzC, Act.put, zzD, zzE, zzF]
  refine tk 4 (.int .i64 z) rfl (by kernel_rfl) (fun _ _ _ h => h) rfl (fun _ hS => rfl) f1 ?_
  simp only [zzA, zzB, zzC, Act.put, zzD, zzE, zzF]
  refine tk 7 (.pointer (some ⟨q, 1, none⟩)) rfl (by kernel_rfl) (fun _ _ _ h => h) rfl (fun _ hS => by simp [execOp, go_sem, Act.eval]) f1 ?_
  simp only [zzA, zzB, zzC, Act.put, zzD, zzE, zzF]
  refine tk 8 (.int .u64 v.n) rfl (by kernel_rfl) (fun _ _ _ h => h) rfl (fun _ hS => exec_load rfl rfl (load_u64 _ q 1 _ hS.c1)) f1 ?_
  simp only [zzA, zzB, zzC, Act.put, zzD, zzE, zzF]
  refine wpAnyH_all (rs := [5]) (by kernel_rfl) (by simp) ?_
  intro k hk
  simp only [List.mem_cons, List.mem_nil_iff, or_false] at hk
  subst hk
  refine wpOp_run rfl rfl (wp_call_fn 87 #[.int .u64 v.n, .int .i64 z] (by simp [execOp, go_sem, Act.eval, resolve, invoke, enterLow]) ((hLow _).mono ?_))
  rintro e w2 ⟨x, rfl, hB2, b2⟩
  have f2 := f1.below b2
  have B2 := B1.trans (b2.mono (by have := f1.lt; omega))
  have hWd := hWide x w2 hB2
  refine ⟨f2, ?_⟩
  simp only [zzA, zzB, zzC, Act.put, zzD, zzE, zzF]
  refine wpAnyH_all (rs := [6]) (by kernel_rfl) (by simp) ?_
  intro k hk
  simp only [List.mem_cons, List.mem_nil_iff, or_false] at hk
  subst hk
  refine wpOp_run rfl rfl (wp_call_fn 86 #[.int .i64 v.t, x] (by simp [execOp, go_sem, Act.eval, resolve, invoke, enterWide]) (hWd.mono ?_))
  rintro e w2 ⟨rfl, rfl⟩
  refine ⟨f2, ?_⟩
  simp only [zzA, zzB, zzC, Act.put, zzD, zzE, zzF]
  refine tk 9 (.bool false) rfl (by kernel_rfl) (fun _ _ _ h => h) rfl (fun _ hS => by simp [execOp, go_sem, Act.eval, run_underlying Tryz.underlying50, run_underlying Tryz.underlying3, run_underlying Tryz.underlying4, hne]) f2 ?_
  simp only [zzA, zzB, zzC, Act.put, zzD, zzE, zzF]
  refine tk 10 (.bool false) rfl (by kernel_rfl) (fun _ _ _ h => h) rfl (fun _ hS => rfl) f2 ?_
  simp only [zzA, zzB, zzC, Act.put, zzD, zzE, zzF]
  refine tk 11 (.pointer (some ⟨q, 0, none⟩)) rfl (by kernel_rfl) (fun _ _ _ h => h) rfl (fun _ hS => by simp [execOp, go_sem, Act.eval]) f2 ?_
  simp only [zzA, zzB, zzC, Act.put, zzD, zzE, zzF]
  refine tk 12 (.int .i64 v.t) rfl (by kernel_rfl) (fun _ _ _ h => h) rfl (fun _ hS => exec_load rfl rfl (load_int _ q 0 _ hS.c0)) f2 ?_
  simp only [zzA, zzB, zzC, Act.put, zzD, zzE, zzF]
  refine tk 13 (.bool true) rfl (by kernel_rfl) (fun _ _ _ h => h) rfl (fun _ hS => by simp [execOp, go_sem, Act.eval, run_underlying Tryz.underlying50, run_underlying Tryz.underlying3, run_underlying Tryz.underlying4, ht1]) f2 ?_
  simp only [zzA, zzB, zzC, Act.put, zzD, zzE, zzF]
  refine tk 14 (.bool true) rfl (by kernel_rfl) (fun _ _ _ h => h) rfl (fun _ hS => rfl) f2 ?_
  simp only [zzA, zzB, zzC, Act.put, zzD, zzE, zzF]
  refine tk 15 (.pointer (some ⟨q, 1, none⟩)) rfl (by kernel_rfl) (fun _ _ _ h => h) rfl (fun _ hS => by simp [execOp, go_sem, Act.eval]) f2 ?_
  simp only [zzA, zzB, zzC, Act.put, zzD, zzE, zzF]
  refine tk 16 (.int .u64 v.n) rfl (by kernel_rfl) (fun _ _ _ h => h) rfl (fun _ hS => exec_load rfl rfl (load_u64 _ q 1 _ hS.c1)) f2 ?_
  simp only [zzA, zzB, zzC, Act.put, zzD, zzE, zzF]
  refine tk 17 (.bool false) rfl (by kernel_rfl) (fun _ _ _ h => h) rfl (fun _ hS => by simp [execOp, go_sem, Act.eval, run_underlying Tryz.underlying50, run_underlying Tryz.underlying3, run_underlying Tryz.underlying4, hbb]) f2 ?_
  simp only [zzA, zzB, zzC, Act.put, zzD, zzE, zzF]
  refine tk 18 (.bool false) rfl (by kernel_rfl) (fun _ _ _ h => h) rfl (fun _ hS => by simp [execOp, go_sem, Act.eval, run_underlying Tryz.underlying50, run_underlying Tryz.underlying3, run_underlying Tryz.underlying4, hbb]) f2 ?_
  simp only [zzA, zzB, zzC, Act.put, zzD, zzE, zzF]
  refine tk 19 (.bool false) rfl (by kernel_rfl) (fun _ _ _ h => h) rfl (fun _ hS => by simp [execOp, go_sem, Act.eval, run_underlying Tryz.underlying50, run_underlying Tryz.underlying3, run_underlying Tryz.underlying4, hbb]) f2 ?_
  simp only [zzA, zzB, zzC, Act.put, zzD, zzE, zzF]
  refine wpAnyH_done (by kernel_rfl) ?_ _
  go_wp2
  go_ret
  exact ⟨rfl, by rw [hq]; exact B2⟩
end Go.Proofs.YtahfnknbmikmkaaGreat
namespace Go.Proofs.YtahfnknbmikmkaaGreat
open Go.RowKit Go.Proofs.Ty
set_option linter.unusedVariables false
set_option maxRecDepth 1000000

theorem low_last (n k : Nat) : ((lowL n (k + 1)).getLast?.getD 0).toNat = n / 256 ^ k % 256 := by
  rw [lowL_snoc, List.getLast?_concat]
  show (UInt8.ofNat (n / 256 ^ k)).toNat = _
  rw [ofNat_toNat]
theorem wide_low (n z : Nat) (b : Nat) (h : (z = 1 ∧ b = 8) ∨ (z = 2 ∧ b = 16) ∨ (z = 4 ∧ b = 32) ∨ (z = 8 ∧ b = 64)) : wideN true (lowL n z) = extN b n := by
  rcases h with ⟨rfl, rfl⟩ | ⟨rfl, rfl⟩ | ⟨rfl, rfl⟩ | ⟨rfl, rfl⟩
  · unfold wideN extN
    rw [lowL_length, join_low, low_last n 0]
    by_cases h : n % 2 ^ 8 < 2 ^ (8 - 1)
    · rw [if_pos h, if_neg (by omega)]
    · rw [if_neg h, if_pos ⟨rfl, by omega, by omega⟩]
  · unfold wideN extN
    rw [lowL_length, join_low, low_last n 1]
    by_cases h : n % 2 ^ 16 < 2 ^ (16 - 1)
    · rw [if_pos h, if_neg (by omega)]
    · rw [if_neg h, if_pos ⟨rfl, by omega, by omega⟩]
  · unfold wideN extN
    rw [lowL_length, join_low, low_last n 3]
    by_cases h : n % 2 ^ 32 < 2 ^ (32 - 1)
    · rw [if_pos h, if_neg (by omega)]
    · rw [if_neg h, if_pos ⟨rfl, by omega, by omega⟩]
  · unfold wideN extN
    rw [lowL_length, join_low, low_last n 7]
    by_cases h : n % 2 ^ 64 < 2 ^ (64 - 1)
    · rw [if_pos h, if_neg (by omega)]
    · rw [if_neg h, if_pos ⟨rfl, by omega, by omega⟩]
theorem sz2 {t : Int} (h : kind t = 2) : (siz t = 1 ∧ wid t = 8) ∨ (siz t = 2 ∧ wid t = 16) ∨ (siz t = 4 ∧ wid t = 32) ∨ (siz t = 8 ∧ wid t = 64) := by
  unfold kind at h; unfold siz wid; (repeat' split at h) <;> (repeat' split) <;> omega
theorem sz1 {t : Int} (h : kind t = 1) (h1 : t ≠ 1) : (siz t = 1 ∧ wid t = 8) ∨ (siz t = 2 ∧ wid t = 16) ∨ (siz t = 4 ∧ wid t = 32) ∨ (siz t = 8 ∧ wid t = 64) := by
  unfold kind at h; unfold siz wid; (repeat' split at h) <;> (repeat' split) <;> omega
theorem wv_signed {v : Vl} (h : kind v.t = 2) : wv v = extN (wid v.t) v.n := by
  unfold wv
  rw [h]
  exact wide_low _ _ _ (sz2 h)
theorem wv_unsigned {v : Vl} (h : kind v.t = 1) : wv v = v.n % 256 ^ siz v.t := by
  unfold wv wideN
  rw [h, if_neg (by simp), join_low]
theorem chk_num2 {v : Vl} (h : kind v.t = 2) : v.chk = if wv v = v.n then 0 else 1 := by
  unfold Vl.chk chk
  rw [if_neg (by omega), if_pos h, wv_signed h]
theorem chk_num1 {v : Vl} (h : kind v.t = 1) (h1 : v.t ≠ 1) : v.chk = if wv v = v.n then 0 else 1 := by
  unfold Vl.chk chk
  rw [if_pos h, wv_unsigned h]
  rcases sz1 h h1 with ⟨e1, e2⟩ | ⟨e1, e2⟩ | ⟨e1, e2⟩ | ⟨e1, e2⟩ <;> rw [e1, e2] <;> rfl
theorem chk_bool {v : Vl} (h : v.t = 1) : v.chk = if wv v = v.n ∧ ¬ 1 < v.n then 0 else 1 := by
  have hk : kind v.t = 1 := by rw [h]; rfl
  have hw : wid v.t = 1 := by rw [h]; rfl
  have hs : siz v.t = 1 := by rw [h]; rfl
  unfold Vl.chk chk
  rw [if_pos hk, wv_unsigned hk, hw, hs]
  by_cases hn : v.n % 2 ^ 1 = v.n
  · rw [if_pos hn, if_pos (by omega)]
  · rw [if_neg hn, if_neg (by omega)]
theorem r7Check_num (v : Vl) (hz : 0 < siz v.t) (w : World) :
    Calls Tryz.prog 46 #[.agg v.arr] w fun e w' => e = .returned (.int .i64 v.chk) ∧ Below w.heap.size w w' := by
  have hk : kind v.t = 1 ∨ kind v.t = 2 := by
    have := siz_zero v.t
    omega
  by_cases he : wv v = v.n
  · by_cases h1 : v.t = 1
    · by_cases hn : 1 < v.n
      · have := r7Check_b1 v hz he h1 hn w
        rw [chk_bool h1, if_neg (fun h => h.2 hn)]
        exact this
      · have := r7Check_b0 v hz he h1 hn w
        rw [chk_bool h1, if_pos ⟨he, hn⟩]
        exact this
    · have := r7Check_other v hz he h1 w
      have e : v.chk = 0 := by
        rcases hk with hk | hk
        · rw [chk_num1 hk h1, if_pos he]
        · rw [chk_num2 hk, if_pos he]
      rw [e]
      exact this
  · have := r7Check_ne v hz he w
    have e : v.chk = 1 := by
      by_cases h1 : v.t = 1
      · rw [chk_bool h1, if_neg (fun h => he h.1)]
      · rcases hk with hk | hk
        · rw [chk_num1 hk h1, if_neg he]
        · rw [chk_num2 hk, if_neg he]
    rw [e]
    exact this
set_option maxHeartbeats 1000000 in
theorem r7Check_txt (v : Vl) (hz : ¬ 0 < siz v.t) (w : World) :
    Calls Tryz.prog 46 #[.agg v.arr] w fun e w' => e = .returned (.int .i64 v.chk) ∧ Below w.heap.size w w' := by
  have fA := Va.new w v
  have bA : Below w.heap.size w (w.alloc (.cells v.arr 52)) := (Below.refl _ _).alloc (Nat.le_refl _) _
  have hI := r7Is_any v.t
  have hS7 := r7Size_any v.t
  have hk := siz_zero v.t
  have hz0 : siz v.t = 0 := by omega
  rw [hz0] at hS7
  have HT := hidOf (kind_text v.t)
  have HV : Hid (v.chk = if kind v.t = 1 then (if v.n % 2 ^ wid v.t = v.n then 0 else 1)
      else if kind v.t = 2 then (if extN (wid v.t) v.n = v.n then 0 else 1)
      else if kind v.t = 0 then 1
      else if 65536 < v.s.size then 2 else if v.t = 9 ∧ prn v.s.data.toList = false then 1 else 0) := rfl
  obtain ⟨W, hW⟩ : ∃ W, w.alloc (.cells v.arr 52) = W := ⟨_, rfl⟩
  obtain ⟨q, hq⟩ : ∃ q, w.heap.size = q := ⟨_, rfl⟩
  rw [hW, hq] at fA
  rw [hW] at bA
  have bq : Below q w W := by rw [← hq]; exact bA
  have c0 := fA.c0
  have c2 := fA.c2
  have hk1 : kind v.t ≠ 1 := by omega
  have hk2 : kind v.t ≠ 2 := by omega
  generalize v.chk = C at *
  by_cases h0 : kind v.t = 0
  · have e1 := hidOf (show C = 1 by rw [HV.out]; simp [h0])
    have dk : (kind v.t != 0) = false := by simp [h0]
    rw [dk] at hI
    clear HV
    go_enter Tryz.func46, Tryz.ntmps46
    go_wp2_with (first | (go_at_call 84; refine (hI _).mono ?_; rintro e w1 ⟨rfl, rfl⟩) | (go_at_call 85; refine (hS7 _).mono ?_; rintro e w1 ⟨rfl, rfl⟩))
    go_ret
    exact ⟨ret_int (by rw [e1.out]; rfl), by first | exact bA | exact bq⟩
  · have dk : (kind v.t != 0) = true := by simp [h0]
    rw [dk] at hI
    by_cases hl : 65536 < v.s.size
    · have e1 := hidOf (show C = 2 by rw [HV.out]; simp [h0, hk1, hk2, hl])
      clear HV
      go_enter Tryz.func46, Tryz.ntmps46
      go_wp2_with (first | (go_at_call 84; refine (hI _).mono ?_; rintro e w1 ⟨rfl, rfl⟩) | (go_at_call 85; refine (hS7 _).mono ?_; rintro e w1 ⟨rfl, rfl⟩))
      go_ret
      exact ⟨ret_int (by rw [e1.out]; rfl), by first | exact bA | exact bq⟩
    · by_cases h9 : v.t = 9
      · have e1 := hidOf (show C = if prn v.s.data.toList = false then 1 else 0 by rw [HV.out, if_neg hk1, if_neg hk2, if_neg h0, if_neg hl]; simp [h9])
        clear HV HT
        generalize hs : v.s = s at *
        rw [h9] at c0 hI hS7
        go_enter Tryz.func46, Tryz.ntmps46
        go_wp2_with (first | (go_at_call 84; refine (hI _).mono ?_; rintro e w1 ⟨rfl, rfl⟩) | (go_at_call 85; refine (hS7 _).mono ?_; rintro e w1 ⟨rfl, rfl⟩))
        go_loop [4] (fun i => ∃ k : Nat, k ≤ s.size ∧ i = .int .i64 k ∧ prn (s.data.toList.take k) = true) (fun i => s.size - (intOf i).toNat)
        case atStart => exact ⟨0, Nat.zero_le _, rfl, by simp [prn]⟩
        case round =>
          obtain ⟨k, hle, rfl, hall⟩ := hrel
          by_cases hp : k < s.size
          · have dp : decide ((k : Int) < (s.size : Int)) = true := decide_eq_true (by omega)
            by_cases g1 : s[k].toNat < 32
            · have H : Hid (prn s.data.toList = false) := prn_not k hp (.inl g1)
              have d1 : decide ((s[k].toNat : Int) < 32) = true := by simp; omega
              go_wp2
              go_ret
              exact ⟨ret_int (by rw [e1.out, H.out]; rfl), by first | exact bA | exact bq⟩
            · have d1 : decide ((s[k].toNat : Int) < 32) = false := by simp; omega
              by_cases g2 : 126 < s[k].toNat
              · have H : Hid (prn s.data.toList = false) := prn_not k hp (.inr g2)
                have d2 : decide (126 < (s[k].toNat : Int)) = true := by simp; omega
                go_wp2
                go_ret
                exact ⟨ret_int (by rw [e1.out, H.out]; rfl), by first | exact bA | exact bq⟩
              · have d2 : decide (126 < (s[k].toNat : Int)) = false := by simp; omega
                have H : Hid (prn (s.data.toList.take (k + 1)) = true) := by
                  show prn _ = true
                  rw [take_snoc s k hp]; exact prn_snoc hall (by omega) (by omega)
                go_wp2
                go_round
                case rel => exact ⟨k + 1, by omega, by go_num, H.out⟩
                case measure => simp [intOf]; omega
          · have dp : decide ((k : Int) < (s.size : Int)) = false := decide_eq_false (by omega)
            go_wp2
            go_ret
            obtain rfl : k = s.size := by omega
            rw [take_all] at hall
            exact ⟨ret_int (by rw [e1.out, hall]; rfl), by first | exact bA | exact bq⟩
      · have e1 := hidOf (show C = 0 by rw [HV.out]; simp [h0, hk1, hk2, hl, h9])
        have d9 : (v.t == 9) = false := by simpa using h9
        clear HV HT
        go_enter Tryz.func46, Tryz.ntmps46
        go_wp2_with (first | (go_at_call 84; refine (hI _).mono ?_; rintro e w1 ⟨rfl, rfl⟩) | (go_at_call 85; refine (hS7 _).mono ?_; rintro e w1 ⟨rfl, rfl⟩))
        go_loop [4] (fun i => i = .int .i64 0) (fun i => 0)
        case atStart => rfl
        case round =>
          obtain rfl := hrel
          by_cases hp : 0 < v.s.size
          · have dp : decide ((0 : Int) < (v.s.size : Int)) = true := decide_eq_true (by omega)
            go_wp2
            go_ret
            exact ⟨ret_int (by rw [e1.out]; rfl), by first | exact bA | exact bq⟩
          · have dp : decide ((0 : Int) < (v.s.size : Int)) = false := decide_eq_false (by omega)
            go_wp2
            go_ret
            exact ⟨ret_int (by rw [e1.out]; rfl), by first | exact bA | exact bq⟩
theorem r7Check_v (v : Vl) (w : World) : Calls Tryz.prog 46 #[.agg v.arr] w fun e w' => e = .returned (.int .i64 v.chk) ∧ Below w.heap.size w w' := by
  by_cases hz : 0 < siz v.t
  · exact r7Check_num v hz w
  · exact r7Check_txt v hz w
end Go.Proofs.YtahfnknbmikmkaaGreat
