/- append to a row of one's own: its block is the old one, or a new one. Contracts: Save. The small living call of every statement on dictionaries answers true. -/
import Derived.Test.YtahfnknbmikmkaaGreatKa4
import Derived.Test.YtahfnknbmikmkaaGreatZs
import Derived.Test.YtahfnknbmikmkaaGreatKa9
namespace Go.Proofs.YtahfnknbmikmkaaGreat
open Go.RowKit Go.Proofs.Ty
set_option linter.unusedVariables false
set_option maxRecDepth 1000000
theorem own_base {w : World} {B : Nat} {e : TypeId} {c n : Nat} {v : Value} {xs : List Value} (h : w.ownsRow B e c v n xs) {g : Nat} (hg : v.ownBlock = some g) : B ≤ g := by
  rcases h.2 with ⟨rfl, _⟩ | ⟨g', cap, cur, rfl, hB, hcur, _⟩
  · cases hg
  · cases hg; exact hB
theorem run_append_own2 {P : Program} (w : World) (base : Nat) (t ty e : TypeId) (i : TypeInfo) (z : Value) (size bytes : Nat) (ht : P.underlying t = some (.slice e)) (hi : P.info? e = some i) (hz : i.zero = some z)
    (hsize : i.size = size) (hby : i.bytes = bytes) (hzs : z.cells.size = size) (hsz : 0 < size)
    (v : Value) (n : Nat) (xs : List Value) (hown : w.ownsRow base e size v n xs)
    (a : Addr) (m c : Nat) (news : List Value) (hl : news.length = m * size) (hnews : ∀ j u, news[j]? = some u → w.cell? (a.add j) = some u) (h1 : ∀ u ∈ news, u.oneCell' = true)
    (h63 : n + m ≤ maxLen) (hbytes : (n + m) * bytes ≤ 140737488355328) (hbase : base ≤ w.heap.size) :
    ∃ v' w', (Builtin.append_ #[t, t] ty #[v, .slice (some a) m c]).run P w = .ok v' w' ∧ w'.ownsRow base e size v' (n + m) (xs ++ news) ∧ w.grownBy w' v.ownBlock ∧
      (v' = .slice none 0 0 ↔ v = .slice none 0 0 ∧ m = 0) ∧ ∀ k, k < w.heap.size → v'.ownBlock = some k → v.ownBlock = some k := by
  obtain ⟨v', w', hr, h2, h3, h4⟩ := run_append_own (P := P) w base t ty e i z size bytes ht hi hz hsize hby hzs hsz v n xs hown a m c news hl hnews h1 h63 hbytes hbase
  refine ⟨v', w', hr, h2, h3, h4, fun k hk hv => ?_⟩
  subst hsize hby
  rcases hown.2 with ⟨rfl, rfl⟩ | ⟨g, cap, cur, rfl, hbg, hg, hnc, hcm, hcs, htake⟩
  · have hx : xs = [] := List.eq_nil_of_length_eq_zero (by simpa using hown.1)
    subst hx
    obtain ⟨v2, w2, hr2, h5, _⟩ := run_append_own (P := P) w w.heap.size t ty e i z i.size i.bytes ht hi hz rfl rfl hzs hsz _ 0 [] (World.ownsRow_nil _ _ _ _) a m c news hl hnews h1 h63 hbytes (Nat.le_refl _)
    rw [hr] at hr2
    injection hr2 with e1 e2
    subst e1 e2
    have := own_base h5 hv
    omega
  · by_cases hroom : n + m ≤ cap
    · have hfit : n * i.size + news.length ≤ cur.size := by rw [hl, hcs, ← Nat.add_mul]; exact Nat.mul_le_mul_right _ hroom
      have hr2 := run_append_room (P := P) w t ty e i ht hi g n cap cur hg a m c news hl hnews h1 hroom hfit
      rw [hr] at hr2
      injection hr2 with e1 e2
      rw [e1] at hv
      exact hv
    · have holds : ∀ j u, xs[j]? = some u → w.cell? ((⟨g, 0, none⟩ : Addr).add j) = some u := hown.cells (g := g) rfl
      have hr2 := run_append_grow (P := P) w t ty e i z ht hi hz ⟨g, 0, none⟩ n cap xs hown.1 holds a m c news hl hnews (by omega) (by simp only [maxLen] at h63; omega) (growslice_fits (by omega) hbytes)
      rw [hr] at hr2
      injection hr2 with e1 e2
      rw [e1] at hv
      injection hv with hv
      have : w.heap.size = k := hv
      omega
theorem wp_append_own2 {P : Program} (w : World) {o : Oper} {a : Act} {K : Act → World → Prop} {Q : Exit → Act → World → Prop} (s x : Operand) (t : TypeId)
    (ho : o.op = .call { callee := .builtin .append, args := #[s, x], argTypes := #[t, t] })
    (base : Nat) (e : TypeId) (i : TypeInfo) (z : Value) (size bytes : Nat) (ht : P.underlying t = some (.slice e)) (hi : P.info? e = some i) (hz : i.zero = some z)
    (hsize : i.size = size) (hby : i.bytes = bytes) (hzs : z.cells.size = size) (hsz : 0 < size)
    (v : Value) (n : Nat) (xs : List Value) (hs : a.eval s = v) (hown : w.ownsRow base e size v n xs)
    (ad : Addr) (m c : Nat) (news : List Value) (hx : a.eval x = .slice (some ad) m c) (hl : news.length = m * size) (hnews : ∀ j u, news[j]? = some u → w.cell? (ad.add j) = some u) (h1 : ∀ u ∈ news, u.oneCell' = true)
    (h63 : n + m ≤ maxLen) (hbytes : (n + m) * bytes ≤ 140737488355328) (hbase : base ≤ w.heap.size)
    (h : ∀ v' w', w'.ownsRow base e size v' (n + m) (xs ++ news) → w.grownBy w' v.ownBlock → (∀ k, k < w.heap.size → v'.ownBlock = some k → v.ownBlock = some k) → K (a.put o.dst v') w') : o.wp P a w K Q := by
  obtain ⟨v', w', hr, h2, h3, _, h5⟩ := run_append_own2 (P := P) w base t o.type e i z size bytes ht hi hz hsize hby hzs hsz v n xs hown ad m c news hl hnews h1 h63 hbytes hbase
  unfold Oper.wp execOp
  simp only [ho, resolve, invoke, builtin, Sem.run_bind, Sem.run_pure, Result.andThen_ok, List.map_toArray, List.map_cons, List.map_nil, hs, hx, hr]
  exact h v' w' h2 h3 h5
end Go.Proofs.YtahfnknbmikmkaaGreat
namespace Go.Proofs.YtahfnknbmikmkaaGreat
open Go.RowKit Go.Proofs.Ty Go.Sort Go.Lib
set_option linter.unusedVariables false
set_option maxRecDepth 1000000
set_option linter.unusedSimpArgs false
theorem ibytes_f {b : Nat} {e : En} {v : Vl} {w : World} (h : Ib b e v w) :
    Calls Tryz.prog 48 #[.pointer (some ⟨b, 0, none⟩)] w fun y w' => ∃ x, y = .returned x ∧ Bytes w' x v.enc ∧ Below w.heap.size w w' ∧ (∀ b, x.ownBlock = some b → w.heap.size ≤ b) := by
  have hE := Encode_f v w
  have r1 := h.r14
  go_enter Tryz.func48, Tryz.ntmps48
  go_wp2_with (first | (refine ldV r1 rfl _ rfl rfl ?_))
  refine hE.mono ?_
  rintro y w1 ⟨x, rfl, hB, b1, hN⟩
  obtain ⟨ao, cap, rfl⟩ := bytes_shape hB
  have HB := hidOf2 hB
  have HN := hidOf2 hN
  clear hE r1 h hB hN
  go_wp2
  go_ret
  exact ⟨_, rfl, HB.out, b1, HN.out⟩
theorem enc_len (v : Vl) : v.enc.length ≤ 65536 := by
  have hE : v.enc = if v.chk = 0 then (if 0 < siz v.t then lowL v.n (siz v.t) else v.s.data.toList) else [] := rfl
  rw [hE]
  split
  · rename_i h0
    split
    · rw [lowL_length]; have := siz_le v.t; omega
    · rename_i hz
      have hz' : siz v.t = 0 := by omega
      obtain ⟨k1, k2⟩ := (siz_zero v.t).1 hz'
      unfold Vl.chk Ty.chk at h0
      rw [if_neg k1, if_neg k2] at h0
      split at h0
      · exact absurd h0 (by decide)
      · split at h0
        · exact absurd h0 (by decide)
        · rename_i h3
          have : v.s.data.toList.length = v.s.size := by simp
          omega
  · simp
theorem bytes_same {w x : World} {v : Value} {l : List UInt8} (h : Bytes w v l) (hs : w.heap.size ≤ x.heap.size) (hb : ∀ b, v.ownBlock = some b → b < w.heap.size → x.heap[b]? = w.heap[b]?) : Bytes x v l := by
  obtain ⟨ao, cap, rfl, h0, hc⟩ := h
  refine ⟨ao, cap, rfl, h0, fun k hk => ?_⟩
  obtain ⟨b, off, ha, hlt, hcell⟩ := hc k hk
  exact ⟨b, off, ha, by omega, (World.cell?_of_block (a := ⟨b, off + k, none⟩) (hb b (by rw [ha]; rfl) hlt)).trans hcell⟩
def hd3 (e : En) : List UInt8 := [UInt8.ofNat (e.ix % 256), UInt8.ofNat (e.ix / 256), UInt8.ofNat e.sb]
theorem hd3_len (e : En) : (hd3 e).length = 3 := rfl
/-- What is saved of an item, of items. -/
def svI (i : Im) : List UInt8 := if i.e.ac = 2 then hd3 i.e ++ lowL i.v.enc.length 4 ++ i.v.enc else []
def sav (its : List Im) : List UInt8 := its.flatMap svI
theorem svI_len (i : Im) : (svI i).length ≤ 65543 := by
  unfold svI
  split
  · rw [List.length_append, List.length_append, hd3_len, lowL_length]; have := enc_len i.v; omega
  · simp
theorem sav_len (its : List Im) : (sav its).length ≤ its.length * 65543 := by
  induction its with
  | nil => simp [sav]
  | cons i r ih =>
    have : sav (i :: r) = svI i ++ sav r := by simp [sav]
    rw [this, List.length_append, List.length_cons, Nat.succ_mul]
    have := svI_len i
    omega
theorem sav_take (its : List Im) (k : Nat) : (sav (its.take k)).length ≤ its.length * 65543 := by
  refine Nat.le_trans (sav_len _) (Nat.mul_le_mul_right _ ?_)
  rw [List.length_take]; omega
theorem sav_step (its : List Im) (k : Nat) (hk : k < its.length) : sav (its.take (k + 1)) = sav (its.take k) ++ svI its[k] := by
  rw [sav, sav, List.take_succ_eq_append_getElem hk, List.flatMap_append, List.flatMap_cons, List.flatMap_nil, List.append_nil]
theorem load_u16 (x : World) (D k : Nat) (z : Int) (hc : x.cell? ⟨D, k, none⟩ = some (.int .u16 z)) : (loadVar 43 ⟨D, k, none⟩).run Tryz.prog x = .ok (.int .u16 z) x := by
  simp [go_sem, run_underlying Tryz.underlying43, hc]
theorem load_u8 (x : World) (D k : Nat) (z : Int) (hc : x.cell? ⟨D, k, none⟩ = some (.int .u8 z)) : (loadVar 5 ⟨D, k, none⟩).run Tryz.prog x = .ok (.int .u8 z) x := by
  simp [go_sem, run_underlying Tryz.underlying5, hc]
theorem wp_bs3 {o : Oper} {a : Act} {w : World} {K : Act → World → Prop} {Q : Exit → Act → World → Prop} (x y z : Operand) (ho : o.op = .buildSlice 47 3 #[(0, x), (1, y), (2, z)]) (p q r : Int) (hx : a.eval x = .int .u8 p) (hy : a.eval y = .int .u8 q) (hz : a.eval z = .int .u8 r)
    (h : K (a.put o.dst (.slice (some ⟨w.heap.size, 0, none⟩) 3 3)) (w.alloc (.cells #[.int .u8 p, .int .u8 q, .int .u8 r] 5))) : o.wp Tryz.prog a w K Q := by
  obtain ⟨i0, hi0, hz0, hz1, hz2⟩ := info_parts info5
  unfold Oper.wp execOp
  simp only [ho, List.map_toArray, List.map_cons, List.map_nil, hx, hy, hz]
  simp [Instr.buildSlice, go_sem, run_underlying Tryz.underlying47, zeroValue, sizeOf, typeInfo, hi0, hz0, hz1, Instr.fill]
  exact h
theorem wp_append_bytes {w : World} {o : Oper} {a : Act} {K : Act → World → Prop} {Q : Exit → Act → World → Prop} (s x : Operand)
    (ho : o.op = .call { callee := .builtin .append, args := #[s, x], argTypes := #[47, 47] })
    (base : Nat) (v : Value) (xs : List UInt8) (hs : a.eval s = v) (hown : w.ownsRow base 5 1 v xs.length (Lib.byteCells xs))
    (vx : Value) (l : List UInt8) (hx : a.eval x = vx) (hB : Bytes w vx l) (hbytes : xs.length + l.length ≤ 140737488355328) (hbase : base ≤ w.heap.size)
    (h : ∀ v' w', w'.ownsRow base 5 1 v' (xs ++ l).length (Lib.byteCells (xs ++ l)) → w.grownBy w' v.ownBlock → (∀ k, k < w.heap.size → v'.ownBlock = some k → v.ownBlock = some k) → K (a.put o.dst v') w') : o.wp Tryz.prog a w K Q := by
  obtain ⟨i0, hi, hz0, hz1, hz2⟩ := info_parts info5
  obtain ⟨ao, cap, rfl, h0, hc⟩ := hB
  cases ao with
  | none =>
    obtain ⟨rfl, rfl⟩ := h0 rfl
    have hrun := run_append_owned_none (P := Tryz.prog) (w := w) base 47 o.type 5 i0 1 Tryz.underlying47 hi v xs.length (Lib.byteCells xs) hown
    unfold Oper.wp
    simp only [List.length_nil] at hx
    simp [execOp, ho, resolve, invoke, builtin, hs, hx, hrun, Result.andThen]
    refine h _ _ ?_ (grown_refl _ _) (fun _ _ e => e)
    simpa using hown
  | some ad =>
    refine wp_append_own2 w s x 47 ho base 5 i0 (.int .u8 0) 1 1 Tryz.underlying47 hi hz0 hz1 hz2 rfl (by decide) v xs.length (Lib.byteCells xs) hs hown ad l.length cap (Lib.byteCells l) hx (by simp [Lib.byteCells_length]) ?_ (byteCells_one l) (by unfold maxLen; omega) (by omega) hbase ?_
    · intro j u hj
      have hlt : j < l.length := by
        have := (List.getElem?_eq_some_iff.1 hj).1
        rwa [Lib.byteCells_length] at this
      obtain ⟨b, off, ha, _, hcell⟩ := hc j hlt
      simp at ha
      subst ha
      rw [add_off, hcell]
      simp [Lib.byteCells, hlt] at hj
      rw [hj]
    · intro v' w' h1 h2 h5
      refine h v' w' ?_ h2 h5
      rw [List.length_append, Lib.byteCells_append]
      exact h1
theorem bytes3 (w : World) (e : En) : Bytes (w.alloc (.cells #[.int .u8 ((e.ix : Int) % 256), .int .u8 ((e.ix : Int) / 256), .int .u8 (e.sb : Int)] 5)) (.slice (some ⟨w.heap.size, 0, none⟩) 3 3) (hd3 e) := by
  refine ⟨some ⟨w.heap.size, 0, none⟩, 3, rfl, (fun h => by cases h), fun k hk => ⟨w.heap.size, 0, rfl, by rw [size_alloc]; omega, ?_⟩⟩
  rw [Lib.cell_of_heap (heap_alloc_new w _)]
  have h1 := e.hix
  have h2 := e.hsb
  rw [hd3_len] at hk
  match k, hk with
  | 0, _ => simp [hd3, ofNat_toNat]
  | 1, _ => simp [hd3, ofNat_toNat]; omega
  | 2, _ => simp [hd3, ofNat_toNat]; omega
theorem own_drew {w : World} {B : Nat} {e : TypeId} {c n : Nat} {v : Value} {xs : List Value} (h : w.ownsRow B e c v n xs) : w.drew.ownsRow B e c v n xs := h
theorem own_nil (w : World) (B : Nat) : w.ownsRow B 5 1 (.slice none 0 0) ([] : List UInt8).length (Lib.byteCells []) := ⟨rfl, .inl ⟨rfl, rfl⟩⟩
theorem own_below5 {w x : World} {B : Nat} {e : TypeId} {c n : Nat} {v : Value} {xs : List Value} (h : w.ownsRow B e c v n xs) (hb : Below w.heap.size w x) : x.ownsRow B e c v n xs := by
  refine ⟨h.1, h.2.imp id ?_⟩
  rintro ⟨g, cap, cur, e1, e2, e3, e4⟩
  exact ⟨g, cap, cur, e1, e2, (hb.block g (Array.getElem?_eq_some_iff.1 e3).1).trans e3, e4⟩
theorem own_block_lt {w : World} {B : Nat} {e : TypeId} {c n : Nat} {v : Value} {xs : List Value} (h : w.ownsRow B e c v n xs) : ∀ b, v.ownBlock = some b → b < w.heap.size := by
  intro b hb
  rcases h.2 with ⟨rfl, _⟩ | ⟨g, cap, cur, rfl, _, hg, _⟩
  · cases hb
  · cases hb; exact (Array.getElem?_eq_some_iff.1 hg).1
theorem wrap8 (z : Int) : IntKind.u8.wrap z = z % 256 := by simp [IntKind.wrap, IntKind.bits, IntKind.signed]
theorem bytes_lt {w : World} {v : Value} {l : List UInt8} (h : Bytes w v l) (hl : l ≠ []) : ∀ b, v.ownBlock = some b → b < w.heap.size := by
  obtain ⟨ao, cap, rfl, h0, hc⟩ := h
  intro b hb
  obtain ⟨b', off, ha, hlt, _⟩ := hc 0 (List.length_pos_iff.2 hl)
  subst ha
  cases hb; exact hlt
theorem bytes_keep {w x : World} {v s : Value} {l : List UInt8} (h : Bytes w v l) (hne : l ≠ [] → ∀ b, v.ownBlock = some b → s.ownBlock ≠ some b) (G : w.grownBy x s.ownBlock) : Bytes x v l := by
  by_cases hl : l = []
  · subst hl
    obtain ⟨ao, cap, rfl, h0, hc⟩ := h
    exact ⟨ao, cap, rfl, h0, fun k hk => by simp at hk⟩
  · exact bytes_same h G.size (fun b hb hlt => G.block b hlt (fun e => hne hl b hb e.symm))
theorem ne_keep {w : World} {v s s' : Value} {l : List UInt8} (h : Bytes w v l) (hne : l ≠ [] → ∀ b, v.ownBlock = some b → s.ownBlock ≠ some b) (H : ∀ k, k < w.heap.size → s'.ownBlock = some k → s.ownBlock = some k) : l ≠ [] → ∀ b, v.ownBlock = some b → s'.ownBlock ≠ some b :=
  fun hl b hb e => hne hl b hb (H b (bytes_lt h hl b hb) e)
/-- append of bytes, guarded or not. -/
theorem append_bytes2 {w : World} {ops : Array Oper} {rest : List Oper} {o : Oper} {a : Act} {Q : Exit → Act → World → Prop} (hgd : Region.wanted o (yielded ops a.tmps) = true) (s x : Operand)
    (ho : o.op = .call { callee := .builtin .append, args := #[s, x], argTypes := #[47, 47] })
    (base : Nat) (v : Value) (xs : List UInt8) (hs : a.eval s = v) (hown : w.ownsRow base 5 1 v xs.length (Lib.byteCells xs))
    (vx : Value) (l : List UInt8) (hx : a.eval x = vx) (hB : Bytes w vx l) (hbytes : xs.length + l.length ≤ 140737488355328) (hbase : base ≤ w.heap.size)
    (h : ∀ v' w', w'.ownsRow base 5 1 v' (xs ++ l).length (Lib.byteCells (xs ++ l)) → w.grownBy w' v.ownBlock → (∀ k, k < w.heap.size → v'.ownBlock = some k → v.ownBlock = some k) → wpList Tryz.prog ops Q rest (a.put o.dst v') w') : wpList Tryz.prog ops Q (o :: rest) a w :=
  BigFrame.wpList_want hgd fun _ hK => wp_append_bytes s x ho base v xs hs hown vx l hx hB hbytes hbase fun v' w' h1 h2 h3 => hK _ _ (h v' w' h1 h2 h3)
theorem bytes1 (w : World) (c : UInt8) : Bytes (w.alloc (.cells #[.int .u8 c.toNat] 5)) (.slice (some ⟨w.heap.size, 0, none⟩) 1 1) [c] := by
  refine ⟨some ⟨w.heap.size, 0, none⟩, 1, rfl, (fun h => by cases h), fun k hk => ⟨w.heap.size, 0, rfl, by rw [size_alloc]; omega, ?_⟩⟩
  rw [Lib.cell_of_heap (heap_alloc_new w _)]
  match k, hk with
  | 0, _ => simp
set_option maxHeartbeats 8000000 in
theorem Save_any {D R : Nat} {its : List Im} {w : World} (h : Dct D R its w) :
    Calls Tryz.prog 25 #[.pointer (some ⟨D, 0, none⟩)] w fun e w' => ∃ x, e = .returned x ∧ w'.ownsRow w.heap.size 5 1 x (sav its).length (Lib.byteCells (sav its)) ∧ Below w.heap.size w w' := by
  have hcell := h.cell
  have hlen := h.len
  have HD := hidOf2 h
  have HN := hidOf2 (own_nil w w.heap.size)
  clear h
  go_enter Tryz.func25, Tryz.ntmps25
  go_wp2
  go_loopw [3, 13] (fun s3 s13 x => ∃ k : Nat, k ≤ its.length ∧ s13 = .int .i64 k ∧ (∃ ao cap, s3 = .slice ao (sav (its.take k)).length cap) ∧ Hid (x.ownsRow w.heap.size 5 1 s3 (sav (its.take k)).length (Lib.byteCells (sav (its.take k)))) ∧ Hid (Below w.heap.size w x)) (fun _ s13 _ => its.length - (intOf s13).toNat)
  case atStart => exact ⟨0, Nat.zero_le _, rfl, ⟨_, _, rfl⟩, HN, Below.refl _ _⟩
  case round =>
    clear HN
    obtain ⟨k, hk, rfl, ⟨ao, cap, rfl⟩, HO, HB⟩ := hrel
    by_cases hkl : k < its.length
    · have hi := List.getElem_mem hkl
      have hD3 := HD.out.below HB.out
      have hcl := hD3.at k hkl
      have hI := hD3.items _ hi
      have HS := hidOf2 (sav_step its k hkl)
      generalize its[k] = i at *
      unfold ptrI at hcl
      obtain ⟨c0, c1, c2, _⟩ := hI.c
      have hY := ibytes_f hI
      by_cases ha : i.e.ac = 2
      · rw [ha] at c2
        have HS2 := hidOf2 (HS.out.trans (by rw [svI, if_pos ha]))
        clear HS hD3
        go_wp2_with fail
        refine hY.mono ?_
        rintro y w4 ⟨raw, rfl, hraw, b4, hnew⟩
        obtain ⟨aor, capr, rfl⟩ := bytes_shape hraw
        have HR4 := hidOf2 hraw
        have HNE : Hid (i.v.enc ≠ [] → ∀ b, (Value.slice aor i.v.enc.length capr).ownBlock = some b → (Value.slice ao (sav (its.take k)).length cap).ownBlock ≠ some b) := fun _ b hb hb2 => by have h1 := hnew b hb; have h2 := own_block_lt HO.out b hb2; omega
        have HB4 := hidOf2 (HB.out.trans (b4.mono HB.out.size))
        have HO4 := hidOf2 (own_below5 HO.out b4)
        have S4 : w4.drew.cell? ⟨i.b, 0, none⟩ = some (.int .u16 i.e.ix) ∧ w4.drew.cell? ⟨i.b, 1, none⟩ = some (.int .u8 i.e.sb) := ⟨(hI.below b4).c.1, (hI.below b4).c.2.1⟩
        have HSS : Hid (∀ x, Below w4.heap.size w4 x → x.cell? ⟨i.b, 0, none⟩ = some (.int .u16 i.e.ix) ∧ x.cell? ⟨i.b, 1, none⟩ = some (.int .u8 i.e.sb)) := fun x hb => ⟨((hI.below b4).below hb).c.1, ((hI.below b4).below hb).c.2.1⟩
        clear hY hraw hnew HB HO b4 hI c0 c1 c2 hcl
        rename Hid (World.ownsRow w4 _ _ _ _ _ _) => HO
        obtain ⟨v3, hv3⟩ : ∃ v3, Value.slice ao (sav (its.take k)).length cap = v3 := ⟨_, rfl⟩
        rw [hv3] at HO HNE
        have hix := i.e.hix
        have hsb := i.e.hsb
        go_upto_region 7 with fail
        try rw [hv3]
        refine wp_region_held (S := fun x => x.cell? ⟨i.b, 0, none⟩ = some (.int .u16 i.e.ix) ∧ x.cell? ⟨i.b, 1, none⟩ = some (.int .u8 i.e.sb)) (by kernel_rfl) ?_
        change wpAnyH _ _ _ _ _ _ _ _ w4.drew
        refine tk 0 (v3) rfl (by kernel_rfl) (fun _ _ _ h => h) rfl (fun _ hS => rfl) S4 ?_
        simp only [zzA, zzB, zzC, Act.put, zzD, zzE, zzF]
        refine tk 1 (.pointer (some ⟨i.b, 0, none⟩)) rfl (by kernel_rfl) (fun _ _ _ h => h) rfl (fun _ hS => rfl) S4 ?_
        simp only [zzA, zzB, zzC, Act.put, zzD, zzE, zzF]
        refine tk 2 (.pointer (some ⟨i.b, 0, none⟩)) rfl (by kernel_rfl) (fun _ _ _ h => h) rfl (fun _ hS => by simp [execOp, go_sem, Act.eval]) S4 ?_
        simp only [zzA, zzB, zzC, Act.put, zzD, zzE, zzF]
        refine tk 3 (.pointer (some ⟨i.b, 0, none⟩)) rfl (by kernel_rfl) (fun _ _ _ h => h) rfl (fun _ hS => by simp [execOp, go_sem, Act.eval]) S4 ?_
        simp only [zzA, zzB, zzC, Act.put, zzD, zzE, zzF]
        refine tk 4 (.pointer (some ⟨i.b, 0, none⟩)) rfl (by kernel_rfl) (fun _ _ _ h => h) rfl (fun _ hS => by simp [execOp, go_sem, Act.eval]) S4 ?_
        simp only [zzA, zzB, zzC, Act.put, zzD, zzE, zzF]
        refine tk 5 (.int .u16 i.e.ix) rfl (by kernel_rfl) (fun _ _ _ h => h) rfl (fun _ hS => exec_load rfl rfl (load_u16 _ _ _ _ hS.1)) S4 ?_
        simp only [zzA, zzB, zzC, Act.put, zzD, zzE, zzF]
        refine tk 6 (.int .u8 ((i.e.ix : Int) % 256)) rfl (by kernel_rfl) (fun _ _ _ h => h) rfl (fun _ hS => by simp [execOp, go_sem, Act.eval, wrap8] <;> omega) S4 ?_
        simp only [zzA, zzB, zzC, Act.put, zzD, zzE, zzF]
        refine tk 7 (.pointer (some ⟨i.b, 0, none⟩)) rfl (by kernel_rfl) (fun _ _ _ h => h) rfl (fun _ hS => rfl) S4 ?_
        simp only [zzA, zzB, zzC, Act.put, zzD, zzE, zzF]
        refine tk 8 (.pointer (some ⟨i.b, 0, none⟩)) rfl (by kernel_rfl) (fun _ _ _ h => h) rfl (fun _ hS => by simp [execOp, go_sem, Act.eval]) S4 ?_
        simp only [zzA, zzB, zzC, Act.put, zzD, zzE, zzF]
        refine tk 9 (.pointer (some ⟨i.b, 0, none⟩)) rfl (by kernel_rfl) (fun _ _ _ h => h) rfl (fun _ hS => by simp [execOp, go_sem, Act.eval]) S4 ?_
        simp only [zzA, zzB, zzC, Act.put, zzD, zzE, zzF]
        refine tk 10 (.pointer (some ⟨i.b, 0, none⟩)) rfl (by kernel_rfl) (fun _ _ _ h => h) rfl (fun _ hS => by simp [execOp, go_sem, Act.eval]) S4 ?_
        simp only [zzA, zzB, zzC, Act.put, zzD, zzE, zzF]
        refine tk 11 (.int .u16 i.e.ix) rfl (by kernel_rfl) (fun _ _ _ h => h) rfl (fun _ hS => exec_load rfl rfl (load_u16 _ _ _ _ hS.1)) S4 ?_
        simp only [zzA, zzB, zzC, Act.put, zzD, zzE, zzF]
        refine tk 12 (.int .u16 ((i.e.ix : Int) / 256)) rfl (by kernel_rfl) (fun _ _ _ h => h) rfl (fun _ hS => by simp [execOp, go_sem, Act.eval, wrap8] <;> omega) S4 ?_
        simp only [zzA, zzB, zzC, Act.put, zzD, zzE, zzF]
        refine tk 13 (.int .u8 ((i.e.ix : Int) / 256)) rfl (by kernel_rfl) (fun _ _ _ h => h) rfl (fun _ hS => by simp [execOp, go_sem, Act.eval, wrap8] <;> omega) S4 ?_
        simp only [zzA, zzB, zzC, Act.put, zzD, zzE, zzF]
        refine tk 14 (.pointer (some ⟨i.b, 0, none⟩)) rfl (by kernel_rfl) (fun _ _ _ h => h) rfl (fun _ hS => rfl) S4 ?_
        simp only [zzA, zzB, zzC, Act.put, zzD, zzE, zzF]
        refine tk 15 (.pointer (some ⟨i.b, 0, none⟩)) rfl (by kernel_rfl) (fun _ _ _ h => h) rfl (fun _ hS => by simp [execOp, go_sem, Act.eval]) S4 ?_
        simp only [zzA, zzB, zzC, Act.put, zzD, zzE, zzF]
        refine tk 16 (.pointer (some ⟨i.b, 0, none⟩)) rfl (by kernel_rfl) (fun _ _ _ h => h) rfl (fun _ hS => by simp [execOp, go_sem, Act.eval]) S4 ?_
        simp only [zzA, zzB, zzC, Act.put, zzD, zzE, zzF]
        refine tk 17 (.pointer (some ⟨i.b, 1, none⟩)) rfl (by kernel_rfl) (fun _ _ _ h => h) rfl (fun _ hS => by simp [execOp, go_sem, Act.eval]) S4 ?_
        simp only [zzA, zzB, zzC, Act.put, zzD, zzE, zzF]
        refine tk 18 (.int .u8 i.e.sb) rfl (by kernel_rfl) (fun _ _ _ h => h) rfl (fun _ hS => exec_load rfl rfl (load_u8 _ _ _ _ hS.2)) S4 ?_
        simp only [zzA, zzB, zzC, Act.put, zzD, zzE, zzF]
        refine wpAnyH_all (rs := [19]) (by kernel_rfl) (by simp) ?_
        intro k hk
        simp only [List.mem_cons, List.mem_nil_iff, or_false] at hk
        subst hk
        refine wpOp_run rfl rfl (wp_bs3 _ _ _ rfl _ _ _ rfl rfl rfl ?_)
        have b5 : Below w4.heap.size w4 (w4.drew.alloc (.cells #[.int .u8 ((i.e.ix : Int) % 256), .int .u8 ((i.e.ix : Int) / 256), .int .u8 (i.e.sb : Int)] 5)) := (bdr (Below.refl _ _) 1).alloc (Nat.le_refl _) _
        have s5 : (w4.drew.alloc (.cells #[.int .u8 ((i.e.ix : Int) % 256), .int .u8 ((i.e.ix : Int) / 256), .int .u8 (i.e.sb : Int)] 5)).cell? ⟨i.b, 0, none⟩ = some (.int .u16 i.e.ix) ∧ (w4.drew.alloc (.cells #[.int .u8 ((i.e.ix : Int) % 256), .int .u8 ((i.e.ix : Int) / 256), .int .u8 (i.e.sb : Int)] 5)).cell? ⟨i.b, 1, none⟩ = some (.int .u8 i.e.sb) := HSS.out _ b5
        refine ⟨s5, ?_⟩
        simp only [zzA, zzB, zzC, Act.put, zzD, zzE, zzF]
        refine wpAnyH_all (rs := [20]) (by kernel_rfl) (by simp) ?_
        intro k hk
        simp only [List.mem_cons, List.mem_nil_iff, or_false] at hk
        subst hk
        refine wpOp_run rfl rfl (wp_append_bytes _ _ rfl w.heap.size v3 (sav (its.take k)) rfl (ownsRow_alloc (own_drew HO.out) _) _ (hd3 i.e) rfl (bytes3 w4.drew i.e) (by rw [hd3_len]; have := sav_take its k; have := hlen; omega) (by have := HB4.out.size; have hh : w4.drew.heap.size = w4.heap.size := rfl; rw [size_alloc]; omega) ?_)
        intro v6 w6 P6 G6 H6
        have b6 : Below w.heap.size w w6 := (HB4.out.trans (b5.mono HB4.out.size)).grown G6 (Nat.le_trans HB4.out.size b5.size) (fun j hj => own_lt HO.out j hj)
        have s6 : w6.cell? ⟨i.b, 0, none⟩ = some (.int .u16 i.e.ix) ∧ w6.cell? ⟨i.b, 1, none⟩ = some (.int .u8 i.e.sb) := ⟨(HD.out.below b6).items i hi |>.c.1, (HD.out.below b6).items i hi |>.c.2.1⟩
        refine ⟨s6, ?_⟩
        simp only [zzA, zzB, zzC, Act.put, zzD, zzE, zzF]
        refine tk 21 (v6) rfl (by kernel_rfl) (fun _ _ _ h => h) rfl (fun _ hS => rfl) s6 ?_
        simp only [zzA, zzB, zzC, Act.put, zzD, zzE, zzF]
        refine wpAnyH_done (by kernel_rfl) ?_ _
        have HR5 := HR4.out.below b5
        have HRW := hidOf2 (bytes_keep HR5 HNE.out G6)
        have HN6 := hidOf2 (ne_keep HR5 HNE.out H6)
        have HS6 := hidOf2 (own_shape5 P6)
        have HO6 := hidOf2 P6
        have HB6 := hidOf2 b6
        clear s5 s6 G6 b5 b6 P6 HO HB4 HR4 HSS HNE HR5 H6 S4
        generalize w4.drew.heap.size = qz at *
        go_wp2
        have hpre := sav_take its k
        have henc := enc_len i.v
        have HPX := hidOf2 (show (sav (its.take k) ++ hd3 i.e ++ lowL i.v.enc.length 0) = sav (its.take k) ++ hd3 i.e by simp [lowL])
        go_loopw [3, 46] (fun s3 s46 x => ∃ j : Nat, j ≤ 4 ∧ s46 = .int .i64 j ∧ (∃ ao cap, s3 = .slice ao (sav (its.take k) ++ hd3 i.e ++ lowL i.v.enc.length j).length cap) ∧ Hid (x.ownsRow w.heap.size 5 1 s3 (sav (its.take k) ++ hd3 i.e ++ lowL i.v.enc.length j).length (Lib.byteCells (sav (its.take k) ++ hd3 i.e ++ lowL i.v.enc.length j))) ∧ Hid (Below w.heap.size w x) ∧ Hid (Bytes x (.slice aor i.v.enc.length capr) i.v.enc) ∧ Hid (i.v.enc ≠ [] → ∀ b, (Value.slice aor i.v.enc.length capr).ownBlock = some b → s3.ownBlock ≠ some b)) (fun _ s46 _ => 4 - (intOf s46).toNat)
        case atStart => exact ⟨0, by omega, rfl, by rw [HPX.out]; exact HS6.out, by rw [HPX.out]; exact HO6, HB6, HRW, HN6⟩
        case round =>
          clear HO6 HB6 HRW HN6 HPX
          obtain ⟨j, hj, rfl, ⟨ao7, cp7, rfl⟩, HO7, HB7, HR7, HN7⟩ := hrel
          by_cases hj4 : j < 4
          · have hsn := hidOf2 (lowL_snoc i.v.enc.length j)
            have hby := byte_at i.v.enc.length j
            generalize UInt8.ofNat (i.v.enc.length / 256 ^ j) = c at *
            have hw1 := bytes1 wr c
            have ho1 := ownsRow_alloc HO7.out (.cells #[.int .u8 c.toNat] 5)
            have hl1 : (sav (its.take k) ++ hd3 i.e ++ lowL i.v.enc.length j).length + [c].length ≤ 140737488355328 := by rw [List.length_append, List.length_append, hd3_len, lowL_length]; simp; omega
            have hb1 : w.heap.size ≤ (wr.alloc (.cells #[.int .u8 c.toNat] 5)).heap.size := by rw [size_alloc]; have := HB7.out.size; omega
            have bA : Below wr.heap.size wr (wr.alloc (.cells #[.int .u8 c.toNat] 5)) := (Below.refl _ _).alloc (Nat.le_refl _) _
            go_wp2_with (first | (refine append_bytes2 rfl _ _ rfl w.heap.size _ _ rfl ho1 _ _ rfl hw1 hl1 hb1 ?_; intro v8 w8 P8 G8 H8))
            have he := hidOf2 (show sav (its.take k) ++ hd3 i.e ++ lowL i.v.enc.length (j + 1) = sav (its.take k) ++ hd3 i.e ++ lowL i.v.enc.length j ++ [c] by rw [hsn.out]; simp only [List.append_assoc])
            have HP8 := hidOf2 P8
            have HB8 := hidOf2 ((HB7.out.trans (bA.mono HB7.out.size)).grown G8 hb1 (fun j hj => own_lt HO7.out j hj))
            have HR8 := hidOf2 (bytes_keep (HR7.out.below bA) HN7.out G8)
            have HN8 := hidOf2 (ne_keep (HR7.out.below bA) HN7.out H8)
            have HS8 := hidOf2 (own_shape5 P8)
            clear P8 G8 H8 HO7 HB7 HR7 HN7 ho1 hw1 bA hl1 hb1
            go_roundw
            case rel => exact ⟨j + 1, by omega, by go_num, by rw [he.out]; exact HS8.out, by rw [he.out]; exact HP8, HB8, HR8, HN8⟩
            case measure => simp [intOf]; omega
          · have hj5 : j = 4 := by omega
            subst hj5
            have ho1 := HO7.out
            have hw1 := HR7.out
            have hl1 : (sav (its.take k) ++ hd3 i.e ++ lowL i.v.enc.length 4).length + i.v.enc.length ≤ 140737488355328 := by rw [List.length_append, List.length_append, hd3_len, lowL_length]; omega
            have hb1 := HB7.out.size
            go_wp2_with (first | (refine append_bytes2 rfl _ _ rfl w.heap.size _ _ rfl ho1 _ _ rfl hw1 hl1 hb1 ?_; intro v8 w8 P8 G8 H8))
            have he := hidOf2 (show sav (its.take (k + 1)) = sav (its.take k) ++ hd3 i.e ++ lowL i.v.enc.length 4 ++ i.v.enc by rw [HS2.out]; simp only [List.append_assoc])
            have HP8 := hidOf2 P8
            have HB8 := hidOf2 (HB7.out.grown G8 hb1 (fun j hj => own_lt HO7.out j hj))
            have HS8 := hidOf2 (own_shape5 P8)
            clear P8 G8 H8 HO7 HB7 HR7 HN7 ho1 hw1 hl1 hb1
            go_roundw
            case rel => exact ⟨k + 1, by omega, by go_num, by rw [he.out]; exact HS8.out, by rw [he.out]; exact HP8, HB8⟩
            case measure => simp [intOf]; omega
      · have d1 : (i.e.ac == 2) = false := by simpa using ha
        have HS2 := hidOf2 (HS.out.trans (by rw [svI, if_neg ha, List.append_nil]))
        generalize i.e.ac = A at *
        clear HS hY hI hD3
        go_wp2
        go_roundw
        case rel => exact ⟨k + 1, by omega, by go_num, by rw [HS2.out]; exact ⟨_, _, rfl⟩, by rw [HS2.out]; exact HO, HB⟩
        case measure => simp [intOf]; omega
    · have e1 : k = its.length := by omega
      subst e1
      rw [List.take_length] at HO
      have HO2 := hidOf2 HO.out
      clear HO
      rw [List.take_length]
      go_wp2
      go_ret
      exact ⟨_, rfl, HO2.out, HB.out⟩
end Go.Proofs.YtahfnknbmikmkaaGreat
namespace Go.Proofs.YtahfnknbmikmkaaGreat
open Go.RowKit Go.Proofs.Ty Go.Sort Go.Lib
set_option linter.unusedVariables false
set_option maxRecDepth 1000000
set_option linter.unusedSimpArgs false
def DE : Dec En := ⟨enC, 14, by decide, fun _ => rfl, fun e u hu => e.one u hu⟩
def u1 : Vl := ⟨5, 1, ⟨#[]⟩, by decide, by decide, by decide⟩
def u5 : Vl := ⟨5, 5, ⟨#[]⟩, by decide, by decide, by decide⟩
def e0 : En := ⟨8192, 0, 2, false, true, u1, u5, u1, by decide, by decide, by decide⟩
theorem infoEz : (Tryz.prog.info? 93).map (fun i => (i.zero, i.size, i.bytes)) = some (some (.agg #[.int .u16 0, .int .u8 0, .int .i64 0, .bool false, .bool false, .int .i64 0, .int .u64 0, .string ⟨#[]⟩, .int .i64 0, .int .u64 0, .string ⟨#[]⟩, .int .i64 0, .int .u64 0, .string ⟨#[]⟩]), 14, 120) := by kernel_rfl
section
variable (b : Nat) (v : Vl)
end
end Go.Proofs.YtahfnknbmikmkaaGreat
