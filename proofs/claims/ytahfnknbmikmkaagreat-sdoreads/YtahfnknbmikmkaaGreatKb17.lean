/- Contracts: the document's May. Contracts: the document's Write. Contracts: the document's Write. Contracts: the document's Set. Contracts: the document's Encode, whose bytes are new. Contracts: the document's Save. Steps of the statement OdOrder: texts made of bytes, entries held against each other. -/
import Derived.Test.YtahfnknbmikmkaaGreatKb16
import Derived.Test.YtahfnknbmikmkaaGreatZs
import Derived.Test.YtahfnknbmikmkaaGreatKb11
import Derived.Test.YtahfnknbmikmkaaGreatKb15
namespace Go.Proofs.YtahfnknbmikmkaaGreat
open Go.RowKit Go.Proofs.Ty Go.Sort Go.Lib
set_option linter.unusedVariables false
set_option maxRecDepth 1000000
set_option linter.unusedSimpArgs false
theorem chk_kind {v : Vl} (h : v.chk = 0) : kind v.t ≠ 0 := by
  intro e
  have : v.chk = 1 := by unfold Vl.chk chk; simp [e]
  omega
theorem dec_cases {t : Int} (h : kind t ≠ 0) (l : List UInt8) : decE t l = 0 ∨ decE t l = 2 ∨ decE t l = 3 ∨ decE t l = 8 := by
  unfold decE
  by_cases hf : fitE t l.length ≠ 0
  · rw [if_pos hf]
    unfold fitE at hf ⊢
    rw [if_neg h] at hf ⊢
    (repeat' split) <;> simp
  · rw [if_neg hf]
    split <;> simp
set_option maxHeartbeats 8000000 in
theorem QMay_any {E : Nat} {its : List Im} {vL vV : Value} {w : World} (h : Rd E (its.map Im.e) vL (its.map Im.v) vV w) (hl : its.length ≤ 1024) (hok : ∀ i ∈ its, Ok i) (ix sb : Nat) (vb : Value) (l : List UInt8) (hB : Bytes w vb l) :
    Calls Tryz.prog 28 #[.pointer (some ⟨E, 0, none⟩), .int .u16 ix, .int .u8 sb, vb] w fun e w' => e = .returned (.int .u32 (wc its ix sb l)) ∧ Below w.heap.size w w' := by
  have hF := QFind_any h (by simpa using hl) ix sb
  have HC : Hid (wc its ix sb l = match fnd its ix sb with
    | none => noc its ix
    | some i => wcode i l) := rfl
  generalize wc its ix sb l = C at *
  obtain ⟨ao, cap, rfl⟩ := bytes_shape hB
  cases hf : fnd its ix sb with
  | none =>
    rw [hf] at HC
    obtain ⟨f1, f2⟩ := fi_none hf
    rw [f1, f2] at hF
    have d1 : ((noc its ix : Int) != 0) = true := by have := noc_ne its ix; simp; omega
    generalize noc its ix = N at *
    clear h hf f1 f2 hB
    go_enter Tryz.func28, Tryz.ntmps28
    go_wp2_with fail
    refine hF.mono ?_
    rintro e w1 ⟨rfl, rfl⟩
    clear hF
    go_wp2
    go_ret
    exact ⟨ret_int (by rw [HC.out]), Below.refl _ _⟩
  | some i =>
    rw [hf] at HC
    have hO := hok i (fnd_mem hf)
    obtain ⟨k, hk, e1, f1, f2⟩ := fi_some hf
    obtain ⟨c0, c1⟩ := h.c
    obtain ⟨lb, lo, cL, vb, vo, cV, rfl, rfl, hlb, hvb, rL, rV⟩ := h.atI hk
    rw [e1] at rL
    rw [f1, f2] at hF
    have HD := hidOf2 (dec_cases (chk_kind hO.df) l)
    have HW := hidOf2 (fun hE hl => bey_wi hO (l := l) hE hl)
    have HBY : Hid (bey i.e (decW i.e.df.t l) = if i.e.li = false then 0 else if 0 < ordN (decW i.e.df.t l) i.e.mx then 101253169 else if ordN (decW i.e.df.t l) i.e.mn < 0 then 101253170 else 0) := rfl
    have HWC : Hid (wcode i l = if i.e.ac ≠ 1 ∧ i.e.ac ≠ 2 then 100728834 else if decE i.e.df.t l = 0 then bey i.e (decW i.e.df.t l) else if decE i.e.df.t l = 3 then 101122067 else if decE i.e.df.t l = 2 then 101122066 else 101253168) := rfl
    have HC2 := hidOf2 (HC.out.trans HWC.out)
    clear h hf e1 f1 f2 rV hO hok HC HWC hvb
    generalize its.length = n at *
    obtain ⟨q, hq⟩ : ∃ q, w.heap.size = q := ⟨_, rfl⟩
    have hh : (w.alloc (.cells #[.int .u16 0, .int .u8 0, .int .i64 0, .bool false, .bool false, .int .i64 0, .int .u64 0, .string ⟨#[]⟩, .int .i64 0, .int .u64 0, .string ⟨#[]⟩, .int .i64 0, .int .u64 0, .string ⟨#[]⟩] 93)).heap[q]? = some (.cells #[.int .u16 0, .int .u8 0, .int .i64 0, .bool false, .bool false, .int .i64 0, .int .u64 0, .string ⟨#[]⟩, .int .i64 0, .int .u64 0, .string ⟨#[]⟩, .int .i64 0, .int .u64 0, .string ⟨#[]⟩] 93 (0, 0)) := by rw [← hq]; exact heap_alloc_new _ _
    have hE := Eb.row hh i.e
    have bA : Below w.heap.size w (w.alloc (.cells #[.int .u16 0, .int .u8 0, .int .i64 0, .bool false, .bool false, .int .i64 0, .int .u64 0, .string ⟨#[]⟩, .int .i64 0, .int .u64 0, .string ⟨#[]⟩, .int .i64 0, .int .u64 0, .string ⟨#[]⟩] 93)) := (Below.refl _ _).alloc (Nat.le_refl _) _
    have bB := below_row bA (by omega) bA.size (q := q) i.e.arr
    have hB1 := hB.below bB
    clear bA hB
    go_enter Tryz.func28, Tryz.ntmps28
    go_wp2_with fail
    refine hF.mono ?_
    rintro e w1 ⟨rfl, rfl⟩
    clear hF
    go_upto_region 5 with (first | (refine ldE rL rfl _ rfl rfl ?_) | (refine sdE hh rfl i.e rfl _ _ rfl rfl rfl ?_))
    try simp only [hq]
    generalize ((w1.alloc (.cells #[.int .u16 0, .int .u8 0, .int .i64 0, .bool false, .bool false, .int .i64 0, .int .u64 0, .string ⟨#[]⟩, .int .i64 0, .int .u64 0, .string ⟨#[]⟩, .int .i64 0, .int .u64 0, .string ⟨#[]⟩] 93)).setRow q i.e.arr) = W1 at *
    clear hh rL hlb c0 c1
    obtain ⟨_, _, k2, _, k4, k11⟩ := hE.c
    by_cases ha : i.e.ac ≠ 1 ∧ i.e.ac ≠ 2
    · have E1 := hidOf2 (show C = 100728834 from HC2.out.trans (if_pos ha))
      have da : (i.e.ac != 1) = true := by simpa using ha.1
      have db : (i.e.ac != 2) = true := by simpa using ha.2
      clear HC2 HW HBY HD
      go_wp2
      go_ret
      exact ⟨ret_int (by rw [E1.out]; rfl), by first | exact bB | (rw [← hq] at bB ⊢; exact bB)⟩
    · have HC3 := hidOf2 (HC2.out.trans (if_neg ha))
      have hdec := r7Decode_v i.e.df.t i.e.df.ht (.slice ao l.length cap) l W1 hB1
      have hWi := r8Within_any i.e (decW i.e.df.t l)
      have hac : (i.e.ac = 1) ∨ (i.e.ac ≠ 1 ∧ i.e.ac = 2) := by omega
      have hre : Eb q i.e W1 := hE
      clear HC2 ha
      obtain ⟨dE, hdE⟩ : ∃ d, decE i.e.df.t l = d := ⟨_, rfl⟩
      obtain ⟨dV, hdV⟩ : ∃ d, decW i.e.df.t l = d := ⟨_, rfl⟩
      rw [hdE, hdV] at hdec
      rw [hdV] at hWi
      rw [hdE, hdV] at HC3 HW
      rw [hdE] at HD
      rw [hdV] at HBY
      clear hdE hdV
      rcases hac with hac | ⟨hac1, hac⟩
      · rw [hac] at k2
        go_wp2_with fail
        refine hdec.mono ?_
        rintro e w2 ⟨rfl, b2⟩
        have hE2 := hE.below b2
        have B2 := bB.trans (b2.mono bB.size)
        obtain ⟨q2, hq2⟩ : ∃ q, w2.heap.size = q := ⟨_, rfl⟩
        have g0 : Va q2 Vl.nul (w2.alloc (.cells #[.int .i64 0, .int .u64 0, .string ⟨#[]⟩] 52)) := hq2 ▸ Va.new w2 Vl.nul
        have b3 : Below w2.heap.size w2 ((w2.alloc (.cells #[.int .i64 0, .int .u64 0, .string ⟨#[]⟩] 52)).setRow q2 dV.arr) := below_row ((Below.refl _ _).alloc (Nat.le_refl _) _) (by omega) (by rw [size_alloc]; omega) dV.arr
        have g1 := g0.row dV
        have hE3 := hE2.below b3
        have B3 := B2.trans (b3.mono B2.size)
        clear k2 k4 k11
        clear hdec hE hE2 b2 b3 B2 bB hB1
        go_upto_region 8 with (first | (refine g0.sd dV rfl _ _ rfl rfl rfl ?_))
        try simp only [hq2]
        generalize ((w2.alloc (.cells #[.int .i64 0, .int .u64 0, .string ⟨#[]⟩] 52)).setRow q2 dV.arr) = w3 at *
        clear g0
        obtain ⟨_, _, _, _, k4, _⟩ := hE3.c
        have r0 := hE3.r0
        rcases HD.out with hd | hd | hd | hd
        · have HC4 := hidOf2 (HC3.out.trans (if_pos hd))
          have HW2 := hidOf2 (HW.out hd)
          subst hd
          clear HC3 HW HD
          by_cases hli : i.e.li = false
          · have E1 := hidOf2 (show C = 0 by rw [HC4.out, HBY.out, if_pos hli])
            rw [hli] at k4
            clear HC4 HW2 HBY
            go_wp2
            go_ret
            exact ⟨ret_int (by rw [E1.out]; rfl), by first | exact B3 | (rw [← hq] at B3 ⊢; exact B3)⟩
          · have hli2 : i.e.li = true := by simpa using hli
            have E1 := hidOf2 (show C = wiC i.e dV by rw [HC4.out, HW2.out hli2])
            rw [hli2] at k4
            clear HC4 HW2 HBY hli hli2
            go_wp2_with (first | (refine ldE r0 rfl _ rfl rfl ?_) | (refine g1.ld rfl _ rfl rfl ?_))
            refine (hWi w3).mono ?_
            rintro e w4 ⟨rfl, b4⟩
            have B4 := B3.trans (b4.mono B3.size)
            generalize wiC i.e dV = WC at *
            generalize wiB i.e dV = WB at *
            clear hWi
            go_wp2
            go_ret
            exact ⟨ret_int (by rw [E1.out]), by first | exact B4 | (rw [← hq] at B4 ⊢; exact B4)⟩
        · have E1 := hidOf2 (show C = 101122066 by rw [HC3.out, hd]; rfl)
          subst hd
          clear HC3 HW HD HBY
          go_wp2
          go_ret
          exact ⟨ret_int (by rw [E1.out]; rfl), by first | exact B3 | (rw [← hq] at B3 ⊢; exact B3)⟩
        · have E1 := hidOf2 (show C = 101122067 by rw [HC3.out, hd]; rfl)
          subst hd
          clear HC3 HW HD HBY
          go_wp2
          go_ret
          exact ⟨ret_int (by rw [E1.out]; rfl), by first | exact B3 | (rw [← hq] at B3 ⊢; exact B3)⟩
        · have E1 := hidOf2 (show C = 101253168 by rw [HC3.out, hd]; rfl)
          subst hd
          clear HC3 HW HD HBY
          go_wp2
          go_ret
          exact ⟨ret_int (by rw [E1.out]; rfl), by first | exact B3 | (rw [← hq] at B3 ⊢; exact B3)⟩
      · have da : (i.e.ac != 1) = true := by simpa using hac1
        rw [hac] at k2
        go_wp2_with fail
        refine hdec.mono ?_
        rintro e w2 ⟨rfl, b2⟩
        have hE2 := hE.below b2
        have B2 := bB.trans (b2.mono bB.size)
        obtain ⟨q2, hq2⟩ : ∃ q, w2.heap.size = q := ⟨_, rfl⟩
        have g0 : Va q2 Vl.nul (w2.alloc (.cells #[.int .i64 0, .int .u64 0, .string ⟨#[]⟩] 52)) := hq2 ▸ Va.new w2 Vl.nul
        have b3 : Below w2.heap.size w2 ((w2.alloc (.cells #[.int .i64 0, .int .u64 0, .string ⟨#[]⟩] 52)).setRow q2 dV.arr) := below_row ((Below.refl _ _).alloc (Nat.le_refl _) _) (by omega) (by rw [size_alloc]; omega) dV.arr
        have g1 := g0.row dV
        have hE3 := hE2.below b3
        have B3 := B2.trans (b3.mono B2.size)
        clear k2 k4 k11
        clear hdec hE hE2 b2 b3 B2 bB hB1
        go_upto_region 8 with (first | (refine g0.sd dV rfl _ _ rfl rfl rfl ?_))
        try simp only [hq2]
        generalize ((w2.alloc (.cells #[.int .i64 0, .int .u64 0, .string ⟨#[]⟩] 52)).setRow q2 dV.arr) = w3 at *
        clear g0
        obtain ⟨_, _, _, _, k4, _⟩ := hE3.c
        have r0 := hE3.r0
        rcases HD.out with hd | hd | hd | hd
        · have HC4 := hidOf2 (HC3.out.trans (if_pos hd))
          have HW2 := hidOf2 (HW.out hd)
          subst hd
          clear HC3 HW HD
          by_cases hli : i.e.li = false
          · have E1 := hidOf2 (show C = 0 by rw [HC4.out, HBY.out, if_pos hli])
            rw [hli] at k4
            clear HC4 HW2 HBY
            go_wp2
            go_ret
            exact ⟨ret_int (by rw [E1.out]; rfl), by first | exact B3 | (rw [← hq] at B3 ⊢; exact B3)⟩
          · have hli2 : i.e.li = true := by simpa using hli
            have E1 := hidOf2 (show C = wiC i.e dV by rw [HC4.out, HW2.out hli2])
            rw [hli2] at k4
            clear HC4 HW2 HBY hli hli2
            go_wp2_with (first | (refine ldE r0 rfl _ rfl rfl ?_) | (refine g1.ld rfl _ rfl rfl ?_))
            refine (hWi w3).mono ?_
            rintro e w4 ⟨rfl, b4⟩
            have B4 := B3.trans (b4.mono B3.size)
            generalize wiC i.e dV = WC at *
            generalize wiB i.e dV = WB at *
            clear hWi
            go_wp2
            go_ret
            exact ⟨ret_int (by rw [E1.out]), by first | exact B4 | (rw [← hq] at B4 ⊢; exact B4)⟩
        · have E1 := hidOf2 (show C = 101122066 by rw [HC3.out, hd]; rfl)
          subst hd
          clear HC3 HW HD HBY
          go_wp2
          go_ret
          exact ⟨ret_int (by rw [E1.out]; rfl), by first | exact B3 | (rw [← hq] at B3 ⊢; exact B3)⟩
        · have E1 := hidOf2 (show C = 101122067 by rw [HC3.out, hd]; rfl)
          subst hd
          clear HC3 HW HD HBY
          go_wp2
          go_ret
          exact ⟨ret_int (by rw [E1.out]; rfl), by first | exact B3 | (rw [← hq] at B3 ⊢; exact B3)⟩
        · have E1 := hidOf2 (show C = 101253168 by rw [HC3.out, hd]; rfl)
          subst hd
          clear HC3 HW HD HBY
          go_wp2
          go_ret
          exact ⟨ret_int (by rw [E1.out]; rfl), by first | exact B3 | (rw [← hq] at B3 ⊢; exact B3)⟩
end Go.Proofs.YtahfnknbmikmkaaGreat
namespace Go.Proofs.YtahfnknbmikmkaaGreat
open Go.RowKit Go.Proofs.Ty Go.Sort Go.Lib
set_option linter.unusedVariables false
set_option maxRecDepth 1000000
set_option linter.unusedSimpArgs false
theorem flat_set (V : List Vl) (k : Nat) (hk : k < V.length) (v : Vl) : flatW DV (V.set k v) = (((flatW DV V).set (k * 3) (.int .i64 v.t)).set (k * 3 + 1) (.int .u64 v.n)).set (k * 3 + 2) (.string v.s) := by
  have step : ∀ (u : Vl) (r : List Vl), flatW DV (u :: r) = .int .i64 u.t :: .int .u64 u.n :: .string u.s :: flatW DV r := fun u r => rfl
  induction V generalizing k with
  | nil => simp at hk
  | cons u r ih =>
    match k, hk with
    | 0, _ => simp [step]
    | k + 1, hk =>
      rw [List.set_cons_succ, step, step, ih k (by simpa using hk), show (k + 1) * 3 = k * 3 + 1 + 1 + 1 by omega]
      simp only [List.set_cons_succ]
theorem own_setV {x : World} {B g n c k : Nat} {V : List Vl} (h : x.ownsRow B 52 3 (.slice (some ⟨g, 0, none⟩) n c) V.length (flatW DV V)) (hk : k < V.length) (u : Vl) : (x.setCells g (k * 3) (vlC u)).ownsRow B 52 3 (.slice (some ⟨g, 0, none⟩) n c) (V.set k u).length (flatW DV (V.set k u)) := by
  obtain ⟨h1, h2⟩ := h
  rcases h2 with ⟨h2, _⟩ | ⟨g', cap, cur, e1, e2, e3, e4, e5, e6, e7⟩
  · cases h2
  · injection e1 with e1 en ec
    injection e1 with e1
    injection e1 with e1 _ _
    subst e1
    refine ⟨by rw [flatW_len]; rfl, .inr ⟨g, cap, ((cur.setIfInBounds (k * 3) (.int .i64 u.t)).setIfInBounds (k * 3 + 1) (.int .u64 u.n)).setIfInBounds (k * 3 + 2) (.string u.s), by rw [List.length_set, en, ec], e2, ?_, by rw [List.length_set]; exact e4, e5, by simpa using e6, ?_⟩⟩
    · show (((x.setCell ⟨g, k * 3, none⟩ (.int .i64 u.t)).setCell ⟨g, k * 3 + 1, none⟩ (.int .u64 u.n)).setCell ⟨g, k * 3 + 2, none⟩ (.string u.s)).heap[g]? = _
      simp only [World.setCell, Array.getElem?_modify, e3]
      simp
    · rw [flat_set V k hk u, ← e7, List.length_set]
      simp only [Array.toList_setIfInBounds, List.take_set]
theorem own_there {x : World} {B g n c k : Nat} {V : List Vl} (h : x.ownsRow B 52 3 (.slice (some ⟨g, 0, none⟩) n c) V.length (flatW DV V)) (hk : k < V.length) : x.there g (k * 3) 3 := by
  obtain ⟨h1, h2⟩ := h
  rcases h2 with ⟨h2, _⟩ | ⟨g', cap, cur, e1, e2, e3, e4, e5, e6, e7⟩
  · cases h2
  · injection e1 with e1 en ec
    injection e1 with e1
    injection e1 with e1 _ _
    subst e1
    intro j hj
    refine ⟨?_, Lib.frozen_of_heap e3 _⟩
    rw [Lib.cell_of_heap e3, Array.getElem?_eq_getElem (by omega)]
    rfl
theorem Rd.setAt {E : Nat} {L : List En} {vL : Value} {V : List Vl} {g n c k B : Nat} {x : World} (h : Rd E L vL V (.slice (some ⟨g, 0, none⟩) n c) x) (hown : x.ownsRow B 52 3 (.slice (some ⟨g, 0, none⟩) n c) V.length (flatW DV V)) (hk : k < V.length) (u : Vl) : Rd E L vL (V.set k u) (.slice (some ⟨g, 0, none⟩) n c) (x.setCells g (k * 3) (vlC u)) := by
  obtain ⟨_, cur, hg⟩ := own_of hown (g := g) rfl
  have hEg : E ≠ g := fun e => by
    have hh := h.head
    rw [e, hg] at hh
    simp at hh
  exact ⟨(setCells_heap _ _ _ _ _ hEg).trans h.head, h.rowL.grown (setCells_kept _ _ _ _) (h.rowL.ne hg (by decide)), RT.own DV (own_setV hown hk u)⟩
theorem grown_fresh {w x y : World} {E g : Nat} (h : w.grownBy x (some E)) (hg : w.heap.size ≤ g) (G : x.grownBy y (some g)) : w.grownBy y (some E) :=
  ⟨G.os.trans h.os, G.tape.trans h.tape, G.output.trans h.output, Nat.le_trans h.size G.size, fun k hk hne => (G.block k (Nat.lt_of_lt_of_le hk h.size) (fun e => by injection e with e; omega)).trans (h.block k hk hne)⟩
theorem own_some {w : World} {B : Nat} {e : TypeId} {c n : Nat} {v : Value} {xs : List Value} (h : w.ownsRow B e c v n xs) (hn : 0 < n) : ∃ g cap, v = .slice (some ⟨g, 0, none⟩) n cap := by
  rcases h.2 with ⟨_, h2⟩ | ⟨g, cap, cur, h1, _⟩
  · omega
  · exact ⟨g, cap, h1⟩
theorem exec_idxV0 {a : Act} {o : Oper} {s i : Operand} {b n c k : Nat} (ho : o.op = .indexAddr 96 s i) (hs : a.eval s = .slice (some ⟨b, 0, none⟩) n c) (hi : a.eval i = .int .i64 (k : Int)) (hk : k < n) (w : World) : (execOp a.eval o).run Tryz.prog w = .ok (.value (.pointer (some ⟨b, k * 3, none⟩))) w := by
  have := exec_idxV ho hs hi hk w
  rw [Nat.zero_add] at this
  exact this
end Go.Proofs.YtahfnknbmikmkaaGreat
namespace Go.Proofs.YtahfnknbmikmkaaGreat
open Go.RowKit Go.Proofs.Ty Go.Sort Go.Lib
set_option linter.unusedVariables false
set_option maxRecDepth 1000000
set_option linter.unusedSimpArgs false
set_option maxHeartbeats 8000000 in
theorem QWrite_any {E : Nat} {its : List Im} {vL vV : Value} {w : World} (h : Rd E (its.map Im.e) vL (its.map Im.v) vV w) (hl : its.length ≤ 1024) (hok : ∀ i ∈ its, Ok i) (hap : (its.map Im.b).Nodup) (ix sb : Nat) (vb : Value) (l : List UInt8) (hB : Bytes w vb l) :
    Calls Tryz.prog 113 #[.pointer (some ⟨E, 0, none⟩), .int .u16 ix, .int .u8 sb, vb] w fun e w' => e = .returned (.int .u32 (wc its ix sb l)) ∧ (∃ vV', Rd E ((wrt its ix sb l).map Im.e) vL ((wrt its ix sb l).map Im.v) vV' w') ∧ w.grownBy w' (some E) := by
  have hM := QMay_any h hl hok ix sb vb l hB
  obtain ⟨ao, cap, rfl⟩ := bytes_shape hB
  by_cases hc : wc its ix sb l = 0
  · obtain ⟨i, hf, ha, hE0, hb⟩ := wc_zero hc
    obtain ⟨k, hk, e1, f1, f2⟩ := fi_some hf
    have HFin := hidOf2 (show ∀ x v', Rd E (its.map Im.e) vL ((its.map Im.v).set k (decW i.e.df.t l)) v' x → Rd E ((wrt its ix sb l).map Im.e) vL ((wrt its ix sb l).map Im.v) v' x from fun x v' hx => by
      have e3 : wrt its ix sb l = setV its i.b (decW i.e.df.t l) := by unfold wrt; rw [if_pos hc, hf]
      have e4 := setV_v hap hk (decW i.e.df.t l)
      rw [e1] at e4
      rw [e3, setV_e, e4]
      exact hx)
    have HC := hidOf2 hc
    have HEL := hidOf2 h.lt
    rw [hc] at hM
    have HR0 := hidOf2 h
    have HBY := hidOf2 hB
    have hElt := h.lt
    clear h hB hf ha hE0 hb
    go_enter Tryz.func113, Tryz.ntmps113
    go_wp2_with fail
    refine hM.mono ?_
    rintro e w1 ⟨rfl, b1⟩
    have R1 := HR0.out.below b1
    have hF := QFind_any R1 (by simpa using hl) ix sb
    rw [f1, f2] at hF
    obtain ⟨c0, c1⟩ := R1.c
    obtain ⟨lb, lo, cL, vb, vo, cV, rfl, rfl, hlb, hvb, rL, rV⟩ := R1.atI hk
    rw [e1] at rL
    have k11 := rL 11 _ rfl
    have HRq := hidOf2 R1
    have hdec := r7Decode_v i.e.df.t i.e.df.ht (.slice ao l.length cap) l w1 (HBY.out.below b1)
    clear hM R1 rL rV hlb hvb HBY
    obtain ⟨dV, hdV⟩ : ∃ d, decW i.e.df.t l = d := ⟨_, rfl⟩
    obtain ⟨dE, hdE⟩ : ∃ d, decE i.e.df.t l = d := ⟨_, rfl⟩
    rw [hdV] at HFin hdec
    rw [hdE] at hdec
    clear hdV hdE
    have hkV : k < (its.map Im.v).length := by simpa using hk
    have hVl : (its.map Im.v).length ≤ 1024 := by rw [List.length_map]; exact hl
    generalize its.map Im.v = V at *
    generalize its.map Im.e = L at *
    go_wp2_with fail
    refine hF.mono ?_
    rintro e w2 ⟨rfl, rfl⟩
    clear hF
    clear e1
    go_wp2_with fail
    refine hdec.mono ?_
    rintro e w3 ⟨rfl, b3⟩
    have B3 := b1.trans (b3.mono b1.size)
    have R3 := HRq.out.below b3
    obtain ⟨q2, hq2⟩ : ∃ q, w3.heap.size = q := ⟨_, rfl⟩
    have g0 : Va q2 Vl.nul (w3.alloc (.cells #[.int .i64 0, .int .u64 0, .string ⟨#[]⟩] 52)) := hq2 ▸ Va.new w3 Vl.nul
    have b4 : Below w3.heap.size w3 ((w3.alloc (.cells #[.int .i64 0, .int .u64 0, .string ⟨#[]⟩] 52)).setRow q2 dV.arr) := below_row ((Below.refl _ _).alloc (Nat.le_refl _) _) (by omega) (by rw [size_alloc]; omega) dV.arr
    have g1 := g0.row dV
    have HR4 := hidOf2 (R3.below b4)
    have HEq := hidOf2 (show ¬ q2 = E from fun e => by have := R3.lt; omega)
    have HB4 := hidOf2 (B3.trans (b4.mono B3.size))
    clear hdec b3 B3 R3 b1 b4 HRq c0 c1 k11 HR0
    go_upto_region 5 with (first | (refine g0.sd dV rfl _ _ rfl rfl rfl ?_))
    try simp only [hq2]
    generalize ((w3.alloc (.cells #[.int .i64 0, .int .u64 0, .string ⟨#[]⟩] 52)).setRow q2 dV.arr) = w4 at *
    clear g0
    have bA : Below w4.heap.size w4 (w4.alloc (.cells #[] 52)) := (Below.refl _ _).alloc (Nat.le_refl _) _
    have hWa := (HR4.out.below bA).rowV.wide
    have c1 := (HR4.out.below bA).c.2
    have hown := own0V w4
    go_upto_region 6 with (first | (refine bs0V rfl rfl ?_) | (refine apV rfl _ _ rfl w4.heap.size (.slice (some ⟨w4.heap.size, 0, none⟩) 0 0) [] rfl hown _ V rfl hWa (by simp; omega) bA.size ?_; intro v5 w5 P5 G5; rw [List.nil_append] at P5; have b5 : Below w4.heap.size w4 w5 := bA.grown G5 bA.size (own_lt hown); have R5 := HR4.out.below b5; have f5 := R5.frozen 1; have c5 := R5.c.2; obtain ⟨g, c2, hv5⟩ := own_some P5 (by omega); subst hv5; have RN := R5.setV (RT.own DV P5); have PN := own_set P5 (own_ne P5 R5.head) 1 (.slice (some ⟨g, 0, none⟩) V.length c2); have HgB := hidOf2 (own_lt P5 g rfl); have gN := (g1.below b5).other (p := ⟨E, 1, none⟩) (fun e => HEq.out e) (.slice (some ⟨g, 0, none⟩) V.length c2); have HG5 := hidOf2 (grown_trans (gb_any (HB4.out.trans (b5.mono HB4.out.size)) (some E)) (set_kept w5 E 1 (.slice (some ⟨g, 0, none⟩) V.length c2))); have HNQ := hidOf2 (show q2 ≠ g from fun e => by have := own_lt P5 g rfl; have := g1.lt; omega); have HgW := hidOf2 (Nat.le_trans HB4.out.size (own_lt P5 g rfl)); clear b5 R5 P5 G5 hWa bA hown g1))
    generalize w5.setCell ⟨E, 1, none⟩ (.slice (some ⟨g, 0, none⟩) V.length c2) = w6 at *
    clear f5 c5 c1
    have S0 : w6.drew.cell? ⟨E, 1, none⟩ = some (.slice (some ⟨g, 0, none⟩) V.length c2) ∧ Va q2 dV w6.drew := ⟨RN.c.2, gN⟩
    have R6 : Rd E L _ V _ w6.drew := RN.below (bdr (Below.refl _ w6) 1)
    have P6 := own_drew PN
    have ht := own_there P6 hkV
    have hkn2 : k < V.length := hkV
    have HG6 := hidOf2 (show w.grownBy w6.drew (some E) from grown_trans HG5.out (gb_any (bdr (Below.refl _ w6) 1) (some E)))
    clear HR4 HB4 HG5 RN PN gN
    refine wp_region_held (S := fun x => x.cell? ⟨E, 1, none⟩ = some (.slice (some ⟨g, 0, none⟩) V.length c2) ∧ Va q2 dV x) (by kernel_rfl) ?_
    change wpAnyH _ _ _ _ _ _ _ _ w6.drew
    refine tk 0 (.pointer (some ⟨E, 0, none⟩)) rfl (by kernel_rfl) (fun _ _ _ h => h) rfl (fun _ hS => rfl) S0 ?_
    simp only [zzA, zzB, zzC, Act.put, zzD, zzE, zzF]
    refine tk 1 (.pointer (some ⟨E, 0, none⟩)) rfl (by kernel_rfl) (fun _ _ _ h => h) rfl (fun _ hS => by simp [execOp, go_sem, Act.eval]) S0 ?_
    simp only [zzA, zzB, zzC, Act.put, zzD, zzE, zzF]
    refine tk 2 (.pointer (some ⟨E, 1, none⟩)) rfl (by kernel_rfl) (fun _ _ _ h => h) rfl (fun _ hS => by simp [execOp, go_sem, Act.eval]) S0 ?_
    simp only [zzA, zzB, zzC, Act.put, zzD, zzE, zzF]
    refine tk 3 (.slice (some ⟨g, 0, none⟩) V.length c2) rfl (by kernel_rfl) (fun _ _ _ h => h) rfl (fun _ hS => exec_load rfl rfl (load_vals _ _ _ _ _ _ hS.1)) S0 ?_
    simp only [zzA, zzB, zzC, Act.put, zzD, zzE, zzF]
    refine tk 4 (.int .i64 (k : Int)) rfl (by kernel_rfl) (fun _ _ _ h => h) rfl (fun _ hS => rfl) S0 ?_
    simp only [zzA, zzB, zzC, Act.put, zzD, zzE, zzF]
    refine tk 5 (.agg dV.arr) rfl (by kernel_rfl) (fun _ _ _ h => h) rfl (fun _ hS => exec_load rfl rfl hS.2.load) S0 ?_
    simp only [zzA, zzB, zzC, Act.put, zzD, zzE, zzF]
    refine tk 6 (.pointer (some ⟨g, k * 3, none⟩)) rfl (by kernel_rfl) (fun _ _ _ h => h) rfl (fun _ hS => exec_idxV0 rfl rfl rfl hkn2 _) S0 ?_
    simp only [zzA, zzB, zzC, Act.put, zzD, zzE, zzF]
    refine wpAnyH_all (rs := [7]) (by kernel_rfl) (by simp) ?_
    intro k hk
    simp only [List.mem_cons, List.mem_nil_iff, or_false] at hk
    subst hk
    refine wpOp_run rfl rfl (wp_store_mid 52 _ _ rfl g (k * 3) dV.arr rfl rfl (by rw [dV.arr_size]; exact ht) (by rw [dV.arr_size]; exact infoV) dV.one ?_)
    change _ ∧ wpAnyH _ _ _ _ _ _ _ _ (w6.drew.setCells g (k * 3) (vlC dV))
    have RZ := R6.setAt P6 hkV dV
    have PZ := own_setV P6 hkV dV
    have S1 : (w6.drew.setCells g (k * 3) (vlC dV)).cell? ⟨E, 1, none⟩ = some (.slice (some ⟨g, 0, none⟩) V.length c2) ∧ Va q2 dV (w6.drew.setCells g (k * 3) (vlC dV)) := ⟨RZ.c.2, (setCells_heap _ _ _ _ _ HNQ.out).trans S0.2⟩
    refine ⟨S1, ?_⟩
    simp only [zzA, zzB, zzC, Act.put, zzD, zzE, zzF]
    refine wpAnyH_done (by kernel_rfl) ?_ _
    have HRZ := hidOf2 RZ
    have HGZ := hidOf2 (grown_fresh HG6.out HgW.out (setCells_kept w6.drew g (k * 3) (vlC dV)))
    clear RZ PZ S1 S0 R6 P6 ht
    generalize w6.drew.setCells g (k * 3) (vlC dV) = w7 at *
    go_wp2
    go_ret
    exact ⟨ret_int (by rw [HC.out]; rfl), ⟨_, HFin.out _ _ HRZ.out⟩, HGZ.out⟩
  · have dc : ((wc its ix sb l : Int) == 0) = false := by simp; omega
    have HF := hidOf2 (show wrt its ix sb l = its by unfold wrt; rw [if_neg hc])
    have HR0 := hidOf2 h
    clear h hB
    generalize wc its ix sb l = C at *
    go_enter Tryz.func113, Tryz.ntmps113
    go_wp2_with fail
    refine hM.mono ?_
    rintro e w1 ⟨rfl, b1⟩
    have R1 := hidOf2 (HR0.out.below b1)
    clear hM HR0
    go_wp2
    go_ret
    exact ⟨rfl, ⟨_, by rw [HF.out]; exact R1.out⟩, gb_any b1 _⟩
end Go.Proofs.YtahfnknbmikmkaaGreat
namespace Go.Proofs.YtahfnknbmikmkaaGreat
open Go.RowKit Go.Proofs.Ty Go.Sort Go.Lib
set_option linter.unusedVariables false
set_option maxRecDepth 1000000
set_option linter.unusedSimpArgs false
theorem enterPl : ∀ args x, (callFunc 47 args).run Tryz.prog x = .ok (.enter 47 args) x := fun _ _ => by rfl
theorem own_below {w y : World} {B : Nat} {e : TypeId} {c n : Nat} {v : Value} {xs : List Value} (h : w.ownsRow B e c v n xs) (hb : Below w.heap.size w y) : y.ownsRow B e c v n xs := by
  refine ⟨h.1, h.2.imp id ?_⟩
  rintro ⟨g, cap, cur, e1, e2, e3, e4⟩
  exact ⟨g, cap, cur, e1, e2, (hb.block g (Array.getElem?_eq_some_iff.1 e3).1).trans e3, e4⟩
set_option maxHeartbeats 8000000 in
theorem QSet_any {E : Nat} {its : List Im} {vL vV : Value} {w : World} (h : Rd E (its.map Im.e) vL (its.map Im.v) vV w) (hl : its.length ≤ 1024) (hok : ∀ i ∈ its, Ok i) (hap : (its.map Im.b).Nodup) (ix sb : Nat) (v : Vl) :
    Calls Tryz.prog 22 #[.pointer (some ⟨E, 0, none⟩), .int .u16 ix, .int .u8 sb, .agg v.arr] w fun e w' => e = .returned (.int .i64 (setc its ix sb v)) ∧ (∃ vV', Rd E ((sett its ix sb v).map Im.e) vL ((sett its ix sb v).map Im.v) vV' w') ∧ w.grownBy w' (some E) := by
  obtain ⟨q, hq⟩ : ∃ q, w.heap.size = q := ⟨_, rfl⟩
  have f0 : Va q v (w.alloc (.cells v.arr 52)) := hq ▸ Va.new w v
  have bA : Below w.heap.size w (w.alloc (.cells v.arr 52)) := (Below.refl _ _).alloc (Nat.le_refl _) _
  have h0 := h.below bA
  have hF := QFind_any h0 (by simpa using hl) ix sb
  have HC : Hid (setc its ix sb v = match fnd its ix sb with
    | none => 4
    | some i => if i.e.ac = 3 then 1 else if v.t ≠ i.e.df.t then 1 else v.chk) := rfl
  have HT : Hid (sett its ix sb v = match fnd its ix sb with
    | none => its
    | some i => if setc its ix sb v = 0 then setV its i.b v.plain else its) := rfl
  generalize sett its ix sb v = ST at *
  generalize setc its ix sb v = SC at *
  have HEq := hidOf2 (show ¬ q = E from fun e => by have := h.lt; omega)
  cases hf : fnd its ix sb with
  | none =>
    rw [hf] at HC HT
    obtain ⟨f1, f2⟩ := fi_none hf
    rw [f1, f2] at hF
    have d1 : ((noc its ix : Int) != 0) = true := by have := noc_ne its ix; simp; omega
    have HR0 := hidOf2 h0
    generalize noc its ix = N at *
    clear h h0 hf f1 f2
    go_enter Tryz.func22, Tryz.ntmps22
    go_upto_region 1 with fail
    generalize (w.alloc (.cells v.arr 52)) = W at *
    try simp only [hq]
    go_wp2_with fail
    refine hF.mono ?_
    rintro e w1 ⟨rfl, rfl⟩
    clear hF f0
    go_wp2
    go_ret
    exact ⟨ret_int (by rw [HC.out]; rfl), ⟨_, by rw [HT.out]; exact HR0.out⟩, gb_any bA _⟩
  | some i =>
    rw [hf] at HC HT
    obtain ⟨k, hk, e1, f1, f2⟩ := fi_some hf
    have htt := (hok i (fnd_mem hf)).t
    obtain ⟨c0, c1⟩ := h0.c
    obtain ⟨lb, lo, cL, vb, vo, cV, rfl, rfl, hlb, hvb, rL, rV⟩ := h0.atI hk
    rw [e1] at rL rV
    rw [f1, f2] at hF
    have k2 := rL 2 _ rfl
    have v0 := rV 0 _ rfl
    simp only [Nat.add_zero] at v0
    rw [htt] at v0
    have HFin := hidOf2 (show ST = setV its i.b v.plain → ∀ x v', Rd E (its.map Im.e) (.slice (some ⟨lb, lo, none⟩) its.length cL) ((its.map Im.v).set k v.plain) v' x → Rd E (ST.map Im.e) (.slice (some ⟨lb, lo, none⟩) its.length cL) (ST.map Im.v) v' x from fun e3 x v' hx => by
      have e4 := setV_v hap hk v.plain
      rw [e1] at e4
      rw [e3, setV_e, e4]
      exact hx)
    have hkV : k < (its.map Im.v).length := by simpa using hk
    have hVl : (its.map Im.v).length ≤ 1024 := by rw [List.length_map]; exact hl
    have HR0 := hidOf2 h0
    have t0 := f0.c0
    clear h h0 hf e1 f1 f2 rL rV
    have HR1 := hidOf2 (show ST = its → ∀ x, Rd E (its.map Im.e) (.slice (some ⟨lb, lo, none⟩) its.length cL) (its.map Im.v) (.slice (some ⟨vb, vo, none⟩) its.length cV) x → Rd E (ST.map Im.e) (.slice (some ⟨lb, lo, none⟩) its.length cL) (ST.map Im.v) (.slice (some ⟨vb, vo, none⟩) its.length cV) x from fun e3 x hx => by rw [e3]; exact hx)
    generalize its.map Im.v = V at *
    generalize its.map Im.e = L at *
    go_enter Tryz.func22, Tryz.ntmps22
    go_upto_region 1 with fail
    generalize (w.alloc (.cells v.arr 52)) = W at *
    try simp only [hq]
    go_wp2_with fail
    refine hF.mono ?_
    rintro e w1 ⟨rfl, rfl⟩
    clear hF htt
    by_cases ha : i.e.ac = 3
    · have E1 := hidOf2 (show SC = 1 from HC.out.trans (if_pos ha))
      have E2 := hidOf2 (show ST = its by rw [HT.out, E1.out]; rfl)
      rw [ha] at k2
      clear HC HT HFin
      go_upto_region 4 with fail
      go_quiet (fail)
      go_wp2
      go_ret
      exact ⟨ret_int (by rw [E1.out]; rfl), ⟨_, HR1.out E2.out _ (HR0.out.below (bdr (Below.refl _ _) _))⟩, gb_any (bdr bA _) _⟩
    · have da : (i.e.ac == 3) = false := by simpa using ha
      have HC2 := hidOf2 (HC.out.trans (if_neg ha))
      clear HC
      generalize i.e.ac = A at *
      by_cases ht : v.t = i.e.df.t
      · have HC3 := hidOf2 (show SC = v.chk from HC2.out.trans (if_neg (by simpa using ht)))
        have dt : (v.t != i.e.df.t) = false := by simpa using ht
        clear HC2 ht
        go_upto_region 4 with fail
        go_quiet (fail)
        have hC := r7Check_v v (w1.drewN nq)
        have f2 : Va q v (w1.drewN nq) := f0
        have B2 : Below w.heap.size w (w1.drewN nq) := bdr bA nq
        have HR2 := hidOf2 (HR0.out.below (bdr (Below.refl _ _) nq))
        clear c0 c1 k2 v0 t0 f0 bA HR0
        generalize w1.drewN nq = w2 at *
        clear nq
        go_wp2_with (first | (refine f2.ld rfl _ rfl rfl ?_))
        refine hC.mono ?_
        rintro e w3 ⟨rfl, b3⟩
        have f3 := f2.below b3
        have B3 := B2.trans (b3.mono B2.size)
        have HR3 := hidOf2 (HR2.out.below b3)
        clear hC f2 B2 b3 HR2
        by_cases hk0 : v.chk = 0
        · rw [hk0] at HC3 ⊢
          have HC := hidOf2 HC3.out
          have E2 := hidOf2 (show ST = setV its i.b v.plain by rw [HT.out, HC3.out]; rfl)
          have HFin2 := hidOf2 (HFin.out E2.out)
          clear HFin HT HC3 HR1
          have HFin := HFin2
          clear HFin2
          have bA : Below w3.heap.size w3 (w3.alloc (.cells #[] 52)) := (Below.refl _ _).alloc (Nat.le_refl _) _
          have hWa := (HR3.out.below bA).rowV.wide
          have c1 := (HR3.out.below bA).c.2
          have hown := own0V w3
          go_upto_region 10 with (first | (refine bs0V rfl rfl ?_) | (refine apV rfl _ _ rfl w3.heap.size (.slice (some ⟨w3.heap.size, 0, none⟩) 0 0) [] rfl hown _ V rfl hWa (by simp; omega) bA.size ?_; intro v5 w5 P5 G5; rw [List.nil_append] at P5; have b5 : Below w3.heap.size w3 w5 := bA.grown G5 bA.size (own_lt hown); have R5 := HR3.out.below b5; have f5 := R5.frozen 1; have c5 := R5.c.2; obtain ⟨g, c2, hv5⟩ := own_some P5 (by omega); subst hv5; have RN := R5.setV (RT.own DV P5); have PN := own_set P5 (own_ne P5 R5.head) 1 (.slice (some ⟨g, 0, none⟩) V.length c2); have gN := (f3.below b5).other (p := ⟨E, 1, none⟩) (fun e => HEq.out e) (.slice (some ⟨g, 0, none⟩) V.length c2); have HG5 := hidOf2 (grown_trans (gb_any (B3.trans (b5.mono B3.size)) (some E)) (set_kept w5 E 1 (.slice (some ⟨g, 0, none⟩) V.length c2))); have HNQ := hidOf2 (show q ≠ g from fun e => by have := own_lt P5 g rfl; have := f3.lt; omega); have HgW := hidOf2 (Nat.le_trans B3.size (own_lt P5 g rfl)); clear b5 R5 P5 G5 hWa bA hown f3 B3))
          generalize w5.setCell ⟨E, 1, none⟩ (.slice (some ⟨g, 0, none⟩) V.length c2) = w6 at *
          clear f5 c5 c1
          have S0 : w6.drew.cell? ⟨E, 1, none⟩ = some (.slice (some ⟨g, 0, none⟩) V.length c2) ∧ Va q v w6.drew := ⟨RN.c.2, gN⟩
          have R6 : Rd E L _ V _ w6.drew := RN.below (bdr (Below.refl _ w6) 1)
          have P6 := own_drew PN
          have HG6 := hidOf2 (show w.grownBy w6.drew (some E) from grown_trans HG5.out (gb_any (bdr (Below.refl _ w6) 1) (some E)))
          clear HR3 HG5 RN PN gN
          refine wp_region_held (S := fun x => x.cell? ⟨E, 1, none⟩ = some (.slice (some ⟨g, 0, none⟩) V.length c2) ∧ Va q v x) (by kernel_rfl) ?_
          change wpAnyH _ _ _ _ _ _ _ _ w6.drew
          refine tk 0 (.pointer (some ⟨E, 0, none⟩)) rfl (by kernel_rfl) (fun _ _ _ h => h) rfl (fun _ hS => rfl) S0 ?_
          simp only [zzA, zzB, zzC, Act.put, zzD, zzE, zzF]
          refine tk 1 (.pointer (some ⟨E, 0, none⟩)) rfl (by kernel_rfl) (fun _ _ _ h => h) rfl (fun _ hS => by simp [execOp, go_sem, Act.eval]) S0 ?_
          simp only [zzA, zzB, zzC, Act.put, zzD, zzE, zzF]
          refine tk 2 (.pointer (some ⟨E, 1, none⟩)) rfl (by kernel_rfl) (fun _ _ _ h => h) rfl (fun _ hS => by simp [execOp, go_sem, Act.eval]) S0 ?_
          simp only [zzA, zzB, zzC, Act.put, zzD, zzE, zzF]
          refine tk 3 (.slice (some ⟨g, 0, none⟩) V.length c2) rfl (by kernel_rfl) (fun _ _ _ h => h) rfl (fun _ hS => exec_load rfl rfl (load_vals _ _ _ _ _ _ hS.1)) S0 ?_
          simp only [zzA, zzB, zzC, Act.put, zzD, zzE, zzF]
          refine tk 4 (.int .i64 (k : Int)) rfl (by kernel_rfl) (fun _ _ _ h => h) rfl (fun _ hS => rfl) S0 ?_
          simp only [zzA, zzB, zzC, Act.put, zzD, zzE, zzF]
          refine tk 5 (.agg v.arr) rfl (by kernel_rfl) (fun _ _ _ h => h) rfl (fun _ hS => exec_load rfl rfl hS.2.load) S0 ?_
          simp only [zzA, zzB, zzC, Act.put, zzD, zzE, zzF]
          refine wpAnyH_all (rs := [6]) (by kernel_rfl) (by simp) ?_
          intro k hk
          simp only [List.mem_cons, List.mem_nil_iff, or_false] at hk
          subst hk
          refine wpOp_run rfl rfl (wp_call_fn 47 #[.agg v.arr] (by simp [execOp, go_sem, Act.eval, resolve, invoke, enterPl]) ?_)
          refine (r7Plain_v v w6.drew).mono ?_
          rintro e w7 ⟨rfl, b7⟩
          have R7 := R6.below b7
          have P7 := own_below P6 b7
          have ht := own_there P7 hkV
          have HG7 := hidOf2 (show w.grownBy w7 (some E) from grown_trans HG6.out (gb_any b7 (some E)))
          have S1 : w7.cell? ⟨E, 1, none⟩ = some (.slice (some ⟨g, 0, none⟩) V.length c2) ∧ Va q v w7 := ⟨R7.c.2, S0.2.below b7⟩
          refine ⟨S1, ?_⟩
          simp only [zzA, zzB, zzC, Act.put, zzD, zzE, zzF]
          refine tk 7 (.pointer (some ⟨g, k * 3, none⟩)) rfl (by kernel_rfl) (fun _ _ _ h => h) rfl (fun _ hS => exec_idxV0 rfl rfl rfl hkV _) S1 ?_
          simp only [zzA, zzB, zzC, Act.put, zzD, zzE, zzF]
          refine wpAnyH_all (rs := [8]) (by kernel_rfl) (by simp) ?_
          intro k hk
          simp only [List.mem_cons, List.mem_nil_iff, or_false] at hk
          subst hk
          refine wpOp_run rfl rfl (wp_store_mid 52 _ _ rfl g (k * 3) v.plain.arr rfl rfl (by rw [v.plain.arr_size]; exact ht) (by rw [v.plain.arr_size]; exact infoV) v.plain.one ?_)
          change _ ∧ wpAnyH _ _ _ _ _ _ _ _ (w7.setCells g (k * 3) (vlC v.plain))
          have RZ := R7.setAt P7 hkV v.plain
          have S2 : (w7.setCells g (k * 3) (vlC v.plain)).cell? ⟨E, 1, none⟩ = some (.slice (some ⟨g, 0, none⟩) V.length c2) ∧ Va q v (w7.setCells g (k * 3) (vlC v.plain)) := ⟨RZ.c.2, (setCells_heap _ _ _ _ _ HNQ.out).trans S1.2⟩
          refine ⟨S2, ?_⟩
          simp only [zzA, zzB, zzC, Act.put, zzD, zzE, zzF]
          refine wpAnyH_done (by kernel_rfl) ?_ _
          have HRZ := hidOf2 RZ
          have HGZ := hidOf2 (grown_fresh HG7.out HgW.out (setCells_kept w7 g (k * 3) (vlC v.plain)))
          clear RZ S1 S2 S0 R6 P6 R7 P7 ht
          generalize w7.setCells g (k * 3) (vlC v.plain) = w8 at *
          go_wp2
          go_ret
          exact ⟨ret_int (by rw [HC.out]; rfl), ⟨_, HFin.out _ _ HRZ.out⟩, HGZ.out⟩
        · have dk : ((v.chk : Int) != 0) = true := by simpa using hk0
          have E2 := hidOf2 (show ST = its by rw [HT.out, HC3.out]; exact if_neg hk0)
          clear HT HFin
          generalize v.chk = CK at *
          go_wp2
          go_ret
          exact ⟨ret_int (by rw [HC3.out]), ⟨_, HR1.out E2.out _ HR3.out⟩, gb_any B3 _⟩
      · have E1 := hidOf2 (show SC = 1 from HC2.out.trans (if_pos (by simpa using ht)))
        have E2 := hidOf2 (show ST = its by rw [HT.out, E1.out]; rfl)
        have dt : (v.t != i.e.df.t) = true := by simpa using ht
        clear HC2 HT HFin
        go_upto_region 4 with fail
        go_quiet (fail)
        go_wp2
        go_ret
        exact ⟨ret_int (by rw [E1.out]; rfl), ⟨_, HR1.out E2.out _ (HR0.out.below (bdr (Below.refl _ _) _))⟩, gb_any (bdr bA _) _⟩
end Go.Proofs.YtahfnknbmikmkaaGreat
namespace Go.Proofs.YtahfnknbmikmkaaGreat
open Go.RowKit Go.Proofs.Ty
set_option linter.unusedVariables false
set_option maxRecDepth 1000000
end Go.Proofs.YtahfnknbmikmkaaGreat
namespace Go.Proofs.YtahfnknbmikmkaaGreat
open Go.RowKit Go.Proofs.Ty Go.Sort Go.Lib
set_option linter.unusedVariables false
set_option maxRecDepth 1000000
set_option linter.unusedSimpArgs false
end Go.Proofs.YtahfnknbmikmkaaGreat
namespace Go.Proofs.YtahfnknbmikmkaaGreat
open Go.RowKit Go.Proofs.Ty Go.Sort Go.Lib
set_option linter.unusedVariables false
set_option maxRecDepth 1000000
set_option linter.unusedSimpArgs false
end Go.Proofs.YtahfnknbmikmkaaGreat
