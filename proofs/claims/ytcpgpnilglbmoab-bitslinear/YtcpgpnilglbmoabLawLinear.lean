/- The law BitsLinear returns true whatever two texts come in. -/
import Derived.Test.YtcpgpnilglbmoabCopy
import Derived.Test.YtcpgpnilglbmoabMathL
import Derived.Laws.IdiomStrings
import Derived.Deep.RegionLaw
namespace Go.Proofs.Ytcpgpnilglbmoab
open Go.RowKit Go.Proofs.Bits
set_option linter.unusedVariables false

set_option maxHeartbeats 1000000 in
theorem linear_bad (a b : ByteArray) (w : World) (h : err a.data.toList ≠ 0 ∨ err b.data.toList ≠ 0) :
    Calls Try.prog 4 #[.string a, .string b] w fun e w' => e = .returned (.bool true) ∧ Below w.heap.size w w' := by
  by_cases ha : err a.data.toList = 0
  · have hb : err b.data.toList ≠ 0 := by rcases h with h | h <;> simp_all
    have hn : (err a.data.toList != 0) = false := by simp [ha]
    have hn2 : (err b.data.toList != 0) = true := by simp [hb]
    have HA : Hid (err a.data.toList = 0) := ha
    clear h ha hb
    go_enter Try.func4, Try.ntmps4
    go_wp2_with fail
    refine (CRC_any a _).mono ?_
    rintro e w1 ⟨rfl, b1⟩
    go_wp2_with fail
    refine (CRC_any b _).mono ?_
    rintro e w2 ⟨rfl, b2⟩
    go_wp2_with fail
    refine (lives_any _).mono ?_
    rintro e w3 ⟨rfl, b3⟩
    go_wp2
    go_ret
    have s1 := b1.size
    have s2 := b2.size
    exact ⟨rfl, (b1.trans (b2.mono (by omega))).trans (b3.mono (by omega))⟩
  · have hn : (err a.data.toList != 0) = true := by simp [ha]
    clear h ha
    go_enter Try.func4, Try.ntmps4
    go_wp2_with fail
    refine (CRC_any a _).mono ?_
    rintro e w1 ⟨rfl, b1⟩
    go_wp2_with fail
    refine (CRC_any b _).mono ?_
    rintro e w2 ⟨rfl, b2⟩
    go_wp2_with fail
    refine (lives_any _).mono ?_
    rintro e w3 ⟨rfl, b3⟩
    go_wp2
    go_ret
    have s1 := b1.size
    have s2 := b2.size
    exact ⟨rfl, (b1.trans (b2.mono (by omega))).trans (b3.mono (by omega))⟩

theorem extract_list (a : ByteArray) (i j : Nat) : (a.extract i j).data.toList = (a.data.toList.take j).drop i := by
  simp [ByteArray.data_extract, Array.toList_extract, List.drop_take]
theorem tail_facts (a : ByteArray) (n : Nat) (hn : n ≤ a.size) (h : err a.data.toList = 0) :
    (a.extract (a.size - n) a.size).size = n ∧ err (a.extract (a.size - n) a.size).data.toList = 0 := by
  have hz : (a.extract (a.size - n) a.size).size = n := by simp [ByteArray.size_extract]; omega
  refine ⟨hz, err_part a.data.toList _ h ?_ ?_⟩
  · intro c hc
    rw [extract_list] at hc
    exact List.mem_of_mem_take (List.mem_of_mem_drop hc)
  · rw [size_len, size_len, hz]; exact hn
theorem xorL_at (p q : ByteArray) (k : Nat) (hp : k < p.size) (hq : k < q.size) : (xorL p.data.toList q.data.toList).take (k + 1) = (xorL p.data.toList q.data.toList).take k ++ [xorc p[k] q[k]] := by
  have hk : k < (xorL p.data.toList q.data.toList).length := by simp [xorL]; omega
  rw [ltake_snoc _ k hk]
  simp only [xorL, List.getElem_zipWith]
  rfl
theorem num_xor (p q : Nat) (hp : p = 48 ∨ p = 49) (hq : q = 48 ∨ q = 49) (P Q : UInt8) (hP : P.toNat = p) (hQ : Q.toNat = q) : bits BinOp.xor IntKind.u8 (IntKind.u8.wrap (48 + IntKind.u8.wrap ((p : Int) - 48))) (IntKind.u8.wrap ((q : Int) - 48)) = ((xorc P Q).toNat : Int) := by
  unfold xorc
  by_cases e : P = Q
  · rw [if_pos e]
    have : p = q := by rw [← hP, ← hQ, e]
    subst this
    rcases hp with rfl | rfl <;> rfl
  · rw [if_neg e]
    have : p ≠ q := fun h => e (UInt8.toNat_inj.1 (by rw [hP, hQ, h]))
    rcases hp with rfl | rfl <;> rcases hq with rfl | rfl <;> first | rfl | (exfalso; omega)

theorem cell_new (w : World) (v : Value) (T : TypeId) : (w.alloc (.cells #[v] T)).cell? ⟨w.heap.size, 0, none⟩ = some v := by
  have hh : (w.alloc (.cells #[v] T)).heap[w.heap.size]? = some (.cells #[v] T (0, 0)) := by
    show (w.heap.push _)[w.heap.size]? = _
    simp
  rw [Lib.cell_of_heap hh]
  rfl
theorem own_nonil {w : World} {base : Nat} {e : TypeId} {size : Nat} {v : Value} {n : Nat} {xs : List Value} (h : w.ownsRow base e size v (n + 1) xs) : v ≠ .slice none 0 0 := by
  rcases h.2 with ⟨_, h0⟩ | ⟨g, cap, cur, rfl, _⟩
  · omega
  · simp
/-- append of one byte of the call's own to bytes of its own, as one step of a region that draws. -/
theorem step_append_byte {ops : Array Oper} {o : Oper} {a : Act} {w : World} {K : Act → World → Prop} {Q : Exit → Act → World → Prop} {E : Prop}
    (hg : o.guard = none) (s x : Operand) (ho : o.op = .call { callee := .builtin .append, args := #[s, x], argTypes := #[22, 22] })
    (base : Nat) (v : Value) (xs : List UInt8) (hs : a.eval s = v) (hown : w.ownsRow base 5 1 v xs.length (Lib.byteCells xs))
    (ad : Addr) (c : UInt8) (hx : a.eval x = .slice (some ad) 1 1) (hc : w.cell? ad = some (.int .u8 c.toNat)) (hbytes : xs.length + 1 ≤ 140737488355328) (hbase : base ≤ w.heap.size)
    (hK : ∀ v' w', w'.ownsRow base 5 1 v' (xs ++ [c]).length (Lib.byteCells (xs ++ [c])) → w.grownBy w' v.ownBlock → K (a.put o.dst v') w') :
    if Region.wanted o (yielded ops a.tmps) = true then Oper.wp Try.prog o a w K Q else E := by
  obtain ⟨i0, hi, hz0, hz1, hz2⟩ := info_parts info5
  have hw : Region.wanted o (yielded ops a.tmps) = true := by simp [Region.wanted, hg]
  rw [if_pos hw]
  refine wp_append_own w s x 22 ho base 5 i0 (.int .u8 0) 1 1 Try.underlying22 hi hz0 hz1 hz2 rfl (by decide) v xs.length (Lib.byteCells xs) hs hown ad 1 1 [.int .u8 c.toNat] hx rfl ?_ (by intro u hu; simp at hu; subst hu; rfl) (by unfold maxLen; omega) (by omega) hbase ?_
  · intro j u hj
    match j, hj with
    | 0, hj => simp at hj; subst hj; simpa [Addr.add] using hc
    | j + 1, hj => simp at hj
  · intro v' w' h1 h2 _
    refine hK v' w' ?_ h2
    rw [Lib.byteCells_append]
    simpa [Lib.byteCells] using h1

set_option maxHeartbeats 1000000 in
theorem linear_gt (a b : ByteArray) (w : World) (ha : err a.data.toList = 0) (hb : err b.data.toList = 0) (hgt : b.size < a.size) :
    Calls Try.prog 4 #[.string a, .string b] w fun e w' => e = .returned (.bool true) ∧ Below w.heap.size w w' := by
  obtain ⟨la, alla⟩ := err_zero ha
  obtain ⟨lb, allb⟩ := err_zero hb
  have hsa : a.size ≤ 65536 := by simpa using la
  have hsb : b.size ≤ 65536 := by simpa using lb
  have HA : Hid (err a.data.toList = 0) := ha
  have HB : Hid (err b.data.toList = 0) := hb
  have HCA : Hid (crcV a.data.toList = crc a.data.toList) := crcV_ok ha
  have HCB : Hid (crcV b.data.toList = crc b.data.toList) := crcV_ok hb
  clear ha hb la lb alla allb
  have hf := tail_facts a b.size (by omega) HA.out
  go_enter Try.func4, Try.ntmps4
  go_wp2_with fail
  refine (CRC_any a _).mono ?_
  rintro e w1 ⟨rfl, b1⟩
  rw [HA.out, HCA.out]
  go_wp2_with fail
  refine (CRC_any b _).mono ?_
  rintro e w2 ⟨rfl, b2⟩
  rw [HB.out, HCB.out]
  clear hf
  go_wp2_with fail
  have hf := tail_facts a b.size (by omega) HA.out
  refine (CRC_any _ _).mono ?_
  generalize a.extract (a.size - b.size) a.size = p at hf ⊢
  rintro e w3 ⟨rfl, b3⟩
  rw [hf.2, crcV_ok hf.2]
  obtain ⟨q, hqb⟩ : ∃ q, q = b := ⟨b, rfl⟩
  subst hqb
  have hpq : p.size = q.size := hf.1
  have hp := hf.2
  have hq := HB.out
  clear hf HA HB HCA HCB
  have hnp : p.size ≤ 65536 := by omega
  obtain ⟨_, allp⟩ := err_zero hp
  obtain ⟨_, allq⟩ := err_zero hq
  have HX : Hid (crc (xorL p.data.toList q.data.toList) = crc p.data.toList ^^^ crc q.data.toList) := crc_xor _ _ (by rw [size_len, size_len]; exact hpq) allp allq
  have hxe := err_of _ (by rw [xorL_length _ _ (by rw [size_len, size_len]; exact hpq), size_len]; omega) (xorL_all p.data.toList q.data.toList)
  have HXE : Hid (err (xorL p.data.toList q.data.toList) = 0) := hxe
  have HXV : Hid (crcV (xorL p.data.toList q.data.toList) = crc (xorL p.data.toList q.data.toList)) := crcV_ok hxe
  have hcp := crc_lt p.data.toList
  have hcq := crc_lt q.data.toList
  have hlx : (xorL p.data.toList q.data.toList).length = p.size := by rw [xorL_length _ _ (by rw [size_len, size_len]; exact hpq), size_len]
  clear hxe hp hq
  generalize crc p.data.toList = cp at *
  generalize crc q.data.toList = cq at *
  go_wp2_with fail
  go_loopw [9, 10] (fun x i wr => ∃ k : Nat, k ≤ p.size ∧ i = .int .i64 k ∧ wr.ownsRow w3.heap.size 5 1 x ((xorL p.data.toList q.data.toList).take k).length (Lib.byteCells ((xorL p.data.toList q.data.toList).take k)) ∧ x ≠ .slice none 0 0 ∧ Below w3.heap.size w3 wr) (fun _ i _ => p.size - (intOf i).toNat)
  case atStart => exact ⟨0, Nat.zero_le _, rfl, by simpa [Lib.byteCells] using own_empty w3, by simp, (Below.refl _ _).alloc (Nat.le_refl _) _⟩
  case round =>
    obtain ⟨k, hle, rfl, hown, hnn, hbw⟩ := hrel
    by_cases hk : k < p.size
    · have hkq : k < q.size := by omega
      have bp := all_at allp k hk
      have bq := all_at allq k hkq
      have HT : Hid ((xorL p.data.toList q.data.toList).take (k + 1) = (xorL p.data.toList q.data.toList).take k ++ [xorc p[k] q[k]]) := xorL_at p q k hk hkq
      have HN : Hid (bits BinOp.xor IntKind.u8 (IntKind.u8.wrap (48 + IntKind.u8.wrap ((p[k].toNat : Int) - 48))) (IntKind.u8.wrap ((q[k].toNat : Int) - 48)) = ((xorc p[k] q[k]).toNat : Int)) := num_xor _ _ bp bq _ _ rfl rfl
      have hlk : ((xorL p.data.toList q.data.toList).take k).length ≤ 65536 := by rw [List.length_take]; omega
      have szw := hbw.size
      generalize (xorL p.data.toList q.data.toList).take k = acc at *
      go_wp2_with fail
      go_region_law (refine step_append_byte rfl _ _ rfl w3.heap.size _ acc rfl (by exact ownsRow_alloc hown _) ⟨wr.heap.size, 0, none⟩ (xorc p[k] q[k]) rfl (by exact (cell_new wr _ _).trans (congrArg (fun n => some (Value.int .u8 n)) HN.out)) (by omega) (by simp; omega) ?_; intro v' w' hown2 hg2; have b9 : Below w3.heap.size w3 w' := (hbw.alloc (by omega) _).drew.grown hg2 (by simp; omega) (fun k hk => own_lt hown k hk); clear hg2)
      all_goals
        go_wp2
        go_roundw
        case rel => exact ⟨k + 1, by omega, by go_num, by rw [HT.out]; exact hown2, own_nonil (by simpa using hown2), b9⟩
        case measure => simp [intOf]; omega
    · obtain rfl : k = p.size := by omega
      rw [show (xorL p.data.toList q.data.toList).take p.size = xorL p.data.toList q.data.toList from List.take_of_length_le (by omega)] at hown
      have hB := bytes_of_own hown
      obtain ⟨ad, cap, hv, hcell⟩ : ∃ ad cap, u9 = .slice (some ad) (xorL p.data.toList q.data.toList).length cap ∧ ∀ j (hj : j < (xorL p.data.toList q.data.toList).length), wr.cell? (ad.add j) = some (.int .u8 ((xorL p.data.toList q.data.toList)[j].toNat : Int)) := by
        obtain ⟨ao, cap, hv, h0, hc⟩ := hB
        cases ao with
        | none => exact absurd (by rw [hv, (h0 rfl).1, (h0 rfl).2]; rfl) hnn
        | some ad =>
          refine ⟨ad, cap, hv, fun j hj => ?_⟩
          obtain ⟨b, off, ha, _, hcell⟩ := hc j hj
          simp at ha
          rw [ha, add_off, hcell]
      subst hv
      have hback := run_convert_bytes_back (P := Try.prog) wr 22 9 5 ad cap (xorL p.data.toList q.data.toList) Try.underlying22 Try.underlying5 Try.underlying9 hcell
      clear hnn hown hB hcell hlx
      go_wp2_with fail
      refine (CRC_any _ _).mono ?_
      rintro e w5 ⟨rfl, b5⟩
      rw [show (⟨(xorL p.data.toList q.data.toList).toArray⟩ : ByteArray).data.toList = xorL p.data.toList q.data.toList from rfl, HXE.out, HXV.out, HX.out]
      have hxx : bits BinOp.xor IntKind.u16 (cp : Int) (cq : Int) = ((cp ^^^ cq : Nat) : Int) := u16_xor_nat _ _ (by omega) (by omega)
      go_wp2_with fail
      refine (lives_any _).mono ?_
      rintro e w6 ⟨rfl, b6⟩
      go_wp2
      go_ret
      have s1 := b1.size
      have s2 := b2.size
      have s3 := b3.size
      have s4 := hbw.size
      have s5 := b5.size
      exact ⟨rfl, ((((b1.trans (b2.mono (by omega))).trans (b3.mono (by omega))).trans (hbw.mono (by omega))).trans (b5.mono (by omega))).trans (b6.mono (by omega))⟩

set_option maxHeartbeats 1000000 in
theorem linear_le (a b : ByteArray) (w : World) (ha : err a.data.toList = 0) (hb : err b.data.toList = 0) (hgt : ¬ b.size < a.size) :
    Calls Try.prog 4 #[.string a, .string b] w fun e w' => e = .returned (.bool true) ∧ Below w.heap.size w w' := by
  obtain ⟨la, alla⟩ := err_zero ha
  obtain ⟨lb, allb⟩ := err_zero hb
  have hsa : a.size ≤ 65536 := by simpa using la
  have hsb : b.size ≤ 65536 := by simpa using lb
  have HA : Hid (err a.data.toList = 0) := ha
  have HB : Hid (err b.data.toList = 0) := hb
  have HCA : Hid (crcV a.data.toList = crc a.data.toList) := crcV_ok ha
  have HCB : Hid (crcV b.data.toList = crc b.data.toList) := crcV_ok hb
  clear ha hb la lb alla allb
  go_enter Try.func4, Try.ntmps4
  go_wp2_with fail
  refine (CRC_any a _).mono ?_
  rintro e w1 ⟨rfl, b1⟩
  rw [HA.out, HCA.out]
  go_wp2_with fail
  refine (CRC_any b _).mono ?_
  rintro e w2 ⟨rfl, b2⟩
  rw [HB.out, HCB.out]
  go_wp2_with fail
  have hf := tail_facts b a.size (by omega) HB.out
  refine (CRC_any _ _).mono ?_
  generalize b.extract (b.size - a.size) b.size = q at hf ⊢
  rintro e w3 ⟨rfl, b3⟩
  rw [hf.2, crcV_ok hf.2]
  obtain ⟨p, hpa⟩ : ∃ p, p = a := ⟨a, rfl⟩
  subst hpa
  have hpq : p.size = q.size := hf.1.symm
  have hp := HA.out
  have hq := hf.2
  clear hf HA HB HCA HCB
  have hnp : p.size ≤ 65536 := by omega
  obtain ⟨_, allp⟩ := err_zero hp
  obtain ⟨_, allq⟩ := err_zero hq
  have HX : Hid (crc (xorL p.data.toList q.data.toList) = crc p.data.toList ^^^ crc q.data.toList) := crc_xor _ _ (by rw [size_len, size_len]; exact hpq) allp allq
  have hxe := err_of _ (by rw [xorL_length _ _ (by rw [size_len, size_len]; exact hpq), size_len]; omega) (xorL_all p.data.toList q.data.toList)
  have HXE : Hid (err (xorL p.data.toList q.data.toList) = 0) := hxe
  have HXV : Hid (crcV (xorL p.data.toList q.data.toList) = crc (xorL p.data.toList q.data.toList)) := crcV_ok hxe
  have hcp := crc_lt p.data.toList
  have hcq := crc_lt q.data.toList
  have hlx : (xorL p.data.toList q.data.toList).length = p.size := by rw [xorL_length _ _ (by rw [size_len, size_len]; exact hpq), size_len]
  clear hxe hp hq
  generalize crc p.data.toList = cp at *
  generalize crc q.data.toList = cq at *
  go_wp2_with fail
  go_loopw [9, 10] (fun x i wr => ∃ k : Nat, k ≤ p.size ∧ i = .int .i64 k ∧ wr.ownsRow w3.heap.size 5 1 x ((xorL p.data.toList q.data.toList).take k).length (Lib.byteCells ((xorL p.data.toList q.data.toList).take k)) ∧ x ≠ .slice none 0 0 ∧ Below w3.heap.size w3 wr) (fun _ i _ => p.size - (intOf i).toNat)
  case atStart => exact ⟨0, Nat.zero_le _, rfl, by simpa [Lib.byteCells] using own_empty w3, by simp, (Below.refl _ _).alloc (Nat.le_refl _) _⟩
  case round =>
    obtain ⟨k, hle, rfl, hown, hnn, hbw⟩ := hrel
    by_cases hk : k < p.size
    · have hkq : k < q.size := by omega
      have bp := all_at allp k hk
      have bq := all_at allq k hkq
      have HT : Hid ((xorL p.data.toList q.data.toList).take (k + 1) = (xorL p.data.toList q.data.toList).take k ++ [xorc p[k] q[k]]) := xorL_at p q k hk hkq
      have HN : Hid (bits BinOp.xor IntKind.u8 (IntKind.u8.wrap (48 + IntKind.u8.wrap ((p[k].toNat : Int) - 48))) (IntKind.u8.wrap ((q[k].toNat : Int) - 48)) = ((xorc p[k] q[k]).toNat : Int)) := num_xor _ _ bp bq _ _ rfl rfl
      have hlk : ((xorL p.data.toList q.data.toList).take k).length ≤ 65536 := by rw [List.length_take]; omega
      have szw := hbw.size
      generalize (xorL p.data.toList q.data.toList).take k = acc at *
      go_wp2_with fail
      go_region_law (refine step_append_byte rfl _ _ rfl w3.heap.size _ acc rfl (by exact ownsRow_alloc hown _) ⟨wr.heap.size, 0, none⟩ (xorc p[k] q[k]) rfl (by exact (cell_new wr _ _).trans (congrArg (fun n => some (Value.int .u8 n)) HN.out)) (by omega) (by simp; omega) ?_; intro v' w' hown2 hg2; have b9 : Below w3.heap.size w3 w' := (hbw.alloc (by omega) _).drew.grown hg2 (by simp; omega) (fun k hk => own_lt hown k hk); clear hg2)
      all_goals
        go_wp2
        go_roundw
        case rel => exact ⟨k + 1, by omega, by go_num, by rw [HT.out]; exact hown2, own_nonil (by simpa using hown2), b9⟩
        case measure => simp [intOf]; omega
    · obtain rfl : k = p.size := by omega
      rw [show (xorL p.data.toList q.data.toList).take p.size = xorL p.data.toList q.data.toList from List.take_of_length_le (by omega)] at hown
      have hB := bytes_of_own hown
      obtain ⟨ad, cap, hv, hcell⟩ : ∃ ad cap, u9 = .slice (some ad) (xorL p.data.toList q.data.toList).length cap ∧ ∀ j (hj : j < (xorL p.data.toList q.data.toList).length), wr.cell? (ad.add j) = some (.int .u8 ((xorL p.data.toList q.data.toList)[j].toNat : Int)) := by
        obtain ⟨ao, cap, hv, h0, hc⟩ := hB
        cases ao with
        | none => exact absurd (by rw [hv, (h0 rfl).1, (h0 rfl).2]; rfl) hnn
        | some ad =>
          refine ⟨ad, cap, hv, fun j hj => ?_⟩
          obtain ⟨b, off, ha, _, hcell⟩ := hc j hj
          simp at ha
          rw [ha, add_off, hcell]
      subst hv
      have hback := run_convert_bytes_back (P := Try.prog) wr 22 9 5 ad cap (xorL p.data.toList q.data.toList) Try.underlying22 Try.underlying5 Try.underlying9 hcell
      clear hnn hown hB hcell hlx
      go_wp2_with fail
      refine (CRC_any _ _).mono ?_
      rintro e w5 ⟨rfl, b5⟩
      rw [show (⟨(xorL p.data.toList q.data.toList).toArray⟩ : ByteArray).data.toList = xorL p.data.toList q.data.toList from rfl, HXE.out, HXV.out, HX.out]
      have hxx : bits BinOp.xor IntKind.u16 (cp : Int) (cq : Int) = ((cp ^^^ cq : Nat) : Int) := u16_xor_nat _ _ (by omega) (by omega)
      go_wp2_with fail
      refine (lives_any _).mono ?_
      rintro e w6 ⟨rfl, b6⟩
      go_wp2
      go_ret
      have s1 := b1.size
      have s2 := b2.size
      have s3 := b3.size
      have s4 := hbw.size
      have s5 := b5.size
      exact ⟨rfl, ((((b1.trans (b2.mono (by omega))).trans (b3.mono (by omega))).trans (hbw.mono (by omega))).trans (b5.mono (by omega))).trans (b6.mono (by omega))⟩

theorem linear_walk (a b : ByteArray) (w : World) :
    Calls Try.prog 4 #[.string a, .string b] w fun e w' => e = .returned (.bool true) ∧ Below w.heap.size w w' := by
  by_cases ha : err a.data.toList = 0
  · by_cases hb : err b.data.toList = 0
    · by_cases hgt : b.size < a.size
      · exact linear_gt a b w ha hb hgt
      · exact linear_le a b w ha hb hgt
    · exact linear_bad a b w (.inr hb)
  · exact linear_bad a b w (.inl ha)
end Go.Proofs.Ytcpgpnilglbmoab
