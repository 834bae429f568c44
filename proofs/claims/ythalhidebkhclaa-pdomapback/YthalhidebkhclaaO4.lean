/- Contracts: Check, of the program. -/
import Derived.Test.YthalhidebkhclaaO3
import Derived.Test.YthalhidebkhclaaOw
import Derived.Maps.OwnSet
import Derived.Maps.Own
namespace Go.Proofs.Ythalhidebkhclaa
open Go.RowKit Go.Proofs.Ty Go.Maps Go.WideMaps
set_option linter.unusedVariables false
set_option maxRecDepth 1000000
set_option linter.unusedSimpArgs false
/-- What is wrong with entries, those ahead being these. -/
def chkG : List En → List En → Nat
  | _, [] => 0
  | s, e :: r => if e.can ≠ 0 then e.can else if s.any (fun x => x.pl == e.pl) then 5 else chkG (s ++ [e]) r
def chkL (l : List En) : Nat := if 1024 < l.length then 2 else chkG [] l
theorem chkG_step (l : List En) (k : Nat) (hk : k < l.length) : chkG (l.take k) (l.drop k) = if l[k].can ≠ 0 then l[k].can else if (l.take k).any (fun x => x.pl == l[k].pl) then 5 else chkG (l.take (k + 1)) (l.drop (k + 1)) := by
  rw [List.drop_eq_getElem_cons hk, chkG, List.take_succ_eq_append_getElem hk]
theorem sdE {w : World} {q : Nat} {c : Array Value} (h : w.heap[q]? = some (.cells c 59 (0, 0))) (hc : c.size = 14) {ops : Array Oper} {rest : List Oper} {o : Oper} {a : Act} {Q : Exit → Act → World → Prop} (e : En) (hgd : o.guard = none) (x y : Operand) (ho : o.op = .store 59 x y) (hx : a.eval x = .pointer (some ⟨q, 0, none⟩)) (hy : a.eval y = .agg e.arr)
    (hh : wpList Try.prog ops Q rest (a.put o.dst undef) (w.setRow q e.arr)) : wpList Try.prog ops Q (o :: rest) a w :=
  wpList_store_row hgd 59 x y ho q e.arr hx hy 59 c h (by show _ = some 14; exact infoE) (by rw [hc]; rfl) (all_oneCell_toArray e.one) hh
theorem Eb.row {w : World} {q : Nat} {c : Array Value} (h : w.heap[q]? = some (.cells c 59 (0, 0))) (e : En) : Eb q e (w.setRow q e.arr) := setRow_heap w q c _ 59 _ h
theorem lawP : Keyed Try.prog 89 := int_keyed Try.underlying89
theorem key_pl (k : Nat) (h : k < 16777216) : keyOf Try.prog 89 (.int .u32 k) = some (.int .u32 k) :=
  keyOf_int_mk Try.underlying89 (by simp [Lit.wf, IntKind.min, IntKind.max, IntKind.signed, IntKind.bits]; omega)
theorem run_makeMapP (w : World) : (Instr.makeMap 87 none).run Try.prog w = .ok (.map (some w.heap.size)) (w.alloc (.map #[] 0)) := by
  simp [Instr.makeMap, run_underlying Try.underlying87, Result.andThen]
theorem zeroI (w : World) : (zeroValue 3).run Try.prog w = .ok (.int .i64 0) w := by rfl
/-- Block b is a map that has just the places of these. -/
def Pm (w : World) (b n : Nat) (s : List En) : Prop := ∃ D : DataW Unit, w.ownsMap Try.prog 89 (plainElem Try.prog 3) b n D ∧ ∀ k : Nat, k < 16777216 → has D (.int .u32 k) = s.any (fun x => x.pl == k)
theorem Pm.look {w : World} {b n : Nat} {s : List En} (h : Pm w b n s) (e : En) : ∃ z, (Instr.lookup 87 (.map (some b)) (.int .u32 e.pl) true).run Try.prog w = .ok (.tuple #[z, .bool (s.any (fun x => x.pl == e.pl))]) w := by
  obtain ⟨D, h1, h2⟩ := h
  obtain ⟨v, ps, h3, h4⟩ := h1.look_ok lawP Try.underlying87 (zeroI w) (zd := .lit (.int .i64 0)) (zp := []) (plainElem_int Try.underlying3 (by rfl)) (key_pl e.pl e.pl_lt)
  exact ⟨v, by rw [h3, h2 e.pl e.pl_lt]⟩
theorem Pm.put {w : World} {b n : Nat} {s : List En} (h : Pm w b n s) (e : En) (k : Nat) (hk : k < 2000) (hn : n < 2000) : ∃ w', (Instr.mapUpdate 87 (.map (some b)) (.int .u32 e.pl) (.int .i64 k)).run Try.prog w = .ok () w' ∧ Pm w' b (n + 1) (s ++ [e]) ∧ w.mapTurned w' b := by
  obtain ⟨D, h1, h2⟩ := h
  obtain ⟨w', h3, h4, h5⟩ := World.ownsMap.store h1 lawP Try.underlying87 (by unfold maxLen; omega) (key_pl e.pl e.pl_lt) (plainElem_int (e := 3) (q := .i64) (a := (k : Int)) Try.underlying3 (by simp [Lit.wf, IntKind.min, IntKind.max, IntKind.signed, IntKind.bits]; omega))
  refine ⟨w', h3, ⟨_, h4, fun j hj => ?_⟩, h5⟩
  by_cases hjk : j = e.pl
  · subst hjk
    rw [has_put_same h1.isMap (by simp [WideAt.IsKeyLit])]
    simp
  · rw [has_put_other (by simp; omega), h2 j hj]
    rw [List.any_append]
    simp
    omega
theorem Pm.new (w : World) : Pm (w.alloc (.map #[] 0)) w.heap.size 0 [] := ⟨_, World.ownsMap_made w _ _ _, fun k _ => rfl⟩
theorem Pm.kept {w w' : World} {b n : Nat} {s : List En} {row : Option Nat} (h : Pm w b n s) (hg : w.grownBy w' row) (hne : some b ≠ row) : Pm w' b n s := by
  obtain ⟨D, h1, h2⟩ := h
  exact ⟨D, h1.kept hg hne, h2⟩
theorem Pm.lt {w : World} {b n : Nat} {s : List En} (h : Pm w b n s) : b < w.heap.size := h.choose_spec.1.lt
theorem gb_none {w w' : World} (hb : Below w.heap.size w w') : w.grownBy w' none := ⟨hb.os, hb.tape, hb.output, hb.size, fun k hk _ => hb.block k hk⟩
set_option maxHeartbeats 4000000 in
theorem oCheck_any (v : Value) (l : List En) (w : World) (hW : Wide 14 enC w v l) (hn : l.length ≤ 4000000000000) :
    Calls Try.prog 17 #[v] w fun x w' => x = .returned (.int .i64 (chkL l)) ∧ Below w.heap.size w w' := by
  have HR : Hid (chkL l = if 1024 < l.length then 2 else chkG (l.take 0) (l.drop 0)) := rfl
  generalize chkL l = R at *
  obtain ⟨ao, cp, rfl, _, hc⟩ := hW
  have HC : Hid (∀ (wr : World), Below w.heap.size w wr → ∀ k (hk : k < l.length), ∃ b off, ao = some ⟨b, off, none⟩ ∧ b < w.heap.size ∧ wr.rangeAt b (off + k * 14) (enC l[k])) := fun wr hb k hk => Wide.at hc hb k hk
  have hmk := run_makeMapP
  clear hc
  go_enter Try.func17, Try.ntmps17
  by_cases h1 : 1024 < l.length
  · have d1 : decide ((1024 : Int) < (l.length : Int)) = true := by simp; omega
    have e1 := hidOf2 (show R = 2 by rw [HR.out, if_pos h1])
    clear HR
    go_wp2
    go_ret
    exact ⟨ret_int (by rw [e1.out]; rfl), Below.refl _ _⟩
  · have d1 : decide ((1024 : Int) < (l.length : Int)) = false := by simp; omega
    rw [if_neg h1] at HR
    have hL : l.length ≤ 1024 := by omega
    clear h1
    go_wp2
    go_loopw [16] (fun i x => ∃ k : Nat, k ≤ l.length ∧ i = .int .i64 k ∧ Pm x w.heap.size k (l.take k) ∧ Hid (R = chkG (l.take k) (l.drop k)) ∧ Below w.heap.size w x) (fun i _ => l.length - (intOf i).toNat)
    case atStart => exact ⟨0, Nat.zero_le _, rfl, Pm.new w, HR, (Below.refl _ _).alloc (Nat.le_refl _) _⟩
    case round =>
      clear HR
      obtain ⟨k, hk, rfl, PM, HR, B1⟩ := hrel
      by_cases hkl : k < l.length
      · obtain ⟨b, off, rfl, hb, hR⟩ := HC.out wr B1 k hkl
        have HS := hidOf2 (HR.out.trans (chkG_step l k hkl))
        have HT := hidOf2 (List.take_succ_eq_append_getElem hkl).symm
        generalize l[k] = e at *
        clear HR
        obtain ⟨q, hq⟩ : ∃ q, wr.heap.size = q := ⟨_, rfl⟩
        have hh : (wr.alloc (.cells #[.int .u16 0, .int .u8 0, .int .i64 0, .bool false, .bool false, .int .i64 0, .int .u64 0, .string ⟨#[]⟩, .int .i64 0, .int .u64 0, .string ⟨#[]⟩, .int .i64 0, .int .u64 0, .string ⟨#[]⟩] 59)).heap[q]? = some (.cells #[.int .u16 0, .int .u8 0, .int .i64 0, .bool false, .bool false, .int .i64 0, .int .u64 0, .string ⟨#[]⟩, .int .i64 0, .int .u64 0, .string ⟨#[]⟩, .int .i64 0, .int .u64 0, .string ⟨#[]⟩] 59 (0, 0)) := by rw [← hq]; exact heap_alloc_new _ _
        have hE := Eb.row hh e
        have BA : Below w.heap.size w (wr.alloc (.cells #[.int .u16 0, .int .u8 0, .int .i64 0, .bool false, .bool false, .int .i64 0, .int .u64 0, .string ⟨#[]⟩, .int .i64 0, .int .u64 0, .string ⟨#[]⟩, .int .i64 0, .int .u64 0, .string ⟨#[]⟩] 59)) := B1.alloc B1.size _
        have hnq : some w.heap.size ≠ some q := fun h => by have := PM.lt; injection h; omega
        have PA := (PM.kept (World.grownBy_alloc wr (.cells #[.int .u16 0, .int .u8 0, .int .i64 0, .bool false, .bool false, .int .i64 0, .int .u64 0, .string ⟨#[]⟩, .int .i64 0, .int .u64 0, .string ⟨#[]⟩, .int .i64 0, .int .u64 0, .string ⟨#[]⟩] 59) none) (by simp)).kept (setRow_kept _ q e.arr) hnq
        have BB := below_row BA (by rw [← hq]; exact B1.size) (by rw [size_alloc]; have := B1.size; omega) (q := q) e.arr
        go_upto_region 7 with (first | (refine ldE hR rfl _ rfl rfl ?_) | (refine sdE hh rfl e rfl _ _ rfl rfl rfl ?_))
        try simp only [hq]
        generalize ((wr.alloc (.cells #[.int .u16 0, .int .u8 0, .int .i64 0, .bool false, .bool false, .int .i64 0, .int .u64 0, .string ⟨#[]⟩, .int .i64 0, .int .u64 0, .string ⟨#[]⟩, .int .i64 0, .int .u64 0, .string ⟨#[]⟩] 59)).setRow q e.arr) = W1 at *
        clear hh BA hR B1 PM hq
        have r0 := hE.r0
        have hCn := can_any e W1
        have hs1 := BB.size
        go_wp2_with (first | (refine ldE r0 rfl _ rfl rfl ?_))
        refine hCn.mono ?_
        rintro x w2 ⟨rfl, b2⟩
        have hE2 := hE.below b2
        have P2 := PA.kept (gb_none b2) (by simp)
        have B2 := BB.trans (b2.mono BB.size)
        clear hE PA BB b2 r0 hCn
        by_cases hcz : e.can = 0
        · rw [if_neg (by rw [hcz]; simp)] at HS
          rw [hcz]
          obtain ⟨c0, c1, _⟩ := hE2.c
          have hpo := placeOf_any e.ix e.sb e.hix e.hsb
          rw [show e.ix * 256 + e.sb = e.pl from rfl] at hpo
          obtain ⟨z, hlk⟩ := P2.look e
          have HPU := hidOf2 (P2.put e k (by omega) (by omega))
          cases hany : (l.take k).any (fun x => x.pl == e.pl)
          · rw [hany, if_neg (by simp)] at HS
            rw [hany] at hlk
            obtain ⟨w3, hmu, P3, T3⟩ := HPU.out
            rw [HT.out] at P3
            have B3 := B2.grown T3.grown B2.size (fun j hj => by cases hj; exact Nat.le_refl _)
            clear HPU hany P2
            generalize e.pl = PL at *
            go_wp2_with (first | (go_at_call 34; refine (hpo _).mono ?_; rintro x w4 ⟨rfl, rfl⟩))
            go_roundw
            case rel => exact ⟨k + 1, by omega, by go_num, P3, HS, B3⟩
            case measure => simp [intOf]; omega
          · rw [hany, if_pos rfl] at HS
            rw [hany] at hlk
            clear HPU hany P2
            generalize e.pl = PL at *
            go_wp2_with (first | (go_at_call 34; refine (hpo _).mono ?_; rintro x w4 ⟨rfl, rfl⟩))
            go_ret
            exact ⟨ret_int (by rw [HS.out]; rfl), B2⟩
        · have d1 : ((e.can : Int) != 0) = true := by simpa using hcz
          rw [if_pos hcz] at HS
          generalize e.can = CN at *
          go_wp2
          go_ret
          exact ⟨ret_int (by rw [HS.out]), B2⟩
      · have e1 := hidOf2 (show R = 0 by rw [HR.out, List.drop_eq_nil_of_le (by omega)]; rfl)
        clear HR
        go_wp2
        go_ret
        exact ⟨ret_int (by rw [e1.out]; rfl), B1⟩
end Go.Proofs.Ythalhidebkhclaa
