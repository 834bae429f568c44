/- The document's sender: Begin and Feed. -/
import Derived.Test.YtebjofkblfmkmaaBkH2
import Derived.Test.YtebjofkblfmkmaaBkN2
namespace Go.Proofs.Ytebjofkblfmkmaa
open Go.RowKit Go.Proofs.Ty Go.Proofs.Bits
set_option linter.unusedVariables false
set_option maxRecDepth 1000000
set_option linter.unusedSimpArgs false
theorem wp_bs1 {o : Oper} {a : Act} {w : World} {K : Act → World → Prop} {Q : Exit → Act → World → Prop} (f : F8) (x : Operand) (ho : o.op = .buildSlice 23 1 #[(0, x)]) (hx : a.eval x = .agg f.arr)
    (h : K (a.put o.dst (.slice (some ⟨w.heap.size, 0, none⟩) 1 1)) (w.alloc (.cells f.arr 30))) : o.wp Try.prog a w K Q := by
  obtain ⟨i0, hi, hz0, hz1, hz2⟩ := info_parts info8
  refine wp_buildSlice 23 30 1 _ ho f.arr i0 _ Try.underlying23 hi hz0 (by rw [hz1]; decide) (by rw [hz1]; decide) ?_ h
  rw [hz1]
  have := Go.Great.fill_whole (by decide : 0 < 8) [Value.agg f.arr] ((Array.range (1 * 8)).map ((Value.agg zA8).cells[· % (Value.agg zA8).cells.size]!)) (by intro v hv; simp at hv; subst hv; rfl) (by simp)
  simpa [hx, Value.cells, F8.arr] using this
theorem exec_convI {a : Act} {o : Oper} {x : Operand} {m : Nat} (ho : o.op = .convert 5 3 x) (hx : a.eval x = .int .u8 (m : Int)) (hm : m < 256) (w : World) : (execOp a.eval o).run Try.prog w = .ok (.value (.int .i64 (m : Int))) w := by
  unfold execOp
  simp only [ho, hx]
  have e : IntKind.i64.wrap (m : Int) = (m : Int) := by simp [IntKind.wrap, IntKind.bits, IntKind.signed]; omega
  simp [go_sem, run_underlying Try.underlying3, run_underlying Try.underlying5, e]
theorem exec_addI {a : Act} {o : Oper} {x y : Operand} {m n : Nat} (ho : o.op = .binOp .add 3 x y 3) (hx : a.eval x = .int .i64 (m : Int)) (hy : a.eval y = .int .i64 (n : Int)) (hm : m < 1000000) (hn : n < 1000000) (w : World) : (execOp a.eval o).run Try.prog w = .ok (.value (.int .i64 ((m : Int) + (n : Int)))) w := by
  unfold execOp
  simp only [ho, hx, hy]
  have e : IntKind.i64.wrap ((m : Int) + (n : Int)) = (m : Int) + (n : Int) := by simp [IntKind.wrap, IntKind.bits, IntKind.signed]; omega
  simp [go_sem, run_underlying Try.underlying3, e]
theorem exec_7mul {a : Act} {o : Oper} {x y : Operand} {m : Nat} (ho : o.op = .binOp .mul 3 x y 3) (hx : a.eval x = .int .i64 7) (hy : a.eval y = .int .i64 (m : Int)) (h : m < 100000) (w : World) : (execOp a.eval o).run Try.prog w = .ok (.value (.int .i64 ((7 * m : Nat) : Int))) w := by
  unfold execOp
  simp only [ho, hx, hy]
  have e : IntKind.i64.wrap (7 * (m : Int)) = ((7 * m : Nat) : Int) := by simp [IntKind.wrap, IntKind.bits, IntKind.signed]; omega
  simp [go_sem, run_underlying Try.underlying3, e]
theorem exec_4mul {a : Act} {o : Oper} {x y : Operand} {m : Nat} (ho : o.op = .binOp .mul 5 x y 5) (hx : a.eval x = .int .u8 4) (hy : a.eval y = .int .u8 (m : Int)) (h : m < 8) (w : World) : (execOp a.eval o).run Try.prog w = .ok (.value (.int .u8 ((4 * m : Nat) : Int))) w := by
  unfold execOp
  simp only [ho, hx, hy]
  have e : IntKind.u8.wrap (4 * (m : Int)) = ((4 * m : Nat) : Int) := by simp [IntKind.wrap, IntKind.bits, IntKind.signed]; omega
  simp [go_sem, run_underlying Try.underlying5, e]
theorem exec_193 {a : Act} {o : Oper} {x y : Operand} {m : Nat} (ho : o.op = .binOp .add 5 x y 5) (hx : a.eval x = .int .u8 193) (hy : a.eval y = .int .u8 ((4 * m : Nat) : Int)) (h : m < 8) (w : World) : (execOp a.eval o).run Try.prog w = .ok (.value (.int .u8 ((193 + 4 * m : Nat) : Int))) w := by
  unfold execOp
  simp only [ho, hx, hy]
  have e : IntKind.u8.wrap (193 + ((4 * m : Nat) : Int)) = ((193 + 4 * m : Nat) : Int) := by simp [IntKind.wrap, IntKind.bits, IntKind.signed]; omega
  have e2 : IntKind.u8.wrap (193 + 4 * (m : Int)) = 193 + 4 * (m : Int) := by simp [IntKind.wrap, IntKind.bits, IntKind.signed]; omega
  simp [go_sem, run_underlying Try.underlying5, e2]
theorem exec_rem256 {a : Act} {o : Oper} {x y : Operand} {m : Nat} (ho : o.op = .binOp .rem 54 x y 54) (hx : a.eval x = .int .u16 (m : Int)) (hy : a.eval y = .int .u16 256) (h : m < 65536) (w : World) : (execOp a.eval o).run Try.prog w = .ok (.value (.int .u16 ((m : Int) % 256))) w := by
  unfold execOp
  simp only [ho, hx, hy]
  have e : Int.tmod (m : Int) 256 = (m : Int) % 256 := Int.tmod_eq_emod_of_nonneg (by omega)
  have e2 : IntKind.u16.wrap ((m : Int) % 256) = (m : Int) % 256 := by simp [IntKind.wrap, IntKind.bits, IntKind.signed]; omega
  simp [go_sem, run_underlying Try.underlying54, e, e2]
theorem exec_quo256 {a : Act} {o : Oper} {x y : Operand} {m : Nat} (ho : o.op = .binOp .quo 54 x y 54) (hx : a.eval x = .int .u16 (m : Int)) (hy : a.eval y = .int .u16 256) (h : m < 65536) (w : World) : (execOp a.eval o).run Try.prog w = .ok (.value (.int .u16 ((m : Int) / 256))) w := by
  unfold execOp
  simp only [ho, hx, hy]
  have e : Int.tdiv (m : Int) 256 = (m : Int) / 256 := Int.tdiv_eq_ediv_of_nonneg (by omega)
  have e2 : IntKind.u16.wrap ((m : Int) / 256) = (m : Int) / 256 := by simp [IntKind.wrap, IntKind.bits, IntKind.signed]; omega
  simp [go_sem, run_underlying Try.underlying54, e, e2]
theorem exec_convUU {a : Act} {o : Oper} {x : Operand} {m : Int} (ho : o.op = .convert 54 5 x) (hx : a.eval x = .int .u16 m) (h0 : 0 ≤ m) (hm : m < 256) (w : World) : (execOp a.eval o).run Try.prog w = .ok (.value (.int .u8 m)) w := by
  unfold execOp
  simp only [ho, hx]
  have e : IntKind.u8.wrap m = m := by simp [IntKind.wrap, IntKind.bits, IntKind.signed]; omega
  simp [go_sem, run_underlying Try.underlying54, run_underlying Try.underlying5, e]
theorem exec_buildE {a : Act} {o : Oper} {x y t : Operand} {p r s : Int} (ho : o.op = .build 30 #[(0, x), (1, y), (2, t)]) (hx : a.eval x = .int .u8 p) (hy : a.eval y = .int .u8 r) (hz : a.eval t = .int .u8 s) (f : F8) (hf : f.arr = #[.int .u8 p, .int .u8 r, .int .u8 s, .int .u8 0, .int .u8 0, .int .u8 0, .int .u8 0, .int .u8 0]) (w : World) : (execOp a.eval o).run Try.prog w = .ok (.value (.agg f.arr)) w := by
  have hr := build_a3 w p r s
  rw [← hf] at hr
  unfold execOp
  simp [ho, hx, hy, hz, hr]
theorem exec_lenB0 {a : Act} {o : Oper} {x : Operand} {ao : Option Addr} {L cap : Nat} (ho : o.op = .call { callee := .builtin .len, args := #[x], argTypes := #[22] }) (hx : a.eval x = .slice ao L cap) (w : World) : (execOp a.eval o).run Try.prog w = .ok (.value (.int .i64 (L : Int))) w := by
  unfold execOp
  simp only [ho, resolve, invoke, builtin, Sem.run_bind, Sem.run_pure, Result.andThen_ok, List.map_toArray, List.map_cons, List.map_nil, hx]
  simp [Builtin.len_, Builtin.lenOf, go_sem]
/-- The beginning of a row of one's own. -/
theorem wp_loadR0 {o : Oper} {a : Act} {w : World} {K : Act → World → Prop} {Q : Exit → Act → World → Prop} {ty : TypeId} {x : Operand} {ad : Addr} {v : Value} (ho : o.op = .load ty x) (hx : a.eval x = .pointer (some ad)) (hr : (loadVar ty ad).run Try.prog w = .ok v w) (h : K (a.put o.dst v) w) : o.wp Try.prog a w K Q := by
  unfold Oper.wp
  rw [exec_load ho hx hr]
  exact h
/-- What the document's sender tells, and how it is then. -/
def DPost (w : World) (D : Nat) (bs : List UInt8) (ao : Option Addr) (cp : Nat) (r : List F8 × Sn) (e : Ending) (w' : World) : Prop :=
  ∃ v at1 many1, e = .returned v ∧ Lf w.heap.size w' v r.1 ∧ Dd D bs ao cp at1 many1 r.2.st r.2.cd w' ∧ (r.2.st ≠ 3 → r.2.bs = bs ∧ r.2.cm = at1 ∧ r.2.sn = many1 ∧ r.2.cd = 0) ∧ Kp [D] w w'
theorem enAll : ∀ args x, (callFunc 31 args).run Try.prog x = .ok (.enter 31 args) x := fun _ _ => by rfl
section
variable {D : Nat} {bs : List UInt8} {ao : Option Addr} {cp at0 many wt cd : Nat} {s : Sn} {w x : World}
theorem DPost.give (V : World) (hK : Kp [D] w V) (hV : Dd D bs ao cp at0 many wt cd V) (c : Nat) (hc : c < 4294967296) : Calls Try.prog 30 #[.pointer (some ⟨D, 0, none⟩), .int .u32 (c : Int)] V fun e w' => ∃ v, e = .returned v ∧ DPost w D bs ao cp (sGive c) (.returned v) w' :=
  (dgives_any hV c hc).mono fun e w' ⟨v, he, hl, hs, hk⟩ => ⟨v, he, v, at0, many, rfl, hl.low hK.size, hs, fun h => absurd rfl h, hK.trans hk⟩
theorem dBegin_any (h : Dd D bs ao cp 0 0 0 0 w) (size : Nat) (h1 : 1 ≤ size) (h2 : size ≤ 127) : Calls Try.prog 10 #[.pointer (some ⟨D, 0, none⟩), .int .i64 (size : Int)] w fun e w' => ∃ v, e = .returned (.tuple #[v, .int .i64 0]) ∧ Lf w.heap.size w' v (blkF bs 0 size) ∧ Dd D bs ao cp 0 (min size (segs bs.length - 0)) 1 0 w' ∧ Kp [D] w w' := by
  have y3 : w.cell? ⟨D, 3, none⟩ = some (.int .i64 0) := h.c3
  have f3 := h.fr 3
  have HX : Hid (∀ Z, Z = w.setCell ⟨D, 3, none⟩ (.int .i64 1) → Dd D bs ao cp 0 0 1 0 Z ∧ Kp [D] w Z) := fun Z hZ => by
    subst hZ
    exact ⟨h.set 3 _ (by simp [dsA]), Kp.cell1 _ _ _ _⟩
  have HB : Hid (∀ y, Dd D bs ao cp 0 0 1 0 y → Calls Try.prog 28 #[.pointer (some ⟨D, 0, none⟩), .int .i64 (size : Int)] y fun e w' => ∃ v, e = .returned v ∧ Lf y.heap.size w' v (blkF bs 0 size) ∧ Dd D bs ao cp 0 (min size (segs bs.length - 0)) 1 0 w' ∧ Kp [D] y w') := fun y hy => dblock_any hy (segs_pos _) size h1 h2
  go_enter Try.func10, Try.ntmps10
  go_upto_region 6 with fail
  obtain ⟨X, hX⟩ : ∃ X, w.setCell ⟨D, 3, none⟩ (.int .i64 1) = X := ⟨_, rfl⟩
  rw [hX]
  obtain ⟨sX, kX⟩ := HX.out X hX.symm
  have hB := HB.out X sX
  have HK := hidOf2 kX
  clear HX HB hX sX kX y3 f3
  go_wp2_with (go_at_call 28; refine hB.mono ?_; rintro e w1 ⟨v, rfl, hl, hs, hk⟩)
  go_ret2
  exact ⟨v, rfl, hl.low HK.out.size, hs, HK.out.trans hk⟩
theorem dBegin_bad (h : Dd D bs ao cp at0 many 0 cd w) (z : Int) (hz : ¬ (1 ≤ z ∧ z ≤ 127)) : Calls Try.prog 10 #[.pointer (some ⟨D, 0, none⟩), .int .i64 z] w fun e w' => e = .returned (.tuple #[.slice none 0 0, .int .i64 1]) ∧ w' = w := by
  have y3 : w.cell? ⟨D, 3, none⟩ = some (.int .i64 0) := h.c3
  by_cases h1 : z < 1
  · have d1 : decide (z < 1) = true := by simp; omega
    go_enter Try.func10, Try.ntmps10
    go_wp2
    go_ret2
    exact ⟨rfl, rfl⟩
  · have d1 : decide (z < 1) = false := by simp; omega
    have d2 : decide (127 < z) = true := by simp; omega
    go_enter Try.func10, Try.ntmps10
    go_wp2
    go_ret2
    exact ⟨rfl, rfl⟩
set_option maxHeartbeats 8000000 in
theorem dFeed_any (h : Dd D bs ao cp at0 many s.st s.cd w) (hrl : s.st ≠ 3 → s.bs = bs ∧ s.cm = at0 ∧ s.sn = many ∧ s.cd = 0) (hok : s.Ok) (a : F8) : Calls Try.prog 12 #[.pointer (some ⟨D, 0, none⟩), .agg a.arr] w fun e w' => DPost w D bs ao cp (sFeed s a) e w' := by
  obtain ⟨V, hV⟩ : ∃ V, w.alloc (.cells a.arr 30) = V := ⟨_, rfl⟩
  have b0 : Below w.heap.size w V := by rw [← hV]; exact (Below.refl _ _).alloc (Nat.le_refl _) _
  obtain ⟨q, hq⟩ : ∃ q, w.heap.size = q := ⟨_, rfl⟩
  have q0 : Qb q a V := by rw [← hV, ← hq]; exact Qb.new w a
  have s0 := h.below b0
  have y3 := s0.c3
  have x0 := q0.c0
  have l0 := a.b0.toNat_lt
  have l1 := a.b1.toNat_lt
  have l2 := a.b2.toNat_lt
  have hst := hok.st
  have HS := hidOf2 s0
  have HK := hidOf2 (Kp.of_below (bs := [D]) b0)
  have HQ := hidOf2 q0
  have HR : Hid (sFeed s a = if s.st = 0 ∨ s.st = 3 then ([], s)
    else if a.b0.toNat / 32 = 4 then ([], .fin (num4 a))
    else if s.st = 1 then sAns s a
    else if a.b0.toNat ≠ 161 then sGive 84148225
    else ([], .fin 0)) := rfl
  generalize sFeed s a = RS at *
  by_cases c0 : s.st = 0 ∨ s.st = 3
  · have HP : Hid (DPost w D bs ao cp RS (.returned (.slice none 0 0)) V) := by
      show DPost _ _ _ _ _ _ _ _
      rw [HR.out, if_pos c0]
      exact ⟨_, at0, many, rfl, Lf.nil _ _, HS.out, hrl, HK.out⟩
    clear HR s0 b0 q0 HS HK h hok
    rcases c0 with c0 | c0
    · have d : ((s.st : Int) == 0) = true := by simp; omega
      go_enter Try.func12, Try.ntmps12
      go_wp2
      go_ret
      exact HP.out
    · have d : ((s.st : Int) == 0) = false := by simp; omega
      have d3 : ((s.st : Int) == 3) = true := by simp; omega
      go_enter Try.func12, Try.ntmps12
      go_wp2
      go_ret
      exact HP.out
  · have d0 : ((s.st : Int) == 0) = false := by simp; omega
    have d3 : ((s.st : Int) == 3) = false := by simp; omega
    obtain ⟨e1, e2, e3, e4⟩ := hrl (fun e => c0 (.inr e))
    by_cases c1 : a.b0.toNat / 32 = 4
    · have d4 : ((a.b0.toNat : Int) / 32 == 4) = true := by simp; omega
      have lq := q0.load
      have hC := dnumber_any a V
      have hN := num4_lt a
      have HX : Hid (∀ y, Below V.heap.size V y → ∀ Z, Z = (y.setCell ⟨D, 3, none⟩ (.int .i64 3)).setCell ⟨D, 4, none⟩ (.int .u32 (num4 a : Nat)) → DPost w D bs ao cp RS (.returned (.slice none 0 0)) Z) := fun y hy Z hZ => by
        subst hZ
        have h1 := (HS.out.below hy).set (at1 := at0) (many1 := many) (wt1 := 3) (cd1 := s.cd) 3 (.int .i64 3) (by simp [dsA])
        have h2 := h1.set (at1 := at0) (many1 := many) (wt1 := 3) (cd1 := num4 a) 4 (.int .u32 (num4 a : Nat)) (by simp [dsA])
        show DPost _ _ _ _ _ _ _ _
        rw [HR.out, if_neg c0, if_pos c1]
        exact ⟨_, at0, many, rfl, Lf.nil _ _, h2, fun e => absurd rfl e, ((HK.out.trans (Kp.of_below hy)).trans (Kp.cell1 _ D 3 _)).trans (Kp.cell1 _ D 4 _)⟩
      clear HR s0 b0 q0 h hok c1 c0 hrl
      generalize num4 a = N at *
      go_enter Try.func12, Try.ntmps12
      go_wp2_with (first | (refine ldG lq rfl _ rfl rfl ?_) | (go_at_call 29; refine hC.mono ?_; rintro e w1 ⟨rfl, b1⟩; have y3 := (HS.out.below b1).c3; have y4 := (HS.out.below b1).c4; have f3 := (HS.out.below b1).fr 3; have f4 := (HS.out.below b1).fr 4; have HX := hidOf2 (HX.out w1 b1); clear b1))
      go_ret
      exact HX.out _ rfl
    · have d4 : ((a.b0.toNat : Int) / 32 == 4) = false := by simp; omega
      have HGV : Hid (∀ c : Nat, c < 4294967296 → RS = sGive c → ∀ y, Kp [D] w y → ∀ at1 many1 wt1 cd1, Dd D bs ao cp at1 many1 wt1 cd1 y → Calls Try.prog 30 #[.pointer (some ⟨D, 0, none⟩), .int .u32 (c : Int)] y fun e w' => ∃ v, e = .returned v ∧ DPost w D bs ao cp RS (.returned v) w') := fun c hc e y hk at1 many1 wt1 cd1 hy => by
        rw [e]
        exact DPost.give y hk hy c hc
      by_cases c2 : s.st = 1
      · have d1 : ((s.st : Int) == 2) = false := by simp; omega
        have eR : RS = sAns s a := by rw [HR.out, if_neg c0, if_neg c1, if_pos c2]
        have hle : s.cm + s.sn ≤ segs s.bs.length := hok.le.resolve_right (fun e => e c2)
        have hsn := hok.sn
        have hbl := h.bl
        have hsl := segs_le bs.length
        have hge := segs_ge bs.length
        have hsp := segs_sp bs.length
        rw [e1, e2, e3] at hle
        rw [e3] at hsn
        have HA : Hid (RS = if a.b0.toNat ≠ 162 then sGive 84148225
          else if many < a.b1.toNat then sGive 84148227
          else if ¬ (1 ≤ a.b2.toNat ∧ a.b2.toNat ≤ 127) then sGive 84148226
          else if at0 + a.b1.toNat < segs bs.length then (blkF bs (at0 + a.b1.toNat) a.b2.toNat, ⟨1, bs, at0 + a.b1.toNat, min a.b2.toNat (segs bs.length - (at0 + a.b1.toNat)), 0⟩)
          else ([endF bs], ⟨2, bs, at0 + a.b1.toNat, many, 0⟩)) := by
          show _ = _
          rw [eR, ← e1, ← e2, ← e3, ← e4]
          rfl
        have x1 := q0.c1
        have x2 := q0.c2
        have y2 := s0.c2
        have y1 := s0.c1
        have f1 := s0.fr 1
        have HSn : Hid (∀ n, Dd D bs ao cp at0 many 1 0 (V.drewN n)) := fun n => by have := s0.drawn n; rwa [c2, e4] at this
        have HKn : Hid (∀ n, Kp [D] w (V.drewN n)) := fun n => HK.out.trans (Kp.drawn _ _ _)
        have HXn : Hid (∀ n, (V.drewN n).cell? ⟨q, 1, none⟩ = some (.int .u8 (a.b1.toNat : Int))) := fun n => x1
        clear HR eR s0 b0 q0 h hok c1 c0 hrl e1 e2 e3 e4 HS
        generalize a.b0.toNat = a0 at *
        generalize a.b1.toNat = a1 at *
        generalize a.b2.toNat = a2 at *
        generalize a.arr = A at *
        by_cases b162 : a0 = 162
        · have d5 : ((a0 : Int) != 162) = false := by simp; omega
          by_cases bmany : many < a1
          · have d6 : decide ((many : Int) < (a1 : Int)) = true := by simp; omega
            have hG := fun n => HGV.out 84148227 (by decide) (by rw [HA.out, if_neg (by simpa using b162), if_pos bmany]) _ (HKn.out n) _ _ _ _ (HSn.out n)
            clear HA HGV
            go_enter Try.func12, Try.ntmps12
            go_upto_region 13 with fail
            go_quiet (fail)
            have hG := hG nq
            go_wp2_with (go_at_call 30; refine hG.mono ?_; rintro e w1 ⟨v, rfl, hp⟩)
            go_ret
            exact hp
          · have d6 : decide ((many : Int) < (a1 : Int)) = false := by simp; omega
            by_cases bsz : 1 ≤ a2 ∧ a2 ≤ 127
            · have d7 : ((a2 : Int) == 0) = false := by simp; omega
              have d8 : decide ((127 : Int) < (a2 : Int)) = false := by simp; omega
              go_enter Try.func12, Try.ntmps12
              go_upto_region 13 with fail
              go_quiet (fail)
              have HX : Hid (∀ Z, Z = (V.drewN nq).drew.setCell ⟨D, 1, none⟩ (.int .i64 ((at0 : Int) + (a1 : Int))) → Dd D bs ao cp (at0 + a1) many 1 0 Z ∧ Kp [D] w Z) := fun Z hZ => by
                subst hZ
                exact ⟨(HSn.out (nq + 1)).set 1 _ (by simp [dsA]), (HKn.out (nq + 1)).trans (Kp.cell1 _ _ _ _)⟩
              have S0 : (fun y : World => y.cell? ⟨D, 1, none⟩ = some (.int .i64 (at0 : Int)) ∧ y.cell? ⟨q, 1, none⟩ = some (.int .u8 (a1 : Int))) (V.drewN nq).drew := ⟨y1, x1⟩
              have y1d : (V.drewN nq).drew.cell? ⟨D, 1, none⟩ = some (.int .i64 (at0 : Int)) := y1
              have f1d : (V.drewN nq).drew.frozen? ⟨D, 1, none⟩ = false := f1
              have hq1 : q ≠ D := by
                rintro rfl
                have := HQ.out
                have h2 := (HSn.out 0).hd
                unfold Qb at this
                rw [show (V.drewN 0).heap[q]? = V.heap[q]? from rfl, this] at h2
                simp at h2
              have SX : (fun y : World => True) ((V.drewN nq).drew.setCell ⟨D, 1, none⟩ (.int .i64 ((at0 : Int) + (a1 : Int)))) := trivial
              have ha0 : at0 < 1000000 := by omega
              have ha1 : a1 < 1000000 := by omega
              have la1 : a1 < 256 := l1
              go_upto_region 17 with fail
              refine wp_region_held (S := fun y : World => y.cell? ⟨q, 1, none⟩ = some (.int .u8 (a1 : Int))) (by kernel_rfl) ?_
              change wpAnyH _ _ _ _ _ _ _ _ (V.drewN nq).drew
              refine wpAnyH_take (i := 0) (v := (.pointer (some ⟨D, 0, none⟩))) rfl (by kernel_rfl) (by kernel_rfl) (by kernel_rfl) (fun _ _ _ h => h) (.inl ⟨rfl, fun _ hS => rfl⟩) S0.2 ?_
              simp only [List.getElem_toArray, List.getElem_cons_succ, List.getElem_cons_zero, Act.put, List.setIfInBounds_toArray, List.set_cons_succ, List.set_cons_zero]
              refine wpAnyH_take (i := 1) (v := (.pointer (some ⟨D, 0, none⟩))) rfl (by kernel_rfl) (by kernel_rfl) (by kernel_rfl) (fun _ _ _ h => h) (.inl ⟨rfl, fun _ hS => rfl⟩) S0.2 ?_
              simp only [List.getElem_toArray, List.getElem_cons_succ, List.getElem_cons_zero, Act.put, List.setIfInBounds_toArray, List.set_cons_succ, List.set_cons_zero]
              refine wpAnyH_take (i := 2) (v := (.pointer (some ⟨D, 0, none⟩))) rfl (by kernel_rfl) (by kernel_rfl) (by kernel_rfl) (fun _ _ _ h => h) (.inl ⟨rfl, fun _ hS => by simp [execOp, go_sem, Act.eval]⟩) S0.2 ?_
              simp only [List.getElem_toArray, List.getElem_cons_succ, List.getElem_cons_zero, Act.put, List.setIfInBounds_toArray, List.set_cons_succ, List.set_cons_zero]
              refine wpAnyH_take (i := 3) (v := (.pointer (some ⟨D, 1, none⟩))) rfl (by kernel_rfl) (by kernel_rfl) (by kernel_rfl) (fun _ _ _ h => h) (.inl ⟨rfl, fun _ hS => by simp [execOp, go_sem, Act.eval]⟩) S0.2 ?_
              simp only [List.getElem_toArray, List.getElem_cons_succ, List.getElem_cons_zero, Act.put, List.setIfInBounds_toArray, List.set_cons_succ, List.set_cons_zero]
              refine wpAnyH_take (i := 5) (v := (.pointer (some ⟨q, 1, none⟩))) rfl (by kernel_rfl) (by kernel_rfl) (by kernel_rfl) (fun _ _ _ h => h) (.inl ⟨rfl, fun _ hS => exec_idx8 (k := 1) rfl rfl rfl (by decide) _⟩) S0.2 ?_
              simp only [List.getElem_toArray, List.getElem_cons_succ, List.getElem_cons_zero, Act.put, List.setIfInBounds_toArray, List.set_cons_succ, List.set_cons_zero]
              refine wpAnyH_take (i := 6) (v := (.int .u8 (a1 : Int))) rfl (by kernel_rfl) (by kernel_rfl) (by kernel_rfl) (fun _ _ _ h => h) (.inl ⟨rfl, fun _ hS => exec_load rfl rfl (load_u8 _ _ _ _ hS)⟩) S0.2 ?_
              simp only [List.getElem_toArray, List.getElem_cons_succ, List.getElem_cons_zero, Act.put, List.setIfInBounds_toArray, List.set_cons_succ, List.set_cons_zero]
              refine wpAnyH_take (i := 7) (v := (.int .i64 (a1 : Int))) rfl (by kernel_rfl) (by kernel_rfl) (by kernel_rfl) (fun _ _ _ h => h) (.inl ⟨rfl, fun _ hS => exec_convI rfl rfl la1 _⟩) S0.2 ?_
              simp only [List.getElem_toArray, List.getElem_cons_succ, List.getElem_cons_zero, Act.put, List.setIfInBounds_toArray, List.set_cons_succ, List.set_cons_zero]
              refine wpAnyH_all (rs := [4]) (by kernel_rfl) (by simp) ?_
              intro k hk
              simp only [List.mem_cons, List.mem_nil_iff, or_false] at hk
              subst hk
              refine wpOp_run rfl rfl (wp_loadR0 rfl rfl (load_int _ _ _ _ y1d) ?_)
              refine ⟨S0.2, ?_⟩
              simp only [List.getElem_toArray, List.getElem_cons_succ, List.getElem_cons_zero, Act.put, List.setIfInBounds_toArray, List.set_cons_succ, List.set_cons_zero]
              refine wpAnyH_take (i := 8) (v := (.int .i64 ((at0 : Int) + (a1 : Int)))) rfl (by kernel_rfl) (by kernel_rfl) (by kernel_rfl) (fun _ _ _ h => h) (.inl ⟨rfl, fun _ hS => exec_addI rfl rfl rfl ha0 ha1 _⟩) S0.2 ?_
              simp only [List.getElem_toArray, List.getElem_cons_succ, List.getElem_cons_zero, Act.put, List.setIfInBounds_toArray, List.set_cons_succ, List.set_cons_zero]
              refine wpAnyH_take (i := 9) (v := (.pointer (some ⟨D, 0, none⟩))) rfl (by kernel_rfl) (by kernel_rfl) (by kernel_rfl) (fun _ _ _ h => h) (.inl ⟨rfl, fun _ hS => by simp [execOp, go_sem, Act.eval]⟩) S0.2 ?_
              simp only [List.getElem_toArray, List.getElem_cons_succ, List.getElem_cons_zero, Act.put, List.setIfInBounds_toArray, List.set_cons_succ, List.set_cons_zero]
              refine wpAnyH_take (i := 10) (v := (.pointer (some ⟨D, 1, none⟩))) rfl (by kernel_rfl) (by kernel_rfl) (by kernel_rfl) (fun _ _ _ h => h) (.inl ⟨rfl, fun _ hS => by simp [execOp, go_sem, Act.eval]⟩) S0.2 ?_
              simp only [List.getElem_toArray, List.getElem_cons_succ, List.getElem_cons_zero, Act.put, List.setIfInBounds_toArray, List.set_cons_succ, List.set_cons_zero]
              refine wpAnyH_all (rs := [11]) (by kernel_rfl) (by simp) ?_
              intro k hk
              simp only [List.mem_cons, List.mem_nil_iff, or_false] at hk
              subst hk
              refine wpOp_run rfl rfl (wp_store_cell 3 _ _ rfl D 1 rfl (.int .i64 ((at0 : Int) + (a1 : Int))) rfl (store_int _ D 1 _ _ y1d f1d) ?_)
              refine ⟨(World.cell?_of_block (a := ⟨q, 1, none⟩) (Below.heap_setCell _ _ _ q hq1)).trans S0.2, ?_⟩
              simp only [List.getElem_toArray, List.getElem_cons_succ, List.getElem_cons_zero, Act.put, List.setIfInBounds_toArray, List.set_cons_succ, List.set_cons_zero]
              refine wpAnyH_done (by kernel_rfl) ?_ _
              obtain ⟨X, hX⟩ : ∃ X, (V.drewN nq).drew.setCell ⟨D, 1, none⟩ (.int .i64 ((at0 : Int) + (a1 : Int))) = X := ⟨_, rfl⟩
              rw [hX]
              obtain ⟨dX, kX⟩ := HX.out X hX.symm
              have x2X : X.cell? ⟨q, 2, none⟩ = some (.int .u8 (a2 : Int)) := by
                rw [← hX]
                exact (World.cell?_of_block (a := ⟨q, 2, none⟩) (Below.heap_setCell _ _ _ q hq1)).trans x2
              have hAl : ∀ n, Calls Try.prog 31 #[.pointer (some ⟨D, 0, none⟩)] (X.drewN n) (fun e w' => e = .returned (.int .i64 ((segs bs.length : Nat) : Int)) ∧ w' = X.drewN n) := fun n => All_any (dX.drawn n)
              have z1 : X.cell? ⟨D, 1, none⟩ = some (.int .i64 ((at0 : Int) + (a1 : Int))) := by rw [dX.c1]; simp
              have HD := hidOf2 dX
              have HKX := hidOf2 kX
              clear HX hX dX kX S0 SX y1d f1d hq1 y1 y2 y3 x0 x1 x2 f1 HSn HKn HXn HGV HQ HK
              by_cases bmore : at0 + a1 < segs bs.length
              · have d9 : decide ((at0 : Int) + (a1 : Int) < ((segs bs.length : Nat) : Int)) = true := by simp; omega
                have hB : ∀ n, Calls Try.prog 28 #[.pointer (some ⟨D, 0, none⟩), .int .i64 (a2 : Int)] (X.drewN n) fun e w' => ∃ v, e = .returned v ∧ DPost w D bs ao cp RS (.returned v) w' := fun n => (dblock_any (HD.out.drawn n) bmore a2 bsz.1 bsz.2).mono fun e w' ⟨v, he, hl, hs, hk⟩ => by
                  refine ⟨v, he, v, at0 + a1, min a2 (segs bs.length - (at0 + a1)), rfl, ?_, ?_, ?_, (HKX.out.trans (Kp.drawn _ _ n)).trans hk⟩
                  all_goals rw [HA.out, if_neg (by simpa using b162), if_neg bmany, if_neg (by simpa using bsz), if_pos bmore]
                  · exact hl.low HKX.out.size
                  · exact hs
                  · exact fun _ => ⟨rfl, rfl, rfl, rfl⟩
                clear HA hle
                go_upto_region 18 with fail
                go_quiet (first | (go_at_call 31; refine Calls.quiet_of_same (hAl _)))
                have hB := hB nq
                go_wp2_with (go_at_call 28; refine hB.mono ?_; rintro e w1 ⟨v, rfl, hp⟩)
                go_ret
                exact hp
              · have d9 : decide ((at0 : Int) + (a1 : Int) < ((segs bs.length : Nat) : Int)) = false := by simp; omega
                have HZ : Hid (∀ n Z, Z = (X.drewN n).setCell ⟨D, 3, none⟩ (.int .i64 2) → Dd D bs ao cp (at0 + a1) many 2 0 Z ∧ Kp [D] w Z) := fun n Z hZ => by
                  subst hZ
                  exact ⟨(HD.out.drawn n).set 3 _ (by simp [dsA]), (HKX.out.trans (Kp.drawn _ _ n)).trans (Kp.cell1 _ _ _ _)⟩
                have HE2 : Hid (RS = ([endF bs], ⟨2, bs, at0 + a1, many, 0⟩)) := by
                  show _ = _
                  rw [HA.out, if_neg (by simpa using b162), if_neg bmany, if_neg (by simpa using bsz), if_neg bmore]
                have z3 : X.cell? ⟨D, 3, none⟩ = some (.int .i64 1) := HD.out.c3
                have g3 : X.frozen? ⟨D, 3, none⟩ = false := HD.out.fr 3
                clear HA hle
                go_upto_region 18 with fail
                go_quiet (first | (go_at_call 31; refine Calls.quiet_of_same (hAl _)))
                have HZ := hidOf2 (HZ.out nq)
                go_upto_region 21 with fail
                obtain ⟨Z, hZ⟩ : ∃ Z, (X.drewN nq).setCell ⟨D, 3, none⟩ (.int .i64 2) = Z := ⟨_, rfl⟩
                rw [hZ]
                obtain ⟨dZ, kZ⟩ := HZ.out Z hZ.symm
                have u0 := dZ.c0
                have hCr := rCRC16_bytes (.slice ao bs.length cp) bs Z (by unfold maxLen; omega) dZ.bt
                have hAz : Calls Try.prog 31 #[.pointer (some ⟨D, 0, none⟩)] Z.drew (fun e w' => e = .returned (.int .i64 ((segs bs.length : Nat) : Int)) ∧ w' = Z.drew) := All_any (dZ.drawn 1)
                have HS3 := hidOf2 dZ
                have HK3 := hidOf2 kZ
                clear HZ hZ dZ kZ z3 g3 z1 hAl x2X
                go_upto_region 22 with (first | (go_at_call 32; refine hCr.mono ?_; rintro e w1 ⟨rfl, hw1⟩; rw [hw1]; clear hw1 w1))
                obtain ⟨sp, hsp0⟩ : ∃ k, 7 * segs bs.length - bs.length = k := ⟨_, rfl⟩
                have hFA := endF_arr bs sp hsp0 (by omega)
                have hcl := crc16_lt bs
                have hs8 : sp < 8 := by omega
                have hGs : segs bs.length < 100000 := by omega
                have h7G : 7 * segs bs.length = bs.length + sp := by omega
                have h7l : 7 * segs bs.length < 1000000 := by omega
                obtain ⟨ff, hff⟩ : ∃ f, endF bs = f := ⟨_, rfl⟩
                have S0 : (fun y : World => y.cell? ⟨D, 0, none⟩ = some (.slice ao bs.length cp)) Z.drew := u0
                rw [hff] at hFA
                have HP : Hid (∀ q, Z.drew.heap.size = q → ∀ Y, Z.drew.alloc (.cells ff.arr 30) = Y → DPost w D bs ao cp RS (.returned (.slice (some ⟨q, 0, none⟩) 1 1)) Y) := fun q' hq' Y hY => by
                  subst hq' hY
                  have b4 : Below Z.drew.heap.size Z.drew (Z.drew.alloc (.cells ff.arr 30)) := (Below.refl _ _).alloc (Nat.le_refl _) _
                  show DPost _ _ _ _ _ _ _ _
                  rw [HE2.out, hff]
                  exact ⟨_, at0 + a1, many, rfl, (Lf.new Z.drew ff).low HK3.out.size, (HS3.out.drawn 1).below b4, fun _ => ⟨rfl, rfl, rfl, rfl⟩, (HK3.out.trans (Kp.drawn _ _ 1)).trans (Kp.of_below b4)⟩
                obtain ⟨qz, hqz⟩ : ∃ k, Z.drew.heap.size = k := ⟨_, rfl⟩
                clear hff
                refine wp_region_held (S := fun y : World => y.cell? ⟨D, 0, none⟩ = some (.slice ao bs.length cp)) (by kernel_rfl) ?_
                change wpAnyH _ _ _ _ _ _ _ _ Z.drew
                refine wpAnyH_take (i := 0) (v := (.pointer (some ⟨D, 0, none⟩))) rfl (by kernel_rfl) (by kernel_rfl) (by kernel_rfl) (fun _ _ _ h => h) (.inl ⟨rfl, fun _ hS => rfl⟩) S0 ?_
                simp only [List.getElem_toArray, List.getElem_cons_succ, List.getElem_cons_zero, Act.put, List.setIfInBounds_toArray, List.set_cons_succ, List.set_cons_zero]
                refine wpAnyH_take (i := 3) (v := (.pointer (some ⟨D, 0, none⟩))) rfl (by kernel_rfl) (by kernel_rfl) (by kernel_rfl) (fun _ _ _ h => h) (.inl ⟨rfl, fun _ hS => rfl⟩) S0 ?_
                simp only [List.getElem_toArray, List.getElem_cons_succ, List.getElem_cons_zero, Act.put, List.setIfInBounds_toArray, List.set_cons_succ, List.set_cons_zero]
                refine wpAnyH_take (i := 4) (v := (.pointer (some ⟨D, 0, none⟩))) rfl (by kernel_rfl) (by kernel_rfl) (by kernel_rfl) (fun _ _ _ h => h) (.inl ⟨rfl, fun _ hS => by simp [execOp, go_sem, Act.eval]⟩) S0 ?_
                simp only [List.getElem_toArray, List.getElem_cons_succ, List.getElem_cons_zero, Act.put, List.setIfInBounds_toArray, List.set_cons_succ, List.set_cons_zero]
                refine wpAnyH_take (i := 5) (v := (.pointer (some ⟨D, 0, none⟩))) rfl (by kernel_rfl) (by kernel_rfl) (by kernel_rfl) (fun _ _ _ h => h) (.inl ⟨rfl, fun _ hS => by simp [execOp, go_sem, Act.eval]⟩) S0 ?_
                simp only [List.getElem_toArray, List.getElem_cons_succ, List.getElem_cons_zero, Act.put, List.setIfInBounds_toArray, List.set_cons_succ, List.set_cons_zero]
                refine wpAnyH_take (i := 6) (v := (.slice ao bs.length cp)) rfl (by kernel_rfl) (by kernel_rfl) (by kernel_rfl) (fun _ _ _ h => h) (.inl ⟨rfl, fun _ hS => exec_load rfl rfl (load_bytes _ _ _ _ _ _ hS)⟩) S0 ?_
                simp only [List.getElem_toArray, List.getElem_cons_succ, List.getElem_cons_zero, Act.put, List.setIfInBounds_toArray, List.set_cons_succ, List.set_cons_zero]
                refine wpAnyH_take (i := 7) (v := (.int .i64 (bs.length : Int))) rfl (by kernel_rfl) (by kernel_rfl) (by kernel_rfl) (fun _ _ _ h => h) (.inl ⟨rfl, fun _ hS => exec_lenB0 rfl rfl _⟩) S0 ?_
                simp only [List.getElem_toArray, List.getElem_cons_succ, List.getElem_cons_zero, Act.put, List.setIfInBounds_toArray, List.set_cons_succ, List.set_cons_zero]
                refine wpAnyH_take (i := 12) (v := (.int .u16 ((crc16 bs : Nat) : Int))) rfl (by kernel_rfl) (by kernel_rfl) (by kernel_rfl) (fun _ _ _ h => h) (.inl ⟨rfl, fun _ hS => rfl⟩) S0 ?_
                simp only [List.getElem_toArray, List.getElem_cons_succ, List.getElem_cons_zero, Act.put, List.setIfInBounds_toArray, List.set_cons_succ, List.set_cons_zero]
                refine wpAnyH_take (i := 13) (v := (.int .u16 (((crc16 bs : Nat) : Int) % 256))) rfl (by kernel_rfl) (by kernel_rfl) (by kernel_rfl) (fun _ _ _ h => h) (.inl ⟨rfl, fun _ hS => exec_rem256 rfl rfl rfl hcl _⟩) S0 ?_
                simp only [List.getElem_toArray, List.getElem_cons_succ, List.getElem_cons_zero, Act.put, List.setIfInBounds_toArray, List.set_cons_succ, List.set_cons_zero]
                refine wpAnyH_take (i := 14) (v := (.int .u8 (((crc16 bs : Nat) : Int) % 256))) rfl (by kernel_rfl) (by kernel_rfl) (by kernel_rfl) (fun _ _ _ h => h) (.inl ⟨rfl, fun _ hS => exec_convUU rfl rfl (by omega) (by omega) _⟩) S0 ?_
                simp only [List.getElem_toArray, List.getElem_cons_succ, List.getElem_cons_zero, Act.put, List.setIfInBounds_toArray, List.set_cons_succ, List.set_cons_zero]
                refine wpAnyH_take (i := 15) (v := (.int .u16 ((crc16 bs : Nat) : Int))) rfl (by kernel_rfl) (by kernel_rfl) (by kernel_rfl) (fun _ _ _ h => h) (.inl ⟨rfl, fun _ hS => rfl⟩) S0 ?_
                simp only [List.getElem_toArray, List.getElem_cons_succ, List.getElem_cons_zero, Act.put, List.setIfInBounds_toArray, List.set_cons_succ, List.set_cons_zero]
                refine wpAnyH_take (i := 16) (v := (.int .u16 (((crc16 bs : Nat) : Int) / 256))) rfl (by kernel_rfl) (by kernel_rfl) (by kernel_rfl) (fun _ _ _ h => h) (.inl ⟨rfl, fun _ hS => exec_quo256 rfl rfl rfl hcl _⟩) S0 ?_
                simp only [List.getElem_toArray, List.getElem_cons_succ, List.getElem_cons_zero, Act.put, List.setIfInBounds_toArray, List.set_cons_succ, List.set_cons_zero]
                refine wpAnyH_take (i := 17) (v := (.int .u8 (((crc16 bs : Nat) : Int) / 256))) rfl (by kernel_rfl) (by kernel_rfl) (by kernel_rfl) (fun _ _ _ h => h) (.inl ⟨rfl, fun _ hS => exec_convUU rfl rfl (by omega) (by omega) _⟩) S0 ?_
                simp only [List.getElem_toArray, List.getElem_cons_succ, List.getElem_cons_zero, Act.put, List.setIfInBounds_toArray, List.set_cons_succ, List.set_cons_zero]
                refine wpAnyH_all (rs := [1]) (by kernel_rfl) (by simp) ?_
                intro k hk
                simp only [List.mem_cons, List.mem_nil_iff, or_false] at hk
                subst hk
                refine wpOp_run rfl rfl (wp_call_fn 31 #[.pointer (some ⟨D, 0, none⟩)] (by simp [execOp, go_sem, Act.eval, resolve, invoke, enAll]) ?_)
                refine hAz.mono ?_
                rintro e w1 ⟨rfl, hw1⟩
                rw [hw1]
                clear hw1 w1
                refine ⟨S0, ?_⟩
                simp only [List.getElem_toArray, List.getElem_cons_succ, List.getElem_cons_zero, Act.put, List.setIfInBounds_toArray, List.set_cons_succ, List.set_cons_zero]
                refine wpAnyH_take (i := 2) (v := (.int .i64 ((7 * segs bs.length : Nat) : Int))) rfl (by kernel_rfl) (by kernel_rfl) (by kernel_rfl) (fun _ _ _ h => h) (.inl ⟨rfl, fun _ hS => exec_7mul rfl rfl rfl hGs _⟩) S0 ?_
                simp only [List.getElem_toArray, List.getElem_cons_succ, List.getElem_cons_zero, Act.put, List.setIfInBounds_toArray, List.set_cons_succ, List.set_cons_zero]
                refine wpAnyH_take (i := 8) (v := (.int .i64 (sp : Int))) rfl (by kernel_rfl) (by kernel_rfl) (by kernel_rfl) (fun _ _ _ h => h) (.inl ⟨rfl, fun _ hS => exec_subI rfl rfl rfl h7G h7l _⟩) S0 ?_
                simp only [List.getElem_toArray, List.getElem_cons_succ, List.getElem_cons_zero, Act.put, List.setIfInBounds_toArray, List.set_cons_succ, List.set_cons_zero]
                refine wpAnyH_take (i := 9) (v := (.int .u8 (sp : Int))) rfl (by kernel_rfl) (by kernel_rfl) (by kernel_rfl) (fun _ _ _ h => h) (.inl ⟨rfl, fun _ hS => exec_convU rfl rfl (by omega) _⟩) S0 ?_
                simp only [List.getElem_toArray, List.getElem_cons_succ, List.getElem_cons_zero, Act.put, List.setIfInBounds_toArray, List.set_cons_succ, List.set_cons_zero]
                refine wpAnyH_take (i := 10) (v := (.int .u8 ((4 * sp : Nat) : Int))) rfl (by kernel_rfl) (by kernel_rfl) (by kernel_rfl) (fun _ _ _ h => h) (.inl ⟨rfl, fun _ hS => exec_4mul rfl rfl rfl hs8 _⟩) S0 ?_
                simp only [List.getElem_toArray, List.getElem_cons_succ, List.getElem_cons_zero, Act.put, List.setIfInBounds_toArray, List.set_cons_succ, List.set_cons_zero]
                refine wpAnyH_take (i := 11) (v := (.int .u8 ((193 + 4 * sp : Nat) : Int))) rfl (by kernel_rfl) (by kernel_rfl) (by kernel_rfl) (fun _ _ _ h => h) (.inl ⟨rfl, fun _ hS => exec_193 rfl rfl rfl hs8 _⟩) S0 ?_
                simp only [List.getElem_toArray, List.getElem_cons_succ, List.getElem_cons_zero, Act.put, List.setIfInBounds_toArray, List.set_cons_succ, List.set_cons_zero]
                refine wpAnyH_take (i := 18) (v := (.agg ff.arr)) rfl (by kernel_rfl) (by kernel_rfl) (by kernel_rfl) (fun _ _ _ h => h) (.inl ⟨rfl, fun _ hS => exec_buildE rfl rfl rfl rfl ff hFA _⟩) S0 ?_
                simp only [List.getElem_toArray, List.getElem_cons_succ, List.getElem_cons_zero, Act.put, List.setIfInBounds_toArray, List.set_cons_succ, List.set_cons_zero]
                refine wpAnyH_all (rs := [19]) (by kernel_rfl) (by simp) ?_
                intro k hk
                simp only [List.mem_cons, List.mem_nil_iff, or_false] at hk
                subst hk
                refine wpOp_run rfl rfl (wp_bs1 ff _ rfl rfl ?_)
                rw [hqz]
                have S1 : (Z.drew.alloc (.cells ff.arr 30)).cell? ⟨D, 0, none⟩ = some (.slice ao bs.length cp) := ((HS3.out.drawn 1).below ((Below.refl _ _).alloc (Nat.le_refl _) _)).c0
                refine ⟨S1, ?_⟩
                simp only [List.getElem_toArray, List.getElem_cons_succ, List.getElem_cons_zero, Act.put, List.setIfInBounds_toArray, List.set_cons_succ, List.set_cons_zero]
                refine wpAnyH_take (i := 20) (v := (.slice (some ⟨qz, 0, none⟩) 1 1)) rfl (by kernel_rfl) (by kernel_rfl) (by kernel_rfl) (fun _ _ _ h => h) (.inl ⟨rfl, fun _ hS => rfl⟩) S1 ?_
                simp only [List.getElem_toArray, List.getElem_cons_succ, List.getElem_cons_zero, Act.put, List.setIfInBounds_toArray, List.set_cons_succ, List.set_cons_zero]
                refine wpAnyH_done (by kernel_rfl) ?_ _
                go_wp2
                go_ret
                exact HP.out _ hqz _ rfl
            · have hG := fun n => HGV.out 84148226 (by decide) (by rw [HA.out, if_neg (by simpa using b162), if_neg bmany, if_pos bsz]) _ (HKn.out n) _ _ _ _ (HSn.out n)
              clear HA HGV
              by_cases bz : a2 = 0
              · have d7 : ((a2 : Int) == 0) = true := by simp; omega
                go_enter Try.func12, Try.ntmps12
                go_upto_region 13 with fail
                go_quiet (fail)
                have hG := hG nq
                go_wp2_with (go_at_call 30; refine hG.mono ?_; rintro e w1 ⟨v, rfl, hp⟩)
                go_ret
                exact hp
              · have d7 : ((a2 : Int) == 0) = false := by simp; omega
                have d8 : decide ((127 : Int) < (a2 : Int)) = true := by simp; omega
                go_enter Try.func12, Try.ntmps12
                go_upto_region 13 with fail
                go_quiet (fail)
                have hG := hG nq
                go_wp2_with (go_at_call 30; refine hG.mono ?_; rintro e w1 ⟨v, rfl, hp⟩)
                go_ret
                exact hp
        · have d5 : ((a0 : Int) != 162) = true := by simp; omega
          have hG := HGV.out 84148225 (by decide) (by rw [HA.out, if_pos b162]) _ (HKn.out 0) _ _ _ _ (HSn.out 0)
          clear HA HGV
          have hG : Calls Try.prog 30 #[.pointer (some ⟨D, 0, none⟩), .int .u32 84148225] V fun e w' => ∃ v, e = .returned v ∧ DPost w D bs ao cp RS (.returned v) w' := hG
          go_enter Try.func12, Try.ntmps12
          go_wp2_with (go_at_call 30; refine hG.mono ?_; rintro e w1 ⟨v, rfl, hp⟩)
          go_ret
          exact hp
      · have d1 : ((s.st : Int) == 2) = true := by simp; omega
        by_cases c3 : a.b0.toNat = 161
        · have d5 : ((a.b0.toNat : Int) != 161) = false := by simp; omega
          have HX : Hid (∀ Z, Z = V.setCell ⟨D, 3, none⟩ (.int .i64 3) → DPost w D bs ao cp RS (.returned (.slice none 0 0)) Z) := fun Z hZ => by
            subst hZ
            have h1 := HS.out.set (at1 := at0) (many1 := many) (wt1 := 3) (cd1 := 0) 3 (.int .i64 3) (by simp [dsA, e4])
            show DPost _ _ _ _ _ _ _ _
            rw [HR.out, if_neg c0, if_neg c1, if_neg c2, if_neg (by simpa using c3)]
            exact ⟨_, at0, many, rfl, Lf.nil _ _, h1, fun e => absurd rfl e, HK.out.trans (Kp.cell1 _ D 3 _)⟩
          have f3 := s0.fr 3
          clear HR s0 b0 q0 h hok c1 c0 hrl HGV c3 c2
          go_enter Try.func12, Try.ntmps12
          go_wp2
          go_ret
          exact HX.out _ rfl
        · have d5 : ((a.b0.toNat : Int) != 161) = true := by simp; omega
          have hG : Calls Try.prog 30 #[.pointer (some ⟨D, 0, none⟩), .int .u32 84148225] V fun e w' => ∃ v, e = .returned v ∧ DPost w D bs ao cp RS (.returned v) w' := HGV.out 84148225 (by decide) (by rw [HR.out, if_neg c0, if_neg c1, if_neg c2, if_pos c3]) V HK.out _ _ _ _ HS.out
          clear HR s0 b0 q0 h hok c1 c0 hrl HGV c3 c2
          go_enter Try.func12, Try.ntmps12
          go_wp2_with (go_at_call 30; refine hG.mono ?_; rintro e w1 ⟨v, rfl, hp⟩)
          go_ret
          exact hp
end
end Go.Proofs.Ytebjofkblfmkmaa
