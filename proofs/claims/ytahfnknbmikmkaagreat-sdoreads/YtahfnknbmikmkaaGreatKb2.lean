/- Contracts: Plain, Encode. Contracts: Order; the document's own. A region that draws its order and whose calls make memory, but leave what was there: one walk, in the order of the text. Entries and items in memory. Contracts: placeOf, place, the tests handed to the library. Contracts: between, can. -/
import Derived.Test.YtahfnknbmikmkaaGreatKb1
import Derived.Deep.Cut
import Derived.Deep.CutRange
import Derived.Laws.BitsAllLaws
import Derived.Deep.MidRow
import Derived.Deep.RegionHeld3
namespace Go.Proofs.YtahfnknbmikmkaaGreat
open Go.RowKit Go.Proofs.Ty
set_option linter.unusedVariables false
set_option maxRecDepth 1000000

def Vl.setN (v : Vl) (n : Nat) (h : n < 18446744073709551616) : Vl := ⟨v.t, n, v.s, v.ht, h, v.hs⟩
def Vl.setB (v : Vl) (s : ByteArray) (h : s.size ≤ maxLen) : Vl := ⟨v.t, v.n, s, v.ht, v.hn, h⟩
theorem Va.setN {q : Nat} {v : Vl} {w : World} (h : Va q v w) (n : Nat) (hn : n < 18446744073709551616) : Va q (v.setN n hn) (w.setCell ⟨q, 1, none⟩ (.int .u64 n)) := by unfold Va; rw [h.set]; rfl
theorem Va.setB {q : Nat} {v : Vl} {w : World} (h : Va q v w) (s : ByteArray) (hs : s.size ≤ maxLen) : Va q (v.setB s hs) (w.setCell ⟨q, 2, none⟩ (.string s)) := by unfold Va; rw [h.set]; rfl
theorem Vl.plain_num {v : Vl} (h : kind v.t = 1 ∨ kind v.t = 2) : v.plain = v.setB ⟨#[]⟩ (by decide) := by
  simp only [Vl.plain, Vl.setB, Vl.mk.injEq, true_and, plN, plS]
  exact ⟨if_neg (by omega), if_pos h⟩
theorem Vl.plain_txt {v : Vl} (h : kind v.t = 3 ∨ kind v.t = 4) : v.plain = v.setN 0 (by decide) := by
  simp only [Vl.plain, Vl.setN, Vl.mk.injEq, true_and, plN, plS]
  exact ⟨if_pos h, if_neg (by omega)⟩
theorem Vl.plain_none {v : Vl} (h : kind v.t = 0) : v.plain = v := by
  obtain ⟨t, n, s, h1, h2, h3⟩ := v
  have h : kind t = 0 := h
  simp only [Vl.plain, Vl.mk.injEq, true_and, plN, plS]
  exact ⟨if_neg (by omega), if_neg (by omega)⟩

set_option maxHeartbeats 1000000 in
theorem Plain_v (v : Vl) (w : World) :
    Calls Tryz.prog 44 #[.agg v.arr] w fun e w' => e = .returned (.agg v.plain.arr) ∧ Below w.heap.size w w' := by
  have fA : Va w.heap.size v ((w.alloc (.cells v.arr 52)).alloc (.cells Vl.nul.arr 52)) := (Va.new w v).alloc _
  have fB : Va (w.heap.size + 1) Vl.nul ((w.alloc (.cells v.arr 52)).alloc (.cells Vl.nul.arr 52)) := by
    have := Va.new (w.alloc (.cells v.arr 52)) Vl.nul
    rw [size_alloc] at this
    exact this
  have bA : Below w.heap.size w ((w.alloc (.cells v.arr 52)).alloc (.cells Vl.nul.arr 52)) := ((Below.refl _ _).alloc (Nat.le_refl _) _).alloc (by rw [size_alloc]; omega) _
  have sA : ((w.alloc (.cells v.arr 52)).alloc (.cells Vl.nul.arr 52)).heap.size = w.heap.size + 2 := by rw [size_alloc, size_alloc]
  have hK := kindOf_any v.t
  have hk := kind_le v.t
  have H1 := hidOf (@Vl.plain_num v)
  have H3 := hidOf (@Vl.plain_txt v)
  have H0 := hidOf (@Vl.plain_none v)
  obtain ⟨A, hA⟩ : ∃ A, (w.alloc (.cells v.arr 52)).alloc (.cells #[.int .i64 0, .int .u64 0, .string ⟨#[]⟩] 52) = A := ⟨_, rfl⟩
  change Va _ _ ((w.alloc (.cells v.arr 52)).alloc (.cells #[.int .i64 0, .int .u64 0, .string ⟨#[]⟩] 52)) at fA fB
  change Below _ _ ((w.alloc (.cells v.arr 52)).alloc (.cells #[.int .i64 0, .int .u64 0, .string ⟨#[]⟩] 52)) at bA
  rw [hA] at fA fB bA
  clear sA
  have c0 := fA.c0
  have c1 := fA.c1
  have c2 := fA.c2
  have fr := fA.frozen
  have lA := fB.lt
  go_enter Tryz.func44, Tryz.ntmps44
  go_wp2_with fail
  generalize kind v.t = K at *
  generalize hq : w.heap.size = q at *
  refine (hK _).mono ?_
  rintro e w1 ⟨rfl, rfl⟩
  have fin : ∀ (u : Vl) (x : World), Va q u x → Va (q + 1) Vl.nul x → Below q w x → Va (q + 1) u (x.setRow (q + 1) u.arr) ∧ Below q w (x.setRow (q + 1) u.arr) := fun u x h1 h2 h3 => ⟨h2.row u, below_row h3 (by omega) (by have := h1.lt; omega) _⟩
  by_cases hn : K = 1 ∨ K = 2
  · have f2 := fA.setB ⟨#[]⟩ (by decide)
    have g2 := fB.other (p := ⟨q, 2, none⟩) (by simp) (.string ⟨#[]⟩)
    have B2 := bA.setCell (p := ⟨q, 2, none⟩) (Nat.le_refl _) (.string ⟨#[]⟩)
    have e1 := hidOf (H1.out hn)
    obtain ⟨D3, B3⟩ := fin _ _ f2 g2 B2
    rcases hn with rfl | rfl
    all_goals
      go_wp2_with (first | refine f2.ld rfl _ rfl rfl ?_ | refine g2.sd (v.setB ⟨#[]⟩ (by decide)) rfl _ _ rfl rfl rfl ?_)
      refine bodyPost_ret (v := .agg (v.setB ⟨#[]⟩ (by decide)).arr) (results_cell_row rfl _ _ (q + 1) 52 _ (0, 0) _ rfl D3 Tryz.underlying52 rfl infoV) rfl ⟨by rw [e1.out], by rw [hq]; exact B3⟩
  · by_cases h3 : K = 3 ∨ K = 4
    · have f2 := fA.setN 0 (by decide)
      have g2 := fB.other (p := ⟨q, 1, none⟩) (by simp) (.int .u64 ((0 : Nat) : Int))
      have B2 := bA.setCell (p := ⟨q, 1, none⟩) (Nat.le_refl _) (.int .u64 ((0 : Nat) : Int))
      have e1 := hidOf (H3.out h3)
      obtain ⟨D3, B3⟩ := fin _ _ f2 g2 B2
      rcases h3 with rfl | rfl
      all_goals
        go_wp2_with (first | refine f2.ld rfl _ rfl rfl ?_ | refine g2.sd (v.setN 0 (by decide)) rfl _ _ rfl rfl rfl ?_)
        refine bodyPost_ret (v := .agg (v.setN 0 (by decide)).arr) (results_cell_row rfl _ _ (q + 1) 52 _ (0, 0) _ rfl D3 Tryz.underlying52 rfl infoV) rfl ⟨by rw [e1.out], by rw [hq]; exact B3⟩
    · obtain rfl : K = 0 := by omega
      have e1 := hidOf (H0.out rfl)
      obtain ⟨D3, B3⟩ := fin _ _ fA fB bA
      go_wp2_with (first | refine fA.ld rfl _ rfl rfl ?_ | refine fB.sd v rfl _ _ rfl rfl rfl ?_)
      refine bodyPost_ret (v := .agg v.arr) (results_cell_row rfl _ _ (q + 1) 52 _ (0, 0) _ rfl D3 Tryz.underlying52 rfl infoV) rfl ⟨by rw [e1.out], by rw [hq]; exact B3⟩
end Go.Proofs.YtahfnknbmikmkaaGreat
namespace Go.Proofs.YtahfnknbmikmkaaGreat
open Go.RowKit Go.Proofs.Ty
set_option linter.unusedVariables false
set_option maxRecDepth 1000000
/-- A number of 64 bits with its sign. -/
def sgnN (n : Nat) : Int := if n < 9223372036854775808 then n else (n : Int) - 18446744073709551616
def ordR (a b : Vl) : Int := if kind a.t = 1 then cmpI a.n b.n else if kind a.t = 2 then cmpI (sgnN a.n) (sgnN b.n) else cmpL a.s.data.toList b.s.data.toList
def ordE (a b : Vl) : Nat := if a.chk ≠ 0 then a.chk else if b.chk ≠ 0 then b.chk else if a.t ≠ b.t then 1 else 0
def ordN (a b : Vl) : Int := if ordE a b = 0 then ordR a b else 0
theorem conv_sgn (n : Nat) (h : n < 18446744073709551616) : wrap64 (n : Int) = sgnN n := by
  unfold sgnN
  simp only [wrap64]
  split <;> omega
/-- Two values laid down, and the world behind both. -/
theorem two_vals (w : World) (a b : Vl) : Va w.heap.size a ((w.alloc (.cells a.arr 52)).alloc (.cells b.arr 52)) ∧ Va (w.heap.size + 1) b ((w.alloc (.cells a.arr 52)).alloc (.cells b.arr 52)) ∧ Below w.heap.size w ((w.alloc (.cells a.arr 52)).alloc (.cells b.arr 52)) := by
  refine ⟨(Va.new w a).alloc _, ?_, ((Below.refl _ _).alloc (Nat.le_refl _) _).alloc (by rw [size_alloc]; omega) _⟩
  have := Va.new (w.alloc (.cells a.arr 52)) b
  rw [size_alloc] at this
  exact this
set_option maxHeartbeats 2000000 in
theorem Order_v (a b : Vl) (w : World) :
    Calls Tryz.prog 133 #[.agg a.arr, .agg b.arr] w fun e w' => e = .returned (.tuple #[.int .i64 (ordN a b), .int .i64 (ordE a b)]) ∧ Below w.heap.size w w' := by
  have hCa := Check_v a
  have hCb := Check_v b
  have hK := kindOf_any a.t
  have hU := Cmpu_any a.n b.n
  have hI := Cmpi_any (sgnN a.n) (sgnN b.n)
  have hT := Cmps_any a.s b.s
  have HE : Hid (ordE a b = if a.chk ≠ 0 then a.chk else if b.chk ≠ 0 then b.chk else if a.t ≠ b.t then 1 else 0) := rfl
  have HN : Hid (ordN a b = if ordE a b = 0 then (if kind a.t = 1 then cmpI a.n b.n else if kind a.t = 2 then cmpI (sgnN a.n) (sgnN b.n) else cmpL a.s.data.toList b.s.data.toList) else 0) := rfl
  have hsa := conv_sgn a.n a.hn
  have hsb := conv_sgn b.n b.hn
  obtain ⟨fa, fb, B0⟩ := two_vals w a b
  generalize ordE a b = E at *
  generalize ordN a b = N at *
  generalize a.chk = Ca at *
  generalize b.chk = Cb at *
  go_enter Tryz.func133, Tryz.ntmps133
  go_upto_region 1 with fail
  generalize (w.alloc (.cells a.arr 52)).alloc (.cells b.arr 52) = W at *
  obtain ⟨q, hq⟩ : ∃ q, w.heap.size = q := ⟨_, rfl⟩
  have lb := fb.lt
  simp only [hq] at fa fb lb ⊢
  go_wp2_with (refine fa.ld rfl _ rfl rfl ?_)
  refine (hCa _).mono ?_
  rintro e w1 ⟨rfl, b1⟩
  have fa1 := fa.below b1
  have fb1 := fb.below b1
  have B1 := B0.trans (b1.mono (by omega))
  have s1 := b1.size
  clear fa fb B0 b1 hCa
  by_cases ha : Ca = 0
  · subst ha
    go_wp2_with (refine fb1.ld rfl _ rfl rfl ?_)
    refine (hCb _).mono ?_
    rintro e w2 ⟨rfl, b2⟩
    have fa2 := fa1.below b2
    have fb2 := fb1.below b2
    have B2 := B1.trans (b2.mono (by omega))
    clear fa1 fb1 B1 b2 hCb
    have a0 := fa2.c0
    have a1 := fa2.c1
    have a2 := fa2.c2
    have b0 := fb2.c0
    have b1 := fb2.c1
    have b2 := fb2.c2
    by_cases hb : Cb = 0
    · subst hb
      by_cases ht : a.t = b.t
      · have dt : (a.t != b.t) = false := by simpa using ht
        have e0 := hidOf (show E = 0 by rw [HE.out]; simp [ht])
        rw [e0.out, if_pos rfl] at HN
        by_cases h1 : kind a.t = 1
        · have e1 := hidOf (show N = cmpI a.n b.n by rw [HN.out, if_pos h1])
          rw [h1] at hK
          clear HE HN ht
          go_wp2_with (first | (go_at_call 80; refine (hK _).mono ?_; rintro e w2 ⟨rfl, rfl⟩) | (go_at_call 147; refine (hU _).mono ?_; rintro e w2 ⟨rfl, rfl⟩))
          go_ret2
          exact ⟨by rw [e0.out, e1.out]; rfl, B2⟩
        · by_cases h2 : kind a.t = 2
          · have e1 := hidOf (show N = cmpI (sgnN a.n) (sgnN b.n) by rw [HN.out, if_neg h1, if_pos h2])
            rw [h2] at hK
            clear HE HN ht
            go_wp2_with (first | (go_at_call 80; refine (hK _).mono ?_; rintro e w2 ⟨rfl, rfl⟩) | (go_at_call 148; refine (hI _).mono ?_; rintro e w2 ⟨rfl, rfl⟩))
            go_ret2
            exact ⟨by rw [e0.out, e1.out]; rfl, B2⟩
          · have e1 := hidOf (show N = cmpL a.s.data.toList b.s.data.toList by rw [HN.out, if_neg h1, if_neg h2])
            have d1 : ((kind a.t : Int) == 1) = false := by simp; omega
            have d2 : ((kind a.t : Int) == 2) = false := by simp; omega
            clear HE HN ht
            go_wp2_with (first | (go_at_call 80; refine (hK _).mono ?_; rintro e w2 ⟨rfl, rfl⟩) | (go_at_call 149; refine (hT _).mono ?_; rintro e w2 ⟨rfl, rfl⟩))
            go_ret2
            exact ⟨by rw [e0.out, e1.out]; rfl, B2⟩
      · have dt : (a.t != b.t) = true := by simpa using ht
        have e0 := hidOf (show E = 1 by rw [HE.out]; simp [ht])
        have e1 := hidOf (show N = 0 by rw [HN.out, if_neg (by rw [e0.out]; decide)])
        clear HE HN
        go_wp2
        go_ret2
        exact ⟨by rw [e0.out, e1.out]; rfl, B2⟩
    · have db : ((Cb : Int) != 0) = true := by simpa using hb
      have e0 := hidOf (show E = Cb by rw [HE.out]; simp [hb])
      have e1 := hidOf (show N = 0 by rw [HN.out, if_neg (by rw [e0.out]; exact hb)])
      clear HE HN
      go_wp2
      go_ret2
      exact ⟨by rw [e0.out, e1.out]; rfl, B2⟩
  · have da : ((Ca : Int) != 0) = true := by simpa using ha
    have e0 := hidOf (show E = Ca by rw [HE.out]; simp [ha])
    have e1 := hidOf (show N = 0 by rw [HN.out, if_neg (by rw [e0.out]; exact ha)])
    clear HE HN
    go_wp2
    go_ret2
    exact ⟨by rw [e0.out, e1.out]; rfl, B1⟩
end Go.Proofs.YtahfnknbmikmkaaGreat
namespace Go.Proofs.YtahfnknbmikmkaaGreat
open Go.RowKit Go.Proofs.Ty
set_option linter.unusedVariables false
set_option maxRecDepth 1000000

/-- A later world: what was there stands. -/
structure Later (w : World) where
  now : World
  below : Below w.heap.size w now
theorem Later.some (w : World) : Nonempty (Later w) := ⟨⟨w, Below.refl _ _⟩⟩
theorem wp_region_later {P : Program} {id : Nat} {Q : Exit → Act → World → Prop} {a : Act} {w : World} {l : List Oper} (hm : P.follows .mixedOrders = true) (hB : Region.lexB .any l.toArray = true)
    (h : wpQuiet P l.toArray (fun w' => ∃ x : Later w, w' = x.now) (fun a' => ∀ w', (∃ x : Later w, w' = x.now) → Q .normal a' w') l a) : (Code.region id l.toArray true).wp P Q a w :=
  wp_region_quiet (C := fun w' => ∃ x : Later w, w' = x.now) hm hB ⟨⟨{ w with drawn := w.drawn + 1 }, ⟨rfl, rfl, rfl, Nat.le_refl _, fun _ _ => rfl⟩⟩, rfl⟩ (by simpa using h)
theorem later {P : Program} {f : FuncId} {args : Array Value} {w : World} {x : Later w} {v : Value}
    (h : Calls P f args x.now fun e w' => e = .returned v ∧ Below x.now.heap.size x.now w') : Calls P f args x.now fun e w'' => e = .returned v ∧ ∃ y : Later w, w'' = y.now :=
  h.mono fun _ _ ⟨he, hb⟩ => ⟨he, ⟨_, x.below.trans (hb.mono x.below.size)⟩, rfl⟩
theorem laterS {P : Program} {f : FuncId} {args : Array Value} {w : World} {x : Later w} {v : Value}
    (h : Calls P f args x.now fun e w' => e = .returned v ∧ w' = x.now) : Calls P f args x.now fun e w'' => e = .returned v ∧ ∃ y : Later w, w'' = y.now :=
  h.mono fun _ _ ⟨he, hb⟩ => ⟨he, x, hb⟩
theorem Later.va {W : World} {q : Nat} {v : Vl} (h : Va q v W) (x : Later W) : Va q v x.now := (x.below.block q h.lt).trans h
theorem Later.text {W : World} {v : Value} {l : List UInt8} (h : Bytes W v l) (x : Later W) : (convert 47 9 v).run Tryz.prog x.now = .ok (.string ⟨l.toArray⟩) x.now := (h.below x.below).text
theorem quiet_ldv {W : World} {ops : Array Oper} {rest : List Oper} {o : Oper} {a : Act} {Q : Act → Prop} {q : Nat} {v : Vl} (h : Va q v W) (hgd : Region.wanted o (yielded ops a.tmps) = true) (x : Operand) (ho : o.op = .load 52 x) (hx : a.eval x = .pointer (some ⟨q, 0, none⟩))
    (hh : wpQuiet Tryz.prog ops (fun w' => ∃ x : Later W, w' = x.now) Q rest (a.put o.dst (.agg v.arr))) : wpQuiet Tryz.prog ops (fun w' => ∃ x : Later W, w' = x.now) Q (o :: rest) a := by
  unfold wpQuiet
  rw [if_pos hgd]
  refine ⟨.agg v.arr, ?_, hh⟩
  rintro w' ⟨y, rfl⟩
  have hl := (Later.va h y).load
  unfold Oper.quietAt execOp
  simp only [ho, hx, Instr.loadAt, Instr.sureAddr, Sem.run_bind, Sem.run_pure, Result.andThen_ok, hl]
  exact ⟨rfl, rfl⟩
end Go.Proofs.YtahfnknbmikmkaaGreat
namespace Go.Proofs.YtahfnknbmikmkaaGreat
open Go.RowKit Go.Proofs.Ty
set_option linter.unusedVariables false
set_option maxRecDepth 1000000
set_option linter.unusedSimpArgs false

theorem hidOf2 {p : Prop} (h : p) : Hid p := h
def vlC (v : Vl) : List Value := [.int .i64 v.t, .int .u64 v.n, .string v.s]
/-- An entry. -/
structure En where
  ix : Nat
  sb : Nat
  ac : Int
  mp : Bool
  li : Bool
  mn : Vl
  mx : Vl
  df : Vl
  hix : ix < 65536
  hsb : sb < 256
  hac : -9223372036854775808 ≤ ac ∧ ac < 9223372036854775808
def enC (e : En) : List Value := [.int .u16 e.ix, .int .u8 e.sb, .int .i64 e.ac, .bool e.mp, .bool e.li, .int .i64 e.mn.t, .int .u64 e.mn.n, .string e.mn.s, .int .i64 e.mx.t, .int .u64 e.mx.n, .string e.mx.s, .int .i64 e.df.t, .int .u64 e.df.n, .string e.df.s]
def En.arr (e : En) : Array Value := (enC e).toArray
theorem enC_len (e : En) : (enC e).length = 14 := rfl
theorem En.one (e : En) : ∀ u ∈ enC e, u.oneCell' = true := by
  intro u hu
  simp [enC] at hu
  rcases hu with rfl | rfl | rfl | rfl | rfl | rfl | rfl | rfl | rfl | rfl | rfl | rfl | rfl | rfl <;> rfl
/-- Where it is. -/
def En.pl (e : En) : Nat := e.ix * 256 + e.sb
theorem En.pl_lt (e : En) : e.pl < 16777216 := by have := e.hix; have := e.hsb; unfold En.pl; omega
theorem En.pl_iff (a b : En) : a.pl = b.pl ↔ a.ix = b.ix ∧ a.sb = b.sb := by have := a.hsb; have := b.hsb; unfold En.pl; omega
/-- The entry with its Default laid plain. -/
def En.plain (e : En) : En := { e with df := e.df.plain }
theorem infoE : (Tryz.prog.info? 93).map (·.size) = some 14 := by kernel_rfl
theorem wf_rng {w : World} {b : Nat} {C : List Value} {T : TypeId} {fr : Nat × Nat} (h : w.heap[b]? = some (.cells C.toArray T fr)) (o : Nat) (cs : List Value) (hc : ∀ j u, cs[j]? = some u → C[o + j]? = some u) : w.rangeAt b o cs := by
  intro j u hj
  rw [Lib.cell_of_heap h]
  simpa using hc j u hj
theorem rng_below {w w' : World} {b o : Nat} {cs : List Value} (h : w.rangeAt b o cs) (hb : Below w.heap.size w w') (hl : b < w.heap.size) : w'.rangeAt b o cs := fun j u hj => (hb.cell (p := ⟨b, o + j, none⟩) hl).trans (h j u hj)
section
variable {w : World} {ops : Array Oper} {rest : List Oper} {p : Oper} {a : Act} {Q : Exit → Act → World → Prop} {b o : Nat}
/-- A load of a whole value, of a whole entry. -/
theorem ldV {v : Vl} (h : w.rangeAt b o (vlC v)) (hgd : Region.wanted p (yielded ops a.tmps) = true) (x : Operand) (ho : p.op = .load 52 x) (hx : a.eval x = .pointer (some ⟨b, o, none⟩))
    (hh : wpList Tryz.prog ops Q rest (a.put p.dst (.agg v.arr)) w) : wpList Tryz.prog ops Q (p :: rest) a w :=
  BigFrame.wpList_want hgd fun _ hK => wp_load_mid 52 x ho b o hx (vlC v) _ h Tryz.underlying52 rfl (by rw [infoV]; rfl) (hK _ _ hh)
theorem ldE {e : En} (h : w.rangeAt b o (enC e)) (hgd : Region.wanted p (yielded ops a.tmps) = true) (x : Operand) (ho : p.op = .load 93 x) (hx : a.eval x = .pointer (some ⟨b, o, none⟩))
    (hh : wpList Tryz.prog ops Q rest (a.put p.dst (.agg e.arr)) w) : wpList Tryz.prog ops Q (p :: rest) a w :=
  BigFrame.wpList_want hgd fun _ hK => wp_load_mid 93 x ho b o hx (enC e) _ h Tryz.underlying93 rfl (by rw [infoE]; rfl) (hK _ _ hh)
end
/-- An entry in a block of its own. -/
def Eb (q : Nat) (e : En) (w : World) : Prop := w.heap[q]? = some (.cells e.arr 93 (0, 0))
section
variable {q : Nat} {e : En} {w : World}
theorem Eb.lt (h : Eb q e w) : q < w.heap.size := (Array.getElem?_eq_some_iff.1 h).1
theorem Eb.new (w : World) (e : En) : Eb w.heap.size e (w.alloc (.cells e.arr 93)) := heap_alloc_new w _
theorem Eb.alloc (h : Eb q e w) (o : Obj) : Eb q e (w.alloc o) := (Lib.alloc_old w o q h.lt).trans h
theorem Eb.below {w' : World} (h : Eb q e w) (hb : Below w.heap.size w w') : Eb q e w' := (hb.block q h.lt).trans h
theorem Eb.c (h : Eb q e w) : w.cell? ⟨q, 0, none⟩ = some (.int .u16 e.ix) ∧ w.cell? ⟨q, 1, none⟩ = some (.int .u8 e.sb) ∧ w.cell? ⟨q, 2, none⟩ = some (.int .i64 e.ac) ∧ w.cell? ⟨q, 3, none⟩ = some (.bool e.mp) ∧ w.cell? ⟨q, 4, none⟩ = some (.bool e.li) ∧ w.cell? ⟨q, 11, none⟩ = some (.int .i64 e.df.t) :=
  ⟨Lib.cell_of_heap h 0, Lib.cell_of_heap h 1, Lib.cell_of_heap h 2, Lib.cell_of_heap h 3, Lib.cell_of_heap h 4, Lib.cell_of_heap h 11⟩
theorem Eb.r0 (h : Eb q e w) : w.rangeAt q 0 (enC e) := wf_rng h 0 _ (fun j u hj => by simpa using hj)
theorem Eb.r5 (h : Eb q e w) : w.rangeAt q 5 (vlC e.mn) := wf_rng h 5 _ (fun j u hj => by
  match j, hj with
  | 0, hj => exact hj
  | 1, hj => exact hj
  | 2, hj => exact hj
  | j + 3, hj => simp [vlC] at hj)
theorem Eb.r8 (h : Eb q e w) : w.rangeAt q 8 (vlC e.mx) := wf_rng h 8 _ (fun j u hj => by
  match j, hj with
  | 0, hj => exact hj
  | 1, hj => exact hj
  | 2, hj => exact hj
  | j + 3, hj => simp [vlC] at hj)
theorem Eb.r11 (h : Eb q e w) : w.rangeAt q 11 (vlC e.df) := wf_rng h 11 _ (fun j u hj => by
  match j, hj with
  | 0, hj => exact hj
  | 1, hj => exact hj
  | 2, hj => exact hj
  | j + 3, hj => simp [vlC] at hj)
end
/-- An item: its block, its entry, what it has. -/
structure Im where
  b : Nat
  e : En
  v : Vl
def imC (e : En) (v : Vl) : List Value := enC e ++ vlC v
def ptrI (b : Nat) : Value := .pointer (some ⟨b, 0, none⟩)
def Ib (b : Nat) (e : En) (v : Vl) (w : World) : Prop := w.heap[b]? = some (.cells (imC e v).toArray 106 (0, 0))
section
variable {q : Nat} {e : En} {v : Vl} {w : World}
theorem Ib.lt (h : Ib q e v w) : q < w.heap.size := (Array.getElem?_eq_some_iff.1 h).1
theorem Ib.same {w' : World} (h : Ib q e v w) (hb : w'.heap[q]? = w.heap[q]?) : Ib q e v w' := hb.trans h
theorem Ib.below {w' : World} (h : Ib q e v w) (hb : Below w.heap.size w w') : Ib q e v w' := (hb.block q h.lt).trans h
theorem Ib.c (h : Ib q e v w) : w.cell? ⟨q, 0, none⟩ = some (.int .u16 e.ix) ∧ w.cell? ⟨q, 1, none⟩ = some (.int .u8 e.sb) ∧ w.cell? ⟨q, 2, none⟩ = some (.int .i64 e.ac) ∧ w.cell? ⟨q, 3, none⟩ = some (.bool e.mp) ∧ w.cell? ⟨q, 4, none⟩ = some (.bool e.li) ∧ w.cell? ⟨q, 11, none⟩ = some (.int .i64 e.df.t) :=
  ⟨Lib.cell_of_heap h 0, Lib.cell_of_heap h 1, Lib.cell_of_heap h 2, Lib.cell_of_heap h 3, Lib.cell_of_heap h 4, Lib.cell_of_heap h 11⟩
theorem Ib.r0 (h : Ib q e v w) : w.rangeAt q 0 (enC e) := wf_rng h 0 _ (fun j u hj => by
  have hl := (List.getElem?_eq_some_iff.1 hj).1
  rw [Nat.zero_add, imC, List.getElem?_append_left hl]; exact hj)
theorem Ib.r5 (h : Ib q e v w) : w.rangeAt q 5 (vlC e.mn) := wf_rng h 5 _ (fun j u hj => by
  match j, hj with
  | 0, hj => exact hj
  | 1, hj => exact hj
  | 2, hj => exact hj
  | j + 3, hj => simp [vlC] at hj)
theorem Ib.r8 (h : Ib q e v w) : w.rangeAt q 8 (vlC e.mx) := wf_rng h 8 _ (fun j u hj => by
  match j, hj with
  | 0, hj => exact hj
  | 1, hj => exact hj
  | 2, hj => exact hj
  | j + 3, hj => simp [vlC] at hj)
theorem Ib.r11 (h : Ib q e v w) : w.rangeAt q 11 (vlC e.df) := wf_rng h 11 _ (fun j u hj => by
  match j, hj with
  | 0, hj => exact hj
  | 1, hj => exact hj
  | 2, hj => exact hj
  | j + 3, hj => simp [vlC] at hj)
theorem Ib.r14 (h : Ib q e v w) : w.rangeAt q 14 (vlC v) := wf_rng h 14 _ (fun j u hj => by
  match j, hj with
  | 0, hj => exact hj
  | 1, hj => exact hj
  | 2, hj => exact hj
  | j + 3, hj => simp [vlC] at hj)
theorem Ib.frozen (h : Ib q e v w) (k : Nat) : w.frozen? ⟨q, k, none⟩ = false := Lib.frozen_of_heap h k
theorem Ib.there (h : Ib q e v w) : w.there q 14 3 := by
  intro j hj
  refine ⟨?_, h.frozen _⟩
  have := h.r14.isSome j (by simpa [vlC] using hj)
  exact this
theorem setCells_heap (w : World) (b o : Nat) (vs : List Value) (k : Nat) (h : k ≠ b) : (w.setCells b o vs).heap[k]? = w.heap[k]? := by
  induction vs generalizing o w with
  | nil => rfl
  | cons x r ih => exact (ih (w.setCell ⟨b, o, none⟩ x) (o + 1)).trans (Below.heap_setCell w ⟨b, o, none⟩ x k h)
theorem setCells_size (w : World) (b o : Nat) (vs : List Value) : (w.setCells b o vs).heap.size = w.heap.size := by
  induction vs generalizing o w with
  | nil => rfl
  | cons x r ih => exact (ih (w.setCell ⟨b, o, none⟩ x) (o + 1)).trans (by simp [World.setCell])
theorem Ib.set (h : Ib q e v w) (u : Vl) : Ib q e u (w.setCells q 14 (vlC u)) := by
  have h : w.heap[q]? = some (.cells (imC e v).toArray 106 (0, 0)) := h
  unfold Ib
  show (((w.setCell ⟨q, 14, none⟩ (.int .i64 u.t)).setCell ⟨q, 15, none⟩ (.int .u64 u.n)).setCell ⟨q, 16, none⟩ (.string u.s)).heap[q]? = _
  simp only [World.setCell, Array.getElem?_modify, h]
  simp [imC, enC, vlC]
end
theorem setCells_kept (w : World) (q o : Nat) (c : List Value) : w.grownBy (w.setCells q o c) (some q) := by
  induction c generalizing o w with
  | nil => exact ⟨rfl, rfl, rfl, Nat.le_refl _, fun _ _ _ => rfl⟩
  | cons x r ih =>
    have h1 := ih (w.setCell ⟨q, o, none⟩ x) (o + 1)
    refine ⟨h1.os, h1.tape, h1.output, ?_, fun k hk hne => setCells_heap w q o (x :: r) k (fun e => hne (by rw [e]))⟩
    rw [setCells_size]; exact Nat.le_refl _
end Go.Proofs.YtahfnknbmikmkaaGreat
namespace Go.Proofs.YtahfnknbmikmkaaGreat
open Go.RowKit Go.Proofs.Ty
set_option linter.unusedVariables false
set_option maxRecDepth 1000000
set_option linter.unusedSimpArgs false
theorem or_place (a b : Nat) (ha : a < 65536) (hb : b < 256) : bits BinOp.or IntKind.u32 ((a : Int) * 256) (b : Int) = ((a * 256 + b : Nat) : Int) := by
  have h1 : a * 256 ||| b = a * 256 + b := by
    have := Nat.shiftLeft_add_eq_or_of_lt (i := 8) (b := b) (by omega) a
    rw [Nat.shiftLeft_eq] at this
    simpa using this.symm
  have e : ((a : Int) * 256) = ((a * 256 : Nat) : Int) := by omega
  have h2 : (((a * 256 : Nat) : Int) % 4294967296).toNat = a * 256 := by omega
  have h3 : (((b : Nat) : Int) % 4294967296).toNat = b := by omega
  rw [e]
  show IntKind.u32.wrap ((((((a * 256 : Nat) : Int) % 4294967296).toNat ||| (((b : Nat) : Int) % 4294967296).toNat : Nat)) : Int) = _
  rw [h2, h3, h1]
  simp [IntKind.wrap, IntKind.bits, IntKind.signed]
  omega
theorem placeOf_any (a b : Nat) (ha : a < 65536) (hb : b < 256) (w : World) : Calls Tryz.prog 74 #[.int .u16 a, .int .u8 b] w fun e w' => e = .returned (.int .u32 (a * 256 + b : Nat)) ∧ w' = w := by
  have ho := or_place a b ha hb
  go_enter Tryz.func74, Tryz.ntmps74
  go_wp2
  go_ret
  refine ⟨ret_int ?_, rfl⟩
  first | (rw [ho]; done) | omega
theorem iplace_any {q : Nat} {e : En} {v : Vl} {w : World} (h : Ib q e v w) : Calls Tryz.prog 77 #[ptrI q] w fun x w' => x = .returned (.int .u32 e.pl) ∧ ∃ n, w' = w.drewN n := by
  have hp := placeOf_any e.ix e.sb e.hix e.hsb
  obtain ⟨c0, c1, _⟩ := h.c
  have HX : Hid (e.pl = e.ix * 256 + e.sb) := rfl
  generalize e.pl = P at *
  clear h
  generalize e.ix = A at *
  generalize e.sb = B at *
  have HC := hidOf2 (show (P : Int) = ((A * 256 + B : Nat) : Int) by rw [HX.out])
  generalize ((A * 256 + B : Nat) : Int) = C at *
  unfold ptrI
  go_enter Tryz.func77, Tryz.ntmps77
  go_upto_region 1 with fail
  go_quiet (first | (go_at_call 74; refine Calls.quiet_of_same (hp _)))
  go_wp2
  go_ret
  exact ⟨ret_int HC.out.symm, _, rfl⟩
theorem NaNp_any (x : Int) (w : World) : Calls Tryz.prog 114 #[.int .u32 x] w fun e w' => e = .returned (.bool false) ∧ w' = w := by
  go_enter Tryz.func114, Tryz.ntmps114
  go_wp2
  go_ret
  exact ⟨ret_bool (by simp), rfl⟩
theorem Cmpp_any (x y : Int) (w : World) : Calls Tryz.prog 76 #[.int .u32 x, .int .u32 y] w fun e w' => e = .returned (.int .i64 (cmpI x y)) ∧ w' = w := by
  have hx := NaNp_any x
  have hy := NaNp_any y
  have HV : Hid (cmpI x y = if x < y then -1 else if y < x then 1 else 0) := rfl
  generalize cmpI x y = V at *
  go_enter Tryz.func76, Tryz.ntmps76
  by_cases h1 : x < y
  · have d1 : decide (x < y) = true := decide_eq_true h1
    have e1 := hidOf (show V = -1 by rw [HV.out, if_pos h1])
    go_wp2_with (first | (go_at_call 114; refine (hx _).mono ?_; rintro e w1 ⟨rfl, rfl⟩) | (go_at_call 114; refine (hy _).mono ?_; rintro e w1 ⟨rfl, rfl⟩))
    go_ret
    exact ⟨ret_int e1.out.symm, rfl⟩
  · have d1 : decide (x < y) = false := decide_eq_false h1
    by_cases h2 : y < x
    · have d2 : decide (y < x) = true := decide_eq_true h2
      have e1 := hidOf (show V = 1 by rw [HV.out, if_neg h1, if_pos h2])
      go_wp2_with (first | (go_at_call 114; refine (hx _).mono ?_; rintro e w1 ⟨rfl, rfl⟩) | (go_at_call 114; refine (hy _).mono ?_; rintro e w1 ⟨rfl, rfl⟩))
      go_ret
      exact ⟨ret_int e1.out.symm, rfl⟩
    · have d2 : decide (y < x) = false := decide_eq_false h2
      have e1 := hidOf (show V = 0 by rw [HV.out, if_neg h1, if_neg h2])
      go_wp2_with (first | (go_at_call 114; refine (hx _).mono ?_; rintro e w1 ⟨rfl, rfl⟩) | (go_at_call 114; refine (hy _).mono ?_; rintro e w1 ⟨rfl, rfl⟩))
      go_ret
      exact ⟨ret_int e1.out.symm, rfl⟩
theorem Ib.drew {q : Nat} {e : En} {v : Vl} {w : World} (h : Ib q e v w) (n : Nat) : Ib q e v (w.drewN n) := h
/-- The order of two items. -/
theorem sort_cmp {a b : Nat} {ea eb : En} {va vb : Vl} {w : World} (ha : Ib a ea va w) (hb : Ib b eb vb w) : Calls Tryz.prog 125 #[ptrI a, ptrI b] w fun x w' => x = .returned (.int .i64 (cmpI ea.pl eb.pl)) ∧ ∃ n, w' = w.drewN n := by
  have h1 := iplace_any ha
  have h2 := fun n => iplace_any (hb.drew n)
  have h3 := Cmpp_any ea.pl eb.pl
  generalize cmpI ea.pl eb.pl = V at *
  clear ha hb
  go_enter Tryz.func125, Tryz.ntmps125
  go_wp2_with fail
  refine h1.mono ?_
  rintro x w1 ⟨rfl, n1, rfl⟩
  go_wp2_with fail
  refine (h2 n1).mono ?_
  rintro x w1 ⟨rfl, n2, rfl⟩
  go_wp2_with (go_at_call 76; refine (h3 _).mono ?_; rintro e w1 ⟨rfl, rfl⟩)
  go_ret
  exact ⟨rfl, _, rfl⟩
/-- An item against a place. -/
theorem find_cmp {a : Nat} {ea : En} {va : Vl} {w : World} (ha : Ib a ea va w) (t : Int) : Calls Tryz.prog 75 #[ptrI a, .int .u32 t] w fun x w' => x = .returned (.int .i64 (cmpI ea.pl t)) ∧ ∃ n, w' = w.drewN n := by
  have h1 := iplace_any ha
  have h3 := Cmpp_any ea.pl t
  generalize cmpI ea.pl t = V at *
  clear ha
  go_enter Tryz.func75, Tryz.ntmps75
  go_wp2_with fail
  refine h1.mono ?_
  rintro x w1 ⟨rfl, n1, rfl⟩
  go_wp2_with (go_at_call 76; refine (h3 _).mono ?_; rintro e w1 ⟨rfl, rfl⟩)
  go_ret
  exact ⟨rfl, _, rfl⟩
/-- An item's index against one in a block. -/
theorem find_ix {a q : Nat} {ea : En} {va : Vl} {w : World} (ha : Ib a ea va w) (i : Int) (hq : w.cell? ⟨q, 0, none⟩ = some (.int .u16 i)) : Calls Tryz.prog 79 #[ptrI a, .pointer (some ⟨q, 0, none⟩)] w fun x w' => x = .returned (.bool (decide ((ea.ix : Int) = i))) ∧ ∃ n, w' = w.drewN n := by
  obtain ⟨c0, _⟩ := ha.c
  have HV : Hid (decide ((ea.ix : Int) = i) = ((ea.ix : Int) == i)) := rfl
  generalize decide ((ea.ix : Int) = i) = V at *
  clear ha
  unfold ptrI
  go_enter Tryz.func79, Tryz.ntmps79
  go_upto_region 1 with fail
  go_quiet (fail)
  go_wp2
  go_ret
  exact ⟨ret_bool (by rw [HV.out]), _, rfl⟩
end Go.Proofs.YtahfnknbmikmkaaGreat
namespace Go.Proofs.YtahfnknbmikmkaaGreat
open Go.RowKit Go.Proofs.Ty
set_option linter.unusedVariables false
set_option maxRecDepth 1000000
set_option linter.unusedSimpArgs false
/-- Whether what an entry has at first lies between its limits. -/
def En.btw (e : En) : Bool := decide (ordE e.df e.mn = 0) && (decide (ordE e.df e.mx = 0) && (decide (0 ≤ ordN e.df e.mn) && decide (ordN e.df e.mx ≤ 0)))
/-- What is wrong with an entry. -/
def En.can (e : En) : Nat := if e.df.chk ≠ 0 then e.df.chk else if e.ac < 0 ∨ 3 < e.ac then 1 else if e.li = true ∧ ¬ (0 < siz e.df.t ∧ e.btw = true) then 1 else if e.mp = true ∧ ¬ 0 < siz e.df.t then 1 else 0
set_option maxHeartbeats 2000000 in
theorem between_any (e : En) (w : World) : Calls Tryz.prog 127 #[.agg e.arr] w fun x w' => x = .returned (.bool e.btw) ∧ Below w.heap.size w w' := by
  have hO1 := Order_v e.df e.mn
  have hO2 := Order_v e.df e.mx
  have HB : Hid (e.btw = (decide (ordE e.df e.mn = 0) && (decide (ordE e.df e.mx = 0) && (decide (0 ≤ ordN e.df e.mn) && decide (ordN e.df e.mx ≤ 0))))) := rfl
  have h0 := Eb.new w e
  have B0 : Below w.heap.size w (w.alloc (.cells e.arr 93)) := (Below.refl _ _).alloc (Nat.le_refl _) _
  generalize ordE e.df e.mn = E1 at *
  generalize ordE e.df e.mx = E2 at *
  generalize ordN e.df e.mn = N1 at *
  generalize ordN e.df e.mx = N2 at *
  generalize e.btw = R at *
  go_enter Tryz.func127, Tryz.ntmps127
  go_upto_region 1 with fail
  generalize (w.alloc (.cells e.arr 93)) = W at *
  obtain ⟨q, hq⟩ : ∃ q, w.heap.size = q := ⟨_, rfl⟩
  have l0 := h0.lt
  simp only [hq] at h0 l0 ⊢
  have r1 := h0.r11
  have r2 := h0.r5
  go_wp2_with (first | (refine ldV r1 rfl _ rfl rfl ?_) | (refine ldV r2 rfl _ rfl rfl ?_))
  refine (hO1 _).mono ?_
  rintro x w1 ⟨rfl, b1⟩
  have h1 := h0.below b1
  have B1 := B0.trans (b1.mono (by omega))
  have s1 := b1.size
  clear h0 B0 b1 hO1 r1 r2
  have r1 := h1.r11
  have r2 := h1.r8
  go_wp2_with (first | (refine ldV r1 rfl _ rfl rfl ?_) | (refine ldV r2 rfl _ rfl rfl ?_))
  refine (hO2 _).mono ?_
  rintro x w2 ⟨rfl, b2⟩
  have B2 := B1.trans (b2.mono (by omega))
  clear h1 B1 b2 hO2 r1 r2
  by_cases h1 : E1 = 0
  · by_cases h2 : E2 = 0
    · subst h1 h2
      by_cases h3 : 0 ≤ N1
      · have d3 : decide (0 ≤ N1) = true := decide_eq_true h3
        by_cases h4 : N2 ≤ 0
        · have d4 : decide (N2 ≤ 0) = true := decide_eq_true h4
          have e1 := hidOf2 (show R = true by rw [HB.out]; simp [h3, h4])
          clear HB
          go_wp2
          go_ret
          exact ⟨ret_bool e1.out.symm, B2⟩
        · have d4 : decide (N2 ≤ 0) = false := decide_eq_false h4
          have e1 := hidOf2 (show R = false by rw [HB.out]; simp [h3, h4])
          clear HB
          go_wp2
          go_ret
          exact ⟨ret_bool e1.out.symm, B2⟩
      · have d3 : decide (0 ≤ N1) = false := decide_eq_false h3
        have e1 := hidOf2 (show R = false by rw [HB.out]; simp [h3])
        clear HB
        go_wp2
        go_ret
        exact ⟨ret_bool e1.out.symm, B2⟩
    · have d2 : ((E2 : Int) == 0) = false := by simpa using h2
      have e1 := hidOf2 (show R = false by rw [HB.out]; simp [h2])
      subst h1
      clear HB
      go_wp2
      go_ret
      exact ⟨ret_bool e1.out.symm, B2⟩
  · have d1 : ((E1 : Int) == 0) = false := by simpa using h1
    have e1 := hidOf2 (show R = false by rw [HB.out]; simp [h1])
    clear HB
    go_wp2
    go_ret
    exact ⟨ret_bool e1.out.symm, B2⟩
set_option maxHeartbeats 4000000 in
theorem can_any (e : En) (w : World) : Calls Tryz.prog 103 #[.agg e.arr] w fun x w' => x = .returned (.int .i64 e.can) ∧ Below w.heap.size w w' := by
  have hC := Check_v e.df
  have hS := Size_any e.df.t
  have hB := between_any e
  have HB : Hid (e.can = if e.df.chk ≠ 0 then e.df.chk else if e.ac < 0 ∨ 3 < e.ac then 1 else if e.li = true ∧ ¬ (0 < siz e.df.t ∧ e.btw = true) then 1 else if e.mp = true ∧ ¬ 0 < siz e.df.t then 1 else 0) := rfl
  have h0 := Eb.new w e
  have B0 : Below w.heap.size w (w.alloc (.cells e.arr 93)) := (Below.refl _ _).alloc (Nat.le_refl _) _
  generalize e.df.chk = C at *
  generalize e.btw = T at *
  generalize e.can = R at *
  go_enter Tryz.func103, Tryz.ntmps103
  go_upto_region 1 with fail
  generalize (w.alloc (.cells e.arr 93)) = W at *
  obtain ⟨q, hq⟩ : ∃ q, w.heap.size = q := ⟨_, rfl⟩
  have l0 := h0.lt
  simp only [hq] at h0 l0 ⊢
  have r1 := h0.r11
  go_wp2_with (first | (refine ldV r1 rfl _ rfl rfl ?_))
  refine (hC _).mono ?_
  rintro x w1 ⟨rfl, b1⟩
  have h1 := h0.below b1
  have B1 := B0.trans (b1.mono (by omega))
  have s1 := b1.size
  clear h0 B0 b1 hC r1
  by_cases hc : C = 0
  · subst hc
    rw [if_neg (by simp)] at HB
    obtain ⟨c0, c1, c2, c3, c4, c11⟩ := h1.c
    have r0 := h1.r0
    generalize hnum : decide (0 < siz e.df.t) = N at *
    have HN : Hid (decide (0 < siz e.df.t) = N) := hnum
    clear hnum
    generalize siz e.df.t = Z at *
    generalize e.ac = A at *
    by_cases ha : A < 0
    · have d1 : decide (A < 0) = true := decide_eq_true ha
      have e1 := hidOf2 (show R = 1 by rw [HB.out, if_pos (.inl ha)])
      clear HB HN
      go_wp2_with (first | (go_at_call 118; refine (hS _).mono ?_; rintro e w3 ⟨rfl, rfl⟩))
      go_ret
      exact ⟨ret_int (by rw [e1.out]; rfl), B1⟩
    · have d1 : decide (A < 0) = false := decide_eq_false ha
      by_cases ha3 : 3 < A
      · have d2 : decide (3 < A) = true := decide_eq_true ha3
        have e1 := hidOf2 (show R = 1 by rw [HB.out, if_pos (.inr ha3)])
        clear HB HN
        go_wp2_with (first | (go_at_call 118; refine (hS _).mono ?_; rintro e w3 ⟨rfl, rfl⟩))
        go_ret
        exact ⟨ret_int (by rw [e1.out]; rfl), B1⟩
      · have d2 : decide (3 < A) = false := decide_eq_false ha3
        rw [if_neg (fun h => h.elim ha ha3)] at HB
        have HB2 := hidOf2 (show R = if e.li = true ∧ ¬ (N = true ∧ T = true) then 1 else if e.mp = true ∧ ¬ N = true then 1 else 0 by
          have h1 := HB.out
          have h2 := HN.out
          subst h2
          simpa using h1)
        clear HB HN
        generalize e.li = L at *
        generalize e.mp = M at *
        cases L <;> cases N <;> cases M <;> cases T
        all_goals
          have e1 := hidOf2 HB2.out
          clear HB2
          go_wp2_with (first | (go_at_call 118; refine (hS _).mono ?_; rintro e w3 ⟨rfl, rfl⟩) | (refine ldE r0 rfl _ rfl rfl ?_))
        all_goals first
          | (refine (hB _).mono ?_
             rintro x w2 ⟨rfl, b2⟩
             have B2 := B1.trans (b2.mono (by omega))
             have k3 := (b2.cell (p := ⟨q, 3, none⟩) h1.lt).trans c3
             clear B1 b2 h1 c0 c1 c2 c3 c4 c11 r0
             go_wp2
             go_ret
             exact ⟨ret_int (by rw [e1.out]; rfl), B2⟩)
          | (go_ret
             exact ⟨ret_int (by rw [e1.out]; rfl), B1⟩)
  · have d1 : ((C : Int) != 0) = true := by simpa using hc
    have e1 := hidOf2 (show R = C by rw [HB.out, if_pos hc])
    clear HB
    go_wp2
    go_ret
    exact ⟨ret_int (by rw [e1.out]), B1⟩
end Go.Proofs.YtahfnknbmikmkaaGreat
