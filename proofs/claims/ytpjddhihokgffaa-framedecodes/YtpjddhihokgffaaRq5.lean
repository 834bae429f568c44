/- Contract of the document's own Decode. -/
import Derived.Test.YtpjddhihokgffaaMathD
import Derived.Test.YtpjddhihokgffaaDec
namespace Go.Proofs.Ytpjddhihokgffaa
open Go.RowKit Go.Proofs.Bits
set_option linter.unusedVariables false
set_option maxRecDepth 1000000

section
variable {t : List UInt8} {x : Except Flt RS} {g q : Nat} {w w0 w' : World} {f : Fr}
def posOf (x : Except Flt RS) : Nat := match x with
  | .ok s => s.pos
  | .error f => f.1
theorem QE.c4 (h : QE t x g w) : w.cell? ⟨g, 4, none⟩ = some (.int .i64 (whyOf x)) := by
  cases x with
  | ok s => obtain ⟨_, r, b, h⟩ := h; exact h.cells.2.2.2.2.1
  | error f => obtain ⟨_, r, b, h⟩ := h; exact h.cells.2.2.2.2.1
theorem QE.c1 (h : QE t x g w) : w.cell? ⟨g, 1, none⟩ = some (.int .i64 (posOf x)) := by
  cases x with
  | ok s => obtain ⟨_, r, b, h⟩ := h; exact h.cells.2.1
  | error f => obtain ⟨_, r, b, h⟩ := h; exact h.cells.2.1
theorem QS.c3 (h : QS t x g w) : ∃ b : ByteArray, w.cell? ⟨g, 3, none⟩ = some (.string b) ∧ ∀ s, x = .ok s → b.data.toList = s.seen ∧ s.seen.all isBit = true ∧ s.seen.length ≤ t.length := by
  cases x with
  | ok s =>
    refine ⟨_, h.1.cells.2.2.2.1, fun s' hs => ?_⟩
    cases hs
    obtain ⟨q1, q2, q3, q4, q5, q6⟩ := h.2
    exact ⟨rfl, q4, by omega⟩
  | error f => obtain ⟨_, r, b, h⟩ := h; exact ⟨b, h.cells.2.2.2.1, fun s hs => by cases hs⟩
def Es (t : List UInt8) (x : Except Flt RS) (g q : Nat) (f : Fr) (w0 w : World) : Prop := QE t x g w ∧ Fa q f w ∧ q ≠ g ∧ w0.heap.size ≤ g ∧ w0.heap.size ≤ q ∧ Below w0.heap.size w0 w
theorem Ds.late (h : Ds t x g q f w0 w) : Es t x g q f w0 w := ⟨h.1.late, h.2⟩
theorem Ds.fail21 {s : RS} (h : Ds t (.ok s) g q f w0 w) : Es t (.error (s.pos, 21)) g q f w0 (w.setCell ⟨g, 4, none⟩ (.int .i64 21)) := by
  obtain ⟨h1, h2, h3, h4, h5, h6⟩ := h
  exact ⟨⟨(by simp), _, _, h1.1.y' 21⟩, h2.other (p := ⟨g, 4, none⟩) h3 _, h3, h4, h5, h6.setCell (p := ⟨g, 4, none⟩) h4 _⟩
theorem Es.fixed (er : Int) (her : er = 22 ∨ er = 23) (ht : t.length ≤ 65536) (hall : t.all isBit = true) (h : Es t x g q f w0 w) :
    Calls Try.prog 50 #[.pointer (some ⟨g, 0, none⟩), .int .i64 er] w fun e w' => e = .returned (.tuple #[]) ∧ Hid (Es t (stOf (onS x (fixS t (lvOf er) er))) g q f w0 w') := by
  refine (rdfixed_any er her ht hall h.1).mono ?_
  rintro e w' ⟨rfl, h1, hg⟩
  obtain ⟨_, h2, h3, h4, h5, h6⟩ := h
  exact ⟨rfl, h1, (hg.block q h2.lt (fun e => h3 (Option.some.inj e))).trans h2, h3, h4, h5, h6.grown hg (by have := h6.size; omega) (fun k hk => by cases hk; omega)⟩
theorem Ds.skip {s : RS} (ht : t.length ≤ 65536) (hall : t.all isBit = true) (h : Ds t (.ok s) g q f w0 w) :
    Calls Try.prog 49 #[.pointer (some ⟨g, 0, none⟩)] w fun e w' => e = .returned (.tuple #[]) ∧ Hid (Ds t (stOf (skipL t s)) g q f w0 w') := by
  refine (rdskip_any ht hall h.1).mono ?_
  rintro e w' ⟨rfl, h1, hg⟩
  refine ⟨rfl, h.next ?_ hg⟩
  cases hs : skipL t s with
  | error f => rw [hs] at h1; exact h1
  | ok p => rw [hs] at h1; exact h1
theorem Ds.below (h : Ds t x g q f w0 w) (hb : Below w.heap.size w w') : Ds t x g q f w0 w' := by
  obtain ⟨h1, h2, h3, h4, h5, h6⟩ := h
  have hg : g < w.heap.size := by
    cases x with
    | ok s => exact h1.1.lt
    | error f => obtain ⟨_, r, b, h⟩ := h1; exact h.lt
  have e := hb.block g hg
  refine ⟨?_, (hb.block q h2.lt).trans h2, h3, h4, h5, h6.trans (hb.mono h6.size)⟩
  cases x with
  | ok s => exact ⟨e.trans h1.1, h1.2⟩
  | error f => obtain ⟨h0, r, b, h⟩ := h1; exact ⟨h0, r, b, e.trans h⟩
/-- The k-th byte is another one. -/
def Fr.setD (f : Fr) (k : Nat) (c : UInt8) : Fr := { f with data := f.data.set k c, hdata := by simp [f.hdata] }
theorem Fr.arr_D (f : Fr) (k : Nat) (c : UInt8) : f.arr.setIfInBounds (4 + k) (.int .u8 c.toNat) = (f.setD k c).arr := by
  simp only [Fr.arr, Fr.cells, List.setIfInBounds_toArray, Fr.setD]
  congr 1
  rw [show 4 + k = k + 1 + 1 + 1 + 1 by omega]
  simp [List.map_set]
theorem Ds.setD (h : Ds t x g q f w0 w) (k : Nat) (c : UInt8) : Ds t x g q (f.setD k c) w0 (w.setCell ⟨q, 4 + k, none⟩ (.int .u8 c.toNat)) :=
  h.put (by unfold Fa; rw [h.2.1.set, f.arr_D])
theorem dec_results {Q : Nat} {f : Fr} {n e : Int} (h : Fa Q f w) (tmps : Array Value) (h2 : tmps[2]?.getD undef = .pointer (some ⟨Q, 0, none⟩)) (h3 : tmps[3]?.getD undef = .int .i64 n) (h4 : tmps[4]?.getD undef = .int .i64 e) :
    (results Try.f22 tmps).run Try.prog w = .ok (.tuple #[f.val, .int .i64 n, .int .i64 e]) w := by
  have l0 := h.load
  simp [Go.results, Try.results22, h2, h3, h4, asAddr, l0, Fr.val]
theorem crc_ok {l : List UInt8} (h : l.all isBit = true) (hl : l.length ≤ 65536) : crcV l = crc l := by
  have : err l = 0 := by unfold err; rw [if_neg (by omega), if_pos h]
  rw [crcV, if_pos this]
theorem bytes_eq {f f' : Fr} (h1 : f'.rem = f.rem) (h2 : f'.len = f.len) : f'.bytes = f.bytes := by unfold Fr.bytes; rw [h1, h2]
/-- What the bytes' loop keeps. -/
def Lk (t : List UInt8) (x : Except Flt RS) (k : Nat) (f' : Fr) : Prop := ∀ p s', onS x (headL t) = .ok (p, s') → ∀ ds s'', bytesLz t k s' = .ok (ds, s'') → f'.arr = (toldF ⟨p.1.1, p.1.2.1, p.1.2.2, p.2, ds⟩).arr
theorem Lk.next {k v : Nat} {f f' : Fr} (HF : ∀ p s', onS x (headL t) = .ok (p, s') → p.1.1 < 4294967296 ∧ p.2 < 16 ∧ f = toldF ⟨p.1.1, p.1.2.1, p.1.2.2, p.2, []⟩) (hk : k < 8) (h : Lk t x k f') (hv : v < 256)
    (V : ∀ q, onS (stOf (onS (stOf (onS x (headL t))) (bytesLz t k))) (takeL t 8) = .ok q → v = val q.1) : Lk t x (k + 1) (f'.setD k v.toUInt8) := by
  intro p s' hp ds s'' hd
  obtain ⟨es, s1, b, h1, h2, rfl⟩ := bytes_ok hd
  obtain ⟨f1, f2, _⟩ := HF p s' hp
  have e := h p s' hp es s1 h1
  have hl := bytes_len k h1
  have hvb := V (b, s'') (by rw [hp]; simp [stOf, onS, h1, h2])
  have hs := toldF_snoc ⟨p.1.1, p.1.2.1, p.1.2.2, p.2, es⟩ (val b).toUInt8 f1 (by simp only; omega) (by simp only; omega)
  rw [← f'.arr_D, e, hvb]
  simp only [hl] at hs
  exact hs
end

theorem Fa.drew {w : World} {q : Nat} {f : Fr} (h : Fa q f w) : Fa q f w.drew := h
theorem nul_arr : Fr.nul.arr = #[.int .u32 0, .bool false, .bool false, .int .i64 0, .int .u8 0, .int .u8 0, .int .u8 0, .int .u8 0, .int .u8 0, .int .u8 0, .int .u8 0, .int .u8 0] := rfl
theorem Fa.fillN {w : World} {Q : Nat} {f : Fr} (h : Fa Q Fr.nul w) (i : Int) (x r : Bool) (n d0 d1 d2 d3 d4 d5 d6 d7 : Int) (hA : f.arr = #[.int .u32 i, .bool x, .bool r, .int .i64 n, .int .u8 d0, .int .u8 d1, .int .u8 d2, .int .u8 d3, .int .u8 d4, .int .u8 d5, .int .u8 d6, .int .u8 d7]) : Fa Q f (fill w Q i x r n d0 d1 d2 d3 d4 d5 d6 d7) := by
  have h0 : w.heap[Q]? = some (.cells (#[.int .u32 0, .bool false, .bool false, .int .i64 0, .int .u8 0, .int .u8 0, .int .u8 0, .int .u8 0, .int .u8 0, .int .u8 0, .int .u8 0, .int .u8 0] : Array Value) 25 (0, 0)) := h
  have ee : (((((((((((((#[.int .u32 0, .bool false, .bool false, .int .i64 0, .int .u8 0, .int .u8 0, .int .u8 0, .int .u8 0, .int .u8 0, .int .u8 0, .int .u8 0, .int .u8 0] : Array Value).setIfInBounds 0 (.int .u32 i)).setIfInBounds 1 (.bool x)).setIfInBounds 2 (.bool r)).setIfInBounds 3 (.int .i64 n)).setIfInBounds 4 (.int .u8 d0)).setIfInBounds 5 (.int .u8 d1)).setIfInBounds 6 (.int .u8 d2)).setIfInBounds 7 (.int .u8 d3)).setIfInBounds 8 (.int .u8 d4)).setIfInBounds 9 (.int .u8 d5)).setIfInBounds 10 (.int .u8 d6)).setIfInBounds 11 (.int .u8 d7)) = #[.int .u32 i, .bool x, .bool r, .int .i64 n, .int .u8 d0, .int .u8 d1, .int .u8 d2, .int .u8 d3, .int .u8 d4, .int .u8 d5, .int .u8 d6, .int .u8 d7] := by simp
  have g := (heap_set (i := 11) (heap_set (i := 10) (heap_set (i := 9) (heap_set (i := 8) (heap_set (i := 7) (heap_set (i := 6) (heap_set (i := 5) (heap_set (i := 4) (heap_set (i := 3) (heap_set (i := 2) (heap_set (i := 1) (heap_set (i := 0) h0 (.int .u32 i)) (.bool x)) (.bool r)) (.int .i64 n)) (.int .u8 d0)) (.int .u8 d1)) (.int .u8 d2)) (.int .u8 d3)) (.int .u8 d4)) (.int .u8 d5)) (.int .u8 d6)) (.int .u8 d7))
  rw [ee, ← hA] at g
  exact g

set_option maxHeartbeats 4000000 in
theorem r2Decode_bad (t : List UInt8) (w : World) (h0 : err t ≠ 0) :
    Calls Try.prog 22 #[.string ⟨t.toArray⟩] w fun e w' => e = .returned (.tuple #[Fr.nul.val, .int .i64 0, .int .i64 (err t)]) ∧ Below w.heap.size w w' := by
  have HL : ∀ W, Calls Try.prog 45 #[.string ⟨t.toArray⟩] W fun e w' => e = .returned (.int .i64 (err t)) ∧ w' = W := fun W => Check_any ⟨t.toArray⟩ W
  have hn : (err t != 0) = true := by simp [h0]
  go_enter Try.func22, Try.ntmps22
  go_wp2_with fail
  refine (HL _).mono ?_
  rintro e w1 ⟨rfl, rfl⟩
  go_wp2_with fail
  exact bodyPost_ret (dec_results (Fa.new w Fr.nul) _ rfl rfl rfl) rfl ⟨rfl, (Below.refl _ _).alloc (Nat.le_refl _) _⟩
set_option maxHeartbeats 16000000 in
theorem r2Decode_ok (t : List UInt8) (w : World) (h0 : err t = 0) :
    Calls Try.prog 22 #[.string ⟨t.toArray⟩] w fun e w' => e = .returned (decV t) ∧ Below w.heap.size w w' := by
  obtain ⟨ht, hall⟩ := err_zero h0
  have HL : ∀ W, Calls Try.prog 45 #[.string ⟨t.toArray⟩] W fun e w' => e = .returned (.int .i64 0) ∧ w' = W := fun W => h0 ▸ Check_any ⟨t.toArray⟩ W
  have hW0 : Fa w.heap.size Fr.nul (w.alloc (.cells Fr.nul.arr 25)) := Fa.new w Fr.nul
  have hB0 : Below w.heap.size w (w.alloc (.cells Fr.nul.arr 25)) := (Below.refl _ _).alloc (Nat.le_refl _) _
  have hD0 : Ds t (.ok Bits.start) (w.heap.size + 1) (w.heap.size + 1 + 1) Fr.nul (w.alloc (.cells Fr.nul.arr 25)) (((w.alloc (.cells Fr.nul.arr 25)).alloc (.cells #[.string ⟨t.toArray⟩, .int .i64 0, .int .i64 0, .string ⟨#[]⟩, .int .i64 0] 81)).alloc (.cells Fr.nul.arr 25)) := by
    have e1 : (w.alloc (.cells Fr.nul.arr 25)).heap.size = w.heap.size + 1 := size_alloc _ _
    generalize w.alloc (.cells Fr.nul.arr 25) = W at *
    rw [← e1]
    have n1 := heap_alloc_new W (.cells #[.string ⟨t.toArray⟩, .int .i64 0, .int .i64 0, .string ⟨#[]⟩, .int .i64 0] 81)
    have e2 : (W.alloc (.cells #[.string ⟨t.toArray⟩, .int .i64 0, .int .i64 0, .string ⟨#[]⟩, .int .i64 0] 81)).heap.size = W.heap.size + 1 := size_alloc _ _
    have b1 : Below W.heap.size W (W.alloc (.cells #[.string ⟨t.toArray⟩, .int .i64 0, .int .i64 0, .string ⟨#[]⟩, .int .i64 0] 81)) := (Below.refl _ _).alloc (Nat.le_refl _) _
    generalize W.alloc (.cells #[.string ⟨t.toArray⟩, .int .i64 0, .int .i64 0, .string ⟨#[]⟩, .int .i64 0] 81) = W2 at *
    rw [← e2]
    refine ⟨⟨(Lib.alloc_old W2 _ W.heap.size (by omega)).trans n1, ⟨Nat.zero_le _, by decide, Nat.le_refl _, rfl, fun _ => ⟨rfl, rfl⟩, fun h => absurd h (by decide)⟩⟩, Fa.new W2 Fr.nul, by omega, Nat.le_refl _, by omega, b1.alloc (by omega) _⟩
  have HErr : Hid (∀ e, decS t = .error e → decV t = .tuple #[Fr.nul.val, .int .i64 e.1, .int .i64 e.2]) := fun e he => by simp [decV, decF, decN, decE, h0, he]
  have HOk : Hid (∀ F s, decS t = .ok (F, s) → decV t = .tuple #[(toldF F).val, .int .i64 s.pos, .int .i64 0]) := fun F s he => by simp [decV, decF, decN, decE, h0, he]
  generalize decV t = DV at *
  go_enter Try.func22, Try.ntmps22
  go_wp2_with fail
  refine (HL _).mono ?_
  rintro e w1 ⟨rfl, rfl⟩
  go_wp2_with fail
  change Calls Try.prog 46 _ (((w.alloc (.cells Fr.nul.arr 25)).alloc (.cells #[.string ⟨t.toArray⟩, .int .i64 0, .int .i64 0, .string ⟨#[]⟩, .int .i64 0] 81)).alloc (.cells Fr.nul.arr 25)) _
  have hq0 : w.heap.size < (w.alloc (.cells Fr.nul.arr 25)).heap.size := by rw [size_alloc]; omega
  generalize ((w.alloc (.cells Fr.nul.arr 25)).alloc (.cells #[.string ⟨t.toArray⟩, .int .i64 0, .int .i64 0, .string ⟨#[]⟩, .int .i64 0] 81)).alloc (.cells Fr.nul.arr 25) = W1 at *
  generalize w.alloc (.cells Fr.nul.arr 25) = W0 at *
  generalize hQ : w.heap.size = Q at *
  generalize hG : Q + 1 = G at *
  generalize hE : G + 1 = E at *
  refine (rdhead_any ht hall hD0).mono ?_
  rintro e w2 ⟨rfl, x, f, hBL, hD1, hF⟩
  clear hD0 HL h0
  have HBL : Hid (bodyL t Bits.start = onS x (restL t)) := hBL
  have HF : Hid (∀ p s', onS x (headL t) = .ok (p, s') → p.1.1 < 4294967296 ∧ p.2 < 16 ∧ f = toldF ⟨p.1.1, p.1.2.1, p.1.2.2, p.2, []⟩) := hF
  have HL0 : Hid (Lk t x 0 f) := by
    intro p s' hp ds s'' hd
    simp only [bytesLz, retR, Except.ok.injEq, Prod.mk.injEq] at hd
    rw [← hd.1, (hF p s' hp).2.2]
  clear hBL hF
  have HW : Hid (Fa Q Fr.nul W0 ∧ Below Q w W0 ∧ Q < W0.heap.size) := ⟨hW0, hB0, hq0⟩
  clear hW0 hB0 hq0
  have hfb := f.bytes_le
  go_wp2_with fail
  go_loopw [8] (fun i wr => ∃ (k : Nat) (f' : Fr), k ≤ f.bytes ∧ i = .int .i64 k ∧ Ds t (stOf (onS (stOf (onS x (headL t))) (bytesLz t k))) G E f' W0 wr ∧ f'.rem = f.rem ∧ f'.len = f.len ∧ Lk t x k f') (fun i _ => f.bytes - (intOf i).toNat)
  case atStart =>
    refine ⟨0, f, Nat.zero_le _, rfl, ?_, rfl, rfl, HL0.out⟩
    have e0 : stOf (onS (stOf (onS x (headL t))) (bytesLz t 0)) = stOf (onS x (headL t)) := by cases stOf (onS x (headL t)) <;> rfl
    rw [e0]
    exact hD1
  case round =>
    obtain ⟨k, f', hk, rfl, hD, hr1, hr2, hLk⟩ := hrel
    have hfa := hD.2.1
    have hbe := bytes_eq hr1 hr2
    have HD : Hid (Ds t (stOf (onS (stOf (onS x (headL t))) (bytesLz t k))) G E f' W0 wr) := hD
    have HLk : Hid (Lk t x k f') := hLk
    have HR : Hid (f'.rem = f.rem ∧ f'.len = f.len) := ⟨hr1, hr2⟩
    clear hD hLk hr1 hr2 hD1 HL0
    have HBy := r2Bytes_any f' wr
    rw [hbe] at HBy
    unfold Fr.val at HBy
    clear hbe
    go_wp2_with (refine hfa.ld rfl _ rfl rfl ?_)
    refine HBy.mono ?_
    rintro e w3 ⟨rfl, b3⟩
    have D3 : Hid (Ds t (stOf (onS (stOf (onS x (headL t))) (bytesLz t k))) G E f' W0 w3) := HD.out.below b3
    clear HD HBy b3 hfa
    by_cases hkn : k < f.bytes
    · have hk8 : k < 8 := by omega
      go_wp2_with fail
      refine (D3.out.take 8 (by omega) ht hall).mono ?_
      rintro e w4 ⟨v, rfl, lv, V, D4⟩
      have hv : v < 256 := by omega
      have cD : w4.cell? ⟨E, 4 + k, none⟩ = some (.int .u8 _) := (Lib.cell_of_heap D4.out.2.1 (4 + k)).trans (f'.arrD k hk8)
      have zD := D4.out.2.1.frozen (4 + k)
      have D5 : Hid (Ds t (tk t (stOf (onS (stOf (onS x (headL t))) (bytesLz t k))) 8) G E (f'.setD k v.toUInt8) W0 (w4.setCell ⟨E, 4 + k, none⟩ (.int .u8 v))) := by
        have := D4.out.setD k v.toUInt8
        rw [show (v.toUInt8.toNat) = v by simp; omega] at this
        exact this
      clear D3 D4
      go_wp2
      go_roundw
      case rel =>
        refine ⟨k + 1, f'.setD k v.toUInt8, by omega, by go_num, ?_, HR.out.1, HR.out.2, HLk.out.next HF.out hk8 hv V.out⟩
        rw [bytes_step]
        exact D5.out
      case measure => simp [intOf]; omega
    · obtain rfl : k = f.bytes := by omega
      have HN : Hid (∀ p s', onS x (headL t) = .ok (p, s') → f.bytes = nOf p.1.2.2 p.2) := fun p s' hp => by
        obtain ⟨h1, h2, h3⟩ := HF.out p s' hp
        rw [h3]
        exact toldF_bytes p.1 p.2 h1 (by omega)
      obtain ⟨y1, hy1⟩ : ∃ y1, y1 = stOf (onS (stOf (onS x (headL t))) (bytesLz t f.bytes)) := ⟨_, rfl⟩
      have D3' := D3.out
      rw [← hy1] at D3'
      have HY1 : Hid (y1 = stOf (onS (stOf (onS x (headL t))) (bytesLz t f.bytes))) := hy1
      clear hy1 D3
      obtain ⟨b, c3, hb⟩ := D3'.1.c3
      have HNN : Hid (∀ s, y1 = .ok s → crcV b.data.toList = crc s.seen) := fun s hs => by
        obtain ⟨e1, e2, e3⟩ := hb s hs
        rw [e1]
        exact crc_ok e2 (by omega)
      have hcl := crcV_lt b.data.toList
      have HC := rCRC_any b w3
      generalize crcV b.data.toList = nn at *
      generalize err b.data.toList = ne at *
      have D3'' : Hid (Ds t y1 G E f' W0 w3) := D3'
      clear D3' hb
      go_wp2_with fail
      refine HC.mono ?_
      rintro e w4 ⟨rfl, rfl⟩
      clear HC c3
      go_wp2_with fail
      refine (D3''.out.take 15 (by omega) ht hall).mono ?_
      rintro e w5 ⟨v, rfl, lv, V, D4⟩
      clear D3''
      have hwv : IntKind.u64.wrap (nn : Int) = (nn : Int) := by
        have e : ∀ n : Int, IntKind.u64.wrap n = n % 18446744073709551616 := fun n => by simp [IntKind.wrap, IntKind.bits, IntKind.signed]
        rw [e]; omega
      have hcmp : ((v : Int) == (nn : Int)) = decide (v = nn) := by by_cases h : v = nn <;> simp [h] <;> omega
      have hcmn : ((v : Int) != (nn : Int)) = !decide (v = nn) := by by_cases h : v = nn <;> simp [h] <;> omega
      have c4 := D4.out.1.c4
      obtain ⟨y2, hy2⟩ : ∃ y2, y2 = tk t y1 15 := ⟨_, rfl⟩
      have D4' := D4.out
      rw [← hy2] at D4' c4
      have HY2 : Hid (y2 = tk t y1 15) := hy2
      clear hy2 D4
      cases y2
      case' error =>
        rename_i e2
        have hne : (e2.2 == 0) = false := by simp [D4'.1.1]
        have c4' : w5.cell? ⟨G, 4, none⟩ = some (.int .i64 e2.2) := c4
        obtain ⟨y4, D7, HY4⟩ : ∃ y4, Hid (Es t y4 G E f' W0 w5) ∧ Hid (y4 = cmpS (stOf (onS (tk t y1 15) (skipL t))) (decide (v = nn))) := ⟨_, D4'.late, by show _ = _; rw [← HY2.out]; rfl⟩
        clear c4 D4' hwv hcmp hcmn HY2
        go_wp2_with fail
      case' ok =>
        rename_i s2
        have c4' : w5.cell? ⟨G, 4, none⟩ = some (.int .i64 0) := c4
        have D5 : Hid (Ds t (.ok s2) G E f' W0 w5) := D4'
        clear c4 D4'
        go_wp2_with fail
        refine (D5.out.skip ht hall).mono ?_
        rintro e w6 ⟨rfl, D6⟩
        clear D5 c4'
        have HY2' : Hid (stOf (onS (tk t y1 15) (skipL t)) = stOf (skipL t s2)) := by show _ = _; rw [← HY2.out]; rfl
        clear HY2
        obtain ⟨y3, hy3⟩ : ∃ y3, y3 = stOf (skipL t s2) := ⟨_, rfl⟩
        have D6' := D6.out
        rw [← hy3] at D6' HY2'
        clear hy3 D6
        have c4 := D6'.1.c4
        cases y3
        case' error =>
          rename_i e3
          have hne : (e3.2 == 0) = false := by simp [D6'.1.1]
          have c4' : w6.cell? ⟨G, 4, none⟩ = some (.int .i64 e3.2) := c4
          obtain ⟨y4, D7, HY4⟩ : ∃ y4, Hid (Es t y4 G E f' W0 w6) ∧ Hid (y4 = cmpS (stOf (onS (tk t y1 15) (skipL t))) (decide (v = nn))) := ⟨_, D6'.late, by show _ = _; rw [HY2'.out]; rfl⟩
          clear c4 D6' HY2' hwv hcmp hcmn
          go_wp2_with fail
        case' ok =>
          rename_i s3
          have c4' : w6.cell? ⟨G, 4, none⟩ = some (.int .i64 0) := c4
          have z4 : w6.frozen? ⟨G, 4, none⟩ = false := D6'.1.1.cells.2.2.2.2.2 4
          by_cases hvn : v = nn
          case' pos =>
            obtain ⟨y4, D7, HY4⟩ : ∃ y4, Hid (Es t y4 G E f' W0 w6) ∧ Hid (y4 = cmpS (stOf (onS (tk t y1 15) (skipL t))) (decide (v = nn))) := ⟨_, D6'.late, by show _ = _; rw [HY2'.out]; simp [cmpS, hvn]⟩
            clear c4 D6' HY2'
            go_wp2_with fail
          case' neg =>
            obtain ⟨y4, D7, HY4⟩ : ∃ y4, Hid (Es t y4 G E f' W0 (w6.setCell ⟨G, 4, none⟩ (.int .i64 21))) ∧ Hid (y4 = cmpS (stOf (onS (tk t y1 15) (skipL t))) (decide (v = nn))) := ⟨_, D6'.fail21, by show _ = _; rw [HY2'.out]; simp [cmpS, hvn]⟩
            clear c4 D6' HY2'
            go_wp2_with fail
      all_goals
        refine (D7.out.fixed 22 (.inl rfl) ht hall).mono ?_
        rintro e w8 ⟨rfl, D8⟩
        clear D7
        go_wp2_with fail
        refine (D8.out.fixed 23 (.inr rfl) ht hall).mono ?_
        rintro e w9 ⟨rfl, D9⟩
        clear D8
        rw [show lvOf 22 = 49 by simp [lvOf], show lvOf 23 = 48 by simp [lvOf]] at D9
        obtain ⟨y6, hy6⟩ : ∃ y6, y6 = stOf (onS (stOf (onS y4 (fixS t 49 22))) (fixS t 48 23)) := ⟨_, rfl⟩
        rw [← hy6] at D9
        have HY6 : Hid (y6 = stOf (onS (stOf (onS y4 (fixS t 49 22))) (fixS t 48 23))) := hy6
        clear hy6
        go_wp2_with fail
        obtain ⟨W9, hW9⟩ : ∃ W, W = w9 := ⟨_, rfl⟩
        go_loopw [12] (fun i wr => ∃ (k : Nat), k ≤ 8 ∧ i = .int .i64 k ∧ Es t (stOf (onS y6 (fixN t 49 22 k))) G E f' W0 wr) (fun i _ => 8 - (intOf i).toNat)
        case atStart =>
          refine ⟨0, Nat.zero_le _, rfl, ?_⟩
          have e0 : stOf (onS y6 (fixN t 49 22 0)) = y6 := by cases y6 <;> rfl
          rw [e0]
          exact D9.out
        case round =>
          obtain ⟨k, hk, rfl, hD⟩ := hrel
          have D10 : Hid (Es t (stOf (onS y6 (fixN t 49 22 k))) G E f' W0 wr) := hD
          clear hD D9
          by_cases hk8 : k < 8
          · go_wp2_with fail
            refine (D10.out.fixed 22 (.inl rfl) ht hall).mono ?_
            rintro e w10 ⟨rfl, D11⟩
            rw [show lvOf 22 = 49 by simp [lvOf]] at D11
            clear D10
            go_wp2
            go_roundw
            case rel =>
              refine ⟨k + 1, by omega, by go_num, ?_⟩
              rw [fix_step]
              exact D11.out
            case measure => simp [intOf]; omega
          · obtain rfl : k = 8 := by omega
            have HY7 : Hid (stOf (onS y6 (fixN t 49 22 8)) = stOf (onS y4 (endS t))) := by show _ = _; rw [HY6.out, end_chain]
            have D10' := D10.out
            clear D10
            generalize hy7 : stOf (onS y6 (fixN t 49 22 8)) = y7 at HY7 D10'
            clear hy7
            obtain ⟨HX1, HX2⟩ := dec_chain f.bytes HBL.out HN.out v nn HY1.out V.out HNN.out HY4.out HY7.out
            have hFQ : Fa Q Fr.nul wr := (D10'.2.2.2.2.2.block Q HW.out.2.2).trans HW.out.1
            have hBQ : Below Q w wr := HW.out.2.1.trans (D10'.2.2.2.2.2.mono (Nat.le_of_lt HW.out.2.2))
            have c4 := D10'.1.c4
            have c1 := D10'.1.c1
            have hfa := D10'.2.1
            cases y7 with
            | error e7 =>
              have hdv := HErr.out e7 (HX1 e7 rfl)
              have hne : (e7.2 != 0) = true := by simp [D10'.1.1]
              have c4' : wr.cell? ⟨G, 4, none⟩ = some (.int .i64 e7.2) := c4
              have c1' : wr.cell? ⟨G, 1, none⟩ = some (.int .i64 e7.1) := c1
              clear HX1 HX2 c4 c1
              have hQh : wr.heap[Q]? = some (.cells (#[.int .u32 0, .bool false, .bool false, .int .i64 0, .int .u8 0, .int .u8 0, .int .u8 0, .int .u8 0, .int .u8 0, .int .u8 0, .int .u8 0, .int .u8 0] : Array Value) 25 (0, 0)) := hFQ
              have q0 : wr.cell? ⟨Q, 0, none⟩ = some (.int .u32 0) := Lib.cell_of_heap hQh 0
              have q1 : wr.cell? ⟨Q, 1, none⟩ = some (.bool false) := Lib.cell_of_heap hQh 1
              have q2 : wr.cell? ⟨Q, 2, none⟩ = some (.bool false) := Lib.cell_of_heap hQh 2
              have q3 : wr.cell? ⟨Q, 3, none⟩ = some (.int .i64 0) := Lib.cell_of_heap hQh 3
              have q4 : wr.cell? ⟨Q, 4, none⟩ = some (.int .u8 0) := Lib.cell_of_heap hQh 4
              have q5 : wr.cell? ⟨Q, 5, none⟩ = some (.int .u8 0) := Lib.cell_of_heap hQh 5
              have q6 : wr.cell? ⟨Q, 6, none⟩ = some (.int .u8 0) := Lib.cell_of_heap hQh 6
              have q7 : wr.cell? ⟨Q, 7, none⟩ = some (.int .u8 0) := Lib.cell_of_heap hQh 7
              have q8 : wr.cell? ⟨Q, 8, none⟩ = some (.int .u8 0) := Lib.cell_of_heap hQh 8
              have q9 : wr.cell? ⟨Q, 9, none⟩ = some (.int .u8 0) := Lib.cell_of_heap hQh 9
              have q10 : wr.cell? ⟨Q, 10, none⟩ = some (.int .u8 0) := Lib.cell_of_heap hQh 10
              have q11 : wr.cell? ⟨Q, 11, none⟩ = some (.int .u8 0) := Lib.cell_of_heap hQh 11
              have zz : ∀ j, wr.frozen? ⟨Q, j, none⟩ = false := fun j => Lib.frozen_of_heap hQh j
              have HFr : Hid (Fa Q Fr.nul (fill wr Q 0 false false 0 0 0 0 0 0 0 0 0).drew) := (hFQ.fillN 0 false false 0 0 0 0 0 0 0 0 0 nul_arr).drew
              have HBr : Hid (Below Q w (fill wr Q 0 false false 0 0 0 0 0 0 0 0 0).drew) := (below_fill 0 false false 0 0 0 0 0 0 0 0 0 hBQ (Nat.le_refl _)).drew
              have HDV : Hid (DV = .tuple #[Fr.nul.val, .int .i64 e7.1, .int .i64 e7.2]) := hdv
              clear hQh hFQ hBQ D10' hfa hdv
              go_wp2_with fail
              go_region
              unfold fill at HFr HBr
              go_wp2
              exact bodyPost_ret (dec_results HFr.out _ rfl rfl rfl) rfl ⟨by rw [HDV.out], by rw [hQ]; exact HBr.out⟩
            | ok s7 =>
              obtain ⟨p, s0, ds, s1, hz, hbz, hds⟩ := HX2 s7 rfl
              have hdv := HOk.out _ _ hds
              have hLk := HLk.out p s0 hz ds s1 hbz
              have c4' : wr.cell? ⟨G, 4, none⟩ = some (.int .i64 0) := c4
              have c1' : wr.cell? ⟨G, 1, none⟩ = some (.int .i64 s7.pos) := c1
              clear HX1 HX2 c4 c1
              obtain ⟨i, x', r, n, d0, d1, d2, d3, d4, d5, d6, d7, hL⟩ := arr_full f'
              have hEh : wr.heap[E]? = some (.cells #[.int .u32 i, .bool x', .bool r, .int .i64 n, .int .u8 d0, .int .u8 d1, .int .u8 d2, .int .u8 d3, .int .u8 d4, .int .u8 d5, .int .u8 d6, .int .u8 d7] 25 (0, 0)) := by rw [← hL]; exact hfa
              have hQh : wr.heap[Q]? = some (.cells (#[.int .u32 0, .bool false, .bool false, .int .i64 0, .int .u8 0, .int .u8 0, .int .u8 0, .int .u8 0, .int .u8 0, .int .u8 0, .int .u8 0, .int .u8 0] : Array Value) 25 (0, 0)) := hFQ
              have q0 : wr.cell? ⟨Q, 0, none⟩ = some (.int .u32 0) := Lib.cell_of_heap hQh 0
              have q1 : wr.cell? ⟨Q, 1, none⟩ = some (.bool false) := Lib.cell_of_heap hQh 1
              have q2 : wr.cell? ⟨Q, 2, none⟩ = some (.bool false) := Lib.cell_of_heap hQh 2
              have q3 : wr.cell? ⟨Q, 3, none⟩ = some (.int .i64 0) := Lib.cell_of_heap hQh 3
              have q4 : wr.cell? ⟨Q, 4, none⟩ = some (.int .u8 0) := Lib.cell_of_heap hQh 4
              have q5 : wr.cell? ⟨Q, 5, none⟩ = some (.int .u8 0) := Lib.cell_of_heap hQh 5
              have q6 : wr.cell? ⟨Q, 6, none⟩ = some (.int .u8 0) := Lib.cell_of_heap hQh 6
              have q7 : wr.cell? ⟨Q, 7, none⟩ = some (.int .u8 0) := Lib.cell_of_heap hQh 7
              have q8 : wr.cell? ⟨Q, 8, none⟩ = some (.int .u8 0) := Lib.cell_of_heap hQh 8
              have q9 : wr.cell? ⟨Q, 9, none⟩ = some (.int .u8 0) := Lib.cell_of_heap hQh 9
              have q10 : wr.cell? ⟨Q, 10, none⟩ = some (.int .u8 0) := Lib.cell_of_heap hQh 10
              have q11 : wr.cell? ⟨Q, 11, none⟩ = some (.int .u8 0) := Lib.cell_of_heap hQh 11
              have e0 : wr.cell? ⟨E, 0, none⟩ = some (.int .u32 i) := Lib.cell_of_heap hEh 0
              have e1 : wr.cell? ⟨E, 1, none⟩ = some (.bool x') := Lib.cell_of_heap hEh 1
              have e2 : wr.cell? ⟨E, 2, none⟩ = some (.bool r) := Lib.cell_of_heap hEh 2
              have e3 : wr.cell? ⟨E, 3, none⟩ = some (.int .i64 n) := Lib.cell_of_heap hEh 3
              have e4 : wr.cell? ⟨E, 4, none⟩ = some (.int .u8 d0) := Lib.cell_of_heap hEh 4
              have e5 : wr.cell? ⟨E, 5, none⟩ = some (.int .u8 d1) := Lib.cell_of_heap hEh 5
              have e6 : wr.cell? ⟨E, 6, none⟩ = some (.int .u8 d2) := Lib.cell_of_heap hEh 6
              have e7 : wr.cell? ⟨E, 7, none⟩ = some (.int .u8 d3) := Lib.cell_of_heap hEh 7
              have e8 : wr.cell? ⟨E, 8, none⟩ = some (.int .u8 d4) := Lib.cell_of_heap hEh 8
              have e9 : wr.cell? ⟨E, 9, none⟩ = some (.int .u8 d5) := Lib.cell_of_heap hEh 9
              have e10 : wr.cell? ⟨E, 10, none⟩ = some (.int .u8 d6) := Lib.cell_of_heap hEh 10
              have e11 : wr.cell? ⟨E, 11, none⟩ = some (.int .u8 d7) := Lib.cell_of_heap hEh 11
              have zz : ∀ j, wr.frozen? ⟨Q, j, none⟩ = false := fun j => Lib.frozen_of_heap hQh j
              have hne1 : E ≠ Q := by omega
              have hne2 : Q ≠ E := by omega
              have hne3 : G ≠ Q := by omega
              have hne4 : Q ≠ G := by omega
              have HFr : Hid (Fa Q f' (fill wr Q i x' r n d0 d1 d2 d3 d4 d5 d6 d7).drew) := (hFQ.fillN i x' r n d0 d1 d2 d3 d4 d5 d6 d7 hL).drew
              have HBr : Hid (Below Q w (fill wr Q i x' r n d0 d1 d2 d3 d4 d5 d6 d7).drew) := (below_fill i x' r n d0 d1 d2 d3 d4 d5 d6 d7 hBQ (Nat.le_refl _)).drew
              have HDV : Hid (DV = .tuple #[f'.val, .int .i64 s7.pos, .int .i64 0]) := by show DV = _; rw [hdv]; unfold Fr.val; rw [hLk]
              clear hEh hQh hFQ hBQ D10' hfa hdv hLk hL
              go_wp2_with fail
              go_region
              unfold fill at HFr HBr
              go_wp2
              exact bodyPost_ret (dec_results HFr.out _ rfl rfl rfl) rfl ⟨by rw [HDV.out], by rw [hQ]; exact HBr.out⟩

theorem r2Decode_any (t : List UInt8) (w : World) :
    Calls Try.prog 22 #[.string ⟨t.toArray⟩] w fun e w' => e = .returned (decV t) ∧ Below w.heap.size w w' := by
  by_cases h0 : err t = 0
  · exact r2Decode_ok t w h0
  · refine (r2Decode_bad t w h0).mono ?_
    rintro e w1 ⟨rfl, b1⟩
    refine ⟨?_, b1⟩
    simp only [decV, decF, decN, decE, if_neg h0]
end Go.Proofs.Ytpjddhihokgffaa
