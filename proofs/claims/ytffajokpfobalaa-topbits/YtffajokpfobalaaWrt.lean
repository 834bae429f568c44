/- Contracts of a writer's number, mark and field. -/
import Derived.Test.YtffajokpfobalaaRdr4
import Derived.Test.YtffajokpfobalaaField
namespace Go.Proofs.Ytffajokpfobalaa
open Go.RowKit Go.Proofs.Bits
set_option linter.unusedVariables false
set_option maxRecDepth 1000000

theorem liesW : liesAt Try.prog Try.prog.depth 50 (2 / Try.prog.cellsOf 50) 0 48 1 = true := by kernel_rfl
/-- A writer in block g that holds the bytes l. -/
def Wr (g : Nat) (l : List UInt8) (w : World) : Prop := ∃ cs, cs.size = 2 ∧ Bld 50 0 g g cs l w

section
variable {g : Nat} {l : List UInt8} {w w' : World}
theorem Wr.lt (h : Wr g l w) : g < w.heap.size := h.elim fun _ h => h.2.lt
theorem Wr.new (w : World) : Wr w.heap.size [] (w.alloc (.cells #[.pointer none, .slice none 0 0] 50)) :=
  ⟨_, rfl, Nat.le_refl _, heap_alloc_new w _, .inl rfl, _, rfl, World.ownsRowF_nil _ _ _ _⟩
theorem Wr.alloc (h : Wr g l w) (o : Obj) : Wr g l (w.alloc o) := by
  have hlt := h.lt
  obtain ⟨cs, hc, hB, hg, hp, v, hv, hown⟩ := h
  exact ⟨cs, hc, hB, (Lib.alloc_old w o g hlt).trans hg, hp, v, hv, hown.alloc o⟩
theorem Wr.below (h : Wr g l w) (hb : Below w.heap.size w w') : Wr g l w' := by
  have hlt := h.lt
  obtain ⟨cs, hc, hB, hg, hp, v, hv, hown⟩ := h
  exact ⟨cs, hc, hB, (hb.block g hlt).trans hg, hp, v, hv, owns_below hown hb⟩
theorem Wr.byte (c : UInt8) (h : Wr g l w) (hl : l.length ≤ 1000000) :
    Calls Try.prog 34 #[.pointer (some ⟨g, 0, none⟩), .int .u8 c.toNat] w fun e w' => e = .returned .nilIface ∧ Wr g (l ++ [c]) w' ∧ Kp g w w' := by
  obtain ⟨cs, hc, hB⟩ := h
  refine (bWriteByte c hB (by decide) (by rw [hc]; exact liesW) (by omega)).mono ?_
  rintro e w1 ⟨rfl, ⟨v', hB'⟩, b1, k1⟩
  exact ⟨rfl, ⟨_, by simp [Go.Proofs.Ytffajokpfobalaa.put, hc], hB'⟩, b1, k1⟩
theorem Wr.text (s : List UInt8) (h : Wr g l w) (hl : l.length ≤ 1000000) (hs : s.length ≤ 1000000) :
    Calls Try.prog 17 #[.pointer (some ⟨g, 0, none⟩), .string ⟨s.toArray⟩] w fun e w' => e = .returned (.tuple #[.int .i64 s.length, .nilIface]) ∧ Wr g (l ++ s) w' ∧ Kp g w w' := by
  obtain ⟨cs, hc, hB⟩ := h
  refine (bWriteString s hB (by decide) (by rw [hc]; exact liesW) (by omega)).mono ?_
  rintro e w1 ⟨rfl, ⟨v', hB'⟩, b1, k1⟩
  exact ⟨rfl, ⟨_, by simp [Go.Proofs.Ytffajokpfobalaa.put, hc], hB'⟩, b1, k1⟩
theorem Wr.string (h : Wr g l w) (h0 : l ≠ []) :
    Calls Try.prog 16 #[.pointer (some ⟨g, 0, none⟩)] w fun e w' => e = .returned (.string ⟨l.toArray⟩) ∧ Wr g l w' ∧ Kp g w w' := by
  obtain ⟨cs, hc, hB⟩ := h
  refine (bString hB (by decide) h0).mono ?_
  rintro e w1 ⟨rfl, hB', b1, k1⟩
  exact ⟨rfl, ⟨_, hc, hB'⟩, b1, k1⟩

set_option maxHeartbeats 1000000 in
theorem wmark_any (b : Bool) (h : Wr g l w) (hl : l.length ≤ 1000000) :
    Calls Try.prog 18 #[.pointer (some ⟨g, 0, none⟩), .bool b] w fun e w' => e = .returned (.tuple #[]) ∧ Wr g (l ++ flagV b) w' ∧ Kp g w w' := by
  have h1 := h.byte 49 hl
  have h0 := h.byte 48 hl
  cases b
  · go_enter Try.func18, Try.ntmps18
    go_wp2_with fail
    refine h0.mono ?_
    rintro e w1 ⟨rfl, r⟩
    clear h1 h0
    go_wp2
    go_end0
    exact ⟨rfl, r⟩
  · go_enter Try.func18, Try.ntmps18
    go_wp2_with fail
    refine h1.mono ?_
    rintro e w1 ⟨rfl, r⟩
    clear h1 h0
    go_wp2
    first
      | (go_end0; exact ⟨rfl, r⟩)
      | (refine bodyPost_ret (results_none rfl _ _ _) rfl ?_; exact ⟨rfl, r⟩)

set_option maxHeartbeats 1000000 in
theorem wnumber_any (n wd : Nat) (h : Wr g l w) (hl : l.length ≤ 1000000) (hu : n < 4294967296) (hw : wd ≤ 64) (hn : n < 2 ^ wd) :
    Calls Try.prog 26 #[.pointer (some ⟨g, 0, none⟩), .int .u32 n, .int .i64 wd] w fun e w' => e = .returned (.tuple #[]) ∧ Wr g (l ++ numL n wd) w' ∧ Kp g w w' := by
  have hN := Number_ok n wd
  have hd : n / 2 ^ wd = 0 := Nat.div_eq_of_lt hn
  have hsl := numL_length n wd
  generalize numL n wd = s at *
  go_enter Try.func26, Try.ntmps26
  go_wp2_with fail
  refine (hN _ (by omega) hw hd).mono ?_
  rintro e w1 ⟨rfl, b1⟩
  have h1 := (h.below b1).text s hl (by omega)
  have k1 : Kp g w w1 := Kp.of_below b1 (Nat.le_of_lt h.lt)
  clear hN hd h b1
  go_wp2_with fail
  refine h1.mono ?_
  rintro e w2 ⟨rfl, r1, r2⟩
  clear h1
  go_wp2
  go_end0
  exact ⟨rfl, r1, k1.trans r2⟩

/-- A writer in block g with l, a frame f in block q, behind w0. -/
def Ws (g : Nat) (w0 : World) (q : Nat) (f : Fr) (l : List UInt8) (w : World) : Prop := Wr g l w ∧ Fa q f w ∧ Kp g w0 w ∧ g < q
section
variable {w0 : World} {q : Nat} {f : Fr} {l' : List UInt8}
theorem Ws.keep (h : Ws g w0 q f l w) (hR : Wr g l' w') (hk : Kp g w w') : Ws g w0 q f l' w' := ⟨hR, h.2.1.keep hk (by have := h.2.2.2; omega), h.2.2.1.trans hk, h.2.2.2⟩
theorem Ws.mark (b : Bool) (h : Ws g w0 q f l w) (hl : l.length ≤ 1000000) :
    Calls Try.prog 18 #[.pointer (some ⟨g, 0, none⟩), .bool b] w fun e w' => e = .returned (.tuple #[]) ∧ Ws g w0 q f (l ++ flagV b) w' :=
  (wmark_any b h.1 hl).mono fun _ _ ⟨he, hR, hk⟩ => ⟨he, h.keep hR hk⟩
theorem Ws.number (n wd : Nat) (h : Ws g w0 q f l w) (hl : l.length ≤ 1000000) (hu : n < 4294967296) (hw : wd ≤ 64) (hn : n < 2 ^ wd) :
    Calls Try.prog 26 #[.pointer (some ⟨g, 0, none⟩), .int .u32 n, .int .i64 wd] w fun e w' => e = .returned (.tuple #[]) ∧ Ws g w0 q f (l ++ numL n wd) w' :=
  (wnumber_any n wd h.1 hl hu hw hn).mono fun _ _ ⟨he, hR, hk⟩ => ⟨he, h.keep hR hk⟩
theorem Ws.new (h : Wr g l w) (f : Fr) : Ws g w w.heap.size f l (w.alloc (.cells f.arr 33)) := ⟨h.alloc _, Fa.new w f, (Kp.refl g w).alloc (Nat.le_of_lt h.lt) _, h.lt⟩
theorem Ws.c0 (h : Ws g w0 q f l w) : w.cell? ⟨q, 0, none⟩ = some (.int .u32 f.id) := h.2.1.c0
theorem Ws.c1 (h : Ws g w0 q f l w) : w.cell? ⟨q, 1, none⟩ = some (.bool f.ext) := h.2.1.c1
theorem Ws.c2 (h : Ws g w0 q f l w) : w.cell? ⟨q, 2, none⟩ = some (.bool f.rem) := h.2.1.c2
theorem Ws.c3 (h : Ws g w0 q f l w) : w.cell? ⟨q, 3, none⟩ = some (.int .i64 f.len) := h.2.1.c3
end
set_option maxHeartbeats 2000000 in
theorem wfield_any (f : Fr) (h0 : f.chk = 0) (h : Wr g l w) (hl : l.length ≤ 100000) :
    Calls Try.prog 25 #[.pointer (some ⟨g, 0, none⟩), f.val] w fun e w' => e = .returned (.tuple #[]) ∧ Wr g (l ++ f.field) w' ∧ Kp g w w' := by
  have hS := Ws.new h f
  have HB : f.bad = false := by
    unfold Fr.chk at h0
    cases hb : f.bad
    · rfl
    · rw [hb] at h0; simp at h0
  unfold Fr.bad at HB
  simp only [Bool.or_eq_false_iff, decide_eq_false_iff_not, Bool.and_eq_false_iff, Bool.not_eq_false'] at HB
  obtain ⟨⟨⟨b1, b2⟩, b3⟩, b4⟩ := HB
  have hid := f.hid
  cases hx : f.ext
  · have b4 : f.id < 2048 := by
      rcases b4 with b4 | b4
      · rw [hx] at b4; cases b4
      · omega
    have HF : Hid (f.field = numL f.id 11 ++ flagV f.rem ++ [48]) := by show f.field = _; simp [Fr.field, hx]
    have a1 := f.arr1
    rw [hx] at a1
    have a0 := f.arr0
    have a2 := f.arr2
    unfold Fr.val
    generalize hA : f.arr = A at *
    go_enter Try.func25, Try.ntmps25
    go_wp2_with fail
    refine (hS.number f.id 11 (by omega) hid (by omega) (by omega)).mono ?_
    rintro e w1 ⟨rfl, S1⟩
    have l1 := numL_length f.id 11
    generalize numL f.id 11 = x1 at *
    have c2 := S1.c2
    clear hS
    go_wp2_with fail
    refine (S1.mark f.rem (by simp; omega)).mono ?_
    rintro e w2 ⟨rfl, S2⟩
    have l2 : (flagV f.rem).length = 1 := by cases f.rem <;> rfl
    generalize flagV f.rem = x2 at *
    clear S1 c2
    go_wp2_with fail
    refine (S2.mark false (by simp; omega)).mono ?_
    rintro e w3 ⟨rfl, S3⟩
    clear S2
    go_wp2
    first
      | (go_end0; exact ⟨rfl, by rw [HF.out]; simpa [flagV] using S3.1, S3.2.2.1⟩)
      | (refine bodyPost_ret (results_none rfl _ _ _) rfl ?_; exact ⟨rfl, by rw [HF.out]; simpa [flagV] using S3.1, S3.2.2.1⟩)
  · have HF : Hid (f.field = numL (f.id / 262144) 11 ++ [49, 49] ++ numL (f.id % 262144) 18 ++ flagV f.rem) := by show f.field = _; simp [Fr.field, hx]
    have a1 := f.arr1
    rw [hx] at a1
    have a0 := f.arr0
    have a2 := f.arr2
    have hand := and18 f.id hid
    unfold Fr.val
    generalize hA : f.arr = A at *
    go_enter Try.func25, Try.ntmps25
    go_wp2_with fail
    refine (hS.number (f.id / 262144) 11 (by omega) (by omega) (by omega) (by omega)).mono ?_
    rintro e w1 ⟨rfl, S1⟩
    have l1 := numL_length (f.id / 262144) 11
    generalize numL (f.id / 262144) 11 = x1 at *
    clear hS
    go_wp2_with fail
    refine (S1.mark true (by simp; omega)).mono ?_
    rintro e w2 ⟨rfl, S2⟩
    clear S1
    go_wp2_with fail
    refine (S2.mark true (by simp [flagV]; omega)).mono ?_
    rintro e w3 ⟨rfl, S3⟩
    have c0 := S3.c0
    clear S2
    go_wp2_with fail
    refine (S3.number (f.id % 262144) 18 (by simp [flagV]; omega) (by omega) (by omega) (by omega)).mono ?_
    rintro e w4 ⟨rfl, S4⟩
    have l4 := numL_length (f.id % 262144) 18
    generalize numL (f.id % 262144) 18 = x4 at *
    have c2 := S4.c2
    clear S3 c0
    go_wp2_with fail
    refine (S4.mark f.rem (by simp [flagV]; omega)).mono ?_
    rintro e w5 ⟨rfl, S5⟩
    clear S4 c2
    go_wp2
    go_end0
    exact ⟨rfl, by rw [HF.out]; simpa [flagV] using S5.1, S5.2.2.1⟩
end
end Go.Proofs.Ytffajokpfobalaa
