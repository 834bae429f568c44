/- Contracts of Encode and Field. -/
import Derived.Test.YtffajokpfobalaaWrt2
import Derived.Test.YtffajokpfobalaaStuff
namespace Go.Proofs.Ytffajokpfobalaa
open Go.RowKit Go.Proofs.Bits
set_option linter.unusedVariables false
set_option maxRecDepth 1000000

/-- A frame's bits. -/
def Fr.bits (f : Fr) (ack : Bool) : List UInt8 := stuff f.body ++ flagV true ++ flagV (!ack) ++ [49, 49, 49, 49, 49, 49, 49, 49]
def encV (f : Fr) (ack : Bool) : List UInt8 := if f.chk = 0 then f.bits ack else []
def fldV (f : Fr) : List UInt8 := if f.chk = 0 then f.field else []
theorem body_short (f : Fr) : f.body.length ≤ 118 := by
  have := f.bytes_le
  rw [body_length]
  split <;> omega
theorem stuff_body_length (f : Fr) : (stuff f.body).length ≤ 236 := by
  have h1 := st_length f.body
  have h2 := body_short f
  show (st f.body).1.length ≤ 236
  omega
theorem chk_cases (f : Fr) : f.chk = 0 ∨ f.chk = 1 := by unfold Fr.chk; split <;> simp
theorem ret_str {a b : ByteArray} {x y : Int} (h : a = b) (h2 : x = y) : Ending.returned (.tuple #[.string a, .int .i64 x]) = .returned (.tuple #[.string b, .int .i64 y]) := by rw [h, h2]

section
variable {w w' : World}
theorem Wr.idle {g0 g1 : Nat} (h : w.heap[g1]? = some (.cells #[.pointer none, .slice none 0 0] 50 (0, 0))) (hk : Kp g0 w w') (hq : g1 ≠ g0) : w'.heap[g1]? = some (.cells #[.pointer none, .slice none 0 0] 50 (0, 0)) :=
  hk.2 g1 _ h (fun e => hq (Option.some.inj e)) (fun _ _ e => by cases e)
theorem Wr.fresh {g1 : Nat} (h : w.heap[g1]? = some (.cells #[.pointer none, .slice none 0 0] 50 (0, 0))) : Wr g1 [] w :=
  ⟨_, rfl, Nat.le_refl _, h, .inl rfl, _, rfl, World.ownsRowF_nil _ _ _ _⟩

set_option maxHeartbeats 4000000 in
theorem fEncode_any (f : Fr) (ack : Bool) (w : World) :
    Calls Try.prog 7 #[f.val, .bool ack] w fun e w' => e = .returned (.tuple #[.string ⟨(encV f ack).toArray⟩, .int .i64 f.chk]) ∧ Below w.heap.size w w' := by
  have HV : Hid (encV f ack = if f.chk = 0 then f.bits ack else []) := rfl
  have HC := fCheck_any f
  rcases chk_cases f with h0 | h0
  · rw [h0] at HC
    have HV : Hid (encV f ack = f.bits ack) := by show encV f ack = _; rw [HV.out, if_pos h0]
    have HB : Hid (f.bits ack = stuff f.body ++ flagV true ++ flagV (!ack) ++ [49, 49, 49, 49, 49, 49, 49, 49]) := rfl
    have hsv : stuffV f.body = stuff f.body := by
      rw [stuffV, if_pos (err_of (body_all f) (by have := body_short f; omega))]
    have hsl := stuff_body_length f
    have hbl := body_length f
    have hbs := body_short f
    have hne : f.body ≠ [] := by
      intro e
      rw [e] at hbl
      simp at hbl
      split at hbl <;> omega
    rw [h0]
    generalize encV f ack = V at *
    unfold Fr.val
    have fn := Fa.new w f
    have bn : Below w.heap.size w (w.alloc (.cells f.arr 33)) := (Below.refl _ _).alloc (Nat.le_refl _) _
    have sn := size_alloc w (.cells f.arr 33)
    go_enter Try.func7, Try.ntmps7
    go_wp2_with (refine fn.ld rfl _ rfl rfl ?_)
    refine (HC _).mono ?_
    rintro e w1 ⟨rfl, b1⟩
    have f1 : Fa w.heap.size f w1 := (b1.block _ (by omega)).trans fn
    have B1 := bn.trans (b1.mono (by omega))
    have f2 : Fa w.heap.size f ((w1.alloc (.cells #[.pointer none, .slice none 0 0] 50)).alloc (.cells #[.pointer none, .slice none 0 0] 50)) := (f1.alloc _).alloc _
    clear fn bn b1 sn HC
    go_wp2_with (refine f2.ld rfl _ rfl rfl ?_)
    have W0 := (Wr.new w1).alloc (.cells #[.pointer none, .slice none 0 0] 50)
    have E1 := heap_alloc_new (w1.alloc (.cells #[.pointer none, .slice none 0 0] 50)) (.cells #[.pointer none, .slice none 0 0] 50)
    rw [size_alloc] at E1
    have s1 := B1.size
    have B2 : Below w.heap.size w ((w1.alloc (.cells #[.pointer none, .slice none 0 0] 50)).alloc (.cells #[.pointer none, .slice none 0 0] 50)) := (B1.alloc s1 _).alloc (by rw [size_alloc]; omega) _
    generalize ((w1.alloc (.cells #[.pointer none, .slice none 0 0] 50)).alloc (.cells #[.pointer none, .slice none 0 0] 50)) = A at *
    generalize w1.heap.size = g0 at *
    refine (wbody_any f h0 W0).mono ?_
    rintro e w2 ⟨rfl, R2, K2⟩
    have E2 := Wr.idle E1 K2 (by omega)
    have B3 := B2.trans (K2.1.mono s1)
    clear f1 f2 B1 B2 W0 E1 K2
    generalize f.body = BD at *
    go_wp2_with fail
    refine (R2.string hne).mono ?_
    rintro e w3 ⟨rfl, R3, K3⟩
    have E3 := Wr.idle E2 K3 (by omega)
    have B4 := B3.trans (K3.1.mono s1)
    clear R2 E2 K3 B3 R3
    go_wp2_with fail
    refine (Stuff_any _ _).mono ?_
    rintro e w4 ⟨rfl, b4⟩
    have sz4 := B4.size
    have l3 := (Array.getElem?_eq_some_iff.1 E3).1
    have E4 := (b4.block _ l3).trans E3
    have R4 := Wr.fresh E4
    have B5 := B4.trans (b4.mono sz4)
    simp only [hsv]
    clear E3 b4 E4 B4
    generalize stuff BD = ST at *
    go_wp2_with fail
    refine (R4.text ST (by simp) (by omega)).mono ?_
    rintro e w5 ⟨rfl, R5, K5⟩
    have B6 := B5.trans (K5.1.mono (by omega))
    clear R4 B5 K5
    go_wp2_with fail
    refine (wmark_any true R5 (by simp; omega)).mono ?_
    rintro e w6 ⟨rfl, R6, K6⟩
    have B7 := B6.trans (K6.1.mono (by omega))
    clear R5 B6 K6
    go_wp2_with fail
    refine (wmark_any (!ack) R6 (by simp [flagV]; omega)).mono ?_
    rintro e w7 ⟨rfl, R7, K7⟩
    have B8 := B7.trans (K7.1.mono (by omega))
    have lf := flagV_length (!ack)
    clear R6 B7 K7
    go_wp2_with fail
    refine (R7.text [49, 49, 49, 49, 49, 49, 49, 49] (by simp [flagV_length]; omega) (by decide)).mono ?_
    rintro e w8 ⟨rfl, R8, K8⟩
    have B9 := B8.trans (K8.1.mono (by omega))
    clear R7 B8 K8
    go_wp2_with fail
    refine (R8.string (by simp)).mono ?_
    rintro e w9 ⟨rfl, R9, K9⟩
    have B10 := B9.trans (K9.1.mono (by omega))
    clear R8 B9 K9 R9
    go_wp2
    go_ret2
    exact ⟨ret_str (by rw [HV.out, HB.out]; simp) rfl, B10⟩
  · rw [h0] at HC
    have HV : Hid (encV f ack = []) := by show encV f ack = _; rw [HV.out, if_neg (by rw [h0]; decide)]
    rw [h0]
    generalize encV f ack = V at *
    unfold Fr.val
    have fn := Fa.new w f
    have bn : Below w.heap.size w (w.alloc (.cells f.arr 33)) := (Below.refl _ _).alloc (Nat.le_refl _) _
    have sn := size_alloc w (.cells f.arr 33)
    go_enter Try.func7, Try.ntmps7
    go_wp2_with (refine fn.ld rfl _ rfl rfl ?_)
    refine (HC _).mono ?_
    rintro e w1 ⟨rfl, b1⟩
    clear fn HC
    go_wp2
    go_ret2
    exact ⟨ret_str (by rw [HV.out]) rfl, bn.trans (b1.mono (by omega))⟩
end
end Go.Proofs.Ytffajokpfobalaa
