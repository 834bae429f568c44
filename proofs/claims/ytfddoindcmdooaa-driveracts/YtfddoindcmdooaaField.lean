/- The document's own arbitration field. -/
import Derived.Test.YtfddoindcmdooaaFrame
import Derived.Test.YtfddoindcmdooaaLater
namespace Go.Proofs.Ytfddoindcmdooaa
open Go.RowKit Go.Proofs.Bits
set_option linter.unusedVariables false
set_option maxRecDepth 1000000

theorem txt_add (a b : List UInt8) : (⟨a.toArray⟩ : ByteArray) ++ ⟨b.toArray⟩ = ⟨(a ++ b).toArray⟩ := by
  apply ByteArray.ext
  simp
theorem ret_txt {a b : ByteArray} (h : a = b) : Ending.returned (.string a) = .returned (.string b) := by rw [h]
theorem flagV_length (b : Bool) : (flagV b).length = 1 := by cases b <;> rfl

def Fr.field (f : Fr) : List UInt8 := if f.ext then numL (f.id / 262144) 11 ++ [49, 49] ++ numL (f.id % 262144) 18 ++ flagV f.rem else numL f.id 11 ++ flagV f.rem ++ [48]

/-- The cells of a frame that came in, in a later world. -/
theorem later_cell {w : World} {A : Array Value} {T : TypeId} {k : Nat} {v : Value} (h : A[k]? = some v) (x : Later (w.alloc (.cells A T))) : x.now.cell? ⟨w.heap.size, k, none⟩ = some v :=
  (x.below.cell (p := ⟨w.heap.size, k, none⟩) (by simp)).trans (by simp [go_sem, h])

set_option maxRecDepth 1000000 in
theorem r2field_base (A : Array Value) (id : Nat) (rem : Bool) (w : World) (h0 : A[0]? = some (.int .u32 id)) (h1 : A[1]? = some (.bool false)) (h2 : A[2]? = some (.bool rem)) (hid : id < 2048) :
    Calls Try.prog 52 #[.agg A] w fun e w' => e = .returned (.string ⟨(numL id 11 ++ flagV rem ++ [48]).toArray⟩) ∧ Below w.heap.size w w' := by
  have hn := fun w => r2num_any id 11 w (by omega) (by omega) (by omega)
  have hf := fun w => r2flag_any rem w
  go_enter Try.func52, Try.ntmps52
  go_wp2
  have k0 := fun x => later_cell (w := w) (T := 45) h0 x
  have k2 := fun x => later_cell (w := w) (T := 45) h2 x
  have l1 := numL_length id 11
  have l2 := flagV_length rem
  have hL := Later.some (w.alloc (.cells A 45))
  refine wp_region_later (by kernel_rfl) (by kernel_rfl) ?_
  repeat (go_big_quiet_step (first | (go_at_call 56; exact later (hn _)) | (go_at_call 57; exact later (hf _))))
  refine wpQuiet_nil ?_
  rintro _ ⟨x1, rfl⟩
  go_wp2
  go_ret
  exact ⟨ret_txt (by rw [txt_add]; exact txt_add _ [48]), ((Below.refl _ _).alloc (Nat.le_refl _) _).trans (x1.below.mono (by simp))⟩

theorem and18 (x : Nat) (h : x < 4294967296) : bits BinOp.and IntKind.u32 (x : Int) 262143 = ((x % 262144 : Nat) : Int) := by
  rw [show (262143 : Int) = ((262143 : Nat) : Int) from rfl, u32_and_nat _ _ (by omega) (by omega), Nat.and_two_pow_sub_one_eq_mod x 18]

set_option maxRecDepth 1000000 in
set_option maxHeartbeats 4000000 in
theorem r2field_ext (A : Array Value) (id p q : Nat) (rem : Bool) (w : World) (h0 : A[0]? = some (.int .u32 id)) (h1 : A[1]? = some (.bool true)) (h2 : A[2]? = some (.bool rem)) (hid : id < 536870912)
    (hp : (id : Int) / 262144 = (p : Int)) (hq : bits BinOp.and IntKind.u32 (id : Int) 262143 = (q : Int)) (hp2 : p < 2048) (hq2 : q < 262144) :
    Calls Try.prog 52 #[.agg A] w fun e w' => e = .returned (.string ⟨(numL p 11 ++ [49, 49] ++ numL q 18 ++ flagV rem).toArray⟩) ∧ Below w.heap.size w w' := by
  have hn : ∀ w, Calls Try.prog 56 #[.int .u64 (p : Int), .int .i64 11] w fun e w' => e = .returned (.string ⟨(numL p 11).toArray⟩) ∧ Below w.heap.size w w' := fun w => r2num_any p 11 w (by omega) (by omega) (by omega)
  have hm : ∀ w, Calls Try.prog 56 #[.int .u64 (q : Int), .int .i64 18] w fun e w' => e = .returned (.string ⟨(numL q 18).toArray⟩) ∧ Below w.heap.size w w' := fun w => r2num_any q 18 w (by omega) (by omega) (by omega)
  have hf := fun w => r2flag_any rem w
  go_enter Try.func52, Try.ntmps52
  go_wp2
  have k0 := fun x => later_cell (w := w) (T := 45) h0 x
  have k2 := fun x => later_cell (w := w) (T := 45) h2 x
  have l1 := numL_length p 11
  have l3 := numL_length q 18
  have l2 := flagV_length rem
  have hL := Later.some (w.alloc (.cells A 45))
  refine wp_region_later (by kernel_rfl) (by kernel_rfl) ?_
  repeat (go_big_quiet_step (first | (go_at_call 56; with_reducible exact later (hn _)) | (go_at_call 56; with_reducible exact later (hm _)) | (go_at_call 57; with_reducible exact later (hf _))))
  refine wpQuiet_nil ?_
  rintro _ ⟨x1, rfl⟩
  go_wp2
  go_ret
  exact ⟨ret_txt (by rw [show (⟨#[49, 49]⟩ : ByteArray) = ⟨[49, 49].toArray⟩ from rfl]; simp only [txt_add]), ((Below.refl _ _).alloc (Nat.le_refl _) _).trans (x1.below.mono (by simp))⟩

theorem r2field_any (f : Fr) (w : World) (hb : f.chk = 0) :
    Calls Try.prog 52 #[f.val] w fun e w' => e = .returned (.string ⟨f.field.toArray⟩) ∧ Below w.heap.size w w' := by
  have h0 := f.arr0
  have h1 := f.arr1
  have h2 := f.arr2
  unfold Fr.chk Fr.bad at hb
  unfold Fr.val Fr.field
  cases he : f.ext
  · rw [he] at h1 hb
    simp at hb
    exact r2field_base f.arr f.id f.rem w h0 h1 h2 (by omega)
  · rw [he] at h1 hb
    simp at hb
    rw [if_pos rfl]
    exact r2field_ext f.arr f.id (f.id / 262144) (f.id % 262144) f.rem w h0 h1 h2 (by omega) (by omega) (and18 _ f.hid) (by omega) (by omega)
end Go.Proofs.Ytfddoindcmdooaa
