/- What the law of reading needs besides. -/
import Derived.Test.YtahfnknbmikmkaaGreatKb1
import Derived.Test.YtahfnknbmikmkaaGreatKb15
import Derived.Test.YtahfnknbmikmkaaGreatKb36
import Derived.Test.YtahfnknbmikmkaaGreatKb5
namespace Go.Proofs.YtahfnknbmikmkaaGreat
open Go.ChangeShapes Go.WideShapes Go.ChangeAt Go.RowKit Go.Proofs.Ty
set_option linter.unusedVariables false
set_option maxRecDepth 1000000
set_option linter.unusedSimpArgs false
theorem u8_of {z : Int} (h : (Lit.int .u8 z).wf = true) : ∃ a : Nat, z = (a : Int) ∧ a < 256 := by
  have hx : 0 ≤ z ∧ z ≤ 255 := by simpa [Lit.wf, IntKind.min, IntKind.max, IntKind.signed, IntKind.bits] using h
  exact ⟨z.toNat, by omega, by omega⟩
theorem ok_sett {its : List Im} (hd : (its.map Im.b).Nodup) (h : ∀ i ∈ its, Ok i) (ix sb : Nat) (v : Vl) : ∀ i ∈ sett its ix sb v, Ok i := by
  unfold sett
  cases hf : fnd its ix sb with
  | none => exact h
  | some i =>
    simp only
    split
    · rename_i hc
      unfold setc at hc
      rw [hf] at hc
      simp only at hc
      split at hc
      · exact absurd hc (by decide)
      · split at hc
        · exact absurd hc (by decide)
        · rename_i h1 h2
          exact ok_set hd h (fnd_mem hf) ((h i (fnd_mem hf)).plain hc (Decidable.not_not.1 h2))
    · exact h
theorem bytes_take {w : World} {ao : Option Addr} {n cap : Nat} {l : List UInt8} (h : Bytes w (.slice ao n cap) l) (k : Nat) (hk : k ≤ n) : Bytes w (.slice ao k cap) (l.take k) := by
  obtain ⟨ao', cap', hv, h0, hc⟩ := h
  injection hv with e1 e2 e3
  subst e1 e2 e3
  have hl : (l.take k).length = k := by rw [List.length_take]; omega
  refine ⟨ao, cap, by rw [hl], fun h => ?_, fun j hj => ?_⟩
  · obtain ⟨rfl, h2⟩ := h0 h
    exact ⟨by simp, h2⟩
  · obtain ⟨b, off, h1, h2, h3⟩ := hc j (by omega)
    exact ⟨b, off, h1, h2, by rw [h3]; simp⟩
section
variable {b : Nat} {s : ByteArray} {h : s.size ≤ maxLen} {v : Vl} {l : List UInt8} {q : F8} {st : Ss}
theorem one_fnd : fnd (one b s h v) 12288 0 = some ⟨b, eD s h, v⟩ := rfl
theorem one_rd : rdC (one b s h v) 12288 0 = 0 := rfl
theorem one_rl : rdL (one b s h v) 12288 0 = v.enc := rfl
theorem vD_enc (hs : s.size ≤ 65536) : (vD s h).enc = s.data.toList := by
  show encV 15 0 s = _
  unfold encV
  rw [if_pos (show Ty.chk 15 0 s = 0 by have := vD_chk s h; unfold Vl.chk at this; exact this.trans (if_neg (by omega)))]
  unfold encL
  rw [if_neg (by decide)]
end
theorem cap_slice {H : Type} {enc : TypeId × Value → H} {W : World} {base : Nat} {v : Value} {d : DataW H} {ps : List MemPlace} (hval : Value.okWide Tryz.prog W .any base 47 v) (h : DataW.Trod enc Tryz.prog W 0 (fun _ => true) true 47 v d ps) (hlt : ∀ x ∈ ps, x.block < W.heap.size) : Cp v := by
  obtain ⟨fuel, hf⟩ := h
  intro ao n c hv
  subst hv
  obtain ⟨l, ⟨_, hc⟩, _⟩ := one_bytesc _ _ _ hf hlt
  exact hc _ _ _ rfl
end Go.Proofs.YtahfnknbmikmkaaGreat
