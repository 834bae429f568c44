/- A text that is cut off: plain facts. -/
import Derived.Test.YtffajokpfobalaaMathE
import Derived.Test.YtffajokpfobalaaMathU
namespace Go.Proofs.Ytffajokpfobalaa
open Go.RowKit Go.Proofs.Bits
set_option linter.unusedVariables false
set_option maxRecDepth 1000000

/-- What reads to s' reads so wherever the text is cut off behind s', and tells that it is too short where it is cut off ahead. -/
def CutAt {α : Type} (m : List UInt8 → RM α) (s : RS) : Prop := ∀ t a s', m t s = .ok (a, s') → s.pos ≤ s'.pos ∧ (∀ k, s'.pos ≤ k → m (t.take k) s = .ok (a, s')) ∧ ∀ k, s.pos ≤ k → k < s'.pos → m (t.take k) s = .error (k, 3)
theorem cut_ret {α : Type} (a : α) (s : RS) : CutAt (fun _ => retR a) s := by
  intro t b s' h
  simp only [retR, Except.ok.injEq, Prod.mk.injEq] at h
  obtain ⟨rfl, rfl⟩ := h
  exact ⟨Nat.le_refl _, fun _ _ => rfl, fun k h1 h2 => by omega⟩
theorem cut_bind {α β : Type} {m : List UInt8 → RM α} {k : α → List UInt8 → RM β} {s : RS} (h1 : CutAt m s) (h2 : ∀ a s', CutAt (k a) s') : CutAt (fun t => bindR (m t) (fun a => k a t)) s := by
  intro t b s' h
  obtain ⟨a, s1, e1, e2⟩ := bindR_inv h
  obtain ⟨l1, c1, d1⟩ := h1 t a s1 e1
  obtain ⟨l2, c2, d2⟩ := h2 a s1 t b s' e2
  refine ⟨by omega, fun n hn => ?_, fun n hn1 hn2 => ?_⟩
  · exact (bindR_ok (c1 n (by omega))).trans (c2 n hn)
  · by_cases hn : n < s1.pos
    · exact bindR_error (d1 n hn1 hn)
    · exact (bindR_ok (c1 n (by omega))).trans (d2 n (by omega) hn2)
theorem cut_ite {α : Type} {c : Prop} [Decidable c] {m n : List UInt8 → RM α} {s : RS} (h1 : CutAt m s) (h2 : CutAt n s) : CutAt (fun t => if c then m t else n t) s := by
  by_cases h : c
  · simp only [if_pos h]; exact h1
  · simp only [if_neg h]; exact h2
theorem cut_error {α : Type} (f : RS → Flt) (s : RS) : CutAt (α := α) (fun _ s => .error (f s)) s := by
  intro t b s' h; cases h
theorem take_get {t : List UInt8} {k i : Nat} (h : i < k) : (t.take k)[i]? = t[i]? := by rw [List.getElem?_take, if_pos h]
theorem take_none {t : List UInt8} {k i : Nat} (h : k ≤ i) : (t.take k)[i]? = none := by rw [List.getElem?_take, if_neg (by omega)]
theorem cut_fix (lv : UInt8) (er : Int) (s : RS) : CutAt (fun t => fixS t lv er) s := by
  intro t a s' h
  have h : fixS t lv er s = .ok (a, s') := h
  unfold fixS at h
  split at h
  · cases h
  · rename_i b hb
    split at h
    · rename_i hl
      simp only [Except.ok.injEq, Prod.mk.injEq] at h
      rw [← h.2]
      refine ⟨by simp, fun k hk => ?_, fun k h1 h2 => ?_⟩
      · simp only at hk
        show fixS (t.take k) lv er s = _
        rw [fixS, take_get (by omega), hb]; simp [hl]
      · simp only at h2
        obtain rfl : k = s.pos := by omega
        show fixS (t.take s.pos) lv er s = _
        rw [fixS, take_none (Nat.le_refl _)]
    · cases h
theorem cut_fixN (lv : UInt8) (er : Int) (n : Nat) : ∀ s, CutAt (fun t => fixN t lv er n) s := by
  induction n with
  | zero => exact fun s => cut_ret () s
  | succ n ih => exact fun s => cut_bind (ih s) (fun _ s' => cut_fix lv er s')
theorem cut_end (s : RS) : CutAt endS s := cut_bind (cut_fix 49 22 s) (fun _ s1 => cut_bind (cut_fix 48 23 s1) (fun _ s2 => cut_fixN 49 22 8 s2))
theorem cut_bit (s : RS) : CutAt bitS s := by
  intro t a s' h
  unfold bitS at h
  split at h
  · cases h
  · rename_i b hb
    split at h
    · rename_i h5
      split at h
      · cases h
      · rename_i c hc
        split at h
        · cases h
        · rename_i hcb
          simp only [Except.ok.injEq, Prod.mk.injEq] at h
          rw [← h.2, ← h.1]
          refine ⟨by simp, fun k hk => ?_, fun k h1 h2 => ?_⟩
          · simp only at hk
            rw [bitS, take_get (by omega), hb]
            simp only [h5, if_true]
            rw [take_get (by omega), hc]
            simp [hcb]
          · simp only at h2
            by_cases hk : k = s.pos
            · subst hk
              rw [bitS, take_none (Nat.le_refl _)]
            · obtain rfl : k = s.pos + 1 := by omega
              rw [bitS, take_get (by omega), hb]
              simp only [h5, if_true]
              rw [take_none (Nat.le_refl _)]
    · rename_i h5
      simp only [Except.ok.injEq, Prod.mk.injEq] at h
      rw [← h.2, ← h.1]
      refine ⟨by simp, fun k hk => ?_, fun k h1 h2 => ?_⟩
      · simp only at hk
        rw [bitS, take_get (by omega), hb]
        simp [h5]
      · simp only at h2
        obtain rfl : k = s.pos := by omega
        rw [bitS, take_none (Nat.le_refl _)]
theorem cut_take (n : Nat) : ∀ s, CutAt (fun t => takeS t n) s := by
  induction n with
  | zero => exact fun s => cut_ret [] s
  | succ n ih => exact fun s => cut_bind (ih s) (fun bs s' => cut_bind (cut_bit s') (fun b s2 => cut_ret (bs ++ [b]) s2))
theorem cut_bytes (n : Nat) : ∀ s, CutAt (fun t => bytesS t n) s := by
  induction n with
  | zero => exact fun s => cut_ret [] s
  | succ n ih => exact fun s => cut_bind (ih s) (fun bs s' => cut_bind (cut_take 8 s') (fun b s2 => cut_ret (bs ++ [(val b).toUInt8]) s2))
theorem cut_field (s : RS) : CutAt fieldS s :=
  cut_bind (cut_take 11 s) fun a s1 => cut_bind (cut_bit s1) fun r s2 => cut_bind (cut_bit s2) fun x s3 =>
    cut_ite (cut_bind (cut_take 18 s3) fun b s4 => cut_bind (cut_bit s4) fun r2 s5 => cut_bind (cut_bit s5) fun _ s6 => cut_bind (cut_bit s6) fun _ s7 => cut_ret _ s7)
      (cut_bind (cut_bit s3) fun _ s4 => cut_ret _ s4)
theorem cut_sum (f : Bits.Told) (s : RS) : CutAt (fun t => sumS t f) s :=
  cut_bind (m := fun t => takeS t 15) (k := fun c _ s2 => if val c = crc s.seen then .ok (f, s2) else .error (s2.pos, 21)) (cut_take 15 s) fun c s2 => by
    intro t a s' h
    by_cases hc : val c = crc s.seen
    · simp only [if_pos hc, Except.ok.injEq, Prod.mk.injEq] at h
      rw [← h.2, ← h.1]
      exact ⟨Nat.le_refl _, fun k hk => by simp [hc], fun k h1 h2 => by omega⟩
    · simp only [if_neg hc] at h; cases h
theorem cut_body (s : RS) : CutAt bodyS s :=
  cut_bind (cut_bit s) fun b0 s1 => cut_ite (cut_error (fun _ => (0, 22)) s1)
    (cut_bind (cut_field s1) fun h s2 => cut_bind (cut_take 4 s2) fun l s3 => cut_bind (cut_bytes _ s3) fun ds s4 => cut_sum _ s4)
theorem cut_dec (s : RS) : CutAt (fun t => bindR (bodyS t) (fun f => bindR (endS t) fun _ => retR f)) s :=
  cut_bind (cut_body s) fun f s1 => cut_bind (cut_end s1) fun _ s2 => cut_ret f s2
/-- A frame's bits that are cut off are too short. -/
theorem decS_cut (f : Fr) (h0 : f.chk = 0) (k : Nat) (hk : k < (f.bits true).length) : decS ((f.bits true).take k) = .error (k, 3) :=
  (cut_dec Bits.start (f.bits true) _ _ (decS_R f h0 (List.prefix_refl _))).2.2 k (Nat.zero_le _) hk
theorem bits_all (f : Fr) (b : Bool) : (f.bits b).all isBit = true := by
  unfold Fr.bits
  simp only [List.all_append, stuff_all _ (body_all f), flagV_all]
  rfl
theorem bits_length (f : Fr) (b : Bool) : (f.bits b).length = (stuff f.body).length + 10 := by
  unfold Fr.bits
  simp [flagV_length]
theorem decV_cut (f : Fr) (h0 : f.chk = 0) (k : Nat) (hk : k < (f.bits true).length) : decV ((f.bits true).take k) = .tuple #[Fr.nul.val, .int .i64 k, .int .i64 3] := by
  have hl := bits_length f true
  have hs := stuff_body_length f
  have he : err ((f.bits true).take k) = 0 := err_of (by
    have := bits_all f true
    rw [List.all_eq_true] at this ⊢
    exact fun c hc => this c (List.mem_of_mem_take hc)) (by rw [List.length_take]; omega)
  simp only [decV, decF, decN, decE, if_pos he, decS_cut f h0 k hk]
theorem decV_behind (f : Fr) (h0 : f.chk = 0) (u : List UInt8) (hu : u.all isBit = true) (hl : (f.bits true).length + u.length ≤ 65536) : decV (f.bits true ++ u) = .tuple #[f.plain.val, .int .i64 (f.bits true).length, .int .i64 0] := by
  have he : err (f.bits true ++ u) = 0 := err_of (by rw [List.all_append, bits_all, hu]; rfl) (by rw [List.length_append]; omega)
  simp only [decV, decF, decN, decE, if_pos he, decS_R f h0 (List.prefix_append (f.bits true) u), told_plain f h0]
  rfl
end Go.Proofs.Ytffajokpfobalaa
