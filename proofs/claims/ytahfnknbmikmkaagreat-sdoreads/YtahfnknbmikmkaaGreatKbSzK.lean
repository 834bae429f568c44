/- Set of both dictionaries beside servers that read; reading in segments: plain. -/
import Derived.Test.YtahfnknbmikmkaaGreatKbX
import Derived.Test.YtahfnknbmikmkaaGreatZs
import Derived.Test.YtahfnknbmikmkaaGreatKb36
import Derived.Test.YtahfnknbmikmkaaGreatKb15
import Derived.Test.YtahfnknbmikmkaaGreatKb17
namespace Go.Proofs.YtahfnknbmikmkaaGreat
open Go.RowKit Go.Proofs.Ty
set_option linter.unusedVariables false
set_option maxRecDepth 1000000
set_option linter.unusedSimpArgs false
section
variable {w x y : World} {p : Pl} {ia ib its : List Im} {s t : Ss} {ao ap : Option Addr} {cp cq : Nat}
theorem sett_b (its : List Im) (ix sb : Nat) (v : Vl) : (sett its ix sb v).map Im.b = its.map Im.b := by
  unfold sett
  split
  · rfl
  · split
    · exact setV_b _ _ _
    · rfl
theorem sett_n (its : List Im) (ix sb : Nat) (v : Vl) : (sett its ix sb v).length = its.length := by
  have := congrArg List.length (sett_b its ix sb v)
  simpa using this
theorem Pv.sets {S D R : Nat} {its' : List Im} (h : Pv S D R its s ao cp x) (hn : s.dn ≠ 1) (hd : Dct D R its' y) (hi : its'.map Im.b = its.map Im.b) (hK : Kp (its.map Im.b) x y) : Pv S D R its' s ao cp y := by
  have hS : S ∉ its.map Im.b := fun hm => by have := h.near S hm; omega
  refine ⟨hd, (hK.block S h.head.lt hS).trans h.head, bytes_same h.by_ hK.size (fun b hm hl => hK.block b hl (fun hm2 => ?_)), fun e => absurd e hn, h.cap, h.far, by rw [hi]; exact h.near, h.ok, fun b hm => Nat.lt_of_lt_of_le (h.lt b hm) hK.size⟩
  have h1 := h.far b ((own_blk _ _ _ _).1 hm)
  have h2 := h.near b hm2
  omega
/-- The program's dictionary is set. -/
theorem Jt.setP (h : Jt w p ia ib s t ao cp ap cq x) (hn : s.dn ≠ 1) (ix sb : Nat) (h1 : ix < 65536) (h2 : sb < 256) (v : Vl) : Calls Tryz.prog 21 #[.pointer (some ⟨p.D, 0, none⟩), .int .u16 ix, .int .u8 sb, .agg v.arr] x fun e x' => e = .returned (.int .i64 (setc ia ix sb v)) ∧ Jt w p (sett ia ix sb v) ib s t ao cp ap cq x' ∧ Kp (ia.map Im.b) x x' :=
  (Set_any h.pv.dct ix sb h1 h2 v).mono fun e y ⟨he, hd, hK⟩ => ⟨he, h.prog (h.pv.sets hn hd (sett_b _ _ _ _) hK) (sett_b _ _ _ _) (hK.mono (fun b hb => List.mem_cons_of_mem _ (List.mem_append_right _ hb))) (fun b hb => .inl hb), hK⟩
/-- The document's is set. -/
theorem Jt.setD (h : Jt w p ia ib s t ao cp ap cq x) (ix sb : Nat) (v : Vl) : Calls Tryz.prog 22 #[.pointer (some ⟨p.E, 0, none⟩), .int .u16 ix, .int .u8 sb, .agg v.arr] x fun e x' => e = .returned (.int .i64 (setc ib ix sb v)) ∧ Jt w p ia (sett ib ix sb v) s t ao cp ap cq x' ∧ Kp [p.E] x x' := by
  obtain ⟨vL, vV, hr⟩ := h.dv.rd
  refine (QSet_any hr h.dv.len h.dv.oks h.dv.nod ix sb v).mono fun e y ⟨he, ⟨vV', hr'⟩, hG⟩ => ?_
  have hK : Kp [p.E] x y := Kp.ofE hG
  have hne : ∀ b, b ≠ p.E → b < x.heap.size → y.heap[b]? = x.heap[b]? := fun b hb hl => hK.block b hl (by simpa using hb)
  have hET := h.dv.et
  refine ⟨he, h.doc ⟨⟨_, _, hr'⟩, (hne _ (by omega) h.dv.head.lt).trans h.dv.head, bytes_same h.dv.by_ hK.size (fun b hm hl => hne b (by have := h.dv.far b ((own_blk _ _ _ _).1 hm); omega) hl), h.dv.cap, h.dv.far, fun b hm => Nat.lt_of_lt_of_le (h.dv.lt b hm) hK.size, h.dv.et, by rw [sett_n]; exact h.dv.len, ok_sett h.dv.nod h.dv.oks ix sb v, by rw [sett_b]; exact h.dv.nod, h.dv.ok⟩ (hK.mono (fun b hb => by simp at hb; simp [hb])) (fun b hb => .inl hb), hK⟩
end
/-- A read in segments: these bytes are left. -/
structure Rs (st : Ss) (par : Nat) (l : List UInt8) : Prop where
  dn : st.dn = 2
  tn : st.tn = par
  bs : st.bs = l
section
variable {its : List Im} {st : Ss} {par : Nat} {l : List UInt8} {q : F8} {b : Nat} {s : ByteArray} {h : s.size ≤ maxLen} {v : Vl}
theorem rs_begin (h0 : q.b0.toNat / 32 = 2) (hp : pix q = 12288) (hs : psb q = 0) (hl : v.enc = l) (hn : l.length = 0 ∨ 4 < l.length) : hndO (one b s h v) st q = (.ok (frm 65 12288 0 l.length), one b s h v, ⟨2, 12288, 0, 0, l, none⟩) := by
  unfold hndO
  rw [if_neg (by omega), if_neg (by omega), if_pos h0]
  unfold redO
  rw [hp, hs, one_rd, one_rl, hl]
  rw [if_neg (by simp), if_neg (by omega)]
theorem rs_once (h0 : q.b0.toNat / 32 = 2) (hp : pix q = 12288) (hs : psb q = 0) (hl : v.enc = l) (h1 : 1 ≤ l.length) (h4 : l.length ≤ 4) : hndO (one b s h v) st q = (.ok (here 12288 0 l), one b s h v, Ss.nul) := by
  unfold hndO
  rw [if_neg (by omega), if_neg (by omega), if_pos h0]
  unfold redO
  rw [hp, hs, one_rd, one_rl, hl]
  rw [if_neg (by simp), if_pos ⟨h1, h4⟩]
theorem rs_step (hr : Rs st par l) (h0 : q.b0.toNat = 96 + 16 * par) (hp : par ≤ 1) : ∃ st', hndO its st q = (.ok (told st), its, st') ∧ (l.length ≤ 7 → st' = Ss.nul) ∧ (7 < l.length → Rs st' (1 - par) (l.drop 7)) := by
  unfold hndO
  rw [if_neg (by omega), if_neg (by omega), if_neg (by omega), if_pos (by omega)]
  unfold telO
  rw [if_neg (by rw [hr.dn]; simp), if_neg (by rw [hr.tn]; omega)]
  refine ⟨_, rfl, fun hl => ?_, fun hl => ?_⟩
  · rw [if_pos (by rw [hr.bs]; exact hl)]
  · rw [if_neg (by rw [hr.bs]; omega)]
    exact ⟨hr.dn, by show 1 - st.tn = _; rw [hr.tn], by show st.bs.drop 7 = _; rw [hr.bs]⟩
theorem told_b0 (hr : Rs st par l) (hp : par ≤ 1) : (told st).b0.toNat = 16 * par + 2 * (7 - min 7 l.length) + (if l.length ≤ 7 then 1 else 0) := by
  show (UInt8.ofNat _).toNat = _
  rw [hr.tn, hr.bs]
  have := un (16 * par + 2 * (7 - min 7 l.length) + if l.length ≤ 7 then 1 else 0) (by split <;> omega)
  omega
theorem told_seg (hr : Rs st par l) : ((told st).l.drop 1).take (min 7 l.length) = l.take 7 := by
  have h1 : (told st).l.drop 1 = [st.bs.getD 0 0, st.bs.getD 1 0, st.bs.getD 2 0, st.bs.getD 3 0, st.bs.getD 4 0, st.bs.getD 5 0, st.bs.getD 6 0] := rfl
  rw [h1, hr.bs]
  match l with
  | [] => rfl
  | [a] => rfl
  | [a, b] => rfl
  | [a, b, c] => rfl
  | [a, b, c, d] => rfl
  | [a, b, c, d, e] => rfl
  | [a, b, c, d, e, f] => rfl
  | a :: b :: c :: d :: e :: f :: g :: r => simp
end
end Go.Proofs.YtahfnknbmikmkaaGreat
