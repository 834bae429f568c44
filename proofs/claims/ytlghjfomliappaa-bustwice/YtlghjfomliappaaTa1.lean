/- Plain facts on bits as lists of bytes: no program is named here. Contracts: what looks at a text first tells its error. Contracts of strings.Builder's WriteRune at a rune of ASCII, and what it calls. Plain facts on stuffing. Contracts of Stuff and of what it calls. Contracts of the sums. The small living call of every statement answers true. What append does, also where its operation is guarded; a slice of bytes that came in. How arguments that came in are opened: slices of bytes. -/
import Derived.Below
import Derived.Test.YtlghjfomliappaaProg
import Derived.WalkKit
import Derived.Deep.QuietTactic
import Derived.BigQuiet
import Derived.Test.YtlghjfomliappaaShelf
import Derived.Lib.FrozenHead2
import Derived.Lib.OthersKept
import Derived.Lib.RuneBytes
import Derived.ProofKit
import Derived.OpenShut
import Derived.Test.YtlghjfomliappaaRows
import Derived.ShutString
import Derived.ChangeOld
import Derived.SizedLaws
namespace Go.Proofs.Bits

def isBit (c : UInt8) : Bool := c == 48 || c == 49
/-- A text's error: 2 too long, 8 another byte, 0 none. -/
def err (l : List UInt8) : Int := if 65536 < l.length then 2 else if l.all isBit then 0 else 8

theorem err_zero {l : List UInt8} (h : err l = 0) : l.length ≤ 65536 ∧ l.all isBit = true := by
  unfold err at h
  split at h
  · simp at h
  · split at h
    · exact ⟨by omega, by assumption⟩
    · simp at h

theorem take_snoc (s : ByteArray) (k : Nat) (h : k < s.size) : s.data.toList.take (k + 1) = s.data.toList.take k ++ [s[k]] := by
  rw [List.take_succ_eq_append_getElem (by simpa using h)]; rfl
theorem take_all (s : ByteArray) : s.data.toList.take s.size = s.data.toList := by
  rw [List.take_of_length_le]; simp
theorem size_len (s : ByteArray) : s.data.toList.length = s.size := by simp

theorem isBit_cases {c : UInt8} (h : isBit c = true) : c.toNat = 48 ∨ c.toNat = 49 := by
  simp [isBit] at h
  rcases h with h | h <;> subst h <;> simp
theorem isBit_of {c : UInt8} (h : c.toNat = 48 ∨ c.toNat = 49) : isBit c = true := by
  simp only [isBit, Bool.or_eq_true, beq_iff_eq]
  rcases h with h | h
  · exact .inl (UInt8.toNat_inj.1 h)
  · exact .inr (UInt8.toNat_inj.1 h)
theorem isBit_not {c : UInt8} (h : isBit c = false) : c.toNat ≠ 48 ∧ c.toNat ≠ 49 := by
  constructor <;> intro e
  · rw [isBit_of (.inl e)] at h; cases h
  · rw [isBit_of (.inr e)] at h; cases h
theorem all_at {s : ByteArray} (h : s.data.toList.all isBit = true) (k : Nat) (hk : k < s.size) : s[k].toNat = 48 ∨ s[k].toNat = 49 := by
  rw [List.all_eq_true] at h
  exact isBit_cases (h s[k] (by show s.data[k] ∈ _; simp))
theorem all_snoc (l : List UInt8) (c : UInt8) (h : l.all isBit = true) (hc : isBit c = true) : (l ++ [c]).all isBit = true := by
  simp [List.all_append, h, hc]
theorem not_all {s : ByteArray} (k : Nat) (hk : k < s.size) (h : isBit s[k] = false) : s.data.toList.all isBit = false := by
  rw [← Bool.not_eq_true, List.all_eq_true]
  intro hh
  rw [hh s[k] (by show s.data[k] ∈ _; simp)] at h
  cases h

/-- One bit more into the register of fifteen bits. -/
def crcStep (x c : Nat) : Nat := if x / 16384 = c then x * 2 % 32768 else (x * 2 % 32768) ^^^ 17817
def crcFrom (x : Nat) (l : List UInt8) : Nat := l.foldl (fun x c => crcStep x (c.toNat - 48)) x
def crc (l : List UInt8) : Nat := crcFrom 0 l
def crcV (l : List UInt8) : Nat := if err l = 0 then crc l else 0
theorem crcStep_lt (x c : Nat) : crcStep x c < 32768 := by
  unfold crcStep
  split
  · omega
  · exact Nat.xor_lt_two_pow (n := 15) (by omega) (by omega)
theorem crcFrom_lt (x : Nat) (l : List UInt8) (h : x < 32768) : crcFrom x l < 32768 := by
  induction l generalizing x with
  | nil => exact h
  | cons c l ih => exact ih _ (crcStep_lt _ _)
theorem crc_lt (l : List UInt8) : crc l < 32768 := crcFrom_lt _ _ (by omega)
theorem crcV_lt (l : List UInt8) : crcV l < 32768 := by
  unfold crcV; split
  · exact crc_lt _
  · omega
theorem crcFrom_append (x : Nat) (l r : List UInt8) : crcFrom x (l ++ r) = crcFrom (crcFrom x l) r := by simp [crcFrom, List.foldl_append]
theorem crc_snoc (l : List UInt8) (c : UInt8) : crc (l ++ [c]) = crcStep (crc l) (c.toNat - 48) := by simp [crc, crcFrom]
theorem crcStep_ne {x c : Nat} (h : x / 16384 ≠ c) : crcStep x c = (x * 2 % 32768) ^^^ 17817 := by simp [crcStep, h]
theorem crcStep_eq {x c : Nat} (h : x / 16384 = c) : crcStep x c = x * 2 % 32768 := by simp [crcStep, h]

/-- One turn of the register of sixteen bits. -/
def turn16 (x : Nat) : Nat := if x / 32768 = 1 then (x * 2 % 65536) ^^^ 4129 else x * 2 % 65536
theorem turn16_lt (x : Nat) : turn16 x < 65536 := by
  unfold turn16
  split
  · exact Nat.xor_lt_two_pow (n := 16) (by omega) (by omega)
  · omega
def turns16 : Nat → Nat → Nat
  | 0, x => x
  | n + 1, x => turn16 (turns16 n x)
theorem turns16_lt (n x : Nat) (h : x < 65536) : turns16 n x < 65536 := by
  cases n with
  | zero => exact h
  | succ n => exact turn16_lt _
def byte16 (x : Nat) (b : UInt8) : Nat := turns16 8 (x ^^^ (b.toNat * 256))
theorem xor16_lt (x : Nat) (b : UInt8) (h : x < 65536) : x ^^^ (b.toNat * 256) < 65536 :=
  Nat.xor_lt_two_pow (n := 16) (by omega) (by have := b.toNat_lt; omega)
theorem byte16_lt (x : Nat) (b : UInt8) (h : x < 65536) : byte16 x b < 65536 := turns16_lt _ _ (xor16_lt x b h)
def crc16From (x : Nat) (l : List UInt8) : Nat := l.foldl byte16 x
def crc16 (l : List UInt8) : Nat := crc16From 0 l
theorem crc16From_lt (x : Nat) (l : List UInt8) (h : x < 65536) : crc16From x l < 65536 := by
  induction l generalizing x with
  | nil => exact h
  | cons c l ih => exact ih _ (byte16_lt _ _ h)
theorem crc16_lt (l : List UInt8) : crc16 l < 65536 := crc16From_lt _ _ (by omega)
theorem crc16_snoc (l : List UInt8) (c : UInt8) : crc16 (l ++ [c]) = byte16 (crc16 l) c := by simp [crc16, crc16From]
theorem ltake_snoc {α : Type} (l : List α) (k : Nat) (h : k < l.length) : l.take (k + 1) = l.take k ++ [l[k]] := List.take_succ_eq_append_getElem h
end Go.Proofs.Bits
namespace Go.Proofs.Ytlghjfomliappaa
open Go.RowKit Go.Proofs.Bits

theorem below_iter (w : World) (s : ByteArray) (pos : Nat) : Below w.heap.size w (w.iter s pos) := (Below.refl _ _).alloc (Nat.le_refl _) _
theorem ret_int {k : IntKind} {a b : Int} (h : a = b) : Ending.returned (.int k a) = .returned (.int k b) := by rw [h]
theorem ret_bool {a b : Bool} (h : a = b) : Ending.returned (.bool a) = .returned (.bool b) := by rw [h]
theorem decode_no (s : ByteArray) (pos : Nat) (h : pos < s.size) (hb : isBit s[pos] = false) : (Utf8.decode s pos).1 ≠ 48 ∧ (Utf8.decode s pos).1 ≠ 49 := by
  have hn := isBit_not hb
  by_cases ha : (s[pos]'h).toNat < 128
  · rw [decode_ascii s pos h ha]; exact hn
  · have := (decode_high s pos h (by omega)).1
    omega

set_option maxHeartbeats 400000 in
theorem look_any (s : ByteArray) (w : World) :
    Calls Try.prog 64 #[.string s] w fun e w' => e = .returned (.int .i64 (err s.data.toList)) ∧ Below w.heap.size w w' := by
  by_cases hl : 65536 < s.size
  · go_enter Try.func64, Try.ntmps64
    go_wp2
    go_ret
    exact ⟨by simp [err, hl], Below.refl _ _⟩
  · go_enter Try.func64, Try.ntmps64
    go_wp2
    go_loopw [] (fun w' => ∃ (pos : Nat), pos ≤ s.size ∧ w' = w.iter s pos ∧ (s.data.toList.take pos).all isBit = true) (fun w' => s.size - w'.iterPos w.heap.size)
    case atStart => exact ⟨0, Nat.zero_le _, rfl, by simp⟩
    case round =>
      obtain ⟨pos, hle, rfl, hall⟩ := hrel
      by_cases hp : pos < s.size
      · by_cases hb : isBit s[pos] = true
        · have hb2 := isBit_cases hb
          have hnx : ∀ ty, (Instr.next (.pointer (some ⟨w.heap.size, 0, none⟩)) true ty).run Try.prog (w.iter s pos) = _ := fun ty => run_next_ascii w s pos ty hp (by omega)
          rcases hb2 with h48 | h48
          all_goals
            go_wp2
            go_roundw
            case rel => exact ⟨pos + 1, by omega, rfl, by rw [take_snoc s pos hp]; exact all_snoc _ _ hall hb⟩
            case measure => simp; omega
        · rw [Bool.not_eq_true] at hb
          have hd := decode_no s pos hp hb
          have H : Hid (err s.data.toList = 8) := by
            show err s.data.toList = 8
            simp [err, hl, not_all pos hp hb]
          clear hb hall
          generalize hD : Utf8.decode s pos = D at hd
          have hnx : ∀ ty, (Instr.next (.pointer (some ⟨w.heap.size, 0, none⟩)) true ty).run Try.prog (w.iter s pos) = .ok (.tuple #[.bool true, .int .i64 pos, .int .i32 D.1]) (w.iter s (pos + D.2)) := by
            intro ty
            rw [← hD]
            exact run_next_any w s pos ty hp
          clear hD
          obtain ⟨d, n⟩ := D
          obtain ⟨h48, h49⟩ := hd
          have h48 : ((d : Int) != 48) = true := by simp; omega
          have h49 : ((d : Int) != 49) = true := by simp; omega
          go_wp2
          go_ret
          exact ⟨ret_int H.out.symm, below_iter _ _ _⟩
      · have hnx : ∀ ty, (Instr.next (.pointer (some ⟨w.heap.size, 0, none⟩)) true ty).run Try.prog (w.iter s pos) = _ := fun ty => run_next_end w s pos ty hp
        go_wp2
        go_ret
        obtain rfl : pos = s.size := by omega
        rw [take_all] at hall
        exact ⟨ret_int (by simp [err, hl, hall]), below_iter _ _ _⟩

set_option maxHeartbeats 400000 in
theorem Check_any (s : ByteArray) (w : World) :
    Calls Try.prog 79 #[.string s] w fun e w' => e = .returned (.int .i64 (err s.data.toList)) ∧ w' = w := by
  by_cases hl : 65536 < s.size
  · go_enter Try.func79, Try.ntmps79
    go_wp2
    go_ret
    exact ⟨by simp [err, hl], rfl⟩
  · go_enter Try.func79, Try.ntmps79
    go_wp2
    go_loop [3] (fun i => ∃ k : Nat, k ≤ s.size ∧ i = .int .i64 k ∧ (s.data.toList.take k).all isBit = true) (fun i => s.size - (intOf i).toNat)
    case atStart => exact ⟨0, Nat.zero_le _, rfl, by simp⟩
    case round =>
      obtain ⟨k, hle, rfl, hall⟩ := hrel
      by_cases hp : k < s.size
      · by_cases hb : isBit s[k] = true
        · have hb2 := isBit_cases hb
          have H : Hid ((s.data.toList.take (k + 1)).all isBit = true) := by
            show (s.data.toList.take (k + 1)).all isBit = true
            rw [take_snoc s k hp]; exact all_snoc _ _ hall hb
          rcases hb2 with h48 | h48
          all_goals
            go_wp2
            go_round
            case rel => exact ⟨k + 1, by omega, by go_num, H.out⟩
            case measure => simp [intOf]; omega
        · rw [Bool.not_eq_true] at hb
          have H : Hid (err s.data.toList = 8) := by
            show err s.data.toList = 8
            simp [err, hl, not_all k hp hb]
          obtain ⟨h48, h49⟩ := isBit_not hb
          clear hb hall
          have h48 : ((s[k].toNat : Int) != 48) = true := by simp; omega
          have h49 : ((s[k].toNat : Int) != 49) = true := by simp; omega
          go_wp2
          go_ret
          exact ⟨ret_int H.out.symm, rfl⟩
      · go_wp2
        go_ret
        obtain rfl : k = s.size := by omega
        rw [take_all] at hall
        exact ⟨ret_int (by simp [err, hl, hall]), rfl⟩

end Go.Proofs.Ytlghjfomliappaa
namespace Go.Proofs.Ytlghjfomliappaa
open Go.RowKit Go.Proofs.Bits
set_option linter.unusedVariables false
set_option maxRecDepth 1000000

theorem info5 : (Try.prog.info? 5).map (fun i => (i.zero, i.size, i.bytes)) = some (some (.int .u8 0), 1, 1) := by kernel_rfl
theorem sizeB : (Try.prog.info? 90).map (fun i => i.size) = some 2 := by kernel_rfl
theorem liesB : liesAt Try.prog Try.prog.depth 90 (2 / Try.prog.cellsOf 90) 0 90 1 = true := by kernel_rfl

set_option maxHeartbeats 1000000 in
set_option maxRecDepth 100000 in
theorem copyCheck_used (b : Nat) (w : World) (h0 : w.cell? ⟨b, 0, none⟩ = some (.pointer (some ⟨b, 0, none⟩))) :
    Calls Try.prog 68 #[.pointer (some ⟨b, 0, none⟩)] w fun e w' => e = .returned (.tuple #[]) ∧ w' = w := by
  obtain ⟨j, hj, _⟩ := Option.map_eq_some_iff.1 sizeB
  go_enter Try.func68, Try.ntmps68
  go_wp2
  rw [Lib.run_neq_ptr_same w _ Try.underlying87 hj]
  go_wp2
  go_end0
  exact ⟨rfl, rfl⟩

set_option maxHeartbeats 1000000 in
set_option maxRecDepth 100000 in
theorem copyCheck_fresh (b : Nat) (w : World) (h0 : w.cell? ⟨b, 0, none⟩ = some (.pointer none)) (hsh : w.shape? b = some (90, 2)) (hfz : w.frozen? ⟨b, 0, none⟩ = false) :
    Calls Try.prog 68 #[.pointer (some ⟨b, 0, none⟩)] w fun e w' => e = .returned (.tuple #[]) ∧ w' = w.setCell ⟨b, 0, none⟩ (.pointer (some ⟨b, 0, none⟩)) := by
  obtain ⟨j, hj, hjs⟩ := Option.map_eq_some_iff.1 sizeB
  go_enter Try.func68, Try.ntmps68
  go_wp2
  rw [Lib.run_to_unsafe w ⟨b, 0, none⟩ Try.underlying87 Try.underlying134 hj (by rw [hjs]; decide) hsh (Nat.zero_lt_succ 1)]
  simp only [Result.andThen]
  rw [Oper.upon_value]
  go_wp2
  rw [run_callFunc_extern Try.func85 (by kernel_rfl) (by kernel_rfl) (by kernel_rfl) (e := Extern.AbiNoEscape.same) (by kernel_rfl)]
  rw [Lib.run_noEscape]
  simp only [Result.andThen]
  rw [Oper.upon_value]
  go_wp2
  rw [Lib.run_from_unsafe w ⟨b, 0, none⟩ Try.underlying134 Try.underlying87 hj hsh liesB]
  simp only [Result.andThen]
  rw [Oper.upon_value]
  go_wp2
  go_end0
  exact ⟨rfl, rfl⟩

theorem copyCheck_k (B b : Nat) (bs : List Value) (w : World) (h : Lib.IsBuilderF 90 5 B b bs w) :
    Calls Try.prog 68 #[.pointer (some ⟨b, 0, none⟩)] w fun e w' => e = .returned (.tuple #[]) ∧ (Lib.BuilderAtF 90 5 B b (.pointer (some ⟨b, 0, none⟩)) bs w' ∧ Below B w w' ∧ Lib.OthersKept 5 (some b) w w') := by
  rcases h with h | h
  · refine (copyCheck_fresh b w h.cell0 h.shape h.frozen0).mono ?_
    rintro e w' ⟨rfl, rfl⟩
    exact ⟨rfl, h.used _, (Below.refl B w).setCell (p := ⟨b, 0, none⟩) h.1 _, (Lib.OthersKept.refl _ _ w).setCell ⟨b, 0, none⟩ rfl _⟩
  · refine (copyCheck_used b w h.cell0).mono ?_
    rintro e w' ⟨rfl, rfl⟩
    exact ⟨rfl, h, Below.refl B _, Lib.OthersKept.refl _ _ _⟩

set_option maxHeartbeats 4000000 in
set_option maxRecDepth 100000 in
theorem AppendRune_ascii (B : Nat) (v : Value) (n : Nat) (xs : List Value) (r : Int) (h0 : 0 ≤ r) (h1 : r ≤ 127) (w : World) (hown : w.ownsRowF B 5 1 v n xs) (hlen : n + 4 ≤ 140737488355328) (hBw : B ≤ w.heap.size) :
    Calls Try.prog 84 #[v, .int .i32 r] w fun e w' => ∃ v', e = .returned v' ∧ w'.ownsRowF B 5 1 v' (n + 1) (xs ++ [.int .u8 r]) ∧ ∃ o, (w.alloc o).grownBy w' v.ownBlock := by
  obtain ⟨i0, hi, hz0, hz1, hz2⟩ := info_parts info5
  go_enter Try.func84, Try.ntmps84
  go_wp2_with (at_builtin; refine wpList_append_ownF _ rfl _ _ 88 rfl B 5 i0 (.int .u8 0) 1 1 Try.underlying88 hi hz0 hz1 hz2 rfl (by decide) _ _ _ rfl (hown.alloc _) ⟨w.heap.size, 0, none⟩ 1 1 [.int .u8 r] rfl rfl ?c1 ?c2 ?c3 ?c4 ?c5 ?_)
  all_goals first
    | (intro v' w2 hown' hgrow _; go_wp2; go_ret; exact ⟨_, rfl, hown', _, hgrow⟩)
    | (unfold maxLen; omega)
    | omega
    | (simp; omega)
    | rfl
    | (intro u hu; simp at hu; subst hu; rfl)
    | (intro j u hj
       match j, hj with
       | 0, hj => simp at hj; subst hj; simp [Addr.add]
       | (j + 1), hj => simp at hj)

set_option maxHeartbeats 4000000 in
set_option maxRecDepth 100000 in
theorem WriteRune_ascii (B b : Nat) (bs : List Value) (r : Int) (hr0 : 0 ≤ r) (hr1 : r ≤ 127) (w : World) (h : Lib.IsBuilderF 90 5 B b bs w) (hlen : bs.length + 4 ≤ 140737488355328) (hBw : B ≤ w.heap.size) :
    Calls Try.prog 65 #[.pointer (some ⟨b, 0, none⟩), .int .i32 r] w fun e w' => e = .returned (.tuple #[.int .i64 1, .nilIface]) ∧ (Lib.BuilderAtF 90 5 B b (.pointer (some ⟨b, 0, none⟩)) (bs ++ [.int .u8 r]) w' ∧ Below B w w' ∧ Lib.OthersKept 5 (some b) w w') := by
  go_enter Try.func65, Try.ntmps65
  go_wp2_with (go_at_call 68; refine (copyCheck_k B b bs _ h).mono ?_)
  rintro e w1 ⟨rfl, h1, hb1, hk1⟩
  obtain ⟨hB, v, hbk, hown, hne⟩ := h1
  obtain ⟨ao, cap, rfl⟩ : ∃ ao cap, v = .slice ao bs.length cap := by
    rcases hown.2 with ⟨hv, h0⟩ | ⟨g, cap, cur, fz, hv, _⟩
    · exact ⟨none, 0, by rw [hv, h0]⟩
    · exact ⟨_, _, hv⟩
  have c0 : w1.cell? ⟨b, 0, none⟩ = some (.pointer (some ⟨b, 0, none⟩)) := by rw [Lib.cell_of_heap hbk]; rfl
  have c1 : w1.cell? ⟨b, 1, none⟩ = some (.slice ao bs.length cap) := by rw [Lib.cell_of_heap hbk]; rfl
  go_wp2_with (go_at_call 84; refine (AppendRune_ascii B _ bs.length bs r hr0 hr1 _ hown hlen (by have := hb1.size; omega)).mono ?_)
  rintro e w2 ⟨v', rfl, hown', o, hgrow⟩
  have hlt : b < w1.heap.size := by
    rcases Nat.lt_or_ge b w1.heap.size with h' | h'
    · exact h'
    · simp [Array.getElem?_eq_none h'] at hbk
  have hb2 : w2.heap[b]? = some (.cells #[.pointer (some ⟨b, 0, none⟩), .slice ao bs.length cap] 90 (0, 0)) := by
    rw [hgrow.block b (by simp; omega) (fun e => hne e.symm), Lib.alloc_old w1 _ b hlt]
    exact hbk
  have d0 : w2.cell? ⟨b, 0, none⟩ = some (.pointer (some ⟨b, 0, none⟩)) := by rw [Lib.cell_of_heap hb2]; rfl
  have d1 : w2.cell? ⟨b, 1, none⟩ = some (.slice ao bs.length cap) := by rw [Lib.cell_of_heap hb2]; rfl
  have f1 : w2.frozen? ⟨b, 1, none⟩ = false := Lib.frozen_of_heap hb2 1
  obtain ⟨g, cap', rfl⟩ : ∃ g cap', v' = .slice (some ⟨g, 0, none⟩) (bs.length + 1) cap' := by
    rcases hown'.2 with ⟨_, h0⟩ | ⟨g, cap', cur, fz, hv, _⟩
    · omega
    · exact ⟨g, cap', hv⟩
  go_wp2
  go_ret2
  refine ⟨?_, ?_, ?_, ((hk1.alloc _).grown hgrow (Lib.ownsRowF_kind (hown.alloc _))).setCell ⟨b, 1, none⟩ rfl _⟩
  · have e : ((bs.length : Int) + 1 - (bs.length : Int)) = 1 := by omega
    simp [e]
  · exact Lib.BuilderAtF.put (T := 90) (e := 5) hB hb2 (bs' := bs ++ [.int .u8 r]) (by simpa using hown') (by decide)
  · exact ((hb1.alloc (by have := hb1.size; omega) _).grown hgrow (by have := hb1.size; simp; omega) (fun k hk => (hown.lt k hk).1)).setCell (p := ⟨b, 1, none⟩) hB _

/-- A byte that is written goes behind those that are there. -/
theorem WriteRune_byte (B b : Nat) (l : List UInt8) (c : UInt8) (r : Int) (hc : r = c.toNat) (h7 : c.toNat ≤ 127) (w : World) (h : Lib.IsBuilderF 90 5 B b (Lib.byteCells l) w) (hlen : l.length + 4 ≤ 140737488355328) (hBw : B ≤ w.heap.size) :
    Calls Try.prog 65 #[.pointer (some ⟨b, 0, none⟩), .int .i32 r] w fun e w' => e = .returned (.tuple #[.int .i64 1, .nilIface]) ∧ (Lib.IsBuilderF 90 5 B b (Lib.byteCells (l ++ [c])) w' ∧ Below B w w' ∧ Lib.OthersKept 5 (some b) w w') := by
  subst hc
  refine (WriteRune_ascii B b _ _ (by omega) (by omega) w h (by rw [Lib.byteCells_length]; omega) hBw).mono ?_
  rintro e w1 ⟨rfl, h1, b1, k1⟩
  refine ⟨rfl, ?_, b1, k1⟩
  rw [Lib.byteCells_append]
  exact Or.inr h1
end Go.Proofs.Ytlghjfomliappaa
namespace Go.Proofs.Bits
/-- The other level. -/
def oth (c : UInt8) : UInt8 := if c = 48 then 49 else 48
/-- What was told so far, the last level, how many of it in a row. -/
def cnt (t : List UInt8 × UInt8 × Nat) (c : UInt8) : Nat := if c = t.2.1 then t.2.2 + 1 else 1
def stStep (t : List UInt8 × UInt8 × Nat) (c : UInt8) : List UInt8 × UInt8 × Nat :=
  if cnt t c = 5 then (t.1 ++ [c] ++ [oth c], oth c, 1) else (t.1 ++ [c], c, cnt t c)
def stFrom (t : List UInt8 × UInt8 × Nat) (l : List UInt8) : List UInt8 × UInt8 × Nat := l.foldl stStep t
def st (l : List UInt8) : List UInt8 × UInt8 × Nat := stFrom ([], 0, 0) l
def stuff (l : List UInt8) : List UInt8 := (st l).1
def stuffV (l : List UInt8) : List UInt8 := if err l = 0 then stuff l else []
theorem st_snoc (l : List UInt8) (c : UInt8) : st (l ++ [c]) = stStep (st l) c := by simp [st, stFrom]
theorem stStep_full {t : List UInt8 × UInt8 × Nat} {c : UInt8} (h : cnt t c = 5) : stStep t c = (t.1 ++ [c] ++ [oth c], oth c, 1) := by simp [stStep, h]
theorem stStep_open {t : List UInt8 × UInt8 × Nat} {c : UInt8} (h : ¬ cnt t c = 5) : stStep t c = (t.1 ++ [c], c, cnt t c) := by simp [stStep, h]
theorem cnt_le (t : List UInt8 × UInt8 × Nat) (c : UInt8) (h : t.2.2 ≤ 4) : 1 ≤ cnt t c ∧ cnt t c ≤ 5 := by
  unfold cnt; split <;> omega
theorem stStep_count (t : List UInt8 × UInt8 × Nat) (c : UInt8) (h : t.2.2 ≤ 4) : 1 ≤ (stStep t c).2.2 ∧ (stStep t c).2.2 ≤ 4 := by
  have := cnt_le t c h
  by_cases hc : cnt t c = 5
  · rw [stStep_full hc]; simp
  · rw [stStep_open hc]; show 1 ≤ cnt t c ∧ cnt t c ≤ 4; omega
theorem stStep_length (t : List UInt8 × UInt8 × Nat) (c : UInt8) : (stStep t c).1.length ≤ t.1.length + 2 := by
  by_cases hc : cnt t c = 5
  · rw [stStep_full hc]; simp
  · rw [stStep_open hc]; simp
/-- Induction from the back. -/
theorem snoc_ind {α : Type} {p : List α → Prop} (h0 : p []) (h1 : ∀ l a, p l → p (l ++ [a])) (l : List α) : p l := by
  suffices ∀ r : List α, p r.reverse by simpa using this l.reverse
  intro r
  induction r with
  | nil => simpa using h0
  | cons a r ih => simpa using h1 _ a ih
theorem st_count (l : List UInt8) : (st l).2.2 ≤ 4 := by
  induction l using snoc_ind with
  | h0 => simp [st, stFrom]
  | h1 l c ih => rw [st_snoc]; exact (stStep_count _ _ ih).2
theorem st_length (l : List UInt8) : (st l).1.length ≤ 2 * l.length := by
  induction l using snoc_ind with
  | h0 => simp [st, stFrom]
  | h1 l c ih =>
    rw [st_snoc]
    have := stStep_length (st l) c
    simp only [List.length_append, List.length_cons, List.length_nil]
    omega
theorem oth_bit (c : UInt8) : (oth c).toNat = 48 ∨ (oth c).toNat = 49 := by
  unfold oth; split
  · right; rfl
  · left; rfl
theorem oth_ne (c : UInt8) : oth c ≠ c := by
  unfold oth; split
  · rename_i h; rw [h]; decide
  · rename_i h; intro e; exact h e.symm
end Go.Proofs.Bits
namespace Go.Proofs.Ytlghjfomliappaa
open Go.RowKit Go.Proofs.Bits
set_option linter.unusedVariables false
set_option maxRecDepth 1000000

theorem other_any (c : UInt8) (hc : c.toNat = 48 ∨ c.toNat = 49) (w : World) :
    Calls Try.prog 67 #[.int .i32 c.toNat] w fun e w' => e = .returned (.int .i32 (oth c).toNat) ∧ w' = w := by
  rcases hc with hc | hc
  · have H : Hid ((oth c).toNat = 49) := by
      show (oth c).toNat = 49
      rw [oth, if_pos (UInt8.toNat_inj.1 hc)]; rfl
    go_enter Try.func67, Try.ntmps67
    go_wp2
    go_ret
    exact ⟨ret_int (by rw [H.out]; rfl), rfl⟩
  · have H : Hid ((oth c).toNat = 48) := by
      show (oth c).toNat = 48
      rw [oth, if_neg (by intro e; rw [e] at hc; simp at hc)]; rfl
    go_enter Try.func67, Try.ntmps67
    go_wp2
    go_ret
    exact ⟨ret_int (by rw [H.out]; rfl), rfl⟩

theorem with_any (a c lv : Int) (h0 : 0 ≤ c) (h1 : c ≤ 1000) (w : World) :
    Calls Try.prog 66 #[.agg #[.int .i32 a, .int .i64 c], .int .i32 lv] w fun e w' => e = .returned (.agg #[.int .i32 lv, .int .i64 (if lv = a then c + 1 else 1)]) ∧ Below w.heap.size w w' := by
  by_cases h : lv = a
  · subst h
    rw [if_pos rfl]
    go_enter Try.func66, Try.ntmps66
    go_wp2
    exact bodyPost_ret (v := .agg #[.int .i32 lv, .int .i64 (c + 1)]) (by simp [results, Try.results66, go_sem]) rfl ⟨rfl, ((Below.refl _ _).alloc (Nat.le_refl _) _).alloc (by simp) _⟩
  · rw [if_neg h]
    have hn : (lv != a) = true := by simp [h]
    go_enter Try.func66, Try.ntmps66
    go_wp2
    exact bodyPost_ret (v := .agg #[.int .i32 lv, .int .i64 1]) (by simp [results, Try.results66, go_sem]) rfl ⟨rfl, ((Below.refl _ _).alloc (Nat.le_refl _) _).alloc (by simp) _⟩

theorem with_byte (acc : List UInt8) (lv : UInt8) (ct : Nat) (c : UInt8) (h : ct ≤ 10) (w : World) :
    Calls Try.prog 66 #[.agg #[.int .i32 lv.toNat, .int .i64 ct], .int .i32 c.toNat] w fun e w' => e = .returned (.agg #[.int .i32 c.toNat, .int .i64 (cnt (acc, lv, ct) c)]) ∧ Below w.heap.size w w' := by
  refine (with_any lv.toNat ct c.toNat (by omega) (by omega) w).mono ?_
  rintro e w1 ⟨rfl, hb⟩
  refine ⟨?_, hb⟩
  have : (if ((c.toNat : Int) = (lv.toNat : Int)) then ((ct : Int) + 1) else 1) = ((cnt (acc, lv, ct) c : Nat) : Int) := by
    unfold cnt
    by_cases e : c = lv
    · rw [if_pos e, if_pos (by rw [e])]; simp
    · rw [if_neg e, if_neg (fun h => e (UInt8.toNat_inj.1 (by omega)))]; simp
  rw [this]
/-- All blocks but that of r stand as they stood. -/
def But (r : Nat) (w w' : World) : Prop := ∀ k, k < w.heap.size → k ≠ r → w'.heap[k]? = w.heap[k]?
theorem at_other {T e : TypeId} {B b r : Nat} {p : Value} {bs : List Value} {w w' : World} (h : Lib.BuilderAtF T e B b p bs w) (hk : But r w w') (hr : ∀ c fz, w.heap[r]? ≠ some (.cells c T fz)) (hr2 : ∀ c fz, w.heap[r]? ≠ some (.cells c e fz)) : Lib.BuilderAtF T e B b p bs w' := by
  obtain ⟨hB, v, hb, hown, hne⟩ := h
  have lt : ∀ {k : Nat} {o : Obj}, w.heap[k]? = some o → k < w.heap.size := fun h => (Array.getElem?_eq_some_iff.1 h).1
  refine ⟨hB, v, ?_, ⟨hown.1, ?_⟩, hne⟩
  · rw [hk b (lt hb) (by rintro rfl; exact hr _ _ hb)]; exact hb
  · rcases hown.2 with hn | ⟨g, cap, cur, fz, hv, hbg, hg, rest⟩
    · exact .inl hn
    · refine .inr ⟨g, cap, cur, fz, hv, hbg, ?_, rest⟩
      rw [hk g (lt hg) (by rintro rfl; exact hr2 _ _ hg)]; exact hg
theorem is_other {T e : TypeId} {B b r : Nat} {bs : List Value} {w w' : World} (h : Lib.IsBuilderF T e B b bs w) (hk : But r w w') (hr : ∀ c fz, w.heap[r]? ≠ some (.cells c T fz)) (hr2 : ∀ c fz, w.heap[r]? ≠ some (.cells c e fz)) : Lib.IsBuilderF T e B b bs w' :=
  h.elim (fun x => .inl (at_other x hk hr hr2)) (fun x => .inr (at_other x hk hr hr2))
theorem heap_set2 {w : World} {r : Nat} {x y x' y' : Value} {T : TypeId} (h : w.heap[r]? = some (.cells #[x, y] T (0, 0))) :
    ((w.setCell ⟨r, 0, none⟩ x').setCell ⟨r, 1, none⟩ y').heap[r]? = some (.cells #[x', y'] T (0, 0)) := by
  simp [World.setCell, Array.getElem?_modify, h]
theorem but_set2 (w : World) (r : Nat) (x' y' : Value) : But r w ((w.setCell ⟨r, 0, none⟩ x').setCell ⟨r, 1, none⟩ y') := by
  intro k hk hne
  rw [Below.heap_setCell _ _ _ _ hne, Below.heap_setCell _ _ _ _ hne]


theorem But.below {r : Nat} {w w' : World} (h : Below w.heap.size w w') : But r w w' := fun k hk _ => h.block k hk

/-- A Builder, the row's two cells behind it, the iterator behind that; all older blocks stand. -/
def Inv (w1 : World) (s : ByteArray) (acc : List UInt8) (lv : UInt8) (ct pos : Nat) (wr : World) : Prop :=
  Lib.IsBuilderF 90 5 w1.heap.size w1.heap.size (Lib.byteCells acc) wr ∧ wr.heap[w1.heap.size + 1]? = some (.cells #[.int .i32 lv.toNat, .int .i64 ct] 119 (0, 0)) ∧ wr.heap[w1.heap.size + 2]? = some (.stringIter s pos) ∧ Below w1.heap.size w1 wr
section
variable {w1 wr w' : World} {s : ByteArray} {acc : List UInt8} {lv : UInt8} {ct pos : Nat}
theorem Inv.lt (h : Inv w1 s acc lv ct pos wr) : w1.heap.size + 2 < wr.heap.size := (Array.getElem?_eq_some_iff.1 h.2.2.1).1
theorem Inv.next (h : Inv w1 s acc lv ct pos wr) (pos' : Nat) : Inv w1 s acc lv ct pos' (wr.iterAt (w1.heap.size + 2) s pos') :=
  ⟨h.1.iterAt h.2.2.1 _, (Lib.iterAt_other wr (w1.heap.size + 2) (w1.heap.size + 1) s pos' (by omega)).trans h.2.1, Lib.iterAt_heap wr (w1.heap.size + 2) s pos pos' h.2.2.1, Lib.below_iterAt h.2.2.2 (k := w1.heap.size + 2) (by omega) s pos'⟩
theorem Inv.write (h : Inv w1 s acc lv ct pos wr) (c : UInt8) (h7 : c.toNat ≤ 127) (hl : acc.length ≤ 1000000) :
    Calls Try.prog 65 #[.pointer (some ⟨w1.heap.size, 0, none⟩), .int .i32 c.toNat] wr fun e w' => e = .returned (.tuple #[.int .i64 1, .nilIface]) ∧ Inv w1 s (acc ++ [c]) lv ct pos w' := by
  have := h.lt
  refine (WriteRune_byte w1.heap.size w1.heap.size acc c _ rfl h7 wr h.1 (by omega) (by omega)).mono ?_
  rintro e w2 ⟨rfl, h3, b3, k3⟩
  exact ⟨rfl, h3, k3 _ _ h.2.1 (by simp) (by simp), k3.iter h.2.2.1 (by omega), h.2.2.2.trans b3⟩
theorem Inv.below (h : Inv w1 s acc lv ct pos wr) (hb : Below wr.heap.size wr w') : Inv w1 s acc lv ct pos w' := by
  have := h.lt
  exact ⟨is_other (r := w1.heap.size + 1) h.1 (But.below hb) (by rw [h.2.1]; simp) (by rw [h.2.1]; simp), (hb.block _ (by omega)).trans h.2.1, (hb.block _ (by omega)).trans h.2.2.1, h.2.2.2.trans (hb.mono (by omega))⟩
theorem Inv.row (h : Inv w1 s acc lv ct pos wr) (lv' : UInt8) (ct' : Nat) : Inv w1 s acc lv' ct' pos ((wr.setCell ⟨w1.heap.size + 1, 0, none⟩ (.int .i32 lv'.toNat)).setCell ⟨w1.heap.size + 1, 1, none⟩ (.int .i64 ct')) := by
  have := h.lt
  exact ⟨is_other (r := w1.heap.size + 1) h.1 (but_set2 _ _ _ _) (by rw [h.2.1]; simp) (by rw [h.2.1]; simp), heap_set2 h.2.1, (but_set2 wr (w1.heap.size + 1) _ _ (w1.heap.size + 2) (by omega) (by omega)).trans h.2.2.1, (h.2.2.2.setCell (p := ⟨w1.heap.size + 1, 0, none⟩) (by show w1.heap.size ≤ w1.heap.size + 1; omega) _).setCell (p := ⟨w1.heap.size + 1, 1, none⟩) (by show w1.heap.size ≤ w1.heap.size + 1; omega) _⟩
theorem Inv.cells (h : Inv w1 s acc lv ct pos wr) : (wr.cell? ⟨w1.heap.size + 1, 0, none⟩ = some (.int .i32 lv.toNat) ∧ wr.cell? ⟨w1.heap.size + 1, 1, none⟩ = some (.int .i64 ct)) ∧ wr.frozen? ⟨w1.heap.size + 1, 0, none⟩ = false ∧ wr.frozen? ⟨w1.heap.size + 1, 1, none⟩ = false :=
  ⟨⟨by rw [Lib.cell_of_heap h.2.1]; rfl, by rw [Lib.cell_of_heap h.2.1]; rfl⟩, Lib.frozen_of_heap h.2.1 0, Lib.frozen_of_heap h.2.1 1⟩
theorem Inv.place (h : Inv w1 s acc lv ct pos wr) : wr.iterPos (w1.heap.size + 2) = pos := by simp [World.iterPos, h.2.2.1]
end
theorem Inv.start (w1 : World) (s : ByteArray) : Inv w1 s [] 0 0 0 (((w1.alloc (.cells #[.pointer none, .slice none 0 0] 90)).alloc (.cells #[.int .i32 0, .int .i64 0] 119)).iter s 0) := by
  refine ⟨((Lib.IsBuilderF.of (Lib.fresh_isBuilder 90 5 w1)).alloc _).alloc _, ?_, ?_, (((Below.refl _ w1).alloc (Nat.le_refl _) _).alloc (by simp) _).alloc (by simp; omega) _⟩
  · show (((w1.heap.push (.cells #[.pointer none, .slice none 0 0] 90)).push (.cells #[.int .i32 0, .int .i64 0] 119)).push (.stringIter s 0))[w1.heap.size + 1]? = _
    rw [Array.getElem?_push, if_neg (by simp), Array.getElem?_push, if_pos (by simp)]
    rfl
  · have := World.iter_heap ((w1.alloc (.cells #[.pointer none, .slice none 0 0] 90)).alloc (.cells #[.int .i32 0, .int .i64 0] 119)) s 0
    simpa using this

set_option maxHeartbeats 4000000 in
set_option maxRecDepth 1000000 in
theorem Stuff_ok (s : ByteArray) (w : World) (h0 : err s.data.toList = 0) :
    Calls Try.prog 42 #[.string s] w fun e w' => e = .returned (.tuple #[.string ⟨(stuff s.data.toList).toArray⟩, .int .i64 0]) ∧ Below w.heap.size w w' := by
  obtain ⟨hl, hall⟩ := err_zero h0
  have hs : s.size ≤ 65536 := by simpa using hl
  have H0 : Hid (err s.data.toList = 0) := h0
  clear h0 hl
  go_enter Try.func42, Try.ntmps42
  go_wp2_with (go_at_call 64; refine (look_any s _).mono ?_; rintro e w1 ⟨rfl, hb⟩; rw [H0.out])
  go_loopw [] (fun wr => ∃ (pos : Nat), pos ≤ s.size ∧ Inv w1 s (st (s.data.toList.take pos)).1 (st (s.data.toList.take pos)).2.1 (st (s.data.toList.take pos)).2.2 pos wr) (fun wr => s.size - wr.iterPos (w1.heap.size + 2))
  case atStart => exact ⟨0, Nat.zero_le _, Inv.start w1 s⟩
  case round =>
    obtain ⟨pos, hle, hI⟩ := hrel
    by_cases hp : pos < s.size
    · have hbit := all_at hall pos hp
      have HS : Hid (st (s.data.toList.take (pos + 1)) = stStep (st (s.data.toList.take pos)) s[pos]) := by
        show st _ = _
        rw [take_snoc s pos hp, st_snoc]
      have hcn := st_count (s.data.toList.take pos)
      have hln := st_length (s.data.toList.take pos)
      have hlt : (s.data.toList.take pos).length ≤ pos := List.length_take_le _ _
      generalize st (s.data.toList.take pos) = t at hcn hln HS hI
      obtain ⟨acc, lv, ct⟩ := t
      simp only at hcn hln HS hI
      have hit := hI.2.2.1
      have hpo := hI.place
      have hnx : ∀ ty, (Instr.next (.pointer (some ⟨w1.heap.size + 2, 0, none⟩)) true ty).run Try.prog wr = _ := fun ty => Lib.run_next_ascii_at wr (w1.heap.size + 2) s pos ty hit hp (by omega)
      have hI2 := hI.next (pos + 1)
      go_wp2_with (go_at_call 65; refine (hI2.write s[pos] (by omega) (by omega)).mono ?_)
      rintro e w2 ⟨rfl, hI3⟩
      obtain ⟨⟨c0, c1⟩, f0, f1⟩ := hI3.cells
      go_wp2_with (go_at_call 66; refine (with_byte acc lv ct s[pos] (by omega) _).mono ?_)
      rintro e w3 ⟨rfl, b4⟩
      have hI4 := hI3.below b4
      clear c0 c1 f0 f1
      obtain ⟨⟨c0, c1⟩, f0, f1⟩ := hI4.cells
      have hcl := cnt_le (acc, lv, ct) s[pos] hcn
      by_cases h5 : cnt (acc, lv, ct) s[pos] = 5
      · rw [stStep_full h5] at HS
        rw [h5]
        have hI5 := hI4.row s[pos] 5
        go_wp2_with (go_at_call 67; refine (other_any s[pos] hbit _).mono ?_)
        rintro e w4 ⟨rfl, rfl⟩
        have ho := oth_bit s[pos]
        go_wp2_with (go_at_call 65; refine (hI5.write (oth s[pos]) (by omega) (by simp; omega)).mono ?_)
        rintro e w5 ⟨rfl, hI6⟩
        clear c0 c1 f0 f1
        obtain ⟨⟨c0, c1⟩, f0, f1⟩ := hI6.cells
        have hc1 : cnt (acc, s[pos], 5) (oth s[pos]) = 1 := by simp [cnt, oth_ne]
        go_wp2_with (go_at_call 66; refine (with_byte acc s[pos] 5 (oth s[pos]) (by omega) _).mono ?_)
        rintro e w6 ⟨rfl, b7⟩
        have hI7 := hI6.below b7
        clear c0 c1 f0 f1
        obtain ⟨⟨c0, c1⟩, f0, f1⟩ := hI7.cells
        have hI8 := hI7.row (oth s[pos]) 1
        rw [hc1]
        go_wp2
        go_roundw
        case rel => exact ⟨pos + 1, by omega, by rw [HS.out]; exact hI8⟩
        case measure =>
          have hpl := hI8.place
          simp only [Int.natCast_one] at hpl
          rw [hpl, hpo]; omega
      · rw [stStep_open h5] at HS
        have h5b : ((cnt (acc, lv, ct) s[pos] : Int) == 5) = false := by simp; omega
        generalize cnt (acc, lv, ct) s[pos] = n at hcl h5 h5b HS
        have hI5 := hI4.row s[pos] n
        go_wp2
        go_roundw
        case rel => exact ⟨pos + 1, by omega, by rw [HS.out]; exact hI5⟩
        case measure => rw [hI5.place, hpo]; omega
    · have hit := hI.2.2.1
      have hnx : ∀ ty, (Instr.next (.pointer (some ⟨w1.heap.size + 2, 0, none⟩)) true ty).run Try.prog wr = _ := fun ty => Lib.run_next_end_at wr (w1.heap.size + 2) s pos ty hit hp
      have hlt := hI.lt
      go_wp2_with (go_at_call 40; refine (Try.Builder_String_any_k w1.heap.size w1.heap.size _ _ hI.1 (by omega)).mono ?_)
      rintro e w2 ⟨rfl, _, b2, _⟩
      go_wp2
      go_ret2
      obtain rfl : pos = s.size := by omega
      rw [take_all]
      exact ⟨rfl, hb.trans ((hI.2.2.2.trans b2).mono hb.size)⟩

theorem Stuff_any (s : ByteArray) (w : World) :
    Calls Try.prog 42 #[.string s] w fun e w' => e = .returned (.tuple #[.string ⟨(stuffV s.data.toList).toArray⟩, .int .i64 (err s.data.toList)]) ∧ Below w.heap.size w w' := by
  by_cases h0 : err s.data.toList = 0
  · rw [stuffV, if_pos h0, h0]
    exact Stuff_ok s w h0
  · have HF : Hid (stuffV s.data.toList = []) := by show stuffV _ = []; simp [stuffV, h0]
    have hn : (err s.data.toList != 0) = true := by simp [h0]
    go_enter Try.func42, Try.ntmps42
    go_wp2_with (go_at_call 64; refine (look_any s _).mono ?_; rintro e w1 ⟨rfl, hb⟩)
    go_ret2
    refine ⟨?_, hb⟩
    rw [HF.out]
    rfl
end Go.Proofs.Ytlghjfomliappaa
namespace Go.Proofs.Ytlghjfomliappaa
open Go.RowKit Go.Proofs.Bits
set_option linter.unusedVariables false
set_option maxRecDepth 1000000

theorem num16_ne (x c : Nat) (hx : x < 32768) (hc : c = 48 ∨ c = 49) (h : ((x : Int) / 16384 != (c : Int) - 48) = true) :
    bits BinOp.xor IntKind.u16 (bits BinOp.and IntKind.u16 ((x : Int) * 2) 32767) 17817 = ((crcStep x (c - 48) : Nat) : Int) := by
  rw [show ((x : Int) * 2) = ((x * 2 : Nat) : Int) from by omega, show (32767 : Int) = ((32767 : Nat) : Int) from rfl, u16_and_nat _ _ (by omega) (by omega), nat_mask15,
    show (17817 : Int) = ((17817 : Nat) : Int) from rfl, u16_xor_nat _ _ (by omega) (by omega), crcStep_ne]
  intro e
  simp at h
  omega
theorem num16_eq (x c : Nat) (hx : x < 32768) (hc : c = 48 ∨ c = 49) (h : ((x : Int) / 16384 != (c : Int) - 48) = false) :
    bits BinOp.and IntKind.u16 ((x : Int) * 2) 32767 = ((crcStep x (c - 48) : Nat) : Int) := by
  rw [show ((x : Int) * 2) = ((x * 2 : Nat) : Int) from by omega, show (32767 : Int) = ((32767 : Nat) : Int) from rfl, u16_and_nat _ _ (by omega) (by omega), nat_mask15, crcStep_eq]
  simp at h
  omega
theorem num32_out (x : Nat) (hx : x < 32768) : bits BinOp.and IntKind.u32 ((x : Int) / 16384) 1 = ((x / 16384 : Nat) : Int) := by
  rw [show ((x : Int) / 16384) = ((x / 16384 : Nat) : Int) from by omega, show (1 : Int) = ((1 : Nat) : Int) from rfl, u32_and_nat _ _ (by omega) (by omega), nat_mask1]
  omega
theorem num32_ne (x c : Nat) (hx : x < 32768) (hc : c = 48 ∨ c = 49) (h : (bits BinOp.and IntKind.u32 ((x : Int) / 16384) 1 != (c : Int) - 48) = true) :
    bits BinOp.xor IntKind.u32 (bits BinOp.and IntKind.u32 ((x : Int) * 2) 32767) 17817 = ((crcStep x (c - 48) : Nat) : Int) := by
  rw [num32_out x hx] at h
  rw [show ((x : Int) * 2) = ((x * 2 : Nat) : Int) from by omega, show (32767 : Int) = ((32767 : Nat) : Int) from rfl, u32_and_nat _ _ (by omega) (by omega), nat_mask15,
    show (17817 : Int) = ((17817 : Nat) : Int) from rfl, u32_xor_nat _ _ (by omega) (by omega), crcStep_ne]
  intro e
  simp at h
  omega
theorem num32_eq (x c : Nat) (hx : x < 32768) (hc : c = 48 ∨ c = 49) (h : (bits BinOp.and IntKind.u32 ((x : Int) / 16384) 1 != (c : Int) - 48) = false) :
    bits BinOp.and IntKind.u32 ((x : Int) * 2) 32767 = ((crcStep x (c - 48) : Nat) : Int) := by
  rw [num32_out x hx] at h
  rw [show ((x : Int) * 2) = ((x * 2 : Nat) : Int) from by omega, show (32767 : Int) = ((32767 : Nat) : Int) from rfl, u32_and_nat _ _ (by omega) (by omega), nat_mask15, crcStep_eq]
  simp at h
  omega
theorem ret_two {k : IntKind} {a b : Int} {v : Value} (h : a = b) : Ending.returned (.tuple #[.int k a, v]) = .returned (.tuple #[.int k b, v]) := by rw [h]
theorem val_int {k : IntKind} {a b : Int} (h : a = b) : Value.int k a = .int k b := by rw [h]

set_option maxHeartbeats 400000 in
theorem CRC_any (s : ByteArray) (w : World) :
    Calls Try.prog 63 #[.string s] w fun e w' => e = .returned (.tuple #[.int .u16 (crcV s.data.toList), .int .i64 (err s.data.toList)]) ∧ Below w.heap.size w w' := by
  by_cases h0 : err s.data.toList = 0
  · obtain ⟨hl, hall⟩ := err_zero h0
    have hs : s.size ≤ 65536 := by simpa using hl
    have HF : Hid (crcV s.data.toList = crc s.data.toList) := by show crcV _ = crc _; simp [crcV, h0]
    have H0 : Hid (err s.data.toList = 0) := h0
    clear h0 hl
    go_enter Try.func63, Try.ntmps63
    go_wp2_with (go_at_call 64; refine (look_any s _).mono ?_; rintro e w1 ⟨rfl, hb⟩; rw [H0.out])
    go_loopw [5] (fun n w' => ∃ (pos : Nat), pos ≤ s.size ∧ w' = w1.iter s pos ∧ n = .int .u16 (crc (s.data.toList.take pos))) (fun _ w' => s.size - w'.iterPos w1.heap.size)
    case atStart => exact ⟨0, Nat.zero_le _, rfl, rfl⟩
    case round =>
      obtain ⟨pos, hle, rfl, rfl⟩ := hrel
      by_cases hp : pos < s.size
      · have hbit := all_at hall pos hp
        have HS : Hid (crc (s.data.toList.take (pos + 1)) = crcStep (crc (s.data.toList.take pos)) (s[pos].toNat - 48)) := by
          show crc _ = _
          rw [take_snoc s pos hp, crc_snoc]
        have hx := crc_lt (s.data.toList.take pos)
        have hnx : ∀ ty, (Instr.next (.pointer (some ⟨w1.heap.size, 0, none⟩)) true ty).run Try.prog (w1.iter s pos) = _ := fun ty => run_next_ascii w1 s pos ty hp (by omega)
        generalize crc (s.data.toList.take pos) = x at hx HS
        go_wp2
        all_goals
          go_roundw
          case rel => exact ⟨pos + 1, by omega, rfl, val_int (by rw [HS.out]; first | exact num16_ne _ _ hx hbit ‹_› | exact num16_eq _ _ hx hbit ‹_›)⟩
          case measure => simp; omega
      · have hnx : ∀ ty, (Instr.next (.pointer (some ⟨w1.heap.size, 0, none⟩)) true ty).run Try.prog (w1.iter s pos) = _ := fun ty => run_next_end w1 s pos ty hp
        go_wp2
        go_ret2
        obtain rfl : pos = s.size := by omega
        refine ⟨?_, hb.trans ((below_iter _ _ _).mono hb.size)⟩
        rw [HF.out, H0.out]
        exact ret_two (by rw [take_all])
  · have HF : Hid (crcV s.data.toList = 0) := by show crcV _ = 0; simp [crcV, h0]
    have hn : (err s.data.toList != 0) = true := by simp [h0]
    go_enter Try.func63, Try.ntmps63
    go_wp2_with (go_at_call 64; refine (look_any s _).mono ?_; rintro e w1 ⟨rfl, hb⟩)
    go_ret2
    refine ⟨?_, hb⟩
    rw [HF.out]
    rfl

set_option maxHeartbeats 400000 in
theorem rCRC_any (s : ByteArray) (w : World) :
    Calls Try.prog 80 #[.string s] w fun e w' => e = .returned (.tuple #[.int .u16 (crcV s.data.toList), .int .i64 (err s.data.toList)]) ∧ w' = w := by
  by_cases h0 : err s.data.toList = 0
  · obtain ⟨hl, hall⟩ := err_zero h0
    have hs : s.size ≤ 65536 := by simpa using hl
    have HF : Hid (crcV s.data.toList = crc s.data.toList) := by show crcV _ = crc _; simp [crcV, h0]
    have H0 : Hid (err s.data.toList = 0) := h0
    clear h0 hl
    go_enter Try.func80, Try.ntmps80
    go_wp2_with (go_at_call 79; refine (Check_any s _).mono ?_; rintro e w1 ⟨rfl, rfl⟩; rw [H0.out])
    go_loop [5, 6] (fun n i => ∃ (pos : Nat), pos ≤ s.size ∧ i = .int .i64 pos ∧ n = .int .u32 (crc (s.data.toList.take pos))) (fun _ i => s.size - (intOf i).toNat)
    case atStart => exact ⟨0, Nat.zero_le _, rfl, rfl⟩
    case round =>
      obtain ⟨pos, hle, rfl, rfl⟩ := hrel
      have hx := crc_lt (s.data.toList.take pos)
      by_cases hp : pos < s.size
      · have hbit := all_at hall pos hp
        have HS : Hid (crc (s.data.toList.take (pos + 1)) = crcStep (crc (s.data.toList.take pos)) (s[pos].toNat - 48)) := by
          show crc _ = _
          rw [take_snoc s pos hp, crc_snoc]
        generalize crc (s.data.toList.take pos) = x at hx HS
        go_wp2
        all_goals
          go_round
          case rel => exact ⟨pos + 1, by omega, by go_num, val_int (by rw [HS.out]; first | exact num32_ne _ _ hx hbit ‹_› | exact num32_eq _ _ hx hbit ‹_›)⟩
          case measure => simp [intOf]; omega
      · go_wp2
        go_ret2
        obtain rfl : pos = s.size := by omega
        refine ⟨?_, rfl⟩
        rw [HF.out, H0.out]
        exact ret_two (by rw [take_all])
  · have HF : Hid (crcV s.data.toList = 0) := by show crcV _ = 0; simp [crcV, h0]
    have hn : (err s.data.toList != 0) = true := by simp [h0]
    go_enter Try.func80, Try.ntmps80
    go_wp2_with (go_at_call 79; refine (Check_any s _).mono ?_; rintro e w1 ⟨rfl, rfl⟩)
    go_ret2
    refine ⟨?_, rfl⟩
    rw [HF.out]
    rfl

theorem byte16_end (x : Nat) (c : UInt8) (j : Nat) (h : j ≤ 8) (h8 : ¬ j < 8) : ((turns16 j (x ^^^ (c.toNat * 256)) : Nat) : Int) = ((byte16 x c : Nat) : Int) := by
  obtain rfl : j = 8 := by omega
  rfl
theorem n16_in (x : Nat) (c : UInt8) (hx : x < 65536) : bits BinOp.xor IntKind.u16 (x : Int) ((c.toNat : Int) * 256) = ((x ^^^ (c.toNat * 256) : Nat) : Int) := by
  have := c.toNat_lt
  rw [show ((c.toNat : Int) * 256) = ((c.toNat * 256 : Nat) : Int) from by omega, u16_xor_nat _ _ (by omega) (by omega)]
theorem n32_in (x : Nat) (c : UInt8) (hx : x < 65536) : bits BinOp.xor IntKind.u32 (x : Int) ((c.toNat : Int) * 256) = ((x ^^^ (c.toNat * 256) : Nat) : Int) := by
  have := c.toNat_lt
  rw [show ((c.toNat : Int) * 256) = ((c.toNat * 256 : Nat) : Int) from by omega, u32_xor_nat _ _ (by omega) (by omega)]
theorem n16_wrap (y : Nat) : IntKind.u16.wrap ((y : Int) * 2) = ((y * 2 % 65536 : Nat) : Int) := by
  rw [IntKind.wrap_u16]; omega
theorem n16_yes (y : Nat) (h : ((y : Int) / 32768 == 1) = true) : bits BinOp.xor IntKind.u16 (IntKind.u16.wrap ((y : Int) * 2)) 4129 = ((turn16 y : Nat) : Int) := by
  simp at h
  rw [n16_wrap, show (4129 : Int) = ((4129 : Nat) : Int) from rfl, u16_xor_nat _ _ (by omega) (by omega), turn16, if_pos (by omega)]
theorem n16_no (y : Nat) (h : ((y : Int) / 32768 == 1) = false) : IntKind.u16.wrap ((y : Int) * 2) = ((turn16 y : Nat) : Int) := by
  simp at h
  rw [n16_wrap, turn16, if_neg (by omega)]
theorem n32_out (y : Nat) (hy : y < 65536) : bits BinOp.and IntKind.u32 ((y : Int) / 32768) 1 = ((y / 32768 : Nat) : Int) := by
  rw [show ((y : Int) / 32768) = ((y / 32768 : Nat) : Int) from by omega, show (1 : Int) = ((1 : Nat) : Int) from rfl, u32_and_nat _ _ (by omega) (by omega), nat_mask1]
  omega
theorem n32_and (y : Nat) (hy : y < 65536) : bits BinOp.and IntKind.u32 ((y : Int) * 2) 65535 = ((y * 2 % 65536 : Nat) : Int) := by
  rw [show ((y : Int) * 2) = ((y * 2 : Nat) : Int) from by omega, show (65535 : Int) = ((65535 : Nat) : Int) from rfl, u32_and_nat _ _ (by omega) (by omega), nat_mask16]
theorem n32_yes (y : Nat) (hy : y < 65536) (h : (bits BinOp.and IntKind.u32 ((y : Int) / 32768) 1 == 1) = true) : bits BinOp.xor IntKind.u32 (bits BinOp.and IntKind.u32 ((y : Int) * 2) 65535) 4129 = ((turn16 y : Nat) : Int) := by
  rw [n32_out y hy] at h
  simp at h
  rw [n32_and y hy, show (4129 : Int) = ((4129 : Nat) : Int) from rfl, u32_xor_nat _ _ (by omega) (by omega), turn16, if_pos (by omega)]
theorem n32_no (y : Nat) (hy : y < 65536) (h : (bits BinOp.and IntKind.u32 ((y : Int) / 32768) 1 == 1) = false) : bits BinOp.and IntKind.u32 ((y : Int) * 2) 65535 = ((turn16 y : Nat) : Int) := by
  rw [n32_out y hy] at h
  simp at h
  rw [n32_and y hy, turn16, if_neg (by omega)]

end Go.Proofs.Ytlghjfomliappaa
namespace Go.Proofs.Ytlghjfomliappaa
open Go.RowKit Go.Proofs.Bits
set_option linter.unusedVariables false
set_option maxRecDepth 1000000

theorem live_stuff : (⟨(stuffV [48, 48, 48, 48, 48]).toArray⟩ : ByteArray) = ⟨#[48, 48, 48, 48, 48, 49]⟩ := by decide +kernel
theorem live_err : err [48, 48, 48, 48, 48] = 0 := by decide +kernel
theorem live_crc : crcV [49] = 17817 := by decide +kernel
theorem live_err1 : err [49] = 0 := by decide +kernel
theorem live_err2 : err [48, 49] = 0 := by decide +kernel
theorem live_err3 : err [50] = 8 := by decide +kernel

theorem live1 (w : World) : Calls Try.prog 42 #[.string ⟨#[48, 48, 48, 48, 48]⟩] w fun e w' => e = .returned (.tuple #[.string ⟨#[48, 48, 48, 48, 48, 49]⟩, .int .i64 0]) ∧ Below w.heap.size w w' := by
  have h := Stuff_any ⟨#[48, 48, 48, 48, 48]⟩ w
  rw [show (⟨#[48, 48, 48, 48, 48]⟩ : ByteArray).data.toList = [48, 48, 48, 48, 48] from rfl, live_stuff, live_err] at h
  exact h
theorem live2 (w : World) : Calls Try.prog 63 #[.string ⟨#[49]⟩] w fun e w' => e = .returned (.tuple #[.int .u16 17817, .int .i64 0]) ∧ Below w.heap.size w w' := by
  have h := CRC_any ⟨#[49]⟩ w
  rw [show (⟨#[49]⟩ : ByteArray).data.toList = [49] from rfl, live_crc, live_err1] at h
  exact h
end Go.Proofs.Ytlghjfomliappaa
namespace Go.Proofs.Ytlghjfomliappaa
open Go.RowKit Go.Proofs.Bits
set_option linter.unusedVariables false
set_option maxRecDepth 1000000

theorem append_want {P : Program} {w : World} {ops : Array Oper} {rest : List Oper} {o : Oper} {a : Act} {Q : Exit → Act → World → Prop} (hgd : Region.wanted o (yielded ops a.tmps) = true) (s x : Operand) (t : TypeId)
    (ho : o.op = .call { callee := .builtin .append, args := #[s, x], argTypes := #[t, t] })
    (base : Nat) (e : TypeId) (i : TypeInfo) (z : Value) (size bytes : Nat) (ht : P.underlying t = some (.slice e)) (hi : P.info? e = some i) (hz : i.zero = some z)
    (hsize : i.size = size) (hby : i.bytes = bytes) (hzs : z.cells.size = size) (hsz : 0 < size)
    (v : Value) (n : Nat) (xs : List Value) (hs : a.eval s = v) (hown : w.ownsRow base e size v n xs)
    (ad : Addr) (m c : Nat) (news : List Value) (hx : a.eval x = .slice (some ad) m c) (hl : news.length = m * size) (hnews : ∀ j u, news[j]? = some u → w.cell? (ad.add j) = some u) (h1 : ∀ u ∈ news, u.oneCell' = true)
    (h63 : n + m ≤ maxLen) (hbytes : (n + m) * bytes ≤ 140737488355328) (hbase : base ≤ w.heap.size)
    (h : ∀ v' w', w'.ownsRow base e size v' (n + m) (xs ++ news) → w.grownBy w' v.ownBlock → wpList P ops Q rest (a.put o.dst v') w') : wpList P ops Q (o :: rest) a w :=
  BigFrame.wpList_want hgd fun _ hK => wp_append_own w s x t ho base e i z size bytes ht hi hz hsize hby hzs hsz v n xs hs hown ad m c news hx hl hnews h1 h63 hbytes hbase fun v' w' h2 h3 h4 => hK _ _ (h v' w' h2 h3)

/-- A slice of bytes that came in: nil, or cells in an old block (where there is none, whatever address). -/
def Bytes (w : World) (v : Value) (l : List UInt8) : Prop :=
  ∃ ao cap, v = .slice ao l.length cap ∧ (ao = none → l = [] ∧ cap = 0) ∧ ∀ k (h : k < l.length), ∃ b off, ao = some ⟨b, off, none⟩ ∧ b < w.heap.size ∧ w.cell? ⟨b, off + k, none⟩ = some (.int .u8 l[k].toNat)

theorem Bytes.below {w w' : World} {v : Value} {l : List UInt8} (h : Bytes w v l) (hb : Below w.heap.size w w') : Bytes w' v l := by
  obtain ⟨ao, cap, hv, h0, hc⟩ := h
  refine ⟨ao, cap, hv, h0, fun k hk => ?_⟩
  obtain ⟨b, off, ha, hlt, hcell⟩ := hc k hk
  exact ⟨b, off, ha, Nat.lt_of_lt_of_le hlt hb.size, (hb.cell (p := ⟨b, off + k, none⟩) hlt).trans hcell⟩
theorem Bytes.cases {w : World} {v : Value} {l : List UInt8} (h : Bytes w v l) :
    (l = [] ∧ ∃ ao cap, v = .slice ao 0 cap ∧ (ao = none → cap = 0)) ∨ ∃ b off cap, v = .slice (some ⟨b, off, none⟩) l.length cap ∧ b < w.heap.size ∧ ∀ k (h : k < l.length), w.cell? ⟨b, off + k, none⟩ = some (.int .u8 l[k].toNat) := by
  obtain ⟨ao, cap, hv, h0, hc⟩ := h
  by_cases hl : l.length = 0
  · obtain rfl := List.length_eq_zero_iff.1 hl
    exact .inl ⟨rfl, ao, cap, hv, fun e => (h0 e).2⟩
  · obtain ⟨b, off, ha, hlt, _⟩ := hc 0 (by omega)
    subst ha
    refine .inr ⟨b, off, cap, hv, hlt, fun k hk => ?_⟩
    obtain ⟨b', off', ha', _, hcell⟩ := hc k hk
    simp at ha'
    obtain ⟨rfl, rfl⟩ := ha'
    exact hcell


/-- What the call owns is such a slice. -/
theorem bytes_of_own {w : World} {B : Nat} {v : Value} {l : List UInt8} (h : w.ownsRow B 5 1 v l.length (Lib.byteCells l)) : Bytes w v l := by
  rcases h.2 with ⟨rfl, h0⟩ | ⟨g, cap, cur, rfl, hg, hcur, h1, h2, h3, h4⟩
  · obtain rfl := List.length_eq_zero_iff.1 h0
    exact ⟨none, 0, rfl, fun _ => ⟨rfl, rfl⟩, fun k hk => by simp at hk⟩
  · refine ⟨some ⟨g, 0, none⟩, cap, rfl, (fun h => by cases h), fun k hk => ⟨g, 0, rfl, (Array.getElem?_eq_some_iff.1 hcur).1, ?_⟩⟩
    rw [Lib.cell_of_heap hcur]
    have e : cur.toList[k]? = (Lib.byteCells l)[k]? := by
      rw [← h4, List.getElem?_take]; simp; omega
    simp [Lib.byteCells] at e
    simp [e, hk]
theorem byteCells_one (l : List UInt8) : ∀ u ∈ Lib.byteCells l, u.oneCell' = true := by
  intro u hu
  simp [Lib.byteCells] at hu
  obtain ⟨c, _, rfl⟩ := hu
  rfl
theorem add_off (b off j : Nat) : (⟨b, off, none⟩ : Addr).add j = ⟨b, off + j, none⟩ := by
  unfold Addr.add
  split
  · rename_i h; subst h; rfl
  · rfl
theorem byteCells_at {w : World} {b off : Nat} {l : List UInt8} (hc : ∀ k (h : k < l.length), w.cell? ⟨b, off + k, none⟩ = some (.int .u8 l[k].toNat)) :
    ∀ j u, (Lib.byteCells l)[j]? = some u → w.cell? ((⟨b, off, none⟩ : Addr).add j) = some u := by
  intro j u hj
  simp [Lib.byteCells] at hj
  obtain ⟨c, hc1, rfl⟩ := hj
  obtain ⟨hlt, rfl⟩ := List.getElem?_eq_some_iff.1 hc1
  rw [add_off]
  exact hc j hlt

theorem grown_refl (w : World) (row : Option Nat) : w.grownBy w row := ⟨rfl, rfl, rfl, Nat.le_refl _, fun _ _ _ => rfl⟩
/-- append of bytes that came in to bytes of the call's own, guarded or not. -/
theorem append_bytes {w : World} {ops : Array Oper} {rest : List Oper} {o : Oper} {a : Act} {Q : Exit → Act → World → Prop} (hgd : Region.wanted o (yielded ops a.tmps) = true) (s x : Operand)
    (ho : o.op = .call { callee := .builtin .append, args := #[s, x], argTypes := #[88, 88] })
    (base : Nat) (v : Value) (xs : List UInt8) (hs : a.eval s = v) (hown : w.ownsRow base 5 1 v xs.length (Lib.byteCells xs))
    (vx : Value) (l : List UInt8) (hx : a.eval x = vx) (hB : Bytes w vx l) (hbytes : xs.length + l.length ≤ 140737488355328) (hbase : base ≤ w.heap.size)
    (h : ∀ v' w', w'.ownsRow base 5 1 v' (xs ++ l).length (Lib.byteCells (xs ++ l)) → w.grownBy w' v.ownBlock → wpList Try.prog ops Q rest (a.put o.dst v') w') : wpList Try.prog ops Q (o :: rest) a w := by
  obtain ⟨i0, hi, hz0, hz1, hz2⟩ := info_parts info5
  obtain ⟨ao, cap, rfl, h0, hc⟩ := hB
  cases ao with
  | none =>
    obtain ⟨rfl, rfl⟩ := h0 rfl
    refine BigFrame.wpList_want hgd fun K hK => ?_
    have hrun := run_append_owned_none (P := Try.prog) (w := w) base 88 o.type 5 i0 1 Try.underlying88 hi v xs.length (Lib.byteCells xs) hown
    unfold Oper.wp
    simp only [List.length_nil] at hx
    simp [execOp, ho, resolve, invoke, builtin, hs, hx, hrun, Result.andThen]
    refine hK _ _ (h _ _ ?_ (grown_refl _ _))
    simpa using hown
  | some ad =>
    refine append_want hgd s x 88 ho base 5 i0 (.int .u8 0) 1 1 Try.underlying88 hi hz0 hz1 hz2 rfl (by decide) v xs.length (Lib.byteCells xs) hs hown ad l.length cap (Lib.byteCells l) hx (by simp [Lib.byteCells_length]) ?_ (byteCells_one l) (by unfold maxLen; omega) (by omega) hbase ?_
    · intro j u hj
      have hlt : j < l.length := by
        have := (List.getElem?_eq_some_iff.1 hj).1
        rwa [Lib.byteCells_length] at this
      obtain ⟨b, off, ha, _, hcell⟩ := hc j hlt
      simp at ha
      subst ha
      rw [add_off, hcell]
      simp [Lib.byteCells, hlt] at hj
      rw [hj]
    · intro v' w' h1 h2
      refine h v' w' ?_ h2
      rw [List.length_append, Lib.byteCells_append]
      exact h1
theorem ownsRow_alloc {w : World} {base : Nat} {e : TypeId} {size : Nat} {v : Value} {n : Nat} {xs : List Value} (h : w.ownsRow base e size v n xs) (o : Obj) : (w.alloc o).ownsRow base e size v n xs := by
  refine ⟨h.1, ?_⟩
  rcases h.2 with hn | ⟨g, cap, cur, hv, hb, hg, rest⟩
  · exact .inl hn
  · exact .inr ⟨g, cap, cur, hv, hb, (Below.heap_alloc _ _ _ (Array.getElem?_eq_some_iff.1 hg).1).trans hg, rest⟩
theorem own_lt {w : World} {base : Nat} {e : TypeId} {size : Nat} {v : Value} {n : Nat} {xs : List Value} (h : w.ownsRow base e size v n xs) : ∀ k, v.ownBlock = some k → base ≤ k := by
  intro k hk
  rcases h.2 with ⟨rfl, _⟩ | ⟨g, cap, cur, rfl, hb, _⟩
  · simp [Value.ownBlock] at hk
  · simp [Value.ownBlock] at hk; omega

theorem own_empty (w : World) : (w.alloc (.cells #[] 5)).ownsRow w.heap.size 5 1 (.slice (some ⟨w.heap.size, 0, none⟩) 0 0) 0 [] := by
  refine ⟨rfl, .inr ⟨w.heap.size, 0, #[], rfl, Nat.le_refl _, ?_, Nat.le_refl _, by decide, rfl, rfl⟩⟩
  show (w.heap.push _)[w.heap.size]? = _
  simp
end Go.Proofs.Ytlghjfomliappaa
namespace Go.Proofs.Ytlghjfomliappaa
open Go.ChangeShapes Go.WideShapes Go.ChangeAt Go.RowKit Go.Proofs.Bits
open Go.ChangeMaps (open_string shut_string)
set_option linter.unusedVariables false
set_option maxRecDepth 1000000

theorem own : ownKnob Try.prog.godebug = none := by kernel_rfl
theorem laidOut : laidOutB Try.prog = true := by kernel_rfl
theorem bytes5 : Try.prog.bytesOf 5 = 1 := by kernel_rfl

theorem u8_of_int {z : Int} (h : (Lit.int .u8 z).wf = true) : ((z.toNat.toUInt8).toNat : Int) = z := by
  have hx : 0 ≤ z ∧ z ≤ 255 := by simpa [Lit.wf, IntKind.min, IntKind.max, IntKind.signed, IntKind.bits] using h
  simp
  omega

set_option maxRecDepth 1000000 in
theorem open_bytes {H : Type} {enc : TypeId × Value → H} {W : World} {base : Nat} {v : Value} {d : DataW H} {ps : List MemPlace}
    (hval : Value.okWide Try.prog W .any base 88 v) (h : DataW.Trod enc Try.prog W 0 (fun _ => true) true 88 v d ps) (hlt : ∀ x ∈ ps, x.block < W.heap.size) :
    ∃ l : List UInt8, Bytes W v l ∧ ((d = .nil ∧ l = []) ∨ ∃ e s, d = .slice e s ∧ e.length = l.length) := by
  obtain ⟨a, len, cap, rfl⟩ := okWide_slice Try.underlying88 hval
  obtain ⟨fuel, hf⟩ := h
  rcases open_ints Try.underlying88 Try.underlying5 (by kernel_rfl) hf with ⟨hcs, hx⟩ | ⟨x, l, c, zs, hcs, _, hl, hm, hz, hx, hcell, hwz⟩
  · simp [Value.cells] at hcs
    obtain ⟨rfl, rfl, rfl⟩ := hcs
    simp only [Prod.mk.injEq] at hx
    exact ⟨[], ⟨none, 0, rfl, fun _ => ⟨rfl, rfl⟩, fun k hk => by simp at hk⟩, .inl ⟨hx.1, rfl⟩⟩
  · simp [Value.cells] at hcs
    obtain ⟨rfl, rfl, rfl⟩ := hcs
    simp only [Prod.mk.injEq] at hx
    have hz' : zs.length = cap := by simpa using hz
    have hlen : (zs.take len).length = len := by simp; omega
    refine ⟨(zs.take len).map (fun z => z.toNat.toUInt8), ⟨some x, cap, by rw [List.length_map, hlen], (fun h => by cases h), fun k hk => ?_⟩, .inr ⟨_, _, hx.1, by simp [lits]⟩⟩
    rw [List.length_map, hlen] at hk
    obtain ⟨b, off, rfl, hc⟩ := ints_at hcell (by omega)
    refine ⟨b, off, rfl, ?_, ?_⟩
    · have := hlt (.cell b (off + k)) (by rw [hx.2]; simp [MemPlace.row]; omega)
      exact this
    · rw [hc k (by omega)]
      have hk' : k < zs.length := by omega
      have hw := hwz zs[k] (List.getElem_mem hk')
      simp only [List.getElem_map, List.getElem_take]
      rw [u8_of_int hw]
      simp [hk']

theorem size_string {H : Type} {ts : List TypeId} {ds : List (DataW H)} (j : Nat) {s : ByteArray} (h : (DataW.weightsEach Try.prog ts ds).all (· ≤ reachBytes) = true) (ht : ts[j]? = some 9) (hd : ds[j]? = some (.lit (.string s.data.toList))) : s.size ≤ 140737488351232 := by
  have hs := sized_string h ht hd
  have : reachBytes = 140737488351232 := by decide
  rw [this] at hs
  simpa using hs
theorem size_bytes {H : Type} {ts : List TypeId} {ds : List (DataW H)} {j : Nat} {d : DataW H} {l : List UInt8} (h : (DataW.weightsEach Try.prog ts ds).all (· ≤ reachBytes) = true) (ht : ts[j]? = some 88) (hd : ds[j]? = some d) (e : (d = .nil ∧ l = []) ∨ ∃ e s, d = .slice e s ∧ e.length = l.length) : l.length ≤ 140737488351232 := by
  rcases e with ⟨_, rfl⟩ | ⟨e, s, rfl, he⟩
  · simp
  · have hs := sized_slice h ht hd Try.underlying88
    rw [bytes5] at hs
    have : reachBytes = 140737488351232 := by decide
    omega
end Go.Proofs.Ytlghjfomliappaa
