/- WheelSlots: two wheels in one world. -/
import Derived.Test.YtjkkclojidhgdaaWActs
namespace Go.Proofs.Ytjkkclojidhgdaa
open Go.RowKit Go.Maps Go.WideMaps
set_option linter.unusedVariables false
set_option maxRecDepth 1000000
set_option linter.unusedSimpArgs false
/-- Two wheels and an act beside them. -/
structure Mid (gx gy bc : Nat) (c : Array Value) (w : World) (x y : Wl) (nx vx : Nat) (ex : List Tm) (ny vy : Nat) (ey : List Tm) (wr : World) : Prop where
  ax : At x nx vx ex wr
  ay : At y ny vy ey wr
  ap : ∀ k, x.own k → ¬ y.own k
  bel : Below w.heap.size w wr
  bx : ∀ k, x.own k → w.heap.size ≤ k
  by' : ∀ k, y.own k → w.heap.size ≤ k
  gx : x.g = gx
  gy : y.g = gy
  cb : wr.heap[bc]? = some (.cells c 34 (0, 0))
  cx : ¬ x.own bc
  cy : ¬ y.own bc
  c0 : w.heap.size ≤ bc
/-- Two wheels. -/
structure Pr (gx gy : Nat) (w : World) (x y : Wl) (now given : Nat) (es : List Tm) (wr : World) : Prop where
  ax : At x now given es wr
  ay : At y now given es wr
  ap : ∀ k, x.own k → ¬ y.own k
  bel : Below w.heap.size w wr
  bx : ∀ k, x.own k → w.heap.size ≤ k
  by' : ∀ k, y.own k → w.heap.size ≤ k
  gx : x.g = gx
  gy : y.g = gy
section
variable {gx gy bc nx vx ny vy : Nat} {c : Array Value} {w wr : World} {x y : Wl} {ex ey : List Tm}
theorem Mid.left (h : Mid gx gy bc c w x y nx vx ex ny vy ey wr) {x' : Wl} {nx' vx' : Nat} {ex' : List Tm} {w' : World} (a : At x' nx' vx' ex' w') (m : Mv x x' wr w') : Mid gx gy bc c w x' y nx' vx' ex' ny vy ey w' := by
  obtain ⟨p1, p2⟩ := h.ay.stay h.ap m
  have hlt := (Array.getElem?_eq_some_iff.1 h.cb).1
  refine ⟨a, p1, p2, kw_below h.bel m.kw (fun k hk e => by have := h.bx k e; omega), fun k hk => ?_, h.by', m.g.trans h.gx, h.gy, (m.kw.keep bc hlt h.cx).trans h.cb, fun e => ?_, h.cy, h.c0⟩
  · rcases m.own k hk with e | e
    · exact h.bx k e
    · exact Nat.le_trans h.bel.size e
  · rcases m.own bc e with e | e
    · exact h.cx e
    · omega
theorem Mid.swap (h : Mid gx gy bc c w x y nx vx ex ny vy ey wr) : Mid gy gx bc c w y x ny vy ey nx vx ex wr :=
  ⟨h.ay, h.ax, fun k hy hx => h.ap k hx hy, h.bel, h.by', h.bx, h.gy, h.gx, h.cb, h.cy, h.cx, h.c0⟩
theorem Mid.right (h : Mid gx gy bc c w x y nx vx ex ny vy ey wr) {y' : Wl} {ny' vy' : Nat} {ey' : List Tm} {w' : World} (a : At y' ny' vy' ey' w') (m : Mv y y' wr w') : Mid gx gy bc c w x y' nx vx ex ny' vy' ey' w' := (h.swap.left a m).swap
theorem Mid.below (h : Mid gx gy bc c w x y nx vx ex ny vy ey wr) {w' : World} (b : Below wr.heap.size wr w') : Mid gx gy bc c w x y nx vx ex ny vy ey w' :=
  ⟨h.ax.below b, h.ay.below b, h.ap, h.bel.trans (b.mono h.bel.size), h.bx, h.by', h.gx, h.gy, (b.block bc (Array.getElem?_eq_some_iff.1 h.cb).1).trans h.cb, h.cx, h.cy, h.c0⟩
theorem Mid.pr (h : Mid gx gy bc c w x y nx vx ex nx vx ex wr) : Pr gx gy w x y nx vx ex wr := ⟨h.ax, h.ay, h.ap, h.bel, h.bx, h.by', h.gx, h.gy⟩
theorem Pr.mid (h : Pr gx gy w x y nx vx ex wr) (c : Array Value) : Mid gx gy wr.heap.size c w x y nx vx ex nx vx ex (wr.alloc (.cells c 34)) := by
  have b : Below wr.heap.size wr (wr.alloc (.cells c 34)) := (Below.refl _ _).alloc (Nat.le_refl _) _
  exact ⟨h.ax.below b, h.ay.below b, h.ap, h.bel.trans (b.mono h.bel.size), h.bx, h.by', h.gx, h.gy, heap_alloc_new wr _, fun e => by have := h.ax.lt e; omega, fun e => by have := h.ay.lt e; omega, h.bel.size⟩
theorem row_kw {O : Nat → Prop} {w' : World} {B : Nat} {e : TypeId} {s m : Nat} {v : Value} {xs : List Value} (h : w.ownsRow B e s v m xs) (hk : Kw O w w') (hO : ∀ k, B ≤ k → ¬ O k) : w'.ownsRow B e s v m xs := by
  rcases h.2 with ⟨rfl, h0⟩ | ⟨q, cap, cur, rfl, hbase, hb, h1, h2, h3, h4⟩
  · exact ⟨h.1, .inl ⟨rfl, h0⟩⟩
  · exact ⟨h.1, .inr ⟨q, cap, cur, rfl, hbase, (hk.keep q (Array.getElem?_eq_some_iff.1 hb).1 (hO q hbase)).trans hb, h1, h2, h3, h4⟩⟩
theorem Len_at {x : Wl} {now given : Nat} {es : List Tm} (h : At x now given es w) : Calls Try.prog 12 #[.pointer (some ⟨x.g, 0, none⟩)] w fun e w' => e = .returned (.int .i64 es.length) ∧ w' = w := by
  rw [es_len h]
  exact Len_any h.wh
end
theorem addF_le {now given : Nat} {es : List Tm} {ok : Bool} {first per : Nat} {what : Int} : (addF now given es ok first per what).1 ≤ given + 1 := by
  unfold addF
  split
  · split
    · exact Nat.le_refl _
    · exact Nat.le_succ _
  · exact Nat.le_succ _
theorem toHid {p : Prop} (h : p) : Hid p := h
theorem ak_cells {w : World} {bc : Nat} {c0 c1 c2 c3 c4 : Value} {T : TypeId} (h : w.heap[bc]? = some (.cells #[c0, c1, c2, c3, c4] T (0, 0))) : w.cell? ⟨bc, 0, none⟩ = some c0 ∧ w.cell? ⟨bc, 1, none⟩ = some c1 ∧ w.cell? ⟨bc, 2, none⟩ = some c2 ∧ w.cell? ⟨bc, 3, none⟩ = some c3 ∧ w.cell? ⟨bc, 4, none⟩ = some c4 :=
  ⟨by rw [Lib.cell_of_heap h]; rfl, by rw [Lib.cell_of_heap h]; rfl, by rw [Lib.cell_of_heap h]; rfl, by rw [Lib.cell_of_heap h]; rfl, by rw [Lib.cell_of_heap h]; rfl⟩
theorem enterCan : ∀ args z, (callFunc 19 args).run Try.prog z = .ok (.enter 19 args) z := fun _ _ => by rfl
theorem enterTick : ∀ args z, (callFunc 18 args).run Try.prog z = .ok (.enter 18 args) z := fun _ _ => by rfl
theorem enterSame : ∀ args z, (callFunc 17 args).run Try.prog z = .ok (.enter 17 args) z := fun _ _ => by rfl
set_option maxHeartbeats 8000000 in
theorem wslots_nat (a b : Nat) (ha : a < 65536) (hb : b < 65536) (v : Value) (l : List Ak) (w : World) (hl : l.length ≤ 3518437208781) (hB : Acts w v l) :
    Calls Try.prog 5 #[.int .u16 a, .int .u16 b, v] w fun e w' => e = .returned (.bool true) ∧ Below w.heap.size w w' := by
  obtain ⟨ao, cap, rfl, _, hc⟩ := hB
  have HC : Hid (∀ (wr : World), Below w.heap.size w wr → ∀ k (hk : k < l.length), ∃ b off, ao = some ⟨b, off, none⟩ ∧ b < w.heap.size ∧ wr.rangeAt b (off + k * 5) (decK l[k])) := fun wr hb k hk => Wide.at hc hb k hk
  clear hc
  have hA1 : a % 4096 < 4096 := Nat.mod_lt _ (by omega)
  have hB1 : b % 4096 < 4096 := Nat.mod_lt _ (by omega)
  have hra : (a : Int).tmod 4096 = ((a % 4096 : Nat) : Int) := by rfl
  have hrb : (b : Int).tmod 4096 = ((b % 4096 : Nat) : Int) := by rfl
  have hpa : (1 : Int) + ((a % 4096 : Nat) : Int) = ((1 + a % 4096 : Nat) : Int) := by omega
  have hpb : (1 : Int) + ((b % 4096 : Nat) : Int) = ((1 + b % 4096 : Nat) : Int) := by omega
  obtain ⟨p, hp⟩ : ∃ p, 1 + a % 4096 = p := ⟨_, rfl⟩
  obtain ⟨q, hq⟩ : ∃ q, 1 + b % 4096 = q := ⟨_, rfl⟩
  rw [hp] at hpa
  rw [hq] at hpb
  have hp1 : 1 ≤ p ∧ p ≤ 4096 := by omega
  have hq1 : 1 ≤ q ∧ q ≤ 4096 := by omega
  clear hp hq
  generalize a % 4096 = a1 at *
  generalize b % 4096 = b1 at *
  have hN := New_at p (by omega) (by omega) w
  go_enter Try.func5, Try.ntmps5
  go_wp2_with fail
  refine hN.mono ?_
  rintro e w1 ⟨x1, rfl, a1x, b1x, o1⟩
  have hN2 := New_at q (by omega) (by omega) w1
  have HX1 : Hid (At x1 0 0 [] w1 ∧ Below w.heap.size w w1 ∧ ∀ k, x1.own k → w.heap.size ≤ k) := ⟨a1x, b1x, o1⟩
  clear hN a1x b1x o1
  go_wp2_with fail
  refine hN2.mono ?_
  rintro e w2 ⟨y1, rfl, a2y, b2y, o2⟩
  have HP1 : Hid (Pr x1.g y1.g w x1 y1 0 0 [] w2) := by
    obtain ⟨z1, z2, z3⟩ := HX1.out
    exact ⟨z1.below b2y, a2y, fun k hx hy => by have := z1.lt hx; have := o2 k hy; omega, z2.trans (b2y.mono z2.size), z3, fun k hk => Nat.le_trans z2.size (o2 k hk), rfl, rfl⟩
  clear hN2 a2y b2y o2 HX1
  generalize x1.g = gx at *
  generalize y1.g = gy at *
  go_wp2
  go_loopw [11] (fun i wr => ∃ (k now given : Nat) (es : List Tm) (x y : Wl), k ≤ l.length ∧ i = .int .i64 k ∧ now ≤ 500 * k ∧ given ≤ k ∧ Pr gx gy w x y now given es wr) (fun i _ => l.length - (intOf i).toNat)
  case atStart => exact ⟨0, 0, 0, [], x1, y1, by omega, rfl, by omega, by omega, HP1.out⟩
  case round =>
    obtain ⟨k, now, given, es, x, y, hk, rfl, hno, hgi, hP⟩ := hrel
    clear HP1
    have HP0 : Hid (Pr gx gy w x y now given es wr) := hP
    by_cases hkl : k < l.length
    · obtain ⟨bA, off, rfl, hbA, hR⟩ := HC.out wr hP.bel k hkl
      clear hP
      generalize l[k] = ak at *
      obtain ⟨kind, timer, what, A, B, i1, hti, i3, hAb, hBb⟩ := ak
      have hgv : given < 2305843009213693952 := by omega
      by_cases k0 : kind = 0
      · subst k0
        have M1 : Mid gx gy wr.heap.size #[.int .i64 0, .int .i64 timer, .int .i64 what, .int .u64 A, .int .u64 B] w x y now given es now given es (wr.alloc (.cells #[.int .i64 0, .int .i64 timer, .int .i64 what, .int .u64 A, .int .u64 B] 34)) := HP0.out.mid _
        have hA : ∀ (z : Wl) (u : World), At z now given es u → Calls Try.prog 13 #[.pointer (some ⟨z.g, 0, none⟩), .int .u64 A, .int .i64 what] u fun e u' => ∃ z', e = .returned (.tuple #[.int .i64 (addF now given es (decide (1 ≤ A ∧ A ≤ 4294967296)) A 0 what).2.2.1, .int .i64 (addF now given es (decide (1 ≤ A ∧ A ≤ 4294967296)) A 0 what).2.2.2]) ∧ At z' now (addF now given es (decide (1 ≤ A ∧ A ≤ 4294967296)) A 0 what).1 (addF now given es (decide (1 ≤ A ∧ A ≤ 4294967296)) A 0 what).2.1 u' ∧ Mv z z' u u' := fun z u h => Add_at h A what hgv
        have hF : (addF now given es (decide (1 ≤ A ∧ A ≤ 4294967296)) A 0 what).1 ≤ given + 1 := addF_le
        generalize addF now given es (decide (1 ≤ A ∧ A ≤ 4294967296)) A 0 what = F at *
        obtain ⟨gv2, es2, rn, re⟩ := F
        simp only at hA hF
        have HA := toHid hA
        have hAx := hA x _ M1.ax
        rw [M1.gx] at hAx
        have HM1 := toHid M1
        have q1 : (rn == rn) = true := by simp
        have q2 : (re == re) = true := by simp
        clear M1 HP0 hA
        go_wp2_with (refine ak_ld hR rfl _ rfl rfl ?_)
        refine hAx.mono ?_
        rintro e w2 ⟨x2, rfl, a2, m2⟩
        have M2 := HM1.out.left a2 m2
        have hAy := HA.out y _ M2.ay
        rw [M2.gy] at hAy
        obtain ⟨d0, d1, d2, d3, d4⟩ := ak_cells M2.cb
        have HM2 := toHid M2
        clear hAx a2 m2 M2 HM1 hR HA
        go_wp2_with fail
        refine hAy.mono ?_
        rintro e w3 ⟨y3, rfl, a3, m3⟩
        have HP : Hid (Pr gx gy w x2 y3 now gv2 es2 w3) := (HM2.out.right a3 m3).pr
        have HB : Hid (now ≤ 500 * (k + 1) ∧ gv2 ≤ k + 1) := ⟨by omega, by omega⟩
        clear hAy a3 m3 HM2 d0 d1 d2 d3 d4
        have P := HP.out
        have hLx := Len_at P.ax
        have hLy := Len_at P.ay
        have hNx := Now_any P.ax.wh
        have hNy := Now_any P.ay.wh
        rw [P.gx] at hLx hNx
        rw [P.gy] at hLy hNy
        have t1 : (((es2).length : Int) != ((es2).length : Int)) = false := by simp
        have t2 : (((now : Nat) : Int) != ((now : Nat) : Int)) = false := by simp
        generalize hle : (es2).length = le at *
        generalize hno : (now) = no at *
        clear P hle
        go_wp2_with fail
        refine hLx.mono ?_
        rintro e z1 ⟨rfl, rfl⟩
        go_wp2_with fail
        refine hLy.mono ?_
        rintro e z2 ⟨rfl, rfl⟩
        go_wp2_with fail
        refine hNx.mono ?_
        rintro e z3 ⟨rfl, rfl⟩
        go_wp2_with fail
        refine hNy.mono ?_
        rintro e z4 ⟨rfl, rfl⟩
        clear hLx hLy hNx hNy
        go_wp2
        go_roundw
        case rel => exact ⟨k + 1, _, _, _, _, _, by omega, by go_num, HB.out.1, HB.out.2, HP.out⟩
        case measure => simp [intOf]; omega
      by_cases k1 : kind = 1
      · subst k1
        clear k0
        have M1 : Mid gx gy wr.heap.size #[.int .i64 1, .int .i64 timer, .int .i64 what, .int .u64 A, .int .u64 B] w x y now given es now given es (wr.alloc (.cells #[.int .i64 1, .int .i64 timer, .int .i64 what, .int .u64 A, .int .u64 B] 34)) := HP0.out.mid _
        have hA : ∀ (z : Wl) (u : World), At z now given es u → Calls Try.prog 14 #[.pointer (some ⟨z.g, 0, none⟩), .int .u64 A, .int .u64 B, .int .i64 what] u fun e u' => ∃ z', e = .returned (.tuple #[.int .i64 (addF now given es (decide ((1 ≤ A ∧ A ≤ 4294967296) ∧ (1 ≤ B ∧ B ≤ 4294967296))) A B what).2.2.1, .int .i64 (addF now given es (decide ((1 ≤ A ∧ A ≤ 4294967296) ∧ (1 ≤ B ∧ B ≤ 4294967296))) A B what).2.2.2]) ∧ At z' now (addF now given es (decide ((1 ≤ A ∧ A ≤ 4294967296) ∧ (1 ≤ B ∧ B ≤ 4294967296))) A B what).1 (addF now given es (decide ((1 ≤ A ∧ A ≤ 4294967296) ∧ (1 ≤ B ∧ B ≤ 4294967296))) A B what).2.1 u' ∧ Mv z z' u u' := fun z u h => Every_at h A B what hgv
        have hF : (addF now given es (decide ((1 ≤ A ∧ A ≤ 4294967296) ∧ (1 ≤ B ∧ B ≤ 4294967296))) A B what).1 ≤ given + 1 := addF_le
        generalize addF now given es (decide ((1 ≤ A ∧ A ≤ 4294967296) ∧ (1 ≤ B ∧ B ≤ 4294967296))) A B what = F at *
        obtain ⟨gv2, es2, rn, re⟩ := F
        simp only at hA hF
        have HA := toHid hA
        have hAx := hA x _ M1.ax
        rw [M1.gx] at hAx
        have HM1 := toHid M1
        have q1 : (rn == rn) = true := by simp
        have q2 : (re == re) = true := by simp
        clear M1 HP0 hA
        go_wp2_with (refine ak_ld hR rfl _ rfl rfl ?_)
        refine hAx.mono ?_
        rintro e w2 ⟨x2, rfl, a2, m2⟩
        have M2 := HM1.out.left a2 m2
        have hAy := HA.out y _ M2.ay
        rw [M2.gy] at hAy
        obtain ⟨d0, d1, d2, d3, d4⟩ := ak_cells M2.cb
        have HM2 := toHid M2
        clear hAx a2 m2 M2 HM1 hR HA
        go_wp2_with fail
        refine hAy.mono ?_
        rintro e w3 ⟨y3, rfl, a3, m3⟩
        have HP : Hid (Pr gx gy w x2 y3 now gv2 es2 w3) := (HM2.out.right a3 m3).pr
        have HB : Hid (now ≤ 500 * (k + 1) ∧ gv2 ≤ k + 1) := ⟨by omega, by omega⟩
        clear hAy a3 m3 HM2 d0 d1 d2 d3 d4
        have P := HP.out
        have hLx := Len_at P.ax
        have hLy := Len_at P.ay
        have hNx := Now_any P.ax.wh
        have hNy := Now_any P.ay.wh
        rw [P.gx] at hLx hNx
        rw [P.gy] at hLy hNy
        have t1 : (((es2).length : Int) != ((es2).length : Int)) = false := by simp
        have t2 : (((now : Nat) : Int) != ((now : Nat) : Int)) = false := by simp
        generalize hle : (es2).length = le at *
        generalize hno : (now) = no at *
        clear P hle
        go_wp2_with fail
        refine hLx.mono ?_
        rintro e z1 ⟨rfl, rfl⟩
        go_wp2_with fail
        refine hLy.mono ?_
        rintro e z2 ⟨rfl, rfl⟩
        go_wp2_with fail
        refine hNx.mono ?_
        rintro e z3 ⟨rfl, rfl⟩
        go_wp2_with fail
        refine hNy.mono ?_
        rintro e z4 ⟨rfl, rfl⟩
        clear hLx hLy hNx hNy
        go_wp2
        go_roundw
        case rel => exact ⟨k + 1, _, _, _, _, _, by omega, by go_num, HB.out.1, HB.out.2, HP.out⟩
        case measure => simp [intOf]; omega
      by_cases k2 : kind = 2
      · subst k2
        clear k0 k1
        have M0 : Mid gx gy wr.heap.size #[.int .i64 2, .int .i64 timer, .int .i64 what, .int .u64 A, .int .u64 B] w x y now given es now given es (wr.alloc (.cells #[.int .i64 2, .int .i64 timer, .int .i64 what, .int .u64 A, .int .u64 B] 34)) := HP0.out.mid _
        have HM0 := toHid M0
        clear M0 HP0
        go_wp2_with (refine ak_ld hR rfl _ rfl rfl ?_)
        refine wp_region_held (S := fun z => z.cell? ⟨wr.heap.size, 1, none⟩ = some (.int .i64 timer)) (by kernel_rfl) ?_
        obtain ⟨w1, hw1⟩ : ∃ z : World, { (wr.alloc (.cells #[.int .i64 2, .int .i64 timer, .int .i64 what, .int .u64 A, .int .u64 B] 34)) with drawn := (wr.alloc (.cells #[.int .i64 2, .int .i64 timer, .int .i64 what, .int .u64 A, .int .u64 B] 34)).drawn + 1 } = z := ⟨_, rfl⟩
        rw [hw1]
        have M1 : Mid gx gy wr.heap.size #[.int .i64 2, .int .i64 timer, .int .i64 what, .int .u64 A, .int .u64 B] w x y now given es now given es w1 := HM0.out.below (by rw [← hw1]; exact ⟨rfl, rfl, rfl, Nat.le_refl _, fun _ _ => rfl⟩)
        clear hw1 HM0 hR
        have s1 := (ak_cells M1.cb).2.1
        have hCx := Cancel_at M1.ax timer hti
        rw [M1.gx] at hCx
        obtain ⟨F, hcan⟩ : ∃ F, canF es timer = F := ⟨_, rfl⟩
        rw [hcan] at hCx
        obtain ⟨es2, rb⟩ := F
        have HM1 := toHid M1
        clear M1
        refine wpAnyH_take (i := 0) (v := (.pointer (some ⟨gx, 0, none⟩))) rfl (by kernel_rfl) (by kernel_rfl) (by kernel_rfl) (fun _ _ _ h => h) (.inl ⟨rfl, fun _ hS => rfl⟩) s1 ?_
        simp only [List.getElem_toArray, List.getElem_cons_succ, List.getElem_cons_zero, Act.put, List.setIfInBounds_toArray, List.set_cons_succ, List.set_cons_zero]
        refine wpAnyH_take (i := 1) (v := (.pointer (some ⟨wr.heap.size, 1, none⟩))) rfl (by kernel_rfl) (by kernel_rfl) (by kernel_rfl) (fun _ _ _ h => h) (.inl ⟨rfl, fun _ hS => by simp [execOp, go_sem, Act.eval]⟩) s1 ?_
        simp only [List.getElem_toArray, List.getElem_cons_succ, List.getElem_cons_zero, Act.put, List.setIfInBounds_toArray, List.set_cons_succ, List.set_cons_zero]
        refine wpAnyH_take (i := 2) (v := (.int .i64 timer)) rfl (by kernel_rfl) (by kernel_rfl) (by kernel_rfl) (fun _ _ _ h => h) (.inl ⟨rfl, fun _ hS => exec_load rfl rfl (load_int _ wr.heap.size 1 _ hS)⟩) s1 ?_
        simp only [List.getElem_toArray, List.getElem_cons_succ, List.getElem_cons_zero, Act.put, List.setIfInBounds_toArray, List.set_cons_succ, List.set_cons_zero]
        refine wpAnyH_take (i := 4) (v := (.pointer (some ⟨gy, 0, none⟩))) rfl (by kernel_rfl) (by kernel_rfl) (by kernel_rfl) (fun _ _ _ h => h) (.inl ⟨rfl, fun _ hS => rfl⟩) s1 ?_
        simp only [List.getElem_toArray, List.getElem_cons_succ, List.getElem_cons_zero, Act.put, List.setIfInBounds_toArray, List.set_cons_succ, List.set_cons_zero]
        refine wpAnyH_take (i := 5) (v := (.pointer (some ⟨wr.heap.size, 1, none⟩))) rfl (by kernel_rfl) (by kernel_rfl) (by kernel_rfl) (fun _ _ _ h => h) (.inl ⟨rfl, fun _ hS => by simp [execOp, go_sem, Act.eval]⟩) s1 ?_
        simp only [List.getElem_toArray, List.getElem_cons_succ, List.getElem_cons_zero, Act.put, List.setIfInBounds_toArray, List.set_cons_succ, List.set_cons_zero]
        refine wpAnyH_take (i := 6) (v := (.int .i64 timer)) rfl (by kernel_rfl) (by kernel_rfl) (by kernel_rfl) (fun _ _ _ h => h) (.inl ⟨rfl, fun _ hS => exec_load rfl rfl (load_int _ wr.heap.size 1 _ hS)⟩) s1 ?_
        simp only [List.getElem_toArray, List.getElem_cons_succ, List.getElem_cons_zero, Act.put, List.setIfInBounds_toArray, List.set_cons_succ, List.set_cons_zero]
        refine wpAnyH_all (rs := [3]) (by kernel_rfl) (by simp) ?_
        intro k hk
        simp only [List.mem_cons, List.mem_nil_iff, or_false] at hk
        subst hk
        refine wpOp_run rfl rfl (wp_call_fn 19 #[.pointer (some ⟨gx, 0, none⟩), .int .i64 timer] (by simp [execOp, go_sem, Act.eval, resolve, invoke, enterCan]) (hCx.mono ?_))
        rintro e w2 ⟨x2, rfl, a2, m2⟩
        have M2 := HM1.out.left a2 m2
        have s2 := (ak_cells M2.cb).2.1
        have hCy := Cancel_at M2.ay timer hti
        rw [M2.gy, hcan] at hCy
        refine ⟨s2, ?_⟩
        simp only [List.getElem_toArray, List.getElem_cons_succ, List.getElem_cons_zero, Act.put, List.setIfInBounds_toArray, List.set_cons_succ, List.set_cons_zero]
        refine wpAnyH_all (rs := [7]) (by kernel_rfl) (by simp) ?_
        intro k hk
        simp only [List.mem_cons, List.mem_nil_iff, or_false] at hk
        subst hk
        refine wpOp_run rfl rfl (wp_call_fn 19 #[.pointer (some ⟨gy, 0, none⟩), .int .i64 timer] (by simp [execOp, go_sem, Act.eval, resolve, invoke, enterCan]) (hCy.mono ?_))
        rintro e w3 ⟨y3, rfl, a3, m3⟩
        have M3 := M2.right a3 m3
        have s3 := (ak_cells M3.cb).2.1
        refine ⟨s3, ?_⟩
        simp only [List.getElem_toArray, List.getElem_cons_succ, List.getElem_cons_zero, Act.put, List.setIfInBounds_toArray, List.set_cons_succ, List.set_cons_zero]
        refine wpAnyH_take (i := 8) (v := (.bool true)) rfl (by kernel_rfl) (by kernel_rfl) (by kernel_rfl) (fun _ _ _ h => h) (.inl ⟨rfl, fun _ hS => by simp [execOp, go_sem, Act.eval]⟩) s3 ?_
        simp only [List.getElem_toArray, List.getElem_cons_succ, List.getElem_cons_zero, Act.put, List.setIfInBounds_toArray, List.set_cons_succ, List.set_cons_zero]
        refine wpAnyH_take (i := 9) (v := (.bool true)) rfl (by kernel_rfl) (by kernel_rfl) (by kernel_rfl) (fun _ _ _ h => h) (.inl ⟨rfl, fun _ hS => rfl⟩) s3 ?_
        simp only [List.getElem_toArray, List.getElem_cons_succ, List.getElem_cons_zero, Act.put, List.setIfInBounds_toArray, List.set_cons_succ, List.set_cons_zero]
        refine wpAnyH_done (by kernel_rfl) ?_ _
        have HP : Hid (Pr gx gy w x2 y3 now given es2 w3) := M3.pr
        have HB : Hid (now ≤ 500 * (k + 1) ∧ given ≤ k + 1) := ⟨by omega, by omega⟩
        clear hCx hCy a2 m2 a3 m3 M2 M3 HM1 s1 s2 s3 hcan
        have P := HP.out
        have hLx := Len_at P.ax
        have hLy := Len_at P.ay
        have hNx := Now_any P.ax.wh
        have hNy := Now_any P.ay.wh
        rw [P.gx] at hLx hNx
        rw [P.gy] at hLy hNy
        have t1 : (((es2).length : Int) != ((es2).length : Int)) = false := by simp
        have t2 : (((now : Nat) : Int) != ((now : Nat) : Int)) = false := by simp
        generalize hle : (es2).length = le at *
        generalize hno : (now) = no at *
        clear P hle
        go_wp2_with fail
        refine hLx.mono ?_
        rintro e z1 ⟨rfl, rfl⟩
        go_wp2_with fail
        refine hLy.mono ?_
        rintro e z2 ⟨rfl, rfl⟩
        go_wp2_with fail
        refine hNx.mono ?_
        rintro e z3 ⟨rfl, rfl⟩
        go_wp2_with fail
        refine hNy.mono ?_
        rintro e z4 ⟨rfl, rfl⟩
        clear hLx hLy hNx hNy
        go_wp2
        go_roundw
        case rel => exact ⟨k + 1, _, _, _, _, _, by omega, by go_num, HB.out.1, HB.out.2, HP.out⟩
        case measure => simp [intOf]; omega
      by_cases k4 : kind = 4
      · subst k4
        clear k0 k1 k2
        have M0 : Mid gx gy wr.heap.size #[.int .i64 4, .int .i64 timer, .int .i64 what, .int .u64 A, .int .u64 B] w x y now given es now given es (wr.alloc (.cells #[.int .i64 4, .int .i64 timer, .int .i64 what, .int .u64 A, .int .u64 B] 34)) := HP0.out.mid _
        have HM0 := toHid M0
        obtain ⟨m, hm⟩ : ∃ m, A % 500 = m := ⟨_, rfl⟩
        have hm5 : m < 500 := by rw [← hm]; exact Nat.mod_lt _ (by omega)
        have hrem : (A : Int).tmod 500 = (m : Int) := by rw [← hm]; rfl
        have hrem2 : IntKind.wrap .u64 (m : Int) = (m : Int) := by simp [IntKind.wrap, IntKind.signed, IntKind.bits]; omega
        clear M0 HP0 hm
        go_wp2_with (refine ak_ld hR rfl _ rfl rfl ?_)
        refine wp_region_held (S := fun z => z.cell? ⟨wr.heap.size, 3, none⟩ = some (.int .u64 A)) (by kernel_rfl) ?_
        obtain ⟨w1, hw1⟩ : ∃ z : World, { (wr.alloc (.cells #[.int .i64 4, .int .i64 timer, .int .i64 what, .int .u64 A, .int .u64 B] 34)) with drawn := (wr.alloc (.cells #[.int .i64 4, .int .i64 timer, .int .i64 what, .int .u64 A, .int .u64 B] 34)).drawn + 1 } = z := ⟨_, rfl⟩
        rw [hw1]
        have M1 : Mid gx gy wr.heap.size #[.int .i64 4, .int .i64 timer, .int .i64 what, .int .u64 A, .int .u64 B] w x y now given es now given es w1 := HM0.out.below (by rw [← hw1]; exact ⟨rfl, rfl, rfl, Nat.le_refl _, fun _ _ => rfl⟩)
        clear hw1 HM0 hR
        have s1 := (ak_cells M1.cb).2.2.2.1
        have hTx := Tick_at M1.ax m (by omega) (by omega)
        rw [M1.gx] at hTx
        have HM1 := toHid M1
        clear M1
        refine wpAnyH_take (i := 0) (v := (.pointer (some ⟨gx, 0, none⟩))) rfl (by kernel_rfl) (by kernel_rfl) (by kernel_rfl) (fun _ _ _ h => h) (.inl ⟨rfl, fun _ hS => rfl⟩) s1 ?_
        simp only [List.getElem_toArray, List.getElem_cons_succ, List.getElem_cons_zero, Act.put, List.setIfInBounds_toArray, List.set_cons_succ, List.set_cons_zero]
        refine wpAnyH_take (i := 1) (v := (.pointer (some ⟨wr.heap.size, 3, none⟩))) rfl (by kernel_rfl) (by kernel_rfl) (by kernel_rfl) (fun _ _ _ h => h) (.inl ⟨rfl, fun _ hS => by simp [execOp, go_sem, Act.eval]⟩) s1 ?_
        simp only [List.getElem_toArray, List.getElem_cons_succ, List.getElem_cons_zero, Act.put, List.setIfInBounds_toArray, List.set_cons_succ, List.set_cons_zero]
        refine wpAnyH_take (i := 2) (v := (.int .u64 A)) rfl (by kernel_rfl) (by kernel_rfl) (by kernel_rfl) (fun _ _ _ h => h) (.inl ⟨rfl, fun _ hS => exec_load rfl rfl (load_u64 _ wr.heap.size 3 _ hS)⟩) s1 ?_
        simp only [List.getElem_toArray, List.getElem_cons_succ, List.getElem_cons_zero, Act.put, List.setIfInBounds_toArray, List.set_cons_succ, List.set_cons_zero]
        refine wpAnyH_take (i := 3) (v := (.int .u64 m)) rfl (by kernel_rfl) (by kernel_rfl) (by kernel_rfl) (fun _ _ _ h => h) (.inl ⟨rfl, fun _ hS => by simp [execOp, go_sem, Act.eval, hrem, hrem2]⟩) s1 ?_
        simp only [List.getElem_toArray, List.getElem_cons_succ, List.getElem_cons_zero, Act.put, List.setIfInBounds_toArray, List.set_cons_succ, List.set_cons_zero]
        refine wpAnyH_take (i := 5) (v := (.pointer (some ⟨gy, 0, none⟩))) rfl (by kernel_rfl) (by kernel_rfl) (by kernel_rfl) (fun _ _ _ h => h) (.inl ⟨rfl, fun _ hS => rfl⟩) s1 ?_
        simp only [List.getElem_toArray, List.getElem_cons_succ, List.getElem_cons_zero, Act.put, List.setIfInBounds_toArray, List.set_cons_succ, List.set_cons_zero]
        refine wpAnyH_take (i := 6) (v := (.pointer (some ⟨wr.heap.size, 3, none⟩))) rfl (by kernel_rfl) (by kernel_rfl) (by kernel_rfl) (fun _ _ _ h => h) (.inl ⟨rfl, fun _ hS => by simp [execOp, go_sem, Act.eval]⟩) s1 ?_
        simp only [List.getElem_toArray, List.getElem_cons_succ, List.getElem_cons_zero, Act.put, List.setIfInBounds_toArray, List.set_cons_succ, List.set_cons_zero]
        refine wpAnyH_take (i := 7) (v := (.int .u64 A)) rfl (by kernel_rfl) (by kernel_rfl) (by kernel_rfl) (fun _ _ _ h => h) (.inl ⟨rfl, fun _ hS => exec_load rfl rfl (load_u64 _ wr.heap.size 3 _ hS)⟩) s1 ?_
        simp only [List.getElem_toArray, List.getElem_cons_succ, List.getElem_cons_zero, Act.put, List.setIfInBounds_toArray, List.set_cons_succ, List.set_cons_zero]
        refine wpAnyH_take (i := 8) (v := (.int .u64 m)) rfl (by kernel_rfl) (by kernel_rfl) (by kernel_rfl) (fun _ _ _ h => h) (.inl ⟨rfl, fun _ hS => by simp [execOp, go_sem, Act.eval, hrem, hrem2]⟩) s1 ?_
        simp only [List.getElem_toArray, List.getElem_cons_succ, List.getElem_cons_zero, Act.put, List.setIfInBounds_toArray, List.set_cons_succ, List.set_cons_zero]
        refine wpAnyH_all (rs := [4]) (by kernel_rfl) (by simp) ?_
        intro k hk
        simp only [List.mem_cons, List.mem_nil_iff, or_false] at hk
        subst hk
        refine wpOp_run rfl rfl (wp_call_fn 18 #[.pointer (some ⟨gx, 0, none⟩), .int .u64 m] (by simp [execOp, go_sem, Act.eval, resolve, invoke, enterTick]) (hTx.mono ?_))
        rintro e w2 ⟨sa, tv2, x2, rfl, st2, r2, a2, m2⟩
        have M2 := HM1.out.left a2 m2
        have s2 := (ak_cells M2.cb).2.2.2.1
        have hTy := Tick_at M2.ay m (by omega) (by omega)
        rw [M2.gy] at hTy
        have hyl : ∀ k, w1.heap.size ≤ k → ¬ y.own k := fun k hk e => by have := HM1.out.ay.lt e; omega
        refine ⟨s2, ?_⟩
        simp only [List.getElem_toArray, List.getElem_cons_succ, List.getElem_cons_zero, Act.put, List.setIfInBounds_toArray, List.set_cons_succ, List.set_cons_zero]
        refine wpAnyH_all (rs := [9]) (by kernel_rfl) (by simp) ?_
        intro k hk
        simp only [List.mem_cons, List.mem_nil_iff, or_false] at hk
        subst hk
        refine wpOp_run rfl rfl (wp_call_fn 18 #[.pointer (some ⟨gy, 0, none⟩), .int .u64 m] (by simp [execOp, go_sem, Act.eval, resolve, invoke, enterTick]) (hTy.mono ?_))
        rintro e w3 ⟨sb, tv3, y3, rfl, st3, r3, a3, m3⟩
        have M3 := M2.right a3 m3
        have s3 := (ak_cells M3.cb).2.2.2.1
        have eab := st2.uniq st3
        subst eab
        have hSm := same_row (row_kw r2 m3.kw hyl) r3 rfl (by rw [List.length_take]; omega)
        rw [decide_eq_true rfl] at hSm
        refine ⟨s3, ?_⟩
        simp only [List.getElem_toArray, List.getElem_cons_succ, List.getElem_cons_zero, Act.put, List.setIfInBounds_toArray, List.set_cons_succ, List.set_cons_zero]
        refine wpAnyH_all (rs := [10]) (by kernel_rfl) (by simp) ?_
        intro k hk
        simp only [List.mem_cons, List.mem_nil_iff, or_false] at hk
        subst hk
        refine wpOp_run rfl rfl (wp_call_fn 17 #[tv2, tv3] (by simp [execOp, go_sem, Act.eval, resolve, invoke, enterSame]) (hSm.mono ?_))
        rintro e w4 ⟨rfl, b4⟩
        have M4 := M3.below b4
        have s4 := (ak_cells M4.cb).2.2.2.1
        refine ⟨s4, ?_⟩
        simp only [List.getElem_toArray, List.getElem_cons_succ, List.getElem_cons_zero, Act.put, List.setIfInBounds_toArray, List.set_cons_succ, List.set_cons_zero]
        refine wpAnyH_take (i := 11) (v := (.bool true)) rfl (by kernel_rfl) (by kernel_rfl) (by kernel_rfl) (fun _ _ _ h => h) (.inl ⟨rfl, fun _ hS => rfl⟩) s4 ?_
        simp only [List.getElem_toArray, List.getElem_cons_succ, List.getElem_cons_zero, Act.put, List.setIfInBounds_toArray, List.set_cons_succ, List.set_cons_zero]
        refine wpAnyH_done (by kernel_rfl) ?_ _
        have HP : Hid (Pr gx gy w x2 y3 (now + m) given _ w4) := M4.pr
        have HB : Hid (now + m ≤ 500 * (k + 1) ∧ given ≤ k + 1) := ⟨by omega, by omega⟩
        clear hTx hTy hSm a2 m2 a3 m3 M2 M3 M4 HM1 s1 s2 s3 s4 st2 st3 r2 r3 b4 hyl
        have P := HP.out
        have hLx := Len_at P.ax
        have hLy := Len_at P.ay
        have hNx := Now_any P.ax.wh
        have hNy := Now_any P.ay.wh
        rw [P.gx] at hLx hNx
        rw [P.gy] at hLy hNy
        have t1 : (((passF (now + m) (tkT sa now es)).length : Int) != ((passF (now + m) (tkT sa now es)).length : Int)) = false := by simp
        have t2 : (((now + m : Nat) : Int) != ((now + m : Nat) : Int)) = false := by simp
        generalize hle : (passF (now + m) (tkT sa now es)).length = le at *
        generalize hno : (now + m) = no at *
        clear P hle
        go_wp2_with fail
        refine hLx.mono ?_
        rintro e z1 ⟨rfl, rfl⟩
        go_wp2_with fail
        refine hLy.mono ?_
        rintro e z2 ⟨rfl, rfl⟩
        go_wp2_with fail
        refine hNx.mono ?_
        rintro e z3 ⟨rfl, rfl⟩
        go_wp2_with fail
        refine hNy.mono ?_
        rintro e z4 ⟨rfl, rfl⟩
        clear hLx hLy hNx hNy
        go_wp2
        go_roundw
        case rel => exact ⟨k + 1, _, _, _, _, _, by omega, by go_num, HB.out.1, HB.out.2, HP.out⟩
        case measure => simp [intOf]; omega
      have M0 : Mid gx gy wr.heap.size #[.int .i64 kind, .int .i64 timer, .int .i64 what, .int .u64 A, .int .u64 B] w x y now given es now given es (wr.alloc (.cells #[.int .i64 kind, .int .i64 timer, .int .i64 what, .int .u64 A, .int .u64 B] 34)) := HP0.out.mid _
      have HP : Hid (Pr gx gy w x y now given es (wr.alloc (.cells #[.int .i64 kind, .int .i64 timer, .int .i64 what, .int .u64 A, .int .u64 B] 34))) := M0.pr
      have HB : Hid (now ≤ 500 * (k + 1) ∧ given ≤ k + 1) := ⟨by omega, by omega⟩
      have u0 : (kind == 0) = false := by rw [beq_eq_false_iff_ne]; exact k0
      have u1 : (kind == 1) = false := by rw [beq_eq_false_iff_ne]; exact k1
      have u2 : (kind == 2) = false := by rw [beq_eq_false_iff_ne]; exact k2
      have u4 : (kind == 4) = false := by rw [beq_eq_false_iff_ne]; exact k4
      clear M0 HP0
      have P := HP.out
      have hLx := Len_at P.ax
      have hLy := Len_at P.ay
      have hNx := Now_any P.ax.wh
      have hNy := Now_any P.ay.wh
      rw [P.gx] at hLx hNx
      rw [P.gy] at hLy hNy
      have t1 : (((es).length : Int) != ((es).length : Int)) = false := by simp
      have t2 : (((now : Nat) : Int) != ((now : Nat) : Int)) = false := by simp
      generalize hle : (es).length = le at *
      generalize hno : (now) = no at *
      clear P hle
      go_wp2_with (refine ak_ld hR rfl _ rfl rfl ?_)
      refine hLx.mono ?_
      rintro e z1 ⟨rfl, rfl⟩
      go_wp2_with fail
      refine hLy.mono ?_
      rintro e z2 ⟨rfl, rfl⟩
      go_wp2_with fail
      refine hNx.mono ?_
      rintro e z3 ⟨rfl, rfl⟩
      go_wp2_with fail
      refine hNy.mono ?_
      rintro e z4 ⟨rfl, rfl⟩
      clear hLx hLy hNx hNy
      go_wp2
      go_roundw
      case rel => exact ⟨k + 1, _, _, _, _, _, by omega, by go_num, HB.out.1, HB.out.2, HP.out⟩
      case measure => simp [intOf]; omega
    · clear HP0
      have HB : Hid (Below w.heap.size w wr) := hP.bel
      clear hP
      have hLi := lives6_any wr
      go_wp2_with fail
      refine hLi.mono ?_
      rintro e w5 ⟨rfl, d5⟩
      have HB5 : Hid (Below w.heap.size w w5) := HB.out.trans (d5.mono HB.out.size)
      clear hLi d5
      go_wp2
      go_ret
      exact ⟨rfl, HB5.out⟩
end Go.Proofs.Ytjkkclojidhgdaa
