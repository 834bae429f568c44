/- Short names for what a walk of a drawn region writes at each step. -/
import Derived.OrdersHeld
namespace Go.Proofs.YtahfnknbmikmkaaGreat
open Go
set_option linter.unusedVariables false
set_option maxRecDepth 1000000
theorem zzA : type_of% @List.getElem_toArray := @List.getElem_toArray
theorem zzB : type_of% @List.getElem_cons_succ := @List.getElem_cons_succ
theorem zzC : type_of% @List.getElem_cons_zero := @List.getElem_cons_zero
theorem zzD : type_of% @List.setIfInBounds_toArray := @List.setIfInBounds_toArray
theorem zzE : type_of% @List.set_cons_succ := @List.set_cons_succ
theorem zzF : type_of% @List.set_cons_zero := @List.set_cons_zero
theorem tk {P : Program} {md : Region.Mode} {ops : Array Oper} {Q : Exit → Act → World → Prop} {S : World → Prop} (i : Nat) (v : Value) {oi : Oper} {fuel : Nat} {listed : Array Bool} {a : Act} {w : World} (hi : ops[i]? = some oi)
    (hb : (Region.noSelect ops && Region.free md ops listed i && (Region.ready md ops listed).contains i) = true)
    (hQ : ∀ c a w, Q (.panic c) (a.put oi.dst v) w → Q (.panic c) a w) (hw : Region.wanted oi (yielded ops a.tmps) = true) (hx : ∀ w, S w → (execOp a.eval oi).run P w = .ok (.value v) w) (hS : S w)
    (h : wpAnyH P md ops Q S fuel (listed.setIfInBounds i true) (a.put oi.dst v) w) : wpAnyH P md ops Q S (fuel + 1) listed a w := by
  simp only [Bool.and_eq_true] at hb
  exact wpAnyH_take hi hb.1.1 hb.1.2 hb.2 hQ (.inl ⟨hw, hx⟩) hS h
end Go.Proofs.YtahfnknbmikmkaaGreat
