/- Short words for what generated walks say again and again. -/
import Derived.RangeFuncNested
import Derived.OrdersHeld
import Derived.RegionTactic
namespace Go.Proofs.YtiinkhmgemoamaaDoor
open Go

theorem zqN : ((∀ (a : Act) (t : Tmp) (v : Value), a.put (some t) v = { a with tmps := a.tmps.setIfInBounds t v }) ∧ (∀ (a : Act) (v : Value), a.put none v = a)) ∧
    (∀ (l : List Value) (i : Nat) (x : Value), l.toArray.setIfInBounds i x = (l.set i x).toArray) ∧ (∀ (x y : Value) (l : List Value), (x :: l).set 0 y = y :: l) ∧ ∀ (x y : Value) (l : List Value) (n : Nat), (x :: l).set (n + 1) y = x :: l.set n y :=
  ⟨⟨fun _ _ _ => rfl, fun _ _ => rfl⟩, fun _ _ _ => by simp, fun _ _ _ => rfl, fun _ _ _ _ => rfl⟩
def zqF (n k : Nat) : Array Bool := (List.replicate k true ++ List.replicate (n - k) false).toArray
end Go.Proofs.YtiinkhmgemoamaaDoor
