/- What is read at the type of a list of ranges and lies nowhere has no room. -/
import Derived.Test.YtianappapfpbeaaRnO
namespace Go.Proofs.Ytianappapfpbeaa
open Go Go.RowKit Rn

theorem open_rgs_nil {H : Type} {enc : TypeId × Value → H} {W : World} {fuel : Nat} {v : Value} {d : DataW H} {p : List MemPlace} (h : DataW.trod enc Try.prog W 0 (fun _ => true) true fuel 22 [v] = some (d, p)) : ∀ n c, v = .slice none n c → c = 0 := by
  rcases DataW.trod_slice Try.underlying22 h with ⟨hv, _⟩ | ⟨a, len, cap, elems, rest, n, _, hv, hx, _, hlc, _, hel, hcell, hrest, _⟩
  · simp only [List.cons.injEq, and_true] at hv
    subst hv
    intro n c hh
    injection hh with _ _ h3
    exact h3.symm
  · simp only [List.cons.injEq, and_true] at hv
    subst hv
    intro n c hh
    injection hh with h1
    cases h1
end Go.Proofs.Ytianappapfpbeaa
