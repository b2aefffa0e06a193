/- What is read at an array of three lists of ranges. -/
import Derived.Test.YtianappapfpbeaaR2d
namespace Go.Proofs.Ytianappapfpbeaa
open Go Go.RowKit Rn

theorem cells_rg3 : Try.prog.cellsOf 34 = 3 := by kernel_rfl
theorem three_ofRn {α : Type} {l : List α} (h : l.length = 3) : ∃ a b c, l = [a, b, c] := by
  match l, h with
  | [a, b, c], _ => exact ⟨a, b, c, rfl⟩
theorem open_three {H : Type} {enc : TypeId × Value → H} {W : World} {fuel : Nat} {c0 c1 c2 : Value} {d : DataW H} {p : List MemPlace} (h : DataW.trod enc Try.prog W 0 (fun _ => true) true fuel 34 [c0, c1, c2] = some (d, p)) (hw : ∀ x ∈ d.weights Try.prog 34, x ≤ reachBytes) :
    ∃ a b c : List (Int × Int), (RL W c0 a ∧ RL W c1 b ∧ RL W c2 c) ∧ (I32 a ∧ I32 b ∧ I32 c) ∧ ∀ n k, c0 = .slice none n k → k = 0 := by
  obtain ⟨xs, m, _, hx, _, hl, hel⟩ := DataW.trod_array Try.underlying34 h
  obtain ⟨⟨da, pa⟩, ⟨db, pb⟩, ⟨dc, pc⟩, rfl⟩ := three_ofRn hl
  simp only [Prod.mk.injEq] at hx
  obtain ⟨rfl, _⟩ := hx
  have g0 := hel 0 (by omega)
  have g1 := hel 1 (by omega)
  have g2 := hel 2 (by omega)
  simp [cells_rgs] at g0 g1 g2
  obtain ⟨a, ha, hIa, _⟩ := open_rgs g0 (fun x hx => hw x (by simp [DataW.weights, DataW.weightsAll, Try.underlying34, hx]))
  obtain ⟨b, hb, hIb, _⟩ := open_rgs g1 (fun x hx => hw x (by simp [DataW.weights, DataW.weightsAll, Try.underlying34, hx]))
  obtain ⟨c, hc, hIc, _⟩ := open_rgs g2 (fun x hx => hw x (by simp [DataW.weights, DataW.weightsAll, Try.underlying34, hx]))
  exact ⟨a, b, c, ⟨ha, hb, hc⟩, ⟨hIa, hIb, hIc⟩, open_rgs_nil g0⟩
end Go.Proofs.Ytianappapfpbeaa
