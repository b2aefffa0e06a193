/- Contracts of the document's own hex, own and Text. -/
import Derived.Test.YthfkodimafmmgaaDoorRuB
import Derived.Deep.QuietTactic
import Derived.BigQuiet
import Derived.IntWalk
import Derived.WalkSmall
namespace Go.Proofs.YthfkodimafmmgaaDoor
open Go Go.RowKit Ru

abbrev digs : ByteArray := ⟨#[48, 49, 50, 51, 52, 53, 54, 55, 56, 57, 97, 98, 99, 100, 101, 102]⟩
theorem digs_at (n : Nat) (h : n < 16) : digs.extract n (n + 1) = ⟨#[hexd n]⟩ := by
  have : ∀ k : Fin 16, digs.extract k.val (k.val + 1) = ⟨#[hexd k.val]⟩ := by decide
  exact this ⟨n, h⟩
theorem app_mk (a b : List UInt8) : (⟨a.toArray⟩ : ByteArray) ++ ⟨b.toArray⟩ = ⟨(a ++ b).toArray⟩ := by
  apply ByteArray.ext
  simp

theorem ret_str {a b : ByteArray} (h : a = b) : Ending.returned (.string a) = .returned (.string b) := by rw [h]

end Go.Proofs.YthfkodimafmmgaaDoor
