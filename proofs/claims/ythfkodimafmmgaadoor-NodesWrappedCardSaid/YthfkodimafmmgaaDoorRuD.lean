/- The document's own Text: a rune's text, whatever the number. -/
import Derived.Test.YthfkodimafmmgaaDoorRuC
namespace Go.Proofs.YthfkodimafmmgaaDoor
open Go Go.RowKit Ru

theorem add_small (a b : ByteArray) (ha : a.size ≤ 1000) (hb : b.size ≤ 1000) : ∀ wx, (Op.stringOp .add a b).run Tryd.prog wx = .ok (.string (a ++ b)) wx :=
  fun wx => run_string_add_sum wx _ _ (by omega)
theorem encB_size (r : Int) : (encB r).size ≤ 4 := by
  cases h : Go.validRune r
  · rw [encB_no h]; decide
  · have hv := (valid_iff r).1 h
    by_cases a : r < 128; · rw [enc_1 (by omega) a]; exact Nat.le_of_ble_eq_true rfl
    by_cases b : r < 2048; · rw [enc_2 (by omega) b]; exact Nat.le_of_ble_eq_true rfl
    by_cases c : r < 65536; · rw [enc_3 h (by omega) c]; exact Nat.le_of_ble_eq_true rfl
    rw [enc_4 (by omega) (by omega)]; exact Nat.le_of_ble_eq_true rfl
theorem encB_ascii {r : Int} (h0 : 0 ≤ r) (h1 : r < 128) : encB r = ⟨#[UInt8.ofNat r.toNat]⟩ := by
  rw [encB_yes ((valid_iff r).2 (by omega)), encode_1 h0 h1]
end Go.Proofs.YthfkodimafmmgaaDoor
