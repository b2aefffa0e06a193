/- Contracts of the document's own answers for runes: Is, Encode, own, hex, Text. -/
import Derived.Test.YthfkodimafmmgaaDoorRuA
import Derived.Below
namespace Go.Proofs.YthfkodimafmmgaaDoor
open Go Go.RowKit Ru

/-- 'string' of a row of bytes that was laid just now. -/
theorem conv_row (w : World) (xs : List Int) (c : Array Value) (n : Nat) (hc : c = (xs.map (Value.int .u8)).toArray) (hn : xs.length = n) :
    (convert 42 9 (.slice (some ⟨w.heap.size, 0, none⟩) n n)).run Tryd.prog (w.alloc (.cells c 5)) = .ok (.string (strOfNums xs)) (w.alloc (.cells c 5)) := by
  refine run_convert_bytes_arg _ 42 5 Tryd.underlying42 Tryd.underlying5 w.heap.size 0 n n xs hn ?_ 9 Tryd.underlying9
  intro i hi
  rw [Nat.zero_add, World.cell?_alloc_new, hc]
  simp [List.getD, List.getElem?_eq_getElem (show i < xs.length by omega)]

end Go.Proofs.YthfkodimafmmgaaDoor
