/- NodesWrapped is true of every node, whether or not it asks all of it. -/
import Derived.Test.YthfkodimafmmgaaDoorNd1
import Derived.Test.YthfkodimafmmgaaDoorNd2
namespace Go.Proofs.YthfkodimafmmgaaDoor
open Go Go.RowKit Ru

theorem wrapped_all (n : Nd.T) (v : Value) (tok : Bool) (w : World) (hE : Env w) (hA : Nd.At w n v) :
    Calls Tryd.prog 3 #[v, .bool tok] w fun e w' => e = .returned (.bool true) ∧ Below w.heap.size w w' := by
  by_cases h : Nd.wt 0 n ≤ 3000 ∧ Nd.plainB n tok = true ∧ Nd.deep n ≤ 60 ∧ Nd.count n ≤ 2000
  · exact wrapped_good n v tok w hE hA h.1 h.2.1 h.2.2.1 h.2.2.2
  · exact wrapped_lives n v tok w hE hA h
end Go.Proofs.YthfkodimafmmgaaDoor
