/- The names' places as they are laid; flags that are made. -/
import Derived.Test.YtmcpemohemeecaaDoorNuI
import Derived.Carry
import Derived.Deep.OwnRows
namespace Go.Proofs.YtmcpemohemeecaaDoor
open Go Go.RowKit Nu Go.Maps
set_option maxRecDepth 100000

theorem infoBool : (Tryd.prog.info? 4).map (fun i => (i.zero, i.size, i.bytes)) = some (some (.bool false), 1, 1) := by kernel_rfl
namespace Nu
def foldD (ps : List (Nat × Rl)) : DataW Unit := ps.foldl (fun D p => D.put (.string p.2.name.data.toList) (.lit (.int .i64 (p.1 : Int)))) (.map [])
theorem foldD_snoc (ps : List (Nat × Rl)) (p : Nat × Rl) : foldD (ps ++ [p]) = (foldD ps).put (.string p.2.name.data.toList) (.lit (.int .i64 (p.1 : Int))) := by
  unfold foldD
  rw [List.foldl_append]
  rfl
theorem foldD_en : ∀ (l : List Rl) (k : Nat), foldD (en k l).reverse = mapF k l
  | [], _ => rfl
  | r :: l, k => by
    simp only [en, List.reverse_cons, mapF]
    rw [foldD_snoc, foldD_en l (k + 1)]
theorem en_len : ∀ (l : List Rl) (k : Nat), (en k l).length = l.length
  | [], _ => rfl
  | _ :: l, k => by simp only [en, List.length_cons, en_len l (k + 1)]
end Nu
theorem made_bools (n : Nat) : madeCells #[.bool false] n = bools (List.replicate n false) := by
  unfold bools
  rw [List.map_replicate]
  apply Array.ext
  · simp [madeCells]
  · intro i h1 h2
    simp [madeCells, Nat.mod_one]
end Go.Proofs.YtmcpemohemeecaaDoor
