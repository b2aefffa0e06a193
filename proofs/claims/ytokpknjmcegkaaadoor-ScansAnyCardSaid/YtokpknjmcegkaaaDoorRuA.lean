/- Contracts of runes.Encode and of the document's Is, Encode, own. -/
import Derived.Test.YtokpknjmcegkaaaDoorProg
import Derived.WalkKit
import Derived.WalkSpells
import Derived.WalkLawsBesides
import Derived.Lib.Hide
import Derived.Test.YtokpknjmcegkaaaDoorRuM
namespace Go.Proofs.YtokpknjmcegkaaaDoor
open Go Go.RowKit Ru
set_option maxRecDepth 100000

set_option maxHeartbeats 400000 in
theorem validRune_yes (r : Int) (w : World) (h : Go.validRune r = true) :
    Calls Tryd.prog 44 #[.int .i32 r] w fun e w' => e = .returned (.bool true) ∧ w = w' := by
  rcases (valid_iff r).1 h with ⟨h0, h1⟩ | ⟨h0, h1⟩
  · clear h
    go_enter Tryd.func44, Tryd.ntmps44
    go_wp2
    go_ret
    exact ⟨rfl, rfl⟩
  · clear h
    have h2 : ¬ r < 55296 := by omega
    go_enter Tryd.func44, Tryd.ntmps44
    go_wp2
    go_ret
    exact ⟨rfl, rfl⟩
set_option maxHeartbeats 400000 in
theorem validRune_no (r : Int) (w : World) (h : Go.validRune r = false) :
    Calls Tryd.prog 44 #[.int .i32 r] w fun e w' => e = .returned (.bool false) ∧ w = w' := by
  rcases (valid_not r).1 h with h0 | ⟨h0, h1⟩ | h0
  all_goals
    clear h
    go_enter Tryd.func44, Tryd.ntmps44
    go_wp2
    go_ret
    exact ⟨rfl, rfl⟩

end Go.Proofs.YtokpknjmcegkaaaDoor
