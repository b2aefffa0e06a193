/- Contracts of runes.Encode and of the document's Is, Encode, own. -/
import Derived.Test.YthfkodimafmmgaaGreatDoorProg
import Derived.WalkKit
import Derived.WalkSpells
import Derived.WalkLawsBesides
import Derived.Lib.Hide
import Derived.Test.YthfkodimafmmgaaGreatDoorRuM
namespace Go.Proofs.YthfkodimafmmgaaGreatDoor
open Go Go.RowKit Ru
set_option maxRecDepth 100000

set_option maxHeartbeats 400000 in
theorem validRune_yes (r : Int) (w : World) (h : Go.validRune r = true) :
    Calls Tryz.prog 80 #[.int .i32 r] w fun e w' => e = .returned (.bool true) ∧ w = w' := by
  rcases (valid_iff r).1 h with ⟨h0, h1⟩ | ⟨h0, h1⟩
  · clear h
    go_enter Tryz.func80, Tryz.ntmps80
    go_wp2
    go_ret
    exact ⟨rfl, rfl⟩
  · clear h
    have h2 : ¬ r < 55296 := by omega
    go_enter Tryz.func80, Tryz.ntmps80
    go_wp2
    go_ret
    exact ⟨rfl, rfl⟩
set_option maxHeartbeats 400000 in
theorem validRune_no (r : Int) (w : World) (h : Go.validRune r = false) :
    Calls Tryz.prog 80 #[.int .i32 r] w fun e w' => e = .returned (.bool false) ∧ w = w' := by
  rcases (valid_not r).1 h with h0 | ⟨h0, h1⟩ | h0
  all_goals
    clear h
    go_enter Tryz.func80, Tryz.ntmps80
    go_wp2
    go_ret
    exact ⟨rfl, rfl⟩

set_option maxHeartbeats 400000 in
theorem Encode_yes (r : Int) (w : World) (h : Go.validRune r = true) :
    Calls Tryz.prog 77 #[.int .i32 r] w fun e w' => e = .returned (.string (encB r)) ∧ w = w' := by
  have H := Lib.hid h
  have he := Lib.hid (encB_yes h)
  clear h
  go_enter Tryz.func77, Tryz.ntmps77
  go_wp2_with (go_at_call 80; refine (validRune_yes _ _ H.out).mono ?_; rintro e w' ⟨rfl, rfl⟩)
  go_ret
  exact ⟨by rw [he.out]; rfl, rfl⟩
set_option maxHeartbeats 400000 in
theorem Encode_no (r : Int) (w : World) (h : Go.validRune r = false) :
    Calls Tryz.prog 77 #[.int .i32 r] w fun e w' => e = .returned (.string (encB r)) ∧ w = w' := by
  have H := Lib.hid h
  have he := Lib.hid (encB_no h)
  clear h
  go_enter Tryz.func77, Tryz.ntmps77
  go_wp2_with (go_at_call 80; refine (validRune_no _ _ H.out).mono ?_; rintro e w' ⟨rfl, rfl⟩)
  go_ret
  exact ⟨by rw [he.out]; rfl, rfl⟩
theorem Encode_any (r : Int) (w : World) :
    Calls Tryz.prog 77 #[.int .i32 r] w fun e w' => e = .returned (.string (encB r)) ∧ w = w' := by
  cases h : Go.validRune r
  · exact Encode_no r w h
  · exact Encode_yes r w h
end Go.Proofs.YthfkodimafmmgaaGreatDoor
