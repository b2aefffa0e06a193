/- LexersVoid: the walk. -/
import Derived.Test.YtagbpkabfjnplaaDoorLxM
namespace Go.Proofs.YtagbpkabfjnplaaDoor
open Go Go.RowKit Rn Lx
set_option maxRecDepth 100000

namespace Lx
/-- No lexer. -/
def Vd (w : World) (p : Value) : Prop := p = .pointer none ∨ ∃ g, p = .pointer (some ⟨g, 0, none⟩) ∧ w.cell? ⟨g, 2, none⟩ = some (.slice none 0 0)
theorem vd_made (p : Value) (w : World) (h : Vd w p) : Calls Tryd.prog 32 #[p] w fun e w' => e = .returned (.bool false) ∧ w' = w := by
  rcases h with rfl | ⟨g, rfl, hc⟩
  · exact made_nil w
  · exact made_none g w hc
theorem vd_form {w : World} {p : Value} (h : Vd w p) : ∃ a, p = .pointer a := by
  rcases h with rfl | ⟨g, rfl, _⟩
  · exact ⟨_, rfl⟩
  · exact ⟨_, rfl⟩
end Lx
theorem Longest_void (p : Value) (s : ByteArray) (k : Int) (w : World) (h : Vd w p) :
    Calls Tryd.prog 14 #[p, .string s, .int .i64 k] w fun e w' => e = .returned (.tuple #[.int .i64 (-1), .int .i64 0]) ∧ w' = w := by
  have HM := Lib.hid (vd_made p w h)
  obtain ⟨a, rfl⟩ := vd_form h
  clear h
  go_enter Tryd.func14, Tryd.ntmps14
  go_wp2_with fail
  refine HM.out.mono ?_
  rintro e w2 ⟨rfl, hw2⟩
  rw [hw2]
  clear hw2
  go_wp2_with fail
  go_ret2
  exact ⟨rfl, rfl⟩
theorem Tokens_void (p : Value) (s : ByteArray) (w : World) (h : Vd w p) :
    Calls Tryd.prog 16 #[p, .string s] w fun e w' => e = .returned (.tuple #[.slice none 0 0, .int .i64 0, .int .i64 2]) ∧ w' = w := by
  have HM := Lib.hid (vd_made p w h)
  obtain ⟨a, rfl⟩ := vd_form h
  clear h
  go_enter Tryd.func16, Tryd.ntmps16
  go_wp2_with fail
  go_step3
  go_wp2_with fail
  refine HM.out.mono ?_
  rintro e w2 ⟨rfl, hw2⟩
  rw [hw2]
  clear hw2
  go_wp2_with fail
  rw [Exit.noGoto_ret]
  go_ret3
  exact ⟨rfl, rfl⟩
set_option maxHeartbeats 4000000 in
theorem Void_any (s : ByteArray) (k : Int) (w : World) (hE : EnvL w) : Calls Tryd.prog 4 #[.string s, .int .i64 k] w fun e w' => e = .returned (.bool true) ∧ Below w.heap.size w w' := by
  obtain ⟨W, hW⟩ : ∃ W, (w.alloc (.cells #[.slice none 0 0, .slice none 0 0, .slice none 0 0, .slice none 0 0, .slice none 0 0] 53)).alloc (.cells #[.pointer none, .pointer (some ⟨w.heap.size, 0, none⟩)] 31) = W := ⟨_, rfl⟩
  have hB : Below w.heap.size w W := by rw [← hW]; exact ((Below.refl _ w).alloc (Nat.le_refl _) _).alloc (by simp) _
  have hk0 : Bk W w.heap.size 53 #[.slice none 0 0, .slice none 0 0, .slice none 0 0, .slice none 0 0, .slice none 0 0] := by rw [← hW]; exact (Bk.made w _ _).alloc _
  have hk1 : Bk W (w.heap.size + 1) 31 #[.pointer none, .pointer (some ⟨w.heap.size, 0, none⟩)] := by
    rw [← hW]
    have h := Bk.made (w.alloc (.cells #[.slice none 0 0, .slice none 0 0, .slice none 0 0, .slice none 0 0, .slice none 0 0] 53)) 31 #[.pointer none, .pointer (some ⟨w.heap.size, 0, none⟩)]
    rwa [World.size_alloc] at h
  have HL := Lib.hid (lives11_true W (hE.below hB))
  have HB := Lib.hid hB
  have V1 := Lib.hid (show Vd W (.pointer none) from .inl rfl)
  have V2 := Lib.hid (show Vd W (.pointer (some ⟨w.heap.size, 0, none⟩)) from .inr ⟨_, rfl, by rw [hk0.cell]; rfl⟩)
  have c0 : W.cell? ⟨w.heap.size + 1, 0, none⟩ = some (.pointer none) := by rw [hk1.cell]; rfl
  have c1 : W.cell? ⟨w.heap.size + 1, 1, none⟩ = some (.pointer (some ⟨w.heap.size, 0, none⟩)) := by rw [hk1.cell]; rfl
  have HW := Lib.hid hW
  clear hB hk0 hk1 hE hW
  go_enter Tryd.func4, Tryd.ntmps4
  go_wp2_with fail
  rw [HW.out]
  go_loopw [7] (fun i wr => ∃ j : Nat, j ≤ 2 ∧ i = .int .i64 j ∧ wr = W) (fun i _ => 2 - (intOf i).toNat)
  case atStart => exact ⟨0, by omega, rfl, rfl⟩
  case round =>
    obtain ⟨j, hj, rfl, hwr⟩ := hrel
    rw [hwr]
    clear hwr
    rcases (show j = 0 ∨ j = 1 ∨ j = 2 by omega) with rfl | rfl | rfl
    · go_wp2_with fail
      refine (Longest_void _ s k W V1.out).mono ?_
      rintro e w2 ⟨rfl, hw2⟩
      rw [hw2]
      clear hw2
      go_wp2_with fail
      refine (Tokens_void _ s W V1.out).mono ?_
      rintro e w3 ⟨rfl, hw3⟩
      rw [hw3]
      clear hw3
      go_wp2_with fail
      exact ⟨⟨1, by omega, by go_num, by first | trivial | rfl⟩, by simp [intOf]⟩
    · go_wp2_with fail
      refine (Longest_void _ s k W V2.out).mono ?_
      rintro e w2 ⟨rfl, hw2⟩
      rw [hw2]
      clear hw2
      go_wp2_with fail
      refine (Tokens_void _ s W V2.out).mono ?_
      rintro e w3 ⟨rfl, hw3⟩
      rw [hw3]
      clear hw3
      go_wp2_with fail
      exact ⟨⟨2, by omega, by go_num, by first | trivial | rfl⟩, by simp [intOf]⟩
    · go_wp2_with fail
      refine HL.out.mono ?_
      rintro e w2 ⟨rfl, b2⟩
      have B2 := Lib.hid (HB.out.trans (b2.mono HB.out.size))
      clear b2
      go_wp2_with fail
      go_ret
      exact ⟨rfl, B2.out⟩
end Go.Proofs.YtagbpkabfjnplaaDoor
