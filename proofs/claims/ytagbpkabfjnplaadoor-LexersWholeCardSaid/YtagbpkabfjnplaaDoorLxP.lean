/- What the listed variables give: the tables as the walks need them. -/
import Derived.Test.YtagbpkabfjnplaaDoorLxG
import Derived.Test.YtagbpkabfjnplaaDoorRows
import Derived.PinnedBridge
import Derived.Lib.LaidU8
import Derived.Lib.LaidTab
import Derived.LaidMore
import Derived.Stop.Joined
namespace Go.Proofs.YtagbpkabfjnplaaDoor
open Go Go.RowKit Ru Go.Shelf

abbrev laidL : List (String × DataW Unit) := [("unicode/utf8.acceptRanges", Rows.laid_unicode_utf8_acceptRanges), ("unicode/utf8.first", Rows.laid_unicode_utf8_first)]

theorem u8extra : U8Extra Tryd.prog Tryd.lays197_ren := ⟨by kernel_rfl, by kernel_rfl, by kernel_rfl, by kernel_rfl, by kernel_rfl, by kernel_rfl, by kernel_rfl⟩
theorem var_size {P : Program} {w : World} {n : String} {g : Nat} {cs : Array Value} (hg : P.globalNamed n = some g) (h : w.var? P n = some cs) : g < w.heap.size := by
  unfold World.var? at h
  simp only [hg, Option.bind_some] at h
  rcases Nat.lt_or_ge g w.heap.size with h' | h'
  · exact h'
  · simp [Array.getElem?_eq_none h'] at h
theorem gFirst : Tryd.prog.globalNamed "unicode/utf8.first" = some 0 := by kernel_rfl
theorem gAccept : Tryd.prog.globalNamed "unicode/utf8.acceptRanges" = some 1 := by kernel_rfl
theorem accept_eq : (Rows.laid_unicode_utf8_acceptRanges : DataW Unit) = Lib.acceptData := by kernel_rfl
theorem first_eq : Rows.laid_unicode_utf8_first = Lib.firstData := Pinned.utf8First_eq

theorem env_of_laid {W : World} (hL : laidMetH Tryd.prog laidL W) : EnvL W := by
  rw [MakeChecks.laidMetH_plain _ _ _ (by kernel_rfl)] at hL
  have rF := Lib.laidMet.reads hL (n := "unicode/utf8.first") (d := Rows.laid_unicode_utf8_first) (by simp [laidL])
  have rA := Lib.laidMet.reads hL (n := "unicode/utf8.acceptRanges") (d := Rows.laid_unicode_utf8_acceptRanges) (by simp [laidL])
  rw [first_eq] at rF
  rw [accept_eq] at rA
  have hT := utf8Tabs_of_reads { Tryd.lays197 with } u8extra rF rA
  obtain ⟨g1, t1, c1, f1, p1, hg1, _, hv1, _⟩ := rF
  obtain rfl := Option.some.inj (gFirst.symm.trans hg1)
  obtain ⟨g2, t2, c2, f2, p2, hg2, _, hv2, _⟩ := rA
  obtain rfl := Option.some.inj (gAccept.symm.trans hg2)
  exact ⟨hT, var_size hg1 hv1, var_size hg2 hv2⟩
end Go.Proofs.YtagbpkabfjnplaaDoor
