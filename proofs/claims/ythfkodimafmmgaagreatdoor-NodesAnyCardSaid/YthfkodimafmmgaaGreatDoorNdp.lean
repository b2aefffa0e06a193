/- What the listed variables give: the tables as the walks need them. -/
import Derived.Test.YthfkodimafmmgaaGreatDoorNdH
import Derived.Test.YthfkodimafmmgaaGreatDoorRows
import Derived.PinnedBridge
import Derived.Lib.LaidU8
import Derived.Lib.LaidTab
import Derived.LaidMore
import Derived.Stop.Joined
namespace Go.Proofs.YthfkodimafmmgaaGreatDoor
open Go Go.RowKit Ru Go.Shelf

abbrev laidL : List (String × DataW Unit) := [("math/bits.deBruijn32tab", Rows.laid_math_bits_deBruijn32tab), ("math/bits.deBruijn64tab", Rows.laid_math_bits_deBruijn64tab), ("internal/strconv.uint64pow10", Rows.laid_internal_strconv_uint64pow10), ("unicode/utf8.acceptRanges", Rows.laid_unicode_utf8_acceptRanges), ("unicode/utf8.first", Rows.laid_unicode_utf8_first)]

theorem u8extra : U8Extra Tryz.prog Tryz.lays197_ren := ⟨by kernel_rfl, by kernel_rfl, by kernel_rfl, by kernel_rfl, by kernel_rfl, by kernel_rfl, by kernel_rfl⟩
theorem var_size {P : Program} {w : World} {n : String} {g : Nat} {cs : Array Value} (hg : P.globalNamed n = some g) (h : w.var? P n = some cs) : g < w.heap.size := by
  unfold World.var? at h
  simp only [hg, Option.bind_some] at h
  rcases Nat.lt_or_ge g w.heap.size with h' | h'
  · exact h'
  · simp [Array.getElem?_eq_none h'] at h
theorem gFirst : Tryz.prog.globalNamed "unicode/utf8.first" = some 1 := by kernel_rfl
theorem gAccept : Tryz.prog.globalNamed "unicode/utf8.acceptRanges" = some 2 := by kernel_rfl
theorem gBruijn : Tryz.prog.globalNamed "math/bits.deBruijn64tab" = some 5 := by kernel_rfl
theorem yBruijn : (Tryz.prog.globals[5]?).map (·.type) = some 121 := by kernel_rfl
def bruijnTab : List Int := [0, 1, 56, 2, 57, 49, 28, 3, 61, 58, 42, 50, 38, 29, 17, 4, 62, 47, 59, 36, 45, 43, 51, 22, 53, 39, 33, 30, 24, 18, 12, 5, 63, 55, 48, 27, 60, 41, 37, 16, 46, 35, 44, 21, 52, 32, 23, 11, 54, 26, 40, 15, 34, 20, 31, 10, 25, 14, 19, 9, 13, 8, 7, 6]
theorem bruijn_eq : (Rows.laid_math_bits_deBruijn64tab : DataW Unit) = Lib.tabData .u8 bruijnTab := by rfl
theorem accept_eq : (Rows.laid_unicode_utf8_acceptRanges : DataW Unit) = Lib.acceptData := by kernel_rfl
theorem first_eq : Rows.laid_unicode_utf8_first = Lib.firstData := Pinned.utf8First_eq

theorem env_of_laid {W : World} (hL : laidMetH Tryz.prog laidL W) : Env W := by
  rw [MakeChecks.laidMetH_plain _ _ _ (by kernel_rfl)] at hL
  have rF := Lib.laidMet.reads hL (n := "unicode/utf8.first") (d := Rows.laid_unicode_utf8_first) (by simp [laidL])
  have rA := Lib.laidMet.reads hL (n := "unicode/utf8.acceptRanges") (d := Rows.laid_unicode_utf8_acceptRanges) (by simp [laidL])
  have rB := Lib.laidMet.reads hL (n := "math/bits.deBruijn64tab") (d := Rows.laid_math_bits_deBruijn64tab) (by simp [laidL])
  rw [first_eq] at rF
  rw [accept_eq] at rA
  rw [bruijn_eq] at rB
  have hT := utf8Tabs_of_reads { Tryz.lays197 with } u8extra rF rA
  obtain ⟨g1, t1, c1, f1, p1, hg1, _, hv1, _⟩ := rF
  obtain rfl := Option.some.inj (gFirst.symm.trans hg1)
  obtain ⟨g2, t2, c2, f2, p2, hg2, _, hv2, _⟩ := rA
  obtain rfl := Option.some.inj (gAccept.symm.trans hg2)
  obtain ⟨g3, t3, c3, f3, p3, hg3, ht3, hv3, hd3⟩ := rB
  obtain rfl := Option.some.inj (gBruijn.symm.trans hg3)
  obtain rfl := Option.some.inj (yBruijn.symm.trans ht3)
  refine ⟨hT, ?_, var_size hg1 hv1, var_size hg2 hv2, var_size hg3 hv3⟩
  have hcs := Lib.cells_of_tab Tryz.underlying121 Tryz.underlying5 (by kernel_rfl) (by kernel_rfl) hd3
  have := World.var?_cell hg3 hv3 15
  rw [this, ← Array.getElem?_toList, hcs]
  rfl
end Go.Proofs.YthfkodimafmmgaaGreatDoor
