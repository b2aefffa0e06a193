/- RangesSplit of harbingerlaw07 returns true for every three lists of ranges (however long) and every number, and leaves all memory that was there as it was. No further condition. -/
import Derived.Test.YtianappapfpbeaaR2e
import Derived.Test.YtianappapfpbeaaR2f
import Derived.Test.YtianappapfpbeaaChecked
import Derived.Test.YtianappapfpbeaaRows
import Derived.ProofKit
import Derived.OpenShut
import Derived.SizedLaws
import Derived.ChangeSlices
import Derived.ChangeArms
import Derived.Carry
import Derived.JoinedOf
namespace Go.Proofs.Ytianappapfpbeaa
open Go Go.RowKit Go.ChangeShapes Go.WideShapes Go.ChangeAt Go.WideMaps Go.WideElems
open Go.ChangeMaps (setBlock shut_map_nil open_string shut_string keptBut_setBlock frozen?_setBlock heap_setBlock_same)

set_option maxRecDepth 100000 in
theorem RangesSplit_laid : laidOutB Try.prog = true := by kernel_rfl
theorem RangesSplit_own : ownKnob Try.prog.godebug = none := by kernel_rfl
set_option maxRecDepth 100000 in
theorem RangesSplit_lifted (os : Os) (started : os.Started) (H : Type) (enc : TypeId × Value → H) :
    ReturnsInHanded {} Try.checked os 4 .any (Rows.rangesSplitSpec.pre6 enc Try.prog Try.f4 [] false)
      (Rows.rangesSplitSpec.post enc Try.prog Try.f4 false true false false) := by
  refine returnsInHanded_of_change_sized (C := Try.checked) RangesSplit_own started (by kernel_rfl) Try.func4
    (ChangeSpec.witness6 (enc := enc) (C := Try.checked) false ⟨#[], #[.agg #[.slice none 0 0, .slice none 0 0, .slice none 0 0], .int .i32 0], []⟩ 8 (by kernel_rfl) (by kernel_rfl) (by kernel_rfl) (by kernel_rfl)) ?_
  intro W base args ds gs before hval0 hW _ hsz0 _
  have hsz : (DataW.weightsEach Try.prog (Try.f4.params.toList ++ Rows.rangesSplitSpec.plain.varTypes Try.prog) (ds ++ gs)).all (· ≤ reachBytes) = true := hsz0
  clear hsz0
  have hval : ∀ (j : Nat) t v, Try.f4.params[j]? = some t → args[j]? = some v → Value.okWide Try.prog W .any base t v := hval0
  have hW' := hW
  obtain ⟨p, q, hA0, hV, rfl, _, _⟩ := hW
  have hA : DataW.TrodAll enc Try.prog W 0 (fun _ => true) true Try.f4.params.toList args.toList ds p := hA0
  rw [Try.params4] at hA hval hsz
  obtain ⟨v0, v1, d0, d1, p0, p1, rfl, rfl, rfl, h0, h1⟩ := trodAll_two hA
  obtain ⟨rfl, rfl⟩ := trodVars_none hV
  clear hA0 hval0
  try simp only [List.append_nil] at hW'
  have hw0 : ∀ x ∈ d0.weights Try.prog 34, x ≤ reachBytes := fun x hx => by
    have := List.all_eq_true.1 hsz x (by simp [DataW.weightsEach]; first | exact hx | exact Or.inl hx | exact Or.inr (Or.inl hx) | exact Or.inr hx | exact Or.inr (Or.inr (Or.inl hx)) | exact Or.inr (Or.inr hx))
    simpa using this
  obtain ⟨x1, rfl, rfl, rfl, wx1⟩ := open_int Try.underlying21 (hval 1 21 v1 rfl rfl) h1
  try simp only [List.append_nil, List.nil_append, List.append_assoc] at hW'
  have hlt0 : ∀ x ∈ p0, x.block < W.heap.size := fun x hx => by simpa using hW'.lt x (by simp [hx])
  have fin : Calls Try.prog 4 #[v0, .int .i32 x1] W (fun e w' => e = .returned (.bool true) ∧ Below W.heap.size W w') →
      Calls Try.checked.prog 4 #[v0, .int .i32 x1] W fun e W' => ∃ v, e = Ending.returned v ∧ Rows.rangesSplitSpec.post enc Try.checked.prog Try.f4 false true false false W #[v0, .int .i32 x1] v W' := by
    intro hc
    refine hc.mono fun e W' ⟨he, hb⟩ => ?_
    subst he
    exact ⟨_, rfl, _, _, _, [], p0, [], hW', trodAll_mk1 (shut_bool Try.underlying4 _), by
      have := trodAll_mk2 (Below.trod RangesSplit_laid (by kernel_rfl) (of_decide_eq_true (by kernel_rfl)) h0 hb hlt0) (shut_int (H := H) (enc := enc) (P := Try.prog) (w := W') Try.underlying21 wx1)
      try simp only [List.append_nil, List.nil_append, List.append_assoc] at this
      exact this, rfl, hb.frame _, fun h => by cases h⟩
  refine fin ?_
  obtain ⟨fuel0, hf0⟩ := h0
  obtain ⟨⟨cs⟩, hcs, hszc, _⟩ : ∃ cs, v0 = .agg cs ∧ cs.size = Try.prog.cellsOf 34 ∧ Row.okWide Try.prog W .any base 34 cs := by
    have := hval 0 34 v0 rfl rfl
    simpa [Value.okWide, Try.underlying34] using this
  rw [cells_rg3] at hszc
  obtain ⟨c0, c1, c2, hl3⟩ := three_ofRn (l := cs) hszc
  subst hl3
  subst hcs
  obtain ⟨a, b, c, ⟨ha, hb, hc⟩, ⟨hIa, hIb, hIc⟩, hz⟩ := open_three hf0 hw0
  exact RangesSplit_any a b c c0 c1 c2 x1 W ha hb hc hIa hIb hIc hz

theorem RangesSplit_holds : Rows.RangesSplitSaid :=
  OpenClaim.holds_of_wide 4 Try.f4 rfl rfl rfl rfl rfl rfl rfl ⟨rfl, rfl, rfl, rfl, rfl⟩ rfl rfl rfl rfl rfl (by kernel_rfl) Try.func4 (by kernel_rfl)
    (of_decide_eq_true (by kernel_rfl)) (by unfold Func.isWrapper; first | (rw [if_pos (by decide +kernel)]; kernel_rfl) | (rw [if_neg (by decide +kernel)]; exact ⟨rfl, rfl⟩))
    (fun os started H enc _ => RangesSplit_lifted os started H enc)
#print axioms RangesSplit_holds
end Go.Proofs.Ytianappapfpbeaa
