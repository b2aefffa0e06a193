/- RangesParts of harbingerlaw07 returns true for every two lists of ranges (however long) and every number, and leaves all memory that was there as it was. No further condition. -/
import Derived.Test.YtianappapfpbeaaRnT
import Derived.Test.YtianappapfpbeaaRnO
import Derived.Test.YtianappapfpbeaaChecked
import Derived.Test.YtianappapfpbeaaRows
import Derived.ProofKit
import Derived.OpenShut
import Derived.SizedLaws
import Derived.ChangeSlices
import Derived.ChangeArms
import Derived.Carry
import Derived.JoinedOf
namespace Go.Proofs.Ytianappapfpbeaa
open Go Go.RowKit Go.ChangeShapes Go.WideShapes Go.ChangeAt Go.WideMaps Go.WideElems
open Go.ChangeMaps (setBlock shut_map_nil open_string shut_string keptBut_setBlock frozen?_setBlock heap_setBlock_same)

set_option maxRecDepth 100000 in
theorem RangesParts_laid : laidOutB Try.prog = true := by kernel_rfl
theorem RangesParts_own : ownKnob Try.prog.godebug = none := by kernel_rfl
set_option maxRecDepth 100000 in
theorem RangesParts_lifted (os : Os) (started : os.Started) (H : Type) (enc : TypeId × Value → H) :
    ReturnsInHanded {} Try.checked os 6 .any (Rows.rangesPartsSpec.pre6 enc Try.prog Try.f6 [] false)
      (Rows.rangesPartsSpec.post enc Try.prog Try.f6 false true false false) := by
  refine returnsInHanded_of_change_sized (C := Try.checked) RangesParts_own started (by kernel_rfl) Try.func6
    (ChangeSpec.witness6 (enc := enc) (C := Try.checked) false ⟨#[], #[.slice none 0 0, .slice none 0 0, .int .i32 0], []⟩ 8 (by kernel_rfl) (by kernel_rfl) (by kernel_rfl) (by kernel_rfl)) ?_
  intro W base args ds gs before hval0 hW _ hsz0 _
  have hsz : (DataW.weightsEach Try.prog (Try.f6.params.toList ++ Rows.rangesPartsSpec.plain.varTypes Try.prog) (ds ++ gs)).all (· ≤ reachBytes) = true := hsz0
  clear hsz0
  have hval : ∀ (j : Nat) t v, Try.f6.params[j]? = some t → args[j]? = some v → Value.okWide Try.prog W .any base t v := hval0
  have hW' := hW
  obtain ⟨p, q, hA0, hV, rfl, _, _⟩ := hW
  have hA : DataW.TrodAll enc Try.prog W 0 (fun _ => true) true Try.f6.params.toList args.toList ds p := hA0
  rw [Try.params6] at hA hval hsz
  obtain ⟨v0, v1, v2, d0, d1, d2, p0, p1, p2, rfl, rfl, rfl, h0, h1, h2⟩ := trodAll_three hA
  obtain ⟨rfl, rfl⟩ := trodVars_none hV
  clear hA0 hval0
  try simp only [List.append_nil] at hW'
  have hw0 : ∀ x ∈ d0.weights Try.prog 22, x ≤ reachBytes := fun x hx => by
    have := List.all_eq_true.1 hsz x (by simp [DataW.weightsEach]; first | exact hx | exact Or.inl hx | exact Or.inr (Or.inl hx) | exact Or.inr hx | exact Or.inr (Or.inr (Or.inl hx)) | exact Or.inr (Or.inr hx))
    simpa using this
  have hw1 : ∀ x ∈ d1.weights Try.prog 22, x ≤ reachBytes := fun x hx => by
    have := List.all_eq_true.1 hsz x (by simp [DataW.weightsEach]; first | exact hx | exact Or.inl hx | exact Or.inr (Or.inl hx) | exact Or.inr hx | exact Or.inr (Or.inr (Or.inl hx)) | exact Or.inr (Or.inr hx))
    simpa using this
  obtain ⟨x2, rfl, rfl, rfl, wx2⟩ := open_int Try.underlying21 (hval 2 21 v2 rfl rfl) h2
  try simp only [List.append_nil, List.nil_append, List.append_assoc] at hW'
  have hlt0 : ∀ x ∈ p0, x.block < W.heap.size := fun x hx => by simpa using hW'.lt x (by simp [hx])
  have hlt1 : ∀ x ∈ p1, x.block < W.heap.size := fun x hx => by simpa using hW'.lt x (by simp [hx])
  have fin : Calls Try.prog 6 #[v0, v1, .int .i32 x2] W (fun e w' => e = .returned (.bool true) ∧ Below W.heap.size W w') →
      Calls Try.checked.prog 6 #[v0, v1, .int .i32 x2] W fun e W' => ∃ v, e = Ending.returned v ∧ Rows.rangesPartsSpec.post enc Try.checked.prog Try.f6 false true false false W #[v0, v1, .int .i32 x2] v W' := by
    intro hc
    refine hc.mono fun e W' ⟨he, hb⟩ => ?_
    subst he
    exact ⟨_, rfl, _, _, _, [], p0 ++ (p1), [], hW', trodAll_mk1 (shut_bool Try.underlying4 _), by
      have := trodAll_mk3 (Below.trod RangesParts_laid (by kernel_rfl) (of_decide_eq_true (by kernel_rfl)) h0 hb hlt0) (Below.trod RangesParts_laid (by kernel_rfl) (of_decide_eq_true (by kernel_rfl)) h1 hb hlt1) (shut_int (H := H) (enc := enc) (P := Try.prog) (w := W') Try.underlying21 wx2)
      try simp only [List.append_nil, List.nil_append, List.append_assoc] at this
      exact this, rfl, hb.frame _, fun h => by cases h⟩
  refine fin ?_
  obtain ⟨fuel0, hf0⟩ := h0
  obtain ⟨fuel1, hf1⟩ := h1
  have e0 : v0.cells.toList = [v0] := by
    obtain ⟨a0, len, cap, rfl⟩ := okWide_slice Try.underlying22 (hval 0 22 v0 rfl rfl)
    rfl
  have e1 : v1.cells.toList = [v1] := by
    obtain ⟨a0, len, cap, rfl⟩ := okWide_slice Try.underlying22 (hval 1 22 v1 rfl rfl)
    rfl
  rw [e0] at hf0
  rw [e1] at hf1
  obtain ⟨a, ha, hIa, _⟩ := open_rgs hf0 hw0
  obtain ⟨b, hb, hIb, _⟩ := open_rgs hf1 hw1
  exact RangesParts_any a b v0 v1 x2 W ha hb hIa hIb (bounds_i32 wx2).1

theorem RangesParts_holds : Rows.RangesPartsSaid :=
  OpenClaim.holds_of_wide 6 Try.f6 rfl rfl rfl rfl rfl rfl rfl ⟨rfl, rfl, rfl, rfl, rfl⟩ rfl rfl rfl rfl rfl (by kernel_rfl) Try.func6 (by kernel_rfl)
    (of_decide_eq_true (by kernel_rfl)) (by unfold Func.isWrapper; first | (rw [if_pos (by decide +kernel)]; kernel_rfl) | (rw [if_neg (by decide +kernel)]; exact ⟨rfl, rfl⟩))
    (fun os started H enc _ => RangesParts_lifted os started H enc)
#print axioms RangesParts_holds
end Go.Proofs.Ytianappapfpbeaa
