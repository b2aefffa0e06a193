/- RangesTwo of harbingerlaw07 returns true for every two lists of ranges (however long), and leaves all memory that was there as it was. No further condition. -/
import Derived.Test.YtianappapfpbeaaR2c
import Derived.Test.YtianappapfpbeaaR2d
import Derived.Test.YtianappapfpbeaaChecked
import Derived.Test.YtianappapfpbeaaRows
import Derived.ProofKit
import Derived.OpenShut
import Derived.SizedLaws
import Derived.ChangeSlices
import Derived.ChangeArms
import Derived.Carry
import Derived.JoinedOf
namespace Go.Proofs.Ytianappapfpbeaa
open Go Go.RowKit Go.ChangeShapes Go.WideShapes Go.ChangeAt Go.WideMaps Go.WideElems
open Go.ChangeMaps (setBlock shut_map_nil open_string shut_string keptBut_setBlock frozen?_setBlock heap_setBlock_same)

set_option maxRecDepth 100000 in
theorem RangesTwo_laid : laidOutB Try.prog = true := by kernel_rfl
theorem RangesTwo_own : ownKnob Try.prog.godebug = none := by kernel_rfl
set_option maxRecDepth 100000 in
theorem RangesTwo_lifted (os : Os) (started : os.Started) (H : Type) (enc : TypeId × Value → H) :
    ReturnsInHanded {} Try.checked os 3 .any (Rows.rangesTwoSpec.pre6 enc Try.prog Try.f3 [] false)
      (Rows.rangesTwoSpec.post enc Try.prog Try.f3 false true false false) := by
  refine returnsInHanded_of_change_sized (C := Try.checked) RangesTwo_own started (by kernel_rfl) Try.func3
    (ChangeSpec.witness6 (enc := enc) (C := Try.checked) false ⟨#[], #[.slice none 0 0, .slice none 0 0], []⟩ 8 (by kernel_rfl) (by kernel_rfl) (by kernel_rfl) (by kernel_rfl)) ?_
  intro W base args ds gs before hval0 hW _ hsz0 _
  have hsz : (DataW.weightsEach Try.prog (Try.f3.params.toList ++ Rows.rangesTwoSpec.plain.varTypes Try.prog) (ds ++ gs)).all (· ≤ reachBytes) = true := hsz0
  clear hsz0
  have hval : ∀ (j : Nat) t v, Try.f3.params[j]? = some t → args[j]? = some v → Value.okWide Try.prog W .any base t v := hval0
  have hW' := hW
  obtain ⟨p, q, hA0, hV, rfl, _, _⟩ := hW
  have hA : DataW.TrodAll enc Try.prog W 0 (fun _ => true) true Try.f3.params.toList args.toList ds p := hA0
  rw [Try.params3] at hA hval hsz
  obtain ⟨v0, v1, d0, d1, p0, p1, rfl, rfl, rfl, h0, h1⟩ := trodAll_two hA
  obtain ⟨rfl, rfl⟩ := trodVars_none hV
  clear hA0 hval0
  try simp only [List.append_nil] at hW'
  have hw0 : ∀ x ∈ d0.weights Try.prog 22, x ≤ reachBytes := fun x hx => by
    have := List.all_eq_true.1 hsz x (by simp [DataW.weightsEach]; first | exact hx | exact Or.inl hx | exact Or.inr (Or.inl hx) | exact Or.inr hx | exact Or.inr (Or.inr (Or.inl hx)) | exact Or.inr (Or.inr hx))
    simpa using this
  have hw1 : ∀ x ∈ d1.weights Try.prog 22, x ≤ reachBytes := fun x hx => by
    have := List.all_eq_true.1 hsz x (by simp [DataW.weightsEach]; first | exact hx | exact Or.inl hx | exact Or.inr (Or.inl hx) | exact Or.inr hx | exact Or.inr (Or.inr (Or.inl hx)) | exact Or.inr (Or.inr hx))
    simpa using this
  try simp only [List.append_nil, List.nil_append, List.append_assoc] at hW'
  have hlt0 : ∀ x ∈ p0, x.block < W.heap.size := fun x hx => by simpa using hW'.lt x (by simp [hx])
  have hlt1 : ∀ x ∈ p1, x.block < W.heap.size := fun x hx => by simpa using hW'.lt x (by simp [hx])
  have fin : Calls Try.prog 3 #[v0, v1] W (fun e w' => e = .returned (.bool true) ∧ Below W.heap.size W w') →
      Calls Try.checked.prog 3 #[v0, v1] W fun e W' => ∃ v, e = Ending.returned v ∧ Rows.rangesTwoSpec.post enc Try.checked.prog Try.f3 false true false false W #[v0, v1] v W' := by
    intro hc
    refine hc.mono fun e W' ⟨he, hb⟩ => ?_
    subst he
    exact ⟨_, rfl, _, _, _, [], p0 ++ (p1), [], hW', trodAll_mk1 (shut_bool Try.underlying4 _), by
      have := trodAll_mk2 (Below.trod RangesTwo_laid (by kernel_rfl) (of_decide_eq_true (by kernel_rfl)) h0 hb hlt0) (Below.trod RangesTwo_laid (by kernel_rfl) (of_decide_eq_true (by kernel_rfl)) h1 hb hlt1)
      try simp only [List.append_nil, List.nil_append, List.append_assoc] at this
      exact this, rfl, hb.frame _, fun h => by cases h⟩
  refine fin ?_
  obtain ⟨fuel0, hf0⟩ := h0
  obtain ⟨fuel1, hf1⟩ := h1
  have e0 : v0.cells.toList = [v0] := by
    obtain ⟨a0, len, cap, rfl⟩ := okWide_slice Try.underlying22 (hval 0 22 v0 rfl rfl)
    rfl
  have e1 : v1.cells.toList = [v1] := by
    obtain ⟨a0, len, cap, rfl⟩ := okWide_slice Try.underlying22 (hval 1 22 v1 rfl rfl)
    rfl
  rw [e0] at hf0
  rw [e1] at hf1
  obtain ⟨a, ha, hIa, _⟩ := open_rgs hf0 hw0
  obtain ⟨b, hb, hIb, _⟩ := open_rgs hf1 hw1
  exact RangesTwo_any a b v0 v1 W ha hb hIa hIb (open_rgs_nil hf0) (open_rgs_nil hf1)

theorem RangesTwo_holds : Rows.RangesTwoSaid :=
  OpenClaim.holds_of_wide 3 Try.f3 rfl rfl rfl rfl rfl rfl rfl ⟨rfl, rfl, rfl, rfl, rfl⟩ rfl rfl rfl rfl rfl (by kernel_rfl) Try.func3 (by kernel_rfl)
    (of_decide_eq_true (by kernel_rfl)) (by unfold Func.isWrapper; first | (rw [if_pos (by decide +kernel)]; kernel_rfl) | (rw [if_neg (by decide +kernel)]; exact ⟨rfl, rfl⟩))
    (fun os started H enc _ => RangesTwo_lifted os started H enc)
#print axioms RangesTwo_holds
end Go.Proofs.Ytianappapfpbeaa
