/- LexersWhole of harbingerlaw11 returns true for every table, every text and every list of booleans (however long), and leaves all memory that was there as it was: the texts of tokens, and those that were dropped, are the input, one behind the other, each the longest that something ends at; where there is an error nothing begins there. The listed variables (two tables of unicode/utf8) are as the program's text lays them: the card ties that. No further condition. -/
import Derived.Test.YtagbpkabfjnplaaDoorLxT
import Derived.Test.YtagbpkabfjnplaaDoorLxO
import Derived.Test.YtagbpkabfjnplaaDoorLxP
import Derived.Test.YtagbpkabfjnplaaDoorChecked
import Derived.Test.YtagbpkabfjnplaaDoorCards
import Derived.Test.YtagbpkabfjnplaaDoorTie
import Derived.ProofKit
import Derived.OpenShut
import Derived.Lay
import Derived.ChangeSlices
import Derived.ChangeArms
import Derived.Carry
namespace Go.Proofs.YtagbpkabfjnplaaDoor
open Go Go.RowKit Ru Go.ChangeShapes Go.WideShapes Go.ChangeAt Go.WideMaps Go.WideElems
open Go.ChangeMaps (setBlock shut_map_nil open_string shut_string keptBut_setBlock frozen?_setBlock heap_setBlock_same)

set_option maxRecDepth 100000 in
theorem LexersWhole_laid : laidOutB Tryd.prog = true := by kernel_rfl
theorem LexersWhole_own : ownKnob Tryd.prog.godebug = none := by kernel_rfl
set_option maxRecDepth 100000 in
theorem LexersWhole_lifted (os : Os) (started : os.Started) (H : Type) (enc : TypeId × Value → H) :
    ReturnsInHanded {} Tryd.checked os 5 .any (fun w args => (Rows.lexersWholeSpec.pre enc Tryd.prog Tryd.f5 [] false w args ∧ laidMetH Tryd.prog laidL w) ∧ sizedMet enc Tryd.prog Tryd.f5 (OpenSpec.ofChange Rows.lexersWholeSpec) false w args)
      (Rows.lexersWholeSpec.post enc Tryd.prog Tryd.f5 false true false false) := by
  refine returnsInHanded_of_change_and (C := Tryd.checked) (X := fun w _ => laidMetH Tryd.prog laidL w) (fun _ _ _ hh h => h.of_heap hh) LexersWhole_own started (by kernel_rfl) Tryd.func5
    (ChangeSpec.witness_shaped (enc := enc) (C := Tryd.checked) (os := os) (X := fun w _ => laidMetH Tryd.prog laidL w) false (World.laidAll Tryd.prog os laidL) #[.agg #[.slice none 0 0, .slice none 0 0, .slice none 0 0, .slice none 0 0], .string ⟨#[]⟩, .slice none 0 0] 8 (World.laidAll_os _ _ _)
      (World.shaped_of_ZipB (by kernel_rfl) (by kernel_rfl)) (by kernel_rfl) (by kernel_rfl) (by kernel_rfl)
      (by rw [MakeChecks.laidMetH_plain _ _ _ (by kernel_rfl)]; exact laidMet_laidAll _ (by kernel_rfl) (by kernel_rfl))) ?_
  intro W base args ds gs before hval0 hW _ hwt hL _
  have hval : ∀ (j : Nat) t v, Tryd.f5.params[j]? = some t → args[j]? = some v → Value.okWide Tryd.prog W .any base t v := hval0
  have hW' := hW
  obtain ⟨p, q, hA0, hV, rfl, _, _⟩ := hW
  have hA : DataW.TrodAll enc Tryd.prog W 0 (fun _ => true) true Tryd.f5.params.toList args.toList ds p := hA0
  rw [Tryd.params5] at hA hval
  obtain ⟨v0, v1, v2, d0, d1, d2, p0, p1, p2, rfl, rfl, rfl, h0, h1, h2⟩ := trodAll_three hA
  obtain ⟨rfl, rfl⟩ := trodVars_none hV
  obtain ⟨x1, rfl, rfl, rfl, wx1⟩ := open_string Tryd.underlying9 (hval 1 9 v1 rfl rfl) h1
  clear hA0 hval0
  simp only [List.append_nil, List.nil_append] at hW'
  have hlt0 : ∀ x ∈ p0, x.block < W.heap.size := fun x hx => by simpa using hW'.lt x (by simp [hx])
  have hlt2 : ∀ x ∈ p2, x.block < W.heap.size := fun x hx => by simpa using hW'.lt x (by simp [hx])
  have fin : Calls Tryd.prog 5 #[v0, .string x1, v2] W (fun e w' => e = .returned (.bool true) ∧ Below W.heap.size W w') →
      Calls Tryd.checked.prog 5 #[v0, .string x1, v2] W fun e W' => ∃ v, e = Ending.returned v ∧ Rows.lexersWholeSpec.post enc Tryd.checked.prog Tryd.f5 false true false false W #[v0, .string x1, v2] v W' := by
    intro hc
    refine hc.mono fun e W' ⟨he, hb⟩ => ?_
    subst he
    exact ⟨_, rfl, _, _, _, [], p0 ++ p2, [], hW', trodAll_mk1 (shut_bool Tryd.underlying4 _), by
      have := trodAll_mk3 (Below.trod LexersWhole_laid (by kernel_rfl) (of_decide_eq_true (by kernel_rfl)) h0 hb hlt0) (shut_string (H := H) (enc := enc) (P := Tryd.prog) (w := W') Tryd.underlying9 wx1) (Below.trod LexersWhole_laid (by kernel_rfl) (of_decide_eq_true (by kernel_rfl)) h2 hb hlt2)
      simp only [List.append_nil, List.nil_append] at this
      exact this, rfl, hb.frame _, fun h => by cases h⟩
  refine fin ?_
  have hE := env_of_laid hL
  obtain ⟨fuel, hf⟩ := h0
  have hw0 : ∀ x ∈ d0.weights Tryd.prog 26, x ≤ reachBytes := fun x hx => by
    have := List.all_eq_true.1 hwt x (by rw [Tryd.params5]; simp [DataW.weightsEach]; exact Or.inl hx)
    simpa using this
  obtain ⟨t, rv, cv, nv, ev, hcs, hT, hG, _⟩ := Lx.open_tb fuel _ d0 p0 hf hw0
  obtain rfl := Lx.agg_four hcs
  obtain ⟨fuel2, hf2⟩ := h2
  have hw2 : ∀ x ∈ d2.weights Tryd.prog 27, x ≤ reachBytes := fun x hx => by
    have := List.all_eq_true.1 hwt x (by rw [Tryd.params5]; simp [DataW.weightsEach]; exact Or.inr (Or.inr hx))
    simpa using this
  obtain ⟨z, hz⟩ : ∃ z, v2.cells.toList = [z] := by
    rcases DataW.trod_slice (x := (d2, p2)) Tryd.underlying27 hf2 with ⟨e, _⟩ | ⟨a, len, cap, _, _, _, _, e, _⟩
    · exact ⟨_, e⟩
    · exact ⟨_, e⟩
  rw [hz] at hf2
  obtain ⟨dr, hD, hdl⟩ := Lx.open_bs hf2 hw2
  obtain ⟨da, DN, dc, rfl⟩ := okWide_slice Tryd.underlying27 (hval 2 27 v2 rfl rfl)
  simp [Value.cells] at hz
  subst hz
  exact Whole_any t rv cv nv ev x1 dr _ W hT hG hE hD hdl (by unfold maxLen at wx1; omega)

theorem LexersWhole_row : Rows.LexersWholeSaid :=
  OpenClaim.holds_of_wide 5 Tryd.f5 rfl rfl rfl rfl rfl rfl rfl ⟨rfl, rfl, rfl, rfl, rfl⟩ rfl rfl rfl rfl rfl (by kernel_rfl) Tryd.func5 (by kernel_rfl)
    (of_decide_eq_true (by kernel_rfl)) (by unfold Func.isWrapper; first | (rw [if_pos (by decide +kernel)]; kernel_rfl) | (rw [if_neg (by decide +kernel)]; exact ⟨rfl, rfl⟩))
    (fun os started H enc _ => LexersWhole_lifted os started H enc)
theorem LexersWhole_holds : Rows.LexersWholeCardSaid :=
  Claim7.holds_tied_plain_at .later [] [.data, .pinned] true Rows.lexersWholeCard.stood.harness false
    LexersWhole_row (fun _ h => by cases h) (by kernel_rfl) (fun _ h => by cases h) lexersWhole_row_tie rfl ⟨rfl, rfl⟩ (by kernel_rfl) rfl
    (fun f fn hf hfn => by
      obtain rfl : f = 5 := Option.some.inj ((show Tryd.prog.funcNamed "harbinger/harbingerlaw11.LexersWhole" = some 5 by kernel_rfl).symm.trans hf) |>.symm
      obtain rfl : fn = Tryd.f5 := (Option.some.inj (Tryd.func5.symm.trans hfn)).symm
      exact ⟨by kernel_rfl, fun j t ht => by
        rw [Tryd.params5] at ht
        have hm : t ∈ [26, 9, 27] := by simpa using Array.mem_of_getElem? ht
        have hall : ([26, 9, 27].all fun u => !Tryd.prog.wantsStandIn u) = true := by kernel_rfl
        exact (show Tryd.prog.wantsStandIn t = false by simpa using List.all_eq_true.1 hall t hm)⟩)
    (by kernel_rfl)
#print axioms LexersWhole_holds
end Go.Proofs.YtagbpkabfjnplaaDoor
