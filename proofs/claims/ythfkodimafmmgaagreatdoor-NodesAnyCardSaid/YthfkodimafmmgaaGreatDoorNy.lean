/- NodesAny of harbingerlaw03 returns true for every two nodes (their texts and lists, and those of all that is in them, of whatever length a machine holds), and leaves all memory that was there as it was. The listed variables (tables of unicode/utf8, math/bits and strconv, and strconv's two errors) are as the program's text lays them: the card ties that. No further condition. -/
import Derived.Test.YthfkodimafmmgaaGreatDoorNdo
import Derived.Test.YthfkodimafmmgaaGreatDoorNa
import Derived.Test.YthfkodimafmmgaaGreatDoorNdp
import Derived.Test.YthfkodimafmmgaaGreatDoorChecked
import Derived.Test.YthfkodimafmmgaaGreatDoorCards
import Derived.Test.YthfkodimafmmgaaGreatDoorTie
import Derived.ProofKit
import Derived.OpenShut
import Derived.Lay
import Derived.ChangeSlices
import Derived.ChangeArms
import Derived.Carry
namespace Go.Proofs.YthfkodimafmmgaaGreatDoor
open Go Go.RowKit Ru Go.ChangeShapes Go.WideShapes Go.ChangeAt Go.WideMaps Go.WideElems
open Go.ChangeMaps (setBlock shut_map_nil open_string shut_string keptBut_setBlock frozen?_setBlock heap_setBlock_same)

set_option maxRecDepth 100000 in
theorem NodesAny_laid : laidOutB Tryz.prog = true := by kernel_rfl
theorem NodesAny_own : ownKnob Tryz.prog.godebug = none := by kernel_rfl
set_option maxRecDepth 100000 in
theorem NodesAny_lifted (os : Os) (started : os.Started) (H : Type) (enc : TypeId × Value → H) :
    ReturnsInHanded {} Tryz.checked os 3 .any (fun w args => (Rows.nodesAnySpec.pre enc Tryz.prog Tryz.f3 [] false w args ∧ laidMetH Tryz.prog laidL w) ∧ sizedMet enc Tryz.prog Tryz.f3 (OpenSpec.ofChange Rows.nodesAnySpec) false w args)
      (Rows.nodesAnySpec.post enc Tryz.prog Tryz.f3 false true false false) := by
  refine returnsInHanded_of_change_and (C := Tryz.checked) (X := fun w _ => laidMetH Tryz.prog laidL w) (fun _ _ _ hh h => h.of_heap hh) NodesAny_own started (by kernel_rfl) Tryz.func3
    (ChangeSpec.witness_shaped (enc := enc) (C := Tryz.checked) (os := os) (X := fun w _ => laidMetH Tryz.prog laidL w) false (World.laidAll Tryz.prog os laidL) #[.agg #[.int .u8 0, .string ⟨#[]⟩, .string ⟨#[]⟩, .slice none 0 0, .slice none 0 0], .agg #[.int .u8 0, .string ⟨#[]⟩, .string ⟨#[]⟩, .slice none 0 0, .slice none 0 0]] 8 (World.laidAll_os _ _ _)
      (World.shaped_of_ZipB (by kernel_rfl) (by kernel_rfl)) (by kernel_rfl) (by kernel_rfl) (by kernel_rfl)
      (by rw [MakeChecks.laidMetH_plain _ _ _ (by kernel_rfl)]; exact laidMet_laidAll _ (by kernel_rfl) (by kernel_rfl))) ?_
  intro W base args ds gs before hval0 hW _ hwt hL _
  have hval : ∀ (j : Nat) t v, Tryz.f3.params[j]? = some t → args[j]? = some v → Value.okWide Tryz.prog W .any base t v := hval0
  have hW' := hW
  obtain ⟨p, q, hA0, hV, rfl, _, _⟩ := hW
  have hA : DataW.TrodAll enc Tryz.prog W 0 (fun _ => true) true Tryz.f3.params.toList args.toList ds p := hA0
  rw [Tryz.params3] at hA hval
  obtain ⟨v0, v1, d0, d1, p0, p1, rfl, rfl, rfl, h0, h1⟩ := trodAll_two hA
  obtain ⟨rfl, rfl⟩ := trodVars_none hV
  clear hA0 hval0
  simp only [List.append_nil] at hW'
  have hlt0 : ∀ x ∈ p0, x.block < W.heap.size := fun x hx => by simpa using hW'.lt x (by simp [hx])
  have hlt1 : ∀ x ∈ p1, x.block < W.heap.size := fun x hx => by simpa using hW'.lt x (by simp [hx])
  have fin : Calls Tryz.prog 3 #[v0, v1] W (fun e w' => e = .returned (.bool true) ∧ Below W.heap.size W w') →
      Calls Tryz.checked.prog 3 #[v0, v1] W fun e W' => ∃ v, e = Ending.returned v ∧ Rows.nodesAnySpec.post enc Tryz.checked.prog Tryz.f3 false true false false W #[v0, v1] v W' := by
    intro hc
    refine hc.mono fun e W' ⟨he, hb⟩ => ?_
    subst he
    exact ⟨_, rfl, _, _, _, [], p0 ++ p1, [], hW', trodAll_mk1 (shut_bool Tryz.underlying4 _), by
      have := trodAll_mk2 (Below.trod NodesAny_laid (by kernel_rfl) (of_decide_eq_true (by kernel_rfl)) h0 hb hlt0) (Below.trod NodesAny_laid (by kernel_rfl) (of_decide_eq_true (by kernel_rfl)) h1 hb hlt1)
      try simp only [List.append_nil] at this
      exact this, rfl, hb.frame _, fun h => by cases h⟩
  refine fin ?_
  have hE := env_of_laid hL
  obtain ⟨fuel, hf⟩ := h0
  have hw0 : ∀ x ∈ d0.weights Tryz.prog 26, x ≤ reachBytes := fun x hx => by
    have := List.all_eq_true.1 hwt x (by rw [Tryz.params3]; simp [DataW.weightsEach]; exact Or.inl hx)
    simpa using this
  obtain ⟨t, u0, u1, u2, u3, u4, hcs, hAt⟩ := open_node fuel _ d0 p0 hf hw0
  obtain rfl := agg_five hcs
  obtain ⟨fuel1, hf1⟩ := h1
  have hw1 : ∀ x ∈ d1.weights Tryz.prog 26, x ≤ reachBytes := fun x hx => by
    have := List.all_eq_true.1 hwt x (by rw [Tryz.params3]; simp [DataW.weightsEach]; exact Or.inr hx)
    simpa using this
  obtain ⟨t1, y0, y1, y2, y3, y4, hcs1, hAt1⟩ := open_node fuel1 _ d1 p1 hf1 hw1
  obtain rfl := agg_five hcs1
  exact any_all t t1 _ _ W hE hAt hAt1

theorem NodesAny_row : Rows.NodesAnySaid :=
  OpenClaim.holds_of_wide 3 Tryz.f3 rfl rfl rfl rfl rfl rfl rfl ⟨rfl, rfl, rfl, rfl, rfl⟩ rfl rfl rfl rfl rfl (by kernel_rfl) Tryz.func3 (by kernel_rfl)
    (of_decide_eq_true (by kernel_rfl)) (by unfold Func.isWrapper; first | (rw [if_pos (by decide +kernel)]; kernel_rfl) | (rw [if_neg (by decide +kernel)]; exact ⟨rfl, rfl⟩))
    (fun os started H enc _ => NodesAny_lifted os started H enc)
theorem NodesAny_holds : Rows.NodesAnyCardSaid :=
  Claim7.holds_tied_plain_at .later [] [.data, .data, .data, .data, .pinned] true Rows.nodesAnyCard.stood.harness false
    NodesAny_row (fun _ h => by cases h) (by kernel_rfl) (fun _ h => by cases h) nodesAny_row_tie rfl ⟨rfl, rfl⟩ (by kernel_rfl) rfl
    (fun f fn hf hfn => by
      obtain rfl : f = 3 := Option.some.inj ((show Tryz.prog.funcNamed "harbinger/harbingerlaw03.NodesAny" = some 3 by kernel_rfl).symm.trans hf) |>.symm
      obtain rfl : fn = Tryz.f3 := (Option.some.inj (Tryz.func3.symm.trans hfn)).symm
      exact ⟨by kernel_rfl, fun j t ht => by
        rw [Tryz.params3] at ht
        have hm : t ∈ [26, 26] := by simpa using Array.mem_of_getElem? ht
        have hall : ([26, 26].all fun u => !Tryz.prog.wantsStandIn u) = true := by kernel_rfl
        exact (show Tryz.prog.wantsStandIn t = false by simpa using List.all_eq_true.1 hall t hm)⟩)
    (by kernel_rfl)
#print axioms NodesAny_holds
end Go.Proofs.YthfkodimafmmgaaGreatDoor
