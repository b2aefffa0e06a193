/- ScansBack: for every text, its words written anew, with any gaps between them, are the same words. The listed variables (tables of unicode/utf8, math/bits and strconv, and strconv's two errors) are as the program's text lays them: the card ties that. No further condition. -/
import Derived.Test.YtokpknjmcegkaaaDoorSbX
import Derived.Test.YtokpknjmcegkaaaDoorScT
import Derived.Test.YtokpknjmcegkaaaDoorChecked
import Derived.Test.YtokpknjmcegkaaaDoorCards
import Derived.Test.YtokpknjmcegkaaaDoorTie
import Derived.ProofKit
import Derived.OpenShut
import Derived.Lay
import Derived.ChangeSlices
import Derived.ChangeArms
import Derived.Carry
namespace Go.Proofs.YtokpknjmcegkaaaDoor
open Go Go.RowKit Ru Go.ChangeShapes Go.WideShapes Go.ChangeAt Go.WideMaps Go.WideElems
open Go.ChangeMaps (setBlock shut_map_nil open_string shut_string keptBut_setBlock frozen?_setBlock heap_setBlock_same)

set_option maxRecDepth 100000 in
theorem ScansBack_laid : laidOutB Tryd.prog = true := by kernel_rfl
theorem ScansBack_own : ownKnob Tryd.prog.godebug = none := by kernel_rfl
set_option maxRecDepth 100000 in
theorem ScansBack_lifted (os : Os) (started : os.Started) (H : Type) (enc : TypeId × Value → H) :
    ReturnsInHanded {} Tryd.checked os 4 .any (fun w args => (Rows.scansBackSpec.pre enc Tryd.prog Tryd.f4 [] false w args ∧ laidMetH Tryd.prog laidL w) ∧ sizedMet enc Tryd.prog Tryd.f4 (OpenSpec.ofChange Rows.scansBackSpec) false w args)
      (Rows.scansBackSpec.post enc Tryd.prog Tryd.f4 false true false false) := by
  refine lifted_shaped (C := Tryd.checked) (laid := laidL) ScansBack_own started (by kernel_rfl) Tryd.func4
    (ChangeSpec.witness_shaped (enc := enc) (C := Tryd.checked) (os := os) (X := fun w _ => laidMetH Tryd.prog laidL w) false (World.laidAll Tryd.prog os laidL) #[.string ⟨#[]⟩, .slice none 0 0] 8 (World.laidAll_os _ _ _)
      (World.shaped_of_ZipB (by kernel_rfl) (by kernel_rfl)) (by kernel_rfl) (by kernel_rfl) (by kernel_rfl)
      (by rw [MakeChecks.laidMetH_plain _ _ _ (by kernel_rfl)]; exact laidMet_laidAll _ (by kernel_rfl) (by kernel_rfl))) ?_
  intro W base args ds gs before hval0 hW hL hsh
  have hval : ∀ (j : Nat) t v, Tryd.f4.params[j]? = some t → args[j]? = some v → Value.okWide Tryd.prog W .any base t v := hval0
  have hW' := hW
  obtain ⟨p, q, hA0, hV, rfl, _, _⟩ := hW
  have hA : DataW.TrodAll enc Tryd.prog W 0 (fun _ => true) true Tryd.f4.params.toList args.toList ds p := hA0
  rw [Tryd.params4] at hA hval
  obtain ⟨v0, v1, d0, d1, p0, p1, rfl, rfl, rfl, h0, h1⟩ := trodAll_two hA
  obtain ⟨rfl, rfl⟩ := trodVars_none hV
  obtain ⟨x0, rfl, rfl, rfl, wx0⟩ := open_string Tryd.underlying9 (hval 0 9 v0 rfl rfl) h0
  clear hA0 hval0
  simp only [List.append_nil, List.nil_append] at hW'
  have hlt1 : ∀ x ∈ p1, x.block < W.heap.size := fun x hx => by simpa using hW'.lt x (by simp [hx])
  have fin : Calls Tryd.prog 4 #[.string x0, v1] W (fun e w' => e = .returned (.bool true) ∧ Below W.heap.size W w') →
      Calls Tryd.checked.prog 4 #[.string x0, v1] W fun e W' => ∃ v, e = Ending.returned v ∧ Rows.scansBackSpec.post enc Tryd.checked.prog Tryd.f4 false true false false W #[.string x0, v1] v W' := by
    intro hc
    refine hc.mono fun e W' ⟨he, hb⟩ => ?_
    subst he
    exact ⟨_, rfl, _, _, _, [], p1, [], hW', trodAll_mk1 (shut_bool Tryd.underlying4 _), by
      have := trodAll_mk2 (shut_string (H := H) (enc := enc) (P := Tryd.prog) (w := W') Tryd.underlying9 wx0) (Below.trod ScansBack_laid (by kernel_rfl) (of_decide_eq_true (by kernel_rfl)) h1 hb hlt1)
      simp only [List.append_nil, List.nil_append] at this
      exact this, rfl, hb.frame _, fun h => by cases h⟩
  refine fin ?_
  have hE := envS_of hL hsh
  obtain ⟨a1, len, cap, rfl⟩ := okWide_slice Tryd.underlying42 (hval 1 42 v1 rfl rfl)
  obtain ⟨fuel, hf⟩ := h1
  rcases open_ints Tryd.underlying42 Tryd.underlying5 (show Tryd.prog.cellsOf 5 = 1 by kernel_rfl) hf with ⟨hcs, hx⟩ | ⟨a, len', cap', zs, hcs, _, hl, hm, hz, hx, hcell, hwz⟩
  · simp [Value.cells] at hcs
    obtain ⟨rfl, rfl, rfl⟩ := hcs
    exact Back_any x0 none 0 0 W hE (fun i hi => by omega) (by omega)
  · simp [Value.cells] at hcs
    obtain ⟨rfl, rfl, rfl⟩ := hcs
    refine Back_any x0 _ len cap W hE (fun i hi => ?_) (by unfold maxLen at hm; omega)
    have hzl : len ≤ zs.length := by rw [hz]; split <;> omega
    obtain ⟨b, off, rfl, hc⟩ := ints_at hcell (by omega)
    have h2 := hc i (by omega)
    have h3 : zs.getD i 0 ∈ zs := by
      rw [show zs.getD i 0 = zs[i]'(by omega) by simp [List.getD, List.getElem?_eq_getElem (show i < zs.length by omega)]]
      exact List.getElem_mem _
    have h4 := bounds_u8 (hwz _ h3)
    exact ⟨b, off, zs.getD i 0, rfl, cell_lt h2, h2, h4.1, h4.2⟩

theorem ScansBack_row : Rows.ScansBackSaid :=
  OpenClaim.holds_of_wide 4 Tryd.f4 rfl rfl rfl rfl rfl rfl rfl ⟨rfl, rfl, rfl, rfl, rfl⟩ rfl rfl rfl rfl rfl (by kernel_rfl) Tryd.func4 (by kernel_rfl)
    (of_decide_eq_true (by kernel_rfl)) (by unfold Func.isWrapper; first | (rw [if_pos (by decide +kernel)]; kernel_rfl) | (rw [if_neg (by decide +kernel)]; exact ⟨rfl, rfl⟩))
    (fun os started H enc _ => ScansBack_lifted os started H enc)
theorem ScansBack_holds : Rows.ScansBackCardSaid :=
  Claim7.holds_tied_plain_at .later [] [.data, .data, .data, .data, .sentinel, .sentinel, .pinned] true Rows.scansBackCard.stood.harness true
    ScansBack_row (fun _ h => by cases h) (by kernel_rfl) (fun _ h => by cases h) scansBack_row_tie rfl ⟨rfl, rfl⟩ (by kernel_rfl) rfl
    (fun f fn hf hfn => by
      obtain rfl : f = 4 := Option.some.inj ((show Tryd.prog.funcNamed "harbinger/harbingerlaw02.ScansBack" = some 4 by kernel_rfl).symm.trans hf) |>.symm
      obtain rfl : fn = Tryd.f4 := (Option.some.inj (Tryd.func4.symm.trans hfn)).symm
      exact ⟨by kernel_rfl, fun j t ht => by
        rw [Tryd.params4] at ht
        have hm : t ∈ [9, 42] := by simpa using Array.mem_of_getElem? ht
        have hall : ([9, 42].all fun u => !Tryd.prog.wantsStandIn u) = true := by kernel_rfl
        exact (show Tryd.prog.wantsStandIn t = false by simpa using List.all_eq_true.1 hall t hm)⟩)
    (by kernel_rfl)
#print axioms ScansBack_holds
end Go.Proofs.YtokpknjmcegkaaaDoor
