/- ChecksFine of harbingerlaw06 returns true for every grammar (its names, texts and lists, and those of all that is in it, of whatever length a machine holds), and leaves all memory that was there as it was. No further condition. -/
import Derived.Test.YthlfahghoinocaaCk9
import Derived.Test.YthlfahghoinocaaNuV
import Derived.Test.YthlfahghoinocaaChecked
import Derived.Test.YthlfahghoinocaaRows
import Derived.ProofKit
import Derived.OpenShut
import Derived.SizedLaws
import Derived.ChangeSlices
import Derived.ChangeArms
import Derived.Carry
import Derived.JoinedOf
namespace Go.Proofs.Ythlfahghoinocaa
open Go Go.RowKit Ru Go.ChangeShapes Go.WideShapes Go.ChangeAt Go.WideMaps Go.WideElems
open Go.ChangeMaps (setBlock shut_map_nil open_string shut_string keptBut_setBlock frozen?_setBlock heap_setBlock_same)

theorem ChecksFine_any (nm : ByteArray) (o1 o2 : Int) (rs : List Nu.Rl) (v : Value) (w : World) (hG : Nu.GrV w nm o1 o2 rs v) :
    Calls Try.prog 3 #[v] w fun e w' => e = .returned (.bool true) ∧ Below w.heap.size w w' := by
  cases h : Nu.g5 nm rs with
  | true => exact Fine_lives nm o1 o2 rs v w hG h
  | false =>
    by_cases hc : Ck.chk rs = []
    · exact Fine_right nm o1 o2 rs v w hG h hc
    · exact Fine_wrong nm o1 o2 rs v w hG h hc
theorem agg_four6 {v a b c d : Value} (h : v.cells.toList = [a, b, c, d]) : v = .agg #[a, b, c, d] := by
  cases v <;> simp [Value.cells] at h
  rename_i cs
  obtain ⟨l⟩ := cs
  simp_all
set_option maxRecDepth 100000 in
theorem ChecksFine_laid : laidOutB Try.prog = true := by kernel_rfl
theorem ChecksFine_own : ownKnob Try.prog.godebug = none := by kernel_rfl
set_option maxRecDepth 100000 in
theorem ChecksFine_lifted (os : Os) (started : os.Started) (H : Type) (enc : TypeId × Value → H) :
    ReturnsInHanded {} Try.checked os 3 .any (Rows.checksFineSpec.pre6 enc Try.prog Try.f3 [] false)
      (Rows.checksFineSpec.post enc Try.prog Try.f3 false true false false) := by
  refine returnsInHanded_of_change_sized (C := Try.checked) ChecksFine_own started (by kernel_rfl) Try.func3
    (ChangeSpec.witness6 (enc := enc) (C := Try.checked) false ⟨#[], #[.agg #[.string ⟨#[]⟩, .int .i64 0, .int .i64 0, .slice none 0 0]], []⟩ 8 (by kernel_rfl) (by kernel_rfl) (by kernel_rfl) (by kernel_rfl)) ?_
  intro W base args ds gs before hval0 hW _ hsz0 _
  have hsz : (DataW.weightsEach Try.prog (Try.f3.params.toList ++ Rows.checksFineSpec.plain.varTypes Try.prog) (ds ++ gs)).all (· ≤ reachBytes) = true := hsz0
  clear hsz0
  have hval : ∀ (j : Nat) t v, Try.f3.params[j]? = some t → args[j]? = some v → Value.okWide Try.prog W .any base t v := hval0
  have hW' := hW
  obtain ⟨p, q, hA0, hV, rfl, _, _⟩ := hW
  have hA : DataW.TrodAll enc Try.prog W 0 (fun _ => true) true Try.f3.params.toList args.toList ds p := hA0
  rw [Try.params3] at hA hval hsz
  obtain ⟨v0, d0, rfl, rfl, h0⟩ := trodAll_one hA
  obtain ⟨rfl, rfl⟩ := trodVars_none hV
  clear hA0 hval0
  simp only [List.append_nil] at hW'
  have hlt0 : ∀ x ∈ p, x.block < W.heap.size := fun x hx => by simpa using hW'.lt x (by simp [hx])
  have fin : Calls Try.prog 3 #[v0] W (fun e w' => e = .returned (.bool true) ∧ Below W.heap.size W w') →
      Calls Try.checked.prog 3 #[v0] W fun e W' => ∃ v, e = Ending.returned v ∧ Rows.checksFineSpec.post enc Try.checked.prog Try.f3 false true false false W #[v0] v W' := by
    intro hc
    refine hc.mono fun e W' ⟨he, hb⟩ => ?_
    subst he
    exact ⟨_, rfl, _, _, _, [], p, [], hW', trodAll_mk1 (shut_bool Try.underlying4 _), by
      have := trodAll_mk1 (Below.trod ChecksFine_laid (by kernel_rfl) (of_decide_eq_true (by kernel_rfl)) h0 hb hlt0)
      try simp only [List.append_nil] at this
      exact this, rfl, hb.frame _, fun h => by cases h⟩
  refine fin ?_
  obtain ⟨fuel, hf⟩ := h0
  have hw0 : ∀ x ∈ d0.weights Try.prog 26, x ≤ reachBytes := fun x hx => by
    have := List.all_eq_true.1 hsz x (by simp [DataW.weightsEach]; exact hx)
    simpa using this
  obtain ⟨nm, o1, o2, rs, ra, rc, hcs, hG⟩ := open_gram fuel _ d0 p hf hw0
  obtain rfl := agg_four6 hcs
  exact ChecksFine_any nm o1 o2 rs _ W hG

theorem ChecksFine_holds : Rows.ChecksFineSaid :=
  OpenClaim.holds_of_wide 3 Try.f3 rfl rfl rfl rfl rfl rfl rfl ⟨rfl, rfl, rfl, rfl, rfl⟩ rfl rfl rfl rfl rfl (by kernel_rfl) Try.func3 (by kernel_rfl)
    (of_decide_eq_true (by kernel_rfl)) (by unfold Func.isWrapper; first | (rw [if_pos (by decide +kernel)]; kernel_rfl) | (rw [if_neg (by decide +kernel)]; exact ⟨rfl, rfl⟩))
    (fun os started H enc _ => ChecksFine_lifted os started H enc)
#print axioms ChecksFine_holds
end Go.Proofs.Ythlfahghoinocaa
