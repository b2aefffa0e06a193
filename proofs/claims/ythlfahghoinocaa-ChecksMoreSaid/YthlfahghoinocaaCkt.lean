/- ChecksMore of harbingerlaw06 returns true for every grammar (its names, texts and lists, and those of all that is in it, of whatever length a machine holds) and every number, and leaves all memory that was there as it was. No further condition. -/
import Derived.Test.YthlfahghoinocaaCks
import Derived.Test.YthlfahghoinocaaNuV
import Derived.Test.YthlfahghoinocaaChecked
import Derived.Test.YthlfahghoinocaaRows
import Derived.ProofKit
import Derived.OpenShut
import Derived.SizedLaws
import Derived.ChangeSlices
import Derived.ChangeArms
import Derived.Carry
import Derived.JoinedOf
namespace Go.Proofs.Ythlfahghoinocaa
open Go Go.RowKit Ru Go.ChangeShapes Go.WideShapes Go.ChangeAt Go.WideMaps Go.WideElems
open Go.ChangeMaps (setBlock shut_map_nil open_string shut_string keptBut_setBlock frozen?_setBlock heap_setBlock_same)

theorem ChecksMore_any (nm : ByteArray) (o1 o2 : Int) (rs : List Nu.Rl) (v : Value) (at_ : Int) (w : World) (hG : Nu.GrV w nm o1 o2 rs v) (ha : 0 ≤ at_ ∧ at_ < 256) :
    Calls Try.prog 4 #[v, .int .u8 at_] w fun e w' => e = .returned (.bool true) ∧ Below w.heap.size w w' := by
  cases h : Nu.g5 nm rs with
  | true => exact More_lives nm o1 o2 rs v at_ w hG h
  | false =>
    by_cases h0 : rs.length = 0
    · exact More_none nm o1 o2 rs v at_ w hG h h0
    · by_cases hc : Ck.chk rs = []
      · exact More_right nm o1 o2 rs v at_ w hG ha h (by omega) hc
      · exact More_wrong nm o1 o2 rs v at_ w hG h (by omega) hc
theorem agg_four7 {v a b c d : Value} (h : v.cells.toList = [a, b, c, d]) : v = .agg #[a, b, c, d] := by
  cases v <;> simp [Value.cells] at h
  rename_i cs
  obtain ⟨l⟩ := cs
  simp_all
set_option maxRecDepth 100000 in
theorem ChecksMore_laid : laidOutB Try.prog = true := by kernel_rfl
theorem ChecksMore_own : ownKnob Try.prog.godebug = none := by kernel_rfl
set_option maxRecDepth 100000 in
theorem ChecksMore_lifted (os : Os) (started : os.Started) (H : Type) (enc : TypeId × Value → H) :
    ReturnsInHanded {} Try.checked os 4 .any (Rows.checksMoreSpec.pre6 enc Try.prog Try.f4 [] false)
      (Rows.checksMoreSpec.post enc Try.prog Try.f4 false true false false) := by
  refine returnsInHanded_of_change_sized (C := Try.checked) ChecksMore_own started (by kernel_rfl) Try.func4
    (ChangeSpec.witness6 (enc := enc) (C := Try.checked) false ⟨#[], #[.agg #[.string ⟨#[]⟩, .int .i64 0, .int .i64 0, .slice none 0 0], .int .u8 0], []⟩ 8 (by kernel_rfl) (by kernel_rfl) (by kernel_rfl) (by kernel_rfl)) ?_
  intro W base args ds gs before hval0 hW _ hsz0 _
  have hsz : (DataW.weightsEach Try.prog (Try.f4.params.toList ++ Rows.checksMoreSpec.plain.varTypes Try.prog) (ds ++ gs)).all (· ≤ reachBytes) = true := hsz0
  clear hsz0
  have hval : ∀ (j : Nat) t v, Try.f4.params[j]? = some t → args[j]? = some v → Value.okWide Try.prog W .any base t v := hval0
  have hW' := hW
  obtain ⟨p, q, hA0, hV, rfl, _, _⟩ := hW
  have hA : DataW.TrodAll enc Try.prog W 0 (fun _ => true) true Try.f4.params.toList args.toList ds p := hA0
  rw [Try.params4] at hA hval hsz
  obtain ⟨v0, v1, d0, d1, p0, p1, rfl, rfl, rfl, h0, h1⟩ := trodAll_two hA
  obtain ⟨rfl, rfl⟩ := trodVars_none hV
  clear hA0 hval0
  simp only [List.append_nil] at hW'
  obtain ⟨x1, rfl, rfl, rfl, wx1⟩ := open_int Try.underlying5 (hval 1 5 v1 rfl rfl) h1
  simp only [List.append_nil] at hW'
  have hlt0 : ∀ x ∈ p0, x.block < W.heap.size := fun x hx => by simpa using hW'.lt x (by simp [hx])
  have fin : Calls Try.prog 4 #[v0, .int .u8 x1] W (fun e w' => e = .returned (.bool true) ∧ Below W.heap.size W w') →
      Calls Try.checked.prog 4 #[v0, .int .u8 x1] W fun e W' => ∃ v, e = Ending.returned v ∧ Rows.checksMoreSpec.post enc Try.checked.prog Try.f4 false true false false W #[v0, .int .u8 x1] v W' := by
    intro hc
    refine hc.mono fun e W' ⟨he, hb⟩ => ?_
    subst he
    exact ⟨_, rfl, _, _, _, [], p0, [], hW', trodAll_mk1 (shut_bool Try.underlying4 _), by
      have := trodAll_mk2 (Below.trod ChecksMore_laid (by kernel_rfl) (of_decide_eq_true (by kernel_rfl)) h0 hb hlt0) (shut_int (enc := enc) (P := Try.prog) (w := W') Try.underlying5 wx1)
      try simp only [List.append_nil] at this
      exact this, rfl, hb.frame _, fun h => by cases h⟩
  refine fin ?_
  obtain ⟨fuel, hf⟩ := h0
  have hw0 : ∀ x ∈ d0.weights Try.prog 26, x ≤ reachBytes := fun x hx => by
    have := List.all_eq_true.1 hsz x (by simp [DataW.weightsEach]; exact Or.inl hx)
    simpa using this
  obtain ⟨nm, o1, o2, rs, ra, rc, hcs, hG⟩ := open_gram fuel _ d0 p0 hf hw0
  obtain rfl := agg_four7 hcs
  exact ChecksMore_any nm o1 o2 rs _ x1 W hG (by have := bounds_u8 wx1; omega)

theorem ChecksMore_holds : Rows.ChecksMoreSaid :=
  OpenClaim.holds_of_wide 4 Try.f4 rfl rfl rfl rfl rfl rfl rfl ⟨rfl, rfl, rfl, rfl, rfl⟩ rfl rfl rfl rfl rfl (by kernel_rfl) Try.func4 (by kernel_rfl)
    (of_decide_eq_true (by kernel_rfl)) (by unfold Func.isWrapper; first | (rw [if_pos (by decide +kernel)]; kernel_rfl) | (rw [if_neg (by decide +kernel)]; exact ⟨rfl, rfl⟩))
    (fun os started H enc _ => ChecksMore_lifted os started H enc)
#print axioms ChecksMore_holds
end Go.Proofs.Ythlfahghoinocaa
