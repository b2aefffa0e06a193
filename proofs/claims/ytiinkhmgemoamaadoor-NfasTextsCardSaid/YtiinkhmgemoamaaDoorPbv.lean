/- NfasTexts of harbingerlaw08 returns true for every grammar and every row of runes (its names, texts and lists, and those of all that is in it, of whatever length a machine holds), and leaves all memory that was there as it was. The listed variable (a table of math/bits) is as the program's text lays it: the card ties that. No further condition. -/
import Derived.Test.YtiinkhmgemoamaaDoorPbt
import Derived.Test.YtiinkhmgemoamaaDoorPbu
import Derived.Test.YtiinkhmgemoamaaDoorChecked
import Derived.Test.YtiinkhmgemoamaaDoorCards
import Derived.Test.YtiinkhmgemoamaaDoorTie
import Derived.ProofKit
import Derived.OpenShut
import Derived.Lay
import Derived.ChangeSlices
import Derived.ChangeArms
import Derived.Carry
namespace Go.Proofs.YtiinkhmgemoamaaDoor
open Go Go.RowKit Go.ChangeShapes Go.WideShapes Go.ChangeAt Go.WideMaps Go.WideElems
open Go.ChangeMaps (setBlock shut_map_nil open_string shut_string keptBut_setBlock frozen?_setBlock heap_setBlock_same)

set_option maxRecDepth 100000 in
/-- What is read as runes. -/
theorem open_runes {H : Type} {enc : TypeId × Value → H} {W : World} {base : Nat} {v : Value} {d : DataW H} {p : List MemPlace} (hv : Value.okWide Tryd.prog W .any base 50 v) (h : DataW.Trod enc Tryd.prog W 0 (fun _ => true) true 50 v d p) : ∃ l : List Int, Gl.LiV W v l := by
 obtain ⟨a0, len, cap, rfl⟩ := okWide_slice Tryd.underlying50 hv
 obtain ⟨fuel, hf⟩ := h
 rcases open_ints Tryd.underlying50 Tryd.underlying21 (show Tryd.prog.cellsOf 21 = 1 by kernel_rfl) hf with ⟨hcs, hx⟩ | ⟨a, len', cap', zs, hcs, _, hl, hm, hz, hx, hcell, hwz⟩
 · simp [Value.cells] at hcs
   obtain ⟨rfl, rfl, rfl⟩ := hcs
   exact ⟨[], none, _, rfl, fun i r h => by simp at h⟩
 · simp [Value.cells] at hcs
   obtain ⟨rfl, rfl, rfl⟩ := hcs
   simp only [if_true] at hz
   refine ⟨zs.take len, some a, cap, by rw [List.length_take, hz, Nat.min_eq_left hl], fun i r hr => ?_⟩
   have hi : i < len := by
    have := (List.getElem?_eq_some_iff.1 hr).1
    rw [List.length_take] at this
    omega
   obtain ⟨b, off, rfl, hc⟩ := ints_at hcell (by omega)
   refine ⟨b, off, rfl, ?_⟩
   rw [hc i (by omega)]
   rw [List.getElem?_take_of_lt hi] at hr
   rw [List.getD_eq_getElem?_getD, hr]
   rfl
theorem NfasTexts_any (nm : ByteArray) (o1 o2 : Int) (rs : List Nu.Rl) (v : Value) (w : World) (hG : Nu.GrV w nm o1 o2 rs v) (hT : Nf.Tab w) (l : List Int) (lv : Value) (hl : Gl.LiV w lv l) :
 Calls Tryd.prog 4 #[v, lv] w fun e w' => e = .returned (.bool true) ∧ Below w.heap.size w w' := by
 cases h : Nu.g5 nm rs with
 | true => exact Gl.Texts_great nm o1 o2 rs v w hG hT h l lv hl
 | false =>
  by_cases hll : l.length ≤ 12
  · exact Gl.Texts_small nm o1 o2 rs v w hG hT h l lv hl hll
  · obtain ⟨la, lc, rfl, _⟩ := hl
    exact Gl.Texts_long nm o1 o2 rs v w hG hT h la l.length lc (by omega)
set_option maxRecDepth 100000 in
theorem NfasTexts_laid : laidOutB Tryd.prog = true := by kernel_rfl
theorem NfasTexts_own : ownKnob Tryd.prog.godebug = none := by kernel_rfl
set_option maxRecDepth 100000 in
theorem NfasTexts_lifted (os : Os) (started : os.Started) (H : Type) (enc : TypeId × Value → H) :
 ReturnsInHanded {} Tryd.checked os 4 .any (fun w args => (Rows.nfasTextsSpec.pre enc Tryd.prog Tryd.f4 [] false w args ∧ laidMetH Tryd.prog laidL w) ∧ sizedMet enc Tryd.prog Tryd.f4 (OpenSpec.ofChange Rows.nfasTextsSpec) false w args)
  (Rows.nfasTextsSpec.post enc Tryd.prog Tryd.f4 false true false false) := by
 refine returnsInHanded_of_change_and (C := Tryd.checked) (X := fun w _ => laidMetH Tryd.prog laidL w) (fun _ _ _ hh h => h.of_heap hh) NfasTexts_own started (by kernel_rfl) Tryd.func4
  (ChangeSpec.witness_shaped (enc := enc) (C := Tryd.checked) (os := os) (X := fun w _ => laidMetH Tryd.prog laidL w) false (World.laidAll Tryd.prog os laidL) #[.agg #[.string ⟨#[]⟩, .int .i64 0, .int .i64 0, .slice none 0 0], .slice none 0 0] 8 (World.laidAll_os _ _ _)
   (World.shaped_of_ZipB (by kernel_rfl) (by kernel_rfl)) (by kernel_rfl) (by kernel_rfl) (by kernel_rfl)
   (by rw [MakeChecks.laidMetH_plain _ _ _ (by kernel_rfl)]; exact laidMet_laidAll _ (by kernel_rfl) (by kernel_rfl))) ?_
 intro W base args ds gs before hval0 hW _ hwt hL _
 have hval : ∀ (j : Nat) t v, Tryd.f4.params[j]? = some t → args[j]? = some v → Value.okWide Tryd.prog W .any base t v := hval0
 have hW' := hW
 obtain ⟨p, q, hA0, hV, rfl, _, _⟩ := hW
 have hA : DataW.TrodAll enc Tryd.prog W 0 (fun _ => true) true Tryd.f4.params.toList args.toList ds p := hA0
 rw [Tryd.params4] at hA hval
 obtain ⟨v0, v1, d0, d1, p0, p1, rfl, rfl, rfl, h0, h1⟩ := trodAll_two hA
 obtain ⟨rfl, rfl⟩ := trodVars_none hV
 clear hA0 hval0
 simp only [List.append_nil] at hW'
 have hlt0 : ∀ x ∈ p0, x.block < W.heap.size := fun x hx => by simpa using hW'.lt x (by simp [hx])
 have hlt1 : ∀ x ∈ p1, x.block < W.heap.size := fun x hx => by simpa using hW'.lt x (by simp [hx])
 have fin : Calls Tryd.prog 4 #[v0, v1] W (fun e w' => e = .returned (.bool true) ∧ Below W.heap.size W w') →
  Calls Tryd.checked.prog 4 #[v0, v1] W fun e W' => ∃ v, e = Ending.returned v ∧ Rows.nfasTextsSpec.post enc Tryd.checked.prog Tryd.f4 false true false false W #[v0, v1] v W' := by
  intro hc
  refine hc.mono fun e W' ⟨he, hb⟩ => ?_
  subst he
  exact ⟨_, rfl, _, _, _, [], p0 ++ p1, [], hW', trodAll_mk1 (shut_bool Tryd.underlying4 _), by
   have := trodAll_mk2 (Below.trod NfasTexts_laid (by kernel_rfl) (of_decide_eq_true (by kernel_rfl)) h0 hb hlt0) (Below.trod NfasTexts_laid (by kernel_rfl) (of_decide_eq_true (by kernel_rfl)) h1 hb hlt1)
   try simp only [List.append_nil] at this
   exact this, rfl, hb.frame _, fun h => by cases h⟩
 refine fin ?_
 have hE := tab_of_laid hL
 obtain ⟨fuel, hf⟩ := h0
 have hw0 : ∀ x ∈ d0.weights Tryd.prog 26, x ≤ reachBytes := fun x hx => by
  have := List.all_eq_true.1 hwt x (by rw [Tryd.params4]; simp [DataW.weightsEach]; exact Or.inl hx)
  simpa using this
 obtain ⟨nm, o1, o2, rs, ra, rc, hcs, hG⟩ := open_gram fuel _ d0 p0 hf hw0
 obtain rfl := agg_four8 hcs
 obtain ⟨l, hl⟩ := open_runes (hval 1 50 v1 rfl rfl) h1
 exact NfasTexts_any nm o1 o2 rs _ W hG hE l v1 hl

theorem NfasTexts_row : Rows.NfasTextsSaid :=
 OpenClaim.holds_of_wide 4 Tryd.f4 rfl rfl rfl rfl rfl rfl rfl ⟨rfl, rfl, rfl, rfl, rfl⟩ rfl rfl rfl rfl rfl (by kernel_rfl) Tryd.func4 (by kernel_rfl)
  (of_decide_eq_true (by kernel_rfl)) (by unfold Func.isWrapper; first | (rw [if_pos (by decide +kernel)]; kernel_rfl) | (rw [if_neg (by decide +kernel)]; exact ⟨rfl, rfl⟩))
  (fun os started H enc _ => NfasTexts_lifted os started H enc)
theorem NfasTexts_holds : Rows.NfasTextsCardSaid :=
 Claim7.holds_tied_plain_at .later [] [.data] true Rows.nfasTextsCard.stood.harness false
  NfasTexts_row (fun _ h => by cases h) (by kernel_rfl) (fun _ h => by cases h) nfasTexts_row_tie rfl ⟨rfl, rfl⟩ (by kernel_rfl) rfl
  (fun f fn hf hfn => by
   obtain rfl : f = 4 := Option.some.inj ((show Tryd.prog.funcNamed "harbinger/harbingerlaw08.NfasTexts" = some 4 by kernel_rfl).symm.trans hf) |>.symm
   obtain rfl : fn = Tryd.f4 := (Option.some.inj (Tryd.func4.symm.trans hfn)).symm
   exact ⟨by kernel_rfl, fun j t ht => by
    rw [Tryd.params4] at ht
    have hm : t ∈ [26, 50] := by simpa using Array.mem_of_getElem? ht
    have hall : ([26, 50].all fun u => !Tryd.prog.wantsStandIn u) = true := by kernel_rfl
    exact (show Tryd.prog.wantsStandIn t = false by simpa using List.all_eq_true.1 hall t hm)⟩)
  (by kernel_rfl)
#print axioms NfasTexts_holds
end Go.Proofs.YtiinkhmgemoamaaDoor
