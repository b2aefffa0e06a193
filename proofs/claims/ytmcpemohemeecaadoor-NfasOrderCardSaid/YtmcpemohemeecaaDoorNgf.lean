/- What is read at the type of a grammar is one: the opening of a grammar that is handed in. NfasOrder of harbingerlaw08 returns true for every grammar (its names, texts and lists, and those of all that is in it, of whatever length a machine holds), and leaves all memory that was there as it was. The listed variable (a table of math/bits) is as the program's text lays it: the card ties that. No further condition. -/
import Derived.Test.YtmcpemohemeecaaDoorNdo
import Derived.Test.YtmcpemohemeecaaDoorNuB
import Derived.Test.YtmcpemohemeecaaDoorNh4
import Derived.Test.YtmcpemohemeecaaDoorChecked
import Derived.Test.YtmcpemohemeecaaDoorRows
import Derived.Test.YtmcpemohemeecaaDoorCards
import Derived.Test.YtmcpemohemeecaaDoorTie
import Derived.PinnedBridge
import Derived.Lib.LaidU8
import Derived.Lib.LaidTab
import Derived.LaidMore
import Derived.Stop.Joined
import Derived.ProofKit
import Derived.OpenShut
import Derived.Lay
import Derived.SizedLaws
import Derived.ChangeSlices
import Derived.ChangeArms
import Derived.Carry
namespace Go.Proofs.YtmcpemohemeecaaDoor
open Go Go.RowKit Nu

theorem four_cells {α : Type} {l : List α} (h : l.length = 4) : ∃ a b c d, l = [a, b, c, d] := by
  match l, h with
  | [a, b, c, d], _ => exact ⟨a, b, c, d, rfl⟩
theorem three_cells {α : Type} {l : List α} (h : l.length = 3) : ∃ a b c, l = [a, b, c] := by
  match l, h with
  | [a, b, c], _ => exact ⟨a, b, c, rfl⟩
theorem ten_cells {α : Type} {l : List α} (h : l.length = 10) : ∃ a b c d e f g i j k, l = [a, b, c, d, e, f, g, i, j, k] := by
  match l, h with
  | [a, b, c, d, e, f, g, i, j, k], _ => exact ⟨a, b, c, d, e, f, g, i, j, k, rfl⟩
theorem RuL_of {w : World} : ∀ (len b o : Nat), (∀ i, i < len → ∃ r : Nu.Rl, RuC w r b (o + i * 10)) → ∃ rs : List Nu.Rl, rs.length = len ∧ RuL w rs (some ⟨b, o, none⟩)
  | 0, _, _, _ => ⟨[], rfl, fun i r h => by simp at h⟩
  | len + 1, b, o, h => by
    obtain ⟨rs, hl, hr⟩ := RuL_of len b o fun i hi => h i (by omega)
    obtain ⟨r, hrc⟩ := h len (by omega)
    refine ⟨rs ++ [r], by simp [hl], fun i q hq => ?_⟩
    by_cases hi : i < rs.length
    · rw [List.getElem?_append_left hi] at hq
      exact hr i q hq
    · rw [List.getElem?_append_right (by omega)] at hq
      have h0 : i - rs.length = 0 := by
        rcases Nat.eq_zero_or_pos (i - rs.length) with h | h
        · exact h
        · rw [List.getElem?_eq_none (by simp; omega)] at hq; cases hq
      rw [h0] at hq
      injection hq with hq
      subst hq
      obtain rfl : i = len := by omega
      exact ⟨b, o, rfl, hrc⟩
section
variable {H : Type} {enc : TypeId × Value → H} {W : World}
theorem bytes_rule : 1 ≤ Tryd.prog.bytesOf 38 := by decide +kernel
theorem cells_sort : Tryd.prog.cellsOf 29 = 1 := by kernel_rfl
theorem cells_int : Tryd.prog.cellsOf 3 = 1 := by kernel_rfl
theorem cells_pos : Tryd.prog.cellsOf 36 = 3 := by kernel_rfl
theorem cells_opts : Tryd.prog.cellsOf 23 = 2 := by kernel_rfl
theorem cells_rule : Tryd.prog.cellsOf 38 = 10 := by kernel_rfl
theorem cells_rules : Tryd.prog.cellsOf 24 = 1 := by kernel_rfl
theorem cells_gram : Tryd.prog.cellsOf 26 = 4 := by kernel_rfl
/-- What is read as a rule is one. -/
theorem open_rule (fuel : Nat) (cs : List Value) (d : DataW H) (p : List MemPlace) (h : DataW.trod enc Tryd.prog W 0 (fun _ => true) true fuel 38 cs = some (d, p)) (hw : ∀ x ∈ d.weights Tryd.prog 38, x ≤ reachBytes) :
    ∃ (r : Nu.Rl) (v0 v1 v2 v3 v4 : Value), cs = [.string r.name, .int .u8 r.sort, v0, v1, v2, v3, v4, .int .i64 r.p0, .int .i64 r.p1, .int .i64 r.p2] ∧ Nd.At W r.body (.agg #[v0, v1, v2, v3, v4]) ∧ (0 ≤ r.sort ∧ r.sort < 256) ∧ r.name.size ≤ 140737488351232 := by
  obtain ⟨xs, n, hn, hx, hl, hxl, hf⟩ := DataW.trod_struct Tryd.underlying38 h
  rw [cells_rule] at hl
  obtain ⟨c0, c1, c2, c3, c4, c5, c6, c7, c8, c9, rfl⟩ := ten_cells hl
  obtain ⟨y0, y1, y2, y3, rfl⟩ := four_cells hxl
  have f0 := hf 0 _ rfl
  have f1 := hf 1 _ rfl
  have f2 := hf 2 _ rfl
  have f3 := hf 3 _ rfl
  simp [cells_sort, cells_str, cells_node, cells_pos] at f0 f1 f2 f3
  simp only [Prod.mk.injEq] at hx
  obtain ⟨rfl, _⟩ := hx
  obtain ⟨nm, e0, r0, _⟩ := DataW.trod_string (x := y0) Tryd.underlying9 f0
  obtain ⟨s, e1, _, ws⟩ := DataW.trod_int (x := y1) Tryd.underlying29 f1
  have hw0 : nm.size ≤ 140737488351232 := hw nm.size (by rw [r0]; simp [DataW.weights, Tryd.underlying38, DataW.weightsEach])
  obtain ⟨t, v0, v1, v2, v3, v4, e2, hA⟩ := open_node _ _ y2.1 y2.2 f2 fun x hx => hw x (by simp [DataW.weights, Tryd.underlying38, DataW.weightsEach, hx])
  obtain ⟨zs, m, _, _, hzl, hzz, hg⟩ := DataW.trod_struct Tryd.underlying36 f3
  obtain ⟨z0, z1, z2, rfl⟩ := three_cells hzz
  have g0 := hg 0 _ rfl
  have g1 := hg 1 _ rfl
  have g2 := hg 2 _ rfl
  simp [cells_int] at g0 g1 g2
  obtain ⟨p0, q0, _, _⟩ := DataW.trod_int (x := z0) Tryd.underlying3 g0
  obtain ⟨p1, q1, _, _⟩ := DataW.trod_int (x := z1) Tryd.underlying3 g1
  obtain ⟨p2, q2, _, _⟩ := DataW.trod_int (x := z2) Tryd.underlying3 g2
  simp only [List.cons.injEq, and_true] at e0 e1 e2 q0 q1 q2
  have hs := bounds_u8 ws
  obtain ⟨rfl, rfl, rfl, rfl, rfl⟩ := e2
  subst e0
  subst e1
  subst q0
  subst q1
  subst q2
  exact ⟨⟨nm, s, t, p0, p1, p2⟩, _, _, _, _, _, rfl, hA, (show 0 ≤ s ∧ s < 256 by omega), hw0⟩
/-- What is read as rules. -/
theorem open_rules {fuel : Nat} {v : Value} {d : DataW H} {p : List MemPlace} (h : DataW.trod enc Tryd.prog W 0 (fun _ => true) true fuel 24 [v] = some (d, p)) (hw : ∀ x ∈ d.weights Tryd.prog 24, x ≤ reachBytes) :
    ∃ (a : Option Addr) (rs : List Nu.Rl) (c : Nat), v = .slice a rs.length c ∧ (rs.length ≤ c ∧ rs.length ≤ 140737488351232) ∧ RuL W rs a := by
  rcases DataW.trod_slice Tryd.underlying24 h with ⟨hv, _⟩ | ⟨a, len, cap, elems, rest, m, hm, hv, hx, _, hlc, _, hel, hcell, hrest, _⟩
  · simp only [List.cons.injEq, and_true] at hv
    exact ⟨none, [], 0, by simpa using hv, ⟨Nat.le_refl _, by simp⟩, fun i r hr => by simp at hr⟩
  · simp only [List.cons.injEq, and_true] at hv
    have hx1 : d = .slice (elems.map (·.1)) (rest.map (·.1)) := congrArg Prod.fst hx
    have hlw : len ≤ 140737488351232 := by
      have := hw ((elems.length + rest.length) * Tryd.prog.bytesOf 38) (by rw [hx1]; simp [DataW.weights, Tryd.underlying24])
      have := Nat.mul_le_mul_left (elems.length + rest.length) bytes_rule
      unfold reachBytes at *
      omega
    by_cases h0 : len = 0
    · subst h0
      exact ⟨some a, [], cap, by simpa using hv, ⟨by simp, by simp⟩, fun i r hr => by simp at hr⟩
    obtain ⟨b, o, rfl⟩ : ∃ b o, a = ⟨b, o, none⟩ := by
      have key := hcell 0 (by omega)
      rw [List.getElem?_eq_getElem (by omega)] at key
      obtain ⟨cs', h1, _⟩ := Option.bind_eq_some_iff.1 key
      rw [Nat.zero_mul] at h1
      exact cells_spot (a := a) (by simpa [Addr.add] using h1) (by rw [cells_rule]; omega)
    obtain ⟨rs, hl, hr⟩ := RuL_of (w := W) len b o fun i hi => by
      have key := hcell i hi
      rw [List.getElem?_eq_getElem (by omega), cells_rule] at key
      obtain ⟨cs', h1, h2⟩ := Option.bind_eq_some_iff.1 key
      obtain ⟨_, hc⟩ := cells_plain h1
      obtain ⟨r, u0, u1, u2, u3, u4, rfl, hA, hs, hn⟩ := open_rule m cs' (elems[i]'(by omega)).1 (elems[i]'(by omega)).2 h2 fun x hx => hw x (by
        rw [hx1]
        simp only [DataW.weights, Tryd.underlying24, List.mem_cons, List.mem_append]
        exact Or.inr (Or.inl (weightsAll_mem (List.mem_map_of_mem (List.getElem_mem _)) hx)))
      exact ⟨r, u0, u1, u2, u3, u4, hc 0 (by omega), hc 1 (by omega), hc 2 (by omega), hc 3 (by omega), hc 4 (by omega), hc 5 (by omega), hc 6 (by omega), hc 7 (by omega), hc 8 (by omega), hc 9 (by omega), hA, hs, hn⟩
    subst hl
    exact ⟨some ⟨b, o, none⟩, rs, cap, by simpa using hv, ⟨hlc, hlw⟩, hr⟩
/-- What is read as a grammar is one. -/
theorem open_gram (fuel : Nat) (cs : List Value) (d : DataW H) (p : List MemPlace) (h : DataW.trod enc Tryd.prog W 0 (fun _ => true) true fuel 26 cs = some (d, p)) (hw : ∀ x ∈ d.weights Tryd.prog 26, x ≤ reachBytes) :
    ∃ (nm : ByteArray) (o1 o2 : Int) (rs : List Nu.Rl) (ra : Option Addr) (rc : Nat), cs = [.string nm, .int .i64 o1, .int .i64 o2, .slice ra rs.length rc] ∧ GrV W nm o1 o2 rs (.agg #[.string nm, .int .i64 o1, .int .i64 o2, .slice ra rs.length rc]) := by
  obtain ⟨xs, n, hn, hx, hl, hxl, hf⟩ := DataW.trod_struct Tryd.underlying26 h
  rw [cells_gram] at hl
  obtain ⟨c0, c1, c2, c3, rfl⟩ := four_cells hl
  obtain ⟨y0, y1, y2, rfl⟩ := three_cells hxl
  have f0 := hf 0 _ rfl
  have f1 := hf 1 _ rfl
  have f2 := hf 2 _ rfl
  simp [cells_str, cells_opts, cells_rules] at f0 f1 f2
  simp only [Prod.mk.injEq] at hx
  obtain ⟨rfl, _⟩ := hx
  obtain ⟨nm, e0, r0, _⟩ := DataW.trod_string (x := y0) Tryd.underlying9 f0
  have hw0 : nm.size ≤ 140737488351232 := hw nm.size (by rw [r0]; simp [DataW.weights, Tryd.underlying26, DataW.weightsEach])
  obtain ⟨zs, m, _, _, _, hzz, hg⟩ := DataW.trod_struct Tryd.underlying23 f1
  obtain ⟨z0, z1, rfl⟩ := two_cells hzz
  have g0 := hg 0 _ rfl
  have g1 := hg 1 _ rfl
  simp [cells_int] at g0 g1
  obtain ⟨o1, q0, _, _⟩ := DataW.trod_int (x := z0) Tryd.underlying3 g0
  obtain ⟨o2, q1, _, _⟩ := DataW.trod_int (x := z1) Tryd.underlying3 g1
  obtain ⟨ra, rs, rc, e2, hl2, hR⟩ := open_rules (d := y2.1) (p := y2.2) f2 fun x hx => hw x (by simp [DataW.weights, Tryd.underlying26, DataW.weightsEach, hx])
  simp only [List.cons.injEq, and_true] at e0 q0 q1
  subst e0
  subst q0
  subst q1
  subst e2
  exact ⟨nm, o1, o2, rs, ra, rc, rfl, ra, rc, rfl, hw0, hl2, hR⟩
end
end Go.Proofs.YtmcpemohemeecaaDoor
namespace Go.Proofs.YtmcpemohemeecaaDoor
open Go Go.RowKit Go.ChangeShapes Go.WideShapes Go.ChangeAt Go.WideMaps Go.WideElems
open Go.ChangeMaps (setBlock shut_map_nil open_string shut_string keptBut_setBlock frozen?_setBlock heap_setBlock_same)

abbrev laidL : List (String × DataW Unit) := [("math/bits.deBruijn64tab", Rows.laid_math_bits_deBruijn64tab)]
theorem gBruijn : Tryd.prog.globalNamed "math/bits.deBruijn64tab" = some 0 := by kernel_rfl
theorem yBruijn : (Tryd.prog.globals[0]?).map (·.type) = some 125 := by kernel_rfl
theorem bruijn_eq : (Rows.laid_math_bits_deBruijn64tab : DataW Unit) = Lib.tabData .u8 (Lib.deBruijn64tab.map fun (n : Nat) => (n : Int)) := by rfl
theorem tab_of_laid {W : World} (hL : laidMetH Tryd.prog laidL W) : Nf.Tab W := by
  rw [MakeChecks.laidMetH_plain _ _ _ (by kernel_rfl)] at hL
  have rB := Lib.laidMet.reads hL (n := "math/bits.deBruijn64tab") (d := Rows.laid_math_bits_deBruijn64tab) (by simp [laidL])
  rw [bruijn_eq] at rB
  obtain ⟨g3, t3, c3, f3, p3, hg3, ht3, hv3, hd3⟩ := rB
  obtain rfl := Option.some.inj (gBruijn.symm.trans hg3)
  obtain rfl := Option.some.inj (yBruijn.symm.trans ht3)
  have hcs := Lib.cells_of_tab Tryd.underlying125 Tryd.underlying5 (by kernel_rfl) (by kernel_rfl) hd3
  intro j hj
  have := World.var?_cell hg3 hv3 j
  rw [this, ← Array.getElem?_toList, hcs]
  have hl : Lib.deBruijn64tab.length = 64 := by rfl
  rw [List.getElem?_map, List.getElem?_map, List.getD_eq_getElem?_getD, List.getElem?_eq_getElem (by omega)]
  rfl
theorem NfasOrder_any (nm : ByteArray) (o1 o2 : Int) (rs : List Nu.Rl) (v : Value) (w : World) (hG : Nu.GrV w nm o1 o2 rs v) (hT : Nf.Tab w) :
    Calls Tryd.prog 3 #[v] w fun e w' => e = .returned (.bool true) ∧ Below w.heap.size w w' := by
  cases h : Nu.g5 nm rs with
  | true => exact Nf.Order_lives nm o1 o2 rs v w hG hT h
  | false => exact Nf.Order_small nm o1 o2 rs v w hG hT h
theorem agg_four8 {v a b c d : Value} (h : v.cells.toList = [a, b, c, d]) : v = .agg #[a, b, c, d] := by
  cases v <;> simp [Value.cells] at h
  rename_i cs
  obtain ⟨l⟩ := cs
  simp_all
set_option maxRecDepth 100000 in
theorem NfasOrder_laid : laidOutB Tryd.prog = true := by kernel_rfl
theorem NfasOrder_own : ownKnob Tryd.prog.godebug = none := by kernel_rfl
set_option maxRecDepth 100000 in
theorem NfasOrder_lifted (os : Os) (started : os.Started) (H : Type) (enc : TypeId × Value → H) :
    ReturnsInHanded {} Tryd.checked os 3 .any (fun w args => (Rows.nfasOrderSpec.pre enc Tryd.prog Tryd.f3 [] false w args ∧ laidMetH Tryd.prog laidL w) ∧ sizedMet enc Tryd.prog Tryd.f3 (OpenSpec.ofChange Rows.nfasOrderSpec) false w args)
      (Rows.nfasOrderSpec.post enc Tryd.prog Tryd.f3 false true false false) := by
  refine returnsInHanded_of_change_and (C := Tryd.checked) (X := fun w _ => laidMetH Tryd.prog laidL w) (fun _ _ _ hh h => h.of_heap hh) NfasOrder_own started (by kernel_rfl) Tryd.func3
    (ChangeSpec.witness_shaped (enc := enc) (C := Tryd.checked) (os := os) (X := fun w _ => laidMetH Tryd.prog laidL w) false (World.laidAll Tryd.prog os laidL) #[.agg #[.string ⟨#[]⟩, .int .i64 0, .int .i64 0, .slice none 0 0]] 8 (World.laidAll_os _ _ _)
      (World.shaped_of_ZipB (by kernel_rfl) (by kernel_rfl)) (by kernel_rfl) (by kernel_rfl) (by kernel_rfl)
      (by rw [MakeChecks.laidMetH_plain _ _ _ (by kernel_rfl)]; exact laidMet_laidAll _ (by kernel_rfl) (by kernel_rfl))) ?_
  intro W base args ds gs before hval0 hW _ hwt hL _
  have hval : ∀ (j : Nat) t v, Tryd.f3.params[j]? = some t → args[j]? = some v → Value.okWide Tryd.prog W .any base t v := hval0
  have hW' := hW
  obtain ⟨p, q, hA0, hV, rfl, _, _⟩ := hW
  have hA : DataW.TrodAll enc Tryd.prog W 0 (fun _ => true) true Tryd.f3.params.toList args.toList ds p := hA0
  rw [Tryd.params3] at hA hval
  obtain ⟨v0, d0, rfl, rfl, h0⟩ := trodAll_one hA
  obtain ⟨rfl, rfl⟩ := trodVars_none hV
  clear hA0 hval0
  simp only [List.append_nil] at hW'
  have hlt0 : ∀ x ∈ p, x.block < W.heap.size := fun x hx => by simpa using hW'.lt x (by simp [hx])
  have fin : Calls Tryd.prog 3 #[v0] W (fun e w' => e = .returned (.bool true) ∧ Below W.heap.size W w') →
      Calls Tryd.checked.prog 3 #[v0] W fun e W' => ∃ v, e = Ending.returned v ∧ Rows.nfasOrderSpec.post enc Tryd.checked.prog Tryd.f3 false true false false W #[v0] v W' := by
    intro hc
    refine hc.mono fun e W' ⟨he, hb⟩ => ?_
    subst he
    exact ⟨_, rfl, _, _, _, [], p, [], hW', trodAll_mk1 (shut_bool Tryd.underlying4 _), by
      have := trodAll_mk1 (Below.trod NfasOrder_laid (by kernel_rfl) (of_decide_eq_true (by kernel_rfl)) h0 hb hlt0)
      try simp only [List.append_nil] at this
      exact this, rfl, hb.frame _, fun h => by cases h⟩
  refine fin ?_
  have hE := tab_of_laid hL
  obtain ⟨fuel, hf⟩ := h0
  have hw0 : ∀ x ∈ d0.weights Tryd.prog 26, x ≤ reachBytes := fun x hx => by
    have := List.all_eq_true.1 hwt x (by rw [Tryd.params3]; simp [DataW.weightsEach]; exact hx)
    simpa using this
  obtain ⟨nm, o1, o2, rs, ra, rc, hcs, hG⟩ := open_gram fuel _ d0 p hf hw0
  obtain rfl := agg_four8 hcs
  exact NfasOrder_any nm o1 o2 rs _ W hG hE

theorem NfasOrder_row : Rows.NfasOrderSaid :=
  OpenClaim.holds_of_wide 3 Tryd.f3 rfl rfl rfl rfl rfl rfl rfl ⟨rfl, rfl, rfl, rfl, rfl⟩ rfl rfl rfl rfl rfl (by kernel_rfl) Tryd.func3 (by kernel_rfl)
    (of_decide_eq_true (by kernel_rfl)) (by unfold Func.isWrapper; first | (rw [if_pos (by decide +kernel)]; kernel_rfl) | (rw [if_neg (by decide +kernel)]; exact ⟨rfl, rfl⟩))
    (fun os started H enc _ => NfasOrder_lifted os started H enc)
theorem NfasOrder_holds : Rows.NfasOrderCardSaid :=
  Claim7.holds_tied_plain_at .later [] [.data] true Rows.nfasOrderCard.stood.harness false
    NfasOrder_row (fun _ h => by cases h) (by kernel_rfl) (fun _ h => by cases h) nfasOrder_row_tie rfl ⟨rfl, rfl⟩ (by kernel_rfl) rfl
    (fun f fn hf hfn => by
      obtain rfl : f = 3 := Option.some.inj ((show Tryd.prog.funcNamed "harbinger/harbingerlaw08.NfasOrder" = some 3 by kernel_rfl).symm.trans hf) |>.symm
      obtain rfl : fn = Tryd.f3 := (Option.some.inj (Tryd.func3.symm.trans hfn)).symm
      exact ⟨by kernel_rfl, fun j t ht => by
        rw [Tryd.params3] at ht
        have hm : t ∈ [26] := by simpa using Array.mem_of_getElem? ht
        have hall : ([26].all fun u => !Tryd.prog.wantsStandIn u) = true := by kernel_rfl
        exact (show Tryd.prog.wantsStandIn t = false by simpa using List.all_eq_true.1 hall t hm)⟩)
    (by kernel_rfl)
#print axioms NfasOrder_holds
end Go.Proofs.YtmcpemohemeecaaDoor
