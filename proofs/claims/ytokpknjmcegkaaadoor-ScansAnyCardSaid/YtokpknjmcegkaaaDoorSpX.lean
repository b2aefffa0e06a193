/- The walk of ScansPlaces: texts that are read. -/
import Derived.Test.YtokpknjmcegkaaaDoorSpW
import Derived.Deep.DeepCutAuto
namespace Go.Proofs.YtokpknjmcegkaaaDoor
open Go Go.RowKit Ru
set_option maxRecDepth 100000

/-- What ScansPlaces asks of each word. -/
def Stand (s : ByteArray) (ds : List Sc.W) : Prop := ∀ (i : Nat) (d : Sc.W), ds[i]? = some d → d.pos < s.size ∧ (∀ (e : Sc.W), ds[i - 1]? = some e → 0 < i → e.pos < d.pos) ∧ (d.kind = 0 ∨ d.kind = 1 ∨ d.kind = 4 ∨ d.kind = 2 ∨ d.kind = 3) ∧
  ((d.kind = 0 ∨ d.kind = 1 ∨ d.kind = 4) → d.pos + d.text.length ≤ s.size ∧ d.text ≠ [] ∧ s.extract d.pos (d.pos + d.text.length) = ⟨d.text.toArray⟩)
theorem Stand.of {s : ByteArray} {ds : List Sc.W} (h : Sc.scanL s.data.toList = .ok ds) : Stand s ds := by
  intro i d hd
  obtain ⟨_, _, h2⟩ := Sc.scanL_ok h
  obtain ⟨a1, a2, ⟨z, a3⟩, a4⟩ := Sc.scan_words _ _ _ _ (Nat.le_refl _) h2 i d hd
  rw [Nat.zero_add, ← Lib.size_eq] at a2
  rw [Nat.sub_zero] at a3
  obtain ⟨b1, _, _, b4, _⟩ := Sc.wordR_is a3
  obtain ⟨c1, c2, _⟩ := Sc.wordR_ok a3
  rw [List.length_drop, ← Lib.size_eq] at c2
  refine ⟨a2, fun e he hi => a4 (i - 1) e (by omega) he, b1, fun hk => ?_⟩
  obtain ⟨e1, e2, _⟩ := b4 hk
  refine ⟨by omega, ?_, ?_⟩
  · intro h0
    rw [h0] at e1
    simp at e1
    omega
  · have hx : (s.extract d.pos (d.pos + d.text.length)).data.toList = d.text := by
      rw [Lib.extract_data, e1, Nat.add_sub_cancel_left]
      exact e2.symm
    have e : ∀ b : ByteArray, b = ⟨b.data.toList.toArray⟩ := fun b => by cases b; simp
    rw [e (s.extract d.pos (d.pos + d.text.length)), hx]
theorem Stand.len {s : ByteArray} {ds : List Sc.W} (h : Stand s ds) : ds.length ≤ s.size := by
  have key : ∀ i, i < ds.length → ∀ d, ds[i]? = some d → i ≤ d.pos := by
    intro i
    induction i with
    | zero => intro _ d _; omega
    | succ i ih =>
      intro hi d hd
      have he : ds[i]? = some (ds[i]'(by omega)) := List.getElem?_eq_getElem (by omega)
      have h1 := ih (by omega) _ he
      have h2 := (h (i + 1) d hd).2.1 _ (by rw [Nat.add_sub_cancel]; exact he) (by omega)
      omega
  rcases Nat.eq_zero_or_pos ds.length with h0 | h0
  · omega
  · have he : ds[ds.length - 1]? = some (ds[ds.length - 1]'(by omega)) := List.getElem?_eq_getElem (by omega)
    have h1 := key _ (by omega) _ he
    have h2 := (h _ _ he).1
    omega
theorem text_full {T : ByteArray} (h : T.data.toList ≠ []) : ¬ T.toList = [] := by rw [ByteArray.toList_eq]; exact h
theorem scanF_pos : ∀ (f : Nat) (l : List UInt8) (k c p : Nat), l.length ≤ f → Sc.scanF f l k = .err c p → p ≤ k + l.length
  | 0, _, _, _, _, _, h => by
    have h : Sc.SR.ok [] = _ := h
    cases h
  | f + 1, l, k, c, p, hf, h => by
    have hg := Sc.gapL_le _ l (Nat.le_refl _)
    unfold Sc.scanF at h
    split at h
    · injection h with _ h; omega
    split at h
    · cases h
    split at h
    · injection h with _ h; omega
    · rename_i kd t st z hw
      obtain ⟨h1, h2, _⟩ := Sc.wordR_ok hw
      rw [List.length_drop] at h2
      cases hr : Sc.scanF f (l.drop ((Sc.gapL l).1 + z)) (k + (Sc.gapL l).1 + z) with
      | err c2 p2 =>
        rw [hr] at h
        injection h with h3 h4
        subst h3 h4
        have := scanF_pos f _ _ _ _ (by rw [List.length_drop]; omega) hr
        rw [List.length_drop] at this
        omega
      | ok ws => rw [hr] at h; cases h
def AtI (N : Nat) (W1 : World) (a : Value) (wr : World) : Prop := ∃ i : Nat, i ≤ N ∧ a = .int .i64 i ∧ Below W1.heap.size W1 wr
set_option maxHeartbeats 8000000 in
theorem Places2_ok (s : ByteArray) (w : World) (hE : EnvS w) (hs : s.size ≤ 2000) (ds : List Sc.W) (hst : Stand s ds)
    (CS : Calls Tryd.prog 8 #[.string s] w fun e w' => (∃ v, e = .returned (.tuple #[v, .agg #[.int .i64 0, .int .i64 0, .int .i64 0, .int .i64 0]]) ∧ Words w' (w.heap.size + 1) v s.data.toList ds) ∧ Below w.heap.size w w') :
    Calls Tryd.prog 6 #[.string s] w fun e w' => e = .returned (.bool true) ∧ Below w.heap.size w w' := by
  have HE := Lib.hid hE
  have h0 : ¬ (2000 : Int) < (s.size : Int) := by omega
  have HST := Lib.hid hst
  have hN := hst.len
  obtain ⟨N, hNe⟩ : ∃ N, ds.length = N := ⟨_, rfl⟩
  have HN := Lib.hid hNe
  rw [hNe] at hN
  replace CS := Lib.hid CS
  clear hE hst hNe
  go_enter Tryd.func6, Tryd.ntmps6
  go_wp2_with fail
  refine CS.out.mono ?_
  rintro e w1 ⟨⟨v, rfl, hW⟩, b1⟩
  obtain ⟨A, cap, hv, _⟩ := hW.choose_spec.2.1.form
  rw [HN.out] at hv
  subst hv
  have HB1 := Lib.hid b1
  have E1 := Lib.hid ((HE.out.below b1).alloc (.cells #[.int .i64 0, .int .i64 0, .int .i64 0, .int .i64 0] 28))
  have HW := Lib.hid (hW.below ((Below.refl _ _).alloc (Nat.le_refl _) (.cells #[.int .i64 0, .int .i64 0, .int .i64 0, .int .i64 0] 28)))
  have HF := Lib.hid (Bk.made w1 28 #[.int .i64 0, .int .i64 0, .int .i64 0, .int .i64 0])
  clear b1 hW
  go_wp2_with fail
  go_loopw [5] (fun a wr => AtI N (w1.alloc (.cells #[.int .i64 0, .int .i64 0, .int .i64 0, .int .i64 0] 28)) a wr) (fun a _ => N - (intOf a).toNat)
  case atStart => exact ⟨0, Nat.zero_le _, rfl, Below.refl _ _⟩
  case round =>
    obtain ⟨i, hi, rfl, hb⟩ := hrel
    have HB := Lib.hid hb
    have HFr := Lib.hid (HF.out.below hb (by simp))
    have sF := HFr.out.lt
    by_cases hlt : i < N
    · have d0 : decide (i < N) = true := by rw [decide_eq_true_iff]; exact hlt
      have hd : ∃ d, ds[i]? = some d := ⟨ds[i]'(by rw [HN.out]; exact hlt), List.getElem?_eq_getElem _⟩
      obtain ⟨d, hd⟩ := hd
      obtain ⟨g, rfl, _, sg0, hc⟩ := (HW.out.below hb).at (by rw [HN.out]; omega)
      obtain ⟨sv, _, c0, c1, _, c3, c4, c5⟩ := hc i d hd
      obtain ⟨q1, q2, q3, q4⟩ := HST.out i d hd
      have HQ := Lib.hid hc
      have HD := Lib.hid hd
      obtain ⟨P, hP⟩ : ∃ P, d.pos = P := ⟨_, rfl⟩
      obtain ⟨T, hT⟩ : ∃ T : ByteArray, (⟨d.text.toArray⟩ : ByteArray) = T := ⟨_, rfl⟩
      have hTs : T.size = d.text.length := by rw [← hT]; rfl
      have CP := fun w => Place_any s P w (by omega) P (by omega)
      obtain ⟨L, hL⟩ : ∃ L : Int, ((place (s.data.toList.take P)).1 : Int) = L := ⟨_, rfl⟩
      obtain ⟨C, hC⟩ : ∃ C : Int, ((place (s.data.toList.take P)).2 : Int) = C := ⟨_, rfl⟩
      rw [hP] at c3 c4 c5 q1 q2 q4
      rw [hL] at c4 CP
      rw [hC] at c5 CP
      rw [hT] at c1 q4
      rw [← hTs] at q4
      have hne := fun h => (q4 h).2.1
      replace CP := Lib.hid CP
      have HQ2 := Lib.hid q2
      have HQ4 := Lib.hid q4
      have HNE := Lib.hid hne
      have HTT := Lib.hid hT
      have HTS := Lib.hid hTs
      have tP : decide (s.size ≤ P) = false := by rw [decide_eq_false_iff_not]; omega
      have tP2 : ¬ s.size ≤ P := by omega
      clear hb hc hd q2 q4 hne hT hTs hL hC
      go_upto_region 10 with fail
      go_cut [78] (fun s78 wx => s78 = .bool false ∧ Below (wr.heap.size + 1) (wr.alloc (.cells #[.int .i64 P, .int .i64 L, .int .i64 C] 26)) wx)
      case first =>
        by_cases h0i : 0 < i
        · obtain ⟨d', hd'⟩ : ∃ d', ds[i - 1]? = some d' := ⟨ds[i - 1]'(by rw [HN.out]; omega), List.getElem?_eq_getElem _⟩
          obtain ⟨_, _, _, _, _, x3, _⟩ := HQ.out (i - 1) d' hd'
          have hlt' := HQ2.out d' hd' h0i
          obtain ⟨P', hP'⟩ : ∃ P', d'.pos = P' := ⟨_, rfl⟩
          rw [hP'] at x3 hlt'
          have ti : decide (0 < i) = true := by rw [decide_eq_true_iff]; exact h0i
          have tj : decide (P ≤ P') = false := by rw [decide_eq_false_iff_not]; omega
          have tj2 : ¬ P ≤ P' := by omega
          have X3 := Lib.hid x3
          have j0 : (0 : Int) ≤ (i : Int) - 1 := by omega
          have j1 : (i : Int) - 1 < (N : Int) := by omega
          have j2 : IntKind.i64.wrap ((i : Int) - 1) = (i : Int) - 1 := IntWalk.i64_in _ (by omega)
          have j3 : ((i : Int) - 1).toNat = i - 1 := by omega
          have j4 : (1 : Int) ≤ (i : Int) := by omega
          clear hd'
          go_region_held3 (fun w' => w'.cell? ⟨wr.heap.size, 0, none⟩ = some (.int .i64 P) ∧ w'.cell? ⟨wr.heap.size, 1, none⟩ = some (.int .i64 L) ∧ w'.cell? ⟨wr.heap.size, 2, none⟩ = some (.int .i64 C) ∧ w'.cell? ⟨g, (i - 1) * 6 + 3, none⟩ = some (.int .i64 P')) (go_keep)
            (first | (go_at_call 14; refine (CP.out _).mono ?_; rintro e w2 ⟨rfl, b2⟩; have k0 : w2.cell? ⟨wr.heap.size, 0, none⟩ = some (.int .i64 P) := (b2.cell (p := ⟨wr.heap.size, 0, none⟩) (by simp <;> omega)).trans (by simp [*]); have k1 : w2.cell? ⟨wr.heap.size, 1, none⟩ = some (.int .i64 L) := (b2.cell (p := ⟨wr.heap.size, 1, none⟩) (by simp <;> omega)).trans (by simp [*]); have k2 : w2.cell? ⟨wr.heap.size, 2, none⟩ = some (.int .i64 C) := (b2.cell (p := ⟨wr.heap.size, 2, none⟩) (by simp <;> omega)).trans (by simp [*]); have k3 : w2.cell? ⟨g, (i - 1) * 6 + 3, none⟩ = some (.int .i64 P') := (b2.cell (p := ⟨g, (i - 1) * 6 + 3, none⟩) (by simp <;> omega)).trans (by simp [*])))
          have b3 : Below (wr.alloc (.cells #[.int .i64 P, .int .i64 L, .int .i64 C] 26)).heap.size (wr.alloc (.cells #[.int .i64 P, .int .i64 L, .int .i64 C] 26)) w2 := ⟨b2.os, b2.tape, b2.output, b2.size, b2.block⟩
          rw [World.size_alloc] at b3
          have HB3 := Lib.hid b3
          clear b2 b3
          go_wp2_with fail
          go_meet
          exact ⟨rfl, HB3.out⟩
        · obtain rfl : i = 0 := by omega
          clear h0i
          refine wp_region_held_drew (S := (fun w' => w'.cell? ⟨wr.heap.size, 0, none⟩ = some (.int .i64 P) ∧ w'.cell? ⟨wr.heap.size, 1, none⟩ = some (.int .i64 L) ∧ w'.cell? ⟨wr.heap.size, 2, none⟩ = some (.int .i64 C))) (by kernel_rfl) ?_ (fun hHeld => ?_)
          · go_keep
          refine wpAnyH_take (i := 0) (oi := { dst := some 50, op := Go.Op.load 26 (Go.Operand.tmp 6), type := 26, pos := "outright.go:88", after := #[], guard := none }) (v := ?_) rfl (by kernel_rfl) (by kernel_rfl) (by kernel_rfl) (fun _ _ _ h => h) (Or.inl ⟨by rfl, ?_⟩) (by assumption) ?_
          rotate_left
          · (intro w hSw; (try dsimp only at hSw); go_simp; (try with_reducible rfl))
          try simp only [Act.put, List.setIfInBounds_toArray, List.set_cons_zero, List.set_cons_succ]
          refine wpAnyH_take (i := 1) (oi := { dst := some 51, op := Go.Op.move (Go.Operand.tmp 0), type := 9, pos := "outright.go:88", after := #[], guard := none }) (v := ?_) rfl (by kernel_rfl) (by kernel_rfl) (by kernel_rfl) (fun _ _ _ h => h) (Or.inl ⟨by rfl, ?_⟩) (by assumption) ?_
          rotate_left
          · (intro w hSw; (try dsimp only at hSw); go_simp; (try with_reducible rfl))
          try simp only [Act.put, List.setIfInBounds_toArray, List.set_cons_zero, List.set_cons_succ]
          refine wpAnyH_take (i := 2) (oi := { dst := some 52, op := Go.Op.fieldAddr 26 (Go.Operand.tmp 6) 0, type := 0, pos := "outright.go:88", after := #[], guard := none }) (v := ?_) rfl (by kernel_rfl) (by kernel_rfl) (by kernel_rfl) (fun _ _ _ h => h) (Or.inl ⟨by rfl, ?_⟩) (by assumption) ?_
          rotate_left
          · (intro w hSw; (try dsimp only at hSw); go_simp; (try with_reducible rfl))
          try simp only [Act.put, List.setIfInBounds_toArray, List.set_cons_zero, List.set_cons_succ]
          refine wpAnyH_take (i := 3) (oi := { dst := some 53, op := Go.Op.load 3 (Go.Operand.tmp 52), type := 3, pos := "outright.go:88", after := #[{ on := 2, ground := Go.Ground.data }], guard := none }) (v := ?_) rfl (by kernel_rfl) (by kernel_rfl) (by kernel_rfl) (fun _ _ _ h => h) (Or.inl ⟨by rfl, ?_⟩) (by assumption) ?_
          rotate_left
          · (intro w hSw; (try dsimp only at hSw); go_simp; (try with_reducible rfl))
          try simp only [Act.put, List.setIfInBounds_toArray, List.set_cons_zero, List.set_cons_succ]
          refine wpAnyH_ready (rs := [4]) (by kernel_rfl) (by simp) ?_
          refine AllReadyH.cons (o := { dst := some 54, op := Op.call { callee := Callee.value (Operand.func 14), args := #[Operand.tmp 51, Operand.tmp 53], argTypes := #[9, 3] }, type := 26, pos := "outright.go:88", after := #[{ on := 1, ground := Ground.data }, { on := 3, ground := Ground.data }], guard := none }) rfl (fun K hK => ?_) AllReadyH.nil
          go_simp
          refine (CP.out _).mono ?_
          rintro e w2 ⟨rfl, b2⟩
          go_wp2_with fail
          refine hK.out _ _ ?_ (fun hHeld => ?_)
          · refine ⟨?_, ?_, ?_⟩
            · exact (b2.cell (p := ⟨wr.heap.size, 0, none⟩) (by simp <;> omega)).trans (by simp [*])
            · exact (b2.cell (p := ⟨wr.heap.size, 1, none⟩) (by simp <;> omega)).trans (by simp [*])
            · exact (b2.cell (p := ⟨wr.heap.size, 2, none⟩) (by simp <;> omega)).trans (by simp [*])
          clear hK K
          try simp only [Act.put, List.setIfInBounds_toArray, List.set_cons_zero, List.set_cons_succ]
          refine wpAnyH_take (i := 5) (oi := { dst := some 55, op := Go.Op.binOp BinOp.neq 26 (Go.Operand.tmp 50) (Go.Operand.tmp 54) 26, type := 4, pos := "outright.go:88", after := #[{ on := 0, ground := Go.Ground.data }, { on := 4, ground := Go.Ground.data }], guard := none }) (v := ?_) rfl (by kernel_rfl) (by kernel_rfl) (by kernel_rfl) (fun _ _ _ h => h) (Or.inl ⟨by rfl, ?_⟩) (by assumption) ?_
          rotate_left
          · (intro w hSw; (try dsimp only at hSw); go_simp; (try with_reducible rfl))
          try simp only [Act.put, List.setIfInBounds_toArray, List.set_cons_zero, List.set_cons_succ]
          refine wpAnyH_take (i := 6) (oi := { dst := some 56, op := Go.Op.move (Go.Operand.tmp 55), type := 4, pos := "outright.go:88", after := #[{ on := 5, ground := Go.Ground.data }, { on := 4, ground := Go.Ground.chain }], guard := none }) (v := ?_) rfl (by kernel_rfl) (by kernel_rfl) (by kernel_rfl) (fun _ _ _ h => h) (Or.inl ⟨by rfl, ?_⟩) (by assumption) ?_
          rotate_left
          · (intro w hSw; (try dsimp only at hSw); go_simp; (try with_reducible rfl))
          try simp only [Act.put, List.setIfInBounds_toArray, List.set_cons_zero, List.set_cons_succ]
          refine wpAnyH_take (i := 7) (oi := { dst := some 57, op := Go.Op.fieldAddr 26 (Go.Operand.tmp 6) 0, type := 0, pos := "outright.go:88", after := #[{ on := 6, ground := Go.Ground.guard }], guard := some (6, false) }) (v := ?_) rfl (by kernel_rfl) (by kernel_rfl) (by kernel_rfl) (fun _ _ _ h => h) (Or.inl ⟨by rfl, ?_⟩) (by assumption) ?_
          rotate_left
          · (intro w hSw; (try dsimp only at hSw); go_simp; (try with_reducible rfl))
          try simp only [Act.put, List.setIfInBounds_toArray, List.set_cons_zero, List.set_cons_succ]
          refine wpAnyH_take (i := 8) (oi := { dst := some 58, op := Go.Op.load 3 (Go.Operand.tmp 57), type := 3, pos := "outright.go:88", after := #[{ on := 7, ground := Go.Ground.data }, { on := 6, ground := Go.Ground.guard }], guard := some (6, false) }) (v := ?_) rfl (by kernel_rfl) (by kernel_rfl) (by kernel_rfl) (fun _ _ _ h => h) (Or.inl ⟨by rfl, ?_⟩) (by assumption) ?_
          rotate_left
          · (intro w hSw; (try dsimp only at hSw); go_simp; (try with_reducible rfl))
          try simp only [Act.put, List.setIfInBounds_toArray, List.set_cons_zero, List.set_cons_succ]
          refine wpAnyH_take (i := 9) (oi := { dst := some 59, op := Go.Op.move (Go.Operand.tmp 0), type := 9, pos := "outright.go:88", after := #[{ on := 6, ground := Go.Ground.guard }], guard := some (6, false) }) (v := ?_) rfl (by kernel_rfl) (by kernel_rfl) (by kernel_rfl) (fun _ _ _ h => h) (Or.inl ⟨by rfl, ?_⟩) (by assumption) ?_
          rotate_left
          · (intro w hSw; (try dsimp only at hSw); go_simp; (try with_reducible rfl))
          try simp only [Act.put, List.setIfInBounds_toArray, List.set_cons_zero, List.set_cons_succ]
          refine wpAnyH_take (i := 10) (oi := { dst := some 60, op := Go.Op.call { callee := Go.Callee.builtin Go.Builtin.len, args := #[Go.Operand.tmp 59], argTypes := #[9] }, type := 3, pos := "outright.go:88", after := #[{ on := 9, ground := Go.Ground.data }, { on := 6, ground := Go.Ground.guard }], guard := some (6, false) }) (v := ?_) rfl (by kernel_rfl) (by kernel_rfl) (by kernel_rfl) (fun _ _ _ h => h) (Or.inl ⟨by rfl, ?_⟩) (by assumption) ?_
          rotate_left
          · (intro w hSw; (try dsimp only at hSw); go_simp; (try with_reducible rfl))
          try simp only [Act.put, List.setIfInBounds_toArray, List.set_cons_zero, List.set_cons_succ]
          refine wpAnyH_take (i := 11) (oi := { dst := some 61, op := Go.Op.binOp BinOp.geq 3 (Go.Operand.tmp 58) (Go.Operand.tmp 60) 3, type := 4, pos := "outright.go:88", after := #[{ on := 8, ground := Go.Ground.data }, { on := 10, ground := Go.Ground.data }, { on := 6, ground := Go.Ground.guard }], guard := some (6, false) }) (v := ?_) rfl (by kernel_rfl) (by kernel_rfl) (by kernel_rfl) (fun _ _ _ h => h) (Or.inl ⟨by rfl, ?_⟩) (by assumption) ?_
          rotate_left
          · (intro w hSw; (try dsimp only at hSw); go_simp; (try with_reducible rfl))
          try simp only [Act.put, List.setIfInBounds_toArray, List.set_cons_zero, List.set_cons_succ]
          refine wpAnyH_take (i := 12) (oi := { dst := some 62, op := Go.Op.pick (Go.Operand.tmp 56) (Go.Operand.const (Go.Value.bool true)) (Go.Operand.tmp 61), type := 4, pos := "outright.go:88", after := #[{ on := 6, ground := Go.Ground.data }, { on := 11, ground := Go.Ground.data }], guard := none }) (v := ?_) rfl (by kernel_rfl) (by kernel_rfl) (by kernel_rfl) (fun _ _ _ h => h) (Or.inl ⟨by rfl, ?_⟩) (by assumption) ?_
          rotate_left
          · (intro w hSw; (try dsimp only at hSw); go_simp; (try with_reducible rfl))
          try simp only [Act.put, List.setIfInBounds_toArray, List.set_cons_zero, List.set_cons_succ]
          refine wpAnyH_take (i := 13) (oi := { dst := some 63, op := Go.Op.move (Go.Operand.tmp 62), type := 4, pos := "outright.go:88", after := #[{ on := 12, ground := Go.Ground.data }, { on := 6, ground := Go.Ground.chain }], guard := none }) (v := ?_) rfl (by kernel_rfl) (by kernel_rfl) (by kernel_rfl) (fun _ _ _ h => h) (Or.inl ⟨by rfl, ?_⟩) (by assumption) ?_
          rotate_left
          · (intro w hSw; (try dsimp only at hSw); go_simp; (try with_reducible rfl))
          try simp only [Act.put, List.setIfInBounds_toArray, List.set_cons_zero, List.set_cons_succ]
          refine wpAnyH_take (i := 14) (oi := { dst := some 64, op := Go.Op.move (Go.Operand.tmp 5), type := 3, pos := "outright.go:88", after := #[{ on := 13, ground := Go.Ground.guard }], guard := some (13, false) }) (v := ?_) rfl (by kernel_rfl) (by kernel_rfl) (by kernel_rfl) (fun _ _ _ h => h) (Or.inl ⟨by rfl, ?_⟩) (by assumption) ?_
          rotate_left
          · (intro w hSw; (try dsimp only at hSw); go_simp; (try with_reducible rfl))
          try simp only [Act.put, List.setIfInBounds_toArray, List.set_cons_zero, List.set_cons_succ]
          refine wpAnyH_take (i := 15) (oi := { dst := some 65, op := Go.Op.binOp BinOp.gtr 3 (Go.Operand.tmp 64) (Go.Operand.const (Go.Value.int Go.IntKind.i64 0)) 3, type := 4, pos := "outright.go:88", after := #[{ on := 14, ground := Go.Ground.data }, { on := 13, ground := Go.Ground.guard }], guard := some (13, false) }) (v := ?_) rfl (by kernel_rfl) (by kernel_rfl) (by kernel_rfl) (fun _ _ _ h => h) (Or.inl ⟨by rfl, ?_⟩) (by assumption) ?_
          rotate_left
          · (intro w hSw; (try dsimp only at hSw); go_simp; (try with_reducible rfl))
          try simp only [Act.put, List.setIfInBounds_toArray, List.set_cons_zero, List.set_cons_succ]
          refine wpAnyH_take (i := 16) (oi := { dst := some 66, op := Go.Op.move (Go.Operand.tmp 65), type := 4, pos := "outright.go:88", after := #[{ on := 15, ground := Go.Ground.data }, { on := 13, ground := Go.Ground.chain }, { on := 13, ground := Go.Ground.guard }], guard := some (13, false) }) (v := ?_) rfl (by kernel_rfl) (by kernel_rfl) (by kernel_rfl) (fun _ _ _ h => h) (Or.inl ⟨by rfl, ?_⟩) (by assumption) ?_
          rotate_left
          · (intro w hSw; (try dsimp only at hSw); go_simp; (try with_reducible rfl))
          try simp only [Act.put, List.setIfInBounds_toArray, List.set_cons_zero, List.set_cons_succ]
          refine wpAnyH_take (i := 17) (oi := { dst := some 67, op := Go.Op.fieldAddr 26 (Go.Operand.tmp 6) 0, type := 0, pos := "outright.go:88", after := #[{ on := 16, ground := Go.Ground.guard }], guard := some (16, true) }) (v := undef) rfl (by kernel_rfl) (by kernel_rfl) (by kernel_rfl) (fun _ _ _ h => h) (Or.inr ⟨by rfl, rfl⟩) (by assumption) ?_
          try simp only [Act.put, List.setIfInBounds_toArray, List.set_cons_zero, List.set_cons_succ]
          refine wpAnyH_take (i := 18) (oi := { dst := some 68, op := Go.Op.load 3 (Go.Operand.tmp 67), type := 3, pos := "outright.go:88", after := #[{ on := 17, ground := Go.Ground.data }, { on := 16, ground := Go.Ground.guard }], guard := some (16, true) }) (v := undef) rfl (by kernel_rfl) (by kernel_rfl) (by kernel_rfl) (fun _ _ _ h => h) (Or.inr ⟨by rfl, rfl⟩) (by assumption) ?_
          try simp only [Act.put, List.setIfInBounds_toArray, List.set_cons_zero, List.set_cons_succ]
          refine wpAnyH_take (i := 19) (oi := { dst := some 69, op := Go.Op.move (Go.Operand.tmp 3), type := 23, pos := "outright.go:88", after := #[{ on := 16, ground := Go.Ground.guard }], guard := some (16, true) }) (v := undef) rfl (by kernel_rfl) (by kernel_rfl) (by kernel_rfl) (fun _ _ _ h => h) (Or.inr ⟨by rfl, rfl⟩) (by assumption) ?_
          try simp only [Act.put, List.setIfInBounds_toArray, List.set_cons_zero, List.set_cons_succ]
          refine wpAnyH_take (i := 20) (oi := { dst := some 70, op := Go.Op.move (Go.Operand.tmp 5), type := 3, pos := "outright.go:88", after := #[{ on := 16, ground := Go.Ground.guard }], guard := some (16, true) }) (v := undef) rfl (by kernel_rfl) (by kernel_rfl) (by kernel_rfl) (fun _ _ _ h => h) (Or.inr ⟨by rfl, rfl⟩) (by assumption) ?_
          try simp only [Act.put, List.setIfInBounds_toArray, List.set_cons_zero, List.set_cons_succ]
          refine wpAnyH_take (i := 21) (oi := { dst := some 71, op := Go.Op.binOp BinOp.sub 3 (Go.Operand.tmp 70) (Go.Operand.const (Go.Value.int Go.IntKind.i64 1)) 3, type := 3, pos := "outright.go:88", after := #[{ on := 20, ground := Go.Ground.data }, { on := 16, ground := Go.Ground.guard }], guard := some (16, true) }) (v := undef) rfl (by kernel_rfl) (by kernel_rfl) (by kernel_rfl) (fun _ _ _ h => h) (Or.inr ⟨by rfl, rfl⟩) (by assumption) ?_
          try simp only [Act.put, List.setIfInBounds_toArray, List.set_cons_zero, List.set_cons_succ]
          refine wpAnyH_take (i := 22) (oi := { dst := some 72, op := Go.Op.indexAddr 23 (Go.Operand.tmp 69) (Go.Operand.tmp 71), type := 0, pos := "outright.go:88", after := #[{ on := 19, ground := Go.Ground.data }, { on := 21, ground := Go.Ground.data }, { on := 16, ground := Go.Ground.guard }], guard := some (16, true) }) (v := undef) rfl (by kernel_rfl) (by kernel_rfl) (by kernel_rfl) (fun _ _ _ h => h) (Or.inr ⟨by rfl, rfl⟩) (by assumption) ?_
          try simp only [Act.put, List.setIfInBounds_toArray, List.set_cons_zero, List.set_cons_succ]
          refine wpAnyH_take (i := 23) (oi := { dst := some 73, op := Go.Op.fieldAddr 38 (Go.Operand.tmp 72) 3, type := 0, pos := "outright.go:88", after := #[{ on := 22, ground := Go.Ground.data }, { on := 16, ground := Go.Ground.guard }], guard := some (16, true) }) (v := undef) rfl (by kernel_rfl) (by kernel_rfl) (by kernel_rfl) (fun _ _ _ h => h) (Or.inr ⟨by rfl, rfl⟩) (by assumption) ?_
          try simp only [Act.put, List.setIfInBounds_toArray, List.set_cons_zero, List.set_cons_succ]
          refine wpAnyH_take (i := 24) (oi := { dst := some 74, op := Go.Op.fieldAddr 26 (Go.Operand.tmp 73) 0, type := 0, pos := "outright.go:88", after := #[{ on := 23, ground := Go.Ground.data }, { on := 16, ground := Go.Ground.guard }], guard := some (16, true) }) (v := undef) rfl (by kernel_rfl) (by kernel_rfl) (by kernel_rfl) (fun _ _ _ h => h) (Or.inr ⟨by rfl, rfl⟩) (by assumption) ?_
          try simp only [Act.put, List.setIfInBounds_toArray, List.set_cons_zero, List.set_cons_succ]
          refine wpAnyH_take (i := 25) (oi := { dst := some 75, op := Go.Op.load 3 (Go.Operand.tmp 74), type := 3, pos := "outright.go:88", after := #[{ on := 24, ground := Go.Ground.data }, { on := 16, ground := Go.Ground.guard }], guard := some (16, true) }) (v := undef) rfl (by kernel_rfl) (by kernel_rfl) (by kernel_rfl) (fun _ _ _ h => h) (Or.inr ⟨by rfl, rfl⟩) (by assumption) ?_
          try simp only [Act.put, List.setIfInBounds_toArray, List.set_cons_zero, List.set_cons_succ]
          refine wpAnyH_take (i := 26) (oi := { dst := some 76, op := Go.Op.binOp BinOp.leq 3 (Go.Operand.tmp 68) (Go.Operand.tmp 75) 3, type := 4, pos := "outright.go:88", after := #[{ on := 18, ground := Go.Ground.data }, { on := 25, ground := Go.Ground.data }, { on := 16, ground := Go.Ground.guard }], guard := some (16, true) }) (v := undef) rfl (by kernel_rfl) (by kernel_rfl) (by kernel_rfl) (fun _ _ _ h => h) (Or.inr ⟨by rfl, rfl⟩) (by assumption) ?_
          try simp only [Act.put, List.setIfInBounds_toArray, List.set_cons_zero, List.set_cons_succ]
          refine wpAnyH_take (i := 27) (oi := { dst := some 77, op := Go.Op.pick (Go.Operand.tmp 66) (Go.Operand.tmp 76) (Go.Operand.const (Go.Value.bool false)), type := 4, pos := "outright.go:88", after := #[{ on := 16, ground := Go.Ground.data }, { on := 26, ground := Go.Ground.data }, { on := 13, ground := Go.Ground.guard }], guard := some (13, false) }) (v := ?_) rfl (by kernel_rfl) (by kernel_rfl) (by kernel_rfl) (fun _ _ _ h => h) (Or.inl ⟨by rfl, ?_⟩) (by assumption) ?_
          rotate_left
          · (intro w hSw; (try dsimp only at hSw); go_simp; (try with_reducible rfl))
          try simp only [Act.put, List.setIfInBounds_toArray, List.set_cons_zero, List.set_cons_succ]
          refine wpAnyH_take (i := 28) (oi := { dst := some 78, op := Go.Op.pick (Go.Operand.tmp 63) (Go.Operand.const (Go.Value.bool true)) (Go.Operand.tmp 77), type := 4, pos := "outright.go:88", after := #[{ on := 13, ground := Go.Ground.data }, { on := 27, ground := Go.Ground.data }], guard := none }) (v := ?_) rfl (by kernel_rfl) (by kernel_rfl) (by kernel_rfl) (fun _ _ _ h => h) (Or.inl ⟨by rfl, ?_⟩) (by assumption) ?_
          rotate_left
          · (intro w hSw; (try dsimp only at hSw); go_simp; (try with_reducible rfl))
          try simp only [Act.put, List.setIfInBounds_toArray, List.set_cons_zero, List.set_cons_succ]
          refine wpAnyH_done (by kernel_rfl) ?_ _
          have b3 : Below (wr.alloc (.cells #[.int .i64 P, .int .i64 L, .int .i64 C] 26)).heap.size (wr.alloc (.cells #[.int .i64 P, .int .i64 L, .int .i64 C] 26)) w2 := ⟨b2.os, b2.tape, b2.output, b2.size, b2.block⟩
          rw [World.size_alloc] at b3
          have HB3 := Lib.hid b3
          clear b2 b3 hHeld
          go_wp2_with fail
          go_meet
          exact ⟨rfl, HB3.out⟩
      case rest =>
        obtain ⟨rfl, hb2⟩ := hcut
        have K := Bk.below (Bk.made wr 26 #[.int .i64 P, .int .i64 L, .int .i64 C]) hb2 (by omega)
        have k0 := K.cell 0
        simp at k0
        have y0 := (hb2.cell (p := ⟨g, i * 6, none⟩) (by simp; omega)).trans ((((Below.refl _ wr).alloc (Nat.le_refl _) (.cells #[.int .i64 P, .int .i64 L, .int .i64 C] 26)).cell (p := ⟨g, i * 6, none⟩) sg0).trans c0)
        have y1 := (hb2.cell (p := ⟨g, i * 6 + 1, none⟩) (by simp; omega)).trans ((((Below.refl _ wr).alloc (Nat.le_refl _) (.cells #[.int .i64 P, .int .i64 L, .int .i64 C] 26)).cell (p := ⟨g, i * 6 + 1, none⟩) sg0).trans c1)
        have HB5 := Lib.hid (HB.out.trans ((((Below.refl _ wr).alloc (Nat.le_refl _) (.cells #[.int .i64 P, .int .i64 L, .int .i64 C] 26)).trans (hb2.mono (by omega))).mono HB.out.size))
        have a0 : (0 : Int) ≤ (P : Int) := by omega
        have sgx : g < wc.heap.size := by have := hb2.size; simp at this; omega
        clear hb2 K c0 c1 c3 c4 c5
        rcases q3 with q3 | q3 | q3 | q3
        · rw [q3] at y0
          obtain ⟨r1, _, r3⟩ := HQ4.out (by omega)
          have hTne := HNE.out (by omega)
          have g1 : decide ((s.size : Int) < (P : Int) + (T.size : Int)) = false := by rw [decide_eq_false_iff_not]; omega
          have g2 : (P : Int) + (T.size : Int) ≤ (s.size : Int) := by omega
          have g3 : ¬ T.toList = [] := text_full (by rw [← HTT.out]; simpa using hTne)
          have g4 : T.toList.isEmpty = false := by simpa using g3
          have g5 : ¬ s.size < P + T.size := by omega
          clear hTne
          go_wp2_with fail
          exact ⟨⟨i + 1, by omega, by go_num, HB5.out⟩, by simp [intOf]; omega⟩
        · rw [q3] at y0
          obtain ⟨r1, _, r3⟩ := HQ4.out (by omega)
          have hTne := HNE.out (by omega)
          have g1 : decide ((s.size : Int) < (P : Int) + (T.size : Int)) = false := by rw [decide_eq_false_iff_not]; omega
          have g2 : (P : Int) + (T.size : Int) ≤ (s.size : Int) := by omega
          have g3 : ¬ T.toList = [] := text_full (by rw [← HTT.out]; simpa using hTne)
          have g4 : T.toList.isEmpty = false := by simpa using g3
          have g5 : ¬ s.size < P + T.size := by omega
          clear hTne
          go_wp2_with fail
          exact ⟨⟨i + 1, by omega, by go_num, HB5.out⟩, by simp [intOf]; omega⟩
        · rw [q3] at y0
          obtain ⟨r1, _, r3⟩ := HQ4.out (by omega)
          have hTne := HNE.out (by omega)
          have g1 : decide ((s.size : Int) < (P : Int) + (T.size : Int)) = false := by rw [decide_eq_false_iff_not]; omega
          have g2 : (P : Int) + (T.size : Int) ≤ (s.size : Int) := by omega
          have g3 : ¬ T.toList = [] := text_full (by rw [← HTT.out]; simpa using hTne)
          have g4 : T.toList.isEmpty = false := by simpa using g3
          have g5 : ¬ s.size < P + T.size := by omega
          clear hTne
          go_wp2_with fail
          exact ⟨⟨i + 1, by omega, by go_num, HB5.out⟩, by simp [intOf]; omega⟩
        · have u0 : ((d.kind : Int) == 0) = false := by rw [beq_eq_false_iff_ne]; omega
          have u1 : ((d.kind : Int) == 1) = false := by rw [beq_eq_false_iff_ne]; omega
          have u4 : ((d.kind : Int) == 4) = false := by rw [beq_eq_false_iff_ne]; omega
          go_wp2_with fail
          exact ⟨⟨i + 1, by omega, by go_num, HB5.out⟩, by simp [intOf]; omega⟩
    · have d0 : decide (i < N) = false := by rw [decide_eq_false_iff_not]; exact hlt
      have c0 := HFr.out.cell 0
      have c1 := HFr.out.cell 1
      have c2 := HFr.out.cell 2
      have c3 := HFr.out.cell 3
      simp at c0 c1 c2 c3
      clear hb
      go_wp2_with fail
      refine (lives_true _ (E1.out.below HB.out)).mono ?_
      rintro e w5 ⟨rfl, b5⟩
      go_wp2_with fail
      go_ret
      have bw := (HB1.out.alloc HB1.out.size (.cells #[.int .i64 0, .int .i64 0, .int .i64 0, .int .i64 0] 28)).trans (HB.out.mono (by have := HB1.out.size; simp; omega))
      exact ⟨rfl, bw.trans (b5.mono bw.size)⟩
theorem Places2_any (s : ByteArray) (w : World) (hE : EnvS w) : Calls Tryd.prog 6 #[.string s] w fun e w' => e = .returned (.bool true) ∧ Below w.heap.size w w' := by
  by_cases hs : s.size ≤ 2000
  · cases hr : Sc.scanL s.data.toList with
    | err c p =>
      have CS := Scan_any s w (by omega) hE
      have hp : p ≤ s.size := by
        unfold Sc.scanL at hr
        split at hr
        · injection hr with _ hr; omega
        split at hr
        · rename_i _ h0
          injection hr with _ hr
          rcases bd_range s.data.toList.length s.data.toList 0 with h1 | ⟨_, h1⟩
          · unfold bad at *; omega
          · unfold bad at *
            rw [← Lib.size_eq] at *
            omega
        · have := scanF_pos _ _ _ _ _ (Nat.le_refl _) hr
          rw [← Lib.size_eq] at this
          omega
      refine Places2_err s w hE hs c p hp (scanL_err hr) (CS.mono ?_)
      rintro e w' (⟨c', p', h, _, he, hb⟩ | ⟨ds, v, h, _⟩)
      · rw [hr] at h
        injection h with h1 h2
        subst h1 h2
        exact ⟨he, hb⟩
      · rw [hr] at h; cases h
    | ok ds =>
      refine Places2_ok s w hE hs ds (Stand.of hr) ((Scan_any s w (by omega) hE).mono ?_)
      rintro e w' (⟨c, p, h, _⟩ | ⟨ds', v, h, he, hW, hb⟩)
      · rw [hr] at h; cases h
      · rw [hr] at h
        injection h with h
        subst h
        exact ⟨⟨v, he, hW⟩, hb⟩
  · exact Places2_long s w hE (by omega)
end Go.Proofs.YtokpknjmcegkaaaDoor
