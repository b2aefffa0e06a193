/- A node made to places: the contract of part. The list of a set of places: the contracts of slices.Collect of its iterator, and of list. All places, with what was known last: the contract of told. The rules that are tokens, or to be skipped: the contract of checks.Of for these two sorts. What of the builder of places is pure: how far it has come with the tokens. What lies in memory when it begins. -/
import Derived.Test.YtiinkhmgemoamaaDoorPav
import Derived.Test.YtiinkhmgemoamaaDoorPaw
import Derived.Test.YtiinkhmgemoamaaDoorPao
import Derived.Test.YtiinkhmgemoamaaDoorPad
import Derived.Test.YtiinkhmgemoamaaDoorPz
namespace Go.Proofs.YtiinkhmgemoamaaDoor.Nf
open Go Go.RowKit Nd Nu
attribute [local go_sem] Oper.semAt_some
set_option maxRecDepth 100000

theorem partF_over (fd : ByteArray → Option T) (rns : ByteArray → List Int) (kind : Nat) : ∀ (F : Nat) (s : St) (n : T), (s.over || decide (65536 < s.nodes + 1)) = true → partF fd rns kind F s n = ({ s with nodes := s.nodes + 1, over := true }, .zero)
 | 0, _, _, _ => rfl
 | F + 1, s, n, h => by
  unfold partF
  simp [h]
/-- What the builder counts. -/
theorem BI.put {n₀ bb : Nat} {g : BV} {kind : Nat} {s : St} {W : World} (h : BI n₀ bb g kind s W) (M : Nat) (o2 : Bool) :
 BI n₀ bb g kind { s with nodes := M, over := o2 } ((W.setCell ⟨bb, 5, none⟩ (.int .i64 (M : Int))).setCell ⟨bb, 8, none⟩ (.bool o2)) ∧ Tl n₀ W ((W.setCell ⟨bb, 5, none⟩ (.int .i64 (M : Int))).setCell ⟨bb, 8, none⟩ (.bool o2)) := by
 obtain ⟨mv, fv, ms, h, hms⟩ := h
 have hO := (Only.set bb 5 W (.int .i64 (M : Int))).trans (Only.set bb 8 _ (.bool o2))
 have hT : Tl n₀ W ((W.setCell ⟨bb, 5, none⟩ (.int .i64 (M : Int))).setCell ⟨bb, 8, none⟩ (.bool o2)) := ⟨hO.below h.lo, fun k o hk hF => by
  rw [hO.same k ?_]
  · exact hk
  · rintro rfl
    rw [show W.heap[k]? = _ from h.b] at hk
    injection hk with hk
    exact (hF _ _ _ hk.symm).1 rfl⟩
 refine ⟨⟨mv, fv, ms, ⟨h.lo, ?_, own_keep h.m fun k cu hk => hO.bk hk (hk.ne h.b (by decide)), own_keep h.f fun k cu hk => hO.bk hk (hk.ne h.b (by decide)), fun x hx => (h.sets x hx).tl hT, h.tab.below hT.1 h.tl, h.tl⟩, hms⟩, hT⟩
 have := (h.b.set 5 (.int .i64 (M : Int))).set 8 (.bool o2)
 simpa using this
theorem BI.cells {n₀ bb : Nat} {g : BV} {kind : Nat} {s : St} {W : World} (h : BI n₀ bb g kind s W) : W.cell? ⟨bb, 5, none⟩ = some (.int .i64 (s.nodes : Int)) ∧ W.frozen? ⟨bb, 5, none⟩ = false ∧ W.frozen? ⟨bb, 8, none⟩ = false ∧
 W.cell? ⟨bb, 0, none⟩ = some (.string g.nm) ∧ W.cell? ⟨bb, 1, none⟩ = some (.int .i64 g.o1) ∧ W.cell? ⟨bb, 2, none⟩ = some (.int .i64 g.o2) ∧ W.cell? ⟨bb, 3, none⟩ = some (.slice g.ra g.rn g.rc) := by
 obtain ⟨mv, fv, ms, h, hms⟩ := h
 have h5 := h.b.cell 5
 have h0 := h.b.cell 0
 have h1 := h.b.cell 1
 have h2 := h.b.cell 2
 have h3 := h.b.cell 3
 exact ⟨by simpa using h5, h.b.free 5, h.b.free 8, by simpa using h0, by simpa using h1, by simpa using h2, by simpa using h3⟩
set_option maxHeartbeats 8000000 in
theorem part_one (W0 : World) (bb : Nat) (g : BV) (rs : List Rl) (kind F : Nat) (hG : GrV W0 g.nm g.o1 g.o2 rs (.agg #[.string g.nm, .int .i64 g.o1, .int .i64 g.o2, .slice g.ra g.rn g.rc])) (hgn : g.rn = rs.length) (hSmR : ∀ r ∈ rs, Sm r.body)
 (ih : ∀ F', F = F' + 1 → PartOk W0 bb g (bodyOf rs) runesOf kind F') : PartOk W0 bb g (bodyOf rs) runesOf kind F := by
 intro t v s W hA hSm hW hI hOk hLow hnd hF
 replace hgn := Lib.hid hgn
 have hA0 := hA
 obtain ⟨k, nm, tx, st, sb⟩ := t
 obtain ⟨sa, sc, ba, bc, rfl, ⟨hk0, hk1⟩, hnm, htx, ⟨hsc, hst⟩, ⟨hbc, hsb⟩, hRg, hL⟩ := hA
 have hn0 := hI.hi
 obtain ⟨X, hX⟩ : ∃ X, W.alloc (.cells #[.int .u8 k, .string nm, .string tx, .slice sa st.length sc, .slice ba sb.length bc] 34) = X := ⟨_, rfl⟩
 have hSX : Soft W0.heap.size W X := by rw [← hX]; exact soft_alloc W hn0 _
 have hNX : Bk X W.heap.size 34 #[.int .u8 k, .string nm, .string tx, .slice sa st.length sc, .slice ba sb.length bc] := by rw [← hX]; exact Bk.made W _ _
 have hXs : X.heap.size = W.heap.size + 1 := by rw [← hX]; simp
 have hBX := hI.soft hSX
 obtain ⟨c5, f5, f8, _⟩ := hBX.cells
 have c8 := hBX.over
 obtain ⟨M, hM⟩ : ∃ M, s.nodes + 1 = M := ⟨_, rfl⟩
 have m0 : IntKind.i64.wrap ((s.nodes : Int) + 1) = (M : Int) := by rw [IntWalk.i64_in _ (by omega)]; omega
 have m1 : (s.nodes : Int) + 1 = (M : Int) := by omega
 obtain ⟨N, hN⟩ : ∃ N, s.nodes = N := ⟨_, rfl⟩
 by_cases hO : (s.over || decide (65536 < s.nodes + 1)) = true
 · -- too many
   rw [partF_over _ _ _ F s _ hO, hM]
   have hP := BI.put hBX M true
   obtain ⟨w2, hw2⟩ : ∃ w2, (X.setCell ⟨bb, 5, none⟩ (.int .i64 (M : Int))).setCell ⟨bb, 8, none⟩ (.bool true) = w2 := ⟨_, rfl⟩
   rw [hw2] at hP
   have h2s : w2.heap.size = W.heap.size + 1 := by rw [← hw2]; simp [hXs]
   have hS3 := soft_alloc (n₀ := W0.heap.size) w2 (by omega) (.cells Tryd.zeroCells71 71)
   have hP3 : PtB (w2.alloc (.cells Tryd.zeroCells71 71)) (W.heap.size + 1) Tryd.zeroCells71 none_ none_ false := by
    rw [← h2s]
    exact zero_ptb (Bk.made w2 _ _)
   have HFin := Lib.hid (And.intro (hP.1.soft hS3) (And.intro (hP3.pt (p := Pt.zero)) ((hSX.tl.trans hP.2).trans hS3.tl)))
   have HW2 := Lib.hid hw2
   have HX := Lib.hid hX
   rw [hN] at c5 m0 m1
   obtain ⟨ov, hov⟩ : ∃ ov, s.over = ov := ⟨_, rfl⟩
   rw [hov, hN] at hO
   rw [hov] at c8
   rw [← hX] at c5 c8 f5 f8
   clear hP hS3 hP3 hw2 hX hSX hNX hBX hA0 hSm hW hI hOk hLow hF hG hSmR ih hRg hL hov
   cases ov with
   | true =>
    go_enter Tryd.func18, Tryd.ntmps18
    go_wp2_with fail
    go_ret
    rw [HX.out, HW2.out]
    exact ⟨_, rfl, Nat.le_succ _, HFin.out.1, HFin.out.2.1, HFin.out.2.2⟩
   | false =>
    have g0 : (65536 : Int) < (M : Int) := by simp at hO; omega
    have g1 : decide ((65536 : Int) < (M : Int)) = true := decide_eq_true g0
    go_enter Tryd.func18, Tryd.ntmps18
    go_wp2_with fail
    go_ret
    rw [HX.out, HW2.out]
    exact ⟨_, rfl, Nat.le_succ _, HFin.out.1, HFin.out.2.1, HFin.out.2.2⟩
 · have hO' : (s.over || decide (65536 < s.nodes + 1)) = false := by simpa using hO
   have hov : s.over = false := by
    cases h : s.over with
    | false => rfl
    | true => rw [h] at hO'; simp at hO'
   have hnd1 : M ≤ 65536 := by
    rw [hov] at hO'
    simp at hO'
    omega
   obtain ⟨F', rfl⟩ : ∃ F', F = F' + 1 := ⟨F - 1, by omega⟩
   have hP := ih F' rfl
   obtain ⟨s1, hs1⟩ : ∃ s1 : St, { s with nodes := M, over := false } = s1 := ⟨_, rfl⟩
   have hOk1 : Ok s1 := by rw [← hs1]; exact ⟨hOk.len, hOk.bd, hOk.cap⟩
   have ho1 : s1.over = false := by rw [← hs1]
   have hn1 : s1.nodes = M := by rw [← hs1]
   have hPut := BI.put hBX M false
   obtain ⟨w2, hw2⟩ : ∃ w2, (X.setCell ⟨bb, 5, none⟩ (.int .i64 (M : Int))).setCell ⟨bb, 8, none⟩ (.bool false) = w2 := ⟨_, rfl⟩
   rw [hw2, hs1] at hPut
   obtain ⟨hB2, hT2'⟩ := hPut
   have hT2 := hSX.tl.trans hT2'
   have hN2 := hT2'.bk hNX (by decide) (by decide) (by decide)
   have h2s : W.heap.size ≤ w2.heap.size := hT2.size
   have hW2 := hW.trans hT2.1
   have HR := Lib.hid (show ∀ k, partF (bodyOf rs) runesOf kind (F' + 1) s (.mk k nm tx st sb) = (if k = 1 then rowF (partF (bodyOf rs) runesOf kind F') s1 .void sb else if k = 0 then choiceF (partF (bodyOf rs) runesOf kind F') s1 .zero sb
    else if k = 2 ∨ k = 3 ∨ k = 4 then oftF (partF (bodyOf rs) runesOf kind F') s1 (.mk k nm tx st sb) else if k = 6 then (match bodyOf rs nm with | some b => partF (bodyOf rs) runesOf kind F' s1 b | none => (s1, .void))
    else if k = 8 then rowF (fun s r => placeF kind s [(r, r)]) s1 .void (runesOf tx) else if k = 9 then placeF kind s1 st else (s1, .void)) from fun k => by
    rw [← hs1, ← hM]
    conv => lhs; unfold partF
    simp only [hO', T.kind, T.subs, T.name, T.text, T.set, Bool.false_eq_true, if_false]
    rfl)
   have d0 := hN2.cell 0
   have d1 := hN2.cell 1
   have d2 := hN2.cell 2
   have d3 := hN2.cell 3
   have d4 := hN2.cell 4
   simp at d0 d1 d2 d3 d4
   have HW2 := Lib.hid hw2
   have HX := Lib.hid hX
   have HM := Lib.hid (And.intro hB2 (And.intro hT2 (And.intro hN2 (And.intro hW2 (And.intro hOk1 (And.intro ho1 (And.intro (show s1.nodes ≤ 65536 by omega) (show 65537 ≤ s1.nodes + F' by omega))))))))
   have g0 : ¬ (65536 : Int) < (M : Int) := by omega
   have g1 : decide ((65536 : Int) < (M : Int)) = false := decide_eq_false g0
   have g2 : (M : Int) ≤ 65536 := by omega
   rw [hN] at c5 m0 m1
   rw [hov] at c8
   rw [← hX] at c5 c8 f5 f8
   have HD := Lib.hid (And.intro d0 (And.intro d1 (And.intro d2 (And.intro d3 d4))))
   clear hw2 hX hSX hNX hBX hI hLow hF hov hO hO' hs1 hOk1 ho1 hn1 hB2 hT2' hT2 hN2 hW2 d0 d1 d2 d3 d4 ih hOk
   go_enter Tryd.func18, Tryd.ntmps18
   go_upto_region 5 with fail
   rw [HX.out, HW2.out]
   clear c5 c8 f5 f8 m0 m1 g0 g1 g2
   obtain ⟨d0, d1, d2, d3, d4⟩ := HD.out
   obtain ⟨hB2, hT2, hN2, hW2, hOk1, ho1, hnd2, hF2⟩ := HM.out
   by_cases k1 : k = 1
   · subst k1
     have HC := Lib.hid (row_any W0 bb g (bodyOf rs) runesOf kind F' hP sb ba bc s1 w2 hL hSm.subs hW2 hB2 hOk1 ho1 hnd2 hF2 hsb)
     clear hB2 hN2 hW2 hOk1
     go_wp2_with (go_at_call 32; refine HC.out.mono ?_; rintro e w5 ⟨pq, rfl, hpq, hB5, hQ5, hT5⟩)
     go_ret
     rw [HR.out]
     exact ⟨_, rfl, Nat.le_trans h2s hpq, hB5, hQ5, hT2.trans hT5⟩
   by_cases k0 : k = 0
   · subst k0
     have HC := Lib.hid (choice_any W0 bb g (bodyOf rs) runesOf kind F' hP sb ba bc s1 w2 hL hSm.subs hW2 hB2 hOk1 ho1 hnd2 hF2 hsb)
     clear hB2 hN2 hW2 hOk1
     go_wp2_with (go_at_call 33; refine HC.out.mono ?_; rintro e w5 ⟨pq, rfl, hpq, hB5, hQ5, hT5⟩)
     go_ret
     rw [HR.out]
     exact ⟨_, rfl, Nat.le_trans h2s hpq, hB5, hQ5, hT2.trans hT5⟩
   by_cases k2 : k = 2
   · subst k2
     have HC := Lib.hid (often_any W0 bb g (bodyOf rs) runesOf kind F' hP (.mk 2 nm tx st sb) _ s1 w2 hA0 hSm hW2 hB2 hOk1 hnd2 hF2 (Or.inl rfl))
     clear hB2 hN2 hW2 hOk1
     go_wp2_with (go_at_call 34; refine HC.out.mono ?_; rintro e w5 ⟨pq, rfl, hpq, hB5, hQ5, hT5⟩)
     go_ret
     rw [HR.out]
     exact ⟨_, rfl, Nat.le_trans h2s hpq, hB5, hQ5, hT2.trans hT5⟩
   by_cases k3 : k = 3
   · subst k3
     have HC := Lib.hid (often_any W0 bb g (bodyOf rs) runesOf kind F' hP (.mk 3 nm tx st sb) _ s1 w2 hA0 hSm hW2 hB2 hOk1 hnd2 hF2 (Or.inr (Or.inl rfl)))
     clear hB2 hN2 hW2 hOk1
     go_wp2_with (go_at_call 34; refine HC.out.mono ?_; rintro e w5 ⟨pq, rfl, hpq, hB5, hQ5, hT5⟩)
     go_ret
     rw [HR.out]
     exact ⟨_, rfl, Nat.le_trans h2s hpq, hB5, hQ5, hT2.trans hT5⟩
   by_cases k4 : k = 4
   · subst k4
     have HC := Lib.hid (often_any W0 bb g (bodyOf rs) runesOf kind F' hP (.mk 4 nm tx st sb) _ s1 w2 hA0 hSm hW2 hB2 hOk1 hnd2 hF2 (Or.inr (Or.inr rfl)))
     clear hB2 hN2 hW2 hOk1
     go_wp2_with (go_at_call 34; refine HC.out.mono ?_; rintro e w5 ⟨pq, rfl, hpq, hB5, hQ5, hT5⟩)
     go_ret
     rw [HR.out]
     exact ⟨_, rfl, Nat.le_trans h2s hpq, hB5, hQ5, hT2.trans hT5⟩
   by_cases k8 : k = 8
   · subst k8
     have HC := Lib.hid (literal_any W0.heap.size bb g kind tx s1 w2 hB2 hOk1 ho1 hSm.text)
     clear hB2 hN2 hW2 hOk1
     go_wp2_with (go_at_call 35; refine HC.out.mono ?_; rintro e w5 ⟨pq, rfl, hpq, hB5, hQ5, hT5⟩)
     go_ret
     rw [HR.out]
     exact ⟨_, rfl, Nat.le_trans h2s hpq, hB5, hQ5, hT2.trans hT5⟩
   by_cases k9 : k = 9
   · subst k9
     have HC := Lib.hid (place_any W0.heap.size bb g kind s1 w2 hB2 hOk1 st sa sc (hRg.below hW2) hsc hSm.set)
     clear hB2 hN2 hW2 hOk1
     go_wp2_with (go_at_call 36; refine HC.out.mono ?_; rintro e w5 ⟨pq, rfl, hpq, hB5, hQ5, hT5⟩)
     go_ret
     rw [HR.out]
     exact ⟨_, rfl, Nat.le_trans h2s hpq, hB5, hQ5, hT2.trans hT5⟩
   by_cases k6 : k = 6
   · subst k6
     obtain ⟨_, _, _, b0, b1, b2, b3⟩ := hB2.cells
     have hG2 : GrV w2.drew g.nm g.o1 g.o2 rs (.agg #[.string g.nm, .int .i64 g.o1, .int .i64 g.o2, .slice g.ra g.rn g.rc]) := by
      obtain ⟨ra, rc, e1, e2, e3, e4⟩ := hG
      exact ⟨ra, rc, e1, e2, e3, e4.below hW2.drew⟩
     have HFd := Lib.hid (Find_any g.nm g.o1 g.o2 rs _ nm w2.drew hG2)
     have HS4 := Lib.hid (show ∀ w4, Below w2.drew.heap.size w2.drew w4 → (((w4.cell? ⟨bb, 0, none⟩ = some (.string g.nm) ∧ w4.cell? ⟨bb, 1, none⟩ = some (.int .i64 g.o1)) ∧ (w4.cell? ⟨bb, 2, none⟩ = some (.int .i64 g.o2) ∧ w4.cell? ⟨bb, 3, none⟩ = some (.slice g.ra g.rn g.rc))) ∧ w4.cell? ⟨W.heap.size, 1, none⟩ = some (.string nm)) from fun w4 hb =>
      ⟨⟨⟨Nd.cell_keeps hb b0, Nd.cell_keeps hb b1⟩, Nd.cell_keeps hb b2, Nd.cell_keeps hb b3⟩, Nd.cell_keeps hb d1⟩)
     clear hB2 hN2 hW2 hOk1 hT2
     go_upto_region 15 with fail
     refine wp_cutN (fun a a' w' => (∃ z0 z1 z2 z3 z4 z5 z6 : Value, a' = ((((((((a.put (some 56) z0).put (some 57) z1).put (some 58) z2).put (some 59) z3).put (some 60) z4).put (some 61) z5).put (some 62) z6).put (some 5) (.int .i64 (whereI (fnd rs nm))))) ∧ Below w2.drew.heap.size w2.drew w') ?first15 ?next15
     case first15 =>
      refine wp_region_held_drew (S := fun w' : World => ((w'.cell? ⟨bb, 0, none⟩ = some (.string g.nm) ∧ w'.cell? ⟨bb, 1, none⟩ = some (.int .i64 g.o1)) ∧ (w'.cell? ⟨bb, 2, none⟩ = some (.int .i64 g.o2) ∧ w'.cell? ⟨bb, 3, none⟩ = some (.slice g.ra g.rn g.rc))) ∧ w'.cell? ⟨W.heap.size, 1, none⟩ = some (.string nm)) (by kernel_rfl) ⟨⟨⟨b0, b1⟩, b2, b3⟩, d1⟩ (fun hSS => ?_)
      show wpAnyH _ _ _ _ _ 8 #[false, false, false, false, false, false, false, false] _ _
      refine zqT 0 (some 56) _ (zqF 8 1) (by rw [List.getElem?_toArray]; rfl) rfl (by kernel_rfl) rfl (fun _ _ _ h => h) (Or.inl ⟨by rfl, fun w' hSw => by (try dsimp only at hSw); go_simp; try with_reducible rfl⟩) hSS ?_
      simp only [zqN]
      refine zqT 1 (some 57) _ (zqF 8 2) (by rw [List.getElem?_toArray]; rfl) rfl (by kernel_rfl) rfl (fun _ _ _ h => h) (Or.inl ⟨by rfl, fun w' hSw => by (try dsimp only at hSw); go_simp; try with_reducible rfl⟩) hSS ?_
      simp only [zqN]
      refine zqT 2 (some 58) _ (zqF 8 3) (by rw [List.getElem?_toArray]; rfl) rfl (by kernel_rfl) rfl (fun _ _ _ h => h) (Or.inl ⟨by rfl, fun w' hSw => by (try dsimp only at hSw); go_simp; try with_reducible rfl⟩) hSS ?_
      simp only [zqN]
      refine zqT 3 (some 59) _ (zqF 8 4) (by rw [List.getElem?_toArray]; rfl) rfl (by kernel_rfl) rfl (fun _ _ _ h => h) (Or.inl ⟨by rfl, fun w' hSw => by (try dsimp only at hSw); go_simp; try with_reducible rfl⟩) hSS ?_
      simp only [zqN]
      refine zqT 4 (some 60) _ (zqF 8 5) (by rw [List.getElem?_toArray]; rfl) rfl (by kernel_rfl) rfl (fun _ _ _ h => h) (Or.inl ⟨by rfl, fun w' hSw => by (try dsimp only at hSw); go_simp; try with_reducible rfl⟩) hSS ?_
      simp only [zqN]
      refine zqT 5 (some 61) _ (zqF 8 6) (by rw [List.getElem?_toArray]; rfl) rfl (by kernel_rfl) rfl (fun _ _ _ h => h) (Or.inl ⟨by rfl, fun w' hSw => by (try dsimp only at hSw); go_simp; try with_reducible rfl⟩) hSS ?_
      simp only [zqN]
      refine come_one (i := 6) (l' := (zqF 8 7)) (by rw [List.getElem?_toArray]; rfl) (by kernel_rfl) rfl (fun K' hK => ?_)
      go_simp
      go_at_call 25; refine (HFd.out).mono ?_; rintro e w4 ⟨rfl, hb4⟩
      refine hK.out _ _ (HS4.out w4 hb4) (fun hSS => ?_)
      try simp only [zqN]
      refine zqT 7 (some 5) _ (zqF 8 8) (by rw [List.getElem?_toArray]; rfl) rfl (by kernel_rfl) rfl (fun _ _ _ h => h) (Or.inl ⟨by rfl, fun w' hSw => by (try dsimp only at hSw); go_simp; try with_reducible rfl⟩) hSS ?_
      simp only [zqN]
      refine wpAnyH_done (by kernel_rfl) ?_ _
      exact ⟨⟨_, _, _, _, _, _, _, rfl⟩, hb4⟩
     case next15 =>
     rintro a' w4 ⟨⟨z0, z1, z2, z3, z4, z5, z6, rfl⟩, hb4⟩
     simp only [zqN]
     obtain ⟨hB2, hT2, hN2, hW2, hOk1, ho1, hnd2, hF2⟩ := HM.out
     have hS4 : Soft W0.heap.size w2 w4 := (Soft.drew _ w2).trans (Soft.below hb4 (by show W0.heap.size ≤ w2.heap.size; omega))
     have hB4 := hB2.soft hS4
     have hT4 := hT2.trans hS4.tl
     have hW4 := hW2.trans hS4.1
     have h4s : W.heap.size ≤ w4.heap.size := hT4.size
     clear d0 d1 d2 d3 d4 b0 b1 b2 b3 hB2 hT2 hN2 hW2 hS4 hb4
     cases hfn : fnd rs nm with
     | none =>
      have hbo : bodyOf rs nm = none := by unfold bodyOf; rw [hfn]; rfl
      simp only [whereI]
      go_upto_region 22 with fail
      refine wp_cutN (fun a a' w' => (∃ y88 y89 : Value, a' = (((a.put (some 88) y88).put (some 89) y89).put (some 4) (.pointer (some ⟨w4.heap.size, 0, none⟩)))) ∧ w' = w4.alloc (.cells voidC 71)) ?first22 ?next22
      case first22 =>
       refine wp_region_lit ?_
       refine wpList_void rfl rfl ?_
       refine wpList_plain rfl fun K hK => ?_
       go_simp
       refine hK _ _ ?_
       refine wpList_plain rfl fun K hK => ?_
       go_simp
       refine hK _ _ ?_
       exact ⟨⟨_, _, rfl⟩, rfl⟩
      case next22 =>
      rintro a' w9 ⟨⟨y88, y89, rfl⟩, hw9⟩
      simp only [zqN]
      have hS9 : Soft W0.heap.size w4 w9 := by rw [hw9]; exact soft_alloc w4 (Nat.le_trans hn0 h4s) _
      have hP9 : PtB w9 w4.heap.size voidC none_ none_ true := by rw [hw9]; exact void_ptb (Bk.made w4 _ _)
      have HFin := Lib.hid (And.intro (hB4.soft hS9) (And.intro (hP9.pt (p := Pt.void)) (hT4.trans hS9.tl)))
      clear hw9 hS9 hP9
      go_wp2_with fail
      go_ret
      rw [HR.out, hbo]
      exact ⟨_, rfl, h4s, HFin.out.1, HFin.out.2.1, HFin.out.2.2⟩
     | some j =>
      obtain ⟨r, hr⟩ : ∃ r, rs[j]? = some r := ⟨_, List.getElem?_eq_getElem (fnd_lt hfn)⟩
      have hbo : bodyOf rs nm = some r.body := by unfold bodyOf; rw [hfn]; simp [hr]
      have hjl : j < g.rn := by rw [hgn.out]; exact fnd_lt hfn
      have j0 : (j : Int) < (g.rn : Int) := by omega
      have j1 : (0 : Int) ≤ (j : Int) := by omega
      have j2 : decide ((0 : Int) ≤ (j : Int)) = true := decide_eq_true j1
      obtain ⟨ra', rc', e1, e2, ⟨e3, e3'⟩, e4⟩ := hG
      injection e1 with e1
      simp only [Array.mk.injEq, List.cons.injEq, true_and, and_true] at e1
      injection e1 with e1a e1b e1c
      obtain ⟨b, o, hra, v0, v1, v2, v3, v4, a0, a1, a2, a3, a4, a5, a6, a7, a8, a9, hAb, _⟩ := e4 j r hr
      have hgr : g.ra = some ⟨b, o, none⟩ := e1a.trans hra
      have hrn' : (g.rn : Int) ≤ 9223372036854775807 := by omega
      have x2 := Nd.cell_keeps hW4 a2
      have x3 := Nd.cell_keeps hW4 a3
      have x4 := Nd.cell_keeps hW4 a4
      have x5 := Nd.cell_keeps hW4 a5
      have x6 := Nd.cell_keeps hW4 a6
      obtain ⟨_, _, _, _, _, _, y3⟩ := hB4.cells
      rw [hgr] at y3
      have HC := Lib.hid (hP r.body _ s1 w4 hAb (hSmR r (List.mem_of_getElem? hr)) hW4 hB4 hOk1 (fun _ => hnd2) (by omega) hF2)
      obtain ⟨sa1, sc1, ba1, bc1, e5, _⟩ := hAb.form
      injection e5 with e5
      simp only [Array.mk.injEq, List.cons.injEq, and_true] at e5
      obtain ⟨rfl, rfl, rfl, rfl, rfl⟩ := e5
      have HBO := Lib.hid (show bodyOf rs nm = some r.body from hbo)
      simp only [whereI]
      clear a0 a1 a2 a3 a4 a5 a6 a7 a8 a9 hAb e2 e3 e3' e4 e1a e1b e1c hra hgr hB4 hW4 hOk1 hbo hr
      generalize r.body.kind = qk at *
      generalize r.body.name = qn at *
      generalize r.body.text = qx at *
      generalize r.body.set.length = ql at *
      generalize r.body.subs.length = qm at *
      go_wp2_with (go_at_call 18; refine HC.out.mono ?_; rintro e w5 ⟨pq, rfl, hpq, hB5, hQ5, hT5⟩)
      go_ret
      rw [HR.out]
      simp only [HBO.out]
      exact ⟨_, rfl, Nat.le_trans h4s hpq, hB5, hQ5, hT4.trans hT5⟩
   have e0 : (k == 0) = false := by simp; omega
   have e1 : (k == 1) = false := by simp; omega
   have e2 : (k == 2) = false := by simp; omega
   have e3 : (k == 3) = false := by simp; omega
   have e4 : (k == 4) = false := by simp; omega
   have e6 : (k == 6) = false := by simp; omega
   have e8 : (k == 8) = false := by simp; omega
   have e9 : (k == 9) = false := by simp; omega
   have hR2 := HR.out k
   rw [if_neg k1, if_neg k0, if_neg (by omega), if_neg k6, if_neg k8, if_neg k9] at hR2
   clear hN2 hW2 hOk1
   go_upto_region 22 with fail
   refine wp_cutN (fun a a' w' => (∃ y88 y89 : Value, a' = (((a.put (some 88) y88).put (some 89) y89).put (some 4) (.pointer (some ⟨w2.heap.size, 0, none⟩)))) ∧ w' = w2.alloc (.cells voidC 71)) ?first22 ?next22
   case first22 =>
    refine wp_region_lit ?_
    refine wpList_void rfl rfl ?_
    refine wpList_plain rfl fun K hK => ?_
    go_simp
    refine hK _ _ ?_
    refine wpList_plain rfl fun K hK => ?_
    go_simp
    refine hK _ _ ?_
    exact ⟨⟨_, _, rfl⟩, rfl⟩
   case next22 =>
   rintro a' w9 ⟨⟨y88, y89, rfl⟩, hw9⟩
   simp only [zqN]
   have hS9 : Soft W0.heap.size w2 w9 := by rw [hw9]; exact soft_alloc w2 (Nat.le_trans hn0 h2s) _
   have hP9 : PtB w9 w2.heap.size voidC none_ none_ true := by rw [hw9]; exact void_ptb (Bk.made w2 _ _)
   have HFin := Lib.hid (And.intro (hB2.soft hS9) (And.intro (hP9.pt (p := Pt.void)) (hT2.trans hS9.tl)))
   clear hw9 hS9 hP9
   go_wp2_with fail
   go_ret
   rw [hR2]
   exact ⟨_, rfl, h2s, HFin.out.1, HFin.out.2.1, HFin.out.2.2⟩
theorem part_any (W0 : World) (bb : Nat) (g : BV) (rs : List Rl) (kind : Nat) (hG : GrV W0 g.nm g.o1 g.o2 rs (.agg #[.string g.nm, .int .i64 g.o1, .int .i64 g.o2, .slice g.ra g.rn g.rc])) (hgn : g.rn = rs.length) (hSmR : ∀ r ∈ rs, Sm r.body) : ∀ F, PartOk W0 bb g (bodyOf rs) runesOf kind F
 | 0 => part_one W0 bb g rs kind 0 hG hgn hSmR fun F' h => by omega
 | F + 1 => part_one W0 bb g rs kind (F + 1) hG hgn hSmR fun F' h => by
  obtain rfl : F = F' := by omega
  exact part_any W0 bb g rs kind hG hgn hSmR F
end Go.Proofs.YtiinkhmgemoamaaDoor.Nf
namespace Go.Proofs.YtiinkhmgemoamaaDoor.Nf
open Go Go.RowKit Go.Shelf
attribute [local go_sem] Oper.semAt_some
set_option maxRecDepth 100000

theorem infoIn : (Tryd.prog.info? 3).map (fun i => (i.zero, i.size, i.bytes)) = some (some (.int .i64 0), 1, 8) := by kernel_rfl
def iV (l : List Nat) : List Value := l.map fun (x : Nat) => Value.int .i64 (x : Int)
theorem own_form {w : World} {base e size n : Nat} {v : Value} {xs : List Value} (h : w.ownsRow base e size v n xs) : ∃ A cap, v = .slice A n cap := by
 rcases h.2 with ⟨h1, h2⟩ | ⟨g, c, cur, h1, _⟩
 · exact ⟨none, 0, by rw [h1, h2]⟩
 · exact ⟨_, c, h1⟩
theorem own_mono {w : World} {base base' e size n : Nat} {v : Value} {xs : List Value} (h : w.ownsRow base e size v n xs) (hb : base' ≤ base) : w.ownsRow base' e size v n xs := by
 refine ⟨h.1, ?_⟩
 rcases h.2 with h1 | ⟨g, c, cur, h1, h2, h3⟩
 · exact .inl h1
 · exact .inr ⟨g, c, cur, h1, by omega, h3⟩
theorem Soft.w {W W' : World} (h : Below W.heap.size W W') : Soft W.heap.size W W' := Soft.below h (Nat.le_refl _)
theorem keeps_others {B : Nat} {X X1 X2 : World} {bx : Nat} {t : TypeId} {cs : Array Value} {ob : Obj} {row : Option Nat} {v : Value} (hx : X1 = X.alloc ob) (hg : X1.grownBy X2 row) (hr : ∀ k, row = some k → ∃ e cur, X1.heap[k]? = some (.cells cur e (0, 0))) (hk : Bk X bx t cs) : KeepsFrom B X (X2.setCell ⟨bx, 0, none⟩ v) := by
 subst hx
 refine ⟨by have := hg.size; simp at this ⊢; omega, fun k o _ hk' hc => ?_⟩
 have hl := (Array.getElem?_eq_some_iff.1 hk').1
 have h1 : (X.alloc ob).heap[k]? = some o := by rw [Below.heap_alloc _ _ _ hl]; exact hk'
 have hne : k ≠ bx := by
  rintro rfl
  rw [show X.heap[k]? = _ from hk] at hk'
  cases hk'
  simp [Obj.isCells] at hc
 rw [Below.heap_setCell _ _ _ _ hne, hg.block k (by simp; omega) (fun e => by
  obtain ⟨e', cur, h⟩ := hr k e.symm
  rw [h1] at h
  cases h
  simp [Obj.isCells] at hc)]
 exact h1
set_option maxHeartbeats 4000000 in
theorem appendSeq_any (c o Bt : Nat) (t : TypeId) (cs : Array Value) (S : Nat → Bool) (W : World) (hc : Bk W c t cs) (hS : WdA cs o S) (hbox : Bk W Bt 75 #[.pointer (some ⟨c, o, none⟩)]) (hT : Tab W) :
 Calls Tryd.prog 55 #[.slice none 0 0, .func (.func 53) #[] #[.pointer (some ⟨Bt, 0, none⟩)]] W fun e W' => ∃ v, e = .returned v ∧ W'.ownsRow W.heap.size 3 1 v (ups S 4096).length (iV (ups S 4096)) ∧ Below W.heap.size W W' := by
 obtain ⟨i0, hi, hz0, hz1, hz2⟩ := info_parts infoIn
 obtain ⟨xs, hxs⟩ := vals_of S
 obtain ⟨Y, hY⟩ : ∃ Y, W.alloc (.cells #[.slice none 0 0] 40) = Y := ⟨_, rfl⟩
 have yB : Below W.heap.size W Y := by rw [← hY]; exact (Below.refl _ W).alloc (Nat.le_refl _) _
 have ys : Y.heap.size = W.heap.size + 1 := by rw [← hY]; simp
 have y0 : Bk Y W.heap.size 40 #[.slice none 0 0] := by rw [← hY]; exact Bk.made W _ _
 have yS := Soft.w yB
 have yc := yS.bk hc
 have yx := yS.bk hbox
 have yT : Tab Y := fun j hj => by
  have := hT j hj
  rw [yB.cell (p := ⟨_, j, none⟩) (World.block_lt_of_cell? _ _ this)]
  exact this
 have htl : 0 < W.heap.size := World.block_lt_of_cell? _ _ (hT 0 (by omega))
 have hcl := hc.lt
 have hxl := hbox.lt
 refine (callsIn_wide (n := 4)).1 (callsIn_of_wp_marks Tryd.func55 rfl trivial ?_ rfl)
 simp only [Tryd.ntmps55, List.size_toArray, List.length_cons, List.length_nil, Nat.reduceAdd, Nat.reduceSub, Array.replicate_succ, Array.replicate_zero, List.push_toArray, List.append_toArray, List.nil_append, List.cons_append]
 refine wpIn_wide.2 ?_
 replace hY := Lib.hid hY
 go_wp2_with fail
 rw [hY.out]
 refine (wpIn_wide (n := 4)).1 ?_
 refine range_all rfl (by omega) (gf := 53) (lb := #[.pointer (some ⟨Bt, 0, none⟩)]) (by first | rfl | simp) trivial (enters_of Tryd.func53 (by kernel_rfl) rfl)
  (all_seq (fun k => k < W.heap.size) c o Bt (4 - 1) t cs S xs Y hxs yc hS yx yT hcl hxl htl) (fun h k => h.trans k)
  (fun X l ob ob' hl _ _ k hk => World.putObj_heap_other (by omega)) (Below.refl _ _) (fun _ => rfl)
  (fun pre X => (∃ v, Bk X W.heap.size 40 #[v] ∧ X.ownsRow (W.heap.size + 1) 3 1 v pre.length (iV (vals pre))) ∧ Below W.heap.size W X)
  (fun pre A B row hs hg hr => by
   obtain ⟨⟨v, h1, h2⟩, h3⟩ := hs
   have hsz := h3.size
   have hsf := SoftC.grown (n₀ := W.heap.size) hsz (show W.heap.size ≤ Y.heap.size by omega) hg hr
   exact ⟨⟨v, hsf.bk h1, hsf.own h2⟩, h3.trans hsf.1⟩)
  ⟨⟨_, y0, World.ownsRow_nil _ _ _ _⟩, yB⟩
  (fun x a' X => a' = { tmps := #[.slice none 0 0, .func (.func 53) #[] #[.pointer (some ⟨Bt, 0, none⟩)], .pointer (some ⟨W.heap.size, 0, none⟩), undef, .slice none 0 0, .int .i64 (x.1 : Int), .func (.func 53) #[] #[.pointer (some ⟨Bt, 0, none⟩)], .int .i64 (x.1 : Int), undef, undef, undef, undef, undef], defers := [] })
  (fun x a' s X Z row hs hg hr => hs) ?assign ?body ?done
 case assign =>
  rintro l' pre x X K hi hK
  simp only [encP]
  gi_wp2
  exact hK _ _ ⟨Nat.le_refl _, fun _ _ _ h _ => h⟩ (KpS.refl _ _) hi rfl
 case body =>
  rintro l pre ⟨x, hx1, hx2⟩ a' X ⟨⟨v, hk, hown⟩, hb⟩ rfl hlen
  dsimp only
  have q0 := hk.cell 0
  simp at q0
  obtain ⟨A, cp, rfl⟩ : ∃ A cp, v = .slice A pre.length cp := by
   rcases hown.2 with ⟨h1, h2⟩ | ⟨g, c, cur, h1, _⟩
   · exact ⟨none, 0, by rw [h1, h2]⟩
   · exact ⟨_, c, h1⟩
  obtain ⟨N, hN⟩ : ∃ N, pre.length = N := ⟨_, rfl⟩
  rw [hN] at hown q0 hk hlen
  have hsz := hb.size
  have hXl := hk.lt
  have q1 : ∀ ob, (X.alloc ob).cell? ⟨W.heap.size, 0, none⟩ = some (.slice A N cp) := fun ob => by
   have := (hk.alloc ob).cell 0
   simpa using this
  have HOA := Lib.hid (show ∀ ob, (X.alloc ob).ownsRow (W.heap.size + 1) 3 1 (.slice A N cp) N (iV (vals pre)) from fun ob => hown.alloc ob)
  have HF := Lib.hid (show ∀ (X1 : World) v' X2, X1 = X.alloc (.cells #[.int .i64 (x : Int)] 3) → X2.ownsRow (W.heap.size + 1) 3 1 v' (N + 1) (iV (vals pre) ++ [.int .i64 (x : Int)]) → X1.grownBy X2 (Value.slice A N cp).ownBlock →
   X2.cell? ⟨W.heap.size, 0, none⟩ = some (.slice A N cp) ∧ X2.frozen? ⟨W.heap.size, 0, none⟩ = false ∧ KeepsFrom Y.heap.size X (X2.setCell ⟨W.heap.size, 0, none⟩ v') ∧ KpS (fun k => k < W.heap.size) X (X2.setCell ⟨W.heap.size, 0, none⟩ v') ∧
    (∃ v, Bk (X2.setCell ⟨W.heap.size, 0, none⟩ v') W.heap.size 40 #[v] ∧ (X2.setCell ⟨W.heap.size, 0, none⟩ v').ownsRow (W.heap.size + 1) 3 1 v (pre ++ [(⟨x, hx1, hx2⟩ : PlS S)]).length (iV (vals (pre ++ [(⟨x, hx1, hx2⟩ : PlS S)])))) ∧ Below W.heap.size W (X2.setCell ⟨W.heap.size, 0, none⟩ v') from fun X1 v' X2 hX1 h2 h3 => by
   have hnb : (Value.slice A N cp).ownBlock ≠ some W.heap.size := fun e => by have := (hown.lt _ e).1; omega
   have k1 : Bk X2 W.heap.size 40 #[.slice A N cp] := by subst hX1; exact (hk.alloc _).grown h3 (fun e => hnb e.symm)
   have k2 := k1.set 0 v'
   have e2 : Below W.heap.size W X2 := by
    subst hX1
    exact (hb.alloc (by omega) _).grown h3 (by simp; omega) (fun k e => by have := (hown.lt k e).1; omega)
   refine ⟨by have := k1.cell 0; simpa using this, k1.free 0, keeps_others hX1 h3 (fun k e => ?_) hk, fun k hk' => ?_, ⟨v', by simpa using k2, ?_⟩, e2.setCell (p := ⟨W.heap.size, 0, none⟩) (Nat.le_refl _) _⟩
   · subst hX1
     obtain ⟨cur, hcu⟩ := own_block (_n₀ := 0) (hown.alloc (.cells #[.int .i64 (x : Int)] 3)) k e
     exact ⟨_, cur, hcu⟩
   · rw [Below.heap_setCell _ _ _ _ (show k ≠ W.heap.size by omega), (e2.block k hk'), hb.block k hk']
   · have e3 : iV (vals (pre ++ [(⟨x, hx1, hx2⟩ : PlS S)])) = iV (vals pre) ++ [.int .i64 (x : Int)] := by simp [iV, vals]
     rw [e3, List.length_append, List.length_singleton, hN]
     exact ownsRow_setCell_below h2 (a := ⟨W.heap.size, 0, none⟩) (by show W.heap.size < W.heap.size + 1; omega) _)
  clear hown hk
  gi_wp2_with (gi_at_builtin; refine wpListIn_append_own _ rfl _ _ 40 rfl (W.heap.size + 1) 3 i0 (.int .i64 0) 1 8 Tryd.underlying40 hi hz0 hz1 hz2 rfl (by decide) (.slice A N cp) N (iV (vals pre)) rfl (HOA.out _) ⟨X.heap.size, 0, none⟩ 1 1 [.int .i64 (x : Int)] rfl rfl (cells_newP X _ _) (by simp [Value.oneCell']) (by unfold maxLen; omega) (by omega) (by simp; omega) ?_; intro v' X2 hown2 hg2 _; obtain ⟨A2, cp2, rfl⟩ := own_form hown2; obtain ⟨r0, r1, r2⟩ := HF.out _ _ X2 rfl hown2 hg2)
  exact r2
 case done =>
  rintro D Z hD ⟨⟨v, hk, hown⟩, hb⟩ hDf
  have hl2 : xs.length = (ups S 4096).length := by rw [← hxs]; simp [vals]
  rw [hxs, hl2] at hown
  have q0 := hk.cell 0
  simp at q0
  obtain ⟨A, cp, rfl⟩ : ∃ A cp, v = .slice A (ups S 4096).length cp := by
   rcases hown.2 with ⟨h1, h2⟩ | ⟨g, c, cur, h1, _⟩
   · exact ⟨none, 0, by rw [h1, h2]⟩
   · exact ⟨_, c, h1⟩
  have hsz := hb.size
  have g1 := grownBy_putObj' Z D (.deferred none)
  have hsf := SoftC.grown (n₀ := W.heap.size) hsz (show W.heap.size ≤ Y.heap.size by omega) g1 (fun r e => by cases e; exact ⟨hD, _, hDf, rfl⟩)
  have HFin := Lib.hid (And.intro (own_mono (hsf.own hown) (show W.heap.size ≤ W.heap.size + 1 by omega)) (hb.trans hsf.1))
  clear hk hown hsf
  go_wp2_with fail
  refine ⟨by simp, .inl ⟨_, _, rfl, run_takeDeferred hDf, ?_⟩⟩
  refine ⟨.slice A (ups S 4096).length cp, ?_, _, rfl, HFin.out.1, HFin.out.2⟩
  first
   | exact results_tmp (t := 4) rfl _ _ _
   | simp [results, Tryd.results55, go_sem]
theorem ClipIn_some (a : Addr) (n cap : Nat) (hn : n ≤ cap) (hc : cap ≤ 9223372036854775807) (w : World) :
 Calls Tryd.prog 30 #[.slice (some a) n cap] w fun e w' => e = .returned (.slice (some a) n n) ∧ w = w' := by
 have n1 : (n : Int) ≤ 9223372036854775807 := by omega
 go_enter Tryd.func30, Tryd.ntmps30
 go_wp2_with fail
 go_ret
 exact ⟨rfl, rfl⟩
theorem ClipIn_nil (w : World) :
 Calls Tryd.prog 30 #[.slice none 0 0] w fun e w' => e = .returned (.slice none 0 0) ∧ w = w' := by
 go_enter Tryd.func30, Tryd.ntmps30
 go_wp2_with fail
 go_ret
 exact ⟨rfl, rfl⟩
/-- The numbers l lie at v, in a block from B on. -/
def IL (B : Nat) (W : World) (v : Value) (l : List Nat) : Prop := ∃ A, v = .slice A l.length l.length ∧ ((A = none ∧ l = []) ∨ ∃ b cur, A = some ⟨b, 0, none⟩ ∧ B ≤ b ∧ Bk W b 3 cur ∧ ∀ (i : Nat) (x : Nat), l[i]? = some x → cur[i]? = some (.int .i64 (x : Int)))
theorem own_il {B : Nat} {W : World} {v : Value} {l : List Nat} (h : W.ownsRow B 3 1 v l.length (iV l)) : ∃ A cap, v = .slice A l.length cap ∧ l.length ≤ cap ∧ cap ≤ 9223372036854775807 ∧ (A = none → cap = 0 ∧ l.length = 0) ∧ IL B W (.slice A l.length l.length) l := by
 rcases h.2 with ⟨h1, h2⟩ | ⟨g, c, cur, h1, h2, h3, h4, h5, h6, h7⟩
 · exact ⟨none, 0, by rw [h1, h2], by omega, by omega, fun _ => ⟨rfl, h2⟩, none, rfl, .inl ⟨rfl, List.eq_nil_of_length_eq_zero h2⟩⟩
 · refine ⟨some ⟨g, 0, none⟩, c, h1, h4, by have := h5; unfold maxLen at this; omega, fun e => (by cases e), some ⟨g, 0, none⟩, rfl, .inr ⟨g, cur, rfl, h2, h3, fun i x hx => ?_⟩⟩
   have hl := (List.getElem?_eq_some_iff.1 hx).1
   have : (iV l)[i]? = some (.int .i64 (x : Int)) := by unfold iV; rw [List.getElem?_map, hx]; rfl
   rw [← this, ← h7, List.getElem?_take, if_pos (by omega)]
   simp
theorem IL.tl {n₀ B : Nat} {W W' : World} {v : Value} {l : List Nat} (h : IL B W v l) (hT : Tl n₀ W W') : IL B W' v l := by
 obtain ⟨A, h1, h2⟩ := h
 refine ⟨A, h1, h2.imp id fun ⟨b, cur, e1, e2, e3, e4⟩ => ⟨b, cur, e1, e2, hT.bk e3 (by decide) (by decide) (by decide), e4⟩⟩
theorem IL.mono {B B' : Nat} {W : World} {v : Value} {l : List Nat} (h : IL B W v l) (hb : B' ≤ B) : IL B' W v l := by
 obtain ⟨A, h1, h2⟩ := h
 refine ⟨A, h1, h2.imp id fun ⟨b, cur, e1, e2, e3, e4⟩ => ⟨b, cur, e1, by omega, e3, e4⟩⟩
theorem clip_il {B : Nat} {W : World} {v : Value} {l : List Nat} (h : W.ownsRow B 3 1 v l.length (iV l)) : ∃ u, IL B W u l ∧ ∀ w, Calls Tryd.prog 30 #[v] w fun e w' => e = .returned u ∧ w = w' := by
 obtain ⟨A, cap, rfl, h2, h3, h4, h5⟩ := own_il h
 refine ⟨_, h5, fun w => ?_⟩
 cases A with
 | none =>
  obtain ⟨e1, e2⟩ := h4 rfl
  rw [e1, e2]
  exact ClipIn_nil w
 | some a => exact ClipIn_some a _ _ h2 h3 w
set_option maxHeartbeats 2000000 in
theorem list_any (c o : Nat) (t : TypeId) (cs : Array Value) (S : Nat → Bool) (W : World) (hc : Bk W c t cs) (hS : WdA cs o S) (hT : Tab W) :
 Calls Tryd.prog 20 #[.pointer (some ⟨c, o, none⟩)] W fun e W' => ∃ v, e = .returned v ∧ IL W.heap.size W' v (ups S 4096) ∧ Below W.heap.size W W' := by
 obtain ⟨Y, hY⟩ : ∃ Y, W.alloc (.cells #[.pointer (some ⟨c, o, none⟩)] 75) = Y := ⟨_, rfl⟩
 have yB : Below W.heap.size W Y := by rw [← hY]; exact (Below.refl _ W).alloc (Nat.le_refl _) _
 have ys : Y.heap.size = W.heap.size + 1 := by rw [← hY]; simp
 have y0 : Bk Y W.heap.size 75 #[.pointer (some ⟨c, o, none⟩)] := by rw [← hY]; exact Bk.made W _ _
 have yc := (Soft.w yB).bk hc
 have yT : Tab Y := fun j hj => by
  have := hT j hj
  rw [yB.cell (p := ⟨_, j, none⟩) (World.block_lt_of_cell? _ _ this)]
  exact this
 have HA := Lib.hid (appendSeq_any c o W.heap.size t cs S Y yc hS y0 yT)
 have HB := Lib.hid (And.intro yB ys)
 replace hY := Lib.hid hY
 have HC : Calls Tryd.prog 39 #[.func (.func 53) #[] #[.pointer (some ⟨W.heap.size, 0, none⟩)]] Y fun e W' => ∃ v, e = .returned v ∧ W'.ownsRow Y.heap.size 3 1 v (ups S 4096).length (iV (ups S 4096)) ∧ Below Y.heap.size Y W' := by
  go_enter Tryd.func39, Tryd.ntmps39
  go_wp2_with (go_at_call 55; refine HA.out.mono ?_; rintro e w' ⟨v, rfl, h1, h2⟩)
  go_ret
  exact ⟨v, rfl, h1, h2⟩
 replace HC := Lib.hid HC
 clear HA y0 yc yT yB ys
 go_enter Tryd.func20, Tryd.ntmps20
 go_wp2_with (first
  | (go_at_call 37; refine (all_any _ _).mono ?_; rintro e w' ⟨rfl, rfl⟩)
  | (go_at_call 39; rw [hY.out]; refine HC.out.mono ?_; rintro e w5 ⟨v, rfl, hown, hb⟩; obtain ⟨u, hu, hclip⟩ := clip_il hown; replace hclip := Lib.hid hclip; clear hown)
  | (go_at_call 30; refine (hclip.out _).mono ?_; rintro e w' ⟨rfl, rfl⟩))
 go_ret
 exact ⟨_, rfl, hu.mono (by have := HB.out.2; omega), HB.out.1.trans (hb.mono (by have := HB.out.2; omega))⟩
end Go.Proofs.YtiinkhmgemoamaaDoor.Nf
namespace Go.Proofs.YtiinkhmgemoamaaDoor.Nf
open Go Go.RowKit Go.Shelf
attribute [local go_sem] Oper.semAt_some
set_option maxRecDepth 100000

theorem il_form {B : Nat} {W : World} {v : Value} {l : List Nat} (h : IL B W v l) : ∃ A n, v = .slice A n n := by
 obtain ⟨A, h1, _⟩ := h
 exact ⟨A, _, h1⟩
/-- All cells but places lie as they lay. -/
def NoPl (n₀ : Nat) (W W' : World) : Prop := Below n₀ W W' ∧ ∀ (k : Nat) cs t f, t ≠ 48 → W.heap[k]? = some (.cells cs t f) → W'.heap[k]? = some (.cells cs t f)
theorem NoPl.refl (n₀ : Nat) (W : World) : NoPl n₀ W W := ⟨Below.refl _ _, fun _ _ _ _ _ h => h⟩
theorem NoPl.trans {n₀ : Nat} {X Y Z : World} (h : NoPl n₀ X Y) (k : NoPl n₀ Y Z) : NoPl n₀ X Z := ⟨h.1.trans k.1, fun j cs t f ht hj => k.2 j cs t f ht (h.2 j cs t f ht hj)⟩
theorem NoPl.bk {n₀ : Nat} {W W' : World} {b : Nat} {t : TypeId} {cs : Array Value} (h : NoPl n₀ W W') (hb : Bk W b t cs) (ht : t ≠ 48) : Bk W' b t cs := h.2 b _ _ _ ht hb
theorem NoPl.setv {n₀ : Nat} {W W' : World} {v : Value} {set : List (Int × Int)} (h : NoPl n₀ W W') (hs : SetV W v set) : SetV W' v set := hs.keep fun k cs f e => h.2 k _ _ _ (by decide) e
theorem NoPl.il {n₀ B : Nat} {W W' : World} {v : Value} {l : List Nat} (h : NoPl n₀ W W') (hi : IL B W v l) : IL B W' v l := by
 obtain ⟨A, h1, h2⟩ := hi
 exact ⟨A, h1, h2.imp id fun ⟨b, cur, e1, e2, e3, e4⟩ => ⟨b, cur, e1, e2, h.bk e3 (by decide), e4⟩⟩
theorem NoPl.softc {n₀ : Nat} {W W' : World} (h : SoftC n₀ W W') : NoPl n₀ W W' := ⟨h.1, fun k _cs _t _f _ e => h.2 k _ e rfl⟩
theorem NoPl.only {n₀ b : Nat} {W W' : World} {cs : Array Value} (h : Only b W W') (hk : Bk W b 48 cs) (hb : n₀ ≤ b) : NoPl n₀ W W' := ⟨h.below hb, fun k c t f ht e => by
 rw [h.same k ?_]
 · exact e
 · rintro rfl
   rw [show W.heap[k]? = _ from hk] at e
   injection e with e
   injection e with _ e
   exact ht e.symm⟩
/-- The row of places: which are last, where what follows lies. -/
def PR (n₀ : Nat) (W : World) (mA : Option Addr) (N : Nat) (ms : List Mk) (b : Nat → Bool) (fs : Nat → Value) : Prop :=
 N = 0 ∨ ∃ mb cur, mA = some ⟨mb, 0, none⟩ ∧ n₀ ≤ mb ∧ Bk W mb 48 cur ∧ ∀ (i : Nat) (m : Mk), ms[i]? = some m → cur[i * 4]? = some m.1 ∧ cur[i * 4 + 1]? = some (.int .i64 (m.2.2 : Int)) ∧ cur[i * 4 + 2]? = some (.bool (b i)) ∧ cur[i * 4 + 3]? = some (fs i)
theorem PR.softc {n₀ : Nat} {W W' : World} {mA : Option Addr} {N : Nat} {ms : List Mk} {b : Nat → Bool} {fs : Nat → Value} (h : PR n₀ W mA N ms b fs) (hs : SoftC n₀ W W') : PR n₀ W' mA N ms b fs :=
 h.imp id fun ⟨mb, cur, h1, h2, h3, h4⟩ => ⟨mb, cur, h1, h2, hs.bk h3, h4⟩
theorem PR.start {n₀ : Nat} {W : World} {mA : Option Addr} {N mc : Nat} {ms : List Mk} (hl : ms.length = N) (h : W.ownsRow n₀ 48 4 (.slice mA N mc) N (mV ms)) : PR n₀ W mA N ms (fun _ => false) (fun _ => .slice none 0 0) := by
 rcases h.2 with ⟨_, h0⟩ | ⟨g, c, cur, h1, h2, h3, h4, h5, h6, h7⟩
 · exact .inl h0
 · injection h1 with h1 _ h1'
   refine .inr ⟨g, cur, h1, h2, h3, fun i m hm => ?_⟩
   have hi : i < N := by rw [← hl]; exact (List.getElem?_eq_some_iff.1 hm).1
   have key : ∀ j, j < N * 4 → cur[j]? = (mV ms)[j]? := fun j hj => by
    rw [← h7, List.getElem?_take, if_pos hj]; simp
   have get : ∀ (l : List Mk) (i : Nat) (m : Mk), l[i]? = some m → (mV l)[i * 4]? = some m.1 ∧ (mV l)[i * 4 + 1]? = some (.int .i64 (m.2.2 : Int)) ∧ (mV l)[i * 4 + 2]? = some (.bool false) ∧ (mV l)[i * 4 + 3]? = some (.slice none 0 0) := by
    intro l
    induction l with
    | nil => intro i m h; simp at h
    | cons x l ih =>
     intro i m h
     cases i with
     | zero =>
      obtain rfl : x = m := by simpa using h
      exact ⟨rfl, rfl, rfl, rfl⟩
     | succ i =>
      obtain ⟨a, b, c, d⟩ := ih i m (by simpa using h)
      have e : mV (x :: l) = [x.1, .int .i64 (x.2.2 : Int), .bool false, .slice none 0 0] ++ mV l := rfl
      rw [e]
      refine ⟨?_, ?_, ?_, ?_⟩ <;> rw [List.getElem?_append_right (by simp; omega)]
      · rw [show (i + 1) * 4 - [x.1, Value.int .i64 (x.2.2 : Int), .bool false, .slice none 0 0].length = i * 4 by simp; omega]; exact a
      · rw [show (i + 1) * 4 + 1 - [x.1, Value.int .i64 (x.2.2 : Int), .bool false, .slice none 0 0].length = i * 4 + 1 by simp; omega]; exact b
      · rw [show (i + 1) * 4 + 2 - [x.1, Value.int .i64 (x.2.2 : Int), .bool false, .slice none 0 0].length = i * 4 + 2 by simp; omega]; exact c
      · rw [show (i + 1) * 4 + 3 - [x.1, Value.int .i64 (x.2.2 : Int), .bool false, .slice none 0 0].length = i * 4 + 3 by simp; omega]; exact d
   obtain ⟨a, b, c, d⟩ := get ms i m hm
   exact ⟨(key _ (by omega)).trans a, (key _ (by omega)).trans b, (key _ (by omega)).trans c, (key _ (by omega)).trans d⟩
theorem PR.setF {n₀ : Nat} {W : World} {mb N : Nat} {ms : List Mk} {b : Nat → Bool} {fs : Nat → Value} (h : PR n₀ W (some ⟨mb, 0, none⟩) N ms b fs) (hl : ms.length = N) {q : Nat} (hq : q < N) (v : Value) :
 PR n₀ (W.setCell ⟨mb, q * 4 + 3, none⟩ v) (some ⟨mb, 0, none⟩) N ms b (fun i => if i = q then v else fs i) ∧ NoPl n₀ W (W.setCell ⟨mb, q * 4 + 3, none⟩ v) := by
 rcases h with h | ⟨mb', cur, e, h2, h3, h4⟩
 · omega
 · injection e with e
   injection e with e
   subst e
   refine ⟨.inr ⟨mb, _, rfl, h2, h3.set (q * 4 + 3) v, fun i m hm => ?_⟩, NoPl.only (Only.set _ _ _ _) h3 h2⟩
   obtain ⟨a, b', c, d⟩ := h4 i m hm
   obtain ⟨m0, hm0⟩ : ∃ m0, ms[q]? = some m0 := ⟨_, List.getElem?_eq_getElem (by rw [hl]; exact hq)⟩
   have hsz : q * 4 + 3 < cur.size := (Array.getElem?_eq_some_iff.1 (h4 q m0 hm0).2.2.2).1
   refine ⟨by rw [Array.getElem?_setIfInBounds_ne (by omega)]; exact a, by rw [Array.getElem?_setIfInBounds_ne (by omega)]; exact b', by rw [Array.getElem?_setIfInBounds_ne (by omega)]; exact c, ?_⟩
   by_cases e : i = q
   · subst e
     rw [Array.getElem?_setIfInBounds_self_of_lt hsz]
     simp
   · rw [Array.getElem?_setIfInBounds_ne (by omega)]
     simpa [e] using d
theorem PR.setL {n₀ : Nat} {W : World} {mb N : Nat} {ms : List Mk} {b b2 : Nat → Bool} {fs : Nat → Value} (h : PR n₀ W (some ⟨mb, 0, none⟩) N ms b fs) (hl : ms.length = N) {q : Nat} (hq : q < N) (hb : ∀ i, i < N → b2 i = (b i || i == q)) :
 PR n₀ (W.setCell ⟨mb, q * 4 + 2, none⟩ (.bool true)) (some ⟨mb, 0, none⟩) N ms b2 fs ∧ NoPl n₀ W (W.setCell ⟨mb, q * 4 + 2, none⟩ (.bool true)) := by
 rcases h with h | ⟨mb', cur, e, h2, h3, h4⟩
 · omega
 · injection e with e
   injection e with e
   subst e
   refine ⟨.inr ⟨mb, _, rfl, h2, h3.set (q * 4 + 2) (.bool true), fun i m hm => ?_⟩, NoPl.only (Only.set _ _ _ _) h3 h2⟩
   obtain ⟨a, b', c, d⟩ := h4 i m hm
   have hi : i < N := by rw [← hl]; exact (List.getElem?_eq_some_iff.1 hm).1
   obtain ⟨m0, hm0⟩ : ∃ m0, ms[q]? = some m0 := ⟨_, List.getElem?_eq_getElem (by rw [hl]; exact hq)⟩
   have hsz : q * 4 + 2 < cur.size := (Array.getElem?_eq_some_iff.1 (h4 q m0 hm0).2.2.1).1
   refine ⟨by rw [Array.getElem?_setIfInBounds_ne (by omega)]; exact a, by rw [Array.getElem?_setIfInBounds_ne (by omega)]; exact b', ?_, by rw [Array.getElem?_setIfInBounds_ne (by omega)]; exact d⟩
   by_cases e : i = q
   · subst e
     rw [Array.getElem?_setIfInBounds_self_of_lt hsz, hb i hi]
     simp
   · rw [Array.getElem?_setIfInBounds_ne (by omega), c, hb i hi]
     simp [e]
theorem ClipPl_some (a : Addr) (n cap : Nat) (hn : n ≤ cap) (hc : cap ≤ 9223372036854775807) (w : World) :
 Calls Tryd.prog 38 #[.slice (some a) n cap] w fun e w' => e = .returned (.slice (some a) n n) ∧ w = w' := by
 have n1 : (n : Int) ≤ 9223372036854775807 := by omega
 go_enter Tryd.func38, Tryd.ntmps38
 go_wp2_with fail
 go_ret
 exact ⟨rfl, rfl⟩
theorem ClipPl_nil (w : World) :
 Calls Tryd.prog 38 #[.slice none 0 0] w fun e w' => e = .returned (.slice none 0 0) ∧ w = w' := by
 go_enter Tryd.func38, Tryd.ntmps38
 go_wp2_with fail
 go_ret
 exact ⟨rfl, rfl⟩
/-- Places as they were told. -/
def PL (n₀ : Nat) (W : World) (v : Value) (made : List (List (Int × Int) × Nat)) (follow : List (Nat → Bool)) (last : Nat → Bool) : Prop :=
 ∃ A, v = .slice A made.length made.length ∧ (made = [] ∨ ∃ mb cur, A = some ⟨mb, 0, none⟩ ∧ n₀ ≤ mb ∧ Bk W mb 48 cur ∧ ∀ (i : Nat) (m : List (Int × Int) × Nat) (F : Nat → Bool), made[i]? = some m → follow[i]? = some F → ∃ sv fv,
  cur[i * 4]? = some sv ∧ cur[i * 4 + 1]? = some (.int .i64 (m.2 : Int)) ∧ cur[i * 4 + 2]? = some (.bool (last i)) ∧ cur[i * 4 + 3]? = some fv ∧ SetV W sv m.1 ∧ IL n₀ W fv (ups F 4096))
set_option maxHeartbeats 8000000 in
theorem told_any (n₀ bb : Nat) (g : BV) (kind : Nat) (s : St) (W : World) (hI : BI n₀ bb g kind s W) (hOk : Ok s) (c o : Nat) (t : TypeId) (cs : Array Value) (last : Nat → Bool) (hc : Bk W c t cs) (hla : WdA cs o last)
 (t2 : t ≠ 48) (hbd : Bd s.made.length last) :
 Calls Tryd.prog 19 #[.pointer (some ⟨bb, 0, none⟩), .pointer (some ⟨c, o, none⟩)] W fun e W' => ∃ v, e = .returned v ∧ PL n₀ W' v s.made s.follow last ∧ NoPl n₀ W W' := by
 obtain ⟨mv, fv, ms, hB, hms⟩ := hI
 have hn0 : n₀ ≤ W.heap.size := by have := hB.b.lt; have := hB.lo; omega
 have hmsl : ms.length = s.made.length := by rw [← hms, List.length_map]
 obtain ⟨mA, mc, rfl⟩ := own_form hB.m
 obtain ⟨fA, fc, rfl⟩ := own_form hB.f
 obtain ⟨N, hN⟩ : ∃ N, ms.length = N := ⟨_, rfl⟩
 have hFN : s.follow.length = N := by rw [hOk.len, ← hmsl, hN]
 have hcap : N ≤ 4096 := by rw [← hN, hmsl]; exact hOk.cap
 have np : (N : Int) ≤ 9223372036854775807 := by omega
 obtain ⟨Y, hY⟩ : ∃ Y, W.alloc (.cells #[.pointer (some ⟨bb, 0, none⟩)] 87) = Y := ⟨_, rfl⟩
 have yS : Soft n₀ W Y := by rw [← hY]; exact soft_alloc W hn0 _
 have ys : Y.heap.size = W.heap.size + 1 := by rw [← hY]; simp
 have y0 : Bk Y W.heap.size 87 #[.pointer (some ⟨bb, 0, none⟩)] := by rw [← hY]; exact Bk.made W _ _
 have yB := hB.soft yS
 have yc := yS.bk hc
 have hcapm : N ≤ mc ∧ mc ≤ 9223372036854775807 ∧ (mA = none → N = 0 ∧ mc = 0) := by
  have := yB.m
  rw [hN] at this
  rcases this.2 with ⟨h1, h2⟩ | ⟨g, c, cur, h1, h2, h3, h4, h5, h6⟩
  · injection h1 with h1 h1' h1''
    exact ⟨by omega, by omega, fun _ => ⟨h2, h1''⟩⟩
  · injection h1 with h1 _ h1'
    subst h1'
    exact ⟨h4, by unfold maxLen at h5; omega, fun e => by rw [e] at h1; cases h1⟩
 have HST := Lib.hid (show NoPl n₀ Y Y ∧ ∃ fs, PR n₀ Y mA N ms (fun _ => false) fs ∧ ∀ i F, i < 0 → s.follow[i]? = some F → IL n₀ Y (fs i) (ups F 4096) from ⟨NoPl.refl _ _, _, PR.start hN (by have := yB.m; rwa [hN] at this), fun i F h => by omega⟩)
 have HFN := Lib.hid hFN
 have hN' := Lib.hid hN
 rw [hN, hFN] at yB
 have HYB := Lib.hid yB
 have HYC := Lib.hid (And.intro yc (And.intro y0 (And.intro yS.tl.1 (And.intro ys hn0))))
 have p6 : Y.cell? ⟨bb, 6, none⟩ = some (.slice mA N mc) := by have := yB.b.cell 6; simpa using this
 have p0 : Y.cell? ⟨W.heap.size, 0, none⟩ = some (.pointer (some ⟨bb, 0, none⟩)) := by have := y0.cell 0; simpa using this
 replace hY := Lib.hid hY
 have HMS := Lib.hid (And.intro hms hmsl)
 have HFR := Lib.hid (show ∀ (wr : World) (q : Nat) (S : Nat → Bool), NoPl n₀ Y wr → s.follow[q]? = some S → ∃ fb cur, fA = some ⟨fb, 0, none⟩ ∧ Bk wr fb 64 cur ∧ WdA cur (q * 64) S from fun wr q S hno hS => by
  obtain ⟨fb, cap, cur, e1, e2, e3, e4, _⟩ := (hB.soft yS).follow hS
  injection e1 with e1
  exact ⟨fb, cur, e1, hno.bk e3 (by decide), e4⟩)
 clear hN hFN hB yB yc yS y0 hms hmsl hc
 refine (callsIn_wide (n := 4)).1 (callsIn_of_wp_marks Tryd.func19 rfl trivial ?_ rfl)
 simp only [Tryd.ntmps19, List.size_toArray, List.length_cons, List.length_nil, Nat.reduceAdd, Nat.reduceSub, Array.replicate_succ, Array.replicate_zero, List.push_toArray, List.append_toArray, List.nil_append, List.cons_append]
 refine wpIn_wide.2 ?_
 go_upto_region 1 with fail
 rw [hY.out]
 go_wp2_with fail
 go_loopw [12] (fun i wr => ∃ q : Nat, q ≤ N ∧ i = .int .i64 q ∧ Hid (NoPl n₀ Y wr ∧ ∃ fs, PR n₀ wr mA N ms (fun _ => false) fs ∧ ∀ i F, i < q → s.follow[i]? = some F → IL n₀ wr (fs i) (ups F 4096))) (fun i _ => N - (intOf i).toNat)
 case atStart => exact ⟨0, Nat.zero_le _, rfl, HST⟩
 case round =>
  obtain ⟨q, hq, rfl, hJ⟩ := hrel
  clear p6 p0
  by_cases hlt : q < N
  · have x0 : (q : Int) < (N : Int) := by omega
    have x1 : (0 : Int) ≤ (q : Int) := by omega
    obtain ⟨hno, fs, hPR, hfs⟩ := hJ.out
    obtain ⟨mb, rfl⟩ : ∃ mb, mA = some ⟨mb, 0, none⟩ := by
     rcases hPR with h | ⟨mb, _, h, _⟩
     · omega
     · exact ⟨mb, h⟩
    obtain ⟨S, hS⟩ : ∃ S, s.follow[q]? = some S := ⟨_, List.getElem?_eq_getElem (by rw [HFN.out]; exact hlt)⟩
    obtain ⟨fb, cur, rfl, hfb, hwf⟩ := HFR.out wr q S hno hS
    have hbb := hno.bk HYB.out.b (by decide)
    have hbx := hno.bk HYC.out.2.1 (by decide)
    have q0 : wr.drew.cell? ⟨W.heap.size, 0, none⟩ = some (.pointer (some ⟨bb, 0, none⟩)) := by have := hbx.cell 0; simpa using this
    have q6 : wr.drew.cell? ⟨bb, 6, none⟩ = some (.slice (some ⟨mb, 0, none⟩) N mc) := by have := hbb.cell 6; simpa using this
    have q7 : wr.drew.cell? ⟨bb, 7, none⟩ = some (.slice (some ⟨fb, 0, none⟩) N fc) := by have := hbb.cell 7; simpa using this
    have hTab : Tab wr.drew := HYB.out.tab.below hno.1.drew HYB.out.tl
    have HL := Lib.hid (list_any fb (q * 64) 64 cur S wr.drew hfb hwf hTab)
    have hnw : n₀ ≤ wr.heap.size := by have := hno.1.size; have := HYC.out.2.2.2.2; have := HYC.out.2.2.2.1; omega
    have HS2 := Lib.hid (show ∀ X2, Below wr.drew.heap.size wr.drew X2 → X2.cell? ⟨W.heap.size, 0, none⟩ = some (.pointer (some ⟨bb, 0, none⟩)) ∧ X2.cell? ⟨bb, 6, none⟩ = some (.slice (some ⟨mb, 0, none⟩) N mc) ∧ X2.cell? ⟨bb, 7, none⟩ = some (.slice (some ⟨fb, 0, none⟩) N fc) ∧ (∃ u, X2.cell? ⟨mb, q * 4 + 3, none⟩ = some u) ∧ X2.frozen? ⟨mb, q * 4 + 3, none⟩ = false from fun X2 hb => by
     refine ⟨Nd.cell_keeps hb q0, Nd.cell_keeps hb q6, Nd.cell_keeps hb q7, ?_⟩
     rcases hPR with h | ⟨mb', cur', e, _, h3, h4⟩
     · omega
     · injection e with e
       injection e with e
       subst e
       obtain ⟨m0, hm0⟩ : ∃ m0, ms[q]? = some m0 := ⟨_, List.getElem?_eq_getElem (by rw [hN'.out]; exact hlt)⟩
       have hk2 : Bk X2 mb 48 cur' := Bk.below (w := wr.drew) h3 hb h3.lt
       exact ⟨⟨_, (hk2.cell _).trans (h4 q m0 hm0).2.2.2⟩, hk2.free _⟩)
    have HF := Lib.hid (show ∀ X2 lv, Below wr.drew.heap.size wr.drew X2 → IL wr.drew.heap.size X2 lv (ups S 4096) → NoPl n₀ Y (X2.setCell ⟨mb, q * 4 + 3, none⟩ lv) ∧ ∃ fs, PR n₀ (X2.setCell ⟨mb, q * 4 + 3, none⟩ lv) (some ⟨mb, 0, none⟩) N ms (fun _ => false) fs ∧ ∀ i F, i < q + 1 → s.follow[i]? = some F → IL n₀ (X2.setCell ⟨mb, q * 4 + 3, none⟩ lv) (fs i) (ups F 4096) from fun X2 lv hb hil => by
     have hs : SoftC n₀ wr X2 := ((Soft.drew n₀ wr).trans (Soft.below (W := wr.drew) hb hnw)).c
     obtain ⟨r1, r2⟩ := (hPR.softc hs).setF hN'.out hlt lv
     have r3 := (NoPl.softc hs).trans r2
     refine ⟨hno.trans r3, _, r1, fun i F hi hF => ?_⟩
     by_cases e : i = q
     · subst e
       rw [hS] at hF
       injection hF with hF
       subst hF
       rw [if_pos rfl]
       exact (r2.il hil).mono hnw
     · rw [if_neg e]
       exact r3.il (hfs i F (by omega) hF))
    clear hJ hno hPR hfs hfb hwf hbb hbx hTab hS
    go_wp2_with fail
    refine wp_cutN (fun a a' w' => (∃ y15 y16 y17 y18 y19 y20 y21 y22 y23 y24 y25 y26 y27 y28 : Value, a' = ((((((((((((((a.put (some 15) y15).put (some 16) y16).put (some 17) y17).put (some 18) y18).put (some 19) y19).put (some 20) y20).put (some 21) y21).put (some 22) y22).put (some 23) y23).put (some 24) y24).put (some 25) y25).put (some 26) y26).put (some 27) y27).put (some 28) y28)) ∧ NoPl n₀ Y w' ∧ ∃ fs, PR n₀ w' (some ⟨mb, 0, none⟩) N ms (fun _ => false) fs ∧ ∀ i F, i < q + 1 → s.follow[i]? = some F → IL n₀ w' (fs i) (ups F 4096)) ?first4 ?next4
    case first4 =>
     refine region_B (S := fun w' : World => (w'.cell? ⟨W.heap.size, 0, none⟩ = some (.pointer (some ⟨bb, 0, none⟩)) ∧ w'.cell? ⟨bb, 6, none⟩ = some (.slice (some ⟨mb, 0, none⟩) N mc) ∧ w'.cell? ⟨bb, 7, none⟩ = some (.slice (some ⟨fb, 0, none⟩) N fc))) 14 (by kernel_rfl) ⟨q0, q6, q7⟩ (fun hSS => ?_)
     show wpAnyB _ _ _ _ _ 14 15 #[false, false, false, false, false, false, false, false, false, false, false, false, false, false, false] _ _
     refine zqB 0 (some 15) _ (zqF 15 1) (by rw [List.getElem?_toArray]; rfl) rfl (by kernel_rfl) rfl (fun _ _ _ h => h) (Or.inl ⟨by rfl, fun w' hSw => by (try dsimp only at hSw); go_simp; try with_reducible rfl⟩) hSS ?_
     simp only [zqN]
     refine zqB 1 (some 16) _ (zqF 15 2) (by rw [List.getElem?_toArray]; rfl) rfl (by kernel_rfl) rfl (fun _ _ _ h => h) (Or.inl ⟨by rfl, fun w' hSw => by (try dsimp only at hSw); go_simp; try with_reducible rfl⟩) hSS ?_
     simp only [zqN]
     refine zqB 2 (some 17) _ (zqF 15 3) (by rw [List.getElem?_toArray]; rfl) rfl (by kernel_rfl) rfl (fun _ _ _ h => h) (Or.inl ⟨by rfl, fun w' hSw => by (try dsimp only at hSw); go_simp; try with_reducible rfl⟩) hSS ?_
     simp only [zqN]
     refine zqB 3 (some 18) _ (zqF 15 4) (by rw [List.getElem?_toArray]; rfl) rfl (by kernel_rfl) rfl (fun _ _ _ h => h) (Or.inl ⟨by rfl, fun w' hSw => by (try dsimp only at hSw); go_simp; try with_reducible rfl⟩) hSS ?_
     simp only [zqN]
     refine zqB 4 (some 19) _ (zqF 15 5) (by rw [List.getElem?_toArray]; rfl) rfl (by kernel_rfl) rfl (fun _ _ _ h => h) (Or.inl ⟨by rfl, fun w' hSw => by (try dsimp only at hSw); go_simp; try with_reducible rfl⟩) hSS ?_
     simp only [zqN]
     refine zqB 5 (some 20) _ (zqF 15 6) (by rw [List.getElem?_toArray]; rfl) rfl (by kernel_rfl) rfl (fun _ _ _ h => h) (Or.inl ⟨by rfl, fun w' hSw => by (try dsimp only at hSw); go_simp; try with_reducible rfl⟩) hSS ?_
     simp only [zqN]
     refine zqB 6 (some 21) _ (zqF 15 7) (by rw [List.getElem?_toArray]; rfl) rfl (by kernel_rfl) rfl (fun _ _ _ h => h) (Or.inl ⟨by rfl, fun w' hSw => by (try dsimp only at hSw); go_simp; try with_reducible rfl⟩) hSS ?_
     simp only [zqN]
     refine zqB 7 (some 22) _ (zqF 15 8) (by rw [List.getElem?_toArray]; rfl) rfl (by kernel_rfl) rfl (fun _ _ _ h => h) (Or.inl ⟨by rfl, fun w' hSw => by (try dsimp only at hSw); go_simp; try with_reducible rfl⟩) hSS ?_
     simp only [zqN]
     refine zqB 8 (some 23) _ (zqF 15 9) (by rw [List.getElem?_toArray]; rfl) rfl (by kernel_rfl) rfl (fun _ _ _ h => h) (Or.inl ⟨by rfl, fun w' hSw => by (try dsimp only at hSw); go_simp; try with_reducible rfl⟩) hSS ?_
     simp only [zqN]
     refine zqB 9 (some 24) _ (zqF 15 10) (by rw [List.getElem?_toArray]; rfl) rfl (by kernel_rfl) rfl (fun _ _ _ h => h) (Or.inl ⟨by rfl, fun w' hSw => by (try dsimp only at hSw); go_simp; try with_reducible rfl⟩) hSS ?_
     simp only [zqN]
     refine zqB 10 (some 25) _ (zqF 15 11) (by rw [List.getElem?_toArray]; rfl) rfl (by kernel_rfl) rfl (fun _ _ _ h => h) (Or.inl ⟨by rfl, fun w' hSw => by (try dsimp only at hSw); go_simp; try with_reducible rfl⟩) hSS ?_
     simp only [zqN]
     refine comeB (i := 11) (l' := #[true, true, true, true, true, true, true, true, true, true, true, true, false, false, false]) (by rw [List.getElem?_toArray]; rfl) (by kernel_rfl) rfl (fun K' hK => ?_)
     go_simp
     go_at_call 20; refine HL.out.mono ?_; rintro e X2 ⟨lv, rfl, hil, hb2⟩; obtain ⟨s0, s6, s7, ⟨uA, cA⟩, cF⟩ := HS2.out X2 hb2; have lvf := il_form hil
     refine hK.out _ _ (Or.inr ⟨s0, s6, s7⟩) (fun hOr => ?_)
     replace hSS := hOr.resolve_left (by decide)
     try simp only [zqN]
     refine pureB (i := 12) (d := (some 27)) (v := _) (l' := #[true, true, true, true, true, true, true, true, true, true, true, true, true, false, false]) (by rw [List.getElem?_toArray]; rfl) rfl (by kernel_rfl) (by kernel_rfl) (by kernel_rfl) (by decide) rfl (fun _ _ _ h => h) (Or.inl ⟨by rfl, fun w' _ => by go_simp; try with_reducible rfl⟩) (Or.inr hSS) ?_
     simp only [zqN]
     refine pureB (i := 13) (d := (some 28)) (v := _) (l' := #[true, true, true, true, true, true, true, true, true, true, true, true, true, true, false]) (by rw [List.getElem?_toArray]; rfl) rfl (by kernel_rfl) (by kernel_rfl) (by kernel_rfl) (by decide) rfl (fun _ _ _ h => h) (Or.inl ⟨by rfl, fun w' _ => by go_simp; try with_reducible rfl⟩) (Or.inr hSS) ?_
     simp only [zqN]
     refine comeB (i := 14) (l' := #[true, true, true, true, true, true, true, true, true, true, true, true, true, true, true]) (by rw [List.getElem?_toArray]; rfl) (by kernel_rfl) rfl (fun K' hK => ?_)
     obtain ⟨lA, ln, rfl⟩ := lvf
     go_simp
     refine hK.out _ _ (Or.inl rfl) (fun _ => ?_)
     try simp only [zqN]
     refine wpAnyB_done (by kernel_rfl) ?_ _
     exact ⟨⟨_, _, _, _, _, _, _, _, _, _, _, _, _, _, rfl⟩, HF.out X2 _ hb2 hil⟩
    case next4 =>
    rintro a' w' ⟨⟨y15, y16, y17, y18, y19, y20, y21, y22, y23, y24, y25, y26, y27, y28, rfl⟩, hw'⟩
    simp only [zqN]
    go_wp2_with fail
    exact ⟨⟨q + 1, by omega, by go_num, Lib.hid hw'⟩, by simp [intOf]; omega⟩
  · obtain rfl : q = N := by omega
    obtain ⟨hno, fs, hPR, hfs⟩ := hJ.out
    obtain ⟨xs, hxs⟩ := vals_of last
    obtain ⟨Z, hZ⟩ : ∃ Z, wr.alloc (.cells #[.pointer (some ⟨c, o, none⟩)] 75) = Z := ⟨_, rfl⟩
    have hnw : n₀ ≤ wr.heap.size := by have := hno.1.size; have := HYC.out.2.2.2.2; have := HYC.out.2.2.2.1; omega
    have zS : Soft n₀ wr Z := by rw [← hZ]; exact soft_alloc wr hnw _
    have zs : Z.heap.size = wr.heap.size + 1 := by rw [← hZ]; simp
    have z2 : Bk Z wr.heap.size 75 #[.pointer (some ⟨c, o, none⟩)] := by rw [← hZ]; exact Bk.made wr _ _
    have zno := hno.trans (NoPl.softc zS.c)
    have zPR := hPR.softc zS.c
    have zc := zno.bk HYC.out.1 t2
    have zTab : Tab Z := HYB.out.tab.below zno.1 HYB.out.tl
    have zil : ∀ i F, i < q → s.follow[i]? = some F → IL n₀ Z (fs i) (ups F 4096) := fun i F hi hF => (NoPl.softc zS.c).il (hfs i F hi hF)
    replace hZ := Lib.hid hZ
    clear hJ hno hPR hfs zS
    go_wp2_with (go_at_call 37; refine (all_any _ _).mono ?_; rintro e w' ⟨rfl, rfl⟩)
    rw [hZ.out]
    refine (wpIn_wide (n := 4)).1 ?_
    have zl := z2.lt
    have zcl := zc.lt
    have ztl : 0 < Z.heap.size := by have := HYB.out.tl; omega
    refine range_all rfl (by omega) (gf := 53) (lb := #[.pointer (some ⟨wr.heap.size, 0, none⟩)]) (by first | rfl | simp) trivial (enters_of Tryd.func53 (by kernel_rfl) rfl)
     (all_seq (fun k => k = c ∨ k = wr.heap.size ∨ k = 0) c o wr.heap.size (4 - 1) t cs last xs Z hxs zc hla z2 zTab (.inl rfl) (.inr (.inl rfl)) (.inr (.inr rfl))) (fun h k => h.trans k)
     (fun X l ob ob' hl _ _ k hk => World.putObj_heap_other (by rcases hk with rfl | rfl | rfl <;> omega)) (Below.refl _ _) (fun _ => rfl)
     (fun pre X => NoPl n₀ Z X ∧ PR n₀ X mA q ms (fun i => (vals pre).contains i) fs)
     (fun pre A B row hs hg hr => by
      have hsz := hs.1.1.size
      have hsf := SoftC.grown (n₀ := n₀) (by omega) (show n₀ ≤ Z.heap.size by omega) hg hr
      exact ⟨hs.1.trans (NoPl.softc hsf), hs.2.softc hsf⟩)
     ⟨NoPl.refl _ _, by simpa [vals] using zPR⟩
     (fun x a' X => a' = { tmps := #[.pointer (some ⟨bb, 0, none⟩), .pointer (some ⟨c, o, none⟩), .pointer (some ⟨W.heap.size, 0, none⟩), undef, .slice none 0 0, u5, .int .i64 (x.1 : Int), .pointer (some ⟨bb, 0, none⟩), .pointer (some ⟨bb, 0, none⟩), .pointer (some ⟨bb, 6, none⟩), .slice mA q mc, .int .i64 (q : Int), .int .i64 (q : Int), .bool false, u14, u15, u16, u17, u18, u19, u20, u21, u22, u23, u24, u25, u26, u27, u28, u29, .pointer (some ⟨c, o, none⟩), .func (.func 53) #[] #[.pointer (some ⟨wr.heap.size, 0, none⟩)], .int .i64 (x.1 : Int), undef, undef, undef, undef, undef, undef, undef, undef, undef, undef, undef, undef], defers := [] })
     (fun x a' s X Z row hs hg hr => hs) ?assign ?body ?done
    case assign =>
     rintro l' pre x X K hi hK
     simp only [encP]
     gi_wp2
     exact hK _ _ ⟨Nat.le_refl _, fun _ _ _ h _ => h⟩ (KpS.refl _ _) hi rfl
    case body =>
     rintro l pre ⟨x, hx1, hx2⟩ a' X ⟨hno, hPR⟩ rfl hlen
     dsimp only
     have hxl : x < q := by have := hbd x hx2; rw [← HMS.out.2, hN'.out] at this; exact this
     obtain ⟨mb, hmb⟩ : ∃ mb, mA = some ⟨mb, 0, none⟩ := by
      rcases hPR with h | ⟨mb, _, h, _⟩
      · omega
      · exact ⟨mb, h⟩
     have hnoY := zno.trans hno
     have hbb := hnoY.bk HYB.out.b (by decide)
     have hbx := hnoY.bk HYC.out.2.1 (by decide)
     have q0 : X.cell? ⟨W.heap.size, 0, none⟩ = some (.pointer (some ⟨bb, 0, none⟩)) := by have := hbx.cell 0; simpa using this
     have q6 : X.cell? ⟨bb, 6, none⟩ = some (.slice (some ⟨mb, 0, none⟩) q mc) := by have := hbb.cell 6; rw [hmb] at this; simpa using this
     rw [hmb] at hPR
     obtain ⟨⟨uA, cA⟩, cF, hn, hkB⟩ : (∃ u, X.cell? ⟨mb, x * 4 + 2, none⟩ = some u) ∧ X.frozen? ⟨mb, x * 4 + 2, none⟩ = false ∧ n₀ ≤ mb ∧ ∃ cur, Bk X mb 48 cur := by
      rcases hPR with h | ⟨mb', cur', e, h2, h3, h4⟩
      · omega
      · injection e with e
        injection e with e
        subst e
        obtain ⟨m0, hm0⟩ : ∃ m0, ms[x]? = some m0 := ⟨_, List.getElem?_eq_getElem (by rw [hN'.out]; exact hxl)⟩
        exact ⟨⟨_, (h3.cell _).trans (h4 x m0 hm0).2.2.1⟩, h3.free _, h2, cur', h3⟩
     obtain ⟨cur, hkB⟩ := hkB
     have HF := Lib.hid (show KeepsFrom Z.heap.size X (X.setCell ⟨mb, x * 4 + 2, none⟩ (.bool true)) ∧ KpS (fun k => k = c ∨ k = wr.heap.size ∨ k = 0) X (X.setCell ⟨mb, x * 4 + 2, none⟩ (.bool true)) ∧ NoPl n₀ Z (X.setCell ⟨mb, x * 4 + 2, none⟩ (.bool true)) ∧ PR n₀ (X.setCell ⟨mb, x * 4 + 2, none⟩ (.bool true)) mA q ms (fun i => (vals (pre ++ [(⟨x, hx1, hx2⟩ : PlS last)])).contains i) fs from by
      have h1 := PR.setL (b2 := fun i => (vals (pre ++ [(⟨x, hx1, hx2⟩ : PlS last)])).contains i) hPR hN'.out hxl (fun i _ => by
       have e : vals (pre ++ [(⟨x, hx1, hx2⟩ : PlS last)]) = vals pre ++ [x] := by simp [vals]
       show (vals (pre ++ [(⟨x, hx1, hx2⟩ : PlS last)])).contains i = ((vals pre).contains i || i == x)
       rw [e, Bool.eq_iff_iff]
       simp only [Bool.or_eq_true, List.contains_iff_mem, List.mem_append, List.mem_singleton, beq_iff_eq])
      have hO := Only.set mb (x * 4 + 2) X (.bool true)
      have hzc := hno.bk zc t2
      have hz2 := hno.bk z2 (by decide)
      have n1 : c ≠ mb := hzc.ne hkB t2
      have n2 : wr.heap.size ≠ mb := hz2.ne hkB (by decide)
      have n3 : 0 ≠ mb := by have := HYB.out.tl; omega
      rw [hmb]
      exact ⟨KeepsFrom.only hO hkB, fun k hk => hO.same k (by rcases hk with rfl | rfl | rfl <;> assumption), hno.trans h1.2, h1.1⟩)
     have px : (x : Int) < (q : Int) := by omega
     have px0 : (0 : Int) ≤ (x : Int) := by omega
     clear hno hPR hnoY hbb hbx hkB
     gi_wp2
     exact HF.out
    case done =>
     rintro D X hD ⟨hno, hPR⟩ hDf
     rw [hxs] at hPR
     have hnoY := zno.trans hno
     have hbb := hnoY.bk HYB.out.b (by decide)
     have hbx := hnoY.bk HYC.out.2.1 (by decide)
     have q0 : X.cell? ⟨W.heap.size, 0, none⟩ = some (.pointer (some ⟨bb, 0, none⟩)) := by have := hbx.cell 0; simpa using this
     have q6 : X.cell? ⟨bb, 6, none⟩ = some (.slice mA q mc) := by have := hbb.cell 6; simpa using this
     have hclip : ∀ w, Calls Tryd.prog 38 #[.slice mA q mc] w fun e w' => e = .returned (.slice mA q q) ∧ w = w' := fun w => by
      cases hmA : mA with
      | none =>
       obtain ⟨e1, e2⟩ := hcapm.2.2 hmA
       rw [e1, e2]
       exact ClipPl_nil w
      | some ad => exact ClipPl_some ad q mc hcapm.1 hcapm.2.1 w
     have HCl := Lib.hid hclip
     have hsz := hno.1.size
     have g1 := grownBy_putObj' X D (.deferred none)
     have hsf := SoftC.grown (n₀ := n₀) (by omega) (show n₀ ≤ Z.heap.size by omega) g1 (fun r e => by cases e; exact ⟨hD, _, hDf, rfl⟩)
     have hml : s.made.length = q := by rw [← HMS.out.2]; exact hN'.out
     have HFin := Lib.hid (show PL n₀ (X.putObj D (.deferred none)) (.slice mA q q) s.made s.follow last ∧ NoPl n₀ W (X.putObj D (.deferred none)) from by
      refine ⟨⟨mA, by rw [hml], ?_⟩, ?_⟩
      · rcases hPR.softc hsf with h | ⟨mb, cur, e1, e2, e3, e4⟩
        · exact .inl (List.eq_nil_of_length_eq_zero (by omega))
        · refine .inr ⟨mb, cur, e1, e2, e3, fun i m F hm hF => ?_⟩
          have hi : i < q := by rw [← hml]; exact (List.getElem?_eq_some_iff.1 hm).1
          obtain ⟨⟨sv, m'⟩, hms⟩ : ∃ m0, ms[i]? = some m0 := ⟨_, List.getElem?_eq_getElem (by rw [hN'.out]; exact hi)⟩
          have hm2 : m' = m := by
           have := hm
           rw [← HMS.out.1, List.getElem?_map, hms] at this
           simpa using this
          subst hm2
          obtain ⟨a, b, c', d⟩ := e4 i _ hms
          refine ⟨sv, fs i, a, b, ?_, d, ?_, ?_⟩
          · rw [c']
            have : (ups last 4096).contains i = last i := by
             rw [Bool.eq_iff_iff, List.contains_iff_mem, ups_mem]
             exact ⟨fun h => h.2, fun h => ⟨by omega, h⟩⟩
            show some (Value.bool ((ups last 4096).contains i)) = _
            rw [this]
          · have hsv := HYB.out.sets _ (List.mem_of_getElem? hms)
            exact ((hnoY.trans (NoPl.softc hsf)).setv hsv)
          · exact (NoPl.softc hsf).il (hno.il (zil i F hi hF))
      · have h0 : NoPl n₀ W Y := ⟨HYC.out.2.2.1, fun k cs t f _ e => by
         rw [← hY.out, Below.heap_alloc _ _ _ (Array.getElem?_eq_some_iff.1 e).1]
         exact e⟩
        exact (h0.trans hnoY).trans (NoPl.softc hsf))
     clear hno hPR hnoY hbb hbx hsf
     go_wp2_with (go_at_call 38; refine (HCl.out _).mono ?_; rintro e w' ⟨rfl, rfl⟩)
     refine ⟨by simp, .inl ⟨_, _, rfl, run_takeDeferred hDf, ?_⟩⟩
     refine ⟨.slice mA q q, ?_, _, rfl, HFin.out.1, HFin.out.2⟩
     first
      | exact results_tmp (t := 4) rfl _ _ _
      | simp [results, Tryd.results19, go_sem]
end Go.Proofs.YtiinkhmgemoamaaDoor.Nf
namespace Go.Proofs.YtiinkhmgemoamaaDoor.Nf
open Go Go.RowKit Nd Nu
attribute [local go_sem] Oper.semAt_some
set_option maxRecDepth 100000

def isTok (x : Int) : Bool := decide (x = 1 ∨ x = 3)
/-- The tokens' places. -/
def tokI : Nat → List Rl → List Nat
 | _, [] => []
 | k, r :: l => if isTok r.sort then k :: tokI (k + 1) l else tokI (k + 1) l
theorem tokI_len : ∀ (l : List Rl) (k : Nat), (tokI k l).length ≤ l.length
 | [], _ => Nat.le_refl _
 | r :: l, k => by
  have := tokI_len l (k + 1)
  unfold tokI
  split <;> simp <;> omega
theorem tokI_get (rs : List Rl) : ∀ (l : List Rl) (k : Nat), (∀ i r, l[i]? = some r → rs[k + i]? = some r) → (tokI k l).map (fun i => rs[i]?) = (toks l).map some
 | [], _, _ => rfl
 | r :: l, k, h => by
  have ih := tokI_get rs l (k + 1) (fun i r hi => by rw [show k + 1 + i = k + (i + 1) by omega]; exact h (i + 1) r (by simpa using hi))
  have h0 := h 0 r rfl
  unfold tokI toks isTok
  unfold toks at ih
  rw [List.filter_cons]
  by_cases e : decide (r.sort = 1 ∨ r.sort = 3) = true
  · rw [if_pos e, if_pos e, List.map_cons, List.map_cons, ih]
    rw [Nat.add_zero] at h0
    rw [h0]
  · rw [if_neg e, if_neg e, ih]
set_option maxHeartbeats 2000000 in
theorem Index2_any (sb : Nat) (x : Int) (w : World) (h0 : w.cell? ⟨sb, 0, none⟩ = some (.int .u8 1)) (h1 : w.cell? ⟨sb, 1, none⟩ = some (.int .u8 3)) :
 Calls Tryd.prog 48 #[.slice (some ⟨sb, 0, none⟩) 2 2, .int .u8 x] w fun e w' => e = .returned (.int .i64 (if x = 1 then 0 else if x = 3 then 1 else -1)) ∧ w' = w := by
 go_enter Tryd.func48, Tryd.ntmps48
 go_wp2_with fail
 go_loopw [8] (fun i wr => ∃ p : Nat, p ≤ 2 ∧ i = .int .i64 p ∧ wr = w ∧ (p ≥ 1 → x ≠ 1) ∧ (p ≥ 2 → x ≠ 3)) (fun i _ => 2 - (intOf i).toNat)
 case atStart => exact ⟨0, by omega, rfl, rfl, by omega, by omega⟩
 case round =>
  obtain ⟨p, hp, rfl, rfl, hp1, hp2⟩ := hrel
  rcases (show p = 0 ∨ p = 1 ∨ p = 2 by omega) with rfl | rfl | rfl
  · by_cases e : x = 1
    · subst e
      go_wp2_with fail
      go_ret
      exact ⟨rfl, rfl⟩
    · have b0 : (x == 1) = false := by simp [e]
      go_wp2_with fail
      exact ⟨⟨1, by omega, by first | rfl | trivial, by first | rfl | trivial, fun _ => e, by omega⟩, by simp [intOf]⟩
  · have e := hp1 (by omega)
    by_cases e3 : x = 3
    · subst e3
      go_wp2_with fail
      go_ret
      exact ⟨rfl, rfl⟩
    · have b0 : (x == 3) = false := by simp [e3]
      go_wp2_with fail
      exact ⟨⟨2, by omega, by first | rfl | trivial, by first | rfl | trivial, fun _ => e, fun _ => e3⟩, by simp [intOf]⟩
  · have e := hp1 (by omega)
    have e3 := hp2 (by omega)
    go_wp2_with fail
    go_ret
    first
     | exact ⟨rfl, rfl⟩
     | (rw [if_neg e, if_neg e3]; exact ⟨rfl, rfl⟩)
theorem Contains2_any (sb : Nat) (x : Int) (w : World) (h0 : w.cell? ⟨sb, 0, none⟩ = some (.int .u8 1)) (h1 : w.cell? ⟨sb, 1, none⟩ = some (.int .u8 3)) :
 Calls Tryd.prog 29 #[.slice (some ⟨sb, 0, none⟩) 2 2, .int .u8 x] w fun e w' => e = .returned (.bool (isTok x)) ∧ w' = w := by
 have HC := Lib.hid (Index2_any sb x w h0 h1)
 obtain ⟨z, hz, hb, hb2⟩ : ∃ z : Int, (if x = 1 then 0 else if x = 3 then 1 else -1) = z ∧ decide (0 ≤ z) = isTok x ∧ ((0 : Int) ≤ z ∨ ¬ (0 : Int) ≤ z) := by
  refine ⟨_, rfl, ?_, Decidable.em _⟩
  unfold isTok
  by_cases e : x = 1
  · simp [e]
  · by_cases e3 : x = 3
    · simp [e3]
    · simp [e, e3]
 rw [hz] at HC
 clear h0 h1 hz
 go_enter Tryd.func29, Tryd.ntmps29
 go_wp2_with (go_at_call 48; refine HC.out.mono ?_; rintro e w' ⟨rfl, rfl⟩)
 go_ret
 exact ⟨rfl, rfl⟩
set_option maxHeartbeats 8000000 in
theorem Of_any (nm : ByteArray) (o1 o2 : Int) (rs : List Rl) (v : Value) (W : World) (hG : GrV W nm o1 o2 rs v) (hl : rs.length ≤ 1000) (sb : Nat) (h0 : W.cell? ⟨sb, 0, none⟩ = some (.int .u8 1)) (h1 : W.cell? ⟨sb, 1, none⟩ = some (.int .u8 3)) :
 Calls Tryd.prog 16 #[v, .slice (some ⟨sb, 0, none⟩) 2 2] W fun e W' => ∃ u, e = .returned u ∧ IL W.heap.size W' u (tokI 0 rs) ∧ Below W.heap.size W W' := by
 obtain ⟨i0, hi, hz0, hz1, hz2⟩ := info_parts infoIn
 obtain ⟨ra, rc, rfl, hnm, ⟨hrc, _⟩, hR⟩ := hG
 obtain ⟨RN, hRN⟩ : ∃ k, rs.length = k := ⟨_, rfl⟩
 rw [hRN] at hl hrc ⊢
 have n1 : (RN : Int) ≤ 9223372036854775807 := by omega
 obtain ⟨L, hL⟩ : ∃ L, tokI 0 rs = L := ⟨_, rfl⟩
 rw [hL]
 have HRN := Lib.hid hRN
 have HR := Lib.hid hR
 have HB := Lib.hid (show Below W.heap.size W (W.alloc (.cells #[.string nm, .int .i64 o1, .int .i64 o2, .slice ra RN rc] 26)) from (Below.refl _ W).alloc (Nat.le_refl _) _)
 have HSB := Lib.hid (And.intro h0 h1)
 have HL0 := Lib.hid (show ([] : List Nat) ++ tokI 0 (rs.drop 0) = L by simpa using hL)
 clear hRN hR hL h0 h1
 go_enter Tryd.func16, Tryd.ntmps16
 go_wp2_with fail
 go_loopw [5, 11] (fun x i wr => ∃ p : Nat, p ≤ RN ∧ i = .int .i64 p ∧ ∃ dn : List Nat, dn.length ≤ p ∧ Hid (dn ++ tokI p (rs.drop p) = L) ∧ Hid (wr.ownsRow W.heap.size 3 1 x dn.length (iV dn) ∧ Below W.heap.size W wr)) (fun _ i _ => RN - (intOf i).toNat)
 case atStart => exact ⟨0, Nat.zero_le _, rfl, [], Nat.le_refl _, HL0, Lib.hid ⟨World.ownsRow_nil _ _ _ _, HB.out⟩⟩
 case round =>
  obtain ⟨p, hp, rfl, dn, hdn, hT, hJ⟩ := hrel
  obtain ⟨hown, hb⟩ := hJ.out
  obtain ⟨A, cap, rfl⟩ := own_form hown
  by_cases hlt : p < RN
  · have p0 : (p : Int) < (RN : Int) := by omega
    have p1 : (0 : Int) ≤ (p : Int) := by omega
    obtain ⟨r, hr⟩ : ∃ r, rs[p]? = some r := ⟨_, List.getElem?_eq_getElem (by rw [HRN.out]; exact hlt)⟩
    obtain ⟨b, o, rfl, v0, v1, v2, v3, v4, a0, a1, a2, a3, a4, a5, a6, a7, a8, a9, hAt, ⟨hs0, hs1⟩, _⟩ := (HR.out.below hb) p r hr
    obtain ⟨sa1, sc1, ba1, bc1, e5, _⟩ := hAt.form
    injection e5 with e5
    simp only [Array.mk.injEq, List.cons.injEq, and_true] at e5
    obtain ⟨rfl, rfl, rfl, rfl, rfl⟩ := e5
    have hcell : ∀ w', Below W.heap.size W w' → w'.cell? ⟨sb, 0, none⟩ = some (.int .u8 1) ∧ w'.cell? ⟨sb, 1, none⟩ = some (.int .u8 3) := fun w' h => ⟨Nd.cell_keeps h HSB.out.1, Nd.cell_keeps h HSB.out.2⟩
    obtain ⟨X, hX⟩ : ∃ X, wr.alloc (.cells #[.string r.name, .int .u8 r.sort, .int .u8 r.body.kind, .string r.body.name, .string r.body.text, .slice sa1 r.body.set.length sc1, .slice ba1 r.body.subs.length bc1, .int .i64 r.p0, .int .i64 r.p1, .int .i64 r.p2] 38) = X := ⟨_, rfl⟩
    have hXB : Below W.heap.size W X := by rw [← hX]; exact hb.alloc hb.size _
    have hXo : X.ownsRow W.heap.size 3 1 (.slice A dn.length cap) dn.length (iV dn) := by rw [← hX]; exact hown.alloc _
    have HCo := Lib.hid (Contains2_any sb r.sort X (hcell X hXB).1 (hcell X hXB).2)
    have htok : tokI p (rs.drop p) = if isTok r.sort then p :: tokI (p + 1) (rs.drop (p + 1)) else tokI (p + 1) (rs.drop (p + 1)) := by rw [Nd.drop_some hr]; rfl
    have HT := Lib.hid (show (if isTok r.sort then (dn ++ [p]) ++ tokI (p + 1) (rs.drop (p + 1)) else dn ++ tokI (p + 1) (rs.drop (p + 1))) = L from by
     rw [← hT.out, htok]
     split
     · simp
     · rfl)
    obtain ⟨bt, hbt⟩ : ∃ bt, isTok r.sort = bt := ⟨_, rfl⟩
    rw [hbt] at HCo HT
    obtain ⟨DN, hDN⟩ : ∃ DN, dn.length = DN := ⟨_, rfl⟩
    have HDN := Lib.hid hDN
    rw [hDN] at hXo hdn ⊢
    have HX := Lib.hid (And.intro hXB hXo)
    have HXo := Lib.hid (fun ob => hXo.alloc ob)
    have hXsz : W.heap.size ≤ X.heap.size := hXB.size
    replace hX := Lib.hid hX
    clear hT hJ hown hb hAt hcell hXB hXo htok hbt hDN hr
    generalize r.body.kind = qk at *
    generalize r.body.name = qn at *
    generalize r.body.text = qx at *
    generalize r.body.set.length = ql at *
    generalize r.body.subs.length = qm at *
    generalize r.p0 = q0 at *
    generalize r.p1 = q1 at *
    generalize r.p2 = q2 at *
    generalize r.name = rn at *
    generalize r.sort = rso at *
    cases bt with
    | true =>
     go_wp2_with (first
      | (go_at_call 29; rw [hX.out]; refine HCo.out.mono ?_; rintro e w' ⟨rfl, hw'⟩; rw [hw']; clear hw' a0 a1 a2 a3 a4 a5 a6 a7 a8 a9)
      | (at_builtin; refine wpList_append_own _ rfl _ _ 40 rfl W.heap.size 3 i0 (.int .i64 0) 1 8 Tryd.underlying40 hi hz0 hz1 hz2 rfl (by decide) (.slice A DN cap) DN (iV dn) rfl (HXo.out _) ⟨X.heap.size, 0, none⟩ 1 1 [.int .i64 (p : Int)] rfl rfl (cells_newP X _ _) (by simp [Value.oneCell']) (by unfold maxLen; omega) (by omega) (by simp; omega) ?_; intro v' X2 hown2 hg2 _))
     have hb2 : Below W.heap.size W X2 := (HX.out.1.alloc hXsz _).grown hg2 (by simp; omega) (fun k e => (HX.out.2.lt k e).1)
     exact ⟨⟨p + 1, by omega, by go_num, dn ++ [p], by simp [HDN.out]; omega, HT, Lib.hid ⟨by
      rw [List.length_append, List.length_singleton, HDN.out]
      have e : iV (dn ++ [p]) = iV dn ++ [.int .i64 (p : Int)] := by simp [iV]
      rw [e]
      exact hown2, hb2⟩⟩, by simp [intOf]; omega⟩
    | false =>
     go_wp2_with (go_at_call 29; rw [hX.out]; refine HCo.out.mono ?_; rintro e w' ⟨rfl, hw'⟩; rw [hw']; clear hw' a0 a1 a2 a3 a4 a5 a6 a7 a8 a9)
     exact ⟨⟨p + 1, by omega, by go_num, dn, by rw [HDN.out]; omega, HT, Lib.hid ⟨by rw [HDN.out]; exact HX.out.2, HX.out.1⟩⟩, by simp [intOf]; omega⟩
  · obtain rfl : p = RN := by omega
    have hfin : dn = L := by
     have := hT.out
     rw [List.drop_eq_nil_of_le (by rw [HRN.out]; exact Nat.le_refl _)] at this
     simpa [tokI] using this
    obtain ⟨u, hu, hclip⟩ := clip_il hown
    have HU := Lib.hid (And.intro hu hb)
    replace hclip := Lib.hid hclip
    replace hfin := Lib.hid hfin
    clear hT hJ hown hb hu
    go_wp2_with (go_at_call 30; refine (hclip.out _).mono ?_; rintro e w' ⟨rfl, rfl⟩)
    go_ret
    rw [← hfin.out]
    exact ⟨_, rfl, HU.out.1, HU.out.2⟩
end Go.Proofs.YtiinkhmgemoamaaDoor.Nf
namespace Go.Proofs.YtiinkhmgemoamaaDoor.Nf
open Go Go.RowKit Nd Nu
set_option maxRecDepth 100000

theorem tokI_at {rs : List Rl} {q i : Nat} (h : (tokI 0 rs)[q]? = some i) : ∃ r, rs[i]? = some r ∧ (toks rs)[q]? = some r := by
 have e := tokI_get rs rs 0 (fun i r hi => by simpa using hi)
 have h1 := congrArg (fun l => l[q]?) e
 simp only [List.getElem?_map, h, Option.map_some] at h1
 cases ht : (toks rs)[q]? with
 | none => rw [ht] at h1; simp at h1
 | some r =>
  rw [ht] at h1
  simp only [Option.map_some, Option.some.injEq] at h1
  exact ⟨r, h1, rfl⟩
theorem toks_len (rs : List Rl) : (toks rs).length = (tokI 0 rs).length := by
 have e := tokI_get rs rs 0 (fun i r hi => by simpa using hi)
 have := congrArg List.length e
 simpa using this.symm
/-- How many nodes, behind one more token. -/
theorem part_more (fd : ByteArray → Option T) (rns : ByteArray → List Int) (kind F : Nat) (s : St) (n : T) (hl : Low s) (q : Nat) (hq : s.nodes ≤ 65537 + q) : Low (partF fd rns kind F s n).1 ∧ (partF fd rns kind F s n).1.nodes ≤ 65537 + (q + 1) := by
 by_cases h : (s.over || decide (65536 < s.nodes + 1)) = true
 · rw [partF_over fd rns kind F s n h]
   exact ⟨fun e => (by cases e), (by show s.nodes + 1 ≤ 65537 + (q + 1); omega)⟩
 · have ho : s.over = false := by
    cases e : s.over with
    | false => rfl
    | true => rw [e] at h; simp at h
   obtain ⟨_, h2, h3⟩ := partF_nodes fd rns kind F s n (hl ho)
   exact ⟨h3, by omega⟩
/-- Where texts of all tokens begin and end, at ab. -/
def EnA (W : World) (ab : Nat) (a : (Nat → Bool) × (Nat → Bool)) : Prop := ∃ cs, Bk W ab 66 cs ∧ cs.size = 128 ∧ WdA cs 0 a.1 ∧ WdA cs 64 a.2
theorem EnA.tl {n₀ : Nat} {W W' : World} {ab : Nat} {a : (Nat → Bool) × (Nat → Bool)} (h : EnA W ab a) (hT : Tl n₀ W W') : EnA W' ab a := by
 obtain ⟨cs, h1, h2⟩ := h
 exact ⟨cs, hT.bk h1 (by decide) (by decide) (by decide), h2⟩
theorem zeroE_cells : Tryd.zeroCells66 = ((List.range 128).map (fun _ => Value.int .u64 0)).toArray := by kernel_rfl
theorem zero_ena {W : World} {ab : Nat} (h : Bk W ab 66 Tryd.zeroCells66) : EnA W ab (none_, none_) := by
 have key : ∀ j, j < 128 → (Tryd.zeroCells66)[j]? = some (.int .u64 0) := fun j hj => by
  rw [zeroE_cells, List.getElem?_toArray, List.getElem?_map, List.getElem?_range hj]
  rfl
 exact ⟨_, h, by rw [zeroE_cells]; simp, fun i hi => by rw [word_none]; exact key _ (by omega), fun i hi => by rw [word_none]; exact key _ (by omega)⟩
theorem BI.kind {n₀ bb : Nat} {g : BV} {kind : Nat} {s : St} {W : World} (h : BI n₀ bb g kind s W) (q : Nat) : BI n₀ bb g q s (W.setCell ⟨bb, 4, none⟩ (.int .i64 (q : Int))) ∧ Tl n₀ W (W.setCell ⟨bb, 4, none⟩ (.int .i64 (q : Int))) := by
 obtain ⟨mv, fv, ms, h, hms⟩ := h
 have hO := Only.set bb 4 W (.int .i64 (q : Int))
 have hT : Tl n₀ W (W.setCell ⟨bb, 4, none⟩ (.int .i64 (q : Int))) := ⟨hO.below h.lo, fun k o hk hF => by
  rw [hO.same k ?_]
  · exact hk
  · rintro rfl
    rw [show W.heap[k]? = _ from h.b] at hk
    injection hk with hk
    exact (hF _ _ _ hk.symm).1 rfl⟩
 refine ⟨⟨mv, fv, ms, ⟨h.lo, ?_, own_keep h.m fun k cu hk => hO.bk hk (hk.ne h.b (by decide)), own_keep h.f fun k cu hk => hO.bk hk (hk.ne h.b (by decide)), fun x hx => (h.sets x hx).tl hT, h.tab.below hT.1 h.tl, h.tl⟩, hms⟩, hT⟩
 have := h.b.set 4 (.int .i64 (q : Int))
 simpa using this
theorem BI.kcell {n₀ bb : Nat} {g : BV} {kind : Nat} {s : St} {W : World} (h : BI n₀ bb g kind s W) : W.cell? ⟨bb, 4, none⟩ = some (.int .i64 (kind : Int)) ∧ W.frozen? ⟨bb, 4, none⟩ = false := by
 obtain ⟨mv, fv, ms, h, hms⟩ := h
 have h4 := h.b.cell 4
 exact ⟨by simpa using h4, h.b.free 4⟩
/-- All of places but what is new stays. -/
theorem PL.keep {n₀ : Nat} {W W' : World} {v : Value} {made : List (List (Int × Int) × Nat)} {follow : List (Nat → Bool)} {last : Nat → Bool} (h : PL n₀ W v made follow last)
 (hk : ∀ (k : Nat) cs t f, t = 48 ∨ t = 58 ∨ t = 3 → W.heap[k]? = some (.cells cs t f) → W'.heap[k]? = some (.cells cs t f)) : PL n₀ W' v made follow last := by
 obtain ⟨A, h1, h2⟩ := h
 refine ⟨A, h1, h2.imp id fun ⟨mb, cur, e1, e2, e3, e4⟩ => ⟨mb, cur, e1, e2, hk _ _ _ _ (.inl rfl) e3, fun i m F hm hF => ?_⟩⟩
 obtain ⟨sv, fv, a, b, c, d, e, f⟩ := e4 i m F hm hF
 refine ⟨sv, fv, a, b, c, d, e.keep fun k cs f e => hk k cs _ f (.inr (.inl rfl)) e, ?_⟩
 obtain ⟨A', f1, f2⟩ := f
 exact ⟨A', f1, f2.imp id fun ⟨b, cur, g1, g2, g3, g4⟩ => ⟨b, cur, g1, g2, hk _ _ _ _ (.inr (.inr rfl)) g3, g4⟩⟩
theorem PL.below {n₀ : Nat} {W W' : World} {v : Value} {made : List (List (Int × Int) × Nat)} {follow : List (Nat → Bool)} {last : Nat → Bool} (h : PL n₀ W v made follow last) (hb : Below W.heap.size W W') : PL n₀ W' v made follow last :=
 h.keep fun k cs t f _ e => by rw [hb.block k (Array.getElem?_eq_some_iff.1 e).1]; exact e
theorem IL.below {B : Nat} {W W' : World} {v : Value} {l : List Nat} (h : IL B W v l) (hb : Below W.heap.size W W') : IL B W' v l := by
 obtain ⟨A, h1, h2⟩ := h
 exact ⟨A, h1, h2.imp id fun ⟨b, cur, e1, e2, e3, e4⟩ => ⟨b, cur, e1, e2, e3.below hb e3.lt, e4⟩⟩
theorem IL.only {B b : Nat} {W W' : World} {v : Value} {l : List Nat} {t : TypeId} {cs : Array Value} (h : IL B W v l) (hO : Only b W W') (hk : Bk W b t cs) (ht : t ≠ 3) : IL B W' v l := by
 obtain ⟨A, h1, h2⟩ := h
 exact ⟨A, h1, h2.imp id fun ⟨b', cur, e1, e2, e3, e4⟩ => ⟨b', cur, e1, e2, hO.bk e3 (e3.ne hk (Ne.symm ht)), e4⟩⟩
theorem PL.only {n₀ b : Nat} {W W' : World} {v : Value} {made : List (List (Int × Int) × Nat)} {follow : List (Nat → Bool)} {last : Nat → Bool} {t : TypeId} {cs : Array Value} (h : PL n₀ W v made follow last) (hO : Only b W W') (hk : Bk W b t cs)
 (ht : t ≠ 48 ∧ t ≠ 58 ∧ t ≠ 3) : PL n₀ W' v made follow last := h.keep fun k c t' f e1 e2 => by
 rw [hO.same k ?_]
 · exact e2
 · rintro rfl
   rw [show W.heap[k]? = _ from hk] at e2
   injection e2 with e2
   injection e2 with _ e2
   subst e2
   rcases e1 with e1 | e1 | e1
   · exact ht.1 e1
   · exact ht.2.1 e1
   · exact ht.2.2 e1
/-- At the head of the loop over the tokens. -/
structure BdI (W Z0 : World) (bb : Nat) (g : BV) (rs : List Rl) (uv : Value) (AA : St × ((Nat → Bool) × (Nat → Bool))) (q : Nat) (wr : World) : Prop where
 ex : ∃ (s : St) (a : (Nat → Bool) × (Nat → Bool)) (k : Nat), allF (bodyOf rs) runesOf s a q (((toks rs).drop q).map (·.body)) = AA ∧ BI Z0.heap.size bb g k s wr ∧ Ok s ∧ Low s ∧ s.nodes ≤ 65537 + q ∧ EnA wr (Z0.heap.size + 1) a ∧ Bd s.made.length a.1 ∧ Bd s.made.length a.2
 z : Below Z0.heap.size Z0 wr
 u : IL Z0.heap.size wr uv (tokI 0 rs)
end Go.Proofs.YtiinkhmgemoamaaDoor.Nf
