/- Ends of a name: where its rule's body ends. -/
import Derived.Test.YtiinkhmgemoamaaDoorPay
import Derived.Test.YtiinkhmgemoamaaDoorPbo
import Derived.Test.YtiinkhmgemoamaaDoorPz
namespace Go.Proofs.YtiinkhmgemoamaaDoor.Gl
open Go Go.RowKit Nd Nu Nf
attribute [local go_sem] Oper.semAt_some
set_option maxRecDepth 100000

theorem ends_res (w' : World) (v : Value) (tmps : Array Value) (h : tmps.getD 8 undef = v) : (results Tryd.f12 tmps).run Tryd.prog w' = .ok v w' := by
 simp only [Array.getD_eq_getD_getElem?] at h
 simp [results, Tryd.results12, go_sem, h]
set_option maxHeartbeats 8000000 in
theorem Ends_tok (w : World) (nm : ByteArray) (o1 o2 : Int) (rs : List Rl) (gv : Value) (hG : GrV w nm o1 o2 rs gv) (qn : ByteArray) (n2 n3 n4 : Value) (k : Nat) (r : Rl) (hk : fnd rs qn = some k) (hr : rs[k]? = some r) (lv inv : Value) (m OUT : List Bool) (hv : BoV w inv m) (hm : m.length ≤ 1000) (ha : m.any id = true)
 (hE : ∀ (wx : World) (bv : Value), Below w.heap.size w wx → Nd.At wx r.body bv → EndsAt wx gv bv lv inv OUT) :
 EndsAt w gv (.agg #[.int .u8 6, .string qn, n2, n3, n4]) lv inv OUT := by
 have HF := Lib.hid (fun (wx : World) (hb : Below w.heap.size w wx) => (Find_any nm o1 o2 rs gv qn wx (hG.below hb)).mono (R' := fun e w' => e = .returned (.int .i64 (k : Int)) ∧ Below wx.heap.size wx w') (by rintro e w' ⟨rfl, h⟩; exact ⟨by rw [hk]; rfl, h⟩))
 obtain ⟨ra, rc, rfl, _, hrc, hR⟩ := hG
 obtain ⟨rb, ro, rfl, v0, v1, v2, v3, v4, _, _, c2, c3, c4, c5, c6, _, _, _, hA, _, _⟩ := hR k r hr
 have HE := Lib.hid (fun (wx : World) (hb : Below w.heap.size w wx) => hE wx (.agg #[v0, v1, v2, v3, v4]) hb (Nd.At.below hb _ hA))
 have hkN : k < rs.length := (List.getElem?_eq_some_iff.1 hr).1
 generalize rs.length = N at *
 obtain ⟨M, hM⟩ : ∃ M, m.length = M := ⟨_, rfl⟩
 have HS := Lib.hid (fun (wx : World) (hb : Below w.heap.size w wx) => some_any m inv wx (hv.below hb) (by omega))
 obtain ⟨b, c, rfl, _⟩ := hv
 rw [ha, hM] at HS
 rw [hM] at hm HE ⊢
 have n1' : (M : Int) ≤ 9223372036854775807 := by omega
 have a0 : (k : Int) < (N : Int) := by omega
 have a1 : (0 : Int) ≤ (k : Int) := by omega
 have hmk := run_make_row' (P := Tryd.prog) 52 4 (.bool false) 1 Tryd.underlying52 infoBool rfl .i64 .i64 M (by omega) (by omega)
 obtain ⟨W, hW⟩ : ∃ W, ((w.alloc (.cells #[.string nm, .int .i64 o1, .int .i64 o2, .slice (some ⟨rb, ro, none⟩) N rc] 26)).alloc (.cells #[.int .u8 6, .string qn, n2, n3, n4] 34)).alloc (.cells (madeCells #[.bool false] M) 4) = W := ⟨_, rfl⟩
 obtain ⟨hb, _, hkg, hkn, _⟩ := ends_start w (.string nm) (.int .i64 o1) (.int .i64 o2) (.slice (some ⟨rb, ro, none⟩) N rc) (.int .u8 6) (.string qn) n2 n3 n4 M W hW.symm
 have HW := Lib.hid hW
 have x0 := hkn.cell 0
 simp at x0
 have HK := Lib.hid (show ∀ w' : World, Below W.heap.size W w' → (w'.cell? ⟨w.heap.size, 0, none⟩ = some (.string nm) ∧ w'.cell? ⟨w.heap.size, 1, none⟩ = some (.int .i64 o1) ∧ w'.cell? ⟨w.heap.size, 2, none⟩ = some (.int .i64 o2) ∧ w'.cell? ⟨w.heap.size, 3, none⟩ = some (.slice (some ⟨rb, ro, none⟩) N rc)) ∧ w'.cell? ⟨w.heap.size + 1, 1, none⟩ = some (.string qn) ∧ w'.cell? ⟨rb, ro + k * 10 + 2, none⟩ = some v0 ∧ w'.cell? ⟨rb, ro + k * 10 + 3, none⟩ = some v1 ∧ w'.cell? ⟨rb, ro + k * 10 + 4, none⟩ = some v2 ∧ w'.cell? ⟨rb, ro + k * 10 + 5, none⟩ = some v3 ∧ w'.cell? ⟨rb, ro + k * 10 + 6, none⟩ = some v4 from fun w' hw => by
  have g := hkg.below hw hkg.lt
  have n := hkn.below hw hkn.lt
  have hw' := hb.trans (hw.mono hb.size)
  exact ⟨⟨g.cell 0, g.cell 1, g.cell 2, g.cell 3⟩, n.cell 1, Nd.cell_keeps hw' c2, Nd.cell_keeps hw' c3, Nd.cell_keeps hw' c4, Nd.cell_keeps hw' c5, Nd.cell_keeps hw' c6⟩)
 have hbd : Below W.heap.size W W.drew := (Below.refl _ _).drew
 clear ha hM hW hkn hkg hE hR hA hr hk hrc c2 c3 c4 c5 c6 hkN
 unfold EndsAt at HE ⊢
 go_enter Tryd.func12, Tryd.ntmps12
 go_upto_region 2 with fail
 rw [HW.out]
 go_upto_region 31 with (go_at_call 23; refine (HS.out _ hb).mono ?_; rintro e w' ⟨rfl, hw'⟩; rw [hw'])
 refine wp_cutN (fun _ a' w' => (∃ xv : Value, a'.tmps.getD 8 undef = xv ∧ a'.defers = [] ∧ BoV w' xv OUT) ∧ Below W.heap.size W w') ?first ?next
 case first =>
  refine wp_region_held_drew (S := fun w' : World => (w'.cell? ⟨w.heap.size, 0, none⟩ = some (.string nm) ∧ w'.cell? ⟨w.heap.size, 1, none⟩ = some (.int .i64 o1) ∧ w'.cell? ⟨w.heap.size, 2, none⟩ = some (.int .i64 o2) ∧ w'.cell? ⟨w.heap.size, 3, none⟩ = some (.slice (some ⟨rb, ro, none⟩) N rc)) ∧ w'.cell? ⟨w.heap.size + 1, 1, none⟩ = some (.string qn) ∧ w'.cell? ⟨rb, ro + k * 10 + 2, none⟩ = some v0 ∧ w'.cell? ⟨rb, ro + k * 10 + 3, none⟩ = some v1 ∧ w'.cell? ⟨rb, ro + k * 10 + 4, none⟩ = some v2 ∧ w'.cell? ⟨rb, ro + k * 10 + 5, none⟩ = some v3 ∧ w'.cell? ⟨rb, ro + k * 10 + 6, none⟩ = some v4) (by kernel_rfl) (HK.out _ hbd) (fun hSS => ?_)
  show wpAnyH _ _ _ _ _ 14 #[false, false, false, false, false, false, false, false, false, false, false, false, false, false] _ _
  refine zqT 0 (some 109) _ (zqF 14 1) (by rw [List.getElem?_toArray]; rfl) rfl (by kernel_rfl) rfl (fun _ _ _ h => h) (Or.inl ⟨by rfl, fun w' hSw => by (try dsimp only at hSw); go_simp; try with_reducible rfl⟩) hSS ?_
  simp only [zqN]
  refine zqT 1 (some 110) _ (zqF 14 2) (by rw [List.getElem?_toArray]; rfl) rfl (by kernel_rfl) rfl (fun _ _ _ h => h) (Or.inl ⟨by rfl, fun w' hSw => by (try dsimp only at hSw); go_simp; try with_reducible rfl⟩) hSS ?_
  simp only [zqN]
  refine zqT 2 (some 111) _ (zqF 14 3) (by rw [List.getElem?_toArray]; rfl) rfl (by kernel_rfl) rfl (fun _ _ _ h => h) (Or.inl ⟨by rfl, fun w' hSw => by (try dsimp only at hSw); go_simp; try with_reducible rfl⟩) hSS ?_
  simp only [zqN]
  refine zqT 3 (some 112) _ (zqF 14 4) (by rw [List.getElem?_toArray]; rfl) rfl (by kernel_rfl) rfl (fun _ _ _ h => h) (Or.inl ⟨by rfl, fun w' hSw => by (try dsimp only at hSw); go_simp; try with_reducible rfl⟩) hSS ?_
  simp only [zqN]
  refine zqT 4 (some 113) _ (zqF 14 5) (by rw [List.getElem?_toArray]; rfl) rfl (by kernel_rfl) rfl (fun _ _ _ h => h) (Or.inl ⟨by rfl, fun w' hSw => by (try dsimp only at hSw); go_simp; try with_reducible rfl⟩) hSS ?_
  simp only [zqN]
  refine zqT 5 (some 114) _ (zqF 14 6) (by rw [List.getElem?_toArray]; rfl) rfl (by kernel_rfl) rfl (fun _ _ _ h => h) (Or.inl ⟨by rfl, fun w' hSw => by (try dsimp only at hSw); go_simp; try with_reducible rfl⟩) hSS ?_
  simp only [zqN]
  refine zqT 10 (some 119) _ #[true, true, true, true, true, true, false, false, false, false, true, false, false, false] (by rw [List.getElem?_toArray]; rfl) rfl (by kernel_rfl) rfl (fun _ _ _ h => h) (Or.inl ⟨by rfl, fun w' hSw => by (try dsimp only at hSw); go_simp; try with_reducible rfl⟩) hSS ?_
  simp only [zqN]
  refine zqT 11 (some 120) _ #[true, true, true, true, true, true, false, false, false, false, true, true, false, false] (by rw [List.getElem?_toArray]; rfl) rfl (by kernel_rfl) rfl (fun _ _ _ h => h) (Or.inl ⟨by rfl, fun w' hSw => by (try dsimp only at hSw); go_simp; try with_reducible rfl⟩) hSS ?_
  simp only [zqN]
  refine come_one (i := 6) (l' := #[true, true, true, true, true, true, true, false, false, false, true, true, false, false]) (by rw [List.getElem?_toArray]; rfl) (by kernel_rfl) rfl (fun K' hK => ?_)
  go_simp
  go_at_call 25; refine (HF.out _ (hb.trans (hbd.mono hb.size))).mono ?_; rintro e w5 ⟨rfl, hb5⟩; have hB5 := hbd.trans (hb5.mono hbd.size)
  refine hK.out _ _ (HK.out _ hB5) (fun hSS => ?_)
  try simp only [zqN]
  refine zqT 7 (some 116) _ #[true, true, true, true, true, true, true, true, false, false, true, true, false, false] (by rw [List.getElem?_toArray]; rfl) rfl (by kernel_rfl) rfl (fun _ _ _ h => h) (Or.inl ⟨by rfl, fun w' hSw => by (try dsimp only at hSw); go_simp; try with_reducible rfl⟩) hSS ?_
  simp only [zqN]
  refine zqT 8 (some 117) _ #[true, true, true, true, true, true, true, true, true, false, true, true, false, false] (by rw [List.getElem?_toArray]; rfl) rfl (by kernel_rfl) rfl (fun _ _ _ h => h) (Or.inl ⟨by rfl, fun w' hSw => by (try dsimp only at hSw); go_simp; try with_reducible rfl⟩) hSS ?_
  simp only [zqN]
  refine zqT 9 (some 118) _ (zqF 14 12) (by rw [List.getElem?_toArray]; rfl) rfl (by kernel_rfl) rfl (fun _ _ _ h => h) (Or.inl ⟨by rfl, fun w' hSw => by (try dsimp only at hSw); go_simp; try with_reducible rfl⟩) hSS ?_
  simp only [zqN]
  refine come_one (i := 12) (l' := (zqF 14 13)) (by rw [List.getElem?_toArray]; rfl) (by kernel_rfl) rfl (fun K' hK => ?_)
  go_simp
  go_at_call 12; refine (HE.out _ (hb.trans (hB5.mono hb.size))).mono ?_; rintro e w6 ⟨⟨xv, rfl, hxv⟩, hb6⟩; have hB6 := hB5.trans (hb6.mono hB5.size)
  refine hK.out _ _ (HK.out _ hB6) (fun hSS => ?_)
  try simp only [zqN]
  refine zqT 13 (some 8) _ (zqF 14 14) (by rw [List.getElem?_toArray]; rfl) rfl (by kernel_rfl) rfl (fun _ _ _ h => h) (Or.inl ⟨by rfl, fun w' hSw => by (try dsimp only at hSw); go_simp; try with_reducible rfl⟩) hSS ?_
  simp only [zqN]
  refine wpAnyH_done (by kernel_rfl) ?_ _
  exact ⟨⟨_, rfl, rfl, hxv⟩, hB6⟩
 case next =>
  rintro ⟨tm, df⟩ w1 ⟨⟨xv, e1, e2, hx⟩, hb1⟩
  dsimp only at e1 e2
  subst e2
  go_wp2_with fail
  exact bodyPost_ret (v := xv) (ends_res w1 xv tm e1) rfl ⟨⟨_, rfl, hx⟩, hb.trans (hb1.mono hb.size)⟩
end Go.Proofs.YtiinkhmgemoamaaDoor.Gl
namespace Go.Proofs.YtiinkhmgemoamaaDoor.Gl
open Go Go.RowKit Nd Nu Nf
attribute [local go_sem] Oper.semAt_some
set_option maxRecDepth 100000

set_option maxHeartbeats 8000000 in
theorem Ends_opt (w : World) (g0 g1 g2 g3 : Value) (n1 n2 n3 : Value) (sb so sc : Nat) (v0 v1 v2 v3 v4 : Value) (lv inv : Value) (m out : List Bool) (hv : BoV w inv m) (hm : m.length ≤ 1000) (ha : m.any id = true)
 (c0 : w.cell? ⟨sb, so, none⟩ = some v0) (c1 : w.cell? ⟨sb, so + 1, none⟩ = some v1) (c2 : w.cell? ⟨sb, so + 2, none⟩ = some v2) (c3 : w.cell? ⟨sb, so + 3, none⟩ = some v3) (c4 : w.cell? ⟨sb, so + 4, none⟩ = some v4)
 (ho : out.length = m.length) (hE : ∀ (wx : World), Below w.heap.size w wx → EndsAt wx (.agg #[g0, g1, g2, g3]) (.agg #[v0, v1, v2, v3, v4]) lv inv out) :
 EndsAt w (.agg #[g0, g1, g2, g3]) (.agg #[.int .u8 2, n1, n2, n3, .slice (some ⟨sb, so, none⟩) 1 sc]) lv inv (orT m out) := by
 have HE := Lib.hid hE
 have HO := Lib.hid (fun (wx : World) (xv : Value) (hb : Below w.heap.size w wx) (hx : BoV wx xv out) => one_any m out inv xv wx (hv.below hb) hx (by omega) ho)
 obtain ⟨M, hM⟩ : ∃ M, m.length = M := ⟨_, rfl⟩
 have HS := Lib.hid (fun (wx : World) (hb : Below w.heap.size w wx) => some_any m inv wx (hv.below hb) (by omega))
 obtain ⟨b, c, rfl, _⟩ := hv
 rw [ha, hM] at HS
 rw [hM] at hm HE HO
 obtain ⟨OUT, hOUT⟩ : ∃ o, orT m out = o := ⟨_, rfl⟩
 rw [hOUT] at HO ⊢
 rw [hM]
 have n1' : (M : Int) ≤ 9223372036854775807 := by omega
 have hmk := run_make_row' (P := Tryd.prog) 52 4 (.bool false) 1 Tryd.underlying52 infoBool rfl .i64 .i64 M (by omega) (by omega)
 obtain ⟨W, hW⟩ : ∃ W, ((w.alloc (.cells #[g0, g1, g2, g3] 26)).alloc (.cells #[.int .u8 2, n1, n2, n3, .slice (some ⟨sb, so, none⟩) 1 sc] 34)).alloc (.cells (madeCells #[.bool false] M) 4) = W := ⟨_, rfl⟩
 obtain ⟨hb, _, hkg, hkn, _⟩ := ends_start w g0 g1 g2 g3 (.int .u8 2) n1 n2 n3 (.slice (some ⟨sb, so, none⟩) 1 sc) M W hW.symm
 have HW := Lib.hid hW
 have x0 := hkn.cell 0
 simp at x0
 have HK := Lib.hid (show ∀ w' : World, Below W.heap.size W w' → (w'.cell? ⟨w.heap.size, 0, none⟩ = some g0 ∧ w'.cell? ⟨w.heap.size, 1, none⟩ = some g1 ∧ w'.cell? ⟨w.heap.size, 2, none⟩ = some g2 ∧ w'.cell? ⟨w.heap.size, 3, none⟩ = some g3) ∧ w'.cell? ⟨w.heap.size + 1, 4, none⟩ = some (.slice (some ⟨sb, so, none⟩) 1 sc) ∧ w'.cell? ⟨sb, so, none⟩ = some v0 ∧ w'.cell? ⟨sb, so + 1, none⟩ = some v1 ∧ w'.cell? ⟨sb, so + 2, none⟩ = some v2 ∧ w'.cell? ⟨sb, so + 3, none⟩ = some v3 ∧ w'.cell? ⟨sb, so + 4, none⟩ = some v4 from fun w' hw => by
  have g := hkg.below hw hkg.lt
  have n := hkn.below hw hkn.lt
  have hw' := hb.trans (hw.mono hb.size)
  exact ⟨⟨g.cell 0, g.cell 1, g.cell 2, g.cell 3⟩, n.cell 4, Nd.cell_keeps hw' c0, Nd.cell_keeps hw' c1, Nd.cell_keeps hw' c2, Nd.cell_keeps hw' c3, Nd.cell_keeps hw' c4⟩)
 have hbd : Below W.heap.size W W.drew := (Below.refl _ _).drew
 clear ha hM hW hkn hkg hE c0 c1 c2 c3 c4 ho hOUT
 unfold EndsAt at HE ⊢
 go_enter Tryd.func12, Tryd.ntmps12
 go_upto_region 2 with fail
 rw [HW.out]
 go_upto_region 18 with (go_at_call 23; refine (HS.out _ hb).mono ?_; rintro e w' ⟨rfl, hw'⟩; rw [hw'])
 refine wp_cutN (fun a a' w' => (∃ z0 z1 z2 z3 z4 z5 z6 z7 z8 z9 xv : Value, a' = (((((((((((a.put (some 67) z0).put (some 68) z1).put (some 69) z2).put (some 70) z3).put (some 71) z4).put (some 72) z5).put (some 73) z6).put (some 74) z7).put (some 75) z8).put (some 76) z9).put (some 9) xv) ∧ BoV w' xv OUT) ∧ Below W.heap.size W w') ?first ?next
 case first =>
  refine wp_region_held_drew (S := fun w' : World => (w'.cell? ⟨w.heap.size, 0, none⟩ = some g0 ∧ w'.cell? ⟨w.heap.size, 1, none⟩ = some g1 ∧ w'.cell? ⟨w.heap.size, 2, none⟩ = some g2 ∧ w'.cell? ⟨w.heap.size, 3, none⟩ = some g3) ∧ w'.cell? ⟨w.heap.size + 1, 4, none⟩ = some (.slice (some ⟨sb, so, none⟩) 1 sc) ∧ w'.cell? ⟨sb, so, none⟩ = some v0 ∧ w'.cell? ⟨sb, so + 1, none⟩ = some v1 ∧ w'.cell? ⟨sb, so + 2, none⟩ = some v2 ∧ w'.cell? ⟨sb, so + 3, none⟩ = some v3 ∧ w'.cell? ⟨sb, so + 4, none⟩ = some v4) (by kernel_rfl) (HK.out _ hbd) (fun hSS => ?_)
  show wpAnyH _ _ _ _ _ 11 #[false, false, false, false, false, false, false, false, false, false, false] _ _
  refine zqT 0 (some 67) _ (zqF 11 1) (by rw [List.getElem?_toArray]; rfl) rfl (by kernel_rfl) rfl (fun _ _ _ h => h) (Or.inl ⟨by rfl, fun w' hSw => by (try dsimp only at hSw); go_simp; try with_reducible rfl⟩) hSS ?_
  simp only [zqN]
  refine zqT 1 (some 68) _ (zqF 11 2) (by rw [List.getElem?_toArray]; rfl) rfl (by kernel_rfl) rfl (fun _ _ _ h => h) (Or.inl ⟨by rfl, fun w' hSw => by (try dsimp only at hSw); go_simp; try with_reducible rfl⟩) hSS ?_
  simp only [zqN]
  refine zqT 2 (some 69) _ (zqF 11 3) (by rw [List.getElem?_toArray]; rfl) rfl (by kernel_rfl) rfl (fun _ _ _ h => h) (Or.inl ⟨by rfl, fun w' hSw => by (try dsimp only at hSw); go_simp; try with_reducible rfl⟩) hSS ?_
  simp only [zqN]
  refine zqT 3 (some 70) _ (zqF 11 4) (by rw [List.getElem?_toArray]; rfl) rfl (by kernel_rfl) rfl (fun _ _ _ h => h) (Or.inl ⟨by rfl, fun w' hSw => by (try dsimp only at hSw); go_simp; try with_reducible rfl⟩) hSS ?_
  simp only [zqN]
  refine zqT 4 (some 71) _ (zqF 11 5) (by rw [List.getElem?_toArray]; rfl) rfl (by kernel_rfl) rfl (fun _ _ _ h => h) (Or.inl ⟨by rfl, fun w' hSw => by (try dsimp only at hSw); go_simp; try with_reducible rfl⟩) hSS ?_
  simp only [zqN]
  refine zqT 5 (some 72) _ (zqF 11 6) (by rw [List.getElem?_toArray]; rfl) rfl (by kernel_rfl) rfl (fun _ _ _ h => h) (Or.inl ⟨by rfl, fun w' hSw => by (try dsimp only at hSw); go_simp; try with_reducible rfl⟩) hSS ?_
  simp only [zqN]
  refine zqT 6 (some 73) _ (zqF 11 7) (by rw [List.getElem?_toArray]; rfl) rfl (by kernel_rfl) rfl (fun _ _ _ h => h) (Or.inl ⟨by rfl, fun w' hSw => by (try dsimp only at hSw); go_simp; try with_reducible rfl⟩) hSS ?_
  simp only [zqN]
  refine zqT 7 (some 74) _ (zqF 11 8) (by rw [List.getElem?_toArray]; rfl) rfl (by kernel_rfl) rfl (fun _ _ _ h => h) (Or.inl ⟨by rfl, fun w' hSw => by (try dsimp only at hSw); go_simp; try with_reducible rfl⟩) hSS ?_
  simp only [zqN]
  refine come_one (i := 8) (l' := (zqF 11 9)) (by rw [List.getElem?_toArray]; rfl) (by kernel_rfl) rfl (fun K' hK => ?_)
  go_simp
  go_at_call 12; refine (HE.out _ (hb.trans (hbd.mono hb.size))).mono ?_; rintro e w5 ⟨⟨xv, rfl, hxv⟩, hb5⟩; have hB5 := hbd.trans (hb5.mono hbd.size)
  refine hK.out _ _ (HK.out _ hB5) (fun hSS => ?_)
  try simp only [zqN]
  refine come_one (i := 9) (l' := (zqF 11 10)) (by rw [List.getElem?_toArray]; rfl) (by kernel_rfl) rfl (fun K' hK => ?_)
  go_simp
  go_at_call 24; refine (HO.out _ _ (hb.trans (hB5.mono hb.size)) hxv).mono ?_; rintro e w6 ⟨⟨yv, rfl, hyv⟩, hb6⟩; have hB6 := hB5.trans (hb6.mono hB5.size)
  refine hK.out _ _ (HK.out _ hB6) (fun hSS => ?_)
  try simp only [zqN]
  refine zqT 10 (some 9) _ (zqF 11 11) (by rw [List.getElem?_toArray]; rfl) rfl (by kernel_rfl) rfl (fun _ _ _ h => h) (Or.inl ⟨by rfl, fun w' hSw => by (try dsimp only at hSw); go_simp; try with_reducible rfl⟩) hSS ?_
  simp only [zqN]
  refine wpAnyH_done (by kernel_rfl) ?_ _
  exact ⟨⟨_, _, _, _, _, _, _, _, _, _, yv, rfl, hyv⟩, hB6⟩
 case next =>
  rintro a' w1 ⟨⟨z0, z1, z2, z3, z4, z5, z6, z7, z8, z9, xv, rfl, hx⟩, hb1⟩
  clear x0
  go_wp2_with fail
  go_ret
  exact ⟨⟨_, rfl, hx⟩, hb.trans (hb1.mono hb.size)⟩
end Go.Proofs.YtiinkhmgemoamaaDoor.Gl
