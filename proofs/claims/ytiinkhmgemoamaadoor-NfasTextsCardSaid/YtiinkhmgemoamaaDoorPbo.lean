/- Places of a grammar, or why there are none: the contract of Build. The law's SameNums and SameRanges, of lists that are the same. The chapter's example of places: what is wrong with it (nothing), and its places. Pure. The chapter's example of places: lives answers true. Rows of rules that grow side by side (NfasOrder). NfasOrder: what its bounds give; the rules sorted. NfasOrder: the rules sorted, in a row; what two Builds hand back. NfasOrder: the walk. -/
import Derived.Test.YtiinkhmgemoamaaDoorPax
import Derived.Test.YtiinkhmgemoamaaDoorPbn
import Derived.Test.YtiinkhmgemoamaaDoorPav
import Derived.Test.YtiinkhmgemoamaaDoorPao
import Derived.Test.YtiinkhmgemoamaaDoorPad
import Derived.Maps.AppendAt
import Derived.Laws.OwnMore
import Derived.Test.YtiinkhmgemoamaaDoorPai
namespace Go.Proofs.YtiinkhmgemoamaaDoor.Nf
open Go Go.RowKit Nd Nu
attribute [local go_sem] Oper.semAt_some
set_option maxRecDepth 100000

/-- What Build hands back, of rules. -/
def BdR (rs : List Rl) (e : Ending) (W' : World) : Prop :=
 (Ck.chk rs ≠ [] ∧ e = .returned (.tuple #[.agg #[.slice none 0 0, .slice none 0 0, .int .i64 0], .int .i64 1])) ∨
 (Ck.chk rs = [] ∧ (autoF runesOf rs).1.over = true ∧ e = .returned (.tuple #[.agg #[.slice none 0 0, .slice none 0 0, .int .i64 0], .int .i64 3])) ∨
 (Ck.chk rs = [] ∧ (autoF runesOf rs).1.over = false ∧ ∃ n₀ pv fv, n₀ ≤ W'.heap.size ∧ e = .returned (.tuple #[.agg #[pv, fv, .int .i64 ((tokI 0 rs).length : Int)], .int .i64 0]) ∧ PL n₀ W' pv (autoF runesOf rs).1.made (autoF runesOf rs).1.follow (autoF runesOf rs).2.2 ∧ IL n₀ W' fv (ups (autoF runesOf rs).2.1 4096))
theorem pl_form {n₀ : Nat} {W : World} {v : Value} {made : List (List (Int × Int) × Nat)} {follow : List (Nat → Bool)} {last : Nat → Bool} (h : PL n₀ W v made follow last) : ∃ A n, v = .slice A n n := by
 obtain ⟨A, h1, _⟩ := h
 exact ⟨A, _, h1⟩
theorem build_res (w' : World) (rb : Nat) (x y z : Value) (tmps : Array Value) (er : Int) (h : Bk w' rb 42 #[x, y, z]) (h2 : tmps.getD 2 undef = .pointer (some ⟨rb, 0, none⟩)) (h3 : tmps.getD 3 undef = .int .i64 er) :
 (results Tryd.f7 tmps).run Tryd.prog w' = .ok (.tuple #[.agg #[x, y, z], .int .i64 er]) w' := by
 have c0 := h.cell 0
 have c1 := h.cell 1
 have c2 := h.cell 2
 simp at c0 c1 c2
 simp only [Array.getD_eq_getD_getElem?] at h2 h3
 simp [results, Tryd.results7, go_sem, h2, h3, c0, c1, c2]
theorem auto_sets {rb : Nat} {x y z x' y' z' : Value} {w : World} (h : Bk w rb 42 #[x, y, z]) : Bk (((w.setCell ⟨rb, 0, none⟩ x').setCell ⟨rb, 1, none⟩ y').setCell ⟨rb, 2, none⟩ z') rb 42 #[x', y', z'] ∧ Only rb w (((w.setCell ⟨rb, 0, none⟩ x').setCell ⟨rb, 1, none⟩ y').setCell ⟨rb, 2, none⟩ z') := by
 have := ((h.set 0 x').set 1 y').set 2 z'
 exact ⟨by simpa using this, ((Only.set rb 0 w x').trans (Only.set rb 1 _ y')).trans (Only.set rb 2 _ z')⟩
theorem cell_keeps_below {w w' : World} (hb : Below w.heap.size w w') {b o : Nat} {v : Value} (h : w.cell? ⟨b, o, none⟩ = some v) : w'.cell? ⟨b, o, none⟩ = some v := Nd.cell_keeps hb h
set_option maxHeartbeats 8000000 in
theorem Build_any (nm : ByteArray) (o1 o2 : Int) (rs : List Rl) (v : Value) (W : World) (hG : GrV W nm o1 o2 rs v) (hsm : rs.length ≤ 999 ∧ ∀ r ∈ rs, Nd.deep r.body ≤ 100000 ∧ Nd.count r.body ≤ 90000) (hl : (Ck.rulesF rs 0 rs).length ≤ 100000) (hSm : ∀ r ∈ rs, Sm r.body) (hT : Tab W) :
 Calls Tryd.prog 7 #[v] W fun e W' => BdR rs e W' ∧ Below W.heap.size W W' := by
 have HFi := Lib.hid (fun (X : World) (hb : Below W.heap.size W X) => Fine_any nm o1 o2 rs v X (GrV2_below hG hb) hsm hl)
 obtain ⟨AA, hAA⟩ : ∃ AA, autoF runesOf rs = AA := ⟨_, rfl⟩
 have htl : 0 < W.heap.size := World.block_lt_of_cell? _ _ (hT 0 (by omega))
 have HG := Lib.hid hG
 obtain ⟨ra, rc, rfl, hnm, ⟨hrc, _⟩, hR⟩ := hG
 obtain ⟨RN, hRN⟩ : ∃ k, rs.length = k := ⟨_, rfl⟩
 have hRN1 : RN ≤ 999 := by rw [← hRN]; exact hsm.1
 rw [hRN] at HFi HG ⊢
 have n1 : (RN : Int) ≤ 9223372036854775807 := by omega
 have HRN := Lib.hid hRN
 have HR := Lib.hid hR
 have HSm := Lib.hid hSm
 have HT := Lib.hid hT
 obtain ⟨X, hX⟩ : ∃ X, (W.alloc (.cells #[.string nm, .int .i64 o1, .int .i64 o2, .slice ra RN rc] 26)).alloc (.cells #[.slice none 0 0, .slice none 0 0, .int .i64 0] 42) = X := ⟨_, rfl⟩
 have xB : Below W.heap.size W X := by rw [← hX]; exact ((Below.refl _ W).alloc (Nat.le_refl _) _).alloc (by simp) _
 have xg : Bk X W.heap.size 26 #[.string nm, .int .i64 o1, .int .i64 o2, .slice ra RN rc] := by rw [← hX]; exact (Bk.made W _ _).alloc _
 have xr : Bk X (W.heap.size + 1) 42 #[.slice none 0 0, .slice none 0 0, .int .i64 0] := by
  rw [← hX]
  have := Bk.made (W.alloc (.cells #[.string nm, .int .i64 o1, .int .i64 o2, .slice ra RN rc] 26)) 42 #[.slice none 0 0, .slice none 0 0, .int .i64 0]
  rw [World.size_alloc] at this
  exact this
 have xs : X.heap.size = W.heap.size + 2 := by rw [← hX]; simp
 have HX := Lib.hid (And.intro xB (And.intro xg (And.intro xr xs)))
 have HFX := Lib.hid (HFi.out X xB)
 have HAA := Lib.hid hAA
 have HTL := Lib.hid htl
 replace hX := Lib.hid hX
 obtain ⟨cb, hcb⟩ : ∃ cb, decide (Ck.chk rs = []) = cb := ⟨_, rfl⟩
 rw [hcb] at HFX
 have HCB := Lib.hid hcb
 clear hR hSm hT hsm hl xB xg xr xs HFi hRN hcb hAA htl hrc
 cases cb with
 | false =>
  have hne : Ck.chk rs ≠ [] := by have := HCB.out; simpa using this
  go_enter Tryd.func7, Tryd.ntmps7
  go_wp2_with (go_at_call 15; rw [hX.out]; refine HFX.out.mono ?_; rintro e w2 ⟨rfl, hb⟩; have hr2 := (HX.out.2.2.1).below hb HX.out.2.2.1.lt; have e0 := hr2.cell 0; have e1 := hr2.cell 1; have e2 := hr2.cell 2; have f0 := hr2.free 0; have f1 := hr2.free 1; have f2 := hr2.free 2; simp at e0 e1 e2)
  have hA := auto_sets (x' := .slice none 0 0) (y' := .slice none 0 0) (z' := .int .i64 0) hr2
  refine bodyPost_ret (v := .tuple #[.agg #[.slice none 0 0, .slice none 0 0, .int .i64 0], .int .i64 1]) (build_res _ _ _ _ _ _ _ hA.1 rfl rfl) rfl ⟨.inl ⟨hne, rfl⟩, ?_⟩
  exact (HX.out.1.trans (hb.mono HX.out.1.size)).trans (hA.2.below (by omega))
 | true =>
  have heq : Ck.chk rs = [] := by have := HCB.out; simpa using this
  replace heq := Lib.hid heq
  go_enter Tryd.func7, Tryd.ntmps7
  go_upto_region 3 with (go_at_call 15; rw [hX.out]; refine HFX.out.mono ?_; rintro e Z0 ⟨rfl, hb⟩; have hg2 := (HX.out.2.1).below hb HX.out.2.1.lt; have e0 := hg2.cell 0; have e1 := hg2.cell 1; have e2 := hg2.cell 2; have e3 := hg2.cell 3; simp at e0 e1 e2 e3)
  have hZ : Below W.heap.size W Z0 := HX.out.1.trans (hb.mono HX.out.1.size)
  have hzr := (HX.out.2.2.1).below hb HX.out.2.2.1.lt
  have hzs : W.heap.size + 2 ≤ Z0.heap.size := by have := HX.out.2.2.2; have := hb.size; omega
  have hTZ : Tab Z0 := HT.out.below hZ HTL.out
  obtain ⟨gv, hgv⟩ : ∃ gv : BV, (⟨nm, o1, o2, ra, RN, rc⟩ : BV) = gv := ⟨_, rfl⟩
  have q1 : gv.nm = nm ∧ gv.o1 = o1 ∧ gv.o2 = o2 ∧ gv.ra = ra ∧ gv.rn = RN ∧ gv.rc = rc := by rw [← hgv]; exact ⟨rfl, rfl, rfl, rfl, rfl, rfl⟩
  have hGZ : GrV Z0 gv.nm gv.o1 gv.o2 rs (.agg #[.string gv.nm, .int .i64 gv.o1, .int .i64 gv.o2, .slice gv.ra gv.rn gv.rc]) := by rw [← hgv]; exact GrV2_below HG.out hZ
  have hPo := fun kind => part_any Z0 Z0.heap.size gv rs kind hGZ (by rw [q1.2.2.2.2.1]; exact HRN.out.symm) HSm.out 65537
  obtain ⟨V, hV⟩ : ∃ V, ((Z0.alloc (.cells #[.string nm, .int .i64 o1, .int .i64 o2, .slice ra RN rc, .int .i64 0, .int .i64 0, .slice none 0 0, .slice none 0 0, .bool false] 61)).alloc (.cells Tryd.zeroCells66 66)).alloc (.cells #[.int .u8 1, .int .u8 3] 29) = V := ⟨_, rfl⟩
  have vB : Below Z0.heap.size Z0 V := by rw [← hV]; exact (((Below.refl _ Z0).alloc (Nat.le_refl _) _).alloc (by simp) _).alloc (by simp; omega) _
  have vs : V.heap.size = Z0.heap.size + 3 := by rw [← hV]; simp
  have vb : Bk V Z0.heap.size 61 #[.string nm, .int .i64 o1, .int .i64 o2, .slice ra RN rc, .int .i64 0, .int .i64 0, .slice none 0 0, .slice none 0 0, .bool false] := by rw [← hV]; exact ((Bk.made Z0 _ _).alloc _).alloc _
  have va : Bk V (Z0.heap.size + 1) 66 Tryd.zeroCells66 := by
   rw [← hV]
   have := (Bk.made (Z0.alloc (.cells #[.string nm, .int .i64 o1, .int .i64 o2, .slice ra RN rc, .int .i64 0, .int .i64 0, .slice none 0 0, .slice none 0 0, .bool false] 61)) 66 Tryd.zeroCells66).alloc (.cells #[.int .u8 1, .int .u8 3] 29)
   rw [World.size_alloc] at this
   exact this
  have vst : Bk V (Z0.heap.size + 1 + 1) 29 #[.int .u8 1, .int .u8 3] := by
   rw [← hV]
   have := Bk.made ((Z0.alloc (.cells #[.string nm, .int .i64 o1, .int .i64 o2, .slice ra RN rc, .int .i64 0, .int .i64 0, .slice none 0 0, .slice none 0 0, .bool false] 61)).alloc (.cells Tryd.zeroCells66 66)) 29 #[.int .u8 1, .int .u8 3]
   rw [World.size_alloc, World.size_alloc] at this
   exact this
  have hBI : BI Z0.heap.size Z0.heap.size gv 0 ⟨0, [], [], false⟩ V := by
   refine ⟨.slice none 0 0, .slice none 0 0, [], ⟨Nat.le_refl _, ?_, World.ownsRow_nil _ _ _ _, World.ownsRow_nil _ _ _ _, fun x hx => (by cases hx), hTZ.below vB (by have := HTL.out; omega), by have := HTL.out; omega⟩, rfl⟩
   rw [← hgv]
   exact vb
  have hEn := zero_ena va
  have HOf := Lib.hid (Of_any nm o1 o2 rs _ V (GrV2_below HG.out (hZ.trans (vB.mono hZ.size))) (by rw [HRN.out]; omega) (Z0.heap.size + 1 + 1) (by have := vst.cell 0; simpa using this) (by have := vst.cell 1; simpa using this))
  have HV := Lib.hid (And.intro vB (And.intro vs (And.intro hBI hEn)))
  have HZ := Lib.hid (And.intro hZ (And.intro hzr (And.intro hzs (And.intro hg2 hTZ))))
  have HPo := Lib.hid hPo
  replace hV := Lib.hid hV
  have HQ := Lib.hid q1
  have y0 : ∀ o1 o2, ((Z0.alloc o1).alloc o2).cell? ⟨W.heap.size, 0, none⟩ = some (.string nm) := fun o1 o2 => by have := ((hg2.alloc o1).alloc o2).cell 0; simpa using this
  have y1 : ∀ p1 p2, ((Z0.alloc p1).alloc p2).cell? ⟨W.heap.size, 1, none⟩ = some (.int .i64 o1) := fun p1 p2 => by have := ((hg2.alloc p1).alloc p2).cell 1; simpa using this
  have y2 : ∀ p1 p2, ((Z0.alloc p1).alloc p2).cell? ⟨W.heap.size, 2, none⟩ = some (.int .i64 o2) := fun p1 p2 => by have := ((hg2.alloc p1).alloc p2).cell 2; simpa using this
  have y3 : ∀ o1 o2, ((Z0.alloc o1).alloc o2).cell? ⟨W.heap.size, 3, none⟩ = some (.slice ra RN rc) := fun o1 o2 => by have := ((hg2.alloc o1).alloc o2).cell 3; simpa using this
  clear vB vs vb va vst hBI hEn hZ hzr hzs hTZ hGZ hPo hb hgv q1
  go_upto_region 6 with (go_at_call 16; rw [hV.out]; refine HOf.out.mono ?_; rintro e w3 ⟨uv, rfl, hu, hb3⟩; have huf := il_form hu)
  obtain ⟨uA, uN, rfl⟩ := huf
  clear e0 e1 e2 e3 hg2 y0 y1 y2 y3
  have huN : uN = (tokI 0 rs).length ∧ uN ≤ 999 := by
   obtain ⟨A, e1, _⟩ := hu
   injection e1 with _ e1
   have := tokI_len rs 0
   rw [HRN.out] at this
   exact ⟨e1, by omega⟩
  have un1 : (uN : Int) ≤ 9223372036854775807 := by have := huN.2; omega
  have hn3 : Z0.heap.size ≤ w3.heap.size := by have := hb3.size; have := HV.out.2.1; omega
  have HST := Lib.hid (show BdI W Z0 Z0.heap.size gv rs (.slice uA uN uN) AA 0 w3 from by
   have hs3 : Soft Z0.heap.size V w3 := Soft.below hb3 (by have := HV.out.2.1; omega)
   refine ⟨⟨⟨0, [], [], false⟩, (none_, none_), 0, ?_, HV.out.2.2.1.soft hs3, ⟨rfl, fun S hS => (by cases hS), Nat.zero_le _⟩, fun _ => Nat.zero_le _, Nat.zero_le _, HV.out.2.2.2.tl hs3.tl, Bd.none _, Bd.none _⟩, HV.out.1.trans hs3.1, hu.mono (by have := HV.out.2.1; omega)⟩
   rw [List.drop_zero, ← HAA.out]
   rfl)
  have HUN := Lib.hid huN
  clear hu hb3 huN HOf
  go_wp2_with fail
  go_loopw [20] (fun i wr => ∃ q : Nat, q ≤ uN ∧ i = .int .i64 q ∧ Hid (BdI W Z0 Z0.heap.size gv rs (.slice uA uN uN) AA q wr)) (fun i _ => uN - (intOf i).toNat)
  case atStart => exact ⟨0, Nat.zero_le _, rfl, HST⟩
  case round =>
   obtain ⟨q, hq, rfl, hJ⟩ := hrel
   clear HST
   by_cases hlt : q < uN
   · have p0 : (q : Int) < (uN : Int) := by omega
     have p1 : (0 : Int) ≤ (q : Int) := by omega
     obtain ⟨⟨s, a, kd, hall, hB, hOk, hLow, hnd, hEn, hd1, hd2⟩, hz, hu⟩ := hJ.out
     obtain ⟨i, hi⟩ : ∃ i, (tokI 0 rs)[q]? = some i := ⟨_, List.getElem?_eq_getElem (by rw [← HUN.out.1]; exact hlt)⟩
     obtain ⟨r, hr, hrt⟩ := tokI_at hi
     have hiRN : i < RN := by rw [← HRN.out]; exact (List.getElem?_eq_some_iff.1 hr).1
     have i0 : (i : Int) < (RN : Int) := by omega
     have i1 : (0 : Int) ≤ (i : Int) := by omega
     obtain ⟨ub, rfl, hucell⟩ : ∃ ub, uA = some ⟨ub, 0, none⟩ ∧ wr.cell? ⟨ub, q, none⟩ = some (.int .i64 (i : Int)) := by
      obtain ⟨A, e1, e2⟩ := hu
      injection e1 with e1
      rcases e2 with ⟨_, e2⟩ | ⟨b, cur, e2, _, e3, e4⟩
      · rw [e2] at hi; simp at hi
      · exact ⟨b, e1.trans e2, (e3.cell _).trans (e4 q i hi)⟩
     obtain ⟨k4, k4f⟩ := hB.kcell
     obtain ⟨hB4, hT4⟩ := hB.kind q
     obtain ⟨w4, hw4⟩ : ∃ w4, wr.setCell ⟨Z0.heap.size, 4, none⟩ (.int .i64 (q : Int)) = w4 := ⟨_, rfl⟩
     rw [hw4] at hB4 hT4
     have hz4 : Below Z0.heap.size Z0 w4 := hz.trans hT4.1
     have hW4 : Below W.heap.size W w4 := HZ.out.1.trans (hz4.mono HZ.out.1.size)
     obtain ⟨b, o, rfl, v0, v1, v2, v3, v4, _, _, a2, a3, a4, a5, a6, _, _, _, hAt, _⟩ := (HR.out.below HZ.out.1) i r hr
     have x2 := cell_keeps_below hz4 a2
     have x3 := cell_keeps_below hz4 a3
     have x4 := cell_keeps_below hz4 a4
     have x5 := cell_keeps_below hz4 a5
     have x6 := cell_keeps_below hz4 a6
     have hg4 := HZ.out.2.2.2.1.below hz4 HZ.out.2.2.2.1.lt
     have g3 := hg4.cell 3
     simp at g3
     have HC := Lib.hid ((HPo.out q) r.body _ s w4 hAt (HSm.out r (List.mem_of_getElem? hr)) hz4 hB4 hOk hLow (by have := HUN.out.2; omega) (by omega))
     have hp := partF_ok (bodyOf rs) runesOf q 65537 s r.body hOk
     have hm := part_more (bodyOf rs) runesOf q 65537 s r.body hLow q hnd
     have hE4 := hEn.tl hT4
     obtain ⟨⟨s1, p⟩, hx⟩ : ∃ x, partF (bodyOf rs) runesOf q 65537 s r.body = x := ⟨_, rfl⟩
     rw [hx] at HC hp hm
     obtain ⟨hOk1, hle, hPok⟩ := hp
     simp only at hOk1 hle hPok hm
     have HA := Lib.hid (show allF (bodyOf rs) runesOf s1 (jn a.1 p.first, jn a.2 p.last) (q + 1) (((toks rs).drop (q + 1)).map (·.body)) = AA from by
      rw [← hall, Nd.drop_some hrt, List.map_cons]
      conv => rhs; unfold allF
      rw [hx])
     have HD := Lib.hid (And.intro (show Bd s1.made.length (jn a.1 p.first) from (hd1.mono hle).jn hPok.1) (And.intro (show Bd s1.made.length (jn a.2 p.last) from (hd2.mono hle).jn hPok.2) (And.intro hOk1 (And.intro hm.1 (And.intro hm.2 (And.intro hE4 (And.intro hz4 (hu.tl hT4))))))))
     obtain ⟨sa1, sc1, ba1, bc1, e5, _⟩ := hAt.form
     injection e5 with e5
     simp only [Array.mk.injEq, List.cons.injEq, and_true] at e5
     obtain ⟨rfl, rfl, rfl, rfl, rfl⟩ := e5
     have hZs := Lib.hid (And.intro HZ.out.2.2.1 hz4.size)
     clear hJ hall hB hOk hLow hnd hEn hd1 hd2 hz hu hi hr hrt hB4 hT4 hW4 hAt hg4 hm hE4 hx hOk1 hle hPok a2 a3 a4 a5 a6 hz4
     generalize r.body.kind = qk at *
     generalize r.body.name = qn at *
     generalize r.body.text = qx at *
     generalize r.body.set.length = ql at *
     generalize r.body.subs.length = qm at *
     go_wp2_with (first
      | (go_at_call 18; refine HC.out.mono ?_; rintro e w5 ⟨pq, rfl, hpq, hB5, hQ5, hT5⟩; obtain ⟨cs, ek, esz, ef, el⟩ := HD.out.2.2.2.2.2.1; obtain ⟨ds, qk', qsz, qf, ql'', qe⟩ := hQ5; have ek5 := hT5.bk ek (by decide) (by decide) (by decide); have HJ := Lib.hid (joinE_any (Z0.heap.size + 1) pq 66 71 cs ds a.1 a.2 p.first p.last w5 ek5 qk' (by have := ek.lt; omega) ef el qf ql''); have HB5 := Lib.hid (And.intro hB5 (And.intro hT5 (And.intro ek5 esz))); clear HC ek ef el qk' qsz qf ql'' qe hB5 hT5 ek5 x2 x3 x4 x5 x6 g3)
      | (go_at_call 17; refine HJ.out.mono ?_; rintro e w6 ⟨rfl, hO6, cs', ek6, es6, ef6, el6, _⟩))
     obtain ⟨hB5, hT5, ek5, esz⟩ := HB5.out
     obtain ⟨j1, j2, j3, j4, j5, j6, j7, j8⟩ := HD.out
     exact ⟨⟨q + 1, by omega, by go_num, Lib.hid ⟨⟨s1, (jn a.1 p.first, jn a.2 p.last), q, HA.out, hB5.only hO6 ek5 (by omega) (by decide) (by decide) (by decide) (by decide), j3, j4, j5, ⟨cs', ek6, by rw [es6, esz], ef6, el6⟩, j1, j2⟩,
      (j7.trans hT5.1).trans (hO6.below (by omega)), (j8.tl hT5).only hO6 ek5 (by decide)⟩⟩, by simp [intOf]; omega⟩
   · obtain ⟨⟨s, a, kd, hall, hB, hOk, hLow, hnd, hEn, hd1, hd2⟩, hz, hu⟩ := hJ.out
     rw [List.drop_eq_nil_of_le (by rw [toks_len, ← HUN.out.1]; omega)] at hall
     have hs : AA = (s, a) := by rw [← hall]; rfl
     have hAu : autoF runesOf rs = (s, a) := by rw [HAA.out, hs]
     replace hs := Lib.hid hs
     replace hAu := Lib.hid hAu
     have c8 := hB.over
     obtain ⟨ov, hov⟩ : ∃ ov, s.over = ov := ⟨_, rfl⟩
     rw [hov] at c8
     have HOV := Lib.hid hov
     have hWz : Below W.heap.size W wr := HZ.out.1.trans (hz.mono HZ.out.1.size)
     have hrw := HZ.out.2.1.below hz HZ.out.2.1.lt
     clear hov hJ hall
     cases ov with
     | true =>
      have e0 := hrw.cell 0
      have e1 := hrw.cell 1
      have e2 := hrw.cell 2
      have f0 := hrw.free 0
      have f1 := hrw.free 1
      have f2 := hrw.free 2
      simp at e0 e1 e2
      have hA := auto_sets (x' := .slice none 0 0) (y' := .slice none 0 0) (z' := .int .i64 0) hrw
      have HA := Lib.hid (And.intro hA hWz)
      clear hB hOk hLow hnd hEn hd1 hd2 hz hu hrw hA hWz
      go_wp2_with fail
      refine bodyPost_ret (v := .tuple #[.agg #[.slice none 0 0, .slice none 0 0, .int .i64 0], .int .i64 3]) (build_res _ _ _ _ _ _ _ HA.out.1.1 rfl rfl) rfl ⟨.inr (.inl ⟨heq.out, by rw [hAu.out]; exact HOV.out, rfl⟩), ?_⟩
      exact HA.out.2.trans (HA.out.1.2.below (by omega))
     | false =>
      obtain ⟨cs, ek, esz, ef, el⟩ := hEn
      have HTo := Lib.hid (told_any Z0.heap.size Z0.heap.size gv kd s wr hB hOk (Z0.heap.size + 1) 64 66 cs a.2 ek el (by decide) hd2)
      have hTw : Tab wr := HT.out.below hWz HTL.out
      have HK := Lib.hid (And.intro ek (And.intro ef (And.intro hTw (And.intro hrw (And.intro hWz hz.size)))))
      clear hB hOk hLow hnd hd1 hd2 hu hrw hWz ek esz ef el hTw
      go_wp2_with (first
       | (go_at_call 19; refine HTo.out.mono ?_; rintro e w7 ⟨pv, rfl, hPL, hNo⟩; have HLi := Lib.hid (list_any (Z0.heap.size + 1) 0 66 cs a.1 w7 (hNo.bk HK.out.1 (by decide)) HK.out.2.1 (HK.out.2.2.1.below hNo.1 (by have := HTL.out; have := HZ.out.2.2.1; omega))); have hr7 := hNo.bk HK.out.2.2.2.1 (by decide); have hpf := pl_form hPL; obtain ⟨pA, pN, rfl⟩ := hpf; clear HTo)
       | (go_at_call 20; refine HLi.out.mono ?_; rintro e w8 ⟨fv, rfl, hIL, hb8⟩; have hff := il_form hIL; obtain ⟨fA, fN, rfl⟩ := hff; have hr8 := hr7.below hb8 hr7.lt; have e0 := hr8.cell 0; have e1 := hr8.cell 1; have e2 := hr8.cell 2; have f0 := hr8.free 0; have f1 := hr8.free 1; have f2 := hr8.free 2; simp at e0 e1 e2))
      have hA := auto_sets (x' := .slice pA pN pN) (y' := .slice fA fN fN) (z' := .int .i64 (uN : Int)) hr8
      have hn7 : Z0.heap.size ≤ w7.heap.size := Nat.le_trans HK.out.2.2.2.2.2 hNo.1.size
      have hn8 := hb8.size
      have hbA : Below W.heap.size w8 _ := hA.2.below (n₀ := W.heap.size) (by omega)
      have hw78 : Below W.heap.size W w8 := (HK.out.2.2.2.2.1.trans (hNo.1.mono HZ.out.1.size)).trans (hb8.mono (by have := HZ.out.1.size; omega))
      refine bodyPost_ret (v := .tuple #[.agg #[.slice pA pN pN, .slice fA fN fN, .int .i64 (uN : Int)], .int .i64 0]) (build_res _ _ _ _ _ _ _ hA.1 rfl rfl) rfl ⟨.inr (.inr ⟨heq.out, by rw [hAu.out]; exact HOV.out, Z0.heap.size, .slice pA pN pN, .slice fA fN fN, ?_, ?_, ?_, ?_⟩), ?_⟩
      · rw [hA.2.size]; omega
      · rw [HUN.out.1]
      · rw [hAu.out]
        exact (hPL.below hb8).only hA.2 hr8 ⟨by decide, by decide, by decide⟩
      · rw [hAu.out]
        exact (hIL.mono hn7).only hA.2 hr8 (by decide)
      · exact hw78.trans hbA
end Go.Proofs.YtiinkhmgemoamaaDoor.Nf
namespace Go.Proofs.YtiinkhmgemoamaaDoor.Nf
open Go Go.RowKit Nd
attribute [local go_sem] Oper.semAt_some
set_option maxRecDepth 100000

/-- The numbers l lie at v. -/
def NV (w : World) (v : Value) (l : List Nat) : Prop := ∃ a c, v = .slice a l.length c ∧ ∀ (i x : Nat), l[i]? = some x → ∃ b, a = some ⟨b, 0, none⟩ ∧ w.cell? ⟨b, i, none⟩ = some (.int .i64 (x : Int))
theorem IL.nv {B : Nat} {W : World} {v : Value} {l : List Nat} (h : IL B W v l) : NV W v l := by
 obtain ⟨A, h1, h2⟩ := h
 refine ⟨A, _, h1, fun i x hx => ?_⟩
 rcases h2 with ⟨_, h2⟩ | ⟨b, cur, e1, _, e3, e4⟩
 · subst h2; simp at hx
 · exact ⟨b, e1, (e3.cell _).trans (e4 i x hx)⟩
theorem NV.below {w w' : World} {v : Value} {l : List Nat} (h : NV w v l) (hb : Below w.heap.size w w') : NV w' v l := by
 obtain ⟨a, c, h1, h2⟩ := h
 exact ⟨a, c, h1, fun i x hx => by
  obtain ⟨b, e1, e2⟩ := h2 i x hx
  exact ⟨b, e1, Nd.cell_keeps hb e2⟩⟩
set_option maxHeartbeats 2000000 in
theorem SameNums_yes (l : List Nat) (u v : Value) (w : World) (hu : NV w u l) (hv : NV w v l) (hl : l.length ≤ 140737488351232) :
 Calls Tryd.prog 8 #[u, v] w fun e w' => e = .returned (.bool true) ∧ Below w.heap.size w w' := by
 obtain ⟨a, ca, rfl, hR⟩ := hu
 obtain ⟨c, cc, rfl, hQ⟩ := hv
 obtain ⟨N, hN⟩ : ∃ N, l.length = N := ⟨_, rfl⟩
 have HN := Lib.hid hN
 rw [hN] at hl ⊢
 have n1 : (N : Int) ≤ 9223372036854775807 := by omega
 have HR := Lib.hid hR
 have HQ := Lib.hid hQ
 have q9 : ((N : Int) != (N : Int)) = false := by simp
 clear hR hQ hN
 have HC : Calls Tryd.prog 21 #[.slice a N ca, .slice c N cc] w fun e w' => e = .returned (.bool true) ∧ Below w.heap.size w w' := by
  go_enter Tryd.func21, Tryd.ntmps21
  go_wp2_with fail
  go_loopw [5] (fun i wr => ∃ (k n : Nat), k ≤ N ∧ i = .int .i64 k ∧ wr = w.drewN n) (fun i _ => N - (intOf i).toNat)
  case atStart => exact ⟨0, 0, Nat.zero_le _, rfl, rfl⟩
  case round =>
   obtain ⟨k, n, hk, rfl, rfl⟩ := hrel
   by_cases hlt : k < N
   · obtain ⟨p, hp⟩ : ∃ p, l[k]? = some p := ⟨_, List.getElem?_eq_getElem (by rw [HN.out]; exact hlt)⟩
     obtain ⟨g1, rfl, x1⟩ := HR.out k p hp
     obtain ⟨g2, rfl, y1⟩ := HQ.out k p hp
     have d0 : decide (k < N) = true := by rw [decide_eq_true_iff]; exact hlt
     have a0 : (k : Int) < (N : Int) := by omega
     have a1 : (0 : Int) ≤ (k : Int) := by omega
     obtain ⟨P, hP⟩ : ∃ P : Int, (p : Int) = P := ⟨_, rfl⟩
     rw [hP] at x1 y1
     have b0 : (P != P) = false := by simp
     have b1 : (P == P) = true := by simp
     clear hp hP
     go_wp2_with fail
     go_quiet (fail)
     go_wp2_with fail
     exact ⟨⟨k + 1, n + nq, by omega, by go_num, rfl⟩, by simp [intOf]; omega⟩
   · have d0 : decide (k < N) = false := by rw [decide_eq_false_iff_not]; exact hlt
     go_wp2_with fail
     go_ret
     exact ⟨rfl, below_drewN (Below.refl _ _) _⟩
 replace HC := Lib.hid HC
 go_enter Tryd.func8, Tryd.ntmps8
 go_wp2_with (go_at_call 21; refine HC.out.mono ?_; rintro e w' ⟨rfl, hb⟩)
 go_ret
 exact ⟨rfl, hb⟩
/-- The ranges l lie at v. -/
def RV (w : World) (v : Value) (l : List (Int × Int)) : Prop := ∃ a c, v = .slice a l.length c ∧ l.length ≤ 140737488351232 ∧ Nd.RgAt w l a
theorem SetV.rv {W : World} {v : Value} {set : List (Int × Int)} (h : SetV W v set) : RV W v set := by
 obtain ⟨a, c, h1, ⟨_, h2⟩, h3⟩ := h
 exact ⟨a, c, h1, h2, h3.to⟩
end Go.Proofs.YtiinkhmgemoamaaDoor.Nf
namespace Go.Proofs.YtiinkhmgemoamaaDoor.Nf
open Go Go.RowKit Nd Nu Ck
set_option maxRecDepth 100000

def lvA : T := .mk 1 ⟨#[]⟩ ⟨#[]⟩ [] [.mk 3 ⟨#[]⟩ ⟨#[]⟩ [] [.mk 8 ⟨#[]⟩ ⟨#[97, 98]⟩ [] []], .mk 9 ⟨#[]⟩ ⟨#[]⟩ [(120, 120)] []]
def lvS : T := .mk 6 ⟨#[65]⟩ ⟨#[]⟩ [] []
def lvR : List Rl := [⟨⟨#[115]⟩, 0, lvS, 0, 0, 0⟩, ⟨⟨#[65]⟩, 1, lvA, 0, 0, 0⟩]
theorem lv_a : fnd lvR ⟨#[65]⟩ = some 1 := by simp [fnd, fndF, lvR, ByteArray.toList_eq]
theorem lv_s : fnd lvR ⟨#[115]⟩ = some 0 := by simp [fnd, fndF, lvR, ByteArray.toList_eq]
theorem lv_sort1 : sortAt lvR 1 = 1 := rfl
theorem lv_thr0 (e : List Bool) : thr lvR 0 e lvS = false := by simp [thr, lvS, nmd, lv_a, lv_sort1]
theorem lv_thr1 (e : List Bool) : thr lvR 1 e lvA = false := by simp [thr, thrA, lvA]
theorem lv_emp : emp lvR = [false, false] := by
 show grow lvR 3 [false, false] = _
 have h : pass lvR 0 [false, false] false lvR = ([false, false], false) := by
  conv => lhs; arg 5; unfold lvR
  simp [pass, lv_thr0, lv_thr1]
 simp [grow, h]
theorem lv_stp : stp lvR = [[], []] := by
 unfold stp
 rw [lv_emp]
 show [rch lvR 0 [false, false] lvS, rch lvR 1 [false, false] lvA] = _
 simp [rch, rchA, rchO, thr, lvS, lvA, nmd, lv_a, lv_sort1]
theorem lv_rea (i : Nat) (hi : i < 2) : reaAt lvR i i = false := by
 unfold reaAt rea
 rw [lv_stp]
 rcases (show i = 0 ∨ i = 1 by omega) with rfl | rfl <;> simp [lvR, spr]
theorem lv_namS : nam lvS = [lvS] := by simp [nam, namL, lvS]
theorem lv_namA : nam lvA = [] := by simp [nam, namL, lvA]
theorem lv_nm : nmR lvR = [⟨⟨#[115]⟩, 0, .mk 0 ⟨#[]⟩ ⟨#[]⟩ [] [.mk 6 ⟨#[65]⟩ ⟨#[]⟩ [] []], 0, 0, 0⟩, ⟨⟨#[65]⟩, 1, .mk 0 ⟨#[]⟩ ⟨#[]⟩ [] [], 0, 0, 0⟩] := by
 unfold nmR
 show [(⟨⟨#[115]⟩, 0, allT lvS, 0, 0, 0⟩ : Rl), ⟨⟨#[65]⟩, 1, allT lvA, 0, 0, 0⟩] = _
 unfold allT
 rw [lv_namS, lv_namA]
 rfl
theorem lv_na : fnd (nmR lvR) ⟨#[65]⟩ = some 1 := by rw [lv_nm]; simp [fnd, fndF, ByteArray.toList_eq]
theorem lv_nsort : sortAt (nmR lvR) 1 = 1 := by rw [lv_nm]; rfl
theorem lv_nemp : emp (nmR lvR) = [false, false] := by
 have hp : pass (nmR lvR) 0 [false, false] false (nmR lvR) = ([false, false], false) := by
  conv => lhs; arg 5; rw [lv_nm]
  simp [pass, thr, thrO, nmd, lv_na, lv_nsort]
 have hl : (nmR lvR).length = 2 := by rw [lv_nm]; rfl
 unfold emp
 rw [hl]
 show grow (nmR lvR) 3 [false, false] = _
 simp [grow, hp]
theorem lv_nstp : stp (nmR lvR) = [[], []] := by
 unfold stp
 rw [lv_nemp]
 conv => lhs; arg 2; rw [lv_nm]
 simp [rch, rchO, nmd, lv_na, lv_nsort]
theorem lv_nrea (i : Nat) (hi : i < 2) : reaAt (nmR lvR) i i = false := by
 unfold reaAt rea
 rw [lv_nstp]
 have hl : (nmR lvR).length = 2 := by rw [lv_nm]; rfl
 rw [hl]
 rcases (show i = 0 ∨ i = 1 by omega) with rfl | rfl <;> simp [spr]
theorem lv_lp (r : Rl) : lpN (shE lvR r) lvA = 0 := by
 have : ∀ n, shE lvR r (.mk 8 n ⟨#[97, 98]⟩ [] []) = false := fun n => by
  unfold shE
  simp [thr, ByteArray.toList_eq]
 simp [lpN, lpNL, lvA, isLoop, lpT, lpL, this]
theorem lv_lpS (r : Rl) : lpN (shE lvR r) lvS = 0 := by simp [lpN, lpNL, lvS]
theorem lv_chk : chk lvR = [] := by
 unfold chk
 have h1 : Ck.start lvR = some 0 := by unfold Ck.start lvR; simp [List.findIdx?_cons]
 rw [h1]
 show rulesF lvR 0 [⟨⟨#[115]⟩, 0, lvS, 0, 0, 0⟩, ⟨⟨#[65]⟩, 1, lvA, 0, 0, 0⟩] ++ _ = _
 simp only [rulesF, rulP, lv_namS, lv_namA, lv_a, lv_s, lv_rea 0 (by omega), lv_rea 1 (by omega), lv_nrea 0 (by omega), lv_nrea 1 (by omega), lv_lp, lv_lpS, lv_emp]
 simp [noneP, sortP, sortB, lvS, lv_a, lv_sort1, fits, T.name, T.kind]
theorem lv_rules : (rulesF lvR 0 lvR).length ≤ 100000 := by
 have := lv_chk
 unfold chk at this
 rw [List.append_eq_nil_iff] at this
 rw [this.1]
 simp
theorem lv_made : (autoF runesOf lvR).1.made = [([(97, 97)], 0), ([(98, 98)], 0), ([(120, 120)], 0)] := by kernel_rfl
theorem lv_over : (autoF runesOf lvR).1.over = false := by kernel_rfl
theorem lv_first : ups (autoF runesOf lvR).2.1 4096 = [0, 2] := by kernel_rfl
theorem lv_follow : ((autoF runesOf lvR).1.follow.map fun F => ups F 4096) = [[1], [0, 2], []] := by kernel_rfl
theorem lv_last : ((List.range 3).map (autoF runesOf lvR).2.2) = [false, false, true] := by kernel_rfl
end Go.Proofs.YtiinkhmgemoamaaDoor.Nf
namespace Go.Proofs.YtiinkhmgemoamaaDoor.Nf
open Go Go.RowKit Nd Nu
attribute [local go_sem] Oper.semAt_some
set_option maxRecDepth 100000

def lvO (n : Nat) : List Obj := [
 .cells #[.int .u8 8, .string ⟨#[]⟩, .string ⟨#[97, 98]⟩, .slice none 0 0, .slice none 0 0] 34,
 .cells #[.int .u8 3, .string ⟨#[]⟩, .string ⟨#[]⟩, .slice none 0 0, .slice (some ⟨n, 0, none⟩) 1 1] 34,
 .cells #[.int .i32 120, .int .i32 120] 58,
 .cells #[.int .u8 3, .string ⟨#[]⟩, .string ⟨#[]⟩, .slice none 0 0, .slice (some ⟨n, 0, none⟩) 1 1, .int .u8 9, .string ⟨#[]⟩, .string ⟨#[]⟩, .slice (some ⟨n + 1 + 1, 0, none⟩) 1 1, .slice none 0 0] 34,
 .cells #[.int .u8 1, .string ⟨#[]⟩, .string ⟨#[]⟩, .slice none 0 0, .slice (some ⟨n + 1 + 1 + 1, 0, none⟩) 2 2] 34,
 .cells #[.string ⟨#[115]⟩, .int .u8 0, .int .u8 6, .string ⟨#[65]⟩, .string ⟨#[]⟩, .slice none 0 0, .slice none 0 0, .int .i64 0, .int .i64 0, .int .i64 0,
  .string ⟨#[65]⟩, .int .u8 1, .int .u8 1, .string ⟨#[]⟩, .string ⟨#[]⟩, .slice none 0 0, .slice (some ⟨n + 1 + 1 + 1, 0, none⟩) 2 2, .int .i64 0, .int .i64 0, .int .i64 0] 38,
 .cells #[.string ⟨#[]⟩, .int .i64 0, .int .i64 0, .slice (some ⟨n + 1 + 1 + 1 + 1 + 1, 0, none⟩) 2 2] 26]
theorem lvGr (w : World) : GrV (allocs w (lvO w.heap.size)) ⟨#[]⟩ 0 0 lvR (.agg #[.string ⟨#[]⟩, .int .i64 0, .int .i64 0, .slice (some ⟨w.heap.size + 1 + 1 + 1 + 1 + 1, 0, none⟩) 2 2]) := by
 have b0 := allocs_bk (lvO w.heap.size) w 0 _ _ rfl
 have b2 := allocs_bk (lvO w.heap.size) w 2 _ _ rfl
 have b3 := allocs_bk (lvO w.heap.size) w 3 _ _ rfl
 have b5 := allocs_bk (lvO w.heap.size) w 5 _ _ rfl
 generalize allocs w (lvO w.heap.size) = W at *
 have hz : (⟨#[]⟩ : ByteArray).size ≤ 140737488351232 := by simp [ByteArray.size]
 have hA : At W lvA (.agg #[.int .u8 1, .string ⟨#[]⟩, .string ⟨#[]⟩, .slice none 0 0, .slice (some ⟨w.heap.size + 1 + 1 + 1, 0, none⟩) 2 2]) := by
  unfold lvA
  refine pair_at (by omega) b3 (sole_at (by omega) b0 ?_) ?_
  · unfold At
    exact ⟨none, 0, none, 0, rfl, by omega, hz, by simp [ByteArray.size], ⟨by simp, by simp⟩, ⟨by simp, by simp⟩, trivial, by unfold AtL; trivial⟩
  · unfold At
    refine ⟨some ⟨w.heap.size + 1 + 1, 0, none⟩, 1, none, 0, rfl, by omega, hz, hz, ⟨by simp, by simp⟩, ⟨by simp, by simp⟩, ⟨w.heap.size + 1 + 1, 0, rfl, b2.cell 0, b2.cell 1, trivial⟩, by unfold AtL; trivial⟩
 refine ⟨some ⟨w.heap.size + 1 + 1 + 1 + 1 + 1, 0, none⟩, 2, rfl, hz, ⟨Nat.le_refl 2, by show 2 ≤ 140737488351232; omega⟩, fun i r hr => ?_⟩
 match i, hr with
 | 0, hr =>
  injection hr with hr
  subst hr
  refine ⟨_, 0, rfl, _, _, _, _, _, b5.cell 0, b5.cell 1, b5.cell 2, b5.cell 3, b5.cell 4, b5.cell 5, b5.cell 6, b5.cell 7, b5.cell 8, b5.cell 9, ?_, ⟨by decide, by decide⟩, by simp [ByteArray.size]⟩
  exact leaf_at 6 (by omega) ⟨#[65]⟩ W (by simp [ByteArray.size])
 | 1, hr =>
  injection hr with hr
  subst hr
  exact ⟨_, 0, rfl, _, _, _, _, _, b5.cell 10, b5.cell 11, b5.cell 12, b5.cell 13, b5.cell 14, b5.cell 15, b5.cell 16, b5.cell 17, b5.cell 18, b5.cell 19, hA, ⟨by decide, by decide⟩, by simp [ByteArray.size]⟩
 | i + 2, hr => simp [lvR] at hr
theorem lv_small : lvR.length ≤ 999 ∧ ∀ r ∈ lvR, Nd.deep r.body ≤ 100000 ∧ Nd.count r.body ≤ 90000 := by
 refine ⟨by show 2 ≤ 999; omega, fun r hr => ?_⟩
 simp only [lvR, List.mem_cons, List.not_mem_nil, or_false] at hr
 rcases hr with rfl | rfl
 · simp [lvS, Nd.deep, Nd.deepL, Nd.count, Nd.countL]
 · simp [lvA, Nd.deep, Nd.deepL, Nd.count, Nd.countL]
theorem lv_sm : ∀ r ∈ lvR, Sm r.body := by
 have leaf : ∀ k n x s, s.length ≤ 1000000 → x.size ≤ 1000000 → Sm (.mk k n x s []) := fun k n x s h1 h2 => .mk h1 h2 (fun m hm => by cases hm)
 intro r hr
 simp only [lvR, List.mem_cons, List.not_mem_nil, or_false] at hr
 rcases hr with rfl | rfl
 · exact leaf _ _ _ _ (by simp) (by simp [ByteArray.size])
 · refine .mk (by simp) (by simp [ByteArray.size]) fun m hm => ?_
   simp only [List.mem_cons, List.not_mem_nil, or_false] at hm
   rcases hm with rfl | rfl
   · refine .mk (by simp) (by simp [ByteArray.size]) fun m hm => ?_
     simp only [List.mem_cons, List.not_mem_nil, or_false] at hm
     subst hm
     exact leaf _ _ _ _ (by simp) (by simp [ByteArray.size])
   · exact leaf _ _ _ _ (by simp) (by simp [ByteArray.size])
theorem lv_tok : tokI 0 lvR = [1] := by rfl
/-- What the example's places are. -/
theorem lv_places {n₀ : Nat} {W : World} {v : Value} (h : PL n₀ W v (autoF runesOf lvR).1.made (autoF runesOf lvR).1.follow (autoF runesOf lvR).2.2) : ∃ mb f0 f1 f2 v0 v1 v2, v = .slice (some ⟨mb, 0, none⟩) 3 3 ∧
 Bk W mb 48 f0 ∧ f0[2]? = some (.bool false) ∧ f0[3]? = some v0 ∧ NV W v0 [1] ∧ f0[6]? = some (.bool false) ∧ f0[7]? = some v1 ∧ NV W v1 [0, 2] ∧ f0[10]? = some (.bool true) ∧ f0[11]? = some v2 ∧ NV W v2 [] ∧ f1 = (0 : Nat) ∧ f2 = (0 : Nat) := by
 have hm := lv_made
 have hf := lv_follow
 have hl := lv_last
 generalize (autoF runesOf lvR).1.made = made at *
 generalize (autoF runesOf lvR).1.follow = follow at *
 generalize (autoF runesOf lvR).2.2 = last at *
 subst hm
 obtain ⟨A, rfl, h2⟩ := h
 rcases h2 with h2 | ⟨mb, cur, rfl, _, hk, h4⟩
 · cases h2
 · obtain ⟨F0, F1, F2, rfl⟩ : ∃ F0 F1 F2, follow = [F0, F1, F2] := by
    have hlen : follow.length = 3 := by simpa using congrArg List.length hf
    match follow, hlen with
    | [F0, F1, F2], _ => exact ⟨F0, F1, F2, rfl⟩
   simp only [List.map_cons, List.map_nil, List.cons.injEq, and_true] at hf
   have hl0 : last 0 = false := by simpa using congrArg (fun l => l.getD 0 true) hl
   have hl1 : last 1 = false := by simpa using congrArg (fun l => l.getD 1 true) hl
   have hl2 : last 2 = true := by simpa using congrArg (fun l => l.getD 2 false) hl
   obtain ⟨s0, g0, _, _, a2, a3, _, a5⟩ := h4 0 _ F0 rfl rfl
   obtain ⟨s1, g1, _, _, b2, b3, _, b5⟩ := h4 1 _ F1 rfl rfl
   obtain ⟨s2, g2, _, _, c2, c3, _, c5⟩ := h4 2 _ F2 rfl rfl
   rw [hf.1] at a5
   rw [hf.2.1] at b5
   rw [hf.2.2] at c5
   rw [hl0] at a2
   rw [hl1] at b2
   rw [hl2] at c2
   exact ⟨mb, cur, 0, 0, g0, g1, g2, rfl, hk, a2, a3, a5.nv, b2, b3, b5.nv, c2, c3, c5.nv, rfl, rfl⟩
theorem nv_form {w : World} {v : Value} {l : List Nat} (h : NV w v l) : ∃ a c, v = .slice a l.length c := by
 obtain ⟨a, c, h, _⟩ := h
 exact ⟨a, c, h⟩
theorem nv_one (w : World) (b x : Nat) (h : b = w.heap.size) : NV (w.alloc (.cells #[.int .i64 (x : Int)] 3)) (.slice (some ⟨b, 0, none⟩) 1 1) [x] := by
 subst h
 refine ⟨_, _, rfl, fun i y hy => ?_⟩
 match i, hy with
 | 0, hy =>
  injection hy with hy
  subst hy
  exact ⟨_, rfl, (Bk.made w 3 #[.int .i64 (x : Int)]).cell 0⟩
 | i + 1, hy => simp at hy
theorem nv_two (w : World) (b x y : Nat) (h : b = w.heap.size) : NV (w.alloc (.cells #[.int .i64 (x : Int), .int .i64 (y : Int)] 3)) (.slice (some ⟨b, 0, none⟩) 2 2) [x, y] := by
 subst h
 refine ⟨_, _, rfl, fun i z hz => ?_⟩
 match i, hz with
 | 0, hz =>
  injection hz with hz
  subst hz
  exact ⟨_, rfl, (Bk.made w 3 #[.int .i64 (x : Int), .int .i64 (y : Int)]).cell 0⟩
 | 1, hz =>
  injection hz with hz
  subst hz
  exact ⟨_, rfl, (Bk.made w 3 #[.int .i64 (x : Int), .int .i64 (y : Int)]).cell 1⟩
 | i + 2, hz => simp at hz
set_option maxHeartbeats 8000000 in
theorem lives08_true (w : World) (hT : Tab w) : Calls Tryd.prog 6 #[] w fun e w' => e = .returned (.bool true) ∧ Below w.heap.size w w' := by
 have hAl := allocs_below (lvO w.heap.size) w
 have htl : 0 < w.heap.size := World.block_lt_of_cell? _ _ (hT 0 (by omega))
 have H1 := Lib.hid (Build_any ⟨#[]⟩ 0 0 lvR _ (allocs w (lvO w.heap.size)) (lvGr w) lv_small lv_rules lv_sm (hT.below hAl htl))
 have HA := Lib.hid hAl
 clear hAl hT
 have HS := Lib.hid (fun (l : List Nat) (u v : Value) (wx : World) (hu : NV wx u l) (hv : NV wx v l) (hl : l.length ≤ 2) => SameNums_yes l u v wx hu hv (by omega))
 go_enter Tryd.func6, Tryd.ntmps6
 go_upto_region 5 with (go_at_call 7; refine (H1.out).mono ?_; rintro e W1 ⟨hR, hb⟩; rcases hR with ⟨hR, _⟩ | ⟨_, hR, _⟩ | ⟨_, _, n₀, pv, fv, hn0, rfl, hP, hF⟩; (exact absurd lv_chk hR); (exact absurd (lv_over.symm.trans hR) (by decide)); obtain ⟨mb, f0, f1', f2', v0, v1, v2, rfl, hk, p2, p3, q0, p6, p7, q1, p10, p11, q2, _, _⟩ := lv_places hP; rw [lv_first] at hF; have hF := hF.nv; obtain ⟨fa, fc, rfl⟩ : ∃ a c, fv = .slice a 2 c := nv_form hF; rw [show ((tokI 0 lvR).length : Int) = 1 by rw [lv_tok]; rfl])
 clear hP H1 hn0
 obtain ⟨Y, hY⟩ : ∃ Y, W1.alloc (.cells #[.slice (some ⟨mb, 0, none⟩) 3 3, .slice fa 2 fc, .int .i64 1] 42) = Y := ⟨_, rfl⟩
 have hyb : Below W1.heap.size W1 Y := by rw [← hY]; exact (Below.refl _ _).alloc (Nat.le_refl _) _
 have hyk : Bk Y W1.heap.size 42 #[.slice (some ⟨mb, 0, none⟩) 3 3, .slice fa 2 fc, .int .i64 1] := by rw [← hY]; exact Bk.made _ _ _
 have hk2 := hk.below hyb hk.lt
 have HK := Lib.hid (show ∀ wr : World, Below Y.heap.size Y wr → (wr.cell? ⟨W1.heap.size, 0, none⟩ = some (.slice (some ⟨mb, 0, none⟩) 3 3) ∧ wr.cell? ⟨W1.heap.size, 1, none⟩ = some (.slice fa 2 fc) ∧ wr.cell? ⟨W1.heap.size, 2, none⟩ = some (.int .i64 1)) ∧
  (wr.cell? ⟨mb, 2, none⟩ = some (.bool false) ∧ wr.cell? ⟨mb, 3, none⟩ = some v0 ∧ wr.cell? ⟨mb, 6, none⟩ = some (.bool false) ∧ wr.cell? ⟨mb, 7, none⟩ = some v1 ∧ wr.cell? ⟨mb, 10, none⟩ = some (.bool true) ∧ wr.cell? ⟨mb, 11, none⟩ = some v2) ∧
  NV wr (.slice fa 2 fc) [0, 2] ∧ NV wr v0 [1] ∧ NV wr v1 [0, 2] ∧ Below w.heap.size w wr from fun wr hw => by
  have a := hyk.below hw hyk.lt
  have b := hk2.below hw hk2.lt
  refine ⟨⟨a.cell 0, a.cell 1, a.cell 2⟩, ⟨(b.cell _).trans p2, (b.cell _).trans p3, (b.cell _).trans p6, (b.cell _).trans p7, (b.cell _).trans p10, (b.cell _).trans p11⟩, (hF.below hyb).below hw, (q0.below hyb).below hw, (q1.below hyb).below hw, ?_⟩
  have h1 := HA.out.trans (hb.mono HA.out.size)
  have h2 := h1.trans (hyb.mono h1.size)
  exact h2.trans (hw.mono h2.size))
 obtain ⟨⟨y0, y1, y2⟩, _, hFY, _⟩ := HK.out Y (Below.refl _ _)
 obtain ⟨ga, gc, e2⟩ := nv_form q2
 subst e2
 replace hY := Lib.hid hY
 clear hyb hyk hk2 hk p2 p3 p6 p7 p10 p11 hF q0 q1 q2 hb HA
 rw [hY.out]
 clear hY
 go_upto_region 8 with (go_at_call 8; refine (HS.out [0, 2] _ _ _ (hFY.below ((Below.refl _ Y).alloc (Nat.le_refl _) _)) (nv_two Y _ 0 2 rfl) (by decide)).mono ?_; rintro e w3 ⟨rfl, hb3⟩; have hB3 : Below Y.heap.size Y w3 := ((Below.refl _ Y).alloc (Nat.le_refl _) _).trans (hb3.mono (by simp)); clear y0 y1 y2 hFY; obtain ⟨⟨y0, y1, y2⟩, ⟨z2, z3, z6, z7, z10, z11⟩, hFY, _⟩ := HK.out w3 hB3)
 have hq0 := (HK.out w3 hB3).2.2.2.1
 go_wp2_with (first
  | (go_at_call 8; refine (HS.out [1] _ _ _ (hq0.below ((Below.refl _ w3).alloc (Nat.le_refl _) _)) (nv_one w3 _ 1 rfl) (by decide)).mono ?_; rintro e w4 ⟨rfl, hb4⟩; have hB4 : Below Y.heap.size Y w4 := hB3.trans (((Below.refl _ w3).alloc (Nat.le_refl _) _).trans (hb4.mono (by simp)) |>.mono hB3.size); clear y0 y1 y2 hFY z2 z3 z6 z7 z10 z11; obtain ⟨⟨y0, y1, y2⟩, ⟨z2, z3, z6, z7, z10, z11⟩, _, _, hq1, _⟩ := HK.out w4 hB4)
  | (go_at_call 8; refine (HS.out [0, 2] _ _ _ (hq1.below ((Below.refl _ w4).alloc (Nat.le_refl _) _)) (nv_two w4 _ 0 2 rfl) (by decide)).mono ?_; rintro e w5 ⟨rfl, hb5⟩; have hB5 : Below Y.heap.size Y w5 := hB4.trans (((Below.refl _ w4).alloc (Nat.le_refl _) _).trans (hb5.mono (by simp)) |>.mono hB4.size); clear y0 y1 y2 z2 z3 z6 z7 z10 z11; obtain ⟨⟨y0, y1, y2⟩, ⟨z2, z3, z6, z7, z10, z11⟩, _⟩ := HK.out w5 hB5))
 go_ret
 exact ⟨rfl, (HK.out w5 hB5).2.2.2.2.2⟩
end Go.Proofs.YtiinkhmgemoamaaDoor.Nf
namespace Go.Proofs.YtiinkhmgemoamaaDoor.Nf
open Go Go.RowKit Nd Nu
set_option maxRecDepth 100000

end Go.Proofs.YtiinkhmgemoamaaDoor.Nf
namespace Go.Proofs.YtiinkhmgemoamaaDoor.Nf
open Go Go.RowKit Nd Nu Ck
set_option maxRecDepth 100000

mutual
theorem wt_sm : ∀ (t : T) (d : Nat), wt d t ≤ 3000 → Sm t
 | .mk k n x s b, d, h => by
  have e : wt d (.mk k n x s b) = if 100 < d then 9000 else wtL d (1 + x.size + n.size + s.length) b := by simp only [wt]
  rw [e] at h
  split at h
  · omega
  · have hg := wtL_ge d b (1 + x.size + n.size + s.length)
    exact .mk (by omega) (by omega) (wtL_sm b d _ h)
theorem wtL_sm : ∀ (b : List T) (d acc : Nat), wtL d acc b ≤ 3000 → ∀ m ∈ b, Sm m
 | [], _, _, _, m, hm => by cases hm
 | t :: r, d, acc, h, m, hm => by
  have hge := wtL_ge d (t :: r) acc
  have e : wtL d acc (t :: r) = wtL d (acc + wt (d + 1) t) r := by simp only [wtL]; rw [if_pos (by omega)]
  rw [e] at h
  have hge2 := wtL_ge d r (acc + wt (d + 1) t)
  rcases List.mem_cons.1 hm with h1 | hm
  · rw [h1]
    exact wt_sm t (d + 1) (by omega)
  · exact wtL_sm r d _ h m hm
end
theorem sm_of {nm : ByteArray} {rs : List Rl} (h : g5 nm rs = false) : ∀ r ∈ rs, Sm r.body := fun r hr => by
 simp only [g5, g4, Bool.or_eq_false_iff, decide_eq_false_iff_not, List.any_eq_false] at h
 obtain ⟨⟨⟨h1, h2, h3⟩, h4⟩, h5⟩ := h
 have := h2 r hr
 simp only [Bool.or_eq_true, decide_eq_true_iff, not_or] at this
 exact wt_sm r.body 0 (by omega)
/-- What Build asks of rules. -/
def Bnd (rs : List Rl) : Prop := (rs.length ≤ 999 ∧ ∀ r ∈ rs, Nd.deep r.body ≤ 100000 ∧ Nd.count r.body ≤ 90000) ∧ (rulesF rs 0 rs).length ≤ 100000 ∧ ∀ r ∈ rs, Sm r.body
theorem rulP_leN (rs : List Rl) (i : Nat) (r : Rl) (h : Nd.count r.body ≤ 600) : (rulP rs i r).length ≤ 2404 := by
 have h1 := nmR_count r.body
 have h2 := noneP_len rs i (nam r.body)
 have h3 := sortP_len rs r.sort i (nam r.body)
 have h4 := lpN_le (shE rs r) r.body
 have hif : ∀ (c : Prop) [Decidable c] (x : Pr), (if c then [x] else []).length ≤ 1 := fun c _ x => by split <;> simp
 have a2 := hif (r.sort = 0 ∧ reaAt rs i i = true) ⟨4, i, r.name⟩
 have a3 := hif (reaAt (nmR rs) i i = true) ⟨5, i, r.name⟩
 have a4 := hif ((r.sort = 1 ∨ r.sort = 3) ∧ (emp rs).getD i false = true) ⟨7, i, r.name⟩
 unfold rulP
 simp only [List.length_append, List.length_replicate]
 cases fnd rs r.name with
 | none => simp only [List.length_cons, List.length_nil]; omega
 | some k =>
  have a1 := hif (k < i) ⟨1, i, r.name⟩
  dsimp only
  omega
theorem rulesF_boundN (rs : List Rl) : ∀ (l : List Rl) (k : Nat), (∀ r ∈ l, Nd.count r.body ≤ 600) → (rulesF rs k l).length ≤ l.length * 2404
 | [], _, _ => by simp [rulesF]
 | r :: l, k, h => by
  have h1 := rulP_leN rs k r (h r (by simp))
  have h2 := rulesF_boundN rs l (k + 1) (fun q hq => h q (by simp [hq]))
  simp only [rulesF, List.length_append, List.length_cons]
  omega
theorem bnd_of {rs : List Rl} (h1 : rs.length ≤ 20) (h2 : ∀ r ∈ rs, Nd.deep r.body ≤ 101 ∧ Nd.count r.body ≤ 500) (h3 : ∀ r ∈ rs, Sm r.body) : Bnd rs := by
 refine ⟨⟨by omega, fun r hr => by have := h2 r hr; omega⟩, ?_, h3⟩
 have := rulesF_boundN rs rs 0 (fun r hr => by have := h2 r hr; omega)
 omega
theorem sorted_len (rs : List Rl) : (sorted rs).length = rs.length := by
 unfold sorted toks
 simp only [List.length_append]
 induction rs with
 | nil => rfl
 | cons r rs ih =>
  simp only [List.filter_cons, List.length_cons]
  by_cases h1 : r.sort = 2
  · simp [h1]; simp at ih; omega
  · by_cases h2 : r.sort = 1 ∨ r.sort = 3
    · simp only [h1, h2, decide_false, decide_true, if_true, Bool.false_eq_true, if_false, not_true, and_false, List.length_cons]
      omega
    · simp only [h1, h2, decide_false, decide_true, if_true, Bool.false_eq_true, if_false, not_false_eq_true, and_true, List.length_cons]
      omega
theorem bnds_of {nm : ByteArray} {rs : List Rl} (h : g5 nm rs = false) : Bnd rs ∧ Bnd (sorted rs) := by
 have hsm := small_of h
 have hcs : ∀ r ∈ rs, Nd.deep r.body ≤ 101 ∧ Nd.count r.body ≤ 500 := fun r hr => ⟨(hsm.2.1 r hr).1, Nat.le_trans (count_le_sum rs r hr) hsm.2.2.1⟩
 have hS := sm_of h
 exact ⟨bnd_of hsm.1 hcs hS, bnd_of (by rw [sorted_len]; exact hsm.1) (fun r hr => hcs r ((mem_sorted rs r).2 hr)) (fun r hr => hS r ((mem_sorted rs r).2 hr))⟩
theorem filter_take {p : Rl → Bool} {rs : List Rl} {k : Nat} {r : Rl} (h : rs[k]? = some r) : (rs.take (k + 1)).filter p = (rs.take k).filter p ++ if p r then [r] else [] := by
 rw [List.take_add_one, h, List.filter_append]
 simp [List.filter_cons]
def isTo (r : Rl) : Bool := decide (r.sort = 1 ∨ r.sort = 3)
end Go.Proofs.YtiinkhmgemoamaaDoor.Nf
namespace Go.Proofs.YtiinkhmgemoamaaDoor.Nf
open Go Go.RowKit Nd Nu Ck
set_option maxRecDepth 100000

/-- What Build's error is. -/
def code (rs : List Rl) : Int := if chk rs = [] then (if (autoF runesOf rs).1.over = true then 3 else 0) else 1
/-- The places handed back. -/
def AuOk (rs : List Rl) (W : World) (pv fv : Value) (cnt : Int) : Prop :=
 ∃ n₀, n₀ ≤ W.heap.size ∧ cnt = ((toks rs).length : Int) ∧ PL n₀ W pv (autoF runesOf rs).1.made (autoF runesOf rs).1.follow (autoF runesOf rs).2.2 ∧ IL n₀ W fv (ups (autoF runesOf rs).2.1 4096)
theorem il_same {B : Nat} {W : World} {v : Value} {l : List Nat} (h : IL B W v l) : ∃ A n, v = .slice A n n := by
 obtain ⟨A, h, _⟩ := h
 exact ⟨A, _, h⟩
theorem code_any (rs : List Rl) : code rs = 0 ∨ code rs = 1 ∨ code rs = 3 := by
 unfold code
 split
 · split <;> simp
 · simp
theorem AuOk.keep {rs : List Rl} {W W' : World} {pv fv : Value} {cnt : Int} (h : AuOk rs W pv fv cnt) (hb : Below W.heap.size W W') : AuOk rs W' pv fv cnt := by
 obtain ⟨n₀, h1, h2, h3, h4⟩ := h
 exact ⟨n₀, Nat.le_trans h1 hb.size, h2, h3.below hb, h4.below hb⟩
theorem ok_auto (rs : List Rl) : Ok (autoF runesOf rs).1 :=
 (allF_ok (bodyOf rs) runesOf _ _ _ 0 ⟨rfl, fun S h => (by cases h), Nat.zero_le _⟩ (Bd.none _) (Bd.none _)).1
/-- Place k. -/
theorem place_at {n₀ : Nat} {W : World} {pv : Value} {made : List (List (Int × Int) × Nat)} {follow : List (Nat → Bool)} {last : Nat → Bool} (h : PL n₀ W pv made follow last) {k : Nat} {m : List (Int × Int) × Nat} {F : Nat → Bool} (hm : made[k]? = some m) (hF : follow[k]? = some F) :
 ∃ mb sa sn sc fa fn, pv = .slice (some ⟨mb, 0, none⟩) made.length made.length ∧ W.cell? ⟨mb, k * 4, none⟩ = some (.slice sa sn sc) ∧ W.cell? ⟨mb, k * 4 + 1, none⟩ = some (.int .i64 (m.2 : Int)) ∧ W.cell? ⟨mb, k * 4 + 2, none⟩ = some (.bool (last k)) ∧ W.cell? ⟨mb, k * 4 + 3, none⟩ = some (.slice fa fn fn) ∧
  RV W (.slice sa sn sc) m.1 ∧ NV W (.slice fa fn fn) (ups F 4096) := by
 obtain ⟨A, rfl, h2⟩ := h
 rcases h2 with h2 | ⟨mb, cur, rfl, _, hk, h4⟩
 · rw [h2] at hm; simp at hm
 · obtain ⟨sv, fv, c0, c1, c2, c3, hs, hf⟩ := h4 k m F hm hF
   obtain ⟨fa, fn, rfl⟩ := il_same hf
   have hrv := hs.rv
   obtain ⟨sa, sc, rfl, _⟩ := hrv
   exact ⟨mb, sa, _, sc, fa, fn, rfl, (hk.cell _).trans c0, (hk.cell _).trans c1, (hk.cell _).trans c2, (hk.cell _).trans c3, hs.rv, hf.nv⟩
end Go.Proofs.YtiinkhmgemoamaaDoor.Nf
namespace Go.Proofs.YtiinkhmgemoamaaDoor.Nf
open Go Go.RowKit Nd Nu Ck
attribute [local go_sem] Oper.semAt_some
set_option maxRecDepth 100000

section
variable {P : Program} {ops : Array Oper} {Q : Exit → Act → World → Prop}
end
end Go.Proofs.YtiinkhmgemoamaaDoor.Nf
