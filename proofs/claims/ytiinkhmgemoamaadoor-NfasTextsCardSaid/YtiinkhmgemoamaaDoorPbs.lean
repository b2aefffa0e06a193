/- Ends of a text: rune by rune. -/
import Derived.Test.YtiinkhmgemoamaaDoorPbr
namespace Go.Proofs.YtiinkhmgemoamaaDoor.Gl
open Go Go.RowKit Nd Nu Nf
attribute [local go_sem] Oper.semAt_some
set_option maxRecDepth 100000

theorem BoV.iter {w : World} {v : Value} {m : List Bool} (h : BoV w v m) {k : Nat} {tx : ByteArray} {p q : Nat} (hk : w.heap[k]? = some (.stringIter tx p)) : BoV (w.iterAt k tx q) v m := by
 obtain ⟨b, c, h1, h2⟩ := h
 refine ⟨b, c, h1, ?_⟩
 unfold Bk at h2 ⊢
 rw [Lib.iterAt_other _ _ _ _ _ (by rintro rfl; rw [hk] at h2; cases h2)]
 exact h2
set_option maxHeartbeats 8000000 in
theorem Ends_lit (w : World) (g0 g1 g2 g3 : Value) (qn tx : ByteArray) (n3 n4 : Value) (l : List Int) (lv inv : Value) (m : List Bool) (hv : BoV w inv m) (hl : LiV w lv l) (hml : m.length = l.length + 1) (hll : l.length ≤ 12) (ha : m.any id = true) :
 EndsAt w (.agg #[g0, g1, g2, g3]) (.agg #[.int .u8 8, .string qn, .string tx, n3, n4]) lv inv ((runesOf tx).foldl (fun o r => stT o l [(r, r)]) m) := by
 obtain ⟨M, hM⟩ : ∃ M, m.length = M := ⟨_, rfl⟩
 have HS := Lib.hid (fun (wx : World) (hb : Below w.heap.size w wx) => some_any m inv wx (hv.below hb) (by omega))
 have HT := Lib.hid (fun (wx : World) (u : Value) (mm : List Bool) (R : Int) (hb : Below w.heap.size w wx) (hu : BoV wx u mm) (h1 : mm.length = M) (sb : Nat) (hk : Bk wx sb 58 #[.int .i32 R, .int .i32 R]) => step_any mm l [(R, R)] u lv (some ⟨sb, 0, none⟩) 1 wx hu (hl.below hb) ⟨sb, 0, rfl, hk.cell 0, hk.cell 1, trivial⟩ (by omega) (by omega) (by simp))
 have HV := Lib.hid hv
 obtain ⟨b, c, rfl, _⟩ := hv
 obtain ⟨la, lc, rfl, _⟩ := hl
 rw [ha, hM] at HS
 rw [hM] at HV
 obtain ⟨OUT, hOUT⟩ : ∃ o, (runesOf tx).foldl (fun o r => stT o l [(r, r)]) m = o := ⟨_, rfl⟩
 rw [hOUT, hM]
 have hm : M ≤ 1000 := by omega
 have n1' : (M : Int) ≤ 9223372036854775807 := by omega
 have hmk := run_make_row' (P := Tryd.prog) 52 4 (.bool false) 1 Tryd.underlying52 infoBool rfl .i64 .i64 M (by omega) (by omega)
 obtain ⟨W, hW⟩ : ∃ W, ((w.alloc (.cells #[g0, g1, g2, g3] 26)).alloc (.cells #[.int .u8 8, .string qn, .string tx, n3, n4] 34)).alloc (.cells (madeCells #[.bool false] M) 4) = W := ⟨_, rfl⟩
 obtain ⟨hb, hsz, _, hkn, _⟩ := ends_start w g0 g1 g2 g3 (.int .u8 8) (.string qn) (.string tx) n3 n4 M W hW.symm
 have HW := Lib.hid hW
 have x0 := hkn.cell 0
 have x2 := hkn.cell 2
 simp at x0 x2
 clear hsz
 have HB := Lib.hid hb
 have HST := Lib.hid (show ∃ mm, BoV (W.alloc (.stringIter tx 0)) (.slice (some ⟨b, 0, none⟩) M c) mm ∧ mm.length = M ∧ (rnAt tx 0).foldl (fun o r => stT o l [(r, r)]) mm = OUT ∧ Below W.heap.size W (W.alloc (.stringIter tx 0)) ∧ (W.alloc (.stringIter tx 0)).heap[W.heap.size]? = some (.stringIter tx 0) from
  ⟨m, (HV.out.below hb).below ((Below.refl _ _).alloc (Nat.le_refl _) _), hM, by rw [rnAt_zero]; exact hOUT, (Below.refl _ _).alloc (Nat.le_refl _) _, World.alloc_heap_new W _⟩)
 clear ha hM hW hkn hOUT hml
 unfold EndsAt
 go_enter Tryd.func12, Tryd.ntmps12
 go_upto_region 2 with fail
 rw [HW.out]
 go_wp2_with (go_at_call 23; refine (HS.out _ hb).mono ?_; rintro e w' ⟨rfl, hw'⟩; rw [hw'])
 clear hb x0 x2
 go_loopw [9] (fun x wr => ∃ (p : Nat) (u : Value), p ≤ tx.size ∧ u = x ∧ Hid (∃ mm, BoV wr u mm ∧ mm.length = M ∧ (rnAt tx p).foldl (fun o r => stT o l [(r, r)]) mm = OUT ∧ Below W.heap.size W wr ∧ wr.heap[W.heap.size]? = some (.stringIter tx p))) (fun _ wr => tx.size - wr.iterPos W.heap.size)
 case atStart => exact ⟨0, _, Nat.zero_le _, rfl, HST⟩
 case round =>
  obtain ⟨p, u, hp, rfl, hJ⟩ := hrel
  obtain ⟨mm, hmv, hml, hfold, hbw, hit⟩ := hJ.out
  have hps : wr.iterPos W.heap.size = p := by simp [World.iterPos, hit]
  by_cases hlt : p < tx.size
  · have hnx := fun ty => Lib.run_next_any_at (P := Tryd.prog) wr W.heap.size tx p ty hit hlt
    obtain ⟨hst, hle, hwd⟩ := rnAt_step hlt
    generalize Utf8.decode tx p = dd at *
    obtain ⟨r, z⟩ := dd
    dsimp only at hnx hst hle hwd
    obtain ⟨R, hR⟩ : ∃ R : Int, (r : Int) = R := ⟨_, rfl⟩
    rw [hR] at hnx hst
    rw [hst] at hfold
    obtain ⟨wi, hwi⟩ : ∃ wi, wr.iterAt W.heap.size tx (p + z) = wi := ⟨_, rfl⟩
    have hui : BoV wi u mm := by rw [← hwi]; exact hmv.iter hit
    have hbi : Below W.heap.size W wi := by rw [← hwi]; exact hbw.trans (Lib.below_iterAt (Below.refl _ _) (Nat.le_refl _) tx (p + z))
    have hii : wi.heap[W.heap.size]? = some (.stringIter tx (p + z)) := by rw [← hwi]; exact Lib.iterAt_heap wr _ tx p (p + z) hit
    rw [hwi] at hnx
    obtain ⟨X, hX⟩ : ∃ X, wi.alloc (.cells #[.int .i32 R, .int .i32 R] 58) = X := ⟨_, rfl⟩
    have hiX : Below wi.heap.size wi X := by rw [← hX]; exact (Below.refl _ _).alloc (Nat.le_refl _) _
    have hkX : Bk X wi.heap.size 58 #[.int .i32 R, .int .i32 R] := by rw [← hX]; exact Bk.made _ _ _
    have hbX := hbi.trans (hiX.mono hbi.size)
    have hwX := HB.out.trans (hbX.mono HB.out.size)
    have HC := Lib.hid (HT.out X u mm R hwX (hui.below hiX) hml wi.heap.size hkX)
    have hltI : W.heap.size < wi.heap.size := (Array.getElem?_eq_some_iff.1 hii).1
    have hiX2 : X.heap[W.heap.size]? = some (.stringIter tx (p + z)) := (hiX.block _ hltI).trans hii
    have HNX := Lib.hid (And.intro hbX (And.intro hiX2 (And.intro ((tab_len _ _).trans hml : (stT mm l [(R, R)]).length = M) hfold)))
    have hltX : W.heap.size < X.heap.size := (Array.getElem?_eq_some_iff.1 hiX2).1
    have HPS := Lib.hid hps
    replace hX := Lib.hid hX
    clear hJ hmv hfold hbw hit hps hui hbi hii hiX hkX hbX hwX hltI hiX2 hst hR hwi hml
    go_wp2_with (go_at_call 26; rw [hX.out]; refine HC.out.mono ?_; rintro e w5 ⟨⟨xv, rfl, hxv⟩, hb5⟩)
    obtain ⟨q1, q2, q3, q4⟩ := HNX.out
    have hi5 : w5.heap[W.heap.size]? = some (.stringIter tx (p + z)) := (hb5.block _ hltX).trans q2
    have hp5 : w5.iterPos W.heap.size = p + z := by simp [World.iterPos, hi5]
    exact ⟨⟨p + z, _, hle, rfl, Lib.hid ⟨_, hxv, q3, q4, q1.trans (hb5.mono q1.size), hi5⟩⟩, by rw [hp5, HPS.out]; omega⟩
  · have hnx := fun ty => Lib.run_next_end_at (P := Tryd.prog) wr W.heap.size tx p ty hit hlt
    have HF := Lib.hid (show mm = OUT from by rw [← hfold, rnAt_end (by omega)]; rfl)
    have HM := Lib.hid (And.intro hmv hbw)
    clear hJ hmv hfold
    go_wp2_with fail
    go_ret
    refine ⟨⟨_, rfl, ?_⟩, HB.out.trans (HM.out.2.mono HB.out.size)⟩
    rw [← HF.out]
    exact HM.out.1
end Go.Proofs.YtiinkhmgemoamaaDoor.Gl
namespace Go.Proofs.YtiinkhmgemoamaaDoor.Gl
open Go Go.RowKit Nd Nu Nf
set_option maxRecDepth 100000

theorem Ends_any (nm : ByteArray) (o1 o2 : Int) (rs : List Rl) (gv : Value) (W0 : World) (hG : GrV W0 nm o1 o2 rs gv) (l : List Int) (lv : Value) (hl : LiV W0 lv l) (hll : l.length ≤ 12) :
 ∀ (F : Nat) (n : T) (nv : Value) (m : List Bool) (inv : Value) (w : World), Can (bodyOf rs) F n → Below W0.heap.size W0 w → Nd.At w n nv → BoV w inv m → m.length = l.length + 1 → EndsAt w gv nv lv inv (endT (bodyOf rs) runesOf l F n m)
 | 0, _, _, _, _, _, h, _, _, _, _ => h.elim
 | F + 1, n, nv, m, inv, w, hc, hw, hA, hv, hm => by
  have ih := Ends_any nm o1 o2 rs gv W0 hG l lv hl hll F
  have hlen : ∀ x, Can (bodyOf rs) F x → ∀ mm : List Bool, mm.length = m.length → (endT (bodyOf rs) runesOf l F x mm).length = m.length := fun x hx mm h => by
   rw [(end_goes (bodyOf rs) runesOf l F x hx mm (h.trans hm)).1, hm]
  have hGw := hG.below hw
  have hG2 := hG
  obtain ⟨ra, rc, rfl, _⟩ := hG2
  obtain ⟨sa, sc, ba, bc, rfl, _, _, _, hs, hb, hR, hL⟩ := hA.form
  obtain ⟨c1, c2, c3⟩ := hc
  rw [endT]
  by_cases ha : m.any id = false
  · rw [if_pos ha]
    exact Ends_zero w _ _ _ _ _ _ _ _ _ lv inv m hv (by omega) ha
  rw [if_neg ha]
  have ha : m.any id = true := by simpa using ha
  by_cases k0 : n.kind = 0
  · rw [if_pos k0, k0]
    exact Ends_alts w _ _ _ _ _ _ _ ba bc n.subs (fun x => endT (bodyOf rs) runesOf l F x m) lv inv m hv (by omega) ha hb.2 hL (fun t ht => hlen t (c1 (.inl k0) t ht) m rfl) fun t ht wx tv hb' hA' => ih t tv m inv wx (c1 (.inl k0) t ht) (hw.trans (hb'.mono hw.size)) hA' (hv.below hb') hm
  rw [if_neg k0]
  by_cases k1 : n.kind = 1
  · rw [if_pos k1, k1]
    exact Ends_row w _ _ _ _ _ _ _ ba bc n.subs (fun x o => endT (bodyOf rs) runesOf l F x o) lv inv m hv (by omega) ha hb.2 hL (fun t ht mm h => hlen t (c1 (.inr k1) t ht) mm h) fun t ht wx xv tv mm hb' hA' hx h => ih t tv mm xv wx (c1 (.inr k1) t ht) (hw.trans (hb'.mono hw.size)) hA' hx (h.trans hm)
  rw [if_neg k1]
  by_cases k234 : n.kind = 2 ∨ n.kind = 3 ∨ n.kind = 4
  · obtain ⟨x, hx, cx⟩ := c2 k234
    rw [hx] at hL ⊢
    obtain ⟨g, o, v0, v1, v2, v3, v4, rfl, d0, d1, d2, d3, d4, hAx⟩ := hL.get 0 x rfl
    have hE : ∀ (wx : World) (xv : Value) (mm : List Bool), Below w.heap.size w wx → BoV wx xv mm → mm.length = m.length → EndsAt wx (.agg #[.string nm, .int .i64 o1, .int .i64 o2, .slice ra rs.length rc]) (.agg #[v0, v1, v2, v3, v4]) lv xv (endT (bodyOf rs) runesOf l F x mm) := fun wx xv mm hb' hx' h => ih x _ mm xv wx cx (hw.trans (hb'.mono hw.size)) (Nd.At.below hb' _ hAx) hx' (h.trans hm)
    rw [Nat.zero_mul, Nat.add_zero] at d0 d1 d2 d3 d4
    by_cases q2 : n.kind = 2
    · rw [if_pos q2, q2]
      exact Ends_opt w _ _ _ _ _ _ _ g o bc v0 v1 v2 v3 v4 lv inv m _ hv (by omega) ha d0 d1 d2 d3 d4 (hlen x cx m rfl) fun wx hb' => hE wx inv m hb' (hv.below hb') rfl
    rw [if_neg q2]
    by_cases q3 : n.kind = 3
    · rw [if_pos q3, q3]
      exact Ends_star w _ _ _ _ _ _ _ g o bc v0 v1 v2 v3 v4 (endT (bodyOf rs) runesOf l F x) lv inv m hv (by omega) ha d0 d1 d2 d3 d4 (hlen x cx) hE
    rw [if_neg q3]
    have q4 : n.kind = 4 := by omega
    rw [if_pos q4, q4]
    exact Ends_plus w _ _ _ _ _ _ _ g o bc v0 v1 v2 v3 v4 (endT (bodyOf rs) runesOf l F x) lv inv m hv (by omega) ha d0 d1 d2 d3 d4 (hlen x cx) hE
  rw [if_neg (fun h => k234 (.inl h)), if_neg (fun h => k234 (.inr (.inl h))), if_neg (fun h => k234 (.inr (.inr h)))]
  by_cases k6 : n.kind = 6
  · rw [if_pos k6, k6]
    obtain ⟨b, hbo, cb⟩ := c3 k6
    rw [hbo]
    have hbo2 := hbo
    unfold bodyOf at hbo2
    cases hf : fnd rs n.name with
    | none => rw [hf] at hbo2; cases hbo2
    | some k =>
     rw [hf] at hbo2
     cases hr : rs[k]? with
     | none => simp [hr] at hbo2
     | some r =>
      simp [hr] at hbo2
      subst hbo2
      exact Ends_tok w nm o1 o2 rs _ hGw n.name _ _ _ k r hf hr lv inv m _ hv (by omega) ha fun wx bv hb' hA' => ih r.body bv m inv wx cb (hw.trans (hb'.mono hw.size)) hA' (hv.below hb') hm
  rw [if_neg k6]
  by_cases k8 : n.kind = 8
  · rw [if_pos k8, k8]
    exact Ends_lit w _ _ _ _ _ _ _ _ l lv inv m hv (hl.below hw) hm hll ha
  rw [if_neg k8]
  by_cases k9 : n.kind = 9
  · rw [if_pos k9, k9]
    exact Ends_set w _ _ _ _ _ _ n.set sa sc _ l lv inv m hv (hl.below hw) hR hs.2 hm hll ha
  rw [if_neg k9]
  exact Ends_other w _ _ _ _ n.kind _ _ _ _ lv inv m hv (by omega) ha (by omega)
end Go.Proofs.YtiinkhmgemoamaaDoor.Gl
namespace Go.Proofs.YtiinkhmgemoamaaDoor.Gl
open Go Go.RowKit Nd Nu Nf Ck
set_option maxRecDepth 100000

def flB (s : St) (p q : Nat) : Bool := match s.follow[p]? with | some G => G q | none => false
def kdN (s : St) (q : Nat) : Nat := match s.made[q]? with | some m => m.2 | none => 0
def seB (s : St) (q : Nat) (r : Int) : Bool := match s.made[q]? with | some m => inS m.1 r | none => false
/-- Where it may go on behind places. -/
def nxB (N : Nat) (s : St) (A : Nat → Bool) (q : Nat) : Bool := (List.range N).any fun p => A p && flB s p q
/-- Where it may be behind k runes, of a token. -/
def wyB (s : St) (F : Nat → Bool) (kind : Nat) (l : List Int) : Nat → Nat → Bool
 | 0, _ => false
 | k + 1, q => (if k = 0 then F q && (kdN s q == kind) else nxB s.made.length s (wyB s F kind l k) q) && seB s q (l.getD k 0)
theorem flB_iff (s : St) (p q : Nat) : flB s p q = true ↔ flS s p q := by
 unfold flB flS
 cases s.follow[p]? with
 | none => simp
 | some G => simp
theorem wy_way {S : St} {F L : Nat → Bool} {kind : Nat} {l : List Int} {R : Nat → Nat → Prop} {b e : Nat} {p : Pt} {A : Au} (h : Tok S F L kind l R b e p A) (hF : Bd S.made.length F) : ∀ (k q : Nat), k ≤ l.length → (wyB S F kind l k q = true ↔ Way A (hdS S.made l) 0 k q)
 | 0, q, _ => ⟨fun h => (by cases h), fun w => (by cases w)⟩
 | k + 1, q, hk => by
  have ih := wy_way h hF k
  have hr : l[k]? = some (l.getD k 0) := by rw [List.getD_eq_getElem?_getD, List.getElem?_eq_getElem (by omega)]; rfl
  have hse : seB S q (l.getD k 0) = true ↔ hdS S.made l q k := by
   unfold seB hdS
   rw [hr]
   cases S.made[q]? with
   | none => simp
   | some m => simp
  rw [wyB, Bool.and_eq_true, hse]
  constructor
  · rintro ⟨h1, h2⟩
    by_cases k0 : k = 0
    · subst k0
      rw [if_pos rfl, Bool.and_eq_true, beq_iff_eq] at h1
      have hq := hF q h1.1
      have hm : S.made[q]? = some S.made[q] := List.getElem?_eq_getElem hq
      have hkd := h1.2
      unfold kdN at hkd
      rw [hm] at hkd
      have hbe := (h.kind q _ hm).1 hkd
      exact .one ((h.is.fst q).2 (by rw [← h.fst q hbe.1 hbe.2]; exact h1.1)) h2
    · rw [if_neg k0] at h1
      unfold nxB at h1
      obtain ⟨p', _, h3⟩ := List.any_eq_true.1 h1
      rw [Bool.and_eq_true, flB_iff] at h3
      have w := (ih p' (by omega)).1 h3.1
      have hd := (h.is.dom p').1 (w.dom h.is.wf)
      exact .more w ((h.is.fl p' q hd.1 hd.2).2 h3.2) h2
  · intro w
    cases w with
    | one h1 h2 =>
     refine ⟨?_, h2⟩
     rw [if_pos rfl, Bool.and_eq_true, beq_iff_eq]
     have hd := (h.is.dom q).1 (h.is.wf.fst q h1)
     refine ⟨by rw [h.fst q hd.1 hd.2]; exact (h.is.fst q).1 h1, ?_⟩
     have hq : q < S.made.length := Nat.lt_of_lt_of_le hd.2 h.is.le.2
     have hm : S.made[q]? = some S.made[q] := List.getElem?_eq_getElem hq
     unfold kdN
     rw [hm]
     exact (h.kind q _ hm).2 hd
    | @more _ p' _ w h1 h2 =>
     refine ⟨?_, h2⟩
     have k0 : k ≠ 0 := by rintro rfl; cases w
     rw [if_neg k0]
     unfold nxB
     have hd := (h.is.dom p').1 (w.dom h.is.wf)
     refine List.any_eq_true.2 ⟨p', List.mem_range.2 (Nat.lt_of_lt_of_le hd.2 h.is.le.2), ?_⟩
     rw [Bool.and_eq_true, flB_iff]
     exact ⟨(ih p' (by omega)).2 w, (h.is.fl p' q hd.1 hd.2).1 h1⟩
/-- What follows a place of the token is one of it. -/
theorem wy_kind {S : St} {F L : Nat → Bool} {kind : Nat} {l : List Int} {R : Nat → Nat → Prop} {b e : Nat} {p : Pt} {A : Au} (h : Tok S F L kind l R b e p A) (hF : Bd S.made.length F) {k x y : Nat} (hk : k ≤ l.length) (hx : wyB S F kind l k x = true) (hxy : flB S x y = true) :
 y < S.made.length ∧ kdN S y = kdN S x := by
 have w := (wy_way h hF k x hk).1 hx
 have hd := (h.is.dom x).1 (w.dom h.is.wf)
 have hy := (h.is.dom y).1 (h.is.wf.fl x y (w.dom h.is.wf) ((h.is.fl x y hd.1 hd.2).2 ((flB_iff S x y).1 hxy)))
 have lx : x < S.made.length := Nat.lt_of_lt_of_le hd.2 h.is.le.2
 have ly : y < S.made.length := Nat.lt_of_lt_of_le hy.2 h.is.le.2
 refine ⟨ly, ?_⟩
 unfold kdN
 rw [List.getElem?_eq_getElem lx, List.getElem?_eq_getElem ly]
 exact ((h.kind y _ (List.getElem?_eq_getElem ly)).2 hy).trans ((h.kind x _ (List.getElem?_eq_getElem lx)).2 hd).symm
def inT (M : Nat) : List Bool := tab M fun j => decide (j = 0)
/-- What the law asks. -/
theorem law_true {rs : List Rl} (hc : chk rs = []) (hw : ∀ r ∈ rs, Whl r.body) (ho : (autoF runesOf rs).1.over = false) (l : List Int) (hl : 0 < l.length) (t : Nat) (r : Rl) (ht : (toks rs)[t]? = some r) (hF : Bd (autoF runesOf rs).1.made.length (autoF runesOf rs).2.1) (hL : Bd (autoF runesOf rs).1.made.length (autoF runesOf rs).2.2) :
 (endT (bodyOf rs) runesOf l 65537 r.body (inT (l.length + 1))).getD l.length false = (List.range (autoF runesOf rs).1.made.length).any fun q => wyB (autoF runesOf rs).1 (autoF runesOf rs).2.1 t l l.length q && (autoF runesOf rs).2.2 q := by
 obtain ⟨hcan, b, e, p, A, hT⟩ := tok_ends hc hw ho l t r ht
 have h1 := (end_goes (bodyOf rs) runesOf l 65537 r.body hcan (inT (l.length + 1)) (tab_len _ _)).2 l.length
 have h2 : (∃ i, at_ (inT (l.length + 1)) i ∧ den (bodyOf rs) runesOf l 65537 r.body i l.length) ↔ den (bodyOf rs) runesOf l 65537 r.body 0 l.length := by
  constructor
  · rintro ⟨i, h3, h4⟩
    unfold at_ inT at h3
    rw [tab_getD] at h3
    have : i = 0 := by simp at h3; exact h3.2
    subst this
    exact h4
  · intro h4
    exact ⟨0, by unfold at_ inT; rw [tab_getD]; simp, h4⟩
 have h3 := h1.trans (h2.trans (hT.way hl))
 rw [Bool.eq_iff_iff]
 refine Iff.trans h3 ?_
 rw [List.any_eq_true]
 constructor
 · rintro ⟨q, w, hq⟩
   exact ⟨q, List.mem_range.2 (hL q hq), by rw [Bool.and_eq_true]; exact ⟨(wy_way hT hF _ q (Nat.le_refl _)).2 w, hq⟩⟩
 · rintro ⟨q, _, h4⟩
   rw [Bool.and_eq_true] at h4
   exact ⟨q, (wy_way hT hF _ q (Nat.le_refl _)).1 h4.1, h4.2⟩
theorem bd_auto (rs : List Rl) : Bd (autoF runesOf rs).1.made.length (autoF runesOf rs).2.1 ∧ Bd (autoF runesOf rs).1.made.length (autoF runesOf rs).2.2 :=
 (allF_ok (bodyOf rs) runesOf _ _ _ 0 ⟨rfl, fun S h => (by cases h), Nat.zero_le _⟩ (Bd.none _) (Bd.none _)).2
theorem nx_none (N : Nat) (s : St) (q : Nat) : nxB N s (fun _ => false) q = false := by
 unfold nxB
 rw [List.any_eq_false]
 intro x _ h
 simp at h
end Go.Proofs.YtiinkhmgemoamaaDoor.Gl
