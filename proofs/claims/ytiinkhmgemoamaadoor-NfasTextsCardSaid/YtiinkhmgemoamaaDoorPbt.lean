/- NfasTexts: the walk. -/
import Derived.Test.YtiinkhmgemoamaaDoorPbs
import Derived.Test.YtiinkhmgemoamaaDoorPz
namespace Go.Proofs.YtiinkhmgemoamaaDoor.Gl
open Go Go.RowKit Nd Nu Nf Ck
attribute [local go_sem] Oper.semAt_some
set_option maxRecDepth 100000

theorem bd_none {rs : List Rl} {e : Ending} {W : World} (h : BdR rs e W) : ∃ pa pn fa fn cnt, e = .returned (.tuple #[.agg #[.slice pa pn pn, .slice fa fn fn, .int .i64 cnt], .int .i64 (code rs)]) ∧ (code rs = 0 → AuOk rs W (.slice pa pn pn) (.slice fa fn fn) cnt) ∧ (code rs ≠ 0 → pn = 0) := by
 rcases h with ⟨h1, h2⟩ | ⟨h1, h2, h3⟩ | ⟨h1, h2, n₀, pv, fv, h3, h4, h5, h6⟩
 · have hc : code rs = 1 := by unfold code; rw [if_neg h1]
   rw [hc]
   exact ⟨_, _, _, _, _, h2, fun h => by omega, fun _ => rfl⟩
 · have hc : code rs = 3 := by unfold code; rw [if_pos h1, if_pos h2]
   rw [hc]
   exact ⟨_, _, _, _, _, h3, fun h => by omega, fun _ => rfl⟩
 · have hc : code rs = 0 := by unfold code; rw [if_pos h1, if_neg (by rw [h2]; simp)]
   obtain ⟨pa, pn, rfl⟩ := pl_form h5
   obtain ⟨fa, fn, rfl⟩ := il_same h6
   rw [hc]
   exact ⟨_, _, _, _, _, h4, fun _ => ⟨n₀, h3, by rw [toks_len], h5, h6⟩, fun h => absurd rfl h⟩
theorem code_zero {rs : List Rl} (h : code rs = 0) : chk rs = [] ∧ (autoF runesOf rs).1.over = false := by
 unfold code at h
 split at h
 · split at h
   · omega
   · exact ⟨by assumption, by simp_all⟩
 · omega
set_option maxHeartbeats 4000000 in
theorem Texts_great (nm : ByteArray) (o1 o2 : Int) (rs : List Rl) (v : Value) (w : World) (hG : GrV w nm o1 o2 rs v) (hT : Tab w) (hg5 : g5 nm rs = true) (l : List Int) (lv : Value) (hl : LiV w lv l) :
 Calls Tryd.prog 4 #[v, lv] w fun e w' => e = .returned (.bool true) ∧ Below w.heap.size w w' := by
 have hGr := Lib.hid (fun o => (Great5_any nm o1 o2 rs v (w.alloc o) (hG.below ((Below.refl _ w).alloc (Nat.le_refl _) o))).mono (R' := fun e w' => e = .returned (.bool true) ∧ Below (w.alloc o).heap.size (w.alloc o) w') (by rintro e w' ⟨rfl, hb⟩; exact ⟨by rw [hg5], hb⟩))
 have htl : 0 < w.heap.size := World.block_lt_of_cell? _ _ (hT 0 (by omega))
 have HT := Lib.hid (fun wx (hb : Below w.heap.size w wx) => lives08_true wx (hT.below hb htl))
 obtain ⟨ra, rc, rfl, hnm, hrc, hR⟩ := hG
 obtain ⟨la, lc, rfl, _⟩ := hl
 clear hT htl
 generalize rs.length = RN at *
 generalize l.length = LN at *
 go_enter Tryd.func4, Tryd.ntmps4
 go_wp2_with (first
  | (go_at_call 5; refine (hGr.out _).mono ?_; rintro e w1 ⟨rfl, hb1⟩; have hB1 : Below w.heap.size w w1 := ((Below.refl _ w).alloc (Nat.le_refl _) _).trans (hb1.mono (by simp)))
  | (go_at_call 6; refine (HT.out _ hB1).mono ?_; rintro e w2 ⟨rfl, hb2⟩))
 go_ret
 exact ⟨rfl, hB1.trans (hb2.mono hB1.size)⟩
set_option maxHeartbeats 4000000 in
theorem Texts_long (nm : ByteArray) (o1 o2 : Int) (rs : List Rl) (v : Value) (w : World) (hG : GrV w nm o1 o2 rs v) (hT : Tab w) (hg5 : g5 nm rs = false) (la : Option Addr) (LN lc : Nat) (hll : 12 < LN) :
 Calls Tryd.prog 4 #[v, .slice la LN lc] w fun e w' => e = .returned (.bool true) ∧ Below w.heap.size w w' := by
 have hGr := Lib.hid (fun o => (Great5_any nm o1 o2 rs v (w.alloc o) (hG.below ((Below.refl _ w).alloc (Nat.le_refl _) o))).mono (R' := fun e w' => e = .returned (.bool false) ∧ Below (w.alloc o).heap.size (w.alloc o) w') (by rintro e w' ⟨rfl, hb⟩; exact ⟨by rw [hg5], hb⟩))
 have htl : 0 < w.heap.size := World.block_lt_of_cell? _ _ (hT 0 (by omega))
 have HT := Lib.hid (fun wx (hb : Below w.heap.size w wx) => lives08_true wx (hT.below hb htl))
 obtain ⟨ra, rc, rfl, hnm, hrc, hR⟩ := hG
 clear hT htl
 generalize rs.length = RN at *
 have l12 : decide (12 < LN) = true := by rw [decide_eq_true_iff]; exact hll
 have l13 : (12 : Int) < (LN : Int) := by omega
 go_enter Tryd.func4, Tryd.ntmps4
 go_wp2_with (first
  | (go_at_call 5; refine (hGr.out _).mono ?_; rintro e w1 ⟨rfl, hb1⟩; have hB1 : Below w.heap.size w w1 := ((Below.refl _ w).alloc (Nat.le_refl _) _).trans (hb1.mono (by simp)))
  | (go_at_call 6; refine (HT.out _ hB1).mono ?_; rintro e w2 ⟨rfl, hb2⟩))
 go_ret
 exact ⟨rfl, hB1.trans (hb2.mono hB1.size)⟩
theorem tok_at {rs : List Rl} {i : Nat} {r : Rl} (h : rs[i]? = some r) (hr : isTo r = true) : (toks rs)[((rs.take i).filter isTo).length]? = some r := by
 have h1 : toks rs = (rs.take i).filter isTo ++ r :: (rs.drop (i + 1)).filter isTo := by
  show rs.filter isTo = _
  conv => lhs; rw [← List.take_append_drop i rs, Nd.drop_some h]
  rw [List.filter_append, List.filter_cons, if_pos hr]
 rw [h1, List.getElem?_append_right (Nat.le_refl _), Nat.sub_self]
 rfl
/-- The next row and the one that stands: apart. -/
structure S2 (nb ab N B : Nat) (Y : World) (X A : Nat → Bool) (w : World) : Prop where
 ne : nb ≠ ab
 le : B ≤ nb
 nx : Bk w nb 4 (bools (tab N X))
 on : Bk w ab 4 (bools (tab N A))
 below : Below B Y w
section
variable {nb ab N B : Nat} {Y w : World} {X A : Nat → Bool}
theorem S2.congr {X' : Nat → Bool} (h : S2 nb ab N B Y X A w) (hx : ∀ j, j < N → X' j = X j) : S2 nb ab N B Y X' A w :=
 ⟨h.ne, h.le, by rw [tab_congr hx]; exact h.nx, h.on, h.below⟩
theorem S2.at_ (h : S2 nb ab N B Y X A w) {j : Nat} (hj : j < N) : w.cell? ⟨ab, j, none⟩ = some (.bool (A j)) := by
 rw [h.on.cell, bools_get (by rw [tab_len]; exact hj), tab_getD]
 simp [hj]
theorem S2.next_ (h : S2 nb ab N B Y X A w) {j : Nat} (hj : j < N) : w.cell? ⟨nb, j, none⟩ = some (.bool (X j)) := by
 rw [h.nx.cell, bools_get (by rw [tab_len]; exact hj), tab_getD]
 simp [hj]
theorem S2.free_ (h : S2 nb ab N B Y X A w) (j : Nat) : w.frozen? ⟨nb, j, none⟩ = false := h.nx.free j
theorem S2.drewN (h : S2 nb ab N B Y X A w) (n : Nat) : S2 nb ab N B Y X A (w.drewN n) := by
 refine ⟨h.ne, h.le, ?_, ?_, below_drewN h.below n⟩
 · have := h.nx; unfold Bk at this ⊢; rw [World.heap_drewN]; exact this
 · have := h.on; unfold Bk at this ⊢; rw [World.heap_drewN]; exact this
theorem S2.drew (h : S2 nb ab N B Y X A w) : S2 nb ab N B Y X A w.drew := ⟨h.ne, h.le, h.nx, h.on, h.below.drew⟩
theorem S2.set_ {X' : Nat → Bool} (h : S2 nb ab N B Y X A w) {j : Nat} (_ : j < N) (v : Bool) (hx : ∀ i, i < N → X' i = if i = j then v else X i) : S2 nb ab N B Y X' A (w.setCell ⟨nb, j, none⟩ (.bool v)) := by
 refine ⟨h.ne, h.le, ?_, h.on.other _ _ (by simpa using h.ne.symm), h.below.setCell h.le _⟩
 have := h.nx.set j (.bool v)
 rw [bools_set, tab_set] at this
 rw [tab_congr hx]
 exact this
end
theorem take_mem {L : List Nat} {g x : Nat} (h : L[g]? = some x) (j : Nat) : decide (j ∈ L.take (g + 1)) = (decide (j ∈ L.take g) || decide (j = x)) := by
 rw [List.take_add_one, h, Bool.eq_iff_iff]
 simp
/-- The next row, as far as g first places. -/
def zzB (N : Nat) (s : St) (F : Nat → Bool) (K : Nat) (l : List Int) (k g : Nat) (j : Nat) : Bool := if k = 0 then decide (j ∈ (ups F 4096).take g) && (kdN s j == K) else nxB N s (wyB s F K l k) j
def zeB (N : Nat) (s : St) (F : Nat → Bool) (K : Nat) (l : List Int) (k : Nat) (j : Nat) : Bool := if k = 0 then F j && (kdN s j == K) else nxB N s (wyB s F K l k) j
theorem zz_start (N : Nat) (s : St) (F : Nat → Bool) (K : Nat) (l : List Int) (k j : Nat) : zzB N s F K l k 0 j = (List.range N).any fun x => wyB s F K l k x && flB s x j := by
 unfold zzB
 by_cases h : k = 0
 · subst h
   rw [if_pos rfl]
   have := nx_none N s j
   unfold nxB at this
   simp only [wyB]
   rw [this]
   simp
 · rw [if_neg h]
   rfl
theorem zz_next (N : Nat) (s : St) (F : Nat → Bool) (K : Nat) (l : List Int) {g x : Nat} (h : (ups F 4096)[g]? = some x) (j : Nat) : zzB N s F K l 0 (g + 1) j = if j = x then (kdN s x == K) else zzB N s F K l 0 g j := by
 unfold zzB
 rw [if_pos rfl, if_pos rfl, take_mem h]
 by_cases hj : j = x
 · subst hj; simp
 · simp [hj]
theorem zz_end {N : Nat} (s : St) {F : Nat → Bool} (K : Nat) (l : List Int) {k g : Nat} (h : ¬ k = 0 ∨ (ups F 4096).length ≤ g) (hN : N ≤ 4096) {j : Nat} (hj : j < N) : zzB N s F K l k g j = zeB N s F K l k j := by
 unfold zzB zeB
 by_cases h0 : k = 0
 · rw [if_pos h0, if_pos h0, List.take_of_length_le (h.resolve_left (fun h => h h0))]
   congr 1
   rw [Bool.eq_iff_iff, decide_eq_true_iff, ups_mem]
   exact ⟨fun h => h.2, fun h => ⟨by omega, h⟩⟩
 · rw [if_neg h0, if_neg h0]
theorem wy_next {s : St} {N : Nat} (hN : s.made.length = N) (F : Nat → Bool) (K : Nat) {l : List Int} {k : Nat} {r : Int} (hr : l[k]? = some r) (j : Nat) : wyB s F K l (k + 1) j = (zeB N s F K l k j && seB s j r) := by
 rw [wyB, hN, show l.getD k 0 = r from by rw [List.getD_eq_getElem?_getD, hr]; rfl]
 rfl
set_option maxHeartbeats 16000000 in
theorem Texts_small (nm : ByteArray) (o1 o2 : Int) (rs : List Rl) (v : Value) (w : World) (hG : GrV w nm o1 o2 rs v) (hT : Tab w) (hg5 : g5 nm rs = false) (l : List Int) (lv : Value) (hl : LiV w lv l) (hll : l.length ≤ 12) :
 Calls Tryd.prog 4 #[v, lv] w fun e w' => e = .returned (.bool true) ∧ Below w.heap.size w w' := by
 have hGr := Lib.hid (fun o => (Great5_any nm o1 o2 rs v (w.alloc o) (hG.below ((Below.refl _ w).alloc (Nat.le_refl _) o))).mono (R' := fun e w' => e = .returned (.bool false) ∧ Below (w.alloc o).heap.size (w.alloc o) w') (by rintro e w' ⟨rfl, hb⟩; exact ⟨by rw [hg5], hb⟩))
 have htl : 0 < w.heap.size := World.block_lt_of_cell? _ _ (hT 0 (by omega))
 have HL := Lib.hid (fun wx (hb : Below w.heap.size w wx) => lives08_true wx (hT.below hb htl))
 obtain ⟨hb1, hb2⟩ := bnds_of hg5
 have hlen := (small_of hg5).1
 have HB1 := Lib.hid (fun wx (hb : Below w.heap.size w wx) => Build_any nm o1 o2 rs v wx (hG.below hb) hb1.1 hb1.2.1 hb1.2.2 (hT.below hb htl))
 have HEn := Lib.hid (fun (W0 : World) (hb : Below w.heap.size w W0) => Ends_any nm o1 o2 rs v W0 (hG.below hb) l lv (hl.below hb) hll)
 have HWh := Lib.hid (fun (r : Rl) (hr : r ∈ rs) (nv : Value) (wx : World) (hA : Nd.At wx r.body nv) => Whole_any 101 r.body nv wx ((small_of hg5).2.1 r hr).1 hA)
 have HD := Lib.hid (fun (r : Rl) (hr : r ∈ rs) => ((small_of hg5).2.1 r hr).1)
 obtain ⟨ra, rc, rfl, hnm, hrc, hR⟩ := hG
 obtain ⟨la, lc, rfl, hLi⟩ := hl
 obtain ⟨RN, hRN⟩ : ∃ k, rs.length = k := ⟨_, rfl⟩
 have HRN := Lib.hid hRN
 obtain ⟨LN, hLN⟩ : ∃ k, l.length = k := ⟨_, rfl⟩
 have HLN := Lib.hid hLN
 rw [hRN] at hrc hlen hGr HB1 HEn ⊢
 rw [hLN] at HEn hll ⊢
 have n1 : (RN : Int) ≤ 9223372036854775807 := by omega
 have l12 : decide (12 < LN) = false := by rw [decide_eq_false_iff_not]; omega
 have l13 : ¬ (12 : Int) < (LN : Int) := by omega
 have HR := Lib.hid hR
 have HLi := Lib.hid hLi
 clear hb1 hb2 hR hRN hT hg5 hLi hLN
 go_enter Tryd.func4, Tryd.ntmps4
 go_wp2_with (go_at_call 5; refine (hGr.out _).mono ?_; rintro e w1 ⟨rfl, hb1⟩; have hB1 : Below w.heap.size w w1 := ((Below.refl _ w).alloc (Nat.le_refl _) _).trans (hb1.mono (by simp)); have gk := (Bk.made w 26 #[.string nm, .int .i64 o1, .int .i64 o2, .slice ra RN rc]).below hb1 (by simp))
 have HG1 := Lib.hid (show ∀ wr, Below w1.heap.size w1 wr → (wr.cell? ⟨w.heap.size, 0, none⟩ = some (.string nm) ∧ wr.cell? ⟨w.heap.size, 1, none⟩ = some (.int .i64 o1) ∧ wr.cell? ⟨w.heap.size, 2, none⟩ = some (.int .i64 o2) ∧ wr.cell? ⟨w.heap.size, 3, none⟩ = some (.slice ra RN rc)) ∧ Below w.heap.size w wr from fun wr hb => by
  have g := gk.below hb gk.lt
  exact ⟨⟨g.cell 0, g.cell 1, g.cell 2, g.cell 3⟩, hB1.trans (hb.mono hB1.size)⟩)
 clear hB1 gk hb1
 go_loopw [5] (fun i wr => ∃ p : Nat, p ≤ RN ∧ i = .int .i64 p ∧ Hid (Below w1.heap.size w1 wr ∧ ∀ j, j < p → ∀ r, rs[j]? = some r → Whl r.body)) (fun i _ => RN - (intOf i).toNat)
 case atStart => exact ⟨0, Nat.zero_le _, rfl, Lib.hid ⟨Below.refl _ _, fun j hj => absurd hj (Nat.not_lt_zero _)⟩⟩
 case round =>
  obtain ⟨p, hp, rfl, hJ⟩ := hrel
  obtain ⟨hb, hall⟩ := hJ.out
  obtain ⟨⟨g0, g1, g2, g3⟩, hW⟩ := HG1.out wr hb
  by_cases hlt : p < RN
  · have p1 : (p : Int) < (RN : Int) := by omega
    have p2 : (0 : Int) ≤ (p : Int) := by omega
    have dp : decide (p < RN) = true := by rw [decide_eq_true_iff]; exact hlt
    obtain ⟨r, hr⟩ : ∃ r, rs[p]? = some r := ⟨_, List.getElem?_eq_getElem (by rw [HRN.out]; exact hlt)⟩
    obtain ⟨b, o, rfl, hC⟩ := HR.out p r hr
    obtain ⟨v0, v1, v2, v3, v4, a0, a1, a2, a3, a4, a5, a6, a7, a8, a9, hA, hso, hns⟩ := hC.below hW
    have hWc := Lib.hid (HWh.out r (List.mem_of_getElem? hr) _ wr hA)
    obtain ⟨z, hz⟩ : ∃ z, whB 101 r.body = z := ⟨_, rfl⟩
    rw [hz] at hWc
    replace hb := Lib.hid hb
    replace hW := Lib.hid hW
    have hdd := HD.out r (List.mem_of_getElem? hr)
    clear hA hC hJ
    cases z with
    | true =>
     have HN := Lib.hid (show ∀ j, j < p + 1 → ∀ r, rs[j]? = some r → Whl r.body from fun j hj q hq => by
      by_cases e : j = p
      · subst e
        obtain rfl := Option.some.inj (hr.symm.trans hq)
        exact whl_of 101 _ hdd hz
      · exact hall j (by omega) q hq)
     clear hall hz hdd hr
     go_wp2_with (go_at_call 10; refine hWc.out.mono ?_; rintro e w5 ⟨rfl, hb5⟩)
     exact ⟨⟨p + 1, by omega, by go_num, Lib.hid ⟨hb.out.trans (hb5.mono hb.out.size), HN.out⟩⟩, by simp [intOf]; omega⟩
    | false =>
     clear hall hz hdd hr
     go_wp2_with (first
      | (go_at_call 10; refine hWc.out.mono ?_; rintro e w5 ⟨rfl, hb5⟩; have hB5 := hW.out.trans (hb5.mono hW.out.size))
      | (go_at_call 6; refine (HL.out _ hB5).mono ?_; rintro e w6 ⟨rfl, hb6⟩))
     go_ret
     exact ⟨rfl, hB5.trans (hb6.mono hB5.size)⟩
  · obtain rfl : p = RN := by omega
    have dp : decide (p < p) = false := by simp
    have HAll := Lib.hid (show ∀ r ∈ rs, Whl r.body from fun r hr => by
     obtain ⟨j, hj⟩ := List.mem_iff_getElem?.1 hr
     exact hall j (by have := (List.getElem?_eq_some_iff.1 hj).1; rw [HRN.out] at this; exact this) r hj)
    have HBd := Lib.hid (HB1.out wr hW)
    clear hall HB1 HWh HD hJ dp
    go_upto_region 9 with (go_at_call 7; refine HBd.out.mono ?_; rintro e W3 ⟨hBd, hb3⟩; obtain ⟨pa, pn, fa, FN, cnt, rfl, hAu, hze⟩ := bd_none hBd)
    obtain ⟨Y, hY⟩ : ∃ Y, W3.alloc (.cells #[.slice pa pn pn, .slice fa FN FN, .int .i64 cnt] 42) = Y := ⟨_, rfl⟩
    have hW3 : Below W3.heap.size W3 Y := by rw [← hY]; exact (Below.refl _ _).alloc (Nat.le_refl _) _
    have hZ3 : Below wr.heap.size wr Y := hb3.trans (hW3.mono hb3.size)
    have hk3 : Bk Y W3.heap.size 42 #[.slice pa pn pn, .slice fa FN FN, .int .i64 cnt] := by rw [← hY]; exact Bk.made _ _ _
    have hB3 : Below w1.heap.size w1 Y := hb.trans (hZ3.mono hb.size)
    obtain ⟨⟨g0, g1, g2, g3⟩, hWY⟩ := HG1.out Y hB3
    have hAY := fun hc => (hAu hc).keep hW3
    obtain ⟨b1, hb1⟩ : ∃ b, W3.heap.size = b := ⟨_, rfl⟩
    rw [hb1] at hk3
    have HY := Lib.hid hY
    rw [hY, hb1]
    obtain ⟨y0, y1, y2⟩ : Y.cell? ⟨b1, 0, none⟩ = some (.slice pa pn pn) ∧ Y.cell? ⟨b1, 1, none⟩ = some (.slice fa FN FN) ∧ Y.cell? ⟨b1, 2, none⟩ = some (.int .i64 cnt) := ⟨hk3.cell 0, hk3.cell 1, hk3.cell 2⟩
    have HK := Lib.hid (show ∀ wr, Below Y.heap.size Y wr → (wr.cell? ⟨b1, 0, none⟩ = some (.slice pa pn pn) ∧ wr.cell? ⟨b1, 1, none⟩ = some (.slice fa FN FN) ∧ wr.cell? ⟨b1, 2, none⟩ = some (.int .i64 cnt)) ∧ (wr.cell? ⟨w.heap.size, 0, none⟩ = some (.string nm) ∧ wr.cell? ⟨w.heap.size, 1, none⟩ = some (.int .i64 o1) ∧ wr.cell? ⟨w.heap.size, 2, none⟩ = some (.int .i64 o2) ∧ wr.cell? ⟨w.heap.size, 3, none⟩ = some (.slice ra p rc)) ∧ Below w.heap.size w wr from fun wr hb => by
     have a := hk3.below hb hk3.lt
     have h := HG1.out wr (hB3.trans (hb.mono hB3.size))
     exact ⟨⟨a.cell 0, a.cell 1, a.cell 2⟩, h.1, h.2⟩)
    have HWY := Lib.hid hWY
    clear hBd hAu hY hW3 hZ3 hk3 hB3 hb3 hb1 hb HBd HY hWY
    by_cases hc0 : code rs ≠ 0
    · obtain rfl := hze hc0
      have hcc := code_any rs
      obtain ⟨C, hC⟩ : ∃ c, code rs = c := ⟨_, rfl⟩
      rw [hC] at hcc hc0 ⊢
      clear hC hze hAY
      have hc2 : C = 1 ∨ C = 3 := by omega
      clear hcc hc0
      rcases hc2 with rfl | rfl <;>
      · go_wp2_with (go_at_call 6; refine (HL.out _ HWY.out).mono ?_; rintro e w5 ⟨rfl, hb5⟩)
        go_ret
        exact ⟨rfl, HWY.out.trans (hb5.mono HWY.out.size)⟩
    replace hc0 := Decidable.not_not.1 hc0
    rw [hc0]
    obtain ⟨n₀, hn0, hcnt, hP1, hF1⟩ := hAY hc0
    obtain ⟨hchk, hover⟩ := code_zero hc0
    have hcl := (ok_auto rs).cap
    have hfl := (ok_auto rs).len
    obtain ⟨N, hN⟩ : ∃ N, (autoF runesOf rs).1.made.length = N := ⟨_, rfl⟩
    obtain rfl : pn = N := by
     obtain ⟨A, e, _⟩ := hP1
     injection e with _ e
     rw [e, hN]
    have nq : (pn : Int) ≤ 4096 := by omega
    have nq4 : decide (pn ≤ 4096) = true := by rw [decide_eq_true_iff]; omega
    by_cases h300 : 300 < pn
    · have d300 : decide (300 < pn) = true := by rw [decide_eq_true_iff]; exact h300
      have e300 : (300 : Int) < (pn : Int) := by omega
      clear hP1 hF1 hAY hze hcl hfl hN
      go_wp2_with (go_at_call 6; refine (HL.out _ HWY.out).mono ?_; rintro e w5 ⟨rfl, hb5⟩)
      go_ret
      exact ⟨rfl, HWY.out.trans (hb5.mono HWY.out.size)⟩
    have d300 : decide (300 < pn) = false := by rw [decide_eq_false_iff_not]; exact h300
    have e300 : ¬ (300 : Int) < (pn : Int) := by omega
    obtain ⟨hF, hLa⟩ := bd_auto rs
    have hWh := HAll.out
    have HTk := Lib.hid (fun (t : Nat) (r : Rl) (ht : (toks rs)[t]? = some r) => tok_ends hchk hWh hover l t r ht)
    have HLw := Lib.hid (fun (t : Nat) (r : Rl) (ht : (toks rs)[t]? = some r) (h0 : 0 < l.length) => law_true hchk hWh hover l h0 t r ht hF hLa)
    have hFn := hF1.nv
    have hFl : (ups (autoF runesOf rs).2.1 4096).length = FN := by obtain ⟨A, c, e, _⟩ := hFn; injection e with _ e; exact e.symm
    have hfN : FN ≤ 4096 := by rw [← hFl]; exact ups_len _ _
    clear hWh hover hchk HAll hAY hze hF1 hn0 hc0
    generalize (autoF runesOf rs).1 = Sx at *
    generalize (autoF runesOf rs).2.1 = Fx at *
    generalize (autoF runesOf rs).2.2 = Lx at *
    have hNh := Lib.hid hN
    have HPL := Lib.hid (fun (q : Nat) (hq : q < pn) => show ∃ m G, Sx.made[q]? = some m ∧ Sx.follow[q]? = some G from ⟨_, _, List.getElem?_eq_getElem (by omega), List.getElem?_eq_getElem (by omega)⟩)
    have HP1 := Lib.hid hP1
    have HFN := Lib.hid (And.intro hFn hFl)
    have HBF := Lib.hid (show ∀ q, Fx q = true → q < pn from fun q h => by rw [← hN]; exact hF q h)
    have nf : (FN : Int) ≤ 9223372036854775807 := by omega
    have np : (pn : Int) ≤ 9223372036854775807 := by omega
    have hmk := run_make_row' (P := Tryd.prog) 52 4 (.bool false) 1 Tryd.underlying52 infoBool rfl .i64 .i64 pn (by omega) (by omega)
    have hmk2 : ∀ wz, (Instr.makeSlice 52 (.int .i64 ((LN : Int) + 1)) (.int .i64 ((LN : Int) + 1))).run Tryd.prog wz = .ok (.slice (some ⟨wz.heap.size, 0, none⟩) (LN + 1) (LN + 1)) (wz.alloc (.cells (madeCells #[.bool false] (LN + 1)) 4)) := fun wz => run_make_row' (P := Tryd.prog) 52 4 (.bool false) 1 Tryd.underlying52 infoBool rfl .i64 .i64 (LN + 1) (by omega) (by omega) wz
    have hD0 : Bk (Y.alloc (.cells (madeCells #[.bool false] pn) 4)) Y.heap.size 4 (bools (tab pn fun _ => false)) := by
     rw [← tab_none, ← made_bools]; exact Bk.made _ _ _
    have HD0 := Lib.hid (And.intro hD0 (show Below Y.heap.size Y (Y.alloc (.cells (madeCells #[.bool false] pn) 4)) from (Below.refl _ _).alloc (Nat.le_refl _) _))
    clear hP1 hFn hFl hF hN hcl hfl hD0 g0 g1 g2 g3
    go_upto_region 14 with fail
    go_loopw [10, 8, 9] (fun i a c wr => ∃ (q ab K : Nat) (f : Nat → Bool), q ≤ p ∧ i = .int .i64 q ∧ a = .slice (some ⟨ab, 0, none⟩) pn pn ∧ c = .int .i64 K ∧ Hid (K = ((rs.take q).filter isTo).length ∧ Y.heap.size ≤ ab ∧ Bk wr ab 4 (bools (tab pn f)) ∧ Below Y.heap.size Y wr)) (fun i _ _ _ => p - (intOf i).toNat)
    case atStart => exact ⟨0, _, 0, _, Nat.zero_le _, rfl, rfl, rfl, Lib.hid ⟨by simp, Nat.le_refl _, HD0.out.1, HD0.out.2⟩⟩
    case round =>
     obtain ⟨q, ab, K, f, hq, rfl, rfl, rfl, hJ⟩ := hrel
     obtain ⟨hK, hab, hAt, hb⟩ := hJ.out
     obtain ⟨⟨x0, x1, x2⟩, ⟨g0, g1, g2, g3⟩, hW⟩ := HK.out _ hb
     have hKl : K ≤ p := by rw [hK]; have := List.length_filter_le isTo (rs.take q); have := List.length_take_le q rs; omega
     have nk : (K : Int) + 1 ≤ 9223372036854775807 := by omega
     by_cases hlt : q < p
     · have p1 : (q : Int) < (p : Int) := by omega
       have p2 : (0 : Int) ≤ (q : Int) := by omega
       have dp : decide (q < p) = true := by rw [decide_eq_true_iff]; exact hlt
       obtain ⟨r, hr⟩ : ∃ r, rs[q]? = some r := ⟨_, List.getElem?_eq_getElem (by rw [HRN.out]; exact hlt)⟩
       obtain ⟨rb, ro, rfl, hC⟩ := HR.out q r hr
       have hto := filter_take (p := isTo) hr
       obtain ⟨v0, v1, v2, v3, v4, a0, a1, a2, a3, a4, a5, a6, a7, a8, a9, hA, hso, hns⟩ := hC.below hW
       obtain ⟨S, hS'⟩ : ∃ s, r.sort = s := ⟨_, rfl⟩
       rw [hS'] at a1
       have HCr := Lib.hid hC
       clear hC hJ a0 hA hso hns a7 a8 a9
       by_cases hs13 : ¬ (S = 1 ∨ S = 3)
       · have q1 : (S != 1) = true := by simpa using fun h => hs13 (.inl h)
         have q3 : (S != 3) = true := by simpa using fun h => hs13 (.inr h)
         have z1 : ¬ S = 1 := fun h => hs13 (.inl h)
         have z3 : ¬ S = 3 := fun h => hs13 (.inr h)
         have HN := Lib.hid (show K = ((rs.take (q + 1)).filter isTo).length from by rw [hto, hK, if_neg (by simp [isTo, hS', z1, z3]), List.append_nil])
         have HQ := Lib.hid (And.intro hab (And.intro hAt hb))
         clear hto hAt hb hK hr hab hs13 hW
         go_wp2_with fail
         exact ⟨⟨q + 1, ab, K, f, by omega, by go_num, rfl, rfl, Lib.hid ⟨HN.out, HQ.out⟩⟩, by simp [intOf]; omega⟩
       replace hs13 := Decidable.not_not.1 hs13
       have HN := Lib.hid (show K + 1 = ((rs.take (q + 1)).filter isTo).length from by rw [hto, hK, if_pos (by simp [isTo, hS']; exact hs13), List.length_append]; rfl)
       have htk : (toks rs)[K]? = some r := by rw [hK]; exact tok_at hr (by simp [isTo, hS']; exact hs13)
       have HTK := Lib.hid htk
       have HQ := Lib.hid (And.intro hab (And.intro hAt hb))
       replace hW := Lib.hid hW
       have HKq := Lib.hid hK
       clear hto hK htk hr hAt hb hab
       go_upto_region 16 with fail
       refine wp_cutN (fun a a' w' => (∃ z0 z1 z2 z3 z4 z5 z6 z7 z8 z9 z10 z11 z12 z13 z14 : Value, a' = ((((((((((((((((a.put (some 76) z0).put (some 77) z1).put (some 78) z2).put (some 79) z3).put (some 80) z4).put (some 81) z5).put (some 82) z6).put (some 83) z7).put (some 84) z8).put (some 85) z9).put (some 86) z10).put (some 87) z11).put (some 88) z12).put (some 89) z13).put (some 90) z14).put (some 91) (.bool false))) ∧ w' = wr) ?first ?next
       case first =>
        rcases hs13 with rfl | rfl
        · go_wp2_with fail
        · go_wp2_with fail
       case next =>
        rintro a' w' ⟨⟨z0, z1, z2, z3, z4, z5, z6, z7, z8, z9, z10, z11, z12, z13, z14, rfl⟩, hww⟩
        replace hww := hww.symm
        subst hww
        simp only [zqN]
        go_wp2_with fail
        go_loopw [11] (fun i wr => ∃ c : Nat, c ≤ pn ∧ i = .int .i64 c ∧ Hid (Bk wr ab 4 (bools (tab pn fun j => decide (c ≤ j) && f j)) ∧ Below Y.heap.size Y wr)) (fun i _ => pn - (intOf i).toNat)
        case atStart => exact ⟨0, Nat.zero_le _, rfl, Lib.hid ⟨by simpa using HQ.out.2.1, HQ.out.2.2⟩⟩
        case round =>
         obtain ⟨c, hc, rfl, hJ⟩ := hrel
         by_cases hlc : c < pn
         · have c1 : (c : Int) < (pn : Int) := by omega
           have c2 : (0 : Int) ≤ (c : Int) := by omega
           have dc : decide (c < pn) = true := by rw [decide_eq_true_iff]; exact hlc
           have y0 := hJ.out.1.cell c
           rw [bools_get (by rw [tab_len]; exact hlc)] at y0
           have y1 := hJ.out.1.free c
           have HF := Lib.hid (show Bk (wr.setCell ⟨ab, c, none⟩ (.bool false)) ab 4 (bools (tab pn fun j => decide (c + 1 ≤ j) && f j)) ∧ Below Y.heap.size Y (wr.setCell ⟨ab, c, none⟩ (.bool false)) from by
            refine ⟨?_, hJ.out.2.setCell HQ.out.1 _⟩
            have := hJ.out.1.set c (.bool false)
            rw [bools_set, tab_set] at this
            rw [show (tab pn fun j => decide (c + 1 ≤ j) && f j) = tab pn fun j => if j = c then false else decide (c ≤ j) && f j from tab_congr fun j _ => by
             by_cases hj : j = c
             · subst hj; rw [if_pos rfl, show decide (j + 1 ≤ j) = false from by rw [decide_eq_false_iff_not]; omega]; rfl
             · rw [if_neg hj, show decide (c + 1 ≤ j) = decide (c ≤ j) from decide_eq_decide.2 (by omega)]]
            exact this)
           generalize (tab pn fun j => decide (c ≤ j) && f j).getD c false = old at y0
           clear hJ
           go_wp2_with fail
           exact ⟨⟨c + 1, by omega, by go_num, HF⟩, by simp [intOf]; omega⟩
         · obtain rfl : pn = c := by omega
           have dc : decide (pn < pn) = false := by simp
           have HS := Lib.hid (show Bk wr ab 4 (bools (tab pn (wyB Sx Fx K l 0))) ∧ Below Y.heap.size Y wr from ⟨by
            rw [show tab pn (wyB Sx Fx K l 0) = tab pn fun j => decide (pn ≤ j) && f j from tab_congr fun j hj => by simp [wyB]; omega]
            exact hJ.out.1, hJ.out.2⟩)
           have HAB := Lib.hid HQ.out.1
           clear hJ HQ
           go_wp2_with fail
           go_loopw [13, 8, 12] (fun i a b wr => ∃ (k ab : Nat) (lb : Bool), k ≤ LN ∧ i = .int .i64 k ∧ a = .slice (some ⟨ab, 0, none⟩) pn pn ∧ b = .bool lb ∧ Hid (Y.heap.size ≤ ab ∧ Bk wr ab 4 (bools (tab pn (wyB Sx Fx K l k))) ∧ (0 < k → lb = (List.range pn).any fun x => wyB Sx Fx K l k x && Lx x) ∧ Below Y.heap.size Y wr)) (fun i _ _ _ => LN - (intOf i).toNat)
           case atStart => exact ⟨0, ab, false, Nat.zero_le _, rfl, rfl, rfl, Lib.hid ⟨HAB.out, HS.out.1, fun h => absurd h (Nat.not_lt_zero _), HS.out.2⟩⟩
           case round =>
            obtain ⟨k, kb, lb, hk, rfl, rfl, rfl, hJ⟩ := hrel
            rename World => wk
            by_cases hlk : k < LN
            · as_aux_lemma =>
              have k1 : (k : Int) < (LN : Int) := by omega
              have k2 : (0 : Int) ≤ (k : Int) := by omega
              have dk : decide (k < LN) = true := by rw [decide_eq_true_iff]; exact hlk
              obtain ⟨hkb, hAt, _, hb⟩ := hJ.out
              obtain ⟨rn, hrn⟩ : ∃ x, l[k]? = some x := ⟨_, List.getElem?_eq_getElem (by rw [HLN.out]; exact hlk)⟩
              obtain ⟨lb0, lo0, rfl, hlc⟩ := HLi.out k rn hrn
              have hX0 : S2 wk.heap.size kb pn Y.heap.size Y (fun j => (List.range 0).any fun x => wyB Sx Fx K l k x && flB Sx x j) (wyB Sx Fx K l k) (wk.alloc (.cells (madeCells #[.bool false] pn) 4)) := by
               refine ⟨Nat.ne_of_gt hAt.lt, hb.size, ?_, hAt.alloc _, hb.alloc hb.size _⟩
               rw [show (tab pn fun j => (List.range 0).any fun x => wyB Sx Fx K l k x && flB Sx x j) = List.replicate pn false from by rw [tab_none]; exact tab_congr fun j _ => rfl, ← made_bools]
               exact Bk.made _ _ _
              have HX0 := Lib.hid hX0
              have HRN2 := Lib.hid (And.intro hrn hlc)
              have HKB := Lib.hid hkb
              clear hJ hX0 hAt hb hrn hlc hkb
              go_wp2_with fail
              go_loopw [15] (fun i wz => ∃ c : Nat, c ≤ pn ∧ i = .int .i64 c ∧ Hid (S2 wk.heap.size kb pn Y.heap.size Y (fun j => (List.range c).any fun x => wyB Sx Fx K l k x && flB Sx x j) (wyB Sx Fx K l k) wz)) (fun i _ => pn - (intOf i).toNat)
              case atStart => exact ⟨0, Nat.zero_le _, rfl, HX0⟩
              case round =>
               obtain ⟨c, hc, rfl, hJ⟩ := hrel
               by_cases hlc : c < pn
               · as_aux_lemma =>
                 have c1 : (c : Int) < (pn : Int) := by omega
                 have c2 : (0 : Int) ≤ (c : Int) := by omega
                 have dc : decide (c < pn) = true := by rw [decide_eq_true_iff]; exact hlc
                 obtain ⟨m, G, hm, hG⟩ := HPL.out c hlc
                 obtain ⟨mb, sa, sn, sc, ia, in_, e1, d0, d1, d2, d3, hRV, hNV⟩ := place_at HP1.out hm hG
                 have e2 : pa = some ⟨mb, 0, none⟩ := by injection e1
                 clear e1
                 subst e2
                 have hin : (ups G 4096).length = in_ := by obtain ⟨A, c', e, _⟩ := hNV; injection e with _ e; exact e.symm
                 have hfl : ∀ j, flB Sx c j = G j := fun j => by unfold flB; rw [hG]
                 have hkd : kdN Sx c = m.2 := by unfold kdN; rw [hm]
                 have HC := Lib.hid (show ∀ wz, Below Y.heap.size Y wz → wz.cell? ⟨mb, c * 4 + 1, none⟩ = some (.int .i64 (m.2 : Int)) ∧ wz.cell? ⟨mb, c * 4 + 3, none⟩ = some (.slice ia in_ in_) from fun wz h => ⟨Nd.cell_keeps h d1, Nd.cell_keeps h d3⟩)
                 have x3 := (HC.out _ hJ.out.below).2
                 obtain ⟨⟨x0, x1, x2⟩, _, _⟩ := HK.out _ hJ.out.below
                 have ya := hJ.out.at_ hlc
                 obtain ⟨ac, hac⟩ : ∃ b, wyB Sx Fx K l k c = b := ⟨_, rfl⟩
                 rw [hac] at ya
                 have HNV := Lib.hid hNV
                 clear d0 d1 d2 d3 hRV hNV
                 cases ac with
                 | false =>
                  have HN := Lib.hid (hJ.out.congr (X' := fun j => (List.range (c + 1)).any fun x => wyB Sx Fx K l k x && flB Sx x j) fun j _ => by rw [List.range_succ, List.any_append]; simp [hac])
                  clear hJ hac hm hG hfl hkd HNV HC hin
                  go_wp2_with fail
                  exact ⟨⟨c + 1, by omega, by go_num, HN⟩, by simp [intOf]; omega⟩
                 | true =>
                  have hi : in_ ≤ 4096 := by rw [← hin]; exact ups_len _ _
                  have ni : (in_ : Int) ≤ 9223372036854775807 := by omega
                  have HU := Lib.hid hin
                  have HFL := Lib.hid hfl
                  have HKD := Lib.hid hkd
                  have HAC := Lib.hid hac
                  have HS0 := Lib.hid (hJ.out.congr (X' := fun j => ((List.range c).any fun x => wyB Sx Fx K l k x && flB Sx x j) || decide (j ∈ (ups G 4096).take 0)) fun j _ => by simp)
                  clear hJ hac hm hG hfl hkd hin
                  go_wp2_with fail
                  clear x0 x1 x2 x3 ya
                  go_loopw [17] (fun i wz => ∃ g : Nat, g ≤ in_ ∧ i = .int .i64 g ∧ Hid (S2 wk.heap.size kb pn Y.heap.size Y (fun j => ((List.range c).any fun x => wyB Sx Fx K l k x && flB Sx x j) || decide (j ∈ (ups G 4096).take g)) (wyB Sx Fx K l k) wz)) (fun i _ => in_ - (intOf i).toNat)
                  case atStart => exact ⟨0, Nat.zero_le _, rfl, HS0⟩
                  case round =>
                   obtain ⟨g, hg, rfl, hJ⟩ := hrel
                   by_cases hlg : g < in_
                   · as_aux_lemma =>
                     have q1 : (g : Int) < (in_ : Int) := by omega
                     have q2 : (0 : Int) ≤ (g : Int) := by omega
                     have dg : decide (g < in_) = true := by rw [decide_eq_true_iff]; exact hlg
                     obtain ⟨x, hx⟩ : ∃ x, (ups G 4096)[g]? = some x := ⟨_, List.getElem?_eq_getElem (by rw [HU.out]; exact hlg)⟩
                     have hxm := ups_mem.1 (List.mem_of_getElem? hx)
                     obtain ⟨b, e, pt, A, hTok⟩ := (HTk.out K r HTK.out).2
                     obtain ⟨hxp, hxk⟩ := wy_kind hTok (show Bd Sx.made.length Fx from fun y hy => by rw [hNh.out]; exact HBF.out y hy) (k := k) (by rw [HLN.out]; omega) HAC.out (show flB Sx c x = true by rw [HFL.out]; exact hxm.2)
                     rw [hNh.out] at hxp
                     obtain ⟨m', G', hm', hG'⟩ := HPL.out x hxp
                     obtain ⟨mb', sa', sn', sc', ia', in', e1', d0', d1', d2', d3', _, _⟩ := place_at HP1.out hm' hG'
                     have e2 : mb = mb' := by injection e1' with e _ _; injection e with e; injection e
                     subst e2
                     have hk2 : m'.2 = m.2 := by
                      have : kdN Sx x = m'.2 := by unfold kdN; rw [hm']
                      rw [← this, hxk, HKD.out]
                     rw [hk2] at d1'
                     obtain ⟨A', cA, eA, hfc⟩ := HNV.out
                     have eA' : ia = A' := by injection eA
                     clear eA
                     subst eA'
                     obtain ⟨fb, rfl, y3⟩ := hfc g x hx
                     have hbz := hJ.out.below
                     have x3 := Nd.cell_keeps hbz y3
                     have x4 := Nd.cell_keeps hbz d1'
                     have x5 := (HC.out _ hbz).1
                     obtain ⟨⟨x0, _, _⟩, _, _⟩ := HK.out _ hbz
                     have z0 := hJ.out.next_ hxp
                     have z1 := hJ.out.free_ x
                     have HN := Lib.hid (show ∀ n, S2 wk.heap.size kb pn Y.heap.size Y (fun j => ((List.range c).any fun x => wyB Sx Fx K l k x && flB Sx x j) || decide (j ∈ (ups G 4096).take (g + 1))) (wyB Sx Fx K l k) ((wr.drewN n).setCell ⟨wk.heap.size, x, none⟩ (.bool true)) from fun n => (hJ.out.drewN n).set_ hxp true fun j _ => by
                      rw [take_mem hx]
                      by_cases hj : j = x
                      · subst hj; simp
                      · simp [hj])
                     have xp1 : (x : Int) < (pn : Int) := by omega
                     have xp2 : (0 : Int) ≤ (x : Int) := by omega
                     have dx : decide (pn ≤ x) = false := by rw [decide_eq_false_iff_not]; omega
                     have mm : ((m.2 : Int) != (m.2 : Int)) = false := by simp
                     generalize m.2 = mk at *
                     generalize (((List.range c).any fun y => wyB Sx Fx K l k y && flB Sx y x) || decide (x ∈ (ups G 4096).take g)) = old at z0
                     clear hJ hx hxm hTok hxk hm' hG' hk2 d0' d1' d2' d3' hfc y3 hbz e1'
                     go_wp2_with fail
                     go_quiet (fail)
                     simp only [show decide ((x : Int) < 0) = false from by rw [decide_eq_false_iff_not]; omega]
                     go_wp2_with fail
                     exact ⟨⟨g + 1, by omega, by go_num, Lib.hid (HN.out nq)⟩, by simp [intOf]; omega⟩
                   · as_aux_lemma =>
                     obtain rfl : in_ = g := by omega
                     have dg : decide (in_ < in_) = false := by simp
                     have HN := Lib.hid (hJ.out.congr (X' := fun j => (List.range (c + 1)).any fun x => wyB Sx Fx K l k x && flB Sx x j) fun j hj => by
                      rw [List.range_succ, List.any_append, List.take_of_length_le (by rw [HU.out]; exact Nat.le_refl _)]
                      congr 1
                      simp only [List.any_cons, List.any_nil, Bool.or_false, HAC.out, Bool.true_and, HFL.out]
                      rw [Bool.eq_iff_iff, decide_eq_true_iff, ups_mem]
                      exact ⟨fun h => ⟨by omega, h⟩, fun h => h.2⟩)
                     clear hJ
                     go_wp2_with fail
                     exact ⟨⟨c + 1, by omega, by go_num, HN⟩, by simp [intOf]; omega⟩
               · obtain rfl : pn = c := by omega
                 have dc : decide (pn < pn) = false := by simp
                 have HS1 := Lib.hid (hJ.out.congr (X' := zzB pn Sx Fx K l k 0) fun j _ => zz_start pn Sx Fx K l k j)
                 clear hJ
                 go_wp2_with fail
                 go_loopw [18] (fun i wz => ∃ g : Nat, g ≤ FN ∧ i = .int .i64 g ∧ Hid (S2 wk.heap.size kb pn Y.heap.size Y (zzB pn Sx Fx K l k g) (wyB Sx Fx K l k) wz)) (fun i _ => FN - (intOf i).toNat)
                 case atStart => exact ⟨0, Nat.zero_le _, rfl, HS1⟩
                 case round =>
                  obtain ⟨g, hg, rfl, hJ⟩ := hrel
                  obtain ⟨⟨x0, x1, x2⟩, _, _⟩ := HK.out _ hJ.out.below
                  go_upto_region 39 with fail
                  refine wp_cutN (fun a a' w' => (∃ z0 z1 z2 z3 z4 z5 z6 z7 : Value, a' = (((((((((a.put (some 171) z0).put (some 172) z1).put (some 173) z2).put (some 174) z3).put (some 175) z4).put (some 176) z5).put (some 177) z6).put (some 178) z7).put (some 179) (.bool (decide (g < FN) && decide (k = 0))))) ∧ w' = wr) ?first ?next
                  case first => as_aux_lemma =>
                   by_cases hlg : g < FN
                   · have dg : decide (g < FN) = true := by rw [decide_eq_true_iff]; exact hlg
                     have q1 : (g : Int) < (FN : Int) := by omega
                     by_cases k0 : k = 0
                     · have dk0 : decide (k = 0) = true := by rw [decide_eq_true_iff]; exact k0
                       have ek0 : ((k : Int) == 0) = true := by simpa using k0
                       have ek1 : (k : Int) = 0 := by omega
                       clear k0
                       go_wp2_with fail
                     · have dk0 : decide (k = 0) = false := by rw [decide_eq_false_iff_not]; exact k0
                       have ek0 : ((k : Int) == 0) = false := by simpa using k0
                       have ek1 : ¬ (k : Int) = 0 := by omega
                       clear k0
                       go_wp2_with fail
                   · have dg : decide (g < FN) = false := by rw [decide_eq_false_iff_not]; exact hlg
                     have q1 : ¬ (g : Int) < (FN : Int) := by omega
                     go_wp2_with fail
                  case next =>
                   rintro a' w' ⟨⟨z0, z1, z2, z3, z4, z5, z6, z7, rfl⟩, hww⟩
                   replace hww := hww.symm
                   subst hww
                   simp only [zqN]
                   by_cases hgo : g < FN ∧ k = 0
                   · as_aux_lemma =>
                     obtain ⟨hlg, rfl⟩ := hgo
                     rw [show (decide (g < FN) && decide (0 = 0)) = true from by simp [hlg]]
                     have q1 : (g : Int) < (FN : Int) := by omega
                     have q2 : (0 : Int) ≤ (g : Int) := by omega
                     obtain ⟨x, hx⟩ : ∃ x, (ups Fx 4096)[g]? = some x := ⟨_, List.getElem?_eq_getElem (by rw [HFN.out.2]; exact hlg)⟩
                     have hxp := HBF.out x (ups_mem.1 (List.mem_of_getElem? hx)).2
                     obtain ⟨A', cA, eA, hfc⟩ := HFN.out.1
                     have eA' : fa = A' := by injection eA
                     clear eA
                     subst eA'
                     obtain ⟨fb, rfl, y3⟩ := hfc g x hx
                     obtain ⟨m, G, hm, hG⟩ := HPL.out x hxp
                     obtain ⟨mb, sa, sn, sc, ia, in_, e1, d0, d1, d2, d3, _, _⟩ := place_at HP1.out hm hG
                     have e2 : pa = some ⟨mb, 0, none⟩ := by injection e1
                     clear e1
                     subst e2
                     have hkd : kdN Sx x = m.2 := by unfold kdN; rw [hm]
                     have hbz := hJ.out.below
                     have w3 := Nd.cell_keeps hbz y3
                     have w5 := Nd.cell_keeps hbz d1
                     have w6 := hJ.out.next_ hxp
                     have w7 := hJ.out.free_ x
                     have HN := Lib.hid (show S2 wk.heap.size kb pn Y.heap.size Y (zzB pn Sx Fx K l 0 (g + 1)) (wyB Sx Fx K l 0) (wr.drew.setCell ⟨wk.heap.size, x, none⟩ (.bool (m.2 == K))) from hJ.out.drew.set_ hxp _ fun j _ => by rw [zz_next pn Sx Fx K l hx, hkd])
                     have hkk : ((m.2 : Int) == (K : Int)) = (m.2 == K) := by
                      rw [Bool.eq_iff_iff, beq_iff_eq, beq_iff_eq]; omega
                     have xp1 : (x : Int) < (pn : Int) := by omega
                     have xp2 : (0 : Int) ≤ (x : Int) := by omega
                     have dx : decide (pn ≤ x) = false := by rw [decide_eq_false_iff_not]; omega
                     generalize m.2 = mk at *
                     generalize zzB pn Sx Fx K l 0 g x = old at w6
                     clear hJ hx hm hG d0 d1 d2 d3 hfc y3 hbz hkd
                     go_upto_region 41 with fail
                     refine wp_cutN (fun a a' w' => (∃ z0 z1 z2 z3 z4 z5 z6 z7 z8 z9 z10 z11 z12 z13 z14 : Value, a' = ((((((((((((((((a.put (some 182) z0).put (some 183) z1).put (some 184) z2).put (some 185) z3).put (some 186) z4).put (some 187) z5).put (some 188) z6).put (some 189) z7).put (some 190) z8).put (some 191) z9).put (some 192) z10).put (some 193) z11).put (some 194) z12).put (some 195) z13).put (some 196) z14).put (some 197) (.bool false))) ∧ w' = wr) ?first ?next
                     case first => as_aux_lemma =>
                      obtain ⟨xi, hxi⟩ : ∃ xi : Int, (x : Int) = xi := ⟨_, rfl⟩
                      rw [hxi] at w3 xp1 xp2
                      have dneg : decide (xi < 0) = false := by rw [decide_eq_false_iff_not]; omega
                      have dxi : decide ((pn : Int) ≤ xi) = false := by rw [decide_eq_false_iff_not]; omega
                      have nneg : ¬ xi < 0 := by omega
                      have nxi : ¬ (pn : Int) ≤ xi := by omega
                      clear hxi w5 w6 w7 hkk
                      go_wp2_with fail
                     case next =>
                     rintro a' w' ⟨⟨z0, z1, z2, z3, z4, z5, z6, z7, z8, z9, z10, z11, z12, z13, z14, rfl⟩, hww⟩
                     replace hww := hww.symm
                     subst hww
                     simp only [zqN]
                     go_upto_region 43 with fail
                     have w0 : wr.drew.cell? ⟨b1, 0, none⟩ = some (.slice (some ⟨mb, 0, none⟩) pn pn) := x0
                     have w1 : wr.drew.cell? ⟨b1, 1, none⟩ = some (.slice (some ⟨fb, 0, none⟩) FN FN) := x1
                     refine wp_cutN (fun a a' w' => (∃ z0 z1 z2 z3 z4 z5 z6 z7 z8 z9 z10 z11 z12 z13 z14 z15 z16 z17 z18 : Value, a' = (((((((((((((((((((a.put (some 198) z0).put (some 199) z1).put (some 200) z2).put (some 201) z3).put (some 202) z4).put (some 203) z5).put (some 204) z6).put (some 205) z7).put (some 206) z8).put (some 207) z9).put (some 208) z10).put (some 209) z11).put (some 210) z12).put (some 211) z13).put (some 212) z14).put (some 213) z15).put (some 214) z16).put (some 215) z17).put (some 216) z18)) ∧ w' = wr.drew.setCell ⟨wk.heap.size, x, none⟩ (.bool (mk == K))) ?first ?next
                     case first => as_aux_lemma =>
                      refine region_B (S := fun w' : World => w'.cell? ⟨b1, 0, none⟩ = some (.slice (some ⟨mb, 0, none⟩) pn pn) ∧ w'.cell? ⟨b1, 1, none⟩ = some (.slice (some ⟨fb, 0, none⟩) FN FN) ∧ w'.cell? ⟨fb, g, none⟩ = some (.int .i64 (x : Int)) ∧ w'.cell? ⟨mb, x * 4 + 1, none⟩ = some (.int .i64 (mk : Int)) ∧ w'.cell? ⟨wk.heap.size, x, none⟩ = some (.bool old) ∧ w'.frozen? ⟨wk.heap.size, x, none⟩ = false) 19 (by kernel_rfl) ⟨w0, w1, w3, w5, w6, w7⟩ (fun hSS => ?_)
                      show wpAnyB _ _ _ _ _ 19 20 #[false, false, false, false, false, false, false, false, false, false, false, false, false, false, false, false, false, false, false, false] _ _
                      refine zqB 0 (some 198) _ (zqF 20 1) (by rw [List.getElem?_toArray]; rfl) rfl (by kernel_rfl) rfl (fun _ _ _ h => h) (Or.inl ⟨by rfl, fun w' hSw => by (try dsimp only at hSw); go_simp; try with_reducible rfl⟩) hSS ?_
                      simp only [zqN]
                      refine zqB 1 (some 199) _ (zqF 20 2) (by rw [List.getElem?_toArray]; rfl) rfl (by kernel_rfl) rfl (fun _ _ _ h => h) (Or.inl ⟨by rfl, fun w' hSw => by (try dsimp only at hSw); go_simp; try with_reducible rfl⟩) hSS ?_
                      simp only [zqN]
                      refine zqB 2 (some 200) _ (zqF 20 3) (by rw [List.getElem?_toArray]; rfl) rfl (by kernel_rfl) rfl (fun _ _ _ h => h) (Or.inl ⟨by rfl, fun w' hSw => by (try dsimp only at hSw); go_simp; try with_reducible rfl⟩) hSS ?_
                      simp only [zqN]
                      refine zqB 3 (some 201) _ (zqF 20 4) (by rw [List.getElem?_toArray]; rfl) rfl (by kernel_rfl) rfl (fun _ _ _ h => h) (Or.inl ⟨by rfl, fun w' hSw => by (try dsimp only at hSw); go_simp; try with_reducible rfl⟩) hSS ?_
                      simp only [zqN]
                      refine zqB 4 (some 202) _ (zqF 20 5) (by rw [List.getElem?_toArray]; rfl) rfl (by kernel_rfl) rfl (fun _ _ _ h => h) (Or.inl ⟨by rfl, fun w' hSw => by (try dsimp only at hSw); go_simp; try with_reducible rfl⟩) hSS ?_
                      simp only [zqN]
                      refine zqB 5 (some 203) _ (zqF 20 6) (by rw [List.getElem?_toArray]; rfl) rfl (by kernel_rfl) rfl (fun _ _ _ h => h) (Or.inl ⟨by rfl, fun w' hSw => by (try dsimp only at hSw); go_simp; try with_reducible rfl⟩) hSS ?_
                      simp only [zqN]
                      refine zqB 6 (some 204) _ (zqF 20 7) (by rw [List.getElem?_toArray]; rfl) rfl (by kernel_rfl) rfl (fun _ _ _ h => h) (Or.inl ⟨by rfl, fun w' hSw => by (try dsimp only at hSw); go_simp; try with_reducible rfl⟩) hSS ?_
                      simp only [zqN]
                      refine zqB 7 (some 205) _ (zqF 20 8) (by rw [List.getElem?_toArray]; rfl) rfl (by kernel_rfl) rfl (fun _ _ _ h => h) (Or.inl ⟨by rfl, fun w' hSw => by (try dsimp only at hSw); go_simp; try with_reducible rfl⟩) hSS ?_
                      simp only [zqN]
                      refine zqB 8 (some 206) _ (zqF 20 9) (by rw [List.getElem?_toArray]; rfl) rfl (by kernel_rfl) rfl (fun _ _ _ h => h) (Or.inl ⟨by rfl, fun w' hSw => by (try dsimp only at hSw); go_simp; try with_reducible rfl⟩) hSS ?_
                      simp only [zqN]
                      refine zqB 9 (some 207) _ (zqF 20 10) (by rw [List.getElem?_toArray]; rfl) rfl (by kernel_rfl) rfl (fun _ _ _ h => h) (Or.inl ⟨by rfl, fun w' hSw => by (try dsimp only at hSw); go_simp; try with_reducible rfl⟩) hSS ?_
                      simp only [zqN]
                      refine zqB 10 (some 208) _ (zqF 20 11) (by rw [List.getElem?_toArray]; rfl) rfl (by kernel_rfl) rfl (fun _ _ _ h => h) (Or.inl ⟨by rfl, fun w' hSw => by (try dsimp only at hSw); go_simp; try with_reducible rfl⟩) hSS ?_
                      simp only [zqN]
                      refine zqB 11 (some 209) _ (zqF 20 12) (by rw [List.getElem?_toArray]; rfl) rfl (by kernel_rfl) rfl (fun _ _ _ h => h) (Or.inl ⟨by rfl, fun w' hSw => by (try dsimp only at hSw); go_simp; try with_reducible rfl⟩) hSS ?_
                      simp only [zqN]
                      refine zqB 12 (some 210) _ (zqF 20 13) (by rw [List.getElem?_toArray]; rfl) rfl (by kernel_rfl) rfl (fun _ _ _ h => h) (Or.inl ⟨by rfl, fun w' hSw => by (try dsimp only at hSw); go_simp; try with_reducible rfl⟩) hSS ?_
                      simp only [zqN]
                      refine zqB 13 (some 211) _ (zqF 20 14) (by rw [List.getElem?_toArray]; rfl) rfl (by kernel_rfl) rfl (fun _ _ _ h => h) (Or.inl ⟨by rfl, fun w' hSw => by (try dsimp only at hSw); go_simp; try with_reducible rfl⟩) hSS ?_
                      simp only [zqN]
                      refine zqB 14 (some 212) _ (zqF 20 15) (by rw [List.getElem?_toArray]; rfl) rfl (by kernel_rfl) rfl (fun _ _ _ h => h) (Or.inl ⟨by rfl, fun w' hSw => by (try dsimp only at hSw); go_simp; try with_reducible rfl⟩) hSS ?_
                      simp only [zqN]
                      refine zqB 15 (some 213) _ (zqF 20 16) (by rw [List.getElem?_toArray]; rfl) rfl (by kernel_rfl) rfl (fun _ _ _ h => h) (Or.inl ⟨by rfl, fun w' hSw => by (try dsimp only at hSw); go_simp; try with_reducible rfl⟩) hSS ?_
                      simp only [zqN]
                      refine zqB 16 (some 214) _ (zqF 20 17) (by rw [List.getElem?_toArray]; rfl) rfl (by kernel_rfl) rfl (fun _ _ _ h => h) (Or.inl ⟨by rfl, fun w' hSw => by (try dsimp only at hSw); go_simp; try with_reducible rfl⟩) hSS ?_
                      simp only [zqN]
                      refine zqB 17 (some 215) _ (zqF 20 18) (by rw [List.getElem?_toArray]; rfl) rfl (by kernel_rfl) rfl (fun _ _ _ h => h) (Or.inl ⟨by rfl, fun w' hSw => by (try dsimp only at hSw); go_simp; try with_reducible rfl⟩) hSS ?_
                      simp only [zqN]
                      refine zqB 18 (some 216) _ (zqF 20 19) (by rw [List.getElem?_toArray]; rfl) rfl (by kernel_rfl) rfl (fun _ _ _ h => h) (Or.inl ⟨by rfl, fun w' hSw => by (try dsimp only at hSw); go_simp; try with_reducible rfl⟩) hSS ?_
                      simp only [zqN]
                      refine comeB (i := 19) (l' := #[true, true, true, true, true, true, true, true, true, true, true, true, true, true, true, true, true, true, true, true]) (by rw [List.getElem?_toArray]; rfl) (by kernel_rfl) rfl (fun K' hK => ?_)
                      go_simp
                      refine hK.out _ _ (Or.inl rfl) (fun _ => ?_)
                      try simp only [zqN]
                      refine wpAnyB_done (by kernel_rfl) ?_ _
                      exact ⟨⟨_, _, _, _, _, _, _, _, _, _, _, _, _, _, _, _, _, _, _, rfl⟩, by first | rfl | (rw [hkk]; rfl)⟩
                     case next =>
                      rintro a' w' ⟨⟨z0, z1, z2, z3, z4, z5, z6, z7, z8, z9, z10, z11, z12, z13, z14, z15, z16, z17, z18, rfl⟩, hww⟩
                      simp only [zqN]
                      go_wp2_with fail
                      exact ⟨⟨g + 1, by omega, by go_num, Lib.hid (by first | exact HN.out | (rw [hww]; exact HN.out))⟩, by simp [intOf]; omega⟩
                   · have hgk : (decide (g < FN) && decide (k = 0)) = false := by
                      rw [Bool.eq_false_iff]
                      intro h
                      rw [Bool.and_eq_true, decide_eq_true_iff, decide_eq_true_iff] at h
                      exact hgo h
                     rw [hgk]
                     have HS2 := Lib.hid (show S2 wk.heap.size kb pn Y.heap.size Y (fun j => zeB pn Sx Fx K l k j && (decide (0 ≤ j) || seB Sx j rn)) (wyB Sx Fx K l k) wr from hJ.out.congr fun j hj => by
                      rw [zz_end Sx K l (by rw [HFN.out.2]; omega) (by omega) hj]; simp)
                     clear hJ hgo hgk x0 x1 x2
                     go_wp2_with fail
                     go_loopw [19, 12] (fun i b wz => ∃ (c : Nat) (lb : Bool), c ≤ pn ∧ i = .int .i64 c ∧ b = .bool lb ∧ Hid (S2 wk.heap.size kb pn Y.heap.size Y (fun j => zeB pn Sx Fx K l k j && (decide (c ≤ j) || seB Sx j rn)) (wyB Sx Fx K l k) wz ∧ lb = (List.range c).any fun x => (zeB pn Sx Fx K l k x && seB Sx x rn) && Lx x)) (fun i _ _ => pn - (intOf i).toNat)
                     case atStart => exact ⟨0, false, Nat.zero_le _, rfl, rfl, Lib.hid ⟨HS2.out, rfl⟩⟩
                     case round =>
                      obtain ⟨c, lx, hc, rfl, rfl, hJ⟩ := hrel
                      obtain ⟨hS, hlb⟩ := hJ.out
                      by_cases hlc : c < pn
                      · as_aux_lemma =>
                        have c1 : (c : Int) < (pn : Int) := by omega
                        have c2 : (0 : Int) ≤ (c : Int) := by omega
                        have dc : decide (c < pn) = true := by rw [decide_eq_true_iff]; exact hlc
                        obtain ⟨m, G, hm, hG⟩ := HPL.out c hlc
                        obtain ⟨mb, sa, sn, sc, ia, in_, e1, d0, d1, d2, d3, hRV, hNV⟩ := place_at HP1.out hm hG
                        have e2 : pa = some ⟨mb, 0, none⟩ := by injection e1
                        clear e1
                        subst e2
                        have hse : seB Sx c rn = inS m.1 rn := by unfold seB; rw [hm]
                        obtain ⟨⟨x0, _, _⟩, _, hWw⟩ := HK.out _ hS.below
                        have hWw2 := hWw.drew
                        have w1 := Nd.cell_keeps hS.below.drew d0
                        have w2 := Nd.cell_keeps hWw.drew HRN2.out.2
                        obtain ⟨sa', sc', e3, hsl, hRg⟩ := hRV
                        obtain ⟨sv, hsv⟩ : ∃ b, seB Sx c rn = b := ⟨_, rfl⟩
                        have HH := Lib.hid (show Calls Tryd.prog 11 #[.slice sa sn sc, .int .i32 rn] wr.drew (fun e w' => e = .returned (.bool sv) ∧ w' = wr.drew) from by
                         rw [e3, ← hsv, hse]
                         exact holds_any m.1 sa' sc' rn wr.drew (hRg.below hS.below.drew) hsl)
                        obtain ⟨zc, hzc⟩ : ∃ b, zeB pn Sx Fx K l k c = b := ⟨_, rfl⟩
                        have w3 : wr.drew.cell? ⟨wk.heap.size, c, none⟩ = some (.bool zc) := by
                         rw [hS.drew.next_ hlc]; simp [hzc]
                        have w4 := hS.drew.free_ c
                        have HN := Lib.hid (show S2 wk.heap.size kb pn Y.heap.size Y (fun j => zeB pn Sx Fx K l k j && (decide (c + 1 ≤ j) || seB Sx j rn)) (wyB Sx Fx K l k) (wr.drew.setCell ⟨wk.heap.size, c, none⟩ (.bool (zc && sv))) from hS.drew.set_ hlc _ fun j _ => by
                         by_cases hj : j = c
                         · subst hj
                           rw [if_pos rfl, hzc, hsv, show decide (j + 1 ≤ j) = false from by rw [decide_eq_false_iff_not]; omega]
                           rfl
                         · rw [if_neg hj, show decide (c + 1 ≤ j) = decide (c ≤ j) from decide_eq_decide.2 (by omega)])
                        have HD2 := Lib.hid d2
                        have HZ := Lib.hid (And.intro hzc hsv)
                        have HLB := Lib.hid hlb
                        have w0 : wr.drew.cell? ⟨b1, 0, none⟩ = some (.slice (some ⟨mb, 0, none⟩) pn pn) := x0
                        clear hJ hS hlb hm hG d0 d1 d2 d3 hNV hse e3 hsl hRg hzc hsv hWw hWw2
                        go_upto_region 47 with fail
                        refine wp_cutN (fun a a' w' => (∃ z0 z1 z2 z3 z4 z5 z6 z7 z8 z9 z10 z11 z12 z13 z14 z15 z16 z17 z18 z19 : Value, a' = ((((((((((((((((((((a.put (some 223) z0).put (some 224) z1).put (some 225) z2).put (some 226) z3).put (some 227) z4).put (some 228) z5).put (some 229) z6).put (some 230) z7).put (some 231) z8).put (some 232) z9).put (some 233) z10).put (some 234) z11).put (some 235) z12).put (some 236) z13).put (some 237) z14).put (some 238) z15).put (some 239) z16).put (some 240) z17).put (some 241) z18).put (some 242) z19)) ∧ w' = wr.drew.setCell ⟨wk.heap.size, c, none⟩ (.bool (zc && sv))) ?first ?next
                        case first => as_aux_lemma =>
                         cases zc with
                         | false =>
                          refine region_B (S := fun w' : World => w'.cell? ⟨b1, 0, none⟩ = some (.slice (some ⟨mb, 0, none⟩) pn pn) ∧ w'.cell? ⟨mb, c * 4, none⟩ = some (.slice sa sn sc) ∧ w'.cell? ⟨lb0, lo0 + k, none⟩ = some (.int .i32 rn) ∧ w'.cell? ⟨wk.heap.size, c, none⟩ = some (.bool false) ∧ w'.frozen? ⟨wk.heap.size, c, none⟩ = false) 20 (by kernel_rfl) ⟨w0, w1, w2, w3, w4⟩ (fun hSS => ?_)
                          show wpAnyB _ _ _ _ _ 20 21 #[false, false, false, false, false, false, false, false, false, false, false, false, false, false, false, false, false, false, false, false, false] _ _
                          refine zqB 0 (some 223) _ (zqF 21 1) (by rw [List.getElem?_toArray]; rfl) rfl (by kernel_rfl) rfl (fun _ _ _ h => h) (Or.inl ⟨by rfl, fun w' hSw => by (try dsimp only at hSw); go_simp; try with_reducible rfl⟩) hSS ?_
                          simp only [zqN]
                          refine zqB 1 (some 224) _ (zqF 21 2) (by rw [List.getElem?_toArray]; rfl) rfl (by kernel_rfl) rfl (fun _ _ _ h => h) (Or.inl ⟨by rfl, fun w' hSw => by (try dsimp only at hSw); go_simp; try with_reducible rfl⟩) hSS ?_
                          simp only [zqN]
                          refine zqB 2 (some 225) _ (zqF 21 3) (by rw [List.getElem?_toArray]; rfl) rfl (by kernel_rfl) rfl (fun _ _ _ h => h) (Or.inl ⟨by rfl, fun w' hSw => by (try dsimp only at hSw); go_simp; try with_reducible rfl⟩) hSS ?_
                          simp only [zqN]
                          refine zqB 3 (some 226) _ (zqF 21 4) (by rw [List.getElem?_toArray]; rfl) rfl (by kernel_rfl) rfl (fun _ _ _ h => h) (Or.inl ⟨by rfl, fun w' hSw => by (try dsimp only at hSw); go_simp; try with_reducible rfl⟩) hSS ?_
                          simp only [zqN]
                          refine zqB 4 (some 227) _ (zqF 21 5) (by rw [List.getElem?_toArray]; rfl) rfl (by kernel_rfl) rfl (fun _ _ _ h => h) (Or.inl ⟨by rfl, fun w' hSw => by (try dsimp only at hSw); go_simp; try with_reducible rfl⟩) hSS ?_
                          simp only [zqN]
                          refine zqB 5 (some 228) _ (zqF 21 6) (by rw [List.getElem?_toArray]; rfl) rfl (by kernel_rfl) rfl (fun _ _ _ h => h) (Or.inl ⟨by rfl, fun w' hSw => by (try dsimp only at hSw); go_simp; try with_reducible rfl⟩) hSS ?_
                          simp only [zqN]
                          refine zqB 6 (some 229) _ (zqF 21 7) (by rw [List.getElem?_toArray]; rfl) rfl (by kernel_rfl) rfl (fun _ _ _ h => h) (Or.inl ⟨by rfl, fun w' hSw => by (try dsimp only at hSw); go_simp; try with_reducible rfl⟩) hSS ?_
                          simp only [zqN]
                          refine takeB (i := 7) (d := (some 230)) (v := undef) (l' := #[true, true, true, true, true, true, true, true, false, false, false, false, false, false, false, false, false, false, false, false, false]) (by rw [List.getElem?_toArray]; rfl) rfl (by kernel_rfl) (by kernel_rfl) (by kernel_rfl) (by kernel_rfl) (by kernel_rfl) rfl (fun _ _ _ h => h) (Or.inr ⟨by rfl, rfl⟩) hSS ?_
                          simp only [zqN]
                          refine takeB (i := 8) (d := (some 231)) (v := undef) (l' := #[true, true, true, true, true, true, true, true, true, false, false, false, false, false, false, false, false, false, false, false, false]) (by rw [List.getElem?_toArray]; rfl) rfl (by kernel_rfl) (by kernel_rfl) (by kernel_rfl) (by kernel_rfl) (by kernel_rfl) rfl (fun _ _ _ h => h) (Or.inr ⟨by rfl, rfl⟩) hSS ?_
                          simp only [zqN]
                          refine takeB (i := 9) (d := (some 232)) (v := undef) (l' := #[true, true, true, true, true, true, true, true, true, true, false, false, false, false, false, false, false, false, false, false, false]) (by rw [List.getElem?_toArray]; rfl) rfl (by kernel_rfl) (by kernel_rfl) (by kernel_rfl) (by kernel_rfl) (by kernel_rfl) rfl (fun _ _ _ h => h) (Or.inr ⟨by rfl, rfl⟩) hSS ?_
                          simp only [zqN]
                          refine takeB (i := 10) (d := (some 233)) (v := undef) (l' := #[true, true, true, true, true, true, true, true, true, true, true, false, false, false, false, false, false, false, false, false, false]) (by rw [List.getElem?_toArray]; rfl) rfl (by kernel_rfl) (by kernel_rfl) (by kernel_rfl) (by kernel_rfl) (by kernel_rfl) rfl (fun _ _ _ h => h) (Or.inr ⟨by rfl, rfl⟩) hSS ?_
                          simp only [zqN]
                          refine takeB (i := 11) (d := (some 234)) (v := undef) (l' := #[true, true, true, true, true, true, true, true, true, true, true, true, false, false, false, false, false, false, false, false, false]) (by rw [List.getElem?_toArray]; rfl) rfl (by kernel_rfl) (by kernel_rfl) (by kernel_rfl) (by kernel_rfl) (by kernel_rfl) rfl (fun _ _ _ h => h) (Or.inr ⟨by rfl, rfl⟩) hSS ?_
                          simp only [zqN]
                          refine takeB (i := 12) (d := (some 235)) (v := undef) (l' := #[true, true, true, true, true, true, true, true, true, true, true, true, true, false, false, false, false, false, false, false, false]) (by rw [List.getElem?_toArray]; rfl) rfl (by kernel_rfl) (by kernel_rfl) (by kernel_rfl) (by kernel_rfl) (by kernel_rfl) rfl (fun _ _ _ h => h) (Or.inr ⟨by rfl, rfl⟩) hSS ?_
                          simp only [zqN]
                          refine takeB (i := 13) (d := (some 236)) (v := undef) (l' := #[true, true, true, true, true, true, true, true, true, true, true, true, true, true, false, false, false, false, false, false, false]) (by rw [List.getElem?_toArray]; rfl) rfl (by kernel_rfl) (by kernel_rfl) (by kernel_rfl) (by kernel_rfl) (by kernel_rfl) rfl (fun _ _ _ h => h) (Or.inr ⟨by rfl, rfl⟩) hSS ?_
                          simp only [zqN]
                          refine takeB (i := 14) (d := (some 237)) (v := undef) (l' := #[true, true, true, true, true, true, true, true, true, true, true, true, true, true, true, false, false, false, false, false, false]) (by rw [List.getElem?_toArray]; rfl) rfl (by kernel_rfl) (by kernel_rfl) (by kernel_rfl) (by kernel_rfl) (by kernel_rfl) rfl (fun _ _ _ h => h) (Or.inr ⟨by rfl, rfl⟩) hSS ?_
                          simp only [zqN]
                          refine takeB (i := 15) (d := (some 238)) (v := undef) (l' := #[true, true, true, true, true, true, true, true, true, true, true, true, true, true, true, true, false, false, false, false, false]) (by rw [List.getElem?_toArray]; rfl) rfl (by kernel_rfl) (by kernel_rfl) (by kernel_rfl) (by kernel_rfl) (by kernel_rfl) rfl (fun _ _ _ h => h) (Or.inr ⟨by rfl, rfl⟩) hSS ?_
                          simp only [zqN]
                          refine takeB (i := 16) (d := (some 239)) (v := undef) (l' := #[true, true, true, true, true, true, true, true, true, true, true, true, true, true, true, true, true, false, false, false, false]) (by rw [List.getElem?_toArray]; rfl) rfl (by kernel_rfl) (by kernel_rfl) (by kernel_rfl) (by kernel_rfl) (by kernel_rfl) rfl (fun _ _ _ h => h) (Or.inr ⟨by rfl, rfl⟩) hSS ?_
                          simp only [zqN]
                          refine takeB (i := 17) (d := (some 240)) (v := undef) (l' := #[true, true, true, true, true, true, true, true, true, true, true, true, true, true, true, true, true, true, false, false, false]) (by rw [List.getElem?_toArray]; rfl) rfl (by kernel_rfl) (by kernel_rfl) (by kernel_rfl) (by kernel_rfl) (by kernel_rfl) rfl (fun _ _ _ h => h) (Or.inr ⟨by rfl, rfl⟩) hSS ?_
                          simp only [zqN]
                          refine zqB 18 (some 241) _ (zqF 21 19) (by rw [List.getElem?_toArray]; rfl) rfl (by kernel_rfl) rfl (fun _ _ _ h => h) (Or.inl ⟨by rfl, fun w' hSw => by (try dsimp only at hSw); go_simp; try with_reducible rfl⟩) hSS ?_
                          simp only [zqN]
                          refine zqB 19 (some 242) _ (zqF 21 20) (by rw [List.getElem?_toArray]; rfl) rfl (by kernel_rfl) rfl (fun _ _ _ h => h) (Or.inl ⟨by rfl, fun w' hSw => by (try dsimp only at hSw); go_simp; try with_reducible rfl⟩) hSS ?_
                          simp only [zqN]
                          refine comeB (i := 20) (l' := #[true, true, true, true, true, true, true, true, true, true, true, true, true, true, true, true, true, true, true, true, true]) (by rw [List.getElem?_toArray]; rfl) (by kernel_rfl) rfl (fun K' hK => ?_)
                          go_simp
                          refine hK.out _ _ (Or.inl rfl) (fun _ => ?_)
                          try simp only [zqN]
                          refine wpAnyB_done (by kernel_rfl) ?_ _
                          exact ⟨⟨_, _, _, _, _, _, _, _, _, _, _, _, _, _, _, _, _, _, _, _, rfl⟩, rfl⟩
                         | true =>
                          refine region_B (S := fun w' : World => w'.cell? ⟨b1, 0, none⟩ = some (.slice (some ⟨mb, 0, none⟩) pn pn) ∧ w'.cell? ⟨mb, c * 4, none⟩ = some (.slice sa sn sc) ∧ w'.cell? ⟨lb0, lo0 + k, none⟩ = some (.int .i32 rn) ∧ w'.cell? ⟨wk.heap.size, c, none⟩ = some (.bool true) ∧ w'.frozen? ⟨wk.heap.size, c, none⟩ = false) 20 (by kernel_rfl) ⟨w0, w1, w2, w3, w4⟩ (fun hSS => ?_)
                          show wpAnyB _ _ _ _ _ 20 21 #[false, false, false, false, false, false, false, false, false, false, false, false, false, false, false, false, false, false, false, false, false] _ _
                          refine zqB 0 (some 223) _ (zqF 21 1) (by rw [List.getElem?_toArray]; rfl) rfl (by kernel_rfl) rfl (fun _ _ _ h => h) (Or.inl ⟨by rfl, fun w' hSw => by (try dsimp only at hSw); go_simp; try with_reducible rfl⟩) hSS ?_
                          simp only [zqN]
                          refine zqB 1 (some 224) _ (zqF 21 2) (by rw [List.getElem?_toArray]; rfl) rfl (by kernel_rfl) rfl (fun _ _ _ h => h) (Or.inl ⟨by rfl, fun w' hSw => by (try dsimp only at hSw); go_simp; try with_reducible rfl⟩) hSS ?_
                          simp only [zqN]
                          refine zqB 2 (some 225) _ (zqF 21 3) (by rw [List.getElem?_toArray]; rfl) rfl (by kernel_rfl) rfl (fun _ _ _ h => h) (Or.inl ⟨by rfl, fun w' hSw => by (try dsimp only at hSw); go_simp; try with_reducible rfl⟩) hSS ?_
                          simp only [zqN]
                          refine zqB 3 (some 226) _ (zqF 21 4) (by rw [List.getElem?_toArray]; rfl) rfl (by kernel_rfl) rfl (fun _ _ _ h => h) (Or.inl ⟨by rfl, fun w' hSw => by (try dsimp only at hSw); go_simp; try with_reducible rfl⟩) hSS ?_
                          simp only [zqN]
                          refine zqB 4 (some 227) _ (zqF 21 5) (by rw [List.getElem?_toArray]; rfl) rfl (by kernel_rfl) rfl (fun _ _ _ h => h) (Or.inl ⟨by rfl, fun w' hSw => by (try dsimp only at hSw); go_simp; try with_reducible rfl⟩) hSS ?_
                          simp only [zqN]
                          refine zqB 5 (some 228) _ (zqF 21 6) (by rw [List.getElem?_toArray]; rfl) rfl (by kernel_rfl) rfl (fun _ _ _ h => h) (Or.inl ⟨by rfl, fun w' hSw => by (try dsimp only at hSw); go_simp; try with_reducible rfl⟩) hSS ?_
                          simp only [zqN]
                          refine zqB 6 (some 229) _ (zqF 21 7) (by rw [List.getElem?_toArray]; rfl) rfl (by kernel_rfl) rfl (fun _ _ _ h => h) (Or.inl ⟨by rfl, fun w' hSw => by (try dsimp only at hSw); go_simp; try with_reducible rfl⟩) hSS ?_
                          simp only [zqN]
                          refine zqB 7 (some 230) _ (zqF 21 8) (by rw [List.getElem?_toArray]; rfl) rfl (by kernel_rfl) rfl (fun _ _ _ h => h) (Or.inl ⟨by rfl, fun w' hSw => by (try dsimp only at hSw); go_simp; try with_reducible rfl⟩) hSS ?_
                          simp only [zqN]
                          refine zqB 8 (some 231) _ (zqF 21 9) (by rw [List.getElem?_toArray]; rfl) rfl (by kernel_rfl) rfl (fun _ _ _ h => h) (Or.inl ⟨by rfl, fun w' hSw => by (try dsimp only at hSw); go_simp; try with_reducible rfl⟩) hSS ?_
                          simp only [zqN]
                          refine zqB 9 (some 232) _ (zqF 21 10) (by rw [List.getElem?_toArray]; rfl) rfl (by kernel_rfl) rfl (fun _ _ _ h => h) (Or.inl ⟨by rfl, fun w' hSw => by (try dsimp only at hSw); go_simp; try with_reducible rfl⟩) hSS ?_
                          simp only [zqN]
                          refine zqB 10 (some 233) _ (zqF 21 11) (by rw [List.getElem?_toArray]; rfl) rfl (by kernel_rfl) rfl (fun _ _ _ h => h) (Or.inl ⟨by rfl, fun w' hSw => by (try dsimp only at hSw); go_simp; try with_reducible rfl⟩) hSS ?_
                          simp only [zqN]
                          refine zqB 11 (some 234) _ (zqF 21 12) (by rw [List.getElem?_toArray]; rfl) rfl (by kernel_rfl) rfl (fun _ _ _ h => h) (Or.inl ⟨by rfl, fun w' hSw => by (try dsimp only at hSw); go_simp; try with_reducible rfl⟩) hSS ?_
                          simp only [zqN]
                          refine zqB 12 (some 235) _ (zqF 21 13) (by rw [List.getElem?_toArray]; rfl) rfl (by kernel_rfl) rfl (fun _ _ _ h => h) (Or.inl ⟨by rfl, fun w' hSw => by (try dsimp only at hSw); go_simp; try with_reducible rfl⟩) hSS ?_
                          simp only [zqN]
                          refine zqB 13 (some 236) _ (zqF 21 14) (by rw [List.getElem?_toArray]; rfl) rfl (by kernel_rfl) rfl (fun _ _ _ h => h) (Or.inl ⟨by rfl, fun w' hSw => by (try dsimp only at hSw); go_simp; try with_reducible rfl⟩) hSS ?_
                          simp only [zqN]
                          refine zqB 14 (some 237) _ (zqF 21 15) (by rw [List.getElem?_toArray]; rfl) rfl (by kernel_rfl) rfl (fun _ _ _ h => h) (Or.inl ⟨by rfl, fun w' hSw => by (try dsimp only at hSw); go_simp; try with_reducible rfl⟩) hSS ?_
                          simp only [zqN]
                          refine zqB 15 (some 238) _ (zqF 21 16) (by rw [List.getElem?_toArray]; rfl) rfl (by kernel_rfl) rfl (fun _ _ _ h => h) (Or.inl ⟨by rfl, fun w' hSw => by (try dsimp only at hSw); go_simp; try with_reducible rfl⟩) hSS ?_
                          simp only [zqN]
                          refine zqB 16 (some 239) _ (zqF 21 17) (by rw [List.getElem?_toArray]; rfl) rfl (by kernel_rfl) rfl (fun _ _ _ h => h) (Or.inl ⟨by rfl, fun w' hSw => by (try dsimp only at hSw); go_simp; try with_reducible rfl⟩) hSS ?_
                          simp only [zqN]
                          refine comeB (i := 17) (l' := #[true, true, true, true, true, true, true, true, true, true, true, true, true, true, true, true, true, true, false, false, false]) (by rw [List.getElem?_toArray]; rfl) (by kernel_rfl) rfl (fun K' hK => ?_)
                          go_simp
                          go_at_call 11; refine HH.out.mono ?_; rintro e w7 ⟨rfl, hw7⟩; rw [hw7]
                          refine hK.out _ _ (Or.inr ⟨w0, w1, w2, w3, w4⟩) (fun hOr => ?_)
                          replace hSS := hOr.resolve_left (by decide)
                          try simp only [zqN]
                          refine zqB 18 (some 241) _ (zqF 21 19) (by rw [List.getElem?_toArray]; rfl) rfl (by kernel_rfl) rfl (fun _ _ _ h => h) (Or.inl ⟨by rfl, fun w' hSw => by (try dsimp only at hSw); go_simp; try with_reducible rfl⟩) hSS ?_
                          simp only [zqN]
                          refine zqB 19 (some 242) _ (zqF 21 20) (by rw [List.getElem?_toArray]; rfl) rfl (by kernel_rfl) rfl (fun _ _ _ h => h) (Or.inl ⟨by rfl, fun w' hSw => by (try dsimp only at hSw); go_simp; try with_reducible rfl⟩) hSS ?_
                          simp only [zqN]
                          refine comeB (i := 20) (l' := #[true, true, true, true, true, true, true, true, true, true, true, true, true, true, true, true, true, true, true, true, true]) (by rw [List.getElem?_toArray]; rfl) (by kernel_rfl) rfl (fun K' hK => ?_)
                          go_simp
                          refine hK.out _ _ (Or.inl rfl) (fun _ => ?_)
                          try simp only [zqN]
                          refine wpAnyB_done (by kernel_rfl) ?_ _
                          exact ⟨⟨_, _, _, _, _, _, _, _, _, _, _, _, _, _, _, _, _, _, _, _, rfl⟩, rfl⟩
                        case next =>
                         rintro a' w' ⟨⟨z0, z1, z2, z3, z4, z5, z6, z7, z8, z9, z10, z11, z12, z13, z14, z15, z16, z17, z18, z19, rfl⟩, hww⟩
                         have HS7 := Lib.hid (show S2 wk.heap.size kb pn Y.heap.size Y (fun j => zeB pn Sx Fx K l k j && (decide (c + 1 ≤ j) || seB Sx j rn)) (wyB Sx Fx K l k) w' from by rw [hww]; exact HN.out)
                         clear hww x0 w0 w1 w2 w3 w4
                         simp only [zqN]
                         obtain ⟨⟨x0, _, _⟩, _, _⟩ := HK.out _ HS7.out.below
                         have y1 := Nd.cell_keeps HS7.out.below HD2.out
                         have y2 : w'.cell? ⟨wk.heap.size, c, none⟩ = some (.bool (zc && sv)) := by
                          rw [HS7.out.next_ hlc, HZ.out.1, HZ.out.2, show decide (c + 1 ≤ c) = false from by rw [decide_eq_false_iff_not]; omega]
                          rfl
                         obtain ⟨nv, hnv⟩ : ∃ b, (zc && sv) = b := ⟨_, rfl⟩
                         obtain ⟨ll, hll'⟩ : ∃ b, Lx c = b := ⟨_, rfl⟩
                         have HLC := Lib.hid (show (lx || (nv && ll)) = (List.range (c + 1)).any (fun x => (zeB pn Sx Fx K l k x && seB Sx x rn) && Lx x) from by
                          rw [List.range_succ, List.any_append, ← HLB.out]
                          simp [HZ.out.1, HZ.out.2, hnv, hll'])
                         rw [hnv] at y2
                         rw [hll'] at y1
                         clear hnv hll' HZ HLB HN HH HD2
                         cases lx with
                         | true =>
                          go_wp2_with fail
                          exact ⟨⟨c + 1, true, by omega, by go_num, rfl, Lib.hid ⟨HS7.out, HLC.out⟩⟩, by simp [intOf]; omega⟩
                         | false =>
                          cases nv with
                          | true =>
                           go_wp2_with fail
                           exact ⟨⟨c + 1, ll, by omega, by go_num, rfl, Lib.hid ⟨HS7.out, HLC.out⟩⟩, by simp [intOf]; omega⟩
                          | false =>
                           go_wp2_with fail
                           exact ⟨⟨c + 1, false, by omega, by go_num, rfl, Lib.hid ⟨HS7.out, HLC.out⟩⟩, by simp [intOf]; omega⟩
                      · as_aux_lemma =>
                        obtain rfl : pn = c := by omega
                        have dc : decide (pn < pn) = false := by simp
                        have hS3 := hS.congr (X' := wyB Sx Fx K l (k + 1)) fun j hj => by
                         rw [wy_next hNh.out Fx K HRN2.out.1 j, show decide (pn ≤ j) = false from by rw [decide_eq_false_iff_not]; omega]
                         rfl
                        have HN := Lib.hid (show Y.heap.size ≤ wk.heap.size ∧ Bk wr wk.heap.size 4 (bools (tab pn (wyB Sx Fx K l (k + 1)))) ∧ (0 < k + 1 → lx = (List.range pn).any fun x => wyB Sx Fx K l (k + 1) x && Lx x) ∧ Below Y.heap.size Y wr from
                         ⟨hS.le, hS3.nx, fun _ => by
                          rw [hlb]
                          congr 1
                          funext x
                          rw [wy_next hNh.out Fx K HRN2.out.1 x], hS.below⟩)
                        clear hJ hS hlb hS3
                        go_wp2_with fail
                        exact ⟨⟨k + 1, wk.heap.size, lx, by omega, by go_num, rfl, rfl, HN⟩, by simp [intOf]; omega⟩
            · as_aux_lemma =>
              obtain rfl : LN = k := by omega
              have dk : decide (LN < LN) = false := by simp
              obtain ⟨hkb, hAt, hlb, hb⟩ := hJ.out
              obtain ⟨_, _, hWw⟩ := HK.out _ hb
              have hne : kb ≠ wk.heap.size := Nat.ne_of_lt hAt.lt
              obtain ⟨W8, hW8⟩ : ∃ W, (wk.alloc (.cells (madeCells #[.bool false] (LN + 1)) 4)).setCell ⟨wk.heap.size, 0, none⟩ (.bool true) = W := ⟨_, rfl⟩
              have hIm := Bk.made wk 4 (madeCells #[.bool false] (LN + 1))
              have hIe : (madeCells #[.bool false] (LN + 1)).setIfInBounds 0 (.bool true) = bools (inT (LN + 1)) := by
               rw [made_bools, bools_set, tab_none, tab_set, inT]
               congr 1
              have hI : Bk W8 wk.heap.size 4 (bools (inT (LN + 1))) := by
               rw [← hW8, ← hIe]
               exact hIm.set 0 (.bool true)
              have hb8 : Below Y.heap.size Y W8 := by rw [← hW8]; exact (hb.alloc hb.size _).setCell hb.size _
              have hA8 : Bk W8 kb 4 (bools (tab pn (wyB Sx Fx K l LN))) := by rw [← hW8]; exact (hAt.alloc _).other _ _ (by simpa using hne)
              have hz0 : (madeCells #[.bool false] (LN + 1))[0]? = some (.bool false) := by
               rw [made_bools, bools_get (by rw [List.length_replicate]; omega), List.getD_eq_getElem?_getD, List.getElem?_replicate, if_pos (by omega)]
               rfl
              have z0 := (hIm.cell 0).trans hz0
              have z1 := hIm.free 0
              clear hz0
              have hLw : 0 < LN → (endT (bodyOf rs) runesOf l 65537 r.body (inT (LN + 1))).getD LN false = lb := fun h0 => by
               have := HLw.out K r HTK.out (by rw [HLN.out]; exact h0)
               rw [hNh.out, HLN.out] at this
               rw [this, hlb h0]
              have hcan := (HTk.out K r HTK.out).1
              obtain ⟨_, _, hW8w⟩ := HK.out _ hb8
              have hol : (endT (bodyOf rs) runesOf l 65537 r.body (inT (LN + 1))).length = LN + 1 := by
               have := (end_goes (bodyOf rs) runesOf l 65537 r.body hcan (inT (LN + 1)) (by rw [inT, tab_len, HLN.out])).1
               rw [this, HLN.out]
              obtain ⟨OUT, hOUT⟩ : ∃ o, endT (bodyOf rs) runesOf l 65537 r.body (inT (LN + 1)) = o := ⟨_, rfl⟩
              rw [hOUT] at hLw hol
              have HE := Lib.hid (fun (nv : Value) (wx : World) (hx : Below W8.heap.size W8 wx) (hA : Nd.At wx r.body nv) => show Calls Tryd.prog 12 #[.agg #[.string nm, .int .i64 o1, .int .i64 o2, .slice (some ⟨rb, ro, none⟩) p rc], nv, .slice la LN lc, .slice (some ⟨wk.heap.size, 0, none⟩) (LN + 1) (LN + 1)] wx fun e w' => (∃ x, e = .returned x ∧ BoV w' x OUT) ∧ Below wx.heap.size wx w' from by
               have := HEn.out w (Below.refl _ _) 65537 r.body nv (inT (LN + 1)) (.slice (some ⟨wk.heap.size, 0, none⟩) (LN + 1) (LN + 1)) wx hcan (hW8w.trans (hx.mono hW8w.size)) hA ⟨_, _, by rw [inT, tab_len], hI.below hx hI.lt⟩ (by rw [inT, tab_len])
               rw [hOUT] at this
               exact this)
              have HS52 := Lib.hid (show ∀ wx, Below W8.heap.size W8 wx → (wx.cell? ⟨w.heap.size, 0, none⟩ = some (.string nm) ∧ wx.cell? ⟨w.heap.size, 1, none⟩ = some (.int .i64 o1) ∧ wx.cell? ⟨w.heap.size, 2, none⟩ = some (.int .i64 o2) ∧ wx.cell? ⟨w.heap.size, 3, none⟩ = some (.slice (some ⟨rb, ro, none⟩) p rc)) ∧ Below w.heap.size w wx from fun wx hx => (HK.out wx (hb8.trans (hx.mono hb8.size))).2)
              have HLw2 := Lib.hid (And.intro hLw hol)
              have HW8 := Lib.hid hW8
              have HKB := Lib.hid (And.intro hkb (And.intro hA8 hb8))
              obtain ⟨I, hIq⟩ : ∃ I, (LN : Int) + 1 = I := ⟨_, rfl⟩
              have hwr : IntKind.i64.wrap ((LN : Int) + 1) = I := by rw [← hIq]; exact IntWalk.i64_in _ (by omega)
              rw [hIq] at hmk2
              clear hJ hkb hAt hlb hb hWw hne hW8 hIm hI hb8 hA8 hLw hcan hW8w hol hOUT hIe hIq
              generalize hM : LN + 1 = M at *
              have m0 : (0 : Int) < (M : Int) := by omega
              have m1 : (LN : Int) < (M : Int) := by omega
              have m2 : 0 < M := by omega
              have HM := Lib.hid hM
              clear hM
              go_upto_region 51 with fail
              generalize wk.alloc (.cells (madeCells #[.bool false] M) 4) = W7 at *
              go_upto_region 52 with fail
              rw [HW8.out]
              refine wp_cutN (fun a a' w' => (∃ z0 z1 z2 z3 z4 z5 z6 z7 z8 z9 z10 z11 z12 z13 z14 z15 z16 z17 z18 z19 : Value, a' = (((((((((((((((((((((a.put (some 265) z0).put (some 266) z1).put (some 267) z2).put (some 268) z3).put (some 269) z4).put (some 270) z5).put (some 271) z6).put (some 272) z7).put (some 273) z8).put (some 274) z9).put (some 275) z10).put (some 276) z11).put (some 277) z12).put (some 278) z13).put (some 279) z14).put (some 280) z15).put (some 281) z16).put (some 282) z17).put (some 283) z18).put (some 284) z19).put (some 285) (.bool false))) ∧ Below W8.heap.size W8 w') ?first ?next
              case first => as_aux_lemma =>
               by_cases h0 : LN = 0
               · subst h0
                 refine wp_region_held_drew (S := fun w' : World => True) (by kernel_rfl) trivial (fun hSS => ?_)
                 show wpAnyH _ _ _ _ _ 21 #[false, false, false, false, false, false, false, false, false, false, false, false, false, false, false, false, false, false, false, false, false] _ _
                 refine zqT 0 (some 265) _ (zqF 21 1) (by rw [List.getElem?_toArray]; rfl) rfl (by kernel_rfl) rfl (fun _ _ _ h => h) (Or.inl ⟨by rfl, fun w' hSw => by (try dsimp only at hSw); go_simp; try with_reducible rfl⟩) hSS ?_
                 simp only [zqN]
                 refine zqT 1 (some 266) _ (zqF 21 2) (by rw [List.getElem?_toArray]; rfl) rfl (by kernel_rfl) rfl (fun _ _ _ h => h) (Or.inl ⟨by rfl, fun w' hSw => by (try dsimp only at hSw); go_simp; try with_reducible rfl⟩) hSS ?_
                 simp only [zqN]
                 refine zqT 2 (some 267) _ (zqF 21 3) (by rw [List.getElem?_toArray]; rfl) rfl (by kernel_rfl) rfl (fun _ _ _ h => h) (Or.inl ⟨by rfl, fun w' hSw => by (try dsimp only at hSw); go_simp; try with_reducible rfl⟩) hSS ?_
                 simp only [zqN]
                 refine zqT 3 (some 268) _ (zqF 21 4) (by rw [List.getElem?_toArray]; rfl) rfl (by kernel_rfl) rfl (fun _ _ _ h => h) (Or.inl ⟨by rfl, fun w' hSw => by (try dsimp only at hSw); go_simp; try with_reducible rfl⟩) hSS ?_
                 simp only [zqN]
                 refine take_one (i := 4) (d := (some 269)) (v := undef) (l' := #[true, true, true, true, true, false, false, false, false, false, false, false, false, false, false, false, false, false, false, false, false]) (by rw [List.getElem?_toArray]; rfl) rfl (by kernel_rfl) (by kernel_rfl) (by kernel_rfl) rfl (fun _ _ _ h => h) (Or.inr ⟨by rfl, rfl⟩) hSS ?_
                 simp only [zqN]
                 refine take_one (i := 5) (d := (some 270)) (v := undef) (l' := #[true, true, true, true, true, true, false, false, false, false, false, false, false, false, false, false, false, false, false, false, false]) (by rw [List.getElem?_toArray]; rfl) rfl (by kernel_rfl) (by kernel_rfl) (by kernel_rfl) rfl (fun _ _ _ h => h) (Or.inr ⟨by rfl, rfl⟩) hSS ?_
                 simp only [zqN]
                 refine take_one (i := 6) (d := (some 271)) (v := undef) (l' := #[true, true, true, true, true, true, true, false, false, false, false, false, false, false, false, false, false, false, false, false, false]) (by rw [List.getElem?_toArray]; rfl) rfl (by kernel_rfl) (by kernel_rfl) (by kernel_rfl) rfl (fun _ _ _ h => h) (Or.inr ⟨by rfl, rfl⟩) hSS ?_
                 simp only [zqN]
                 refine take_one (i := 7) (d := (some 272)) (v := undef) (l' := #[true, true, true, true, true, true, true, true, false, false, false, false, false, false, false, false, false, false, false, false, false]) (by rw [List.getElem?_toArray]; rfl) rfl (by kernel_rfl) (by kernel_rfl) (by kernel_rfl) rfl (fun _ _ _ h => h) (Or.inr ⟨by rfl, rfl⟩) hSS ?_
                 simp only [zqN]
                 refine take_one (i := 8) (d := (some 273)) (v := undef) (l' := #[true, true, true, true, true, true, true, true, true, false, false, false, false, false, false, false, false, false, false, false, false]) (by rw [List.getElem?_toArray]; rfl) rfl (by kernel_rfl) (by kernel_rfl) (by kernel_rfl) rfl (fun _ _ _ h => h) (Or.inr ⟨by rfl, rfl⟩) hSS ?_
                 simp only [zqN]
                 refine take_one (i := 9) (d := (some 274)) (v := undef) (l' := #[true, true, true, true, true, true, true, true, true, true, false, false, false, false, false, false, false, false, false, false, false]) (by rw [List.getElem?_toArray]; rfl) rfl (by kernel_rfl) (by kernel_rfl) (by kernel_rfl) rfl (fun _ _ _ h => h) (Or.inr ⟨by rfl, rfl⟩) hSS ?_
                 simp only [zqN]
                 refine take_one (i := 10) (d := (some 275)) (v := undef) (l' := #[true, true, true, true, true, true, true, true, true, true, true, false, false, false, false, false, false, false, false, false, false]) (by rw [List.getElem?_toArray]; rfl) rfl (by kernel_rfl) (by kernel_rfl) (by kernel_rfl) rfl (fun _ _ _ h => h) (Or.inr ⟨by rfl, rfl⟩) hSS ?_
                 simp only [zqN]
                 refine take_one (i := 11) (d := (some 276)) (v := undef) (l' := #[true, true, true, true, true, true, true, true, true, true, true, true, false, false, false, false, false, false, false, false, false]) (by rw [List.getElem?_toArray]; rfl) rfl (by kernel_rfl) (by kernel_rfl) (by kernel_rfl) rfl (fun _ _ _ h => h) (Or.inr ⟨by rfl, rfl⟩) hSS ?_
                 simp only [zqN]
                 refine take_one (i := 12) (d := (some 277)) (v := undef) (l' := #[true, true, true, true, true, true, true, true, true, true, true, true, true, false, false, false, false, false, false, false, false]) (by rw [List.getElem?_toArray]; rfl) rfl (by kernel_rfl) (by kernel_rfl) (by kernel_rfl) rfl (fun _ _ _ h => h) (Or.inr ⟨by rfl, rfl⟩) hSS ?_
                 simp only [zqN]
                 refine take_one (i := 13) (d := (some 278)) (v := undef) (l' := #[true, true, true, true, true, true, true, true, true, true, true, true, true, true, false, false, false, false, false, false, false]) (by rw [List.getElem?_toArray]; rfl) rfl (by kernel_rfl) (by kernel_rfl) (by kernel_rfl) rfl (fun _ _ _ h => h) (Or.inr ⟨by rfl, rfl⟩) hSS ?_
                 simp only [zqN]
                 refine take_one (i := 14) (d := (some 279)) (v := undef) (l' := #[true, true, true, true, true, true, true, true, true, true, true, true, true, true, true, false, false, false, false, false, false]) (by rw [List.getElem?_toArray]; rfl) rfl (by kernel_rfl) (by kernel_rfl) (by kernel_rfl) rfl (fun _ _ _ h => h) (Or.inr ⟨by rfl, rfl⟩) hSS ?_
                 simp only [zqN]
                 refine take_one (i := 15) (d := (some 280)) (v := undef) (l' := #[true, true, true, true, true, true, true, true, true, true, true, true, true, true, true, true, false, false, false, false, false]) (by rw [List.getElem?_toArray]; rfl) rfl (by kernel_rfl) (by kernel_rfl) (by kernel_rfl) rfl (fun _ _ _ h => h) (Or.inr ⟨by rfl, rfl⟩) hSS ?_
                 simp only [zqN]
                 refine take_one (i := 16) (d := (some 281)) (v := undef) (l' := #[true, true, true, true, true, true, true, true, true, true, true, true, true, true, true, true, true, false, false, false, false]) (by rw [List.getElem?_toArray]; rfl) rfl (by kernel_rfl) (by kernel_rfl) (by kernel_rfl) rfl (fun _ _ _ h => h) (Or.inr ⟨by rfl, rfl⟩) hSS ?_
                 simp only [zqN]
                 refine take_one (i := 17) (d := (some 282)) (v := undef) (l' := #[true, true, true, true, true, true, true, true, true, true, true, true, true, true, true, true, true, true, false, false, false]) (by rw [List.getElem?_toArray]; rfl) rfl (by kernel_rfl) (by kernel_rfl) (by kernel_rfl) rfl (fun _ _ _ h => h) (Or.inr ⟨by rfl, rfl⟩) hSS ?_
                 simp only [zqN]
                 refine take_one (i := 18) (d := (some 283)) (v := undef) (l' := #[true, true, true, true, true, true, true, true, true, true, true, true, true, true, true, true, true, true, true, false, false]) (by rw [List.getElem?_toArray]; rfl) rfl (by kernel_rfl) (by kernel_rfl) (by kernel_rfl) rfl (fun _ _ _ h => h) (Or.inr ⟨by rfl, rfl⟩) hSS ?_
                 simp only [zqN]
                 refine take_one (i := 19) (d := (some 284)) (v := undef) (l' := #[true, true, true, true, true, true, true, true, true, true, true, true, true, true, true, true, true, true, true, true, false]) (by rw [List.getElem?_toArray]; rfl) rfl (by kernel_rfl) (by kernel_rfl) (by kernel_rfl) rfl (fun _ _ _ h => h) (Or.inr ⟨by rfl, rfl⟩) hSS ?_
                 simp only [zqN]
                 refine zqT 20 (some 285) _ (zqF 21 21) (by rw [List.getElem?_toArray]; rfl) rfl (by kernel_rfl) rfl (fun _ _ _ h => h) (Or.inl ⟨by rfl, fun w' hSw => by (try dsimp only at hSw); go_simp; try with_reducible rfl⟩) hSS ?_
                 simp only [zqN]
                 refine wpAnyH_done (by kernel_rfl) ?_ _
                 exact ⟨⟨_, _, _, _, _, _, _, _, _, _, _, _, _, _, _, _, _, _, _, _, rfl⟩, (Below.refl _ _).drew⟩
               · have a0 : (0 : Int) < (LN : Int) := by omega
                 have d0 : decide (0 < LN) = true := by rw [decide_eq_true_iff]; omega
                 obtain ⟨hlo, hol⟩ := HLw2.out
                 have hlo := hlo (by omega)
                 have hbd : Below W8.heap.size W8 W8.drew := (Below.refl _ _).drew
                 obtain ⟨⟨g0, g1, g2, g3⟩, hWx⟩ := HS52.out _ hbd
                 obtain ⟨u0, u1, u2, u3, u4, b0, bq1, b2, b3, b4, b5, b6, b7, b8, b9, hA, _, _⟩ := HCr.out.below hWx
                 have HEp := Lib.hid (HE.out _ _ hbd hA)
                 have HC := Lib.hid (show ∀ w', Below W8.drew.heap.size W8.drew w' → (w'.cell? ⟨w.heap.size, 0, none⟩ = some (.string nm) ∧ w'.cell? ⟨w.heap.size, 1, none⟩ = some (.int .i64 o1) ∧ w'.cell? ⟨w.heap.size, 2, none⟩ = some (.int .i64 o2) ∧ w'.cell? ⟨w.heap.size, 3, none⟩ = some (.slice (some ⟨rb, ro, none⟩) p rc)) ∧ w'.cell? ⟨rb, ro + q * 10 + 2, none⟩ = some u0 ∧ w'.cell? ⟨rb, ro + q * 10 + 3, none⟩ = some u1 ∧ w'.cell? ⟨rb, ro + q * 10 + 4, none⟩ = some u2 ∧ w'.cell? ⟨rb, ro + q * 10 + 5, none⟩ = some u3 ∧ w'.cell? ⟨rb, ro + q * 10 + 6, none⟩ = some u4 from fun w' hw => by
                  have g := (HS52.out w' (hbd.trans (hw.mono hbd.size))).1
                  exact ⟨g, Nd.cell_keeps hw b2, Nd.cell_keeps hw b3, Nd.cell_keeps hw b4, Nd.cell_keeps hw b5, Nd.cell_keeps hw b6⟩)
                 have hlb2 : (lb != lb) = false := by cases lb <;> rfl
                 have la2 : (0 : Int) ≤ (LN : Int) := by omega
                 have hS0 := HC.out _ (Below.refl _ _)
                 clear hA b0 bq1 b7 b8 b9
                 refine wp_region_held_drew (S := fun w' : World => (w'.cell? ⟨w.heap.size, 0, none⟩ = some (.string nm) ∧ w'.cell? ⟨w.heap.size, 1, none⟩ = some (.int .i64 o1) ∧ w'.cell? ⟨w.heap.size, 2, none⟩ = some (.int .i64 o2) ∧ w'.cell? ⟨w.heap.size, 3, none⟩ = some (.slice (some ⟨rb, ro, none⟩) p rc)) ∧ w'.cell? ⟨rb, ro + q * 10 + 2, none⟩ = some u0 ∧ w'.cell? ⟨rb, ro + q * 10 + 3, none⟩ = some u1 ∧ w'.cell? ⟨rb, ro + q * 10 + 4, none⟩ = some u2 ∧ w'.cell? ⟨rb, ro + q * 10 + 5, none⟩ = some u3 ∧ w'.cell? ⟨rb, ro + q * 10 + 6, none⟩ = some u4) (by kernel_rfl) hS0 (fun hSS => ?_)
                 show wpAnyH _ _ _ _ _ 21 #[false, false, false, false, false, false, false, false, false, false, false, false, false, false, false, false, false, false, false, false, false] _ _
                 refine zqT 0 (some 265) _ (zqF 21 1) (by rw [List.getElem?_toArray]; rfl) rfl (by kernel_rfl) rfl (fun _ _ _ h => h) (Or.inl ⟨by rfl, fun w' hSw => by (try dsimp only at hSw); go_simp; try with_reducible rfl⟩) hSS ?_
                 simp only [zqN]
                 refine zqT 1 (some 266) _ (zqF 21 2) (by rw [List.getElem?_toArray]; rfl) rfl (by kernel_rfl) rfl (fun _ _ _ h => h) (Or.inl ⟨by rfl, fun w' hSw => by (try dsimp only at hSw); go_simp; try with_reducible rfl⟩) hSS ?_
                 simp only [zqN]
                 refine zqT 2 (some 267) _ (zqF 21 3) (by rw [List.getElem?_toArray]; rfl) rfl (by kernel_rfl) rfl (fun _ _ _ h => h) (Or.inl ⟨by rfl, fun w' hSw => by (try dsimp only at hSw); go_simp; try with_reducible rfl⟩) hSS ?_
                 simp only [zqN]
                 refine zqT 3 (some 268) _ (zqF 21 4) (by rw [List.getElem?_toArray]; rfl) rfl (by kernel_rfl) rfl (fun _ _ _ h => h) (Or.inl ⟨by rfl, fun w' hSw => by (try dsimp only at hSw); go_simp; try with_reducible rfl⟩) hSS ?_
                 simp only [zqN]
                 refine zqT 4 (some 269) _ (zqF 21 5) (by rw [List.getElem?_toArray]; rfl) rfl (by kernel_rfl) rfl (fun _ _ _ h => h) (Or.inl ⟨by rfl, fun w' hSw => by (try dsimp only at hSw); go_simp; try with_reducible rfl⟩) hSS ?_
                 simp only [zqN]
                 refine zqT 5 (some 270) _ (zqF 21 6) (by rw [List.getElem?_toArray]; rfl) rfl (by kernel_rfl) rfl (fun _ _ _ h => h) (Or.inl ⟨by rfl, fun w' hSw => by (try dsimp only at hSw); go_simp; try with_reducible rfl⟩) hSS ?_
                 simp only [zqN]
                 refine zqT 6 (some 271) _ (zqF 21 7) (by rw [List.getElem?_toArray]; rfl) rfl (by kernel_rfl) rfl (fun _ _ _ h => h) (Or.inl ⟨by rfl, fun w' hSw => by (try dsimp only at hSw); go_simp; try with_reducible rfl⟩) hSS ?_
                 simp only [zqN]
                 refine zqT 7 (some 272) _ (zqF 21 8) (by rw [List.getElem?_toArray]; rfl) rfl (by kernel_rfl) rfl (fun _ _ _ h => h) (Or.inl ⟨by rfl, fun w' hSw => by (try dsimp only at hSw); go_simp; try with_reducible rfl⟩) hSS ?_
                 simp only [zqN]
                 refine zqT 8 (some 273) _ (zqF 21 9) (by rw [List.getElem?_toArray]; rfl) rfl (by kernel_rfl) rfl (fun _ _ _ h => h) (Or.inl ⟨by rfl, fun w' hSw => by (try dsimp only at hSw); go_simp; try with_reducible rfl⟩) hSS ?_
                 simp only [zqN]
                 refine zqT 9 (some 274) _ (zqF 21 10) (by rw [List.getElem?_toArray]; rfl) rfl (by kernel_rfl) rfl (fun _ _ _ h => h) (Or.inl ⟨by rfl, fun w' hSw => by (try dsimp only at hSw); go_simp; try with_reducible rfl⟩) hSS ?_
                 simp only [zqN]
                 refine zqT 10 (some 275) _ (zqF 21 11) (by rw [List.getElem?_toArray]; rfl) rfl (by kernel_rfl) rfl (fun _ _ _ h => h) (Or.inl ⟨by rfl, fun w' hSw => by (try dsimp only at hSw); go_simp; try with_reducible rfl⟩) hSS ?_
                 simp only [zqN]
                 refine zqT 11 (some 276) _ (zqF 21 12) (by rw [List.getElem?_toArray]; rfl) rfl (by kernel_rfl) rfl (fun _ _ _ h => h) (Or.inl ⟨by rfl, fun w' hSw => by (try dsimp only at hSw); go_simp; try with_reducible rfl⟩) hSS ?_
                 simp only [zqN]
                 refine zqT 12 (some 277) _ (zqF 21 13) (by rw [List.getElem?_toArray]; rfl) rfl (by kernel_rfl) rfl (fun _ _ _ h => h) (Or.inl ⟨by rfl, fun w' hSw => by (try dsimp only at hSw); go_simp; try with_reducible rfl⟩) hSS ?_
                 simp only [zqN]
                 refine zqT 14 (some 279) _ #[true, true, true, true, true, true, true, true, true, true, true, true, true, false, true, false, false, false, false, false, false] (by rw [List.getElem?_toArray]; rfl) rfl (by kernel_rfl) rfl (fun _ _ _ h => h) (Or.inl ⟨by rfl, fun w' hSw => by (try dsimp only at hSw); go_simp; try with_reducible rfl⟩) hSS ?_
                 simp only [zqN]
                 refine zqT 15 (some 280) _ #[true, true, true, true, true, true, true, true, true, true, true, true, true, false, true, true, false, false, false, false, false] (by rw [List.getElem?_toArray]; rfl) rfl (by kernel_rfl) rfl (fun _ _ _ h => h) (Or.inl ⟨by rfl, fun w' hSw => by (try dsimp only at hSw); go_simp; try with_reducible rfl⟩) hSS ?_
                 simp only [zqN]
                 refine zqT 18 (some 283) _ #[true, true, true, true, true, true, true, true, true, true, true, true, true, false, true, true, false, false, true, false, false] (by rw [List.getElem?_toArray]; rfl) rfl (by kernel_rfl) rfl (fun _ _ _ h => h) (Or.inl ⟨by rfl, fun w' hSw => by (try dsimp only at hSw); go_simp; try with_reducible rfl⟩) hSS ?_
                 simp only [zqN]
                 refine come_one (i := 13) (l' := #[true, true, true, true, true, true, true, true, true, true, true, true, true, true, true, true, false, false, true, false, false]) (by rw [List.getElem?_toArray]; rfl) (by kernel_rfl) rfl (fun K' hK => ?_)
                 go_simp
                 go_at_call 12; refine HEp.out.mono ?_; rintro e w5 ⟨⟨xv, rfl, hxv⟩, hb5⟩; obtain ⟨ob, oc, rfl, hok⟩ := hxv; have ol := hok.cell LN; rw [bools_get (by rw [hol]; omega), hlo] at ol; rw [hol]; have hS5 := HC.out _ hb5; have hB5 := hbd.trans (hb5.mono hbd.size)
                 refine hK.out _ _ hS5 (fun hSS => ?_)
                 try simp only [zqN]
                 refine zqT 16 (some 281) _ #[true, true, true, true, true, true, true, true, true, true, true, true, true, true, true, true, true, false, true, false, false] (by rw [List.getElem?_toArray]; rfl) rfl (by kernel_rfl) rfl (fun _ _ _ h => h) (Or.inl ⟨by rfl, fun w' hSw => by (try dsimp only at hSw); go_simp; try with_reducible rfl⟩) hSS ?_
                 simp only [zqN]
                 refine come_one (i := 17) (l' := (zqF 21 19)) (by rw [List.getElem?_toArray]; rfl) (by kernel_rfl) rfl (fun K' hK => ?_)
                 go_simp
                 skip
                 refine hK.out _ _ hS5 (fun hSS => ?_)
                 try simp only [zqN]
                 refine zqT 19 (some 284) _ (zqF 21 20) (by rw [List.getElem?_toArray]; rfl) rfl (by kernel_rfl) rfl (fun _ _ _ h => h) (Or.inl ⟨by rfl, fun w' hSw => by (try dsimp only at hSw); go_simp; try with_reducible rfl⟩) hSS ?_
                 simp only [zqN]
                 refine zqT 20 (some 285) _ (zqF 21 21) (by rw [List.getElem?_toArray]; rfl) rfl (by kernel_rfl) rfl (fun _ _ _ h => h) (Or.inl ⟨by rfl, fun w' hSw => by (try dsimp only at hSw); go_simp; try with_reducible rfl⟩) hSS ?_
                 simp only [zqN]
                 refine wpAnyH_done (by kernel_rfl) ?_ _
                 exact ⟨⟨_, _, _, _, _, _, _, _, _, _, _, _, _, _, _, _, _, _, _, _, rfl⟩, hB5⟩
              case next =>
               rintro a' w' ⟨⟨z0, z1, z2, z3, z4, z5, z6, z7, z8, z9, z10, z11, z12, z13, z14, z15, z16, z17, z18, z19, rfl⟩, hb9⟩
               simp only [zqN]
               have HZ := Lib.hid (show Y.heap.size ≤ kb ∧ Bk w' kb 4 (bools (tab pn (wyB Sx Fx K l LN))) ∧ Below Y.heap.size Y w' from ⟨HKB.out.1, HKB.out.2.1.below hb9 HKB.out.2.1.lt, HKB.out.2.2.trans (hb9.mono HKB.out.2.2.size)⟩)
               clear hb9
               go_wp2_with fail
               exact ⟨⟨q + 1, kb, K + 1, wyB Sx Fx K l LN, by omega, by go_num, rfl, by go_num, Lib.hid ⟨HN.out, HZ.out⟩⟩, by simp [intOf]; omega⟩
     · obtain rfl : p = q := by omega
       have dp : decide (p < p) = false := by simp
       have hKc : (K : Int) = cnt := by rw [hcnt, hK, List.take_of_length_le (by rw [HRN.out]; exact Nat.le_refl _)]; rfl
       have hKe : ((K : Int) == cnt) = true := by rw [hKc]; simp
       have HWz := Lib.hid hW
       clear hJ hK hAt hb hab hcnt hKl
       go_wp2_with (go_at_call 6; refine (HL.out _ HWz.out).mono ?_; rintro e w5 ⟨rfl, hb5⟩)
       go_ret
       exact ⟨rfl, HWz.out.trans (hb5.mono HWz.out.size)⟩
end Go.Proofs.YtiinkhmgemoamaaDoor.Gl
