/- LexersWhole: the walk. -/
import Derived.Test.YtagbpkabfjnplaaDoorLxS
namespace Go.Proofs.YtagbpkabfjnplaaDoor
open Go Go.RowKit Rn Lx
set_option maxRecDepth 100000

set_option maxHeartbeats 16000000 in
theorem Whole_early (t : Tb) (rv cv nv ev : Value) (s : ByteArray) (da : Option Addr) (DN dc : Nat) (w : World) (hT : TL w rv cv nv ev t) (hs : Lg t) (hE : EnvL w) (hsz : s.size ≤ 9223372036854775807) (h : greatB t = true ∨ 100 < s.size ∨ mayB t = false) :
    Calls Tryd.prog 5 #[.agg #[rv, cv, nv, ev], .string s, .slice da DN dc] w fun e w' => e = .returned (.bool true) ∧ Below w.heap.size w w' := by
  have hb0 := bx_below w rv cv nv ev
  have HG := Lib.hid (fun (W : World) (h : Below (bx w rv cv nv ev).heap.size (bx w rv cv nv ev) W) => (Great_any t rv cv nv ev W ((hT.below hb0).below h) hs).mono fun e w' x' => show e = .returned (.bool (greatB t)) ∧ Below (bx w rv cv nv ev).heap.size (bx w rv cv nv ev) w' from ⟨x'.1, h.trans (x'.2.mono h.size)⟩)
  have HM := Lib.hid (fun (hg : greatB t = false) (W : World) (h : Below (bx w rv cv nv ev).heap.size (bx w rv cv nv ev) W) => (May_any t rv cv nv ev W ((hT.below hb0).below h) (great_sm hg)).mono fun e w' x' => show e = .returned (.bool (mayB t)) ∧ Below (bx w rv cv nv ev).heap.size (bx w rv cv nv ev) w' from ⟨x'.1, h.trans (x'.2.mono h.size)⟩)
  have HL := Lib.hid (fun (W : World) (h : Below (bx w rv cv nv ev).heap.size (bx w rv cv nv ev) W) => (lives11_true W ((hE.below hb0).below h)).mono fun e w' x' => show e = .returned (.bool true) ∧ Below (bx w rv cv nv ev).heap.size (bx w rv cv nv ev) w' from ⟨x'.1, h.trans (x'.2.mono h.size)⟩)
  have HC := Lib.hid (fun (W : World) (h : Below (bx w rv cv nv ev).heap.size (bx w rv cv nv ev) W) => bx_cells h)
  obtain ⟨⟨ra, rc, rfl, _, _⟩, ⟨ca, cc, rfl, _, _⟩, ⟨na, nc, rfl, _, _⟩, ⟨ea, ec, rfl, _, _⟩⟩ := hT
  clear hb0 hs hE
  cases hg : greatB t with
  | true =>
    rw [hg] at HG
    clear h hg
    go_enter Tryd.func5, Tryd.ntmps5
    go_wp2_with fail
    refine (HG.out _ (Below.refl _ _)).mono ?_
    rintro e w2 ⟨rfl, b2⟩
    have B2 := Lib.hid b2
    clear b2
    go_wp2_with fail
    refine (HL.out _ B2.out).mono ?_
    rintro e w3 ⟨rfl, b3⟩
    have B3 := Lib.hid b3
    clear b3
    go_wp2_with fail
    go_ret
    exact ⟨rfl, bx_trans B3.out⟩
  | false =>
    have HM1 := Lib.hid (HM.out hg)
    by_cases h1 : 100 < s.size
    · have d1 : decide (100 < s.size) = true := decide_eq_true h1
      have d2 : decide ((100 : Int) < (s.size : Int)) = true := decide_eq_true (by omega)
      rw [hg] at HG
      clear h hg
      go_enter Tryd.func5, Tryd.ntmps5
      go_wp2_with fail
      refine (HG.out _ (Below.refl _ _)).mono ?_
      rintro e w2 ⟨rfl, b2⟩
      have B2 := Lib.hid b2
      clear b2
      go_wp2_with fail
      refine (HL.out _ B2.out).mono ?_
      rintro e w3 ⟨rfl, b3⟩
      have B3 := Lib.hid b3
      clear b3
      go_wp2_with fail
      go_ret
      exact ⟨rfl, bx_trans B3.out⟩
    have d1 : decide (100 < s.size) = false := decide_eq_false h1
    have d2 : decide ((100 : Int) < (s.size : Int)) = false := decide_eq_false (by omega)
    have hm : mayB t = false := by
      rcases h with h | h | h
      · rw [hg] at h; cases h
      · exact absurd h h1
      · exact h
    rw [hg] at HG
    rw [hm] at HM1
    clear h hg hm
    go_enter Tryd.func5, Tryd.ntmps5
    go_wp2_with fail
    refine (HG.out _ (Below.refl _ _)).mono ?_
    rintro e w2 ⟨rfl, b2⟩
    obtain ⟨c0, c1, c2, c3⟩ := HC.out _ b2
    have B2 := Lib.hid b2
    clear b2
    go_wp2_with fail
    refine (HM1.out _ B2.out).mono ?_
    rintro e w3 ⟨rfl, b3⟩
    have B3 := Lib.hid b3
    clear b3 c0 c1 c2 c3
    go_wp2_with fail
    refine (HL.out _ B3.out).mono ?_
    rintro e w4 ⟨rfl, b4⟩
    have B4 := Lib.hid b4
    clear b4
    go_wp2_with fail
    go_ret
    exact ⟨rfl, bx_trans B4.out⟩
set_option maxHeartbeats 64000000 in
theorem Whole_main (t : Tb) (rv cv nv ev : Value) (s : ByteArray) (dr : List Bool) (dv : Value) (w : World) (hT : TL w rv cv nv ev t) (hs : Lg t) (hE : EnvL w) (hD : BV w dv dr) (hdl : dr.length ≤ 140737488351232) (hg : greatB t = false) (h1 : s.size ≤ 100) (hm : mayB t = true) :
    Calls Tryd.prog 5 #[.agg #[rv, cv, nv, ev], .string s, dv] w fun e w' => e = .returned (.bool true) ∧ Below w.heap.size w w' := by
  have hb0 := bx_below w rv cv nv ev
  have hsm := great_sm hg
  have hM := mayB_may hm
  have HG := Lib.hid (fun (W : World) (h : Below (bx w rv cv nv ev).heap.size (bx w rv cv nv ev) W) => (Great_any t rv cv nv ev W ((hT.below hb0).below h) hs).mono fun e w' x' => show e = .returned (.bool false) ∧ Below (bx w rv cv nv ev).heap.size (bx w rv cv nv ev) w' from ⟨by rw [← hg]; exact x'.1, h.trans (x'.2.mono h.size)⟩)
  have HM := Lib.hid (fun (W : World) (h : Below (bx w rv cv nv ev).heap.size (bx w rv cv nv ev) W) => (May_any t rv cv nv ev W ((hT.below hb0).below h) hsm).mono fun e w' x' => show e = .returned (.bool true) ∧ Below (bx w rv cv nv ev).heap.size (bx w rv cv nv ev) w' from ⟨by rw [← hm]; exact x'.1, h.trans (x'.2.mono h.size)⟩)
  have HL := Lib.hid (fun (W : World) (h : Below (bx w rv cv nv ev).heap.size (bx w rv cv nv ev) W) => (lives11_true W ((hE.below hb0).below h)).mono fun e w' x' => show e = .returned (.bool true) ∧ Below (bx w rv cv nv ev).heap.size (bx w rv cv nv ev) w' from ⟨x'.1, h.trans (x'.2.mono h.size)⟩)
  have HC := Lib.hid (fun (W : World) (h : Below (bx w rv cv nv ev).heap.size (bx w rv cv nv ev) W) => bx_cells h)
  have HZ := Lib.hid (fun (W : World) (h : Below (bx w rv cv nv ev).heap.size (bx w rv cv nv ev) W) => ((hT.below hb0).below h).2.2.2)
  have HDD := Lib.hid (fun (W : World) (h : Below (bx w rv cv nv ev).heap.size (bx w rv cv nv ev) W) => (hD.below hb0).below h)
  have HNN := Lib.hid (fun (h99 : ∀ x ∈ t.es, x ≤ 99) (W : World) (h : Below (bx w rv cv nv ev).heap.size (bx w rv cv nv ev) W) (b : Nat) (sm : List Bool) (hk : BV W (.slice (some ⟨b, 0, none⟩) 100 100) sm) (hl : sm.length = 100) => (New_any t sm rv cv nv ev (.slice (some ⟨b, 0, none⟩) 100 100) W ((hT.below hb0).below h) hk hsm (by rw [hl]; omega)).mono fun e w' x' => show (∃ g, e = .returned (.tuple #[.pointer (some ⟨g, 0, none⟩), .int .i64 0]) ∧ LV w' g t sm) ∧ Below W.heap.size W w' ∧ Below (bx w rv cv nv ev).heap.size (bx w rv cv nv ev) w' from ⟨by
    have h1 := x'.1
    unfold NewR at h1
    rw [if_pos (new_len hm hl h99)] at h1
    obtain ⟨g, e1, e2⟩ := h1
    exact ⟨g, e1, e2.lv⟩, x'.2, h.trans (x'.2.mono h.size)⟩)
  have HTK := Lib.hid (fun (h99 : ∀ x ∈ t.es, x ≤ 99) (sm : List Bool) (hsl : sm.length = 100) (u : ByteArray) (hu : u.size ≤ 100) (W : World) (h : Below (bx w rv cv nv ev).heap.size (bx w rv cv nv ev) W) (g : Nat) (hl : LV W g t sm) => (Tokens_any t sm g u W hl (mayB_may hm) hsm (fun x hx => by rw [hsl]; have := h99 x hx; omega) ((hE.below hb0).below h) (by omega)).mono fun e w' x' => show TokP u W.heap.size (tok t sm u.data.toList) e w' ∧ Below W.heap.size W w' ∧ Below (bx w rv cv nv ev).heap.size (bx w rv cv nv ev) w' from ⟨x'.1, x'.2, h.trans (x'.2.mono h.size)⟩)
  have HLO := Lib.hid (fun (W : World) (h : Below (bx w rv cv nv ev).heap.size (bx w rv cv nv ev) W) (g : Nat) (hl : LV W g t fal) (k : Nat) => (Longest_any t fal g s k W hl (mayB_may hm) hsm ((hE.below hb0).below h) (by omega)).mono fun e w' x' => show e = .returned (lonV (lon t (s.data.toList.drop k))) ∧ Below W.heap.size W w' ∧ Below (bx w rv cv nv ev).heap.size (bx w rv cv nv ev) w' from ⟨x'.1, x'.2, h.trans (x'.2.mono h.size)⟩)
  have HST := Lib.hid (fun (u : ByteArray) (hu : u.size ≤ 100) (W : World) (h : Below (bx w rv cv nv ev).heap.size (bx w rv cv nv ev) W) => (state_any t rv cv nv ev u W ((hT.below hb0).below h) hsm ((hE.below hb0).below h) (by omega)).mono fun e w' x' => show e = .returned (.int .i64 (stF t u.size 0 u.data.toList)) ∧ Below W.heap.size W w' from x')
  have HBe := Lib.hid (show s.data.toList.length = s.size from (Lib.size_eq s).symm)
  have HMap := Lib.hid (fun sm => tok_map t sm s.data.toList (by rw [HBe.out]; exact h1))
  have HErr := Lib.hid (fun e q (hr : tok t fal s.data.toList = .bad e q) => tok_err (by rw [HBe.out]; exact h1) hr)
  have HErr2 := Lib.hid (fun (p : Nat) (hp : p ≤ s.size) e q (hr : tok t fal (s.extract 0 p).data.toList = .bad e q) => show e = 9 ∧ q < p from by
    have hl : (s.extract 0 p).data.toList.length = p := by rw [← Lib.size_eq, ByteArray.size_extract]; omega
    have := tok_err (by rw [hl]; omega) hr
    exact ⟨this.1, by rw [hl] at this; exact this.2.1⟩)
  have HMay := Lib.hid hM
  obtain ⟨⟨ra, rc, rfl, _, _⟩, ⟨ca, cc, rfl, _, _⟩, ⟨na, nc, rfl, _, _⟩, ⟨ea, ec, rfl, _, _⟩⟩ := hT
  obtain ⟨da, dc, rfl, _, _⟩ := hD
  have d1 : decide (100 < s.size) = false := decide_eq_false (by omega)
  have d2 : decide ((100 : Int) < (s.size : Int)) = false := decide_eq_false (by omega)
  have l4 := hsm.es
  have hmk : ∀ wz, (Instr.makeSlice 27 (.int .i64 100) (.int .i64 100)).run Tryd.prog wz = .ok (.slice (some ⟨wz.heap.size, 0, none⟩) 100 100) (wz.alloc (.cells (madeCells #[.bool false] 100) 4)) := fun wz => run_make_row' (P := Tryd.prog) 27 4 (.bool false) 1 Tryd.underlying27 infoBo rfl .i64 .i64 100 (by omega) (by omega) wz
  have HDL := Lib.hid hdl
  clear hb0 hs hE hg hm hsm hM hdl
  go_enter Tryd.func5, Tryd.ntmps5
  go_wp2_with fail
  refine (HG.out _ (Below.refl _ _)).mono ?_
  rintro e w2 ⟨rfl, b2⟩
  obtain ⟨c0, c1, c2, c3⟩ := HC.out _ b2
  have B2 := Lib.hid b2
  clear b2
  go_wp2_with fail
  refine (HM.out _ B2.out).mono ?_
  rintro e w3 ⟨rfl, b3⟩
  have B3 := Lib.hid b3
  clear b3 c0 c1 c2 c3
  go_wp2_with fail
  go_loopw [7] (fun i wr => ∃ k : Nat, k ≤ t.es.length ∧ i = .int .i64 k ∧ wr = w3 ∧ Hid (∀ j x, j < k → t.es[j]? = some x → x ≤ 99)) (fun i _ => t.es.length - (intOf i).toNat)
  case atStart => exact ⟨0, Nat.zero_le _, rfl, rfl, Lib.hid (fun j x h => absurd h (Nat.not_lt_zero _))⟩
  case round =>
    obtain ⟨k, hk, rfl, hwr, hJ⟩ := hrel
    rw [hwr]
    clear hwr
    obtain ⟨c0, c1, c2, c3⟩ := HC.out _ B3.out
    by_cases hlt : k < t.es.length
    · have d4 : decide (k < t.es.length) = true := by rw [decide_eq_true_iff]; exact hlt
      have a0 : (k : Int) < (t.es.length : Int) := by omega
      have a1 : (0 : Int) ≤ (k : Int) := by omega
      obtain ⟨x, hx⟩ : ∃ x, t.es[k]? = some x := ⟨_, List.getElem?_eq_getElem hlt⟩
      obtain ⟨ea', ec', en, _, zE⟩ := HZ.out _ B3.out
      injection en with en1 en2 en3
      subst en1
      clear en2 en3
      obtain ⟨b, o, rfl, y0⟩ := zE k x hx
      clear zE
      by_cases hb : 99 < x
      · have d5 : decide (99 < x) = true := decide_eq_true hb
        clear hx hJ
        go_wp2_with fail
        refine (HL.out _ B3.out).mono ?_
        rintro e w5 ⟨rfl, b5⟩
        have B5 := Lib.hid b5
        clear b5
        go_wp2_with fail
        go_ret
        exact ⟨rfl, bx_trans B5.out⟩
      · have d5 : decide (99 < x) = false := decide_eq_false hb
        have HJ := Lib.hid (show ∀ j y, j < k + 1 → t.es[j]? = some y → y ≤ 99 from fun j y hj hy => by
          by_cases e : j = k
          · subst e; rw [hx] at hy; injection hy with hy; omega
          · exact hJ.out j y (by omega) hy)
        clear hx hJ
        go_wp2_with fail
        exact ⟨⟨k + 1, by omega, by go_num, by first | trivial | rfl, HJ⟩, by simp [intOf]; omega⟩
    · have d4 : decide (k < t.es.length) = false := by rw [decide_eq_false_iff_not]; exact hlt
      have h99 : ∀ x ∈ t.es, x ≤ 99 := fun x hx => by
        obtain ⟨j, hj, rfl⟩ := List.getElem_of_mem hx
        exact hJ.out j _ (by omega) (List.getElem?_eq_getElem hj)
      have HN := Lib.hid (HNN.out h99)
      have HTf := Lib.hid (HTK.out h99)
      have H99 := Lib.hid h99
      clear hJ h99 HNN HTK
      go_wp2_with fail
      clear c0 c1 c2 c3
      refine wp_cutX (fun a a' w' => ∃ g, (∃ z0 z1 z2 z3 z4 z5 : Value, a' = (((((((a.put (some 55) z0).put (some 56) z1).put (some 57) z2).put (some 54) z3).put (some 58) z4).put (some 59) z5).put (some 8) (.pointer (some ⟨g, 0, none⟩))).put (some 9) (.int .i64 0)) ∧ LV w' g t fal ∧ Below (bx w (.slice ra t.rs.length rc) (.slice ca t.cs.length cc) (.slice na t.ns.length nc) (.slice ea t.es.length ec)).heap.size (bx w (.slice ra t.rs.length rc) (.slice ca t.cs.length cc) (.slice na t.ns.length nc) (.slice ea t.es.length ec)) w') ?reg8 ?rest8
      case reg8 => as_aux_lemma =>
          refine region_B (S := fun w' : World => (w'.cell? ⟨w.heap.size, 0, none⟩ = some (.slice ra t.rs.length rc) ∧ w'.cell? ⟨w.heap.size, 1, none⟩ = some (.slice ca t.cs.length cc) ∧ w'.cell? ⟨w.heap.size, 2, none⟩ = some (.slice na t.ns.length nc) ∧ w'.cell? ⟨w.heap.size, 3, none⟩ = some (.slice ea t.es.length ec))) 7 (by kernel_rfl) (HC.out _ B3.out.drew) (fun hSS => ?_)
          show wpAnyB _ _ _ _ _ 7 8 #[false, false, false, false, false, false, false, false] _ _
          refine takeB (i := 0) (d := (some 55)) (v := _) (l' := #[true, false, false, false, false, false, false, false]) (by rw [List.getElem?_toArray]; rfl) rfl (by kernel_rfl) (by kernel_rfl) (by kernel_rfl) (by kernel_rfl) (by kernel_rfl) rfl (fun _ _ _ h => h) (Or.inl ⟨by rfl, fun w' hSw => by (try dsimp only at hSw); go_simp; try with_reducible rfl⟩) hSS ?_
          simp only [Act.put, List.setIfInBounds_toArray, List.set_cons_zero, List.set_cons_succ]
          refine comeB (i := 1) (l' := #[true, true, false, false, false, false, false, false]) (by rw [List.getElem?_toArray]; rfl) (by kernel_rfl) rfl (fun K' hK => ?_)
          go_simp
          have hk8 : Bk (w3.drew.alloc (.cells (madeCells #[.bool false] 100) 4)) w3.heap.size 4 (madeCells #[.bool false] 100) := Bk.made w3.drew _ _
          have b8 := B3.out.drew.alloc B3.out.drew.size (.cells (madeCells #[.bool false] 100) 4)
          refine hK.out _ _ (Or.inr (HC.out _ b8)) (fun hOr => ?_)
          replace hSS := hOr.resolve_left (by decide)
          try simp only [Act.put, List.setIfInBounds_toArray, List.set_cons_zero, List.set_cons_succ]
          refine comeB (i := 2) (l' := #[true, true, true, false, false, false, false, false]) (by rw [List.getElem?_toArray]; rfl) (by kernel_rfl) rfl (fun K' hK => ?_)
          go_simp
          go_at_call 10; refine (HN.out _ b8 _ _ (fal_bv hk8) fal_len).mono ?_; rintro e w9 ⟨⟨g, rfl, hLV⟩, _, b9⟩
          refine hK.out _ _ (Or.inr (HC.out _ b9)) (fun hOr => ?_)
          replace hSS := hOr.resolve_left (by decide)
          try simp only [Act.put, List.setIfInBounds_toArray, List.set_cons_zero, List.set_cons_succ]
          refine pureB (i := 3) (d := (some 54)) (v := _) (l' := #[true, true, true, true, false, false, false, false]) (by rw [List.getElem?_toArray]; rfl) rfl (by kernel_rfl) (by kernel_rfl) (by kernel_rfl) (by decide) rfl (fun _ _ _ h => h) (Or.inl ⟨by rfl, fun w' _ => by go_simp; try with_reducible rfl⟩) (Or.inr hSS) ?_
          simp only [Act.put, List.setIfInBounds_toArray, List.set_cons_zero, List.set_cons_succ]
          refine pureB (i := 4) (d := (some 58)) (v := _) (l' := #[true, true, true, true, true, false, false, false]) (by rw [List.getElem?_toArray]; rfl) rfl (by kernel_rfl) (by kernel_rfl) (by kernel_rfl) (by decide) rfl (fun _ _ _ h => h) (Or.inl ⟨by rfl, fun w' _ => by go_simp; try with_reducible rfl⟩) (Or.inr hSS) ?_
          simp only [Act.put, List.setIfInBounds_toArray, List.set_cons_zero, List.set_cons_succ]
          refine pureB (i := 5) (d := (some 59)) (v := _) (l' := #[true, true, true, true, true, true, false, false]) (by rw [List.getElem?_toArray]; rfl) rfl (by kernel_rfl) (by kernel_rfl) (by kernel_rfl) (by decide) rfl (fun _ _ _ h => h) (Or.inl ⟨by rfl, fun w' _ => by go_simp; try with_reducible rfl⟩) (Or.inr hSS) ?_
          simp only [Act.put, List.setIfInBounds_toArray, List.set_cons_zero, List.set_cons_succ]
          refine pureB (i := 6) (d := (some 8)) (v := _) (l' := #[true, true, true, true, true, true, true, false]) (by rw [List.getElem?_toArray]; rfl) rfl (by kernel_rfl) (by kernel_rfl) (by kernel_rfl) (by decide) rfl (fun _ _ _ h => h) (Or.inl ⟨by rfl, fun w' _ => by go_simp; try with_reducible rfl⟩) (Or.inr hSS) ?_
          simp only [Act.put, List.setIfInBounds_toArray, List.set_cons_zero, List.set_cons_succ]
          refine comeB (i := 7) (l' := #[true, true, true, true, true, true, true, true]) (by rw [List.getElem?_toArray]; rfl) (by kernel_rfl) rfl (fun K' hK => ?_)
          go_simp
          refine hK.out _ _ (Or.inl rfl) (fun _ => ?_)
          try simp only [Act.put, List.setIfInBounds_toArray, List.set_cons_zero, List.set_cons_succ]
          refine wpAnyB_done (by kernel_rfl) ?_ _
          exact ⟨g, ⟨_, _, _, _, _, _, rfl⟩, hLV, b9⟩
      case rest8 =>
        rintro a' w5 ⟨g, ⟨z0, z1, z2, z3, z4, z5, rfl⟩, hLV, b5⟩
        have L5 := Lib.hid hLV
        have B5 := Lib.hid b5
        have hk6 : Bk (w5.alloc (.cells (madeCells #[.bool false] 100) 4)) w5.heap.size 4 (bos fal) := by
          have := Bk.made w5 4 (madeCells #[.bool false] 100)
          rw [made_bos] at this
          rwa [made_bos]
        have b6 := b5.alloc b5.size (.cells (madeCells #[.bool false] 100) 4)
        have L6 := Lib.hid (L5.out.below ((Below.refl w5.heap.size w5).alloc (Nat.le_refl _) (.cells (madeCells #[.bool false] 100) 4)))
        have b6l := Lib.hid (show Below w5.heap.size (w5.alloc (.cells (madeCells #[.bool false] 100) 4)) (w5.alloc (.cells (madeCells #[.bool false] 100) 4)) from Below.refl _ _)
        obtain ⟨w6, hw6⟩ : ∃ w6, w5.alloc (.cells (madeCells #[.bool false] 100) 4) = w6 := ⟨_, rfl⟩
        rw [hw6] at hk6 b6 L6 b6l
        have HK6 := Lib.hid hk6
        have B6 := Lib.hid b6
        have HW6 := Lib.hid hw6
        have hD6 := HDD.out _ b6
        have HCP := Lib.hid (show 0 < ((dr.take 100).map Value.bool).length → ((some ⟨w5.heap.size, 0, none⟩ : Option Addr) = some ⟨w5.heap.size, 0, none⟩ ∧ ∃ ad, da = some ad ∧ ∀ j v, ((dr.take 100).map Value.bool)[j]? = some v → w6.cell? (ad.add j) = some v) from fun hpos => by
          refine ⟨rfl, ?_⟩
          obtain ⟨da', dc', en, _, hz⟩ := hD6
          injection en with en1 _ _
          subst en1
          rw [List.length_map, List.length_take] at hpos
          obtain ⟨x0, hx0⟩ : ∃ x, dr[0]? = some x := ⟨_, List.getElem?_eq_getElem (by omega)⟩
          obtain ⟨b, o, rfl, _⟩ := hz 0 x0 hx0
          refine ⟨_, rfl, fun j v hv => ?_⟩
          rw [List.getElem?_map] at hv
          cases hj : (dr.take 100)[j]? with
          | none => rw [hj] at hv; cases hv
          | some y =>
            rw [hj] at hv
            injection hv with hv
            subst hv
            rw [List.getElem?_take] at hj
            split at hj
            · obtain ⟨b', o', en2, h2⟩ := hz j y hj
              injection en2 with en2
              injection en2 with e1 e2
              subst e1
              subst e2
              rw [Go.WideShapes.add_plain]
              exact h2
            · cases hj)
        have HCN := Lib.hid (show ((dr.take 100).map Value.bool).length = Nat.min dr.length 100 from by rw [List.length_map, List.length_take, Nat.min_comm])
        have HCF := Lib.hid (show 0 + ((dr.take 100).map Value.bool).length ≤ (fal.map Value.bool).length from by rw [List.length_map, List.length_map, List.length_take, fal_len]; omega)
        have HCO := Lib.hid (show ∀ v ∈ (dr.take 100).map Value.bool, v.oneCell' = true from fun v hv => by obtain ⟨x, _, rfl⟩ := List.mem_map.1 hv; rfl)
        have b56 := Lib.hid (show Below w5.heap.size w5 w6 from by rw [← hw6]; exact (Below.refl w5.heap.size w5).alloc (Nat.le_refl _) _)
        clear hLV b5 hk6 b6 hw6 hD6
        try simp only [Act.put, List.setIfInBounds_toArray, List.set_cons_zero, List.set_cons_succ]
        go_upto_region 10 with fail
        rw [HW6.out]
        refine wp_cutX (fun a a' w' => (∃ z0 z1 z2 : Value, a' = ((a.put (some 61) z0).put (some 62) z1).put (some 63) z2) ∧ Bk w' w5.heap.size 4 (bos (cpB dr)) ∧ LV w' g t fal ∧ Below (bx w (.slice ra t.rs.length rc) (.slice ca t.cs.length cc) (.slice na t.ns.length nc) (.slice ea t.es.length ec)).heap.size (bx w (.slice ra t.rs.length rc) (.slice ca t.cs.length cc) (.slice na t.ns.length nc) (.slice ea t.es.length ec)) w') ?reg10 ?rest10
        case reg10 => as_aux_lemma =>
          go_wp2_with (refine wpList_copy_splice rfl (.tmp 61) (.tmp 62) 27 27 rfl 4 Tryd.underlying27 (by kernel_rfl) (some ⟨w5.heap.size, 0, none⟩) da 100 100 dr.length dc rfl rfl w5.heap.size 0 (fal.map Value.bool) 4 HK6.out ((dr.take 100).map Value.bool) HCN.out HCP.out HCF.out HCO.out w5.heap.size w6 b6l.out (Nat.le_refl _) ?_; intro w7 hcur hb7)
          refine ⟨?_, L5.out.below (b56.out.trans hb7), by have h9 := B6.out.trans (hb7.mono B5.out.size); rwa [World.size_alloc] at h9⟩
          have := hcur.out
          rw [cpB_splice] at this
          exact this
        case rest10 =>
          rintro a' w7 ⟨⟨z0, z1, z2, rfl⟩, hk7, hL7, b7⟩
          have V7 := Lib.hid (show BV w7 (.slice (some ⟨w5.heap.size, 0, none⟩) 100 100) (cpB dr) from by have := bv_of hk7; rwa [cpB_len] at this)
          have L7 := Lib.hid hL7
          have B7 := Lib.hid b7
          clear hk7 hL7 b7 HCP HCN HCF HCO HK6 HDD
          try simp only [Act.put, List.setIfInBounds_toArray, List.set_cons_zero, List.set_cons_succ]
          obtain ⟨sm, hsm⟩ : ∃ sm, cpB dr = sm := ⟨_, rfl⟩
          have SML := Lib.hid (show sm.length = 100 from by rw [← hsm]; exact cpB_len dr)
          rw [hsm] at V7
          clear hsm
          obtain ⟨c0, c1, c2, c3⟩ := HC.out _ B7.out
          go_wp2_with fail
          refine (HN.out _ B7.out _ _ V7.out SML.out).mono ?_
          rintro e w8 ⟨⟨g2, rfl, hL8⟩, s8, b8⟩
          have L8 := Lib.hid (L7.out.below s8)
          have M8 := Lib.hid hL8
          have V8 := Lib.hid (V7.out.below s8)
          have B8 := Lib.hid b8
          clear hL8 s8 b8 c0 c1 c2 c3 L7 V7 L6
          go_wp2_with fail
          refine (HTf.out fal fal_len s h1 _ B8.out g L8.out).mono ?_
          rintro e w9 ⟨hP, s9, b9⟩
          have L9 := Lib.hid (L8.out.below s9)
          have M9 := Lib.hid (M8.out.below s9)
          have V9 := Lib.hid (V8.out.below s9)
          have B9 := Lib.hid b9
          clear s9 b9 L8 M8 V8
          cases hr : tok t fal s.data.toList with
          | bad er q =>
            obtain ⟨he9, hql, hlon⟩ := HErr.out er q hr
            subst he9
            rw [hr] at hP
            have hP1 : e = .returned (.tuple #[.slice none 0 0, .int .i64 (q : Nat), .int .i64 9]) := hP
            subst hP1
            have hmp := HMap.out sm
            rw [hr] at hmp
            have HMP := Lib.hid hmp
            rw [HBe.out] at hql
            have q0 : decide ((s.size : Int) < (q : Int)) = false := decide_eq_false (by omega)
            have q00 : decide (s.size < q) = false := decide_eq_false (by omega)
            have q1 : decide ((q : Int) < 0) = false := decide_eq_false (by omega)
            have q2 : (q : Int) ≤ (s.size : Int) := by omega
            have HLon := Lib.hid hlon
            have hqs : (s.extract 0 q).size = q := by rw [ByteArray.size_extract]; omega
            have HQS := Lib.hid hqs
            have HE2 := Lib.hid (HErr2.out q (by omega))
            have HT3 := Lib.hid (HTf.out fal fal_len (s.extract 0 q) (by rw [hqs]; omega))

            obtain ⟨tx, htx⟩ : ∃ tx, s.extract 0 q = tx := ⟨_, rfl⟩
            rw [htx] at HT3 HE2 HQS
            clear hr hP hmp hlon hqs
            as_aux_lemma =>
            go_wp2_with fail
            refine (HTf.out sm SML.out s h1 _ B9.out g2 M9.out).mono ?_
            rintro e w10 ⟨hP, s10, b10⟩
            have hP2 : e = .returned (.tuple #[.slice none 0 0, .int .i64 (q : Nat), .int .i64 9]) := by rw [HMP.out] at hP; exact hP
            subst hP2
            have L10 := Lib.hid (L9.out.below s10)
            have B10 := Lib.hid b10
            clear s10 b10 hP
            go_wp2_with fail
            refine (HLO.out _ B10.out g L10.out q).mono ?_
            rintro e w11 ⟨he, s11, b11⟩
            rw [HLon.out] at he
            have he2 : e = .returned (.tuple #[.int .i64 (-1), .int .i64 0]) := he
            subst he2
            have L11 := Lib.hid (L10.out.below s11)
            have B11 := Lib.hid b11
            clear s11 b11 he
            go_wp2_with fail
            refine (HT3.out _ B11.out g L11.out).mono ?_
            rintro e w12 ⟨hP, s12, b12⟩
            have B12 := Lib.hid b12
            clear s12 b12
            cases hr3 : tok t fal tx.data.toList with
            | bad er3 q3 =>
              obtain ⟨h9, hq3⟩ := HE2.out er3 q3 hr3
              subst h9
              rw [hr3] at hP
              have hP3 : e = .returned (.tuple #[.slice none 0 0, .int .i64 (q3 : Nat), .int .i64 9]) := hP
              subst hP3
              have q4 : decide ((q3 : Int) < (q : Int)) = true := decide_eq_true (by omega)
              have q5 : decide (q3 < q) = true := decide_eq_true hq3
              clear hP hr3
              go_wp2_with fail
              refine (HL.out _ B12.out).mono ?_
              rintro e w13 ⟨rfl, b13⟩
              have B13 := Lib.hid b13
              clear b13
              go_wp2_with fail
              go_ret
              exact ⟨rfl, bx_trans B13.out⟩
            | ok l3 =>
              rw [hr3] at hP
              obtain ⟨a3, k3, hP3, _⟩ := hP
              rw [HQS.out] at hP3
              subst hP3
              clear hr3
              go_wp2_with fail
              refine (HL.out _ B12.out).mono ?_
              rintro e w13 ⟨rfl, b13⟩
              have B13 := Lib.hid b13
              clear b13
              go_wp2_with fail
              go_ret
              exact ⟨rfl, bx_trans B13.out⟩
          | ok l =>
            have hmp := HMap.out sm
            rw [hr] at hP hmp
            obtain ⟨a1, k1, rfl, ho1⟩ := hP
            have HCh := Lib.hid (tok_ch hr)
            have HMP := Lib.hid hmp
            have T9 := Lib.hid (own_tka ho1)
            have q0 : decide ((s.size : Int) < (s.size : Int)) = false := decide_eq_false (by omega)
            have q1 : decide ((s.size : Int) < 0) = false := decide_eq_false (by omega)
            clear hr hmp ho1
            as_aux_lemma =>
            go_wp2_with fail
            refine (HTf.out sm SML.out s h1 _ B9.out g2 M9.out).mono ?_
            rintro e w10 ⟨hP, s10, b10⟩
            rw [HMP.out] at hP
            obtain ⟨a2, k2, rfl, ho2⟩ := hP
            have T10 := Lib.hid (T9.out.below s10)
            have U10 := Lib.hid (own_tka ho2)
            have V10 := Lib.hid (V9.out.below s10)
            have B10 := Lib.hid b10
            clear s10 b10 ho2 T9 V9 L9 M9
            go_wp2_with fail
            have HCt := Lib.hid (fun (W : World) (h : Below w10.heap.size w10 W) => HC.out W (B10.out.trans (h.mono B10.out.size)))
            have HZt := Lib.hid (fun (W : World) (h : Below w10.heap.size w10 W) => HZ.out W (B10.out.trans (h.mono B10.out.size)))
            have HLt := Lib.hid (fun (W : World) (h : Below w10.heap.size w10 W) => HL.out W (B10.out.trans (h.mono B10.out.size)))
            have HTt := Lib.hid (fun (W : World) (h : Below w10.heap.size w10 W) => T10.out.below h)
            have HUt := Lib.hid (fun (W : World) (h : Below w10.heap.size w10 W) => U10.out.below h)
            have HVt := Lib.hid (fun (W : World) (h : Below w10.heap.size w10 W) => V10.out.below h)
            have HStt := Lib.hid (fun (u : ByteArray) (hu : u.size ≤ 100) (W : World) (h : Below w10.heap.size w10 W) => (HST.out u hu W (B10.out.trans (h.mono B10.out.size))).mono fun e w' x' => show e = .returned (.int .i64 (stF t u.size 0 u.data.toList)) ∧ Below w10.heap.size w10 w' from ⟨x'.1, h.trans (x'.2.mono h.size)⟩)
            obtain ⟨LN, hLN⟩ : ∃ n, l.length = n := ⟨_, rfl⟩
            obtain ⟨MN, hMN⟩ : ∃ n, (l.filter (kp sm)).length = n := ⟨_, rfl⟩
            have HLN := Lib.hid hLN
            have HMN := Lib.hid hMN
            have hMl : MN ≤ LN := by rw [← hLN, ← hMN]; exact List.length_filter_le _ _
            have hLl : LN ≤ 100 := by rw [← hLN]; have := Ch.len HCh.out; rw [HBe.out] at this; omega
            rw [hLN, hMN]
            clear hLN hMN HC HZ HST T10 U10 V10 HLO HErr HErr2 HMap HTf HN B2 B3 HG HM
            have HI0 := Lib.hid (show ∃ pre rest : List (Int × Nat × Nat), l = pre ++ rest ∧ (0 : Nat) = pre.length ∧ (0 : Nat) = (pre.filter (kp sm)).length ∧ Ch t s.data.toList 0 rest from ⟨[], l, rfl, rfl, rfl, HCh.out⟩)
            have e00 : s.extract 0 0 = ⟨#[]⟩ := by
              apply ByteArray.ext
              apply Array.ext'
              rw [ext_data]
              simp
            go_loopw [23, 21, 22] (fun u v x wr => ∃ (i n p : Nat) (tx : ByteArray), i ≤ LN ∧ u = .int .i64 i ∧ v = .string tx ∧ x = .int .i64 n ∧ p ≤ s.size ∧ Hid (s.extract 0 p = tx) ∧ Hid (Below w10.heap.size w10 wr) ∧ Hid (∃ pre rest : List (Int × Nat × Nat), l = pre ++ rest ∧ i = pre.length ∧ n = (pre.filter (kp sm)).length ∧ Ch t s.data.toList p rest)) (fun u _ _ _ => LN - (intOf u).toNat)
            case atStart => exact ⟨0, 0, 0, ⟨#[]⟩, Nat.zero_le _, rfl, rfl, rfl, Nat.zero_le _, Lib.hid e00, Lib.hid (Below.refl _ _), HI0⟩
            case round =>
              clear e00
              obtain ⟨i, n, p, tx, hi, rfl, rfl, rfl, hp, hTX, hB, hI⟩ := hrel
              by_cases hlt2 : i < LN
              · as_aux_lemma =>
                have e1 : decide (i < LN) = true := decide_eq_true hlt2
                have i0 : (i : Int) < (LN : Int) := by omega
                obtain ⟨pre, rest, hl, hil, hnn, hch⟩ := hI.out
                obtain ⟨q, rest', rfl⟩ : ∃ q r, rest = q :: r := by
                  cases rest with
                  | nil => rw [hl, List.append_nil] at HLN; have := HLN.out; omega
                  | cons q r => exact ⟨q, r, rfl⟩
                have hqi : l[i]? = some q := by rw [hl, hil]; simp
                have hkind := hch.kind HMay.out
                have hstate := hch.state
                obtain ⟨kd, at_, n2⟩ := q
                obtain ⟨hat, _, hk0, hps, hpn, hn2, hch2⟩ := hch
                dsimp only at hat hk0 hpn hn2 hch2 hkind hstate
                have hat2 := hat.symm
                subst hat2
                clear hat
                obtain ⟨KD, hKD⟩ : ∃ KD : Nat, kd = (KD : Int) := ⟨kd.toNat, by omega⟩
                subst hKD
                have hk99 := H99.out _ hkind
                rw [HBe.out] at hpn hps
                obtain ⟨tx2, htx2⟩ : ∃ x, s.extract p (p + n2) = x := ⟨_, rfl⟩
                obtain ⟨tx3, htx3⟩ : ∃ x, s.extract 0 (p + n2) = x := ⟨_, rfl⟩
                have hz1 : tx.size = p := by rw [← hTX.out, ByteArray.size_extract]; omega
                have hz2 : tx2.size = n2 := by rw [← htx2, ByteArray.size_extract]; omega
                have hz3 : tx3.size = p + n2 := by rw [← htx3, ByteArray.size_extract]; omega
                have hda2 : tx2.data.toList = (s.data.toList.drop p).take n2 := by rw [← htx2, ext_data, Nat.add_sub_cancel_left]
                have hadd : ∀ wx, (Op.stringOp .add tx tx2).run Tryd.prog wx = .ok (.string tx3) wx := fun wx => by
                  have := run_string_add_sum (P := Tryd.prog) wx tx tx2 (by omega)
                  rw [this, ← hTX.out, ← htx2, ext_app s p n2 hpn, htx3]
                obtain ⟨ST, hST⟩ : ∃ q, stF t tx2.size 0 tx2.data.toList = q := ⟨_, rfl⟩
                have hs1 := hstate.1 tx2.size (by omega)
                rw [← hda2, hST] at hs1
                have hs2 : ST < t.ns.length := by rw [← hST]; exact stF_in HMay.out _ _ _ (by have := HMay.out.n0; omega)
                obtain ⟨SN, hSN⟩ : ∃ SN : Nat, ST = (SN : Int) := ⟨ST.toNat, by omega⟩
                subst hSN
                have hne := HMay.out.ne
                have hes : t.es[SN]? = some (KD : Int) := by
                  have hlt3 : SN < t.es.length := by omega
                  have := hs1.2
                  rw [show ((SN : Int)).toNat = SN from rfl, List.getD_eq_getElem?_getD, List.getElem?_eq_getElem hlt3, Option.getD_some] at this
                  rw [List.getElem?_eq_getElem hlt3, this]
                obtain ⟨tg, ha1, y0, y1, y2⟩ := HTt.out wr hB.out i _ hqi
                subst ha1
                dsimp only at y0 y1 y2
                rw [htx2] at y1
                have HTl := Lib.hid (fun (W : World) (h : Below w10.heap.size w10 W) => show W.cell? ⟨tg, i * 3, none⟩ = some (.int .i64 (KD : Int)) ∧ W.cell? ⟨tg, i * 3 + 1, none⟩ = some (.string tx2) ∧ W.cell? ⟨tg, i * 3 + 2, none⟩ = some (.int .i64 (p : Int)) from by
                  obtain ⟨tg', ha1, x0, x1, x2⟩ := HTt.out W h i _ hqi
                  injection ha1 with ha1
                  injection ha1 with ha1
                  subst ha1
                  dsimp only at x0 x1 x2
                  rw [htx2] at x1
                  exact ⟨x0, x1, x2⟩)
                have HSt := Lib.hid (fun (W : World) (h : Below w10.heap.size w10 W) => HStt.out tx2 (by omega) W h)
                rw [hST] at HSt
                have HSk' := Lib.hid (fun (kk : Nat) (h1 : p + n2 < kk) (h2 : kk ≤ s.size) (W : World) (h : Below w10.heap.size w10 W) => show Calls Tryd.prog 22 #[.agg #[.slice ra t.rs.length rc, .slice ca t.cs.length cc, .slice na t.ns.length nc, .slice ea t.es.length ec], .string (s.extract p kk)] W fun e w' => e = .returned (.int .i64 (stF t (s.extract p kk).size 0 (s.extract p kk).data.toList)) ∧ Below w10.heap.size w10 w' from HStt.out (s.extract p kk) (by rw [ByteArray.size_extract]; omega) W h)
                have HEn := Lib.hid (fun (kk : Nat) (h1 : p + n2 < kk) (h2 : kk ≤ s.size) => show ¬ Endd t (stF t (s.extract p kk).size 0 (s.extract p kk).data.toList) ∧ stF t (s.extract p kk).size 0 (s.extract p kk).data.toList < t.ns.length from by
                  have hsz : (s.extract p kk).size = kk - p := by rw [ByteArray.size_extract]; omega
                  rw [hsz, ext_data]
                  exact ⟨hstate.2 (kk - p) (kk - p) (by omega) (by rw [HBe.out]; omega) (Nat.le_refl _), stF_in HMay.out _ _ _ (by have := HMay.out.n0; omega)⟩)
                have HEs := Lib.hid hes
                have HZ2 := Lib.hid hz2
                have HZ3 := Lib.hid hz3
                have HTX3 := Lib.hid htx3
                have HX2 := Lib.hid htx2
                have HNE := Lib.hid hne
                have HI3 := Lib.hid (show ∃ pre2 rest2 : List (Int × Nat × Nat), l = pre2 ++ rest2 ∧ i + 1 = pre2.length ∧ (if sm.getD KD false = true then n else n + 1) = (pre2.filter (kp sm)).length ∧ Ch t s.data.toList (p + n2) rest2 from by
                  refine ⟨pre ++ [((KD : Int), p, n2)], rest', by rw [hl]; simp, by simp [← hil], ?_, hch2⟩
                  rw [List.filter_append, List.length_append, ← hnn]
                  by_cases hx : sm.getD KD false = true
                  · rw [if_pos hx, List.filter_cons_of_neg (by unfold kp; rw [show ((KD : Int), p, n2).1.toNat = KD from rfl, hx]; simp)]; simp
                  · rw [if_neg hx, List.filter_cons_of_pos (by unfold kp; rw [show ((KD : Int), p, n2).1.toNat = KD from rfl]; simpa using hx)]; simp)
                have HMq := Lib.hid (fun (hx : ¬ sm.getD KD false = true) => show (l.filter (kp sm))[n]? = some ((KD : Int), p, n2) from by
                  rw [hl, List.filter_append, List.filter_cons_of_pos (by unfold kp; rw [show ((KD : Int), p, n2).1.toNat = KD from rfl]; simpa using hx), hnn]
                  simp)
                have f1 : ((p : Int) == (tx.size : Int)) = true := by rw [beq_iff_eq, hz1]
                have f2 : ((p : Int) != (tx.size : Int)) = false := by simp [bne, f1]
                have f3 : (p == tx.size) = true := by rw [beq_iff_eq, hz1]
                have f4 : (p != tx.size) = false := by simp [bne, f3]
                have f5 : ¬ tx2.toList = [] := by
                  intro e
                  rw [ByteArray.toList_eq] at e
                  have := congrArg List.length e
                  rw [← Lib.size_eq, List.length_nil] at this
                  omega
                have f6 : tx2.toList.isEmpty = false := by simpa using f5
                have f7 : decide ((KD : Int) < 0) = false := decide_eq_false (by omega)
                have f8 : decide (99 < (KD : Int)) = false := decide_eq_false (by omega)
                have f9 : decide (99 < KD) = false := decide_eq_false (by omega)
                have k9 : KD ≤ 99 := by omega
                have hbtx : tx.size ≤ 100 := by omega
                have hbt3 : tx3.size ≤ 100 := by omega
                have hpn' : p + n2 ≤ s.size := hpn
                clear hl hil hnn hqi hkind hstate hch2 hz1 hz2 hz3 hda2 htx2 htx3 hST hs1 hs2 hne hes hk99 hI hk0 hps hpn hn2
                go_wp2_with fail
                clear f1 f2 f3 f4 f5 f6
                refine wp_cutX (fun a a' w' => (∃ z0 z1 z2 z3 z4 z5 z6 : Value, a' = ((((((((a.put (some 208) z0).put (some 209) z1).put (some 210) z2).put (some 211) z3).put (some 212) z4).put (some 213) z5).put (some 214) z6).put (some 24) (.int .i64 (SN : Int)))) ∧ Below w10.heap.size w10 w') ?reg32 ?rest32
                case reg32 => as_aux_lemma =>
                  refine region_B (S := fun w' : World => ((w'.cell? ⟨w.heap.size, 0, none⟩ = some (.slice ra t.rs.length rc) ∧ w'.cell? ⟨w.heap.size, 1, none⟩ = some (.slice ca t.cs.length cc) ∧ w'.cell? ⟨w.heap.size, 2, none⟩ = some (.slice na t.ns.length nc) ∧ w'.cell? ⟨w.heap.size, 3, none⟩ = some (.slice ea t.es.length ec)) ∧ w'.cell? ⟨tg, i * 3 + 1, none⟩ = some (.string tx2))) 7 (by kernel_rfl) ⟨HCt.out _ hB.out.drew, y1⟩ (fun hSS => ?_)
                  show wpAnyB _ _ _ _ _ 7 8 #[false, false, false, false, false, false, false, false] _ _
                  refine takeB (i := 0) (d := (some 208)) (v := _) (l' := #[true, false, false, false, false, false, false, false]) (by rw [List.getElem?_toArray]; rfl) rfl (by kernel_rfl) (by kernel_rfl) (by kernel_rfl) (by kernel_rfl) (by kernel_rfl) rfl (fun _ _ _ h => h) (Or.inl ⟨by rfl, fun w' hSw => by (try dsimp only at hSw); go_simp; try with_reducible rfl⟩) hSS ?_
                  simp only [Act.put, List.setIfInBounds_toArray, List.set_cons_zero, List.set_cons_succ]
                  refine pureB (i := 1) (d := (some 209)) (v := _) (l' := #[true, true, false, false, false, false, false, false]) (by rw [List.getElem?_toArray]; rfl) rfl (by kernel_rfl) (by kernel_rfl) (by kernel_rfl) (by decide) rfl (fun _ _ _ h => h) (Or.inl ⟨by rfl, fun w' _ => by go_simp; try with_reducible rfl⟩) (Or.inr hSS) ?_
                  simp only [Act.put, List.setIfInBounds_toArray, List.set_cons_zero, List.set_cons_succ]
                  refine pureB (i := 2) (d := (some 210)) (v := _) (l' := #[true, true, true, false, false, false, false, false]) (by rw [List.getElem?_toArray]; rfl) rfl (by kernel_rfl) (by kernel_rfl) (by kernel_rfl) (by decide) rfl (fun _ _ _ h => h) (Or.inl ⟨by rfl, fun w' _ => by go_simp; try with_reducible rfl⟩) (Or.inr hSS) ?_
                  simp only [Act.put, List.setIfInBounds_toArray, List.set_cons_zero, List.set_cons_succ]
                  refine pureB (i := 3) (d := (some 211)) (v := _) (l' := #[true, true, true, true, false, false, false, false]) (by rw [List.getElem?_toArray]; rfl) rfl (by kernel_rfl) (by kernel_rfl) (by kernel_rfl) (by decide) rfl (fun _ _ _ h => h) (Or.inl ⟨by rfl, fun w' _ => by go_simp; try with_reducible rfl⟩) (Or.inr hSS) ?_
                  simp only [Act.put, List.setIfInBounds_toArray, List.set_cons_zero, List.set_cons_succ]
                  refine pureB (i := 4) (d := (some 212)) (v := _) (l' := #[true, true, true, true, true, false, false, false]) (by rw [List.getElem?_toArray]; rfl) rfl (by kernel_rfl) (by kernel_rfl) (by kernel_rfl) (by decide) rfl (fun _ _ _ h => h) (Or.inl ⟨by rfl, fun w' _ => by go_simp; try with_reducible rfl⟩) (Or.inr hSS) ?_
                  simp only [Act.put, List.setIfInBounds_toArray, List.set_cons_zero, List.set_cons_succ]
                  refine takeB (i := 5) (d := (some 213)) (v := _) (l' := #[true, true, true, true, true, true, false, false]) (by rw [List.getElem?_toArray]; rfl) rfl (by kernel_rfl) (by kernel_rfl) (by kernel_rfl) (by kernel_rfl) (by kernel_rfl) rfl (fun _ _ _ h => h) (Or.inl ⟨by rfl, fun w' hSw => by (try dsimp only at hSw); go_simp; try with_reducible rfl⟩) hSS ?_
                  simp only [Act.put, List.setIfInBounds_toArray, List.set_cons_zero, List.set_cons_succ]
                  refine comeB (i := 6) (l' := #[true, true, true, true, true, true, true, false]) (by rw [List.getElem?_toArray]; rfl) (by kernel_rfl) rfl (fun K' hK => ?_)
                  go_simp
                  go_at_call 22; refine (HSt.out _ hB.out.drew).mono ?_; rintro e w9 ⟨rfl, b9⟩
                  refine hK.out _ _ (Or.inr ⟨HCt.out _ b9, (HTl.out _ b9).2.1⟩) (fun hOr => ?_)
                  replace hSS := hOr.resolve_left (by decide)
                  try simp only [Act.put, List.setIfInBounds_toArray, List.set_cons_zero, List.set_cons_succ]
                  refine comeB (i := 7) (l' := #[true, true, true, true, true, true, true, true]) (by rw [List.getElem?_toArray]; rfl) (by kernel_rfl) rfl (fun K' hK => ?_)
                  go_simp
                  refine hK.out _ _ (Or.inl rfl) (fun _ => ?_)
                  try simp only [Act.put, List.setIfInBounds_toArray, List.set_cons_zero, List.set_cons_succ]
                  refine wpAnyB_done (by kernel_rfl) ?_ _
                  exact ⟨⟨_, _, _, _, _, _, _, rfl⟩, b9⟩
                case rest32 =>
                  rintro a' w11 ⟨⟨z0, z1, z2, z3, z4, z5, z6, rfl⟩, b11⟩
                  have hB11 := Lib.hid b11
                  obtain ⟨x0, x1, x2⟩ := HTl.out _ b11
                  obtain ⟨c0, c1, c2, c3⟩ := HCt.out _ b11
                  obtain ⟨ea', ec', en, _, zE⟩ := HZt.out _ b11
                  injection en with en1 en2 en3
                  subst en1
                  subst en3
                  clear en2
                  obtain ⟨eb, eo, hee, x3⟩ := zE SN _ HEs.out
                  subst hee
                  clear zE b11
                  have s0 : (SN : Int) < (t.es.length : Int) := by have := (List.getElem?_eq_some_iff.1 HEs.out).1; omega
                  have s1 : decide ((SN : Int) < 0) = false := decide_eq_false (by omega)
                  try simp only [Act.put, List.setIfInBounds_toArray, List.set_cons_zero, List.set_cons_succ]
                  go_wp2_with fail
                  go_quiet (fail)
                  go_wp2_with fail
                  clear c0 c1 c2 c3 x0 x1 x2 x3
                  have hb11 := hB11.out
                  go_loopw [25] (fun u wz => ∃ kk : Nat, p + n2 + 1 ≤ kk ∧ kk ≤ s.size + 1 ∧ u = .int .i64 kk ∧ Hid (Below w10.heap.size w10 wz)) (fun u _ => s.size + 1 - (intOf u).toNat)
                  case atStart => exact ⟨p + n2 + 1, Nat.le_refl _, by omega, by have := HZ3.out; congr 1; omega, Lib.hid (below_drewN hb11 _)⟩
                  case round =>
                    clear hb11
                    obtain ⟨kk, hk1, hk2, rfl, hB5⟩ := hrel
                    by_cases hle : kk ≤ s.size
                    · as_aux_lemma =>
                      have e4 : decide (kk ≤ s.size) = true := decide_eq_true hle
                      have e5 : (kk : Int) ≤ (s.size : Int) := by omega
                      have e6 : (p : Int) ≤ (kk : Int) := by omega
                      have HSk := Lib.hid (HSk'.out kk (by omega) hle)
                      have hEn := HEn.out kk (by omega) hle
                      obtain ⟨ST2, hST2⟩ : ∃ q, stF t (s.extract p kk).size 0 (s.extract p kk).data.toList = q := ⟨_, rfl⟩
                      rw [hST2] at HSk hEn
                      clear hST2
                      have HEn2 := Lib.hid hEn
                      clear hEn
                      go_wp2_with fail
                      refine wp_cutX (fun a a' w' => (∃ z0 z1 z2 z3 z4 z5 z6 z7 z8 z9 : Value, a' = (((((((((((a.put (some 239) z0).put (some 240) z1).put (some 241) z2).put (some 242) z3).put (some 243) z4).put (some 244) z5).put (some 245) z6).put (some 246) z7).put (some 247) z8).put (some 248) z9).put (some 26) (.int .i64 ST2))) ∧ Below w10.heap.size w10 w') ?reg38 ?rest38
                      case reg38 => as_aux_lemma =>
                        refine region_B (S := fun w' : World => ((w'.cell? ⟨w.heap.size, 0, none⟩ = some (.slice ra t.rs.length rc) ∧ w'.cell? ⟨w.heap.size, 1, none⟩ = some (.slice ca t.cs.length cc) ∧ w'.cell? ⟨w.heap.size, 2, none⟩ = some (.slice na t.ns.length nc) ∧ w'.cell? ⟨w.heap.size, 3, none⟩ = some (.slice (some ⟨eb, eo, none⟩) t.es.length ec)) ∧ w'.cell? ⟨tg, i * 3 + 2, none⟩ = some (.int .i64 (p : Int)))) 10 (by kernel_rfl) ⟨HCt.out _ hB5.out.drew, (HTl.out _ hB5.out.drew).2.2⟩ (fun hSS => ?_)
                        show wpAnyB _ _ _ _ _ 10 11 #[false, false, false, false, false, false, false, false, false, false, false] _ _
                        refine takeB (i := 0) (d := (some 239)) (v := _) (l' := #[true, false, false, false, false, false, false, false, false, false, false]) (by rw [List.getElem?_toArray]; rfl) rfl (by kernel_rfl) (by kernel_rfl) (by kernel_rfl) (by kernel_rfl) (by kernel_rfl) rfl (fun _ _ _ h => h) (Or.inl ⟨by rfl, fun w' hSw => by (try dsimp only at hSw); go_simp; try with_reducible rfl⟩) hSS ?_
                        simp only [Act.put, List.setIfInBounds_toArray, List.set_cons_zero, List.set_cons_succ]
                        refine pureB (i := 1) (d := (some 240)) (v := _) (l' := #[true, true, false, false, false, false, false, false, false, false, false]) (by rw [List.getElem?_toArray]; rfl) rfl (by kernel_rfl) (by kernel_rfl) (by kernel_rfl) (by decide) rfl (fun _ _ _ h => h) (Or.inl ⟨by rfl, fun w' _ => by go_simp; try with_reducible rfl⟩) (Or.inr hSS) ?_
                        simp only [Act.put, List.setIfInBounds_toArray, List.set_cons_zero, List.set_cons_succ]
                        refine pureB (i := 2) (d := (some 241)) (v := _) (l' := #[true, true, true, false, false, false, false, false, false, false, false]) (by rw [List.getElem?_toArray]; rfl) rfl (by kernel_rfl) (by kernel_rfl) (by kernel_rfl) (by decide) rfl (fun _ _ _ h => h) (Or.inl ⟨by rfl, fun w' _ => by go_simp; try with_reducible rfl⟩) (Or.inr hSS) ?_
                        simp only [Act.put, List.setIfInBounds_toArray, List.set_cons_zero, List.set_cons_succ]
                        refine pureB (i := 3) (d := (some 242)) (v := _) (l' := #[true, true, true, true, false, false, false, false, false, false, false]) (by rw [List.getElem?_toArray]; rfl) rfl (by kernel_rfl) (by kernel_rfl) (by kernel_rfl) (by decide) rfl (fun _ _ _ h => h) (Or.inl ⟨by rfl, fun w' _ => by go_simp; try with_reducible rfl⟩) (Or.inr hSS) ?_
                        simp only [Act.put, List.setIfInBounds_toArray, List.set_cons_zero, List.set_cons_succ]
                        refine pureB (i := 4) (d := (some 243)) (v := _) (l' := #[true, true, true, true, true, false, false, false, false, false, false]) (by rw [List.getElem?_toArray]; rfl) rfl (by kernel_rfl) (by kernel_rfl) (by kernel_rfl) (by decide) rfl (fun _ _ _ h => h) (Or.inl ⟨by rfl, fun w' _ => by go_simp; try with_reducible rfl⟩) (Or.inr hSS) ?_
                        simp only [Act.put, List.setIfInBounds_toArray, List.set_cons_zero, List.set_cons_succ]
                        refine pureB (i := 5) (d := (some 244)) (v := _) (l' := #[true, true, true, true, true, true, false, false, false, false, false]) (by rw [List.getElem?_toArray]; rfl) rfl (by kernel_rfl) (by kernel_rfl) (by kernel_rfl) (by decide) rfl (fun _ _ _ h => h) (Or.inl ⟨by rfl, fun w' _ => by go_simp; try with_reducible rfl⟩) (Or.inr hSS) ?_
                        simp only [Act.put, List.setIfInBounds_toArray, List.set_cons_zero, List.set_cons_succ]
                        refine takeB (i := 6) (d := (some 245)) (v := _) (l' := #[true, true, true, true, true, true, true, false, false, false, false]) (by rw [List.getElem?_toArray]; rfl) rfl (by kernel_rfl) (by kernel_rfl) (by kernel_rfl) (by kernel_rfl) (by kernel_rfl) rfl (fun _ _ _ h => h) (Or.inl ⟨by rfl, fun w' hSw => by (try dsimp only at hSw); go_simp; try with_reducible rfl⟩) hSS ?_
                        simp only [Act.put, List.setIfInBounds_toArray, List.set_cons_zero, List.set_cons_succ]
                        refine pureB (i := 7) (d := (some 246)) (v := _) (l' := #[true, true, true, true, true, true, true, true, false, false, false]) (by rw [List.getElem?_toArray]; rfl) rfl (by kernel_rfl) (by kernel_rfl) (by kernel_rfl) (by decide) rfl (fun _ _ _ h => h) (Or.inl ⟨by rfl, fun w' _ => by go_simp; try with_reducible rfl⟩) (Or.inr hSS) ?_
                        simp only [Act.put, List.setIfInBounds_toArray, List.set_cons_zero, List.set_cons_succ]
                        refine comeB (i := 8) (l' := #[true, true, true, true, true, true, true, true, true, false, false]) (by rw [List.getElem?_toArray]; rfl) (by kernel_rfl) rfl (fun K' hK => ?_)
                        go_simp
                        refine hK.out _ _ (Or.inr ⟨HCt.out _ hB5.out.drew, (HTl.out _ hB5.out.drew).2.2⟩) (fun hOr => ?_)
                        replace hSS := hOr.resolve_left (by decide)
                        try simp only [Act.put, List.setIfInBounds_toArray, List.set_cons_zero, List.set_cons_succ]
                        refine comeB (i := 9) (l' := #[true, true, true, true, true, true, true, true, true, true, false]) (by rw [List.getElem?_toArray]; rfl) (by kernel_rfl) rfl (fun K' hK => ?_)
                        go_simp
                        go_at_call 22; refine (HSk.out _ hB5.out.drew).mono ?_; rintro e w9 ⟨rfl, b9⟩
                        refine hK.out _ _ (Or.inr ⟨HCt.out _ b9, (HTl.out _ b9).2.2⟩) (fun hOr => ?_)
                        replace hSS := hOr.resolve_left (by decide)
                        try simp only [Act.put, List.setIfInBounds_toArray, List.set_cons_zero, List.set_cons_succ]
                        refine comeB (i := 10) (l' := #[true, true, true, true, true, true, true, true, true, true, true]) (by rw [List.getElem?_toArray]; rfl) (by kernel_rfl) rfl (fun K' hK => ?_)
                        go_simp
                        refine hK.out _ _ (Or.inl rfl) (fun _ => ?_)
                        try simp only [Act.put, List.setIfInBounds_toArray, List.set_cons_zero, List.set_cons_succ]
                        refine wpAnyB_done (by kernel_rfl) ?_ _
                        exact ⟨⟨_, _, _, _, _, _, _, _, _, _, rfl⟩, b9⟩
                      case rest38 =>
                        rintro a' w12 ⟨⟨z0, z1, z2, z3, z4, z5, z6, z7, z8, z9, rfl⟩, b12⟩
                        have hB12 := Lib.hid b12
                        try simp only [Act.put, List.setIfInBounds_toArray, List.set_cons_zero, List.set_cons_succ]
                        by_cases hneg : ST2 < 0
                        · have g1 : decide (0 ≤ ST2) = false := decide_eq_false (by omega)
                          clear b12
                          go_wp2_with fail
                          exact ⟨⟨kk + 1, by omega, by omega, by go_num, hB12⟩, by simp [intOf]; omega⟩
                        · have g1 : decide (0 ≤ ST2) = true := decide_eq_true (by omega)
                          obtain ⟨SM, hSM⟩ : ∃ SM : Nat, ST2 = (SM : Int) := ⟨ST2.toNat, by omega⟩
                          subst hSM
                          have hE := HEn2.out
                          have hsm2 : SM < t.es.length := by have := HNE.out; omega
                          obtain ⟨y, hy⟩ : ∃ y, t.es[SM]? = some y := ⟨_, List.getElem?_eq_getElem hsm2⟩
                          have hyn : ¬ 0 ≤ y := fun h => hE.1 ⟨by omega, by
                            rw [show ((SM : Int)).toNat = SM from rfl, List.getD_eq_getElem?_getD, hy]; exact h⟩
                          have g2 : decide (0 ≤ y) = false := decide_eq_false hyn
                          obtain ⟨c0, c1, c2, c3⟩ := HCt.out _ b12
                          obtain ⟨ea', ec', en, _, zE⟩ := HZt.out _ b12
                          injection en with en1 en2 en3
                          subst en1
                          subst en3
                          clear en2
                          obtain ⟨eb', eo', hee', x3⟩ := zE SM _ hy
                          injection hee' with hee'
                          injection hee' with hq1 hq2
                          subst hq1
                          subst hq2
                          have s5 : (SM : Int) < (t.es.length : Int) := by omega
                          clear zE b12 hy hE hyn
                          go_wp2_with fail
                          exact ⟨⟨kk + 1, by omega, by omega, by go_num, hB12⟩, by simp [intOf]; omega⟩
                    · as_aux_lemma =>
                      have e4 : decide (kk ≤ s.size) = false := decide_eq_false hle
                      obtain ⟨x0, x1, x2⟩ := HTl.out _ hB5.out
                      obtain ⟨vb, vc, vn, _, zV⟩ := HVt.out _ hB5.out
                      obtain ⟨xv, hxv⟩ : ∃ x, sm[KD]? = some x := ⟨_, List.getElem?_eq_getElem (by rw [SML.out]; omega)⟩
                      obtain ⟨vg, vo, hve, v0⟩ := zV KD xv hxv
                      injection vn with vn1 vn4 vn5
                      clear vn4 vn5
                      rw [hve] at vn1
                      injection vn1 with vn1
                      injection vn1 with vn1 vn2
                      subst vn1
                      subst vn2
                      rw [Nat.zero_add] at v0
                      have hgd : sm.getD KD false = xv := by rw [List.getD_eq_getElem?_getD, hxv]; rfl
                      have k10 : (KD : Int) < 100 := by omega
                      have hi3 := HI3.out
                      rw [hgd] at hi3
                      have hmq := HMq.out
                      rw [hgd] at hmq
                      cases xv with
                      | true =>
                        rw [if_pos rfl] at hi3
                        have HI4 := Lib.hid hi3
                        clear zV hxv hve hgd hi3 hmq
                        go_wp2_with fail
                        exact ⟨⟨i + 1, n, p + n2, tx3, by omega, by go_num, rfl, rfl, hpn', HTX3, hB5, HI4⟩, by simp [intOf]; omega⟩
                      | false =>
                        rw [if_neg (by simp)] at hi3
                        have HI4 := Lib.hid hi3
                        have hmn := hmq (by simp)
                        have hnl : n < MN := by rw [← HMN.out]; exact (List.getElem?_eq_some_iff.1 hmn).1
                        obtain ⟨mg, ha2, u0, u1, u2⟩ := HUt.out _ hB5.out n _ hmn
                        subst ha2
                        dsimp only at u0 u1 u2
                        rw [HX2.out] at u1
                        have n0 : (n : Int) < (MN : Int) := by omega
                        have n1 : decide (MN ≤ n) = false := decide_eq_false (by omega)
                        have n2' : decide ((MN : Int) ≤ (n : Int)) = false := decide_eq_false (by omega)
                        clear zV hxv hve hgd hi3 hmq hmn
                        go_wp2_with fail
                        go_quiet (fail)
                        go_wp2_with fail
                        exact ⟨⟨i + 1, n + 1, p + n2, tx3, by omega, by go_num, rfl, by go_num, hpn', HTX3, Lib.hid (below_drewN hB5.out _), HI4⟩, by simp [intOf]; omega⟩
              · as_aux_lemma =>
                have e1 : decide (i < LN) = false := decide_eq_false hlt2
                obtain ⟨pre, rest, hl, hil, hnn, hch⟩ := hI.out
                have hr0 : rest = [] := by
                  have h9 := HLN.out
                  rw [hl, List.length_append] at h9
                  exact List.eq_nil_of_length_eq_zero (by omega)
                subst hr0
                have hps : p = s.size := by have : p = s.data.toList.length := hch; rw [HBe.out] at this; exact this
                rw [List.append_nil] at hl
                have hnm : n = MN := by rw [hnn, ← hl]; exact HMN.out
                have htx : tx = s := by
                  rw [← hTX.out, hps]
                  apply ByteArray.ext
                  apply Array.ext'
                  rw [ext_data, List.drop_zero, Nat.sub_zero, ← HBe.out, List.take_length]
                have hbl := hB.out
                clear hch hl hil hnn hI hps hTX
                subst hnm
                subst htx
                go_wp2_with fail
                refine (HLt.out _ hbl).mono ?_
                rintro e w13 ⟨rfl, b13⟩
                have B13 := Lib.hid b13
                clear b13 hbl
                go_wp2_with fail
                go_ret
                exact ⟨rfl, bx_trans B13.out⟩
theorem Whole_any (t : Tb) (rv cv nv ev : Value) (s : ByteArray) (dr : List Bool) (dv : Value) (w : World) (hT : TL w rv cv nv ev t) (hs : Lg t) (hE : EnvL w) (hD : BV w dv dr) (hdl : dr.length ≤ 140737488351232) (hsz : s.size ≤ 9223372036854775807) :
    Calls Tryd.prog 5 #[.agg #[rv, cv, nv, ev], .string s, dv] w fun e w' => e = .returned (.bool true) ∧ Below w.heap.size w w' := by
  by_cases h : greatB t = true ∨ 100 < s.size ∨ mayB t = false
  · obtain ⟨da, dc, rfl, _, _⟩ := hD
    exact Whole_early t rv cv nv ev s da dr.length dc w hT hs hE hsz h
  · have h1 : greatB t = false := by cases e : greatB t with | true => exact absurd (.inl e) h | false => rfl
    have h2 : mayB t = true := by cases e : mayB t with | true => rfl | false => exact absurd (.inr (.inr e)) h
    exact Whole_main t rv cv nv ev s dr dv w hT hs hE hD hdl h1 (Nat.le_of_not_lt fun h3 => h (.inr (.inl h3))) h2
end Go.Proofs.YtagbpkabfjnplaaDoor
