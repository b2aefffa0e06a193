/- LexersBehind: the walk. -/
import Derived.Test.YtagbpkabfjnplaaDoorLxQ
namespace Go.Proofs.YtagbpkabfjnplaaDoor
open Go Go.RowKit Rn Lx
set_option maxRecDepth 100000

namespace Lx
def behF (n : Nat) : TkR → TkR
  | .ok _ => .bad 9 n
  | .bad e q => .bad e q
theorem tokF_255 (t : Tb) (dr : List Bool) (s : List UInt8) : ∀ (f p : Nat) (acc : List (Int × Nat × Nat)), p ≤ s.length → s.length - p ≤ f → tokF t dr (s ++ [255]) (f + 1) p acc = behF s.length (tokF t dr s f p acc) := by
  intro f
  induction f with
  | zero =>
    intro p acc hp hf
    obtain rfl : p = s.length := by omega
    simp only [tokF]
    rw [if_neg (by rw [List.length_append]; simp), List.drop_append_of_le_length (Nat.le_refl _), List.drop_length, lon_255, show lon t [] = (-1, 0) from rfl, if_pos (by decide)]
    rfl
  | succ f ih =>
    intro p acc hp hf
    by_cases hlt : s.length ≤ p
    · obtain rfl : p = s.length := by omega
      rw [tokF_end t dr s (f + 1) _ acc (Nat.le_refl _)]
      simp only [tokF]
      rw [if_neg (by rw [List.length_append]; simp), List.drop_append_of_le_length (Nat.le_refl _), List.drop_length, lon_255, show lon t [] = (-1, 0) from rfl, if_pos (by decide)]
      rfl
    · conv => lhs; unfold tokF
      conv => rhs; arg 2; unfold tokF
      rw [if_neg (by rw [List.length_append]; simp; omega), if_neg hlt, List.drop_append_of_le_length hp, lon_255]
      by_cases hk : (lon t (s.drop p)).1 < 0
      · rw [if_pos hk, if_pos hk]; rfl
      · have hps := lon_pos hk
        rw [List.length_drop] at hps
        rw [if_neg hk, if_neg hk]
        by_cases hd : dr.getD (lon t (s.drop p)).1.toNat false = true
        · rw [if_pos hd, if_pos hd, ih _ _ (by omega) (by omega)]
        · rw [if_neg hd, if_neg hd]
          by_cases hl : acc.length = 16384
          · rw [if_pos hl, if_pos hl]; rfl
          · rw [if_neg hl, if_neg hl, ih _ _ (by omega) (by omega)]
theorem tok_255 (t : Tb) (dr : List Bool) (s : List UInt8) (h : s.length ≤ 60000) : tok t dr (s ++ [255]) = behF s.length (tok t dr s) := by
  unfold tok
  rw [List.length_append, if_neg (by simp; omega), if_neg (by omega)]
  exact tokF_255 t dr s s.length 0 [] (Nat.zero_le _) (by omega)
theorem tokF_bad (t : Tb) (dr : List Bool) (s : List UInt8) : ∀ (f p : Nat) (acc : List (Int × Nat × Nat)) (e : Int) (q : Nat), tokF t dr s f p acc = .bad e q → e ≠ 0
  | 0, p, acc, e, q, h => by simp [tokF] at h
  | f + 1, p, acc, e, q, h => by
    simp only [tokF] at h
    split at h
    · cases h
    split at h
    · injection h with h; omega
    split at h
    · exact tokF_bad t dr s f _ _ e q h
    split at h
    · injection h with h; omega
    · exact tokF_bad t dr s f _ _ e q h
theorem tok_bad {t : Tb} {dr : List Bool} {s : List UInt8} {e : Int} {q : Nat} (h : tok t dr s = .bad e q) : e ≠ 0 := by
  unfold tok at h
  split at h
  · injection h with h; omega
  · exact tokF_bad _ _ _ _ _ _ _ _ h
theorem append_255 (s : ByteArray) : (s ++ (⟨#[255]⟩ : ByteArray)).data.toList = s.data.toList ++ [255] := by
  rw [ByteArray.data_append, Array.toList_append]
/-- A row of so many falses. -/
def fal : List Bool := List.replicate 100 false
theorem fal_len : fal.length = 100 := List.length_replicate ..
theorem fal_bv {w : World} {b : Nat} (h : Bk w b 4 (madeCells #[.bool false] 100)) : BV w (.slice (some ⟨b, 0, none⟩) 100 100) fal :=
  ⟨_, _, rfl, Nat.le_refl _, fun i x hx => ⟨b, 0, rfl, by
    have hi := (List.getElem?_eq_some_iff.1 hx).1
    rw [h.cell, Nat.zero_add, made_bos]
    show (bos fal)[i]? = _
    rw [bos_get hi, List.getD_eq_getElem?_getD, hx]; rfl⟩⟩
theorem new_fal {t : Tb} (hm : mayB t = true) (h : ∀ x ∈ t.es, x ≤ 99) : newB t fal.length = true := by
  rw [newB, hm, Bool.true_and, List.all_eq_true, fal_len]
  intro x hx
  rw [decide_eq_true_iff]
  have := h x hx
  omega
end Lx
/-- The law's own early ways. -/
def Fin (w : World) (e : Ending) (w' : World) : Prop := e = .returned (.bool true) ∧ Below w.heap.size w w'
set_option maxHeartbeats 16000000 in
theorem Behind_early (t : Tb) (rv cv nv ev : Value) (s : ByteArray) (w : World) (hT : TL w rv cv nv ev t) (hs : Lg t) (hE : EnvL w) (hsz : s.size ≤ 9223372036854775807) (h : greatB t = true ∨ 1000 < s.size ∨ mayB t = false ∨ 0 ≤ Ru.bad s.data.toList) :
    Calls Tryd.prog 6 #[.agg #[rv, cv, nv, ev], .string s] w fun e w' => e = .returned (.bool true) ∧ Below w.heap.size w w' := by
  have hb0 := bx_below w rv cv nv ev
  have HG := Lib.hid (fun (W : World) (h : Below (bx w rv cv nv ev).heap.size (bx w rv cv nv ev) W) => (Great_any t rv cv nv ev W ((hT.below hb0).below h) hs).mono fun e w' x' => show e = .returned (.bool (greatB t)) ∧ Below (bx w rv cv nv ev).heap.size (bx w rv cv nv ev) w' from ⟨x'.1, h.trans (x'.2.mono h.size)⟩)
  have HM := Lib.hid (fun (hg : greatB t = false) (W : World) (h : Below (bx w rv cv nv ev).heap.size (bx w rv cv nv ev) W) => (May_any t rv cv nv ev W ((hT.below hb0).below h) (great_sm hg)).mono fun e w' x' => show e = .returned (.bool (mayB t)) ∧ Below (bx w rv cv nv ev).heap.size (bx w rv cv nv ev) w' from ⟨x'.1, h.trans (x'.2.mono h.size)⟩)
  have HB := Lib.hid (fun (W : World) (h : Below (bx w rv cv nv ev).heap.size (bx w rv cv nv ev) W) => (BadL_any s W (by omega) ((hE.below hb0).below h)).mono fun e w' x' => show e = .returned (.int .i64 (Ru.bad s.data.toList)) ∧ Below (bx w rv cv nv ev).heap.size (bx w rv cv nv ev) w' from ⟨x'.1, h.trans (x'.2.mono h.size)⟩)
  have HL := Lib.hid (fun (W : World) (h : Below (bx w rv cv nv ev).heap.size (bx w rv cv nv ev) W) => (lives11_true W ((hE.below hb0).below h)).mono fun e w' x' => show e = .returned (.bool true) ∧ Below (bx w rv cv nv ev).heap.size (bx w rv cv nv ev) w' from ⟨x'.1, h.trans (x'.2.mono h.size)⟩)
  have HC := Lib.hid (fun (W : World) (h : Below (bx w rv cv nv ev).heap.size (bx w rv cv nv ev) W) => bx_cells h)
  obtain ⟨⟨ra, rc, rfl, _, _⟩, ⟨ca, cc, rfl, _, _⟩, ⟨na, nc, rfl, _, _⟩, ⟨ea, ec, rfl, _, _⟩⟩ := hT
  clear hb0 hs hE
  cases hg : greatB t with
  | true =>
    rw [hg] at HG
    clear h hg
    go_enter Tryd.func6, Tryd.ntmps6
    go_wp2_with fail
    refine (HG.out _ (Below.refl _ _)).mono ?_
    rintro e w2 ⟨rfl, b2⟩
    have B2 := Lib.hid b2
    clear b2
    go_wp2_with fail
    refine (HL.out _ B2.out).mono ?_
    rintro e w3 ⟨rfl, b3⟩
    have B3 := Lib.hid b3
    clear b3
    go_wp2_with fail
    go_ret
    exact ⟨rfl, bx_trans B3.out⟩
  | false =>
    have HM1 := Lib.hid (HM.out hg)
    by_cases h1 : 1000 < s.size
    · have d1 : decide (1000 < s.size) = true := decide_eq_true h1
      have d2 : decide ((1000 : Int) < (s.size : Int)) = true := decide_eq_true (by omega)
      rw [hg] at HG
      clear h hg
      go_enter Tryd.func6, Tryd.ntmps6
      go_wp2_with fail
      refine (HG.out _ (Below.refl _ _)).mono ?_
      rintro e w2 ⟨rfl, b2⟩
      have B2 := Lib.hid b2
      clear b2
      go_wp2_with fail
      refine (HL.out _ B2.out).mono ?_
      rintro e w3 ⟨rfl, b3⟩
      have B3 := Lib.hid b3
      clear b3
      go_wp2_with fail
      go_ret
      exact ⟨rfl, bx_trans B3.out⟩
    have d1 : decide (1000 < s.size) = false := decide_eq_false h1
    have d2 : decide ((1000 : Int) < (s.size : Int)) = false := decide_eq_false (by omega)
    cases hm : mayB t with
    | false =>
      rw [hg] at HG
      rw [hm] at HM1
      clear h hg hm
      go_enter Tryd.func6, Tryd.ntmps6
      go_wp2_with fail
      refine (HG.out _ (Below.refl _ _)).mono ?_
      rintro e w2 ⟨rfl, b2⟩
      obtain ⟨c0, c1, c2, c3⟩ := HC.out _ b2
      have B2 := Lib.hid b2
      clear b2
      go_wp2_with fail
      refine (HM1.out _ B2.out).mono ?_
      rintro e w3 ⟨rfl, b3⟩
      have B3 := Lib.hid b3
      clear b3 c0 c1 c2 c3
      go_wp2_with fail
      refine (HL.out _ B3.out).mono ?_
      rintro e w4 ⟨rfl, b4⟩
      have B4 := Lib.hid b4
      clear b4
      go_wp2_with fail
      go_ret
      exact ⟨rfl, bx_trans B4.out⟩
    | true =>
      have hbad : 0 ≤ Ru.bad s.data.toList := by
        rcases h with h | h | h | h
        · rw [hg] at h; cases h
        · exact absurd h h1
        · rw [hm] at h; cases h
        · exact h
      have d3 : decide (0 ≤ Ru.bad s.data.toList) = true := decide_eq_true hbad
      rw [hg] at HG
      rw [hm] at HM1
      clear h hg hm hbad
      generalize Ru.bad s.data.toList = BD at *
      go_enter Tryd.func6, Tryd.ntmps6
      go_wp2_with fail
      refine (HG.out _ (Below.refl _ _)).mono ?_
      rintro e w2 ⟨rfl, b2⟩
      obtain ⟨c0, c1, c2, c3⟩ := HC.out _ b2
      have B2 := Lib.hid b2
      clear b2
      go_wp2_with fail
      refine (HM1.out _ B2.out).mono ?_
      rintro e w3 ⟨rfl, b3⟩
      have B3 := Lib.hid b3
      clear b3 c0 c1 c2 c3
      go_wp2_with fail
      refine (HB.out _ B3.out).mono ?_
      rintro e w4 ⟨rfl, b4⟩
      have B4 := Lib.hid b4
      clear b4
      go_wp2_with fail
      refine (HL.out _ B4.out).mono ?_
      rintro e w5 ⟨rfl, b5⟩
      have B5 := Lib.hid b5
      clear b5
      go_wp2_with fail
      go_ret
      exact ⟨rfl, bx_trans B5.out⟩
set_option maxHeartbeats 32000000 in
theorem Behind_main (t : Tb) (rv cv nv ev : Value) (s : ByteArray) (w : World) (hT : TL w rv cv nv ev t) (hs : Lg t) (hE : EnvL w) (hg : greatB t = false) (h1 : s.size ≤ 1000) (hm : mayB t = true) (hbad : Ru.bad s.data.toList < 0) :
    Calls Tryd.prog 6 #[.agg #[rv, cv, nv, ev], .string s] w fun e w' => e = .returned (.bool true) ∧ Below w.heap.size w w' := by
  have hb0 := bx_below w rv cv nv ev
  have hsm := great_sm hg
  have HG := Lib.hid (fun (W : World) (h : Below (bx w rv cv nv ev).heap.size (bx w rv cv nv ev) W) => (Great_any t rv cv nv ev W ((hT.below hb0).below h) hs).mono fun e w' x' => show e = .returned (.bool false) ∧ Below (bx w rv cv nv ev).heap.size (bx w rv cv nv ev) w' from ⟨by rw [← hg]; exact x'.1, h.trans (x'.2.mono h.size)⟩)
  have HM := Lib.hid (fun (W : World) (h : Below (bx w rv cv nv ev).heap.size (bx w rv cv nv ev) W) => (May_any t rv cv nv ev W ((hT.below hb0).below h) hsm).mono fun e w' x' => show e = .returned (.bool true) ∧ Below (bx w rv cv nv ev).heap.size (bx w rv cv nv ev) w' from ⟨by rw [← hm]; exact x'.1, h.trans (x'.2.mono h.size)⟩)
  have HB := Lib.hid (fun (W : World) (h : Below (bx w rv cv nv ev).heap.size (bx w rv cv nv ev) W) => (BadL_any s W (by omega) ((hE.below hb0).below h)).mono fun e w' x' => show e = .returned (.int .i64 (Ru.bad s.data.toList)) ∧ Below (bx w rv cv nv ev).heap.size (bx w rv cv nv ev) w' from ⟨x'.1, h.trans (x'.2.mono h.size)⟩)
  have HL := Lib.hid (fun (W : World) (h : Below (bx w rv cv nv ev).heap.size (bx w rv cv nv ev) W) => (lives11_true W ((hE.below hb0).below h)).mono fun e w' x' => show e = .returned (.bool true) ∧ Below (bx w rv cv nv ev).heap.size (bx w rv cv nv ev) w' from ⟨x'.1, h.trans (x'.2.mono h.size)⟩)
  have HC := Lib.hid (fun (W : World) (h : Below (bx w rv cv nv ev).heap.size (bx w rv cv nv ev) W) => bx_cells h)
  have HZ := Lib.hid (fun (W : World) (h : Below (bx w rv cv nv ev).heap.size (bx w rv cv nv ev) W) => ((hT.below hb0).below h).2.2.2)
  have HN := Lib.hid (fun (h99 : ∀ x ∈ t.es, x ≤ 99) (W : World) (h : Below (bx w rv cv nv ev).heap.size (bx w rv cv nv ev) W) (b : Nat) (hk : Bk W b 4 (madeCells #[.bool false] 100)) => (New_any t fal rv cv nv ev (.slice (some ⟨b, 0, none⟩) 100 100) W ((hT.below hb0).below h) (fal_bv hk) hsm (by rw [fal_len]; omega)).mono fun e w' x' => show (∃ g, e = .returned (.tuple #[.pointer (some ⟨g, 0, none⟩), .int .i64 0]) ∧ LV w' g t fal) ∧ Below (bx w rv cv nv ev).heap.size (bx w rv cv nv ev) w' from ⟨by
    have h1 := x'.1
    unfold NewR at h1
    rw [if_pos (new_fal hm h99)] at h1
    obtain ⟨g, e1, e2⟩ := h1
    exact ⟨g, e1, e2.lv⟩, h.trans (x'.2.mono h.size)⟩)
  have HTK := Lib.hid (fun (h99 : ∀ x ∈ t.es, x ≤ 99) (u : ByteArray) (hu : u.size ≤ 1001) (W : World) (h : Below (bx w rv cv nv ev).heap.size (bx w rv cv nv ev) W) (g : Nat) (hl : LV W g t fal) => (Tokens_any t fal g u W hl (mayB_may hm) hsm (fun x hx => by rw [fal_len]; have := h99 x hx; omega) ((hE.below hb0).below h) (by omega)).mono fun e w' x' => show TokP u W.heap.size (tok t fal u.data.toList) e w' ∧ Below W.heap.size W w' ∧ Below (bx w rv cv nv ev).heap.size (bx w rv cv nv ev) w' from ⟨x'.1, x'.2, h.trans (x'.2.mono h.size)⟩)
  have hu2 : (s ++ (⟨#[255]⟩ : ByteArray)).size ≤ 1001 := by rw [ByteArray.size_append]; exact Nat.add_le_add_right h1 1
  have H255 := Lib.hid (tok_255 t fal s.data.toList (by rw [← Lib.size_eq]; omega))
  have HBAD := Lib.hid (fun e q (h : tok t fal s.data.toList = .bad e q) => tok_bad h)
  rw [← append_255, ← Lib.size_eq] at H255
  have HU2 := Lib.hid hu2
  have hadd : ∀ wx, (Op.stringOp .add s ⟨#[255]⟩).run Tryd.prog wx = .ok (.string (s ++ ⟨#[255]⟩)) wx := fun wx => run_string_add_sum wx _ _ (by show s.size + 1 ≤ _; omega)
  obtain ⟨⟨ra, rc, rfl, _, _⟩, ⟨ca, cc, rfl, _, _⟩, ⟨na, nc, rfl, _, _⟩, ⟨ea, ec, rfl, _, _⟩⟩ := hT
  have d1 : decide (1000 < s.size) = false := decide_eq_false (by omega)
  have d2 : decide ((1000 : Int) < (s.size : Int)) = false := decide_eq_false (by omega)
  have d3 : decide (0 ≤ Ru.bad s.data.toList) = false := decide_eq_false (by omega)
  have l4 := hsm.es
  generalize Ru.bad s.data.toList = BD at *
  have hmk : ∀ wz, (Instr.makeSlice 27 (.int .i64 100) (.int .i64 100)).run Tryd.prog wz = .ok (.slice (some ⟨wz.heap.size, 0, none⟩) 100 100) (wz.alloc (.cells (madeCells #[.bool false] 100) 4)) := fun wz => run_make_row' (P := Tryd.prog) 27 4 (.bool false) 1 Tryd.underlying27 infoBo rfl .i64 .i64 100 (by omega) (by omega) wz
  clear hb0 hs hE hg hm hbad hu2 hsm
  go_enter Tryd.func6, Tryd.ntmps6
  go_wp2_with fail
  refine (HG.out _ (Below.refl _ _)).mono ?_
  rintro e w2 ⟨rfl, b2⟩
  obtain ⟨c0, c1, c2, c3⟩ := HC.out _ b2
  have B2 := Lib.hid b2
  clear b2
  go_wp2_with fail
  refine (HM.out _ B2.out).mono ?_
  rintro e w3 ⟨rfl, b3⟩
  have B3 := Lib.hid b3
  clear b3 c0 c1 c2 c3
  go_wp2_with fail
  refine (HB.out _ B3.out).mono ?_
  rintro e w4 ⟨rfl, b4⟩
  have B4 := Lib.hid b4
  clear b4
  go_wp2_with fail
  go_loopw [5] (fun i wr => ∃ k : Nat, k ≤ t.es.length ∧ i = .int .i64 k ∧ wr = w4 ∧ Hid (∀ j x, j < k → t.es[j]? = some x → x ≤ 99)) (fun i _ => t.es.length - (intOf i).toNat)
  case atStart => exact ⟨0, Nat.zero_le _, rfl, rfl, Lib.hid (fun j x h => absurd h (Nat.not_lt_zero _))⟩
  case round =>
    obtain ⟨k, hk, rfl, hwr, hJ⟩ := hrel
    rw [hwr]
    clear hwr
    obtain ⟨c0, c1, c2, c3⟩ := HC.out _ B4.out
    by_cases hlt : k < t.es.length
    · have d4 : decide (k < t.es.length) = true := by rw [decide_eq_true_iff]; exact hlt
      have a0 : (k : Int) < (t.es.length : Int) := by omega
      have a1 : (0 : Int) ≤ (k : Int) := by omega
      obtain ⟨x, hx⟩ : ∃ x, t.es[k]? = some x := ⟨_, List.getElem?_eq_getElem hlt⟩
      obtain ⟨ea', ec', en, _, zE⟩ := HZ.out _ B4.out
      injection en with en1 en2 en3
      subst en1
      clear en2 en3
      obtain ⟨b, o, rfl, y0⟩ := zE k x hx
      clear zE
      by_cases hb : 99 < x
      · have d5 : decide (99 < x) = true := decide_eq_true hb
        clear hx hJ
        go_wp2_with fail
        refine (HL.out _ B4.out).mono ?_
        rintro e w5 ⟨rfl, b5⟩
        have B5 := Lib.hid b5
        clear b5
        go_wp2_with fail
        go_ret
        exact ⟨rfl, bx_trans B5.out⟩
      · have d5 : decide (99 < x) = false := decide_eq_false hb
        have HJ := Lib.hid (show ∀ j y, j < k + 1 → t.es[j]? = some y → y ≤ 99 from fun j y hj hy => by
          by_cases e : j = k
          · subst e; rw [hx] at hy; injection hy with hy; omega
          · exact hJ.out j y (by omega) hy)
        clear hx hJ
        go_wp2_with fail
        exact ⟨⟨k + 1, by omega, by go_num, by first | trivial | rfl, HJ⟩, by simp [intOf]; omega⟩
    · have d4 : decide (k < t.es.length) = false := by rw [decide_eq_false_iff_not]; exact hlt
      have h99 : ∀ x ∈ t.es, x ≤ 99 := fun x hx => by
        obtain ⟨j, hj, rfl⟩ := List.getElem_of_mem hx
        exact hJ.out j _ (by omega) (List.getElem?_eq_getElem hj)
      have HNN := Lib.hid (HN.out h99)
      have HT1 := Lib.hid (HTK.out h99 s (by omega))
      have HT2 := Lib.hid (HTK.out h99 _ HU2.out)
      clear hJ h99 HN HTK
      go_wp2_with fail
      clear c0 c1 c2 c3
      refine wp_cutX (fun a a' w' => ∃ g, (∃ z0 z1 z2 z3 z4 z5 : Value, a' = (((((((a.put (some 47) z0).put (some 48) z1).put (some 49) z2).put (some 46) z3).put (some 50) z4).put (some 51) z5).put (some 6) (.pointer (some ⟨g, 0, none⟩))).put (some 7) (.int .i64 0)) ∧ LV w' g t fal ∧ Below (bx w (.slice ra t.rs.length rc) (.slice ca t.cs.length cc) (.slice na t.ns.length nc) (.slice ea t.es.length ec)).heap.size (bx w (.slice ra t.rs.length rc) (.slice ca t.cs.length cc) (.slice na t.ns.length nc) (.slice ea t.es.length ec)) w') ?reg8 ?rest8
      case reg8 =>
          refine region_B (S := fun w' : World => (w'.cell? ⟨w.heap.size, 0, none⟩ = some (.slice ra t.rs.length rc) ∧ w'.cell? ⟨w.heap.size, 1, none⟩ = some (.slice ca t.cs.length cc) ∧ w'.cell? ⟨w.heap.size, 2, none⟩ = some (.slice na t.ns.length nc) ∧ w'.cell? ⟨w.heap.size, 3, none⟩ = some (.slice ea t.es.length ec))) 7 (by kernel_rfl) (HC.out _ B4.out.drew) (fun hSS => ?_)
          show wpAnyB _ _ _ _ _ 7 8 #[false, false, false, false, false, false, false, false] _ _
          refine takeB (i := 0) (d := (some 47)) (v := _) (l' := #[true, false, false, false, false, false, false, false]) (by rw [List.getElem?_toArray]; rfl) rfl (by kernel_rfl) (by kernel_rfl) (by kernel_rfl) (by kernel_rfl) (by kernel_rfl) rfl (fun _ _ _ h => h) (Or.inl ⟨by rfl, fun w' hSw => by (try dsimp only at hSw); go_simp; try with_reducible rfl⟩) hSS ?_
          simp only [Act.put, List.setIfInBounds_toArray, List.set_cons_zero, List.set_cons_succ]
          refine comeB (i := 1) (l' := #[true, true, false, false, false, false, false, false]) (by rw [List.getElem?_toArray]; rfl) (by kernel_rfl) rfl (fun K' hK => ?_)
          go_simp
          have hk8 : Bk (w4.drew.alloc (.cells (madeCells #[.bool false] 100) 4)) w4.heap.size 4 (madeCells #[.bool false] 100) := Bk.made w4.drew _ _
          have b8 := B4.out.drew.alloc B4.out.drew.size (.cells (madeCells #[.bool false] 100) 4)
          refine hK.out _ _ (Or.inr (HC.out _ b8)) (fun hOr => ?_)
          replace hSS := hOr.resolve_left (by decide)
          try simp only [Act.put, List.setIfInBounds_toArray, List.set_cons_zero, List.set_cons_succ]
          refine comeB (i := 2) (l' := #[true, true, true, false, false, false, false, false]) (by rw [List.getElem?_toArray]; rfl) (by kernel_rfl) rfl (fun K' hK => ?_)
          go_simp
          go_at_call 10; refine (HNN.out _ b8 _ hk8).mono ?_; rintro e w9 ⟨⟨g, rfl, hLV⟩, b9⟩
          refine hK.out _ _ (Or.inr (HC.out _ b9)) (fun hOr => ?_)
          replace hSS := hOr.resolve_left (by decide)
          try simp only [Act.put, List.setIfInBounds_toArray, List.set_cons_zero, List.set_cons_succ]
          refine pureB (i := 3) (d := (some 46)) (v := _) (l' := #[true, true, true, true, false, false, false, false]) (by rw [List.getElem?_toArray]; rfl) rfl (by kernel_rfl) (by kernel_rfl) (by kernel_rfl) (by decide) rfl (fun _ _ _ h => h) (Or.inl ⟨by rfl, fun w' _ => by go_simp; try with_reducible rfl⟩) (Or.inr hSS) ?_
          simp only [Act.put, List.setIfInBounds_toArray, List.set_cons_zero, List.set_cons_succ]
          refine pureB (i := 4) (d := (some 50)) (v := _) (l' := #[true, true, true, true, true, false, false, false]) (by rw [List.getElem?_toArray]; rfl) rfl (by kernel_rfl) (by kernel_rfl) (by kernel_rfl) (by decide) rfl (fun _ _ _ h => h) (Or.inl ⟨by rfl, fun w' _ => by go_simp; try with_reducible rfl⟩) (Or.inr hSS) ?_
          simp only [Act.put, List.setIfInBounds_toArray, List.set_cons_zero, List.set_cons_succ]
          refine pureB (i := 5) (d := (some 51)) (v := _) (l' := #[true, true, true, true, true, true, false, false]) (by rw [List.getElem?_toArray]; rfl) rfl (by kernel_rfl) (by kernel_rfl) (by kernel_rfl) (by decide) rfl (fun _ _ _ h => h) (Or.inl ⟨by rfl, fun w' _ => by go_simp; try with_reducible rfl⟩) (Or.inr hSS) ?_
          simp only [Act.put, List.setIfInBounds_toArray, List.set_cons_zero, List.set_cons_succ]
          refine pureB (i := 6) (d := (some 6)) (v := _) (l' := #[true, true, true, true, true, true, true, false]) (by rw [List.getElem?_toArray]; rfl) rfl (by kernel_rfl) (by kernel_rfl) (by kernel_rfl) (by decide) rfl (fun _ _ _ h => h) (Or.inl ⟨by rfl, fun w' _ => by go_simp; try with_reducible rfl⟩) (Or.inr hSS) ?_
          simp only [Act.put, List.setIfInBounds_toArray, List.set_cons_zero, List.set_cons_succ]
          refine comeB (i := 7) (l' := #[true, true, true, true, true, true, true, true]) (by rw [List.getElem?_toArray]; rfl) (by kernel_rfl) rfl (fun K' hK => ?_)
          go_simp
          refine hK.out _ _ (Or.inl rfl) (fun _ => ?_)
          try simp only [Act.put, List.setIfInBounds_toArray, List.set_cons_zero, List.set_cons_succ]
          refine wpAnyB_done (by kernel_rfl) ?_ _
          exact ⟨g, ⟨_, _, _, _, _, _, rfl⟩, hLV, b9⟩
      case rest8 =>
        rintro a' w5 ⟨g, ⟨z0, z1, z2, z3, z4, z5, rfl⟩, hLV, b5⟩
        have L5 := Lib.hid hLV
        have B5 := Lib.hid b5
        clear hLV b5
        try simp only [Act.put, List.setIfInBounds_toArray, List.set_cons_zero, List.set_cons_succ]
        go_wp2_with fail
        refine (HT1.out _ B5.out g L5.out).mono ?_
        rintro e w6 ⟨hP, s6, b6⟩
        have L6 := Lib.hid (L5.out.below s6)
        have B6 := Lib.hid b6
        clear s6 b6
        cases hr : tok t fal s.data.toList with
        | ok l =>
          rw [hr] at hP
          rw [hr] at H255
          simp only [behF] at H255
          obtain ⟨a, c, rfl, _⟩ := hP
          clear hr
          go_wp2_with fail
          refine (HT2.out _ B6.out g L6.out).mono ?_
          rintro e w7 ⟨hP, s7, b7⟩
          rw [H255.out] at hP
          have hP2 : e = .returned (.tuple #[.slice none 0 0, .int .i64 (s.size : Nat), .int .i64 9]) := hP
          subst hP2
          have B7 := Lib.hid b7
          clear s7 b7 hP
          go_wp2_with fail
          refine (HL.out _ B7.out).mono ?_
          rintro e w8 ⟨rfl, b8⟩
          have B8 := Lib.hid b8
          clear b8
          go_wp2_with fail
          go_ret
          exact ⟨rfl, bx_trans B8.out⟩
        | bad er q =>
          rw [hr] at hP
          rw [hr] at H255
          simp only [behF] at H255
          have hne := HBAD.out er q hr
          have hP1 : e = .returned (.tuple #[.slice none 0 0, .int .i64 (q : Nat), .int .i64 er]) := hP
          subst hP1
          have d6 : (er == 0) = false := by rw [beq_eq_false_iff_ne]; exact hne
          clear hr hP hne
          go_wp2_with fail
          refine (HT2.out _ B6.out g L6.out).mono ?_
          rintro e w7 ⟨hP, s7, b7⟩
          rw [H255.out] at hP
          have hP2 : e = .returned (.tuple #[.slice none 0 0, .int .i64 (q : Nat), .int .i64 er]) := hP
          subst hP2
          have B7 := Lib.hid b7
          clear s7 b7 hP
          go_wp2_with fail
          refine (HL.out _ B7.out).mono ?_
          rintro e w8 ⟨rfl, b8⟩
          have B8 := Lib.hid b8
          clear b8
          go_wp2_with fail
          go_ret
          exact ⟨rfl, bx_trans B8.out⟩
theorem Behind_any (t : Tb) (rv cv nv ev : Value) (s : ByteArray) (w : World) (hT : TL w rv cv nv ev t) (hs : Lg t) (hE : EnvL w) (hsz : s.size ≤ 9223372036854775807) :
    Calls Tryd.prog 6 #[.agg #[rv, cv, nv, ev], .string s] w fun e w' => e = .returned (.bool true) ∧ Below w.heap.size w w' := by
  by_cases h : greatB t = true ∨ 1000 < s.size ∨ mayB t = false ∨ 0 ≤ Ru.bad s.data.toList
  · exact Behind_early t rv cv nv ev s w hT hs hE hsz h
  · have h1 : greatB t = false := by cases e : greatB t with | true => exact absurd (.inl e) h | false => rfl
    have h2 : mayB t = true := by cases e : mayB t with | true => rfl | false => exact absurd (.inr (.inr (.inl e))) h
    exact Behind_main t rv cv nv ev s w hT hs hE h1 (Nat.le_of_not_lt fun h3 => h (.inr (.inl h3))) h2 (Int.not_le.1 fun h3 => h (.inr (.inr (.inr h3))))
end Go.Proofs.YtagbpkabfjnplaaDoor
