/- The contracts of nodes.isRune, wrong, looks; of slices.IndexFunc and ContainsFunc over them. -/
import Derived.Test.YthfkodimafmmgaaGreatDoorNdF
namespace Go.Proofs.YthfkodimafmmgaaGreatDoor
open Go Go.RowKit Ru
set_option maxRecDepth 100000

namespace Nd
def wrongB (p : Int × Int) : Bool := decide (p.2 < p.1) || !Go.validRune p.1 || !Go.validRune p.2
def looksB (t : T) : Bool := decide (t.kind = 7)
end Nd
theorem encB_some {r : Int} (h : Go.validRune r = true) : 1 ≤ (encB r).size := by
  rw [encB_yes h]
  have h2 := (valid_iff r).1 h
  by_cases a : r < 128
  · rw [encode_1 (by omega) a]; simp [ByteArray.size]
  by_cases b : r < 2048
  · rw [encode_2 (by omega) b]; simp [ByteArray.size]
  by_cases c : r < 65536
  · rw [encode_3 h (by omega) c]; simp [ByteArray.size]
  · rw [encode_4 (by omega) (by omega)]; simp [ByteArray.size]
set_option maxHeartbeats 400000 in
theorem isRune_any (r : Int) (w : World) :
    Calls Tryz.prog 59 #[.int .i32 r] w fun e w' => e = .returned (.bool (Go.validRune r)) ∧ w' = w := by
  have CE := fun wx => Encode_any r wx
  cases hv : Go.validRune r with
  | true =>
    obtain ⟨e1, e2⟩ := notEmpty (encB r) (encB_some hv)
    generalize encB r = X at *
    replace CE := Lib.hid CE
    go_enter Tryz.func59, Tryz.ntmps59
    go_wp2_with (go_at_call 77; refine (CE.out _).mono ?_; rintro e w' ⟨rfl, rfl⟩)
    go_ret
    exact ⟨rfl, rfl⟩
  | false =>
    have h0 : (encB r).size = 0 := by rw [encB_no hv]; rfl
    obtain ⟨e1, e2⟩ := isEmpty_ (encB r) h0
    generalize encB r = X at *
    replace CE := Lib.hid CE
    go_enter Tryz.func59, Tryz.ntmps59
    go_wp2_with (go_at_call 77; refine (CE.out _).mono ?_; rintro e w' ⟨rfl, rfl⟩)
    go_ret
    exact ⟨rfl, rfl⟩
set_option maxHeartbeats 400000 in
theorem wrong_any (p : Int × Int) (w : World) :
    Calls Tryz.prog 37 #[.agg #[.int .i32 p.1, .int .i32 p.2]] w fun e w' => e = .returned (.bool (Nd.wrongB p)) ∧ Below w.heap.size w w' := by
  obtain ⟨a, b⟩ := p
  have CA := Lib.hid (fun wx => isRune_any a wx)
  have CB := Lib.hid (fun wx => isRune_any b wx)
  have hB : Below w.heap.size w (w.alloc (.cells #[.int .i32 a, .int .i32 b] 44)) := (Below.refl _ w).alloc (Nat.le_refl _) _
  dsimp only
  by_cases h : b < a
  · have hw : Nd.wrongB (a, b) = true := by unfold Nd.wrongB; rw [decide_eq_true h]; rfl
    rw [hw]
    have d0 : decide (b < a) = true := decide_eq_true h
    go_enter Tryz.func37, Tryz.ntmps37
    go_wp2_with fail
    go_ret
    exact ⟨rfl, hB⟩
  have d0 : decide (b < a) = false := decide_eq_false h
  cases ha : Go.validRune a with
  | false =>
    have hw : Nd.wrongB (a, b) = true := by unfold Nd.wrongB; dsimp only; rw [ha]; simp
    rw [hw]
    rw [ha] at CA
    clear hw ha
    go_enter Tryz.func37, Tryz.ntmps37
    go_wp2_with fail
    refine (CA.out _).mono ?_
    rintro e w' ⟨rfl, rfl⟩
    go_wp2_with fail
    go_ret
    exact ⟨rfl, hB⟩
  | true =>
    have hw : Nd.wrongB (a, b) = !Go.validRune b := by unfold Nd.wrongB; dsimp only; rw [ha, d0]; simp
    rw [hw]
    rw [ha] at CA
    generalize Go.validRune b = vb at *
    clear hw ha
    go_enter Tryz.func37, Tryz.ntmps37
    go_wp2_with fail
    refine (CA.out _).mono ?_
    rintro e w' ⟨rfl, rfl⟩
    go_wp2_with fail
    refine (CB.out _).mono ?_
    rintro e w' ⟨rfl, rfl⟩
    go_wp2_with fail
    go_ret
    exact ⟨rfl, hB⟩
set_option maxHeartbeats 400000 in
theorem looks_any (t : Nd.T) (v : Value) (w : World) (hA : Nd.At w t v) :
    Calls Tryz.prog 33 #[v] w fun e w' => e = .returned (.bool (Nd.looksB t)) ∧ Below w.heap.size w w' := by
  obtain ⟨sa, sc, ba, bc, rfl, _⟩ := hA.form
  have hl : Nd.looksB t = decide (t.kind = 7) := rfl
  rw [hl]
  generalize t.kind = sk at *
  generalize t.name = sn at *
  generalize t.text = sx at *
  generalize t.set.length = sl at *
  generalize t.subs.length = sm at *
  have d0 : (sk == 7) = decide (sk = 7) := rfl
  go_enter Tryz.func33, Tryz.ntmps33
  go_wp2_with fail
  go_ret
  exact ⟨rfl, (Below.refl _ w).alloc (Nat.le_refl _) _⟩
set_option maxHeartbeats 1000000 in
theorem IndexR_any (st : List (Int × Int)) (a : Option Addr) (cap : Nat) (w : World) (hst : st.length ≤ 140737488351232) (hR : Nd.RgAt w st a) :
    Calls Tryz.prog 58 #[.slice a st.length cap, .func (.func 37) #[] #[]] w fun e w' => ∃ I : Int, e = .returned (.int .i64 I) ∧ decide (0 ≤ I) = st.any Nd.wrongB ∧ Below w.heap.size w w' := by
  obtain ⟨N, hN⟩ : ∃ N, st.length = N := ⟨_, rfl⟩
  have HN := Lib.hid hN
  rw [hN] at hst ⊢
  have n1 : (N : Int) ≤ 9223372036854775807 := by omega
  clear hN
  have HR := Lib.hid hR
  clear hR
  go_enter Tryz.func58, Tryz.ntmps58
  go_wp2_with fail
  go_loopw [8] (fun i wr => ∃ k : Nat, k ≤ N ∧ i = .int .i64 k ∧ Hid ((st.take k).any Nd.wrongB = false) ∧ Below w.heap.size w wr) (fun i _ => N - (intOf i).toNat)
  case atStart => exact ⟨0, Nat.zero_le _, rfl, Lib.hid (by simp), Below.refl _ _⟩
  case round =>
    obtain ⟨k, hk, rfl, hT, hB⟩ := hrel
    by_cases hlt : k < N
    · obtain ⟨p, hp⟩ : ∃ p, st[k]? = some p := ⟨_, List.getElem?_eq_getElem (by rw [HN.out]; exact hlt)⟩
      obtain ⟨g, o, rfl, x1, x2⟩ := HR.out.get k p hp
      have y1 := Nd.cell_keeps hB x1
      have y2 := Nd.cell_keeps hB x2
      have d0 : decide (k < N) = true := by rw [decide_eq_true_iff]; exact hlt
      have a0 : (k : Int) < (N : Int) := by omega
      have CW := wrong_any p wr
      have htk : (st.take (k + 1)).any Nd.wrongB = Nd.wrongB p := by
        rw [List.take_add_one, hp]
        simp [hT.out]
      have hmem := List.mem_of_getElem? hp
      obtain ⟨pa, pb⟩ := p
      dsimp only at y1 y2 CW
      cases hw : Nd.wrongB (pa, pb) with
      | true =>
        rw [hw] at CW
        replace CW := Lib.hid CW
        have HA := Lib.hid (show st.any Nd.wrongB = true from List.any_eq_true.2 ⟨_, hmem, hw⟩)
        have HA2 := Lib.hid (show decide (0 ≤ (k : Int)) = true from decide_eq_true (by omega))
        clear x1 x2 hp htk hmem hw hT
        go_wp2_with fail
        refine CW.out.mono ?_
        rintro e w' ⟨rfl, hb⟩
        go_wp2_with fail
        go_ret
        exact ⟨_, rfl, HA2.out.trans HA.out.symm, hB.trans (hb.mono hB.size)⟩
      | false =>
        rw [hw] at CW htk
        replace CW := Lib.hid CW
        have HT := Lib.hid htk
        clear x1 x2 hp htk hmem hw hT
        go_wp2_with fail
        refine CW.out.mono ?_
        rintro e w' ⟨rfl, hb⟩
        go_wp2_with fail
        exact ⟨⟨k + 1, by omega, by go_num, HT, hB.trans (hb.mono hB.size)⟩, by simp [intOf]; omega⟩
    · have d0 : decide (k < N) = false := by rw [decide_eq_false_iff_not]; exact hlt
      have HA := Lib.hid (show st.any Nd.wrongB = false by rw [← hT.out, List.take_of_length_le (by rw [HN.out]; omega)])
      clear hT
      go_wp2_with fail
      go_ret
      exact ⟨_, rfl, by rw [HA.out]; rfl, hB⟩
set_option maxHeartbeats 1000000 in
theorem IndexN_any (r : List Nd.T) (a : Option Addr) (cap : Nat) (w : World) (hst : r.length ≤ 140737488351232) (hR : Nd.AtL w r a) :
    Calls Tryz.prog 54 #[.slice a r.length cap, .func (.func 33) #[] #[]] w fun e w' => ∃ I : Int, e = .returned (.int .i64 I) ∧ decide (0 ≤ I) = r.any Nd.looksB ∧ Below w.heap.size w w' := by
  obtain ⟨N, hN⟩ : ∃ N, r.length = N := ⟨_, rfl⟩
  have HN := Lib.hid hN
  rw [hN] at hst ⊢
  have n1 : (N : Int) ≤ 9223372036854775807 := by omega
  clear hN
  have HR := Lib.hid hR
  clear hR
  go_enter Tryz.func54, Tryz.ntmps54
  go_wp2_with fail
  go_loopw [8] (fun i wr => ∃ k : Nat, k ≤ N ∧ i = .int .i64 k ∧ Hid ((r.take k).any Nd.looksB = false) ∧ Below w.heap.size w wr) (fun i _ => N - (intOf i).toNat)
  case atStart => exact ⟨0, Nat.zero_le _, rfl, Lib.hid (by simp), Below.refl _ _⟩
  case round =>
    obtain ⟨k, hk, rfl, hT, hB⟩ := hrel
    by_cases hlt : k < N
    · obtain ⟨s, hs⟩ : ∃ s, r[k]? = some s := ⟨_, List.getElem?_eq_getElem (by rw [HN.out]; exact hlt)⟩
      obtain ⟨g, o, v0, v1, v2, v3, v4, rfl, h0, h1, h2, h3, h4, hv, hAs⟩ := HR.out.val k s hs
      have e0 := Nd.cell_keeps hB h0
      have e1 := Nd.cell_keeps hB h1
      have e2 := Nd.cell_keeps hB h2
      have e3 := Nd.cell_keeps hB h3
      have e4 := Nd.cell_keeps hB h4
      have CW := looks_any s _ wr (hAs.below hB)
      have htk : (r.take (k + 1)).any Nd.looksB = Nd.looksB s := by
        rw [List.take_add_one, hs]
        simp [hT.out]
      have hmem := List.mem_of_getElem? hs
      have d0 : decide (k < N) = true := by rw [decide_eq_true_iff]; exact hlt
      have a0 : (k : Int) < (N : Int) := by omega
      obtain ⟨sa1, sc1, ba1, bc1, rfl, rfl, rfl, rfl, rfl⟩ := hAs.five
      generalize s.kind = sk at *
      generalize s.name = sn at *
      generalize s.text = sx at *
      generalize s.set.length = sl at *
      generalize s.subs.length = sm at *
      cases hw : Nd.looksB s with
      | true =>
        rw [hw] at CW
        replace CW := Lib.hid CW
        have HA := Lib.hid (show r.any Nd.looksB = true from List.any_eq_true.2 ⟨_, hmem, hw⟩)
        have HA2 := Lib.hid (show decide (0 ≤ (k : Int)) = true from decide_eq_true (by omega))
        clear h0 h1 h2 h3 h4 hv hAs hs htk hmem hw hT
        go_wp2_with fail
        refine CW.out.mono ?_
        rintro e w' ⟨rfl, hb⟩
        go_wp2_with fail
        go_ret
        exact ⟨_, rfl, HA2.out.trans HA.out.symm, hB.trans (hb.mono hB.size)⟩
      | false =>
        rw [hw] at CW htk
        replace CW := Lib.hid CW
        have HT := Lib.hid htk
        clear h0 h1 h2 h3 h4 hv hAs hs htk hmem hw hT
        go_wp2_with fail
        refine CW.out.mono ?_
        rintro e w' ⟨rfl, hb⟩
        go_wp2_with fail
        exact ⟨⟨k + 1, by omega, by go_num, HT, hB.trans (hb.mono hB.size)⟩, by simp [intOf]; omega⟩
    · have d0 : decide (k < N) = false := by rw [decide_eq_false_iff_not]; exact hlt
      have HA := Lib.hid (show r.any Nd.looksB = false by rw [← hT.out, List.take_of_length_le (by rw [HN.out]; omega)])
      clear hT
      go_wp2_with fail
      go_ret
      exact ⟨_, rfl, by rw [HA.out]; rfl, hB⟩
set_option maxHeartbeats 400000 in
theorem ContainsR_any (st : List (Int × Int)) (a : Option Addr) (cap : Nat) (w : World) (hst : st.length ≤ 140737488351232) (hR : Nd.RgAt w st a) :
    Calls Tryz.prog 36 #[.slice a st.length cap, .func (.func 37) #[] #[]] w fun e w' => e = .returned (.bool (st.any Nd.wrongB)) ∧ Below w.heap.size w w' := by
  have C := Lib.hid (IndexR_any st a cap w hst hR)
  generalize st.any Nd.wrongB = B at *
  generalize st.length = N at *
  clear hR
  go_enter Tryz.func36, Tryz.ntmps36
  go_wp2_with fail
  refine C.out.mono ?_
  rintro e w' ⟨I, rfl, hI, hb⟩
  go_wp2_with fail
  go_ret
  exact ⟨by rw [← hI]; rfl, hb⟩
set_option maxHeartbeats 400000 in
theorem ContainsN_any (r : List Nd.T) (a : Option Addr) (cap : Nat) (w : World) (hst : r.length ≤ 140737488351232) (hR : Nd.AtL w r a) :
    Calls Tryz.prog 32 #[.slice a r.length cap, .func (.func 33) #[] #[]] w fun e w' => e = .returned (.bool (r.any Nd.looksB)) ∧ Below w.heap.size w w' := by
  have C := Lib.hid (IndexN_any r a cap w hst hR)
  generalize r.any Nd.looksB = B at *
  generalize r.length = N at *
  clear hR
  go_enter Tryz.func32, Tryz.ntmps32
  go_wp2_with fail
  refine C.out.mono ?_
  rintro e w' ⟨I, rfl, hI, hb⟩
  go_wp2_with fail
  go_ret
  exact ⟨by rw [← hI]; rfl, hb⟩
end Go.Proofs.YthfkodimafmmgaaGreatDoor
