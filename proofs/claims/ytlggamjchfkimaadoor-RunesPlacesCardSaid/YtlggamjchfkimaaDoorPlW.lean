/- The walk of RunesPlaces. -/
import Derived.Test.YtlggamjchfkimaaDoorRuP
import Derived.Deep.RegionWith
namespace Go.Proofs.YtlggamjchfkimaaDoor
open Go Go.RowKit Ru

theorem place_snoc (l : List UInt8) (c : UInt8) : (c = 10 → place (l ++ [c]) = ((place l).1 + 1, 1)) ∧ (c ≠ 10 → (place (l ++ [c])).1 = (place l).1) := by
  constructor
  · intro h
    subst h
    unfold place
    have := pl_snoc10 l.length l 1 1 (Nat.le_refl _)
    rw [List.length_append]
    exact this
  · intro h
    unfold place
    rw [pl_line _ _ _ _ (Nat.le_refl _), pl_line _ _ _ _ (Nat.le_refl _), tens_app]
    have : tens [c] = 0 := by simp [tens, h]
    omega
theorem place_nil : place [] = (1, 1) := rfl
/-- What Place answers of the first a bytes. -/
def posT (l : List UInt8) (a : Nat) : Value := .agg #[.int .i64 a, .int .i64 (place (l.take a)).1, .int .i64 (place (l.take a)).2]
theorem place_le (l : List UInt8) : 1 ≤ (place l).1 ∧ 1 ≤ (place l).2 ∧ (place l).1 ≤ l.length + 1 ∧ (place l).2 ≤ l.length + 1 := by
  have := pl_le l.length l 1 1 (by omega)
  unfold place
  omega

theorem Three.below {w w' : World} {b : Nat} {t : TypeId} {x y z : Value} (h : Three w b t x y z) (hb : Below w.heap.size w w') : Three w' b t x y z := by
  have hl := h.lt
  unfold Three at h ⊢
  rw [hb.block b hl]; exact h
theorem take_more (l : List UInt8) (j : Nat) (h : j < l.length) : l.take (j + 1) = l.take j ++ [l.getD j 0] := by
  rw [List.take_succ_eq_append_getElem h]
  simp [List.getD, List.getElem?_eq_getElem h]

set_option maxHeartbeats 2000000 in
theorem Places_walk (s : ByteArray) (w : World) (hE : Env w) (hs : s.size ≤ 500) : Calls Tryd.prog 5 #[.string s] w fun e w' => e = .returned (.bool true) ∧ Below w.heap.size w w' := by
  have HE := Lib.hid hE
  have C0 := Lib.hid (fun w => Place_any s (-1) w (by omega) 0 (by omega))
  have d0 : decide ((500 : Int) < (s.size : Int)) = false := by rw [decide_eq_false_iff_not]; omega
  clear hE
  go_enter Tryd.func5, Tryd.ntmps5
  go_wp2_with fail
  refine (C0.out _).mono ?_
  rintro e w1 ⟨rfl, b1⟩
  have E1 := Lib.hid (HE.out.below b1)
  go_wp2_with fail
  go_loopw [4] (fun i wr => ∃ j : Nat, j ≤ s.size ∧ i = .int .i64 ((j : Int) + 1) ∧ Three wr w1.heap.size 30 (.int .i64 j) (.int .i64 (place (s.data.toList.take j)).1) (.int .i64 (place (s.data.toList.take j)).2) ∧ Hid (Env wr) ∧ Below w.heap.size w wr) (fun i _ => s.size + 1 - (intOf i).toNat)
  case atStart =>
    refine ⟨0, Nat.zero_le _, rfl, Three.made w1 30 (.int .i64 0) (.int .i64 1) (.int .i64 1), ?_, ?_⟩
    · exact E1.out.below ((Below.refl _ _).alloc (Nat.le_refl _) _)
    · exact b1.alloc b1.size _
  case round =>
    obtain ⟨j, hj, rfl, hT, hW, hb⟩ := hrel
    have hBlt := hT.lt
    have hB0 := b1.size
    by_cases hjs : j < s.size
    · have C := Lib.hid (Place_any s ((j : Int) + 1) wr (by omega) (j + 1) (by omega))
      have hi := index_at s j hjs
      have htm := take_more s.data.toList j (by rw [← Lib.size_eq]; exact hjs)
      have hps := place_snoc (s.data.toList.take j) (s.data.toList.getD j 0)
      rw [← htm] at hps
      have hple := place_le (s.data.toList.take j)
      have hln : (s.data.toList.take j).length ≤ 500 := by rw [List.length_take]; omega
      obtain ⟨ci, hci⟩ : ∃ ci : Int, ci = ((s.data.toList.getD j 0).toNat : Int) := ⟨_, rfl⟩
      rw [← hci] at hi
      obtain ⟨L, hL⟩ : ∃ L : Int, L = ((place (s.data.toList.take j)).1 : Int) := ⟨_, rfl⟩
      obtain ⟨K, hK⟩ : ∃ K : Int, K = ((place (s.data.toList.take j)).2 : Int) := ⟨_, rfl⟩
      obtain ⟨L2, hL2⟩ : ∃ L2 : Int, L2 = ((place (s.data.toList.take (j + 1))).1 : Int) := ⟨_, rfl⟩
      obtain ⟨K2, hK2⟩ : ∃ K2 : Int, K2 = ((place (s.data.toList.take (j + 1))).2 : Int) := ⟨_, rfl⟩
      rw [← hL, ← hK] at hT
      rw [← hL2, ← hK2] at C
      have hL0 : 0 ≤ L := by omega
      have hL1 : L ≤ 1000 := by omega
      have HT := Lib.hid hT
      have HL := Lib.hid hL2
      have HK := Lib.hid hK2
      have hpc : ((j + 1 : Nat) : Int) = (j : Int) + 1 := by omega
      have hpc2 := Lib.hid hpc
      rw [hpc] at C
      by_cases h10 : s.data.toList.getD j 0 = 10
      · have q := hps.1 h10
        have q1 : (L2 != L + 1) = false := by
          have : L2 = L + 1 := by rw [hL2, hL, q]; simp
          rw [this]; simp
        have q2 : (K2 != 1) = false := by
          have : K2 = 1 := by rw [hK2, q]; simp
          rw [this]; simp
        have t1 : (ci == 10) = true := by
          have : ci = 10 := by rw [hci, h10]; rfl
          rw [this]; rfl
        have t2 : (ci != 10) = false := by
          have : ci = 10 := by rw [hci, h10]; rfl
          rw [this]; rfl
        clear hps h10 hci hL hK hL2 hK2 q hple hln htm hT hpc
        go_wp2_with fail
        refine C.out.mono ?_
        rintro e w2 ⟨rfl, b2⟩
        have T2 := Lib.hid (HT.out.below b2)
        have hB2 : w1.heap.size < w2.heap.size := Nat.lt_of_lt_of_le hBlt b2.size
        have c1 := T2.out.cell1
        have f0 := T2.out.free 0
        have f1 := T2.out.free 1
        have f2 := T2.out.free 2
        have c0 := T2.out.cell0
        have c2 := T2.out.cell2
        go_wp2_with fail
        have hbf := ((((hb.trans (b2.mono hb.size)).setCell (p := ⟨w1.heap.size, 0, none⟩) hB0 (.int .i64 ((j : Int) + 1))).setCell (p := ⟨w1.heap.size, 1, none⟩) hB0 (.int .i64 L2)).setCell (p := ⟨w1.heap.size, 2, none⟩) hB0 (.int .i64 K2)).alloc (by simp; omega) (.cells #[.int .i64 ((j : Int) + 1), .int .i64 L2, .int .i64 K2] 30)
        refine ⟨⟨j + 1, by omega, by rw [hpc2.out], ?_, Lib.hid (HE.out.below hbf), hbf⟩, by simp [intOf]; omega⟩
        rw [← HL.out, ← HK.out, hpc2.out]
        exact (((T2.out.set0 _).set1 _).set2 _).alloc _
      · have q := hps.2 h10
        have q1 : (L2 != L) = false := by
          have : L2 = L := by rw [hL2, hL, q]
          rw [this]; simp
        have hci10 : ci ≠ 10 := by
          intro e
          refine h10 ?_
          rw [← UInt8.toNat_inj]
          show _ = 10
          omega
        have t1 : (ci == 10) = false := by rw [beq_eq_false_iff_ne]; exact hci10
        have t2 : (ci != 10) = true := by rw [bne_iff_ne]; exact hci10
        clear hps h10 hci hL hK hL2 hK2 q hple hln htm hT hpc hci10
        go_wp2_with fail
        refine C.out.mono ?_
        rintro e w2 ⟨rfl, b2⟩
        have T2 := Lib.hid (HT.out.below b2)
        have hB2 : w1.heap.size < w2.heap.size := Nat.lt_of_lt_of_le hBlt b2.size
        have c1 := T2.out.cell1
        have f0 := T2.out.free 0
        have f1 := T2.out.free 1
        have f2 := T2.out.free 2
        have c0 := T2.out.cell0
        have c2 := T2.out.cell2
        go_wp2_with fail
        have hbf := ((((hb.trans (b2.mono hb.size)).setCell (p := ⟨w1.heap.size, 0, none⟩) hB0 (.int .i64 ((j : Int) + 1))).setCell (p := ⟨w1.heap.size, 1, none⟩) hB0 (.int .i64 L2)).setCell (p := ⟨w1.heap.size, 2, none⟩) hB0 (.int .i64 K2)).alloc (by simp; omega) (.cells #[.int .i64 ((j : Int) + 1), .int .i64 L2, .int .i64 K2] 30)
        refine ⟨⟨j + 1, by omega, by rw [hpc2.out], ?_, Lib.hid (HE.out.below hbf), hbf⟩, by simp [intOf]; omega⟩
        rw [← HL.out, ← HK.out, hpc2.out]
        exact (((T2.out.set0 _).set1 _).set2 _).alloc _
    · have hjj : j = s.size := by omega
      have C := Lib.hid (fun w => Place_any s ((s.size : Int) + 9) w (by omega) s.size (by omega))
      rw [hjj] at hT
      obtain ⟨L, hL⟩ : ∃ L : Int, L = ((place (s.data.toList.take s.size)).1 : Int) := ⟨_, rfl⟩
      obtain ⟨K, hK⟩ : ∃ K : Int, K = ((place (s.data.toList.take s.size)).2 : Int) := ⟨_, rfl⟩
      rw [← hL, ← hK] at hT C
      have c0 := hT.cell0
      have c1 := hT.cell1
      have c2 := hT.cell2
      have HT := Lib.hid hT
      clear hT hL hK hjj
      go_wp2_with fail
      have l1 : IntKind.i64.wrap ((s.size : Int) + 9) = (s.size : Int) + 9 := IntWalk.i64_in _ (by omega)
      go_region_with (first | (go_at_call 15; refine (C.out _).mono ?_; rintro e w2 ⟨rfl, b2⟩; have b3 : Below wr.heap.size wr w2 := ⟨b2.os, b2.tape, b2.output, b2.size, b2.block⟩; have e0 := (HT.out.below b3).cell0; have e1 := (HT.out.below b3).cell1; have e2 := (HT.out.below b3).cell2; have hbw := hb.trans (b3.mono hb.size); clear b2 b3) | (go_at_call 12; refine (lives_true _ ?_).mono ?_; exact HE.out.below hbw; rintro e w5 ⟨rfl, b5⟩))
      all_goals
        go_wp2
        go_ret
        exact ⟨rfl, hbw.trans (b5.mono hbw.size)⟩
set_option maxHeartbeats 400000 in
theorem Places_any (s : ByteArray) (w : World) (hE : Env w) : Calls Tryd.prog 5 #[.string s] w fun e w' => e = .returned (.bool true) ∧ Below w.heap.size w w' := by
  by_cases hs : s.size ≤ 500
  · exact Places_walk s w hE hs
  · have HE := Lib.hid hE
    have h5 : (500 : Int) < (s.size : Int) := by omega
    clear hE hs
    go_enter Tryd.func5, Tryd.ntmps5
    go_wp2_with (go_at_call 12; refine (lives_true _ HE.out).mono ?_; rintro e w1 ⟨rfl, b1⟩)
    go_ret
    exact ⟨rfl, b1⟩
end Go.Proofs.YtlggamjchfkimaaDoor
