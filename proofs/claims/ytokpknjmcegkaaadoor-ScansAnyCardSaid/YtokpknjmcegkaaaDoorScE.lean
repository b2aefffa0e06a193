/- Contracts of mark. -/
import Derived.Test.YtokpknjmcegkaaaDoorScD
namespace Go.Proofs.YtokpknjmcegkaaaDoor
open Go Go.RowKit Ru
set_option maxRecDepth 100000

theorem Prefix_all (s p : ByteArray) (w : World) (b : Bool) (h : Lib.hasPrefix s.data.toList p.data.toList = b) :
    Calls Tryd.prog 32 #[.string s, .string p] w fun e w' => e = .returned (.bool b) ∧ w = w' := by
  refine (Tryd.strings_HasPrefix _ _ w).mono ?_
  rintro e w' ⟨he, hw⟩
  refine ⟨?_, hw.symm⟩
  rw [he, h]
theorem marks_index (c : UInt8) : (c ∈ Sc.marksL ∧ 0 ≤ Lib.indexByte Sc.marksL c) ∨ (¬ c ∈ Sc.marksL ∧ Lib.indexByte Sc.marksL c < 0) := by
  have key : ∀ k : Fin 256, (UInt8.ofNat k.val ∈ Sc.marksL ∧ 0 ≤ Lib.indexByte Sc.marksL (UInt8.ofNat k.val)) ∨ (¬ UInt8.ofNat k.val ∈ Sc.marksL ∧ Lib.indexByte Sc.marksL (UInt8.ofNat k.val) < 0) := by decide +kernel
  have h := key ⟨c.toNat, c.toNat_lt⟩
  dsimp only at h
  rw [UInt8.ofNat_toNat] at h
  exact h
theorem Index_of (l : List UInt8) (s : ByteArray) (hl : s.data.toList = l) (c : Int) (b : UInt8) (hc : c = (b.toNat : Int)) (w : World) : Calls Tryd.prog 31 #[.string s, .int .u8 c] w fun e w' => e = .returned (.int .i64 (Lib.indexByte l b)) ∧ w = w' := by
  refine (Tryd.strings_IndexByte s c w).mono ?_
  rintro e w' ⟨he, hw⟩
  refine ⟨?_, hw.symm⟩
  rw [he, hl, hc]
  have : ((b.toNat : Int)).toNat.toUInt8 = b := by simp
  rw [this]
set_option maxHeartbeats 1000000 in
theorem mark_two (s : ByteArray) (w : World) (hs : s.size ≤ 140737488355328) (hn : 2 ≤ s.size) (hP1 : Lib.hasPrefix s.data.toList [61, 62] = true) :
    Calls Tryd.prog 40 #[.string s] w (Tells (.ok 4 (s.data.toList.take 2) [] 2) w) := by
  have HT := Lib.hid (extract_take s 2)
  have HC := Lib.hid (fun (W : World) => Clone_any (s.extract 0 2) (by rw [ByteArray.size_extract]; omega) W)
  have P1 := Lib.hid (fun w => Prefix_all s ⟨#[61, 62]⟩ w true hP1)
  clear hP1
  have a0 : (2 : Int) ≤ (s.size : Int) := by omega
  go_enter Tryd.func40, Tryd.ntmps40
  go_wp2_with fail
  refine (P1.out _).mono ?_
  rintro e w' ⟨rfl, rfl⟩
  go_wp2_with fail
  refine (HC.out _).mono ?_
  rintro e w2 ⟨rfl, b2⟩
  have K := Lib.hid (Bk.below (Bk.made w 38 #[.int .u8 0, .string ⟨#[]⟩, .slice none 0 0, .int .i64 0, .int .i64 0, .int .i64 0]) b2 (by simp))
  have f0 := K.out.free 0
  have f1 := K.out.free 1
  have f2 := K.out.free 2
  have f3 := K.out.free 3
  have f4 := K.out.free 4
  have f5 := K.out.free 5
  have c0 := K.out.cell 0
  have c1 := K.out.cell 1
  have c2 := K.out.cell 2
  have c3 := K.out.cell 3
  have c4 := K.out.cell 4
  have c5 := K.out.cell 5
  simp at c0 c1 c2 c3 c4 c5
  go_wp2_with fail
  have G := Lib.hid ((((((K.out.set 0 (.int .u8 4)).set 1 (.string (s.extract 0 2))).set 2 (.slice none 0 0)).set 3 (.int .i64 0)).set 4 (.int .i64 0)).set 5 (.int .i64 0))
  refine bodyPost_ret (v := .tuple #[.agg #[.int .u8 4, .string (s.extract 0 2), .slice none 0 0, .int .i64 0, .int .i64 0, .int .i64 0], .int .i64 2, .int .i64 0]) ?_ rfl ?_
  · have g0 := G.out.cell 0
    have g1 := G.out.cell 1
    have g2 := G.out.cell 2
    have g3 := G.out.cell 3
    have g4 := G.out.cell 4
    have g5 := G.out.cell 5
    clear c0 c1 c2 c3 c4 c5 f0 f1 f2 f3 f4 f5
    simp at g0 g1 g2 g3 g4 g5
    simp [results, Tryd.results40, go_sem, g0, g1, g2, g3, g4, g5]
  · refine ⟨.slice none 0 0, by unfold wrV; dsimp only; rw [← HT.out]; rfl, SetAt.none_ _ _, ?_⟩
    exact (((((((((Below.refl _ w).alloc (Nat.le_refl _) _).trans (b2.mono (by simp))).setCell (by simp) _).setCell (by simp) _).setCell (by simp) _).setCell (by simp) _).setCell (by simp) _).setCell (by simp) _)
set_option maxHeartbeats 1000000 in
theorem mark_dots (s : ByteArray) (w : World) (hs : s.size ≤ 140737488355328) (hn : 2 ≤ s.size) (hP1 : Lib.hasPrefix s.data.toList [61, 62] = false) (hP2 : Lib.hasPrefix s.data.toList [46, 46] = true) :
    Calls Tryd.prog 40 #[.string s] w (Tells (.ok 4 (s.data.toList.take 2) [] 2) w) := by
  have HT := Lib.hid (extract_take s 2)
  have HC := Lib.hid (fun (W : World) => Clone_any (s.extract 0 2) (by rw [ByteArray.size_extract]; omega) W)
  have P1 := Lib.hid (fun w => Prefix_all s ⟨#[61, 62]⟩ w false hP1)
  clear hP1
  have P2 := Lib.hid (fun w => Prefix_all s ⟨#[46, 46]⟩ w true hP2)
  clear hP2
  have a0 : (2 : Int) ≤ (s.size : Int) := by omega
  go_enter Tryd.func40, Tryd.ntmps40
  go_wp2_with fail
  refine (P1.out _).mono ?_
  rintro e w' ⟨rfl, rfl⟩
  go_wp2_with fail
  refine (P2.out _).mono ?_
  rintro e w' ⟨rfl, rfl⟩
  go_wp2_with fail
  refine (HC.out _).mono ?_
  rintro e w2 ⟨rfl, b2⟩
  have K := Lib.hid (Bk.below (Bk.made w 38 #[.int .u8 0, .string ⟨#[]⟩, .slice none 0 0, .int .i64 0, .int .i64 0, .int .i64 0]) b2 (by simp))
  have f0 := K.out.free 0
  have f1 := K.out.free 1
  have f2 := K.out.free 2
  have f3 := K.out.free 3
  have f4 := K.out.free 4
  have f5 := K.out.free 5
  have c0 := K.out.cell 0
  have c1 := K.out.cell 1
  have c2 := K.out.cell 2
  have c3 := K.out.cell 3
  have c4 := K.out.cell 4
  have c5 := K.out.cell 5
  simp at c0 c1 c2 c3 c4 c5
  go_wp2_with fail
  have G := Lib.hid ((((((K.out.set 0 (.int .u8 4)).set 1 (.string (s.extract 0 2))).set 2 (.slice none 0 0)).set 3 (.int .i64 0)).set 4 (.int .i64 0)).set 5 (.int .i64 0))
  refine bodyPost_ret (v := .tuple #[.agg #[.int .u8 4, .string (s.extract 0 2), .slice none 0 0, .int .i64 0, .int .i64 0, .int .i64 0], .int .i64 2, .int .i64 0]) ?_ rfl ?_
  · have g0 := G.out.cell 0
    have g1 := G.out.cell 1
    have g2 := G.out.cell 2
    have g3 := G.out.cell 3
    have g4 := G.out.cell 4
    have g5 := G.out.cell 5
    clear c0 c1 c2 c3 c4 c5 f0 f1 f2 f3 f4 f5
    simp at g0 g1 g2 g3 g4 g5
    simp [results, Tryd.results40, go_sem, g0, g1, g2, g3, g4, g5]
  · refine ⟨.slice none 0 0, by unfold wrV; dsimp only; rw [← HT.out]; rfl, SetAt.none_ _ _, ?_⟩
    exact (((((((((Below.refl _ w).alloc (Nat.le_refl _) _).trans (b2.mono (by simp))).setCell (by simp) _).setCell (by simp) _).setCell (by simp) _).setCell (by simp) _).setCell (by simp) _).setCell (by simp) _)
set_option maxHeartbeats 1000000 in
theorem mark_one (s : ByteArray) (w : World) (hs : s.size ≤ 140737488355328) (hn : 1 ≤ s.size) (hP1 : Lib.hasPrefix s.data.toList [61, 62] = false) (hP2 : Lib.hasPrefix s.data.toList [46, 46] = false) (hm : s.data.toList.getD 0 0 ∈ Sc.marksL) :
    Calls Tryd.prog 40 #[.string s] w (Tells (.ok 4 (s.data.toList.take 1) [] 1) w) := by
  have HT := Lib.hid (extract_take s 1)
  have HC := Lib.hid (fun (W : World) => Clone_any (s.extract 0 1) (by rw [ByteArray.size_extract]; omega) W)
  have P1 := Lib.hid (fun w => Prefix_all s ⟨#[61, 62]⟩ w false hP1)
  clear hP1
  have P2 := Lib.hid (fun w => Prefix_all s ⟨#[46, 46]⟩ w false hP2)
  clear hP2
  obtain ⟨c, hc⟩ : ∃ c : Int, c = ((s.data.toList.getD 0 0).toNat : Int) := ⟨_, rfl⟩
  have hi := byte_at s 0 (by omega) c hc
  have hi : ∀ (wx : World), (Instr.index 9 (.string s) (.int .i64 0)).run Tryd.prog wx = .ok (.int .u8 c) wx := hi
  have IX := fun w => Index_of Sc.marksL ⟨#[58, 59, 124, 40, 41, 63, 42, 43, 61, 123, 125, 46, 126]⟩ rfl c _ hc w
  obtain ⟨i, hix⟩ : ∃ i, Lib.indexByte Sc.marksL (s.data.toList.getD 0 0) = i := ⟨_, rfl⟩
  rw [hix] at IX
  replace IX := Lib.hid IX
  have d1 : decide (0 ≤ i) = true := by
    rw [decide_eq_true_iff]
    rcases marks_index (s.data.toList.getD 0 0) with ⟨_, h⟩ | ⟨h, _⟩
    · omega
    · exact absurd hm h
  clear hm hc hix
  have a0 : (1 : Int) ≤ (s.size : Int) := by omega
  go_enter Tryd.func40, Tryd.ntmps40
  go_wp2_with fail
  refine (P1.out _).mono ?_
  rintro e w' ⟨rfl, rfl⟩
  go_wp2_with fail
  refine (P2.out _).mono ?_
  rintro e w' ⟨rfl, rfl⟩
  go_wp2_with fail
  refine (IX.out _).mono ?_
  rintro e w' ⟨rfl, rfl⟩
  go_wp2_with fail
  refine (HC.out _).mono ?_
  rintro e w2 ⟨rfl, b2⟩
  have K := Lib.hid (Bk.below (Bk.made w 38 #[.int .u8 0, .string ⟨#[]⟩, .slice none 0 0, .int .i64 0, .int .i64 0, .int .i64 0]) b2 (by simp))
  have f0 := K.out.free 0
  have f1 := K.out.free 1
  have f2 := K.out.free 2
  have f3 := K.out.free 3
  have f4 := K.out.free 4
  have f5 := K.out.free 5
  have c0 := K.out.cell 0
  have c1 := K.out.cell 1
  have c2 := K.out.cell 2
  have c3 := K.out.cell 3
  have c4 := K.out.cell 4
  have c5 := K.out.cell 5
  simp at c0 c1 c2 c3 c4 c5
  go_wp2_with fail
  have G := Lib.hid ((((((K.out.set 0 (.int .u8 4)).set 1 (.string (s.extract 0 1))).set 2 (.slice none 0 0)).set 3 (.int .i64 0)).set 4 (.int .i64 0)).set 5 (.int .i64 0))
  refine bodyPost_ret (v := .tuple #[.agg #[.int .u8 4, .string (s.extract 0 1), .slice none 0 0, .int .i64 0, .int .i64 0, .int .i64 0], .int .i64 1, .int .i64 0]) ?_ rfl ?_
  · have g0 := G.out.cell 0
    have g1 := G.out.cell 1
    have g2 := G.out.cell 2
    have g3 := G.out.cell 3
    have g4 := G.out.cell 4
    have g5 := G.out.cell 5
    clear c0 c1 c2 c3 c4 c5 f0 f1 f2 f3 f4 f5
    simp at g0 g1 g2 g3 g4 g5
    simp [results, Tryd.results40, go_sem, g0, g1, g2, g3, g4, g5]
  · refine ⟨.slice none 0 0, by unfold wrV; dsimp only; rw [← HT.out]; rfl, SetAt.none_ _ _, ?_⟩
    exact (((((((((Below.refl _ w).alloc (Nat.le_refl _) _).trans (b2.mono (by simp))).setCell (by simp) _).setCell (by simp) _).setCell (by simp) _).setCell (by simp) _).setCell (by simp) _).setCell (by simp) _)
set_option maxHeartbeats 1000000 in
theorem mark_none (s : ByteArray) (w : World) (hn : 1 ≤ s.size) (hP1 : Lib.hasPrefix s.data.toList [61, 62] = false) (hP2 : Lib.hasPrefix s.data.toList [46, 46] = false) (hm : ¬ s.data.toList.getD 0 0 ∈ Sc.marksL) :
    Calls Tryd.prog 40 #[.string s] w (Tells (.err 4) w) := by
  have P1 := Lib.hid (fun w => Prefix_all s ⟨#[61, 62]⟩ w false hP1)
  clear hP1
  have P2 := Lib.hid (fun w => Prefix_all s ⟨#[46, 46]⟩ w false hP2)
  clear hP2
  obtain ⟨c, hc⟩ : ∃ c : Int, c = ((s.data.toList.getD 0 0).toNat : Int) := ⟨_, rfl⟩
  have hi := byte_at s 0 (by omega) c hc
  have hi : ∀ (wx : World), (Instr.index 9 (.string s) (.int .i64 0)).run Tryd.prog wx = .ok (.int .u8 c) wx := hi
  have IX := fun w => Index_of Sc.marksL ⟨#[58, 59, 124, 40, 41, 63, 42, 43, 61, 123, 125, 46, 126]⟩ rfl c _ hc w
  obtain ⟨i, hix⟩ : ∃ i, Lib.indexByte Sc.marksL (s.data.toList.getD 0 0) = i := ⟨_, rfl⟩
  rw [hix] at IX
  replace IX := Lib.hid IX
  have d1 : decide (0 ≤ i) = false := by
    rw [decide_eq_false_iff_not]
    rcases marks_index (s.data.toList.getD 0 0) with ⟨h, _⟩ | ⟨_, h⟩
    · exact absurd h hm
    · omega
  have a0 : (1 : Int) ≤ (s.size : Int) := by omega
  clear hm hc hix
  go_enter Tryd.func40, Tryd.ntmps40
  go_wp2_with fail
  refine (P1.out _).mono ?_
  rintro e w' ⟨rfl, rfl⟩
  go_wp2_with fail
  refine (P2.out _).mono ?_
  rintro e w' ⟨rfl, rfl⟩
  go_wp2_with fail
  refine (IX.out _).mono ?_
  rintro e w' ⟨rfl, rfl⟩
  go_wp2_with fail
  refine bodyPost_ret (v := wrV (.err 4) (.slice none 0 0)) (by simp [results, wrV, Tryd.results40, go_sem]) rfl ?_
  exact ⟨.slice none 0 0, rfl, SetAt.none_ _ _, (Below.refl _ w).alloc (Nat.le_refl _) _⟩
theorem mark_any (s : ByteArray) (w : World) (hs : s.size ≤ 140737488355328) (hn : 1 ≤ s.size) :
    Calls Tryd.prog 40 #[.string s] w (Tells (Sc.markR s.data.toList) w) := by
  unfold Sc.markR
  cases h1 : Lib.hasPrefix s.data.toList [61, 62] with
  | true =>
    rw [if_pos rfl]
    have := Sc.prefix_len h1
    rw [← Lib.size_eq] at this
    exact mark_two s w hs this h1
  | false =>
    rw [if_neg (by simp)]
    cases h2 : Lib.hasPrefix s.data.toList [46, 46] with
    | true =>
      rw [if_pos rfl]
      have := Sc.prefix_len h2
      rw [← Lib.size_eq] at this
      exact mark_dots s w hs this h1 h2
    | false =>
      rw [if_neg (by simp)]
      by_cases h3 : s.data.toList.getD 0 0 ∈ Sc.marksL
      · rw [if_pos h3]
        exact mark_one s w hs hn h1 h2 h3
      · rw [if_neg h3]
        exact mark_none s w hn h1 h2 h3
end Go.Proofs.YtokpknjmcegkaaaDoor
