/- Contracts of part. -/
import Derived.Test.YtokpknjmcegkaaaDoorScM
namespace Go.Proofs.YtokpknjmcegkaaaDoor
open Go Go.RowKit Ru
set_option maxRecDepth 100000

theorem Prefix_at (s p : ByteArray) (k : Nat) (w : World) (b : Bool) (h : Lib.hasPrefix (s.data.toList.drop k) p.data.toList = b) :
    Calls Tryd.prog 32 #[.string (s.extract k s.size), .string p] w fun e w' => e = .returned (.bool b) ∧ w = w' := by
  refine (Tryd.strings_HasPrefix _ _ w).mono ?_
  rintro e w' ⟨he, hw⟩
  refine ⟨?_, hw.symm⟩
  rw [he, Lib.extract_to_end, h]
/-- What part answers. -/
def partT : Option ((Nat × Nat) × Nat) → Value
  | some ((a, b), n) => .tuple #[.agg #[.int .i32 a, .int .i32 b], .int .i64 n]
  | none => .tuple #[.agg #[.int .i32 0, .int .i32 0], .int .i64 0]
set_option maxHeartbeats 1000000 in
theorem part_none (s : ByteArray) (k : Nat) (w : World) (hE : EnvS w)
    (C : ∀ w, EnvS w → Calls Tryd.prog 52 #[.string s, .int .i64 k, .string ⟨#[93, 91, 92, 45, 10]⟩] w fun e w' => e = .returned (.tuple #[.int .i32 0, .int .i64 0]) ∧ Below w.heap.size w w') :
    Calls Tryd.prog 56 #[.string s, .int .i64 k] w fun e w' => e = .returned (.tuple #[.agg #[.int .i32 0, .int .i32 0], .int .i64 0]) ∧ Below w.heap.size w w' := by
  have HE := Lib.hid hE
  have C := Lib.hid C
  clear hE
  go_enter Tryd.func56, Tryd.ntmps56
  go_wp2_with fail
  refine (C.out _ (HE.out.alloc _)).mono ?_
  rintro e w1 ⟨rfl, b1⟩
  have K := Lib.hid (Bk.below (Bk.made w 40 #[.int .i32 0, .int .i32 0]) b1 (by simp))
  have f0 := K.out.free 0
  have f1 := K.out.free 1
  have c0 := K.out.cell 0
  have c1 := K.out.cell 1
  simp at c0 c1
  go_wp2_with fail
  have G := Lib.hid ((K.out.set 0 (.int .i32 0)).set 1 (.int .i32 0))
  refine bodyPost_ret (v := .tuple #[.agg #[.int .i32 0, .int .i32 0], .int .i64 0]) ?_ rfl ⟨rfl, ?_⟩
  · have g0 := G.out.cell 0
    have g1 := G.out.cell 1
    clear c0 c1 f0 f1
    simp at g0 g1
    simp [results, Tryd.results56, go_sem, g0, g1]
  · exact ((((Below.refl _ w).alloc (Nat.le_refl _) _).trans (b1.mono (by simp))).setCell (by simp) _).setCell (by simp) _
set_option maxHeartbeats 1000000 in
theorem part_lone (s : ByteArray) (k n : Nat) (r : Int) (w : World) (hE : EnvS w) (hs : s.size ≤ 140737488355328) (hn : 1 ≤ n) (hkn : k + n ≤ s.size)
    (C : ∀ w, EnvS w → Calls Tryd.prog 52 #[.string s, .int .i64 k, .string ⟨#[93, 91, 92, 45, 10]⟩] w fun e w' => e = .returned (.tuple #[.int .i32 r, .int .i64 n]) ∧ Below w.heap.size w w') (hp : Lib.hasPrefix (s.data.toList.drop (k + n)) [45] = false) :
    Calls Tryd.prog 56 #[.string s, .int .i64 k] w fun e w' => e = .returned (.tuple #[.agg #[.int .i32 r, .int .i32 r], .int .i64 n]) ∧ Below w.heap.size w w' := by
  have HE := Lib.hid hE
  have C := Lib.hid C
  have d0 : ((n : Int) == 0) = false := by rw [beq_eq_false_iff_ne]; omega
  have a0 : (0 : Int) ≤ (k : Int) + (n : Int) := by omega
  have a1 : (k : Int) + (n : Int) ≤ (s.size : Int) := by omega
  have P := Lib.hid (fun w => Prefix_at s ⟨#[45]⟩ (k + n) w false hp)
  clear hp
  clear hE
  go_enter Tryd.func56, Tryd.ntmps56
  go_wp2_with fail
  refine (C.out _ (HE.out.alloc _)).mono ?_
  rintro e w1 ⟨rfl, b1⟩
  go_wp2_with fail
  refine (P.out _).mono ?_
  rintro e w' ⟨rfl, rfl⟩
  have K := Lib.hid (Bk.below (Bk.made w 40 #[.int .i32 0, .int .i32 0]) b1 (by simp))
  have f0 := K.out.free 0
  have f1 := K.out.free 1
  have c0 := K.out.cell 0
  have c1 := K.out.cell 1
  simp at c0 c1
  go_wp2_with fail
  have G := Lib.hid ((K.out.set 0 (.int .i32 r)).set 1 (.int .i32 r))
  refine bodyPost_ret (v := .tuple #[.agg #[.int .i32 r, .int .i32 r], .int .i64 n]) ?_ rfl ⟨rfl, ?_⟩
  · have g0 := G.out.cell 0
    have g1 := G.out.cell 1
    clear c0 c1 f0 f1
    simp at g0 g1
    simp [results, Tryd.results56, go_sem, g0, g1]
  · exact ((((Below.refl _ w).alloc (Nat.le_refl _) _).trans (b1.mono (by simp))).setCell (by simp) _).setCell (by simp) _
set_option maxHeartbeats 1000000 in
theorem part_stray (s : ByteArray) (k n : Nat) (r : Int) (w : World) (hE : EnvS w) (hs : s.size ≤ 140737488355328) (hn : 1 ≤ n) (hkn : k + n ≤ s.size)
    (C : ∀ w, EnvS w → Calls Tryd.prog 52 #[.string s, .int .i64 k, .string ⟨#[93, 91, 92, 45, 10]⟩] w fun e w' => e = .returned (.tuple #[.int .i32 r, .int .i64 n]) ∧ Below w.heap.size w w') (hp : Lib.hasPrefix (s.data.toList.drop (k + n)) [45] = true)
    (D : ∀ w, EnvS w → Calls Tryd.prog 52 #[.string s, .int .i64 ((k : Int) + (n : Int) + 1), .string ⟨#[93, 91, 92, 45, 10]⟩] w fun e w' => e = .returned (.tuple #[.int .i32 0, .int .i64 0]) ∧ Below w.heap.size w w') :
    Calls Tryd.prog 56 #[.string s, .int .i64 k] w fun e w' => e = .returned (.tuple #[.agg #[.int .i32 0, .int .i32 0], .int .i64 0]) ∧ Below w.heap.size w w' := by
  have HE := Lib.hid hE
  have C := Lib.hid C
  have d0 : ((n : Int) == 0) = false := by rw [beq_eq_false_iff_ne]; omega
  have a0 : (0 : Int) ≤ (k : Int) + (n : Int) := by omega
  have a1 : (k : Int) + (n : Int) ≤ (s.size : Int) := by omega
  have P := Lib.hid (fun w => Prefix_at s ⟨#[45]⟩ (k + n) w true hp)
  clear hp
  have D := Lib.hid D
  clear hE
  go_enter Tryd.func56, Tryd.ntmps56
  go_wp2_with fail
  refine (C.out _ (HE.out.alloc _)).mono ?_
  rintro e w1 ⟨rfl, b1⟩
  go_wp2_with fail
  refine (P.out _).mono ?_
  rintro e w' ⟨rfl, rfl⟩
  have E1 := Lib.hid ((HE.out.alloc (.cells #[.int .i32 0, .int .i32 0] 40)).below b1)
  go_wp2_with fail
  refine (D.out _ E1.out).mono ?_
  rintro e w2 ⟨rfl, b2⟩
  have b12 := b1.trans (b2.mono b1.size)
  have K := Lib.hid (Bk.below (Bk.made w 40 #[.int .i32 0, .int .i32 0]) b12 (by simp))
  have f0 := K.out.free 0
  have f1 := K.out.free 1
  have c0 := K.out.cell 0
  have c1 := K.out.cell 1
  simp at c0 c1
  go_wp2_with fail
  have G := Lib.hid ((K.out.set 0 (.int .i32 0)).set 1 (.int .i32 0))
  refine bodyPost_ret (v := .tuple #[.agg #[.int .i32 0, .int .i32 0], .int .i64 0]) ?_ rfl ⟨rfl, ?_⟩
  · have g0 := G.out.cell 0
    have g1 := G.out.cell 1
    clear c0 c1 f0 f1
    simp at g0 g1
    simp [results, Tryd.results56, go_sem, g0, g1]
  · exact ((((Below.refl _ w).alloc (Nat.le_refl _) _).trans (b12.mono (by simp))).setCell (by simp) _).setCell (by simp) _
set_option maxHeartbeats 1000000 in
theorem part_falls (s : ByteArray) (k n m : Nat) (r q : Int) (w : World) (hE : EnvS w) (hs : s.size ≤ 140737488355328) (hn : 1 ≤ n) (hkn : k + n ≤ s.size) (hm : 1 ≤ m) (hqr : q < r)
    (C : ∀ w, EnvS w → Calls Tryd.prog 52 #[.string s, .int .i64 k, .string ⟨#[93, 91, 92, 45, 10]⟩] w fun e w' => e = .returned (.tuple #[.int .i32 r, .int .i64 n]) ∧ Below w.heap.size w w') (hp : Lib.hasPrefix (s.data.toList.drop (k + n)) [45] = true)
    (D : ∀ w, EnvS w → Calls Tryd.prog 52 #[.string s, .int .i64 ((k : Int) + (n : Int) + 1), .string ⟨#[93, 91, 92, 45, 10]⟩] w fun e w' => e = .returned (.tuple #[.int .i32 q, .int .i64 m]) ∧ Below w.heap.size w w') :
    Calls Tryd.prog 56 #[.string s, .int .i64 k] w fun e w' => e = .returned (.tuple #[.agg #[.int .i32 0, .int .i32 0], .int .i64 0]) ∧ Below w.heap.size w w' := by
  have HE := Lib.hid hE
  have C := Lib.hid C
  have d0 : ((n : Int) == 0) = false := by rw [beq_eq_false_iff_ne]; omega
  have a0 : (0 : Int) ≤ (k : Int) + (n : Int) := by omega
  have a1 : (k : Int) + (n : Int) ≤ (s.size : Int) := by omega
  have P := Lib.hid (fun w => Prefix_at s ⟨#[45]⟩ (k + n) w true hp)
  clear hp
  have D := Lib.hid D
  have d1 : ((m : Int) == 0) = false := by rw [beq_eq_false_iff_ne]; omega
  have d2 : decide (q < r) = true := by rw [decide_eq_true_iff]; exact hqr
  clear hqr
  clear hE
  go_enter Tryd.func56, Tryd.ntmps56
  go_wp2_with fail
  refine (C.out _ (HE.out.alloc _)).mono ?_
  rintro e w1 ⟨rfl, b1⟩
  go_wp2_with fail
  refine (P.out _).mono ?_
  rintro e w' ⟨rfl, rfl⟩
  have E1 := Lib.hid ((HE.out.alloc (.cells #[.int .i32 0, .int .i32 0] 40)).below b1)
  go_wp2_with fail
  refine (D.out _ E1.out).mono ?_
  rintro e w2 ⟨rfl, b2⟩
  have b12 := b1.trans (b2.mono b1.size)
  have K := Lib.hid (Bk.below (Bk.made w 40 #[.int .i32 0, .int .i32 0]) b12 (by simp))
  have f0 := K.out.free 0
  have f1 := K.out.free 1
  have c0 := K.out.cell 0
  have c1 := K.out.cell 1
  simp at c0 c1
  go_wp2_with fail
  have G := Lib.hid ((K.out.set 0 (.int .i32 0)).set 1 (.int .i32 0))
  refine bodyPost_ret (v := .tuple #[.agg #[.int .i32 0, .int .i32 0], .int .i64 0]) ?_ rfl ⟨rfl, ?_⟩
  · have g0 := G.out.cell 0
    have g1 := G.out.cell 1
    clear c0 c1 f0 f1
    simp at g0 g1
    simp [results, Tryd.results56, go_sem, g0, g1]
  · exact ((((Below.refl _ w).alloc (Nat.le_refl _) _).trans (b12.mono (by simp))).setCell (by simp) _).setCell (by simp) _
set_option maxHeartbeats 1000000 in
theorem part_rises (s : ByteArray) (k n m : Nat) (r q : Int) (w : World) (hE : EnvS w) (hs : s.size ≤ 140737488355328) (hn : 1 ≤ n) (hkn : k + n ≤ s.size) (hm : 1 ≤ m) (hmn : k + n + 1 + m ≤ s.size) (hqr : ¬ q < r)
    (C : ∀ w, EnvS w → Calls Tryd.prog 52 #[.string s, .int .i64 k, .string ⟨#[93, 91, 92, 45, 10]⟩] w fun e w' => e = .returned (.tuple #[.int .i32 r, .int .i64 n]) ∧ Below w.heap.size w w') (hp : Lib.hasPrefix (s.data.toList.drop (k + n)) [45] = true)
    (D : ∀ w, EnvS w → Calls Tryd.prog 52 #[.string s, .int .i64 ((k : Int) + (n : Int) + 1), .string ⟨#[93, 91, 92, 45, 10]⟩] w fun e w' => e = .returned (.tuple #[.int .i32 q, .int .i64 m]) ∧ Below w.heap.size w w') :
    Calls Tryd.prog 56 #[.string s, .int .i64 k] w fun e w' => e = .returned (.tuple #[.agg #[.int .i32 r, .int .i32 q], .int .i64 ((n : Int) + 1 + (m : Int))]) ∧ Below w.heap.size w w' := by
  have HE := Lib.hid hE
  have C := Lib.hid C
  have d0 : ((n : Int) == 0) = false := by rw [beq_eq_false_iff_ne]; omega
  have a0 : (0 : Int) ≤ (k : Int) + (n : Int) := by omega
  have a1 : (k : Int) + (n : Int) ≤ (s.size : Int) := by omega
  have P := Lib.hid (fun w => Prefix_at s ⟨#[45]⟩ (k + n) w true hp)
  clear hp
  have D := Lib.hid D
  have d1 : ((m : Int) == 0) = false := by rw [beq_eq_false_iff_ne]; omega
  have d2 : decide (q < r) = false := by rw [decide_eq_false_iff_not]; exact hqr
  clear hqr
  clear hE
  go_enter Tryd.func56, Tryd.ntmps56
  go_wp2_with fail
  refine (C.out _ (HE.out.alloc _)).mono ?_
  rintro e w1 ⟨rfl, b1⟩
  go_wp2_with fail
  refine (P.out _).mono ?_
  rintro e w' ⟨rfl, rfl⟩
  have E1 := Lib.hid ((HE.out.alloc (.cells #[.int .i32 0, .int .i32 0] 40)).below b1)
  go_wp2_with fail
  refine (D.out _ E1.out).mono ?_
  rintro e w2 ⟨rfl, b2⟩
  have b12 := b1.trans (b2.mono b1.size)
  have K := Lib.hid (Bk.below (Bk.made w 40 #[.int .i32 0, .int .i32 0]) b12 (by simp))
  have f0 := K.out.free 0
  have f1 := K.out.free 1
  have c0 := K.out.cell 0
  have c1 := K.out.cell 1
  simp at c0 c1
  go_wp2_with fail
  have G := Lib.hid ((K.out.set 0 (.int .i32 r)).set 1 (.int .i32 q))
  refine bodyPost_ret (v := .tuple #[.agg #[.int .i32 r, .int .i32 q], .int .i64 ((n : Int) + 1 + (m : Int))]) ?_ rfl ⟨rfl, ?_⟩
  · have g0 := G.out.cell 0
    have g1 := G.out.cell 1
    clear c0 c1 f0 f1
    simp at g0 g1
    simp [results, Tryd.results56, go_sem, g0, g1]
  · exact ((((Below.refl _ w).alloc (Nat.le_refl _) _).trans (b12.mono (by simp))).setCell (by simp) _).setCell (by simp) _
theorem part_any (s : ByteArray) (k : Nat) (w : World) (hs : s.size ≤ 140737488355328) (hk : k ≤ s.size) (hE : EnvS w) :
    Calls Tryd.prog 56 #[.string s, .int .i64 k] w fun e w' => e = .returned (partT (Sc.partL (s.data.toList.drop k))) ∧ Below w.heap.size w w' := by
  have C := fun w hE => written_Set s k w hs hk hE
  unfold Sc.partL
  cases h1 : Sc.oneL Sc.notSet (s.data.toList.drop k) with
  | none =>
    rw [h1] at C
    exact part_none s k w hE C
  | some d =>
    obtain ⟨r, n⟩ := d
    rw [h1] at C
    have hn := (Sc.oneL_some h1).2
    rw [List.length_drop, ← Lib.size_eq] at hn
    dsimp only
    rw [List.drop_drop]
    cases hp : Lib.hasPrefix (s.data.toList.drop (k + n)) [45] with
    | false =>
      rw [if_neg (by simp)]
      exact part_lone s k n r w hE hs hn.1 (by omega) C hp
    | true =>
      rw [if_pos rfl, List.drop_drop]
      have hl := Sc.prefix_len hp
      rw [List.length_drop, ← Lib.size_eq] at hl
      simp only [List.length_cons, List.length_nil] at hl
      have D := fun w hE => written_Set s (k + n + 1) w hs (by omega) hE
      have e : ((k + n + 1 : Nat) : Int) = (k : Int) + (n : Int) + 1 := by omega
      rw [e] at D
      have e2 : k + (n + 1) = k + n + 1 := by omega
      rw [e2]
      cases h2 : Sc.oneL Sc.notSet (s.data.toList.drop (k + n + 1)) with
      | none =>
        rw [h2] at D
        exact part_stray s k n r w hE hs hn.1 (by omega) C hp D
      | some d =>
        obtain ⟨q, m⟩ := d
        rw [h2] at D
        have hm := (Sc.oneL_some h2).2
        rw [List.length_drop, ← Lib.size_eq] at hm
        dsimp only
        by_cases hqr : q < r
        · rw [if_pos hqr]
          exact part_falls s k n m r q w hE hs hn.1 (by omega) hm.1 (by omega) C hp D
        · rw [if_neg hqr]
          refine (part_rises s k n m r q w hE hs hn.1 (by omega) hm.1 (by omega) (by omega) C hp D).mono fun e w' ⟨he, hb⟩ => ⟨?_, hb⟩
          rw [he]
          unfold partT
          dsimp only
          have e3 : ((n + 1 + m : Nat) : Int) = (n : Int) + 1 + (m : Int) := by omega
          rw [e3]
end Go.Proofs.YtokpknjmcegkaaaDoor
