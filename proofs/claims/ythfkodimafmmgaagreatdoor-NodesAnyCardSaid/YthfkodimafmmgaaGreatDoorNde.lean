/- The chapter's own Name. -/
import Derived.Test.YthfkodimafmmgaaGreatDoorNdd
import Derived.Test.YthfkodimafmmgaaGreatDoorNdb
import Derived.Test.YthfkodimafmmgaaGreatDoorNdI
namespace Go.Proofs.YthfkodimafmmgaaGreatDoor
open Go Go.RowKit Ru
set_option maxRecDepth 100000

namespace Nd
def letF (big : Bool) : List UInt8 := match big with | true => bigL | false => smallL
theorem big_at (b : UInt8) : bigL.contains b = (decide (65 ≤ b.toNat) && decide (b.toNat ≤ 90)) := by
  have h : ∀ n, n < 256 → bigL.contains (UInt8.ofNat n) = (decide (65 ≤ n) && decide (n ≤ 90)) := by decide +kernel
  have := h b.toNat b.toNat_lt
  rwa [UInt8.ofNat_toNat] at this
theorem small_at (b : UInt8) : smallL.contains b = (decide (97 ≤ b.toNat) && decide (b.toNat ≤ 122)) := by
  have h : ∀ n, n < 256 → smallL.contains (UInt8.ofNat n) = (decide (97 ≤ n) && decide (n ≤ 122)) := by decide +kernel
  have := h b.toNat b.toNat_lt
  rwa [UInt8.ofNat_toNat] at this
theorem beh_at (b : UInt8) : behL.contains b = ((decide (97 ≤ b.toNat) && decide (b.toNat ≤ 122)) || (decide (65 ≤ b.toNat) && decide (b.toNat ≤ 90)) || (decide (48 ≤ b.toNat) && decide (b.toNat ≤ 57)) || b.toNat == 95) := by
  have h : ∀ n, n < 256 → behL.contains (UInt8.ofNat n) = ((decide (97 ≤ n) && decide (n ≤ 122)) || (decide (65 ≤ n) && decide (n ≤ 90)) || (decide (48 ≤ n) && decide (n ≤ 57)) || n == 95) := by decide +kernel
  have := h b.toNat b.toNat_lt
  rwa [UInt8.ofNat_toNat] at this
/-- Which number a byte is, as the chapter asks. -/
theorem byte_cases (b : UInt8) (c : Int) (hc : (b.toNat : Int) = c) :
    ((decide (97 ≤ c) && decide (c ≤ 122)) = smallL.contains b) ∧ ((decide (65 ≤ c) && decide (c ≤ 90)) = bigL.contains b) ∧
    (smallL.contains b || bigL.contains b || (decide (48 ≤ c) && decide (c ≤ 57)) || c == 95) = behL.contains b := by
  rw [big_at, small_at, beh_at, ← hc]
  have e : ∀ n : Nat, decide ((n : Int) ≤ (b.toNat : Int)) = decide (n ≤ b.toNat) := fun n => by
    by_cases h : n ≤ b.toNat
    · rw [decide_eq_true h, decide_eq_true (by omega)]
    · rw [decide_eq_false h, decide_eq_false (by omega)]
  have e' : ∀ n : Nat, decide ((b.toNat : Int) ≤ (n : Int)) = decide (b.toNat ≤ n) := fun n => by
    by_cases h : b.toNat ≤ n
    · rw [decide_eq_true h, decide_eq_true (by omega)]
    · rw [decide_eq_false h, decide_eq_false (by omega)]
  have e95 : ((b.toNat : Int) == 95) = (b.toNat == 95) := by
    by_cases h : b.toNat = 95
    · rw [h]; rfl
    · rw [beq_eq_false_iff_ne.2 h, beq_eq_false_iff_ne.2 (by omega)]
  have a1 : decide ((97 : Int) ≤ (b.toNat : Int)) = decide (97 ≤ b.toNat) := e 97
  have a2 : decide ((b.toNat : Int) ≤ (122 : Int)) = decide (b.toNat ≤ 122) := e' 122
  have a3 : decide ((65 : Int) ≤ (b.toNat : Int)) = decide (65 ≤ b.toNat) := e 65
  have a4 : decide ((b.toNat : Int) ≤ (90 : Int)) = decide (b.toNat ≤ 90) := e' 90
  have a5 : decide ((48 : Int) ≤ (b.toNat : Int)) = decide (48 ≤ b.toNat) := e 48
  have a6 : decide ((b.toNat : Int) ≤ (57 : Int)) = decide (b.toNat ≤ 57) := e' 57
  rw [a1, a2, a3, a4, a5, a6, e95]
  exact ⟨rfl, rfl, rfl⟩
end Nd
set_option maxHeartbeats 4000000 in
theorem refName_any (s : ByteArray) (big : Bool) (w : World) (hs : s.size ≤ 140737488351232) :
    Calls Tryz.prog 38 #[.string s, .bool big] w fun e w' => e = .returned (.bool (Nd.nameP (Nd.letF big) s.data.toList)) ∧ w' = w := by
  obtain ⟨R, hR⟩ : ∃ R, Nd.nameP (Nd.letF big) s.data.toList = R := ⟨_, rfl⟩
  have HR := Lib.hid hR
  rw [hR]
  have hsz := Lib.size_eq s
  by_cases h0 : s.size < 1
  · have hn : R = false := by
      rw [← hR]
      have : s.data.toList = [] := List.eq_nil_of_length_eq_zero (by omega)
      unfold Nd.nameP
      rw [this]
      simp
    rw [hn]
    have d1 : decide ((s.size : Int) < 1) = true := by rw [decide_eq_true_iff]; omega
    have d2 : decide (s.size < 1) = true := by rw [decide_eq_true_iff]; omega
    clear hn hsz hR
    go_enter Tryz.func38, Tryz.ntmps38
    go_wp2_with fail
    go_ret
    exact ⟨rfl, rfl⟩
  have d1 : decide ((s.size : Int) < 1) = false := by rw [decide_eq_false_iff_not]; omega
  have d2 : decide (s.size < 1) = false := by rw [decide_eq_false_iff_not]; omega
  by_cases h64 : 64 < s.size
  · have hn : R = false := by
      rw [← hR]
      unfold Nd.nameP
      rw [decide_eq_false (p := s.data.toList.length ≤ 64) (by omega)]
      simp
    rw [hn]
    have d3 : decide ((64 : Int) < (s.size : Int)) = true := by rw [decide_eq_true_iff]; omega
    have d4 : decide (64 < s.size) = true := by rw [decide_eq_true_iff]; omega
    clear hn hsz hR
    go_enter Tryz.func38, Tryz.ntmps38
    go_wp2_with fail
    go_ret
    exact ⟨rfl, rfl⟩
  have d3 : decide ((64 : Int) < (s.size : Int)) = false := by rw [decide_eq_false_iff_not]; omega
  have d4 : decide (64 < s.size) = false := by rw [decide_eq_false_iff_not]; omega
  have HSZ := Lib.hid hsz
  clear hR hsz
  go_enter Tryz.func38, Tryz.ntmps38
  go_wp2_with fail
  go_loopw [5] (fun i wr => ∃ p : Nat, p ≤ s.size ∧ i = .int .i64 p ∧ wr = w ∧ Hid ((∀ j, j < p → Nd.behL.contains (s.data.toList.getD j 0) = true) ∧ (0 < p → (Nd.letF big).contains (s.data.toList.getD 0 0) = true))) (fun i _ => s.size - (intOf i).toNat)
  case atStart => exact ⟨0, Nat.zero_le _, rfl, rfl, Lib.hid ⟨fun j hj => absurd hj (Nat.not_lt_zero _), fun h => absurd h (Nat.lt_irrefl _)⟩⟩
  case round =>
    obtain ⟨p, hp, rfl, rfl, hI⟩ := hrel
    by_cases hlt : p < s.size
    · have hsz := HSZ.out
      have d5 : decide (p < s.size) = true := by rw [decide_eq_true_iff]; exact hlt
      have a0 : (p : Int) < (s.size : Int) := by omega
      obtain ⟨B, hB⟩ : ∃ b, s.data.toList.getD p 0 = b := ⟨_, rfl⟩
      obtain ⟨c, hc⟩ : ∃ c : Int, (B.toNat : Int) = c := ⟨_, rfl⟩
      have hix := fun wx => byte_at s p hlt c (by rw [hB, hc]) wx
      obtain ⟨q1, q2, q3⟩ := Nd.byte_cases B c hc
      obtain ⟨FS, hFS⟩ : ∃ b, Nd.smallL.contains B = b := ⟨_, rfl⟩
      obtain ⟨FB, hFB⟩ : ∃ b, Nd.bigL.contains B = b := ⟨_, rfl⟩
      obtain ⟨BB, hBB⟩ : ∃ b, Nd.behL.contains B = b := ⟨_, rfl⟩
      rw [hFS] at q1 q3
      rw [hFB] at q2 q3
      rw [hBB] at q3
      -- what stops it is no name; what doesn't goes on
      have hbad : BB = false ∨ (p = 0 ∧ (Nd.letF big).contains B = false) → R = false := by
        intro h
        rw [← HR.out]
        unfold Nd.nameP
        rcases h with h | ⟨h, h'⟩
        · have : s.data.toList.all (Nd.behL.contains ·) = false := by
            rw [List.all_eq_false]
            refine ⟨B, ?_, by rw [hBB, h]; simp⟩
            rw [← hB]
            have : s.data.toList.getD p 0 = s.data.toList[p]'(by omega) := by simp [List.getD, List.getElem?_eq_getElem (show p < s.data.toList.length by omega)]
            rw [this]
            exact List.getElem_mem _
          rw [this, Bool.and_false]
        · rw [← hB, h] at h'
          rw [h']
          simp
      have hgo : BB = true → (p = 0 → (Nd.letF big).contains B = true) → (∀ j, j < p + 1 → Nd.behL.contains (s.data.toList.getD j 0) = true) ∧ (0 < p + 1 → (Nd.letF big).contains (s.data.toList.getD 0 0) = true) := by
        intro h1 h2
        refine ⟨fun j hj => ?_, fun _ => ?_⟩
        · by_cases h : j = p
          · rw [h, hB, hBB, h1]
          · exact hI.out.1 j (by omega)
        · by_cases h : p = 0
          · have := h2 h
            rw [← hB, h] at this
            exact this
          · exact hI.out.2 (by omega)
      have hFL : (Nd.letF big).contains B = cond big FB FS := by cases big; exact hFS; exact hFB
      rw [hFL] at hbad hgo
      have HBAD := Lib.hid hbad
      have HGO := Lib.hid hgo
      clear hbad hgo hFL hBB hFB hFS hB hc hI hsz
      obtain ⟨Z, hZ⟩ : ∃ z, decide (p = 0) = z := ⟨_, rfl⟩
      have z0 : ((p : Int) == 0) = Z := by rw [beq_zero]; exact hZ
      have HZ := Lib.hid hZ
      clear hZ
      rcases (show c < 48 ∨ (48 ≤ c ∧ c ≤ 57) ∨ (57 < c ∧ c < 65) ∨ (65 ≤ c ∧ c ≤ 90) ∨ (90 < c ∧ c < 95) ∨ c = 95 ∨ c = 96 ∨ (97 ≤ c ∧ c ≤ 122) ∨ 122 < c by omega) with h | h | h | h | h | h | h | h | h
      all_goals
        first
        | (have t1 : decide (97 ≤ c) = true := by rw [decide_eq_true_iff]; omega)
        | (have t1 : decide (97 ≤ c) = false := by rw [decide_eq_false_iff_not]; omega)
        first
        | (have t2 : decide (c ≤ 122) = true := by rw [decide_eq_true_iff]; omega)
        | (have t2 : decide (c ≤ 122) = false := by rw [decide_eq_false_iff_not]; omega)
        first
        | (have t3 : decide (65 ≤ c) = true := by rw [decide_eq_true_iff]; omega)
        | (have t3 : decide (65 ≤ c) = false := by rw [decide_eq_false_iff_not]; omega)
        first
        | (have t4 : decide (c ≤ 90) = true := by rw [decide_eq_true_iff]; omega)
        | (have t4 : decide (c ≤ 90) = false := by rw [decide_eq_false_iff_not]; omega)
        first
        | (have t5 : decide (48 ≤ c) = true := by rw [decide_eq_true_iff]; omega)
        | (have t5 : decide (48 ≤ c) = false := by rw [decide_eq_false_iff_not]; omega)
        first
        | (have t6 : decide (c ≤ 57) = true := by rw [decide_eq_true_iff]; omega)
        | (have t6 : decide (c ≤ 57) = false := by rw [decide_eq_false_iff_not]; omega)
        first
        | (have t7 : (c == 95) = true := by rw [beq_iff_eq]; omega)
        | (have t7 : (c == 95) = false := by rw [beq_eq_false_iff_ne]; omega)
        have t8 : (c != 95) = !(c == 95) := rfl
        rw [t7] at t8
        rw [t1, t2] at q1
        rw [t3, t4] at q2
        rw [t5, t6, t7] at q3
        simp at q1 q2
        subst q1 q2
        simp at q3
        subst q3
        clear h
        cases big <;> cases Z
      all_goals
        go_wp2_with fail
        first
        | (go_ret; have hz := HBAD.out (by first | exact Or.inl rfl | exact Or.inl trivial | exact Or.inr ⟨of_decide_eq_true HZ.out, rfl⟩ | exact Or.inr ⟨of_decide_eq_true HZ.out, trivial⟩ | simp); subst hz; first | rfl | exact ⟨rfl, rfl⟩ | exact ⟨rfl, trivial⟩)
        | (exact ⟨⟨p + 1, by omega, by go_num, by first | rfl | trivial, Lib.hid (HGO.out (by first | rfl | trivial) (fun h => by first | rfl | trivial | exact absurd h (of_decide_eq_false HZ.out)))⟩, by simp [intOf]; omega⟩)
    · have d5 : decide (p < s.size) = false := by rw [decide_eq_false_iff_not]; exact hlt
      have hsz := HSZ.out
      have HF := Lib.hid (show R = true from by
        rw [← HR.out]
        unfold Nd.nameP
        have e : s.data.toList ≠ [] := fun e => by have : s.size = 0 := by { rw [hsz, e]; rfl }; omega
        have hall : s.data.toList.all (Nd.behL.contains ·) = true := by
          rw [List.all_eq_true]
          intro x hx
          obtain ⟨j, hj, rfl⟩ := List.mem_iff_getElem.1 hx
          have := hI.out.1 j (by omega)
          simpa [List.getD, List.getElem?_eq_getElem hj] using this
        rw [decide_eq_true e, decide_eq_true (p := s.data.toList.length ≤ 64) (by omega), hI.out.2 (by omega), hall]
        rfl)
      clear hI hsz
      go_wp2_with fail
      go_ret
      exact ⟨by rw [HF.out]; rfl, rfl⟩
end Go.Proofs.YthfkodimafmmgaaGreatDoor
