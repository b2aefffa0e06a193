/- Contracts of letter, digit, follower, strings.Clone and written. -/
import Derived.Test.YtokpknjmcegkaaaDoorScR
import Derived.Test.YtokpknjmcegkaaaDoorShB
import Derived.Deep.QuietTactic
import Derived.BigQuiet
namespace Go.Proofs.YtokpknjmcegkaaaDoor
open Go Go.RowKit Ru
set_option maxRecDepth 100000

/-- What the walks of scans need besides: the library's MaxLen holds a number. -/
structure EnvS (w : World) : Prop where
  env : Env w
  mx : ∃ m, w.cell? ⟨0, 0, none⟩ = some (.int .i64 m)
  size : 0 < w.heap.size
theorem EnvS.below {w w' : World} (h : EnvS w) (hb : Below w.heap.size w w') : EnvS w' := by
  have hz := hb.size
  have hs := h.size
  refine ⟨h.env.below hb, ?_, by omega⟩
  obtain ⟨m, hm⟩ := h.mx
  exact ⟨m, by rw [hb.cell (p := ⟨0, 0, none⟩) h.size]; exact hm⟩

def letZ (c : Int) : Bool := (decide (97 ≤ c) && decide (c ≤ 122)) || (decide (65 ≤ c) && decide (c ≤ 90))
def digZ (c : Int) : Bool := decide (48 ≤ c) && decide (c ≤ 57)
def folZ (c : Int) : Bool := letZ c || digZ c || decide (c = 95)
theorem letZ_of (c : UInt8) : letZ (c.toNat : Int) = Sc.letterB c := by
  unfold letZ Sc.letterB
  congr 1
  · congr 1
    · exact decide_eq_decide.2 (by omega)
    · exact decide_eq_decide.2 (by omega)
  · congr 1
    · exact decide_eq_decide.2 (by omega)
    · exact decide_eq_decide.2 (by omega)
theorem digZ_of (c : UInt8) : digZ (c.toNat : Int) = Sc.digitB c := by
  unfold digZ Sc.digitB
  congr 1
  · exact decide_eq_decide.2 (by omega)
  · exact decide_eq_decide.2 (by omega)
theorem folZ_of (c : UInt8) : folZ (c.toNat : Int) = Sc.folB c := by
  unfold folZ Sc.folB
  rw [letZ_of, digZ_of]
  congr 1
  exact decide_eq_decide.2 (by omega)

theorem ret_bool {a b : Bool} (h : a = b) : Ending.returned (.bool a) = .returned (.bool b) := by rw [h]
theorem letter_any (c : Int) (w : World) : Calls Tryd.prog 34 #[.int .u8 c] w fun e w' => e = .returned (.bool (letZ c)) ∧ w = w' := by
  obtain ⟨b, hb⟩ : ∃ b, letZ c = b := ⟨_, rfl⟩
  rw [hb]
  unfold letZ at hb
  rcases (show c < 65 ∨ (65 ≤ c ∧ c ≤ 90) ∨ (90 < c ∧ c < 97) ∨ (97 ≤ c ∧ c ≤ 122) ∨ 122 < c by omega) with h | h | h | h | h
  all_goals
    first
    | (have d1 : decide (97 ≤ c) = true := by rw [decide_eq_true_iff]; omega)
    | (have d1 : decide (97 ≤ c) = false := by rw [decide_eq_false_iff_not]; omega)
    first
    | (have d2 : decide (c ≤ 122) = true := by rw [decide_eq_true_iff]; omega)
    | (have d2 : decide (c ≤ 122) = false := by rw [decide_eq_false_iff_not]; omega)
    first
    | (have d3 : decide (65 ≤ c) = true := by rw [decide_eq_true_iff]; omega)
    | (have d3 : decide (65 ≤ c) = false := by rw [decide_eq_false_iff_not]; omega)
    first
    | (have d4 : decide (c ≤ 90) = true := by rw [decide_eq_true_iff]; omega)
    | (have d4 : decide (c ≤ 90) = false := by rw [decide_eq_false_iff_not]; omega)
    rw [d1, d2, d3, d4] at hb
    simp at hb
    subst hb
    clear h
    go_enter Tryd.func34, Tryd.ntmps34
    go_wp2
    go_ret
    exact ⟨rfl, rfl⟩
theorem digit_any (c : Int) (w : World) : Calls Tryd.prog 37 #[.int .u8 c] w fun e w' => e = .returned (.bool (digZ c)) ∧ w = w' := by
  obtain ⟨b, hb⟩ : ∃ b, digZ c = b := ⟨_, rfl⟩
  rw [hb]
  unfold digZ at hb
  rcases (show c < 48 ∨ (48 ≤ c ∧ c ≤ 57) ∨ 57 < c by omega) with h | h | h
  all_goals
    first
    | (have d1 : decide (48 ≤ c) = true := by rw [decide_eq_true_iff]; omega)
    | (have d1 : decide (48 ≤ c) = false := by rw [decide_eq_false_iff_not]; omega)
    first
    | (have d2 : decide (c ≤ 57) = true := by rw [decide_eq_true_iff]; omega)
    | (have d2 : decide (c ≤ 57) = false := by rw [decide_eq_false_iff_not]; omega)
    rw [d1, d2] at hb
    simp at hb
    subst hb
    clear h
    go_enter Tryd.func37, Tryd.ntmps37
    go_wp2
    go_ret
    exact ⟨rfl, rfl⟩
theorem follower_any (c : Int) (w : World) : Calls Tryd.prog 36 #[.int .u8 c] w fun e w' => e = .returned (.bool (folZ c)) ∧ w = w' := by
  obtain ⟨b, hb⟩ : ∃ b, folZ c = b := ⟨_, rfl⟩
  rw [hb]
  unfold folZ at hb
  have CL := Lib.hid (fun w => letter_any c w)
  have CD := Lib.hid (fun w => digit_any c w)
  generalize letZ c = L at *
  generalize digZ c = D at *
  by_cases h : c = 95
  · have d1 : decide (c = 95) = true := by rw [decide_eq_true_iff]; exact h
    have d2 : (c == 95) = true := by rw [beq_iff_eq]; exact h
    rw [d1] at hb
    clear h
    cases L <;> cases D <;> simp at hb <;> subst hb
    all_goals
      go_enter Tryd.func36, Tryd.ntmps36
      go_wp2_with (first | (go_at_call 34; refine (CL.out _).mono ?_; rintro e w' ⟨rfl, rfl⟩) | (go_at_call 37; refine (CD.out _).mono ?_; rintro e w' ⟨rfl, rfl⟩))
      go_ret
      exact ⟨rfl, rfl⟩
  · have d1 : decide (c = 95) = false := by rw [decide_eq_false_iff_not]; exact h
    have d2 : (c == 95) = false := by rw [beq_eq_false_iff_ne]; exact h
    rw [d1] at hb
    clear h
    cases L <;> cases D <;> simp at hb <;> subst hb
    all_goals
      go_enter Tryd.func36, Tryd.ntmps36
      go_wp2_with (first | (go_at_call 34; refine (CL.out _).mono ?_; rintro e w' ⟨rfl, rfl⟩) | (go_at_call 37; refine (CD.out _).mono ?_; rintro e w' ⟨rfl, rfl⟩))
      go_ret
      exact ⟨rfl, rfl⟩
theorem Clone_any (s : ByteArray) (hs : s.size ≤ 281474976710656) (w : World) : Calls Tryd.prog 51 #[.string s] w fun e w' => e = .returned (.string s) ∧ Below w.heap.size w w' := by
  go_enter Tryd.func51, Tryd.ntmps51
  go_wp2_with (go_at_call 66; refine (Tryd.stringslite_Clone _ _ hs).mono ?_; rintro e w' ⟨rfl, hb⟩)
  go_ret
  exact ⟨rfl, hb⟩

/-- What written answers. -/
def wrT : Option (Nat × Nat) → Value
  | some (r, k) => .tuple #[.int .i32 r, .int .i64 k]
  | none => .tuple #[.int .i32 0, .int .i64 0]
theorem Escape_none (s : ByteArray) (k : Nat) (w : World) (hs : s.size ≤ 140737488355328) (h : escL (s.data.toList.drop k) = none) (hk : k ≤ s.size) (hE : Env w) :
    Calls Tryd.prog 67 #[.string s, .int .i64 k] w fun e w' => e = .returned (.tuple #[.int .i32 0, .int .i64 0, .bool false]) ∧ Below w.heap.size w w' := by
  by_cases hlt : k < s.size
  · refine (Escape_in s k w hs hlt hE).mono fun e w' ⟨he, hb⟩ => ⟨?_, hb⟩
    rw [he, h]; rfl
  · refine (Escape_out s k w (Or.inr (by omega))).mono fun e w' ⟨he, hw⟩ => ⟨he, ?_⟩
    subst hw
    exact Below.refl _ _
theorem drop_ne {l : List UInt8} {k : Nat} (h : k < l.length) : l.drop k ≠ [] := by
  intro e
  have := congrArg List.length e
  rw [List.length_drop] at this
  simp at this
  omega
theorem drop_nil {l : List UInt8} {k : Nat} (h : l.length ≤ k) : l.drop k = [] := List.drop_eq_nil_of_le h
set_option maxHeartbeats 1000000 in
theorem written_gen (S : ByteArray) (no : List Nat) (hno : ∀ (r : Int) (w : World), Go.validRune r = true → ¬ r.toNat ∈ no → Calls Tryd.prog 68 #[.string S, .int .i32 r] w fun e w' => e = .returned (.bool false) ∧ Below w.heap.size w w')
    (hyes : ∀ (r : Int) (w : World), Go.validRune r = true → r.toNat ∈ no → Calls Tryd.prog 68 #[.string S, .int .i32 r] w fun e w' => e = .returned (.bool true) ∧ Below w.heap.size w w')
    (s : ByteArray) (k : Nat) (w : World) (hs : s.size ≤ 140737488355328) (hk : k ≤ s.size) (hE : EnvS w) :
    Calls Tryd.prog 52 #[.string s, .int .i64 k, .string S] w fun e w' => e = .returned (wrT (Sc.oneL no (s.data.toList.drop k))) ∧ Below w.heap.size w w' := by
  have HE := Lib.hid hE.env
  cases he : escL (s.data.toList.drop k) with
  | some d =>
    obtain ⟨r, n⟩ := d
    have hlt : k < s.size := by
      by_cases h : k < s.size
      · exact h
      · rw [drop_nil (by rw [← Lib.size_eq]; omega), Sc.escL_nil] at he
        cases he
    have hone : Sc.oneL no (s.data.toList.drop k) = some (r, n) := by unfold Sc.oneL; rw [he]
    rw [hone]
    have C := Escape_in s k w hs hlt hE.env
    rw [he] at C
    have C := Lib.hid C
    clear hone he hE
    obtain ⟨R, hR⟩ : ∃ R : Int, R = (r : Int) := ⟨_, rfl⟩
    obtain ⟨K, hK⟩ : ∃ K : Int, K = (n : Int) := ⟨_, rfl⟩
    unfold wrT escT at *
    dsimp only at *
    rw [← hR, ← hK] at C ⊢
    clear hR hK
    go_enter Tryd.func52, Tryd.ntmps52
    go_wp2_with (go_at_call 67; refine C.out.mono ?_; rintro e w1 ⟨rfl, b1⟩)
    go_ret2
    exact ⟨rfl, b1⟩
  | none =>
    have C := Lib.hid (Escape_none s k w hs he hk hE.env)
    by_cases hlt : k < s.size
    · have hne : s.data.toList.drop k ≠ [] := drop_ne (by rw [← Lib.size_eq]; exact hlt)
      by_cases hd : Lib.decodeL (s.data.toList.drop k) = (65533, 1)
      · have hone : Sc.oneL no (s.data.toList.drop k) = none := by unfold Sc.oneL; rw [he]; dsimp only; rw [if_neg hne, if_pos hd]
        rw [hone]
        have D := fun w hE => Decode_in s k w (by omega) hlt hE
        rw [decT_bad hd] at D
        have D := Lib.hid D
        clear hone he hE hd hne
        go_enter Tryd.func52, Tryd.ntmps52
        go_wp2_with (first | (go_at_call 67; refine C.out.mono ?_; rintro e w1 ⟨rfl, b1⟩) | (go_at_call 29; refine (D.out _ (HE.out.below b1)).mono ?_; rintro e w2 ⟨rfl, b2⟩))
        go_ret2
        exact ⟨rfl, b1.trans (b2.mono b1.size)⟩
      · have hv := Sc.decode_valid _ hd
        have D := fun w hE => Decode_in s k w (by omega) hlt hE
        rw [decT_ok hd] at D
        obtain ⟨R, hR⟩ : ∃ R : Int, R = ((Lib.decodeL (s.data.toList.drop k)).1 : Int) := ⟨_, rfl⟩
        obtain ⟨K, hK⟩ : ∃ K : Int, K = ((Lib.decodeL (s.data.toList.drop k)).2 : Int) := ⟨_, rfl⟩
        have hRn : R.toNat = (Lib.decodeL (s.data.toList.drop k)).1 := by omega
        rw [← hR] at hv
        rw [← hR, ← hK] at D
        have D := Lib.hid D
        by_cases hm : (Lib.decodeL (s.data.toList.drop k)).1 ∈ no
        · have hone : Sc.oneL no (s.data.toList.drop k) = none := by unfold Sc.oneL; rw [he]; dsimp only; rw [if_neg hne, if_neg hd, if_pos hm]
          rw [hone]
          have N := Lib.hid (fun w => hyes R w hv (by rw [hRn]; exact hm))
          clear hone he hE hd hne hR hK hRn hm hv hno hyes
          go_enter Tryd.func52, Tryd.ntmps52
          go_wp2_with (first | (go_at_call 67; refine C.out.mono ?_; rintro e w1 ⟨rfl, b1⟩) | (go_at_call 29; refine (D.out _ (HE.out.below b1)).mono ?_; rintro e w2 ⟨rfl, b2⟩) | (go_at_call 68; refine (N.out _).mono ?_; rintro e w3 ⟨rfl, b3⟩))
          go_ret2
          exact ⟨rfl, b1.trans ((b2.trans (b3.mono b2.size)).mono b1.size)⟩
        · have hone : Sc.oneL no (s.data.toList.drop k) = some (Lib.decodeL (s.data.toList.drop k)) := by unfold Sc.oneL; rw [he]; dsimp only; rw [if_neg hne, if_neg hd, if_neg hm]
          have HF := Lib.hid (show wrT (Sc.oneL no (s.data.toList.drop k)) = .tuple #[.int .i32 R, .int .i64 K] by rw [hone]; unfold wrT; rw [hR, hK])
          have N := Lib.hid (fun w => hno R w hv (by rw [hRn]; exact hm))
          clear hone he hE hd hne hR hK hRn hm hv hno hyes
          go_enter Tryd.func52, Tryd.ntmps52
          go_wp2_with (first | (go_at_call 67; refine C.out.mono ?_; rintro e w1 ⟨rfl, b1⟩) | (go_at_call 29; refine (D.out _ (HE.out.below b1)).mono ?_; rintro e w2 ⟨rfl, b2⟩) | (go_at_call 68; refine (N.out _).mono ?_; rintro e w3 ⟨rfl, b3⟩))
          go_ret2
          exact ⟨ret_eq HF.out.symm, b1.trans ((b2.trans (b3.mono b2.size)).mono b1.size)⟩
    · have hone : Sc.oneL no (s.data.toList.drop k) = none := by unfold Sc.oneL; rw [he]; dsimp only; rw [if_pos (drop_nil (by rw [← Lib.size_eq]; omega))]
      rw [hone]
      have D := Lib.hid (fun w => Decode_out s k w (by omega) (Or.inr (by omega)))
      clear hone he hE hno hyes
      go_enter Tryd.func52, Tryd.ntmps52
      go_wp2_with (first | (go_at_call 67; refine C.out.mono ?_; rintro e w1 ⟨rfl, b1⟩) | (go_at_call 29; refine (D.out _).mono ?_; rintro e w2 ⟨rfl, rfl⟩))
      go_ret2
      exact ⟨rfl, b1⟩
theorem written_Text (s : ByteArray) (k : Nat) (w : World) (hs : s.size ≤ 140737488355328) (hk : k ≤ s.size) (hE : EnvS w) :
    Calls Tryd.prog 52 #[.string s, .int .i64 k, .string ⟨#[39, 92, 10]⟩] w fun e w' => e = .returned (wrT (Sc.oneL Sc.notText (s.data.toList.drop k))) ∧ Below w.heap.size w w' :=
  written_gen ⟨#[39, 92, 10]⟩ Sc.notText (fun r w h hr => Contains_Text_no r w h hr) (fun r w h hr => Contains_Text_yes r w h hr) s k w hs hk hE
theorem written_Set (s : ByteArray) (k : Nat) (w : World) (hs : s.size ≤ 140737488355328) (hk : k ≤ s.size) (hE : EnvS w) :
    Calls Tryd.prog 52 #[.string s, .int .i64 k, .string ⟨#[93, 91, 92, 45, 10]⟩] w fun e w' => e = .returned (wrT (Sc.oneL Sc.notSet (s.data.toList.drop k))) ∧ Below w.heap.size w w' :=
  written_gen ⟨#[93, 91, 92, 45, 10]⟩ Sc.notSet (fun r w h hr => Contains_Set_no r w h hr) (fun r w h hr => Contains_Set_yes r w h hr) s k w hs hk hE
end Go.Proofs.YtokpknjmcegkaaaDoor
