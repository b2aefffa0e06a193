/- Contracts of runes.Decode and Bad, over utf8's two tables alone. -/
import Derived.Test.YtagbpkabfjnplaaDoorShelf
import Derived.Test.YtagbpkabfjnplaaDoorRuO
import Derived.WalkKit
import Derived.WalkSpells
import Derived.WalkLawsBesides
import Derived.Lib.Hide
import Derived.Below
namespace Go.Proofs.YtagbpkabfjnplaaDoor
open Go Go.RowKit Ru
set_option maxRecDepth 100000

/-- What the walks need of the world: the tables of the library as they are laid, and that they lie below what is new. -/
structure EnvL (w : World) : Prop where
  tabs : Lib.Utf8Tabs 0 1 w
  size : 0 < w.heap.size ∧ 1 < w.heap.size
theorem EnvL.below {w w' : World} (h : EnvL w) (hb : Below w.heap.size w w') : EnvL w' := by
  obtain ⟨s1, s2⟩ := h.size
  have hz := hb.size
  refine ⟨⟨fun c hc => ?_, fun i hi => ⟨?_, ?_⟩⟩, by omega, by omega⟩
  · rw [hb.cell (p := ⟨0, c, none⟩) s1]; exact h.tabs.1 c hc
  · rw [hb.cell (p := ⟨1, 2 * i, none⟩) s2]; exact (h.tabs.2 i hi).1
  · rw [hb.cell (p := ⟨1, 2 * i + 1, none⟩) s2]; exact (h.tabs.2 i hi).2

/-- What Decode answers of what is decoded. -/
def decT (d : Nat × Nat) : Value := if d = (65533, 1) then .tuple #[.int .i32 0, .int .i64 1, .bool false] else .tuple #[.int .i32 d.1, .int .i64 d.2, .bool true]
theorem decT_bad {d : Nat × Nat} (h : d = (65533, 1)) : decT d = .tuple #[.int .i32 0, .int .i64 1, .bool false] := if_pos h
theorem decT_ok {d : Nat × Nat} (h : ¬ d = (65533, 1)) : decT d = .tuple #[.int .i32 d.1, .int .i64 d.2, .bool true] := if_neg h
theorem ret_eq {a b : Value} (h : a = b) : Ending.returned a = .returned b := by rw [h]
theorem decodeGo_rest (s : ByteArray) (k : Nat) (hk : k < s.size) : Lib.decodeGo (s.extract k s.size) = Lib.decodeL (s.data.toList.drop k) := by
  have hne : ¬ (s.extract k s.size).size = 0 := by rw [ByteArray.size_extract]; omega
  unfold Lib.decodeGo
  rw [if_neg hne]
  have e : (s.extract k s.size).data.toList = s.data.toList.drop k := Lib.extract_to_end s k
  have h := Lib.decodeL_drop (s.extract k s.size) 0
  rw [List.drop_zero, e] at h
  exact h.symm

theorem DecodeL_out (s : ByteArray) (k : Int) (w : World) (_hs : s.size ≤ 9223372036854775807) (h : k < 0 ∨ (s.size : Int) ≤ k) :
    Calls Tryd.prog 45 #[.string s, .int .i64 k] w fun e w' => e = .returned (.tuple #[.int .i32 0, .int .i64 0, .bool false]) ∧ w = w' := by
  rcases h with h | h
  · go_enter Tryd.func45, Tryd.ntmps45
    go_wp2
    go_ret3
    exact ⟨rfl, rfl⟩
  · by_cases h0 : k < 0
    · clear h
      go_enter Tryd.func45, Tryd.ntmps45
      go_wp2
      go_ret3
      exact ⟨rfl, rfl⟩
    · have h1 : decide (k < 0) = false := by rw [decide_eq_false_iff_not]; exact h0
      go_enter Tryd.func45, Tryd.ntmps45
      go_wp2
      go_ret3
      exact ⟨rfl, rfl⟩
set_option maxHeartbeats 400000 in
theorem DecodeL_in (s : ByteArray) (k : Nat) (w : World) (_hs : s.size ≤ 9223372036854775807) (hk : k < s.size) (hE : EnvL w) :
    Calls Tryd.prog 45 #[.string s, .int .i64 k] w fun e w' => e = .returned (decT (Lib.decodeL (s.data.toList.drop k))) ∧ Below w.heap.size w w' := by
  have hT := Lib.hid hE.tabs
  have hg := decodeGo_rest s k hk
  obtain ⟨R, hR⟩ : ∃ R : Int, R = ((Lib.decodeL (s.data.toList.drop k)).1 : Int) := ⟨_, rfl⟩
  obtain ⟨K, hK⟩ : ∃ K : Int, K = ((Lib.decodeL (s.data.toList.drop k)).2 : Int) := ⟨_, rfl⟩
  have C := Lib.hid (show ∀ w, Lib.Utf8Tabs 0 1 w → Calls Tryd.prog 58 #[.string (s.extract k s.size)] w fun e w' => e = .returned (.tuple #[.int .i32 R, .int .i64 K]) ∧ Below w.heap.size w w' from fun w hT => by
    have := Tryd.utf8_DecodeRuneInString (s.extract k s.size) w hT
    rw [hg, ← hR, ← hK] at this
    exact this)
  have d1 : decide ((k : Int) < 0) = false := by rw [decide_eq_false_iff_not]; omega
  have d2 : decide ((s.size : Int) ≤ (k : Int)) = false := by rw [decide_eq_false_iff_not]; omega
  have d3 : (k : Int) ≤ (s.size : Int) := by omega
  by_cases hbad : Lib.decodeL (s.data.toList.drop k) = (65533, 1)
  · have hfin := Lib.hid (decT_bad hbad)
    rw [hbad] at hR hK
    subst hR hK
    clear hg hbad hE
    go_enter Tryd.func45, Tryd.ntmps45
    go_wp2_with (go_at_call 58; refine (C.out _ hT.out).mono ?_; rintro e w' ⟨rfl, hb⟩)
    go_ret3
    exact ⟨ret_eq hfin.out.symm, hb⟩
  · have hfin := Lib.hid (decT_ok hbad)
    rw [← hR, ← hK] at hfin
    by_cases hr : R = 65533
    · have hk1 : (K == 1) = false := by
        rw [beq_eq_false_iff_ne]
        intro e
        refine hbad (Prod.ext ?_ ?_)
        · show (Lib.decodeL (s.data.toList.drop k)).1 = 65533
          omega
        · show (Lib.decodeL (s.data.toList.drop k)).2 = 1
          omega
      have hr1 : (R == 65533) = true := by rw [beq_iff_eq]; exact hr
      clear hg hbad hE hR hK hr
      go_enter Tryd.func45, Tryd.ntmps45
      go_wp2_with (go_at_call 58; refine (C.out _ hT.out).mono ?_; rintro e w' ⟨rfl, hb⟩)
      go_ret3
      exact ⟨ret_eq hfin.out.symm, hb⟩
    · have hr1 : (R == 65533) = false := by rw [beq_eq_false_iff_ne]; exact hr
      clear hg hbad hE hR hK hr
      go_enter Tryd.func45, Tryd.ntmps45
      go_wp2_with (go_at_call 58; refine (C.out _ hT.out).mono ?_; rintro e w' ⟨rfl, hb⟩)
      go_ret3
      exact ⟨ret_eq hfin.out.symm, hb⟩
theorem ret_int {a b : Int} (h : a = b) : Ending.returned (.int .i64 a) = .returned (.int .i64 b) := by rw [h]
set_option maxHeartbeats 400000 in
theorem BadL_any (s : ByteArray) (w : World) (hs : s.size ≤ 9223372036854775807) (hE : EnvL w) :
    Calls Tryd.prog 23 #[.string s] w fun e w' => e = .returned (.int .i64 (bad s.data.toList)) ∧ Below w.heap.size w w' := by
  go_enter Tryd.func23, Tryd.ntmps23
  go_wp2
  go_loopw [3] (fun a wr => ∃ k : Nat, k ≤ s.size ∧ a = .int .i64 k ∧ Hid (EnvL wr) ∧ Below w.heap.size w wr ∧ Hid (bd (s.size - k) (s.data.toList.drop k) k = bad s.data.toList)) (fun a _ => s.size - (intOf a).toNat)
  case atStart => exact ⟨0, Nat.zero_le _, rfl, hE, Below.refl _ _, by unfold bad; rw [← Lib.size_eq]; rfl⟩
  case round =>
    obtain ⟨k, hk, rfl, hW, hb, hbad⟩ := hrel
    by_cases hlt : k < s.size
    · have C := Lib.hid (DecodeL_in s k wr hs hlt hW.out)
      have hne : s.data.toList.drop k ≠ [] := by
        intro e
        have := congrArg List.length e
        rw [List.length_drop, ← Lib.size_eq] at this
        simp at this
        omega
      have hl : (s.data.toList.drop k).length = s.size - k := by rw [List.length_drop, ← Lib.size_eq]
      have hstep := bd_step (s.size - k) (s.data.toList.drop k) k hne (by omega)
      by_cases hd : Lib.decodeL (s.data.toList.drop k) = (65533, 1)
      · have HF := Lib.hid (show (k : Int) = bad s.data.toList by rw [← hbad.out, hstep, if_pos hd])
        rw [decT_bad hd] at C
        clear hstep hl hne hd hbad
        go_wp2_with (go_at_call 45; refine C.out.mono ?_; rintro e w' ⟨rfl, hb2⟩)
        go_ret
        exact ⟨ret_int HF.out, hb.trans (hb2.mono hb.size)⟩
      · have hw := Lib.decodeL_width (s.data.toList.drop k)
        have hle := Lib.decodeL_le (s.data.toList.drop k) hne
        rw [hl] at hle
        rw [if_neg hd, List.drop_drop] at hstep
        have hfu := bd_fuel (s.size - k) (s.size - (k + (Lib.decodeL (s.data.toList.drop k)).2)) (s.data.toList.drop (k + (Lib.decodeL (s.data.toList.drop k)).2)) (k + (Lib.decodeL (s.data.toList.drop k)).2) (by rw [List.length_drop, ← Lib.size_eq]; omega) (by rw [List.length_drop, ← Lib.size_eq]; omega)
        have HF := Lib.hid (show bd (s.size - (k + (Lib.decodeL (s.data.toList.drop k)).2)) (s.data.toList.drop (k + (Lib.decodeL (s.data.toList.drop k)).2)) (k + (Lib.decodeL (s.data.toList.drop k)).2) = bad s.data.toList by rw [← hbad.out, hstep, hfu])
        rw [decT_ok hd] at C
        clear hstep hl hne hd hbad hfu
        generalize Lib.decodeL (s.data.toList.drop k) = d at *
        obtain ⟨r, n⟩ := d
        dsimp only at *
        go_wp2_with (go_at_call 45; refine C.out.mono ?_; rintro e w' ⟨rfl, hb2⟩)
        refine ⟨⟨k + n, by omega, rfl, hW.out.below hb2, hb.trans (hb2.mono hb.size), HF⟩, ?_⟩
        simp [intOf]
        omega
    · have HF := Lib.hid (show (-1 : Int) = bad s.data.toList by
        rw [← hbad.out, List.drop_eq_nil_of_le (by rw [← Lib.size_eq]; omega), bd_nil])
      clear hbad
      go_wp2
      go_ret
      exact ⟨ret_int HF.out, hb⟩
theorem EnvL.alloc {w : World} (h : EnvL w) (o : Obj) : EnvL (w.alloc o) := h.below ((Below.refl _ _).alloc (Nat.le_refl _) _)
end Go.Proofs.YtagbpkabfjnplaaDoor
