/- The contract of gap. -/
import Derived.Test.YtokpknjmcegkaaaDoorScH
namespace Go.Proofs.YtokpknjmcegkaaaDoor
open Go Go.RowKit Ru
set_option maxRecDepth 100000

theorem blanks_index (c : UInt8) : (Sc.blankB c = true ∧ 0 ≤ Lib.indexByte [32, 9, 10, 13] c) ∨ (Sc.blankB c = false ∧ Lib.indexByte [32, 9, 10, 13] c < 0) := by
  have key : ∀ k : Fin 256, (Sc.blankB (UInt8.ofNat k.val) = true ∧ 0 ≤ Lib.indexByte [32, 9, 10, 13] (UInt8.ofNat k.val)) ∨ (Sc.blankB (UInt8.ofNat k.val) = false ∧ Lib.indexByte [32, 9, 10, 13] (UInt8.ofNat k.val) < 0) := by decide +kernel
  have h := key ⟨c.toNat, c.toNat_lt⟩
  dsimp only at h
  rw [UInt8.ofNat_toNat] at h
  exact h
/-- strings.Cut, up to draws. -/
theorem Cut_at (u sep : ByteArray) (hs : u.size ≤ 65536) (w : World) (hE : EnvS w) :
    Calls Tryd.prog 33 #[.string u, .string sep] w fun e w' => e = .returned (.tuple #[.string ⟨(Lib.cut u.data.toList sep.data.toList).1.toArray⟩, .string ⟨(Lib.cut u.data.toList sep.data.toList).2.1.toArray⟩, .bool (Lib.cut u.data.toList sep.data.toList).2.2]) ∧ ∃ n, w' = w.drewN n := by
  obtain ⟨m, hm⟩ := hE.mx
  exact Tryd.strings_Cut u sep m w (by omega) hm
theorem ret_gap {p F : Nat} {a b : Bool} (h : p = F) (hb : a = b) : Ending.returned (.tuple #[.int .i64 p, .bool a]) = .returned (.tuple #[.int .i64 F, .bool b]) := by rw [h, hb]
def Gap (s : ByteArray) (k : Nat) (w : World) (a : Value) (wr : World) : Prop := ∃ p : Nat, a = .int .i64 p ∧ p ≤ s.size ∧ k + (Sc.gapL (s.data.toList.drop k)).1 = p + (Sc.gapL (s.data.toList.drop p)).1 ∧ (Sc.gapL (s.data.toList.drop k)).2 = (Sc.gapL (s.data.toList.drop p)).2 ∧ Below w.heap.size w wr
theorem Gap.go {s : ByteArray} {k p n : Nat} {w wr w1 : World} (hp : p ≤ s.size) (h1 : k + (Sc.gapL (s.data.toList.drop k)).1 = p + (Sc.gapL (s.data.toList.drop p)).1) (h2 : (Sc.gapL (s.data.toList.drop k)).2 = (Sc.gapL (s.data.toList.drop p)).2) (hb : Below w.heap.size w wr)
    (hs : Sc.skip (s.data.toList.drop p) = .go n) (hb1 : Below wr.heap.size wr w1) (a : Value) (ha : a = .int .i64 ((p + n : Nat) : Int)) : Gap s k w a w1 := by
  have hn := (Sc.skip_go hs).2
  rw [List.length_drop, ← Lib.size_eq] at hn
  rw [Sc.gapL_go hs, List.drop_drop] at h1 h2
  exact ⟨p + n, ha, by omega, by dsimp only at h1; omega, h2, hb.trans (hb1.mono hb.size)⟩
set_option maxHeartbeats 4000000 in
theorem gap_any (s : ByteArray) (k : Nat) (w : World) (hs : s.size ≤ 65536) (hk : k ≤ s.size) (hE : EnvS w) :
    Calls Tryd.prog 17 #[.string s, .int .i64 k] w fun e w' => e = .returned (.tuple #[.int .i64 ((k + (Sc.gapL (s.data.toList.drop k)).1 : Nat) : Int), .bool (Sc.gapL (s.data.toList.drop k)).2]) ∧ Below w.heap.size w w' := by
  have HE := Lib.hid hE
  obtain ⟨F, hF⟩ : ∃ F, k + (Sc.gapL (s.data.toList.drop k)).1 = F := ⟨_, rfl⟩
  obtain ⟨O, hO⟩ : ∃ O, (Sc.gapL (s.data.toList.drop k)).2 = O := ⟨_, rfl⟩
  have HI : Hid (Gap s k w (.int .i64 k) w) := Lib.hid ⟨k, rfl, hk, rfl, rfl, Below.refl _ _⟩
  rw [hF, hO]
  have HF := Lib.hid hF
  have HO := Lib.hid hO
  clear hF hO hE
  go_enter Tryd.func17, Tryd.ntmps17
  go_wp2_with fail
  go_step3
  go_wp2_with fail
  go_step3
  go_wp2_with fail
  go_loopw [1] (fun a wr => Gap s k w a wr) (fun a _ => s.size - (intOf a).toNat)
  case atStart => exact HI.out
  case round =>
    obtain ⟨p, rfl, hp, hg1, hg2, hb⟩ := hrel
    have HB := Lib.hid hb
    have HG1 := Lib.hid hg1
    have HG2 := Lib.hid hg2
    have E1 := Lib.hid (HE.out.below hb)
    clear hb hg1 hg2 HI
    by_cases hlt : p < s.size
    · have d0 : decide (p < s.size) = true := by rw [decide_eq_true_iff]; exact hlt
      have a0 : (p : Int) ≤ (s.size : Int) := by omega
      obtain ⟨u, hu⟩ : ∃ u, s.extract p s.size = u := ⟨_, rfl⟩
      have hul : u.data.toList = s.data.toList.drop p := by rw [← hu]; exact Lib.extract_to_end s p
      have hus : u.size = s.size - p := by rw [← hu, ByteArray.size_extract]; omega
      obtain ⟨c, hc⟩ : ∃ c : Int, c = ((u.data.toList.getD 0 0).toNat : Int) := ⟨_, rfl⟩
      have hi : ∀ (wx : World), (Instr.index 9 (.string u) (.int .i64 0)).run Tryd.prog wx = .ok (.int .u8 c) wx := byte_at u 0 (by omega) c hc
      have IX := fun w => Index_of [32, 9, 10, 13] ⟨#[32, 9, 10, 13]⟩ rfl c _ hc w
      obtain ⟨i, hix⟩ : ∃ i, Lib.indexByte [32, 9, 10, 13] (u.data.toList.getD 0 0) = i := ⟨_, rfl⟩
      have hbi := blanks_index (u.data.toList.getD 0 0)
      rw [hix] at IX hbi
      replace IX := Lib.hid IX
      have HUL := Lib.hid hul
      have HUS := Lib.hid hus
      have u1 : (1 : Int) ≤ (u.size : Int) := by omega
      have u2 : u.size ≤ 65536 := by omega
      clear hus hul hc hix
      by_cases hi0 : 0 ≤ i
      · have hsk : Sc.skip (s.data.toList.drop p) = .go 1 := by
          rw [← HUL.out]
          unfold Sc.skip
          rcases hbi with ⟨h, _⟩ | ⟨_, h⟩
          · rw [if_pos h]
          · omega
        have HSK := Lib.hid hsk
        have d1 : decide (0 ≤ i) = true := by rw [decide_eq_true_iff]; exact hi0
        clear hsk hbi
        go_wp2_with fail
        refine (IX.out _).mono ?_
        rintro e w' ⟨rfl, rfl⟩
        go_wp2_with fail
        exact ⟨Gap.go hp HG1.out HG2.out HB.out HSK.out (Below.refl _ _) _ (by go_num), by simp [intOf]; omega⟩
      · have d1 : decide (0 ≤ i) = false := by rw [decide_eq_false_iff_not]; exact hi0
        have hbl : ¬ Sc.blankB (u.data.toList.getD 0 0) = true := by
          rcases hbi with ⟨_, h⟩ | ⟨h, _⟩
          · omega
          · rw [h]; simp
        clear hbi
        cases h1 : Lib.hasPrefix u.data.toList [47, 47] with
        | true =>
          have hsk : Sc.skip (s.data.toList.drop p) = .go (Lib.cut u.data.toList [10]).1.length := by
            rw [← HUL.out]
            unfold Sc.skip
            rw [if_neg hbl, if_pos h1]
          have P1 := Lib.hid (fun w => Prefix_all u ⟨#[47, 47]⟩ w true h1)
          have CC := fun w hE => Cut_at u ⟨#[10]⟩ u2 w hE
          obtain ⟨L, hL⟩ : ∃ L : ByteArray, (⟨(Lib.cut u.data.toList [10]).1.toArray⟩ : ByteArray) = L := ⟨_, rfl⟩
          have hLs : (Lib.cut u.data.toList [10]).1.length = L.size := by rw [← hL]; rfl
          have hLb := cut_le u.data.toList [10]
          rw [← Lib.size_eq] at hLb
          rw [hLs] at hsk hLb
          have hn := Sc.skip_go hsk
          rw [List.length_drop, ← Lib.size_eq] at hn
          dsimp only at CC
          rw [hL] at CC
          obtain ⟨L2, hL2⟩ : ∃ L2 : ByteArray, (⟨(Lib.cut u.data.toList [10]).2.1.toArray⟩ : ByteArray) = L2 := ⟨_, rfl⟩
          obtain ⟨B2, hB2⟩ : ∃ B2, (Lib.cut u.data.toList [10]).2.2 = B2 := ⟨_, rfl⟩
          rw [hL2, hB2] at CC
          replace CC := Lib.hid CC
          have HSK := Lib.hid hsk
          clear hsk hbl h1 hL hLs hL2 hB2
          go_wp2_with fail
          refine (IX.out _).mono ?_
          rintro e w' ⟨rfl, rfl⟩
          go_wp2_with fail
          refine (P1.out _).mono ?_
          rintro e w' ⟨rfl, rfl⟩
          go_wp2_with fail
          refine (CC.out _ E1.out).mono ?_
          rintro e w1 ⟨rfl, n, rfl⟩
          go_wp2_with fail
          exact ⟨Gap.go hp HG1.out HG2.out HB.out HSK.out (below_drewN (Below.refl _ _) _) _ (by go_num), by simp [intOf]; omega⟩
        | false =>
          have P1 := Lib.hid (fun w => Prefix_all u ⟨#[47, 47]⟩ w false h1)
          cases h2 : Lib.hasPrefix u.data.toList [47, 42] with
          | true =>
            have P2 := Lib.hid (fun w => Prefix_all u ⟨#[47, 42]⟩ w true h2)
            have hsk : Sc.skip (s.data.toList.drop p) = (if (Lib.cut (u.data.toList.drop 2) [42, 47]).2.2 = true then .go ((Lib.cut (u.data.toList.drop 2) [42, 47]).1.length + 4) else .fail) := by
              rw [← HUL.out]
              unfold Sc.skip
              rw [if_neg hbl, if_neg (by rw [h1]; simp), if_pos h2]
            have hl2 := Sc.prefix_len h2
            rw [← Lib.size_eq] at hl2
            simp only [List.length_cons, List.length_nil] at hl2
            obtain ⟨v, hv⟩ : ∃ v, u.extract 2 u.size = v := ⟨_, rfl⟩
            have hvl : v.data.toList = u.data.toList.drop 2 := by rw [← hv]; exact Lib.extract_to_end u 2
            have hvs : v.size = u.size - 2 := by rw [← hv, ByteArray.size_extract]; omega
            rw [← hvl] at hsk
            have CC := fun w hE => Cut_at v ⟨#[42, 47]⟩ (by omega) w hE
            obtain ⟨L, hL⟩ : ∃ L : ByteArray, (⟨(Lib.cut v.data.toList [42, 47]).1.toArray⟩ : ByteArray) = L := ⟨_, rfl⟩
            have hLs : (Lib.cut v.data.toList [42, 47]).1.length = L.size := by rw [← hL]; rfl
            have hLb := cut_le v.data.toList [42, 47]
            rw [← Lib.size_eq] at hLb
            rw [hLs] at hsk hLb
            dsimp only at CC
            rw [hL] at CC
            obtain ⟨L2, hL2⟩ : ∃ L2 : ByteArray, (⟨(Lib.cut v.data.toList [42, 47]).2.1.toArray⟩ : ByteArray) = L2 := ⟨_, rfl⟩
            obtain ⟨B2, hB2⟩ : ∃ B2, (Lib.cut v.data.toList [42, 47]).2.2 = B2 := ⟨_, rfl⟩
            rw [hL2, hB2] at CC
            rw [hB2] at hsk
            replace CC := Lib.hid CC
            have u3 : (2 : Int) ≤ (u.size : Int) := by omega
            clear hbl h1 h2 hL hLs hL2 hB2 hvl hvs
            cases B2 with
            | true =>
              rw [if_pos rfl] at hsk
              have hn := Sc.skip_go hsk
              rw [List.length_drop, ← Lib.size_eq] at hn
              have HSK := Lib.hid hsk
              clear hsk
              go_wp2_with fail
              refine (IX.out _).mono ?_
              rintro e w' ⟨rfl, rfl⟩
              go_wp2_with fail
              refine (P1.out _).mono ?_
              rintro e w' ⟨rfl, rfl⟩
              go_wp2_with fail
              refine (P2.out _).mono ?_
              rintro e w' ⟨rfl, rfl⟩
              go_wp2_with fail
              refine (CC.out _ E1.out).mono ?_
              rintro e w1 ⟨rfl, n, rfl⟩
              go_wp2_with fail
              exact ⟨Gap.go hp HG1.out HG2.out HB.out HSK.out (below_drewN (Below.refl _ _) _) _ (by go_num), by simp [intOf]; omega⟩
            | false =>
              rw [if_neg (by simp)] at hsk
              have hg := Sc.gapL_fail hsk
              have HP := Lib.hid (show p = F by rw [← HF.out, HG1.out, hg]; rfl)
              have HT := Lib.hid (show false = O by rw [← HO.out, HG2.out, hg])
              clear hg hsk
              go_wp2_with fail
              refine (IX.out _).mono ?_
              rintro e w' ⟨rfl, rfl⟩
              go_wp2_with fail
              refine (P1.out _).mono ?_
              rintro e w' ⟨rfl, rfl⟩
              go_wp2_with fail
              refine (P2.out _).mono ?_
              rintro e w' ⟨rfl, rfl⟩
              go_wp2_with fail
              refine (CC.out _ E1.out).mono ?_
              rintro e w1 ⟨rfl, n, rfl⟩
              go_wp2_with fail
              rw [Exit.noGoto_ret]
              go_wp2_with fail
              go_ret2
              exact ⟨ret_gap HP.out HT.out, below_drewN HB.out _⟩
          | false =>
            have P2 := Lib.hid (fun w => Prefix_all u ⟨#[47, 42]⟩ w false h2)
            have hsk : Sc.skip (s.data.toList.drop p) = .stop := by
              rw [← HUL.out]
              unfold Sc.skip
              rw [if_neg hbl, if_neg (by rw [h1]; simp), if_neg (by rw [h2]; simp)]
            have hg := Sc.gapL_stop hsk
            have HP := Lib.hid (show p = F by rw [← HF.out, HG1.out, hg]; rfl)
            have HT := Lib.hid (show true = O by rw [← HO.out, HG2.out, hg])
            clear hg hsk hbl h1 h2
            go_wp2_with fail
            refine (IX.out _).mono ?_
            rintro e w' ⟨rfl, rfl⟩
            go_wp2_with fail
            refine (P1.out _).mono ?_
            rintro e w' ⟨rfl, rfl⟩
            go_wp2_with fail
            refine (P2.out _).mono ?_
            rintro e w' ⟨rfl, rfl⟩
            go_wp2_with fail
            rw [Exit.noGoto_ret]
            go_ret2
            exact ⟨ret_gap HP.out HT.out, HB.out⟩
    · have hpn : p = s.size := by omega
      have d0 : decide (p < s.size) = false := by rw [decide_eq_false_iff_not]; exact hlt
      have hg : Sc.gapL (s.data.toList.drop p) = (0, true) := by
        rw [drop_nil (by rw [← Lib.size_eq]; omega)]
        exact Sc.gapL_stop Sc.skip_nil
      have HP := Lib.hid (show p = F by rw [← HF.out, HG1.out, hg]; rfl)
      have HT := Lib.hid (show true = O by rw [← HO.out, HG2.out, hg])
      clear hg hpn hlt
      go_wp2_with fail
      rw [Exit.noGoto_ret]
      go_ret2
      exact ⟨ret_gap HP.out HT.out, HB.out⟩
end Go.Proofs.YtokpknjmcegkaaaDoor
