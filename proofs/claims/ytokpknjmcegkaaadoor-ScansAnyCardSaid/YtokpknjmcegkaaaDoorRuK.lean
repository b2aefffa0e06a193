/- Contracts of strconv.ParseUint at base 16, of runes.numbered and runes.Escape. -/
import Derived.Test.YtokpknjmcegkaaaDoorRuJ
import Derived.Lib.CutLaws
import Derived.Lib.IndexBytes
import Derived.RegionTactic
namespace Go.Proofs.YtokpknjmcegkaaaDoor
open Go Go.RowKit Ru
set_option maxRecDepth 100000

def hexP (l : List UInt8) : Option Nat := if l = [] then none else hexN 0 l
theorem hex_any (t : ByteArray) (hmax : t.size ≤ 7) (w : World) :
    Calls Tryd.prog 90 #[.string t, .int .i64 16, .int .i64 32] w fun e w' => e = .returned (numT (hexP t.data.toList)) ∧ Below w.heap.size w w' := by
  by_cases h0 : t.size = 0
  · have ht : t = ⟨#[]⟩ := by
      obtain ⟨⟨l⟩⟩ := t
      cases l with
      | nil => rfl
      | cons _ _ => simp [ByteArray.size] at h0
    subst ht
    exact hex_empty w
  · have hne : t.data.toList ≠ [] := fun h => h0 (by rw [Lib.size_eq, h]; rfl)
    have e : hexP t.data.toList = hexN 0 t.data.toList := if_neg hne
    rw [e]
    exact hex_some t h0 hmax w
theorem ParseUint_ok (t : ByteArray) (hmax : t.size ≤ 7) (n : Nat) (h : hexP t.data.toList = some n) (w : World) :
    Calls Tryd.prog 87 #[.string t, .int .i64 16, .int .i64 32] w fun e w' => e = .returned (.tuple #[.int .u64 n, .nilIface]) ∧ Below w.heap.size w w' := by
  have C := hex_any t hmax w
  rw [h] at C
  have HC := Lib.hid C
  clear C h
  go_enter Tryd.func87, Tryd.ntmps87
  go_wp2_with (go_at_call 90; refine HC.out.mono ?_; rintro e w' ⟨rfl, hb⟩; unfold numT)
  go_ret2
  exact ⟨rfl, hb⟩
theorem ParseUint_bad (t : ByteArray) (hmax : t.size ≤ 7) (h : hexP t.data.toList = none) (w : World) (hE : Env w) :
    Calls Tryd.prog 87 #[.string t, .int .i64 16, .int .i64 32] w fun e w' => (∃ N, e = .returned (.tuple #[.int .u64 0, .iface 131 (.pointer (some ⟨N, 0, none⟩))])) ∧ Below w.heap.size w w' := by
  have C := hex_any t hmax w
  rw [h] at C
  have HC := Lib.hid C
  have HE := Lib.hid hE
  have CE := Lib.hid (show ∀ w, Env w → Calls Tryd.prog 91 #[.string ⟨#[80, 97, 114, 115, 101, 85, 105, 110, 116]⟩, .string t, .int .i64 16, .int .i64 32, .iface 129 (.int .i64 2)] w fun e w' => ∃ N, e = .returned (.iface 131 (.pointer (some ⟨N, 0, none⟩))) ∧ Below w.heap.size w w' from fun w hE => by
    obtain ⟨te, pe, hs⟩ := hE.syn
    exact (Tryd.strconv_toError_syntax _ t 16 32 (.iface te pe) w (by omega) hs (Or.inr ⟨te, pe, rfl⟩)).mono fun e w' ⟨N, h1, h2, h3, h4⟩ => ⟨N, h1, h4⟩)
  clear C h hE
  go_enter Tryd.func87, Tryd.ntmps87
  go_wp2_with (first | (go_at_call 90; refine HC.out.mono ?_; rintro e w' ⟨rfl, hb⟩; unfold numT) | (go_at_call 91; refine (CE.out _ (HE.out.below hb)).mono ?_; rintro e w' ⟨N, rfl, hb2⟩))
  go_ret2
  exact ⟨⟨N, rfl⟩, hb.trans (hb2.mono hb.size)⟩
set_option maxHeartbeats 1000000 in
theorem Cut_in (s : ByteArray) (c : UInt8) (hs : s.size ≤ 140737488355328) (w : World) :
    Calls Tryd.prog 50 #[.string s, .string ⟨#[c]⟩] w fun e w' => e = .returned (.tuple #[.string ⟨(Lib.cut s.data.toList [c]).1.toArray⟩, .string ⟨(Lib.cut s.data.toList [c]).2.1.toArray⟩, .bool (Lib.cut s.data.toList [c]).2.2]) ∧ ∃ n, w' = w.drewN n := by
  have hone : Lib.indexB s ⟨#[c]⟩ = Lib.indexByte s.data.toList c := Lib.index_one _ _
  rcases Lib.indexB_cases s ⟨#[c]⟩ with hix | ⟨i, hix, hroom⟩
  · obtain ⟨e1, e2, e3⟩ := Lib.cutB_miss s ⟨#[c]⟩ hix
    have e1 : (⟨(Lib.cut s.data.toList [c]).1.toArray⟩ : ByteArray) = s := e1
    have e2 : (⟨(Lib.cut s.data.toList [c]).2.1.toArray⟩ : ByteArray) = ByteArray.empty := e2
    have e3 : (Lib.cut s.data.toList [c]).2.2 = false := e3
    rw [e1, e2, e3]
    have C := Tryd.stringslite_Index_one s c
    rw [← hone, hix] at C
    have HC := Lib.hid C
    clear C hone hix e1 e2 e3
    go_enter Tryd.func50, Tryd.ntmps50
    go_wp2_with (go_at_call 65; refine (HC.out _).mono ?_; rintro e w' ⟨rfl, hw⟩; rw [hw])
    go_ret3
    exact ⟨rfl, 0, rfl⟩
  · obtain ⟨e1, e2, e3⟩ := Lib.cutB_hit s ⟨#[c]⟩ i hix
    have e1 : (⟨(Lib.cut s.data.toList [c]).1.toArray⟩ : ByteArray) = s.extract 0 i := e1
    have e2 : (⟨(Lib.cut s.data.toList [c]).2.1.toArray⟩ : ByteArray) = s.extract (i + 1) s.size := e2
    have e3 : (Lib.cut s.data.toList [c]).2.2 = true := e3
    rw [e1, e2, e3]
    have C := Tryd.stringslite_Index_one s c
    rw [← hone, hix] at C
    have HC := Lib.hid C
    have hroom : i + 1 ≤ s.size := hroom
    have c1 : (0 : Int) ≤ (i : Int) := by omega
    have c2 : (i : Int) ≤ (s.size : Int) := by omega
    have c3 : (0 : Int) ≤ (i : Int) + 1 := by omega
    have c4 : (i : Int) + 1 ≤ (s.size : Int) := by omega
    clear C hone hix e1 e2 e3
    go_enter Tryd.func50, Tryd.ntmps50
    go_wp2_with (go_at_call 65; refine (HC.out _).mono ?_; rintro e w' ⟨rfl, hw⟩; rw [hw])
    go_region
    go_wp2
    go_ret3
    exact ⟨rfl, 1, rfl⟩
theorem Cut_any (s : ByteArray) (c : UInt8) (hs : s.size ≤ 140737488355328) (w : World) :
    Calls Tryd.prog 33 #[.string s, .string ⟨#[c]⟩] w fun e w' => e = .returned (.tuple #[.string ⟨(Lib.cut s.data.toList [c]).1.toArray⟩, .string ⟨(Lib.cut s.data.toList [c]).2.1.toArray⟩, .bool (Lib.cut s.data.toList [c]).2.2]) ∧ ∃ n, w' = w.drewN n := by
  have C := Lib.hid (fun w => Cut_in s c hs w)
  generalize Lib.cut s.data.toList [c] = k at *
  go_enter Tryd.func33, Tryd.ntmps33
  go_wp2_with (go_at_call 50; refine (C.out _).mono ?_; rintro e w' ⟨rfl, n, rfl⟩)
  go_ret3
  exact ⟨rfl, n, rfl⟩
/-- The escape by number behind its head, of the bytes l: the number, and how many bytes the whole has. -/
def numV (l : List UInt8) : Option (Nat × Nat) :=
  if (Lib.cut (l.take 7) [125]).2.2 = true then
    match hexP (Lib.cut (l.take 7) [125]).1 with
    | some n => if Go.validRune n = true then some (n, (Lib.cut (l.take 7) [125]).1.length + 4) else none
    | none => none
  else none
def escT : Option (Nat × Nat) → Value
  | some (n, k) => .tuple #[.int .i32 n, .int .i64 k, .bool true]
  | none => .tuple #[.int .i32 0, .int .i64 0, .bool false]
theorem cut_le (l sep : List UInt8) : (Lib.cut l sep).1.length ≤ l.length := by
  unfold Lib.cut
  split
  · simp; omega
  · simp
theorem hexN_bound : ∀ (l : List UInt8) (acc n k : Nat), acc < 16 ^ k → hexN acc l = some n → n < 16 ^ (k + l.length)
  | [], acc, n, k, h, e => by
    have : acc = n := by simpa [hexN] using e
    subst this; simpa using h
  | c :: l, acc, n, k, h, e => by
    cases hc : hexv c with
    | none => rw [hexN_none hc] at e; simp at e
    | some d =>
      rw [hexN_some hc] at e
      have hd := hexv_lt c d hc
      have := hexN_bound l (16 * acc + d) n (k + 1) (by rw [Nat.pow_succ]; omega) e
      rw [List.length_cons]
      rw [show k + (l.length + 1) = k + 1 + l.length from by omega]
      exact this
theorem hexP_bound (l : List UInt8) (n : Nat) (hl : l.length ≤ 7) (h : hexP l = some n) : n ≤ 268435455 := by
  unfold hexP at h
  split at h
  · simp at h
  · have h1 := hexN_bound l 0 n 0 (by decide) h
    have h2 : 16 ^ (0 + l.length) ≤ 16 ^ 7 := Nat.pow_le_pow_right (by omega) (by omega)
    omega
set_option maxHeartbeats 1000000 in
theorem numbered_any (s : ByteArray) (h3 : 3 ≤ s.size) (hs : s.size ≤ 140737488355328) (w : World) (hE : Env w) :
    Calls Tryd.prog 78 #[.string s] w fun e w' => e = .returned (escT (numV (s.data.toList.drop 3))) ∧ Below w.heap.size w w' := by
  obtain ⟨u, hu⟩ : ∃ u, s.extract 3 s.size = u := ⟨_, rfl⟩
  have hul : u.data.toList = s.data.toList.drop 3 := by rw [← hu]; exact Lib.extract_to_end s 3
  have hus : u.size ≤ 140737488355328 := by rw [← hu, ByteArray.size_extract]; omega
  obtain ⟨M, hM⟩ : ∃ M : Int, min (u.size : Int) 7 = M := ⟨_, rfl⟩
  have hM0 : 0 ≤ M := by omega
  have hM1 : M ≤ (u.size : Int) := by omega
  obtain ⟨t, ht⟩ : ∃ t, u.extract 0 M.toNat = t := ⟨_, rfl⟩
  have htl : t.data.toList = (s.data.toList.drop 3).take 7 := by
    rw [← ht, Lib.extract_data, ← hul]
    simp only [List.drop_zero, Nat.sub_zero]
    rw [List.take_eq_take_iff, ← Lib.size_eq]
    omega
  have hts : t.size ≤ 7 := by rw [Lib.size_eq, htl, List.length_take]; omega
  rw [← hul] at htl ⊢
  obtain ⟨C, hC⟩ : ∃ C, Lib.cut t.data.toList [125] = C := ⟨_, rfl⟩
  have hnum : numV u.data.toList = if C.2.2 = true then (match hexP C.1 with | some n => if Go.validRune n = true then some (n, C.1.length + 4) else none | none => none) else none := by
    unfold numV; rw [← htl, hC]
  have hCl : C.1.length ≤ 7 := by rw [← hC]; have := cut_le t.data.toList [125]; rw [← Lib.size_eq] at this; omega
  obtain ⟨b, hb⟩ : ∃ b : ByteArray, b = ⟨C.1.toArray⟩ := ⟨_, rfl⟩
  obtain ⟨b2, hb2⟩ : ∃ b2 : ByteArray, b2 = ⟨C.2.1.toArray⟩ := ⟨_, rfl⟩
  have hbl : b.data.toList = C.1 := by rw [hb]
  have hbs : b.size = C.1.length := by rw [Lib.size_eq, hbl]
  have hbs7 : b.size ≤ 7 := by omega
  have CC := Lib.hid (show ∀ w, Env w → Calls Tryd.prog 33 #[.string t, .string ⟨#[125]⟩] w fun e w' => e = .returned (.tuple #[.string b, .string b2, .bool C.2.2]) ∧ Below w.heap.size w w' from fun w _ => by
    refine (Cut_any t 125 (by omega) w).mono ?_
    rintro e w' ⟨he, n, rfl⟩
    rw [hC] at he
    exact ⟨by rw [he, hb, hb2], below_drewN (Below.refl _ _) _⟩)
  have HE := Lib.hid hE
  obtain ⟨F, hF⟩ : ∃ F, C.2.2 = F := ⟨_, rfl⟩
  rw [hF] at CC hnum
  cases hh : hexP C.1 with
  | none =>
    have CP := Lib.hid (fun w hE => ParseUint_bad b hbs7 (by rw [hbl]; exact hh) w hE)
    have HF := Lib.hid (show numV u.data.toList = none by rw [hnum, hh]; simp)
    clear hnum hh hb hb2 hbl hbs hul htl hC hF hE
    cases F
    all_goals
      go_enter Tryd.func78, Tryd.ntmps78
      go_wp2_with (first | (go_at_call 33; refine (CC.out _ HE.out).mono ?_; rintro e w1 ⟨rfl, hb1⟩) | (go_at_call 87; refine (CP.out _ (HE.out.below hb1)).mono ?_; rintro e w2 ⟨⟨N, rfl⟩, hb2⟩))
      go_ret3
      exact ⟨ret_eq (by rw [HF.out]; rfl), hb1.trans (hb2.mono hb1.size)⟩
  | some n =>
    have hn := hexP_bound C.1 n hCl hh
    have CP := Lib.hid (fun w => ParseUint_ok b hbs7 n (by rw [hbl]; exact hh) w)
    obtain ⟨ni, hni⟩ : ∃ ni : Int, ni = (n : Int) := ⟨_, rfl⟩
    rw [← hni] at CP
    have hn0 : 0 ≤ ni := by omega
    have hn1 : ni ≤ 268435455 := by omega
    cases F with
    | false =>
      have HF := Lib.hid (show numV u.data.toList = none by rw [hnum]; simp)
      clear hnum hh hb hb2 hbl hbs hul htl hC hF hE hni hn
      go_enter Tryd.func78, Tryd.ntmps78
      go_wp2_with (first | (go_at_call 33; refine (CC.out _ HE.out).mono ?_; rintro e w1 ⟨rfl, hb1⟩) | (go_at_call 87; refine (CP.out _).mono ?_; rintro e w2 ⟨rfl, hb2⟩))
      go_ret3
      exact ⟨ret_eq (by rw [HF.out]; rfl), hb1.trans (hb2.mono hb1.size)⟩
    | true =>
      cases hv : Go.validRune (n : Int) with
      | false =>
        have HF := Lib.hid (show numV u.data.toList = none by rw [hnum, hh]; simp [hv])
        have HV := Lib.hid (fun w => validRune_no ni w (by rw [hni]; exact hv))
        clear hnum hh hb hb2 hbl hbs hul htl hC hF hE hni hn hv
        go_enter Tryd.func78, Tryd.ntmps78
        go_wp2_with (first | (go_at_call 33; refine (CC.out _ HE.out).mono ?_; rintro e w1 ⟨rfl, hb1⟩) | (go_at_call 87; refine (CP.out _).mono ?_; rintro e w2 ⟨rfl, hb2⟩) | (go_at_call 44; refine (HV.out _).mono ?_; rintro e w' ⟨rfl, rfl⟩))
        go_ret3
        exact ⟨ret_eq (by rw [HF.out]; rfl), hb1.trans (hb2.mono hb1.size)⟩
      | true =>
        have HF := Lib.hid (show numV u.data.toList = some (n, b.size + 4) by rw [hnum, hh, hbs]; simp [hv])
        have HV := Lib.hid (fun w => validRune_yes ni w (by rw [hni]; exact hv))
        have HN := Lib.hid hni
        clear hnum hh hb hb2 hbl hbs hul htl hC hF hE hni hn hv
        go_enter Tryd.func78, Tryd.ntmps78
        go_wp2_with (first | (go_at_call 33; refine (CC.out _ HE.out).mono ?_; rintro e w1 ⟨rfl, hb1⟩) | (go_at_call 87; refine (CP.out _).mono ?_; rintro e w2 ⟨rfl, hb2⟩) | (go_at_call 44; refine (HV.out _).mono ?_; rintro e w' ⟨rfl, rfl⟩))
        go_ret3
        refine ⟨ret_eq ?_, hb1.trans (hb2.mono hb1.size)⟩
        rw [HF.out, HN.out]
        have e : 3 + (b.size : Int) + 1 = ((b.size + 4 : Nat) : Int) := by omega
        show Value.tuple #[.int .i32 (n : Int), .int .i64 (3 + (b.size : Int) + 1), .bool true] = .tuple #[.int .i32 (n : Int), .int .i64 ((b.size + 4 : Nat) : Int), .bool true]
        rw [e]

/-- The rune that stands behind a backslash by a sign; 0, if the sign is none. -/
def unsign (c : UInt8) : Nat := if c = 110 then 10 else if c = 114 then 13 else if c = 116 then 9 else if c = 92 then 92 else if c = 39 then 39 else if c = 93 then 93 else if c = 45 then 45 else if c = 91 then 91 else 0
/-- The escape with which the bytes l begin. -/
def escL (l : List UInt8) : Option (Nat × Nat) :=
  if Lib.hasPrefix l [92, 117, 123] = true then numV (l.drop 3)
  else if l.length < 2 then none
  else if l.getD 0 0 = 92 then (if unsign (l.getD 1 0) = 0 then none else some (unsign (l.getD 1 0), 2))
  else none
abbrev signsB : ByteArray := ⟨#[110, 114, 116, 92, 39, 93, 45, 91]⟩
theorem unsign_index (c : UInt8) : (unsign c = 0 ∧ Lib.indexByte signsB.data.toList c = -1) ∨ ∃ i : Nat, i < 8 ∧ unsign c ≠ 0 ∧ Lib.indexByte signsB.data.toList c = i ∧ (meant.data.toList.getD i 0).toNat = unsign c := by
  have key : ∀ k : Fin 256, (unsign (UInt8.ofNat k.val) = 0 ∧ Lib.indexByte signsB.data.toList (UInt8.ofNat k.val) = -1) ∨ ∃ i : Fin 8, unsign (UInt8.ofNat k.val) ≠ 0 ∧ Lib.indexByte signsB.data.toList (UInt8.ofNat k.val) = (i.val : Int) ∧ (meant.data.toList.getD i.val 0).toNat = unsign (UInt8.ofNat k.val) := by decide +kernel
  have h := key ⟨c.toNat, c.toNat_lt⟩
  dsimp only at h
  rw [UInt8.ofNat_toNat] at h
  rcases h with h | ⟨i, h1, h2, h3⟩
  · exact Or.inl h
  · exact Or.inr ⟨i.val, i.isLt, h1, h2, h3⟩
theorem index_at (u : ByteArray) (i : Nat) (h : i < u.size) (wx : World) : (Instr.index 9 (.string u) (.int .i64 i)).run Tryd.prog wx = .ok (.int .u8 ((u.data.toList.getD i 0).toNat : Int)) wx := by
  rw [run_index_string (P := Tryd.prog) (w := wx) 9 u .i64 i Tryd.underlying9, dif_pos ⟨by omega, by omega⟩]
  have e : u[((i : Int)).toNat]'(by omega) = u.data.toList.getD i 0 := by
    have : ((i : Int)).toNat = i := by omega
    simp only [this]
    rw [Lib.size_eq] at h
    simp [List.getD, List.getElem?_eq_getElem h]
    rfl
  rw [e]

theorem Escape_out (s : ByteArray) (k : Int) (w : World) (h : k < 0 ∨ (s.size : Int) ≤ k) :
    Calls Tryd.prog 67 #[.string s, .int .i64 k] w fun e w' => e = .returned (escT none) ∧ w = w' := by
  rcases h with h | h
  · go_enter Tryd.func67, Tryd.ntmps67
    go_wp2
    go_ret3
    exact ⟨rfl, rfl⟩
  · by_cases h0 : k < 0
    · clear h
      go_enter Tryd.func67, Tryd.ntmps67
      go_wp2
      go_ret3
      exact ⟨rfl, rfl⟩
    · have h1 : decide (k < 0) = false := by rw [decide_eq_false_iff_not]; exact h0
      go_enter Tryd.func67, Tryd.ntmps67
      go_wp2
      go_ret3
      exact ⟨rfl, rfl⟩
set_option maxHeartbeats 1000000 in
theorem Escape_in (s : ByteArray) (k : Nat) (w : World) (hs : s.size ≤ 140737488355328) (hk : k < s.size) (hE : Env w) :
    Calls Tryd.prog 67 #[.string s, .int .i64 k] w fun e w' => e = .returned (escT (escL (s.data.toList.drop k))) ∧ Below w.heap.size w w' := by
  obtain ⟨u, hu⟩ : ∃ u, s.extract k s.size = u := ⟨_, rfl⟩
  have hul : u.data.toList = s.data.toList.drop k := by rw [← hu]; exact Lib.extract_to_end s k
  have hus : u.size ≤ 140737488355328 := by rw [← hu, ByteArray.size_extract]; omega
  rw [← hul]
  have d1 : decide ((k : Int) < 0) = false := by rw [decide_eq_false_iff_not]; omega
  have d2 : decide ((s.size : Int) ≤ (k : Int)) = false := by rw [decide_eq_false_iff_not]; omega
  have d3 : (k : Int) ≤ (s.size : Int) := by omega
  cases hpre : Lib.hasPrefix u.data.toList [92, 117, 123] with
  | true =>
    have h3 : 3 ≤ u.size := by
      unfold Lib.hasPrefix at hpre
      rw [List.isPrefixOf_iff_prefix] at hpre
      have := hpre.length_le
      rw [Lib.size_eq]; simpa using this
    have HF := Lib.hid (show escL u.data.toList = numV (u.data.toList.drop 3) from if_pos hpre)
    have HN := Lib.hid (fun w hE => numbered_any u h3 hus w hE)
    have HP := Lib.hid (show ∀ w, Calls Tryd.prog 32 #[.string u, .string ⟨#[92, 117, 123]⟩] w fun e w' => e = .returned (.bool true) ∧ w = w' from fun w => (Tryd.strings_HasPrefix u ⟨#[92, 117, 123]⟩ w).mono fun e w' ⟨he, hw⟩ => ⟨by
      rw [he]
      have : Lib.hasPrefix u.data.toList (⟨#[92, 117, 123]⟩ : ByteArray).data.toList = true := hpre
      rw [this], hw.symm⟩)
    have HE := Lib.hid hE
    clear hpre hul hE
    generalize numV (u.data.toList.drop 3) = nv at *
    have hnv : ∃ a b c, escT nv = .tuple #[a, b, c] := by
      cases nv with
      | none => exact ⟨_, _, _, rfl⟩
      | some p => exact ⟨_, _, _, rfl⟩
    obtain ⟨a, b, c, hnv⟩ := hnv
    rw [hnv] at HN
    have HG := Lib.hid hnv
    clear hnv
    go_enter Tryd.func67, Tryd.ntmps67
    go_wp2_with (first | (go_at_call 32; refine (HP.out _).mono ?_; rintro e w' ⟨rfl, rfl⟩) | (go_at_call 78; refine (HN.out _ HE.out).mono ?_; rintro e w1 ⟨rfl, hb1⟩))
    go_ret3
    exact ⟨ret_eq (by rw [HF.out, HG.out]; rfl), hb1⟩
  | false =>
    have HP := Lib.hid (show ∀ w, Calls Tryd.prog 32 #[.string u, .string ⟨#[92, 117, 123]⟩] w fun e w' => e = .returned (.bool false) ∧ w = w' from fun w => (Tryd.strings_HasPrefix u ⟨#[92, 117, 123]⟩ w).mono fun e w' ⟨he, hw⟩ => ⟨by
      rw [he]
      have : Lib.hasPrefix u.data.toList (⟨#[92, 117, 123]⟩ : ByteArray).data.toList = false := hpre
      rw [this], hw.symm⟩)
    have hesc : escL u.data.toList = if u.data.toList.length < 2 then none else if u.data.toList.getD 0 0 = 92 then (if unsign (u.data.toList.getD 1 0) = 0 then none else some (unsign (u.data.toList.getD 1 0), 2)) else none := by
      unfold escL
      rw [if_neg (by rw [hpre]; simp)]
    rw [← Lib.size_eq] at hesc
    by_cases h2 : u.size < 2
    · have HF := Lib.hid (show escL u.data.toList = none by rw [hesc, if_pos h2])
      have t2 : (u.size : Int) < 2 := by omega
      clear hesc hpre hul hE h2
      go_enter Tryd.func67, Tryd.ntmps67
      go_wp2_with (go_at_call 32; refine (HP.out _).mono ?_; rintro e w' ⟨rfl, rfl⟩)
      go_ret3
      exact ⟨ret_eq (by rw [HF.out]; rfl), Below.refl _ _⟩
    · rw [if_neg h2] at hesc
      have i0 := index_at u 0 (by omega)
      have i1 := index_at u 1 (by omega)
      have t2 : decide ((u.size : Int) < 2) = false := by rw [decide_eq_false_iff_not]; omega
      obtain ⟨c0, hc0⟩ : ∃ c0 : Int, c0 = ((u.data.toList.getD 0 0).toNat : Int) := ⟨_, rfl⟩
      obtain ⟨c1, hc1⟩ : ∃ c1 : Int, c1 = ((u.data.toList.getD 1 0).toNat : Int) := ⟨_, rfl⟩
      rw [← hc0] at i0
      rw [← hc1] at i1
      have i0 : ∀ wx, (Instr.index 9 (.string u) (.int .i64 0)).run Tryd.prog wx = .ok (.int .u8 c0) wx := i0
      have i1 : ∀ wx, (Instr.index 9 (.string u) (.int .i64 1)).run Tryd.prog wx = .ok (.int .u8 c1) wx := i1
      by_cases h92 : u.data.toList.getD 0 0 = 92
      · rw [if_pos h92] at hesc
        have t3 : (c0 != 92) = false := by
          have : c0 = 92 := by rw [hc0, h92]; rfl
          rw [this]; rfl
        have hix := unsign_index (u.data.toList.getD 1 0)
        have e1 : c1.toNat.toUInt8 = u.data.toList.getD 1 0 := by rw [hc1]; simp
        have CI := fun w => Tryd.strings_IndexByte signsB c1 w
        rw [e1] at CI
        rcases hix with ⟨h0, hi⟩ | ⟨i, hi8, h0, hi, hm⟩
        · have HF := Lib.hid (show escL u.data.toList = none by rw [hesc, if_pos h0])
          rw [hi] at CI
          have HI := Lib.hid CI
          clear hesc hpre hul hE h2 CI hi h0 e1 hc0 hc1 h92
          go_enter Tryd.func67, Tryd.ntmps67
          go_wp2_with (first | (go_at_call 32; refine (HP.out _).mono ?_; rintro e w' ⟨rfl, rfl⟩) | (go_at_call 31; refine (HI.out _).mono ?_; rintro e w' ⟨rfl, hw⟩; rw [hw]))
          go_ret3
          exact ⟨ret_eq (by rw [HF.out]; rfl), Below.refl _ _⟩
        · have HF := Lib.hid (show escL u.data.toList = some (unsign (u.data.toList.getD 1 0), 2) by rw [hesc, if_neg h0])
          rw [hi] at CI
          have HI := Lib.hid CI
          have im := index_at meant i hi8
          rw [hm] at im
          generalize unsign (u.data.toList.getD 1 0) = un at *
          have hun : un < 256 := by rw [← hm]; exact (meant.data.toList.getD i 0).toNat_lt
          obtain ⟨ui, hui⟩ : ∃ ui : Int, ui = (un : Int) := ⟨_, rfl⟩
          rw [← hui] at im
          have u0 : 0 ≤ ui := by omega
          have u1 : ui ≤ 255 := by omega
          have HU := Lib.hid hui
          clear hesc hpre hul hE h2 CI hi h0 e1 hc0 hc1 h92 hm hun hui
          go_enter Tryd.func67, Tryd.ntmps67
          go_wp2_with (first | (go_at_call 32; refine (HP.out _).mono ?_; rintro e w' ⟨rfl, rfl⟩) | (go_at_call 31; refine (HI.out _).mono ?_; rintro e w' ⟨rfl, hw⟩; rw [hw]))
          go_ret3
          exact ⟨ret_eq (by rw [HF.out, HU.out]; rfl), Below.refl _ _⟩
      · have HF := Lib.hid (show escL u.data.toList = none by rw [hesc, if_neg h92])
        have t3 : (c0 != 92) = true := by
          rw [bne_iff_ne]
          intro e
          refine h92 ?_
          rw [← UInt8.toNat_inj]
          show _ = 92
          omega
        clear hesc hpre hul hE h2 hc0 hc1 h92
        go_enter Tryd.func67, Tryd.ntmps67
        go_wp2_with (go_at_call 32; refine (HP.out _).mono ?_; rintro e w' ⟨rfl, rfl⟩)
        go_ret3
        exact ⟨ret_eq (by rw [HF.out]; rfl), Below.refl _ _⟩
end Go.Proofs.YtokpknjmcegkaaaDoor
