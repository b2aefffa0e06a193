/- The contracts of nodes.named, isRune, wrong, looks. -/
import Derived.Test.YthfkodimafmmgaaDoorNdE
import Derived.Test.YthfkodimafmmgaaDoorNdT
namespace Go.Proofs.YthfkodimafmmgaaDoor
open Go Go.RowKit Ru
set_option maxRecDepth 100000

namespace Nd
/-- What may stand in a name behind its first letter; the small letters; the great ones. -/
def behL : List UInt8 := [97, 98, 99, 100, 101, 102, 103, 104, 105, 106, 107, 108, 109, 110, 111, 112, 113, 114, 115, 116, 117, 118, 119, 120, 121, 122, 65, 66, 67, 68, 69, 70, 71, 72, 73, 74, 75, 76, 77, 78, 79, 80, 81, 82, 83, 84, 85, 86, 87, 88, 89, 90, 48, 49, 50, 51, 52, 53, 54, 55, 56, 57, 95]
def smallL : List UInt8 := [97, 98, 99, 100, 101, 102, 103, 104, 105, 106, 107, 108, 109, 110, 111, 112, 113, 114, 115, 116, 117, 118, 119, 120, 121, 122]
def bigL : List UInt8 := [65, 66, 67, 68, 69, 70, 71, 72, 73, 74, 75, 76, 77, 78, 79, 80, 81, 82, 83, 84, 85, 86, 87, 88, 89, 90]
/-- Is a text a name that begins with one of F? -/
def nameP (F l : List UInt8) : Bool := decide (l ≠ []) && decide (l.length ≤ 64) && F.contains (l.getD 0 0) && l.all (behL.contains ·)
end Nd
theorem notEmpty (x : ByteArray) (h : 1 ≤ x.size) : x.toList.isEmpty = false ∧ ¬ x.toList = [] := by
  rw [ByteArray.toList_eq]
  rw [Lib.size_eq] at h
  cases hx : x.data.toList with
  | nil => rw [hx] at h; simp at h
  | cons c l => simp
theorem isEmpty_ (x : ByteArray) (h : x.size = 0) : x.toList.isEmpty = true ∧ x.toList = [] := by
  rw [ByteArray.toList_eq]
  rw [Lib.size_eq] at h
  cases hx : x.data.toList with
  | nil => simp
  | cons c l => rw [hx] at h; simp at h
theorem index_at (u : ByteArray) (i : Nat) (h : i < u.size) (wx : World) : (Instr.index 9 (.string u) (.int .i64 i)).run Tryd.prog wx = .ok (.int .u8 ((u.data.toList.getD i 0).toNat : Int)) wx := by
  rw [run_index_string (P := Tryd.prog) (w := wx) 9 u .i64 i Tryd.underlying9, dif_pos ⟨by omega, by omega⟩]
  have e : u[((i : Int)).toNat]'(by omega) = u.data.toList.getD i 0 := by
    have : ((i : Int)).toNat = i := by omega
    simp only [this]
    rw [Lib.size_eq] at h
    simp [List.getD, List.getElem?_eq_getElem h]
    rfl
  rw [e]
theorem index_iff : ∀ (l : List UInt8) (c : UInt8), 0 ≤ Lib.indexByte l c ↔ l.contains c = true
  | [], c => by simp [Lib.indexByte]
  | b :: l, c => by
    have ih := index_iff l c
    have hge := Lib.indexByte_ge l c
    have e : Lib.indexByte (b :: l) c = if b == c then 0 else if Lib.indexByte l c == -1 then -1 else Lib.indexByte l c + 1 := rfl
    rw [e, List.contains_cons]
    by_cases h : b = c
    · subst h; simp
    · have h1 : (b == c) = false := by simpa using h
      have h2 : (c == b) = false := by simpa using fun e => h e.symm
      rw [h1, h2, Bool.false_or, ← ih, if_neg (by simp)]
      by_cases hm : Lib.indexByte l c = -1
      · rw [if_pos (by simpa using hm), hm]
      · rw [if_neg (by simpa using hm)]; omega
theorem index_pos (l : List UInt8) (c : UInt8) : decide (0 ≤ Lib.indexByte l c) = l.contains c := by
  cases h : l.contains c with
  | true => exact decide_eq_true ((index_iff l c).2 h)
  | false => exact decide_eq_false (fun e => by rw [(index_iff l c).1 e] at h; cases h)
set_option maxHeartbeats 1000000 in
theorem named_any (s F : ByteArray) (w : World) (hs : s.size ≤ 140737488351232) :
    Calls Tryd.prog 24 #[.string s, .string F] w fun e w' => e = .returned (.bool (Nd.nameP F.data.toList s.data.toList)) ∧ Below w.heap.size w w' := by
  have hsz := Lib.size_eq s
  by_cases h0 : s.size = 0
  · have hn : Nd.nameP F.data.toList s.data.toList = false := by
      have : s.data.toList = [] := List.eq_nil_of_length_eq_zero (by omega)
      rw [this]; rfl
    rw [hn]
    obtain ⟨e1, e2⟩ := isEmpty_ s h0
    clear hn hsz
    go_enter Tryd.func24, Tryd.ntmps24
    go_wp2_with fail
    go_ret
    exact ⟨rfl, Below.refl _ _⟩
  obtain ⟨e1, e2⟩ := notEmpty s (by omega)
  have hne : s.data.toList ≠ [] := fun e => by have : s.size = 0 := by { rw [hsz, e]; rfl }; omega
  by_cases h64 : 64 < s.size
  · have hn : Nd.nameP F.data.toList s.data.toList = false := by
      unfold Nd.nameP
      rw [decide_eq_false (p := s.data.toList.length ≤ 64) (by omega)]
      simp
    rw [hn]
    have d1 : decide ((s.size : Int) ≤ 64) = false := by rw [decide_eq_false_iff_not]; omega
    have d2 : decide (s.size ≤ 64) = false := by rw [decide_eq_false_iff_not]; omega
    clear hn hsz
    go_enter Tryd.func24, Tryd.ntmps24
    go_wp2_with fail
    go_ret
    exact ⟨rfl, Below.refl _ _⟩
  have d1 : decide ((s.size : Int) ≤ 64) = true := by rw [decide_eq_true_iff]; omega
  have d2 : decide (s.size ≤ 64) = true := by rw [decide_eq_true_iff]; omega
  have hix := fun wx => index_at s 0 (by omega) wx
  have CI := fun wx => Tryd.strings_IndexByte F ((s.data.toList.getD 0 0).toNat : Int) wx
  have hpos := index_pos F.data.toList (s.data.toList.getD 0 0)
  have hback : ((s.data.toList.getD 0 0).toNat : Int).toNat.toUInt8 = s.data.toList.getD 0 0 := by simp
  rw [hback] at CI
  obtain ⟨c, hc⟩ : ∃ c : Int, ((s.data.toList.getD 0 0).toNat : Int) = c := ⟨_, rfl⟩
  rw [hc] at hix CI
  rw [show ((0 : Nat) : Int) = 0 from rfl] at hix
  obtain ⟨I, hI⟩ : ∃ I : Int, Lib.indexByte F.data.toList (s.data.toList.getD 0 0) = I := ⟨_, rfl⟩
  rw [hI] at CI hpos
  replace CI := Lib.hid CI
  by_cases hF : F.data.toList.contains (s.data.toList.getD 0 0) = true
  · rw [hF] at hpos
    have CT := fun wx => Tryd.Trim_set s ⟨Nd.behL.toArray⟩ wx (by decide) (by omega) (by omega) (by decide) (fun j b hb => by
      have : ∀ b ∈ Nd.behL, b.toNat < 128 := by decide
      exact this b (List.mem_of_getElem? hb))
    obtain ⟨X, hX⟩ : ∃ X : ByteArray, (⟨(Lib.trimS s.data.toList (⟨Nd.behL.toArray⟩ : ByteArray).data.toList).toArray⟩ : ByteArray) = X := ⟨_, rfl⟩
    have hXl : X.data.toList = Lib.trimS s.data.toList Nd.behL := by rw [← hX]
    rw [hX] at CT
    replace CT := Lib.hid CT
    have hall : Nd.nameP F.data.toList s.data.toList = s.data.toList.all (Nd.behL.contains ·) := by
      unfold Nd.nameP
      rw [decide_eq_true hne, decide_eq_true (p := s.data.toList.length ≤ 64) (by omega), hF]
      simp
    by_cases ht : Lib.trimS s.data.toList Nd.behL = []
    · have hr : Nd.nameP F.data.toList s.data.toList = true := by
        rw [hall, List.all_eq_true]
        exact (trimS_nil _ _).1 ht
      rw [hr]
      obtain ⟨x1, x2⟩ := isEmpty_ X (by rw [Lib.size_eq, hXl, ht]; rfl)
      unfold Nd.behL at CT
      clear hr hall hX hXl ht hF hI hc hback hne hsz h0
      go_enter Tryd.func24, Tryd.ntmps24
      go_wp2_with (first | (go_at_call 37; refine (CI.out _).mono ?_; rintro e w' ⟨rfl, rfl⟩) | (go_at_call 38; refine (CT.out _).mono ?_; rintro e w' ⟨rfl, hb⟩))
      go_ret
      exact ⟨rfl, hb⟩
    · have hr : Nd.nameP F.data.toList s.data.toList = false := by
        rw [hall]
        cases h : s.data.toList.all (Nd.behL.contains ·) with
        | false => rfl
        | true => exact absurd ((trimS_nil _ _).2 (List.all_eq_true.1 h)) ht
      rw [hr]
      obtain ⟨x1, x2⟩ := notEmpty X (by
        rw [Lib.size_eq, hXl]
        exact List.length_pos_iff.2 ht)
      unfold Nd.behL at CT
      clear hr hall hX hXl ht hF hI hc hback hne hsz h0
      go_enter Tryd.func24, Tryd.ntmps24
      go_wp2_with (first | (go_at_call 37; refine (CI.out _).mono ?_; rintro e w' ⟨rfl, rfl⟩) | (go_at_call 38; refine (CT.out _).mono ?_; rintro e w' ⟨rfl, hb⟩))
      go_ret
      exact ⟨rfl, hb⟩
  · have hF' : F.data.toList.contains (s.data.toList.getD 0 0) = false := by simpa using hF
    rw [hF'] at hpos
    have hr : Nd.nameP F.data.toList s.data.toList = false := by
      unfold Nd.nameP
      rw [hF']
      simp
    rw [hr]
    clear hr hF hF' hI hc hback hne hsz h0
    go_enter Tryd.func24, Tryd.ntmps24
    go_wp2_with (go_at_call 37; refine (CI.out _).mono ?_; rintro e w' ⟨rfl, rfl⟩)
    go_ret
    exact ⟨rfl, Below.refl _ _⟩
end Go.Proofs.YthfkodimafmmgaaDoor
