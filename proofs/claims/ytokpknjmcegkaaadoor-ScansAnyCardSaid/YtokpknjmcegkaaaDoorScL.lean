/- places, and what it makes, in the text's own words. -/
import Derived.Test.YtokpknjmcegkaaaDoorScJ
import Derived.Test.YtokpknjmcegkaaaDoorScK
namespace Go.Proofs.YtokpknjmcegkaaaDoor
open Go Go.RowKit Ru
set_option maxRecDepth 100000

/-- The teller of places stands at q: the text lies at bS, the last place at bL. -/
def Pl (s : ByteArray) (w : World) (bS bL q : Nat) : Prop :=
  bS ≠ bL ∧ q ≤ s.size ∧ Sc.Good (s.data.toList.take q) ∧ Bk w bS 9 #[.string s] ∧ Bk w bL 26 #[.int .i64 q, .int .i64 (place (s.data.toList.take q)).1, .int .i64 (place (s.data.toList.take q)).2]
theorem Pl.below {s : ByteArray} {w w' : World} {bS bL q : Nat} (h : Pl s w bS bL q) (hb : Below w.heap.size w w') : Pl s w' bS bL q := by
  obtain ⟨h1, h2, h3, h4, h5⟩ := h
  exact ⟨h1, h2, h3, h4.below hb h4.lt, h5.below hb h5.lt⟩
theorem Pl.far {s : ByteArray} {w : World} {bS bL q : Nat} (h : Pl s w bS bL q) {a : Addr} (h1 : bS ≠ a.block) (h2 : bL ≠ a.block) (u : Value) : Pl s (w.setCell a u) bS bL q := by
  obtain ⟨k1, k2, k3, k4, k5⟩ := h
  exact ⟨k1, k2, k3, k4.other _ _ h1, k5.other _ _ h2⟩
theorem Pl.grown {s : ByteArray} {w w' : World} {bS bL q : Nat} {row : Option Nat} (h : Pl s w bS bL q) (hg : w.grownBy w' row) (h1 : some bS ≠ row) (h2 : some bL ≠ row) : Pl s w' bS bL q := by
  obtain ⟨k1, k2, k3, k4, k5⟩ := h
  exact ⟨k1, k2, k3, k4.grown hg h1, k5.grown hg h2⟩
theorem ret_agg3 {a b c d e f : Int} (h1 : a = d) (h2 : b = e) (h3 : c = f) : Ending.returned (.agg #[.int .i64 a, .int .i64 b, .int .i64 c]) = .returned (.agg #[.int .i64 d, .int .i64 e, .int .i64 f]) := by rw [h1, h2, h3]
theorem told_any (s : ByteArray) (bS bL q k : Nat) (w : World) (hs : s.size ≤ 65536) (hP : Pl s w bS bL q) (hq : q ≤ k) (hk : k ≤ s.size) (hG : Sc.Good (s.data.toList.take k)) :
    Calls Tryd.prog 30 #[.int .i64 k, .pointer (some ⟨bS, 0, none⟩), .pointer (some ⟨bL, 0, none⟩)] w fun e w' => e = .returned (posV s.data.toList k) ∧ w.grownBy w' (some bL) ∧ Pl s w' bS bL k := by
  obtain ⟨hne, hqs, hGq, hS, hL⟩ := hP
  have hx : (s.extract q k).data.toList = (s.data.toList.take k).drop q := by
    rw [Lib.extract_data, List.drop_take]
  have hxs : (s.extract q k).size = k - q := by rw [ByteArray.size_extract]; omega
  have hsplit : s.data.toList.take k = s.data.toList.take q ++ (s.extract q k).data.toList := by
    rw [hx]
    have e : s.data.toList.take q = (s.data.toList.take k).take q := by rw [List.take_take, Nat.min_eq_left hq]
    rw [e, List.take_append_drop]
  have hj := plc_join (s.data.toList.take q) (s.extract q k).data.toList hGq
  rw [← hsplit] at hj
  have b1 := plc_le (s.data.toList.take q)
  have b2 := plc_le (s.extract q k).data.toList
  have l1 : (s.data.toList.take q).length ≤ 65536 := by rw [List.length_take, ← Lib.size_eq]; omega
  have l2 : (s.extract q k).data.toList.length ≤ 65536 := by rw [← Lib.size_eq, hxs]; omega
  have e1 : (((k - q : Nat)) : Int) = (k : Int) - (q : Int) := by omega
  refine (placed_any s bS bL q k w (by omega) hq hk hne ((place (s.data.toList.take q)).1 : Int) ((place (s.data.toList.take q)).2 : Int) ((place (s.extract q k).data.toList).1 : Int) ((place (s.extract q k).data.toList).2 : Int)
    ((place (s.data.toList.take k)).1 : Int) ((place (s.data.toList.take k)).2 : Int) hS hL (by omega) (by omega) (by omega) (by omega) (fun w => ?_) (by omega) (by omega) (by omega) (by omega) ?_ ?_).mono ?_
  · refine (Place_any (s.extract q k) ((k : Int) - (q : Int)) w (by omega) (k - q) (by omega)).mono fun e w' ⟨he, hb⟩ => ⟨?_, hb⟩
    have ht : (s.extract q k).data.toList.take (k - q) = (s.extract q k).data.toList := List.take_of_length_le (by rw [← Lib.size_eq, hxs]; exact Nat.le_refl _)
    rw [he, ht, e1]
  · rw [hj]; dsimp only; omega
  · rw [hj]
    dsimp only
    by_cases h : (place (s.extract q k).data.toList).1 = 1
    · rw [if_pos h, if_pos (by omega)]; omega
    · rw [if_neg h, if_neg (by omega)]
  · rintro e w' ⟨he, hg, hB⟩
    exact ⟨he, hg, hne, hk, hG, hS.grown hg (by simpa using hne), hB⟩
set_option maxHeartbeats 1000000 in
theorem places_any (s : ByteArray) (w : World) (hs : s.size ≤ 65536) :
    Calls Tryd.prog 16 #[.string s] w fun e w' => (∃ bS bL, e = .returned (.func (.func 30) #[] #[.pointer (some ⟨bS, 0, none⟩), .pointer (some ⟨bL, 0, none⟩)]) ∧ w.heap.size ≤ bS ∧ w.heap.size ≤ bL ∧ Pl s w' bS bL 0) ∧ Below w.heap.size w w' := by
  have C := Lib.hid (fun w => Place_any s 0 w (by omega) 0 (by omega))
  go_enter Tryd.func16, Tryd.ntmps16
  go_wp2_with fail
  refine (C.out _).mono ?_
  rintro e w1 ⟨rfl, b1⟩
  have KS := Lib.hid ((Bk.made w 9 #[.string s]).below b1 (by simp))
  have HB := Lib.hid b1
  have sz := KS.out.lt
  clear b1
  go_wp2_with fail
  go_ret
  refine ⟨⟨w.heap.size, w1.heap.size, rfl, Nat.le_refl _, by omega, by omega, Nat.zero_le _, Sc.Good.nil, KS.out.alloc _, Bk.made _ _ _⟩, ?_⟩
  exact (((Below.refl _ w).alloc (Nat.le_refl _) _).trans (HB.out.mono (by simp))).alloc (by omega) _
end Go.Proofs.YtokpknjmcegkaaaDoor
