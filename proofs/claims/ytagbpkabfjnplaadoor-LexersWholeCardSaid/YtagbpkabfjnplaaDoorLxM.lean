/- Lexers: the chapter's examples: lives answers true. -/
import Derived.Test.YtagbpkabfjnplaaDoorLxL
namespace Go.Proofs.YtagbpkabfjnplaaDoor
open Go Go.RowKit Rn Lx
set_option maxRecDepth 100000

namespace Lx
deriving instance DecidableEq for TkR
def lvT : Tb := ⟨[(97, 97)], [0], [[1], [2], [1]], [-1, 0, 0]⟩
theorem lv_new : newB lvT 1 = true := by decide +kernel
theorem lv_may : mayB lvT = true := by decide +kernel
theorem lv_sm : Sm lvT := ⟨by decide, by decide, by decide, by decide, by decide⟩
theorem lv_es : ∀ x ∈ lvT.es, x < (([false] : List Bool).length : Int) := by decide
theorem lv_1 : tok lvT [false] (⟨#[97, 97, 97]⟩ : ByteArray).data.toList = .ok [(0, 0, 3)] := by decide +kernel
theorem lv_2 : tok lvT [false] (⟨#[97, 97, 98]⟩ : ByteArray).data.toList = .bad 9 2 := by decide +kernel
theorem lv_3 : tok lvT [false] (⟨#[]⟩ : ByteArray).data.toList = .ok [] := by decide +kernel
theorem lv_x : (⟨#[97, 97, 97]⟩ : ByteArray).extract 0 (0 + 3) = ⟨#[97, 97, 97]⟩ := by decide +kernel
def lvW (w : World) : World := (((((((((w.alloc (.cells #[.int .i32 97, .int .i32 97] 63)).alloc (.cells #[.int .i64 0] 3)).alloc (.cells #[.int .i64 1] 3)).alloc (.cells #[.int .i64 2] 3)).alloc (.cells #[.int .i64 1] 3)).alloc (.cells #[.slice (some ⟨w.heap.size + 1 + 1, 0, none⟩) 1 1, .slice (some ⟨w.heap.size + 1 + 1 + 1, 0, none⟩) 1 1, .slice (some ⟨w.heap.size + 1 + 1 + 1 + 1, 0, none⟩) 1 1] 23)).alloc (.cells #[.int .i64 (-1), .int .i64 0, .int .i64 0] 3)).alloc (.cells #[.slice (some ⟨w.heap.size, 0, none⟩) 1 1, .slice (some ⟨w.heap.size + 1, 0, none⟩) 1 1, .slice (some ⟨w.heap.size + 1 + 1 + 1 + 1 + 1, 0, none⟩) 3 3, .slice (some ⟨w.heap.size + 1 + 1 + 1 + 1 + 1 + 1, 0, none⟩) 3 3] 26)).alloc (.cells #[.bool false] 4))
theorem lv_b0 (w : World) : Bk (lvW w) (w.heap.size) 63 #[.int .i32 97, .int .i32 97] := by
  have h := Bk.made w 63 #[.int .i32 97, .int .i32 97]
  try simp only [World.size_alloc] at h
  exact ((((((((h.alloc _).alloc _).alloc _).alloc _).alloc _).alloc _).alloc _).alloc _)
theorem lv_b1 (w : World) : Bk (lvW w) (w.heap.size + 1) 3 #[.int .i64 0] := by
  have h := Bk.made (w.alloc (.cells #[.int .i32 97, .int .i32 97] 63)) 3 #[.int .i64 0]
  try simp only [World.size_alloc] at h
  exact (((((((h.alloc _).alloc _).alloc _).alloc _).alloc _).alloc _).alloc _)
theorem lv_b2 (w : World) : Bk (lvW w) (w.heap.size + 1 + 1) 3 #[.int .i64 1] := by
  have h := Bk.made ((w.alloc (.cells #[.int .i32 97, .int .i32 97] 63)).alloc (.cells #[.int .i64 0] 3)) 3 #[.int .i64 1]
  try simp only [World.size_alloc] at h
  exact ((((((h.alloc _).alloc _).alloc _).alloc _).alloc _).alloc _)
theorem lv_b3 (w : World) : Bk (lvW w) (w.heap.size + 1 + 1 + 1) 3 #[.int .i64 2] := by
  have h := Bk.made (((w.alloc (.cells #[.int .i32 97, .int .i32 97] 63)).alloc (.cells #[.int .i64 0] 3)).alloc (.cells #[.int .i64 1] 3)) 3 #[.int .i64 2]
  try simp only [World.size_alloc] at h
  exact (((((h.alloc _).alloc _).alloc _).alloc _).alloc _)
theorem lv_b4 (w : World) : Bk (lvW w) (w.heap.size + 1 + 1 + 1 + 1) 3 #[.int .i64 1] := by
  have h := Bk.made ((((w.alloc (.cells #[.int .i32 97, .int .i32 97] 63)).alloc (.cells #[.int .i64 0] 3)).alloc (.cells #[.int .i64 1] 3)).alloc (.cells #[.int .i64 2] 3)) 3 #[.int .i64 1]
  try simp only [World.size_alloc] at h
  exact ((((h.alloc _).alloc _).alloc _).alloc _)
theorem lv_b5 (w : World) : Bk (lvW w) (w.heap.size + 1 + 1 + 1 + 1 + 1) 23 #[.slice (some ⟨w.heap.size + 1 + 1, 0, none⟩) 1 1, .slice (some ⟨w.heap.size + 1 + 1 + 1, 0, none⟩) 1 1, .slice (some ⟨w.heap.size + 1 + 1 + 1 + 1, 0, none⟩) 1 1] := by
  have h := Bk.made (((((w.alloc (.cells #[.int .i32 97, .int .i32 97] 63)).alloc (.cells #[.int .i64 0] 3)).alloc (.cells #[.int .i64 1] 3)).alloc (.cells #[.int .i64 2] 3)).alloc (.cells #[.int .i64 1] 3)) 23 #[.slice (some ⟨w.heap.size + 1 + 1, 0, none⟩) 1 1, .slice (some ⟨w.heap.size + 1 + 1 + 1, 0, none⟩) 1 1, .slice (some ⟨w.heap.size + 1 + 1 + 1 + 1, 0, none⟩) 1 1]
  try simp only [World.size_alloc] at h
  exact (((h.alloc _).alloc _).alloc _)
theorem lv_b6 (w : World) : Bk (lvW w) (w.heap.size + 1 + 1 + 1 + 1 + 1 + 1) 3 #[.int .i64 (-1), .int .i64 0, .int .i64 0] := by
  have h := Bk.made ((((((w.alloc (.cells #[.int .i32 97, .int .i32 97] 63)).alloc (.cells #[.int .i64 0] 3)).alloc (.cells #[.int .i64 1] 3)).alloc (.cells #[.int .i64 2] 3)).alloc (.cells #[.int .i64 1] 3)).alloc (.cells #[.slice (some ⟨w.heap.size + 1 + 1, 0, none⟩) 1 1, .slice (some ⟨w.heap.size + 1 + 1 + 1, 0, none⟩) 1 1, .slice (some ⟨w.heap.size + 1 + 1 + 1 + 1, 0, none⟩) 1 1] 23)) 3 #[.int .i64 (-1), .int .i64 0, .int .i64 0]
  try simp only [World.size_alloc] at h
  exact ((h.alloc _).alloc _)
theorem lv_b7 (w : World) : Bk (lvW w) (w.heap.size + 1 + 1 + 1 + 1 + 1 + 1 + 1) 26 #[.slice (some ⟨w.heap.size, 0, none⟩) 1 1, .slice (some ⟨w.heap.size + 1, 0, none⟩) 1 1, .slice (some ⟨w.heap.size + 1 + 1 + 1 + 1 + 1, 0, none⟩) 3 3, .slice (some ⟨w.heap.size + 1 + 1 + 1 + 1 + 1 + 1, 0, none⟩) 3 3] := by
  have h := Bk.made (((((((w.alloc (.cells #[.int .i32 97, .int .i32 97] 63)).alloc (.cells #[.int .i64 0] 3)).alloc (.cells #[.int .i64 1] 3)).alloc (.cells #[.int .i64 2] 3)).alloc (.cells #[.int .i64 1] 3)).alloc (.cells #[.slice (some ⟨w.heap.size + 1 + 1, 0, none⟩) 1 1, .slice (some ⟨w.heap.size + 1 + 1 + 1, 0, none⟩) 1 1, .slice (some ⟨w.heap.size + 1 + 1 + 1 + 1, 0, none⟩) 1 1] 23)).alloc (.cells #[.int .i64 (-1), .int .i64 0, .int .i64 0] 3)) 26 #[.slice (some ⟨w.heap.size, 0, none⟩) 1 1, .slice (some ⟨w.heap.size + 1, 0, none⟩) 1 1, .slice (some ⟨w.heap.size + 1 + 1 + 1 + 1 + 1, 0, none⟩) 3 3, .slice (some ⟨w.heap.size + 1 + 1 + 1 + 1 + 1 + 1, 0, none⟩) 3 3]
  try simp only [World.size_alloc] at h
  exact (h.alloc _)
theorem lv_b8 (w : World) : Bk (lvW w) (w.heap.size + 1 + 1 + 1 + 1 + 1 + 1 + 1 + 1) 4 #[.bool false] := by
  have h := Bk.made ((((((((w.alloc (.cells #[.int .i32 97, .int .i32 97] 63)).alloc (.cells #[.int .i64 0] 3)).alloc (.cells #[.int .i64 1] 3)).alloc (.cells #[.int .i64 2] 3)).alloc (.cells #[.int .i64 1] 3)).alloc (.cells #[.slice (some ⟨w.heap.size + 1 + 1, 0, none⟩) 1 1, .slice (some ⟨w.heap.size + 1 + 1 + 1, 0, none⟩) 1 1, .slice (some ⟨w.heap.size + 1 + 1 + 1 + 1, 0, none⟩) 1 1] 23)).alloc (.cells #[.int .i64 (-1), .int .i64 0, .int .i64 0] 3)).alloc (.cells #[.slice (some ⟨w.heap.size, 0, none⟩) 1 1, .slice (some ⟨w.heap.size + 1, 0, none⟩) 1 1, .slice (some ⟨w.heap.size + 1 + 1 + 1 + 1 + 1, 0, none⟩) 3 3, .slice (some ⟨w.heap.size + 1 + 1 + 1 + 1 + 1 + 1, 0, none⟩) 3 3] 26)) 4 #[.bool false]
  try simp only [World.size_alloc] at h
  exact h
theorem lv_below (w : World) : Below w.heap.size w (lvW w) := by
  unfold lvW
  exact ((((((((((Below.refl _ w).alloc (Nat.le_refl _) _).alloc (by simp) _).alloc (by simp; omega) _).alloc (by simp; omega) _).alloc (by simp; omega) _).alloc (by simp; omega) _).alloc (by simp; omega) _).alloc (by simp; omega) _).alloc (by simp; omega) _)
def Bk3 (w : World) (b : Nat) (x y z : Value) : Prop := w.cell? ⟨b, 0, none⟩ = some x ∧ w.cell? ⟨b, 1, none⟩ = some y ∧ w.cell? ⟨b, 2, none⟩ = some z
theorem Bk3.below {w w' : World} {b : Nat} {x y z : Value} (h : Bk3 w b x y z) (hb : Below w.heap.size w w') : Bk3 w' b x y z := ⟨Nd.cell_keeps hb h.1, Nd.cell_keeps hb h.2.1, Nd.cell_keeps hb h.2.2⟩
theorem zv_of {w : World} {b : Nat} {cs : Array Value} {l : List Int} (h : Bk w b 3 cs) (hc : cs = (l.map (Value.int .i64)).toArray) : ZV w (.slice (some ⟨b, 0, none⟩) l.length l.length) l :=
  ⟨_, _, rfl, Nat.le_refl _, fun i x hx => ⟨b, 0, rfl, by rw [h.cell, Nat.zero_add, hc]; simp [hx]⟩⟩
theorem lv_tl (w : World) : TL (lvW w) (.slice (some ⟨w.heap.size, 0, none⟩) 1 1) (.slice (some ⟨w.heap.size + 1, 0, none⟩) 1 1) (.slice (some ⟨w.heap.size + 1 + 1 + 1 + 1 + 1, 0, none⟩) 3 3) (.slice (some ⟨w.heap.size + 1 + 1 + 1 + 1 + 1 + 1, 0, none⟩) 3 3) lvT := by
  refine ⟨⟨_, _, rfl, Nat.le_refl _, ?_⟩, zv_of (l := [0]) (lv_b1 w) rfl, ⟨_, _, rfl, Nat.le_refl _, ?_⟩, zv_of (l := [-1, 0, 0]) (lv_b6 w) rfl⟩
  · refine RgAt_row _ 0 fun i p hp => ?_
    match i, hp with
    | 0, hp =>
      have : p = (97, 97) := by injection hp with hp; exact hp.symm
      subst this
      exact ⟨by rw [(lv_b0 w).cell]; rfl, by rw [(lv_b0 w).cell]; rfl⟩
    | i + 1, hp => simp [lvT] at hp
  · intro i l hl
    match i, hl with
    | 0, hl =>
      have : l = [1] := by injection hl with hl; exact hl.symm
      subst this
      exact ⟨_, 0, _, _, rfl, by rw [(lv_b5 w).cell]; rfl, zv_of (l := [1]) (lv_b2 w) rfl⟩
    | 1, hl =>
      have : l = [2] := by injection hl with hl; exact hl.symm
      subst this
      exact ⟨_, 0, _, _, rfl, by rw [(lv_b5 w).cell]; rfl, zv_of (l := [2]) (lv_b3 w) rfl⟩
    | 2, hl =>
      have : l = [1] := by injection hl with hl; exact hl.symm
      subst this
      exact ⟨_, 0, _, _, rfl, by rw [(lv_b5 w).cell]; rfl, zv_of (l := [1]) (lv_b4 w) rfl⟩
    | i + 3, hl => simp [lvT] at hl
theorem lv_bv (w : World) : BV (lvW w) (.slice (some ⟨w.heap.size + 1 + 1 + 1 + 1 + 1 + 1 + 1 + 1, 0, none⟩) 1 1) [false] :=
  ⟨_, _, rfl, Nat.le_refl _, fun i x hx => by
    match i, hx with
    | 0, hx =>
      have : x = false := by injection hx with hx; exact hx.symm
      subst this
      exact ⟨_, 0, rfl, by rw [(lv_b8 w).cell]; rfl⟩
    | i + 1, hx => simp at hx⟩
/-- The three calls of the examples. -/
theorem lv_new_any (w : World) : Calls Tryd.prog 10 #[.agg #[.slice (some ⟨w.heap.size, 0, none⟩) 1 1, .slice (some ⟨w.heap.size + 1, 0, none⟩) 1 1, .slice (some ⟨w.heap.size + 1 + 1 + 1 + 1 + 1, 0, none⟩) 3 3, .slice (some ⟨w.heap.size + 1 + 1 + 1 + 1 + 1 + 1, 0, none⟩) 3 3], .slice (some ⟨w.heap.size + 1 + 1 + 1 + 1 + 1 + 1 + 1 + 1, 0, none⟩) 1 1] (lvW w) fun e w' => (∃ g, e = .returned (.tuple #[.pointer (some ⟨g, 0, none⟩), .int .i64 0]) ∧ LV w' g lvT [false]) ∧ Below w.heap.size w w' :=
  (New_any lvT [false] _ _ _ _ _ (lvW w) (lv_tl w) (lv_bv w) lv_sm (by decide)).mono fun e w' h => by
    obtain ⟨h1, h2⟩ := h
    unfold NewR at h1
    rw [if_pos (show newB lvT ([false] : List Bool).length = true from lv_new)] at h1
    obtain ⟨g, e1, e2⟩ := h1
    exact ⟨⟨g, e1, e2.lv⟩, (lv_below w).trans (h2.mono (lv_below w).size)⟩
theorem lv_tok1 (g : Nat) (w : World) (hE : EnvL w) (h : LV w g lvT [false]) : Calls Tryd.prog 16 #[.pointer (some ⟨g, 0, none⟩), .string ⟨#[97, 97, 97]⟩] w fun e w' => (∃ a c, e = .returned (.tuple #[.slice (some ⟨a, 0, none⟩) 1 c, .int .i64 3, .int .i64 0]) ∧ Bk3 w' a (.int .i64 0) (.string ⟨#[97, 97, 97]⟩) (.int .i64 0)) ∧ Below w.heap.size w w' :=
  (Tokens_any lvT [false] g ⟨#[97, 97, 97]⟩ w h (mayB_may lv_may) lv_sm lv_es hE (by decide)).mono fun e w' h => by
    obtain ⟨h1, h2⟩ := h
    rw [lv_1] at h1
    obtain ⟨a, c, e1, ho⟩ := h1
    rcases ho with ⟨_, h0, _⟩ | ⟨g', cap, cur, ev, _, hk, _, hc⟩
    · simp at h0
    · injection ev with ev1 ev2 ev3
      subst ev1
      refine ⟨⟨g', c, e1, ?_⟩, h2⟩
      have k := fun j u hj => (show w'.cell? ⟨g', j, none⟩ = some u from by rw [hk.cell]; exact hc j u hj)
      exact ⟨k 0 _ rfl, by rw [← lv_x]; exact k 1 _ rfl, k 2 _ rfl⟩
theorem lv_tok2 (g : Nat) (w : World) (hE : EnvL w) (h : LV w g lvT [false]) : Calls Tryd.prog 16 #[.pointer (some ⟨g, 0, none⟩), .string ⟨#[97, 97, 98]⟩] w fun e w' => e = .returned (.tuple #[.slice none 0 0, .int .i64 2, .int .i64 9]) ∧ Below w.heap.size w w' :=
  (Tokens_any lvT [false] g ⟨#[97, 97, 98]⟩ w h (mayB_may lv_may) lv_sm lv_es hE (by decide)).mono fun e w' h => by
    obtain ⟨h1, h2⟩ := h
    rw [lv_2] at h1
    exact ⟨h1, h2⟩
theorem lv_tok3 (g : Nat) (w : World) (hE : EnvL w) (h : LV w g lvT [false]) : Calls Tryd.prog 16 #[.pointer (some ⟨g, 0, none⟩), .string ⟨#[]⟩] w fun e w' => (∃ a c, e = .returned (.tuple #[.slice a 0 c, .int .i64 0, .int .i64 0])) ∧ Below w.heap.size w w' :=
  (Tokens_any lvT [false] g ⟨#[]⟩ w h (mayB_may lv_may) lv_sm lv_es hE (by decide)).mono fun e w' h => by
    obtain ⟨h1, h2⟩ := h
    rw [lv_3] at h1
    obtain ⟨a, c, e1, _⟩ := h1
    exact ⟨⟨a, c, e1⟩, h2⟩
end Lx
set_option maxHeartbeats 16000000 in
theorem lives11_true (w : World) (hE : EnvL w) : Calls Tryd.prog 8 #[] w fun e w' => e = .returned (.bool true) ∧ Below w.heap.size w w' := by
  have HE := Lib.hid hE
  have HW := Lib.hid (show (((((((((w.alloc (.cells #[.int .i32 97, .int .i32 97] 63)).alloc (.cells #[.int .i64 0] 3)).alloc (.cells #[.int .i64 1] 3)).alloc (.cells #[.int .i64 2] 3)).alloc (.cells #[.int .i64 1] 3)).alloc (.cells #[.slice (some ⟨w.heap.size + 1 + 1, 0, none⟩) 1 1, .slice (some ⟨w.heap.size + 1 + 1 + 1, 0, none⟩) 1 1, .slice (some ⟨w.heap.size + 1 + 1 + 1 + 1, 0, none⟩) 1 1] 23)).alloc (.cells #[.int .i64 (-1), .int .i64 0, .int .i64 0] 3)).alloc (.cells #[.slice (some ⟨w.heap.size, 0, none⟩) 1 1, .slice (some ⟨w.heap.size + 1, 0, none⟩) 1 1, .slice (some ⟨w.heap.size + 1 + 1 + 1 + 1 + 1, 0, none⟩) 3 3, .slice (some ⟨w.heap.size + 1 + 1 + 1 + 1 + 1 + 1, 0, none⟩) 3 3] 26)).alloc (.cells #[.bool false] 4)) = lvW w from rfl)
  clear hE
  go_enter Tryd.func8, Tryd.ntmps8
  go_wp2_with fail
  rw [HW.out]
  refine (lv_new_any w).mono ?_
  rintro e w1 ⟨⟨g, rfl, hL⟩, b1⟩
  have H1 := Lib.hid hL
  have B1 := Lib.hid b1
  clear hL b1
  go_wp2_with fail
  refine (lv_tok1 g _ (HE.out.below B1.out) H1.out).mono ?_
  rintro e w2 ⟨⟨a, c, rfl, hk⟩, b2⟩
  have H2 := Lib.hid (H1.out.below b2)
  have B2 := Lib.hid (B1.out.trans (b2.mono B1.out.size))
  have K2 := Lib.hid hk
  clear b2 hk
  go_wp2_with fail
  refine (lv_tok2 g _ (HE.out.below B2.out) H2.out).mono ?_
  rintro e w3 ⟨rfl, b3⟩
  have H3 := Lib.hid (H2.out.below b3)
  have B3 := Lib.hid (B2.out.trans (b3.mono B2.out.size))
  have K3 := Lib.hid (K2.out.below b3)
  clear b3
  go_wp2_with fail
  refine (lv_tok3 g _ (HE.out.below B3.out) H3.out).mono ?_
  rintro e w4 ⟨⟨a4, c4, rfl⟩, b4⟩
  have B4 := Lib.hid (B3.out.trans (b4.mono B3.out.size))
  obtain ⟨x0, x1, x2⟩ := K3.out.below b4
  clear b4
  go_wp2_with fail
  go_ret
  exact ⟨rfl, B4.out⟩
end Go.Proofs.YtagbpkabfjnplaaDoor
