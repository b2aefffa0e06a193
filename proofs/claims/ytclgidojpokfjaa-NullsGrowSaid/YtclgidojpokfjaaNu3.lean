/- NullsGrow: what is too great, no rule; all ways. -/
import Derived.Test.YtclgidojpokfjaaNu2
namespace Go.Proofs.Ytclgidojpokfjaa
open Go Go.RowKit Nu
set_option maxRecDepth 100000

set_option maxHeartbeats 4000000 in
theorem Grow_lives (nm : ByteArray) (o1 o2 : Int) (rs : List Nu.Rl) (v : Value) (at_ : Int) (w : World) (hG : GrV w nm o1 o2 rs v) (B : Bool) (hg5 : g5 nm rs = B) (hne : B = true ∨ (B = false ∧ rs.length = 0)) :
    Calls Try.prog 4 #[v, .int .u8 at_] w fun e w' => e = .returned (.bool true) ∧ Below w.heap.size w w' := by
  have hGr := Lib.hid (fun o => (Great5_any nm o1 o2 rs v (w.alloc o) (hG.below ((Below.refl _ w).alloc (Nat.le_refl _) o))).mono (R' := fun e w' => e = .returned (.bool B) ∧ Below (w.alloc o).heap.size (w.alloc o) w') (by rintro e w' ⟨rfl, hb⟩; exact ⟨by rw [hg5], hb⟩))
  obtain ⟨ra, rc, rfl, hnm, hrc, hR⟩ := hG
  obtain ⟨RN, hRN⟩ : ∃ k, rs.length = k := ⟨_, rfl⟩
  rw [hRN] at hrc hne hGr ⊢
  clear hRN hR
  rcases hne with rfl | ⟨rfl, rfl⟩
  · go_enter Try.func4, Try.ntmps4
    go_wp2_with (first
      | (go_at_call 5; refine (hGr.out _).mono ?_; rintro e w1 ⟨rfl, hb1⟩; have hB1 : Below w.heap.size w w1 := ((Below.refl _ w).alloc (Nat.le_refl _) _).trans (hb1.mono (by simp)))
      | (go_at_call 6; refine (lives_true _).mono ?_; rintro e w2 ⟨rfl, hb2⟩))
    go_ret
    exact ⟨rfl, hB1.trans (hb2.mono hB1.size)⟩
  · go_enter Try.func4, Try.ntmps4
    go_wp2_with (first
      | (go_at_call 5; refine (hGr.out _).mono ?_; rintro e w1 ⟨rfl, hb1⟩; have hB1 : Below w.heap.size w w1 := ((Below.refl _ w).alloc (Nat.le_refl _) _).trans (hb1.mono (by simp)); have gk := (Bk.made w 26 #[.string nm, .int .i64 o1, .int .i64 o2, .slice ra 0 rc]).below hb1 (by simp); have g3 := gk.cell 3; simp at g3)
      | (go_at_call 6; refine (lives_true _).mono ?_; rintro e w2 ⟨rfl, hb2⟩))
    go_ret
    exact ⟨rfl, hB1.trans (hb2.mono hB1.size)⟩
theorem Grow_any (nm : ByteArray) (o1 o2 : Int) (rs : List Nu.Rl) (v : Value) (at_ : Int) (w : World) (hG : GrV w nm o1 o2 rs v) (ha : 0 ≤ at_ ∧ at_ < 256) :
    Calls Try.prog 4 #[v, .int .u8 at_] w fun e w' => e = .returned (.bool true) ∧ Below w.heap.size w w' := by
  cases h : g5 nm rs with
  | true => exact Grow_lives nm o1 o2 rs v at_ w hG true h (.inl rfl)
  | false =>
    rcases Nat.eq_zero_or_pos rs.length with h0 | h0
    · exact Grow_lives nm o1 o2 rs v at_ w hG false h (.inr ⟨rfl, h0⟩)
    · exact Grow_many nm o1 o2 rs v at_ w hG ha h h0
end Go.Proofs.Ytclgidojpokfjaa
