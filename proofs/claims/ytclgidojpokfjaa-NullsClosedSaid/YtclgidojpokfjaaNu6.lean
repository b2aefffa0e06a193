/- NullsClosed: what is too great; all ways. -/
import Derived.Test.YtclgidojpokfjaaNu1
namespace Go.Proofs.Ytclgidojpokfjaa
open Go Go.RowKit Nu
set_option maxRecDepth 100000

set_option maxHeartbeats 4000000 in
theorem Closed_lives (nm : ByteArray) (o1 o2 : Int) (rs : List Nu.Rl) (v : Value) (w : World) (hG : GrV w nm o1 o2 rs v) (hg5 : g5 nm rs = true) :
    Calls Try.prog 3 #[v] w fun e w' => e = .returned (.bool true) ∧ Below w.heap.size w w' := by
  have hGr := Lib.hid (fun o => (Great5_any nm o1 o2 rs v (w.alloc o) (hG.below ((Below.refl _ w).alloc (Nat.le_refl _) o))).mono (R' := fun e w' => e = .returned (.bool true) ∧ Below (w.alloc o).heap.size (w.alloc o) w') (by rintro e w' ⟨rfl, hb⟩; exact ⟨by rw [hg5], hb⟩))
  obtain ⟨ra, rc, rfl, hnm, hrc, hR⟩ := hG
  generalize rs.length = RN at *
  go_enter Try.func3, Try.ntmps3
  go_wp2_with (first
    | (go_at_call 5; refine (hGr.out _).mono ?_; rintro e w1 ⟨rfl, hb1⟩; have hB1 : Below w.heap.size w w1 := ((Below.refl _ w).alloc (Nat.le_refl _) _).trans (hb1.mono (by simp)))
    | (go_at_call 6; refine (lives_true _).mono ?_; rintro e w2 ⟨rfl, hb2⟩))
  go_ret
  exact ⟨rfl, hB1.trans (hb2.mono hB1.size)⟩
theorem Closed_any (nm : ByteArray) (o1 o2 : Int) (rs : List Nu.Rl) (v : Value) (w : World) (hG : GrV w nm o1 o2 rs v) :
    Calls Try.prog 3 #[v] w fun e w' => e = .returned (.bool true) ∧ Below w.heap.size w w' := by
  cases h : g5 nm rs with
  | true => exact Closed_lives nm o1 o2 rs v w hG h
  | false => exact Closed_many nm o1 o2 rs v w hG h
end Go.Proofs.Ytclgidojpokfjaa
