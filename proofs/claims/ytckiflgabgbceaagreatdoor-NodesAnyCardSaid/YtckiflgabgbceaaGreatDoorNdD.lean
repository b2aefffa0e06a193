/- The contracts of nodes.Count, Deep, ends; of weight and Great. -/
import Derived.Test.YtckiflgabgbceaaGreatDoorNdC
namespace Go.Proofs.YtckiflgabgbceaaGreatDoor
open Go Go.RowKit
set_option maxRecDepth 100000

theorem measure_any (t : Nd.T) (v : Value) (w : World) (hA : Nd.At w t v) (hd : Nd.deep t ≤ 100000) (hc : Nd.count t ≤ 1099511627776) :
    Calls Tryz.prog 20 #[v] w fun e w' => e = .returned (.tuple #[.int .i64 (Nd.count t), .int .i64 (Nd.deep t)]) ∧ Below w.heap.size w w' := callsIn_wide.1 (measure_in 3 (by omega) t v w hA hd hc)
set_option maxHeartbeats 400000 in
theorem Count_any (t : Nd.T) (v : Value) (w : World) (hA : Nd.At w t v) (hd : Nd.deep t ≤ 100000) (hc : Nd.count t ≤ 1099511627776) :
    Calls Tryz.prog 6 #[v] w fun e w' => e = .returned (.int .i64 (Nd.count t)) ∧ Below w.heap.size w w' := by
  have hC := fun o => measure_any t v (w.alloc o) (hA.below ((Below.refl _ w).alloc (Nat.le_refl _) o)) hd hc
  obtain ⟨sa, sc, ba, bc, rfl, _⟩ := hA.form
  generalize t.kind = sk at *
  generalize t.name = sn at *
  generalize t.text = sx at *
  generalize t.set.length = sl at *
  generalize t.subs.length = sm at *
  obtain ⟨CN, hCN⟩ : ∃ C : Int, (Nd.count t : Int) = C := ⟨_, rfl⟩
  rw [hCN] at hC ⊢
  replace hC := Lib.hid hC
  go_enter Tryz.func6, Tryz.ntmps6
  go_wp2_with (go_at_call 20; refine (hC.out _).mono ?_; rintro e w' ⟨rfl, hb⟩)
  go_ret
  exact ⟨rfl, ((Below.refl _ w).alloc (Nat.le_refl _) _).trans (hb.mono (by simp))⟩
set_option maxHeartbeats 400000 in
theorem Deep_any (t : Nd.T) (v : Value) (w : World) (hA : Nd.At w t v) (hd : Nd.deep t ≤ 100000) (hc : Nd.count t ≤ 1099511627776) :
    Calls Tryz.prog 8 #[v] w fun e w' => e = .returned (.int .i64 (Nd.deep t)) ∧ Below w.heap.size w w' := by
  have hC := fun o => measure_any t v (w.alloc o) (hA.below ((Below.refl _ w).alloc (Nat.le_refl _) o)) hd hc
  obtain ⟨sa, sc, ba, bc, rfl, _⟩ := hA.form
  generalize t.kind = sk at *
  generalize t.name = sn at *
  generalize t.text = sx at *
  generalize t.set.length = sl at *
  generalize t.subs.length = sm at *
  obtain ⟨CN, hCN⟩ : ∃ C : Int, (Nd.deep t : Int) = C := ⟨_, rfl⟩
  rw [hCN] at hC ⊢
  replace hC := Lib.hid hC
  go_enter Tryz.func8, Tryz.ntmps8
  go_wp2_with (go_at_call 20; refine (hC.out _).mono ?_; rintro e w' ⟨rfl, hb⟩)
  go_ret
  exact ⟨rfl, ((Below.refl _ w).alloc (Nat.le_refl _) _).trans (hb.mono (by simp))⟩
set_option maxHeartbeats 400000 in
theorem ends_any (t : Nd.T) (v : Value) (w : World) (hA : Nd.At w t v) (hd : Nd.deep t ≤ 100000) (hc : Nd.count t ≤ 1099511627776) :
    Calls Tryz.prog 24 #[v] w fun e w' => e = .returned (.bool true) ∧ Below w.heap.size w w' := by
  have hC := fun o => Deep_any t v (w.alloc o) (hA.below ((Below.refl _ w).alloc (Nat.le_refl _) o)) hd hc
  have hp := Nd.deep_pos t
  obtain ⟨sa, sc, ba, bc, rfl, _⟩ := hA.form
  generalize t.kind = sk at *
  generalize t.name = sn at *
  generalize t.text = sx at *
  generalize t.set.length = sl at *
  generalize t.subs.length = sm at *
  obtain ⟨CN, hCN⟩ : ∃ C : Int, (Nd.deep t : Int) = C := ⟨_, rfl⟩
  rw [hCN] at hC
  replace hC := Lib.hid hC
  have d0 : decide (0 < CN) = true := by rw [decide_eq_true_iff]; omega
  go_enter Tryz.func24, Tryz.ntmps24
  go_wp2_with (go_at_call 8; refine (hC.out _).mono ?_; rintro e w' ⟨rfl, hb⟩)
  go_ret
  exact ⟨rfl, ((Below.refl _ w).alloc (Nat.le_refl _) _).trans (hb.mono (by simp))⟩
end Go.Proofs.YtckiflgabgbceaaGreatDoor
