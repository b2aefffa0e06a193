/- The walk of ScansPlaces. -/
import Derived.Test.YtokpknjmcegkaaaDoorScS
import Derived.Test.YtokpknjmcegkaaaDoorScU
import Derived.Deep.RegionWith
namespace Go.Proofs.YtokpknjmcegkaaaDoor
open Go Go.RowKit Ru
set_option maxRecDepth 100000

theorem scanF_err : ∀ (f : Nat) (l : List UInt8) (k c p : Nat), Sc.scanF f l k = .err c p → c = 3 ∨ c = 4
  | 0, _, _, _, _, h => by
    have h : Sc.SR.ok [] = _ := h
    cases h
  | f + 1, l, k, c, p, h => by
    unfold Sc.scanF at h
    split at h
    · injection h with h _; omega
    split at h
    · cases h
    split at h
    · rename_i e he
      injection h with h _
      subst h
      exact wordR_err he
    · rename_i kd t st z _
      cases hr : Sc.scanF f (l.drop ((Sc.gapL l).1 + z)) (k + (Sc.gapL l).1 + z) with
      | err c2 p2 =>
        rw [hr] at h
        injection h with h1 h2
        subst h1 h2
        exact scanF_err f _ _ _ _ hr
      | ok ws => rw [hr] at h; cases h
theorem scanL_err {l : List UInt8} {c p : Nat} (h : Sc.scanL l = .err c p) : c = 3 ∨ c = 4 := by
  unfold Sc.scanL at h
  split at h
  · injection h with h _; omega
  split at h
  · injection h with h _; omega
  · exact scanF_err _ _ _ _ _ h
/-- The cells of the words at a slice whose parts are known. -/
theorem Words.at {w : World} {B : Nat} {A : Option Addr} {N cap : Nat} {l : List UInt8} {ds : List Sc.W} (h : Words w B (.slice A N cap) l ds) (hn : 0 < ds.length) : ∃ g, A = some ⟨g, 0, none⟩ ∧ B ≤ g ∧ g < w.heap.size ∧
    ∀ (i : Nat) d, ds[i]? = some d → ∃ sv, SetAt w B sv d.set ∧ w.cell? ⟨g, i * 6, none⟩ = some (.int .u8 d.kind) ∧ w.cell? ⟨g, i * 6 + 1, none⟩ = some (.string ⟨d.text.toArray⟩) ∧ w.cell? ⟨g, i * 6 + 2, none⟩ = some sv ∧ w.cell? ⟨g, i * 6 + 3, none⟩ = some (.int .i64 d.pos) ∧
      w.cell? ⟨g, i * 6 + 4, none⟩ = some (.int .i64 (place (l.take d.pos)).1) ∧ w.cell? ⟨g, i * 6 + 5, none⟩ = some (.int .i64 (place (l.take d.pos)).2) := by
  obtain ⟨g, cap', hv, _, hB, hg, hc⟩ := h.cells hn
  injection hv with hA _ _
  exact ⟨g, hA, hB, hg, hc⟩
theorem Places2_long (s : ByteArray) (w : World) (hE : EnvS w) (h : 2000 < (s.size : Int)) : Calls Tryd.prog 6 #[.string s] w fun e w' => e = .returned (.bool true) ∧ Below w.heap.size w w' := by
  have HE := Lib.hid hE
  clear hE
  go_enter Tryd.func6, Tryd.ntmps6
  go_wp2_with fail
  refine (lives_true _ HE.out).mono ?_
  rintro e w1 ⟨rfl, b1⟩
  go_wp2_with fail
  go_ret
  exact ⟨rfl, b1⟩
set_option maxHeartbeats 4000000 in
theorem Places2_err (s : ByteArray) (w : World) (hE : EnvS w) (hs : s.size ≤ 2000) (c p : Nat) (hp : p ≤ s.size) (hc : c = 3 ∨ c = 4)
    (CS : Calls Tryd.prog 8 #[.string s] w fun e w' => e = .returned (.tuple #[.slice none 0 0, .agg #[.int .i64 c, .int .i64 p, .int .i64 (place (s.data.toList.take p)).1, .int .i64 (place (s.data.toList.take p)).2]]) ∧ Below w.heap.size w w') :
    Calls Tryd.prog 6 #[.string s] w fun e w' => e = .returned (.bool true) ∧ Below w.heap.size w w' := by
  have HE := Lib.hid hE
  have d0 : decide ((2000 : Int) < (s.size : Int)) = false := by rw [decide_eq_false_iff_not]; omega
  have h0 : ¬ (2000 : Int) < (s.size : Int) := by omega
  have CP := fun w => Place_any s p w (by omega) p (by omega)
  obtain ⟨L, hL⟩ : ∃ L : Int, ((place (s.data.toList.take p)).1 : Int) = L := ⟨_, rfl⟩
  obtain ⟨C, hC⟩ : ∃ C : Int, ((place (s.data.toList.take p)).2 : Int) = C := ⟨_, rfl⟩
  rw [hL, hC] at CP CS
  replace CP := Lib.hid CP
  replace CS := Lib.hid CS
  have t0 : ((c : Int) != 0) = true := by rw [bne_iff_ne]; omega
  have t1 : decide (p ≤ s.size) = true := by rw [decide_eq_true_iff]; exact hp
  clear hE hL hC hc
  go_enter Tryd.func6, Tryd.ntmps6
  go_wp2_with fail
  refine CS.out.mono ?_
  rintro e w1 ⟨rfl, b1⟩
  have HB1 := Lib.hid b1
  have E1 := Lib.hid (HE.out.below b1)
  clear b1
  go_wp2_with fail
  go_region_with (first | (go_at_call 14; refine (CP.out _).mono ?_; rintro e w2 ⟨rfl, b2⟩; have b3 : Below (w1.alloc (.cells #[.int .i64 c, .int .i64 p, .int .i64 L, .int .i64 C] 28)).heap.size (w1.alloc (.cells #[.int .i64 c, .int .i64 p, .int .i64 L, .int .i64 C] 28)) w2 := ⟨b2.os, b2.tape, b2.output, b2.size, b2.block⟩; have K := (Bk.made w1 28 #[.int .i64 c, .int .i64 p, .int .i64 L, .int .i64 C]).below b3 (by simp); have k1 := K.cell 1; have k2 := K.cell 2; have k3 := K.cell 3; simp at k1 k2 k3; have HB3 := Lib.hid b3; have hbw := (HB1.out.alloc HB1.out.size (.cells #[.int .i64 c, .int .i64 p, .int .i64 L, .int .i64 C] 28)).trans (HB3.out.mono (by have := HB1.out.size; simp; omega)); clear b2 b3 K) | (go_at_call 7; refine (lives_true _ ?_).mono ?_; exact (E1.out.alloc _).below HB3.out; rintro e w5 ⟨rfl, b5⟩))
  all_goals
    go_wp2
    go_ret
    exact ⟨rfl, hbw.trans (b5.mono hbw.size)⟩
end Go.Proofs.YtokpknjmcegkaaaDoor
