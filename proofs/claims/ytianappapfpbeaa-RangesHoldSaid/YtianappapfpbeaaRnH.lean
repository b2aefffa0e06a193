/- RangesHold: all ways. -/
import Derived.Test.YtianappapfpbeaaRnL
namespace Go.Proofs.Ytianappapfpbeaa
open Go Go.RowKit Rn
set_option maxRecDepth 100000

namespace Rn
theorem anyB_two (a b : List (Int × Int)) (y : Int) : anyB [a, b] y = (hasB a y || hasB b y) := by simp [anyB]
theorem anyB_three (a b c : List (Int × Int)) (y : Int) : anyB [a, b, c] y = (hasB a y || hasB b y || hasB c y) := by simp [anyB, Bool.or_assoc]
/-- A set that was made holds just what it should, of a rune's numbers. -/
theorem Runs.at {σ : Int → Bool} {l : List (Int × Int)} (h : Runs false σ lowest l) {y : Int} (hy : -2147483648 ≤ y) : hasB l y = σ y := h.same y hy
theorem none_of {l : List (Int × Int)} (h : Runs false (fun _ => false) lowest l) : l = [] := Runs.unique _ _ _ h (fun _ _ => rfl)
end Rn
set_option maxHeartbeats 4000000 in
theorem RangesHold_lives1 (A B : Option Addr) (n m c c' : Nat) (x : Int) (w : World) (h : 60 < n) :
    Calls Try.prog 5 #[.slice A n c, .slice B m c', .int .i32 x] w fun e w' => e = .returned (.bool true) ∧ Below w.heap.size w w' := by
  have d0 : decide ((60 : Int) < (n : Int)) = true := by rw [decide_eq_true_iff]; omega
  have d1 : (60 : Int) < (n : Int) := by omega
  go_enter Try.func5, Try.ntmps5
  go_wp2_with (go_at_call 7; refine (livesRn_true _).mono ?_; rintro e w2 ⟨rfl, hb⟩)
  go_ret
  exact ⟨rfl, hb⟩
set_option maxHeartbeats 4000000 in
theorem RangesHold_lives2 (A B : Option Addr) (n m c c' : Nat) (x : Int) (w : World) (h : ¬ 60 < n) (h2 : 60 < m) :
    Calls Try.prog 5 #[.slice A n c, .slice B m c', .int .i32 x] w fun e w' => e = .returned (.bool true) ∧ Below w.heap.size w w' := by
  have d0 : decide ((60 : Int) < (n : Int)) = false := by rw [decide_eq_false_iff_not]; omega
  have d1 : decide ((60 : Int) < (m : Int)) = true := by rw [decide_eq_true_iff]; omega
  have d2 : (60 : Int) < (m : Int) := by omega
  go_enter Try.func5, Try.ntmps5
  go_wp2_with (go_at_call 7; refine (livesRn_true _).mono ?_; rintro e w2 ⟨rfl, hb⟩)
  go_ret
  exact ⟨rfl, hb⟩
set_option maxHeartbeats 8000000 in
theorem RangesHold_main (a b : List (Int × Int)) (va vb : Value) (x : Int) (w : World) (ha : RL w va a) (hb0 : RL w vb b) (hIa : I32 a) (hIb : I32 b) (hx : -2147483648 ≤ x) (h1 : ¬ 60 < a.length) (h2 : ¬ 60 < b.length) :
    Calls Try.prog 5 #[va, vb, .int .i32 x] w fun e w' => e = .returned (.bool true) ∧ Below w.heap.size w w' := by
  have ra := Lib.hid ha
  have rb := Lib.hid hb0
  have HIa := Lib.hid hIa
  have HIb := Lib.hid hIb
  have h3 : a.length ≤ 60 := by omega
  have h4 : b.length ≤ 60 := by omega
  have HA := Lib.hid h3
  have HB4 := Lib.hid h4
  have HX := Lib.hid hx
  have d0 : decide ((60 : Int) < (a.length : Int)) = false := by rw [decide_eq_false_iff_not]; omega
  have d1 : decide ((60 : Int) < (b.length : Int)) = false := by rw [decide_eq_false_iff_not]; omega
  obtain ⟨A, cA, hva, _, _⟩ := ha
  obtain ⟨B, cB, hvb, _, _⟩ := hb0
  subst hva hvb
  clear hIa hIb h1 h2 h3 h4 hx
  obtain ⟨NA, hNA⟩ : ∃ k, a.length = k := ⟨_, rfl⟩
  obtain ⟨NB, hNB⟩ : ∃ k, b.length = k := ⟨_, rfl⟩
  rw [hNA] at ra d0 HA ⊢
  rw [hNB] at rb d1 HB4 ⊢
  have HNA := Lib.hid hNA
  have HNB := Lib.hid hNB
  clear hNA hNB
  go_enter Try.func5, Try.ntmps5
  have HB := Lib.hid (Below.refl w.heap.size w)
  go_wp2_with fail
  refine (Union_any [a, b] _ _ (RLL_two ra.out rb.out) (by have := HNA.out; have := HNB.out; have := HA.out; have := HB4.out; simp only [total]; omega) (by simp) (fun l hl => by simp at hl; rcases hl with rfl | rfl; exact HIa.out; exact HIb.out)).mono ?_
  rintro e w1 ⟨vu, lu, rfl, ho, hr, hi, hn, hb⟩
  replace hb := ((Below.refl _ w).alloc (Nat.le_refl _) _).trans (hb.mono (by rw [World.size_alloc]; exact Nat.le_succ _))
  replace HB := Lib.hid (HB.out.trans (hb.mono HB.out.size))
  replace ra := Lib.hid (ra.out.below hb)
  replace rb := Lib.hid (rb.out.below hb)
  have ru := Lib.hid ho.rl
  have Ru := Lib.hid hr
  have Iu := Lib.hid hi
  have Nu := Lib.hid (show lu.length ≤ 480 from by have := HNA.out; have := HNB.out; have := HA.out; have := HB4.out; (try simp only [total] at hn); omega)
  obtain ⟨Au, Cu, hvu, _, _⟩ := ho.rl
  subst hvu
  clear ho hr hi hn
  clear hb
  go_wp2_with fail
  refine (MinusRn_any a b _ _ _ ra.out rb.out (by have := HNA.out; have := HA.out; omega) (by have := HNB.out; have := HB4.out; omega) HIa.out HIb.out).mono ?_
  rintro e w2 ⟨vm, lm, rfl, ho, hr, hi, hn, hb⟩
  replace HB := Lib.hid (HB.out.trans (hb.mono HB.out.size))
  replace ra := Lib.hid (ra.out.below hb)
  replace rb := Lib.hid (rb.out.below hb)
  replace ru := Lib.hid (ru.out.below hb)
  have rm := Lib.hid ho.rl
  have Rm := Lib.hid hr
  have Im := Lib.hid hi
  have Nm := Lib.hid (show lm.length ≤ 480 from by have := HNA.out; have := HNB.out; have := HA.out; have := HB4.out; (try simp only [total] at hn); omega)
  obtain ⟨Am, Cm, hvm, _, _⟩ := ho.rl
  subst hvm
  clear ho hr hi hn
  clear hb
  go_wp2_with fail
  refine (MinusRn_any b a _ _ _ rb.out ra.out (by have := HNB.out; have := HB4.out; omega) (by have := HNA.out; have := HA.out; omega) HIb.out HIa.out).mono ?_
  rintro e w3 ⟨vn, ln, rfl, ho, hr, hi, hn, hb⟩
  replace HB := Lib.hid (HB.out.trans (hb.mono HB.out.size))
  replace ra := Lib.hid (ra.out.below hb)
  replace rb := Lib.hid (rb.out.below hb)
  replace ru := Lib.hid (ru.out.below hb)
  replace rm := Lib.hid (rm.out.below hb)
  have rn := Lib.hid ho.rl
  have Rn := Lib.hid hr
  have In := Lib.hid hi
  have Nn := Lib.hid (show ln.length ≤ 480 from by have := HNA.out; have := HNB.out; have := HA.out; have := HB4.out; (try simp only [total] at hn); omega)
  obtain ⟨An, Cn, hvn, _, _⟩ := ho.rl
  subst hvn
  clear ho hr hi hn
  clear hb
  go_wp2_with fail
  refine (BothRn_any b a _ _ _ rb.out ra.out (by have := HNB.out; have := HB4.out; omega) (by have := HNA.out; have := HA.out; omega) HIb.out HIa.out).mono ?_
  rintro e w4 ⟨vo, lo, rfl, ho, hr, hi, hn, hb⟩
  replace HB := Lib.hid (HB.out.trans (hb.mono HB.out.size))
  replace ra := Lib.hid (ra.out.below hb)
  replace rb := Lib.hid (rb.out.below hb)
  replace ru := Lib.hid (ru.out.below hb)
  replace rm := Lib.hid (rm.out.below hb)
  replace rn := Lib.hid (rn.out.below hb)
  have ro := Lib.hid ho.rl
  have Ro := Lib.hid hr
  have Io := Lib.hid hi
  have No := Lib.hid (show lo.length ≤ 480 from by have := HNA.out; have := HNB.out; have := HA.out; have := HB4.out; (try simp only [total] at hn); omega)
  obtain ⟨Ao, Co, hvo, _, _⟩ := ho.rl
  subst hvo
  clear ho hr hi hn
  clear hb
  go_wp2_with fail
  refine (HasRn_any a _ x _ ra.out (by have := HNA.out; have := HA.out; omega)).mono ?_
  rintro e w5 ⟨rfl, hb⟩
  replace HB := Lib.hid (HB.out.trans (hb.mono HB.out.size))
  replace ra := Lib.hid (ra.out.below hb)
  replace rb := Lib.hid (rb.out.below hb)
  replace ru := Lib.hid (ru.out.below hb)
  replace rm := Lib.hid (rm.out.below hb)
  replace rn := Lib.hid (rn.out.below hb)
  replace ro := Lib.hid (ro.out.below hb)
  clear hb
  go_wp2_with fail
  refine (HasRn_any b _ x _ rb.out (by have := HNB.out; have := HB4.out; omega)).mono ?_
  rintro e w6 ⟨rfl, hb⟩
  replace HB := Lib.hid (HB.out.trans (hb.mono HB.out.size))
  replace ra := Lib.hid (ra.out.below hb)
  replace rb := Lib.hid (rb.out.below hb)
  replace ru := Lib.hid (ru.out.below hb)
  replace rm := Lib.hid (rm.out.below hb)
  replace rn := Lib.hid (rn.out.below hb)
  replace ro := Lib.hid (ro.out.below hb)
  clear hb
  have EU : hasB lu x = (hasB a x || hasB b x) := by rw [Ru.out.at HX.out, anyB_two]
  have EM : hasB lm x = (hasB a x && !hasB b x) := by rw [Rm.out.at HX.out]
  have EO : hasB lo x = (hasB a x && hasB b x) := by rw [Ro.out.at HX.out, Bool.and_comm]
  have HEU := Lib.hid EU
  have HEM := Lib.hid EM
  have HEO := Lib.hid EO
  clear EU EM EO
  generalize hasB a x = p at *
  generalize hasB b x = q at *
  go_wp2_with fail
  refine (neatRn_yes lu _ _ ru.out (by have := Nu.out; omega) Ru.out.neat Iu.out).mono ?_
  rintro e w7 ⟨rfl, hb⟩
  replace HB := Lib.hid (HB.out.trans (hb.mono HB.out.size))
  replace ra := Lib.hid (ra.out.below hb)
  replace rb := Lib.hid (rb.out.below hb)
  replace ru := Lib.hid (ru.out.below hb)
  replace rm := Lib.hid (rm.out.below hb)
  replace rn := Lib.hid (rn.out.below hb)
  replace ro := Lib.hid (ro.out.below hb)
  clear hb
  go_wp2_with fail
  refine (neatRn_yes lm _ _ rm.out (by have := Nm.out; omega) Rm.out.neat Im.out).mono ?_
  rintro e w8 ⟨rfl, hb⟩
  replace HB := Lib.hid (HB.out.trans (hb.mono HB.out.size))
  replace ra := Lib.hid (ra.out.below hb)
  replace rb := Lib.hid (rb.out.below hb)
  replace ru := Lib.hid (ru.out.below hb)
  replace rm := Lib.hid (rm.out.below hb)
  replace rn := Lib.hid (rn.out.below hb)
  replace ro := Lib.hid (ro.out.below hb)
  clear hb
  go_wp2_with fail
  refine (neatRn_yes lo _ _ ro.out (by have := No.out; omega) Ro.out.neat Io.out).mono ?_
  rintro e w9 ⟨rfl, hb⟩
  replace HB := Lib.hid (HB.out.trans (hb.mono HB.out.size))
  replace ra := Lib.hid (ra.out.below hb)
  replace rb := Lib.hid (rb.out.below hb)
  replace ru := Lib.hid (ru.out.below hb)
  replace rm := Lib.hid (rm.out.below hb)
  replace rn := Lib.hid (rn.out.below hb)
  replace ro := Lib.hid (ro.out.below hb)
  clear hb
  cases p <;> cases q
  · go_wp2_with fail
    refine (HasRn_any lu _ x _ ru.out (by have := Nu.out; omega)).mono ?_
    rintro e w10 ⟨rfl, hb⟩
    replace HB := Lib.hid (HB.out.trans (hb.mono HB.out.size))
    replace ra := Lib.hid (ra.out.below hb)
    replace rb := Lib.hid (rb.out.below hb)
    replace ru := Lib.hid (ru.out.below hb)
    replace rm := Lib.hid (rm.out.below hb)
    replace rn := Lib.hid (rn.out.below hb)
    replace ro := Lib.hid (ro.out.below hb)
    rw [show hasB lu x = false from HEU.out]
    clear hb
    go_wp2_with fail
    refine (HasRn_any lm _ x _ rm.out (by have := Nm.out; omega)).mono ?_
    rintro e w11 ⟨rfl, hb⟩
    replace HB := Lib.hid (HB.out.trans (hb.mono HB.out.size))
    replace ra := Lib.hid (ra.out.below hb)
    replace rb := Lib.hid (rb.out.below hb)
    replace ru := Lib.hid (ru.out.below hb)
    replace rm := Lib.hid (rm.out.below hb)
    replace rn := Lib.hid (rn.out.below hb)
    replace ro := Lib.hid (ro.out.below hb)
    rw [show hasB lm x = false from HEM.out]
    clear hb
    go_wp2_with fail
    refine (HasRn_any lo _ x _ ro.out (by have := No.out; omega)).mono ?_
    rintro e w12 ⟨rfl, hb⟩
    replace HB := Lib.hid (HB.out.trans (hb.mono HB.out.size))
    replace ra := Lib.hid (ra.out.below hb)
    replace rb := Lib.hid (rb.out.below hb)
    replace ru := Lib.hid (ru.out.below hb)
    replace rm := Lib.hid (rm.out.below hb)
    replace rn := Lib.hid (rn.out.below hb)
    replace ro := Lib.hid (ro.out.below hb)
    rw [show hasB lo x = false from HEO.out]
    clear hb
    go_wp2_with fail
    refine (NeatRn_any lu _ _ ru.out (by have := Nu.out; omega) Iu.out).mono ?_
    rintro e w13 ⟨vk, lk, rfl, ho, hr, hi, hn, hb⟩
    replace HB := Lib.hid (HB.out.trans (hb.mono HB.out.size))
    replace ra := Lib.hid (ra.out.below hb)
    replace rb := Lib.hid (rb.out.below hb)
    replace ru := Lib.hid (ru.out.below hb)
    replace rm := Lib.hid (rm.out.below hb)
    replace rn := Lib.hid (rn.out.below hb)
    replace ro := Lib.hid (ro.out.below hb)
    have e1 : lk = lu := Runs.unique _ _ _ hr Ru.out.self
    have rk := Lib.hid ho.rl
    subst e1
    clear ho hr hi hn
    clear hb
    go_wp2_with fail
    refine (SameRn_any lk lk _ _ _ rk.out ru.out (by have := Nu.out; omega) (by have := Nu.out; omega)).mono ?_
    rintro e w14 ⟨rfl, hb⟩
    replace HB := Lib.hid (HB.out.trans (hb.mono HB.out.size))
    replace ra := Lib.hid (ra.out.below hb)
    replace rb := Lib.hid (rb.out.below hb)
    replace ru := Lib.hid (ru.out.below hb)
    replace rm := Lib.hid (rm.out.below hb)
    replace rn := Lib.hid (rn.out.below hb)
    replace ro := Lib.hid (ro.out.below hb)
    replace rk := Lib.hid (rk.out.below hb)
    clear hb
    simp only [decide_true]
    go_wp2_with fail
    refine (Union_any [lm, ln, lo] _ _ (RLL_three rm.out rn.out ro.out) (by have := Nm.out; have := Nn.out; have := No.out; simp only [total]; omega) (by simp) (fun l hl => by simp at hl; rcases hl with rfl | rfl | rfl; exact Im.out; exact In.out; exact Io.out)).mono ?_
    rintro e w15 ⟨vj, lj, rfl, ho, hr, hi, hn, hb⟩
    replace hb := ((Below.refl _ w14).alloc (Nat.le_refl _) _).trans (hb.mono (by rw [World.size_alloc]; exact Nat.le_succ _))
    replace HB := Lib.hid (HB.out.trans (hb.mono HB.out.size))
    replace ra := Lib.hid (ra.out.below hb)
    replace rb := Lib.hid (rb.out.below hb)
    replace ru := Lib.hid (ru.out.below hb)
    replace rm := Lib.hid (rm.out.below hb)
    replace rn := Lib.hid (rn.out.below hb)
    replace ro := Lib.hid (ro.out.below hb)
    replace rk := Lib.hid (rk.out.below hb)
    have e2 : lj = lk := Runs.unique _ _ _ hr (Runs.congr _ _ (fun y hy => by rw [anyB_two, anyB_three, Rm.out.same y hy, Rn.out.same y hy, Ro.out.same y hy]; cases hasB a y <;> cases hasB b y <;> rfl) Ru.out)
    have rj := Lib.hid ho.rl
    subst e2
    clear ho hr hi hn
    clear hb
    go_wp2_with fail
    refine (SameRn_any lj lj _ _ _ rj.out ru.out (by have := Nu.out; omega) (by have := Nu.out; omega)).mono ?_
    rintro e w16 ⟨rfl, hb⟩
    replace HB := Lib.hid (HB.out.trans (hb.mono HB.out.size))
    replace ra := Lib.hid (ra.out.below hb)
    replace rb := Lib.hid (rb.out.below hb)
    replace ru := Lib.hid (ru.out.below hb)
    replace rm := Lib.hid (rm.out.below hb)
    replace rn := Lib.hid (rn.out.below hb)
    replace ro := Lib.hid (ro.out.below hb)
    replace rk := Lib.hid (rk.out.below hb)
    replace rj := Lib.hid (rj.out.below hb)
    clear hb
    simp only [decide_true]
    go_wp2_with fail
    refine (BothRn_any lm b _ _ _ rm.out rb.out (by have := Nm.out; omega) (by have := HNB.out; have := HB4.out; omega) Im.out HIb.out).mono ?_
    rintro e w17 ⟨vz, lz, rfl, ho, hr, hi, hn, hb⟩
    replace HB := Lib.hid (HB.out.trans (hb.mono HB.out.size))
    replace ra := Lib.hid (ra.out.below hb)
    replace rb := Lib.hid (rb.out.below hb)
    replace ru := Lib.hid (ru.out.below hb)
    replace rm := Lib.hid (rm.out.below hb)
    replace rn := Lib.hid (rn.out.below hb)
    replace ro := Lib.hid (ro.out.below hb)
    replace rk := Lib.hid (rk.out.below hb)
    replace rj := Lib.hid (rj.out.below hb)
    have e3 : lz = [] := none_of (Runs.congr _ _ (fun y hy => by rw [Rm.out.same y hy]; cases hasB a y <;> cases hasB b y <;> rfl) hr)
    obtain ⟨Az, Cz, hvz, _, _⟩ := ho.rl
    subst e3
    subst hvz
    clear ho hr hi hn
    clear hb
    simp only [List.length_nil]
    go_wp2_with fail
    refine (livesRn_true _).mono ?_
    rintro e w18 ⟨rfl, hb⟩
    replace HB := Lib.hid (HB.out.trans (hb.mono HB.out.size))
    replace ra := Lib.hid (ra.out.below hb)
    replace rb := Lib.hid (rb.out.below hb)
    replace ru := Lib.hid (ru.out.below hb)
    replace rm := Lib.hid (rm.out.below hb)
    replace rn := Lib.hid (rn.out.below hb)
    replace ro := Lib.hid (ro.out.below hb)
    replace rk := Lib.hid (rk.out.below hb)
    replace rj := Lib.hid (rj.out.below hb)
    clear hb
    go_wp2_with fail
    go_ret
    exact ⟨rfl, HB.out⟩
  · go_wp2_with fail
    refine (HasRn_any lu _ x _ ru.out (by have := Nu.out; omega)).mono ?_
    rintro e w10 ⟨rfl, hb⟩
    replace HB := Lib.hid (HB.out.trans (hb.mono HB.out.size))
    replace ra := Lib.hid (ra.out.below hb)
    replace rb := Lib.hid (rb.out.below hb)
    replace ru := Lib.hid (ru.out.below hb)
    replace rm := Lib.hid (rm.out.below hb)
    replace rn := Lib.hid (rn.out.below hb)
    replace ro := Lib.hid (ro.out.below hb)
    rw [show hasB lu x = true from HEU.out]
    clear hb
    go_wp2_with fail
    refine (HasRn_any lm _ x _ rm.out (by have := Nm.out; omega)).mono ?_
    rintro e w11 ⟨rfl, hb⟩
    replace HB := Lib.hid (HB.out.trans (hb.mono HB.out.size))
    replace ra := Lib.hid (ra.out.below hb)
    replace rb := Lib.hid (rb.out.below hb)
    replace ru := Lib.hid (ru.out.below hb)
    replace rm := Lib.hid (rm.out.below hb)
    replace rn := Lib.hid (rn.out.below hb)
    replace ro := Lib.hid (ro.out.below hb)
    rw [show hasB lm x = false from HEM.out]
    clear hb
    go_wp2_with fail
    refine (HasRn_any lo _ x _ ro.out (by have := No.out; omega)).mono ?_
    rintro e w12 ⟨rfl, hb⟩
    replace HB := Lib.hid (HB.out.trans (hb.mono HB.out.size))
    replace ra := Lib.hid (ra.out.below hb)
    replace rb := Lib.hid (rb.out.below hb)
    replace ru := Lib.hid (ru.out.below hb)
    replace rm := Lib.hid (rm.out.below hb)
    replace rn := Lib.hid (rn.out.below hb)
    replace ro := Lib.hid (ro.out.below hb)
    rw [show hasB lo x = false from HEO.out]
    clear hb
    go_wp2_with fail
    refine (NeatRn_any lu _ _ ru.out (by have := Nu.out; omega) Iu.out).mono ?_
    rintro e w13 ⟨vk, lk, rfl, ho, hr, hi, hn, hb⟩
    replace HB := Lib.hid (HB.out.trans (hb.mono HB.out.size))
    replace ra := Lib.hid (ra.out.below hb)
    replace rb := Lib.hid (rb.out.below hb)
    replace ru := Lib.hid (ru.out.below hb)
    replace rm := Lib.hid (rm.out.below hb)
    replace rn := Lib.hid (rn.out.below hb)
    replace ro := Lib.hid (ro.out.below hb)
    have e1 : lk = lu := Runs.unique _ _ _ hr Ru.out.self
    have rk := Lib.hid ho.rl
    subst e1
    clear ho hr hi hn
    clear hb
    go_wp2_with fail
    refine (SameRn_any lk lk _ _ _ rk.out ru.out (by have := Nu.out; omega) (by have := Nu.out; omega)).mono ?_
    rintro e w14 ⟨rfl, hb⟩
    replace HB := Lib.hid (HB.out.trans (hb.mono HB.out.size))
    replace ra := Lib.hid (ra.out.below hb)
    replace rb := Lib.hid (rb.out.below hb)
    replace ru := Lib.hid (ru.out.below hb)
    replace rm := Lib.hid (rm.out.below hb)
    replace rn := Lib.hid (rn.out.below hb)
    replace ro := Lib.hid (ro.out.below hb)
    replace rk := Lib.hid (rk.out.below hb)
    clear hb
    simp only [decide_true]
    go_wp2_with fail
    refine (Union_any [lm, ln, lo] _ _ (RLL_three rm.out rn.out ro.out) (by have := Nm.out; have := Nn.out; have := No.out; simp only [total]; omega) (by simp) (fun l hl => by simp at hl; rcases hl with rfl | rfl | rfl; exact Im.out; exact In.out; exact Io.out)).mono ?_
    rintro e w15 ⟨vj, lj, rfl, ho, hr, hi, hn, hb⟩
    replace hb := ((Below.refl _ w14).alloc (Nat.le_refl _) _).trans (hb.mono (by rw [World.size_alloc]; exact Nat.le_succ _))
    replace HB := Lib.hid (HB.out.trans (hb.mono HB.out.size))
    replace ra := Lib.hid (ra.out.below hb)
    replace rb := Lib.hid (rb.out.below hb)
    replace ru := Lib.hid (ru.out.below hb)
    replace rm := Lib.hid (rm.out.below hb)
    replace rn := Lib.hid (rn.out.below hb)
    replace ro := Lib.hid (ro.out.below hb)
    replace rk := Lib.hid (rk.out.below hb)
    have e2 : lj = lk := Runs.unique _ _ _ hr (Runs.congr _ _ (fun y hy => by rw [anyB_two, anyB_three, Rm.out.same y hy, Rn.out.same y hy, Ro.out.same y hy]; cases hasB a y <;> cases hasB b y <;> rfl) Ru.out)
    have rj := Lib.hid ho.rl
    subst e2
    clear ho hr hi hn
    clear hb
    go_wp2_with fail
    refine (SameRn_any lj lj _ _ _ rj.out ru.out (by have := Nu.out; omega) (by have := Nu.out; omega)).mono ?_
    rintro e w16 ⟨rfl, hb⟩
    replace HB := Lib.hid (HB.out.trans (hb.mono HB.out.size))
    replace ra := Lib.hid (ra.out.below hb)
    replace rb := Lib.hid (rb.out.below hb)
    replace ru := Lib.hid (ru.out.below hb)
    replace rm := Lib.hid (rm.out.below hb)
    replace rn := Lib.hid (rn.out.below hb)
    replace ro := Lib.hid (ro.out.below hb)
    replace rk := Lib.hid (rk.out.below hb)
    replace rj := Lib.hid (rj.out.below hb)
    clear hb
    simp only [decide_true]
    go_wp2_with fail
    refine (BothRn_any lm b _ _ _ rm.out rb.out (by have := Nm.out; omega) (by have := HNB.out; have := HB4.out; omega) Im.out HIb.out).mono ?_
    rintro e w17 ⟨vz, lz, rfl, ho, hr, hi, hn, hb⟩
    replace HB := Lib.hid (HB.out.trans (hb.mono HB.out.size))
    replace ra := Lib.hid (ra.out.below hb)
    replace rb := Lib.hid (rb.out.below hb)
    replace ru := Lib.hid (ru.out.below hb)
    replace rm := Lib.hid (rm.out.below hb)
    replace rn := Lib.hid (rn.out.below hb)
    replace ro := Lib.hid (ro.out.below hb)
    replace rk := Lib.hid (rk.out.below hb)
    replace rj := Lib.hid (rj.out.below hb)
    have e3 : lz = [] := none_of (Runs.congr _ _ (fun y hy => by rw [Rm.out.same y hy]; cases hasB a y <;> cases hasB b y <;> rfl) hr)
    obtain ⟨Az, Cz, hvz, _, _⟩ := ho.rl
    subst e3
    subst hvz
    clear ho hr hi hn
    clear hb
    simp only [List.length_nil]
    go_wp2_with fail
    refine (livesRn_true _).mono ?_
    rintro e w18 ⟨rfl, hb⟩
    replace HB := Lib.hid (HB.out.trans (hb.mono HB.out.size))
    replace ra := Lib.hid (ra.out.below hb)
    replace rb := Lib.hid (rb.out.below hb)
    replace ru := Lib.hid (ru.out.below hb)
    replace rm := Lib.hid (rm.out.below hb)
    replace rn := Lib.hid (rn.out.below hb)
    replace ro := Lib.hid (ro.out.below hb)
    replace rk := Lib.hid (rk.out.below hb)
    replace rj := Lib.hid (rj.out.below hb)
    clear hb
    go_wp2_with fail
    go_ret
    exact ⟨rfl, HB.out⟩
  · go_wp2_with fail
    refine (HasRn_any lu _ x _ ru.out (by have := Nu.out; omega)).mono ?_
    rintro e w10 ⟨rfl, hb⟩
    replace HB := Lib.hid (HB.out.trans (hb.mono HB.out.size))
    replace ra := Lib.hid (ra.out.below hb)
    replace rb := Lib.hid (rb.out.below hb)
    replace ru := Lib.hid (ru.out.below hb)
    replace rm := Lib.hid (rm.out.below hb)
    replace rn := Lib.hid (rn.out.below hb)
    replace ro := Lib.hid (ro.out.below hb)
    rw [show hasB lu x = true from HEU.out]
    clear hb
    go_wp2_with fail
    refine (HasRn_any lm _ x _ rm.out (by have := Nm.out; omega)).mono ?_
    rintro e w11 ⟨rfl, hb⟩
    replace HB := Lib.hid (HB.out.trans (hb.mono HB.out.size))
    replace ra := Lib.hid (ra.out.below hb)
    replace rb := Lib.hid (rb.out.below hb)
    replace ru := Lib.hid (ru.out.below hb)
    replace rm := Lib.hid (rm.out.below hb)
    replace rn := Lib.hid (rn.out.below hb)
    replace ro := Lib.hid (ro.out.below hb)
    rw [show hasB lm x = true from HEM.out]
    clear hb
    go_wp2_with fail
    refine (HasRn_any lo _ x _ ro.out (by have := No.out; omega)).mono ?_
    rintro e w12 ⟨rfl, hb⟩
    replace HB := Lib.hid (HB.out.trans (hb.mono HB.out.size))
    replace ra := Lib.hid (ra.out.below hb)
    replace rb := Lib.hid (rb.out.below hb)
    replace ru := Lib.hid (ru.out.below hb)
    replace rm := Lib.hid (rm.out.below hb)
    replace rn := Lib.hid (rn.out.below hb)
    replace ro := Lib.hid (ro.out.below hb)
    rw [show hasB lo x = false from HEO.out]
    clear hb
    go_wp2_with fail
    refine (NeatRn_any lu _ _ ru.out (by have := Nu.out; omega) Iu.out).mono ?_
    rintro e w13 ⟨vk, lk, rfl, ho, hr, hi, hn, hb⟩
    replace HB := Lib.hid (HB.out.trans (hb.mono HB.out.size))
    replace ra := Lib.hid (ra.out.below hb)
    replace rb := Lib.hid (rb.out.below hb)
    replace ru := Lib.hid (ru.out.below hb)
    replace rm := Lib.hid (rm.out.below hb)
    replace rn := Lib.hid (rn.out.below hb)
    replace ro := Lib.hid (ro.out.below hb)
    have e1 : lk = lu := Runs.unique _ _ _ hr Ru.out.self
    have rk := Lib.hid ho.rl
    subst e1
    clear ho hr hi hn
    clear hb
    go_wp2_with fail
    refine (SameRn_any lk lk _ _ _ rk.out ru.out (by have := Nu.out; omega) (by have := Nu.out; omega)).mono ?_
    rintro e w14 ⟨rfl, hb⟩
    replace HB := Lib.hid (HB.out.trans (hb.mono HB.out.size))
    replace ra := Lib.hid (ra.out.below hb)
    replace rb := Lib.hid (rb.out.below hb)
    replace ru := Lib.hid (ru.out.below hb)
    replace rm := Lib.hid (rm.out.below hb)
    replace rn := Lib.hid (rn.out.below hb)
    replace ro := Lib.hid (ro.out.below hb)
    replace rk := Lib.hid (rk.out.below hb)
    clear hb
    simp only [decide_true]
    go_wp2_with fail
    refine (Union_any [lm, ln, lo] _ _ (RLL_three rm.out rn.out ro.out) (by have := Nm.out; have := Nn.out; have := No.out; simp only [total]; omega) (by simp) (fun l hl => by simp at hl; rcases hl with rfl | rfl | rfl; exact Im.out; exact In.out; exact Io.out)).mono ?_
    rintro e w15 ⟨vj, lj, rfl, ho, hr, hi, hn, hb⟩
    replace hb := ((Below.refl _ w14).alloc (Nat.le_refl _) _).trans (hb.mono (by rw [World.size_alloc]; exact Nat.le_succ _))
    replace HB := Lib.hid (HB.out.trans (hb.mono HB.out.size))
    replace ra := Lib.hid (ra.out.below hb)
    replace rb := Lib.hid (rb.out.below hb)
    replace ru := Lib.hid (ru.out.below hb)
    replace rm := Lib.hid (rm.out.below hb)
    replace rn := Lib.hid (rn.out.below hb)
    replace ro := Lib.hid (ro.out.below hb)
    replace rk := Lib.hid (rk.out.below hb)
    have e2 : lj = lk := Runs.unique _ _ _ hr (Runs.congr _ _ (fun y hy => by rw [anyB_two, anyB_three, Rm.out.same y hy, Rn.out.same y hy, Ro.out.same y hy]; cases hasB a y <;> cases hasB b y <;> rfl) Ru.out)
    have rj := Lib.hid ho.rl
    subst e2
    clear ho hr hi hn
    clear hb
    go_wp2_with fail
    refine (SameRn_any lj lj _ _ _ rj.out ru.out (by have := Nu.out; omega) (by have := Nu.out; omega)).mono ?_
    rintro e w16 ⟨rfl, hb⟩
    replace HB := Lib.hid (HB.out.trans (hb.mono HB.out.size))
    replace ra := Lib.hid (ra.out.below hb)
    replace rb := Lib.hid (rb.out.below hb)
    replace ru := Lib.hid (ru.out.below hb)
    replace rm := Lib.hid (rm.out.below hb)
    replace rn := Lib.hid (rn.out.below hb)
    replace ro := Lib.hid (ro.out.below hb)
    replace rk := Lib.hid (rk.out.below hb)
    replace rj := Lib.hid (rj.out.below hb)
    clear hb
    simp only [decide_true]
    go_wp2_with fail
    refine (BothRn_any lm b _ _ _ rm.out rb.out (by have := Nm.out; omega) (by have := HNB.out; have := HB4.out; omega) Im.out HIb.out).mono ?_
    rintro e w17 ⟨vz, lz, rfl, ho, hr, hi, hn, hb⟩
    replace HB := Lib.hid (HB.out.trans (hb.mono HB.out.size))
    replace ra := Lib.hid (ra.out.below hb)
    replace rb := Lib.hid (rb.out.below hb)
    replace ru := Lib.hid (ru.out.below hb)
    replace rm := Lib.hid (rm.out.below hb)
    replace rn := Lib.hid (rn.out.below hb)
    replace ro := Lib.hid (ro.out.below hb)
    replace rk := Lib.hid (rk.out.below hb)
    replace rj := Lib.hid (rj.out.below hb)
    have e3 : lz = [] := none_of (Runs.congr _ _ (fun y hy => by rw [Rm.out.same y hy]; cases hasB a y <;> cases hasB b y <;> rfl) hr)
    obtain ⟨Az, Cz, hvz, _, _⟩ := ho.rl
    subst e3
    subst hvz
    clear ho hr hi hn
    clear hb
    simp only [List.length_nil]
    go_wp2_with fail
    refine (livesRn_true _).mono ?_
    rintro e w18 ⟨rfl, hb⟩
    replace HB := Lib.hid (HB.out.trans (hb.mono HB.out.size))
    replace ra := Lib.hid (ra.out.below hb)
    replace rb := Lib.hid (rb.out.below hb)
    replace ru := Lib.hid (ru.out.below hb)
    replace rm := Lib.hid (rm.out.below hb)
    replace rn := Lib.hid (rn.out.below hb)
    replace ro := Lib.hid (ro.out.below hb)
    replace rk := Lib.hid (rk.out.below hb)
    replace rj := Lib.hid (rj.out.below hb)
    clear hb
    go_wp2_with fail
    go_ret
    exact ⟨rfl, HB.out⟩
  · go_wp2_with fail
    refine (HasRn_any lu _ x _ ru.out (by have := Nu.out; omega)).mono ?_
    rintro e w10 ⟨rfl, hb⟩
    replace HB := Lib.hid (HB.out.trans (hb.mono HB.out.size))
    replace ra := Lib.hid (ra.out.below hb)
    replace rb := Lib.hid (rb.out.below hb)
    replace ru := Lib.hid (ru.out.below hb)
    replace rm := Lib.hid (rm.out.below hb)
    replace rn := Lib.hid (rn.out.below hb)
    replace ro := Lib.hid (ro.out.below hb)
    rw [show hasB lu x = true from HEU.out]
    clear hb
    go_wp2_with fail
    refine (HasRn_any lm _ x _ rm.out (by have := Nm.out; omega)).mono ?_
    rintro e w11 ⟨rfl, hb⟩
    replace HB := Lib.hid (HB.out.trans (hb.mono HB.out.size))
    replace ra := Lib.hid (ra.out.below hb)
    replace rb := Lib.hid (rb.out.below hb)
    replace ru := Lib.hid (ru.out.below hb)
    replace rm := Lib.hid (rm.out.below hb)
    replace rn := Lib.hid (rn.out.below hb)
    replace ro := Lib.hid (ro.out.below hb)
    rw [show hasB lm x = false from HEM.out]
    clear hb
    go_wp2_with fail
    refine (HasRn_any lo _ x _ ro.out (by have := No.out; omega)).mono ?_
    rintro e w12 ⟨rfl, hb⟩
    replace HB := Lib.hid (HB.out.trans (hb.mono HB.out.size))
    replace ra := Lib.hid (ra.out.below hb)
    replace rb := Lib.hid (rb.out.below hb)
    replace ru := Lib.hid (ru.out.below hb)
    replace rm := Lib.hid (rm.out.below hb)
    replace rn := Lib.hid (rn.out.below hb)
    replace ro := Lib.hid (ro.out.below hb)
    rw [show hasB lo x = true from HEO.out]
    clear hb
    go_wp2_with fail
    refine (NeatRn_any lu _ _ ru.out (by have := Nu.out; omega) Iu.out).mono ?_
    rintro e w13 ⟨vk, lk, rfl, ho, hr, hi, hn, hb⟩
    replace HB := Lib.hid (HB.out.trans (hb.mono HB.out.size))
    replace ra := Lib.hid (ra.out.below hb)
    replace rb := Lib.hid (rb.out.below hb)
    replace ru := Lib.hid (ru.out.below hb)
    replace rm := Lib.hid (rm.out.below hb)
    replace rn := Lib.hid (rn.out.below hb)
    replace ro := Lib.hid (ro.out.below hb)
    have e1 : lk = lu := Runs.unique _ _ _ hr Ru.out.self
    have rk := Lib.hid ho.rl
    subst e1
    clear ho hr hi hn
    clear hb
    go_wp2_with fail
    refine (SameRn_any lk lk _ _ _ rk.out ru.out (by have := Nu.out; omega) (by have := Nu.out; omega)).mono ?_
    rintro e w14 ⟨rfl, hb⟩
    replace HB := Lib.hid (HB.out.trans (hb.mono HB.out.size))
    replace ra := Lib.hid (ra.out.below hb)
    replace rb := Lib.hid (rb.out.below hb)
    replace ru := Lib.hid (ru.out.below hb)
    replace rm := Lib.hid (rm.out.below hb)
    replace rn := Lib.hid (rn.out.below hb)
    replace ro := Lib.hid (ro.out.below hb)
    replace rk := Lib.hid (rk.out.below hb)
    clear hb
    simp only [decide_true]
    go_wp2_with fail
    refine (Union_any [lm, ln, lo] _ _ (RLL_three rm.out rn.out ro.out) (by have := Nm.out; have := Nn.out; have := No.out; simp only [total]; omega) (by simp) (fun l hl => by simp at hl; rcases hl with rfl | rfl | rfl; exact Im.out; exact In.out; exact Io.out)).mono ?_
    rintro e w15 ⟨vj, lj, rfl, ho, hr, hi, hn, hb⟩
    replace hb := ((Below.refl _ w14).alloc (Nat.le_refl _) _).trans (hb.mono (by rw [World.size_alloc]; exact Nat.le_succ _))
    replace HB := Lib.hid (HB.out.trans (hb.mono HB.out.size))
    replace ra := Lib.hid (ra.out.below hb)
    replace rb := Lib.hid (rb.out.below hb)
    replace ru := Lib.hid (ru.out.below hb)
    replace rm := Lib.hid (rm.out.below hb)
    replace rn := Lib.hid (rn.out.below hb)
    replace ro := Lib.hid (ro.out.below hb)
    replace rk := Lib.hid (rk.out.below hb)
    have e2 : lj = lk := Runs.unique _ _ _ hr (Runs.congr _ _ (fun y hy => by rw [anyB_two, anyB_three, Rm.out.same y hy, Rn.out.same y hy, Ro.out.same y hy]; cases hasB a y <;> cases hasB b y <;> rfl) Ru.out)
    have rj := Lib.hid ho.rl
    subst e2
    clear ho hr hi hn
    clear hb
    go_wp2_with fail
    refine (SameRn_any lj lj _ _ _ rj.out ru.out (by have := Nu.out; omega) (by have := Nu.out; omega)).mono ?_
    rintro e w16 ⟨rfl, hb⟩
    replace HB := Lib.hid (HB.out.trans (hb.mono HB.out.size))
    replace ra := Lib.hid (ra.out.below hb)
    replace rb := Lib.hid (rb.out.below hb)
    replace ru := Lib.hid (ru.out.below hb)
    replace rm := Lib.hid (rm.out.below hb)
    replace rn := Lib.hid (rn.out.below hb)
    replace ro := Lib.hid (ro.out.below hb)
    replace rk := Lib.hid (rk.out.below hb)
    replace rj := Lib.hid (rj.out.below hb)
    clear hb
    simp only [decide_true]
    go_wp2_with fail
    refine (BothRn_any lm b _ _ _ rm.out rb.out (by have := Nm.out; omega) (by have := HNB.out; have := HB4.out; omega) Im.out HIb.out).mono ?_
    rintro e w17 ⟨vz, lz, rfl, ho, hr, hi, hn, hb⟩
    replace HB := Lib.hid (HB.out.trans (hb.mono HB.out.size))
    replace ra := Lib.hid (ra.out.below hb)
    replace rb := Lib.hid (rb.out.below hb)
    replace ru := Lib.hid (ru.out.below hb)
    replace rm := Lib.hid (rm.out.below hb)
    replace rn := Lib.hid (rn.out.below hb)
    replace ro := Lib.hid (ro.out.below hb)
    replace rk := Lib.hid (rk.out.below hb)
    replace rj := Lib.hid (rj.out.below hb)
    have e3 : lz = [] := none_of (Runs.congr _ _ (fun y hy => by rw [Rm.out.same y hy]; cases hasB a y <;> cases hasB b y <;> rfl) hr)
    obtain ⟨Az, Cz, hvz, _, _⟩ := ho.rl
    subst e3
    subst hvz
    clear ho hr hi hn
    clear hb
    simp only [List.length_nil]
    go_wp2_with fail
    refine (livesRn_true _).mono ?_
    rintro e w18 ⟨rfl, hb⟩
    replace HB := Lib.hid (HB.out.trans (hb.mono HB.out.size))
    replace ra := Lib.hid (ra.out.below hb)
    replace rb := Lib.hid (rb.out.below hb)
    replace ru := Lib.hid (ru.out.below hb)
    replace rm := Lib.hid (rm.out.below hb)
    replace rn := Lib.hid (rn.out.below hb)
    replace ro := Lib.hid (ro.out.below hb)
    replace rk := Lib.hid (rk.out.below hb)
    replace rj := Lib.hid (rj.out.below hb)
    clear hb
    go_wp2_with fail
    go_ret
    exact ⟨rfl, HB.out⟩
theorem RangesHold_any (a b : List (Int × Int)) (va vb : Value) (x : Int) (w : World) (ha : RL w va a) (hb : RL w vb b) (hIa : I32 a) (hIb : I32 b) (hx : -2147483648 ≤ x) :
    Calls Try.prog 5 #[va, vb, .int .i32 x] w fun e w' => e = .returned (.bool true) ∧ Below w.heap.size w w' := by
  by_cases h1 : 60 < a.length
  · obtain ⟨A, cA, rfl, _, _⟩ := ha
    obtain ⟨B, cB, rfl, _, _⟩ := hb
    exact RangesHold_lives1 A B _ _ cA cB x w h1
  by_cases h2 : 60 < b.length
  · obtain ⟨A, cA, rfl, _, _⟩ := ha
    obtain ⟨B, cB, rfl, _, _⟩ := hb
    exact RangesHold_lives2 A B _ _ cA cB x w h1 h2
  exact RangesHold_main a b va vb x w ha hb hIa hIb hx h1 h2
end Go.Proofs.Ytianappapfpbeaa
