/- RangesTwo: all ways. -/
import Derived.Test.YtianappapfpbeaaRnW
import Derived.Test.YtianappapfpbeaaRnT
import Derived.Test.YtianappapfpbeaaR2b
namespace Go.Proofs.Ytianappapfpbeaa
open Go Go.RowKit Rn
set_option maxRecDepth 100000

namespace Rn
theorem TwV.blk {w : World} {B : Nat} {v : Value} {l : List (Int × Int)} (h : TwV w B v l) : ∀ k, v.ownBlock = some k → B ≤ k ∧ k < w.heap.size := by
  obtain ⟨g, cap, cur, rfl, h2, h3, _⟩ := h
  intro k hk
  obtain rfl : g = k := by simpa [Value.ownBlock] using hk
  exact ⟨h2, (Array.getElem?_eq_some_iff.1 h3).1⟩
theorem Hld.blk {w : World} {B : Nat} {v : Value} {l : List (Int × Int)} (h : Hld w B v l) : ∀ k, v.ownBlock = some k → B ≤ k ∧ k < w.heap.size := by
  rcases h with ⟨rfl, _⟩ | ⟨g, cap, cur, rfl, h2, h3, _⟩
  · intro k hk
    simp [Value.ownBlock] at hk
  · intro k hk
    obtain rfl : g = k := by simpa [Value.ownBlock] using hk
    exact ⟨h2, (Array.getElem?_eq_some_iff.1 h3).1⟩
/-- Each list of these lies behind the one before. -/
def Ladder : Nat → List Value → Nat → Prop
  | lo, [], hi => lo ≤ hi
  | lo, v :: r, hi => ∃ a b, lo ≤ a ∧ a ≤ b ∧ (∀ k, v.ownBlock = some k → a ≤ k ∧ k < b) ∧ Ladder b r hi
theorem Ladder.le : ∀ {lo hi : Nat} (vs : List Value), Ladder lo vs hi → lo ≤ hi
  | _, _, [], h => h
  | _, _, _ :: r, ⟨_, _, h1, h2, _, h3⟩ => by
    have := Ladder.le r h3
    omega
theorem Ladder.lies : ∀ {lo hi : Nat} (vs : List Value), Ladder lo vs hi → ∀ (j : Nat) (v : Value) (k : Nat), vs[j]? = some v → v.ownBlock = some k → lo ≤ k ∧ k < hi
  | _, _, [], _, j, v, k, h, _ => by simp at h
  | _, _, u :: r, ⟨a, b, h1, h2, h3, h4⟩, 0, v, k, h, hk => by
    obtain rfl : u = v := by simpa using h
    have := h3 k hk
    have := h4.le
    omega
  | _, _, u :: r, ⟨a, b, h1, h2, h3, h4⟩, j + 1, v, k, h, hk => by
    have := Ladder.lies r h4 j v k (by simpa using h) hk
    omega
theorem Ladder.apart : ∀ {lo hi : Nat} (vs : List Value), Ladder lo vs hi → ∀ (i j : Nat) (v u : Value) (k : Nat), i ≠ j → vs[i]? = some v → vs[j]? = some u → v.ownBlock = some k → u.ownBlock ≠ some k
  | _, _, [], _, i, j, v, u, k, _, h, _, _ => by simp at h
  | _, _, x :: r, ⟨a, b, h1, h2, h3, h4⟩, 0, 0, v, u, k, hne, _, _, _ => absurd rfl hne
  | _, _, x :: r, ⟨a, b, h1, h2, h3, h4⟩, 0, j + 1, v, u, k, _, hv, hu, hk => fun hk2 => by
    obtain rfl : x = v := by simpa using hv
    have := h3 k hk
    have := Ladder.lies r h4 j u k (by simpa using hu) hk2
    omega
  | _, _, x :: r, ⟨a, b, h1, h2, h3, h4⟩, i + 1, 0, v, u, k, _, hv, hu, hk => fun hk2 => by
    obtain rfl : x = u := by simpa using hu
    have := h3 k hk2
    have := Ladder.lies r h4 i v k (by simpa using hv) hk
    omega
  | _, _, x :: r, ⟨a, b, h1, h2, h3, h4⟩, i + 1, j + 1, v, u, k, hne, hv, hu, hk => Ladder.apart r h4 i j v u k (by omega) (by simpa using hv) (by simpa using hu) hk
theorem Ladder.apd {lo hi : Nat} {vs : List Value} (h : Ladder lo vs hi) : ApD lo hi vs := ⟨h.lies, h.apart⟩
end Rn
set_option maxHeartbeats 4000000 in
theorem RangesTwo_lives1 (A B : Option Addr) (n m c c' : Nat) (w : World) (h : 60 < n) :
    Calls Try.prog 3 #[.slice A n c, .slice B m c'] w fun e w' => e = .returned (.bool true) ∧ Below w.heap.size w w' := by
  have d0 : decide ((60 : Int) < (n : Int)) = true := by rw [decide_eq_true_iff]; omega
  have d1 : (60 : Int) < (n : Int) := by omega
  go_enter Try.func3, Try.ntmps3
  go_wp2_with (go_at_call 7; refine (livesRn_true _).mono ?_; rintro e w2 ⟨rfl, hb⟩)
  go_ret
  exact ⟨rfl, hb⟩
set_option maxHeartbeats 4000000 in
theorem RangesTwo_lives2 (A B : Option Addr) (n m c c' : Nat) (w : World) (h : ¬ 60 < n) (h2 : 60 < m) :
    Calls Try.prog 3 #[.slice A n c, .slice B m c'] w fun e w' => e = .returned (.bool true) ∧ Below w.heap.size w w' := by
  have d0 : decide ((60 : Int) < (n : Int)) = false := by rw [decide_eq_false_iff_not]; omega
  have d1 : decide ((60 : Int) < (m : Int)) = true := by rw [decide_eq_true_iff]; omega
  have d2 : (60 : Int) < (m : Int) := by omega
  go_enter Try.func3, Try.ntmps3
  go_wp2_with (go_at_call 7; refine (livesRn_true _).mono ?_; rintro e w2 ⟨rfl, hb⟩)
  go_ret
  exact ⟨rfl, hb⟩
set_option maxHeartbeats 16000000 in
theorem RangesTwo_main (a b : List (Int × Int)) (va vb : Value) (w : World) (ha : RL w va a) (hb0 : RL w vb b) (hIa : I32 a) (hIb : I32 b) (hza : ∀ n c, va = .slice none n c → c = 0) (hzb : ∀ n c, vb = .slice none n c → c = 0) (h1 : ¬ 60 < a.length) (h2 : ¬ 60 < b.length) :
    Calls Try.prog 3 #[va, vb] w fun e w' => e = .returned (.bool true) ∧ Below w.heap.size w w' := by
  have ra := Lib.hid ha
  have rb := Lib.hid hb0
  have HIa := Lib.hid hIa
  have HIb := Lib.hid hIb
  have h3 : a.length ≤ 60 := by omega
  have h4 : b.length ≤ 60 := by omega
  have HA := Lib.hid h3
  have HB4 := Lib.hid h4
  have d0 : decide ((60 : Int) < (a.length : Int)) = false := by rw [decide_eq_false_iff_not]; omega
  have d1 : decide ((60 : Int) < (b.length : Int)) = false := by rw [decide_eq_false_iff_not]; omega
  obtain ⟨A, cA, hva, _, _⟩ := ha
  obtain ⟨B, cB, hvb, _, _⟩ := hb0
  subst hva hvb
  have HZA := Lib.hid hza
  have HZB := Lib.hid hzb
  clear hIa hIb h1 h2 h3 h4 hza hzb
  obtain ⟨NA, hNA⟩ : ∃ k, a.length = k := ⟨_, rfl⟩
  obtain ⟨NB, hNB⟩ : ∃ k, b.length = k := ⟨_, rfl⟩
  rw [hNA] at ra d0 HA HZA ⊢
  rw [hNB] at rb d1 HB4 HZB ⊢
  have HNA := Lib.hid hNA
  have HNB := Lib.hid hNB
  clear hNA hNB
  go_enter Try.func3, Try.ntmps3
  have HB := Lib.hid (Below.refl w.heap.size w)
  go_wp2_with fail
  refine (TwinRn_any a _ _ ra.out HZA.out (by have := HNA.out; have := HA.out; omega)).mono ?_
  rintro e w1 ⟨vt, rfl, ht, hb⟩
  replace HB := Lib.hid (HB.out.trans (hb.mono HB.out.size))
  replace ra := Lib.hid (ra.out.below hb)
  replace rb := Lib.hid (rb.out.below hb)
  have bt := Lib.hid (show ∀ k, vt.ownBlock = some k → w.heap.size ≤ k ∧ k < w1.heap.size from ht.blk)
  have rt := Lib.hid ht
  obtain ⟨gt, ct, _, hvt, _⟩ := ht
  subst hvt
  have sz1 := Lib.hid hb.size
  clear hb
  go_wp2_with fail
  refine (TwinRn_any b _ _ rb.out HZB.out (by have := HNB.out; have := HB4.out; omega)).mono ?_
  rintro e w2 ⟨vu, rfl, ht, hb⟩
  replace HB := Lib.hid (HB.out.trans (hb.mono HB.out.size))
  replace ra := Lib.hid (ra.out.below hb)
  replace rb := Lib.hid (rb.out.below hb)
  replace rt := Lib.hid (rt.out.below hb)
  have ru := Lib.hid ht
  obtain ⟨gu, cu, _, hvu, _⟩ := ht
  subst hvu
  have sz2 := Lib.hid hb.size
  clear hb
  have rls := Lib.hid (RLL_two (t := 22) ra.out rb.out)
  go_wp2_with fail
  refine (NeatRn_any a _ _ (rt.out.hld.rl.below ((Below.refl _ w2).alloc (Nat.le_refl _) _)) (by have := HNA.out; have := HA.out; omega) HIa.out).mono ?_
  rintro e w3 ⟨v0, l0, rfl, ho, hr, hi, hn, hb⟩
  replace rls := Lib.hid (rls.out.below hb)
  replace hb := ((Below.refl _ w2).alloc (Nat.le_refl _) _).trans (hb.mono (by rw [World.size_alloc]; exact Nat.le_succ _))
  replace HB := Lib.hid (HB.out.trans (hb.mono HB.out.size))
  replace ra := Lib.hid (ra.out.below hb)
  replace rb := Lib.hid (rb.out.below hb)
  replace rt := Lib.hid (rt.out.below hb)
  replace ru := Lib.hid (ru.out.below hb)
  have R0 := Lib.hid hr
  have N0 := Lib.hid (show l0.length ≤ 480 from by have := HNA.out; have := HNB.out; have := HA.out; have := HB4.out; (try simp only [total] at hn); omega)
  have b0 := Lib.hid (show ∀ k, v0.ownBlock = some k → w2.heap.size ≤ k ∧ k < w3.heap.size from fun k hk => by have := ho.blk k hk; (rw [World.size_alloc] at this); omega)
  have h0 := Lib.hid ho
  obtain ⟨A0, C0, hv0, _, _⟩ := ho.rl
  subst hv0
  clear ho hr hi hn
  have sz3 := Lib.hid hb.size
  clear hb
  go_wp2_with fail
  refine (Union_any [a, b] _ _ (RLL_two rt.out.hld.rl ru.out.hld.rl) (by have := HNA.out; have := HNB.out; have := HA.out; have := HB4.out; simp only [total]; omega) (by simp) (fun l hl => by simp at hl; rcases hl with rfl | rfl; exact HIa.out; exact HIb.out)).mono ?_
  rintro e w4 ⟨v1, l1, rfl, ho, hr, hi, hn, hb⟩
  replace hb := ((Below.refl _ w3).alloc (Nat.le_refl _) _).trans (hb.mono (by rw [World.size_alloc]; exact Nat.le_succ _))
  replace HB := Lib.hid (HB.out.trans (hb.mono HB.out.size))
  replace ra := Lib.hid (ra.out.below hb)
  replace rb := Lib.hid (rb.out.below hb)
  replace rt := Lib.hid (rt.out.below hb)
  replace ru := Lib.hid (ru.out.below hb)
  replace rls := Lib.hid (rls.out.below hb)
  replace h0 := Lib.hid (h0.out.below hb)
  have R1 := Lib.hid hr
  have N1 := Lib.hid (show l1.length ≤ 480 from by have := HNA.out; have := HNB.out; have := HA.out; have := HB4.out; (try simp only [total] at hn); omega)
  have b1 := Lib.hid (show ∀ k, v1.ownBlock = some k → w3.heap.size ≤ k ∧ k < w4.heap.size from fun k hk => by have := ho.blk k hk; (rw [World.size_alloc] at this); omega)
  have h1 := Lib.hid ho
  obtain ⟨A1, C1, hv1, _, _⟩ := ho.rl
  subst hv1
  clear ho hr hi hn
  have sz4 := Lib.hid hb.size
  clear hb
  go_wp2_with fail
  refine (MinusRn_any a b _ _ _ rt.out.hld.rl ru.out.hld.rl (by have := HNA.out; have := HA.out; omega) (by have := HNB.out; have := HB4.out; omega) HIa.out HIb.out).mono ?_
  rintro e w5 ⟨v2, l2, rfl, ho, hr, hi, hn, hb⟩
  replace HB := Lib.hid (HB.out.trans (hb.mono HB.out.size))
  replace ra := Lib.hid (ra.out.below hb)
  replace rb := Lib.hid (rb.out.below hb)
  replace rt := Lib.hid (rt.out.below hb)
  replace ru := Lib.hid (ru.out.below hb)
  replace rls := Lib.hid (rls.out.below hb)
  replace h0 := Lib.hid (h0.out.below hb)
  replace h1 := Lib.hid (h1.out.below hb)
  have R2 := Lib.hid hr
  have N2 := Lib.hid (show l2.length ≤ 480 from by have := HNA.out; have := HNB.out; have := HA.out; have := HB4.out; (try simp only [total] at hn); omega)
  have b2 := Lib.hid (show ∀ k, v2.ownBlock = some k → w4.heap.size ≤ k ∧ k < w5.heap.size from fun k hk => by have := ho.blk k hk;  omega)
  have h2 := Lib.hid ho
  obtain ⟨A2, C2, hv2, _, _⟩ := ho.rl
  subst hv2
  clear ho hr hi hn
  have sz5 := Lib.hid hb.size
  clear hb
  go_wp2_with fail
  refine (BothRn_any a b _ _ _ rt.out.hld.rl ru.out.hld.rl (by have := HNA.out; have := HA.out; omega) (by have := HNB.out; have := HB4.out; omega) HIa.out HIb.out).mono ?_
  rintro e w6 ⟨v3, l3, rfl, ho, hr, hi, hn, hb⟩
  replace HB := Lib.hid (HB.out.trans (hb.mono HB.out.size))
  replace ra := Lib.hid (ra.out.below hb)
  replace rb := Lib.hid (rb.out.below hb)
  replace rt := Lib.hid (rt.out.below hb)
  replace ru := Lib.hid (ru.out.below hb)
  replace rls := Lib.hid (rls.out.below hb)
  replace h0 := Lib.hid (h0.out.below hb)
  replace h1 := Lib.hid (h1.out.below hb)
  replace h2 := Lib.hid (h2.out.below hb)
  have R3 := Lib.hid hr
  have N3 := Lib.hid (show l3.length ≤ 480 from by have := HNA.out; have := HNB.out; have := HA.out; have := HB4.out; (try simp only [total] at hn); omega)
  have b3 := Lib.hid (show ∀ k, v3.ownBlock = some k → w5.heap.size ≤ k ∧ k < w6.heap.size from fun k hk => by have := ho.blk k hk;  omega)
  have h3 := Lib.hid ho
  obtain ⟨A3, C3, hv3, _, _⟩ := ho.rl
  subst hv3
  clear ho hr hi hn
  have sz6 := Lib.hid hb.size
  clear hb
  have rk := Lib.hid (RLL_one (t := 22) (ra.out.below ((Below.refl _ w6).alloc (Nat.le_refl _) (.cells #[.slice A0 l0.length C0, .slice A1 l1.length C1, .slice A2 l2.length C2, .slice A3 l3.length C3] 22))))
  rw [World.size_alloc] at rk
  go_wp2_with fail
  refine (KeptRn_0 [a] _ _ rk.out (by simp) (fun l hl => by simp at hl; subst hl; exact ⟨HIa.out, (by have := HNA.out; have := HA.out; omega)⟩)).mono ?_
  rintro e w7 ⟨x0, m0, rfl, hr, hR, hb⟩
  have kl := Lib.hid (show Bk w7 w6.heap.size 22 #[.slice A0 l0.length C0, .slice A1 l1.length C1, .slice A2 l2.length C2, .slice A3 l3.length C3] from (Bk.made w6 22 #[.slice A0 l0.length C0, .slice A1 l1.length C1, .slice A2 l2.length C2, .slice A3 l3.length C3]).below (((Below.refl _ _).alloc (Nat.le_refl _) _).trans (hb.mono (by simp only [World.size_alloc]; omega))) (by rw [World.size_alloc]; omega))
  clear rk
  replace hb := (((Below.refl _ w6).alloc (Nat.le_refl _) _).alloc (by simp) _).trans (hb.mono (by rw [World.size_alloc, World.size_alloc]; omega))
  replace HB := Lib.hid (HB.out.trans (hb.mono HB.out.size))
  replace ra := Lib.hid (ra.out.below hb)
  replace rb := Lib.hid (rb.out.below hb)
  replace rt := Lib.hid (rt.out.below hb)
  replace ru := Lib.hid (ru.out.below hb)
  replace rls := Lib.hid (rls.out.below hb)
  replace h0 := Lib.hid (h0.out.below hb)
  replace h1 := Lib.hid (h1.out.below hb)
  replace h2 := Lib.hid (h2.out.below hb)
  replace h3 := Lib.hid (h3.out.below hb)
  have e0 : l0 = m0 := Runs.unique _ _ _ (Runs.congr _ _ (fun y _ => by simp [anyB]) R0.out) hr
  subst e0
  obtain ⟨M0, D0, hx0, _, _⟩ := id hR
  subst hx0
  have r0 := Lib.hid hR
  clear hr hR
  have sz7 := Lib.hid hb.size
  clear hb
  go_wp2_with fail
  refine (KeptRn_0 [a, b] _ _ rls.out (by simp) (fun l hl => by simp at hl; rcases hl with rfl | rfl; exact ⟨HIa.out, (by have := HNA.out; have := HA.out; omega)⟩; exact ⟨HIb.out, (by have := HNB.out; have := HB4.out; omega)⟩)).mono ?_
  rintro e w8 ⟨x1, m1, rfl, hr, hR, hb⟩
  replace HB := Lib.hid (HB.out.trans (hb.mono HB.out.size))
  replace ra := Lib.hid (ra.out.below hb)
  replace rb := Lib.hid (rb.out.below hb)
  replace rt := Lib.hid (rt.out.below hb)
  replace ru := Lib.hid (ru.out.below hb)
  replace rls := Lib.hid (rls.out.below hb)
  replace h0 := Lib.hid (h0.out.below hb)
  replace h1 := Lib.hid (h1.out.below hb)
  replace h2 := Lib.hid (h2.out.below hb)
  replace h3 := Lib.hid (h3.out.below hb)
  replace kl := Lib.hid (kl.out.below hb kl.out.lt)
  replace r0 := Lib.hid (r0.out.below hb)
  have e1 : l1 = m1 := Runs.unique _ _ _ R1.out hr
  subst e1
  obtain ⟨M1, D1, hx1, _, _⟩ := id hR
  subst hx1
  have r1 := Lib.hid hR
  clear hr hR
  have sz8 := Lib.hid hb.size
  clear hb
  go_wp2_with fail
  refine (KeptRn_1 [a, b] a b rfl _ _ rls.out (by simp) (fun l hl => by simp at hl; rcases hl with rfl | rfl; exact ⟨HIa.out, (by have := HNA.out; have := HA.out; omega)⟩; exact ⟨HIb.out, (by have := HNB.out; have := HB4.out; omega)⟩)).mono ?_
  rintro e w9 ⟨x2, m2, rfl, hr, hR, hb⟩
  replace HB := Lib.hid (HB.out.trans (hb.mono HB.out.size))
  replace ra := Lib.hid (ra.out.below hb)
  replace rb := Lib.hid (rb.out.below hb)
  replace rt := Lib.hid (rt.out.below hb)
  replace ru := Lib.hid (ru.out.below hb)
  replace rls := Lib.hid (rls.out.below hb)
  replace h0 := Lib.hid (h0.out.below hb)
  replace h1 := Lib.hid (h1.out.below hb)
  replace h2 := Lib.hid (h2.out.below hb)
  replace h3 := Lib.hid (h3.out.below hb)
  replace kl := Lib.hid (kl.out.below hb kl.out.lt)
  replace r0 := Lib.hid (r0.out.below hb)
  replace r1 := Lib.hid (r1.out.below hb)
  have e2 : l2 = m2 := Runs.unique _ _ _ R2.out hr
  subst e2
  obtain ⟨M2, D2, hx2, _, _⟩ := id hR
  subst hx2
  have r2 := Lib.hid hR
  clear hr hR
  have sz9 := Lib.hid hb.size
  clear hb
  go_wp2_with fail
  refine (KeptRn_2 [a, b] a b rfl _ _ rls.out (by simp) (fun l hl => by simp at hl; rcases hl with rfl | rfl; exact ⟨HIa.out, (by have := HNA.out; have := HA.out; omega)⟩; exact ⟨HIb.out, (by have := HNB.out; have := HB4.out; omega)⟩)).mono ?_
  rintro e w10 ⟨x3, m3, rfl, hr, hR, hb⟩
  replace HB := Lib.hid (HB.out.trans (hb.mono HB.out.size))
  replace ra := Lib.hid (ra.out.below hb)
  replace rb := Lib.hid (rb.out.below hb)
  replace rt := Lib.hid (rt.out.below hb)
  replace ru := Lib.hid (ru.out.below hb)
  replace rls := Lib.hid (rls.out.below hb)
  replace h0 := Lib.hid (h0.out.below hb)
  replace h1 := Lib.hid (h1.out.below hb)
  replace h2 := Lib.hid (h2.out.below hb)
  replace h3 := Lib.hid (h3.out.below hb)
  replace kl := Lib.hid (kl.out.below hb kl.out.lt)
  replace r0 := Lib.hid (r0.out.below hb)
  replace r1 := Lib.hid (r1.out.below hb)
  replace r2 := Lib.hid (r2.out.below hb)
  have e3 : l3 = m3 := Runs.unique _ _ _ R3.out hr
  subst e3
  obtain ⟨M3, D3, hx3, _, _⟩ := id hR
  subst hx3
  have r3 := Lib.hid hR
  clear hr hR
  have sz10 := Lib.hid hb.size
  clear hb
  have hbw : Below w10.heap.size w10 (w10.alloc (.cells #[.slice M0 l0.length D0, .slice M1 l1.length D1, .slice M2 l2.length D2, .slice M3 l3.length D3] 22)) := (Below.refl _ _).alloc (Nat.le_refl _) _
  have km := Lib.hid (Bk.made w10 22 #[.slice M0 l0.length D0, .slice M1 l1.length D1, .slice M2 l2.length D2, .slice M3 l3.length D3])
  have bks := Lib.hid (BkS.start (w10.alloc (.cells #[.slice M0 l0.length D0, .slice M1 l1.length D1, .slice M2 l2.length D2, .slice M3 l3.length D3] 22)))
  have hsz : (w10.alloc (.cells #[.slice M0 l0.length D0, .slice M1 l1.length D1, .slice M2 l2.length D2, .slice M3 l3.length D3] 22)).heap.size = w10.heap.size + 1 := World.size_alloc _ _
  rw [hsz] at bks
  replace ra := Lib.hid (ra.out.below hbw)
  replace rb := Lib.hid (rb.out.below hbw)
  replace rt := Lib.hid (rt.out.below hbw)
  replace ru := Lib.hid (ru.out.below hbw)
  replace h0 := Lib.hid (h0.out.below hbw)
  replace h1 := Lib.hid (h1.out.below hbw)
  replace h2 := Lib.hid (h2.out.below hbw)
  replace h3 := Lib.hid (h3.out.below hbw)
  replace r0 := Lib.hid (r0.out.below hbw)
  replace r1 := Lib.hid (r1.out.below hbw)
  replace r2 := Lib.hid (r2.out.below hbw)
  replace r3 := Lib.hid (r3.out.below hbw)
  replace kl := Lib.hid (kl.out.below hbw kl.out.lt)
  replace HB := Lib.hid (HB.out.trans (hbw.mono HB.out.size))
  have LAD := Lib.hid (show Ladder w.heap.size [.slice (some ⟨gt, 0, none⟩) a.length ct, .slice A0 l0.length C0, .slice A1 l1.length C1, .slice A2 l2.length C2, .slice A3 l3.length C3] (w10.heap.size + 1) from ⟨_, _, Nat.le_refl _, sz1.out, bt.out, _, _, sz2.out, sz3.out, b0.out, _, _, Nat.le_refl _, sz4.out, b1.out, _, _, Nat.le_refl _, sz5.out, b2.out, _, _, Nat.le_refl _, sz6.out, b3.out, (by
    have := sz7.out
    have := sz8.out
    have := sz9.out
    have := sz10.out
    show w6.heap.size ≤ w10.heap.size + 1
    omega)⟩)
  clear hbw rls
  go_wp2_with fail
  generalize w10.alloc (.cells #[.slice M0 l0.length D0, .slice M1 l1.length D1, .slice M2 l2.length D2, .slice M3 l3.length D3] 22) = WB at *
  have HP := Lib.hid (show ∀ p : Nat, p < 4 → ∃ (A : Option Addr) (c : Nat) (M : Option Addr) (d : Nat) (l : List (Int × Int)), ([.slice (some ⟨gt, 0, none⟩) a.length ct, .slice A0 l0.length C0, .slice A1 l1.length C1, .slice A2 l2.length C2, .slice A3 l3.length C3] : List Value)[p + 1]? = some (.slice A l.length c) ∧ WB.cell? ⟨w6.heap.size, p, none⟩ = some (.slice A l.length c) ∧ WB.cell? ⟨w10.heap.size, p, none⟩ = some (.slice M l.length d) ∧ RL WB (.slice A l.length c) l ∧ RL WB (.slice M l.length d) l ∧ l.length ≤ 480 from fun p hp => by
    rcases (show p = 0 ∨ p = 1 ∨ p = 2 ∨ p = 3 by omega) with rfl | rfl | rfl | rfl
    · exact ⟨_, _, _, _, l0, rfl, by simpa using kl.out.cell 0, by simpa using km.out.cell 0, h0.out.rl, r0.out, N0.out⟩
    · exact ⟨_, _, _, _, l1, rfl, by simpa using kl.out.cell 1, by simpa using km.out.cell 1, h1.out.rl, r1.out, N1.out⟩
    · exact ⟨_, _, _, _, l2, rfl, by simpa using kl.out.cell 2, by simpa using km.out.cell 2, h2.out.rl, r2.out, N2.out⟩
    · exact ⟨_, _, _, _, l3, rfl, by simpa using kl.out.cell 3, by simpa using km.out.cell 3, h3.out.rl, r3.out, N3.out⟩)
  have HPS := Lib.hid (show ∀ wr, Below WB.heap.size WB wr → ∀ (j : Nat) (v : Value), ([.slice (some ⟨gt, 0, none⟩) a.length ct, .slice A0 l0.length C0, .slice A1 l1.length C1, .slice A2 l2.length C2, .slice A3 l3.length C3] : List Value)[j]? = some v → PS wr ((j : Int) + 1) v 0 from fun wr hb j v hj => by
    rcases (show j = 0 ∨ j = 1 ∨ j = 2 ∨ j = 3 ∨ j = 4 by have := (List.getElem?_eq_some_iff.1 hj).1; simp at this; omega) with rfl | rfl | rfl | rfl | rfl
    · obtain rfl := Option.some.inj hj; exact PS.of_twv (rt.out.below hb) _
    · obtain rfl := Option.some.inj hj; exact PS.of_hld (h0.out.below hb) _
    · obtain rfl := Option.some.inj hj; exact PS.of_hld (h1.out.below hb) _
    · obtain rfl := Option.some.inj hj; exact PS.of_hld (h2.out.below hb) _
    · obtain rfl := Option.some.inj hj; exact PS.of_hld (h3.out.below hb) _)
  clear kl km h0 h1 h2 h3 r0 r1 r2 r3 R0 R1 R2 R3 N0 N1 N2 N3 bt b0 b1 b2 b3 sz1 sz2 sz3 sz4 sz5 sz6 sz7 sz8 sz9 sz10
  generalize w10.heap.size + 1 = bk at *
  refine (RangesRn_any bk [] _ _ _ _ bks.out (by simp)).mono ?_
  rintro e w11 ⟨rfl, hk, hb⟩
  have HW := Lib.hid (show Below WB.heap.size WB w11 from ((Below.refl _ WB).alloc (Nat.le_refl _) _).trans (by rw [hsz]; exact hb))
  have HK := Lib.hid hk
  clear hk hb bks
  go_wp2_with fail
  go_loopw [11] (fun i wr => ∃ p : Nat, p ≤ 4 ∧ i = .int .i64 p ∧ Hid (BkS wr bk (([.slice (some ⟨gt, 0, none⟩) a.length ct, .slice A0 l0.length C0, .slice A1 l1.length C1, .slice A2 l2.length C2, .slice A3 l3.length C3] : List Value).take (p + 1)) ∧ Below WB.heap.size WB wr)) (fun i _ => 4 - (intOf i).toNat)
  case atStart => exact ⟨0, Nat.zero_le _, rfl, Lib.hid ⟨HK.out, HW.out⟩⟩
  case round =>
    obtain ⟨p, hp, rfl, hG⟩ := hrel
    by_cases hlt : p < 4
    · have d2 : decide ((p : Int) < 4) = true := by rw [decide_eq_true_iff]; omega
      have p0 : (p : Int) < 4 := by omega
      obtain ⟨AP, cP, MP, dP, l, q1, q2, q3, q4, q5, q6⟩ := HP.out p hlt
      have y1 := Nd.cell_keeps hG.out.2 q2
      have y2 := Nd.cell_keeps hG.out.2 q3
      have u4 := q4.below hG.out.2
      have u5 := q5.below hG.out.2
      have HSame := Lib.hid (fun wx (h : Below wr.heap.size wr wx) => SameRn_any l l _ _ wx (u4.below h) (u5.below h) (by omega) (by omega))
      have HX := Lib.hid (show ∀ wx wy, Below wr.heap.size wr wx → BkS wy bk (([.slice (some ⟨gt, 0, none⟩) a.length ct, .slice A0 l0.length C0, .slice A1 l1.length C1, .slice A2 l2.length C2, .slice A3 l3.length C3] : List Value).take (p + 1) ++ [.slice AP l.length cP]) → Below bk wx wy → BkS wy bk (([.slice (some ⟨gt, 0, none⟩) a.length ct, .slice A0 l0.length C0, .slice A1 l1.length C1, .slice A2 l2.length C2, .slice A3 l3.length C3] : List Value).take (p + 1 + 1)) ∧ Below WB.heap.size WB wy from fun wx wy k1 k2 k3 => by
        refine ⟨?_, (hG.out.2.trans (k1.mono hG.out.2.size)).trans (by rw [hsz]; exact k3)⟩
        rw [List.take_add_one, q1]
        exact k2)
      have HBK := Lib.hid (fun wx (h : Below wr.heap.size wr wx) => hG.out.1.below h)
      have HLn := Lib.hid (show (([.slice (some ⟨gt, 0, none⟩) a.length ct, .slice A0 l0.length C0, .slice A1 l1.length C1, .slice A2 l2.length C2, .slice A3 l3.length C3] : List Value).take (p + 1)).length ≤ 1000 from by rw [List.length_take]; simp; omega)
      clear q1 q2 q3 q4 q5 u4 u5 hG
      go_wp2_with fail
      refine wp_calm ?_
      refine wp_region_held_drew (S := fun w' : World => w'.cell? ⟨w6.heap.size, p, none⟩ = some (.slice AP l.length cP) ∧ w'.cell? ⟨w10.heap.size, p, none⟩ = some (.slice MP l.length dP)) (by kernel_rfl) ⟨y1, y2⟩ (fun hSS => ?_)
      show wpAnyH _ _ _ _ _ 10 #[false, false, false, false, false, false, false, false, false, false] _ _
      refine take_one (i := 0) (d := (some 58)) (v := _) (l' := #[true, false, false, false, false, false, false, false, false, false]) (by rw [List.getElem?_toArray]; rfl) rfl (by kernel_rfl) (by kernel_rfl) (by kernel_rfl) rfl (fun _ _ _ h => by cases h.1) (Or.inl ⟨by rfl, fun w' hSw => by (try dsimp only at hSw); go_simp; try with_reducible rfl⟩) hSS ?_
      simp only [Act.put, List.setIfInBounds_toArray, List.set_cons_zero, List.set_cons_succ]
      refine take_one (i := 1) (d := (some 59)) (v := _) (l' := #[true, true, false, false, false, false, false, false, false, false]) (by rw [List.getElem?_toArray]; rfl) rfl (by kernel_rfl) (by kernel_rfl) (by kernel_rfl) rfl (fun _ _ _ h => by cases h.1) (Or.inl ⟨by rfl, fun w' hSw => by (try dsimp only at hSw); go_simp; try with_reducible rfl⟩) hSS ?_
      simp only [Act.put, List.setIfInBounds_toArray, List.set_cons_zero, List.set_cons_succ]
      refine take_one (i := 2) (d := (some 60)) (v := _) (l' := #[true, true, true, false, false, false, false, false, false, false]) (by rw [List.getElem?_toArray]; rfl) rfl (by kernel_rfl) (by kernel_rfl) (by kernel_rfl) rfl (fun _ _ _ h => by cases h.1) (Or.inl ⟨by rfl, fun w' hSw => by (try dsimp only at hSw); go_simp; try with_reducible rfl⟩) hSS ?_
      simp only [Act.put, List.setIfInBounds_toArray, List.set_cons_zero, List.set_cons_succ]
      refine take_one (i := 3) (d := (some 61)) (v := _) (l' := #[true, true, true, true, false, false, false, false, false, false]) (by rw [List.getElem?_toArray]; rfl) rfl (by kernel_rfl) (by kernel_rfl) (by kernel_rfl) rfl (fun _ _ _ h => by cases h.1) (Or.inl ⟨by rfl, fun w' hSw => by (try dsimp only at hSw); go_simp; try with_reducible rfl⟩) hSS ?_
      simp only [Act.put, List.setIfInBounds_toArray, List.set_cons_zero, List.set_cons_succ]
      refine take_one (i := 4) (d := (some 62)) (v := _) (l' := #[true, true, true, true, true, false, false, false, false, false]) (by rw [List.getElem?_toArray]; rfl) rfl (by kernel_rfl) (by kernel_rfl) (by kernel_rfl) rfl (fun _ _ _ h => by cases h.1) (Or.inl ⟨by rfl, fun w' hSw => by (try dsimp only at hSw); go_simp; try with_reducible rfl⟩) hSS ?_
      simp only [Act.put, List.setIfInBounds_toArray, List.set_cons_zero, List.set_cons_succ]
      refine take_one (i := 5) (d := (some 63)) (v := _) (l' := #[true, true, true, true, true, true, false, false, false, false]) (by rw [List.getElem?_toArray]; rfl) rfl (by kernel_rfl) (by kernel_rfl) (by kernel_rfl) rfl (fun _ _ _ h => by cases h.1) (Or.inl ⟨by rfl, fun w' hSw => by (try dsimp only at hSw); go_simp; try with_reducible rfl⟩) hSS ?_
      simp only [Act.put, List.setIfInBounds_toArray, List.set_cons_zero, List.set_cons_succ]
      refine take_one (i := 6) (d := (some 64)) (v := _) (l' := #[true, true, true, true, true, true, true, false, false, false]) (by rw [List.getElem?_toArray]; rfl) rfl (by kernel_rfl) (by kernel_rfl) (by kernel_rfl) rfl (fun _ _ _ h => by cases h.1) (Or.inl ⟨by rfl, fun w' hSw => by (try dsimp only at hSw); go_simp; try with_reducible rfl⟩) hSS ?_
      simp only [Act.put, List.setIfInBounds_toArray, List.set_cons_zero, List.set_cons_succ]
      refine take_one (i := 7) (d := (some 65)) (v := _) (l' := #[true, true, true, true, true, true, true, true, false, false]) (by rw [List.getElem?_toArray]; rfl) rfl (by kernel_rfl) (by kernel_rfl) (by kernel_rfl) rfl (fun _ _ _ h => by cases h.1) (Or.inl ⟨by rfl, fun w' hSw => by (try dsimp only at hSw); go_simp; try with_reducible rfl⟩) hSS ?_
      simp only [Act.put, List.setIfInBounds_toArray, List.set_cons_zero, List.set_cons_succ]
      refine come_one (i := 8) (l' := #[true, true, true, true, true, true, true, true, true, false]) (by rw [List.getElem?_toArray]; rfl) (by kernel_rfl) rfl (fun K' hK => ?_)
      go_simp
      go_at_call 15; refine (HSame.out wr.drew (Below.refl _ _).drew).mono ?_; rintro e wh1 ⟨rfl, hbz⟩; simp only [decide_true]; have hh1 : Below wr.heap.size wr wh1 := (show Below wr.heap.size wr wr.drew from (Below.refl _ _).drew).trans (hbz.mono (show Below wr.heap.size wr wr.drew from (Below.refl _ _).drew).size); clear hbz
      refine hK.out _ _ ⟨Nd.cell_keeps hh1 y1, Nd.cell_keeps hh1 y2⟩ (fun hSS => ?_)
      try simp only [Act.put, List.setIfInBounds_toArray, List.set_cons_zero, List.set_cons_succ]
      refine take_one (i := 9) (d := (some 67)) (v := _) (l' := #[true, true, true, true, true, true, true, true, true, true]) (by rw [List.getElem?_toArray]; rfl) rfl (by kernel_rfl) (by kernel_rfl) (by kernel_rfl) rfl (fun _ _ _ h => by cases h.1) (Or.inl ⟨by rfl, fun w' hSw => by (try dsimp only at hSw); go_simp; try with_reducible rfl⟩) hSS ?_
      simp only [Act.put, List.setIfInBounds_toArray, List.set_cons_zero, List.set_cons_succ]
      refine wpAnyH_done (by kernel_rfl) ?_ _
      refine ⟨rfl, ?_⟩
      have y3 := Nd.cell_keeps hh1 y1
      go_wp2_with (go_at_call 14; refine (RangesRn_any bk _ _ _ _ _ (HBK.out _ hh1) HLn.out).mono ?_; rintro e w12 ⟨rfl, hk2, hb2⟩)
      exact ⟨⟨p + 1, by omega, by go_num, Lib.hid (HX.out _ _ hh1 hk2 hb2)⟩, by simp [intOf]; omega⟩
    · have d2 : decide ((p : Int) < 4) = false := by rw [decide_eq_false_iff_not]; omega
      obtain rfl : p = 4 := by omega
      go_wp2_with fail
      refine (LeftRn_any a _ _ w.heap.size _ (rt.out.below hG.out.2) (ra.out.below hG.out.2) (by have := HNA.out; have := HA.out; omega)).mono ?_
      rintro e w12 ⟨rfl, hb⟩
      have HBk := Lib.hid (show BkS w12 bk [.slice (some ⟨gt, 0, none⟩) a.length ct, .slice A0 l0.length C0, .slice A1 l1.length C1, .slice A2 l2.length C2, .slice A3 l3.length C3] from hG.out.1.below hb)
      replace hb := hG.out.2.trans (hb.mono hG.out.2.size)
      have HC := Lib.hid hb
      clear hb hG
      go_wp2_with fail
      refine (LeftRn_any b _ _ _ _ (ru.out.below HC.out) (rb.out.below HC.out) (by have := HNB.out; have := HB4.out; omega)).mono ?_
      rintro e w13 ⟨rfl, hb⟩
      replace HBk := Lib.hid (HBk.out.below hb)
      replace HC := Lib.hid (HC.out.trans (hb.mono HC.out.size))
      clear hb
      go_wp2_with fail
      refine (ApartRn_any w.heap.size bk _ _ HBk.out (by simp) LAD.out.apd (Ladder.le _ LAD.out) (HPS.out _ HC.out)).mono ?_
      rintro e w14 ⟨rfl, hb⟩
      have HF := Lib.hid (show Below w.heap.size w w14 from (HB.out.trans (HC.out.mono HB.out.size)).trans hb)
      clear hb
      go_wp2_with fail
      refine (livesRn_true _).mono ?_
      rintro e w15 ⟨rfl, hb⟩
      replace HF := Lib.hid (HF.out.trans (hb.mono HF.out.size))
      clear hb
      go_wp2_with fail
      go_ret
      exact ⟨rfl, HF.out⟩
theorem RangesTwo_any (a b : List (Int × Int)) (va vb : Value) (w : World) (ha : RL w va a) (hb : RL w vb b) (hIa : I32 a) (hIb : I32 b) (hza : ∀ n c, va = .slice none n c → c = 0) (hzb : ∀ n c, vb = .slice none n c → c = 0) :
    Calls Try.prog 3 #[va, vb] w fun e w' => e = .returned (.bool true) ∧ Below w.heap.size w w' := by
  by_cases h1 : 60 < a.length
  · obtain ⟨A, cA, rfl, _, _⟩ := ha
    obtain ⟨B, cB, rfl, _, _⟩ := hb
    exact RangesTwo_lives1 A B _ _ cA cB w h1
  by_cases h2 : 60 < b.length
  · obtain ⟨A, cA, rfl, _, _⟩ := ha
    obtain ⟨B, cB, rfl, _, _⟩ := hb
    exact RangesTwo_lives2 A B _ _ cA cB w h1 h2
  exact RangesTwo_main a b va vb w ha hb hIa hIb hza hzb h1 h2
end Go.Proofs.Ytianappapfpbeaa
