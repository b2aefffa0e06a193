/- RangesParts: all ways. -/
import Derived.Test.YtianappapfpbeaaRnL
import Derived.Test.YtianappapfpbeaaRgB
import Derived.Deep.RegionHeld3
namespace Go.Proofs.Ytianappapfpbeaa
open Go Go.RowKit Rn
set_option maxRecDepth 100000

namespace Rn
theorem anyB_2 (a b : List (Int × Int)) (y : Int) : anyB [a, b] y = (hasB a y || hasB b y) := by simp [anyB]
theorem Runs.part {S : Type} {z : S} {σ : Int → S} : ∀ (l : List (Int × Int)) (b : Int), Runs z σ b l → ∀ r ∈ l, b ≤ r.1 ∧ r.1 ≤ r.2 ∧ ∀ y, r.1 ≤ y → y ≤ r.2 → σ y = σ r.1
  | [], _, _, r, hr => by simp at hr
  | q :: t, b, ⟨h1, h2, h3, h4, h5, h6, h7⟩, r, hr => by
    rcases List.mem_cons.1 hr with rfl | hr
    · exact ⟨h1, h2, h5⟩
    · obtain ⟨i1, i2⟩ := Runs.part t _ h7 r hr
      exact ⟨by omega, i2⟩
theorem Runs.apart {S : Type} {z : S} {σ : Int → S} : ∀ (l : List (Int × Int)) (b : Int), Runs z σ b l → ∀ (i : Nat) (p q : Int × Int), l[i]? = some p → l[i + 1]? = some q → p.2 + 1 = q.1 → σ p.2 ≠ σ q.1
  | [], _, _, i, p, q, h, _, _ => by simp at h
  | r :: t, b, ⟨h1, h2, h3, h4, h5, h6, h7⟩, 0, p, q, hp, hq, e => by
    obtain rfl : r = p := by simpa using hp
    rw [← e, h5 _ h2 (Int.le_refl _)]
    exact fun k => h6 k.symm
  | r :: t, b, ⟨h1, h2, h3, h4, h5, h6, h7⟩, i + 1, p, q, hp, hq, e => Runs.apart t _ h7 i p q (by simpa using hp) (by simpa using hq) e
/-- One of the ranges into which two lists are split is held by each as a whole, or not at all. -/
theorem split_one {a b l li : List (Int × Int)} {r : Int × Int} (h : Runs (noSig [a, b]) (sig [a, b]) lowest l) (hr : r ∈ l) {s : List (Int × Int)} (hs : s = a ∨ s = b) (hi : Runs false (fun y => hasB [r] y && hasB s y) lowest li) :
    (hasB s r.1 = true ∧ li = [r]) ∨ (hasB s r.1 = false ∧ li = []) := by
  obtain ⟨h1, h2, h3⟩ := h.part _ _ r hr
  have hc : ∀ y, r.1 ≤ y → y ≤ r.2 → hasB s y = hasB s r.1 := fun y k1 k2 => by
    have := h3 y k1 k2
    simp only [sig, List.map_cons, List.map_nil, List.cons.injEq, and_true] at this
    rcases hs with rfl | rfl
    · exact this.1
    · exact this.2
  have hone : ∀ y, hasB [r] y = true ↔ r.1 ≤ y ∧ y ≤ r.2 := fun y => by rw [hasB_iff]; simp
  cases e : hasB s r.1 with
  | true =>
    refine .inl ⟨rfl, Runs.unique _ _ _ hi (Runs.congr _ _ (fun y _ => ?_) (neat_runs [r] lowest (by simp [neatB]; exact h2) (by simpa using h1)))⟩
    cases k : hasB [r] y with
    | false => rfl
    | true =>
      have := (hone y).1 k
      rw [hc y this.1 this.2, e]
      rfl
  | false =>
    refine .inr ⟨rfl, Runs.unique _ _ _ hi (fun y _ => ?_)⟩
    cases k : hasB [r] y with
    | false => rfl
    | true =>
      have := (hone y).1 k
      rw [hc y this.1 this.2, e]
      rfl
/-- Two that stand side by side are held otherwise by one of the lists. -/
theorem split_two {a b l : List (Int × Int)} (h : Runs (noSig [a, b]) (sig [a, b]) lowest l) {i : Nat} {p q : Int × Int} (hp : l[i]? = some p) (hq : l[i + 1]? = some q) (e : p.2 + 1 = q.1) : hasB a p.2 ≠ hasB a q.1 ∨ hasB b p.2 ≠ hasB b q.1 := by
  have := h.apart _ _ i p q hp hq e
  simp only [sig, List.map_cons, List.map_nil] at this
  by_cases k : hasB a p.2 = hasB a q.1
  · exact .inr fun k2 => this (by rw [k, k2])
  · exact .inl k
theorem split_has {a b l : List (Int × Int)} (h : Runs (noSig [a, b]) (sig [a, b]) lowest l) (y : Int) (hy : lowest ≤ y) : hasB l y = (hasB a y || hasB b y) := by
  have h1 := Runs.has l _ h y
  have h2 := sig_no [a, b] y
  rw [anyB_2] at h2
  cases e : hasB l y with
  | true =>
    have := mt h2.2 (h1.1 e).2
    cases k : (hasB a y || hasB b y) with
    | true => rfl
    | false => exact absurd k this
  | false =>
    cases k : (hasB a y || hasB b y) with
    | false => rfl
    | true =>
      have := h1.2 ⟨hy, fun c => by rw [h2.1 c] at k; cases k⟩
      rw [e] at this
      cases this
end Rn
/-- A piece of code whose post is to be reckoned with at its own end alone. -/
theorem wp_calm {P : Program} {c : Code} {Q : Exit → Act → World → Prop} {a : Act} {w : World} (h : Code.wp P c (fun e a' w' => e = .normal ∧ Q .normal a' w') a w) : Code.wp P c Q a w :=
  Code.wp_mono (fun e a' w' h => by obtain ⟨rfl, h⟩ := h; exact h) h
set_option maxHeartbeats 4000000 in
theorem RangesParts_lives1 (A B : Option Addr) (n m c c' : Nat) (x : Int) (w : World) (h : 60 < n) :
    Calls Try.prog 6 #[.slice A n c, .slice B m c', .int .i32 x] w fun e w' => e = .returned (.bool true) ∧ Below w.heap.size w w' := by
  have d0 : decide ((60 : Int) < (n : Int)) = true := by rw [decide_eq_true_iff]; omega
  have d1 : (60 : Int) < (n : Int) := by omega
  go_enter Try.func6, Try.ntmps6
  go_wp2_with (go_at_call 7; refine (livesRn_true _).mono ?_; rintro e w2 ⟨rfl, hb⟩)
  go_ret
  exact ⟨rfl, hb⟩
set_option maxHeartbeats 4000000 in
theorem RangesParts_lives2 (A B : Option Addr) (n m c c' : Nat) (x : Int) (w : World) (h : ¬ 60 < n) (h2 : 60 < m) :
    Calls Try.prog 6 #[.slice A n c, .slice B m c', .int .i32 x] w fun e w' => e = .returned (.bool true) ∧ Below w.heap.size w w' := by
  have d0 : decide ((60 : Int) < (n : Int)) = false := by rw [decide_eq_false_iff_not]; omega
  have d1 : decide ((60 : Int) < (m : Int)) = true := by rw [decide_eq_true_iff]; omega
  have d2 : (60 : Int) < (m : Int) := by omega
  go_enter Try.func6, Try.ntmps6
  go_wp2_with (go_at_call 7; refine (livesRn_true _).mono ?_; rintro e w2 ⟨rfl, hb⟩)
  go_ret
  exact ⟨rfl, hb⟩
set_option maxHeartbeats 16000000 in
theorem RangesParts_main (a b : List (Int × Int)) (va vb : Value) (x : Int) (w : World) (ha : RL w va a) (hb0 : RL w vb b) (hIa : I32 a) (hIb : I32 b) (hx : -2147483648 ≤ x) (h1 : ¬ 60 < a.length) (h2 : ¬ 60 < b.length) :
    Calls Try.prog 6 #[va, vb, .int .i32 x] w fun e w' => e = .returned (.bool true) ∧ Below w.heap.size w w' := by
  have RA := Lib.hid (fun wx (h : Below w.heap.size w wx) => ha.below h)
  have RB := Lib.hid (fun wx (h : Below w.heap.size w wx) => hb0.below h)
  have HIa := Lib.hid hIa
  have HIb := Lib.hid hIb
  have h3 : a.length ≤ 60 := by omega
  have h4 : b.length ≤ 60 := by omega
  have HA := Lib.hid h3
  have HB4 := Lib.hid h4
  have HX := Lib.hid hx
  have d0 : decide ((60 : Int) < (a.length : Int)) = false := by rw [decide_eq_false_iff_not]; omega
  have d1 : decide ((60 : Int) < (b.length : Int)) = false := by rw [decide_eq_false_iff_not]; omega
  obtain ⟨A, cA, hva, _, _⟩ := ha
  obtain ⟨B, cB, hvb, _, _⟩ := hb0
  subst hva hvb
  clear hIa hIb h1 h2 h3 h4 hx
  obtain ⟨NA, hNA⟩ : ∃ k, a.length = k := ⟨_, rfl⟩
  obtain ⟨NB, hNB⟩ : ∃ k, b.length = k := ⟨_, rfl⟩
  rw [hNA] at RA d0 HA ⊢
  rw [hNB] at RB d1 HB4 ⊢
  have HNA := Lib.hid hNA
  have HNB := Lib.hid hNB
  clear hNA hNB
  go_enter Try.func6, Try.ntmps6
  go_wp2_with fail
  refine (SplitRn_any [a, b] _ _ (RLL_two (RA.out _ (Below.refl _ _)) (RB.out _ (Below.refl _ _))) (by have := HNA.out; have := HNB.out; have := HA.out; have := HB4.out; simp only [total]; omega) (by simp) (fun l hl => by simp at hl; rcases hl with rfl | rfl; exact HIa.out; exact HIb.out)).mono ?_
  rintro e w1 ⟨vl, ll, rfl, ho, hr, hi, hn, hb⟩
  have B1 := Lib.hid (show Below w.heap.size w w1 from ((Below.refl _ w).alloc (Nat.le_refl _) _).trans (hb.mono (by rw [World.size_alloc]; exact Nat.le_succ _)))
  have RL1 := Lib.hid (fun wx (h : Below w1.heap.size w1 wx) => ho.rl.below h)
  have HR := Lib.hid hr
  have HI := Lib.hid hi
  have HN := Lib.hid (show ll.length ≤ 480 from by have := HNA.out; have := HNB.out; have := HA.out; have := HB4.out; simp only [total] at hn; omega)
  obtain ⟨AL, cL, hvl, _, hRg⟩ := ho.rl
  have HRg := Lib.hid (fun wx (h : Below w1.heap.size w1 wx) => hRg.below h)
  subst hvl
  clear ho hr hi hn hb hRg
  obtain ⟨N, hN⟩ : ∃ k, ll.length = k := ⟨_, rfl⟩
  rw [hN] at RL1 HN ⊢
  have HNL := Lib.hid hN
  have hN480 := HN.out
  have n1 : (N : Int) ≤ 9223372036854775807 := by omega
  clear hN
  go_wp2_with fail
  go_loopw [8] (fun i wr => ∃ p : Nat, p ≤ N ∧ i = .int .i64 p ∧ Hid (Below w1.heap.size w1 wr)) (fun i _ => N - (intOf i).toNat)
  case atStart => exact ⟨0, Nat.zero_le _, rfl, Lib.hid (Below.refl _ _)⟩
  case round =>
    obtain ⟨p, hp, rfl, hB⟩ := hrel
    by_cases hlt : p < N
    · have d2 : decide (p < N) = true := by rw [decide_eq_true_iff]; exact hlt
      have p0 : (p : Int) < (N : Int) := by omega
      obtain ⟨r, hr⟩ : ∃ r, ll[p]? = some r := ⟨_, List.getElem?_eq_getElem (by rw [HNL.out]; exact hlt)⟩
      obtain ⟨g, o, hao, x1, x2⟩ := (HRg.out wr hB.out).get p r hr
      subst hao
      have hmem := List.mem_of_getElem? hr
      obtain ⟨rlo, rhi⟩ := r
      dsimp only at x1 x2
      have HMem := Lib.hid hmem
      have HRp := Lib.hid hr
      have RY := Lib.hid (fun wx (h : Below (wr.alloc (.cells #[.int .i32 rlo, .int .i32 rhi] 42)).heap.size (wr.alloc (.cells #[.int .i32 rlo, .int .i32 rhi] 42)) wx) => (RL_lit wr [(rlo, rhi)]).below h)
      have BY := Lib.hid (show Below w1.heap.size w1 (wr.alloc (.cells #[.int .i32 rlo, .int .i32 rhi] 42)) from hB.out.alloc hB.out.size _)
      have hIr := HI.out _ hmem
      have HIr := Lib.hid hIr
      clear hmem hr hIr
      go_wp2_with fail
      obtain ⟨wy, hwy⟩ : ∃ W, wr.alloc (.cells #[.int .i32 rlo, .int .i32 rhi] 42) = W := ⟨_, rfl⟩
      rw [hwy] at RY BY ⊢
      clear hwy x1 x2
      go_loopw [10] (fun i wz => ∃ k : Nat, k ≤ 2 ∧ i = .int .i64 k ∧ Hid (Below wy.heap.size wy wz)) (fun i _ => 2 - (intOf i).toNat)
      case atStart => exact ⟨0, by omega, rfl, Lib.hid (Below.refl _ _)⟩
      case round =>
        obtain ⟨k, hk, rfl, hZ⟩ := hrel
        have BZ := Lib.hid (show Below w.heap.size w wr from B1.out.trans ((BY.out.trans (hZ.out.mono BY.out.size)).mono B1.out.size))
        rcases (show k = 0 ∨ k = 1 ∨ k = 2 by omega) with rfl | rfl | rfl
        · go_wp2_with fail
          refine (BothRn_any [(rlo, rhi)] a _ _ _ (RY.out _ (hZ.out.alloc hZ.out.size _)) (RA.out _ (BZ.out.alloc BZ.out.size _)) (by simp) (by have := HNA.out; have := HA.out; omega) (fun r hr => by simp at hr; subst hr; exact HIr.out) HIa.out).mono ?_
          rintro e w5 ⟨vi, li, rfl, ho, hr, hi, hn, hb5⟩
          have hb6 : Below wr.heap.size wr w5 := ((Below.refl _ wr).alloc (Nat.le_refl _) _).trans (hb5.mono (by rw [World.size_alloc]; exact Nat.le_succ _))
          have Z5 := Lib.hid (show Below wy.heap.size wy w5 from hZ.out.trans (hb6.mono hZ.out.size))
          have hone := split_one HR.out HMem.out (Or.inl rfl) hr
          have ri := Lib.hid ho.rl
          obtain ⟨AI, cI, hvi, _, _⟩ := ho.rl
          clear ho hr hi hn hb5 hb6 hZ BZ
          rcases hone with ⟨_, rfl⟩ | ⟨_, rfl⟩
          · rw [List.length_singleton] at hvi
            subst hvi
            go_wp2_with fail
            refine (SameRn_any [(rlo, rhi)] [(rlo, rhi)] _ _ _ ri.out (RY.out _ Z5.out) (by simp) (by simp)).mono ?_
            rintro e w6 ⟨rfl, hb7⟩
            simp only [decide_true]
            go_wp2_with fail
            exact ⟨⟨1, by omega, by go_num, Lib.hid (Z5.out.trans (hb7.mono Z5.out.size))⟩, by simp [intOf]⟩
          · rw [List.length_nil] at hvi
            subst hvi
            go_wp2_with fail
            exact ⟨⟨1, by omega, by go_num, Z5⟩, by simp [intOf]⟩
        · go_wp2_with fail
          refine (BothRn_any [(rlo, rhi)] b _ _ _ (RY.out _ (hZ.out.alloc hZ.out.size _)) (RB.out _ (BZ.out.alloc BZ.out.size _)) (by simp) (by have := HNB.out; have := HB4.out; omega) (fun r hr => by simp at hr; subst hr; exact HIr.out) HIb.out).mono ?_
          rintro e w5 ⟨vi, li, rfl, ho, hr, hi, hn, hb5⟩
          have hb6 : Below wr.heap.size wr w5 := ((Below.refl _ wr).alloc (Nat.le_refl _) _).trans (hb5.mono (by rw [World.size_alloc]; exact Nat.le_succ _))
          have Z5 := Lib.hid (show Below wy.heap.size wy w5 from hZ.out.trans (hb6.mono hZ.out.size))
          have hone := split_one HR.out HMem.out (Or.inr rfl) hr
          have ri := Lib.hid ho.rl
          obtain ⟨AI, cI, hvi, _, _⟩ := ho.rl
          clear ho hr hi hn hb5 hb6 hZ BZ
          rcases hone with ⟨_, rfl⟩ | ⟨_, rfl⟩
          · rw [List.length_singleton] at hvi
            subst hvi
            go_wp2_with fail
            refine (SameRn_any [(rlo, rhi)] [(rlo, rhi)] _ _ _ ri.out (RY.out _ Z5.out) (by simp) (by simp)).mono ?_
            rintro e w6 ⟨rfl, hb7⟩
            simp only [decide_true]
            go_wp2_with fail
            exact ⟨⟨2, by omega, by go_num, Lib.hid (Z5.out.trans (hb7.mono Z5.out.size))⟩, by simp [intOf]⟩
          · rw [List.length_nil] at hvi
            subst hvi
            go_wp2_with fail
            exact ⟨⟨2, by omega, by go_num, Z5⟩, by simp [intOf]⟩
        · go_wp2_with fail
          have BW := Lib.hid (show Below w1.heap.size w1 wr from BY.out.trans (hZ.out.mono BY.out.size))
          cases p with
          | zero =>
            go_quiet (fail)
            go_wp2_with fail
            exact ⟨⟨1, by omega, by go_num, Lib.hid (below_drewN BW.out _)⟩, by simp [intOf]; omega⟩
          | succ k =>
            obtain ⟨q, hq⟩ : ∃ q, ll[k]? = some q := ⟨_, List.getElem?_eq_getElem (by rw [HNL.out]; omega)⟩
            obtain ⟨g', o', hgo, z0, _⟩ := (HRg.out wr BW.out).get k q hq
            obtain ⟨g'', o'', hgo', z1, _⟩ := (HRg.out wr BW.out).get (k + 1) _ HRp.out
            obtain ⟨g3, o3, hgo3, _, z0⟩ := (HRg.out wr BW.out).get k q hq
            injection hgo with hgo
            injection hgo with hg1 hg2
            injection hgo' with hgo'
            injection hgo' with hg3 hg4
            injection hgo3 with hgo3
            injection hgo3 with hg5 hg6
            subst hg1 hg2 hg3 hg4 hg5 hg6
            have hIq := HI.out q (List.mem_of_getElem? hq)
            have hIr := HIr.out
            obtain ⟨qlo, qhi⟩ := q
            dsimp only at z0 z1 hIq hIr
            have f1 : (k : Int) + 1 - 1 = k := by omega
            have f2 : IntKind.i64.wrap (k : Int) = k := by simp [IntKind.wrap, IntKind.bits, IntKind.signed]; omega
            have g1 : (k : Int) < (N : Int) := by omega
            have g2 : (k : Int) + 1 < (N : Int) := by omega
            have g7 : (0 : Int) ≤ (k : Int) + 1 := by omega
            have g8 : (0 : Int) ≤ (k : Int) := by omega
            have g3 : decide ((0 : Int) < (k : Int) + 1) = true := by rw [decide_eq_true_iff]; omega
            have g4 : IntKind.i64.wrap qhi = qhi := by simp [IntKind.wrap, IntKind.bits, IntKind.signed]; omega
            have g5 : IntKind.i64.wrap (qhi + 1) = qhi + 1 := by simp [IntKind.wrap, IntKind.bits, IntKind.signed]; omega
            have g6 : IntKind.i64.wrap rlo = rlo := by simp [IntKind.wrap, IntKind.bits, IntKind.signed]; omega
            by_cases htouch : qhi + 1 = rlo
            · have q1 : (qhi + 1 == rlo) = true := by rw [beq_iff_eq]; exact htouch
              have htwo := split_two HR.out hq HRp.out htouch
              dsimp only at htwo
              have BX := Lib.hid (show Below w.heap.size w wr from B1.out.trans (BW.out.mono B1.out.size))
              have C1 := Lib.hid (fun wx (h : Below wr.heap.size wr wx) => HasRn_any a _ qhi wx (RA.out wx (BX.out.trans (h.mono BX.out.size))) (by have := HNA.out; have := HA.out; omega))
              have C2 := Lib.hid (fun wx (h : Below wr.heap.size wr wx) => HasRn_any a _ rlo wx (RA.out wx (BX.out.trans (h.mono BX.out.size))) (by have := HNA.out; have := HA.out; omega))
              have C3 := Lib.hid (fun wx (h : Below wr.heap.size wr wx) => HasRn_any b _ qhi wx (RB.out wx (BX.out.trans (h.mono BX.out.size))) (by have := HNB.out; have := HB4.out; omega))
              have C4 := Lib.hid (fun wx (h : Below wr.heap.size wr wx) => HasRn_any b _ rlo wx (RB.out wx (BX.out.trans (h.mono BX.out.size))) (by have := HNB.out; have := HB4.out; omega))
              clear hq
              generalize hasB a qhi = P1 at *
              generalize hasB a rlo = P2 at *
              generalize hasB b qhi = P3 at *
              generalize hasB b rlo = P4 at *
              by_cases hPP : P1 = P2
              · have q2 : (P1 == P2) = true := by rw [beq_iff_eq]; exact hPP
                have hQQ : P3 ≠ P4 := by
                  rcases htwo with h | h
                  · exact absurd hPP h
                  · exact h
                have q3 : (P3 == P4) = false := by rw [beq_eq_false_iff_ne]; exact hQQ
                clear htwo htouch
                refine wp_calm ?_
                refine wp_region_held_drew (S := fun w' : World => w'.cell? ⟨g, o + k * 2 + 1, none⟩ = some (.int .i32 qhi) ∧ w'.cell? ⟨g, o + (k + 1) * 2, none⟩ = some (.int .i32 rlo)) (by kernel_rfl) ⟨z0, z1⟩ (fun hSS => ?_)
                show wpAnyH _ _ _ _ _ 55 #[false, false, false, false, false, false, false, false, false, false, false, false, false, false, false, false, false, false, false, false, false, false, false, false, false, false, false, false, false, false, false, false, false, false, false, false, false, false, false, false, false, false, false, false, false, false, false, false, false, false, false, false, false, false, false] _ _
                refine take_one (i := 0) (d := (some 59)) (v := _) (l' := #[true, false, false, false, false, false, false, false, false, false, false, false, false, false, false, false, false, false, false, false, false, false, false, false, false, false, false, false, false, false, false, false, false, false, false, false, false, false, false, false, false, false, false, false, false, false, false, false, false, false, false, false, false, false, false]) (by rw [List.getElem?_toArray]; rfl) rfl (by kernel_rfl) (by kernel_rfl) (by kernel_rfl) rfl (fun _ _ _ h => by cases h.1) (Or.inl ⟨by rfl, fun w' hSw => by (try dsimp only at hSw); go_simp; try with_reducible rfl⟩) hSS ?_
                simp only [Act.put, List.setIfInBounds_toArray, List.set_cons_zero, List.set_cons_succ]
                refine take_one (i := 1) (d := (some 60)) (v := _) (l' := #[true, true, false, false, false, false, false, false, false, false, false, false, false, false, false, false, false, false, false, false, false, false, false, false, false, false, false, false, false, false, false, false, false, false, false, false, false, false, false, false, false, false, false, false, false, false, false, false, false, false, false, false, false, false, false]) (by rw [List.getElem?_toArray]; rfl) rfl (by kernel_rfl) (by kernel_rfl) (by kernel_rfl) rfl (fun _ _ _ h => by cases h.1) (Or.inl ⟨by rfl, fun w' hSw => by (try dsimp only at hSw); go_simp; try with_reducible rfl⟩) hSS ?_
                simp only [Act.put, List.setIfInBounds_toArray, List.set_cons_zero, List.set_cons_succ]
                refine take_one (i := 2) (d := (some 61)) (v := _) (l' := #[true, true, true, false, false, false, false, false, false, false, false, false, false, false, false, false, false, false, false, false, false, false, false, false, false, false, false, false, false, false, false, false, false, false, false, false, false, false, false, false, false, false, false, false, false, false, false, false, false, false, false, false, false, false, false]) (by rw [List.getElem?_toArray]; rfl) rfl (by kernel_rfl) (by kernel_rfl) (by kernel_rfl) rfl (fun _ _ _ h => by cases h.1) (Or.inl ⟨by rfl, fun w' hSw => by (try dsimp only at hSw); go_simp; try with_reducible rfl⟩) hSS ?_
                simp only [Act.put, List.setIfInBounds_toArray, List.set_cons_zero, List.set_cons_succ]
                refine take_one (i := 3) (d := (some 62)) (v := _) (l' := #[true, true, true, true, false, false, false, false, false, false, false, false, false, false, false, false, false, false, false, false, false, false, false, false, false, false, false, false, false, false, false, false, false, false, false, false, false, false, false, false, false, false, false, false, false, false, false, false, false, false, false, false, false, false, false]) (by rw [List.getElem?_toArray]; rfl) rfl (by kernel_rfl) (by kernel_rfl) (by kernel_rfl) rfl (fun _ _ _ h => by cases h.1) (Or.inl ⟨by rfl, fun w' hSw => by (try dsimp only at hSw); go_simp; try with_reducible rfl⟩) hSS ?_
                simp only [Act.put, List.setIfInBounds_toArray, List.set_cons_zero, List.set_cons_succ]
                refine take_one (i := 4) (d := (some 63)) (v := _) (l' := #[true, true, true, true, true, false, false, false, false, false, false, false, false, false, false, false, false, false, false, false, false, false, false, false, false, false, false, false, false, false, false, false, false, false, false, false, false, false, false, false, false, false, false, false, false, false, false, false, false, false, false, false, false, false, false]) (by rw [List.getElem?_toArray]; rfl) rfl (by kernel_rfl) (by kernel_rfl) (by kernel_rfl) rfl (fun _ _ _ h => by cases h.1) (Or.inl ⟨by rfl, fun w' hSw => by (try dsimp only at hSw); go_simp; try with_reducible rfl⟩) hSS ?_
                simp only [Act.put, List.setIfInBounds_toArray, List.set_cons_zero, List.set_cons_succ]
                refine take_one (i := 5) (d := (some 64)) (v := _) (l' := #[true, true, true, true, true, true, false, false, false, false, false, false, false, false, false, false, false, false, false, false, false, false, false, false, false, false, false, false, false, false, false, false, false, false, false, false, false, false, false, false, false, false, false, false, false, false, false, false, false, false, false, false, false, false, false]) (by rw [List.getElem?_toArray]; rfl) rfl (by kernel_rfl) (by kernel_rfl) (by kernel_rfl) rfl (fun _ _ _ h => by cases h.1) (Or.inl ⟨by rfl, fun w' hSw => by (try dsimp only at hSw); go_simp; try with_reducible rfl⟩) hSS ?_
                simp only [Act.put, List.setIfInBounds_toArray, List.set_cons_zero, List.set_cons_succ]
                refine take_one (i := 6) (d := (some 65)) (v := _) (l' := #[true, true, true, true, true, true, true, false, false, false, false, false, false, false, false, false, false, false, false, false, false, false, false, false, false, false, false, false, false, false, false, false, false, false, false, false, false, false, false, false, false, false, false, false, false, false, false, false, false, false, false, false, false, false, false]) (by rw [List.getElem?_toArray]; rfl) rfl (by kernel_rfl) (by kernel_rfl) (by kernel_rfl) rfl (fun _ _ _ h => by cases h.1) (Or.inl ⟨by rfl, fun w' hSw => by (try dsimp only at hSw); go_simp; try with_reducible rfl⟩) hSS ?_
                simp only [Act.put, List.setIfInBounds_toArray, List.set_cons_zero, List.set_cons_succ]
                refine take_one (i := 7) (d := (some 66)) (v := _) (l' := #[true, true, true, true, true, true, true, true, false, false, false, false, false, false, false, false, false, false, false, false, false, false, false, false, false, false, false, false, false, false, false, false, false, false, false, false, false, false, false, false, false, false, false, false, false, false, false, false, false, false, false, false, false, false, false]) (by rw [List.getElem?_toArray]; rfl) rfl (by kernel_rfl) (by kernel_rfl) (by kernel_rfl) rfl (fun _ _ _ h => by cases h.1) (Or.inl ⟨by rfl, fun w' hSw => by (try dsimp only at hSw); go_simp; try with_reducible rfl⟩) hSS ?_
                simp only [Act.put, List.setIfInBounds_toArray, List.set_cons_zero, List.set_cons_succ]
                refine take_one (i := 8) (d := (some 67)) (v := _) (l' := #[true, true, true, true, true, true, true, true, true, false, false, false, false, false, false, false, false, false, false, false, false, false, false, false, false, false, false, false, false, false, false, false, false, false, false, false, false, false, false, false, false, false, false, false, false, false, false, false, false, false, false, false, false, false, false]) (by rw [List.getElem?_toArray]; rfl) rfl (by kernel_rfl) (by kernel_rfl) (by kernel_rfl) rfl (fun _ _ _ h => by cases h.1) (Or.inl ⟨by rfl, fun w' hSw => by (try dsimp only at hSw); go_simp; try with_reducible rfl⟩) hSS ?_
                simp only [Act.put, List.setIfInBounds_toArray, List.set_cons_zero, List.set_cons_succ]
                refine take_one (i := 9) (d := (some 68)) (v := _) (l' := #[true, true, true, true, true, true, true, true, true, true, false, false, false, false, false, false, false, false, false, false, false, false, false, false, false, false, false, false, false, false, false, false, false, false, false, false, false, false, false, false, false, false, false, false, false, false, false, false, false, false, false, false, false, false, false]) (by rw [List.getElem?_toArray]; rfl) rfl (by kernel_rfl) (by kernel_rfl) (by kernel_rfl) rfl (fun _ _ _ h => by cases h.1) (Or.inl ⟨by rfl, fun w' hSw => by (try dsimp only at hSw); go_simp; try with_reducible rfl⟩) hSS ?_
                simp only [Act.put, List.setIfInBounds_toArray, List.set_cons_zero, List.set_cons_succ]
                refine take_one (i := 10) (d := (some 69)) (v := _) (l' := #[true, true, true, true, true, true, true, true, true, true, true, false, false, false, false, false, false, false, false, false, false, false, false, false, false, false, false, false, false, false, false, false, false, false, false, false, false, false, false, false, false, false, false, false, false, false, false, false, false, false, false, false, false, false, false]) (by rw [List.getElem?_toArray]; rfl) rfl (by kernel_rfl) (by kernel_rfl) (by kernel_rfl) rfl (fun _ _ _ h => by cases h.1) (Or.inl ⟨by rfl, fun w' hSw => by (try dsimp only at hSw); go_simp; try with_reducible rfl⟩) hSS ?_
                simp only [Act.put, List.setIfInBounds_toArray, List.set_cons_zero, List.set_cons_succ]
                refine take_one (i := 11) (d := (some 70)) (v := _) (l' := #[true, true, true, true, true, true, true, true, true, true, true, true, false, false, false, false, false, false, false, false, false, false, false, false, false, false, false, false, false, false, false, false, false, false, false, false, false, false, false, false, false, false, false, false, false, false, false, false, false, false, false, false, false, false, false]) (by rw [List.getElem?_toArray]; rfl) rfl (by kernel_rfl) (by kernel_rfl) (by kernel_rfl) rfl (fun _ _ _ h => by cases h.1) (Or.inl ⟨by rfl, fun w' hSw => by (try dsimp only at hSw); go_simp; try with_reducible rfl⟩) hSS ?_
                simp only [Act.put, List.setIfInBounds_toArray, List.set_cons_zero, List.set_cons_succ]
                refine take_one (i := 12) (d := (some 71)) (v := _) (l' := #[true, true, true, true, true, true, true, true, true, true, true, true, true, false, false, false, false, false, false, false, false, false, false, false, false, false, false, false, false, false, false, false, false, false, false, false, false, false, false, false, false, false, false, false, false, false, false, false, false, false, false, false, false, false, false]) (by rw [List.getElem?_toArray]; rfl) rfl (by kernel_rfl) (by kernel_rfl) (by kernel_rfl) rfl (fun _ _ _ h => by cases h.1) (Or.inl ⟨by rfl, fun w' hSw => by (try dsimp only at hSw); go_simp; try with_reducible rfl⟩) hSS ?_
                simp only [Act.put, List.setIfInBounds_toArray, List.set_cons_zero, List.set_cons_succ]
                refine take_one (i := 13) (d := (some 72)) (v := _) (l' := #[true, true, true, true, true, true, true, true, true, true, true, true, true, true, false, false, false, false, false, false, false, false, false, false, false, false, false, false, false, false, false, false, false, false, false, false, false, false, false, false, false, false, false, false, false, false, false, false, false, false, false, false, false, false, false]) (by rw [List.getElem?_toArray]; rfl) rfl (by kernel_rfl) (by kernel_rfl) (by kernel_rfl) rfl (fun _ _ _ h => by cases h.1) (Or.inl ⟨by rfl, fun w' hSw => by (try dsimp only at hSw); go_simp; try with_reducible rfl⟩) hSS ?_
                simp only [Act.put, List.setIfInBounds_toArray, List.set_cons_zero, List.set_cons_succ]
                refine take_one (i := 14) (d := (some 73)) (v := _) (l' := #[true, true, true, true, true, true, true, true, true, true, true, true, true, true, true, false, false, false, false, false, false, false, false, false, false, false, false, false, false, false, false, false, false, false, false, false, false, false, false, false, false, false, false, false, false, false, false, false, false, false, false, false, false, false, false]) (by rw [List.getElem?_toArray]; rfl) rfl (by kernel_rfl) (by kernel_rfl) (by kernel_rfl) rfl (fun _ _ _ h => by cases h.1) (Or.inl ⟨by rfl, fun w' hSw => by (try dsimp only at hSw); go_simp; try with_reducible rfl⟩) hSS ?_
                simp only [Act.put, List.setIfInBounds_toArray, List.set_cons_zero, List.set_cons_succ]
                refine take_one (i := 15) (d := (some 74)) (v := _) (l' := #[true, true, true, true, true, true, true, true, true, true, true, true, true, true, true, true, false, false, false, false, false, false, false, false, false, false, false, false, false, false, false, false, false, false, false, false, false, false, false, false, false, false, false, false, false, false, false, false, false, false, false, false, false, false, false]) (by rw [List.getElem?_toArray]; rfl) rfl (by kernel_rfl) (by kernel_rfl) (by kernel_rfl) rfl (fun _ _ _ h => by cases h.1) (Or.inl ⟨by rfl, fun w' hSw => by (try dsimp only at hSw); go_simp; try with_reducible rfl⟩) hSS ?_
                simp only [Act.put, List.setIfInBounds_toArray, List.set_cons_zero, List.set_cons_succ]
                refine take_one (i := 16) (d := (some 75)) (v := _) (l' := #[true, true, true, true, true, true, true, true, true, true, true, true, true, true, true, true, true, false, false, false, false, false, false, false, false, false, false, false, false, false, false, false, false, false, false, false, false, false, false, false, false, false, false, false, false, false, false, false, false, false, false, false, false, false, false]) (by rw [List.getElem?_toArray]; rfl) rfl (by kernel_rfl) (by kernel_rfl) (by kernel_rfl) rfl (fun _ _ _ h => by cases h.1) (Or.inl ⟨by rfl, fun w' hSw => by (try dsimp only at hSw); go_simp; try with_reducible rfl⟩) hSS ?_
                simp only [Act.put, List.setIfInBounds_toArray, List.set_cons_zero, List.set_cons_succ]
                refine take_one (i := 17) (d := (some 76)) (v := _) (l' := #[true, true, true, true, true, true, true, true, true, true, true, true, true, true, true, true, true, true, false, false, false, false, false, false, false, false, false, false, false, false, false, false, false, false, false, false, false, false, false, false, false, false, false, false, false, false, false, false, false, false, false, false, false, false, false]) (by rw [List.getElem?_toArray]; rfl) rfl (by kernel_rfl) (by kernel_rfl) (by kernel_rfl) rfl (fun _ _ _ h => by cases h.1) (Or.inl ⟨by rfl, fun w' hSw => by (try dsimp only at hSw); go_simp; try with_reducible rfl⟩) hSS ?_
                simp only [Act.put, List.setIfInBounds_toArray, List.set_cons_zero, List.set_cons_succ]
                refine take_one (i := 18) (d := (some 77)) (v := _) (l' := #[true, true, true, true, true, true, true, true, true, true, true, true, true, true, true, true, true, true, true, false, false, false, false, false, false, false, false, false, false, false, false, false, false, false, false, false, false, false, false, false, false, false, false, false, false, false, false, false, false, false, false, false, false, false, false]) (by rw [List.getElem?_toArray]; rfl) rfl (by kernel_rfl) (by kernel_rfl) (by kernel_rfl) rfl (fun _ _ _ h => by cases h.1) (Or.inl ⟨by rfl, fun w' hSw => by (try dsimp only at hSw); go_simp; try with_reducible rfl⟩) hSS ?_
                simp only [Act.put, List.setIfInBounds_toArray, List.set_cons_zero, List.set_cons_succ]
                refine take_one (i := 19) (d := (some 78)) (v := _) (l' := #[true, true, true, true, true, true, true, true, true, true, true, true, true, true, true, true, true, true, true, true, false, false, false, false, false, false, false, false, false, false, false, false, false, false, false, false, false, false, false, false, false, false, false, false, false, false, false, false, false, false, false, false, false, false, false]) (by rw [List.getElem?_toArray]; rfl) rfl (by kernel_rfl) (by kernel_rfl) (by kernel_rfl) rfl (fun _ _ _ h => by cases h.1) (Or.inl ⟨by rfl, fun w' hSw => by (try dsimp only at hSw); go_simp; try with_reducible rfl⟩) hSS ?_
                simp only [Act.put, List.setIfInBounds_toArray, List.set_cons_zero, List.set_cons_succ]
                refine take_one (i := 20) (d := (some 79)) (v := _) (l' := #[true, true, true, true, true, true, true, true, true, true, true, true, true, true, true, true, true, true, true, true, true, false, false, false, false, false, false, false, false, false, false, false, false, false, false, false, false, false, false, false, false, false, false, false, false, false, false, false, false, false, false, false, false, false, false]) (by rw [List.getElem?_toArray]; rfl) rfl (by kernel_rfl) (by kernel_rfl) (by kernel_rfl) rfl (fun _ _ _ h => by cases h.1) (Or.inl ⟨by rfl, fun w' hSw => by (try dsimp only at hSw); go_simp; try with_reducible rfl⟩) hSS ?_
                simp only [Act.put, List.setIfInBounds_toArray, List.set_cons_zero, List.set_cons_succ]
                refine take_one (i := 21) (d := (some 80)) (v := _) (l' := #[true, true, true, true, true, true, true, true, true, true, true, true, true, true, true, true, true, true, true, true, true, true, false, false, false, false, false, false, false, false, false, false, false, false, false, false, false, false, false, false, false, false, false, false, false, false, false, false, false, false, false, false, false, false, false]) (by rw [List.getElem?_toArray]; rfl) rfl (by kernel_rfl) (by kernel_rfl) (by kernel_rfl) rfl (fun _ _ _ h => by cases h.1) (Or.inl ⟨by rfl, fun w' hSw => by (try dsimp only at hSw); go_simp; try with_reducible rfl⟩) hSS ?_
                simp only [Act.put, List.setIfInBounds_toArray, List.set_cons_zero, List.set_cons_succ]
                refine take_one (i := 22) (d := (some 81)) (v := _) (l' := #[true, true, true, true, true, true, true, true, true, true, true, true, true, true, true, true, true, true, true, true, true, true, true, false, false, false, false, false, false, false, false, false, false, false, false, false, false, false, false, false, false, false, false, false, false, false, false, false, false, false, false, false, false, false, false]) (by rw [List.getElem?_toArray]; rfl) rfl (by kernel_rfl) (by kernel_rfl) (by kernel_rfl) rfl (fun _ _ _ h => by cases h.1) (Or.inl ⟨by rfl, fun w' hSw => by (try dsimp only at hSw); go_simp; try with_reducible rfl⟩) hSS ?_
                simp only [Act.put, List.setIfInBounds_toArray, List.set_cons_zero, List.set_cons_succ]
                refine take_one (i := 23) (d := (some 82)) (v := _) (l' := #[true, true, true, true, true, true, true, true, true, true, true, true, true, true, true, true, true, true, true, true, true, true, true, true, false, false, false, false, false, false, false, false, false, false, false, false, false, false, false, false, false, false, false, false, false, false, false, false, false, false, false, false, false, false, false]) (by rw [List.getElem?_toArray]; rfl) rfl (by kernel_rfl) (by kernel_rfl) (by kernel_rfl) rfl (fun _ _ _ h => by cases h.1) (Or.inl ⟨by rfl, fun w' hSw => by (try dsimp only at hSw); go_simp; try with_reducible rfl⟩) hSS ?_
                simp only [Act.put, List.setIfInBounds_toArray, List.set_cons_zero, List.set_cons_succ]
                refine take_one (i := 24) (d := (some 83)) (v := _) (l' := #[true, true, true, true, true, true, true, true, true, true, true, true, true, true, true, true, true, true, true, true, true, true, true, true, true, false, false, false, false, false, false, false, false, false, false, false, false, false, false, false, false, false, false, false, false, false, false, false, false, false, false, false, false, false, false]) (by rw [List.getElem?_toArray]; rfl) rfl (by kernel_rfl) (by kernel_rfl) (by kernel_rfl) rfl (fun _ _ _ h => by cases h.1) (Or.inl ⟨by rfl, fun w' hSw => by (try dsimp only at hSw); go_simp; try with_reducible rfl⟩) hSS ?_
                simp only [Act.put, List.setIfInBounds_toArray, List.set_cons_zero, List.set_cons_succ]
                refine take_one (i := 25) (d := (some 84)) (v := _) (l' := #[true, true, true, true, true, true, true, true, true, true, true, true, true, true, true, true, true, true, true, true, true, true, true, true, true, true, false, false, false, false, false, false, false, false, false, false, false, false, false, false, false, false, false, false, false, false, false, false, false, false, false, false, false, false, false]) (by rw [List.getElem?_toArray]; rfl) rfl (by kernel_rfl) (by kernel_rfl) (by kernel_rfl) rfl (fun _ _ _ h => by cases h.1) (Or.inl ⟨by rfl, fun w' hSw => by (try dsimp only at hSw); go_simp; try with_reducible rfl⟩) hSS ?_
                simp only [Act.put, List.setIfInBounds_toArray, List.set_cons_zero, List.set_cons_succ]
                refine take_one (i := 26) (d := (some 85)) (v := _) (l' := #[true, true, true, true, true, true, true, true, true, true, true, true, true, true, true, true, true, true, true, true, true, true, true, true, true, true, true, false, false, false, false, false, false, false, false, false, false, false, false, false, false, false, false, false, false, false, false, false, false, false, false, false, false, false, false]) (by rw [List.getElem?_toArray]; rfl) rfl (by kernel_rfl) (by kernel_rfl) (by kernel_rfl) rfl (fun _ _ _ h => by cases h.1) (Or.inl ⟨by rfl, fun w' hSw => by (try dsimp only at hSw); go_simp; try with_reducible rfl⟩) hSS ?_
                simp only [Act.put, List.setIfInBounds_toArray, List.set_cons_zero, List.set_cons_succ]
                refine take_one (i := 28) (d := (some 87)) (v := _) (l' := #[true, true, true, true, true, true, true, true, true, true, true, true, true, true, true, true, true, true, true, true, true, true, true, true, true, true, true, false, true, false, false, false, false, false, false, false, false, false, false, false, false, false, false, false, false, false, false, false, false, false, false, false, false, false, false]) (by rw [List.getElem?_toArray]; rfl) rfl (by kernel_rfl) (by kernel_rfl) (by kernel_rfl) rfl (fun _ _ _ h => by cases h.1) (Or.inl ⟨by rfl, fun w' hSw => by (try dsimp only at hSw); go_simp; try with_reducible rfl⟩) hSS ?_
                simp only [Act.put, List.setIfInBounds_toArray, List.set_cons_zero, List.set_cons_succ]
                refine take_one (i := 29) (d := (some 88)) (v := _) (l' := #[true, true, true, true, true, true, true, true, true, true, true, true, true, true, true, true, true, true, true, true, true, true, true, true, true, true, true, false, true, true, false, false, false, false, false, false, false, false, false, false, false, false, false, false, false, false, false, false, false, false, false, false, false, false, false]) (by rw [List.getElem?_toArray]; rfl) rfl (by kernel_rfl) (by kernel_rfl) (by kernel_rfl) rfl (fun _ _ _ h => by cases h.1) (Or.inl ⟨by rfl, fun w' hSw => by (try dsimp only at hSw); go_simp; try with_reducible rfl⟩) hSS ?_
                simp only [Act.put, List.setIfInBounds_toArray, List.set_cons_zero, List.set_cons_succ]
                refine take_one (i := 30) (d := (some 89)) (v := _) (l' := #[true, true, true, true, true, true, true, true, true, true, true, true, true, true, true, true, true, true, true, true, true, true, true, true, true, true, true, false, true, true, true, false, false, false, false, false, false, false, false, false, false, false, false, false, false, false, false, false, false, false, false, false, false, false, false]) (by rw [List.getElem?_toArray]; rfl) rfl (by kernel_rfl) (by kernel_rfl) (by kernel_rfl) rfl (fun _ _ _ h => by cases h.1) (Or.inl ⟨by rfl, fun w' hSw => by (try dsimp only at hSw); go_simp; try with_reducible rfl⟩) hSS ?_
                simp only [Act.put, List.setIfInBounds_toArray, List.set_cons_zero, List.set_cons_succ]
                refine take_one (i := 31) (d := (some 90)) (v := _) (l' := #[true, true, true, true, true, true, true, true, true, true, true, true, true, true, true, true, true, true, true, true, true, true, true, true, true, true, true, false, true, true, true, true, false, false, false, false, false, false, false, false, false, false, false, false, false, false, false, false, false, false, false, false, false, false, false]) (by rw [List.getElem?_toArray]; rfl) rfl (by kernel_rfl) (by kernel_rfl) (by kernel_rfl) rfl (fun _ _ _ h => by cases h.1) (Or.inl ⟨by rfl, fun w' hSw => by (try dsimp only at hSw); go_simp; try with_reducible rfl⟩) hSS ?_
                simp only [Act.put, List.setIfInBounds_toArray, List.set_cons_zero, List.set_cons_succ]
                refine take_one (i := 32) (d := (some 91)) (v := _) (l' := #[true, true, true, true, true, true, true, true, true, true, true, true, true, true, true, true, true, true, true, true, true, true, true, true, true, true, true, false, true, true, true, true, true, false, false, false, false, false, false, false, false, false, false, false, false, false, false, false, false, false, false, false, false, false, false]) (by rw [List.getElem?_toArray]; rfl) rfl (by kernel_rfl) (by kernel_rfl) (by kernel_rfl) rfl (fun _ _ _ h => by cases h.1) (Or.inl ⟨by rfl, fun w' hSw => by (try dsimp only at hSw); go_simp; try with_reducible rfl⟩) hSS ?_
                simp only [Act.put, List.setIfInBounds_toArray, List.set_cons_zero, List.set_cons_succ]
                refine take_one (i := 33) (d := (some 92)) (v := _) (l' := #[true, true, true, true, true, true, true, true, true, true, true, true, true, true, true, true, true, true, true, true, true, true, true, true, true, true, true, false, true, true, true, true, true, true, false, false, false, false, false, false, false, false, false, false, false, false, false, false, false, false, false, false, false, false, false]) (by rw [List.getElem?_toArray]; rfl) rfl (by kernel_rfl) (by kernel_rfl) (by kernel_rfl) rfl (fun _ _ _ h => by cases h.1) (Or.inl ⟨by rfl, fun w' hSw => by (try dsimp only at hSw); go_simp; try with_reducible rfl⟩) hSS ?_
                simp only [Act.put, List.setIfInBounds_toArray, List.set_cons_zero, List.set_cons_succ]
                refine come_one (i := 27) (l' := #[true, true, true, true, true, true, true, true, true, true, true, true, true, true, true, true, true, true, true, true, true, true, true, true, true, true, true, true, true, true, true, true, true, true, false, false, false, false, false, false, false, false, false, false, false, false, false, false, false, false, false, false, false, false, false]) (by rw [List.getElem?_toArray]; rfl) (by kernel_rfl) rfl (fun K' hK => ?_)
                go_simp
                go_at_call 22; refine (C1.out wr.drew (Below.refl _ _).drew).mono ?_; rintro e wh1 ⟨rfl, hbz⟩; have hh1 : Below wr.heap.size wr wh1 := (show Below wr.heap.size wr wr.drew from (Below.refl _ _).drew).trans (hbz.mono (show Below wr.heap.size wr wr.drew from (Below.refl _ _).drew).size); clear hbz
                refine hK.out _ _ ⟨Nd.cell_keeps hh1 z0, Nd.cell_keeps hh1 z1⟩ (fun hSS => ?_)
                try simp only [Act.put, List.setIfInBounds_toArray, List.set_cons_zero, List.set_cons_succ]
                refine come_one (i := 34) (l' := #[true, true, true, true, true, true, true, true, true, true, true, true, true, true, true, true, true, true, true, true, true, true, true, true, true, true, true, true, true, true, true, true, true, true, true, false, false, false, false, false, false, false, false, false, false, false, false, false, false, false, false, false, false, false, false]) (by rw [List.getElem?_toArray]; rfl) (by kernel_rfl) rfl (fun K' hK => ?_)
                go_simp
                go_at_call 22; refine (C2.out wh1 hh1).mono ?_; rintro e wh2 ⟨rfl, hbz⟩; have hh2 : Below wr.heap.size wr wh2 := (show Below wr.heap.size wr wh1 from hh1).trans (hbz.mono (show Below wr.heap.size wr wh1 from hh1).size); clear hbz
                refine hK.out _ _ ⟨Nd.cell_keeps hh2 z0, Nd.cell_keeps hh2 z1⟩ (fun hSS => ?_)
                try simp only [Act.put, List.setIfInBounds_toArray, List.set_cons_zero, List.set_cons_succ]
                refine take_one (i := 35) (d := (some 94)) (v := _) (l' := #[true, true, true, true, true, true, true, true, true, true, true, true, true, true, true, true, true, true, true, true, true, true, true, true, true, true, true, true, true, true, true, true, true, true, true, true, false, false, false, false, false, false, false, false, false, false, false, false, false, false, false, false, false, false, false]) (by rw [List.getElem?_toArray]; rfl) rfl (by kernel_rfl) (by kernel_rfl) (by kernel_rfl) rfl (fun _ _ _ h => by cases h.1) (Or.inl ⟨by rfl, fun w' hSw => by (try dsimp only at hSw); go_simp; try with_reducible rfl⟩) hSS ?_
                simp only [Act.put, List.setIfInBounds_toArray, List.set_cons_zero, List.set_cons_succ]
                refine take_one (i := 36) (d := (some 95)) (v := _) (l' := #[true, true, true, true, true, true, true, true, true, true, true, true, true, true, true, true, true, true, true, true, true, true, true, true, true, true, true, true, true, true, true, true, true, true, true, true, true, false, false, false, false, false, false, false, false, false, false, false, false, false, false, false, false, false, false]) (by rw [List.getElem?_toArray]; rfl) rfl (by kernel_rfl) (by kernel_rfl) (by kernel_rfl) rfl (fun _ _ _ h => by cases h.1) (Or.inl ⟨by rfl, fun w' hSw => by (try dsimp only at hSw); go_simp; try with_reducible rfl⟩) hSS ?_
                simp only [Act.put, List.setIfInBounds_toArray, List.set_cons_zero, List.set_cons_succ]
                refine take_one (i := 37) (d := (some 96)) (v := _) (l' := #[true, true, true, true, true, true, true, true, true, true, true, true, true, true, true, true, true, true, true, true, true, true, true, true, true, true, true, true, true, true, true, true, true, true, true, true, true, true, false, false, false, false, false, false, false, false, false, false, false, false, false, false, false, false, false]) (by rw [List.getElem?_toArray]; rfl) rfl (by kernel_rfl) (by kernel_rfl) (by kernel_rfl) rfl (fun _ _ _ h => by cases h.1) (Or.inl ⟨by rfl, fun w' hSw => by (try dsimp only at hSw); go_simp; try with_reducible rfl⟩) hSS ?_
                simp only [Act.put, List.setIfInBounds_toArray, List.set_cons_zero, List.set_cons_succ]
                refine take_one (i := 38) (d := (some 97)) (v := _) (l' := #[true, true, true, true, true, true, true, true, true, true, true, true, true, true, true, true, true, true, true, true, true, true, true, true, true, true, true, true, true, true, true, true, true, true, true, true, true, true, true, false, false, false, false, false, false, false, false, false, false, false, false, false, false, false, false]) (by rw [List.getElem?_toArray]; rfl) rfl (by kernel_rfl) (by kernel_rfl) (by kernel_rfl) rfl (fun _ _ _ h => by cases h.1) (Or.inl ⟨by rfl, fun w' hSw => by (try dsimp only at hSw); go_simp; try with_reducible rfl⟩) hSS ?_
                simp only [Act.put, List.setIfInBounds_toArray, List.set_cons_zero, List.set_cons_succ]
                refine take_one (i := 39) (d := (some 98)) (v := _) (l' := #[true, true, true, true, true, true, true, true, true, true, true, true, true, true, true, true, true, true, true, true, true, true, true, true, true, true, true, true, true, true, true, true, true, true, true, true, true, true, true, true, false, false, false, false, false, false, false, false, false, false, false, false, false, false, false]) (by rw [List.getElem?_toArray]; rfl) rfl (by kernel_rfl) (by kernel_rfl) (by kernel_rfl) rfl (fun _ _ _ h => by cases h.1) (Or.inl ⟨by rfl, fun w' hSw => by (try dsimp only at hSw); go_simp; try with_reducible rfl⟩) hSS ?_
                simp only [Act.put, List.setIfInBounds_toArray, List.set_cons_zero, List.set_cons_succ]
                refine take_one (i := 40) (d := (some 99)) (v := _) (l' := #[true, true, true, true, true, true, true, true, true, true, true, true, true, true, true, true, true, true, true, true, true, true, true, true, true, true, true, true, true, true, true, true, true, true, true, true, true, true, true, true, true, false, false, false, false, false, false, false, false, false, false, false, false, false, false]) (by rw [List.getElem?_toArray]; rfl) rfl (by kernel_rfl) (by kernel_rfl) (by kernel_rfl) rfl (fun _ _ _ h => by cases h.1) (Or.inl ⟨by rfl, fun w' hSw => by (try dsimp only at hSw); go_simp; try with_reducible rfl⟩) hSS ?_
                simp only [Act.put, List.setIfInBounds_toArray, List.set_cons_zero, List.set_cons_succ]
                refine take_one (i := 41) (d := (some 100)) (v := _) (l' := #[true, true, true, true, true, true, true, true, true, true, true, true, true, true, true, true, true, true, true, true, true, true, true, true, true, true, true, true, true, true, true, true, true, true, true, true, true, true, true, true, true, true, false, false, false, false, false, false, false, false, false, false, false, false, false]) (by rw [List.getElem?_toArray]; rfl) rfl (by kernel_rfl) (by kernel_rfl) (by kernel_rfl) rfl (fun _ _ _ h => by cases h.1) (Or.inl ⟨by rfl, fun w' hSw => by (try dsimp only at hSw); go_simp; try with_reducible rfl⟩) hSS ?_
                simp only [Act.put, List.setIfInBounds_toArray, List.set_cons_zero, List.set_cons_succ]
                refine take_one (i := 42) (d := (some 101)) (v := _) (l' := #[true, true, true, true, true, true, true, true, true, true, true, true, true, true, true, true, true, true, true, true, true, true, true, true, true, true, true, true, true, true, true, true, true, true, true, true, true, true, true, true, true, true, true, false, false, false, false, false, false, false, false, false, false, false, false]) (by rw [List.getElem?_toArray]; rfl) rfl (by kernel_rfl) (by kernel_rfl) (by kernel_rfl) rfl (fun _ _ _ h => by cases h.1) (Or.inl ⟨by rfl, fun w' hSw => by (try dsimp only at hSw); go_simp; try with_reducible rfl⟩) hSS ?_
                simp only [Act.put, List.setIfInBounds_toArray, List.set_cons_zero, List.set_cons_succ]
                refine take_one (i := 43) (d := (some 102)) (v := _) (l' := #[true, true, true, true, true, true, true, true, true, true, true, true, true, true, true, true, true, true, true, true, true, true, true, true, true, true, true, true, true, true, true, true, true, true, true, true, true, true, true, true, true, true, true, true, false, false, false, false, false, false, false, false, false, false, false]) (by rw [List.getElem?_toArray]; rfl) rfl (by kernel_rfl) (by kernel_rfl) (by kernel_rfl) rfl (fun _ _ _ h => by cases h.1) (Or.inl ⟨by rfl, fun w' hSw => by (try dsimp only at hSw); go_simp; try with_reducible rfl⟩) hSS ?_
                simp only [Act.put, List.setIfInBounds_toArray, List.set_cons_zero, List.set_cons_succ]
                refine take_one (i := 44) (d := (some 103)) (v := _) (l' := #[true, true, true, true, true, true, true, true, true, true, true, true, true, true, true, true, true, true, true, true, true, true, true, true, true, true, true, true, true, true, true, true, true, true, true, true, true, true, true, true, true, true, true, true, true, false, false, false, false, false, false, false, false, false, false]) (by rw [List.getElem?_toArray]; rfl) rfl (by kernel_rfl) (by kernel_rfl) (by kernel_rfl) rfl (fun _ _ _ h => by cases h.1) (Or.inl ⟨by rfl, fun w' hSw => by (try dsimp only at hSw); go_simp; try with_reducible rfl⟩) hSS ?_
                simp only [Act.put, List.setIfInBounds_toArray, List.set_cons_zero, List.set_cons_succ]
                refine take_one (i := 46) (d := (some 105)) (v := _) (l' := #[true, true, true, true, true, true, true, true, true, true, true, true, true, true, true, true, true, true, true, true, true, true, true, true, true, true, true, true, true, true, true, true, true, true, true, true, true, true, true, true, true, true, true, true, true, false, true, false, false, false, false, false, false, false, false]) (by rw [List.getElem?_toArray]; rfl) rfl (by kernel_rfl) (by kernel_rfl) (by kernel_rfl) rfl (fun _ _ _ h => by cases h.1) (Or.inl ⟨by rfl, fun w' hSw => by (try dsimp only at hSw); go_simp; try with_reducible rfl⟩) hSS ?_
                simp only [Act.put, List.setIfInBounds_toArray, List.set_cons_zero, List.set_cons_succ]
                refine take_one (i := 47) (d := (some 106)) (v := _) (l' := #[true, true, true, true, true, true, true, true, true, true, true, true, true, true, true, true, true, true, true, true, true, true, true, true, true, true, true, true, true, true, true, true, true, true, true, true, true, true, true, true, true, true, true, true, true, false, true, true, false, false, false, false, false, false, false]) (by rw [List.getElem?_toArray]; rfl) rfl (by kernel_rfl) (by kernel_rfl) (by kernel_rfl) rfl (fun _ _ _ h => by cases h.1) (Or.inl ⟨by rfl, fun w' hSw => by (try dsimp only at hSw); go_simp; try with_reducible rfl⟩) hSS ?_
                simp only [Act.put, List.setIfInBounds_toArray, List.set_cons_zero, List.set_cons_succ]
                refine take_one (i := 48) (d := (some 107)) (v := _) (l' := #[true, true, true, true, true, true, true, true, true, true, true, true, true, true, true, true, true, true, true, true, true, true, true, true, true, true, true, true, true, true, true, true, true, true, true, true, true, true, true, true, true, true, true, true, true, false, true, true, true, false, false, false, false, false, false]) (by rw [List.getElem?_toArray]; rfl) rfl (by kernel_rfl) (by kernel_rfl) (by kernel_rfl) rfl (fun _ _ _ h => by cases h.1) (Or.inl ⟨by rfl, fun w' hSw => by (try dsimp only at hSw); go_simp; try with_reducible rfl⟩) hSS ?_
                simp only [Act.put, List.setIfInBounds_toArray, List.set_cons_zero, List.set_cons_succ]
                refine take_one (i := 49) (d := (some 108)) (v := _) (l' := #[true, true, true, true, true, true, true, true, true, true, true, true, true, true, true, true, true, true, true, true, true, true, true, true, true, true, true, true, true, true, true, true, true, true, true, true, true, true, true, true, true, true, true, true, true, false, true, true, true, true, false, false, false, false, false]) (by rw [List.getElem?_toArray]; rfl) rfl (by kernel_rfl) (by kernel_rfl) (by kernel_rfl) rfl (fun _ _ _ h => by cases h.1) (Or.inl ⟨by rfl, fun w' hSw => by (try dsimp only at hSw); go_simp; try with_reducible rfl⟩) hSS ?_
                simp only [Act.put, List.setIfInBounds_toArray, List.set_cons_zero, List.set_cons_succ]
                refine take_one (i := 50) (d := (some 109)) (v := _) (l' := #[true, true, true, true, true, true, true, true, true, true, true, true, true, true, true, true, true, true, true, true, true, true, true, true, true, true, true, true, true, true, true, true, true, true, true, true, true, true, true, true, true, true, true, true, true, false, true, true, true, true, true, false, false, false, false]) (by rw [List.getElem?_toArray]; rfl) rfl (by kernel_rfl) (by kernel_rfl) (by kernel_rfl) rfl (fun _ _ _ h => by cases h.1) (Or.inl ⟨by rfl, fun w' hSw => by (try dsimp only at hSw); go_simp; try with_reducible rfl⟩) hSS ?_
                simp only [Act.put, List.setIfInBounds_toArray, List.set_cons_zero, List.set_cons_succ]
                refine take_one (i := 51) (d := (some 110)) (v := _) (l' := #[true, true, true, true, true, true, true, true, true, true, true, true, true, true, true, true, true, true, true, true, true, true, true, true, true, true, true, true, true, true, true, true, true, true, true, true, true, true, true, true, true, true, true, true, true, false, true, true, true, true, true, true, false, false, false]) (by rw [List.getElem?_toArray]; rfl) rfl (by kernel_rfl) (by kernel_rfl) (by kernel_rfl) rfl (fun _ _ _ h => by cases h.1) (Or.inl ⟨by rfl, fun w' hSw => by (try dsimp only at hSw); go_simp; try with_reducible rfl⟩) hSS ?_
                simp only [Act.put, List.setIfInBounds_toArray, List.set_cons_zero, List.set_cons_succ]
                refine come_one (i := 45) (l' := #[true, true, true, true, true, true, true, true, true, true, true, true, true, true, true, true, true, true, true, true, true, true, true, true, true, true, true, true, true, true, true, true, true, true, true, true, true, true, true, true, true, true, true, true, true, true, true, true, true, true, true, true, false, false, false]) (by rw [List.getElem?_toArray]; rfl) (by kernel_rfl) rfl (fun K' hK => ?_)
                go_simp
                go_at_call 22; refine (C3.out wh2 hh2).mono ?_; rintro e wh3 ⟨rfl, hbz⟩; have hh3 : Below wr.heap.size wr wh3 := (show Below wr.heap.size wr wh2 from hh2).trans (hbz.mono (show Below wr.heap.size wr wh2 from hh2).size); clear hbz
                refine hK.out _ _ ⟨Nd.cell_keeps hh3 z0, Nd.cell_keeps hh3 z1⟩ (fun hSS => ?_)
                try simp only [Act.put, List.setIfInBounds_toArray, List.set_cons_zero, List.set_cons_succ]
                refine come_one (i := 52) (l' := #[true, true, true, true, true, true, true, true, true, true, true, true, true, true, true, true, true, true, true, true, true, true, true, true, true, true, true, true, true, true, true, true, true, true, true, true, true, true, true, true, true, true, true, true, true, true, true, true, true, true, true, true, true, false, false]) (by rw [List.getElem?_toArray]; rfl) (by kernel_rfl) rfl (fun K' hK => ?_)
                go_simp
                go_at_call 22; refine (C4.out wh3 hh3).mono ?_; rintro e wh4 ⟨rfl, hbz⟩; have hh4 : Below wr.heap.size wr wh4 := (show Below wr.heap.size wr wh3 from hh3).trans (hbz.mono (show Below wr.heap.size wr wh3 from hh3).size); clear hbz
                refine hK.out _ _ ⟨Nd.cell_keeps hh4 z0, Nd.cell_keeps hh4 z1⟩ (fun hSS => ?_)
                try simp only [Act.put, List.setIfInBounds_toArray, List.set_cons_zero, List.set_cons_succ]
                refine take_one (i := 53) (d := (some 112)) (v := _) (l' := #[true, true, true, true, true, true, true, true, true, true, true, true, true, true, true, true, true, true, true, true, true, true, true, true, true, true, true, true, true, true, true, true, true, true, true, true, true, true, true, true, true, true, true, true, true, true, true, true, true, true, true, true, true, true, false]) (by rw [List.getElem?_toArray]; rfl) rfl (by kernel_rfl) (by kernel_rfl) (by kernel_rfl) rfl (fun _ _ _ h => by cases h.1) (Or.inl ⟨by rfl, fun w' hSw => by (try dsimp only at hSw); go_simp; try with_reducible rfl⟩) hSS ?_
                simp only [Act.put, List.setIfInBounds_toArray, List.set_cons_zero, List.set_cons_succ]
                refine take_one (i := 54) (d := (some 113)) (v := _) (l' := #[true, true, true, true, true, true, true, true, true, true, true, true, true, true, true, true, true, true, true, true, true, true, true, true, true, true, true, true, true, true, true, true, true, true, true, true, true, true, true, true, true, true, true, true, true, true, true, true, true, true, true, true, true, true, true]) (by rw [List.getElem?_toArray]; rfl) rfl (by kernel_rfl) (by kernel_rfl) (by kernel_rfl) rfl (fun _ _ _ h => by cases h.1) (Or.inl ⟨by rfl, fun w' hSw => by (try dsimp only at hSw); go_simp; try with_reducible rfl⟩) hSS ?_
                simp only [Act.put, List.setIfInBounds_toArray, List.set_cons_zero, List.set_cons_succ]
                refine wpAnyH_done (by kernel_rfl) ?_ _
                refine ⟨rfl, ?_⟩
                go_wp2_with fail
                exact ⟨⟨k + 1 + 1, by omega, by go_num, Lib.hid (BW.out.trans (hh4.mono BW.out.size))⟩, by simp [intOf]; omega⟩
              · have q2 : (P1 == P2) = false := by rw [beq_eq_false_iff_ne]; exact hPP
                clear htwo htouch
                refine wp_calm ?_
                refine wp_region_held_drew (S := fun w' : World => w'.cell? ⟨g, o + k * 2 + 1, none⟩ = some (.int .i32 qhi) ∧ w'.cell? ⟨g, o + (k + 1) * 2, none⟩ = some (.int .i32 rlo)) (by kernel_rfl) ⟨z0, z1⟩ (fun hSS => ?_)
                show wpAnyH _ _ _ _ _ 55 #[false, false, false, false, false, false, false, false, false, false, false, false, false, false, false, false, false, false, false, false, false, false, false, false, false, false, false, false, false, false, false, false, false, false, false, false, false, false, false, false, false, false, false, false, false, false, false, false, false, false, false, false, false, false, false] _ _
                refine take_one (i := 0) (d := (some 59)) (v := _) (l' := #[true, false, false, false, false, false, false, false, false, false, false, false, false, false, false, false, false, false, false, false, false, false, false, false, false, false, false, false, false, false, false, false, false, false, false, false, false, false, false, false, false, false, false, false, false, false, false, false, false, false, false, false, false, false, false]) (by rw [List.getElem?_toArray]; rfl) rfl (by kernel_rfl) (by kernel_rfl) (by kernel_rfl) rfl (fun _ _ _ h => by cases h.1) (Or.inl ⟨by rfl, fun w' hSw => by (try dsimp only at hSw); go_simp; try with_reducible rfl⟩) hSS ?_
                simp only [Act.put, List.setIfInBounds_toArray, List.set_cons_zero, List.set_cons_succ]
                refine take_one (i := 1) (d := (some 60)) (v := _) (l' := #[true, true, false, false, false, false, false, false, false, false, false, false, false, false, false, false, false, false, false, false, false, false, false, false, false, false, false, false, false, false, false, false, false, false, false, false, false, false, false, false, false, false, false, false, false, false, false, false, false, false, false, false, false, false, false]) (by rw [List.getElem?_toArray]; rfl) rfl (by kernel_rfl) (by kernel_rfl) (by kernel_rfl) rfl (fun _ _ _ h => by cases h.1) (Or.inl ⟨by rfl, fun w' hSw => by (try dsimp only at hSw); go_simp; try with_reducible rfl⟩) hSS ?_
                simp only [Act.put, List.setIfInBounds_toArray, List.set_cons_zero, List.set_cons_succ]
                refine take_one (i := 2) (d := (some 61)) (v := _) (l' := #[true, true, true, false, false, false, false, false, false, false, false, false, false, false, false, false, false, false, false, false, false, false, false, false, false, false, false, false, false, false, false, false, false, false, false, false, false, false, false, false, false, false, false, false, false, false, false, false, false, false, false, false, false, false, false]) (by rw [List.getElem?_toArray]; rfl) rfl (by kernel_rfl) (by kernel_rfl) (by kernel_rfl) rfl (fun _ _ _ h => by cases h.1) (Or.inl ⟨by rfl, fun w' hSw => by (try dsimp only at hSw); go_simp; try with_reducible rfl⟩) hSS ?_
                simp only [Act.put, List.setIfInBounds_toArray, List.set_cons_zero, List.set_cons_succ]
                refine take_one (i := 3) (d := (some 62)) (v := _) (l' := #[true, true, true, true, false, false, false, false, false, false, false, false, false, false, false, false, false, false, false, false, false, false, false, false, false, false, false, false, false, false, false, false, false, false, false, false, false, false, false, false, false, false, false, false, false, false, false, false, false, false, false, false, false, false, false]) (by rw [List.getElem?_toArray]; rfl) rfl (by kernel_rfl) (by kernel_rfl) (by kernel_rfl) rfl (fun _ _ _ h => by cases h.1) (Or.inl ⟨by rfl, fun w' hSw => by (try dsimp only at hSw); go_simp; try with_reducible rfl⟩) hSS ?_
                simp only [Act.put, List.setIfInBounds_toArray, List.set_cons_zero, List.set_cons_succ]
                refine take_one (i := 4) (d := (some 63)) (v := _) (l' := #[true, true, true, true, true, false, false, false, false, false, false, false, false, false, false, false, false, false, false, false, false, false, false, false, false, false, false, false, false, false, false, false, false, false, false, false, false, false, false, false, false, false, false, false, false, false, false, false, false, false, false, false, false, false, false]) (by rw [List.getElem?_toArray]; rfl) rfl (by kernel_rfl) (by kernel_rfl) (by kernel_rfl) rfl (fun _ _ _ h => by cases h.1) (Or.inl ⟨by rfl, fun w' hSw => by (try dsimp only at hSw); go_simp; try with_reducible rfl⟩) hSS ?_
                simp only [Act.put, List.setIfInBounds_toArray, List.set_cons_zero, List.set_cons_succ]
                refine take_one (i := 5) (d := (some 64)) (v := _) (l' := #[true, true, true, true, true, true, false, false, false, false, false, false, false, false, false, false, false, false, false, false, false, false, false, false, false, false, false, false, false, false, false, false, false, false, false, false, false, false, false, false, false, false, false, false, false, false, false, false, false, false, false, false, false, false, false]) (by rw [List.getElem?_toArray]; rfl) rfl (by kernel_rfl) (by kernel_rfl) (by kernel_rfl) rfl (fun _ _ _ h => by cases h.1) (Or.inl ⟨by rfl, fun w' hSw => by (try dsimp only at hSw); go_simp; try with_reducible rfl⟩) hSS ?_
                simp only [Act.put, List.setIfInBounds_toArray, List.set_cons_zero, List.set_cons_succ]
                refine take_one (i := 6) (d := (some 65)) (v := _) (l' := #[true, true, true, true, true, true, true, false, false, false, false, false, false, false, false, false, false, false, false, false, false, false, false, false, false, false, false, false, false, false, false, false, false, false, false, false, false, false, false, false, false, false, false, false, false, false, false, false, false, false, false, false, false, false, false]) (by rw [List.getElem?_toArray]; rfl) rfl (by kernel_rfl) (by kernel_rfl) (by kernel_rfl) rfl (fun _ _ _ h => by cases h.1) (Or.inl ⟨by rfl, fun w' hSw => by (try dsimp only at hSw); go_simp; try with_reducible rfl⟩) hSS ?_
                simp only [Act.put, List.setIfInBounds_toArray, List.set_cons_zero, List.set_cons_succ]
                refine take_one (i := 7) (d := (some 66)) (v := _) (l' := #[true, true, true, true, true, true, true, true, false, false, false, false, false, false, false, false, false, false, false, false, false, false, false, false, false, false, false, false, false, false, false, false, false, false, false, false, false, false, false, false, false, false, false, false, false, false, false, false, false, false, false, false, false, false, false]) (by rw [List.getElem?_toArray]; rfl) rfl (by kernel_rfl) (by kernel_rfl) (by kernel_rfl) rfl (fun _ _ _ h => by cases h.1) (Or.inl ⟨by rfl, fun w' hSw => by (try dsimp only at hSw); go_simp; try with_reducible rfl⟩) hSS ?_
                simp only [Act.put, List.setIfInBounds_toArray, List.set_cons_zero, List.set_cons_succ]
                refine take_one (i := 8) (d := (some 67)) (v := _) (l' := #[true, true, true, true, true, true, true, true, true, false, false, false, false, false, false, false, false, false, false, false, false, false, false, false, false, false, false, false, false, false, false, false, false, false, false, false, false, false, false, false, false, false, false, false, false, false, false, false, false, false, false, false, false, false, false]) (by rw [List.getElem?_toArray]; rfl) rfl (by kernel_rfl) (by kernel_rfl) (by kernel_rfl) rfl (fun _ _ _ h => by cases h.1) (Or.inl ⟨by rfl, fun w' hSw => by (try dsimp only at hSw); go_simp; try with_reducible rfl⟩) hSS ?_
                simp only [Act.put, List.setIfInBounds_toArray, List.set_cons_zero, List.set_cons_succ]
                refine take_one (i := 9) (d := (some 68)) (v := _) (l' := #[true, true, true, true, true, true, true, true, true, true, false, false, false, false, false, false, false, false, false, false, false, false, false, false, false, false, false, false, false, false, false, false, false, false, false, false, false, false, false, false, false, false, false, false, false, false, false, false, false, false, false, false, false, false, false]) (by rw [List.getElem?_toArray]; rfl) rfl (by kernel_rfl) (by kernel_rfl) (by kernel_rfl) rfl (fun _ _ _ h => by cases h.1) (Or.inl ⟨by rfl, fun w' hSw => by (try dsimp only at hSw); go_simp; try with_reducible rfl⟩) hSS ?_
                simp only [Act.put, List.setIfInBounds_toArray, List.set_cons_zero, List.set_cons_succ]
                refine take_one (i := 10) (d := (some 69)) (v := _) (l' := #[true, true, true, true, true, true, true, true, true, true, true, false, false, false, false, false, false, false, false, false, false, false, false, false, false, false, false, false, false, false, false, false, false, false, false, false, false, false, false, false, false, false, false, false, false, false, false, false, false, false, false, false, false, false, false]) (by rw [List.getElem?_toArray]; rfl) rfl (by kernel_rfl) (by kernel_rfl) (by kernel_rfl) rfl (fun _ _ _ h => by cases h.1) (Or.inl ⟨by rfl, fun w' hSw => by (try dsimp only at hSw); go_simp; try with_reducible rfl⟩) hSS ?_
                simp only [Act.put, List.setIfInBounds_toArray, List.set_cons_zero, List.set_cons_succ]
                refine take_one (i := 11) (d := (some 70)) (v := _) (l' := #[true, true, true, true, true, true, true, true, true, true, true, true, false, false, false, false, false, false, false, false, false, false, false, false, false, false, false, false, false, false, false, false, false, false, false, false, false, false, false, false, false, false, false, false, false, false, false, false, false, false, false, false, false, false, false]) (by rw [List.getElem?_toArray]; rfl) rfl (by kernel_rfl) (by kernel_rfl) (by kernel_rfl) rfl (fun _ _ _ h => by cases h.1) (Or.inl ⟨by rfl, fun w' hSw => by (try dsimp only at hSw); go_simp; try with_reducible rfl⟩) hSS ?_
                simp only [Act.put, List.setIfInBounds_toArray, List.set_cons_zero, List.set_cons_succ]
                refine take_one (i := 12) (d := (some 71)) (v := _) (l' := #[true, true, true, true, true, true, true, true, true, true, true, true, true, false, false, false, false, false, false, false, false, false, false, false, false, false, false, false, false, false, false, false, false, false, false, false, false, false, false, false, false, false, false, false, false, false, false, false, false, false, false, false, false, false, false]) (by rw [List.getElem?_toArray]; rfl) rfl (by kernel_rfl) (by kernel_rfl) (by kernel_rfl) rfl (fun _ _ _ h => by cases h.1) (Or.inl ⟨by rfl, fun w' hSw => by (try dsimp only at hSw); go_simp; try with_reducible rfl⟩) hSS ?_
                simp only [Act.put, List.setIfInBounds_toArray, List.set_cons_zero, List.set_cons_succ]
                refine take_one (i := 13) (d := (some 72)) (v := _) (l' := #[true, true, true, true, true, true, true, true, true, true, true, true, true, true, false, false, false, false, false, false, false, false, false, false, false, false, false, false, false, false, false, false, false, false, false, false, false, false, false, false, false, false, false, false, false, false, false, false, false, false, false, false, false, false, false]) (by rw [List.getElem?_toArray]; rfl) rfl (by kernel_rfl) (by kernel_rfl) (by kernel_rfl) rfl (fun _ _ _ h => by cases h.1) (Or.inl ⟨by rfl, fun w' hSw => by (try dsimp only at hSw); go_simp; try with_reducible rfl⟩) hSS ?_
                simp only [Act.put, List.setIfInBounds_toArray, List.set_cons_zero, List.set_cons_succ]
                refine take_one (i := 14) (d := (some 73)) (v := _) (l' := #[true, true, true, true, true, true, true, true, true, true, true, true, true, true, true, false, false, false, false, false, false, false, false, false, false, false, false, false, false, false, false, false, false, false, false, false, false, false, false, false, false, false, false, false, false, false, false, false, false, false, false, false, false, false, false]) (by rw [List.getElem?_toArray]; rfl) rfl (by kernel_rfl) (by kernel_rfl) (by kernel_rfl) rfl (fun _ _ _ h => by cases h.1) (Or.inl ⟨by rfl, fun w' hSw => by (try dsimp only at hSw); go_simp; try with_reducible rfl⟩) hSS ?_
                simp only [Act.put, List.setIfInBounds_toArray, List.set_cons_zero, List.set_cons_succ]
                refine take_one (i := 15) (d := (some 74)) (v := _) (l' := #[true, true, true, true, true, true, true, true, true, true, true, true, true, true, true, true, false, false, false, false, false, false, false, false, false, false, false, false, false, false, false, false, false, false, false, false, false, false, false, false, false, false, false, false, false, false, false, false, false, false, false, false, false, false, false]) (by rw [List.getElem?_toArray]; rfl) rfl (by kernel_rfl) (by kernel_rfl) (by kernel_rfl) rfl (fun _ _ _ h => by cases h.1) (Or.inl ⟨by rfl, fun w' hSw => by (try dsimp only at hSw); go_simp; try with_reducible rfl⟩) hSS ?_
                simp only [Act.put, List.setIfInBounds_toArray, List.set_cons_zero, List.set_cons_succ]
                refine take_one (i := 16) (d := (some 75)) (v := _) (l' := #[true, true, true, true, true, true, true, true, true, true, true, true, true, true, true, true, true, false, false, false, false, false, false, false, false, false, false, false, false, false, false, false, false, false, false, false, false, false, false, false, false, false, false, false, false, false, false, false, false, false, false, false, false, false, false]) (by rw [List.getElem?_toArray]; rfl) rfl (by kernel_rfl) (by kernel_rfl) (by kernel_rfl) rfl (fun _ _ _ h => by cases h.1) (Or.inl ⟨by rfl, fun w' hSw => by (try dsimp only at hSw); go_simp; try with_reducible rfl⟩) hSS ?_
                simp only [Act.put, List.setIfInBounds_toArray, List.set_cons_zero, List.set_cons_succ]
                refine take_one (i := 17) (d := (some 76)) (v := _) (l' := #[true, true, true, true, true, true, true, true, true, true, true, true, true, true, true, true, true, true, false, false, false, false, false, false, false, false, false, false, false, false, false, false, false, false, false, false, false, false, false, false, false, false, false, false, false, false, false, false, false, false, false, false, false, false, false]) (by rw [List.getElem?_toArray]; rfl) rfl (by kernel_rfl) (by kernel_rfl) (by kernel_rfl) rfl (fun _ _ _ h => by cases h.1) (Or.inl ⟨by rfl, fun w' hSw => by (try dsimp only at hSw); go_simp; try with_reducible rfl⟩) hSS ?_
                simp only [Act.put, List.setIfInBounds_toArray, List.set_cons_zero, List.set_cons_succ]
                refine take_one (i := 18) (d := (some 77)) (v := _) (l' := #[true, true, true, true, true, true, true, true, true, true, true, true, true, true, true, true, true, true, true, false, false, false, false, false, false, false, false, false, false, false, false, false, false, false, false, false, false, false, false, false, false, false, false, false, false, false, false, false, false, false, false, false, false, false, false]) (by rw [List.getElem?_toArray]; rfl) rfl (by kernel_rfl) (by kernel_rfl) (by kernel_rfl) rfl (fun _ _ _ h => by cases h.1) (Or.inl ⟨by rfl, fun w' hSw => by (try dsimp only at hSw); go_simp; try with_reducible rfl⟩) hSS ?_
                simp only [Act.put, List.setIfInBounds_toArray, List.set_cons_zero, List.set_cons_succ]
                refine take_one (i := 19) (d := (some 78)) (v := _) (l' := #[true, true, true, true, true, true, true, true, true, true, true, true, true, true, true, true, true, true, true, true, false, false, false, false, false, false, false, false, false, false, false, false, false, false, false, false, false, false, false, false, false, false, false, false, false, false, false, false, false, false, false, false, false, false, false]) (by rw [List.getElem?_toArray]; rfl) rfl (by kernel_rfl) (by kernel_rfl) (by kernel_rfl) rfl (fun _ _ _ h => by cases h.1) (Or.inl ⟨by rfl, fun w' hSw => by (try dsimp only at hSw); go_simp; try with_reducible rfl⟩) hSS ?_
                simp only [Act.put, List.setIfInBounds_toArray, List.set_cons_zero, List.set_cons_succ]
                refine take_one (i := 20) (d := (some 79)) (v := _) (l' := #[true, true, true, true, true, true, true, true, true, true, true, true, true, true, true, true, true, true, true, true, true, false, false, false, false, false, false, false, false, false, false, false, false, false, false, false, false, false, false, false, false, false, false, false, false, false, false, false, false, false, false, false, false, false, false]) (by rw [List.getElem?_toArray]; rfl) rfl (by kernel_rfl) (by kernel_rfl) (by kernel_rfl) rfl (fun _ _ _ h => by cases h.1) (Or.inl ⟨by rfl, fun w' hSw => by (try dsimp only at hSw); go_simp; try with_reducible rfl⟩) hSS ?_
                simp only [Act.put, List.setIfInBounds_toArray, List.set_cons_zero, List.set_cons_succ]
                refine take_one (i := 21) (d := (some 80)) (v := _) (l' := #[true, true, true, true, true, true, true, true, true, true, true, true, true, true, true, true, true, true, true, true, true, true, false, false, false, false, false, false, false, false, false, false, false, false, false, false, false, false, false, false, false, false, false, false, false, false, false, false, false, false, false, false, false, false, false]) (by rw [List.getElem?_toArray]; rfl) rfl (by kernel_rfl) (by kernel_rfl) (by kernel_rfl) rfl (fun _ _ _ h => by cases h.1) (Or.inl ⟨by rfl, fun w' hSw => by (try dsimp only at hSw); go_simp; try with_reducible rfl⟩) hSS ?_
                simp only [Act.put, List.setIfInBounds_toArray, List.set_cons_zero, List.set_cons_succ]
                refine take_one (i := 22) (d := (some 81)) (v := _) (l' := #[true, true, true, true, true, true, true, true, true, true, true, true, true, true, true, true, true, true, true, true, true, true, true, false, false, false, false, false, false, false, false, false, false, false, false, false, false, false, false, false, false, false, false, false, false, false, false, false, false, false, false, false, false, false, false]) (by rw [List.getElem?_toArray]; rfl) rfl (by kernel_rfl) (by kernel_rfl) (by kernel_rfl) rfl (fun _ _ _ h => by cases h.1) (Or.inl ⟨by rfl, fun w' hSw => by (try dsimp only at hSw); go_simp; try with_reducible rfl⟩) hSS ?_
                simp only [Act.put, List.setIfInBounds_toArray, List.set_cons_zero, List.set_cons_succ]
                refine take_one (i := 23) (d := (some 82)) (v := _) (l' := #[true, true, true, true, true, true, true, true, true, true, true, true, true, true, true, true, true, true, true, true, true, true, true, true, false, false, false, false, false, false, false, false, false, false, false, false, false, false, false, false, false, false, false, false, false, false, false, false, false, false, false, false, false, false, false]) (by rw [List.getElem?_toArray]; rfl) rfl (by kernel_rfl) (by kernel_rfl) (by kernel_rfl) rfl (fun _ _ _ h => by cases h.1) (Or.inl ⟨by rfl, fun w' hSw => by (try dsimp only at hSw); go_simp; try with_reducible rfl⟩) hSS ?_
                simp only [Act.put, List.setIfInBounds_toArray, List.set_cons_zero, List.set_cons_succ]
                refine take_one (i := 24) (d := (some 83)) (v := _) (l' := #[true, true, true, true, true, true, true, true, true, true, true, true, true, true, true, true, true, true, true, true, true, true, true, true, true, false, false, false, false, false, false, false, false, false, false, false, false, false, false, false, false, false, false, false, false, false, false, false, false, false, false, false, false, false, false]) (by rw [List.getElem?_toArray]; rfl) rfl (by kernel_rfl) (by kernel_rfl) (by kernel_rfl) rfl (fun _ _ _ h => by cases h.1) (Or.inl ⟨by rfl, fun w' hSw => by (try dsimp only at hSw); go_simp; try with_reducible rfl⟩) hSS ?_
                simp only [Act.put, List.setIfInBounds_toArray, List.set_cons_zero, List.set_cons_succ]
                refine take_one (i := 25) (d := (some 84)) (v := _) (l' := #[true, true, true, true, true, true, true, true, true, true, true, true, true, true, true, true, true, true, true, true, true, true, true, true, true, true, false, false, false, false, false, false, false, false, false, false, false, false, false, false, false, false, false, false, false, false, false, false, false, false, false, false, false, false, false]) (by rw [List.getElem?_toArray]; rfl) rfl (by kernel_rfl) (by kernel_rfl) (by kernel_rfl) rfl (fun _ _ _ h => by cases h.1) (Or.inl ⟨by rfl, fun w' hSw => by (try dsimp only at hSw); go_simp; try with_reducible rfl⟩) hSS ?_
                simp only [Act.put, List.setIfInBounds_toArray, List.set_cons_zero, List.set_cons_succ]
                refine take_one (i := 26) (d := (some 85)) (v := _) (l' := #[true, true, true, true, true, true, true, true, true, true, true, true, true, true, true, true, true, true, true, true, true, true, true, true, true, true, true, false, false, false, false, false, false, false, false, false, false, false, false, false, false, false, false, false, false, false, false, false, false, false, false, false, false, false, false]) (by rw [List.getElem?_toArray]; rfl) rfl (by kernel_rfl) (by kernel_rfl) (by kernel_rfl) rfl (fun _ _ _ h => by cases h.1) (Or.inl ⟨by rfl, fun w' hSw => by (try dsimp only at hSw); go_simp; try with_reducible rfl⟩) hSS ?_
                simp only [Act.put, List.setIfInBounds_toArray, List.set_cons_zero, List.set_cons_succ]
                refine take_one (i := 28) (d := (some 87)) (v := _) (l' := #[true, true, true, true, true, true, true, true, true, true, true, true, true, true, true, true, true, true, true, true, true, true, true, true, true, true, true, false, true, false, false, false, false, false, false, false, false, false, false, false, false, false, false, false, false, false, false, false, false, false, false, false, false, false, false]) (by rw [List.getElem?_toArray]; rfl) rfl (by kernel_rfl) (by kernel_rfl) (by kernel_rfl) rfl (fun _ _ _ h => by cases h.1) (Or.inl ⟨by rfl, fun w' hSw => by (try dsimp only at hSw); go_simp; try with_reducible rfl⟩) hSS ?_
                simp only [Act.put, List.setIfInBounds_toArray, List.set_cons_zero, List.set_cons_succ]
                refine take_one (i := 29) (d := (some 88)) (v := _) (l' := #[true, true, true, true, true, true, true, true, true, true, true, true, true, true, true, true, true, true, true, true, true, true, true, true, true, true, true, false, true, true, false, false, false, false, false, false, false, false, false, false, false, false, false, false, false, false, false, false, false, false, false, false, false, false, false]) (by rw [List.getElem?_toArray]; rfl) rfl (by kernel_rfl) (by kernel_rfl) (by kernel_rfl) rfl (fun _ _ _ h => by cases h.1) (Or.inl ⟨by rfl, fun w' hSw => by (try dsimp only at hSw); go_simp; try with_reducible rfl⟩) hSS ?_
                simp only [Act.put, List.setIfInBounds_toArray, List.set_cons_zero, List.set_cons_succ]
                refine take_one (i := 30) (d := (some 89)) (v := _) (l' := #[true, true, true, true, true, true, true, true, true, true, true, true, true, true, true, true, true, true, true, true, true, true, true, true, true, true, true, false, true, true, true, false, false, false, false, false, false, false, false, false, false, false, false, false, false, false, false, false, false, false, false, false, false, false, false]) (by rw [List.getElem?_toArray]; rfl) rfl (by kernel_rfl) (by kernel_rfl) (by kernel_rfl) rfl (fun _ _ _ h => by cases h.1) (Or.inl ⟨by rfl, fun w' hSw => by (try dsimp only at hSw); go_simp; try with_reducible rfl⟩) hSS ?_
                simp only [Act.put, List.setIfInBounds_toArray, List.set_cons_zero, List.set_cons_succ]
                refine take_one (i := 31) (d := (some 90)) (v := _) (l' := #[true, true, true, true, true, true, true, true, true, true, true, true, true, true, true, true, true, true, true, true, true, true, true, true, true, true, true, false, true, true, true, true, false, false, false, false, false, false, false, false, false, false, false, false, false, false, false, false, false, false, false, false, false, false, false]) (by rw [List.getElem?_toArray]; rfl) rfl (by kernel_rfl) (by kernel_rfl) (by kernel_rfl) rfl (fun _ _ _ h => by cases h.1) (Or.inl ⟨by rfl, fun w' hSw => by (try dsimp only at hSw); go_simp; try with_reducible rfl⟩) hSS ?_
                simp only [Act.put, List.setIfInBounds_toArray, List.set_cons_zero, List.set_cons_succ]
                refine take_one (i := 32) (d := (some 91)) (v := _) (l' := #[true, true, true, true, true, true, true, true, true, true, true, true, true, true, true, true, true, true, true, true, true, true, true, true, true, true, true, false, true, true, true, true, true, false, false, false, false, false, false, false, false, false, false, false, false, false, false, false, false, false, false, false, false, false, false]) (by rw [List.getElem?_toArray]; rfl) rfl (by kernel_rfl) (by kernel_rfl) (by kernel_rfl) rfl (fun _ _ _ h => by cases h.1) (Or.inl ⟨by rfl, fun w' hSw => by (try dsimp only at hSw); go_simp; try with_reducible rfl⟩) hSS ?_
                simp only [Act.put, List.setIfInBounds_toArray, List.set_cons_zero, List.set_cons_succ]
                refine take_one (i := 33) (d := (some 92)) (v := _) (l' := #[true, true, true, true, true, true, true, true, true, true, true, true, true, true, true, true, true, true, true, true, true, true, true, true, true, true, true, false, true, true, true, true, true, true, false, false, false, false, false, false, false, false, false, false, false, false, false, false, false, false, false, false, false, false, false]) (by rw [List.getElem?_toArray]; rfl) rfl (by kernel_rfl) (by kernel_rfl) (by kernel_rfl) rfl (fun _ _ _ h => by cases h.1) (Or.inl ⟨by rfl, fun w' hSw => by (try dsimp only at hSw); go_simp; try with_reducible rfl⟩) hSS ?_
                simp only [Act.put, List.setIfInBounds_toArray, List.set_cons_zero, List.set_cons_succ]
                refine come_one (i := 27) (l' := #[true, true, true, true, true, true, true, true, true, true, true, true, true, true, true, true, true, true, true, true, true, true, true, true, true, true, true, true, true, true, true, true, true, true, false, false, false, false, false, false, false, false, false, false, false, false, false, false, false, false, false, false, false, false, false]) (by rw [List.getElem?_toArray]; rfl) (by kernel_rfl) rfl (fun K' hK => ?_)
                go_simp
                go_at_call 22; refine (C1.out wr.drew (Below.refl _ _).drew).mono ?_; rintro e wh1 ⟨rfl, hbz⟩; have hh1 : Below wr.heap.size wr wh1 := (show Below wr.heap.size wr wr.drew from (Below.refl _ _).drew).trans (hbz.mono (show Below wr.heap.size wr wr.drew from (Below.refl _ _).drew).size); clear hbz
                refine hK.out _ _ ⟨Nd.cell_keeps hh1 z0, Nd.cell_keeps hh1 z1⟩ (fun hSS => ?_)
                try simp only [Act.put, List.setIfInBounds_toArray, List.set_cons_zero, List.set_cons_succ]
                refine come_one (i := 34) (l' := #[true, true, true, true, true, true, true, true, true, true, true, true, true, true, true, true, true, true, true, true, true, true, true, true, true, true, true, true, true, true, true, true, true, true, true, false, false, false, false, false, false, false, false, false, false, false, false, false, false, false, false, false, false, false, false]) (by rw [List.getElem?_toArray]; rfl) (by kernel_rfl) rfl (fun K' hK => ?_)
                go_simp
                go_at_call 22; refine (C2.out wh1 hh1).mono ?_; rintro e wh2 ⟨rfl, hbz⟩; have hh2 : Below wr.heap.size wr wh2 := (show Below wr.heap.size wr wh1 from hh1).trans (hbz.mono (show Below wr.heap.size wr wh1 from hh1).size); clear hbz
                refine hK.out _ _ ⟨Nd.cell_keeps hh2 z0, Nd.cell_keeps hh2 z1⟩ (fun hSS => ?_)
                try simp only [Act.put, List.setIfInBounds_toArray, List.set_cons_zero, List.set_cons_succ]
                refine take_one (i := 35) (d := (some 94)) (v := _) (l' := #[true, true, true, true, true, true, true, true, true, true, true, true, true, true, true, true, true, true, true, true, true, true, true, true, true, true, true, true, true, true, true, true, true, true, true, true, false, false, false, false, false, false, false, false, false, false, false, false, false, false, false, false, false, false, false]) (by rw [List.getElem?_toArray]; rfl) rfl (by kernel_rfl) (by kernel_rfl) (by kernel_rfl) rfl (fun _ _ _ h => by cases h.1) (Or.inl ⟨by rfl, fun w' hSw => by (try dsimp only at hSw); go_simp; try with_reducible rfl⟩) hSS ?_
                simp only [Act.put, List.setIfInBounds_toArray, List.set_cons_zero, List.set_cons_succ]
                refine take_one (i := 36) (d := (some 95)) (v := _) (l' := #[true, true, true, true, true, true, true, true, true, true, true, true, true, true, true, true, true, true, true, true, true, true, true, true, true, true, true, true, true, true, true, true, true, true, true, true, true, false, false, false, false, false, false, false, false, false, false, false, false, false, false, false, false, false, false]) (by rw [List.getElem?_toArray]; rfl) rfl (by kernel_rfl) (by kernel_rfl) (by kernel_rfl) rfl (fun _ _ _ h => by cases h.1) (Or.inl ⟨by rfl, fun w' hSw => by (try dsimp only at hSw); go_simp; try with_reducible rfl⟩) hSS ?_
                simp only [Act.put, List.setIfInBounds_toArray, List.set_cons_zero, List.set_cons_succ]
                refine take_one (i := 37) (d := (some 96)) (v := _) (l' := #[true, true, true, true, true, true, true, true, true, true, true, true, true, true, true, true, true, true, true, true, true, true, true, true, true, true, true, true, true, true, true, true, true, true, true, true, true, true, false, false, false, false, false, false, false, false, false, false, false, false, false, false, false, false, false]) (by rw [List.getElem?_toArray]; rfl) rfl (by kernel_rfl) (by kernel_rfl) (by kernel_rfl) rfl (fun _ _ _ h => by cases h.1) (Or.inl ⟨by rfl, fun w' hSw => by (try dsimp only at hSw); go_simp; try with_reducible rfl⟩) hSS ?_
                simp only [Act.put, List.setIfInBounds_toArray, List.set_cons_zero, List.set_cons_succ]
                refine take_one (i := 38) (d := (some 97)) (v := undef) (l' := #[true, true, true, true, true, true, true, true, true, true, true, true, true, true, true, true, true, true, true, true, true, true, true, true, true, true, true, true, true, true, true, true, true, true, true, true, true, true, true, false, false, false, false, false, false, false, false, false, false, false, false, false, false, false, false]) (by rw [List.getElem?_toArray]; rfl) rfl (by kernel_rfl) (by kernel_rfl) (by kernel_rfl) rfl (fun _ _ _ h => by cases h.1) (Or.inr ⟨by rfl, rfl⟩) hSS ?_
                simp only [Act.put, List.setIfInBounds_toArray, List.set_cons_zero, List.set_cons_succ]
                refine take_one (i := 39) (d := (some 98)) (v := undef) (l' := #[true, true, true, true, true, true, true, true, true, true, true, true, true, true, true, true, true, true, true, true, true, true, true, true, true, true, true, true, true, true, true, true, true, true, true, true, true, true, true, true, false, false, false, false, false, false, false, false, false, false, false, false, false, false, false]) (by rw [List.getElem?_toArray]; rfl) rfl (by kernel_rfl) (by kernel_rfl) (by kernel_rfl) rfl (fun _ _ _ h => by cases h.1) (Or.inr ⟨by rfl, rfl⟩) hSS ?_
                simp only [Act.put, List.setIfInBounds_toArray, List.set_cons_zero, List.set_cons_succ]
                refine take_one (i := 40) (d := (some 99)) (v := undef) (l' := #[true, true, true, true, true, true, true, true, true, true, true, true, true, true, true, true, true, true, true, true, true, true, true, true, true, true, true, true, true, true, true, true, true, true, true, true, true, true, true, true, true, false, false, false, false, false, false, false, false, false, false, false, false, false, false]) (by rw [List.getElem?_toArray]; rfl) rfl (by kernel_rfl) (by kernel_rfl) (by kernel_rfl) rfl (fun _ _ _ h => by cases h.1) (Or.inr ⟨by rfl, rfl⟩) hSS ?_
                simp only [Act.put, List.setIfInBounds_toArray, List.set_cons_zero, List.set_cons_succ]
                refine take_one (i := 41) (d := (some 100)) (v := undef) (l' := #[true, true, true, true, true, true, true, true, true, true, true, true, true, true, true, true, true, true, true, true, true, true, true, true, true, true, true, true, true, true, true, true, true, true, true, true, true, true, true, true, true, true, false, false, false, false, false, false, false, false, false, false, false, false, false]) (by rw [List.getElem?_toArray]; rfl) rfl (by kernel_rfl) (by kernel_rfl) (by kernel_rfl) rfl (fun _ _ _ h => by cases h.1) (Or.inr ⟨by rfl, rfl⟩) hSS ?_
                simp only [Act.put, List.setIfInBounds_toArray, List.set_cons_zero, List.set_cons_succ]
                refine take_one (i := 42) (d := (some 101)) (v := undef) (l' := #[true, true, true, true, true, true, true, true, true, true, true, true, true, true, true, true, true, true, true, true, true, true, true, true, true, true, true, true, true, true, true, true, true, true, true, true, true, true, true, true, true, true, true, false, false, false, false, false, false, false, false, false, false, false, false]) (by rw [List.getElem?_toArray]; rfl) rfl (by kernel_rfl) (by kernel_rfl) (by kernel_rfl) rfl (fun _ _ _ h => by cases h.1) (Or.inr ⟨by rfl, rfl⟩) hSS ?_
                simp only [Act.put, List.setIfInBounds_toArray, List.set_cons_zero, List.set_cons_succ]
                refine take_one (i := 43) (d := (some 102)) (v := undef) (l' := #[true, true, true, true, true, true, true, true, true, true, true, true, true, true, true, true, true, true, true, true, true, true, true, true, true, true, true, true, true, true, true, true, true, true, true, true, true, true, true, true, true, true, true, true, false, false, false, false, false, false, false, false, false, false, false]) (by rw [List.getElem?_toArray]; rfl) rfl (by kernel_rfl) (by kernel_rfl) (by kernel_rfl) rfl (fun _ _ _ h => by cases h.1) (Or.inr ⟨by rfl, rfl⟩) hSS ?_
                simp only [Act.put, List.setIfInBounds_toArray, List.set_cons_zero, List.set_cons_succ]
                refine take_one (i := 44) (d := (some 103)) (v := undef) (l' := #[true, true, true, true, true, true, true, true, true, true, true, true, true, true, true, true, true, true, true, true, true, true, true, true, true, true, true, true, true, true, true, true, true, true, true, true, true, true, true, true, true, true, true, true, true, false, false, false, false, false, false, false, false, false, false]) (by rw [List.getElem?_toArray]; rfl) rfl (by kernel_rfl) (by kernel_rfl) (by kernel_rfl) rfl (fun _ _ _ h => by cases h.1) (Or.inr ⟨by rfl, rfl⟩) hSS ?_
                simp only [Act.put, List.setIfInBounds_toArray, List.set_cons_zero, List.set_cons_succ]
                refine take_one (i := 46) (d := (some 105)) (v := undef) (l' := #[true, true, true, true, true, true, true, true, true, true, true, true, true, true, true, true, true, true, true, true, true, true, true, true, true, true, true, true, true, true, true, true, true, true, true, true, true, true, true, true, true, true, true, true, true, false, true, false, false, false, false, false, false, false, false]) (by rw [List.getElem?_toArray]; rfl) rfl (by kernel_rfl) (by kernel_rfl) (by kernel_rfl) rfl (fun _ _ _ h => by cases h.1) (Or.inr ⟨by rfl, rfl⟩) hSS ?_
                simp only [Act.put, List.setIfInBounds_toArray, List.set_cons_zero, List.set_cons_succ]
                refine take_one (i := 47) (d := (some 106)) (v := undef) (l' := #[true, true, true, true, true, true, true, true, true, true, true, true, true, true, true, true, true, true, true, true, true, true, true, true, true, true, true, true, true, true, true, true, true, true, true, true, true, true, true, true, true, true, true, true, true, false, true, true, false, false, false, false, false, false, false]) (by rw [List.getElem?_toArray]; rfl) rfl (by kernel_rfl) (by kernel_rfl) (by kernel_rfl) rfl (fun _ _ _ h => by cases h.1) (Or.inr ⟨by rfl, rfl⟩) hSS ?_
                simp only [Act.put, List.setIfInBounds_toArray, List.set_cons_zero, List.set_cons_succ]
                refine take_one (i := 48) (d := (some 107)) (v := undef) (l' := #[true, true, true, true, true, true, true, true, true, true, true, true, true, true, true, true, true, true, true, true, true, true, true, true, true, true, true, true, true, true, true, true, true, true, true, true, true, true, true, true, true, true, true, true, true, false, true, true, true, false, false, false, false, false, false]) (by rw [List.getElem?_toArray]; rfl) rfl (by kernel_rfl) (by kernel_rfl) (by kernel_rfl) rfl (fun _ _ _ h => by cases h.1) (Or.inr ⟨by rfl, rfl⟩) hSS ?_
                simp only [Act.put, List.setIfInBounds_toArray, List.set_cons_zero, List.set_cons_succ]
                refine take_one (i := 49) (d := (some 108)) (v := undef) (l' := #[true, true, true, true, true, true, true, true, true, true, true, true, true, true, true, true, true, true, true, true, true, true, true, true, true, true, true, true, true, true, true, true, true, true, true, true, true, true, true, true, true, true, true, true, true, false, true, true, true, true, false, false, false, false, false]) (by rw [List.getElem?_toArray]; rfl) rfl (by kernel_rfl) (by kernel_rfl) (by kernel_rfl) rfl (fun _ _ _ h => by cases h.1) (Or.inr ⟨by rfl, rfl⟩) hSS ?_
                simp only [Act.put, List.setIfInBounds_toArray, List.set_cons_zero, List.set_cons_succ]
                refine take_one (i := 50) (d := (some 109)) (v := undef) (l' := #[true, true, true, true, true, true, true, true, true, true, true, true, true, true, true, true, true, true, true, true, true, true, true, true, true, true, true, true, true, true, true, true, true, true, true, true, true, true, true, true, true, true, true, true, true, false, true, true, true, true, true, false, false, false, false]) (by rw [List.getElem?_toArray]; rfl) rfl (by kernel_rfl) (by kernel_rfl) (by kernel_rfl) rfl (fun _ _ _ h => by cases h.1) (Or.inr ⟨by rfl, rfl⟩) hSS ?_
                simp only [Act.put, List.setIfInBounds_toArray, List.set_cons_zero, List.set_cons_succ]
                refine take_one (i := 51) (d := (some 110)) (v := undef) (l' := #[true, true, true, true, true, true, true, true, true, true, true, true, true, true, true, true, true, true, true, true, true, true, true, true, true, true, true, true, true, true, true, true, true, true, true, true, true, true, true, true, true, true, true, true, true, false, true, true, true, true, true, true, false, false, false]) (by rw [List.getElem?_toArray]; rfl) rfl (by kernel_rfl) (by kernel_rfl) (by kernel_rfl) rfl (fun _ _ _ h => by cases h.1) (Or.inr ⟨by rfl, rfl⟩) hSS ?_
                simp only [Act.put, List.setIfInBounds_toArray, List.set_cons_zero, List.set_cons_succ]
                refine take_one (i := 45) (d := (some 104)) (v := undef) (l' := #[true, true, true, true, true, true, true, true, true, true, true, true, true, true, true, true, true, true, true, true, true, true, true, true, true, true, true, true, true, true, true, true, true, true, true, true, true, true, true, true, true, true, true, true, true, true, true, true, true, true, true, true, false, false, false]) (by rw [List.getElem?_toArray]; rfl) rfl (by kernel_rfl) (by kernel_rfl) (by kernel_rfl) rfl (fun _ _ _ h => by cases h.1) (Or.inr ⟨by rfl, rfl⟩) hSS ?_
                simp only [Act.put, List.setIfInBounds_toArray, List.set_cons_zero, List.set_cons_succ]
                refine take_one (i := 52) (d := (some 111)) (v := undef) (l' := #[true, true, true, true, true, true, true, true, true, true, true, true, true, true, true, true, true, true, true, true, true, true, true, true, true, true, true, true, true, true, true, true, true, true, true, true, true, true, true, true, true, true, true, true, true, true, true, true, true, true, true, true, true, false, false]) (by rw [List.getElem?_toArray]; rfl) rfl (by kernel_rfl) (by kernel_rfl) (by kernel_rfl) rfl (fun _ _ _ h => by cases h.1) (Or.inr ⟨by rfl, rfl⟩) hSS ?_
                simp only [Act.put, List.setIfInBounds_toArray, List.set_cons_zero, List.set_cons_succ]
                refine take_one (i := 53) (d := (some 112)) (v := undef) (l' := #[true, true, true, true, true, true, true, true, true, true, true, true, true, true, true, true, true, true, true, true, true, true, true, true, true, true, true, true, true, true, true, true, true, true, true, true, true, true, true, true, true, true, true, true, true, true, true, true, true, true, true, true, true, true, false]) (by rw [List.getElem?_toArray]; rfl) rfl (by kernel_rfl) (by kernel_rfl) (by kernel_rfl) rfl (fun _ _ _ h => by cases h.1) (Or.inr ⟨by rfl, rfl⟩) hSS ?_
                simp only [Act.put, List.setIfInBounds_toArray, List.set_cons_zero, List.set_cons_succ]
                refine take_one (i := 54) (d := (some 113)) (v := _) (l' := #[true, true, true, true, true, true, true, true, true, true, true, true, true, true, true, true, true, true, true, true, true, true, true, true, true, true, true, true, true, true, true, true, true, true, true, true, true, true, true, true, true, true, true, true, true, true, true, true, true, true, true, true, true, true, true]) (by rw [List.getElem?_toArray]; rfl) rfl (by kernel_rfl) (by kernel_rfl) (by kernel_rfl) rfl (fun _ _ _ h => by cases h.1) (Or.inl ⟨by rfl, fun w' hSw => by (try dsimp only at hSw); go_simp; try with_reducible rfl⟩) hSS ?_
                simp only [Act.put, List.setIfInBounds_toArray, List.set_cons_zero, List.set_cons_succ]
                refine wpAnyH_done (by kernel_rfl) ?_ _
                refine ⟨rfl, ?_⟩
                go_wp2_with fail
                exact ⟨⟨k + 1 + 1, by omega, by go_num, Lib.hid (BW.out.trans (hh2.mono BW.out.size))⟩, by simp [intOf]; omega⟩
            · have q1 : (qhi + 1 == rlo) = false := by rw [beq_eq_false_iff_ne]; exact htouch
              clear hq
              go_quiet (fail)
              go_wp2_with fail
              exact ⟨⟨k + 1 + 1, by omega, by go_num, Lib.hid (below_drewN BW.out _)⟩, by simp [intOf]; omega⟩
    · have d2 : decide (p < N) = false := by rw [decide_eq_false_iff_not]; exact hlt
      clear d2
      have d2 : decide ((p : Int) < (N : Int)) = false := by rw [decide_eq_false_iff_not]; omega
      have ra := Lib.hid (RA.out wr (B1.out.trans (hB.out.mono B1.out.size)))
      have rb := Lib.hid (RB.out wr (B1.out.trans (hB.out.mono B1.out.size)))
      have rl := Lib.hid (RL1.out wr hB.out)
      have HB := Lib.hid (show Below w.heap.size w wr from B1.out.trans (hB.out.mono B1.out.size))
      go_wp2_with fail
      refine (NeatRn_any ll _ _ rl.out (by have := HNL.out; have := HN.out; omega) HI.out).mono ?_
      rintro e w1 ⟨vn, ln, rfl, ho, hr, hi, hn, hb⟩
      replace HB := Lib.hid (HB.out.trans (hb.mono HB.out.size))
      replace ra := Lib.hid (ra.out.below hb)
      replace rb := Lib.hid (rb.out.below hb)
      replace rl := Lib.hid (rl.out.below hb)
      have rn := Lib.hid ho.rl
      have Hn := Lib.hid hr
      have NN := Lib.hid (show ln.length ≤ 960 from by have := HNL.out; have := HN.out; omega)
      clear ho hr hi hn
      clear hb
      go_wp2_with fail
      refine (Union_any [a, b] _ _ (RLL_two ra.out rb.out) (by have := HNA.out; have := HNB.out; have := HA.out; have := HB4.out; simp only [total]; omega) (by simp) (fun l hl => by simp at hl; rcases hl with rfl | rfl; exact HIa.out; exact HIb.out)).mono ?_
      rintro e w2 ⟨vu, lu, rfl, ho, hr, hi, hn, hb⟩
      replace hb := ((Below.refl _ w1).alloc (Nat.le_refl _) _).trans (hb.mono (by rw [World.size_alloc]; exact Nat.le_succ _))
      replace HB := Lib.hid (HB.out.trans (hb.mono HB.out.size))
      replace ra := Lib.hid (ra.out.below hb)
      replace rb := Lib.hid (rb.out.below hb)
      replace rl := Lib.hid (rl.out.below hb)
      replace rn := Lib.hid (rn.out.below hb)
      have ru := Lib.hid ho.rl
      have e1 : ln = lu := Runs.unique _ _ _ Hn.out (Runs.congr _ _ (fun y hy => by rw [anyB_2, split_has HR.out y hy]) hr)
      subst e1
      clear ho hr hi hn
      clear hb
      go_wp2_with fail
      refine (SameRn_any ln ln _ _ _ rn.out ru.out (by have := NN.out; omega) (by have := NN.out; omega)).mono ?_
      rintro e w3 ⟨rfl, hb⟩
      replace HB := Lib.hid (HB.out.trans (hb.mono HB.out.size))
      replace ra := Lib.hid (ra.out.below hb)
      replace rb := Lib.hid (rb.out.below hb)
      replace rl := Lib.hid (rl.out.below hb)
      replace rn := Lib.hid (rn.out.below hb)
      replace ru := Lib.hid (ru.out.below hb)
      clear hb
      simp only [decide_true]
      go_wp2_with fail
      refine (ClassRn_any ll _ x _ rl.out (by have := HNL.out; have := HN.out; omega)).mono ?_
      rintro e w4 ⟨rfl, hb⟩
      replace HB := Lib.hid (HB.out.trans (hb.mono HB.out.size))
      replace ra := Lib.hid (ra.out.below hb)
      replace rb := Lib.hid (rb.out.below hb)
      replace rl := Lib.hid (rl.out.below hb)
      replace rn := Lib.hid (rn.out.below hb)
      replace ru := Lib.hid (ru.out.below hb)
      clear hb
      have EC : decide (0 ≤ cls ll x) = (hasB a x || hasB b x) := by rw [cls_has, split_has HR.out x HX.out]
      have HC := Lib.hid (fun wx (h : RL wx (.slice A NA cA) a) => HasRn_any a _ x wx h (by have := HNA.out; have := HA.out; omega))
      have HD := Lib.hid (fun wx (h : RL wx (.slice B NB cB) b) => HasRn_any b _ x wx h (by have := HNB.out; have := HB4.out; omega))
      generalize cls ll x = CI at *
      generalize hasB a x = p at *
      generalize hasB b x = q at *
      cases p <;> cases q
      · have EC2 : decide (0 ≤ CI) = false := EC
        clear EC
        go_wp2_with fail
        refine (HC.out _ ra.out).mono ?_
        rintro e w5 ⟨rfl, hb⟩
        replace HB := Lib.hid (HB.out.trans (hb.mono HB.out.size))
        replace ra := Lib.hid (ra.out.below hb)
        replace rb := Lib.hid (rb.out.below hb)
        replace rl := Lib.hid (rl.out.below hb)
        replace rn := Lib.hid (rn.out.below hb)
        replace ru := Lib.hid (ru.out.below hb)
        clear hb
        go_wp2_with fail
        refine (HD.out _ rb.out).mono ?_
        rintro e w6 ⟨rfl, hb⟩
        replace HB := Lib.hid (HB.out.trans (hb.mono HB.out.size))
        replace ra := Lib.hid (ra.out.below hb)
        replace rb := Lib.hid (rb.out.below hb)
        replace rl := Lib.hid (rl.out.below hb)
        replace rn := Lib.hid (rn.out.below hb)
        replace ru := Lib.hid (ru.out.below hb)
        clear hb
        go_wp2_with fail
        refine (livesRn_true _).mono ?_
        rintro e w7 ⟨rfl, hb⟩
        replace HB := Lib.hid (HB.out.trans (hb.mono HB.out.size))
        replace ra := Lib.hid (ra.out.below hb)
        replace rb := Lib.hid (rb.out.below hb)
        replace rl := Lib.hid (rl.out.below hb)
        replace rn := Lib.hid (rn.out.below hb)
        replace ru := Lib.hid (ru.out.below hb)
        clear hb
        go_wp2_with fail
        go_ret
        exact ⟨rfl, HB.out⟩
      · have EC2 : decide (0 ≤ CI) = true := EC
        clear EC
        go_wp2_with fail
        refine (HC.out _ ra.out).mono ?_
        rintro e w5 ⟨rfl, hb⟩
        replace HB := Lib.hid (HB.out.trans (hb.mono HB.out.size))
        replace ra := Lib.hid (ra.out.below hb)
        replace rb := Lib.hid (rb.out.below hb)
        replace rl := Lib.hid (rl.out.below hb)
        replace rn := Lib.hid (rn.out.below hb)
        replace ru := Lib.hid (ru.out.below hb)
        clear hb
        go_wp2_with fail
        refine (HD.out _ rb.out).mono ?_
        rintro e w6 ⟨rfl, hb⟩
        replace HB := Lib.hid (HB.out.trans (hb.mono HB.out.size))
        replace ra := Lib.hid (ra.out.below hb)
        replace rb := Lib.hid (rb.out.below hb)
        replace rl := Lib.hid (rl.out.below hb)
        replace rn := Lib.hid (rn.out.below hb)
        replace ru := Lib.hid (ru.out.below hb)
        clear hb
        go_wp2_with fail
        refine (livesRn_true _).mono ?_
        rintro e w7 ⟨rfl, hb⟩
        replace HB := Lib.hid (HB.out.trans (hb.mono HB.out.size))
        replace ra := Lib.hid (ra.out.below hb)
        replace rb := Lib.hid (rb.out.below hb)
        replace rl := Lib.hid (rl.out.below hb)
        replace rn := Lib.hid (rn.out.below hb)
        replace ru := Lib.hid (ru.out.below hb)
        clear hb
        go_wp2_with fail
        go_ret
        exact ⟨rfl, HB.out⟩
      · have EC2 : decide (0 ≤ CI) = true := EC
        clear EC
        go_wp2_with fail
        refine (HC.out _ ra.out).mono ?_
        rintro e w5 ⟨rfl, hb⟩
        replace HB := Lib.hid (HB.out.trans (hb.mono HB.out.size))
        replace ra := Lib.hid (ra.out.below hb)
        replace rb := Lib.hid (rb.out.below hb)
        replace rl := Lib.hid (rl.out.below hb)
        replace rn := Lib.hid (rn.out.below hb)
        replace ru := Lib.hid (ru.out.below hb)
        clear hb
        go_wp2_with fail
        refine (livesRn_true _).mono ?_
        rintro e w6 ⟨rfl, hb⟩
        replace HB := Lib.hid (HB.out.trans (hb.mono HB.out.size))
        replace ra := Lib.hid (ra.out.below hb)
        replace rb := Lib.hid (rb.out.below hb)
        replace rl := Lib.hid (rl.out.below hb)
        replace rn := Lib.hid (rn.out.below hb)
        replace ru := Lib.hid (ru.out.below hb)
        clear hb
        go_wp2_with fail
        go_ret
        exact ⟨rfl, HB.out⟩
      · have EC2 : decide (0 ≤ CI) = true := EC
        clear EC
        go_wp2_with fail
        refine (HC.out _ ra.out).mono ?_
        rintro e w5 ⟨rfl, hb⟩
        replace HB := Lib.hid (HB.out.trans (hb.mono HB.out.size))
        replace ra := Lib.hid (ra.out.below hb)
        replace rb := Lib.hid (rb.out.below hb)
        replace rl := Lib.hid (rl.out.below hb)
        replace rn := Lib.hid (rn.out.below hb)
        replace ru := Lib.hid (ru.out.below hb)
        clear hb
        go_wp2_with fail
        refine (livesRn_true _).mono ?_
        rintro e w6 ⟨rfl, hb⟩
        replace HB := Lib.hid (HB.out.trans (hb.mono HB.out.size))
        replace ra := Lib.hid (ra.out.below hb)
        replace rb := Lib.hid (rb.out.below hb)
        replace rl := Lib.hid (rl.out.below hb)
        replace rn := Lib.hid (rn.out.below hb)
        replace ru := Lib.hid (ru.out.below hb)
        clear hb
        go_wp2_with fail
        go_ret
        exact ⟨rfl, HB.out⟩
theorem RangesParts_any (a b : List (Int × Int)) (va vb : Value) (x : Int) (w : World) (ha : RL w va a) (hb : RL w vb b) (hIa : I32 a) (hIb : I32 b) (hx : -2147483648 ≤ x) :
    Calls Try.prog 6 #[va, vb, .int .i32 x] w fun e w' => e = .returned (.bool true) ∧ Below w.heap.size w w' := by
  by_cases h1 : 60 < a.length
  · obtain ⟨A, cA, rfl, _, _⟩ := ha
    obtain ⟨B, cB, rfl, _, _⟩ := hb
    exact RangesParts_lives1 A B _ _ cA cB x w h1
  by_cases h2 : 60 < b.length
  · obtain ⟨A, cA, rfl, _, _⟩ := ha
    obtain ⟨B, cB, rfl, _, _⟩ := hb
    exact RangesParts_lives2 A B _ _ cA cB x w h1 h2
  exact RangesParts_main a b va vb x w ha hb hIa hIb hx h1 h2
end Go.Proofs.Ytianappapfpbeaa
