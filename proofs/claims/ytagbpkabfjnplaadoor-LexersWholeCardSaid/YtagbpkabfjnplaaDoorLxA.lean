/- Lexers: numbers, ranges and booleans in memory; the contracts of subsets.apart and within. -/
import Derived.Test.YtagbpkabfjnplaaDoorLx0
import Derived.Test.YtagbpkabfjnplaaDoorRnA
namespace Go.Proofs.YtagbpkabfjnplaaDoor
open Go Go.RowKit Rn
set_option maxRecDepth 100000

namespace Lx
/-- The numbers l lie at v. -/
def ZV (w : World) (v : Value) (l : List Int) : Prop := ∃ a c, v = .slice a l.length c ∧ l.length ≤ c ∧ ∀ (i : Nat) (x : Int), l[i]? = some x → ∃ b o, a = some ⟨b, o, none⟩ ∧ w.cell? ⟨b, o + i, none⟩ = some (.int .i64 x)
theorem ZV.below {w w' : World} {v : Value} {l : List Int} (h : ZV w v l) (hb : Below w.heap.size w w') : ZV w' v l := by
  obtain ⟨a, c, h1, h3, h2⟩ := h
  exact ⟨a, c, h1, h3, fun i x hx => by
    obtain ⟨b, o, e1, e2⟩ := h2 i x hx
    exact ⟨b, o, e1, Nd.cell_keeps hb e2⟩⟩
/-- Rows of numbers lie at v. -/
def ZZV (w : World) (v : Value) (ls : List (List Int)) : Prop := ∃ a c, v = .slice a ls.length c ∧ ls.length ≤ c ∧ ∀ (i : Nat) (l : List Int), ls[i]? = some l → ∃ b o ra rc, a = some ⟨b, o, none⟩ ∧ w.cell? ⟨b, o + i, none⟩ = some (.slice ra l.length rc) ∧ ZV w (.slice ra l.length rc) l
theorem ZZV.below {w w' : World} {v : Value} {l : List (List Int)} (h : ZZV w v l) (hb : Below w.heap.size w w') : ZZV w' v l := by
  obtain ⟨a, c, h1, h3, h2⟩ := h
  exact ⟨a, c, h1, h3, fun i x hx => by
    obtain ⟨b, o, ra, rc, e1, e2, e3⟩ := h2 i x hx
    exact ⟨b, o, ra, rc, e1, Nd.cell_keeps hb e2, e3.below hb⟩⟩
/-- Booleans lie at v. -/
def BV (w : World) (v : Value) (l : List Bool) : Prop := ∃ a c, v = .slice a l.length c ∧ l.length ≤ c ∧ ∀ (i : Nat) (x : Bool), l[i]? = some x → ∃ b o, a = some ⟨b, o, none⟩ ∧ w.cell? ⟨b, o + i, none⟩ = some (.bool x)
theorem BV.below {w w' : World} {v : Value} {l : List Bool} (h : BV w v l) (hb : Below w.heap.size w w') : BV w' v l := by
  obtain ⟨a, c, h1, h3, h2⟩ := h
  exact ⟨a, c, h1, h3, fun i x hx => by
    obtain ⟨b, o, e1, e2⟩ := h2 i x hx
    exact ⟨b, o, e1, Nd.cell_keeps hb e2⟩⟩
def prevO (l : List (Int × Int)) : Nat → Option Int
  | 0 => none
  | k + 1 => (l[k]?).map (·.2)
theorem apB_none (r : Int × Int) (l : List (Int × Int)) : apB none (r :: l) = (decide (r.1 ≤ r.2) && apB (some r.2) l) := rfl
theorem apB_some (h : Int) (r : Int × Int) (l : List (Int × Int)) : apB (some h) (r :: l) = (decide (r.1 ≤ r.2) && (decide (h < r.1) && apB (some r.2) l)) := rfl
theorem apB_bad (o : Option Int) (r : Int × Int) (l : List (Int × Int)) (h : r.2 < r.1) : apB o (r :: l) = false := by
  cases o with
  | none => rw [apB_none, decide_eq_false (by omega)]; rfl
  | some h => rw [apB_some, decide_eq_false (by omega)]; rfl
end Lx
open Lx
set_option maxHeartbeats 4000000 in
theorem apart_any (l : List (Int × Int)) (v : Value) (w : World) (hR : RL w v l) (hl : l.length ≤ 140737488351232) :
    Calls Tryd.prog 42 #[v] w fun e w' => e = .returned (.bool (apB none l)) ∧ Below w.heap.size w w' := by
  obtain ⟨a, c, rfl, hc, hR⟩ := hR
  obtain ⟨N, hN⟩ : ∃ k, l.length = k := ⟨_, rfl⟩
  have HN := Lib.hid hN
  rw [hN] at hl ⊢
  have n1 : (N : Int) ≤ 9223372036854775807 := by omega
  have HR := Lib.hid hR
  obtain ⟨TT, hT⟩ : ∃ t, apB none l = t := ⟨_, rfl⟩
  have HT := Lib.hid hT
  rw [hT]
  clear hN hR hT hc
  go_enter Tryd.func42, Tryd.ntmps42
  go_wp2_with fail
  go_loopw [7] (fun i wr => ∃ k : Nat, k ≤ N ∧ i = .int .i64 k ∧ Hid (apB (prevO l k) (l.drop k) = TT) ∧ Below w.heap.size w wr) (fun i _ => N - (intOf i).toNat)
  case atStart => exact ⟨0, Nat.zero_le _, rfl, Lib.hid (by rw [List.drop_zero]; exact HT.out), Below.refl _ _⟩
  case round =>
    obtain ⟨k, hk, rfl, hJ, hB⟩ := hrel
    by_cases hlt : k < N
    · have d0 : decide (k < N) = true := by rw [decide_eq_true_iff]; exact hlt
      have k0 : (k : Int) < (N : Int) := by omega
      obtain ⟨r, hr⟩ : ∃ r, l[k]? = some r := ⟨_, List.getElem?_eq_getElem (by rw [HN.out]; exact hlt)⟩
      obtain ⟨g, o, rfl, x1, x2⟩ := HR.out.get k r hr
      obtain ⟨ra, rb⟩ := r
      dsimp only at x1 x2
      have y1 := Nd.cell_keeps hB x1
      have y2 := Nd.cell_keeps hB x2
      have hB1 := fun o1 => hB.alloc hB.size o1
      by_cases h1 : rb < ra
      · have d1 : decide (rb < ra) = true := decide_eq_true h1
        have HF := Lib.hid (show TT = false from by rw [← hJ.out, Nd.drop_some hr]; exact apB_bad _ _ _ h1)
        clear x1 x2 hr hJ h1
        go_wp2_with fail
        go_quiet (fail)
        go_wp2_with fail
        go_ret
        exact ⟨by rw [HF.out]; rfl, below_drewN (hB1 _) _⟩
      · have d1 : decide (rb < ra) = false := decide_eq_false h1
        have d1' : decide (ra ≤ rb) = true := decide_eq_true (by omega)
        cases k with
        | zero =>
          rw [Nat.zero_mul, Nat.add_zero] at y1 y2
          have HF := Lib.hid (show apB (prevO l (0 + 1)) (l.drop (0 + 1)) = TT from by
            rw [← hJ.out, Nd.drop_some hr, show prevO l 0 = none from rfl, apB_none, d1', Bool.true_and, show prevO l (0 + 1) = some rb from by simp [prevO, hr]])
          clear x1 x2 hr hJ h1 d1'
          go_wp2_with fail
          go_quiet (fail)
          go_wp2_with fail
          refine ⟨⟨0 + 1, by omega, by go_num, HF, below_drewN (hB1 _) _⟩, by simp [intOf]; omega⟩
        | succ m =>
          obtain ⟨q, hq⟩ : ∃ q, l[m]? = some q := ⟨_, List.getElem?_eq_getElem (by rw [HN.out]; omega)⟩
          obtain ⟨g', o', he, z1, z2⟩ := HR.out.get m q hq
          injection he with he
          injection he with he1 he2
          subst he1
          subst he2
          obtain ⟨qa, qb⟩ := q
          dsimp only at z1 z2
          have y3 := Nd.cell_keeps hB z2
          have y4 := fun o1 => Nd.cell_keeps ((Below.refl _ wr).alloc (Nat.le_refl _) o1) y3
          have hw : IntKind.i64.wrap (((m + 1 : Nat) : Int) - 1) = (m : Int) := by rw [IntWalk.i64_in _ (by omega)]; omega
          have hw2 : IntKind.i64.wrap ((m : Int) + 1 - 1) = (m : Int) := by rw [IntWalk.i64_in _ (by omega)]; omega
          have m0 : (m : Int) < (N : Int) := by omega
          have m1 : (0 : Int) ≤ (m : Int) := by omega
          have d3 : decide ((0 : Int) < (m : Int) + 1) = true := decide_eq_true (by omega)
          have d4 : decide (0 < ((m + 1 : Nat) : Int)) = true := decide_eq_true (by omega)
          have hp : prevO l (m + 1) = some qb := by simp [prevO, hq]
          by_cases h2 : ra ≤ qb
          · have d2 : decide (ra ≤ qb) = true := decide_eq_true h2
            have HF := Lib.hid (show TT = false from by rw [← hJ.out, Nd.drop_some hr, hp, apB_some, decide_eq_false (show ¬ qb < ra by omega), Bool.false_and, Bool.and_false])
            clear x1 x2 hr hJ h1 d1' h2 hq z1 z2 hp
            go_wp2_with fail
            go_quiet (fail)
            go_wp2_with fail
            go_ret
            exact ⟨by rw [HF.out]; rfl, below_drewN (hB1 _) _⟩
          · have d2 : decide (ra ≤ qb) = false := decide_eq_false h2
            have HF := Lib.hid (show apB (prevO l (m + 1 + 1)) (l.drop (m + 1 + 1)) = TT from by
              rw [← hJ.out, Nd.drop_some hr, hp, apB_some, d1', Bool.true_and, decide_eq_true (show qb < ra by omega), Bool.true_and, show prevO l (m + 1 + 1) = some rb from by simp [prevO, hr]])
            clear x1 x2 hr hJ h1 d1' h2 hq z1 z2 hp
            go_wp2_with fail
            go_quiet (fail)
            go_wp2_with fail
            refine ⟨⟨m + 1 + 1, by omega, by go_num, HF, below_drewN (hB1 _) _⟩, by simp [intOf]; omega⟩
    · have d0 : decide (k < N) = false := by rw [decide_eq_false_iff_not]; exact hlt
      have HF := Lib.hid (show TT = true from by
        rw [← hJ.out, List.drop_eq_nil_of_le (by rw [HN.out]; omega)]
        cases prevO l k <;> rfl)
      clear hJ
      go_wp2_with fail
      go_ret
      exact ⟨by rw [HF.out]; rfl, hB⟩
set_option maxHeartbeats 4000000 in
theorem within_any (l : List Int) (v : Value) (many : Int) (w : World) (hv : ZV w v l) (hl : l.length ≤ 140737488351232) :
    Calls Tryd.prog 44 #[v, .int .i64 many] w fun e w' => e = .returned (.bool (witB many l)) ∧ w' = w := by
  obtain ⟨a, c, rfl, _, hc⟩ := hv
  obtain ⟨N, hN⟩ : ∃ N, l.length = N := ⟨_, rfl⟩
  have HN := Lib.hid hN
  have HC := Lib.hid hc
  obtain ⟨TT, hT⟩ : ∃ t, witB many l = t := ⟨_, rfl⟩
  have HT := Lib.hid hT
  rw [hN] at hl ⊢
  rw [hT]
  have n1 : (N : Int) ≤ 9223372036854775807 := by omega
  clear hN hc hT
  go_enter Tryd.func44, Tryd.ntmps44
  go_wp2_with fail
  go_loopw [9] (fun i wr => ∃ (k : Nat), k ≤ N ∧ i = .int .i64 k ∧ wr = w ∧ Hid (witB many (l.drop k) = TT)) (fun i _ => N - (intOf i).toNat)
  case atStart => exact ⟨0, Nat.zero_le _, rfl, rfl, Lib.hid (by rw [List.drop_zero]; exact HT.out)⟩
  case round =>
    obtain ⟨k, hk, rfl, rfl, hJ⟩ := hrel
    by_cases hlt : k < N
    · obtain ⟨x, hx⟩ : ∃ x, l[k]? = some x := ⟨_, List.getElem?_eq_getElem (by rw [HN.out]; exact hlt)⟩
      obtain ⟨b, o, rfl, c0⟩ := HC.out k x hx
      have d0 : decide (k < N) = true := by rw [decide_eq_true_iff]; exact hlt
      have a0 : (k : Int) < (N : Int) := by omega
      have a1 : (0 : Int) ≤ (k : Int) := by omega
      have hJ2 : (!(decide (x < -1)) && (!(decide (many ≤ x)) && witB many (l.drop (k + 1)))) = TT := by rw [← hJ.out, Nd.drop_some hx]; rfl
      by_cases h1 : x < -1
      · have d1 : decide (x < -1) = true := decide_eq_true h1
        have HF := Lib.hid (show TT = false from by rw [← hJ2, d1]; rfl)
        clear hJ hJ2 hx
        go_wp2_with fail
        go_ret
        exact ⟨by rw [HF.out]; rfl, rfl⟩
      · have d1 : decide (x < -1) = false := decide_eq_false h1
        by_cases h2 : many ≤ x
        · have d2 : decide (many ≤ x) = true := decide_eq_true h2
          have HF := Lib.hid (show TT = false from by rw [← hJ2, d1, d2]; rfl)
          clear hJ hJ2 hx
          go_wp2_with fail
          go_ret
          exact ⟨by rw [HF.out]; rfl, rfl⟩
        · have d2 : decide (many ≤ x) = false := decide_eq_false h2
          have HF := Lib.hid (show witB many (l.drop (k + 1)) = TT from by rw [← hJ2, d1, d2]; rfl)
          clear hJ hJ2 hx
          go_wp2_with fail
          exact ⟨⟨k + 1, by omega, by go_num, trivial, HF⟩, by simp [intOf]; omega⟩
    · have d0 : decide (k < N) = false := by rw [decide_eq_false_iff_not]; exact hlt
      have HF := Lib.hid (show TT = true from by rw [← hJ.out, List.drop_eq_nil_of_le (by rw [HN.out]; omega)]; rfl)
      clear hJ
      go_wp2_with fail
      go_ret
      exact ⟨by rw [HF.out]; rfl, rfl⟩
end Go.Proofs.YtagbpkabfjnplaaDoor
