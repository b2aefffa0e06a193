/- Lexers: the contracts of against, of slices.BinarySearchFunc by it, and of utf8.RuneLen. -/
import Derived.Test.YtagbpkabfjnplaaDoorLxD
namespace Go.Proofs.YtagbpkabfjnplaaDoor
open Go Go.RowKit Rn Lx
set_option maxRecDepth 100000

namespace Lx
def agF (p q x : Int) : Int := if q < x then -1 else if x < p then 1 else 0
end Lx
set_option maxHeartbeats 1000000 in
theorem against_any (p q x : Int) (w : World) :
    Calls Tryd.prog 54 #[.agg #[.int .i32 p, .int .i32 q], .int .i32 x] w fun e w' => e = .returned (.int .i64 (agF p q x)) ∧ Below w.heap.size w w' := by
  have hB : Below w.heap.size w (w.alloc (.cells #[.int .i32 p, .int .i32 q] 63)) := (Below.refl _ w).alloc (Nat.le_refl _) _
  by_cases h1 : q < x
  · have d1 : decide (q < x) = true := decide_eq_true h1
    rw [show agF p q x = -1 from if_pos h1]
    go_enter Tryd.func54, Tryd.ntmps54
    go_wp2_with fail
    go_ret
    exact ⟨rfl, hB⟩
  · have d1 : decide (q < x) = false := decide_eq_false h1
    by_cases h2 : x < p
    · have d2 : decide (x < p) = true := decide_eq_true h2
      rw [show agF p q x = 1 from by rw [agF, if_neg h1, if_pos h2]]
      go_enter Tryd.func54, Tryd.ntmps54
      go_wp2_with fail
      go_ret
      exact ⟨rfl, hB⟩
    · have d2 : decide (x < p) = false := decide_eq_false h2
      rw [show agF p q x = 0 from by rw [agF, if_neg h1, if_neg h2]]
      go_enter Tryd.func54, Tryd.ntmps54
      go_wp2_with fail
      go_ret
      exact ⟨rfl, hB⟩
namespace Lx
def bsT : Option Nat → Nat → Value
  | some i, _ => .tuple #[.int .i64 i, .bool true]
  | none, j => .tuple #[.int .i64 j, .bool false]
end Lx
set_option maxHeartbeats 4000000 in
theorem bs_any (l : List (Int × Int)) (v : Value) (x : Int) (w : World) (hR : RL w v l) (hl : l.length ≤ 1000000) (hup : l.Pairwise (fun a b => a.2 < b.1)) (hlow : ∀ r ∈ l, r.1 ≤ r.2) :
    Calls Tryd.prog 53 #[v, .int .i32 x, .func (.func 54) #[] #[]] w fun e w' => (∃ j : Nat, e = .returned (bsT (clF x 0 l) j)) ∧ Below w.heap.size w w' := by
  obtain ⟨a, c, rfl, _, hR⟩ := hR
  obtain ⟨N, hN⟩ : ∃ k, l.length = k := ⟨_, rfl⟩
  have HN := Lib.hid hN
  rw [hN] at hl ⊢
  have n1 : (N : Int) ≤ 1000000 := by omega
  have HR := Lib.hid hR
  have HE := Lib.hid (fun (i : Nat) (hi : i ≤ N) => bs_end (x := x) hup (show i ≤ l.length from by rw [hN]; exact hi))
  have HUp := Lib.hid (show ∀ (q h : Nat) (r t : Int × Int), q < h → l[q]? = some r → l[h]? = some t → r.2 < t.2 from fun q h r t hqh hr ht => by
    obtain ⟨h1, e1⟩ := List.getElem?_eq_some_iff.1 hr
    obtain ⟨h2, e2⟩ := List.getElem?_eq_some_iff.1 ht
    have := List.pairwise_iff_getElem.1 hup q h h1 h2 hqh
    rw [e1, e2] at this
    have := hlow t (List.mem_of_getElem? ht)
    omega)
  obtain ⟨FF, hF⟩ : ∃ t, clF x 0 l = t := ⟨_, rfl⟩
  rw [hF] at HE ⊢
  clear hN hR hF hup hlow
  go_enter Tryd.func53, Tryd.ntmps53
  go_wp2_with fail
  go_loopw [9, 10] (fun u v wr => ∃ (i j : Nat), i ≤ j ∧ j ≤ N ∧ u = .int .i64 i ∧ v = .int .i64 j ∧ Hid (∀ q r, q < i → l[q]? = some r → r.2 < x) ∧ Hid (∀ q r, j ≤ q → l[q]? = some r → x ≤ r.2) ∧ Below w.heap.size w wr) (fun u v _ => (intOf v).toNat - (intOf u).toNat)
  case atStart => exact ⟨0, N, Nat.zero_le _, Nat.le_refl _, rfl, rfl, Lib.hid (fun q r h => absurd h (Nat.not_lt_zero _)), Lib.hid (fun q r h hq => by have := (List.getElem?_eq_some_iff.1 hq).1; rw [HN.out] at this; omega), Below.refl _ _⟩
  case round =>
    obtain ⟨i, j, hij, hjN, rfl, rfl, hI, hJ, hB⟩ := hrel
    by_cases hlt : i < j
    · have d0 : decide (i < j) = true := decide_eq_true hlt
      obtain ⟨h, hh⟩ : ∃ h : Nat, ((i : Int) + (j : Int)) / 2 = (h : Int) := ⟨(i + j) / 2, by omega⟩
      have h1 : i ≤ h := by omega
      have h2 : h < j := by omega
      have h3 : (h : Int) < (N : Int) := by omega
      obtain ⟨r, hr⟩ : ∃ r, l[h]? = some r := ⟨_, List.getElem?_eq_getElem (by rw [HN.out]; omega)⟩
      obtain ⟨g, o, rfl, x1, x2⟩ := HR.out.get h r hr
      obtain ⟨ra, rb⟩ := r
      dsimp only at x1 x2
      have y1 := Nd.cell_keeps hB x1
      have y2 := Nd.cell_keeps hB x2
      have hC := against_any ra rb x wr
      by_cases hq : rb < x
      · rw [show agF ra rb x = -1 from if_pos hq] at hC
        have HC := Lib.hid hC
        have HI := Lib.hid (show ∀ q r, q < h + 1 → l[q]? = some r → r.2 < x from fun q r hqh hr' => by
          by_cases hqe : q = h
          · subst hqe; rw [hr] at hr'; injection hr' with hr'; subst hr'; exact hq
          · have := HUp.out q h r _ (by omega) hr' hr; (try dsimp only at this); omega)
        clear x1 x2 hr hq hC
        go_wp2_with (go_at_call 54; refine HC.out.mono ?_; rintro e w' ⟨rfl, hb⟩)
        exact ⟨⟨h + 1, j, by omega, hjN, by go_num, rfl, HI, hJ, hB.trans (hb.mono hB.size)⟩, by simp [intOf]; omega⟩
      · have hx0 : 0 ≤ agF ra rb x := by unfold agF; rw [if_neg hq]; split <;> omega
        have d1 : decide (agF ra rb x < 0) = false := decide_eq_false (by omega)
        have HJ := Lib.hid (show ∀ q r, h ≤ q → l[q]? = some r → x ≤ r.2 from fun q r hqh hr' => by
          by_cases hqe : q = h
          · subst hqe; rw [hr] at hr'; injection hr' with hr'; subst hr'; dsimp only; omega
          · have := HUp.out h q _ r (by omega) hr hr'; (try dsimp only at this); omega)
        have HC := Lib.hid hC
        clear x1 x2 hr hq hC
        generalize agF ra rb x = A at *
        go_wp2_with (go_at_call 54; refine HC.out.mono ?_; rintro e w' ⟨rfl, hb⟩)
        exact ⟨⟨i, h, by omega, by omega, rfl, by go_num, hI, HJ, hB.trans (hb.mono hB.size)⟩, by simp [intOf]; omega⟩
    · obtain rfl : i = j := by omega
      have d0 : decide (i < i) = false := decide_eq_false hlt
      have he := HE.out i hjN (fun q r a b => hI.out q r a b) (fun r a => hJ.out i r (Nat.le_refl _) a)
      by_cases hin : i < N
      · have d2 : decide (i < N) = true := decide_eq_true hin
        have h3 : (i : Int) < (N : Int) := by omega
        obtain ⟨r, hr⟩ : ∃ r, l[i]? = some r := ⟨_, List.getElem?_eq_getElem (by rw [HN.out]; omega)⟩
        obtain ⟨g, o, rfl, x1, x2⟩ := HR.out.get i r hr
        have hle := hJ.out i r (Nat.le_refl _) hr
        obtain ⟨ra, rb⟩ := r
        dsimp only at x1 x2 hle
        have y1 := Nd.cell_keeps hB x1
        have y2 := Nd.cell_keeps hB x2
        have hC := against_any ra rb x wr
        rw [hr] at he
        dsimp only at he
        by_cases hq : ra ≤ x
        · rw [if_pos hq] at he
          rw [show agF ra rb x = 0 from by rw [agF, if_neg (by omega), if_neg (by omega)]] at hC
          have HC := Lib.hid hC
          have HF := Lib.hid he
          clear x1 x2 hr hq hC he hle hI hJ
          go_wp2_with (go_at_call 54; refine HC.out.mono ?_; rintro e w' ⟨rfl, hb⟩)
          go_ret2
          exact ⟨⟨i, by rw [HF.out]; rfl⟩, hB.trans (hb.mono hB.size)⟩
        · rw [if_neg hq] at he
          rw [show agF ra rb x = 1 from by rw [agF, if_neg (by omega), if_pos (by omega)]] at hC
          have HC := Lib.hid hC
          have HF := Lib.hid he
          clear x1 x2 hr hq hC he hle hI hJ
          go_wp2_with (go_at_call 54; refine HC.out.mono ?_; rintro e w' ⟨rfl, hb⟩)
          go_ret2
          exact ⟨⟨i, by rw [HF.out]; rfl⟩, hB.trans (hb.mono hB.size)⟩
      · have d2 : decide (i < N) = false := decide_eq_false hin
        rw [List.getElem?_eq_none (by rw [HN.out]; omega)] at he
        have HF := Lib.hid he
        clear he hI hJ
        go_wp2_with fail
        go_ret2
        exact ⟨⟨i, by rw [HF.out]; rfl⟩, hB⟩
def rlF (r : Int) : Int := if r < 0 then -1 else if r ≤ 127 then 1 else if r ≤ 2047 then 2 else if 55296 ≤ r ∧ r ≤ 57343 then -1 else if r ≤ 65535 then 3 else if r ≤ 1114111 then 4 else -1
theorem rlF_dec (l : List UInt8) (h : Lib.decodeL l ≠ (65533, 1)) : rlF ((Lib.decodeL l).1 : Int) = ((Lib.decodeL l).2 : Int) := by
  rw [Lib.decodeL_N] at h ⊢
  have k0 := (l.getD 0 0).toNat_lt
  rcases Lib.decodeN_shape l.length (l.getD 0 0).toNat (l.getD 1 0).toNat (l.getD 2 0).toNat (l.getD 3 0).toNat with ⟨c, e⟩ | ⟨c1, c2, c3, cv, e⟩ | ⟨c1, c2, c3, c4, cv, cs, e⟩ | ⟨c1, c2, c3, c4, c5, cv, cw, e⟩ | e
  · rw [e]; dsimp only; unfold rlF; rw [if_neg (by omega), if_pos (by omega)]; rfl
  · rw [e]; dsimp only; unfold rlF; rw [if_neg (by omega), if_neg (by omega), if_pos (by omega)]; rfl
  · rw [e]; dsimp only; unfold rlF; rw [if_neg (by omega), if_neg (by omega), if_neg (by omega), if_neg (by omega), if_pos (by omega)]; rfl
  · rw [e]; dsimp only; unfold rlF; rw [if_neg (by omega), if_neg (by omega), if_neg (by omega), if_neg (by omega), if_neg (by omega), if_pos (by omega)]; rfl
  · exact absurd e h
set_option maxHeartbeats 1000000 in
theorem RuneLen_any (r : Int) (w : World) (h0 : 0 ≤ r) (h1 : r ≤ 1114111) (h2 : ¬ (55296 ≤ r ∧ r ≤ 57343)) :
    Calls Tryd.prog 35 #[.int .i32 r] w fun e w' => e = .returned (.int .i64 (rlF r)) ∧ w' = w := by
  have c0 : ¬ r < 0 := by omega
  by_cases c1 : r ≤ 127
  · rw [show rlF r = 1 from by rw [rlF, if_neg c0, if_pos c1]]
    go_enter Tryd.func35, Tryd.ntmps35
    go_wp2_with fail
    go_ret
    exact ⟨rfl, rfl⟩
  by_cases c2 : r ≤ 2047
  · rw [show rlF r = 2 from by rw [rlF, if_neg c0, if_neg c1, if_pos c2]]
    go_enter Tryd.func35, Tryd.ntmps35
    go_wp2_with fail
    go_ret
    exact ⟨rfl, rfl⟩
  by_cases c3 : r ≤ 65535
  · rw [show rlF r = 3 from by rw [rlF, if_neg c0, if_neg c1, if_neg c2, if_neg h2, if_pos c3]]
    by_cases c4 : 55296 ≤ r
    · have c5 : ¬ r ≤ 57343 := fun h => h2 ⟨c4, h⟩
      go_enter Tryd.func35, Tryd.ntmps35
      go_wp2_with fail
      go_ret
      exact ⟨rfl, rfl⟩
    · go_enter Tryd.func35, Tryd.ntmps35
      go_wp2_with fail
      go_ret
      exact ⟨rfl, rfl⟩
  · rw [show rlF r = 4 from by rw [rlF, if_neg c0, if_neg c1, if_neg c2, if_neg h2, if_neg c3, if_pos h1]]
    have c5 : ¬ r ≤ 57343 := by omega
    have c4 : 55296 ≤ r := by omega
    go_enter Tryd.func35, Tryd.ntmps35
    go_wp2_with fail
    go_ret
    exact ⟨rfl, rfl⟩
end Go.Proofs.YtagbpkabfjnplaaDoor
