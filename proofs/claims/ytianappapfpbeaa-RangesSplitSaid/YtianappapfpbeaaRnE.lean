/- The contracts of ranges.Union, Neat, paired, Minus, Both. -/
import Derived.Test.YtianappapfpbeaaRnD
import Derived.Laws.AppendOwnNone
namespace Go.Proofs.Ytianappapfpbeaa
open Go Go.RowKit Rn
set_option maxRecDepth 100000

namespace Rn
theorem emit_len {S : Type} [DecidableEq S] {z : S} {c : Nat → Int → S} : ∀ (d : List (Int × Int)) (k : Nat) (o : Int) (s : S) (lo : Int), (emit z c d k o s lo).length ≤ d.length + (if s = z then 0 else 1)
  | [], k, o, s, lo => by
    simp only [emit]
    by_cases h : s = z
    · rw [if_pos h, if_pos h]; simp
    · rw [if_neg h, if_neg h]; simp
  | (a, m) :: t, k, o, s, lo => by
    simp only [emit, List.length_cons]
    by_cases hm : more a t = true
    · rw [if_pos hm]
      have := emit_len (z := z) (c := c) t k (o + m) s lo
      omega
    · rw [if_neg hm]
      by_cases hc : c k (o + m) = s
      · rw [if_pos hc]
        have := emit_len (z := z) (c := c) t (k + 1) (o + m) s lo
        omega
      · rw [if_neg hc]
        have := emit_len (z := z) (c := c) t (k + 1) (o + m) (c k (o + m)) a
        by_cases hs : s = z
        · rw [if_pos hs, if_pos hs]
          split at this <;> omega
        · rw [if_neg hs, if_neg hs, List.length_cons]
          split at this <;> omega
theorem wrap_id {x : Int} (h : -2147483648 ≤ x ∧ x ≤ 2147483647) : wrap32 x = x := by unfold wrap32; omega
theorem map_wrap {l : List (Int × Int)} (h : I32 l) : l.map wrapR = l := by
  rw [List.map_congr_left (g := id) (fun r hr => ?_), List.map_id]
  have := h r hr
  show (wrap32 r.1, wrap32 r.2) = r
  rw [wrap_id this.1, wrap_id this.2]
/-- What stretches makes of ends, where what is counted tells of each number whether σ has it. -/
theorem emit_bool {c : Int → Bool} {d0 d : List (Int × Int)} {σ : Int → Bool} (hp : d0.Perm d) (hu : Up d) (hin : ∀ p ∈ d0, lowest ≤ p.1 ∧ p.1 ≤ 2147483648) (h0 : c 0 = false) (hσ : ∀ y, c (upto y d0) = σ y)
    (hfin : ∀ y, (∀ p ∈ d0, p.1 ≤ y) → σ y = false) (hI : ∀ y, σ y = true → -2147483648 ≤ y ∧ y ≤ 2147483647) :
    Runs false σ lowest ((emit false (fun _ => c) d 0 0 false 0).map wrapR) ∧ I32 ((emit false (fun _ => c) d 0 0 false 0).map wrapR) ∧ ((emit false (fun _ => c) d 0 0 false 0).map wrapR).length ≤ d0.length := by
  have ht : ∀ y, tau (fun _ => c) d 0 0 false y = σ y := fun y => by
    rw [tau_sum c d 0 0 false y hu (.inl h0.symm), Int.zero_add, ← upto_perm y hp, hσ]
  have hR := (emit_runs (z := false) (c := fun _ => c) d 0 0 false 0 lowest hu (fun p h => (hin p (hp.mem_iff.2 h)).1) (fun y hy => by
    rw [ht]; exact hfin y fun p h => hy p (hp.mem_iff.1 h))).1 rfl
  have hR2 := Runs.congr _ _ (fun y _ => ht y) hR
  have h32 : I32 (emit false (fun _ => c) d 0 0 false 0) := Runs.in (fun y hy => hI y (by cases e : σ y with | true => rfl | false => exact absurd e hy)) _ _ hR2
  rw [map_wrap h32]
  refine ⟨hR2, h32, ?_⟩
  have := emit_len (z := false) (c := fun _ => c) d 0 0 false 0
  rw [if_pos rfl, ← hp.length_eq] at this
  exact this
theorem ends_over {e : Int} {l : List (Int × Int)} {y : Int} (h : ∀ p ∈ endsL e l, p.1 ≤ y) : hasB l y = false := by
  rw [← Bool.not_eq_true, hasB_iff]
  rintro ⟨r, hr, h1, h2⟩
  have := h (r.2 + 1, -e) (mem_endsL.2 ⟨r, hr, by omega, .inr rfl⟩)
  simp only at this
  omega
theorem ends_more {e : Int} (he : -10 ≤ e ∧ e ≤ 10) {l : List (Int × Int)} : ∀ p ∈ endsL e l, -10 ≤ p.2 ∧ p.2 ≤ 10 := fun p hp => by
  obtain ⟨r, _, _, h⟩ := mem_endsL.1 hp
  rcases h with rfl | rfl <;> simp only <;> omega
theorem endsLL_more {e : Int} (he : -10 ≤ e ∧ e ≤ 10) {ls : List (List (Int × Int))} : ∀ p ∈ endsLL e ls, -10 ≤ p.2 ∧ p.2 ≤ 10 := fun p hp => by
  obtain ⟨l, _, hp⟩ := List.mem_flatMap.1 hp
  exact ends_more he p hp
def anyB (ls : List (List (Int × Int))) (y : Int) : Bool := ls.any fun l => hasB l y
theorem anyB_in {ls : List (List (Int × Int))} (h : ∀ l ∈ ls, I32 l) {y : Int} (hy : anyB ls y = true) : -2147483648 ≤ y ∧ y ≤ 2147483647 := by
  obtain ⟨l, hl, h1⟩ := List.any_eq_true.1 hy
  exact hasB_in (h l hl) h1
/-- A slice of slices as it is built for a call. -/
theorem RLL_one {w : World} {v : Value} {l : List (Int × Int)} {t : TypeId} (h : RL w v l) : RLL (w.alloc (.cells #[v] t)) (.slice (some ⟨w.heap.size, 0, none⟩) 1 1) [l] := by
  refine ⟨_, 1, rfl, Nat.le_refl _, fun i m hi => ?_⟩
  cases i with
  | zero =>
    obtain rfl : l = m := by simpa using hi
    refine ⟨_, 0, v, rfl, ?_, h.below ((Below.refl _ _).alloc (Nat.le_refl _) _)⟩
    rw [(Bk.made w t #[v]).cell]
    rfl
  | succ i => simp at hi
theorem RLL_two {w : World} {u v : Value} {l m : List (Int × Int)} {t : TypeId} (h : RL w u l) (k : RL w v m) : RLL (w.alloc (.cells #[u, v] t)) (.slice (some ⟨w.heap.size, 0, none⟩) 2 2) [l, m] := by
  refine ⟨_, 2, rfl, Nat.le_refl _, fun i x hi => ?_⟩
  match i with
  | 0 =>
    obtain rfl : l = x := by simpa using hi
    refine ⟨_, 0, u, rfl, ?_, h.below ((Below.refl _ _).alloc (Nat.le_refl _) _)⟩
    rw [(Bk.made w t #[u, v]).cell]
    rfl
  | 1 =>
    obtain rfl : m = x := by simpa using hi
    refine ⟨_, 0, v, rfl, ?_, k.below ((Below.refl _ _).alloc (Nat.le_refl _) _)⟩
    rw [(Bk.made w t #[u, v]).cell]
    rfl
  | i + 2 => simp at hi
theorem RLL_three {w : World} {u v x : Value} {l m n : List (Int × Int)} {t : TypeId} (h : RL w u l) (k : RL w v m) (j : RL w x n) : RLL (w.alloc (.cells #[u, v, x] t)) (.slice (some ⟨w.heap.size, 0, none⟩) 3 3) [l, m, n] := by
  refine ⟨_, 3, rfl, Nat.le_refl _, fun i y hi => ?_⟩
  match i with
  | 0 =>
    obtain rfl : l = y := by simpa using hi
    refine ⟨_, 0, u, rfl, ?_, h.below ((Below.refl _ _).alloc (Nat.le_refl _) _)⟩
    rw [(Bk.made w t #[u, v, x]).cell]
    rfl
  | 1 =>
    obtain rfl : m = y := by simpa using hi
    refine ⟨_, 0, v, rfl, ?_, k.below ((Below.refl _ _).alloc (Nat.le_refl _) _)⟩
    rw [(Bk.made w t #[u, v, x]).cell]
    rfl
  | 2 =>
    obtain rfl : n = y := by simpa using hi
    refine ⟨_, 0, x, rfl, ?_, j.below ((Below.refl _ _).alloc (Nat.le_refl _) _)⟩
    rw [(Bk.made w t #[u, v, x]).cell]
    rfl
  | i + 3 => simp at hi
/-- A set that was made: the runs of σ, in memory of its own. -/
def Made {S : Type} (z : S) (σ : Int → S) (n : Nat) (w : World) (e : Ending) (w' : World) : Prop := ∃ v l, e = .returned v ∧ Hld w' w.heap.size v l ∧ Runs z σ lowest l ∧ I32 l ∧ l.length ≤ n ∧ Below w.heap.size w w'
end Rn
theorem enterU : ∀ args w, (callFunc 29 args).run Try.prog w = .ok (.enter 29 args) w := enters_of Try.func29 (by kernel_rfl) rfl
theorem enterM : ∀ args w, (callFunc 31 args).run Try.prog w = .ok (.enter 31 args) w := enters_of Try.func31 (by kernel_rfl) rfl
theorem enterO : ∀ args w, (callFunc 32 args).run Try.prog w = .ok (.enter 32 args) w := enters_of Try.func32 (by kernel_rfl) rfl
theorem Union1_any (o : Int) (w : World) : Calls Try.prog 29 #[.int .i64 o] w fun e w' => e = .returned (.bool (decide (0 < o))) ∧ w' = w := by
  go_enter Try.func29, Try.ntmps29
  go_wp2_with fail
  go_ret
  exact ⟨rfl, rfl⟩
theorem Minus1_any (o : Int) (w : World) : Calls Try.prog 31 #[.int .i64 o] w fun e w' => e = .returned (.bool (decide (o = 1))) ∧ w' = w := by
  have h : (o == 1) = decide (o = 1) := rfl
  go_enter Try.func31, Try.ntmps31
  go_wp2_with fail
  go_ret
  exact ⟨rfl, rfl⟩
theorem Both1_any (o : Int) (w : World) : Calls Try.prog 32 #[.int .i64 o] w fun e w' => e = .returned (.bool (decide (o = 3))) ∧ w' = w := by
  have h : (o == 3) = decide (o = 3) := rfl
  go_enter Try.func32, Try.ntmps32
  go_wp2_with fail
  go_ret
  exact ⟨rfl, rfl⟩
set_option maxHeartbeats 1000000 in
theorem Union_any (ls : List (List (Int × Int))) (v : Value) (w : World) (hL : RLL w v ls) (hsz : total ls ≤ 1000000) (hlen : ls.length ≤ 1000000) (hin : ∀ l ∈ ls, I32 l) :
    Calls Try.prog 10 #[v] w (Made false (anyB ls) (2 * total ls) w) := by
  have hE := Lib.hid (ends_any 1 ls v w (by omega) hL hsz hlen hin)
  have hlen2 := endsLL_len 1 ls
  have hS := Lib.hid (fun (v' : Value) (w1 : World) (h : Gath w (endsLL 1 ls) v' w1) => stretchB_any _ enterU (fun o => decide (0 < o)) Union1_any (endsLL 1 ls) v' w.heap.size w1 h.1 (by omega) (fun p hp => ⟨endsLL_in hin p hp, endsLL_more (by omega) p hp⟩))
  have hF := Lib.hid (fun d (hp : (endsLL 1 ls).Perm d) (hu : Up d) => emit_bool (c := fun o => decide (0 < o)) (σ := anyB ls) hp hu (endsLL_in hin) (by decide) (fun y => by
    have := upto_ends2 y ls
    unfold anyB
    cases e : ls.any (fun l => hasB l y) with
    | true => exact decide_eq_true (this.2.2 e)
    | false => exact decide_eq_false (fun h => by rw [this.2.1 h] at e; cases e)) (fun y hy => by
    rw [← Bool.not_eq_true]
    intro h
    obtain ⟨l, hl, h1⟩ := List.any_eq_true.1 h
    rw [ends_over (e := 1) (fun p hp => hy p (List.mem_flatMap.2 ⟨l, hl, hp⟩))] at h1
    cases h1) (fun y hy => anyB_in hin hy))
  obtain ⟨a, c, rfl, hc, hL⟩ := hL
  generalize ls.length = LN at *
  clear hL
  go_enter Try.func10, Try.ntmps10
  go_wp2_with (first
    | (go_at_call 28; refine hE.out.mono ?_; rintro e w1 ⟨v1, rfl, hG⟩; have HG := Lib.hid hG; clear hG)
    | (go_at_call 27; refine (hS.out _ _ HG.out).mono ?_; rintro e w2 ⟨d, v2, w3, hp, hu, rfl, ho, hg, hb⟩))
  go_ret
  obtain ⟨r1, r2, r3⟩ := hF.out d hp hu
  have hb1 := HG.out.2
  have hb3 : Below w.heap.size w w3 := hb1.grown hg hb1.size (fun k hk => (HG.out.1.lt k hk).1)
  exact ⟨_, _, rfl, ho.mono hb1.size, r1, r2, by omega, hb3.trans (hb.mono hb3.size)⟩
set_option maxHeartbeats 1000000 in
theorem NeatRn_any (l : List (Int × Int)) (v : Value) (w : World) (hL : RL w v l) (hsz : l.length ≤ 1000000) (hin : I32 l) :
    Calls Try.prog 9 #[v] w (Made false (hasB l) (2 * l.length) w) := by
  have hU := Lib.hid (Union_any [l] _ (w.alloc (.cells #[v] 22)) (RLL_one hL) (by simpa [total] using hsz) (by simp) (by simpa using hin))
  have h1 : anyB [l] = hasB l := by funext y; simp [anyB]
  have h2 : total [l] = l.length := by simp [total]
  rw [h1, h2] at hU
  obtain ⟨a, c, rfl, hc, hR⟩ := hL
  generalize l.length = N at *
  clear hR
  go_enter Try.func9, Try.ntmps9
  go_wp2_with (go_at_call 10; refine hU.out.mono ?_; rintro e w1 ⟨v1, m, rfl, ho, hr, hi, hn, hb⟩)
  go_ret
  have hb0 : Below w.heap.size w (w.alloc (.cells #[.slice a N c] 22)) := (Below.refl _ w).alloc (Nat.le_refl _) _
  exact ⟨_, _, rfl, ho.mono hb0.size, hr, hi, hn, hb0.trans (hb.mono hb0.size)⟩
end Go.Proofs.Ytianappapfpbeaa
