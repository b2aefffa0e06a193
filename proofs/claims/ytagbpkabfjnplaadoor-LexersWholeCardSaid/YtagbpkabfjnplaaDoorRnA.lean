/- Lists of ranges in memory; the contracts of ranges.Class, Has, of slices.IndexFunc and Clip. -/
import Derived.Test.YtagbpkabfjnplaaDoorRnQ
import Derived.Test.YtagbpkabfjnplaaDoorNuK
import Derived.WalkLawsBesides
import Derived.Deep.QuietTactic
import Derived.BigQuiet
import Derived.ArgAppend
import Derived.Laws.OwnMore
import Derived.OwnWalk
namespace Go.Proofs.YtagbpkabfjnplaaDoor
open Go Go.RowKit Rn
set_option maxRecDepth 100000

namespace Rn
/-- v is a slice of the ranges l. -/
def RL (w : World) (v : Value) (l : List (Int × Int)) : Prop := ∃ a c, v = .slice a l.length c ∧ l.length ≤ c ∧ Nd.RgAt w l a
theorem RL.below {w w' : World} {v : Value} {l : List (Int × Int)} (h : RL w v l) (hb : Below w.heap.size w w') : RL w' v l := by
  obtain ⟨a, c, h1, h2, h3⟩ := h
  exact ⟨a, c, h1, h2, h3.below hb⟩
theorem RL.nil (w : World) : RL w (.slice none 0 0) [] := ⟨none, 0, rfl, Nat.le_refl _, trivial⟩
def rgV (l : List (Int × Int)) : List Value := l.flatMap fun p => [.int .i32 p.1, .int .i32 p.2]
theorem rgV_len : ∀ l : List (Int × Int), (rgV l).length = l.length * 2
  | [] => rfl
  | p :: l => by
    have := rgV_len l
    simp only [rgV, List.flatMap_cons, List.length_append, List.length_cons, List.length_nil] at this ⊢
    omega
theorem rgV_cons (p : Int × Int) (l : List (Int × Int)) : rgV (p :: l) = .int .i32 p.1 :: .int .i32 p.2 :: rgV l := rfl
theorem rgV_append (a b : List (Int × Int)) : rgV (a ++ b) = rgV a ++ rgV b := by simp [rgV]
theorem rgV_get : ∀ (l : List (Int × Int)) (i : Nat) (p : Int × Int), l[i]? = some p → (rgV l)[i * 2]? = some (.int .i32 p.1) ∧ (rgV l)[i * 2 + 1]? = some (.int .i32 p.2)
  | [], i, p, h => by simp at h
  | q :: l, 0, p, h => by
    simp only [List.getElem?_cons_zero, Option.some.injEq] at h
    subst h
    exact ⟨rfl, rfl⟩
  | q :: l, i + 1, p, h => by
    have := rgV_get l i p (by simpa using h)
    rw [rgV_cons, show (i + 1) * 2 = i * 2 + 1 + 1 by omega, List.getElem?_cons_succ, List.getElem?_cons_succ, List.getElem?_cons_succ, List.getElem?_cons_succ]
    exact this
theorem RgAt_row {w : World} {g : Nat} : ∀ (l : List (Int × Int)) (o : Nat), (∀ i p, l[i]? = some p → w.cell? ⟨g, o + i * 2, none⟩ = some (.int .i32 p.1) ∧ w.cell? ⟨g, o + i * 2 + 1, none⟩ = some (.int .i32 p.2)) → Nd.RgAt w l (some ⟨g, o, none⟩)
  | [], _, _ => trivial
  | p :: l, o, h => by
    have h0 := h 0 p rfl
    rw [Nat.zero_mul, Nat.add_zero] at h0
    refine ⟨g, o, rfl, h0.1, h0.2, RgAt_row l (o + 2) fun i q hq => ?_⟩
    have := h (i + 1) q (by simpa using hq)
    rw [show o + 2 + i * 2 = o + (i + 1) * 2 by omega]
    exact this
/-- v is a slice of the ranges l in a block of its own, from B on, that nothing else holds. -/
def Hld (w : World) (B : Nat) (v : Value) (l : List (Int × Int)) : Prop :=
  (v = .slice none 0 0 ∧ l = []) ∨ ∃ g cap cur, v = .slice (some ⟨g, 0, none⟩) l.length cap ∧ B ≤ g ∧ w.heap[g]? = some (.cells cur 63 (0, 0)) ∧ l.length ≤ cap ∧ cap * 2 ≤ cur.size ∧ cur.toList.take (l.length * 2) = rgV l ∧ cap ≤ maxLen
theorem Hld.nil (w : World) (B : Nat) : Hld w B (.slice none 0 0) [] := .inl ⟨rfl, rfl⟩
theorem Hld.mono {w : World} {B B' : Nat} {v : Value} {l : List (Int × Int)} (h : Hld w B v l) (hB : B' ≤ B) : Hld w B' v l := by
  rcases h with h | ⟨g, cap, cur, h1, h2, h3⟩
  · exact .inl h
  · exact .inr ⟨g, cap, cur, h1, by omega, h3⟩
theorem Hld.below {w w' : World} {B : Nat} {v : Value} {l : List (Int × Int)} (h : Hld w B v l) (hb : Below w.heap.size w w') : Hld w' B v l := by
  rcases h with h | ⟨g, cap, cur, h1, h2, h3, h4⟩
  · exact .inl h
  · exact .inr ⟨g, cap, cur, h1, h2, by rw [hb.block g (Array.getElem?_eq_some_iff.1 h3).1]; exact h3, h4⟩
theorem Hld.rl {w : World} {B : Nat} {v : Value} {l : List (Int × Int)} (h : Hld w B v l) : RL w v l := by
  rcases h with ⟨rfl, rfl⟩ | ⟨g, cap, cur, rfl, h2, h3, h4, h5, h6, _⟩
  · exact RL.nil w
  · refine ⟨_, cap, rfl, h4, RgAt_row l 0 fun i p hp => ?_⟩
    have hi := (List.getElem?_eq_some_iff.1 hp).1
    obtain ⟨a, b⟩ := rgV_get l i p hp
    rw [← h6, List.getElem?_take_of_lt (by omega)] at a b
    rw [Nat.zero_add]
    refine ⟨?_, ?_⟩
    · simp only [World.cell?, h3]
      simpa using a
    · simp only [World.cell?, h3]
      simpa using b
/-- v is a slice of slices of ranges. -/
def RLL (w : World) (v : Value) (ls : List (List (Int × Int))) : Prop := ∃ a c, v = .slice a ls.length c ∧ ls.length ≤ c ∧ ∀ i l, ls[i]? = some l → ∃ b o u, a = some ⟨b, o, none⟩ ∧ w.cell? ⟨b, o + i, none⟩ = some u ∧ RL w u l
theorem RLL.below {w w' : World} {v : Value} {ls : List (List (Int × Int))} (h : RLL w v ls) (hb : Below w.heap.size w w') : RLL w' v ls := by
  obtain ⟨a, c, h1, h2, h3⟩ := h
  refine ⟨a, c, h1, h2, fun i l hi => ?_⟩
  obtain ⟨b, o, u, ha, hu, hr⟩ := h3 i l hi
  exact ⟨b, o, u, ha, Nd.cell_keeps hb hu, hr.below hb⟩
/-- The place of the first range that holds a number. -/
def clsF (x : Int) : Nat → List (Int × Int) → Option Nat
  | _, [] => none
  | p, r :: t => if r.1 ≤ x ∧ x ≤ r.2 then some p else clsF x (p + 1) t
def atI : Option Nat → Int
  | some i => (i : Int)
  | none => -1
def cls (l : List (Int × Int)) (x : Int) : Int := atI (clsF x 0 l)
theorem clsF_some (x : Int) : ∀ (l : List (Int × Int)) (p : Nat), (clsF x p l).isSome = hasB l x
  | [], _ => rfl
  | r :: t, p => by
    simp only [clsF]
    by_cases h : r.1 ≤ x ∧ x ≤ r.2
    · rw [if_pos h, hasB_cons, decide_eq_true h.1, decide_eq_true h.2]; rfl
    · rw [if_neg h, hasB_cons, clsF_some x t]
      by_cases h1 : r.1 ≤ x
      · rw [decide_eq_false (show ¬ x ≤ r.2 from fun h2 => h ⟨h1, h2⟩), Bool.and_false, Bool.false_or]
      · rw [decide_eq_false h1, Bool.false_and, Bool.false_or]
theorem cls_has (l : List (Int × Int)) (x : Int) : decide (0 ≤ cls l x) = hasB l x := by
  rw [← clsF_some x l 0]
  unfold cls
  cases clsF x 0 l with
  | none => rfl
  | some i => simp [atI]
end Rn
set_option maxHeartbeats 1000000 in
theorem Class1_any (p q x : Int) (b : Nat) (w : World) (hx : w.cell? ⟨b, 0, none⟩ = some (.int .i32 x)) :
    Calls Tryd.prog 65 #[.agg #[.int .i32 p, .int .i32 q], .pointer (some ⟨b, 0, none⟩)] w fun e w' => e = .returned (.bool (decide (p ≤ x) && decide (x ≤ q))) ∧ Below w.heap.size w w' := by
  have hB : Below w.heap.size w (w.alloc (.cells #[.int .i32 p, .int .i32 q] 63)) := (Below.refl _ w).alloc (Nat.le_refl _) _
  have hx2 := Nd.cell_keeps hB hx
  by_cases h1 : p ≤ x
  · have d1 : decide (p ≤ x) = true := decide_eq_true h1
    obtain ⟨R, hR⟩ : ∃ R, decide (x ≤ q) = R := ⟨_, rfl⟩
    rw [d1, hR, Bool.true_and]
    go_enter Tryd.func65, Tryd.ntmps65
    go_wp2_with fail
    go_ret
    exact ⟨rfl, hB⟩
  · have d1 : decide (p ≤ x) = false := decide_eq_false h1
    rw [d1, Bool.false_and]
    go_enter Tryd.func65, Tryd.ntmps65
    go_wp2_with fail
    go_ret
    exact ⟨rfl, hB⟩
set_option maxHeartbeats 1000000 in
theorem IndexRn_any (l : List (Int × Int)) (a : Option Addr) (cap : Nat) (x : Int) (nb : Nat) (w : World) (hR : Nd.RgAt w l a) (hl : l.length ≤ 140737488351232) (hx : w.cell? ⟨nb, 0, none⟩ = some (.int .i32 x)) :
    Calls Tryd.prog 64 #[.slice a l.length cap, .func (.func 65) #[] #[.pointer (some ⟨nb, 0, none⟩)]] w fun e w' => e = .returned (.int .i64 (cls l x)) ∧ Below w.heap.size w w' := by
  obtain ⟨N, hN⟩ : ∃ k, l.length = k := ⟨_, rfl⟩
  have HN := Lib.hid hN
  rw [hN] at hl ⊢
  have n1 : (N : Int) ≤ 9223372036854775807 := by omega
  have HR := Lib.hid hR
  have HT : Hid (atI (clsF x 0 l) = cls l x) := Lib.hid rfl
  obtain ⟨TT, hTT⟩ : ∃ k, cls l x = k := ⟨_, rfl⟩
  rw [hTT] at HT ⊢
  clear hTT hN hR
  go_enter Tryd.func64, Tryd.ntmps64
  go_wp2_with fail
  go_loopw [8] (fun i wr => ∃ p : Nat, p ≤ N ∧ i = .int .i64 p ∧ Hid (atI (clsF x p (l.drop p)) = TT) ∧ Below w.heap.size w wr) (fun i _ => N - (intOf i).toNat)
  case atStart => exact ⟨0, Nat.zero_le _, rfl, by rw [List.drop_zero]; exact HT, Below.refl _ w⟩
  case round =>
    obtain ⟨p, hp, rfl, hT, hB⟩ := hrel
    by_cases hlt : p < N
    · have d2 : decide (p < N) = true := by rw [decide_eq_true_iff]; exact hlt
      have p0 : (p : Int) < (N : Int) := by omega
      obtain ⟨r, hr⟩ : ∃ r, l[p]? = some r := ⟨_, List.getElem?_eq_getElem (by rw [HN.out]; exact hlt)⟩
      obtain ⟨g, o, rfl, x1, x2⟩ := HR.out.get p r hr
      obtain ⟨ra, rb⟩ := r
      dsimp only at x1 x2
      have y1 := Nd.cell_keeps hB x1
      have y2 := Nd.cell_keeps hB x2
      have hC := Class1_any ra rb x nb wr (Nd.cell_keeps hB hx)
      have hst : atI (if ra ≤ x ∧ x ≤ rb then some p else clsF x (p + 1) (l.drop (p + 1))) = TT := by
        rw [← hT.out, Nd.drop_some hr]
        simp only [clsF]
      by_cases hq : ra ≤ x ∧ x ≤ rb
      · rw [if_pos hq] at hst
        have HST := Lib.hid hst
        rw [decide_eq_true hq.1, decide_eq_true hq.2] at hC
        replace hC := Lib.hid hC
        clear x1 x2 hst hq hr hT HT
        go_wp2_with (go_at_call 65; refine hC.out.mono ?_; rintro e w' ⟨rfl, hb⟩)
        go_ret
        exact ⟨by rw [← HST.out]; rfl, hB.trans (hb.mono hB.size)⟩
      · rw [if_neg hq] at hst
        have HST := Lib.hid hst
        have hf : (decide (ra ≤ x) && decide (x ≤ rb)) = false := by
          rw [← Bool.decide_and]
          exact decide_eq_false hq
        rw [hf] at hC
        replace hC := Lib.hid hC
        clear x1 x2 hst hq hr hT HT hf
        go_wp2_with (go_at_call 65; refine hC.out.mono ?_; rintro e w' ⟨rfl, hb⟩)
        refine ⟨⟨p + 1, by omega, by go_num, HST, hB.trans (hb.mono hB.size)⟩, by simp [intOf]; omega⟩
    · have d2 : decide (p < N) = false := by rw [decide_eq_false_iff_not]; exact hlt
      have hfin : (-1 : Int) = TT := by
        rw [← hT.out, List.drop_eq_nil_of_le (by rw [HN.out]; omega)]
        simp only [clsF, atI]
      have HF := Lib.hid hfin
      clear hfin hT HT
      go_wp2_with fail
      go_ret
      exact ⟨by rw [← HF.out]; rfl, hB⟩
theorem boxR (w : World) (t : TypeId) (x : Int) : (w.alloc (.cells #[.int .i32 x] t)).cell? ⟨w.heap.size, 0, none⟩ = some (.int .i32 x) := by
  have := (Bk.made w t #[.int .i32 x]).cell 0
  rw [this]
  rfl
set_option maxHeartbeats 1000000 in
theorem ClassRn_any (l : List (Int × Int)) (v : Value) (x : Int) (w : World) (hR : RL w v l) (hl : l.length ≤ 140737488351232) :
    Calls Tryd.prog 59 #[v, .int .i32 x] w fun e w' => e = .returned (.int .i64 (cls l x)) ∧ Below w.heap.size w w' := by
  obtain ⟨a, c, rfl, hc, hR⟩ := hR
  have hk : ∀ o1, Below w.heap.size w (w.alloc o1) := fun o1 => (Below.refl _ w).alloc (Nat.le_refl _) o1
  have hC := Lib.hid (fun (w1 : World) (hb : Below w.heap.size w w1) (nb : Nat) (hx : w1.cell? ⟨nb, 0, none⟩ = some (.int .i32 x)) => IndexRn_any l a c x nb w1 (hR.below hb) hl hx)
  generalize l.length = N at *
  obtain ⟨FI, hFI⟩ : ∃ k, cls l x = k := ⟨_, rfl⟩
  rw [hFI] at hC ⊢
  clear hR hFI
  go_enter Tryd.func59, Tryd.ntmps59
  go_wp2_with (go_at_call 64; refine (hC.out _ (hk _) _ (boxR _ _ _)).mono ?_; rintro e w' ⟨rfl, hb⟩)
  go_ret
  exact ⟨rfl, (hk _).trans (hb.mono (by simp))⟩
end Go.Proofs.YtagbpkabfjnplaaDoor
