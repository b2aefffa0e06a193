/- The sort of ends: cmp.Compare at int64, the closures, slices.SortFunc by the shelf's contract: the same ends, in order. -/
import Derived.Test.YtianappapfpbeaaRnA
import Derived.Test.YtianappapfpbeaaShelfG
import Derived.Sort.OwnSortedInts
namespace Go.Proofs.Ytianappapfpbeaa
open Go Go.RowKit Rn Go.Shelf Go.Sort
set_option maxRecDepth 100000

theorem isNaN64_any (x : Int) (w : World) : Calls Try.prog 48 #[.int .i64 x] w fun e w' => e = .returned (.bool false) ∧ w' = w := by
  have h : (x != x) = false := by simp
  go_enter Try.func48, Try.ntmps48
  go_wp2_with fail
  go_ret
  exact ⟨rfl, rfl⟩
set_option maxHeartbeats 1000000 in
theorem cmp64_any (x y : Int) (w : World) : Calls Try.prog 43 #[.int .i64 x, .int .i64 y] w fun e w' => e = .returned (.int .i64 (Lib.compareInt x y)) ∧ w' = w := by
  have hN := Lib.hid (fun z => isNaN64_any z w)
  have h3 : (x < y ∧ Lib.compareInt x y = -1) ∨ (¬ x < y ∧ y < x ∧ Lib.compareInt x y = 1) ∨ (¬ x < y ∧ ¬ y < x ∧ Lib.compareInt x y = 0) := by
    unfold Lib.compareInt
    by_cases a : x < y
    · exact .inl ⟨a, if_pos a⟩
    · by_cases b : y < x
      · exact .inr (.inl ⟨a, b, by rw [if_neg a, if_pos b]⟩)
      · exact .inr (.inr ⟨a, b, by rw [if_neg a, if_neg b]⟩)
  generalize Lib.compareInt x y = r at *
  rcases h3 with ⟨a, rfl⟩ | ⟨a, b, rfl⟩ | ⟨a, b, rfl⟩
  · go_enter Try.func43, Try.ntmps43
    go_wp2_with (go_at_call 48; refine (hN.out _).mono ?_; rintro e w' ⟨rfl, rfl⟩)
    go_ret
    exact ⟨rfl, rfl⟩
  · go_enter Try.func43, Try.ntmps43
    go_wp2_with (go_at_call 48; refine (hN.out _).mono ?_; rintro e w' ⟨rfl, rfl⟩)
    go_ret
    exact ⟨rfl, rfl⟩
  · go_enter Try.func43, Try.ntmps43
    go_wp2_with (go_at_call 48; refine (hN.out _).mono ?_; rintro e w' ⟨rfl, rfl⟩)
    go_ret
    exact ⟨rfl, rfl⟩
/-- An end's two cells. -/
def encE (p : Int × Int) : List Value := [.int .i64 p.1, .int .i64 p.2]
def endV (d : List (Int × Int)) : List Value := d.flatMap encE
theorem endV_len : ∀ d : List (Int × Int), (endV d).length = d.length * 2
  | [] => rfl
  | p :: d => by
    have := endV_len d
    simp only [endV, List.flatMap_cons, List.length_append, encE, List.length_cons, List.length_nil] at this ⊢
    omega
theorem endV_append (a b : List (Int × Int)) : endV (a ++ b) = endV a ++ endV b := by simp [endV]
theorem endV_cons (p : Int × Int) (d : List (Int × Int)) : endV (p :: d) = .int .i64 p.1 :: .int .i64 p.2 :: endV d := rfl
theorem endV_get : ∀ (l : List (Int × Int)) (i : Nat) (p : Int × Int), l[i]? = some p → (endV l)[i * 2]? = some (.int .i64 p.1) ∧ (endV l)[i * 2 + 1]? = some (.int .i64 p.2)
  | [], i, p, h => by simp at h
  | q :: l, 0, p, h => by
    simp only [List.getElem?_cons_zero, Option.some.injEq] at h
    subst h
    exact ⟨rfl, rfl⟩
  | q :: l, i + 1, p, h => by
    have := endV_get l i p (by simpa using h)
    rw [endV_cons, show (i + 1) * 2 = i * 2 + 1 + 1 by omega, List.getElem?_cons_succ, List.getElem?_cons_succ, List.getElem?_cons_succ, List.getElem?_cons_succ]
    exact this
theorem endV_one (d : List (Int × Int)) : ∀ u ∈ endV d, u.oneCell' = true := fun u hu => by
  obtain ⟨p, _, hp⟩ := List.mem_flatMap.1 hu
  simp [encE] at hp
  rcases hp with rfl | rfl <;> rfl
theorem flatK_endV (d : Array (Int × Int)) : (flatK encE 2 d).toList = endV d.toList := by
  apply List.ext_getElem?
  intro t
  by_cases h : t < d.size * 2
  · have e : t = t / 2 * 2 ∨ t = t / 2 * 2 + 1 := by omega
    have hi : t / 2 < d.size := by omega
    have hg : d.toList[t / 2]? = some d[t / 2] := by simp [hi]
    obtain ⟨a, b⟩ := endV_get d.toList (t / 2) _ hg
    have hk : (flatK encE 2 d)[t]? = some ((encE d[t / 2]!)[t % 2]!) := by
      unfold flatK
      simp [h]
    rw [Array.getElem?_toList, hk, getElem!_pos d _ hi]
    rcases e with e | e
    · rw [← e] at a
      rw [a, show t % 2 = 0 by omega]
      rfl
    · rw [← e] at b
      rw [b, show t % 2 = 1 by omega]
      rfl
  · rw [List.getElem?_eq_none (by simp; omega), List.getElem?_eq_none (by rw [endV_len]; simp; omega)]
theorem holdsK_row {w : World} {g : Nat} {cur : Array Value} {e : TypeId} {d : List (Int × Int)} (hb : w.heap[g]? = some (.cells cur e (0, 0))) (ht : cur.toList.take (d.length * 2) = endV d) : HoldsK encE 2 w g 0 d.toArray := by
  intro j hj
  rw [size_flatK] at hj
  have hj' : j < d.length * 2 := by simpa using hj
  refine ⟨?_, by simp [World.frozen?, hb]⟩
  have h0 : (flatK encE 2 d.toArray)[j]? = (endV d)[j]? := by rw [← Array.getElem?_toList, flatK_endV]
  have h1 : cur[j]? = (endV d)[j]? := by rw [← ht, List.getElem?_take_of_lt hj', Array.getElem?_toList]
  have h2 : (flatK encE 2 d.toArray)[j]? = some (flatK encE 2 d.toArray)[j]! := by
    rw [getElem!_pos _ j (by rw [size_flatK]; exact hj), Array.getElem?_eq_getElem]
  simp only [World.cell?, hb, Nat.zero_add]
  simp only [Option.isSome_none, Bool.false_eq_true, if_false]
  rw [h1, ← h0, h2]
  rfl
theorem heap_sortedK {w : World} {g n : Nat} {os : Array Obj} {cur : Array Value} {e : TypeId} {fr : Nat × Nat} (d : Array (Int × Int)) (hb : w.heap[g]? = some (.cells cur e fr)) :
    (sortWorldK encE 2 w g 0 n d os).heap[g]? = some (.cells (putCells id 0 (flatK encE 2 d) cur) e fr) := by
  have hg : g < w.heap.size := (Array.getElem?_eq_some_iff.1 hb).1
  unfold sortWorldK
  rw [heap_grow_old _ _ (by simpa [putRowK] using hg)]
  simp [putRowK, putRow, mapBlock, Sort.ahead, Array.getElem?_modify, hb, onCells]
theorem grownBy_sortedK {w : World} {g n : Nat} {os : Array Obj} (d : Array (Int × Int)) : w.grownBy (sortWorldK encE 2 w g 0 n d os) (some g) := by
  unfold sortWorldK
  refine ⟨rfl, rfl, rfl, by simp [putRowK], fun k hk hne => ?_⟩
  rw [heap_grow_old _ _ (by simpa [putRowK] using hk)]
  have : g ≠ k := fun e => hne (by rw [e])
  simp [putRowK, putRow, mapBlock, Sort.ahead, Array.getElem?_modify, this]
theorem take_putCellsK (cur F : Array Value) (h : F.size ≤ cur.size) : (putCells id 0 F cur).toList.take F.size = F.toList := by
  apply List.ext_getElem?
  intro j
  by_cases hj : j < F.size
  · rw [List.getElem?_take_of_lt hj, Array.getElem?_toList]
    simp [putCells, hj, show j < cur.size by omega]
  · rw [List.getElem?_take_eq_none (by omega), List.getElem?_eq_none (by simp; omega)]
theorem ltAt (x y : Int × Int) : ltOf (fun x y : Int × Int => Lib.compareInt x.1 y.1) x y = decide (x.1 < y.1) := by
  unfold ltOf Lib.compareInt
  by_cases h1 : x.1 < y.1
  · simp [h1]
  · by_cases h2 : y.1 < x.1 <;> simp [h1, h2]
theorem swoAt : SWO (ltOf fun x y : Int × Int => Lib.compareInt x.1 y.1) where
  irrefl x := by rw [ltAt]; simp
  trans x y z h1 h2 := by rw [ltAt] at *; simp at *; omega
  ntrans x y z h1 h2 := by rw [ltAt] at *; simp at *; omega
theorem up_of : ∀ (l : List (Int × Int)), (∀ (i j : Nat) (p q : Int × Int), i < j → l[i]? = some p → l[j]? = some q → p.1 ≤ q.1) → Up l
  | [], _ => trivial
  | p :: t, h => ⟨fun q hq => by
      obtain ⟨j, hj⟩ := List.getElem?_of_mem hq
      exact h 0 (j + 1) p q (by omega) rfl (by simpa using hj), up_of t fun i j a b hij ha hb => h (i + 1) (j + 1) a b (by omega) (by simpa using ha) (by simpa using hb)⟩
theorem up_sorted {d : Array (Int × Int)} (h : SortedIn (ltOf fun x y : Int × Int => Lib.compareInt x.1 y.1) 0 d.size d) : Up d.toList := by
  refine up_of _ fun i j p q hij hp hq => ?_
  have hi := (List.getElem?_eq_some_iff.1 hp).1
  have hj := (List.getElem?_eq_some_iff.1 hq).1
  rw [Array.length_toList] at hi hj
  have := h i j (Nat.zero_le _) hij hj
  rw [ltAt, getElem!_pos d i hi, getElem!_pos d j hj, decide_eq_false_iff_not] at this
  rw [Array.getElem?_toList, Array.getElem?_eq_getElem hi] at hp
  rw [Array.getElem?_toList, Array.getElem?_eq_getElem hj] at hq
  injection hp with hp
  injection hq with hq
  subst hp hq
  omega
theorem perm_in {d d' : Array (Int × Int)} (h : PermIn 0 d.size d d') : d.toList.Perm d'.toList := by
  obtain ⟨h1, _, h3⟩ := h
  have e : d'.extract 0 d.size = d' := by rw [← h1]; simp
  rw [e] at h3
  simpa using h3.symm
/-- slices.SortFunc at ends: the same ends, in order. -/
theorem sortRn_any (g : Nat) (eg : ∀ args w, (callFunc g args).run Try.prog w = .ok (.enter g args) w)
    (hC : ∀ (x y : Int × Int) (W : World), Calls Try.prog g #[.agg #[.int .i64 x.1, .int .i64 x.2], .agg #[.int .i64 y.1, .int .i64 y.2]] W fun e w' => e = .returned (.int .i64 (Lib.compareInt x.1 y.1)) ∧ ∃ q os', w' = grow (W.drewN q) os')
    (d : List (Int × Int)) (v : Value) (B : Nat) (w : World) (hown : w.ownsRow B 65 2 v d.length (endV d)) (hl : d.length ≤ 100000000) :
    Calls Try.prog 41 #[v, .func (.func g) #[] #[]] w fun e w' => e = .returned (.tuple #[]) ∧ ∃ d', d.Perm d' ∧ Up d' ∧ w'.ownsRow B 65 2 v d.length (endV d') ∧ w.grownBy w' v.ownBlock := by
  rcases hown.2 with ⟨rfl, hn⟩ | ⟨b, cap, cur, rfl, hB, hb, hc1, hc2, hc3, hc4⟩
  · obtain rfl : d = [] := List.eq_nil_of_length_eq_zero hn
    have hcon := AnyF.slices_SortFunc_none Try.sortEnd none 0 (.func (.func g) #[] #[]) w
    change Calls Try.prog 41 _ _ _ at hcon
    refine hcon.mono fun e w' ⟨he, hw⟩ => ⟨he, [], .nil, trivial, ?_⟩
    rw [hw]
    exact ⟨hown, ⟨rfl, rfl, rfl, Nat.le_refl _, fun _ _ _ => rfl⟩⟩
  · have hH := holdsK_row hb hc4
    have hsz : d.toArray.size = d.length := by simp
    have hcmp : CmpLays Try.prog g #[] encE 2 (fun x y => Lib.compareInt x.1 y.1) b 0 d.toArray.size w := fun _ _ _ _ x y => hC x y _
    have hcon := AnyQ.slices_SortFunc Try.sortEnd 2 Try.isAgg65 Try.sizeOf65 encE (fun _ => rfl) (fun x v hv => by simp [encE] at hv; rcases hv with rfl | rfl <;> rfl) (fun x y => Lib.compareInt x.1 y.1) swoAt g #[] b 0 cap d.toArray w eg hcmp hH (Array.getElem?_eq_some_iff.1 hb).1 (by rw [hsz]; omega)
    change Calls Try.prog 41 _ _ _ at hcon
    rw [hsz] at hcon
    refine hcon.mono fun e w' ⟨he, d', n, os, hp, hs, hw⟩ => ⟨he, d'.toList, ?_, ?_, ?_⟩
    · rw [← hsz] at hp
      simpa using perm_in hp
    · have hs1 : d'.size = d.length := by rw [hp.1, hsz]
      rw [← hs1] at hs
      exact up_sorted hs
    · have hs1 : d'.size = d.length := by rw [hp.1, hsz]
      subst hw
      refine ⟨⟨by rw [endV_len, Array.length_toList, hs1], .inr ⟨b, cap, _, rfl, hB, heap_sortedK d' hb, hc1, hc2, by simp [putCells, hc3], ?_⟩⟩, grownBy_sortedK d'⟩
      rw [← flatK_endV, ← take_putCellsK cur (flatK encE 2 d') (by rw [size_flatK, hs1, hc3]; exact Nat.mul_le_mul_right 2 hc1), size_flatK, hs1]
set_option maxHeartbeats 1000000 in
theorem closureB (x y : Int × Int) (W : World) : Calls Try.prog 42 #[.agg #[.int .i64 x.1, .int .i64 x.2], .agg #[.int .i64 y.1, .int .i64 y.2]] W fun e w' => e = .returned (.int .i64 (Lib.compareInt x.1 y.1)) ∧ ∃ q os', w' = grow (W.drewN q) os' := by
  have hcon := Lib.hid (fun W' => cmp64_any x.1 y.1 W')
  generalize Lib.compareInt x.1 y.1 = r at hcon ⊢
  go_enter Try.func42, Try.ntmps42
  go_wp2_with (go_at_call 43; refine (hcon.out _).mono ?_; rintro e w' ⟨rfl, rfl⟩)
  go_ret
  exact ⟨rfl, 0, _, by rw [alloc_eq_grow, alloc_eq_grow, grow_grow]; rfl⟩
theorem enterB : ∀ args w, (callFunc 42 args).run Try.prog w = .ok (.enter 42 args) w := enters_of Try.func42 (by kernel_rfl) rfl
set_option maxHeartbeats 1000000 in
theorem closureI (x y : Int × Int) (W : World) : Calls Try.prog 45 #[.agg #[.int .i64 x.1, .int .i64 x.2], .agg #[.int .i64 y.1, .int .i64 y.2]] W fun e w' => e = .returned (.int .i64 (Lib.compareInt x.1 y.1)) ∧ ∃ q os', w' = grow (W.drewN q) os' := by
  have hcon := Lib.hid (fun W' => cmp64_any x.1 y.1 W')
  generalize Lib.compareInt x.1 y.1 = r at hcon ⊢
  go_enter Try.func45, Try.ntmps45
  go_wp2_with (go_at_call 43; refine (hcon.out _).mono ?_; rintro e w' ⟨rfl, rfl⟩)
  go_ret
  exact ⟨rfl, 0, _, by rw [alloc_eq_grow, alloc_eq_grow, grow_grow]; rfl⟩
theorem enterI : ∀ args w, (callFunc 45 args).run Try.prog w = .ok (.enter 45 args) w := enters_of Try.func45 (by kernel_rfl) rfl
end Go.Proofs.Ytianappapfpbeaa
