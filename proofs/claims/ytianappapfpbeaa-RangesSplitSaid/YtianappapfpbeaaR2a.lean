/- A page is written over, and what stands behind it. -/
import Derived.Test.YtianappapfpbeaaRnZ
namespace Go.Proofs.Ytianappapfpbeaa
open Go Go.RowKit Rn
set_option maxRecDepth 100000

namespace Rn
/-- A page's block while it is written over. -/
structure WrS (w : World) (g : Nat) (sz : Nat) (bx : Array Value) (wr : World) (a b : Nat) (x y : Int) : Prop where
  cur : ∃ cur, wr.heap[g]? = some (.cells cur 42 (0, 0)) ∧ cur.size = sz ∧ (∀ j, a ≤ j → j < b → cur[j * 2]? = some (.int .i32 x) ∧ cur[j * 2 + 1]? = some (.int .i32 y)) ∧
    ∀ i, ¬ (a * 2 ≤ i ∧ i < b * 2) → (w.heap[g]? = some (.cells cur 42 (0, 0)) ∨ ∃ c0, w.heap[g]? = some (.cells c0 42 (0, 0)) ∧ cur[i]? = c0[i]?)
  grown : w.grownBy wr (some g)
  box : Bk wr w.heap.size 55 bx
theorem grown_setC (w : World) (b i : Nat) (v : Value) : w.grownBy (w.setCell ⟨b, i, none⟩ v) (some b) := ⟨rfl, rfl, rfl, by simp, fun k _ hk => Below.heap_setCell _ _ _ _ (fun e => hk (by rw [e]))⟩
theorem WrS.start {w : World} {g : Nat} {c0 : Array Value} (h : w.heap[g]? = some (.cells c0 42 (0, 0))) (bx : Array Value) (a : Nat) (x y : Int) : WrS w g c0.size bx (w.alloc (.cells bx 55)) a a x y := by
  have hg := World.grownBy_alloc w (.cells bx 55) (some g)
  refine ⟨⟨c0, ?_, rfl, fun j h1 h2 => by omega, fun i _ => .inl h⟩, hg, Bk.made _ _ _⟩
  rw [(World.grownBy_alloc w (.cells bx 55) none).block g (Array.getElem?_eq_some_iff.1 h).1 (by simp)]
  exact h
theorem WrS.store {w wr : World} {g sz : Nat} {bx : Array Value} {a b : Nat} {x y : Int} (h : WrS w g sz bx wr a b x y) (hab : a ≤ b) (hsz : (b + 1) * 2 ≤ sz) (hg : g < w.heap.size) :
    WrS w g sz bx ((wr.setCell ⟨g, b * 2, none⟩ (.int .i32 x)).setCell ⟨g, b * 2 + 1, none⟩ (.int .i32 y)) a (b + 1) x y := by
  obtain ⟨⟨cur, h1, h2, h3, h4⟩, h5, h6⟩ := h
  obtain ⟨k1, k2, k3, k4⟩ := set_two (cur := cur) (j := b) (x := .int .i32 x) (y := .int .i32 y) (by omega)
  refine ⟨⟨_, heap_set (heap_set h1 _ _) _ _, by rw [k1]; exact h2, fun j j1 j2 => ?_, fun i hi => ?_⟩, (h5.trans (grown_setC _ _ _ _)).trans (grown_setC _ _ _ _), ?_⟩
  · by_cases e : j = b
    · subst e
      exact ⟨k2, k3⟩
    · rw [k4 _ (by omega) (by omega), k4 _ (by omega) (by omega)]
      exact h3 j j1 (by omega)
  · rcases h4 i (by omega) with h | ⟨c0, h, k⟩
    · exact .inr ⟨cur, h, k4 i (by omega) (by omega)⟩
    · exact .inr ⟨c0, h, by rw [k4 i (by omega) (by omega)]; exact k⟩
  · exact (h6.other _ _ (by dsimp only; omega)).other _ _ (by dsimp only; omega)
theorem WrS.reads {w wr : World} {g sz : Nat} {bx : Array Value} {a b : Nat} {x y : Int} (h : WrS w g sz bx wr a b x y) (k : Nat) (hk : k < sz) : ∃ u, wr.cell? ⟨g, k, none⟩ = some u ∧ wr.frozen? ⟨g, k, none⟩ = false := by
  obtain ⟨⟨cur, h1, h2, _⟩, _⟩ := h
  refine ⟨cur[k]'(by omega), ?_, by simp [World.frozen?, h1]⟩
  simp [World.cell?, h1, Array.getElem?_eq_getElem (show k < cur.size by omega)]
end Rn
set_option maxHeartbeats 4000000 in
theorem writeRn_some (num : Int) (g n cap : Nat) (cur : Array Value) (w : World) (hn : n ≤ cap) (hcap : cap ≤ maxLen) (hb : w.heap[g]? = some (.cells cur 42 (0, 0))) (hs : cap * 2 ≤ cur.size) :
    Calls Try.prog 81 #[rowV num (.slice (some ⟨g, 0, none⟩) n cap)] w fun e w' => e = .returned (.tuple #[]) ∧ WrS w g cur.size #[.slice (some ⟨g, 0, none⟩) n cap, .int .i32 num, .int .i32 0, .int .i32 0, .int .i32 num] w' 0 n num 0 := by
  have n1 : (n : Int) ≤ 9223372036854775807 := by unfold maxLen at hcap; omega
  have hgl : g < w.heap.size := (Array.getElem?_eq_some_iff.1 hb).1
  have HS0 := Lib.hid (WrS.start hb #[.slice (some ⟨g, 0, none⟩) n cap, .int .i32 num, .int .i32 0, .int .i32 0, .int .i32 num] 0 num 0)
  obtain ⟨sz, hsz⟩ : ∃ x, cur.size = x := ⟨_, rfl⟩
  rw [hsz] at hs HS0 ⊢
  clear hb hsz
  unfold rowV
  go_enter Try.func81, Try.ntmps81
  go_wp2_with fail
  go_loopw [2] (fun i wr => ∃ p : Nat, p ≤ n ∧ i = .int .i64 p ∧ Hid (WrS w g sz #[.slice (some ⟨g, 0, none⟩) n cap, .int .i32 num, .int .i32 0, .int .i32 0, .int .i32 num] wr 0 p num 0)) (fun i _ => n - (intOf i).toNat)
  case atStart => exact ⟨0, Nat.zero_le _, rfl, HS0⟩
  case round =>
    obtain ⟨p, hp, rfl, hG⟩ := hrel
    have z0 := hG.out.box.cell 0
    have z1 := hG.out.box.cell 1
    have z2 := hG.out.box.cell 2
    simp at z0 z1 z2
    by_cases hlt : p < n
    · have d0 : decide (p < n) = true := by rw [decide_eq_true_iff]; exact hlt
      have a0 : (p : Int) < (n : Int) := by omega
      have HN := Lib.hid (hG.out.store (Nat.zero_le _) (by omega) hgl)
      obtain ⟨u1, r1, r2⟩ := hG.out.reads (p * 2) (by omega)
      obtain ⟨u2, r3, r4⟩ := hG.out.reads (p * 2 + 1) (by omega)
      clear hG
      go_wp2_with fail
      exact ⟨⟨p + 1, by omega, by go_num, HN⟩, by simp [intOf]; omega⟩
    · have d0 : decide (p < n) = false := by rw [decide_eq_false_iff_not]; exact hlt
      obtain rfl : p = n := by omega
      go_wp2_with fail
      go_end0
      exact ⟨rfl, hG.out⟩
set_option maxHeartbeats 4000000 in
theorem behindRn_some (num : Int) (g n cap : Nat) (cur : Array Value) (w : World) (hn : n ≤ cap) (hcap : cap ≤ maxLen) (hb : w.heap[g]? = some (.cells cur 42 (0, 0))) (hs : cap * 2 ≤ cur.size) :
    Calls Try.prog 82 #[rowV num (.slice (some ⟨g, 0, none⟩) n cap)] w fun e w' => e = .returned (.tuple #[]) ∧ WrS w g cur.size #[.slice (some ⟨g, 0, none⟩) n cap, .int .i32 num, .int .i32 0, .int .i32 0, .int .i32 num] w' n cap 0 num := by
  have n1 : (cap : Int) ≤ 9223372036854775807 := by unfold maxLen at hcap; omega
  have n2 : (n : Int) ≤ 9223372036854775807 := by omega
  have hgl : g < w.heap.size := (Array.getElem?_eq_some_iff.1 hb).1
  have HS0 := Lib.hid (WrS.start hb #[.slice (some ⟨g, 0, none⟩) n cap, .int .i32 num, .int .i32 0, .int .i32 0, .int .i32 num] n 0 num)
  obtain ⟨sz, hsz⟩ : ∃ x, cur.size = x := ⟨_, rfl⟩
  rw [hsz] at hs HS0 ⊢
  have z0 := HS0.out.box.cell 0
  simp at z0
  clear hb hsz
  unfold rowV
  go_enter Try.func82, Try.ntmps82
  go_wp2_with fail
  clear z0
  go_loopw [3] (fun i wr => ∃ p : Nat, n ≤ p ∧ p ≤ cap ∧ i = .int .i64 p ∧ Hid (WrS w g sz #[.slice (some ⟨g, 0, none⟩) n cap, .int .i32 num, .int .i32 0, .int .i32 0, .int .i32 num] wr n p 0 num)) (fun i _ => cap - (intOf i).toNat)
  case atStart => exact ⟨n, Nat.le_refl _, hn, rfl, HS0⟩
  case round =>
    obtain ⟨p, hnp, hp, rfl, hG⟩ := hrel
    have z0 := hG.out.box.cell 0
    have z1 := hG.out.box.cell 3
    have z2 := hG.out.box.cell 4
    simp at z0 z1 z2
    by_cases hlt : p < cap
    · have d0 : decide (p < cap) = true := by rw [decide_eq_true_iff]; exact hlt
      have a0 : (p : Int) < (cap : Int) := by omega
      have HN := Lib.hid (hG.out.store hnp (by omega) hgl)
      obtain ⟨u1, r1, r2⟩ := hG.out.reads (p * 2) (by omega)
      obtain ⟨u2, r3, r4⟩ := hG.out.reads (p * 2 + 1) (by omega)
      clear hG
      go_wp2_with fail
      exact ⟨⟨p + 1, by omega, by omega, by go_num, HN⟩, by simp [intOf]; omega⟩
    · have d0 : decide (p < cap) = false := by rw [decide_eq_false_iff_not]; exact hlt
      obtain rfl : p = cap := by omega
      go_wp2_with fail
      go_end0
      exact ⟨rfl, hG.out⟩
set_option maxHeartbeats 4000000 in
theorem standsRn_some (num : Int) (g n cap : Nat) (cur : Array Value) (w : World) (hn : n ≤ cap) (hcap : cap ≤ maxLen) (hb : w.heap[g]? = some (.cells cur 42 (0, 0))) (hs : cap * 2 ≤ cur.size)
    (h1 : ∀ j, j < n → cur[j * 2]? = some (.int .i32 num) ∧ cur[j * 2 + 1]? = some (.int .i32 0)) (h2 : ∀ j, n ≤ j → j < cap → cur[j * 2]? = some (.int .i32 0) ∧ cur[j * 2 + 1]? = some (.int .i32 num)) :
    Calls Try.prog 80 #[rowV num (.slice (some ⟨g, 0, none⟩) n cap)] w fun e w' => e = .returned (.bool true) ∧ Below w.heap.size w w' := by
  have n1 : (cap : Int) ≤ 9223372036854775807 := by unfold maxLen at hcap; omega
  have n2 : (n : Int) ≤ 9223372036854775807 := by omega
  have hgl : g < w.heap.size := (Array.getElem?_eq_some_iff.1 hb).1
  have hb' : (w.alloc (.cells #[.slice (some ⟨g, 0, none⟩) n cap, .int .i32 num, .int .i32 0, .int .i32 0, .int .i32 num] 55)).heap[g]? = some (.cells cur 42 (0, 0)) := by
    rw [(World.grownBy_alloc w (.cells #[.slice (some ⟨g, 0, none⟩) n cap, .int .i32 num, .int .i32 0, .int .i32 0, .int .i32 num] 55) none).block g hgl (by simp)]
    exact hb
  have HRd := Lib.hid (show ∀ (k : Nat) (v : Value), cur[k]? = some v → (w.alloc (.cells #[.slice (some ⟨g, 0, none⟩) n cap, .int .i32 num, .int .i32 0, .int .i32 0, .int .i32 num] 55)).cell? ⟨g, k, none⟩ = some v from fun k v hk => by
    simp [World.cell?, hb', hk])
  have bx : Bk (w.alloc (.cells #[.slice (some ⟨g, 0, none⟩) n cap, .int .i32 num, .int .i32 0, .int .i32 0, .int .i32 num] 55)) w.heap.size 55 #[.slice (some ⟨g, 0, none⟩) n cap, .int .i32 num, .int .i32 0, .int .i32 0, .int .i32 num] := Bk.made _ _ _
  have HBel := Lib.hid ((Below.refl w.heap.size w).alloc (Nat.le_refl _) (.cells #[.slice (some ⟨g, 0, none⟩) n cap, .int .i32 num, .int .i32 0, .int .i32 0, .int .i32 num] 55))
  have HB := Lib.hid bx
  have H1 := Lib.hid h1
  have H2 := Lib.hid h2
  clear hb hb' bx h1 h2
  unfold rowV
  go_enter Try.func80, Try.ntmps80
  go_wp2_with fail
  generalize w.alloc (.cells #[.slice (some ⟨g, 0, none⟩) n cap, .int .i32 num, .int .i32 0, .int .i32 0, .int .i32 num] 55) = W1 at *
  have z0 := HB.out.cell 0
  have z1 := HB.out.cell 1
  have z2 := HB.out.cell 2
  have z3 := HB.out.cell 3
  have z4 := HB.out.cell 4
  simp at z0 z1 z2 z3 z4
  go_loopw [4] (fun i wr => ∃ (k m : Nat), k ≤ cap ∧ i = .int .i64 k ∧ wr = W1.drewN m) (fun i _ => cap - (intOf i).toNat)
  case atStart => exact ⟨0, 0, Nat.zero_le _, rfl, rfl⟩
  case round =>
    obtain ⟨k, m, hk, rfl, rfl⟩ := hrel
    by_cases hlt : k < cap
    · have d0 : decide (k < cap) = true := by rw [decide_eq_true_iff]; exact hlt
      have a0 : (k : Int) < (cap : Int) := by omega
      by_cases hkn : k < n
      · obtain ⟨x1, x2⟩ := H1.out k hkn
        have y1 := HRd.out _ _ x1
        have y2 := HRd.out _ _ x2
        have d1 : decide (k < n) = true := decide_eq_true hkn
        have d2 : decide (n ≤ k) = false := by rw [decide_eq_false_iff_not]; omega
        clear x1 x2 z3 z4
        go_wp2_with fail
        go_quiet (fail)
        go_wp2_with fail
        exact ⟨⟨k + 1, m + nq, by omega, by go_num, rfl⟩, by simp [intOf]; omega⟩
      · obtain ⟨x1, x2⟩ := H2.out k (by omega) hlt
        have y1 := HRd.out _ _ x1
        have y2 := HRd.out _ _ x2
        have d1 : decide (k < n) = false := decide_eq_false hkn
        have d2 : decide (n ≤ k) = true := by rw [decide_eq_true_iff]; omega
        clear x1 x2 z1 z2
        go_wp2_with fail
        go_quiet (fail)
        go_wp2_with fail
        exact ⟨⟨k + 1, m + nq, by omega, by go_num, rfl⟩, by simp [intOf]; omega⟩
    · have d0 : decide (k < cap) = false := by rw [decide_eq_false_iff_not]; exact hlt
      go_wp2_with fail
      go_ret
      exact ⟨rfl, below_drewN HBel.out _⟩
set_option maxHeartbeats 4000000 in
theorem writeRn_nil (num : Int) (w : World) :
    Calls Try.prog 81 #[rowV num (.slice none 0 0)] w fun e w' => e = .returned (.tuple #[]) ∧ Below w.heap.size w w' := by
  have bx : Bk (w.alloc (.cells #[.slice none 0 0, .int .i32 num, .int .i32 0, .int .i32 0, .int .i32 num] 55)) w.heap.size 55 #[.slice none 0 0, .int .i32 num, .int .i32 0, .int .i32 0, .int .i32 num] := Bk.made _ _ _
  have HBel := Lib.hid ((Below.refl w.heap.size w).alloc (Nat.le_refl _) (.cells #[.slice none 0 0, .int .i32 num, .int .i32 0, .int .i32 0, .int .i32 num] 55))
  have HB := Lib.hid bx
  clear bx
  unfold rowV
  go_enter Try.func81, Try.ntmps81
  go_wp2_with fail
  generalize w.alloc (.cells #[.slice none 0 0, .int .i32 num, .int .i32 0, .int .i32 0, .int .i32 num] 55) = W1 at *
  have z0 := HB.out.cell 0
  simp at z0
  go_loopw [2] (fun i wr => i = .int .i64 0 ∧ wr = W1) (fun i _ => 0)
  case atStart => exact ⟨rfl, rfl⟩
  case round =>
    obtain ⟨rfl, rfl⟩ := hrel
    go_wp2_with fail
    go_end0
    exact ⟨rfl, HBel.out⟩
set_option maxHeartbeats 4000000 in
theorem behindRn_nil (num : Int) (w : World) :
    Calls Try.prog 82 #[rowV num (.slice none 0 0)] w fun e w' => e = .returned (.tuple #[]) ∧ Below w.heap.size w w' := by
  have bx : Bk (w.alloc (.cells #[.slice none 0 0, .int .i32 num, .int .i32 0, .int .i32 0, .int .i32 num] 55)) w.heap.size 55 #[.slice none 0 0, .int .i32 num, .int .i32 0, .int .i32 0, .int .i32 num] := Bk.made _ _ _
  have HBel := Lib.hid ((Below.refl w.heap.size w).alloc (Nat.le_refl _) (.cells #[.slice none 0 0, .int .i32 num, .int .i32 0, .int .i32 0, .int .i32 num] 55))
  have HB := Lib.hid bx
  clear bx
  unfold rowV
  go_enter Try.func82, Try.ntmps82
  go_wp2_with fail
  generalize w.alloc (.cells #[.slice none 0 0, .int .i32 num, .int .i32 0, .int .i32 0, .int .i32 num] 55) = W1 at *
  have z0 := HB.out.cell 0
  simp at z0
  go_loopw [3] (fun i wr => i = .int .i64 0 ∧ wr = W1) (fun i _ => 0)
  case atStart => exact ⟨rfl, rfl⟩
  case round =>
    obtain ⟨rfl, rfl⟩ := hrel
    go_wp2_with fail
    go_end0
    exact ⟨rfl, HBel.out⟩
set_option maxHeartbeats 4000000 in
theorem standsRn_nil (num : Int) (w : World) :
    Calls Try.prog 80 #[rowV num (.slice none 0 0)] w fun e w' => e = .returned (.bool true) ∧ Below w.heap.size w w' := by
  have bx : Bk (w.alloc (.cells #[.slice none 0 0, .int .i32 num, .int .i32 0, .int .i32 0, .int .i32 num] 55)) w.heap.size 55 #[.slice none 0 0, .int .i32 num, .int .i32 0, .int .i32 0, .int .i32 num] := Bk.made _ _ _
  have HBel := Lib.hid ((Below.refl w.heap.size w).alloc (Nat.le_refl _) (.cells #[.slice none 0 0, .int .i32 num, .int .i32 0, .int .i32 0, .int .i32 num] 55))
  have HB := Lib.hid bx
  clear bx
  unfold rowV
  go_enter Try.func80, Try.ntmps80
  go_wp2_with fail
  generalize w.alloc (.cells #[.slice none 0 0, .int .i32 num, .int .i32 0, .int .i32 0, .int .i32 num] 55) = W1 at *
  have z0 := HB.out.cell 0
  simp at z0
  go_loopw [4] (fun i wr => i = .int .i64 0 ∧ wr = W1) (fun i _ => 0)
  case atStart => exact ⟨rfl, rfl⟩
  case round =>
    obtain ⟨rfl, rfl⟩ := hrel
    go_wp2_with fail
    go_ret
    exact ⟨rfl, HBel.out⟩
end Go.Proofs.Ytianappapfpbeaa
