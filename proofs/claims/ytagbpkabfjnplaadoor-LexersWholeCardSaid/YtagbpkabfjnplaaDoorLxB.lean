/- Lexers: the contract of subsets.filled. -/
import Derived.Test.YtagbpkabfjnplaaDoorLxA
import Derived.Carry
import Derived.Deep.OwnRows
namespace Go.Proofs.YtagbpkabfjnplaaDoor
open Go Go.RowKit Rn Lx
set_option maxRecDepth 100000

namespace Lx
theorem infoBo : (Tryd.prog.info? 4).map (fun i => (i.zero, i.size, i.bytes)) = some (some (.bool false), 1, 1) := by kernel_rfl
def bos (e : List Bool) : Array Value := (e.map Value.bool).toArray
theorem bos_get {e : List Bool} {i : Nat} (h : i < e.length) : (bos e)[i]? = some (.bool (e.getD i false)) := by
  unfold bos
  simp [h]
theorem bos_set (e : List Bool) (i : Nat) (b : Bool) : (bos e).setIfInBounds i (.bool b) = bos (e.set i b) := by
  unfold bos
  apply Array.ext'
  simp [List.map_set]
theorem made_bos (n : Nat) : madeCells #[.bool false] n = bos (List.replicate n false) := by
  unfold bos
  rw [List.map_replicate]
  apply Array.ext
  · simp [madeCells]
  · intro i h1 h2
    simp [madeCells, Nat.mod_one]
def finL : Option (List Bool × Nat) → Option Nat
  | none => none
  | some (m, n) => if (m.take n).all id = true then some n else none
theorem filF_fin (cs : List Int) : filF cs = finL (filL cs (List.replicate cs.length false) 0) := by
  unfold filF
  cases filL cs (List.replicate cs.length false) 0 with
  | none => rfl
  | some p => rfl
def filT : Option Nat → Value
  | some n => .tuple #[.int .i64 n, .bool true]
  | none => .tuple #[.int .i64 0, .bool false]
/-- The row of flags, at its block. -/
def HasV (w0 wr : World) (m : List Bool) : Prop := Bk wr w0.heap.size 4 (bos m) ∧ Below w0.heap.size w0 wr
end Lx
set_option maxHeartbeats 4000000 in
theorem filled_any (l : List Int) (v : Value) (w : World) (hv : ZV w v l) (hl : l.length ≤ 1000000) :
    Calls Tryd.prog 43 #[v] w fun e w' => e = .returned (filT (filF l)) ∧ Below w.heap.size w w' := by
  obtain ⟨a, c, rfl, _, hc⟩ := hv
  obtain ⟨N, hN⟩ : ∃ N, l.length = N := ⟨_, rfl⟩
  have HN := Lib.hid hN
  have HC := Lib.hid hc
  obtain ⟨TT, hT⟩ : ∃ t, filF l = t := ⟨_, rfl⟩
  have HT := Lib.hid (show finL (filL (l.drop 0) (List.replicate N false) 0) = TT from by rw [List.drop_zero, ← hT, filF_fin, hN])
  rw [hN] at hl ⊢
  rw [hT]
  have n1 : (N : Int) ≤ 9223372036854775807 := by omega
  have hmk := run_make_row' (P := Tryd.prog) 27 4 (.bool false) 1 Tryd.underlying27 infoBo rfl .i64 .i64 N (by omega) (by omega)
  have HD0 := Lib.hid (show HasV w (w.alloc (.cells (madeCells #[.bool false] N) 4)) (List.replicate N false) from ⟨by
    rw [← made_bos]
    exact Bk.made w 4 (madeCells #[.bool false] N), (Below.refl _ _).alloc (Nat.le_refl _) _⟩)
  clear hN hc hT
  go_enter Tryd.func43, Tryd.ntmps43
  go_wp2_with fail
  go_loopw [14, 2] (fun i u wr => ∃ (k n : Nat) (m : List Bool), k ≤ N ∧ i = .int .i64 k ∧ u = .int .i64 n ∧ n ≤ k ∧ Hid (m.length = N) ∧ Hid (HasV w wr m) ∧ Hid (finL (filL (l.drop k) m n) = TT)) (fun i _ _ => N - (intOf i).toNat)
  case atStart => exact ⟨0, 0, _, Nat.zero_le _, rfl, rfl, Nat.le_refl _, Lib.hid (List.length_replicate ..), HD0, HT⟩
  case round =>
    obtain ⟨k, n, m, hk, rfl, rfl, hnk, hM, hJ, hF⟩ := hrel
    by_cases hlt : k < N
    · obtain ⟨x, hx⟩ : ∃ x, l[k]? = some x := ⟨_, List.getElem?_eq_getElem (by rw [HN.out]; exact hlt)⟩
      obtain ⟨b, o, rfl, c0⟩ := HC.out k x hx
      replace c0 := Nd.cell_keeps hJ.out.2 c0
      have d0 : decide (k < N) = true := by rw [decide_eq_true_iff]; exact hlt
      have a0 : (k : Int) < (N : Int) := by omega
      have a1 : (0 : Int) ≤ (k : Int) := by omega
      have hst := hF.out
      rw [Nd.drop_some hx] at hst
      simp only [filL] at hst
      by_cases h1 : x < 0
      · have d1 : decide (x < 0) = true := decide_eq_true h1
        rw [if_pos (.inl h1)] at hst
        have HF := Lib.hid (show none = TT from hst)
        have hb := Lib.hid hJ.out.2
        clear hst hx hF hJ hM
        go_wp2_with fail
        go_ret2
        exact ⟨by rw [← HF.out]; rfl, hb.out⟩
      · have d1 : decide (x < 0) = false := decide_eq_false h1
        by_cases h2 : (N : Int) ≤ x
        · have d2 : decide ((N : Int) ≤ x) = true := decide_eq_true h2
          rw [if_pos (.inr (by rw [hM.out]; exact h2))] at hst
          have HF := Lib.hid (show none = TT from hst)
          have hb := Lib.hid hJ.out.2
          clear hst hx hF hJ hM
          go_wp2_with fail
          go_ret2
          exact ⟨by rw [← HF.out]; rfl, hb.out⟩
        · have d2 : decide ((N : Int) ≤ x) = false := decide_eq_false h2
          rw [if_neg (by rw [hM.out]; omega)] at hst
          have y0 := hJ.out.1.cell x.toNat
          rw [bos_get (by rw [hM.out]; omega)] at y0
          have y1 := hJ.out.1.free x.toNat
          cases hg : m.getD x.toNat false with
          | true =>
            rw [hg] at y0
            rw [if_pos hg] at hst
            have HF := Lib.hid hst
            clear hst hx hF hg
            go_wp2_with fail
            exact ⟨⟨k + 1, n, m, by omega, by go_num, rfl, by omega, hM, hJ, HF⟩, by simp [intOf]; omega⟩
          | false =>
            rw [hg] at y0
            rw [if_neg (by rw [hg]; simp)] at hst
            have HF := Lib.hid hst
            have HS := Lib.hid (show HasV w (wr.setCell ⟨w.heap.size, x.toNat, none⟩ (.bool true)) (m.set x.toNat true) from ⟨by
              have := hJ.out.1.set x.toNat (.bool true)
              rw [bos_set] at this
              exact this, hJ.out.2.setCell (Nat.le_refl _) _⟩)
            have HL := Lib.hid (show (m.set x.toNat true).length = N from by rw [List.length_set]; exact hM.out)
            clear hst hx hF hg hJ
            go_wp2_with fail
            exact ⟨⟨k + 1, n + 1, _, by omega, by go_num, by go_num, by omega, HL, HS, HF⟩, by simp [intOf]; omega⟩
    · obtain rfl : k = N := by omega
      have d0 : decide (k < k) = false := by simp
      have hst := hF.out
      rw [List.drop_eq_nil_of_le (by rw [HN.out]; omega)] at hst
      have HA := Lib.hid (show (if (m.take n).all id = true then some n else none) = TT from hst)
      have n2 : (n : Int) ≤ (k : Int) := by omega
      have n3 : (0 : Int) ≤ (n : Int) := by omega
      clear hst hF
      go_wp2_with fail
      go_loopw [41, 2] (fun i u wz => ∃ (j : Nat), j ≤ n ∧ i = .int .i64 j ∧ u = .int .i64 n ∧ wz = wr ∧ Hid (((m.take n).drop j).all id = (m.take n).all id)) (fun i _ _ => n - (intOf i).toNat)
      case atStart => exact ⟨0, Nat.zero_le _, rfl, rfl, rfl, Lib.hid (by rw [List.drop_zero])⟩
      case round =>
        obtain ⟨j, hj, rfl, rfl, rfl, hG⟩ := hrel
        by_cases hlt2 : j < n
        · have d5 : decide (j < n) = true := decide_eq_true hlt2
          have a0 : (j : Int) < (n : Int) := by omega
          have a1 : (0 : Int) ≤ (j : Int) := by omega
          have y0 := hJ.out.1.cell j
          rw [bos_get (by rw [hM.out]; omega)] at y0
          have hx : (m.take n)[j]? = some (m.getD j false) := by
            rw [List.getElem?_take_of_lt hlt2, List.getD_eq_getElem?_getD, List.getElem?_eq_getElem (by rw [hM.out]; omega)]; rfl
          have hst := hG.out
          rw [Nd.drop_some hx, List.all_cons] at hst
          cases hg : m.getD j false with
          | true =>
            rw [hg] at y0 hst
            have HF := Lib.hid (show ((m.take n).drop (j + 1)).all id = (m.take n).all id from by rw [← hst]; simp)
            clear hst hx hG hg
            go_wp2_with fail
            exact ⟨⟨j + 1, by omega, by go_num, rfl, by first | trivial | rfl, HF⟩, by simp [intOf]; omega⟩
          | false =>
            rw [hg] at y0 hst
            have HF := Lib.hid (show none = TT from by rw [← HA.out, if_neg (by rw [← hst]; simp)])
            have hb := Lib.hid hJ.out.2
            clear hst hx hG hg
            go_wp2_with fail
            go_ret2
            exact ⟨by rw [← HF.out]; rfl, hb.out⟩
        · have d5 : decide (j < n) = false := decide_eq_false hlt2
          have HF := Lib.hid (show some n = TT from by
            rw [← HA.out, if_pos (by rw [← hG.out, List.drop_eq_nil_of_le (by rw [List.length_take, hM.out]; omega)]; rfl)])
          have hb := Lib.hid hJ.out.2
          clear hG
          go_wp2_with fail
          go_ret2
          exact ⟨by rw [← HF.out]; rfl, hb.out⟩
end Go.Proofs.YtagbpkabfjnplaaDoor
