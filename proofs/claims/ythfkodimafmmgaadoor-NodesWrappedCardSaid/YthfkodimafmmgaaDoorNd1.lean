/- The walk of NodesWrapped: where it asks only the example. -/
import Derived.Test.YthfkodimafmmgaaDoorNdP
namespace Go.Proofs.YthfkodimafmmgaaDoor
open Go Go.RowKit
set_option maxRecDepth 100000
set_option maxHeartbeats 2000000 in
theorem wrapped_lives (n : Nd.T) (v : Value) (tok : Bool) (w : World) (hE : Env w) (hA : Nd.At w n v) (hn : ¬ (Nd.wt 0 n ≤ 3000 ∧ Nd.plainB n tok = true ∧ Nd.deep n ≤ 60 ∧ Nd.count n ≤ 2000)) :
    Calls Tryd.prog 3 #[v, .bool tok] w fun e w' => e = .returned (.bool true) ∧ Below w.heap.size w w' := by
  have HN := Lib.hid hn
  clear hn
  have HS := Lib.hid (fun h => Nd.wt_small n 0 h)
  obtain ⟨sa, sc, ba, bc, rfl, _⟩ := hA.form
  obtain ⟨W1, hW1⟩ : ∃ W1, w.alloc (.cells #[.int .u8 n.kind, .string n.name, .string n.text, .slice sa n.set.length sc, .slice ba n.subs.length bc] 26) = W1 := ⟨_, rfl⟩
  have h1 : Below w.heap.size w W1 := by rw [← hW1]; exact (Below.refl _ w).alloc (Nat.le_refl _) _
  have kb : Bk W1 w.heap.size 26 #[.int .u8 n.kind, .string n.name, .string n.text, .slice sa n.set.length sc, .slice ba n.subs.length bc] := by rw [← hW1]; exact Bk.made w _ _
  have hE1 : Env W1 := hE.below h1
  have hA1 := hA.below h1
  have hl := kb.lt
  have k0 := kb.cell 0
  have k1 := kb.cell 1
  have k2 := kb.cell 2
  have k3 := kb.cell 3
  have k4 := kb.cell 4
  simp at k0 k1 k2 k3 k4
  have H1 := Lib.hid h1
  have LV := Lib.hid (fun wr (h : Below W1.heap.size W1 wr) => (lives_true wr (hE1.below h)).mono (R' := fun e w' => e = .returned (.bool true) ∧ Below W1.heap.size W1 w') fun e w' k => ⟨k.1, h.trans (k.2.mono h.size)⟩)
  obtain ⟨G, hG⟩ : ∃ G, decide (3000 < Nd.wt 0 n) = G := ⟨_, rfl⟩
  obtain ⟨P, hP⟩ : ∃ P, Nd.plainB n tok = P := ⟨_, rfl⟩
  obtain ⟨DN, hDN⟩ : ∃ D : Int, (Nd.deep n : Int) = D := ⟨_, rfl⟩
  obtain ⟨CN, hCN⟩ : ∃ D : Int, (Nd.count n : Int) = D := ⟨_, rfl⟩
  obtain ⟨D, hD⟩ : ∃ D, decide ((60 : Int) < DN) = D := ⟨_, rfl⟩
  obtain ⟨C, hC⟩ : ∃ D, decide ((2000 : Int) < CN) = D := ⟨_, rfl⟩
  have HC : (G || !P || D || C) = true := by
    have := HN.out
    subst hG hP hD hC hDN hCN
    simp only [Bool.or_eq_true, Bool.not_eq_true', decide_eq_true_eq]
    by_cases a : Nd.plainB n tok = true
    · by_cases b : 3000 < Nd.wt 0 n
      · exact Or.inl (Or.inl (Or.inl b))
      · by_cases c : Nd.deep n ≤ 60
        · by_cases d : Nd.count n ≤ 2000
          · exact absurd ⟨by omega, a, c, d⟩ this
          · exact Or.inr (by omega)
        · exact Or.inl (Or.inr (by omega))
    · exact Or.inl (Or.inl (Or.inr (by simpa using a)))
  have hs : G = false → Nd.deep n ≤ 100000 ∧ Nd.count n ≤ 1099511627776 := fun h => by
    rw [h] at hG
    have := of_decide_eq_false hG
    have := HS.out (by omega)
    omega
  have GA := Lib.hid (fun wr (h : Below W1.heap.size W1 wr) => (Great_any n (.agg #[.int .u8 n.kind, .string n.name, .string n.text, .slice sa n.set.length sc, .slice ba n.subs.length bc]) wr (hA1.below h)).mono (R' := fun e w' => e = .returned (.bool G) ∧ Below W1.heap.size W1 w') fun e w' k => ⟨by rw [k.1, hG], h.trans (k.2.mono h.size)⟩)
  have PL := Lib.hid (fun (g : G = false) wr (h : Below W1.heap.size W1 wr) => (Plain_any n (.agg #[.int .u8 n.kind, .string n.name, .string n.text, .slice sa n.set.length sc, .slice ba n.subs.length bc]) tok wr (hE1.below h) (hA1.below h) (hs g).1 (hs g).2).mono (R' := fun e w' => e = .returned (.bool P) ∧ Below W1.heap.size W1 w') fun e w' k => ⟨by rw [k.1, hP], h.trans (k.2.mono h.size)⟩)
  have DE := Lib.hid (fun (g : G = false) wr (h : Below W1.heap.size W1 wr) => (Deep_any n (.agg #[.int .u8 n.kind, .string n.name, .string n.text, .slice sa n.set.length sc, .slice ba n.subs.length bc]) wr (hA1.below h) (hs g).1 (hs g).2).mono (R' := fun e w' => e = .returned (.int .i64 DN) ∧ Below W1.heap.size W1 w') fun e w' k => ⟨by rw [k.1, hDN], h.trans (k.2.mono h.size)⟩)
  have CO := Lib.hid (fun (g : G = false) wr (h : Below W1.heap.size W1 wr) => (Count_any n (.agg #[.int .u8 n.kind, .string n.name, .string n.text, .slice sa n.set.length sc, .slice ba n.subs.length bc]) wr (hA1.below h) (hs g).1 (hs g).2).mono (R' := fun e w' => e = .returned (.int .i64 CN) ∧ Below W1.heap.size W1 w') fun e w' k => ⟨by rw [k.1, hCN], h.trans (k.2.mono h.size)⟩)
  have HY := Lib.hid (fun w' (b : Below W1.heap.size W1 w') => show w'.cell? ⟨w.heap.size, 0, none⟩ = some (.int .u8 n.kind) ∧ w'.cell? ⟨w.heap.size, 1, none⟩ = some (.string n.name) ∧ w'.cell? ⟨w.heap.size, 2, none⟩ = some (.string n.text) ∧ w'.cell? ⟨w.heap.size, 3, none⟩ = some (.slice sa n.set.length sc) ∧ w'.cell? ⟨w.heap.size, 4, none⟩ = some (.slice ba n.subs.length bc) from ⟨(b.cell (p := ⟨w.heap.size, 0, none⟩) hl).trans k0, (b.cell (p := ⟨w.heap.size, 1, none⟩) hl).trans k1, (b.cell (p := ⟨w.heap.size, 2, none⟩) hl).trans k2, (b.cell (p := ⟨w.heap.size, 3, none⟩) hl).trans k3, (b.cell (p := ⟨w.heap.size, 4, none⟩) hl).trans k4⟩)
  have HW := Lib.hid hW1
  clear h1 kb hE1 hA hE hW1 hA1 hs hG hP HN HS hl hDN hCN
  generalize n.kind = sk at *
  generalize n.name = sn at *
  generalize n.text = sx at *
  generalize n.set.length = sl at *
  generalize n.subs.length = sm at *
  go_enter Tryd.func3, Tryd.ntmps3
  cases G
  case true =>
    go_wp2_with fail
    rw [HW.out]
    refine (GA.out _ (Below.refl _ _)).mono ?_
    rintro e w1 ⟨rfl, b1⟩
    clear k0 k1 k2 k3 k4
    obtain ⟨l0, l1, l2, l3, l4⟩ := HY.out _ b1
    go_wp2_with fail
    refine (LV.out _ b1).mono ?_
    rintro e w9 ⟨rfl, b9⟩
    go_wp2_with fail
    go_ret
    exact ⟨rfl, H1.out.trans (b9.mono H1.out.size)⟩
  case false =>
    cases P
    case false =>
      go_wp2_with fail
      rw [HW.out]
      refine (GA.out _ (Below.refl _ _)).mono ?_
      rintro e w1 ⟨rfl, b1⟩
      clear k0 k1 k2 k3 k4
      obtain ⟨l0, l1, l2, l3, l4⟩ := HY.out _ b1
      go_wp2_with fail
      refine (PL.out trivial _ b1).mono ?_
      rintro e w2 ⟨rfl, b2⟩
      clear l0 l1 l2 l3 l4
      obtain ⟨m0, m1, m2, m3, m4⟩ := HY.out _ b2
      go_wp2_with fail
      refine (LV.out _ b2).mono ?_
      rintro e w9 ⟨rfl, b9⟩
      go_wp2_with fail
      go_ret
      exact ⟨rfl, H1.out.trans (b9.mono H1.out.size)⟩
    case true =>
      cases D
      case true =>
        go_wp2_with fail
        rw [HW.out]
        refine (GA.out _ (Below.refl _ _)).mono ?_
        rintro e w1 ⟨rfl, b1⟩
        clear k0 k1 k2 k3 k4
        obtain ⟨l0, l1, l2, l3, l4⟩ := HY.out _ b1
        go_wp2_with fail
        refine (PL.out trivial _ b1).mono ?_
        rintro e w2 ⟨rfl, b2⟩
        clear l0 l1 l2 l3 l4
        obtain ⟨m0, m1, m2, m3, m4⟩ := HY.out _ b2
        go_wp2_with fail
        refine (DE.out trivial _ b2).mono ?_
        rintro e w3 ⟨rfl, b3⟩
        clear m0 m1 m2 m3 m4
        obtain ⟨p0, p1, p2, p3, p4⟩ := HY.out _ b3
        go_wp2_with fail
        refine (LV.out _ b3).mono ?_
        rintro e w9 ⟨rfl, b9⟩
        go_wp2_with fail
        go_ret
        exact ⟨rfl, H1.out.trans (b9.mono H1.out.size)⟩
      case false =>
        cases C
        case false => simp at HC
        case true =>
          go_wp2_with fail
          rw [HW.out]
          refine (GA.out _ (Below.refl _ _)).mono ?_
          rintro e w1 ⟨rfl, b1⟩
          clear k0 k1 k2 k3 k4
          obtain ⟨l0, l1, l2, l3, l4⟩ := HY.out _ b1
          go_wp2_with fail
          refine (PL.out trivial _ b1).mono ?_
          rintro e w2 ⟨rfl, b2⟩
          clear l0 l1 l2 l3 l4
          obtain ⟨m0, m1, m2, m3, m4⟩ := HY.out _ b2
          go_wp2_with fail
          refine (DE.out trivial _ b2).mono ?_
          rintro e w3 ⟨rfl, b3⟩
          clear m0 m1 m2 m3 m4
          obtain ⟨p0, p1, p2, p3, p4⟩ := HY.out _ b3
          go_wp2_with fail
          refine (CO.out trivial _ b3).mono ?_
          rintro e w4 ⟨rfl, b4⟩
          clear p0 p1 p2 p3 p4
          obtain ⟨q0, q1, q2, q3, q4⟩ := HY.out _ b4
          go_wp2_with fail
          refine (LV.out _ b4).mono ?_
          rintro e w9 ⟨rfl, b9⟩
          go_wp2_with fail
          go_ret
          exact ⟨rfl, H1.out.trans (b9.mono H1.out.size)⟩
end Go.Proofs.YthfkodimafmmgaaDoor
