/- The walk of NodesAny. -/
import Derived.Test.YthfkodimafmmgaaGreatDoorNdX
import Derived.Test.YthfkodimafmmgaaGreatDoorNdl
import Derived.Test.YthfkodimafmmgaaGreatDoorNdn
import Derived.Test.YthfkodimafmmgaaGreatDoorNdA
import Derived.Test.YthfkodimafmmgaaGreatDoorNdd
namespace Go.Proofs.YthfkodimafmmgaaGreatDoor
open Go Go.RowKit
set_option maxRecDepth 100000
namespace Nd
theorem sameL_refl : ∀ (l : List T), (∀ x ∈ l, sameB x x = true) → sameL l l = true
  | [], _ => by simp only [sameL]
  | t :: r, h => by
    simp only [sameL]
    rw [h t (by simp), sameL_refl r fun x hx => h x (by simp [hx])]
    rfl
theorem sameB_refl (t : T) : sameB t t = true := by
  induction t using T.ind with | _ k n x s b ih => ?_
  simp only [sameB]
  rw [sameL_refl b ih]
  simp
end Nd
set_option maxHeartbeats 2000000 in
theorem any_lives (n o : Nd.T) (v v2 : Value) (w : World) (hE : Env w) (hA : Nd.At w n v) (hA' : Nd.At w o v2) (hn : ¬ (Nd.wt 0 n ≤ 3000 ∧ Nd.wt 0 o ≤ 3000)) :
    Calls Tryz.prog 3 #[v, v2] w fun e w' => e = .returned (.bool true) ∧ Below w.heap.size w w' := by
  obtain ⟨sa, sc, ba, bc, rfl, _⟩ := hA.form
  obtain ⟨sa', sc', ba', bc', rfl, _⟩ := hA'.form
  obtain ⟨W2, hW2⟩ : ∃ W2, (w.alloc (.cells #[.int .u8 n.kind, .string n.name, .string n.text, .slice sa n.set.length sc, .slice ba n.subs.length bc] 26)).alloc (.cells #[.int .u8 o.kind, .string o.name, .string o.text, .slice sa' o.set.length sc', .slice ba' o.subs.length bc'] 26) = W2 := ⟨_, rfl⟩
  have h1 : Below w.heap.size w W2 := by rw [← hW2]; exact ((Below.refl _ w).alloc (Nat.le_refl _) _).alloc (by rw [World.size_alloc]; omega) _
  have kb : Bk W2 w.heap.size 26 #[.int .u8 n.kind, .string n.name, .string n.text, .slice sa n.set.length sc, .slice ba n.subs.length bc] := by rw [← hW2]; exact (Bk.made w _ _).alloc _
  have kc : Bk W2 (w.heap.size + 1) 26 #[.int .u8 o.kind, .string o.name, .string o.text, .slice sa' o.set.length sc', .slice ba' o.subs.length bc'] := by
    rw [← hW2]
    have := Bk.made (w.alloc (.cells #[.int .u8 n.kind, .string n.name, .string n.text, .slice sa n.set.length sc, .slice ba n.subs.length bc] 26)) 26 #[.int .u8 o.kind, .string o.name, .string o.text, .slice sa' o.set.length sc', .slice ba' o.subs.length bc']
    rwa [World.size_alloc] at this
  have hE2 : Env W2 := hE.below h1
  have hA2 := hA.below h1
  have hA2' := hA'.below h1
  have hl := kb.lt
  have hl' := kc.lt
  have k0 := kb.cell 0
  have k1 := kb.cell 1
  have k2 := kb.cell 2
  have k3 := kb.cell 3
  have k4 := kb.cell 4
  have j0 := kc.cell 0
  have j1 := kc.cell 1
  have j2 := kc.cell 2
  have j3 := kc.cell 3
  have j4 := kc.cell 4
  simp at k0 k1 k2 k3 k4 j0 j1 j2 j3 j4
  have H1 := Lib.hid h1
  have HW := Lib.hid hW2
  have HY := Lib.hid (fun w' (b : Below W2.heap.size W2 w') => show w'.cell? ⟨w.heap.size, 0, none⟩ = some (.int .u8 n.kind) ∧ w'.cell? ⟨w.heap.size, 1, none⟩ = some (.string n.name) ∧ w'.cell? ⟨w.heap.size, 2, none⟩ = some (.string n.text) ∧ w'.cell? ⟨w.heap.size, 3, none⟩ = some (.slice sa n.set.length sc) ∧ w'.cell? ⟨w.heap.size, 4, none⟩ = some (.slice ba n.subs.length bc) ∧ w'.cell? ⟨(w.heap.size + 1), 0, none⟩ = some (.int .u8 o.kind) ∧ w'.cell? ⟨(w.heap.size + 1), 1, none⟩ = some (.string o.name) ∧ w'.cell? ⟨(w.heap.size + 1), 2, none⟩ = some (.string o.text) ∧ w'.cell? ⟨(w.heap.size + 1), 3, none⟩ = some (.slice sa' o.set.length sc') ∧ w'.cell? ⟨(w.heap.size + 1), 4, none⟩ = some (.slice ba' o.subs.length bc') from ⟨(b.cell (p := ⟨w.heap.size, 0, none⟩) hl).trans k0, (b.cell (p := ⟨w.heap.size, 1, none⟩) hl).trans k1, (b.cell (p := ⟨w.heap.size, 2, none⟩) hl).trans k2, (b.cell (p := ⟨w.heap.size, 3, none⟩) hl).trans k3, (b.cell (p := ⟨w.heap.size, 4, none⟩) hl).trans k4, (b.cell (p := ⟨w.heap.size + 1, 0, none⟩) hl').trans j0, (b.cell (p := ⟨w.heap.size + 1, 1, none⟩) hl').trans j1, (b.cell (p := ⟨w.heap.size + 1, 2, none⟩) hl').trans j2, (b.cell (p := ⟨w.heap.size + 1, 3, none⟩) hl').trans j3, (b.cell (p := ⟨w.heap.size + 1, 4, none⟩) hl').trans j4⟩)
  have LV := Lib.hid (fun wr (h : Below W2.heap.size W2 wr) => (lives_true wr (hE2.below h)).mono (R' := fun e w' => e = .returned (.bool true) ∧ Below W2.heap.size W2 w') fun e w' k => ⟨k.1, h.trans (k.2.mono h.size)⟩)
  obtain ⟨G, hG⟩ : ∃ G, decide (3000 < Nd.wt 0 n) = G := ⟨_, rfl⟩
  obtain ⟨G', hG'⟩ : ∃ G, decide (3000 < Nd.wt 0 o) = G := ⟨_, rfl⟩
  have GA := Lib.hid (fun wr (h : Below W2.heap.size W2 wr) => (Great_any n (.agg #[.int .u8 n.kind, .string n.name, .string n.text, .slice sa n.set.length sc, .slice ba n.subs.length bc]) wr (hA2.below h)).mono (R' := fun e w' => e = .returned (.bool G) ∧ Below W2.heap.size W2 w') fun e w' k => ⟨by rw [k.1, hG], h.trans (k.2.mono h.size)⟩)
  have GB := Lib.hid (fun wr (h : Below W2.heap.size W2 wr) => (Great_any o (.agg #[.int .u8 o.kind, .string o.name, .string o.text, .slice sa' o.set.length sc', .slice ba' o.subs.length bc']) wr (hA2'.below h)).mono (R' := fun e w' => e = .returned (.bool G') ∧ Below W2.heap.size W2 w') fun e w' k => ⟨by rw [k.1, hG'], h.trans (k.2.mono h.size)⟩)
  have HC : G = false → G' = true := fun h => by
    rw [← hG'] 
    rw [← hG] at h
    have := of_decide_eq_false h
    exact decide_eq_true (by omega)
  clear h1 kb kc hE2 hA hE hA' hW2 hA2 hA2' hl hl' hG hG' hn
  generalize n.kind = nk at *
  generalize n.name = nn0 at *
  generalize n.text = nx at *
  generalize n.set.length = nl at *
  generalize n.subs.length = nm at *
  generalize o.kind = ok at *
  generalize o.name = on0 at *
  generalize o.text = ox at *
  generalize o.set.length = ol at *
  generalize o.subs.length = om at *
  go_enter Tryz.func3, Tryz.ntmps3
  cases G
  case true =>
    clear HC
    go_wp2_with fail
    rw [HW.out]
    refine (GA.out _ (Below.refl _ _)).mono ?_
    rintro e w1 ⟨rfl, b1⟩
    clear k0 k1 k2 k3 k4 j0 j1 j2 j3 j4
    obtain ⟨l0, l1, l2, l3, l4, l5, l6, l7, l8, l9⟩ := HY.out _ b1
    go_wp2_with fail
    refine (LV.out _ b1).mono ?_
    rintro e w9 ⟨rfl, b9⟩
    go_wp2_with fail
    go_ret
    exact ⟨rfl, H1.out.trans (b9.mono H1.out.size)⟩
  case false =>
    obtain rfl := HC rfl
    clear HC
    go_wp2_with fail
    rw [HW.out]
    refine (GA.out _ (Below.refl _ _)).mono ?_
    rintro e w1 ⟨rfl, b1⟩
    clear k0 k1 k2 k3 k4 j0 j1 j2 j3 j4
    obtain ⟨l0, l1, l2, l3, l4, l5, l6, l7, l8, l9⟩ := HY.out _ b1
    go_wp2_with fail
    refine (GB.out _ b1).mono ?_
    rintro e w2 ⟨rfl, b2⟩
    clear l0 l1 l2 l3 l4 l5 l6 l7 l8 l9
    obtain ⟨m0, m1, m2, m3, m4, m5, m6, m7, m8, m9⟩ := HY.out _ b2
    go_wp2_with fail
    refine (LV.out _ b2).mono ?_
    rintro e w9 ⟨rfl, b9⟩
    go_wp2_with fail
    go_ret
    exact ⟨rfl, H1.out.trans (b9.mono H1.out.size)⟩
set_option maxHeartbeats 4000000 in
theorem any_good (n o : Nd.T) (v v2 : Value) (w : World) (hE : Env w) (hA : Nd.At w n v) (hA' : Nd.At w o v2) (hwn : Nd.wt 0 n ≤ 3000) (hwo : Nd.wt 0 o ≤ 3000) :
    Calls Tryz.prog 3 #[v, v2] w fun e w' => e = .returned (.bool true) ∧ Below w.heap.size w w' := by
  obtain ⟨sa, sc, ba, bc, rfl, _⟩ := hA.form
  obtain ⟨sa', sc', ba', bc', rfl, _⟩ := hA'.form
  obtain ⟨W2, hW2⟩ : ∃ W2, (w.alloc (.cells #[.int .u8 n.kind, .string n.name, .string n.text, .slice sa n.set.length sc, .slice ba n.subs.length bc] 26)).alloc (.cells #[.int .u8 o.kind, .string o.name, .string o.text, .slice sa' o.set.length sc', .slice ba' o.subs.length bc'] 26) = W2 := ⟨_, rfl⟩
  have h1 : Below w.heap.size w W2 := by rw [← hW2]; exact ((Below.refl _ w).alloc (Nat.le_refl _) _).alloc (by rw [World.size_alloc]; omega) _
  have kb : Bk W2 w.heap.size 26 #[.int .u8 n.kind, .string n.name, .string n.text, .slice sa n.set.length sc, .slice ba n.subs.length bc] := by rw [← hW2]; exact (Bk.made w _ _).alloc _
  have kc : Bk W2 (w.heap.size + 1) 26 #[.int .u8 o.kind, .string o.name, .string o.text, .slice sa' o.set.length sc', .slice ba' o.subs.length bc'] := by
    rw [← hW2]
    have := Bk.made (w.alloc (.cells #[.int .u8 n.kind, .string n.name, .string n.text, .slice sa n.set.length sc, .slice ba n.subs.length bc] 26)) 26 #[.int .u8 o.kind, .string o.name, .string o.text, .slice sa' o.set.length sc', .slice ba' o.subs.length bc']
    rwa [World.size_alloc] at this
  have hE2 : Env W2 := hE.below h1
  have hA2 := hA.below h1
  have hA2' := hA'.below h1
  have hl := kb.lt
  have hl' := kc.lt
  have k0 := kb.cell 0
  have k1 := kb.cell 1
  have k2 := kb.cell 2
  have k3 := kb.cell 3
  have k4 := kb.cell 4
  have j0 := kc.cell 0
  have j1 := kc.cell 1
  have j2 := kc.cell 2
  have j3 := kc.cell 3
  have j4 := kc.cell 4
  simp at k0 k1 k2 k3 k4 j0 j1 j2 j3 j4
  have H1 := Lib.hid h1
  have HW := Lib.hid hW2
  have HY := Lib.hid (fun w' (b : Below W2.heap.size W2 w') => show w'.cell? ⟨w.heap.size, 0, none⟩ = some (.int .u8 n.kind) ∧ w'.cell? ⟨w.heap.size, 1, none⟩ = some (.string n.name) ∧ w'.cell? ⟨w.heap.size, 2, none⟩ = some (.string n.text) ∧ w'.cell? ⟨w.heap.size, 3, none⟩ = some (.slice sa n.set.length sc) ∧ w'.cell? ⟨w.heap.size, 4, none⟩ = some (.slice ba n.subs.length bc) ∧ w'.cell? ⟨(w.heap.size + 1), 0, none⟩ = some (.int .u8 o.kind) ∧ w'.cell? ⟨(w.heap.size + 1), 1, none⟩ = some (.string o.name) ∧ w'.cell? ⟨(w.heap.size + 1), 2, none⟩ = some (.string o.text) ∧ w'.cell? ⟨(w.heap.size + 1), 3, none⟩ = some (.slice sa' o.set.length sc') ∧ w'.cell? ⟨(w.heap.size + 1), 4, none⟩ = some (.slice ba' o.subs.length bc') from ⟨(b.cell (p := ⟨w.heap.size, 0, none⟩) hl).trans k0, (b.cell (p := ⟨w.heap.size, 1, none⟩) hl).trans k1, (b.cell (p := ⟨w.heap.size, 2, none⟩) hl).trans k2, (b.cell (p := ⟨w.heap.size, 3, none⟩) hl).trans k3, (b.cell (p := ⟨w.heap.size, 4, none⟩) hl).trans k4, (b.cell (p := ⟨w.heap.size + 1, 0, none⟩) hl').trans j0, (b.cell (p := ⟨w.heap.size + 1, 1, none⟩) hl').trans j1, (b.cell (p := ⟨w.heap.size + 1, 2, none⟩) hl').trans j2, (b.cell (p := ⟨w.heap.size + 1, 3, none⟩) hl').trans j3, (b.cell (p := ⟨w.heap.size + 1, 4, none⟩) hl').trans j4⟩)
  have LV := Lib.hid (fun wr (h : Below W2.heap.size W2 wr) => (lives_true wr (hE2.below h)).mono (R' := fun e w' => e = .returned (.bool true) ∧ Below W2.heap.size W2 w') fun e w' k => ⟨k.1, h.trans (k.2.mono h.size)⟩)
  obtain ⟨G, hG⟩ : ∃ G, decide (3000 < Nd.wt 0 n) = G := ⟨_, rfl⟩
  obtain ⟨G', hG'⟩ : ∃ G, decide (3000 < Nd.wt 0 o) = G := ⟨_, rfl⟩
  have GA := Lib.hid (fun wr (h : Below W2.heap.size W2 wr) => (Great_any n (.agg #[.int .u8 n.kind, .string n.name, .string n.text, .slice sa n.set.length sc, .slice ba n.subs.length bc]) wr (hA2.below h)).mono (R' := fun e w' => e = .returned (.bool G) ∧ Below W2.heap.size W2 w') fun e w' k => ⟨by rw [k.1, hG], h.trans (k.2.mono h.size)⟩)
  have GB := Lib.hid (fun wr (h : Below W2.heap.size W2 wr) => (Great_any o (.agg #[.int .u8 o.kind, .string o.name, .string o.text, .slice sa' o.set.length sc', .slice ba' o.subs.length bc']) wr (hA2'.below h)).mono (R' := fun e w' => e = .returned (.bool G') ∧ Below W2.heap.size W2 w') fun e w' k => ⟨by rw [k.1, hG'], h.trans (k.2.mono h.size)⟩)
  obtain rfl : G = false := by rw [← hG]; exact decide_eq_false (by omega)
  obtain rfl : G' = false := by rw [← hG']; exact decide_eq_false (by omega)
  have hsn := Nd.wt_small n 0 hwn
  have hso := Nd.wt_small o 0 hwo
  have hfu := Nd.wt_full n 0 hwn
  obtain ⟨CN, hCN⟩ : ∃ D : Int, (Nd.count n : Int) = D := ⟨_, rfl⟩
  obtain ⟨DN, hDN⟩ : ∃ D : Int, (Nd.deep n : Int) = D := ⟨_, rfl⟩
  obtain ⟨PT, hPT⟩ : ∃ b, Nd.plainB n true = b := ⟨_, rfl⟩
  obtain ⟨PF, hPF⟩ : ∃ b, Nd.plainB n false = b := ⟨_, rfl⟩
  obtain ⟨SM, hSM⟩ : ∃ b, Nd.sameB n o = b := ⟨_, rfl⟩
  have NC := Lib.hid (fun wr (h : Below W2.heap.size W2 wr) => (Count_any n (.agg #[.int .u8 n.kind, .string n.name, .string n.text, .slice sa n.set.length sc, .slice ba n.subs.length bc]) wr (hA2.below h) (by omega) (by omega)).mono (R' := fun e w' => e = .returned (.int .i64 CN) ∧ Below W2.heap.size W2 w') fun e w' k => ⟨by rw [k.1, hCN], h.trans (k.2.mono h.size)⟩)
  have RC := Lib.hid (fun wr (h : Below W2.heap.size W2 wr) => (refCount_any n (.agg #[.int .u8 n.kind, .string n.name, .string n.text, .slice sa n.set.length sc, .slice ba n.subs.length bc]) wr (hA2.below h) (by omega)).mono (R' := fun e w' => e = .returned (.int .i64 CN) ∧ Below W2.heap.size W2 w') fun e w' k => ⟨by rw [k.1, hCN], h.trans (k.2.mono h.size)⟩)
  have ND := Lib.hid (fun wr (h : Below W2.heap.size W2 wr) => (Deep_any n (.agg #[.int .u8 n.kind, .string n.name, .string n.text, .slice sa n.set.length sc, .slice ba n.subs.length bc]) wr (hA2.below h) (by omega) (by omega)).mono (R' := fun e w' => e = .returned (.int .i64 DN) ∧ Below W2.heap.size W2 w') fun e w' k => ⟨by rw [k.1, hDN], h.trans (k.2.mono h.size)⟩)
  have RD := Lib.hid (fun wr (h : Below W2.heap.size W2 wr) => (refDeep_any n (.agg #[.int .u8 n.kind, .string n.name, .string n.text, .slice sa n.set.length sc, .slice ba n.subs.length bc]) wr (hA2.below h) (by omega)).mono (R' := fun e w' => e = .returned (.int .i64 DN) ∧ Below W2.heap.size W2 w') fun e w' k => ⟨by rw [k.1, hDN], h.trans (k.2.mono h.size)⟩)
  have NPT := Lib.hid (fun wr (h : Below W2.heap.size W2 wr) => (Plain_any n (.agg #[.int .u8 n.kind, .string n.name, .string n.text, .slice sa n.set.length sc, .slice ba n.subs.length bc]) true wr (hE2.below h) (hA2.below h) (by omega) (by omega)).mono (R' := fun e w' => e = .returned (.bool PT) ∧ Below W2.heap.size W2 w') fun e w' k => ⟨by rw [k.1, hPT], h.trans (k.2.mono h.size)⟩)
  have NPF := Lib.hid (fun wr (h : Below W2.heap.size W2 wr) => (Plain_any n (.agg #[.int .u8 n.kind, .string n.name, .string n.text, .slice sa n.set.length sc, .slice ba n.subs.length bc]) false wr (hE2.below h) (hA2.below h) (by omega) (by omega)).mono (R' := fun e w' => e = .returned (.bool PF) ∧ Below W2.heap.size W2 w') fun e w' k => ⟨by rw [k.1, hPF], h.trans (k.2.mono h.size)⟩)
  have RPT := Lib.hid (fun wr (h : Below W2.heap.size W2 wr) => (refPlain_any true n (.agg #[.int .u8 n.kind, .string n.name, .string n.text, .slice sa n.set.length sc, .slice ba n.subs.length bc]) wr (hA2.below h) (by omega) (by omega)).mono (R' := fun e w' => e = .returned (.bool PT) ∧ Below W2.heap.size W2 w') fun e w' k => ⟨by rw [k.1, hPT], h.trans (k.2.mono h.size)⟩)
  have RPF := Lib.hid (fun wr (h : Below W2.heap.size W2 wr) => (refPlain_any false n (.agg #[.int .u8 n.kind, .string n.name, .string n.text, .slice sa n.set.length sc, .slice ba n.subs.length bc]) wr (hA2.below h) (by omega) (by omega)).mono (R' := fun e w' => e = .returned (.bool PF) ∧ Below W2.heap.size W2 w') fun e w' k => ⟨by rw [k.1, hPF], h.trans (k.2.mono h.size)⟩)
  have NS := Lib.hid (fun wr (h : Below W2.heap.size W2 wr) => (Same_any n o (.agg #[.int .u8 n.kind, .string n.name, .string n.text, .slice sa n.set.length sc, .slice ba n.subs.length bc]) (.agg #[.int .u8 o.kind, .string o.name, .string o.text, .slice sa' o.set.length sc', .slice ba' o.subs.length bc']) wr (hA2.below h) (hA2'.below h) (fun wx b => ends_any n _ wx ((hA2.below h).below b) (by omega) (by omega))).mono (R' := fun e w' => e = .returned (.bool SM) ∧ Below W2.heap.size W2 w') fun e w' k => ⟨by rw [k.1, hSM], h.trans (k.2.mono h.size)⟩)
  have RS := Lib.hid (fun wr (h : Below W2.heap.size W2 wr) => (refSame_any n o (.agg #[.int .u8 n.kind, .string n.name, .string n.text, .slice sa n.set.length sc, .slice ba n.subs.length bc]) (.agg #[.int .u8 o.kind, .string o.name, .string o.text, .slice sa' o.set.length sc', .slice ba' o.subs.length bc']) wr (hA2.below h) (hA2'.below h)).mono (R' := fun e w' => e = .returned (.bool SM) ∧ Below W2.heap.size W2 w') fun e w' k => ⟨by rw [k.1, hSM], h.trans (k.2.mono h.size)⟩)
  obtain ⟨X, hX⟩ : ∃ X : ByteArray, (⟨(if PT || PF then Nd.txt n else []).toArray⟩ : ByteArray) = X := ⟨_, rfl⟩
  obtain ⟨TX, hTX⟩ : ∃ X : ByteArray, (⟨(Nd.txt n).toArray⟩ : ByteArray) = X := ⟨_, rfl⟩
  have HXT := Lib.hid (show (PT || PF) = true → X = TX from fun h => by rw [h] at hX; rw [← hX, ← hTX]; rfl)
  have PL := Lib.hid (fun wr (h : Below W2.heap.size W2 wr) => (plainText_any n (.agg #[.int .u8 n.kind, .string n.name, .string n.text, .slice sa n.set.length sc, .slice ba n.subs.length bc]) wr (hA2.below h) (by omega) (by omega) (by omega) X (by rw [hPT, hPF]; exact hX)).mono (R' := fun e w' => e = .returned (.tuple #[.string X, .bool (PT || PF)]) ∧ Below W2.heap.size W2 w') fun e w' k => ⟨by rw [k.1, hPT, hPF], h.trans (k.2.mono h.size)⟩)
  have CP := Lib.hid (fun wr (h : Below W2.heap.size W2 wr) => Copy_any n (.agg #[.int .u8 n.kind, .string n.name, .string n.text, .slice sa n.set.length sc, .slice ba n.subs.length bc]) wr (hA2.below h) (by omega) (fun wx b => ends_any n _ wx ((hA2.below h).below b) (by omega) (by omega)))
  have NTB := Lib.hid (fun W5 (g : Below W2.heap.size W2 W5) wr (h : Below W5.heap.size W5 wr) => (NText_any n (.agg #[.int .u8 n.kind, .string n.name, .string n.text, .slice sa n.set.length sc, .slice ba n.subs.length bc]) wr ((hE2.below g).below h) ((hA2.below g).below h) (by omega) (by omega) (by omega)).mono (R' := fun e w' => e = .returned (.string TX) ∧ Below W5.heap.size W5 w') fun e w' k => ⟨by rw [k.1, hTX], h.trans (k.2.mono h.size)⟩)
  have LVB := Lib.hid (fun W5 (g : Below W2.heap.size W2 W5) wr (h : Below W5.heap.size W5 wr) => (lives_true wr ((hE2.below g).below h)).mono (R' := fun e w' => e = .returned (.bool true) ∧ Below W5.heap.size W5 w') fun e w' k => ⟨k.1, h.trans (k.2.mono h.size)⟩)
  have RSB := Lib.hid (fun W5 (g : Below W2.heap.size W2 W5) cv (hc : Nd.At W5 n cv) wr (h : Below W5.heap.size W5 wr) => (refSame_any n n (.agg #[.int .u8 n.kind, .string n.name, .string n.text, .slice sa n.set.length sc, .slice ba n.subs.length bc]) cv wr ((hA2.below g).below h) (hc.below h)).mono (R' := fun e w' => e = .returned (.bool true) ∧ Below W5.heap.size W5 w') fun e w' k => ⟨by rw [k.1, Nd.sameB_refl], h.trans (k.2.mono h.size)⟩)
  have NSB := Lib.hid (fun W5 (g : Below W2.heap.size W2 W5) cv (hc : Nd.At W5 n cv) wr (h : Below W5.heap.size W5 wr) => (Same_any n n (.agg #[.int .u8 n.kind, .string n.name, .string n.text, .slice sa n.set.length sc, .slice ba n.subs.length bc]) cv wr ((hA2.below g).below h) (hc.below h) (fun wx b => ends_any n _ wx (((hA2.below g).below h).below b) (by omega) (by omega))).mono (R' := fun e w' => e = .returned (.bool true) ∧ Below W5.heap.size W5 w') fun e w' k => ⟨by rw [k.1, Nd.sameB_refl], h.trans (k.2.mono h.size)⟩)
  have APB := Lib.hid (fun W5 (g : Below W2.heap.size W2 W5) m cv (hc : Nd.AtF m W5 n cv) (hm : W2.heap.size ≤ m) wr (h : Below W5.heap.size W5 wr) => (Apart_any n m W2 cv (.agg #[.int .u8 n.kind, .string n.name, .string n.text, .slice sa n.set.length sc, .slice ba n.subs.length bc]) wr (Nd.AtF.keep (Nat.le_refl _) (Nd.From.below h) _ hc) hA2 hm (g.trans (h.mono g.size))).mono (R' := fun e w' => e = .returned (.bool true) ∧ Below W5.heap.size W5 w') fun e w' k => ⟨k.1, h.trans (k.2.mono h.size)⟩)
  clear h1 kb kc hE2 hA hE hA' hW2 hA2 hA2' hl hl' hG hG' hwn hwo hsn hso hfu hCN hDN hPT hPF hSM hX hTX LV
  go_enter Tryz.func3, Tryz.ntmps3
  go_wp2_with fail
  rw [HW.out]
  refine (GA.out _ (Below.refl _ _)).mono ?_
  rintro e w1 ⟨rfl, b1⟩
  clear k0 k1 k2 k3 k4 j0 j1 j2 j3 j4
  obtain ⟨l0, l1, l2, l3, l4, l5, l6, l7, l8, l9⟩ := HY.out _ b1
  go_wp2_with fail
  refine (GB.out _ b1).mono ?_
  rintro e w2 ⟨rfl, b2⟩
  clear l0 l1 l2 l3 l4 l5 l6 l7 l8 l9 b1
  obtain ⟨m0, m1, m2, m3, m4, m5, m6, m7, m8, m9⟩ := HY.out _ b2
  go_wp2_with fail
  go_region_held3 (fun w' => w'.cell? ⟨w.heap.size, 0, none⟩ = some (.int .u8 n.kind) ∧ w'.cell? ⟨w.heap.size, 1, none⟩ = some (.string n.name) ∧ w'.cell? ⟨w.heap.size, 2, none⟩ = some (.string n.text) ∧ w'.cell? ⟨w.heap.size, 3, none⟩ = some (.slice sa n.set.length sc) ∧ w'.cell? ⟨w.heap.size, 4, none⟩ = some (.slice ba n.subs.length bc) ∧ w'.cell? ⟨(w.heap.size + 1), 0, none⟩ = some (.int .u8 o.kind) ∧ w'.cell? ⟨(w.heap.size + 1), 1, none⟩ = some (.string o.name) ∧ w'.cell? ⟨(w.heap.size + 1), 2, none⟩ = some (.string o.text) ∧ w'.cell? ⟨(w.heap.size + 1), 3, none⟩ = some (.slice sa' o.set.length sc') ∧ w'.cell? ⟨(w.heap.size + 1), 4, none⟩ = some (.slice ba' o.subs.length bc')) (go_keep)
    (first | (go_at_call 6; have tk := b2; refine (NC.out _ (by first | exact b2 | exact b2.drew)).mono ?_; rintro e wz0_ ⟨rfl, h0_⟩; clear m0 m1 m2 m3 m4 m5 m6 m7 m8 m9 tk b2; obtain ⟨z0_0, z0_1, z0_2, z0_3, z0_4, z0_5, z0_6, z0_7, z0_8, z0_9⟩ := HY.out _ h0_) | (go_at_call 7; have tk := h0_; refine (RC.out _ (by first | exact h0_ | exact h0_.drew)).mono ?_; rintro e wz1_ ⟨rfl, h1_⟩; clear z0_0 z0_1 z0_2 z0_3 z0_4 z0_5 z0_6 z0_7 z0_8 z0_9 tk h0_; obtain ⟨z1_0, z1_1, z1_2, z1_3, z1_4, z1_5, z1_6, z1_7, z1_8, z1_9⟩ := HY.out _ h1_) | (go_at_call 8; have tk := h1_; refine (ND.out _ (by first | exact h1_ | exact h1_.drew)).mono ?_; rintro e wz2_ ⟨rfl, h2_⟩; clear z1_0 z1_1 z1_2 z1_3 z1_4 z1_5 z1_6 z1_7 z1_8 z1_9 tk h1_; obtain ⟨z2_0, z2_1, z2_2, z2_3, z2_4, z2_5, z2_6, z2_7, z2_8, z2_9⟩ := HY.out _ h2_) | (go_at_call 9; have tk := h2_; refine (RD.out _ (by first | exact h2_ | exact h2_.drew)).mono ?_; rintro e wz3_ ⟨rfl, h3_⟩; clear z2_0 z2_1 z2_2 z2_3 z2_4 z2_5 z2_6 z2_7 z2_8 z2_9 tk h2_; obtain ⟨z3_0, z3_1, z3_2, z3_3, z3_4, z3_5, z3_6, z3_7, z3_8, z3_9⟩ := HY.out _ h3_) | (go_at_call 10; have tk := h3_; refine (NPT.out _ (by first | exact h3_ | exact h3_.drew)).mono ?_; rintro e wz4_ ⟨rfl, h4_⟩; clear z3_0 z3_1 z3_2 z3_3 z3_4 z3_5 z3_6 z3_7 z3_8 z3_9 tk h3_; obtain ⟨z4_0, z4_1, z4_2, z4_3, z4_4, z4_5, z4_6, z4_7, z4_8, z4_9⟩ := HY.out _ h4_) | (go_at_call 11; have tk := h4_; refine (RPT.out _ (by first | exact h4_ | exact h4_.drew)).mono ?_; rintro e wz5_ ⟨rfl, h5_⟩; clear z4_0 z4_1 z4_2 z4_3 z4_4 z4_5 z4_6 z4_7 z4_8 z4_9 tk h4_; obtain ⟨z5_0, z5_1, z5_2, z5_3, z5_4, z5_5, z5_6, z5_7, z5_8, z5_9⟩ := HY.out _ h5_) | (go_at_call 10; have tk := h5_; refine (NPF.out _ (by first | exact h5_ | exact h5_.drew)).mono ?_; rintro e wz6_ ⟨rfl, h6_⟩; clear z5_0 z5_1 z5_2 z5_3 z5_4 z5_5 z5_6 z5_7 z5_8 z5_9 tk h5_; obtain ⟨z6_0, z6_1, z6_2, z6_3, z6_4, z6_5, z6_6, z6_7, z6_8, z6_9⟩ := HY.out _ h6_) | (go_at_call 11; have tk := h6_; refine (RPF.out _ (by first | exact h6_ | exact h6_.drew)).mono ?_; rintro e wz7_ ⟨rfl, h7_⟩; clear z6_0 z6_1 z6_2 z6_3 z6_4 z6_5 z6_6 z6_7 z6_8 z6_9 tk h6_; obtain ⟨z7_0, z7_1, z7_2, z7_3, z7_4, z7_5, z7_6, z7_7, z7_8, z7_9⟩ := HY.out _ h7_) | (go_at_call 12; have tk := h7_; refine (NS.out _ (by first | exact h7_ | exact h7_.drew)).mono ?_; rintro e wz8_ ⟨rfl, h8_⟩; clear z7_0 z7_1 z7_2 z7_3 z7_4 z7_5 z7_6 z7_7 z7_8 z7_9 tk h7_; obtain ⟨z8_0, z8_1, z8_2, z8_3, z8_4, z8_5, z8_6, z8_7, z8_8, z8_9⟩ := HY.out _ h8_) | (go_at_call 13; have tk := h8_; refine (RS.out _ (by first | exact h8_ | exact h8_.drew)).mono ?_; rintro e wz9_ ⟨rfl, h9_⟩; clear z8_0 z8_1 z8_2 z8_3 z8_4 z8_5 z8_6 z8_7 z8_8 z8_9 tk h8_; obtain ⟨z9_0, z9_1, z9_2, z9_3, z9_4, z9_5, z9_6, z9_7, z9_8, z9_9⟩ := HY.out _ h9_))
  go_wp2_with fail
  refine (PL.out _ (by first | exact h9_ | exact h9_.drew)).mono ?_
  rintro e w4 ⟨rfl, b4⟩
  clear h9_ z9_0 z9_1 z9_2 z9_3 z9_4 z9_5 z9_6 z9_7 z9_8 z9_9
  obtain ⟨p0, p1, p2, p3, p4, p5, p6, p7, p8, p9⟩ := HY.out _ b4
  go_wp2_with fail
  refine (CP.out _ b4).mono ?_
  rintro e w5 ⟨cv, rfl, hC5, b5⟩
  have hs4 := b4.size
  have b6 := b4.trans (b5.mono b4.size)
  obtain ⟨ua, uc, ub, ud, rfl, _⟩ := (Nd.AtF.to _ hC5).form
  obtain ⟨W5, hW5⟩ : ∃ W5, w5.alloc (.cells #[.int .u8 n.kind, .string n.name, .string n.text, .slice ua n.set.length uc, .slice ub n.subs.length ud] 26) = W5 := ⟨_, rfl⟩
  have b7 : Below W2.heap.size W2 W5 := by rw [← hW5]; exact b6.alloc b6.size _
  have hB5 : Below w5.heap.size w5 W5 := by rw [← hW5]; exact (Below.refl _ w5).alloc (Nat.le_refl _) _
  have hC := Nd.AtF.keep hs4 (Nd.From.below hB5) _ hC5
  have kd : Bk W5 w5.heap.size 26 #[.int .u8 n.kind, .string n.name, .string n.text, .slice ua n.set.length uc, .slice ub n.subs.length ud] := by rw [← hW5]; exact Bk.made w5 _ _
  obtain ⟨bC, hbC⟩ : ∃ z, w5.heap.size = z := ⟨_, rfl⟩
  rw [hbC] at kd
  obtain ⟨y0, y1, y2, y3, y4, y5, y6, y7, y8, y9⟩ := HY.out _ b7
  have hl6 := World.block_lt_of_cell? _ _ y0
  have hl7 := World.block_lt_of_cell? _ _ y5
  have hl8 := kd.lt
  have yc0 := kd.cell 0
  have yc1 := kd.cell 1
  have yc2 := kd.cell 2
  have yc3 := kd.cell 3
  have yc4 := kd.cell 4
  simp at yc0 yc1 yc2 yc3 yc4
  have HZ := Lib.hid (fun w' (b : Below W5.heap.size W5 w') => show w'.cell? ⟨w.heap.size, 0, none⟩ = some (.int .u8 n.kind) ∧ w'.cell? ⟨w.heap.size, 1, none⟩ = some (.string n.name) ∧ w'.cell? ⟨w.heap.size, 2, none⟩ = some (.string n.text) ∧ w'.cell? ⟨w.heap.size, 3, none⟩ = some (.slice sa n.set.length sc) ∧ w'.cell? ⟨w.heap.size, 4, none⟩ = some (.slice ba n.subs.length bc) ∧ w'.cell? ⟨(w.heap.size + 1), 0, none⟩ = some (.int .u8 o.kind) ∧ w'.cell? ⟨(w.heap.size + 1), 1, none⟩ = some (.string o.name) ∧ w'.cell? ⟨(w.heap.size + 1), 2, none⟩ = some (.string o.text) ∧ w'.cell? ⟨(w.heap.size + 1), 3, none⟩ = some (.slice sa' o.set.length sc') ∧ w'.cell? ⟨(w.heap.size + 1), 4, none⟩ = some (.slice ba' o.subs.length bc') ∧ w'.cell? ⟨bC, 0, none⟩ = some (.int .u8 n.kind) ∧ w'.cell? ⟨bC, 1, none⟩ = some (.string n.name) ∧ w'.cell? ⟨bC, 2, none⟩ = some (.string n.text) ∧ w'.cell? ⟨bC, 3, none⟩ = some (.slice ua n.set.length uc) ∧ w'.cell? ⟨bC, 4, none⟩ = some (.slice ub n.subs.length ud) from ⟨(b.cell (p := ⟨w.heap.size, 0, none⟩) hl6).trans y0, (b.cell (p := ⟨w.heap.size, 1, none⟩) hl6).trans y1, (b.cell (p := ⟨w.heap.size, 2, none⟩) hl6).trans y2, (b.cell (p := ⟨w.heap.size, 3, none⟩) hl6).trans y3, (b.cell (p := ⟨w.heap.size, 4, none⟩) hl6).trans y4, (b.cell (p := ⟨w.heap.size + 1, 0, none⟩) hl7).trans y5, (b.cell (p := ⟨w.heap.size + 1, 1, none⟩) hl7).trans y6, (b.cell (p := ⟨w.heap.size + 1, 2, none⟩) hl7).trans y7, (b.cell (p := ⟨w.heap.size + 1, 3, none⟩) hl7).trans y8, (b.cell (p := ⟨w.heap.size + 1, 4, none⟩) hl7).trans y9, (b.cell (p := ⟨bC, 0, none⟩) hl8).trans yc0, (b.cell (p := ⟨bC, 1, none⟩) hl8).trans yc1, (b.cell (p := ⟨bC, 2, none⟩) hl8).trans yc2, (b.cell (p := ⟨bC, 3, none⟩) hl8).trans yc3, (b.cell (p := ⟨bC, 4, none⟩) hl8).trans yc4⟩)
  have LV := Lib.hid (LVB.out W5 b7)
  have NT := Lib.hid (NTB.out W5 b7)
  have RS2 := Lib.hid (RSB.out W5 b7 _ (Nd.AtF.to _ hC))
  have NS2 := Lib.hid (NSB.out W5 b7 _ (Nd.AtF.to _ hC))
  have AP := Lib.hid (APB.out W5 b7 _ _ hC (Nat.le_refl _))
  have H7 := Lib.hid b7
  have HW5 := Lib.hid hW5
  clear hs4 b5 b6 b7 hC5 hB5 hC kd hl6 hl7 hl8 hW5 LVB NTB RSB NSB APB
  go_upto_region 7 with fail
  rw [HW5.out]
  obtain ⟨IS, hIS⟩ : ∃ b, (PT || PF) = b := ⟨_, rfl⟩
  rw [hIS] at HXT ⊢
  clear hIS
  cases IS
  case true =>
    obtain rfl := HXT.out rfl
    clear HXT
    have b0 : Below W5.heap.size W5 W5 := Below.refl _ _
    go_wp2_with fail
    refine (NT.out _ (by first | exact b0 | exact b0.drew)).mono ?_
    rintro e wz0_ ⟨rfl, h0_⟩
    clear y0 y1 y2 y3 y4 y5 y6 y7 y8 y9 yc0 yc1 yc2 yc3 yc4 b0
    obtain ⟨z0_0, z0_1, z0_2, z0_3, z0_4, z0_5, z0_6, z0_7, z0_8, z0_9, z0_10, z0_11, z0_12, z0_13, z0_14⟩ := HZ.out _ h0_
    go_wp2_with fail
    refine (RS2.out _ (by first | exact h0_ | exact h0_.drew)).mono ?_
    rintro e wz1_ ⟨rfl, h1_⟩
    clear z0_0 z0_1 z0_2 z0_3 z0_4 z0_5 z0_6 z0_7 z0_8 z0_9 z0_10 z0_11 z0_12 z0_13 z0_14 h0_
    obtain ⟨z1_0, z1_1, z1_2, z1_3, z1_4, z1_5, z1_6, z1_7, z1_8, z1_9, z1_10, z1_11, z1_12, z1_13, z1_14⟩ := HZ.out _ h1_
    go_wp2_with fail
    refine (NS2.out _ (by first | exact h1_ | exact h1_.drew)).mono ?_
    rintro e wz2_ ⟨rfl, h2_⟩
    clear z1_0 z1_1 z1_2 z1_3 z1_4 z1_5 z1_6 z1_7 z1_8 z1_9 z1_10 z1_11 z1_12 z1_13 z1_14 h1_
    obtain ⟨z2_0, z2_1, z2_2, z2_3, z2_4, z2_5, z2_6, z2_7, z2_8, z2_9, z2_10, z2_11, z2_12, z2_13, z2_14⟩ := HZ.out _ h2_
    go_wp2_with fail
    refine (AP.out _ (by first | exact h2_ | exact h2_.drew)).mono ?_
    rintro e wz3_ ⟨rfl, h3_⟩
    clear z2_0 z2_1 z2_2 z2_3 z2_4 z2_5 z2_6 z2_7 z2_8 z2_9 z2_10 z2_11 z2_12 z2_13 z2_14 h2_
    obtain ⟨z3_0, z3_1, z3_2, z3_3, z3_4, z3_5, z3_6, z3_7, z3_8, z3_9, z3_10, z3_11, z3_12, z3_13, z3_14⟩ := HZ.out _ h3_
    go_wp2_with fail
    refine (NT.out _ (by first | exact h3_ | exact h3_.drew)).mono ?_
    rintro e w6 ⟨rfl, b6⟩
    clear z3_0 z3_1 z3_2 z3_3 z3_4 z3_5 z3_6 z3_7 z3_8 z3_9 z3_10 z3_11 z3_12 z3_13 z3_14 h3_
    obtain ⟨x0, x1, x2, x3, x4, x5, x6, x7, x8, x9, x10, x11, x12, x13, x14⟩ := HZ.out _ b6
    go_wp2_with fail
    refine (LV.out _ b6).mono ?_
    rintro e w7 ⟨rfl, b7⟩
    go_wp2_with fail
    go_ret
    exact ⟨rfl, H1.out.trans ((H7.out.trans (b7.mono H7.out.size)).mono H1.out.size)⟩
  case false =>
    clear HXT
    have b0 : Below W5.heap.size W5 W5 := Below.refl _ _
    go_wp2_with fail
    refine (RS2.out _ (by first | exact b0 | exact b0.drew)).mono ?_
    rintro e wz0_ ⟨rfl, h0_⟩
    clear y0 y1 y2 y3 y4 y5 y6 y7 y8 y9 yc0 yc1 yc2 yc3 yc4 b0
    obtain ⟨z0_0, z0_1, z0_2, z0_3, z0_4, z0_5, z0_6, z0_7, z0_8, z0_9, z0_10, z0_11, z0_12, z0_13, z0_14⟩ := HZ.out _ h0_
    go_wp2_with fail
    refine (NS2.out _ (by first | exact h0_ | exact h0_.drew)).mono ?_
    rintro e wz1_ ⟨rfl, h1_⟩
    clear z0_0 z0_1 z0_2 z0_3 z0_4 z0_5 z0_6 z0_7 z0_8 z0_9 z0_10 z0_11 z0_12 z0_13 z0_14 h0_
    obtain ⟨z1_0, z1_1, z1_2, z1_3, z1_4, z1_5, z1_6, z1_7, z1_8, z1_9, z1_10, z1_11, z1_12, z1_13, z1_14⟩ := HZ.out _ h1_
    go_wp2_with fail
    refine (AP.out _ (by first | exact h1_ | exact h1_.drew)).mono ?_
    rintro e wz2_ ⟨rfl, h2_⟩
    clear z1_0 z1_1 z1_2 z1_3 z1_4 z1_5 z1_6 z1_7 z1_8 z1_9 z1_10 z1_11 z1_12 z1_13 z1_14 h1_
    obtain ⟨z2_0, z2_1, z2_2, z2_3, z2_4, z2_5, z2_6, z2_7, z2_8, z2_9, z2_10, z2_11, z2_12, z2_13, z2_14⟩ := HZ.out _ h2_
    go_wp2_with fail
    refine (NT.out _ (by first | exact h2_ | exact h2_.drew)).mono ?_
    rintro e w6 ⟨rfl, b6⟩
    clear z2_0 z2_1 z2_2 z2_3 z2_4 z2_5 z2_6 z2_7 z2_8 z2_9 z2_10 z2_11 z2_12 z2_13 z2_14 h2_
    obtain ⟨x0, x1, x2, x3, x4, x5, x6, x7, x8, x9, x10, x11, x12, x13, x14⟩ := HZ.out _ b6
    go_wp2_with fail
    refine (LV.out _ b6).mono ?_
    rintro e w7 ⟨rfl, b7⟩
    go_wp2_with fail
    go_ret
    exact ⟨rfl, H1.out.trans ((H7.out.trans (b7.mono H7.out.size)).mono H1.out.size)⟩
theorem any_all (n o : Nd.T) (v v2 : Value) (w : World) (hE : Env w) (hA : Nd.At w n v) (hA' : Nd.At w o v2) :
    Calls Tryz.prog 3 #[v, v2] w fun e w' => e = .returned (.bool true) ∧ Below w.heap.size w w' := by
  by_cases h : Nd.wt 0 n ≤ 3000 ∧ Nd.wt 0 o ≤ 3000
  · exact any_good n o v v2 w hE hA hA' h.1 h.2
  · exact any_lives n o v v2 w hE hA hA' h
end Go.Proofs.YthfkodimafmmgaaGreatDoor
