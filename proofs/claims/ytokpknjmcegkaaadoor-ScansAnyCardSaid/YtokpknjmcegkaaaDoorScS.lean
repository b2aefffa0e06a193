/- The chapter's examples: lives answers true. -/
import Derived.Test.YtokpknjmcegkaaaDoorScQ
import Derived.KernelRfl
namespace Go.Proofs.YtokpknjmcegkaaaDoor
open Go Go.RowKit Ru
set_option maxRecDepth 100000

theorem scan_1 : Sc.scanL [97, 58, 39, 98, 39, 59] = .ok [⟨0, [97], [], 0⟩, ⟨4, [58], [], 1⟩, ⟨2, [98], [], 2⟩, ⟨4, [59], [], 5⟩] := by kernel_rfl
theorem scan_2 : Sc.scanL [91, 97, 45, 99, 93] = .ok [⟨3, [], [(97, 99)], 0⟩] := by kernel_rfl
theorem scan_3 : Sc.scanL [39] = .err 4 0 := by kernel_rfl
theorem lives_1 (w : World) (hE : EnvS w) : Calls Tryd.prog 8 #[.string ⟨#[97, 58, 39, 98, 39, 59]⟩] w fun e w' => (∃ g cap, e = .returned (.tuple #[.slice (some ⟨g, 0, none⟩) 4 cap, .agg #[.int .i64 0, .int .i64 0, .int .i64 0, .int .i64 0]]) ∧ g < w'.heap.size ∧
    w'.cell? ⟨g, 0, none⟩ = some (.int .u8 0) ∧ w'.cell? ⟨g, 1, none⟩ = some (.string ⟨#[97]⟩) ∧ w'.cell? ⟨g, 7, none⟩ = some (.string ⟨#[58]⟩) ∧ w'.cell? ⟨g, 12, none⟩ = some (.int .u8 2) ∧ w'.cell? ⟨g, 13, none⟩ = some (.string ⟨#[98]⟩) ∧
    w'.cell? ⟨g, 21, none⟩ = some (.int .i64 5) ∧ w'.cell? ⟨g, 22, none⟩ = some (.int .i64 1) ∧ w'.cell? ⟨g, 23, none⟩ = some (.int .i64 6)) ∧ Below w.heap.size w w' := by
  refine (Scan_any _ w (by decide) hE).mono ?_
  rintro e w' (⟨c, p, h, _⟩ | ⟨ds, v, h, he, hW, hb⟩)
  · rw [show (⟨#[97, 58, 39, 98, 39, 59]⟩ : ByteArray).data.toList = [97, 58, 39, 98, 39, 59] from rfl, scan_1] at h
    cases h
  · rw [show (⟨#[97, 58, 39, 98, 39, 59]⟩ : ByteArray).data.toList = [97, 58, 39, 98, 39, 59] from rfl, scan_1] at h
    injection h with h
    subst h
    obtain ⟨g, cap, hv, _, _, hg, hc⟩ := hW.cells (by decide)
    subst hv
    obtain ⟨_, _, a0, a1, _⟩ := hc 0 _ rfl
    obtain ⟨_, _, _, b1, _⟩ := hc 1 _ rfl
    obtain ⟨_, _, c0, c1, _⟩ := hc 2 _ rfl
    obtain ⟨_, _, _, _, _, d3, d4, d5⟩ := hc 3 _ rfl
    have e1 : place ((⟨#[97, 58, 39, 98, 39, 59]⟩ : ByteArray).data.toList.take 5) = (1, 6) := by decide +kernel
    dsimp only at d4 d5
    rw [e1] at d4 d5
    exact ⟨⟨g, cap, he, hg, a0, a1, b1, c0, c1, d3, d4, d5⟩, hb⟩
theorem lives_2 (w : World) (hE : EnvS w) : Calls Tryd.prog 8 #[.string ⟨#[91, 97, 45, 99, 93]⟩] w fun e w' => (∃ g cap sv, e = .returned (.tuple #[.slice (some ⟨g, 0, none⟩) 1 cap, .agg #[.int .i64 0, .int .i64 0, .int .i64 0, .int .i64 0]]) ∧ g < w'.heap.size ∧
    w'.cell? ⟨g, 0, none⟩ = some (.int .u8 3) ∧ w'.cell? ⟨g, 2, none⟩ = some sv ∧ SetAt w' 0 sv [(97, 99)]) ∧ Below w.heap.size w w' := by
  refine (Scan_any _ w (by decide) hE).mono ?_
  rintro e w' (⟨c, p, h, _⟩ | ⟨ds, v, h, he, hW, hb⟩)
  · rw [show (⟨#[91, 97, 45, 99, 93]⟩ : ByteArray).data.toList = [91, 97, 45, 99, 93] from rfl, scan_2] at h
    cases h
  · rw [show (⟨#[91, 97, 45, 99, 93]⟩ : ByteArray).data.toList = [91, 97, 45, 99, 93] from rfl, scan_2] at h
    injection h with h
    subst h
    obtain ⟨g, cap, hv, _, _, hg, hc⟩ := hW.cells (by decide)
    subst hv
    obtain ⟨sv, hs, a0, _, a2, _⟩ := hc 0 _ rfl
    exact ⟨⟨g, cap, sv, he, hg, a0, a2, hs.mono (Nat.zero_le _)⟩, hb⟩
theorem lives_3 (w : World) (hE : EnvS w) : Calls Tryd.prog 8 #[.string ⟨#[39]⟩] w fun e w' => e = .returned (.tuple #[.slice none 0 0, .agg #[.int .i64 4, .int .i64 0, .int .i64 1, .int .i64 1]]) ∧ Below w.heap.size w w' := by
  refine (Scan_any _ w (by decide) hE).mono ?_
  rintro e w' (⟨c, p, h, _, he, hb⟩ | ⟨ds, v, h, _⟩)
  · rw [show (⟨#[39]⟩ : ByteArray).data.toList = [39] from rfl, scan_3] at h
    injection h with h1 h2
    subst h1 h2
    exact ⟨he, hb⟩
  · rw [show (⟨#[39]⟩ : ByteArray).data.toList = [39] from rfl, scan_3] at h
    cases h
set_option maxHeartbeats 4000000 in
theorem lives_true (w : World) (hE : EnvS w) : Calls Tryd.prog 7 #[] w fun e w' => e = .returned (.bool true) ∧ Below w.heap.size w w' := by
  have HE := Lib.hid hE
  clear hE
  go_enter Tryd.func7, Tryd.ntmps7
  go_wp2_with fail
  refine (lives_1 _ HE.out).mono ?_
  rintro e w1 ⟨⟨g, cap, rfl, hg, h0, h1, h7, h12, h13, h21, h22, h23⟩, b1⟩
  have H := Lib.hid (And.intro h0 (And.intro h1 (And.intro h7 (And.intro h12 (And.intro h13 (And.intro h21 (And.intro h22 h23)))))))
  have B1 := Lib.hid b1
  have E1 := Lib.hid ((HE.out.below b1).alloc (.cells #[.int .i64 0, .int .i64 0, .int .i64 0, .int .i64 0] 28))
  clear h0 h1 h7 h12 h13 h21 h22 h23 b1
  go_wp2_with fail
  refine (lives_2 _ E1.out).mono ?_
  rintro e w2 ⟨⟨g2, cap2, sv, rfl, hg2, k0, k2, hset⟩, b2⟩
  have B2 := Lib.hid (((Below.refl w1.heap.size w1).alloc (Nat.le_refl _) _).trans (b2.mono (by simp)))
  have K1 := Lib.hid ((Bk.made w1 28 #[.int .i64 0, .int .i64 0, .int .i64 0, .int .i64 0]).below b2 (by simp))
  have E2 := Lib.hid ((E1.out.below b2).alloc (.cells #[.int .i64 0, .int .i64 0, .int .i64 0, .int .i64 0] 28))
  have G2 := Lib.hid (And.intro k0 k2)
  have HS := Lib.hid hset
  clear k0 k2 b2 hset
  go_wp2_with fail
  refine (lives_3 _ E2.out).mono ?_
  rintro e w3 ⟨rfl, b3⟩
  have B3 := Lib.hid (((Below.refl w2.heap.size w2).alloc (Nat.le_refl _) _).trans (b3.mono (by simp)))
  have L1 := Lib.hid (K1.out.below B3.out K1.out.lt)
  have L2 := Lib.hid ((Bk.made w2 28 #[.int .i64 0, .int .i64 0, .int .i64 0, .int .i64 0]).below b3 (by simp))
  clear b3
  have s12 := K1.out.lt
  have s23 : w2.heap.size < w3.heap.size := L2.out.lt
  have s13 : w1.heap.size < w3.heap.size := by omega
  have s14 : g < w3.heap.size := by omega
  have s15 : g2 < w3.heap.size := by omega
  have hgw : g < w2.heap.size := Nat.lt_trans hg s12
  have x := fun j => (B3.out.cell (p := ⟨g, j, none⟩) hgw).trans (B2.out.cell (p := ⟨g, j, none⟩) hg)
  have y := fun j => B3.out.cell (p := ⟨g2, j, none⟩) hg2
  obtain ⟨h0, h1, h7, h12, h13, h21, h22, h23⟩ := H.out
  have z0 := (x 0).trans h0
  have z1 := (x 1).trans h1
  have z7 := (x 7).trans h7
  have z12 := (x 12).trans h12
  have z13 := (x 13).trans h13
  have z21 := (x 21).trans h21
  have z22 := (x 22).trans h22
  have z23 := (x 23).trans h23
  have y0 := (y 0).trans G2.out.1
  have y2 := (y 2).trans G2.out.2
  have l0 := L1.out.cell 0
  have m0 := L2.out.cell 0
  simp at l0 m0
  have HS3 := Lib.hid ((SetAt.below HS.out B3.out).below ((Below.refl _ _).alloc (Nat.le_refl _) (.cells #[.int .i64 4, .int .i64 0, .int .i64 1, .int .i64 1] 28)))
  clear h0 h1 h7 h12 h13 h21 h22 h23 x y
  go_wp2_with fail
  refine (SameSet_yes [(97, 99)] _ _ _ (by decide) ?_ ?_).mono ?_
  · exact (HS3.out.below ((Below.refl _ _).alloc (Nat.le_refl _) _)).read
  · refine ⟨_, _, rfl, fun i p hp => ?_⟩
    have hi : i = 0 := by
      have := (List.getElem?_eq_some_iff.1 hp).1
      simp at this
      exact this
    subst hi
    simp at hp
    subst hp
    have k0 := (Bk.made (w3.alloc (.cells #[.int .i64 4, .int .i64 0, .int .i64 1, .int .i64 1] 28)) 40 #[.int .i32 97, .int .i32 99]).cell 0
    have k1 := (Bk.made (w3.alloc (.cells #[.int .i64 4, .int .i64 0, .int .i64 1, .int .i64 1] 28)) 40 #[.int .i32 97, .int .i32 99]).cell 1
    rw [World.size_alloc] at k0 k1
    exact ⟨_, _, rfl, k0, k1⟩
  rintro e w4 ⟨rfl, n, rfl⟩
  go_wp2_with fail
  go_ret
  refine ⟨rfl, ?_⟩
  have c1 := B1.out.trans (B2.out.mono B1.out.size)
  have c2 := c1.trans (B3.out.mono c1.size)
  exact below_drewN ((c2.alloc c2.size _).alloc (by have := c2.size; simp; omega) _) _
end Go.Proofs.YtokpknjmcegkaaaDoor
