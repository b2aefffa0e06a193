/- ScansJoin where one of the two has a fault, or is too long. -/
import Derived.Test.YtokpknjmcegkaaaDoorSpX
import Derived.Test.YtokpknjmcegkaaaDoorScX
import Derived.Test.YtokpknjmcegkaaaDoorScV
namespace Go.Proofs.YtokpknjmcegkaaaDoor
open Go Go.RowKit Ru
set_option maxRecDepth 100000

theorem Told.any {s : ByteArray} {w w' : World} {e : Ending} (h : Told s w e w') : ∃ (A : Option Addr) (n cap : Nat) (c p l k : Int), e = .returned (.tuple #[.slice A n cap, .agg #[.int .i64 c, .int .i64 p, .int .i64 l, .int .i64 k]]) ∧ Below w.heap.size w w' := by
  rcases h with ⟨c, p, _, _, h, hb⟩ | ⟨ds, v, _, h, hW, hb⟩
  · exact ⟨none, 0, 0, c, p, _, _, h, hb⟩
  · obtain ⟨A, cap, rfl, _⟩ := hW.choose_spec.2.1.form
    exact ⟨A, _, cap, 0, 0, 0, 0, h, hb⟩
theorem Told.err {s : ByteArray} {w w' : World} {e : Ending} {c p : Nat} (h : Told s w e w') (hr : Sc.scanL s.data.toList = .err c p) : e = .returned (.tuple #[.slice none 0 0, .agg #[.int .i64 c, .int .i64 p, .int .i64 (place (s.data.toList.take p)).1, .int .i64 (place (s.data.toList.take p)).2]]) ∧ Below w.heap.size w w' := by
  rcases h with ⟨c', p', h, _, he, hb⟩ | ⟨ds, v, h, _⟩
  · rw [hr] at h
    injection h with h1 h2
    subst h1 h2
    exact ⟨he, hb⟩
  · rw [hr] at h; cases h
theorem Told.ok {s : ByteArray} {w w' : World} {e : Ending} {ds : List Sc.W} (h : Told s w e w') (hr : Sc.scanL s.data.toList = .ok ds) : ∃ A cap, e = .returned (.tuple #[.slice A ds.length cap, .agg #[.int .i64 0, .int .i64 0, .int .i64 0, .int .i64 0]]) ∧ Words w' (w.heap.size + 1) (.slice A ds.length cap) s.data.toList ds ∧ Below w.heap.size w w' := by
  rcases h with ⟨c, p, h, _⟩ | ⟨ds', v, h, he, hW, hb⟩
  · rw [hr] at h; cases h
  · rw [hr] at h
    injection h with h
    subst h
    obtain ⟨A, cap, rfl, _⟩ := hW.choose_spec.2.1.form
    exact ⟨A, cap, he, hW, hb⟩
theorem Bk.zero {w : World} {b : Nat} {t : TypeId} {a x y z : Value} (h : Bk w b t #[a, x, y, z]) : w.cell? ⟨b, 0, none⟩ = some a := by simpa using h.cell 0
theorem Bk.one {w : World} {b : Nat} {t : TypeId} {a x y z : Value} (h : Bk w b t #[a, x, y, z]) : w.cell? ⟨b, 1, none⟩ = some x := by simpa using h.cell 1
abbrev FaultV (c p l k : Int) : Obj := .cells #[.int .i64 c, .int .i64 p, .int .i64 l, .int .i64 k] 28
theorem Join_long (s t : ByteArray) (w : World) (hE : EnvS w) (h : 1500 < (s.size : Int) ∨ 1500 < (t.size : Int)) : Calls Tryd.prog 5 #[.string s, .string t] w fun e w' => e = .returned (.bool true) ∧ Below w.heap.size w w' := by
  have HE := Lib.hid hE
  clear hE
  by_cases h0 : 1500 < (s.size : Int)
  · go_enter Tryd.func5, Tryd.ntmps5
    go_wp2_with fail
    refine (lives_true _ HE.out).mono ?_
    rintro e w1 ⟨rfl, b1⟩
    go_wp2_with fail
    go_ret
    exact ⟨rfl, b1⟩
  · have h1 : 1500 < (t.size : Int) := by omega
    clear h
    go_enter Tryd.func5, Tryd.ntmps5
    go_wp2_with fail
    refine (lives_true _ HE.out).mono ?_
    rintro e w1 ⟨rfl, b1⟩
    go_wp2_with fail
    go_ret
    exact ⟨rfl, b1⟩
set_option maxHeartbeats 4000000 in
theorem Join_err (s t : ByteArray) (w : World) (hE : EnvS w) (hs : s.size ≤ 1500) (ht : t.size ≤ 1500) (c p : Nat) (hr : Sc.scanL s.data.toList = .err c p) : Calls Tryd.prog 5 #[.string s, .string t] w fun e w' => e = .returned (.bool true) ∧ Below w.heap.size w w' := by
  have HE := Lib.hid hE
  have h0 : ¬ (1500 : Int) < (s.size : Int) := by omega
  have h1 : ¬ (1500 : Int) < (t.size : Int) := by omega
  have hc := scanL_err hr
  obtain ⟨ci, hci⟩ : ∃ ci : Int, (c : Int) = ci := ⟨_, rfl⟩
  have n0 : (ci == 0) = false := by rw [beq_eq_false_iff_ne]; omega
  have n1 : (ci != 0) = true := by rw [bne_iff_ne]; omega
  have n2 : ¬ ci = 0 := by omega
  have C1 := Lib.hid (fun w hE => (Scan_any s w (by omega) hE).mono fun _ _ h => Told.err h hr)
  rw [hci] at C1
  obtain ⟨L, hL⟩ : ∃ L : Int, ((place (s.data.toList.take p)).1 : Int) = L := ⟨_, rfl⟩
  obtain ⟨C, hC⟩ : ∃ C : Int, ((place (s.data.toList.take p)).2 : Int) = C := ⟨_, rfl⟩
  rw [hL, hC] at C1
  have C2 := Lib.hid (fun w hE => (Scan_any t w (by omega) hE).mono fun _ _ h => Told.any h)
  have a1 : ∀ wx, (Op.stringOp .add s ⟨#[10]⟩).run Tryd.prog wx = .ok (.string (s ++ ⟨#[10]⟩)) wx := fun wx => run_string_add_sum wx _ _ (by show _ + 1 ≤ _; omega)
  obtain ⟨V, hV⟩ : ∃ V : ByteArray, s ++ ⟨#[10]⟩ = V := ⟨_, rfl⟩
  have hVs : V.size = s.size + 1 := by rw [← hV]; exact ByteArray.size_append
  rw [hV] at a1
  have a2 : ∀ wx, (Op.stringOp .add V t).run Tryd.prog wx = .ok (.string (V ++ t)) wx := fun wx => run_string_add_sum wx _ _ (by omega)
  obtain ⟨U, hU⟩ : ∃ U : ByteArray, V ++ t = U := ⟨_, rfl⟩
  have hUs : U.size = s.size + 1 + t.size := by rw [← hU, ← hVs]; exact ByteArray.size_append
  rw [hU] at a2
  have C3 := Lib.hid (fun w hE => (Scan_any U w (by omega) hE).mono fun _ _ h => Told.any h)
  clear hE hr hci hc hL hC hV hVs hU hUs
  go_enter Tryd.func5, Tryd.ntmps5
  go_wp2_with fail
  refine (C1.out _ HE.out).mono ?_
  rintro e w1 ⟨rfl, b1⟩
  have b1' := b1.alloc b1.size (FaultV ci p L C)
  have K1 := Lib.hid (Bk.made w1 28 #[.int .i64 ci, .int .i64 p, .int .i64 L, .int .i64 C])
  have E1 := Lib.hid (HE.out.below b1')
  have B1 := Lib.hid b1'
  clear b1 b1'
  go_wp2_with fail
  refine (C2.out _ E1.out).mono ?_
  rintro e w2 ⟨A2, n2, cap2, c2, p2, l2, k2, rfl, b2⟩
  have b2' := b2.alloc b2.size (FaultV c2 p2 l2 k2)
  have K2 := Lib.hid ((K1.out.below b2 (by simp)).alloc (FaultV c2 p2 l2 k2))
  have E2 := Lib.hid (E1.out.below b2')
  have B2 := Lib.hid (B1.out.trans (b2'.mono B1.out.size))
  clear b2 b2' K1
  go_wp2_with fail
  refine (C3.out _ E2.out).mono ?_
  rintro e w3 ⟨A3, n3, cap3, c3, p3, l3, k3, rfl, b3⟩
  have b3' := b3.alloc b3.size (FaultV c3 p3 l3 k3)
  have K3 := Lib.hid ((K2.out.below b3 K2.out.lt).alloc (FaultV c3 p3 l3 k3))
  have E3 := Lib.hid (E2.out.below b3')
  have B3 := Lib.hid (B2.out.trans (b3'.mono B2.out.size))
  have z0 := K3.out.zero
  clear b3 b3' K2 B1 B2 E1 E2
  go_wp2_with fail
  refine (lives_true _ E3.out).mono ?_
  rintro e w4 ⟨rfl, b4⟩
  go_wp2_with fail
  go_ret
  exact ⟨rfl, B3.out.trans (b4.mono B3.out.size)⟩
set_option maxHeartbeats 4000000 in
theorem Join_bad (s t : ByteArray) (w : World) (hE : EnvS w) (hs : s.size ≤ 1500) (ht : t.size ≤ 1500) (ds : List Sc.W) (hr : Sc.scanL s.data.toList = .ok ds) (c p : Nat) (hq : Sc.scanL t.data.toList = .err c p) (hb : 0 ≤ bad t.data.toList) : Calls Tryd.prog 5 #[.string s, .string t] w fun e w' => e = .returned (.bool true) ∧ Below w.heap.size w w' := by
  have HE := Lib.hid hE
  have h0 : ¬ (1500 : Int) < (s.size : Int) := by omega
  have h1 : ¬ (1500 : Int) < (t.size : Int) := by omega
  have hc := scanL_err hq
  obtain ⟨ci, hci⟩ : ∃ ci : Int, (c : Int) = ci := ⟨_, rfl⟩
  have n0 : (ci == 0) = false := by rw [beq_eq_false_iff_ne]; omega
  have n1 : (ci != 0) = true := by rw [bne_iff_ne]; omega
  have n2 : ¬ ci = 0 := by omega
  have CO := Lib.hid (fun w hE => (Scan_any s w (by omega) hE).mono fun _ _ h => Told.ok h hr)
  have C2 := Lib.hid (fun w hE => (Scan_any t w (by omega) hE).mono fun _ _ h => Told.err h hq)
  rw [hci] at C2
  obtain ⟨L, hL⟩ : ∃ L : Int, ((place (t.data.toList.take p)).1 : Int) = L := ⟨_, rfl⟩
  obtain ⟨C, hC⟩ : ∃ C : Int, ((place (t.data.toList.take p)).2 : Int) = C := ⟨_, rfl⟩
  rw [hL, hC] at C2
  have CB := fun w hE => Bad_any t w (by omega) hE
  obtain ⟨b, hbb⟩ : ∃ b, bad t.data.toList = b := ⟨_, rfl⟩
  rw [hbb] at CB hb
  replace CB := Lib.hid CB
  have m0 : decide (b < 0) = false := by rw [decide_eq_false_iff_not]; omega
  have m1 : ¬ b < 0 := by omega
  have a1 : ∀ wx, (Op.stringOp .add s ⟨#[10]⟩).run Tryd.prog wx = .ok (.string (s ++ ⟨#[10]⟩)) wx := fun wx => run_string_add_sum wx _ _ (by show _ + 1 ≤ _; omega)
  obtain ⟨V, hV⟩ : ∃ V : ByteArray, s ++ ⟨#[10]⟩ = V := ⟨_, rfl⟩
  have hVs : V.size = s.size + 1 := by rw [← hV]; exact ByteArray.size_append
  rw [hV] at a1
  have a2 : ∀ wx, (Op.stringOp .add V t).run Tryd.prog wx = .ok (.string (V ++ t)) wx := fun wx => run_string_add_sum wx _ _ (by omega)
  obtain ⟨U, hU⟩ : ∃ U : ByteArray, V ++ t = U := ⟨_, rfl⟩
  have hUs : U.size = s.size + 1 + t.size := by rw [← hU, ← hVs]; exact ByteArray.size_append
  rw [hU] at a2
  have C3 := Lib.hid (fun w hE => (Scan_any U w (by omega) hE).mono fun _ _ h => Told.any h)
  clear hE hr hq hci hc hL hC hV hVs hU hUs hbb
  go_enter Tryd.func5, Tryd.ntmps5
  go_wp2_with fail
  refine (CO.out _ HE.out).mono ?_
  rintro e w1 ⟨A1, cap1, rfl, _, b1⟩
  have b1' := b1.alloc b1.size (FaultV 0 0 0 0)
  have K1 := Lib.hid (Bk.made w1 28 #[.int .i64 0, .int .i64 0, .int .i64 0, .int .i64 0])
  have E1 := Lib.hid (HE.out.below b1')
  have B1 := Lib.hid b1'
  clear b1 b1'
  go_wp2_with fail
  refine (C2.out _ E1.out).mono ?_
  rintro e w2 ⟨rfl, b2⟩
  have b2' := b2.alloc b2.size (FaultV ci p L C)
  have J2 := Lib.hid (Bk.made w2 28 #[.int .i64 ci, .int .i64 p, .int .i64 L, .int .i64 C])
  have K2 := Lib.hid ((K1.out.below b2 (by simp)).alloc (FaultV ci p L C))
  have E2 := Lib.hid (E1.out.below b2')
  have B2 := Lib.hid (B1.out.trans (b2'.mono B1.out.size))
  clear b2 b2' K1
  go_wp2_with fail
  refine (C3.out _ E2.out).mono ?_
  rintro e w3 ⟨A3, n3, cap3, c3, p3, l3, k3, rfl, b3⟩
  have b3' := b3.alloc b3.size (FaultV c3 p3 l3 k3)
  have K3 := Lib.hid ((K2.out.below b3 K2.out.lt).alloc (FaultV c3 p3 l3 k3))
  have J3 := Lib.hid ((J2.out.below b3 J2.out.lt).alloc (FaultV c3 p3 l3 k3))
  have E3 := Lib.hid (E2.out.below b3')
  have B3 := Lib.hid (B2.out.trans (b3'.mono B2.out.size))
  have z0 := K3.out.zero
  have z1 := J3.out.zero
  clear b3 b3' K2 B1 B2 E1 E2 J2
  go_wp2_with fail
  refine (CB.out _ E3.out.env).mono ?_
  rintro e w4 ⟨rfl, b4⟩
  have E4 := Lib.hid (E3.out.below b4)
  have B4 := Lib.hid (B3.out.trans (b4.mono B3.out.size))
  clear b4
  go_wp2_with fail
  refine (lives_true _ E4.out).mono ?_
  rintro e w5 ⟨rfl, b5⟩
  go_wp2_with fail
  go_ret
  exact ⟨rfl, B4.out.trans (b5.mono B4.out.size)⟩
set_option maxHeartbeats 4000000 in
theorem Join_second (s t : ByteArray) (w : World) (hE : EnvS w) (hs : s.size ≤ 1500) (ht : t.size ≤ 1500) (ds : List Sc.W) (hr : Sc.scanL s.data.toList = .ok ds) (c p : Nat) (hq : Sc.scanL t.data.toList = .err c p) (hp : p ≤ t.size) (hb : Sc.Good t.data.toList) : Calls Tryd.prog 5 #[.string s, .string t] w fun e w' => e = .returned (.bool true) ∧ Below w.heap.size w w' := by
  have HE := Lib.hid hE
  have h0 : ¬ (1500 : Int) < (s.size : Int) := by omega
  have h1 : ¬ (1500 : Int) < (t.size : Int) := by omega
  have hc := scanL_err hq
  have hj := Sc.scanL_join hr hb (by rw [← Lib.size_eq, ← Lib.size_eq]; omega)
  rw [hq] at hj
  unfold Sc.SR.shift Sc.SR.app at hj
  dsimp only at hj
  obtain ⟨ci, hci⟩ : ∃ ci : Int, (c : Int) = ci := ⟨_, rfl⟩
  have n0 : (ci == 0) = false := by rw [beq_eq_false_iff_ne]; omega
  have n1 : (ci != 0) = true := by rw [bne_iff_ne]; omega
  have n2 : ¬ ci = 0 := by omega
  have CO := Lib.hid (fun w hE => (Scan_any s w (by omega) hE).mono fun _ _ h => Told.ok h hr)
  have C2 := Lib.hid (fun w hE => (Scan_any t w (by omega) hE).mono fun _ _ h => Told.err h hq)
  rw [hci] at C2
  obtain ⟨L, hL⟩ : ∃ L : Int, ((place (t.data.toList.take p)).1 : Int) = L := ⟨_, rfl⟩
  obtain ⟨C, hC⟩ : ∃ C : Int, ((place (t.data.toList.take p)).2 : Int) = C := ⟨_, rfl⟩
  rw [hL, hC] at C2
  have CB := fun w hE => Bad_any t w (by omega) hE
  unfold Sc.Good at hb
  rw [hb] at CB
  replace CB := Lib.hid CB
  have a1 : ∀ wx, (Op.stringOp .add s ⟨#[10]⟩).run Tryd.prog wx = .ok (.string (s ++ ⟨#[10]⟩)) wx := fun wx => run_string_add_sum wx _ _ (by show _ + 1 ≤ _; omega)
  obtain ⟨V, hV⟩ : ∃ V : ByteArray, s ++ ⟨#[10]⟩ = V := ⟨_, rfl⟩
  have hVs : V.size = s.size + 1 := by rw [← hV]; exact ByteArray.size_append
  rw [hV] at a1
  have a2 : ∀ wx, (Op.stringOp .add V t).run Tryd.prog wx = .ok (.string (V ++ t)) wx := fun wx => run_string_add_sum wx _ _ (by omega)
  obtain ⟨U, hU⟩ : ∃ U : ByteArray, V ++ t = U := ⟨_, rfl⟩
  have hUs : U.size = s.size + 1 + t.size := by rw [← hU, ← hVs]; exact ByteArray.size_append
  have hUd : U.data.toList = s.data.toList ++ 10 :: t.data.toList := by
    rw [← hU, ← hV]
    simp
  rw [hU] at a2
  rw [← hUd, ← Lib.size_eq] at hj
  have C3 := Lib.hid (fun w hE => (Scan_any U w (by omega) hE).mono fun _ _ h => Told.err h hj)
  rw [hci] at C3
  obtain ⟨L3, hL3⟩ : ∃ L : Int, ((place (U.data.toList.take (p + (s.size + 1)))).1 : Int) = L := ⟨_, rfl⟩
  obtain ⟨C4, hC4⟩ : ∃ C : Int, ((place (U.data.toList.take (p + (s.size + 1)))).2 : Int) = C := ⟨_, rfl⟩
  rw [hL3, hC4] at C3
  obtain ⟨P3, hP3⟩ : ∃ P : Int, ((p + (s.size + 1) : Nat) : Int) = P := ⟨_, rfl⟩
  rw [hP3] at C3
  have g1 : IntKind.i64.wrap ((s.size : Int) + 1) = (s.size : Int) + 1 := IntWalk.i64_in _ (by omega)
  have g2 : IntKind.i64.wrap ((s.size : Int) + 1 + (p : Int)) = P3 := by rw [IntWalk.i64_in _ (by omega)]; omega
  clear hE hr hq hci hc hL hC hV hVs hU hUs hb hj hUd hL3 hC4 hP3 hp
  go_enter Tryd.func5, Tryd.ntmps5
  go_wp2_with fail
  refine (CO.out _ HE.out).mono ?_
  rintro e w1 ⟨A1, cap1, rfl, _, b1⟩
  have b1' := b1.alloc b1.size (FaultV 0 0 0 0)
  have K1 := Lib.hid (Bk.made w1 28 #[.int .i64 0, .int .i64 0, .int .i64 0, .int .i64 0])
  have E1 := Lib.hid (HE.out.below b1')
  have B1 := Lib.hid b1'
  clear b1 b1'
  go_wp2_with fail
  refine (C2.out _ E1.out).mono ?_
  rintro e w2 ⟨rfl, b2⟩
  have b2' := b2.alloc b2.size (FaultV ci p L C)
  have J2 := Lib.hid (Bk.made w2 28 #[.int .i64 ci, .int .i64 p, .int .i64 L, .int .i64 C])
  have K2 := Lib.hid ((K1.out.below b2 (by simp)).alloc (FaultV ci p L C))
  have E2 := Lib.hid (E1.out.below b2')
  have B2 := Lib.hid (B1.out.trans (b2'.mono B1.out.size))
  clear b2 b2' K1
  go_wp2_with fail
  refine (C3.out _ E2.out).mono ?_
  rintro e w3 ⟨rfl, b3⟩
  have b3' := b3.alloc b3.size (FaultV ci P3 L3 C4)
  have I3 := Lib.hid (Bk.made w3 28 #[.int .i64 ci, .int .i64 P3, .int .i64 L3, .int .i64 C4])
  have K3 := Lib.hid ((K2.out.below b3 K2.out.lt).alloc (FaultV ci P3 L3 C4))
  have J3 := Lib.hid ((J2.out.below b3 J2.out.lt).alloc (FaultV ci P3 L3 C4))
  have E3 := Lib.hid (E2.out.below b3')
  have B3 := Lib.hid (B2.out.trans (b3'.mono B2.out.size))
  have z0 := K3.out.zero
  have z1 := J3.out.zero
  clear b3 b3' K2 B1 B2 E1 E2 J2
  go_wp2_with fail
  refine (CB.out _ E3.out.env).mono ?_
  rintro e w4 ⟨rfl, b4⟩
  have E4 := Lib.hid (E3.out.below b4)
  have B4 := Lib.hid (B3.out.trans (b4.mono B3.out.size))
  have x0 := (I3.out.below b4 I3.out.lt).zero
  have x1 := (I3.out.below b4 I3.out.lt).one
  have y0 := (J3.out.below b4 J3.out.lt).zero
  have y1 := (J3.out.below b4 J3.out.lt).one
  clear b4 z0 z1
  go_wp2_with fail
  refine (lives_true _ E4.out).mono ?_
  rintro e w5 ⟨rfl, b5⟩
  go_wp2_with fail
  go_ret
  exact ⟨rfl, B4.out.trans (b5.mono B4.out.size)⟩
end Go.Proofs.YtokpknjmcegkaaaDoor
