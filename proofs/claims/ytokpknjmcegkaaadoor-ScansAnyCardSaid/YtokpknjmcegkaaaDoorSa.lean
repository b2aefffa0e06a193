/- ScansAny: for every text, the words that are told, or the first fault, are the chapter's, and what is told twice is not shared. The listed variables (tables of unicode/utf8, math/bits and strconv, and strconv's two errors) are as the program's text lays them: the card ties that. No further condition. -/
import Derived.Test.YtokpknjmcegkaaaDoorSaM
import Derived.Test.YtokpknjmcegkaaaDoorScT
import Derived.Test.YtokpknjmcegkaaaDoorChecked
import Derived.Test.YtokpknjmcegkaaaDoorCards
import Derived.Test.YtokpknjmcegkaaaDoorTie
import Derived.ProofKit
import Derived.OpenShut
import Derived.Lay
namespace Go.Proofs.YtokpknjmcegkaaaDoor
open Go Go.RowKit Ru
set_option maxRecDepth 100000

theorem RScan_any (s : ByteArray) (w : World) (hs : s.size ≤ 65536) : Calls Tryd.prog 9 #[.string s] w (ToldR s w) := by
  rcases bd_range s.data.toList.length s.data.toList 0 with h1 | ⟨h1, _⟩
  · exact RScan_good s w hs h1
  · exact RScan_bad s w hs (bad s.data.toList).toNat (by unfold bad at *; omega)
theorem bel_drewN {B : Nat} {w w' : World} (h : Below B w w') (n : Nat) : Below B w (w'.drewN n) := ⟨h.os, h.tape, h.output, h.size, h.block⟩
/-- What both Scans answer, of one text. -/
structure Both (s : ByteArray) (ds : List Sc.W) (E p L C : Int) : Prop where
  len : ds.length ≤ 65536
  small : ∀ (i : Nat) d, ds[i]? = some d → d.set.length ≤ 65536 ∧ d.kind ≤ 4
  one : ∀ w e w', Told s w e w' → ∃ A cap, e = .returned (.tuple #[.slice A ds.length cap, .agg #[.int .i64 E, .int .i64 p, .int .i64 L, .int .i64 C]]) ∧ Words w' (w.heap.size + 1) (.slice A ds.length cap) s.data.toList ds ∧ Below w.heap.size w w'
  two : ∀ w e w', ToldR s w e w' → ∃ A cap, e = .returned (.tuple #[.slice A ds.length cap, .int .i64 E, .agg #[.int .i64 p, .int .i64 L, .int .i64 C]]) ∧ WordsR w' (w.heap.size + 1) (.slice A ds.length cap) s.data.toList ds ∧ Below w.heap.size w w'
theorem both_of (s : ByteArray) : ∃ ds E p L C, Both s ds E p L C := by
  cases h : Sc.scanL s.data.toList with
  | err c p =>
    refine ⟨[], c, p, (place (s.data.toList.take p)).1, (place (s.data.toList.take p)).2, by simp, fun i d hd => by simp at hd, ?_, ?_⟩
    · intro w e w' ht
      obtain ⟨he, hb⟩ := ht.err h
      exact ⟨none, 0, he, ⟨[], rfl, Row.none_ _ _ _ _, fun i sv d hd => by simp at hd⟩, hb⟩
    · rintro w e w' (⟨c', p', h', _, he, hb⟩ | ⟨ds, v, h', _⟩)
      · rw [h] at h'
        injection h' with h1 h2
        subst h1 h2
        exact ⟨none, 0, he, ⟨[], rfl, Row.none_ _ _ _ _, fun i sv d hd => by simp at hd⟩, hb⟩
      · rw [h] at h'; cases h'
  | ok ds =>
    have hst := Stand.of h
    refine ⟨ds, 0, 0, 0, 0, ?_, ?_, ?_, ?_⟩
    · have := hst.len
      have h2 := (Sc.scanL_ok h).1
      rw [← Lib.size_eq] at h2
      omega
    · intro i d hd
      have h1 := set_small h i d hd
      have h2 := (Sc.scanL_ok h).1
      rw [← Lib.size_eq] at h2
      have h3 := (hst i d hd).2.2.1
      omega
    · intro w e w' ht
      exact ht.ok h
    · rintro w e w' (⟨c', p', h', _⟩ | ⟨ds', v, h', he, hW, hb⟩)
      · rw [h] at h'; cases h'
      · rw [h] at h'
        injection h' with h'
        subst h'
        obtain ⟨A, cap, rfl, _⟩ := hW.choose_spec.2.1.form
        exact ⟨A, cap, he, hW, hb⟩
/-- The sets of the words at g may be written to. -/
def CAt (B g : Nat) (ds : List Sc.W) (w : World) : Prop := ∀ (i : Nat) d, ds[i]? = some d → ∃ A cap, w.cell? ⟨g, i * 6 + 2, none⟩ = some (.slice A d.set.length cap) ∧
  ∀ j, j < d.set.length → ∃ gs x, A = some ⟨gs, 0, none⟩ ∧ gs ≠ g ∧ B ≤ gs ∧ w.cell? ⟨gs, j * 2, none⟩ = some x ∧ w.frozen? ⟨gs, j * 2, none⟩ = false
theorem CAt.of {w : World} {B g N cap : Nat} {l : List UInt8} {ds : List Sc.W} (h : Words w B (.slice (some ⟨g, 0, none⟩) N cap) l ds) (hn : 0 < ds.length) : CAt B g ds w := by
  intro i d hd
  obtain ⟨g', hA, _, _, hc⟩ := h.at hn
  injection hA with hA
  injection hA with hA
  subst hA
  obtain ⟨sv, hs, _, _, c2, _⟩ := hc i d hd
  obtain ⟨A, c3, rfl, _⟩ := Row.form hs
  refine ⟨A, c3, c2, fun j hj => ?_⟩
  have hq : d.set[j]? = some (d.set[j]'hj) := List.getElem?_eq_getElem hj
  obtain ⟨gs, rfl, _, _, x1, _⟩ := hs.at hq
  have hrow := h.choose_spec.2.1
  have hg : ∃ cur, Bk w g 38 cur := by
    rcases hrow.2 with ⟨h1, _⟩ | ⟨g2, c2, cur, h1, h2, h3, _⟩
    · cases h1
    · injection h1 with h1 _ _
      injection h1 with h1
      injection h1 with h1
      subst h1
      exact ⟨cur, h3⟩
  have hgs : ∃ cur, Bk w gs 40 cur := by
    rcases hs.2 with ⟨h1, _⟩ | ⟨g2, c2, cur, h1, h2, h3, _⟩
    · cases h1
    · injection h1 with h1 _ _
      injection h1 with h1
      injection h1 with h1
      subst h1
      exact ⟨cur, h3⟩
  obtain ⟨_, k1⟩ := hg
  obtain ⟨_, k2⟩ := hgs
  exact ⟨gs, _, rfl, Bk.ne k2 k1 (by decide), (Row.lt hs rfl).1, x1, k2.free _⟩
theorem CAt.below {w w' : World} {B g N cap : Nat} {l : List UInt8} {ds : List Sc.W} (h : Words w B (.slice (some ⟨g, 0, none⟩) N cap) l ds) (hn : 0 < ds.length) (hb : Below w.heap.size w w') : CAt B g ds w' := CAt.of (h.below hb) hn
theorem CAt.set {w : World} {B g : Nat} {ds : List Sc.W} (h : CAt B g ds w) {gs o : Nat} {u : Value} (hg : gs ≠ g) : CAt B g ds (w.setCell ⟨gs, o, none⟩ u) := by
  intro i d hd
  obtain ⟨A, cap, h1, h2⟩ := h i d hd
  refine ⟨A, cap, by rw [far_cell _ _ _ _ _ (by simpa using hg.symm)]; exact h1, fun j hj => ?_⟩
  obtain ⟨gt, x, h3, h4, h5, h6, h7⟩ := h2 j hj
  obtain ⟨x', hx'⟩ := cell?_setCell_some (p := ⟨gs, o, none⟩) (x := u) h6
  exact ⟨gt, x', h3, h4, h5, hx', by rw [World.frozen?_setCell]; exact h7⟩
theorem Any_long (s : ByteArray) (w : World) (hE : EnvS w) (h : 3000 < (s.size : Int)) : Calls Tryd.prog 3 #[.string s] w fun e w' => e = .returned (.bool true) ∧ Below w.heap.size w w' := by
  have HE := Lib.hid hE
  clear hE
  go_enter Tryd.func3, Tryd.ntmps3
  go_wp2_with fail
  refine (lives_true _ HE.out).mono ?_
  rintro e w1 ⟨rfl, b1⟩
  go_wp2_with fail
  go_ret
  exact ⟨rfl, b1⟩
set_option maxHeartbeats 8000000 in
theorem Any_ok (s : ByteArray) (w : World) (hE : EnvS w) (hs : s.size ≤ 3000) (ds : List Sc.W) (E p L C : Int) (hB : Both s ds E p L C) : Calls Tryd.prog 3 #[.string s] w fun e w' => e = .returned (.bool true) ∧ Below w.heap.size w w' := by
  have HE := Lib.hid hE
  have h0 : ¬ (3000 : Int) < (s.size : Int) := by omega
  have C1 := fun w hE => (Scan_any s w (by omega) hE).mono fun _ _ h => hB.one _ _ _ h
  have C2 := fun w => (RScan_any s w (by omega)).mono fun _ _ h => hB.two _ _ _ h
  have hlen := hB.len
  have CS := Lib.hid (fun (u v : Value) (w' : World) hu hv => Same_yes ds s.data.toList u v w' (by omega) (fun i d hd => by have := hB.small i d hd; omega) hu hv)
  obtain ⟨N, hN⟩ : ∃ N, ds.length = N := ⟨_, rfl⟩
  have HN := Lib.hid hN
  rw [hN] at C1 C2
  replace C1 := Lib.hid C1
  replace C2 := Lib.hid C2
  have HSM := Lib.hid hB.small
  have t0 : (E != E) = false := by simp
  have hN2 : N ≤ 65536 := by omega
  clear hE hB hN hlen
  go_enter Tryd.func3, Tryd.ntmps3
  go_wp2_with fail
  refine (C1.out _ HE.out).mono ?_
  rintro e w1 ⟨A1, cap1, rfl, W1, b1⟩
  have b1' := b1.alloc b1.size (FaultV E p L C)
  have K1 := Lib.hid (Bk.made w1 28 #[.int .i64 E, .int .i64 p, .int .i64 L, .int .i64 C])
  have E1 := Lib.hid (HE.out.below b1')
  have B1 := Lib.hid b1'
  have X1 := Lib.hid (W1.below ((Below.refl _ w1).alloc (Nat.le_refl _) (FaultV E p L C)))
  clear b1 b1' W1
  go_wp2_with fail
  refine (C2.out _).mono ?_
  rintro e w2 ⟨A2, cap2, rfl, W2, b2⟩
  have b2' := b2.alloc b2.size (.cells #[.int .i64 p, .int .i64 L, .int .i64 C] 26)
  have J2 := Lib.hid (Bk.made w2 26 #[.int .i64 p, .int .i64 L, .int .i64 C])
  have K2 := Lib.hid ((K1.out.below b2 (by simp)).alloc (.cells #[.int .i64 p, .int .i64 L, .int .i64 C] 26))
  have E2 := Lib.hid (E1.out.below b2')
  have B2 := Lib.hid (B1.out.trans (b2'.mono B1.out.size))
  have X2 := Lib.hid (X1.out.below b2')
  have Y2 := Lib.hid (W2.below ((Below.refl _ w2).alloc (Nat.le_refl _) (.cells #[.int .i64 p, .int .i64 L, .int .i64 C] 26)))
  clear b2 b2' W2 X1 K1
  have z0 := K2.out.cell 0
  have z1 := K2.out.cell 1
  have z2 := K2.out.cell 2
  have z3 := K2.out.cell 3
  have y0 := J2.out.cell 0
  have y1 := J2.out.cell 1
  have y2 := J2.out.cell 2
  simp at z0 z1 z2 z3 y0 y1 y2
  have CL := Lib.hid (CS.out _ _ _ X2.out.read Y2.out.read)
  go_wp2_with fail
  refine CL.out.mono ?_
  rintro e w3 ⟨rfl, nn, rfl⟩
  have E3 := Lib.hid (E2.out.drewN nn)
  have X3 := Lib.hid (show Words ((w2.alloc (.cells #[.int .i64 p, .int .i64 L, .int .i64 C] 26)).drewN nn) _ _ _ _ from X2.out)
  have Y3 := Lib.hid (show WordsR ((w2.alloc (.cells #[.int .i64 p, .int .i64 L, .int .i64 C] 26)).drewN nn) _ _ _ _ from Y2.out)
  have B3 := Lib.hid (bel_drewN B2.out nn)
  clear z0 z1 z2 z3 y0 y1 y2 CL X2 Y2 E2 B2 K2 J2
  generalize (w2.alloc (.cells #[.int .i64 p, .int .i64 L, .int .i64 C] 26)).drewN nn = wd at E3 X3 Y3 B3 ⊢
  go_wp2_with fail
  refine (C1.out _ E3.out).mono ?_
  rintro e w4 ⟨A4, cap4, rfl, W4, b4⟩
  have b4' := b4.alloc b4.size (FaultV E p L C)
  have HB4 := Lib.hid b4'
  have X4 := Lib.hid (W4.below ((Below.refl _ w4).alloc (Nat.le_refl _) (FaultV E p L C)))
  have hcap4 := W4.cap
  clear b4 b4' W4
  go_wp2_with fail
  generalize w4.alloc (FaultV E p L C) = w5 at HB4 X4 ⊢
  have HC0 := Lib.hid (show ∀ g, A4 = some ⟨g, 0, none⟩ → 0 < N → CAt (wd.heap.size + 1) g ds w5 from fun g hg hn => by
    have h := X4.out
    rw [hg] at h
    exact CAt.of h (by rw [HN.out]; exact hn))
  go_loopw [10] (fun a wr => ∃ i : Nat, i ≤ N ∧ a = .int .i64 i ∧ Hid (∀ g, A4 = some ⟨g, 0, none⟩ → 0 < N → CAt (wd.heap.size + 1) g ds wr) ∧ Below wd.heap.size wd wr) (fun a _ => N - (intOf a).toNat)
  case atStart => exact ⟨0, Nat.zero_le _, rfl, HC0.out, HB4.out⟩
  case round =>
    obtain ⟨i, hi, rfl, hca, hb⟩ := hrel
    by_cases hlt : i < N
    · have d0 : decide (i < N) = true := by rw [decide_eq_true_iff]; exact hlt
      have i9 : (i : Int) < (N : Int) := by omega
      have ii0 : (0 : Int) ≤ (i : Int) := by omega
      obtain ⟨d, hd⟩ : ∃ d, ds[i]? = some d := ⟨ds[i]'(by rw [HN.out]; exact hlt), List.getElem?_eq_getElem _⟩
      obtain ⟨g, rfl, _, _, _⟩ := X4.out.at (by rw [HN.out]; omega)
      have HD := Lib.hid hd
      have hds := (HSM.out i d hd).1
      have HCA := Lib.hid (hca.out g rfl (by omega))
      have HB := Lib.hid hb
      obtain ⟨M, hM⟩ : ∃ M, d.set.length = M := ⟨_, rfl⟩
      have HM := Lib.hid hM
      rw [hM] at hds
      clear hd hca hb hM HC0
      go_wp2_with fail
      go_loopw [11] (fun a wx => ∃ k : Nat, k ≤ M ∧ a = .int .i64 k ∧ Hid (CAt (wd.heap.size + 1) g ds wx) ∧ Below wd.heap.size wd wx) (fun a _ => M - (intOf a).toNat)
      case atStart => exact ⟨0, Nat.zero_le _, rfl, HCA.out, HB.out⟩
      case round =>
        obtain ⟨k, hk, rfl, hca, hb⟩ := hrel
        obtain ⟨As, caps, c2, hsets⟩ := hca.out i d HD.out
        rw [HM.out] at c2 hsets
        have HB5 := Lib.hid hb
        by_cases hkl : k < M
        · have e0 : decide (k < M) = true := by rw [decide_eq_true_iff]; exact hkl
          obtain ⟨gs, x, rfl, hgs, hBs, x1, x2⟩ := hsets k hkl
          have k9 : (k : Int) < (M : Int) := by omega
          have kk0 : (0 : Int) ≤ (k : Int) := by omega
          have HCN := Lib.hid (hca.out.set (gs := gs) (o := k * 2) (u := .int .i32 (-7)) hgs)
          have HB6 := Lib.hid (show Below wd.heap.size wd (wr.setCell ⟨gs, k * 2, none⟩ (.int .i32 (-7))) from hb.setCell (by simp; omega) _)
          clear hca hb hsets
          go_wp2_with fail
          exact ⟨⟨k + 1, by omega, by go_num, HCN, HB6.out⟩, by simp [intOf]; omega⟩
        · have e0 : decide (k < M) = false := by rw [decide_eq_false_iff_not]; exact hkl
          have HCA2 := Lib.hid hca.out
          clear hca hb hsets
          go_wp2_with fail
          refine ⟨⟨i + 1, by omega, by go_num, ?_, HB5.out⟩, by simp [intOf]; omega⟩
          intro g' hg' _
          injection hg' with hg'
          injection hg' with hg'
          subst hg'
          exact HCA2.out
    · have d0 : decide (i < N) = false := by rw [decide_eq_false_iff_not]; exact hlt
      have CL := Lib.hid (CS.out _ _ _ (X3.out.below hb).read (Y3.out.below hb).read)
      have E5 := Lib.hid (E3.out.below hb)
      have B5 := Lib.hid (B3.out.trans (hb.mono B3.out.size))
      clear hb hca HC0
      go_wp2_with fail
      refine CL.out.mono ?_
      rintro e w6 ⟨rfl, mm, rfl⟩
      have E6 := Lib.hid (E5.out.drewN mm)
      have B6 := Lib.hid (bel_drewN B5.out mm)
      go_wp2_with fail
      refine (lives_true _ E6.out).mono ?_
      rintro e w7 ⟨rfl, b7⟩
      go_wp2_with fail
      go_ret
      exact ⟨rfl, B6.out.trans (b7.mono B6.out.size)⟩
theorem Any_any (s : ByteArray) (w : World) (hE : EnvS w) : Calls Tryd.prog 3 #[.string s] w fun e w' => e = .returned (.bool true) ∧ Below w.heap.size w w' := by
  by_cases hs : s.size ≤ 3000
  · obtain ⟨ds, E, p, L, C, hB⟩ := both_of s
    exact Any_ok s w hE hs ds E p L C hB
  · exact Any_long s w hE (by omega)
end Go.Proofs.YtokpknjmcegkaaaDoor
namespace Go.Proofs.YtokpknjmcegkaaaDoor
open Go Go.RowKit Ru Go.ChangeShapes Go.WideShapes Go.ChangeAt Go.WideMaps Go.WideElems
open Go.ChangeMaps (setBlock shut_map_nil open_string shut_string keptBut_setBlock frozen?_setBlock heap_setBlock_same)

theorem ScansAny_own : ownKnob Tryd.prog.godebug = none := by kernel_rfl
set_option maxRecDepth 100000 in
theorem ScansAny_lifted (os : Os) (started : os.Started) (H : Type) (enc : TypeId × Value → H) :
    ReturnsInHanded {} Tryd.checked os 3 .any (fun w args => (Rows.scansAnySpec.pre enc Tryd.prog Tryd.f3 [] false w args ∧ laidMetH Tryd.prog laidL w) ∧ sizedMet enc Tryd.prog Tryd.f3 (OpenSpec.ofChange Rows.scansAnySpec) false w args)
      (Rows.scansAnySpec.post enc Tryd.prog Tryd.f3 false true false false) := by
  refine lifted_shaped (C := Tryd.checked) (laid := laidL) ScansAny_own started (by kernel_rfl) Tryd.func3
    (ChangeSpec.witness_shaped (enc := enc) (C := Tryd.checked) (os := os) (X := fun w _ => laidMetH Tryd.prog laidL w) false (World.laidAll Tryd.prog os laidL) #[.string ⟨#[]⟩] 8 (World.laidAll_os _ _ _)
      (World.shaped_of_ZipB (by kernel_rfl) (by kernel_rfl)) (by kernel_rfl) (by kernel_rfl) (by kernel_rfl)
      (by rw [MakeChecks.laidMetH_plain _ _ _ (by kernel_rfl)]; exact laidMet_laidAll _ (by kernel_rfl) (by kernel_rfl))) ?_
  intro W base args ds gs before hval0 hW hL hsh
  have hval : ∀ (j : Nat) t v, Tryd.f3.params[j]? = some t → args[j]? = some v → Value.okWide Tryd.prog W .any base t v := hval0
  have hW' := hW
  obtain ⟨p, q, hA0, hV, rfl, _, _⟩ := hW
  have hA : DataW.TrodAll enc Tryd.prog W 0 (fun _ => true) true Tryd.f3.params.toList args.toList ds p := hA0
  rw [Tryd.params3] at hA hval
  obtain ⟨v0, d0, rfl, rfl, h0⟩ := trodAll_one hA
  obtain ⟨rfl, rfl⟩ := trodVars_none hV
  obtain ⟨x0, rfl, rfl, rfl, wx0⟩ := open_string Tryd.underlying9 (hval 0 9 v0 rfl rfl) h0
  simp only [List.append_nil] at hW'
  refine (Any_any x0 W (envS_of hL hsh)).mono fun e W' ⟨he, hb⟩ => ?_
  subst he
  exact ⟨_, rfl, _, _, _, [], [], [], hW', trodAll_mk1 (shut_bool Tryd.underlying4 _), trodAll_mk1 (shut_string Tryd.underlying9 wx0), rfl, hb.frame _, fun h => by cases h⟩

theorem ScansAny_row : Rows.ScansAnySaid :=
  OpenClaim.holds_of_wide 3 Tryd.f3 rfl rfl rfl rfl rfl rfl rfl ⟨rfl, rfl, rfl, rfl, rfl⟩ rfl rfl rfl rfl rfl (by kernel_rfl) Tryd.func3 (by kernel_rfl)
    (of_decide_eq_true (by kernel_rfl)) (by unfold Func.isWrapper; first | (rw [if_pos (by decide +kernel)]; kernel_rfl) | (rw [if_neg (by decide +kernel)]; exact ⟨rfl, rfl⟩))
    (fun os started H enc _ => ScansAny_lifted os started H enc)
theorem ScansAny_holds : Rows.ScansAnyCardSaid :=
  Claim7.holds_tied_plain_at .later [] [.data, .data, .data, .data, .sentinel, .sentinel, .pinned] true Rows.scansAnyCard.stood.harness true
    ScansAny_row (fun _ h => by cases h) (by kernel_rfl) (fun _ h => by cases h) scansAny_row_tie rfl ⟨rfl, rfl⟩ (by kernel_rfl) rfl
    (fun f fn hf hfn => by
      obtain rfl : f = 3 := Option.some.inj ((show Tryd.prog.funcNamed "harbinger/harbingerlaw02.ScansAny" = some 3 by kernel_rfl).symm.trans hf) |>.symm
      obtain rfl : fn = Tryd.f3 := (Option.some.inj (Tryd.func3.symm.trans hfn)).symm
      exact ⟨by kernel_rfl, fun j t ht => by
        rw [Tryd.params3] at ht
        have hm : t ∈ [9] := by simpa using Array.mem_of_getElem? ht
        have hall : ([9].all fun u => !Tryd.prog.wantsStandIn u) = true := by kernel_rfl
        exact (show Tryd.prog.wantsStandIn t = false by simpa using List.all_eq_true.1 hall t hm)⟩)
    (by kernel_rfl)
#print axioms ScansAny_holds
end Go.Proofs.YtokpknjmcegkaaaDoor
