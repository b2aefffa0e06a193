/- ScansJoin where both texts are read. -/
import Derived.Test.YtokpknjmcegkaaaDoorSjW
namespace Go.Proofs.YtokpknjmcegkaaaDoor
open Go Go.RowKit Ru
set_option maxRecDepth 100000

/-- What the words cs of both texts are. -/
structure Joined (s t U : ByteArray) (ds es cs : List Sc.W) : Prop where
  len : cs.length = ds.length + es.length
  front : ∀ (i : Nat) (d : Sc.W), i < ds.length → cs[i]? = some d → ds[i]? = some d ∧ place (U.data.toList.take d.pos) = place (s.data.toList.take d.pos)
  back : ∀ (i : Nat) (d : Sc.W), ds.length ≤ i → cs[i]? = some d → ∃ e, es[i - ds.length]? = some e ∧ Alike d e ∧ d.pos = e.pos + s.size + 1 ∧ place (U.data.toList.take d.pos) = ((place (t.data.toList.take e.pos)).1 + (place s.data.toList).1, (place (t.data.toList.take e.pos)).2)
  small : ∀ (i : Nat) (d : Sc.W), cs[i]? = some d → d.set.length ≤ 65536 ∧ d.pos ≤ 10000
theorem set_small {s : ByteArray} {ds : List Sc.W} (h : Sc.scanL s.data.toList = .ok ds) (i : Nat) (d : Sc.W) (hd : ds[i]? = some d) : d.set.length ≤ s.size ∧ d.pos < s.size := by
  obtain ⟨_, _, h2⟩ := Sc.scanL_ok h
  obtain ⟨a1, a2, ⟨z, a3⟩, _⟩ := Sc.scan_words _ _ _ _ (Nat.le_refl _) h2 i d hd
  rw [Nat.zero_add, ← Lib.size_eq] at a2
  rw [Nat.sub_zero] at a3
  have b := (Sc.wordR_is a3).2.1
  have c := (Sc.wordR_ok a3).2.1
  rw [List.length_drop, ← Lib.size_eq] at c
  omega
theorem joined_of {s t U : ByteArray} {ds es : List Sc.W} (hU : U.data.toList = s.data.toList ++ 10 :: t.data.toList) (hs : s.size ≤ 1500) (ht : t.size ≤ 1500) (h : Sc.scanL s.data.toList = .ok ds) (k : Sc.scanL t.data.toList = .ok es) :
    ∃ cs, Sc.scanL U.data.toList = .ok cs ∧ Joined s t U ds es cs := by
  have hG := (Sc.scanL_ok k).2.1
  have hGs := (Sc.scanL_ok h).2.1
  have hj := Sc.scanL_join h hG (by rw [← Lib.size_eq, ← Lib.size_eq]; omega)
  rw [k, ← hU, ← Lib.size_eq] at hj
  refine ⟨_, hj, ⟨by simp, ?_, ?_, ?_⟩⟩
  · intro i d hi hd
    rw [List.getElem?_append_left hi] at hd
    have := set_small h i d hd
    refine ⟨hd, ?_⟩
    rw [hU, Sc.place_front (by rw [← Lib.size_eq]; omega)]
  · intro i d hi hd
    rw [List.getElem?_append_right hi, List.getElem?_map] at hd
    cases he : es[i - ds.length]? with
    | none => rw [he] at hd; cases hd
    | some e =>
      rw [he] at hd
      injection hd with hd
      subst hd
      refine ⟨e, rfl, ⟨rfl, rfl, rfl⟩, by show e.pos + (s.size + 1) = _; omega, ?_⟩
      show place (U.data.toList.take (e.pos + (s.size + 1))) = _
      rw [hU, ← Nat.add_assoc, Lib.size_eq, Sc.place_back hGs]
  · intro i d hd
    by_cases hi : i < ds.length
    · rw [List.getElem?_append_left hi] at hd
      have := set_small h i d hd
      omega
    · rw [List.getElem?_append_right (by omega), List.getElem?_map] at hd
      cases he : es[i - ds.length]? with
      | none => rw [he] at hd; cases hd
      | some e =>
        rw [he] at hd
        injection hd with hd
        subst hd
        have := set_small k _ e he
        show e.set.length ≤ _ ∧ e.pos + (s.size + 1) ≤ _
        omega
/-- A part of one word. -/
theorem Lk.one {w : World} {g o n cap : Nat} {d : Sc.W} {sv : Value} (h0 : w.cell? ⟨g, o, none⟩ = some (.int .u8 d.kind)) (h1 : w.cell? ⟨g, o + 1, none⟩ = some (.string ⟨d.text.toArray⟩)) (h2 : w.cell? ⟨g, o + 2, none⟩ = some sv) (h3 : ReadSet w sv d.set) (hn : n = 1) : Lk w (.slice (some ⟨g, o, none⟩) n cap) [d] := by
  subst hn
  refine ⟨_, cap, rfl, fun i e he => ?_⟩
  cases i with
  | zero =>
    simp at he
    subst he
    exact ⟨g, o, sv, rfl, by rw [Nat.zero_mul, Nat.add_zero]; exact h0, by rw [Nat.zero_mul, Nat.add_zero]; exact h1, by rw [Nat.zero_mul, Nat.add_zero]; exact h2, h3⟩
  | succ i => simp at he
theorem quiet_0 {P : Program} {f : FuncId} {args : Array Value} {w : World} {n : Nat} {v : Value}
    (h : Calls P f args (w.drewN n) fun e w' => e = .returned v ∧ ∃ k, w' = (w.drewN n).drewN k) :
    Calls P f args (w.drewN n) fun e w'' => e = .returned v ∧ ∃ m, w'' = w.drewN m :=
  h.mono fun _ _ ⟨he, k, hk⟩ => ⟨he, n + k, by rw [hk, World.drewN_drewN]⟩
theorem Lk.heap {w w' : World} {v : Value} {ds : List Sc.W} (e : w'.heap = w.heap) (h : Lk w v ds) : Lk w' v ds := by
  have hc : ∀ a, w'.cell? a = w.cell? a := fun a => by unfold World.cell?; rw [e]
  unfold Lk ReadSet at *
  simp only [hc]
  exact h
theorem Words.cap {w : World} {B : Nat} {A : Option Addr} {N cap : Nat} {l : List UInt8} {ds : List Sc.W} (h : Words w B (.slice A N cap) l ds) : N ≤ cap := by
  obtain ⟨A', cap', e, hc⟩ := h.choose_spec.2.1.form
  injection e with e1 e2 e3
  omega
set_option maxHeartbeats 8000000 in
theorem Join_ok (s t U : ByteArray) (w : World) (hE : EnvS w) (hs : s.size ≤ 1500) (ht : t.size ≤ 1500) (hU : s ++ ⟨#[10]⟩ ++ t = U) (ds es cs : List Sc.W) (h1 : Sc.scanL s.data.toList = .ok ds) (h2 : Sc.scanL t.data.toList = .ok es) (h3 : Sc.scanL U.data.toList = .ok cs) (hJ : Joined s t U ds es cs) :
    Calls Tryd.prog 5 #[.string s, .string t] w fun e w' => e = .returned (.bool true) ∧ Below w.heap.size w w' := by
  have HE := Lib.hid hE
  have k0 : ¬ (1500 : Int) < (s.size : Int) := by omega
  have k1 : ¬ (1500 : Int) < (t.size : Int) := by omega
  have L1 := (Stand.of h1).len
  have L2 := (Stand.of h2).len
  have L3 := hJ.len
  have HJ := Lib.hid hJ
  have a1 : ∀ wx, (Op.stringOp .add s ⟨#[10]⟩).run Tryd.prog wx = .ok (.string (s ++ ⟨#[10]⟩)) wx := fun wx => run_string_add_sum wx _ _ (by show _ + 1 ≤ _; omega)
  obtain ⟨V, hV⟩ : ∃ V : ByteArray, s ++ ⟨#[10]⟩ = V := ⟨_, rfl⟩
  have hVs : V.size = s.size + 1 := by rw [← hV]; exact ByteArray.size_append
  rw [hV] at a1 hU
  have a2 : ∀ wx, (Op.stringOp .add V t).run Tryd.prog wx = .ok (.string (V ++ t)) wx := fun wx => run_string_add_sum wx _ _ (by omega)
  have hUs : U.size = s.size + 1 + t.size := by rw [← hU, ← hVs]; exact ByteArray.size_append
  rw [hU] at a2
  have C1 := fun w hE => (Scan_any s w (by omega) hE).mono fun _ _ h => Told.ok h h1
  have C2 := fun w hE => (Scan_any t w (by omega) hE).mono fun _ _ h => Told.ok h h2
  have C3 := fun w hE => (Scan_any U w (by omega) hE).mono fun _ _ h => Told.ok h h3
  obtain ⟨N1, hN1⟩ : ∃ N, ds.length = N := ⟨_, rfl⟩
  obtain ⟨N2, hN2⟩ : ∃ N, es.length = N := ⟨_, rfl⟩
  obtain ⟨M, hM⟩ : ∃ N, cs.length = N := ⟨_, rfl⟩
  have HN1 := Lib.hid hN1
  have HN2 := Lib.hid hN2
  have HM := Lib.hid hM
  rw [hN1] at C1 L1 L3
  rw [hN2] at C2 L2 L3
  rw [hM] at C3 L3
  replace C1 := Lib.hid C1
  replace C2 := Lib.hid C2
  replace C3 := Lib.hid C3
  have CP := fun w => Place_any s s.size w (by omega) s.size (by omega)
  rw [show s.data.toList.take s.size = s.data.toList by rw [Lib.size_eq, List.take_length]] at CP
  have hpl := plc_le s.data.toList
  rw [← Lib.size_eq] at hpl
  obtain ⟨LN, hLN⟩ : ∃ L : Int, ((place s.data.toList).1 : Int) = L := ⟨_, rfl⟩
  obtain ⟨CN, hCN⟩ : ∃ C : Int, ((place s.data.toList).2 : Int) = C := ⟨_, rfl⟩
  have hL1 : 0 ≤ LN ∧ LN ≤ 10000 := by omega
  rw [hLN, hCN] at CP
  replace CP := Lib.hid CP
  have HLN := Lib.hid hLN
  have m1 : IntKind.i64.wrap ((N1 : Int) + (N2 : Int)) = (M : Int) := by rw [IntWalk.i64_in _ (by omega)]; omega
  have m2 : ((M : Int) == (N1 : Int) + (N2 : Int)) = true := by rw [beq_iff_eq]; omega
  have m3 : ((M : Int) != (N1 : Int) + (N2 : Int)) = false := by rw [bne_eq_false_iff_eq]; omega
  have HL3 := Lib.hid L3
  have hM0 : M ≤ 10000 := by omega
  have hfd : ∀ w : World, (Instr.field 26 (.agg #[.int .i64 (s.size : Int), .int .i64 LN, .int .i64 CN]) 1).run Tryd.prog w = .ok (.int .i64 LN) w := fun _ => by kernel_rfl
  clear hE hU hV hVs hUs h1 h2 h3 hJ hN1 hN2 hM hLN hCN hpl L3
  go_enter Tryd.func5, Tryd.ntmps5
  go_wp2_with fail
  refine (C1.out _ HE.out).mono ?_
  rintro e w1 ⟨A1, cap1, rfl, W1, b1⟩
  have b1' := b1.alloc b1.size (FaultV 0 0 0 0)
  have K1 := Lib.hid (Bk.made w1 28 #[.int .i64 0, .int .i64 0, .int .i64 0, .int .i64 0])
  have E1 := Lib.hid (HE.out.below b1')
  have B1 := Lib.hid b1'
  have X1 := Lib.hid (W1.below ((Below.refl _ w1).alloc (Nat.le_refl _) (FaultV 0 0 0 0)))
  clear b1 b1' W1
  go_wp2_with fail
  refine (C2.out _ E1.out).mono ?_
  rintro e w2 ⟨A2, cap2, rfl, W2, b2⟩
  have b2' := b2.alloc b2.size (FaultV 0 0 0 0)
  have J2 := Lib.hid (Bk.made w2 28 #[.int .i64 0, .int .i64 0, .int .i64 0, .int .i64 0])
  have K2 := Lib.hid ((K1.out.below b2 (by simp)).alloc (FaultV 0 0 0 0))
  have E2 := Lib.hid (E1.out.below b2')
  have B2 := Lib.hid (B1.out.trans (b2'.mono B1.out.size))
  have X2 := Lib.hid (X1.out.below b2')
  have Y2 := Lib.hid (W2.below ((Below.refl _ w2).alloc (Nat.le_refl _) (FaultV 0 0 0 0)))
  clear b2 b2' K1 W2 X1
  go_wp2_with fail
  refine (C3.out _ E2.out).mono ?_
  rintro e w3 ⟨A3, cap3, rfl, W3, b3⟩
  have b3' := b3.alloc b3.size (FaultV 0 0 0 0)
  have I3 := Lib.hid (Bk.made w3 28 #[.int .i64 0, .int .i64 0, .int .i64 0, .int .i64 0])
  have K3 := Lib.hid ((K2.out.below b3 K2.out.lt).alloc (FaultV 0 0 0 0))
  have J3 := Lib.hid ((J2.out.below b3 J2.out.lt).alloc (FaultV 0 0 0 0))
  have E3 := Lib.hid (E2.out.below b3')
  have B3 := Lib.hid (B2.out.trans (b3'.mono B2.out.size))
  have X3 := Lib.hid (X2.out.below b3')
  have Y3 := Lib.hid (Y2.out.below b3')
  have Z3 := Lib.hid (W3.below ((Below.refl _ w3).alloc (Nat.le_refl _) (FaultV 0 0 0 0)))
  have z0 := K3.out.zero
  have z1 := J3.out.zero
  have z2 := I3.out.zero
  clear b3 b3' K2 B1 B2 E1 E2 J2 X2 Y2 W3
  go_wp2_with fail
  refine (CP.out _).mono ?_
  rintro e w4 ⟨rfl, b4⟩
  have E4 := Lib.hid (E3.out.below b4)
  have B4 := Lib.hid (B3.out.trans (b4.mono B3.out.size))
  have X4 := Lib.hid (X3.out.below b4)
  have Y4 := Lib.hid (Y3.out.below b4)
  have Z4 := Lib.hid (Z3.out.below b4)
  clear b4 z0 z1 z2 X3 Y3 Z3 E3 B3 I3 K3 J3
  have hcap1 := X4.out.cap
  have hcap3 := Z4.out.cap
  go_wp2_with fail
  go_loopw [12] (fun a wr => AtI M w4 a wr) (fun a _ => M - (intOf a).toNat)
  case atStart => exact ⟨0, Nat.zero_le _, rfl, Below.refl _ _⟩
  case round =>
    obtain ⟨i, hi, rfl, hb⟩ := hrel
    have HB := Lib.hid hb
    by_cases hlt : i < M
    · have d0 : decide (i < M) = true := by rw [decide_eq_true_iff]; exact hlt
      have hd : ∃ d, cs[i]? = some d := ⟨cs[i]'(by rw [HM.out]; exact hlt), List.getElem?_eq_getElem _⟩
      obtain ⟨d, hd⟩ := hd
      obtain ⟨g3, rfl, _, sg3, hc3⟩ := (Z4.out.below hb).at (by rw [HM.out]; omega)
      obtain ⟨sv3, f3, c0, c1, c2, c3, c4, c5⟩ := hc3 i d hd
      by_cases hf : i < N1
      · have d1 : decide (i < N1) = true := by rw [decide_eq_true_iff]; exact hf
        obtain ⟨hd1, hpl⟩ := HJ.out.front i d (by rw [HN1.out]; exact hf) hd
        obtain ⟨g1, rfl, _, sg1, hc1⟩ := (X4.out.below hb).at (by rw [HN1.out]; omega)
        obtain ⟨sv1, f1, x0, x1, x2, x3, x4, x5⟩ := hc1 i d hd1
        rw [← hpl] at x4 x5
        have hsm := (HJ.out.small i d hd).1
        have CL := Lib.hid (fun m n1 n3 k1 k3 (e1 : n1 = 1) (e3 : n3 = 1) => like_yes [d] [d] (.slice (some ⟨g3, i * 6, none⟩) n3 k3) (.slice (some ⟨g1, i * 6, none⟩) n1 k1) (wr.drewN m) rfl (by simp) (fun j q hq => by cases j with | zero => (simp at hq; subst hq; omega) | succ j => simp at hq) (fun j q r hq hr => by rw [hq] at hr; injection hr with hr; subst hr; exact ⟨rfl, rfl, rfl⟩) (Lk.one c0 c1 c2 f3.read e3) (Lk.one x0 x1 x2 f1.read e1))
        obtain ⟨L5, hL5⟩ : ∃ L : Int, ((place (U.data.toList.take d.pos)).1 : Int) = L := ⟨_, rfl⟩
        obtain ⟨C5, hC5⟩ : ∃ C : Int, ((place (U.data.toList.take d.pos)).2 : Int) = C := ⟨_, rfl⟩
        rw [hL5] at c4 x4
        rw [hC5] at c5 x5
        have q1 : IntKind.i64.wrap ((i : Int) + 1) = (i : Int) + 1 := IntWalk.i64_in _ (by omega)
        have i1 : (i : Int) + 1 ≤ (cap1 : Int) := by omega
        have i3 : (i : Int) + 1 ≤ (cap3 : Int) := by omega
        have i5 : (0 : Int) ≤ (i : Int) + 1 := by omega
        have i6 : ¬ cap1 = i := by omega
        have i7 : ¬ cap3 = i := by omega
        clear hb hd hd1 hc3 hc1 hpl hL5 hC5 c0 c1 c2 x0 x1 x2
        go_wp2_with fail
        go_quiet ((go_at_call 12; exact quiet_0 (CL.out _ _ _ _ _ rfl rfl)))
        go_wp2_with fail
        exact ⟨⟨i + 1, by omega, by go_num, below_drewN HB.out _⟩, by simp [intOf]; omega⟩
      · have d1 : decide (i < N1) = false := by rw [decide_eq_false_iff_not]; exact hf
        obtain ⟨e, he, hal, hpos, hpl⟩ := HJ.out.back i d (by rw [HN1.out]; omega) hd
        rw [HN1.out] at he
        obtain ⟨J, hJ⟩ : ∃ J, i - N1 = J := ⟨_, rfl⟩
        rw [hJ] at he
        have l3 := HL3.out
        obtain ⟨g2, rfl, _, sg2, hc2⟩ := (Y4.out.below hb).at (by rw [HN2.out]; omega)
        obtain ⟨sv2, f2, x0, x1, x2, x3, x4, x5⟩ := hc2 J e he
        have hsm := (HJ.out.small i d hd)
        rw [← hal.1] at x0
        rw [← hal.2.1] at x1
        rw [← hal.2.2] at f2
        obtain ⟨Av, capv, rfl, _⟩ := Row.form f2
        have hle := plc_le (t.data.toList.take e.pos)
        rw [List.length_take, ← Lib.size_eq] at hle
        obtain ⟨Le, hLe⟩ : ∃ L : Int, ((place (t.data.toList.take e.pos)).1 : Int) = L := ⟨_, rfl⟩
        obtain ⟨Ce, hCe⟩ : ∃ C : Int, ((place (t.data.toList.take e.pos)).2 : Int) = C := ⟨_, rfl⟩
        obtain ⟨Pe, hPe⟩ : ∃ C : Int, (e.pos : Int) = C := ⟨_, rfl⟩
        obtain ⟨Pd, hPd⟩ : ∃ C : Int, (d.pos : Int) = C := ⟨_, rfl⟩
        obtain ⟨L5, hL5⟩ : ∃ L : Int, ((place (U.data.toList.take d.pos)).1 : Int) = L := ⟨_, rfl⟩
        obtain ⟨C5, hC5⟩ : ∃ C : Int, ((place (U.data.toList.take d.pos)).2 : Int) = C := ⟨_, rfl⟩
        have hl2 := HLN.out
        have r1 : IntKind.i64.wrap (Pe + (s.size : Int)) = Pe + (s.size : Int) := IntWalk.i64_in _ (by omega)
        have r2 : IntKind.i64.wrap (Pe + (s.size : Int) + 1) = Pd := by rw [IntWalk.i64_in _ (by omega)]; omega
        have r3 : IntKind.i64.wrap (Le + LN) = L5 := by rw [IntWalk.i64_in _ (by omega), ← hL5, hpl]; dsimp only; omega
        have r4 : C5 = Ce := by rw [← hC5, hpl]; dsimp only; omega
        subst r4
        rw [hLe] at x4
        rw [hCe] at x5
        rw [hPe] at x3
        rw [hPd] at c3
        rw [hL5] at c4
        rw [hC5] at c5
        obtain ⟨T, hT⟩ : ∃ T : ByteArray, (⟨d.text.toArray⟩ : ByteArray) = T := ⟨_, rfl⟩
        rw [hT] at c1 x1
        have r5 : IntKind.i64.wrap ((i : Int) - (N1 : Int)) = (J : Int) := by rw [IntWalk.i64_in _ (by omega)]; omega
        have hJ2 : J < N2 := by omega
        have q1 : IntKind.i64.wrap ((i : Int) + 1) = (i : Int) + 1 := IntWalk.i64_in _ (by omega)
        have i3 : (i : Int) + 1 ≤ (cap3 : Int) := by omega
        have i5 : (0 : Int) ≤ (i : Int) + 1 := by omega
        have i7 : ¬ cap3 = i := by omega
        have HF3 := Lib.hid f3
        have HF2 := Lib.hid f2
        have HT := Lib.hid hT
        have hsm1 := hsm.1
        clear hb hd he hc3 hc2 hpl hL5 hC5 hLe hCe hPe hPd hal hpos hl2 hle hsm f3 f2 hT l3 hJ
        go_upto_region 22 with fail
        have KB := Bk.made wr 38 #[.int .u8 d.kind, .string T, .slice Av d.set.length capv, .int .i64 Pd, .int .i64 L5, .int .i64 C5]
        have BW : Below wr.heap.size wr (wr.alloc (.cells #[.int .u8 d.kind, .string T, .slice Av d.set.length capv, .int .i64 Pd, .int .i64 L5, .int .i64 C5] 38)) := (Below.refl _ wr).alloc (Nat.le_refl _) _
        have hbs : wr.heap.size < (wr.alloc (.cells #[.int .u8 d.kind, .string T, .slice Av d.set.length capv, .int .i64 Pd, .int .i64 L5, .int .i64 C5] 38)).heap.size := by simp
        generalize (wr.alloc (.cells #[.int .u8 d.kind, .string T, .slice Av d.set.length capv, .int .i64 Pd, .int .i64 L5, .int .i64 C5] 38)) = W5 at KB BW hbs ⊢
        obtain ⟨b, hbe⟩ : ∃ b, wr.heap.size = b := ⟨_, rfl⟩
        have u0 := KB.cell 0
        have u1 := KB.cell 1
        have u2 := KB.cell 2
        have u3 := KB.cell 3
        have u4 := KB.cell 4
        have u5 := KB.cell 5
        simp at u0 u1 u2 u3 u4 u5
        rw [← BW.cell (p := ⟨g3, i * 6, none⟩) sg3] at c0
        rw [← BW.cell (p := ⟨g3, i * 6 + 1, none⟩) sg3] at c1
        rw [← BW.cell (p := ⟨g3, i * 6 + 2, none⟩) sg3] at c2
        rw [← BW.cell (p := ⟨g3, i * 6 + 3, none⟩) sg3] at c3
        rw [← BW.cell (p := ⟨g3, i * 6 + 4, none⟩) sg3] at c4
        rw [← BW.cell (p := ⟨g3, i * 6 + 5, none⟩) sg3] at c5
        have sg5 : g3 < W5.heap.size := by omega
        have BX : Below W5.heap.size W5 (W5.alloc (.cells #[.int .u8 d.kind, .string T, .slice Av d.set.length capv, .int .i64 Pd, .int .i64 L5, .int .i64 C5] 38)) := (Below.refl _ W5).alloc (Nat.le_refl _) _
        have KX := Bk.made W5 38 #[.int .u8 d.kind, .string T, .slice Av d.set.length capv, .int .i64 Pd, .int .i64 L5, .int .i64 C5]
        have LU : Lk (W5.alloc (.cells #[.int .u8 d.kind, .string T, .slice Av d.set.length capv, .int .i64 Pd, .int .i64 L5, .int .i64 C5] 38)) (.slice (some ⟨g3, i * 6, none⟩) 1 (cap3 - i)) [d] :=
          Lk.one ((BX.cell (p := ⟨g3, i * 6, none⟩) sg5).trans c0) ((BX.cell (p := ⟨g3, i * 6 + 1, none⟩) sg5).trans (by rw [c1, ← HT.out])) ((BX.cell (p := ⟨g3, i * 6 + 2, none⟩) sg5).trans c2) ((HF3.out.below BW).below (BX.mono (Nat.le_refl _))).read rfl
        have LV : Lk (W5.alloc (.cells #[.int .u8 d.kind, .string T, .slice Av d.set.length capv, .int .i64 Pd, .int .i64 L5, .int .i64 C5] 38)) (.slice (some ⟨W5.heap.size, 0, none⟩) 1 1) [d] :=
          Lk.one ((KX.cell 0).trans rfl) (by rw [HT.out]; exact (KX.cell 1).trans rfl) ((KX.cell 2).trans rfl) ((HF2.out.below BW).below BX).read rfl
        have k0 := (BX.cell (p := ⟨wr.heap.size, 0, none⟩) hbs).trans u0
        have k1 := (BX.cell (p := ⟨wr.heap.size, 1, none⟩) hbs).trans u1
        have k2 := (BX.cell (p := ⟨wr.heap.size, 2, none⟩) hbs).trans u2
        have k3 := (BX.cell (p := ⟨wr.heap.size, 3, none⟩) hbs).trans u3
        have k4 := (BX.cell (p := ⟨wr.heap.size, 4, none⟩) hbs).trans u4
        have k5 := (BX.cell (p := ⟨wr.heap.size, 5, none⟩) hbs).trans u5
        have k6 := (BX.cell (p := ⟨g3, i * 6 + 3, none⟩) sg5).trans c3
        have k7 := (BX.cell (p := ⟨g3, i * 6 + 4, none⟩) sg5).trans c4
        have k8 := (BX.cell (p := ⟨g3, i * 6 + 5, none⟩) sg5).trans c5
        rw [hbe] at k0 k1 k2 k3 k4 k5
        have KK := Lib.hid (And.intro k0 (And.intro k1 (And.intro k2 (And.intro k3 (And.intro k4 (And.intro k5 (And.intro k6 (And.intro k7 k8))))))))
        have CL := Lib.hid (fun wx (e : wx.heap = (W5.alloc (.cells #[.int .u8 d.kind, .string T, .slice Av d.set.length capv, .int .i64 Pd, .int .i64 L5, .int .i64 C5] 38)).heap) => like_yes [d] [d] _ _ wx rfl (by simp) (fun j q hq => by cases j with | zero => (simp at hq; subst hq; omega) | succ j => simp at hq) (fun j q r hq hr => by rw [hq] at hr; injection hr with hr; subst hr; exact ⟨rfl, rfl, rfl⟩) (LU.heap e) (LV.heap e))
        have HBX := Lib.hid BX
        have HBW := Lib.hid BW
        rw [hbe] at u0 u1 u2 u3 u4 u5 hbs ⊢
        have HBE := Lib.hid hbe
        clear KB BW hbe x0 x1 x2 x3 x4 x5 LU LV k0 k1 k2 k3 k4 k5 k6 k7 k8 KX BX c0 c1 c2
        go_cut [178] (fun s178 wx => s178 = .bool false ∧ Below W5.heap.size W5 wx)
        case first =>
          go_region_held3 (fun w' => w'.cell? ⟨b, 0, none⟩ = some (.int .u8 d.kind) ∧ w'.cell? ⟨b, 1, none⟩ = some (.string T) ∧ w'.cell? ⟨b, 2, none⟩ = some (.slice Av d.set.length capv) ∧ w'.cell? ⟨b, 3, none⟩ = some (.int .i64 Pd) ∧ w'.cell? ⟨b, 4, none⟩ = some (.int .i64 L5) ∧ w'.cell? ⟨b, 5, none⟩ = some (.int .i64 C5) ∧
              w'.cell? ⟨g3, i * 6 + 3, none⟩ = some (.int .i64 Pd) ∧ w'.cell? ⟨g3, i * 6 + 4, none⟩ = some (.int .i64 L5) ∧ w'.cell? ⟨g3, i * 6 + 5, none⟩ = some (.int .i64 C5)) (first | exact KK.out | go_keep)
            (first | (go_at_call 12; refine (CL.out _ (by rfl)).mono ?_; rintro e w2 ⟨rfl, n, rfl⟩))
          go_wp2_with fail
          go_meet
          exact ⟨rfl, ⟨HBX.out.os, HBX.out.tape, HBX.out.output, HBX.out.size, HBX.out.block⟩⟩
        case rest =>
          obtain ⟨rfl, hb2⟩ := hcut
          have BA := HBW.out.trans (hb2.mono HBW.out.size)
          have HBA := Lib.hid (HB.out.trans (BA.mono HB.out.size))
          clear hb2 BA
          go_wp2_with fail
          exact ⟨⟨i + 1, by omega, by go_num, HBA.out⟩, by simp [intOf]; omega⟩
    · have d0 : decide (i < M) = false := by rw [decide_eq_false_iff_not]; exact hlt
      clear hb
      go_wp2_with fail
      refine (lives_true _ (E4.out.below HB.out)).mono ?_
      rintro e w5 ⟨rfl, b5⟩
      go_wp2_with fail
      go_ret
      have bw := B4.out.trans (HB.out.mono B4.out.size)
      exact ⟨rfl, bw.trans (b5.mono bw.size)⟩
theorem scanL_pos {l : List UInt8} {c p : Nat} (hr : Sc.scanL l = .err c p) : p ≤ l.length := by
  unfold Sc.scanL at hr
  split at hr
  · injection hr with _ hr; omega
  split at hr
  · rename_i _ h0
    injection hr with _ hr
    rcases bd_range l.length l 0 with h1 | ⟨_, h1⟩
    · unfold bad at *; omega
    · unfold bad at *
      omega
  · have := scanF_pos _ _ _ _ _ (Nat.le_refl _) hr
    omega
theorem Join_any (s t : ByteArray) (w : World) (hE : EnvS w) : Calls Tryd.prog 5 #[.string s, .string t] w fun e w' => e = .returned (.bool true) ∧ Below w.heap.size w w' := by
  by_cases hs : s.size ≤ 1500
  · by_cases ht : t.size ≤ 1500
    · cases h1 : Sc.scanL s.data.toList with
      | err c p => exact Join_err s t w hE hs ht c p h1
      | ok ds =>
        cases h2 : Sc.scanL t.data.toList with
        | err c p =>
          rcases bd_range t.data.toList.length t.data.toList 0 with hb | ⟨hb, _⟩
          · exact Join_second s t w hE hs ht ds h1 c p h2 (by rw [Lib.size_eq]; exact scanL_pos h2) hb
          · exact Join_bad s t w hE hs ht ds h1 c p h2 (by unfold bad; omega)
        | ok es =>
          obtain ⟨cs, h3, hJ⟩ := joined_of (U := s ++ ⟨#[10]⟩ ++ t) (by simp) hs ht h1 h2
          exact Join_ok s t _ w hE hs ht rfl ds es cs h1 h2 h3 hJ
    · exact Join_long s t w hE (Or.inr (by omega))
  · exact Join_long s t w hE (Or.inl (by omega))
end Go.Proofs.YtokpknjmcegkaaaDoor
