/- The contract of through, where Reach is told what is reached. -/
import Derived.Test.YtiinkhmgemoamaaDoorPaj
namespace Go.Proofs.YtiinkhmgemoamaaDoor.Re
open Go Go.RowKit Nu
set_option maxRecDepth 100000

/-- What is asked of the place where things lie, and of the function that is told. -/
structure Ok (x1 x2 : Value) (P : List Nat → World → Prop) (S0 : Nat) (Wn W1 : World) (kb mb eb : Nat) (ra : Option Addr) (rc : Nat) (rs : List Nu.Rl) (e : List Bool) (s : Int) : Prop where
 lo : kb < S0 ∧ mb < S0 ∧ eb < S0 ∧ Wn.heap.size ≤ S0 ∧ blk ra < S0
 keep : ∀ (l : List Nat) (w w' : World), P l w → Below w.heap.size w w' → P l w'
 told : ∀ (l : List Nat) (w : World) (r : Nat), P l w → S0 ≤ w.heap.size → r < rs.length → l.length < 1000000 →
  Calls Tryd.prog 69 #[.int .i64 (r : Int), x1, x2] w fun en w' => (∃ u, en = .returned u) ∧ Below S0 w w' ∧ P (l ++ [r]) w'
/-- through's contract of the node t. -/
def Thr (x1 x2 : Value) (P : List Nat → World → Prop) (S0 : Nat) (Wn W1 : World) (kb mb eb : Nat) (ra : Option Addr) (rc : Nat) (rs : List Nu.Rl) (e : List Bool) (s : Int) (t : Nd.T) : Prop := ∀ (v : Value) (l : List Nat) (w : World), Kn W1 w kb mb eb ra rc rs e → Below Wn.heap.size Wn w → S0 ≤ w.heap.size → P l w → Nd.At Wn t v → l.length + Nd.count t ≤ 1000000 →
 Calls Tryd.prog 68 #[.pointer (some ⟨kb, 0, none⟩), v, .int .u8 s, (.func (.func 69) #[] #[x1, x2])] w fun en w' => en = .returned (.bool (thr rs s e t)) ∧ Below S0 w w' ∧ P (l ++ rch rs s e t) w'
theorem Ok.alloc {x1 x2 : Value} {P : List Nat → World → Prop} {S0 : Nat} {Wn W1 : World} {kb mb eb : Nat} {ra : Option Addr} {rc : Nat} {rs : List Nu.Rl} {e : List Bool} {s : Int} (h : Ok x1 x2 P S0 Wn W1 kb mb eb ra rc rs e s) {l : List Nat} {w : World} (hp : P l w) (o : Obj) : P l (w.alloc o) := h.keep l w _ hp ((Below.refl _ w).alloc (Nat.le_refl _) o)

set_option maxHeartbeats 2000000 in
theorem all_of (x1 x2 : Value) (P : List Nat → World → Prop) (S0 : Nat) (Wn W1 : World) (kb mb eb : Nat) (ra : Option Addr) (rc : Nat) (rs : List Nu.Rl) (e : List Bool) (s : Int) (hk : Ok x1 x2 P S0 Wn W1 kb mb eb ra rc rs e s) (sb : List Nd.T) (ih : ∀ x ∈ sb, Thr x1 x2 P S0 Wn W1 kb mb eb ra rc rs e s x) (ba : Option Addr) (bc : Nat) (hbc : sb.length ≤ bc ∧ sb.length ≤ 140737488351232) (l : List Nat) (w : World) (hK : Kn W1 w kb mb eb ra rc rs e) (hW : Below Wn.heap.size Wn w) (hS : S0 ≤ w.heap.size) (hp : P l w) (hsub : Nd.AtL Wn sb ba) (hl : l.length + Nd.countL sb ≤ 1000000) :
 Calls Tryd.prog 81 #[.pointer (some ⟨kb, 0, none⟩), .slice ba sb.length bc, .int .u8 s, (.func (.func 69) #[] #[x1, x2])] w fun en w' => en = .returned (.bool (thrA rs s e sb)) ∧ Below S0 w w' ∧ P (l ++ rchA rs s e sb) w' := by
 have hlo := hk.lo
 obtain ⟨SN, hSN⟩ : ∃ k, sb.length = k := ⟨_, rfl⟩
 have HSN := Lib.hid hSN
 rw [hSN] at hbc ⊢
 have n1 : (SN : Int) ≤ 9223372036854775807 := by omega
 obtain ⟨TT, hTT⟩ : ∃ k, thrA rs s e sb = k := ⟨_, rfl⟩
 have HTT := Lib.hid hTT
 obtain ⟨LL, hLL⟩ : ∃ k, l ++ rchA rs s e sb = k := ⟨_, rfl⟩
 have HLL := Lib.hid hLL
 rw [hTT, hLL]
 clear hSN hTT hLL
 go_enter Tryd.func81, Tryd.ntmps81
 go_wp2_with fail
 go_loopw [13] (fun i wr => ∃ (p : Nat) (lp : List Nat), p ≤ SN ∧ i = .int .i64 p ∧ Hid (thrA rs s e (sb.drop p) = TT) ∧ Hid (lp ++ rchA rs s e (sb.drop p) = LL) ∧ P lp wr ∧ Below S0 w wr ∧ lp.length + Nd.countL (sb.drop p) ≤ 1000000) (fun i _ => SN - (intOf i).toNat)
 case atStart => exact ⟨0, l, Nat.zero_le _, rfl, by rw [List.drop_zero]; exact HTT, by rw [List.drop_zero]; exact HLL, hp, Below.refl _ w, by rw [List.drop_zero]; exact hl⟩
 case round =>
  obtain ⟨p, lp, hp1, rfl, hT, hL, hpp, hB, hln⟩ := hrel
  by_cases hlt : p < SN
  · have d2 : decide (p < SN) = true := by rw [decide_eq_true_iff]; exact hlt
    have p0 : (p : Int) < (SN : Int) := by omega
    obtain ⟨q, hq⟩ : ∃ q, sb[p]? = some q := ⟨_, List.getElem?_eq_getElem (by rw [HSN.out]; exact hlt)⟩
    obtain ⟨g, o, v0, v1, v2, v3, v4, rfl, h0, h1, h2, h3, h4, hv, hAs⟩ := hsub.val p q hq
    have hBn : Below Wn.heap.size Wn wr := hW.trans (hB.mono hlo.2.2.2.1)
    have hsz := hB.size
    have hszn := hBn.size
    have e0 := Nd.cell_keeps hBn h0
    have e1 := Nd.cell_keeps hBn h1
    have e2 := Nd.cell_keeps hBn h2
    have e3 := Nd.cell_keeps hBn h3
    have e4 := Nd.cell_keeps hBn h4
    have hcq : Nd.countL (sb.drop p) = Nd.count q + Nd.countL (sb.drop (p + 1)) := by rw [Nd.drop_some hq]; simp only [Nd.countL]
    have hrl := rch_len rs s e q
    have hC := fun ob => ih q (List.mem_of_getElem? hq) _ lp (wr.alloc ob) ((hK.below hB (by omega)).alloc ob) (hBn.alloc hszn ob) (by simp; omega) (hk.alloc hpp ob) hAs (by omega)
    have hst1 : (thr rs s e q && thrA rs s e (sb.drop (p + 1))) = TT := by rw [← hT.out, Nd.drop_some hq]; simp only [thrA]
    have hst2 : lp ++ (rch rs s e q ++ (if thr rs s e q then rchA rs s e (sb.drop (p + 1)) else [])) = LL := by rw [← hL.out, Nd.drop_some hq]; simp only [rchA]
    have HST1 := Lib.hid hst1
    have HST2 := Lib.hid hst2
    obtain ⟨b, hb⟩ : ∃ b, thr rs s e q = b := ⟨_, rfl⟩
    rw [hb] at hC HST1 HST2
    obtain ⟨ql, hql⟩ : ∃ b, rch rs s e q = b := ⟨_, rfl⟩
    rw [hql] at hC HST2 hrl
    obtain ⟨sa1, sc1, ba1, bc1, rfl, rfl, rfl, rfl, rfl⟩ := hAs.five
    generalize q.kind = sk at *
    generalize q.name = sn at *
    generalize q.text = sx at *
    generalize q.set.length = sl at *
    generalize q.subs.length = sm at *
    replace hC := Lib.hid hC
    rw [hcq] at hln
    clear h0 h1 h2 h3 h4 hv hAs hst1 hst2 hb hql hT hL hcq
    cases b
    · go_wp2_with (go_at_call 68; refine (hC.out _).mono ?_; rintro en w' ⟨rfl, hb, hpw⟩)
      go_ret
      exact ⟨by have := HST1.out; rw [Bool.false_and] at this; rw [← this]; rfl, (hB.trans (((Below.refl S0 wr).alloc (by omega) _).trans hb)), by have := HST2.out; rw [if_neg (by simp), List.append_nil] at this; rw [← this]; exact hpw⟩
    · go_wp2_with (go_at_call 68; refine (hC.out _).mono ?_; rintro en w' ⟨rfl, hb, hpw⟩)
      refine ⟨⟨p + 1, lp ++ ql, by omega, by go_num, by have := HST1.out; rw [Bool.true_and] at this; exact Lib.hid this, Lib.hid (by have := HST2.out; simpa using this), hpw, (hB.trans (((Below.refl S0 wr).alloc (by omega) _).trans hb)), by rw [List.length_append]; omega⟩, by simp [intOf]; omega⟩
  · have d2 : decide (p < SN) = false := by rw [decide_eq_false_iff_not]; exact hlt
    have hfin : true = TT := by
     rw [← hT.out, List.drop_eq_nil_of_le (by rw [HSN.out]; omega)]
     simp only [thrA]
    have hfin2 : lp = LL := by
     rw [← hL.out, List.drop_eq_nil_of_le (by rw [HSN.out]; omega)]
     simp only [rchA, List.append_nil]
    have HF := Lib.hid hfin
    have HF2 := Lib.hid hfin2
    clear hfin hfin2 hT hL
    go_wp2_with fail
    go_ret
    exact ⟨by rw [← HF.out]; rfl, hB, by rw [← HF2.out]; exact hpp⟩
set_option maxHeartbeats 2000000 in
theorem any_of (x1 x2 : Value) (P : List Nat → World → Prop) (S0 : Nat) (Wn W1 : World) (kb mb eb : Nat) (ra : Option Addr) (rc : Nat) (rs : List Nu.Rl) (e : List Bool) (s : Int) (hk : Ok x1 x2 P S0 Wn W1 kb mb eb ra rc rs e s) (sb : List Nd.T) (ih : ∀ x ∈ sb, Thr x1 x2 P S0 Wn W1 kb mb eb ra rc rs e s x) (ba : Option Addr) (bc : Nat) (hbc : sb.length ≤ bc ∧ sb.length ≤ 140737488351232) (l : List Nat) (w : World) (hK : Kn W1 w kb mb eb ra rc rs e) (hW : Below Wn.heap.size Wn w) (hS : S0 ≤ w.heap.size) (hp : P l w) (hsub : Nd.AtL Wn sb ba) (hl : l.length + Nd.countL sb ≤ 1000000) :
 Calls Tryd.prog 82 #[.pointer (some ⟨kb, 0, none⟩), .slice ba sb.length bc, .int .u8 s, (.func (.func 69) #[] #[x1, x2])] w fun en w' => en = .returned (.bool (thrO rs s e sb)) ∧ Below S0 w w' ∧ P (l ++ rchO rs s e sb) w' := by
 have hlo := hk.lo
 obtain ⟨SN, hSN⟩ : ∃ k, sb.length = k := ⟨_, rfl⟩
 have HSN := Lib.hid hSN
 rw [hSN] at hbc ⊢
 have n1 : (SN : Int) ≤ 9223372036854775807 := by omega
 obtain ⟨TT, hTT⟩ : ∃ k, thrO rs s e sb = k := ⟨_, rfl⟩
 have HTT := Lib.hid hTT
 obtain ⟨LL, hLL⟩ : ∃ k, l ++ rchO rs s e sb = k := ⟨_, rfl⟩
 have HLL := Lib.hid hLL
 rw [hTT, hLL]
 clear hSN hTT hLL
 go_enter Tryd.func82, Tryd.ntmps82
 go_wp2_with fail
 go_loopw [9, 14] (fun y i wr => ∃ (p : Nat) (lp : List Nat) (one : Bool), p ≤ SN ∧ i = .int .i64 p ∧ y = .bool one ∧ Hid ((one || thrO rs s e (sb.drop p)) = TT) ∧ Hid (lp ++ rchO rs s e (sb.drop p) = LL) ∧ P lp wr ∧ Below S0 w wr ∧ lp.length + Nd.countL (sb.drop p) ≤ 1000000) (fun _ i _ => SN - (intOf i).toNat)
 case atStart => exact ⟨0, l, false, Nat.zero_le _, rfl, rfl, by rw [List.drop_zero, Bool.false_or]; exact HTT, by rw [List.drop_zero]; exact HLL, hp, Below.refl _ w, by rw [List.drop_zero]; exact hl⟩
 case round =>
  obtain ⟨p, lp, one, hp1, rfl, rfl, hT, hL, hpp, hB, hln⟩ := hrel
  by_cases hlt : p < SN
  · have d2 : decide (p < SN) = true := by rw [decide_eq_true_iff]; exact hlt
    have p0 : (p : Int) < (SN : Int) := by omega
    obtain ⟨q, hq⟩ : ∃ q, sb[p]? = some q := ⟨_, List.getElem?_eq_getElem (by rw [HSN.out]; exact hlt)⟩
    obtain ⟨g, o, v0, v1, v2, v3, v4, rfl, h0, h1, h2, h3, h4, hv, hAs⟩ := hsub.val p q hq
    have hBn : Below Wn.heap.size Wn wr := hW.trans (hB.mono hlo.2.2.2.1)
    have hsz := hB.size
    have hszn := hBn.size
    have e0 := Nd.cell_keeps hBn h0
    have e1 := Nd.cell_keeps hBn h1
    have e2 := Nd.cell_keeps hBn h2
    have e3 := Nd.cell_keeps hBn h3
    have e4 := Nd.cell_keeps hBn h4
    have hcq : Nd.countL (sb.drop p) = Nd.count q + Nd.countL (sb.drop (p + 1)) := by rw [Nd.drop_some hq]; simp only [Nd.countL]
    have hrl := rch_len rs s e q
    have hC := fun ob => ih q (List.mem_of_getElem? hq) _ lp (wr.alloc ob) ((hK.below hB (by omega)).alloc ob) (hBn.alloc hszn ob) (by simp; omega) (hk.alloc hpp ob) hAs (by omega)
    have hst1 : ((one || thr rs s e q) || thrO rs s e (sb.drop (p + 1))) = TT := by rw [← hT.out, Nd.drop_some hq]; simp only [thrO, Bool.or_assoc]
    have hst2 : lp ++ (rch rs s e q ++ rchO rs s e (sb.drop (p + 1))) = LL := by rw [← hL.out, Nd.drop_some hq]; simp only [rchO]
    have HST1 := Lib.hid hst1
    have HST2 := Lib.hid hst2
    obtain ⟨b, hb⟩ : ∃ b, thr rs s e q = b := ⟨_, rfl⟩
    rw [hb] at hC HST1
    obtain ⟨ql, hql⟩ : ∃ b, rch rs s e q = b := ⟨_, rfl⟩
    rw [hql] at hC HST2 hrl
    obtain ⟨sa1, sc1, ba1, bc1, rfl, rfl, rfl, rfl, rfl⟩ := hAs.five
    generalize q.kind = sk at *
    generalize q.name = sn at *
    generalize q.text = sx at *
    generalize q.set.length = sl at *
    generalize q.subs.length = sm at *
    replace hC := Lib.hid hC
    rw [hcq] at hln
    clear h0 h1 h2 h3 h4 hv hAs hst1 hst2 hb hql hT hL hcq
    cases b
    · go_wp2_with (go_at_call 68; refine (hC.out _).mono ?_; rintro en w' ⟨rfl, hb, hpw⟩)
      refine ⟨⟨p + 1, lp ++ ql, one, by omega, by go_num, rfl, by have := HST1.out; rw [Bool.or_false] at this; exact Lib.hid this, by have := HST2.out; rw [← List.append_assoc] at this; exact Lib.hid this, hpw, (hB.trans (((Below.refl S0 wr).alloc (by omega) _).trans hb)), by rw [List.length_append]; omega⟩, by simp [intOf]; omega⟩
    · go_wp2_with (go_at_call 68; refine (hC.out _).mono ?_; rintro en w' ⟨rfl, hb, hpw⟩)
      refine ⟨⟨p + 1, lp ++ ql, true, by omega, by go_num, rfl, by have := HST1.out; rw [Bool.or_true] at this; exact Lib.hid this, by have := HST2.out; rw [← List.append_assoc] at this; exact Lib.hid this, hpw, (hB.trans (((Below.refl S0 wr).alloc (by omega) _).trans hb)), by rw [List.length_append]; omega⟩, by simp [intOf]; omega⟩
  · have d2 : decide (p < SN) = false := by rw [decide_eq_false_iff_not]; exact hlt
    have hfin : one = TT := by
     rw [← hT.out, List.drop_eq_nil_of_le (by rw [HSN.out]; omega)]
     simp only [thrO, Bool.or_false]
    have hfin2 : lp = LL := by
     rw [← hL.out, List.drop_eq_nil_of_le (by rw [HSN.out]; omega)]
     simp only [rchO, List.append_nil]
    have HF := Lib.hid hfin
    have HF2 := Lib.hid hfin2
    clear hfin hfin2 hT hL
    go_wp2_with fail
    go_ret
    exact ⟨by rw [← HF.out]; rfl, hB, by rw [← HF2.out]; exact hpp⟩
set_option maxHeartbeats 4000000 in
theorem thr_of (x1 x2 : Value) (P : List Nat → World → Prop) (S0 : Nat) (Wn W1 : World) (kb mb eb : Nat) (ra : Option Addr) (rc : Nat) (rs : List Nu.Rl) (e : List Bool) (s : Int) (hk : Ok x1 x2 P S0 Wn W1 kb mb eb ra rc rs e s) (t : Nd.T) : Thr x1 x2 P S0 Wn W1 kb mb eb ra rc rs e s t := by
 induction t using Nd.T.ind with | _ k nm tx st sb ih => ?_
 intro v l w hK hW hS hp hA hl
 have hlo := hk.lo
 have hT : thr rs s e (.mk k nm tx st sb) = (if k = 1 then thrA rs s e sb else if k = 0 ∨ k = 4 then thrO rs s e sb else if k = 2 ∨ k = 3 ∨ k = 7 then true else
  if k = 8 then decide (tx.toList = []) else if k = 5 ∨ k = 6 then (match nmd rs s k nm with | some i => e.getD i false | none => false) else false) := by simp only [thr]; rfl
 have hR : rch rs s e (.mk k nm tx st sb) = (if k = 1 then rchA rs s e sb else if k = 0 ∨ k = 4 then rchO rs s e sb else if k = 2 ∨ k = 3 ∨ k = 7 then rchO rs s e sb else
  if k = 8 then [] else if k = 5 ∨ k = 6 then (match nmd rs s k nm with | some i => [i] | none => []) else []) := by simp only [rch]; rfl
 have hc : Nd.count (.mk k nm tx st sb) = 1 + Nd.countL sb := by simp only [Nd.count]
 rw [hc] at hl
 rw [hT, hR]
 have hsub := hA.subs
 have hN := fun ob => named_any (.mk k nm tx st sb) v s W1 (w.alloc ob) kb mb eb ra rc rs e (hK.alloc ob) ((Nd.At.below hW _ hA).below ((Below.refl _ w).alloc (Nat.le_refl _) ob))
 unfold Nd.At at hA
 obtain ⟨sa, sc, ba, bc, rfl, _, hnm, htx, hsc, hbc, _, _⟩ := hA
 have e0 : Nd.subsA (.agg #[.int .u8 k, .string nm, .string tx, .slice sa st.length sc, .slice ba sb.length bc]) = ba := rfl
 rw [e0] at hsub
 have hall := fun ob => all_of x1 x2 P S0 Wn W1 kb mb eb ra rc rs e s hk sb ih ba bc hbc l (w.alloc ob) (hK.alloc ob) (hW.alloc hW.size ob) (by simp; omega) (hk.alloc hp ob) hsub (by omega)
 have hany := fun ob => any_of x1 x2 P S0 Wn W1 kb mb eb ra rc rs e s hk sb ih ba bc hbc l (w.alloc ob) (hK.alloc ob) (hW.alloc hW.size ob) (by simp; omega) (hk.alloc hp ob) hsub (by omega)
 have hB0 : ∀ ob, Below S0 w (w.alloc ob) := fun ob => (Below.refl S0 w).alloc hS ob
 have hp0 := hk.alloc hp
 simp only [Nd.T.kind, Nd.T.name] at hN
 generalize st.length = SL at *
 generalize sb.length = SN at *
 clear ih hT hR hc e0
 by_cases k1 : k = 1
 · subst k1
   rw [if_pos rfl, if_pos rfl]
   clear hany hN
   obtain ⟨TT, hTT⟩ : ∃ k, thrA rs s e sb = k := ⟨_, rfl⟩
   obtain ⟨LL, hLL⟩ : ∃ k, l ++ rchA rs s e sb = k := ⟨_, rfl⟩
   rw [hTT, hLL] at hall ⊢
   clear hTT hLL
   go_enter Tryd.func68, Tryd.ntmps68
   go_wp2_with (go_at_call 81; refine (hall _).mono ?_; rintro en w' ⟨rfl, hb, hpw⟩)
   go_ret
   exact ⟨rfl, (hB0 _).trans hb, hpw⟩
 by_cases k0 : k = 0
 · subst k0
   rw [if_neg (by omega), if_pos (by omega), if_neg (by omega), if_pos (by omega)]
   clear hall hN
   obtain ⟨TT, hTT⟩ : ∃ k, thrO rs s e sb = k := ⟨_, rfl⟩
   obtain ⟨LL, hLL⟩ : ∃ k, l ++ rchO rs s e sb = k := ⟨_, rfl⟩
   rw [hTT, hLL] at hany ⊢
   clear hTT hLL
   go_enter Tryd.func68, Tryd.ntmps68
   go_wp2_with (go_at_call 82; refine (hany _).mono ?_; rintro en w' ⟨rfl, hb, hpw⟩)
   go_ret
   exact ⟨rfl, (hB0 _).trans hb, hpw⟩
 by_cases k4 : k = 4
 · subst k4
   rw [if_neg (by omega), if_pos (by omega), if_neg (by omega), if_pos (by omega)]
   clear hall hN
   obtain ⟨TT, hTT⟩ : ∃ k, thrO rs s e sb = k := ⟨_, rfl⟩
   obtain ⟨LL, hLL⟩ : ∃ k, l ++ rchO rs s e sb = k := ⟨_, rfl⟩
   rw [hTT, hLL] at hany ⊢
   clear hTT hLL
   go_enter Tryd.func68, Tryd.ntmps68
   go_wp2_with (go_at_call 82; refine (hany _).mono ?_; rintro en w' ⟨rfl, hb, hpw⟩)
   go_ret
   exact ⟨rfl, (hB0 _).trans hb, hpw⟩
 by_cases k2 : k = 2
 · subst k2
   rw [if_neg (by omega), if_neg (by omega), if_pos (by omega), if_neg (by omega), if_neg (by omega), if_pos (by omega)]
   clear hall hN
   obtain ⟨TT, hTT⟩ : ∃ k, thrO rs s e sb = k := ⟨_, rfl⟩
   obtain ⟨LL, hLL⟩ : ∃ k, l ++ rchO rs s e sb = k := ⟨_, rfl⟩
   rw [hTT, hLL] at hany
   rw [hLL]
   clear hTT hLL
   go_enter Tryd.func68, Tryd.ntmps68
   go_wp2_with (go_at_call 82; refine (hany _).mono ?_; rintro en w' ⟨rfl, hb, hpw⟩)
   go_ret
   exact ⟨rfl, (hB0 _).trans hb, hpw⟩
 by_cases k3 : k = 3
 · subst k3
   rw [if_neg (by omega), if_neg (by omega), if_pos (by omega), if_neg (by omega), if_neg (by omega), if_pos (by omega)]
   clear hall hN
   obtain ⟨TT, hTT⟩ : ∃ k, thrO rs s e sb = k := ⟨_, rfl⟩
   obtain ⟨LL, hLL⟩ : ∃ k, l ++ rchO rs s e sb = k := ⟨_, rfl⟩
   rw [hTT, hLL] at hany
   rw [hLL]
   clear hTT hLL
   go_enter Tryd.func68, Tryd.ntmps68
   go_wp2_with (go_at_call 82; refine (hany _).mono ?_; rintro en w' ⟨rfl, hb, hpw⟩)
   go_ret
   exact ⟨rfl, (hB0 _).trans hb, hpw⟩
 by_cases k7 : k = 7
 · subst k7
   rw [if_neg (by omega), if_neg (by omega), if_pos (by omega), if_neg (by omega), if_neg (by omega), if_pos (by omega)]
   clear hall hN
   obtain ⟨TT, hTT⟩ : ∃ k, thrO rs s e sb = k := ⟨_, rfl⟩
   obtain ⟨LL, hLL⟩ : ∃ k, l ++ rchO rs s e sb = k := ⟨_, rfl⟩
   rw [hTT, hLL] at hany
   rw [hLL]
   clear hTT hLL
   go_enter Tryd.func68, Tryd.ntmps68
   go_wp2_with (go_at_call 82; refine (hany _).mono ?_; rintro en w' ⟨rfl, hb, hpw⟩)
   go_ret
   exact ⟨rfl, (hB0 _).trans hb, hpw⟩
 by_cases k8 : k = 8
 · subst k8
   rw [if_neg (by omega), if_neg (by omega), if_neg (by omega), if_pos rfl, if_neg (by omega), if_neg (by omega), if_neg (by omega), if_pos rfl, List.append_nil]
   clear hall hN hany
   obtain ⟨X, hX⟩ : ∃ x, (tx.toList == []) = x := ⟨_, rfl⟩
   have hX2 : decide (tx.toList = []) = X := by rw [← hX]; cases tx.toList <;> simp
   rw [hX2]
   clear hX2
   go_enter Tryd.func68, Tryd.ntmps68
   go_wp2_with fail
   all_goals go_ret
   all_goals exact ⟨rfl, hB0 _, hp0 _⟩
 by_cases k5 : k = 5
 · subst k5
   rw [if_neg (by omega), if_neg (by omega), if_neg (by omega), if_neg (by omega), if_pos (by omega), if_neg (by omega), if_neg (by omega), if_neg (by omega), if_neg (by omega), if_pos (by omega)]
   clear hall hany
   cases hn : nmd rs s 5 nm with
   | none =>
    rw [hn] at hN
    rw [show (Option.none : Option Nat).isSome = false from rfl] at hN
    show Calls _ _ _ _ fun en w' => en = .returned (.bool false) ∧ Below S0 w w' ∧ P (l ++ []) w'
    rw [List.append_nil]
    clear hn
    generalize (((fnd rs nm).getD 0 : Nat) : Int) = FI at hN
    go_enter Tryd.func68, Tryd.ntmps68
    go_wp2_with (go_at_call 83; refine (hN _).mono ?_; rintro en w' ⟨rfl, hb⟩)
    go_ret
    exact ⟨rfl, (hB0 _).trans (hb.mono (by simp; omega)), hk.keep _ _ _ (hp0 _) hb⟩
   | some i =>
    rw [hn] at hN
    rw [nmd_fnd hn, show (some i).isSome = true from rfl] at hN
    have hi := nmd_lt hn
    show Calls _ _ _ _ fun en w' => en = .returned (.bool (e.getD i false)) ∧ Below S0 w w' ∧ P (l ++ [i]) w'
    have hel := hK.el
    have hev : (bools e)[i]? = some (.bool (e.getD i false)) := bools_get (by omega)
    have hlr := hK.len.2
    have p0 : (i : Int) < (rs.length : Int) := by omega
    have n1 : (rs.length : Int) ≤ 9223372036854775807 := by omega
    generalize e.getD i false = EI at *
    clear hn
    go_enter Tryd.func68, Tryd.ntmps68
    go_wp2_with first | (go_at_call 83; refine (hN _).mono ?_; rintro en w' ⟨rfl, hb⟩; have hBw := (hB0 (.cells #[.int .u8 5, .string nm, .string tx, .slice sa SL sc, .slice ba SN bc] 34)).trans (hb.mono (by simp; omega)); have hSw := Nat.le_trans hS hBw.size; have htold := hk.told l w' i (hk.keep _ _ _ (hp0 _) hb) hSw hi (by omega)) | (go_at_call 69; refine htold.mono ?_; rintro en w2 ⟨⟨uu, rfl⟩, hb2, hpw⟩; have hK2 := hK.below (hBw.trans hb2) (by omega); have c2 := hK2.k.cell 2; have c3 := hK2.ev.cell i; rw [hev] at c3; simp at c2)
    go_ret
    exact ⟨rfl, hBw.trans hb2, hpw⟩
 by_cases k6 : k = 6
 · subst k6
   rw [if_neg (by omega), if_neg (by omega), if_neg (by omega), if_neg (by omega), if_pos (by omega), if_neg (by omega), if_neg (by omega), if_neg (by omega), if_neg (by omega), if_pos (by omega)]
   clear hall hany
   cases hn : nmd rs s 6 nm with
   | none =>
    rw [hn] at hN
    rw [show (Option.none : Option Nat).isSome = false from rfl] at hN
    show Calls _ _ _ _ fun en w' => en = .returned (.bool false) ∧ Below S0 w w' ∧ P (l ++ []) w'
    rw [List.append_nil]
    clear hn
    generalize (((fnd rs nm).getD 0 : Nat) : Int) = FI at hN
    go_enter Tryd.func68, Tryd.ntmps68
    go_wp2_with (go_at_call 83; refine (hN _).mono ?_; rintro en w' ⟨rfl, hb⟩)
    go_ret
    exact ⟨rfl, (hB0 _).trans (hb.mono (by simp; omega)), hk.keep _ _ _ (hp0 _) hb⟩
   | some i =>
    rw [hn] at hN
    rw [nmd_fnd hn, show (some i).isSome = true from rfl] at hN
    have hi := nmd_lt hn
    show Calls _ _ _ _ fun en w' => en = .returned (.bool (e.getD i false)) ∧ Below S0 w w' ∧ P (l ++ [i]) w'
    have hel := hK.el
    have hev : (bools e)[i]? = some (.bool (e.getD i false)) := bools_get (by omega)
    have hlr := hK.len.2
    have p0 : (i : Int) < (rs.length : Int) := by omega
    have n1 : (rs.length : Int) ≤ 9223372036854775807 := by omega
    generalize e.getD i false = EI at *
    clear hn
    go_enter Tryd.func68, Tryd.ntmps68
    go_wp2_with first | (go_at_call 83; refine (hN _).mono ?_; rintro en w' ⟨rfl, hb⟩; have hBw := (hB0 (.cells #[.int .u8 6, .string nm, .string tx, .slice sa SL sc, .slice ba SN bc] 34)).trans (hb.mono (by simp; omega)); have hSw := Nat.le_trans hS hBw.size; have htold := hk.told l w' i (hk.keep _ _ _ (hp0 _) hb) hSw hi (by omega)) | (go_at_call 69; refine htold.mono ?_; rintro en w2 ⟨⟨uu, rfl⟩, hb2, hpw⟩; have hK2 := hK.below (hBw.trans hb2) (by omega); have c2 := hK2.k.cell 2; have c3 := hK2.ev.cell i; rw [hev] at c3; simp at c2)
    go_ret
    exact ⟨rfl, hBw.trans hb2, hpw⟩
 rw [if_neg k1, if_neg (by omega), if_neg (by omega), if_neg k8, if_neg (by omega), if_neg k1, if_neg (by omega), if_neg (by omega), if_neg k8, if_neg (by omega), List.append_nil]
 clear hall hany hN
 have q0 : (k == 0) = false := by rw [beq_eq_false_iff_ne]; exact k0
 have q1 : (k == 1) = false := by rw [beq_eq_false_iff_ne]; exact k1
 have q2 : (k == 2) = false := by rw [beq_eq_false_iff_ne]; exact k2
 have q3 : (k == 3) = false := by rw [beq_eq_false_iff_ne]; exact k3
 have q4 : (k == 4) = false := by rw [beq_eq_false_iff_ne]; exact k4
 have q5 : (k == 5) = false := by rw [beq_eq_false_iff_ne]; exact k5
 have q6 : (k == 6) = false := by rw [beq_eq_false_iff_ne]; exact k6
 have q7 : (k == 7) = false := by rw [beq_eq_false_iff_ne]; exact k7
 have q8 : (k == 8) = false := by rw [beq_eq_false_iff_ne]; exact k8
 go_enter Tryd.func68, Tryd.ntmps68
 go_wp2_with fail
 go_ret
 exact ⟨rfl, hB0 _, hp0 _⟩
end Go.Proofs.YtiinkhmgemoamaaDoor.Re
