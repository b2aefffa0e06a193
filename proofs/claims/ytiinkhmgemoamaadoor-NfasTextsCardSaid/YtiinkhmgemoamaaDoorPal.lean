/- The contract of grow: rules that may be empty grow till nothing changes. -/
import Derived.Test.YtiinkhmgemoamaaDoorPak
import Derived.ScopeJumps
import Derived.WalkMore
import Derived.RangeFuncWrites
namespace Go.Proofs.YtiinkhmgemoamaaDoor
open Go Go.RowKit Nu
set_option maxRecDepth 100000

theorem ignore_any (r : Int) (w : World) : Calls Tryd.prog 85 #[.int .i64 r] w fun e w' => (∃ u, e = .returned u) ∧ w = w' := by
 go_enter Tryd.func85, Tryd.ntmps85
 go_wp2
 go_end0
 exact ⟨⟨_, rfl⟩, rfl⟩
/-- What through answers where nobody is told. -/
theorem may_of (W1 w : World) (kb mb eb : Nat) (ra : Option Addr) (rc : Nat) (rs : List Nu.Rl) (e : List Bool) (s : Int) (t : Nd.T) (v : Value) (hK : Kn W1 w kb mb eb ra rc rs e) (hA : Nd.At w t v) (hc : Nd.count t ≤ 1000000) :
 Calls Tryd.prog 68 #[.pointer (some ⟨kb, 0, none⟩), v, .int .u8 s, .func (.func 85) #[] #[]] w fun en w' => en = .returned (.bool (thr rs s e t)) ∧ Below w.heap.size w w' := by
 have hlt := hK.lt
 have ok : Ig.Ok undef undef (fun _ _ => True) w.heap.size w W1 kb mb eb ra rc rs e s := ⟨by omega, fun _ _ _ h _ => h, fun l w' r _ hs _ _ => (ignore_any (r : Int) w').mono (by rintro en w2 ⟨h1, rfl⟩; exact ⟨h1, Below.refl _ _, trivial⟩)⟩
 exact (Ig.thr_of undef undef (fun _ _ => True) w.heap.size w W1 kb mb eb ra rc rs e s ok t v [] w hK (Below.refl _ _) (Nat.le_refl _) trivial hA (by simpa using hc)).mono (by rintro en w' ⟨h1, h2, _⟩; exact ⟨h1, h2⟩)
/-- A rule more that may be empty. -/
theorem Kn.put {W1 w : World} {kb mb eb : Nat} {ra : Option Addr} {rc : Nat} {rs : List Nu.Rl} {e : List Bool} (h : Kn W1 w kb mb eb ra rc rs e) (i : Nat) (b : Bool) : Kn W1 (w.setCell ⟨eb, i, none⟩ (.bool b)) kb mb eb ra rc rs (e.set i b) := by
 have h1 : kb ≠ eb := h.k.ne h.ev (by decide)
 have h2 : mb ≠ eb := by
  rintro rfl
  obtain ⟨es, cl, hm, _⟩ := h.m
  have := h.ev
  unfold Bk at this
  rw [hm] at this
  cases this
 have h3 : ∀ rb cs, Bk w rb 38 cs → rb ≠ eb := fun rb cs hk => hk.ne h.ev (by decide)
 refine ⟨h.b.setCell h.lo.2.2 _, h.row.keep (by simp) (fun rb cs _ _ hk => hk.other _ _ (h3 rb cs hk)), h.len, h.k.other _ _ h1, h.m.setCell h2 _, ?_, by simp [h.el], h.lo⟩
 rw [← bools_set]
 exact h.ev.set i (.bool b)
def readB : Option Obj → List Bool
 | some (.cells cs _ _) => cs.toList.map fun v => match v with | .bool b => b | _ => true
 | _ => []
theorem Kn.read {W1 w : World} {kb mb eb : Nat} {ra : Option Addr} {rc : Nat} {rs : List Nu.Rl} {e : List Bool} (h : Kn W1 w kb mb eb ra rc rs e) : readB (w.heap[eb]?) = e := by
 have := h.ev
 unfold Bk at this
 rw [this]
 simp [readB, bools, Function.comp_def]
theorem others_below {w w' : World} (hb : Below w.heap.size w w') : KeepsOthers w w' := ⟨hb.size, fun k o h0 _ => by rw [hb.block k (Array.getElem?_eq_some_iff.1 h0).1]; exact h0⟩
/-- All but block b stays. -/
def Fr (b : Nat) (w w' : World) : Prop := w.heap.size ≤ w'.heap.size ∧ ∀ k, k < w.heap.size → k ≠ b → w'.heap[k]? = w.heap[k]?
theorem Fr.refl (b : Nat) (w : World) : Fr b w w := ⟨Nat.le_refl _, fun _ _ _ => rfl⟩
theorem Fr.trans {b : Nat} {x y z : World} (h : Fr b x y) (k : Fr b y z) : Fr b x z := ⟨Nat.le_trans h.1 k.1, fun i hi hb => by rw [k.2 i (Nat.lt_of_lt_of_le hi h.1) hb]; exact h.2 i hi hb⟩
theorem Fr.below {b : Nat} {w w' : World} (hb : Below w.heap.size w w') : Fr b w w' := ⟨hb.size, fun k hk _ => hb.block k hk⟩
theorem Fr.alloc (b : Nat) (w : World) (o : Obj) : Fr b w (w.alloc o) := Fr.below ((Below.refl _ w).alloc (Nat.le_refl _) o)
theorem Fr.set (b : Nat) (w : World) (i : Nat) (v : Value) : Fr b w (w.setCell ⟨b, i, none⟩ v) := ⟨by simp, fun k _ hb => Below.heap_setCell _ _ _ _ hb⟩
/-- What holds at each jump back. -/
def GrowJ (W1 w : World) (kb mb eb : Nat) (ra : Option Addr) (rc : Nat) (rs : List Nu.Rl) (E : List Bool) (a' : Act) (w' : World) : Prop := (∃ u1 u2 u3 u4 u5 u6 u7 u8 u9 u10 u11 u12 u13 u14 u15 u16 u17 u18 u19 u20 u21 u22 u23 u24 u25 u26 u27 u28 u29 u30 u31 u32 u33 u34 u35 u36 u37 u38 : Value, a' = { tmps := #[.pointer (some ⟨kb, 0, none⟩), u1, u2, u3, u4, u5, u6, u7, u8, u9, u10, u11, u12, u13, u14, u15, u16, u17, u18, u19, u20, u21, u22, u23, u24, u25, u26, u27, u28, u29, u30, u31, u32, u33, u34, u35, u36, u37, u38], defers := [] }) ∧ ∃ (e : List Bool) (f : Nat), Kn W1 w' kb mb eb ra rc rs e ∧ lack e < f ∧ grow rs f e = E ∧ Below W1.heap.size w w' ∧ Fr eb w w'
set_option maxHeartbeats 4000000 in
theorem grow_any (W1 w : World) (kb mb eb : Nat) (ra : Option Addr) (rc : Nat) (rs : List Nu.Rl) (e0 : List Bool) (f0 : Nat) (hK0 : Kn W1 w kb mb eb ra rc rs e0) (hf0 : lack e0 < f0) (hsm : ∀ r ∈ rs, Nd.count r.body ≤ 1000000) :
 Calls Tryd.prog 80 #[.pointer (some ⟨kb, 0, none⟩)] w fun en w' => (∃ u, en = .returned u) ∧ Kn W1 w' kb mb eb ra rc rs (grow rs f0 e0) ∧ Below W1.heap.size w w' ∧ Fr eb w w' := by
 obtain ⟨E, hE⟩ : ∃ E, grow rs f0 e0 = E := ⟨_, rfl⟩
 rw [hE]
 have hlr := hK0.len
 have n1 : (rs.length : Int) ≤ 9223372036854775807 := by omega
 go_enter Tryd.func80, Tryd.ntmps80
 refine wp_scope_jumps 0 (GrowJ W1 w kb mb eb ra rc rs E) (fun _ w' => lack (readB (w'.heap[eb]?))) rfl ?first ?pass
 case first =>
  go_wp2_with fail
  go_step3
  obtain ⟨fp, rfl⟩ : ∃ fp, f0 = fp + 1 := ⟨f0 - 1, by omega⟩
  obtain ⟨PP, hPP⟩ : ∃ x, pass rs 0 e0 false rs = x := ⟨_, rfl⟩
  have HPP := Lib.hid hPP
  have k0 := hK0.k.cell 0
  simp at k0
  have hel := hK0.el
  have HG : Hid ((if PP.2 then grow rs fp PP.1 else PP.1) = E) := by rw [← hPP]; exact Lib.hid hE
  have HL : Hid (PP.2 = true → lack PP.1 < fp ∧ lack PP.1 < lack e0) := by
   refine Lib.hid (fun h => ?_)
   have := (pass_lack rs rs 0 e0 false (by omega)).2 rfl (by rw [hPP]; exact h)
   rw [hPP] at this
   omega
  clear hPP
  go_wp2_with fail
  go_loopw [2, 10] (fun y i wr => ∃ (p : Nat) (e2 : List Bool) (g2 : Bool), p ≤ rs.length ∧ i = .int .i64 p ∧ y = .bool g2 ∧ Hid (pass rs p e2 g2 (rs.drop p) = PP) ∧ Kn W1 wr kb mb eb ra rc rs e2 ∧ Below W1.heap.size w wr ∧ Fr eb w wr) (fun _ i _ => rs.length - (intOf i).toNat)
  case atStart => exact ⟨0, e0, false, Nat.zero_le _, rfl, rfl, by rw [List.drop_zero]; exact HPP, hK0, (Below.refl _ w), (Fr.refl eb w)⟩
  case round =>
   obtain ⟨p, e2, g2, hp1, rfl, rfl, hT, hK, hB, hO⟩ := hrel
   have c0 := hK.k.cell 0
   have c2 := hK.k.cell 2
   simp at c0 c2
   by_cases hlt : p < rs.length
   · have d2 : decide (p < rs.length) = true := by rw [decide_eq_true_iff]; exact hlt
     have p0 : (p : Int) < (rs.length : Int) := by omega
     obtain ⟨r, hr⟩ : ∃ r, rs[p]? = some r := ⟨_, List.getElem?_eq_getElem hlt⟩
     obtain ⟨g, o, rfl, v0, v1, v2, v3, v4, a0, a1, a2, a3, a4, a5, a6, a7, a8, a9, hAs, _, hns⟩ := hK.r p r hr
     have hC := fun ob => may_of W1 (wr.alloc ob) kb mb eb (some ⟨g, o, none⟩) rc rs e2 r.sort r.body _ (hK.alloc ob) (hAs.below ((Below.refl _ wr).alloc (Nat.le_refl _) ob)) (hsm r (List.mem_of_getElem? hr))
     have hst : (if e2.getD p false = false ∧ thr rs r.sort e2 r.body = true then pass rs (p + 1) (e2.set p true) true (rs.drop (p + 1)) else pass rs (p + 1) e2 g2 (rs.drop (p + 1))) = PP := by
      rw [← hT.out, Nd.drop_some hr]
      simp only [pass]
     have hev : (bools e2)[p]? = some (.bool (e2.getD p false)) := bools_get (by have := hK.el; omega)
     have ce := hK.ev.cell p
     rw [hev] at ce
     have fe := hK.ev.free p
     obtain ⟨b, hb⟩ : ∃ b, thr rs r.sort e2 r.body = b := ⟨_, rfl⟩
     rw [hb] at hC hst
     obtain ⟨c, hc⟩ : ∃ c, e2.getD p false = c := ⟨_, rfl⟩
     rw [hc] at hst ce
     have HST := Lib.hid hst
     have hKp := hK.put p true
     have hltk := hK.lt
     have hszb := hK.b.size
     have hlo := hK.lo
     obtain ⟨sa1, sc1, ba1, bc1, rfl, rfl, rfl, rfl, rfl⟩ := hAs.five
     generalize r.body.kind = sk at *
     generalize r.body.name = sn at *
     generalize r.body.text = sx at *
     generalize r.body.set.length = sl at *
     generalize r.body.subs.length = sm at *
     generalize r.name = rn at *
     generalize r.sort = rsort at *
     generalize r.p0 = q0 at *
     generalize r.p1 = q1 at *
     generalize r.p2 = q2 at *
     replace hC := Lib.hid hC
     clear hAs hst hb hc hT hev HG HL HPP hr
     cases c
     · cases b
       · go_wp2_with (go_at_call 68; refine (hC.out _).mono ?_; rintro en w' ⟨rfl, hb⟩)
         have hbb := (((Below.refl wr.heap.size wr).alloc (Nat.le_refl _) (.cells #[.string rn, .int .u8 rsort, .int .u8 sk, .string sn, .string sx, .slice sa1 sl sc1, .slice ba1 sm bc1, .int .i64 q0, .int .i64 q1, .int .i64 q2] 38)).trans (hb.mono (by simp)))
         refine ⟨⟨p + 1, e2, g2, by omega, by go_num, rfl, by have := HST.out; rw [if_neg (by simp)] at this; exact Lib.hid this, ?_, ?_, ?_⟩, by simp [intOf]; omega⟩
         · exact hK.below hbb hltk
         · exact hB.trans (hbb.mono hszb)
         · exact hO.trans (Fr.below hbb)
       · go_wp2_with (go_at_call 68; refine (hC.out _).mono ?_; rintro en w' ⟨rfl, hb⟩; have hbb := ((Below.refl wr.heap.size wr).alloc (Nat.le_refl _) _).trans (hb.mono (by simp)); have hK2 := hK.below hbb hltk; have cc2 := hK2.k.cell 2; have fe2 := hK2.ev.free p; have ce2 := hK2.ev.cell p; simp at cc2; rw [bools_get (by have := hK.el; omega)] at ce2)
         refine ⟨⟨p + 1, e2.set p true, true, by omega, by go_num, rfl, by have := HST.out; rw [if_pos (by simp)] at this; exact Lib.hid this, hK2.put p true, ?_, ?_⟩, by simp [intOf]; omega⟩
         · exact (hB.trans (hbb.mono hszb)).setCell hlo.2.2 _
         · exact (hO.trans (Fr.below hbb)).trans (Fr.set _ _ _ _)
     · go_wp2_with fail
       refine ⟨⟨p + 1, e2, g2, by omega, by go_num, rfl, by have := HST.out; rw [if_neg (by simp)] at this; exact Lib.hid this, hK.alloc _, hB.alloc hszb _, hO.trans (Fr.alloc _ _ _)⟩, by simp [intOf]; omega⟩
   · have d2 : decide (p < rs.length) = false := by rw [decide_eq_false_iff_not]; exact hlt
     have hfin : (e2, g2) = PP := by
      rw [← hT.out, List.drop_eq_nil_of_le (by omega)]
      simp only [pass]
     subst hfin
     have hG := HG.out
     have hL2 := HL.out
     dsimp only at hG hL2
     clear HG HL hT HPP
     cases g2
     · rw [if_neg (by simp)] at hG
       subst hG
       go_wp2_with fail
       simp only [Exit.jump]
       go_end0
       exact ⟨⟨_, rfl⟩, hK, hB, hO⟩
     · rw [if_pos rfl] at hG
       have hl3 := hL2 rfl
       clear hL2
       go_wp2_with fail
       go_step3
       refine ⟨rfl, ⟨_, _, _, _, _, _, _, _, _, _, _, _, _, _, _, _, _, _, _, _, _, _, _, _, _, _, _, _, _, _, _, _, _, _, _, _, _, _, rfl⟩, e2, fp, hK, hl3.1, hG, hB, hO⟩
 case pass =>
  rintro a1 w1 ⟨⟨u1, u2, u3, u4, u5, u6, u7, u8, u9, u10, u11, u12, u13, u14, u15, u16, u17, u18, u19, u20, u21, u22, u23, u24, u25, u26, u27, u28, u29, u30, u31, u32, u33, u34, u35, u36, u37, u38, rfl⟩, e, f, hK1, hf, hgr, hB1, hO1⟩
  obtain ⟨fp, rfl⟩ : ∃ fp, f = fp + 1 := ⟨f - 1, by omega⟩
  obtain ⟨PP, hPP⟩ : ∃ x, pass rs 0 e false rs = x := ⟨_, rfl⟩
  have HPP := Lib.hid hPP
  have k0 := hK1.k.cell 0
  simp at k0
  have hel := hK1.el
  have HG : Hid ((if PP.2 then grow rs fp PP.1 else PP.1) = E) := by rw [← hPP]; exact Lib.hid hgr
  have HL : Hid (PP.2 = true → lack PP.1 < fp ∧ lack PP.1 < lack e) := by
   refine Lib.hid (fun h => ?_)
   have := (pass_lack rs rs 0 e false (by omega)).2 rfl (by rw [hPP]; exact h)
   rw [hPP] at this
   omega
  clear hPP
  go_wp2_with fail
  go_loopw [2, 10] (fun y i wr => ∃ (p : Nat) (e2 : List Bool) (g2 : Bool), p ≤ rs.length ∧ i = .int .i64 p ∧ y = .bool g2 ∧ Hid (pass rs p e2 g2 (rs.drop p) = PP) ∧ Kn W1 wr kb mb eb ra rc rs e2 ∧ Below W1.heap.size w wr ∧ Fr eb w wr) (fun _ i _ => rs.length - (intOf i).toNat)
  case atStart => exact ⟨0, e, false, Nat.zero_le _, rfl, rfl, by rw [List.drop_zero]; exact HPP, hK1, hB1, hO1⟩
  case round =>
   obtain ⟨p, e2, g2, hp1, rfl, rfl, hT, hK, hB, hO⟩ := hrel
   have c0 := hK.k.cell 0
   have c2 := hK.k.cell 2
   simp at c0 c2
   by_cases hlt : p < rs.length
   · have d2 : decide (p < rs.length) = true := by rw [decide_eq_true_iff]; exact hlt
     have p0 : (p : Int) < (rs.length : Int) := by omega
     obtain ⟨r, hr⟩ : ∃ r, rs[p]? = some r := ⟨_, List.getElem?_eq_getElem hlt⟩
     obtain ⟨g, o, rfl, v0, v1, v2, v3, v4, a0, a1, a2, a3, a4, a5, a6, a7, a8, a9, hAs, _, hns⟩ := hK.r p r hr
     have hC := fun ob => may_of W1 (wr.alloc ob) kb mb eb (some ⟨g, o, none⟩) rc rs e2 r.sort r.body _ (hK.alloc ob) (hAs.below ((Below.refl _ wr).alloc (Nat.le_refl _) ob)) (hsm r (List.mem_of_getElem? hr))
     have hst : (if e2.getD p false = false ∧ thr rs r.sort e2 r.body = true then pass rs (p + 1) (e2.set p true) true (rs.drop (p + 1)) else pass rs (p + 1) e2 g2 (rs.drop (p + 1))) = PP := by
      rw [← hT.out, Nd.drop_some hr]
      simp only [pass]
     have hev : (bools e2)[p]? = some (.bool (e2.getD p false)) := bools_get (by have := hK.el; omega)
     have ce := hK.ev.cell p
     rw [hev] at ce
     have fe := hK.ev.free p
     obtain ⟨b, hb⟩ : ∃ b, thr rs r.sort e2 r.body = b := ⟨_, rfl⟩
     rw [hb] at hC hst
     obtain ⟨c, hc⟩ : ∃ c, e2.getD p false = c := ⟨_, rfl⟩
     rw [hc] at hst ce
     have HST := Lib.hid hst
     have hKp := hK.put p true
     have hltk := hK.lt
     have hszb := hK.b.size
     have hlo := hK.lo
     obtain ⟨sa1, sc1, ba1, bc1, rfl, rfl, rfl, rfl, rfl⟩ := hAs.five
     generalize r.body.kind = sk at *
     generalize r.body.name = sn at *
     generalize r.body.text = sx at *
     generalize r.body.set.length = sl at *
     generalize r.body.subs.length = sm at *
     generalize r.name = rn at *
     generalize r.sort = rsort at *
     generalize r.p0 = q0 at *
     generalize r.p1 = q1 at *
     generalize r.p2 = q2 at *
     replace hC := Lib.hid hC
     clear hAs hst hb hc hT hev HG HL HPP hr
     cases c
     · cases b
       · go_wp2_with (go_at_call 68; refine (hC.out _).mono ?_; rintro en w' ⟨rfl, hb⟩)
         have hbb := (((Below.refl wr.heap.size wr).alloc (Nat.le_refl _) (.cells #[.string rn, .int .u8 rsort, .int .u8 sk, .string sn, .string sx, .slice sa1 sl sc1, .slice ba1 sm bc1, .int .i64 q0, .int .i64 q1, .int .i64 q2] 38)).trans (hb.mono (by simp)))
         refine ⟨⟨p + 1, e2, g2, by omega, by go_num, rfl, by have := HST.out; rw [if_neg (by simp)] at this; exact Lib.hid this, ?_, ?_, ?_⟩, by simp [intOf]; omega⟩
         · exact hK.below hbb hltk
         · exact hB.trans (hbb.mono hszb)
         · exact hO.trans (Fr.below hbb)
       · go_wp2_with (go_at_call 68; refine (hC.out _).mono ?_; rintro en w' ⟨rfl, hb⟩; have hbb := ((Below.refl wr.heap.size wr).alloc (Nat.le_refl _) _).trans (hb.mono (by simp)); have hK2 := hK.below hbb hltk; have cc2 := hK2.k.cell 2; have fe2 := hK2.ev.free p; have ce2 := hK2.ev.cell p; simp at cc2; rw [bools_get (by have := hK.el; omega)] at ce2)
         refine ⟨⟨p + 1, e2.set p true, true, by omega, by go_num, rfl, by have := HST.out; rw [if_pos (by simp)] at this; exact Lib.hid this, hK2.put p true, ?_, ?_⟩, by simp [intOf]; omega⟩
         · exact (hB.trans (hbb.mono hszb)).setCell hlo.2.2 _
         · exact (hO.trans (Fr.below hbb)).trans (Fr.set _ _ _ _)
     · go_wp2_with fail
       refine ⟨⟨p + 1, e2, g2, by omega, by go_num, rfl, by have := HST.out; rw [if_neg (by simp)] at this; exact Lib.hid this, hK.alloc _, hB.alloc hszb _, hO.trans (Fr.alloc _ _ _)⟩, by simp [intOf]; omega⟩
   · have d2 : decide (p < rs.length) = false := by rw [decide_eq_false_iff_not]; exact hlt
     have hfin : (e2, g2) = PP := by
      rw [← hT.out, List.drop_eq_nil_of_le (by omega)]
      simp only [pass]
     subst hfin
     have hG := HG.out
     have hL2 := HL.out
     dsimp only at hG hL2
     clear HG HL hT HPP
     cases g2
     · rw [if_neg (by simp)] at hG
       subst hG
       go_wp2_with fail
       simp only [Exit.jump]
       go_end0
       exact ⟨⟨_, rfl⟩, hK, hB, hO⟩
     · rw [if_pos rfl] at hG
       have hl3 := hL2 rfl
       clear hL2
       go_wp2_with fail
       go_step3
       refine ⟨rfl, ⟨⟨_, _, _, _, _, _, _, _, _, _, _, _, _, _, _, _, _, _, _, _, _, _, _, _, _, _, _, _, _, _, _, _, _, _, _, _, _, _, rfl⟩, e2, fp, hK, hl3.1, hG, hB, hO⟩, by rw [hK.read, hK1.read]; exact hl3.2⟩
end Go.Proofs.YtiinkhmgemoamaaDoor
