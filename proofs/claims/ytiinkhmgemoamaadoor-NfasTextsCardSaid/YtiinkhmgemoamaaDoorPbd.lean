/- The contract of Reach: which rules each one reaches. -/
import Derived.Test.YtiinkhmgemoamaaDoorPaz
import Derived.Deep.RegionHeld3
import Derived.Test.YtiinkhmgemoamaaDoorPbc
import Derived.Test.YtiinkhmgemoamaaDoorPad
import Derived.Test.YtiinkhmgemoamaaDoorPah
import Derived.Test.YtiinkhmgemoamaaDoorPae
import Derived.Test.YtiinkhmgemoamaaDoorPaw
import Derived.Stop.RegionWithIn
namespace Go.Proofs.YtiinkhmgemoamaaDoor
open Go Go.RowKit Nu
set_option maxRecDepth 100000

theorem infoRow : (Tryd.prog.info? 40).map (fun i => (i.zero, i.size, i.bytes)) = some (some (.slice none 0 0), 1, 24) := by kernel_rfl
theorem infoFlags : (Tryd.prog.info? 52).map (fun i => (i.zero, i.size, i.bytes)) = some (some (.slice none 0 0), 1, 24) := by kernel_rfl
theorem mkI (n : Nat) (h : n ≤ 1000) (w : World) : (Instr.makeSlice 135 (.int .i64 (n : Int)) (.int .i64 (n : Int))).run Tryd.prog w = .ok (.slice (some ⟨w.heap.size, 0, none⟩) n n) (w.alloc (.cells (madeCells #[.slice none 0 0] n) 40)) := by
 obtain ⟨i, hi, hzz⟩ := Option.map_eq_some_iff.1 infoRow
 simp only [Prod.mk.injEq] at hzz
 exact run_make_row 135 40 i _ Tryd.underlying135 hi hzz.1 hzz.2.1 (by simp [Value.cells]) .i64 .i64 n (by rw [hzz.2.2]; omega) (by omega) w
theorem mkF (n : Nat) (h : n ≤ 1000) (w : World) : (Instr.makeSlice 101 (.int .i64 (n : Int)) (.int .i64 (n : Int))).run Tryd.prog w = .ok (.slice (some ⟨w.heap.size, 0, none⟩) n n) (w.alloc (.cells (madeCells #[.slice none 0 0] n) 52)) := by
 obtain ⟨i, hi, hzz⟩ := Option.map_eq_some_iff.1 infoFlags
 simp only [Prod.mk.injEq] at hzz
 exact run_make_row 101 52 i _ Tryd.underlying101 hi hzz.1 hzz.2.1 (by simp [Value.cells]) .i64 .i64 n (by rw [hzz.2.2]; omega) (by omega) w
theorem made_nils (n : Nat) : madeCells #[.slice none 0 0] n = Array.replicate n (.slice none 0 0) := by
 apply Array.ext
 · simp [madeCells]
 · intro i h1 h2
   simp [madeCells, Nat.mod_one]
namespace Nu
/-- The rows, as far as they are known. -/
def ssp (rs : List Rl) (p : Nat) : List (List Nat) := (stp rs).take p ++ List.replicate (rs.length - p) []
theorem stp_len (rs : List Rl) : (stp rs).length = rs.length := by simp [stp]
theorem ssp_len (rs : List Rl) {p : Nat} (hp : p ≤ rs.length) : (ssp rs p).length = rs.length := by simp [ssp, stp_len]; omega
theorem ssp_zero (rs : List Rl) : ssp rs 0 = List.replicate rs.length [] := by simp [ssp]
theorem ssp_all (rs : List Rl) : ssp rs rs.length = stp rs := by unfold ssp; rw [List.take_of_length_le (by rw [stp_len]; exact Nat.le_refl _)]; simp
theorem ssp_at (rs : List Rl) {p : Nat} (hp : p < rs.length) : (ssp rs p).set p [] = ssp rs p := by
 unfold ssp
 have h1 : ((stp rs).take p).length = p := by simp [stp_len]; omega
 rw [List.set_append_right _ _ (by omega), h1, Nat.sub_self]
 obtain ⟨q, hq⟩ : ∃ q, rs.length - p = q + 1 := ⟨rs.length - p - 1, by omega⟩
 rw [hq, List.replicate_succ, List.set_cons_zero]
theorem ssp_succ (rs : List Rl) {p : Nat} {r : Rl} (hr : rs[p]? = some r) : (ssp rs p).set p (rch rs r.sort (emp rs) r.body) = ssp rs (p + 1) := by
 have hp := (List.getElem?_eq_some_iff.1 hr).1
 unfold ssp
 have h1 : ((stp rs).take p).length = p := by simp [stp_len]; omega
 rw [List.set_append_right _ _ (by omega), h1, Nat.sub_self]
 obtain ⟨q, hq⟩ : ∃ q, rs.length - p = q + 1 := ⟨rs.length - p - 1, by omega⟩
 have hs : (stp rs)[p]? = some (rch rs r.sort (emp rs) r.body) := by simp [stp, hr]
 rw [hq, List.replicate_succ, List.set_cons_zero, show rs.length - (p + 1) = q by omega, List.take_add_one, hs]
 simp
end Nu
theorem StO.avoid {w : World} {sr ib ib' : Nat} {ss : List (List Nat)} (h : StO w sr ib ss) (hb : ib' ≤ sr ∨ w.heap.size ≤ ib') : StO w sr ib' ss := by
 obtain ⟨cs, h1, h2, h3, h4, h5⟩ := h
 refine ⟨cs, h1, h2, h3, h4, fun j v hv e => ?_⟩
 obtain ⟨l, hl⟩ : ∃ l, ss[j]? = some l := ⟨_, List.getElem?_eq_getElem (by rw [← h2]; exact (Array.getElem?_eq_some_iff.1 hv).1)⟩
 obtain ⟨v2, hv2, ho⟩ := h3 j l hl
 rw [hv] at hv2
 injection hv2 with hv2
 subst hv2
 have := ho.lt ib' e
 omega
theorem StO.stp {w : World} {sr ib : Nat} {ss : List (List Nat)} (h : StO w sr ib ss) (hl : ∀ l ∈ ss, l.length ≤ 1000000) : Stp w sr ss := by
 obtain ⟨cs, h1, h2, h3, _⟩ := h
 refine ⟨cs, h1, h2, fun i l hi => ?_⟩
 obtain ⟨v, hv, ho⟩ := h3 i l hi
 refine ⟨v, hv, ?_⟩
 have hll := hl l (List.mem_of_getElem? hi)
 rcases ho.2 with ⟨rfl, h0⟩ | ⟨g, cap, cur, rfl, _, hg, hc, hm, _, ht⟩
 · obtain rfl : l = [] := List.eq_nil_of_length_eq_zero h0
   exact ⟨none, 0, rfl, by simp, by simp, fun i x hx => by simp at hx⟩
 · refine ⟨_, cap, rfl, hll, hc, fun k x hx => ⟨g, 0, rfl, ?_⟩⟩
   have e : (natVs l)[k]? = some (.int .i64 (x : Int)) := by simp [natVs, hx]
   have := ho.cells rfl k _ e
   rw [Go.WideShapes.add_plain] at this
   exact this
/-- What is reached, row by row, as far as it is known. -/
def Rea (w : World) (rr n : Nat) (rows : List (List Bool)) (p : Nat) : Prop := ∃ cs : Array Value, Bk w rr 52 cs ∧ cs.size = n ∧
 ∀ (j : Nat) (row : List Bool), j < p → rows[j]? = some row → ∃ b, cs[j]? = some (.slice (some ⟨b, 0, none⟩) n n) ∧ Bk w b 4 (bools row) ∧ rr < b
theorem Rea.below {w w' : World} {rr n p : Nat} {rows : List (List Bool)} (h : Rea w rr n rows p) (hb : Below w.heap.size w w') : Rea w' rr n rows p := by
 obtain ⟨cs, h1, h2, h3⟩ := h
 refine ⟨cs, h1.below hb h1.lt, h2, fun j row hj hr => ?_⟩
 obtain ⟨b, c1, c2, c3⟩ := h3 j row hj hr
 exact ⟨b, c1, c2.below hb c2.lt, c3⟩
theorem Kn.rule {W1 w : World} {kb mb eb : Nat} {ra : Option Addr} {rc : Nat} {rs : List Nu.Rl} {e : List Bool} (h : Kn W1 w kb mb eb ra rc rs e) {i : Nat} {r : Nu.Rl} (hr : rs[i]? = some r) : ∃ g, ra = some ⟨g, 0, none⟩ ∧ RuC2 W1 w r g (i * 10) := by
 rcases h.row with ⟨rfl, _⟩ | ⟨rb, cs, rfl, _, h2, h3⟩
 · simp at hr
 · obtain ⟨v0, v1, v2, v3, v4, a0, a1, a2, a3, a4, a5, a6, a7, a8, a9, hA, hs, hn⟩ := h3 i r hr
   refine ⟨rb, rfl, v0, v1, v2, v3, v4, ?_, ?_, ?_, ?_, ?_, ?_, ?_, ?_, ?_, ?_, hA, hs, hn⟩ <;> rw [h2.cell] <;> assumption
theorem IRow.belowS {w w' : World} {v : Value} {l : List Nat} (hb : Below w.heap.size w w') : IRow w v l → IRow w' v l
 | ⟨a, c, hv, h1, h2, h3⟩ => ⟨a, c, hv, h1, h2, fun i x hx => by
  obtain ⟨b, o, ha, hc⟩ := h3 i x hx
  exact ⟨b, o, ha, Nd.cell_keeps hb hc⟩⟩
theorem Stp.belowS {w w' : World} {sr : Nat} {ss : List (List Nat)} (h : Stp w sr ss) (hb : Below w.heap.size w w') : Stp w' sr ss := by
 obtain ⟨cs, h1, h2, h3⟩ := h
 refine ⟨cs, h1.below hb h1.lt, h2, fun i l hl => ?_⟩
 obtain ⟨v, hv, hr⟩ := h3 i l hl
 exact ⟨v, hv, hr.belowS hb⟩
set_option maxHeartbeats 4000000 in
theorem Reach_any (nm : ByteArray) (o1 o2 : Int) (rs : List Nu.Rl) (v : Value) (w : World) (hG : GrV w nm o1 o2 rs v) (hsm : rs.length ≤ 1000 ∧ ∀ r ∈ rs, Nd.deep r.body ≤ 100000 ∧ Nd.count r.body ≤ 100000) :
 Calls Tryd.prog 59 #[v] w fun e w' => (∃ rr, e = .returned (.slice (some ⟨rr, 0, none⟩) rs.length rs.length) ∧ Rea w' rr rs.length (rea rs) rs.length ∧ w.heap.size ≤ rr) ∧ Below w.heap.size w w' := by
 have hKn := fun ob => known_any nm o1 o2 rs v (w.alloc ob) (hG.below ((Below.refl _ w).alloc (Nat.le_refl _) ob)) ⟨hsm.1, fun r hr => ⟨(hsm.2 r hr).1, by have := (hsm.2 r hr).2; omega⟩⟩
 obtain ⟨ra0, rc0, rfl, hnm, hrc0, hR0⟩ := hG
 obtain ⟨RN, hRN⟩ : ∃ k, rs.length = k := ⟨_, rfl⟩
 have HRN := Lib.hid hRN
 have hl1 := hsm.1
 rw [hRN] at hKn hrc0 hl1 ⊢
 have n1 : (RN : Int) ≤ 9223372036854775807 := by omega
 have hmkI := mkI RN hl1
 have hmkF := mkF RN hl1
 have hmkB := run_make_row' (P := Tryd.prog) 52 4 (.bool false) 1 Tryd.underlying52 infoBool rfl .i64 .i64 RN (by omega) (by omega)
 replace hKn := Lib.hid hKn
 clear hRN
 go_enter Tryd.func59, Tryd.ntmps59
 go_wp2_with (go_at_call 67; refine (hKn.out _).mono ?_; rintro e w2 ⟨⟨W1, kb, mb, eb, ra, rc, rfl, hK, hW1⟩, hb2⟩; have k0 := hK.k.cell 0; rw [HRN.out] at k0; replace k0 : w2.cell? ⟨kb, 0, none⟩ = some (.slice ra RN rc) := k0; have HK := Lib.hid hK; clear hK; have hkb : kb < w2.heap.size := HK.out.lt.1)
 have hlt := HK.out.lt
 have hW1s := HK.out.b.size
 have st0 : StO ((w2.alloc (.cells (madeCells #[.slice none 0 0] RN) 40)).alloc (.cells #[.slice (some ⟨w2.heap.size, 0, none⟩) RN RN] 135)) w2.heap.size w2.heap.size (ssp rs 0) := by
  have q1 := (Bk.made w2 40 (madeCells #[.slice none 0 0] RN)).alloc (.cells #[.slice (some ⟨w2.heap.size, 0, none⟩) RN RN] 135)
  rw [made_nils] at q1 ⊢
  refine ⟨_, q1, by rw [ssp_len rs (Nat.zero_le _), HRN.out]; simp, fun j l hj => ?_, fun j k vj vk b _ hj _ hb => ?_, fun j v hj hb => ?_⟩
  · rw [ssp_zero, List.getElem?_replicate] at hj
    split at hj
    · rename_i h
      injection hj with hj
      subst hj
      refine ⟨.slice none 0 0, by rw [Array.getElem?_replicate, if_pos (by rw [← HRN.out]; exact h)], World.ownsRow_nil _ _ _ _⟩
    · cases hj
  · rw [Array.getElem?_replicate] at hj
    split at hj
    · injection hj with hj; subst hj; cases hb
    · cases hj
  · rw [Array.getElem?_replicate] at hj
    split at hj
    · injection hj with hj; subst hj; cases hb
    · cases hj
 have sb0 : Bk ((w2.alloc (.cells (madeCells #[.slice none 0 0] RN) 40)).alloc (.cells #[.slice (some ⟨w2.heap.size, 0, none⟩) RN RN] 135)) (w2.heap.size + 1) 135 #[.slice (some ⟨w2.heap.size, 0, none⟩) RN RN] := by
  have := Bk.made (w2.alloc (.cells (madeCells #[.slice none 0 0] RN) 40)) 135 #[.slice (some ⟨w2.heap.size, 0, none⟩) RN RN]
  rwa [World.size_alloc] at this
 have bl0 : Below w2.heap.size w2 ((w2.alloc (.cells (madeCells #[.slice none 0 0] RN) 40)).alloc (.cells #[.slice (some ⟨w2.heap.size, 0, none⟩) RN RN] 135)) := ((Below.refl _ _).alloc (Nat.le_refl _) _).alloc (by simp) _
 have HSM := Lib.hid hsm
 have HBW := Lib.hid (((Below.refl w.heap.size w).alloc (Nat.le_refl _) (.cells #[.string nm, .int .i64 o1, .int .i64 o2, .slice ra0 RN rc0] 26)).trans (hb2.mono (by simp)))
 clear hb2 hsm hR0 hKn
 go_loopw [22] (fun i wr => ∃ p : Nat, p ≤ RN ∧ i = .int .i64 p ∧ Bk wr (w2.heap.size + 1) 135 #[.slice (some ⟨w2.heap.size, 0, none⟩) RN RN] ∧ StO wr w2.heap.size w2.heap.size (ssp rs p) ∧ Below w2.heap.size w2 wr) (fun i _ => RN - (intOf i).toNat)
 case atStart => exact ⟨0, Nat.zero_le _, rfl, sb0, st0, bl0⟩
 case round =>
  clear st0 sb0 bl0
  obtain ⟨p, hp, rfl, hsb, hst, hB⟩ := hrel
  have hKw := HK.out.below hB hlt
  have hsz := hB.size
  by_cases hlt2 : p < RN
  · have d2 : decide (p < RN) = true := by rw [decide_eq_true_iff]; exact hlt2
    have p0 : (p : Int) < (RN : Int) := by omega
    obtain ⟨r, hr⟩ : ∃ r, rs[p]? = some r := ⟨_, List.getElem?_eq_getElem (by rw [HRN.out]; exact hlt2)⟩
    obtain ⟨g, rfl, v0, v1, v2, v3, v4, b0, b1, b2, b3, b4, b5, b6, b7, b8, b9, hAs, _, hns⟩ := hKw.rule hr
    have hsp : StO wr w2.heap.size wr.heap.size ((ssp rs p).set p []) := by rw [ssp_at rs (by rw [HRN.out]; exact hlt2)]; exact hst.avoid (.inr (Nat.le_refl _))
    have hP0 : ∀ o2, PR RN (w2.heap.size + 1) wr.heap.size w2.heap.size p (ssp rs p) [] ((wr.alloc (.cells #[.int .i64 (p : Int)] 3)).alloc o2) := fun o2 => by
     have hbb : Below wr.heap.size wr ((wr.alloc (.cells #[.int .i64 (p : Int)] 3)).alloc o2) := ((Below.refl _ _).alloc (Nat.le_refl _) _).alloc (by simp) _
     exact ⟨hsb.below hbb hsb.lt, (Bk.made wr 3 #[.int .i64 (p : Int)]).alloc o2, hsp.below hbb, by rw [ssp_len rs (by rw [HRN.out]; exact hp), HRN.out], hlt2⟩
    have hok : Re.Ok (.pointer (some ⟨w2.heap.size + 1, 0, none⟩)) (.pointer (some ⟨wr.heap.size, 0, none⟩)) (PR RN (w2.heap.size + 1) wr.heap.size w2.heap.size p (ssp rs p)) w2.heap.size W1 W1 kb mb eb (some ⟨g, 0, none⟩) rc rs (emp rs) r.sort :=
     ⟨⟨hlt.1, hlt.2.1, hlt.2.2.1, hW1s, hlt.2.2.2⟩, fun l a b h1 h2 => h1.below h2, fun l wx q h1 h2 _ h4 => told_any RN (w2.heap.size + 1) wr.heap.size w2.heap.size p q w2.heap.size (ssp rs p) l wx hl1 h1 h2 h4 (Nat.le_refl _)⟩
    have hC := fun (o2 : Obj) => Re.thr_of _ _ _ _ W1 W1 kb mb eb (some ⟨g, 0, none⟩) rc rs (emp rs) r.sort hok r.body (.agg #[v0, v1, v2, v3, v4]) [] ((wr.alloc (.cells #[.int .i64 (p : Int)] 3)).alloc o2) ((hKw.alloc _).alloc o2) ((hKw.b.alloc hKw.b.size _).alloc (by have := hKw.b.size; simp; omega) _) (by simp; omega) (hP0 o2) hAs (by have := (HSM.out.2 r (List.mem_of_getElem? hr)).2; simp; omega)
    have hnx : ∀ w', PR RN (w2.heap.size + 1) wr.heap.size w2.heap.size p (ssp rs p) ([] ++ rch rs r.sort (emp rs) r.body) w' → Bk w' (w2.heap.size + 1) 135 #[.slice (some ⟨w2.heap.size, 0, none⟩) RN RN] ∧ StO w' w2.heap.size w2.heap.size (ssp rs (p + 1)) := fun w' h => by
     obtain ⟨h1, _, h3, _⟩ := h
     rw [List.nil_append, ssp_succ rs hr] at h3
     exact ⟨h1, h3.avoid (.inl (Nat.le_refl _))⟩
    replace hnx := Lib.hid hnx
    replace hC := Lib.hid hC
    generalize thr rs r.sort (emp rs) r.body = TH at hC
    obtain ⟨sa1, sc1, ba1, bc1, rfl, rfl, rfl, rfl, rfl⟩ := hAs.five
    generalize r.body.kind = sk at *
    generalize r.body.name = sn at *
    generalize r.body.text = sx at *
    generalize r.body.set.length = sl at *
    generalize r.body.subs.length = sm at *
    generalize r.name = rn at *
    clear hAs hok hP0 hsp hr hKw hst hsb
    go_wp2_with (go_at_call 68; refine (hC.out _).mono ?_; rintro e w' ⟨rfl, hb, hpr⟩)
    obtain ⟨n1', n2'⟩ := hnx.out _ hpr
    refine ⟨⟨p + 1, by omega, by go_num, n1', n2', ?_⟩, by simp [intOf]; omega⟩
    exact hB.trans ((((Below.refl w2.heap.size wr).alloc hsz _).alloc (by simp; omega) _).trans hb)
  · have d2 : decide (p < RN) = false := by rw [decide_eq_false_iff_not]; exact hlt2
    obtain rfl : RN = p := by omega
    obtain ⟨wf, hwf⟩ : ∃ z, z = wr := ⟨_, rfl⟩
    subst hwf
    have c0 := hsb.cell 0
    simp at c0
    have hst2 : Stp wf w2.heap.size (stp rs) := by
     have e := ssp_all rs
     rw [HRN.out] at e
     rw [e] at hst
     refine hst.stp fun l hl => ?_
     obtain ⟨r, hr, rfl⟩ := List.mem_map.1 hl
     have h1 := rch_len rs r.sort (emp rs) r.body
     have h2 := (HSM.out.2 r hr).2
     omega
    have hbw : Below w.heap.size w wf := HBW.out.trans (hB.mono HBW.out.size)
    have HBW2 := Lib.hid hbw
    have rea0 : Rea (wf.alloc (.cells (madeCells #[.slice none 0 0] RN) 52)) wf.heap.size RN (rea rs) 0 := ⟨_, Bk.made wf 52 _, by rw [made_nils]; simp, fun j row hj => by omega⟩
    have bl1 : Below wf.heap.size wf (wf.alloc (.cells (madeCells #[.slice none 0 0] RN) 52)) := (Below.refl _ _).alloc (Nat.le_refl _) _
    have HST := Lib.hid (fun (wx : World) (hb : Below wf.heap.size wf wx) => show Stp wx w2.heap.size (stp rs) ∧ Bk wx (w2.heap.size + 1) 135 #[.slice (some ⟨w2.heap.size, 0, none⟩) RN RN] from ⟨hst2.belowS hb, hsb.below hb hsb.lt⟩)
    go_wp2_with fail
    clear hst hst2 hKw hB hbw hsz hsb c0
    go_loopw [40] (fun i wx => ∃ q : Nat, q ≤ RN ∧ i = .int .i64 q ∧ Rea wx wf.heap.size RN (rea rs) q ∧ Below wf.heap.size wf wx) (fun i _ => RN - (intOf i).toNat)
    case atStart => exact ⟨0, Nat.zero_le _, rfl, rea0, bl1⟩
    case round =>
     clear bl1 rea0
     obtain ⟨q, hq, rfl, ⟨cs, hr1, hr2, hr3⟩, hBx⟩ := hrel
     by_cases hltq : q < RN
     · have d2 : decide (q < RN) = true := by rw [decide_eq_true_iff]; exact hltq
       have p0 : (q : Int) < (RN : Int) := by omega
       obtain ⟨cq, hcq⟩ : ∃ cq, cs[q]? = some cq := ⟨_, Array.getElem?_eq_getElem (by omega)⟩
       have ce := hr1.cell q
       rw [hcq] at ce
       have fe := hr1.free q
       have hlr := hr1.lt
       have cx0 := (HST.out wr hBx).2.cell 0
       replace cx0 : wr.cell? ⟨w2.heap.size + 1, 0, none⟩ = some (.slice (some ⟨w2.heap.size, 0, none⟩) RN RN) := cx0
       go_wp2_with fail
       obtain ⟨WX, hWX⟩ : ∃ WX, (wr.setCell ⟨wf.heap.size, q, none⟩ (.slice (some ⟨wr.heap.size, 0, none⟩) RN RN)).alloc (.cells (madeCells #[.bool false] RN) 4) = WX := ⟨_, rfl⟩
       have x1 : Bk WX wf.heap.size 52 (cs.setIfInBounds q (.slice (some ⟨wr.heap.size, 0, none⟩) RN RN)) := by rw [← hWX]; exact (hr1.set q _).alloc _
       have x2 : Bk WX wr.heap.size 4 (bools (List.replicate RN false)) := by
        have := Bk.made (wr.setCell ⟨wf.heap.size, q, none⟩ (.slice (some ⟨wr.heap.size, 0, none⟩) RN RN)) 4 (madeCells #[.bool false] RN)
        rw [hWX, made_bools, World.size_setCell] at this
        exact this
       have x3 : Below wf.heap.size wf WX := by rw [← hWX]; exact (hBx.setCell (Nat.le_refl _) _).alloc (by have := hBx.size; simp; omega) _
       have x4 : ∀ (b : Nat) (row : List Bool), wf.heap.size < b → Bk wr b 4 (bools row) → Bk WX b 4 (bools row) := fun b row hb hk => by rw [← hWX]; exact (hk.other _ _ (by show b ≠ wf.heap.size; omega)).alloc _
       have hsx := HST.out WX x3
       have e1 := stp_len rs
       rw [HRN.out] at e1
       have hlk := lack_le (List.replicate RN false)
       rw [List.length_replicate] at hlk
       have hC := spread_any w2.heap.size wr.heap.size (stp rs) (fun l hl x hx => by
        obtain ⟨r, hr, rfl⟩ := List.mem_map.1 hl
        rw [stp_len]
        exact rch_lt rs _ _ _ x hx) (by rw [e1]; exact hl1) RN (List.replicate RN false) q WX.drew hsx.1 x2 (by rw [e1]; simp) (by rw [e1]; exact hltq) hlk
       rw [e1] at hC
       have y1 := hsx.2.cell 0
       replace y1 : WX.cell? ⟨w2.heap.size + 1, 0, none⟩ = some (.slice (some ⟨w2.heap.size, 0, none⟩) RN RN) := y1
       have y2 : WX.cell? ⟨wf.heap.size, q, none⟩ = some (.slice (some ⟨wr.heap.size, 0, none⟩) RN RN) := by rw [x1.cell, Array.getElem?_setIfInBounds_self, if_pos (by omega)]
       have hfin : ∀ w', Bk w' wr.heap.size 4 (bools (spr (stp rs) RN ((stp rs).getD q []) (List.replicate RN false))) → WX.grownBy w' (some wr.heap.size) → Rea w' wf.heap.size RN (rea rs) (q + 1) ∧ Below wf.heap.size wf w' := fun w' h1 h2 => by
        refine ⟨⟨_, x1.grown h2 (fun e => by injection e with e; omega), by rw [Array.size_setIfInBounds]; exact hr2, fun j row hj hrow => ?_⟩, x3.grown h2 x3.size (fun k e => by cases e; exact Nat.le_of_lt hlr)⟩
        by_cases hjq : j = q
        · subst hjq
          have e2 := rea_at rs (i := j) (by rw [HRN.out]; exact hltq)
          rw [List.getD_eq_getElem?_getD, hrow, HRN.out] at e2
          replace e2 : row = spr (stp rs) RN ((stp rs).getD j []) (List.replicate RN false) := e2
          exact ⟨wr.heap.size, by rw [Array.getElem?_setIfInBounds_self, if_pos (by omega)], by rw [e2]; exact h1, hlr⟩
        · obtain ⟨b, c1, c2, c3⟩ := hr3 j row (by omega) hrow
          exact ⟨b, by rw [Array.getElem?_setIfInBounds_ne (Ne.symm hjq)]; exact c1, (x4 b row c3 c2).grown h2 (fun e => by injection e with e; have := c2.lt; omega), c3⟩
       have HF := Lib.hid hfin
       have HK3 := Lib.hid (fun (w' : World) (h2 : WX.grownBy w' (some wr.heap.size)) => show w'.cell? ⟨w2.heap.size + 1, 0, none⟩ = some (.slice (some ⟨w2.heap.size, 0, none⟩) RN RN) ∧ w'.cell? ⟨wf.heap.size, q, none⟩ = some (.slice (some ⟨wr.heap.size, 0, none⟩) RN RN) from by
        have k1 := hsx.2.grown h2 (fun e => by injection e with e; exact (hsx.2.ne x2 (by decide)) e)
        have k2 := x1.grown h2 (fun e => by injection e with e; omega)
        exact ⟨by rw [k1.cell]; rfl, by rw [k2.cell, Array.getElem?_setIfInBounds_self, if_pos (by omega)]⟩)
       generalize spr (stp rs) RN ((stp rs).getD q []) (List.replicate RN false) = SPR at *
       replace hC := Lib.hid hC
       rw [hWX]
       clear hfin x1 x2 x3 x4 hsx hr1 hr3 hWX hBx e1 hlk hcq ce fe cx0
       go_region_held3 (fun w' => w'.cell? ⟨w2.heap.size + 1, 0, none⟩ = some (.slice (some ⟨w2.heap.size, 0, none⟩) RN RN) ∧ w'.cell? ⟨wf.heap.size, q, none⟩ = some (.slice (some ⟨wr.heap.size, 0, none⟩) RN RN)) (first | exact ⟨y1, y2⟩ | exact kk) (first
        | (go_at_call 70; refine (hC.out).mono ?_; rintro e w' ⟨⟨u, rfl⟩, hbk, hgw0⟩; have hgw : WX.grownBy w' (some wr.heap.size) := ⟨hgw0.os, hgw0.tape, hgw0.output, hgw0.size, hgw0.block⟩; have kk := HK3.out w' hgw))
       go_wp2_with fail
       obtain ⟨z1, z2⟩ := HF.out w' hbk hgw
       refine ⟨⟨q + 1, by omega, by go_num, z1, z2⟩, by simp [intOf]; omega⟩
     · have d2 : decide (q < RN) = false := by rw [decide_eq_false_iff_not]; exact hltq
       obtain rfl : RN = q := by omega
       go_wp2_with fail
       go_ret
       exact ⟨⟨wf.heap.size, rfl, ⟨cs, hr1, hr2, hr3⟩, HBW2.out.size⟩, HBW2.out.trans (hBx.mono HBW2.out.size)⟩
end Go.Proofs.YtiinkhmgemoamaaDoor
namespace Go.Proofs.YtiinkhmgemoamaaDoor
open Go Go.RowKit Go.Shelf Ck Nu
attribute [local go_sem] Oper.semAt_some
set_option maxRecDepth 100000

/-- What the checker holds of the rules. -/
structure CkS (w : World) (cv : CkV) (rs : List Rl) : Prop where
 gr : GrV w cv.nm cv.o1 cv.o2 rs (.agg #[.string cv.nm, .int .i64 cv.o1, .int .i64 cv.o2, .slice cv.ra cv.rn cv.rc])
 em : ∃ eb, cv.em = .slice (some ⟨eb, 0, none⟩) rs.length rs.length ∧ Bk w eb 4 (bools (emp rs))
 re : ∃ rr, cv.re = .slice (some ⟨rr, 0, none⟩) rs.length rs.length ∧ Rea w rr rs.length (rea rs) rs.length
 wi : ∃ rr, cv.wi = .slice (some ⟨rr, 0, none⟩) rs.length rs.length ∧ Rea w rr rs.length (rea (nmR rs)) rs.length
set_option maxHeartbeats 400000 in
theorem fits_any (k s t : Int) (w : World) : Calls Tryd.prog 72 #[.int .u8 k, .int .u8 s, .int .u8 t] w fun e w' => e = .returned (.bool (Ck.fits k s t)) ∧ Below w.heap.size w w' := by
 unfold Ck.fits
 obtain ⟨b5, d5⟩ : ∃ b, decide (k = 5) = b := ⟨_, rfl⟩
 obtain ⟨b0, d0⟩ : ∃ b, decide (s = 0) = b := ⟨_, rfl⟩
 obtain ⟨b1, d1⟩ : ∃ b, decide (t = 0) = b := ⟨_, rfl⟩
 obtain ⟨b2, d2⟩ : ∃ b, decide (t = 1) = b := ⟨_, rfl⟩
 obtain ⟨b3, d3⟩ : ∃ b, decide (t = 2) = b := ⟨_, rfl⟩
 have q5 : (k == 5) = b5 := by rw [← d5]; rfl
 have q0 : (s == 0) = b0 := by rw [← d0]; rfl
 have q1 : (t == 0) = b1 := by rw [← d1]; rfl
 have q2 : (t == 1) = b2 := by rw [← d2]; rfl
 have q3 : (t == 2) = b3 := by rw [← d3]; rfl
 have e : (if k = 5 then decide (s = 0 ∧ t = 0) else if s = 0 then decide (t = 1) else decide (t = 2)) = (if b5 = true then (b0 && b1) else if b0 = true then b2 else b3) := by
  subst d5 d0 d1 d2 d3
  simp
 rw [e]
 clear e
 cases b5 <;> cases b0 <;> cases b1
 all_goals
  go_enter Tryd.func72, Tryd.ntmps72
  go_wp2_with fail
  all_goals (try go_ret)
  all_goals exact ⟨by simp, Below.refl _ _⟩
theorem noneP_snoc (rs : List Rl) (i : Nat) (l : List Nd.T) (n : Nd.T) : noneP rs i (l ++ [n]) = noneP rs i l ++ (if fnd rs n.name = none then [⟨2, i, n.name⟩] else []) := by
 unfold noneP
 rw [List.filterMap_append]
 congr 1
 by_cases h : fnd rs n.name = none <;> simp [h]
theorem sortP_snoc (rs : List Rl) (s : Int) (i : Nat) (l : List Nd.T) (n : Nd.T) : sortP rs s i (l ++ [n]) = sortP rs s i l ++ (if sortB rs s n then [⟨3, i, n.name⟩] else []) := by
 unfold sortP
 rw [List.filterMap_append]
 congr 1
 by_cases h : sortB rs s n <;> simp [h]
theorem GrV2_below {w w' : World} {nm : ByteArray} {o1 o2 : Int} {rs : List Rl} {v : Value} (h : GrV w nm o1 o2 rs v) (hb : Below w.heap.size w w') : GrV w' nm o1 o2 rs v := by
 obtain ⟨ra, rc, h1, h2, h3, h4⟩ := h
 exact ⟨ra, rc, h1, h2, h3, h4.below hb⟩
end Go.Proofs.YtiinkhmgemoamaaDoor
