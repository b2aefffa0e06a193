/- The contract of rule: all that is told of one rule. -/
import Derived.Test.YtiinkhmgemoamaaDoorPbe
import Derived.Test.YtiinkhmgemoamaaDoorPbf
import Derived.Test.YtiinkhmgemoamaaDoorPbk
import Derived.Test.YtiinkhmgemoamaaDoorPbl
import Derived.Test.YtiinkhmgemoamaaDoorPz
namespace Go.Proofs.YtiinkhmgemoamaaDoor
open Go Go.RowKit Go.Shelf Ck Nu
attribute [local go_sem] Oper.semAt_some
set_option maxRecDepth 100000

namespace Ck
/-- A walk's temporaries: what is known of them, all others open. -/
def Tmz (g : (Nat → Value) → Array Value) (B : Prop) (a : Act) : Prop := ∃ f, B ∧ a = { tmps := g f, defers := [] }
theorem tmz_mk {g : (Nat → Value) → Array Value} {B : Prop} {t : Array Value} (hb : B) (h : t = g (fun n => t.getD n undef)) : Tmz g B { tmps := t, defers := [] } := ⟨_, hb, by rw [← h]⟩
theorem tmz_el {g : (Nat → Value) → Array Value} {B : Prop} {a : Act} (h : Tmz g B a) : ∃ f, B ∧ a = { tmps := g f, defers := [] } := h
theorem reaL_len (rs : List Rl) : (rea rs).length = rs.length := by simp [rea, stp]
theorem reaL_row {rs : List Rl} {i : Nat} (hi : i < rs.length) : ∃ row, (rea rs)[i]? = some row ∧ row.length = rs.length ∧ ∀ k, reaAt rs i k = row.getD k false := by
 have hl : i < (rea rs).length := by rw [reaL_len]; exact hi
 refine ⟨_, List.getElem?_eq_getElem hl, ?_, fun k => ?_⟩
 · have h1 := rea_at rs hi
   rw [List.getD_eq_getElem?_getD, List.getElem?_eq_getElem hl] at h1
   have h2 : (rea rs)[i] = spr (stp rs) rs.length ((stp rs).getD i []) (List.replicate rs.length false) := h1
   rw [h2, spr_len]
   simp
 · unfold reaAt
   have : (rea rs).getD i [] = (rea rs)[i] := by rw [List.getD_eq_getElem?_getD, List.getElem?_eq_getElem hl]; rfl
   rw [this]
theorem Rea.two {w : World} {rr n : Nat} {rs : List Rl} {i : Nat} (h : Rea w rr n (rea rs) n) (hn : rs.length = n) (hi : i < n) : ∃ b, w.cell? ⟨rr, i, none⟩ = some (.slice (some ⟨b, 0, none⟩) n n) ∧ w.cell? ⟨b, i, none⟩ = some (.bool (reaAt rs i i)) := by
 obtain ⟨row, h1, h2, h3⟩ := reaL_row (rs := rs) (i := i) (by omega)
 obtain ⟨cs, k1, _, k3⟩ := h
 obtain ⟨b, c1, c2, _⟩ := k3 i row hi h1
 refine ⟨b, (k1.cell _).trans c1, (c2.cell _).trans ?_⟩
 rw [bools_get (by omega), h3]
theorem noneP_len (rs : List Rl) (i : Nat) (l : List Nd.T) : (noneP rs i l).length ≤ l.length := List.length_filterMap_le _ _
theorem sortP_len (rs : List Rl) (s : Int) (i : Nat) (l : List Nd.T) : (sortP rs s i l).length ≤ l.length := List.length_filterMap_le _ _
theorem short_small (rs : List Rl) (r : Rl) : (short rs r).length ≤ rs.length + 1 ∧ 0 < (short rs r).length ∧ (∀ q ∈ short rs r, Nd.deep q.body ≤ 1 ∧ Nd.count q.body ≤ 1) ∧ (short rs r)[(short rs r).length - 1]? = some ⟨⟨#[]⟩, r.sort, stand false, 0, 0, 0⟩ := by
 have hl := shortF_len (emp rs) (asked rs r.body) rs 0
 have e : (short rs r).length = (shortF (emp rs) (asked rs r.body) 0 rs).length + 1 := by unfold short; simp
 have hs : ∀ (l : List Rl) (k : Nat), ∀ q ∈ shortF (emp rs) (asked rs r.body) k l, Nd.deep q.body ≤ 1 ∧ Nd.count q.body ≤ 1 := by
  intro l
  induction l with
  | nil => intro k q hq; simp [shortF] at hq
  | cons p l ih =>
   intro k q hq
   simp only [shortF, List.mem_append] at hq
   rcases hq with hq | hq
   · split at hq
     · simp only [List.mem_singleton] at hq
       subst hq
       have := stand_deep ((emp rs).getD k false)
       dsimp only
       omega
     · cases hq
   · exact ih _ q hq
 refine ⟨by omega, by omega, fun q hq => ?_, ?_⟩
 · unfold short at hq
   rcases List.mem_append.1 hq with hq | hq
   · exact hs _ _ q hq
   · simp only [List.mem_singleton] at hq
     subst hq
     have := stand_deep false
     dsimp only
     omega
 · rw [e, Nat.add_sub_cancel]
   unfold short
   rw [List.getElem?_append_right (Nat.le_refl _), Nat.sub_self]
   rfl
end Ck
set_option maxHeartbeats 16000000 in
theorem rule_any (w0 : World) (cp : Nat) (cv : CkV) (rs : List Rl) (L : List Pr) (i : Nat) (r : Rl) (W : World) (hS : CkS w0 cv rs) (hr : rs[i]? = some r) (hsm : rs.length ≤ 999 ∧ ∀ r ∈ rs, Nd.deep r.body ≤ 100000 ∧ Nd.count r.body ≤ 90000)
 (hB : Below w0.heap.size w0 W) (hI : CkI w0.heap.size cp cv L W) (hL : L.length ≤ 100000) :
 Calls Tryd.prog 44 #[.pointer (some ⟨cp, 0, none⟩), .int .i64 i] W fun e W' => (∃ v, e = .returned v) ∧ CkI w0.heap.size cp cv (L ++ rulP rs i r) W' ∧ Tl w0.heap.size W W' := by
 obtain ⟨ra, rc, hgv, hnm, hrc, hR⟩ := id hS.gr
 obtain ⟨b, o, rfl, v0, v1, v2, v3, v4, a0, a1, a2, a3, a4, a5, a6, a7, a8, a9, hA, hsr, hns⟩ := hR i r hr
 have e1 : cv.ra = some ⟨b, o, none⟩ ∧ cv.rn = rs.length ∧ cv.rc = rc := by simpa using hgv
 have hi : i < rs.length := (List.getElem?_eq_some_iff.1 hr).1
 have hrb := hsm.2 r (List.mem_of_getElem? hr)
 obtain ⟨eb, hem, hke⟩ := hS.em
 obtain ⟨rr, hre, hkr⟩ := hS.re
 obtain ⟨rr2, hwi, hkr2⟩ := hS.wi
 have hnmlen : (nmR rs).length = rs.length := by simp [nmR]
 obtain ⟨r1, t1, t2⟩ := Ck.Rea.two (rs := rs) hkr rfl hi
 obtain ⟨r2, t3, t4⟩ := Ck.Rea.two (rs := nmR rs) hkr2 hnmlen hi
 have t5 : w0.cell? ⟨eb, i, none⟩ = some (.bool ((emp rs).getD i false)) := by rw [hke.cell, bools_get (by rw [emp_len]; exact hi)]
 have hsms : rs.length ≤ 1000 ∧ ∀ r ∈ rs, Nd.deep r.body ≤ 100000 ∧ Nd.count r.body ≤ 100000 := ⟨by omega, fun r hr => by have := hsm.2 r hr; omega⟩
 -- what all that is called does
 have HMis := Lib.hid (fun (X : World) (L' : List Pr) (hT : Tl w0.heap.size W X) (hI' : CkI w0.heap.size cp cv L' X) (hl : L'.length ≤ 500000) => misnamed_any w0 cp cv rs L' i r X hS hr hsms (hB.trans hT.1) hI' hl)
 have HFi := Lib.hid (fun (X : World) (hT : Tl w0.heap.size W X) => Find_any cv.nm cv.o1 cv.o2 rs _ r.name X (by obtain ⟨ra, rc, h1, h2, h3, h4⟩ := hS.gr; exact ⟨ra, rc, h1, h2, h3, h4.below (hB.trans hT.1)⟩))
 have HTe := Lib.hid (fun (X : World) (L' : List Pr) (code : Int) (hI' : CkI w0.heap.size cp cv L' X) (hl : L'.length ≤ 1000000) => tell_any w0.heap.size cp cv L' code i r.name X hI' hns hl)
 have HSh := Lib.hid (fun (X : World) (pv : Value) (hT : Tl w0.heap.size W X) (hK : Bk X cp 103 #[.string cv.nm, .int .i64 cv.o1, .int .i64 cv.o2, .slice cv.ra cv.rn cv.rc, cv.em, cv.re, cv.wi, pv]) => short_any w0 cp cv rs pv i r X hS hr hsms (hB.trans hT.1) hK)
 have hss := short_small rs r
 have HLo := Lib.hid (fun (X : World) (rb cap : Nat) (cs : Array Value) (hT : Tl w0.heap.size W X) (hcap : (short rs r).length ≤ cap) (hrb2 : w0.heap.size ≤ rb) (hk : Bk X rb 38 cs) (hc : RowC w0 (short rs r) cs) =>
  loops_any w0.heap.size cp cv i r.name ⟨#[]⟩ 0 0 (some ⟨rb, 0, none⟩) (short rs r).length cap (shE rs r) X (Nat.le_trans hB.size hT.1.size)
   (fun Y t v hT2 hAt hd => by
    have hG : GrV Y ⟨#[]⟩ 0 0 (short rs r) (.agg #[.string ⟨#[]⟩, .int .i64 0, .int .i64 0, .slice (some ⟨rb, 0, none⟩) (short rs r).length cap]) :=
     ⟨_, _, rfl, by decide, ⟨hcap, by omega⟩, RowK.at (.inr ⟨rb, cs, rfl, hrb2, hT2.bk hk (by decide) (by decide), hc⟩) ((hB.trans hT.1).trans hT2.1)⟩
    have := May_any ⟨#[]⟩ 0 0 (short rs r) _ v ((short rs r).length - 1) _ t Y hG ⟨by omega, fun q hq => by have := hss.2.2.1 q hq; omega⟩ hss.2.2.2 hAt hd
    rw [show (((short rs r).length - 1 : Nat) : Int) = ((short rs r).length : Int) - 1 by omega] at this
    exact this)
   (fun bb w => stand_any bb w) ⟨hss.2.1, by omega⟩ hns b o e1.1 ⟨by rw [e1.2.1]; exact hi, by rw [e1.2.1]; omega⟩ (fun Y hT2 => Nd.cell_keeps ((hB.trans hT.1).trans hT2.1) a0)
   r.body hrb.1 (by omega))
 have HL := Lib.hid (And.intro hL (And.intro hrb (And.intro (Ck.nmR_count r.body) (And.intro (noneP_len rs i (nam r.body)) (And.intro (sortP_len rs r.sort i (nam r.body)) (And.intro (lpN_le (shE rs r) r.body) (And.intro hB hI)))))))
 have HA := Lib.hid (fun (X : World) (hT : Tl w0.heap.size W X) => show Nd.At X r.body (.agg #[v0, v1, v2, v3, v4]) from hA.below (hB.trans hT.1))
 have HA0 := Lib.hid hA
 have hgoal : L ++ rulP rs i r = L ++ (if whereI (fnd rs r.name) < (i : Int) then [⟨1, i, r.name⟩] else []) ++ noneP rs i (nam r.body) ++ sortP rs r.sort i (nam r.body) ++ (if r.sort = 0 ∧ reaAt rs i i = true then [⟨4, i, r.name⟩] else []) ++ (if reaAt (nmR rs) i i = true then [⟨5, i, r.name⟩] else []) ++
  List.replicate (lpN (shE rs r) r.body) ⟨6, i, r.name⟩ ++ (if (r.sort = 1 ∨ r.sort = 3) ∧ (emp rs).getD i false = true then [⟨7, i, r.name⟩] else []) := by
  unfold rulP
  cases fnd rs r.name with
  | none =>
   have : whereI none < (i : Int) := by simp only [whereI]; omega
   rw [if_pos this]
   simp only [List.append_assoc]
  | some k =>
   by_cases hk : k < i
   · have : whereI (some k) < (i : Int) := by simp only [whereI]; omega
     rw [if_pos this]
     dsimp only
     rw [if_pos hk]
     simp only [List.append_assoc]
   · have : ¬ whereI (some k) < (i : Int) := by simp only [whereI]; omega
     rw [if_neg this]
     dsimp only
     rw [if_neg hk]
     simp only [List.append_assoc]
 rw [hgoal]
 obtain ⟨sa1, sc1, ba1, bc1, rfl, rfl, rfl, rfl, rfl⟩ := hA.five
 have hx0 : ∀ (X : World) (L' : List Pr), Tl w0.heap.size W X → CkI w0.heap.size cp cv L' X → Bk X W.heap.size 38 #[.string r.name, .int .u8 r.sort, .int .u8 r.body.kind, .string r.body.name, .string r.body.text, .slice sa1 r.body.set.length sc1, .slice ba1 r.body.subs.length bc1, .int .i64 r.p0, .int .i64 r.p1, .int .i64 r.p2] → (X.cell? ⟨cp, 0, none⟩ = some (.string cv.nm) ∧ X.cell? ⟨cp, 1, none⟩ = some (.int .i64 cv.o1) ∧ X.cell? ⟨cp, 2, none⟩ = some (.int .i64 cv.o2) ∧ X.cell? ⟨cp, 3, none⟩ = some (.slice (some ⟨b, o, none⟩) rs.length rc) ∧ X.cell? ⟨cp, 4, none⟩ = some (.slice (some ⟨eb, 0, none⟩) rs.length rs.length) ∧ X.cell? ⟨cp, 5, none⟩ = some (.slice (some ⟨rr, 0, none⟩) rs.length rs.length) ∧ X.cell? ⟨cp, 6, none⟩ = some (.slice (some ⟨rr2, 0, none⟩) rs.length rs.length) ∧ X.cell? ⟨W.heap.size, 0, none⟩ = some (.string r.name) ∧ X.cell? ⟨W.heap.size, 1, none⟩ = some (.int .u8 r.sort) ∧ X.cell? ⟨W.heap.size, 2, none⟩ = some (.int .u8 r.body.kind) ∧ X.cell? ⟨W.heap.size, 3, none⟩ = some (.string r.body.name) ∧ X.cell? ⟨W.heap.size, 4, none⟩ = some (.string r.body.text) ∧ X.cell? ⟨W.heap.size, 5, none⟩ = some (.slice sa1 r.body.set.length sc1) ∧ X.cell? ⟨W.heap.size, 6, none⟩ = some (.slice ba1 r.body.subs.length bc1) ∧ X.cell? ⟨rr, i, none⟩ = some (.slice (some ⟨r1, 0, none⟩) rs.length rs.length) ∧ X.cell? ⟨r1, i, none⟩ = some (.bool (reaAt rs i i)) ∧ X.cell? ⟨rr2, i, none⟩ = some (.slice (some ⟨r2, 0, none⟩) rs.length rs.length) ∧ X.cell? ⟨r2, i, none⟩ = some (.bool (reaAt (nmR rs) i i)) ∧ X.cell? ⟨eb, i, none⟩ = some (.bool ((emp rs).getD i false))) := fun X L' hT hI' hk => by
  obtain ⟨_, pv, hK, _⟩ := hI'
  rw [e1.1, e1.2.1, e1.2.2, hem, hre, hwi] at hK
  have hb := hB.trans hT.1
  exact ⟨by have := hK.cell 0; simpa using this, by have := hK.cell 1; simpa using this, by have := hK.cell 2; simpa using this, by have := hK.cell 3; simpa using this, by have := hK.cell 4; simpa using this, by have := hK.cell 5; simpa using this, by have := hK.cell 6; simpa using this,
   by have := hk.cell 0; simpa using this, by have := hk.cell 1; simpa using this, by have := hk.cell 2; simpa using this, by have := hk.cell 3; simpa using this, by have := hk.cell 4; simpa using this, by have := hk.cell 5; simpa using this, by have := hk.cell 6; simpa using this,
   Nd.cell_keeps hb t1, Nd.cell_keeps hb t2, Nd.cell_keeps hb t3, Nd.cell_keeps hb t4, Nd.cell_keeps hb t5⟩
 have hy0 : ∀ j v, w0.cell? ⟨b, j, none⟩ = some v → W.cell? ⟨b, j, none⟩ = some v := fun j v h => Nd.cell_keeps hB h
 obtain ⟨_, pv, hK, _⟩ := id hI
 rw [e1.1, e1.2.1, e1.2.2] at hK
 have k3 := hK.cell 3
 simp at k3
 have b0 := hy0 _ _ a0
 have b1 := hy0 _ _ a1
 have b2 := hy0 _ _ a2
 have b3 := hy0 _ _ a3
 have b4 := hy0 _ _ a4
 have b5 := hy0 _ _ a5
 have b6 := hy0 _ _ a6
 have b7 := hy0 _ _ a7
 have b8 := hy0 _ _ a8
 have b9 := hy0 _ _ a9
 obtain ⟨RN, hRN⟩ : ∃ k, rs.length = k := ⟨_, rfl⟩
 rw [hRN] at hx0 k3 hi
 have p0 : (i : Int) < (RN : Int) := by omega
 have n1 : (RN : Int) ≤ 9223372036854775807 := by omega
 have HE1 := Lib.hid e1
 have HRN := Lib.hid hRN
 rw [e1.1, e1.2.1, e1.2.2, hRN] at HFi
 have hSTn : (Tl w0.heap.size W (W.alloc (.cells #[.string r.name, .int .u8 r.sort, .int .u8 r.body.kind, .string r.body.name, .string r.body.text, .slice sa1 r.body.set.length sc1, .slice ba1 r.body.subs.length bc1, .int .i64 r.p0, .int .i64 r.p1, .int .i64 r.p2] 38)) ∧ CkI w0.heap.size cp cv (L) (W.alloc (.cells #[.string r.name, .int .u8 r.sort, .int .u8 r.body.kind, .string r.body.name, .string r.body.text, .slice sa1 r.body.set.length sc1, .slice ba1 r.body.subs.length bc1, .int .i64 r.p0, .int .i64 r.p1, .int .i64 r.p2] 38)) ∧ Bk (W.alloc (.cells #[.string r.name, .int .u8 r.sort, .int .u8 r.body.kind, .string r.body.name, .string r.body.text, .slice sa1 r.body.set.length sc1, .slice ba1 r.body.subs.length bc1, .int .i64 r.p0, .int .i64 r.p1, .int .i64 r.p2] 38)) W.heap.size 38 #[.string r.name, .int .u8 r.sort, .int .u8 r.body.kind, .string r.body.name, .string r.body.text, .slice sa1 r.body.set.length sc1, .slice ba1 r.body.subs.length bc1, .int .i64 r.p0, .int .i64 r.p1, .int .i64 r.p2]) := ⟨Tl.below hB.size ((Below.refl _ _).alloc (Nat.le_refl _) _), hI.alloc _, Bk.made _ _ _⟩
 have HX := Lib.hid (fun X (h : ∃ L', (Tl w0.heap.size W X ∧ CkI w0.heap.size cp cv (L') X ∧ Bk X W.heap.size 38 #[.string r.name, .int .u8 r.sort, .int .u8 r.body.kind, .string r.body.name, .string r.body.text, .slice sa1 r.body.set.length sc1, .slice ba1 r.body.subs.length bc1, .int .i64 r.p0, .int .i64 r.p1, .int .i64 r.p2])) => show (X.cell? ⟨cp, 0, none⟩ = some (.string cv.nm) ∧ X.cell? ⟨cp, 1, none⟩ = some (.int .i64 cv.o1) ∧ X.cell? ⟨cp, 2, none⟩ = some (.int .i64 cv.o2) ∧ X.cell? ⟨cp, 3, none⟩ = some (.slice (some ⟨b, o, none⟩) RN rc) ∧ X.cell? ⟨cp, 4, none⟩ = some (.slice (some ⟨eb, 0, none⟩) RN RN) ∧ X.cell? ⟨cp, 5, none⟩ = some (.slice (some ⟨rr, 0, none⟩) RN RN) ∧ X.cell? ⟨cp, 6, none⟩ = some (.slice (some ⟨rr2, 0, none⟩) RN RN) ∧ X.cell? ⟨W.heap.size, 0, none⟩ = some (.string r.name) ∧ X.cell? ⟨W.heap.size, 1, none⟩ = some (.int .u8 r.sort) ∧ X.cell? ⟨W.heap.size, 2, none⟩ = some (.int .u8 r.body.kind) ∧ X.cell? ⟨W.heap.size, 3, none⟩ = some (.string r.body.name) ∧ X.cell? ⟨W.heap.size, 4, none⟩ = some (.string r.body.text) ∧ X.cell? ⟨W.heap.size, 5, none⟩ = some (.slice sa1 r.body.set.length sc1) ∧ X.cell? ⟨W.heap.size, 6, none⟩ = some (.slice ba1 r.body.subs.length bc1) ∧ X.cell? ⟨rr, i, none⟩ = some (.slice (some ⟨r1, 0, none⟩) RN RN) ∧ X.cell? ⟨r1, i, none⟩ = some (.bool (reaAt rs i i)) ∧ X.cell? ⟨rr2, i, none⟩ = some (.slice (some ⟨r2, 0, none⟩) RN RN) ∧ X.cell? ⟨r2, i, none⟩ = some (.bool (reaAt (nmR rs) i i)) ∧ X.cell? ⟨eb, i, none⟩ = some (.bool ((emp rs).getD i false))) from h.elim fun L' h => hx0 X L' h.1 h.2.1 h.2.2)
 have HST := Lib.hid hSTn
 clear hx0 hy0 hK hS hR hgv hnm hrc hr hsm hsms hss hB hI hL hA hsr hns hrb hke hkr hkr2 t1 t2 t3 t4 t5 hem hre hwi hnmlen hgoal hSTn e1 hRN a0 a1 a2 a3 a4 a5 a6 a7 a8 a9
 generalize hfd : whereI (fnd rs r.name) = FD at *
 generalize reaAt rs i i = R4 at *
 generalize reaAt (nmR rs) i i = R5 at *
 generalize (emp rs).getD i false = EM at *
 generalize noneP rs i (nam r.body) = NP at *
 generalize sortP rs r.sort i (nam r.body) = SP at *
 generalize lpN (shE rs r) r.body = LN at *
 generalize (short rs r).length = SHL at *
 clear hfd
 obtain ⟨LA, hLA⟩ : ∃ l, L ++ (if FD < (i : Int) then [(⟨1, (i : Int), r.name⟩ : Pr)] else []) = l := ⟨_, rfl⟩
 rw [hLA]
 obtain ⟨LB, hLB⟩ : ∃ l, LA ++ NP ++ SP = l := ⟨_, rfl⟩
 rw [hLB]
 obtain ⟨LC, hLC⟩ : ∃ l, LB ++ (if r.sort = 0 ∧ R4 = true then [(⟨4, (i : Int), r.name⟩ : Pr)] else []) = l := ⟨_, rfl⟩
 rw [hLC]
 obtain ⟨LD, hLD⟩ : ∃ l, LC ++ (if R5 = true then [(⟨5, (i : Int), r.name⟩ : Pr)] else []) = l := ⟨_, rfl⟩
 rw [hLD]
 obtain ⟨LE, hLE⟩ : ∃ l, LD ++ List.replicate LN (⟨6, (i : Int), r.name⟩ : Pr) = l := ⟨_, rfl⟩
 rw [hLE]
 obtain ⟨LF, hLF⟩ : ∃ l, LE ++ (if (r.sort = 1 ∨ r.sort = 3) ∧ EM = true then [(⟨7, (i : Int), r.name⟩ : Pr)] else []) = l := ⟨_, rfl⟩
 rw [hLF]
 have HLN := Lib.hid (show (LA).length ≤ 500000 ∧ (LB).length ≤ 1000000 ∧ (LC).length ≤ 1000000 ∧ (LD).length + LN ≤ 500000 ∧ (LE).length ≤ 1000000 from by
  have hif : ∀ (c : Prop) [Decidable c] (x : Pr), (if c then [x] else []).length ≤ 1 := fun c _ x => by split <;> simp
  obtain ⟨h1, h2, h3, h4, h5, h6, _⟩ := HL.out
  have a1 := hif (FD < (i : Int)) (⟨1, (i : Int), r.name⟩ : Pr)
  have a2 := hif (r.sort = 0 ∧ R4 = true) (⟨4, (i : Int), r.name⟩ : Pr)
  have a3 := hif (R5 = true) (⟨5, (i : Int), r.name⟩ : Pr)
  rw [← hLE, ← hLD, ← hLC, ← hLB, ← hLA]
  simp only [List.length_append, List.length_replicate]
  omega)
 have HLA := Lib.hid hLA
 have HLB := Lib.hid hLB
 have HLC := Lib.hid hLC
 have HLD := Lib.hid hLD
 have HLE := Lib.hid hLE
 have HLF := Lib.hid hLF
 clear hLA hLB hLC hLD hLE hLF
 have HAX := Lib.hid (fun (X : World) (hT : Tl w0.heap.size W X) => show AtX (fun k => k < w0.heap.size) X r.body (.agg #[.int .u8 r.body.kind, .string r.body.name, .string r.body.text, .slice sa1 r.body.set.length sc1, .slice ba1 r.body.subs.length bc1]) from AtX.keep (fun _ h => h) (Stay.below (HL.out.2.2.2.2.2.2.1.trans hT.1)) _ (AtX.of (fun k h => h) _ HA0.out))
 go_enter Tryd.func44, Tryd.ntmps44
 go_wp2_with fail
 obtain ⟨X0, hX0⟩ : ∃ X, W.alloc (.cells #[.string r.name, .int .u8 r.sort, .int .u8 r.body.kind, .string r.body.name, .string r.body.text, .slice sa1 r.body.set.length sc1, .slice ba1 r.body.subs.length bc1, .int .i64 r.p0, .int .i64 r.p1, .int .i64 r.p2] 38) = X := ⟨_, rfl⟩
 rw [hX0] at HST ⊢
 clear hX0 b0 b1 b2 b3 b4 b5 b6 b7 b8 b9 k3
 have h0 := HST.out
 obtain ⟨q0, q1, q2, q3, q4, q5, q6, q7, q8, q9, q10, q11, q12, q13, q14, q15, q16, q17, q18⟩ := HX.out X0 ⟨_, h0⟩
 have HS1 := Lib.hid (fun X (h : Below X0.heap.size X0 X) => show (X.cell? ⟨cp, 0, none⟩ = some (.string cv.nm) ∧ X.cell? ⟨cp, 1, none⟩ = some (.int .i64 cv.o1) ∧ X.cell? ⟨cp, 2, none⟩ = some (.int .i64 cv.o2) ∧ X.cell? ⟨cp, 3, none⟩ = some (.slice (some ⟨b, o, none⟩) RN rc) ∧ X.cell? ⟨W.heap.size, 0, none⟩ = some (.string r.name)) from ⟨Nd.cell_keeps h q0, Nd.cell_keeps h q1, Nd.cell_keeps h q2, Nd.cell_keeps h q3, Nd.cell_keeps h q7⟩)
 refine wp_cutL (fun a a' w' => Tmz (fun f => #[.pointer (some ⟨cp, 0, none⟩), .int .i64 (i : Int), f 2, f 3, .pointer (some ⟨W.heap.size, 0, none⟩), f 5, f 6, f 7, f 8, f 9, f 10, f 11, f 12, f 13, f 14, f 15, f 16, f 17, f 18, f 19, f 20, .bool (decide (FD < (i : Int))), f 22, f 23, f 24, f 25, f 26, f 27, f 28, f 29, f 30, f 31, f 32, f 33, f 34, f 35, f 36, f 37, f 38, f 39, f 40, f 41, f 42, f 43, f 44, f 45, f 46, f 47, f 48, f 49, f 50, f 51, f 52, f 53, f 54, f 55, f 56, f 57, f 58, f 59, f 60, f 61, f 62, f 63, f 64, f 65, f 66, f 67, f 68, f 69, f 70, f 71, f 72, f 73, f 74, f 75, f 76, f 77, f 78, f 79, f 80, f 81, f 82, f 83, f 84, f 85, f 86, f 87, f 88, f 89, f 90, f 91, f 92, f 93, f 94]) (Tl w0.heap.size W w' ∧ CkI w0.heap.size cp cv (L) w' ∧ Bk w' W.heap.size 38 #[.string r.name, .int .u8 r.sort, .int .u8 r.body.kind, .string r.body.name, .string r.body.text, .slice sa1 r.body.set.length sc1, .slice ba1 r.body.subs.length bc1, .int .i64 r.p0, .int .i64 r.p1, .int .i64 r.p2]) a') ?first1 ?next1
 case first1 =>
  refine wp_region_held_drew (S := fun w' : World => (w'.cell? ⟨cp, 0, none⟩ = some (.string cv.nm) ∧ w'.cell? ⟨cp, 1, none⟩ = some (.int .i64 cv.o1) ∧ w'.cell? ⟨cp, 2, none⟩ = some (.int .i64 cv.o2) ∧ w'.cell? ⟨cp, 3, none⟩ = some (.slice (some ⟨b, o, none⟩) RN rc) ∧ w'.cell? ⟨W.heap.size, 0, none⟩ = some (.string r.name))) (by kernel_rfl) ⟨q0, q1, q2, q3, q7⟩ (fun hSS => ?_)
  show wpAnyH _ _ _ _ _ 9 #[false, false, false, false, false, false, false, false, false] _ _
  refine zqT 0 (some 13) _ (zqF 9 1) (by rw [List.getElem?_toArray]; rfl) rfl (by kernel_rfl) rfl (fun _ _ _ h => h) (Or.inl ⟨by rfl, fun w' hSw => by (try dsimp only at hSw); go_simp; try with_reducible rfl⟩) hSS ?_
  simp only [zqN]
  refine zqT 1 (some 14) _ (zqF 9 2) (by rw [List.getElem?_toArray]; rfl) rfl (by kernel_rfl) rfl (fun _ _ _ h => h) (Or.inl ⟨by rfl, fun w' hSw => by (try dsimp only at hSw); go_simp; try with_reducible rfl⟩) hSS ?_
  simp only [zqN]
  refine zqT 2 (some 15) _ (zqF 9 3) (by rw [List.getElem?_toArray]; rfl) rfl (by kernel_rfl) rfl (fun _ _ _ h => h) (Or.inl ⟨by rfl, fun w' hSw => by (try dsimp only at hSw); go_simp; try with_reducible rfl⟩) hSS ?_
  simp only [zqN]
  refine zqT 3 (some 16) _ (zqF 9 4) (by rw [List.getElem?_toArray]; rfl) rfl (by kernel_rfl) rfl (fun _ _ _ h => h) (Or.inl ⟨by rfl, fun w' hSw => by (try dsimp only at hSw); go_simp; try with_reducible rfl⟩) hSS ?_
  simp only [zqN]
  refine zqT 4 (some 17) _ (zqF 9 5) (by rw [List.getElem?_toArray]; rfl) rfl (by kernel_rfl) rfl (fun _ _ _ h => h) (Or.inl ⟨by rfl, fun w' hSw => by (try dsimp only at hSw); go_simp; try with_reducible rfl⟩) hSS ?_
  simp only [zqN]
  refine zqT 5 (some 18) _ (zqF 9 6) (by rw [List.getElem?_toArray]; rfl) rfl (by kernel_rfl) rfl (fun _ _ _ h => h) (Or.inl ⟨by rfl, fun w' hSw => by (try dsimp only at hSw); go_simp; try with_reducible rfl⟩) hSS ?_
  simp only [zqN]
  refine zqT 7 (some 20) _ #[true, true, true, true, true, true, false, true, false] (by rw [List.getElem?_toArray]; rfl) rfl (by kernel_rfl) rfl (fun _ _ _ h => h) (Or.inl ⟨by rfl, fun w' hSw => by (try dsimp only at hSw); go_simp; try with_reducible rfl⟩) hSS ?_
  simp only [zqN]
  refine come_one (i := 6) (l' := (zqF 9 8)) (by rw [List.getElem?_toArray]; rfl) (by kernel_rfl) rfl (fun K' hK => ?_)
  go_simp
  go_at_call 25
  refine (HFi.out _ h0.1.drew).mono ?_
  rintro e X1 ⟨rfl, hb0⟩
  have hb : Below X0.heap.size X0 X1 := (Below.refl _ _).drew.trans hb0
  have hS1 := HS1.out X1 hb
  refine hK.out _ _ hS1 (fun hSS => ?_)
  try simp only [zqN]
  refine zqT 8 (some 21) _ (zqF 9 9) (by rw [List.getElem?_toArray]; rfl) rfl (by kernel_rfl) rfl (fun _ _ _ h => h) (Or.inl ⟨by rfl, fun w' hSw => by (try dsimp only at hSw); go_simp; try with_reducible rfl⟩) hSS ?_
  simp only [zqN]
  refine wpAnyH_done (by kernel_rfl) ?_ _
  exact tmz_mk ⟨h0.1.trans (Tl.below (Nat.le_trans HL.out.2.2.2.2.2.2.1.size h0.1.1.size) hb), h0.2.1.below hb, h0.2.2.below hb h0.2.2.lt⟩ (by kernel_rfl)
 case next1 =>
  rintro a' X1 hTz
  obtain ⟨f, h1_, rfl⟩ := tmz_el hTz
  have h1 := Lib.hid h1_
  clear hTz h1_
  clear q0 q1 q2 q3 q4 q5 q6 q7 q8 q9 q10 q11 q12 q13 q14 q15 q16 q17 q18 HS1 h0
  obtain ⟨q0, q1, q2, q3, q4, q5, q6, q7, q8, q9, q10, q11, q12, q13, q14, q15, q16, q17, q18⟩ := HX.out X1 ⟨_, h1.out⟩
  go_upto_if 21 with (fail)
  refine wp_cutL (fun a a' w' => Tmz (fun f => #[.pointer (some ⟨cp, 0, none⟩), .int .i64 (i : Int), f 2, f 3, .pointer (some ⟨W.heap.size, 0, none⟩), f 5, f 6, f 7, f 8, f 9, f 10, f 11, f 12, f 13, f 14, f 15, f 16, f 17, f 18, f 19, f 20, f 21, f 22, f 23, f 24, f 25, f 26, f 27, f 28, f 29, f 30, f 31, f 32, f 33, f 34, f 35, f 36, f 37, f 38, f 39, f 40, f 41, f 42, f 43, f 44, f 45, f 46, f 47, f 48, f 49, f 50, f 51, f 52, f 53, f 54, f 55, f 56, f 57, f 58, f 59, f 60, f 61, f 62, f 63, f 64, f 65, f 66, f 67, f 68, f 69, f 70, f 71, f 72, f 73, f 74, f 75, f 76, f 77, f 78, f 79, f 80, f 81, f 82, f 83, f 84, f 85, f 86, f 87, f 88, f 89, f 90, f 91, f 92, f 93, f 94]) (Tl w0.heap.size W w' ∧ CkI w0.heap.size cp cv (LA) w' ∧ Bk w' W.heap.size 38 #[.string r.name, .int .u8 r.sort, .int .u8 r.body.kind, .string r.body.name, .string r.body.text, .slice sa1 r.body.set.length sc1, .slice ba1 r.body.subs.length bc1, .int .i64 r.p0, .int .i64 r.p1, .int .i64 r.p2]) a') ?first2 ?next2
  case first2 =>
   by_cases hc : FD < (i : Int)
   · have dc : decide (FD < (i : Int)) = true := decide_eq_true hc
     have HQ := Lib.hid (show L ++ [(⟨1, (i : Int), r.name⟩ : Pr)] = LA from by rw [← HLA.out, if_pos hc])
     go_wp2_with (go_at_call 46; refine (HTe.out X1 (L) 1 h1.out.2.1 (by have := HL.out.1; omega)).mono ?_; rintro e w7 ⟨⟨v7, rfl⟩, hI7, hT7⟩; rw [HQ.out] at hI7; have H7 := Lib.hid (And.intro hI7 hT7); clear hI7 hT7)
     exact tmz_mk ⟨h1.out.1.trans H7.out.2, H7.out.1, H7.out.2.bk h1.out.2.2 (by decide) (by decide)⟩ (by kernel_rfl)
   · have dc : decide (FD < (i : Int)) = false := decide_eq_false hc
     have HQ := Lib.hid (show L = LA from by rw [← HLA.out, if_neg hc, List.append_nil])
     go_wp2_with fail
     exact tmz_mk (by rw [← HQ.out]; exact h1.out) (by kernel_rfl)
  case next2 =>
   rintro a' X2 hTz
   obtain ⟨f, h2_, rfl⟩ := tmz_el hTz
   have h2 := Lib.hid h2_
   clear hTz h2_
   clear q0 q1 q2 q3 q4 q5 q6 q7 q8 q9 q10 q11 q12 q13 q14 q15 q16 q17 q18 h1
   go_upto_region 4 with (go_at_call 61; refine (HMis.out X2 (LA) h2.out.1 h2.out.2.1 HLN.out.1).mono ?_; rintro e X3 ⟨⟨v3, rfl⟩, hI3, hT3⟩; rw [HLB.out] at hI3; have H3 := Lib.hid (And.intro hI3 hT3); clear hI3 hT3)
   have h3 : (Tl w0.heap.size W X3 ∧ CkI w0.heap.size cp cv (LB) X3 ∧ Bk X3 W.heap.size 38 #[.string r.name, .int .u8 r.sort, .int .u8 r.body.kind, .string r.body.name, .string r.body.text, .slice sa1 r.body.set.length sc1, .slice ba1 r.body.subs.length bc1, .int .i64 r.p0, .int .i64 r.p1, .int .i64 r.p2]) := ⟨h2.out.1.trans H3.out.2, H3.out.1, H3.out.2.bk h2.out.2.2 (by decide) (by decide)⟩
   replace h3 := Lib.hid h3
   clear h2 H3
   obtain ⟨q0, q1, q2, q3, q4, q5, q6, q7, q8, q9, q10, q11, q12, q13, q14, q15, q16, q17, q18⟩ := HX.out X3 ⟨_, h3.out⟩
   refine wp_cutL (fun a a' w' => Tmz (fun f => #[.pointer (some ⟨cp, 0, none⟩), .int .i64 (i : Int), f 2, f 3, .pointer (some ⟨W.heap.size, 0, none⟩), f 5, f 6, f 7, f 8, f 9, f 10, f 11, f 12, f 13, f 14, f 15, f 16, f 17, f 18, f 19, f 20, f 21, f 22, f 23, f 24, f 25, f 26, f 27, f 28, f 29, f 30, f 31, f 32, f 33, f 34, f 35, f 36, f 37, f 38, f 39, f 40, f 41, f 42, f 43, .bool (decide (r.sort = 0) && R4), f 45, f 46, f 47, f 48, f 49, f 50, f 51, f 52, f 53, f 54, f 55, f 56, f 57, f 58, f 59, f 60, f 61, f 62, f 63, f 64, f 65, f 66, f 67, f 68, f 69, f 70, f 71, f 72, f 73, f 74, f 75, f 76, f 77, f 78, f 79, f 80, f 81, f 82, f 83, f 84, f 85, f 86, f 87, f 88, f 89, f 90, f 91, f 92, f 93, f 94]) (Tl w0.heap.size W w' ∧ CkI w0.heap.size cp cv (LB) w' ∧ Bk w' W.heap.size 38 #[.string r.name, .int .u8 r.sort, .int .u8 r.body.kind, .string r.body.name, .string r.body.text, .slice sa1 r.body.set.length sc1, .slice ba1 r.body.subs.length bc1, .int .i64 r.p0, .int .i64 r.p1, .int .i64 r.p2]) a') ?first3 ?next3
   case first3 =>
    by_cases hs : r.sort = 0
    · have qs : (r.sort == 0) = true := by rw [hs]; rfl
      have ds : decide (r.sort = 0) = true := decide_eq_true hs
      rw [ds, Bool.true_and]
      clear hs ds
      go_wp2_with fail
      exact tmz_mk h3.out (by kernel_rfl)
    · have qs : (r.sort == 0) = false := by simpa using hs
      have ds : decide (r.sort = 0) = false := decide_eq_false hs
      rw [ds, Bool.false_and]
      clear hs ds
      go_wp2_with fail
      exact tmz_mk h3.out (by kernel_rfl)
   case next3 =>
    rintro a' X3' hTz
    obtain ⟨f, h3'_, rfl⟩ := tmz_el hTz
    have h3' := Lib.hid h3'_
    clear hTz h3'_
    clear q0 q1 q2 q3 q4 q5 q6 q7 q8 q9 q10 q11 q12 q13 q14 q15 q16 q17 q18 h3
    obtain ⟨q0, q1, q2, q3, q4, q5, q6, q7, q8, q9, q10, q11, q12, q13, q14, q15, q16, q17, q18⟩ := HX.out X3' ⟨_, h3'.out⟩
    go_upto_if 44 with (fail)
    refine wp_cutL (fun a a' w' => Tmz (fun f => #[.pointer (some ⟨cp, 0, none⟩), .int .i64 (i : Int), f 2, f 3, .pointer (some ⟨W.heap.size, 0, none⟩), f 5, f 6, f 7, f 8, f 9, f 10, f 11, f 12, f 13, f 14, f 15, f 16, f 17, f 18, f 19, f 20, f 21, f 22, f 23, f 24, f 25, f 26, f 27, f 28, f 29, f 30, f 31, f 32, f 33, f 34, f 35, f 36, f 37, f 38, f 39, f 40, f 41, f 42, f 43, f 44, f 45, f 46, f 47, f 48, f 49, f 50, f 51, f 52, f 53, f 54, f 55, f 56, f 57, f 58, f 59, f 60, f 61, f 62, f 63, f 64, f 65, f 66, f 67, f 68, f 69, f 70, f 71, f 72, f 73, f 74, f 75, f 76, f 77, f 78, f 79, f 80, f 81, f 82, f 83, f 84, f 85, f 86, f 87, f 88, f 89, f 90, f 91, f 92, f 93, f 94]) (Tl w0.heap.size W w' ∧ CkI w0.heap.size cp cv (LC) w' ∧ Bk w' W.heap.size 38 #[.string r.name, .int .u8 r.sort, .int .u8 r.body.kind, .string r.body.name, .string r.body.text, .slice sa1 r.body.set.length sc1, .slice ba1 r.body.subs.length bc1, .int .i64 r.p0, .int .i64 r.p1, .int .i64 r.p2]) a') ?first4 ?next4
    case first4 =>
     cases hB : (decide (r.sort = 0) && R4) with
     | true =>
      have hc : r.sort = 0 ∧ R4 = true := by simpa using hB
      have HQ := Lib.hid (show LB ++ [(⟨4, (i : Int), r.name⟩ : Pr)] = LC from by rw [← HLC.out, if_pos hc])
      clear hc hB
      go_wp2_with (go_at_call 46; refine (HTe.out X3' (LB) 4 h3'.out.2.1 HLN.out.2.1).mono ?_; rintro e w7 ⟨⟨v7, rfl⟩, hI7, hT7⟩; rw [HQ.out] at hI7; have H7 := Lib.hid (And.intro hI7 hT7); clear hI7 hT7)
      exact tmz_mk ⟨h3'.out.1.trans H7.out.2, H7.out.1, H7.out.2.bk h3'.out.2.2 (by decide) (by decide)⟩ (by kernel_rfl)
     | false =>
      have hc : ¬ (r.sort = 0 ∧ R4 = true) := by simpa using hB
      have HQ := Lib.hid (show LB = LC from by rw [← HLC.out, if_neg hc, List.append_nil])
      clear hc hB
      go_wp2_with fail
      exact tmz_mk (by rw [← HQ.out]; exact h3'.out) (by kernel_rfl)
    case next4 =>
     rintro a' X4 hTz
     obtain ⟨f, h4_, rfl⟩ := tmz_el hTz
     have h4 := Lib.hid h4_
     clear hTz h4_
     clear q0 q1 q2 q3 q4 q5 q6 q7 q8 q9 q10 q11 q12 q13 q14 q15 q16 q17 q18 h3'
     obtain ⟨q0, q1, q2, q3, q4, q5, q6, q7, q8, q9, q10, q11, q12, q13, q14, q15, q16, q17, q18⟩ := HX.out X4 ⟨_, h4.out⟩
     go_upto_if 59 with (fail)
     refine wp_cutL (fun a a' w' => Tmz (fun f => #[.pointer (some ⟨cp, 0, none⟩), .int .i64 (i : Int), f 2, f 3, .pointer (some ⟨W.heap.size, 0, none⟩), f 5, f 6, f 7, f 8, f 9, f 10, f 11, f 12, f 13, f 14, f 15, f 16, f 17, f 18, f 19, f 20, f 21, f 22, f 23, f 24, f 25, f 26, f 27, f 28, f 29, f 30, f 31, f 32, f 33, f 34, f 35, f 36, f 37, f 38, f 39, f 40, f 41, f 42, f 43, f 44, f 45, f 46, f 47, f 48, f 49, f 50, f 51, f 52, f 53, f 54, f 55, f 56, f 57, f 58, f 59, f 60, f 61, f 62, f 63, f 64, f 65, f 66, f 67, f 68, f 69, f 70, f 71, f 72, f 73, f 74, f 75, f 76, f 77, f 78, f 79, f 80, f 81, f 82, f 83, f 84, f 85, f 86, f 87, f 88, f 89, f 90, f 91, f 92, f 93, f 94]) (Tl w0.heap.size W w' ∧ CkI w0.heap.size cp cv (LD) w' ∧ Bk w' W.heap.size 38 #[.string r.name, .int .u8 r.sort, .int .u8 r.body.kind, .string r.body.name, .string r.body.text, .slice sa1 r.body.set.length sc1, .slice ba1 r.body.subs.length bc1, .int .i64 r.p0, .int .i64 r.p1, .int .i64 r.p2]) a') ?first5 ?next5
     case first5 =>
      cases R5 with
      | true =>
       have HQ := Lib.hid (show LC ++ [(⟨5, (i : Int), r.name⟩ : Pr)] = LD from by rw [← HLD.out, if_pos rfl])
       go_wp2_with (go_at_call 46; refine (HTe.out X4 (LC) 5 h4.out.2.1 HLN.out.2.2.1).mono ?_; rintro e w7 ⟨⟨v7, rfl⟩, hI7, hT7⟩; rw [HQ.out] at hI7; have H7 := Lib.hid (And.intro hI7 hT7); clear hI7 hT7)
       exact tmz_mk ⟨h4.out.1.trans H7.out.2, H7.out.1, H7.out.2.bk h4.out.2.2 (by decide) (by decide)⟩ (by kernel_rfl)
      | false =>
       have HQ := Lib.hid (show LC = LD from by rw [← HLD.out, if_neg (by simp), List.append_nil])
       go_wp2_with fail
       exact tmz_mk (by rw [← HQ.out]; exact h4.out) (by kernel_rfl)
     case next5 =>
      rintro a' X5 hTz
      obtain ⟨f, h5_, rfl⟩ := tmz_el hTz
      have h5 := Lib.hid h5_
      clear hTz h5_
      clear q0 q1 q2 q3 q4 q5 q6 q7 q8 q9 q10 q11 q12 q13 q14 q15 q16 q17 q18 h4
      obtain ⟨q0, q1, q2, q3, q4, q5, q6, q7, q8, q9, q10, q11, q12, q13, q14, q15, q16, q17, q18⟩ := HX.out X5 ⟨_, h5.out⟩
      have HS8 := Lib.hid (fun X (h : Below X5.heap.size X5 X) => show (X.cell? ⟨W.heap.size, 2, none⟩ = some (.int .u8 r.body.kind) ∧ X.cell? ⟨W.heap.size, 3, none⟩ = some (.string r.body.name) ∧ X.cell? ⟨W.heap.size, 4, none⟩ = some (.string r.body.text) ∧ X.cell? ⟨W.heap.size, 5, none⟩ = some (.slice sa1 r.body.set.length sc1) ∧ X.cell? ⟨W.heap.size, 6, none⟩ = some (.slice ba1 r.body.subs.length bc1)) from ⟨Nd.cell_keeps h q9, Nd.cell_keeps h q10, Nd.cell_keeps h q11, Nd.cell_keeps h q12, Nd.cell_keeps h q13⟩)
      have HSB := Lib.hid (fun X (h : Bk X W.heap.size 38 #[.string r.name, .int .u8 r.sort, .int .u8 r.body.kind, .string r.body.name, .string r.body.text, .slice sa1 r.body.set.length sc1, .slice ba1 r.body.subs.length bc1, .int .i64 r.p0, .int .i64 r.p1, .int .i64 r.p2]) => show (X.cell? ⟨W.heap.size, 2, none⟩ = some (.int .u8 r.body.kind) ∧ X.cell? ⟨W.heap.size, 3, none⟩ = some (.string r.body.name) ∧ X.cell? ⟨W.heap.size, 4, none⟩ = some (.string r.body.text) ∧ X.cell? ⟨W.heap.size, 5, none⟩ = some (.slice sa1 r.body.set.length sc1) ∧ X.cell? ⟨W.heap.size, 6, none⟩ = some (.slice ba1 r.body.subs.length bc1)) from ⟨by have := h.cell 2; simpa using this, by have := h.cell 3; simpa using this, by have := h.cell 4; simpa using this, by have := h.cell 5; simpa using this, by have := h.cell 6; simpa using this⟩)
      go_wp2_with fail
      refine wp_cutL (fun a a' w' => Tmz (fun f => #[.pointer (some ⟨cp, 0, none⟩), .int .i64 (i : Int), f 2, f 3, .pointer (some ⟨W.heap.size, 0, none⟩), f 5, f 6, f 7, f 8, f 9, f 10, f 11, f 12, f 13, f 14, f 15, f 16, f 17, f 18, f 19, f 20, f 21, f 22, f 23, f 24, f 25, f 26, f 27, f 28, f 29, f 30, f 31, f 32, f 33, f 34, f 35, f 36, f 37, f 38, f 39, f 40, f 41, f 42, f 43, f 44, f 45, f 46, f 47, f 48, f 49, f 50, f 51, f 52, f 53, f 54, f 55, f 56, f 57, f 58, f 59, f 60, f 61, f 62, f 63, f 64, f 65, f 66, f 67, f 68, f 69, f 70, f 71, f 72, f 73, f 74, f 75, f 76, f 77, f 78, f 79, f 80, f 81, f 82, f 83, f 84, f 85, f 86, f 87, f 88, f 89, f 90, f 91, f 92, f 93, f 94]) (Tl w0.heap.size W w' ∧ CkI w0.heap.size cp cv (LE) w' ∧ Bk w' W.heap.size 38 #[.string r.name, .int .u8 r.sort, .int .u8 r.body.kind, .string r.body.name, .string r.body.text, .slice sa1 r.body.set.length sc1, .slice ba1 r.body.subs.length bc1, .int .i64 r.p0, .int .i64 r.p1, .int .i64 r.p2]) a') ?first6 ?next6
      case first6 =>
       refine wp_region_held_drew (S := fun w' : World => (w'.cell? ⟨W.heap.size, 2, none⟩ = some (.int .u8 r.body.kind) ∧ w'.cell? ⟨W.heap.size, 3, none⟩ = some (.string r.body.name) ∧ w'.cell? ⟨W.heap.size, 4, none⟩ = some (.string r.body.text) ∧ w'.cell? ⟨W.heap.size, 5, none⟩ = some (.slice sa1 r.body.set.length sc1) ∧ w'.cell? ⟨W.heap.size, 6, none⟩ = some (.slice ba1 r.body.subs.length bc1))) (by kernel_rfl) ⟨q9, q10, q11, q12, q13⟩ (fun hSS => ?_)
       show wpAnyH _ _ _ _ _ 8 #[false, false, false, false, false, false, false, false] _ _
       refine zqT 0 (some 65) _ (zqF 8 1) (by rw [List.getElem?_toArray]; rfl) rfl (by kernel_rfl) rfl (fun _ _ _ h => h) (Or.inl ⟨by rfl, fun w' hSw => by (try dsimp only at hSw); go_simp; try with_reducible rfl⟩) hSS ?_
       simp only [zqN]
       refine zqT 1 (some 66) _ (zqF 8 2) (by rw [List.getElem?_toArray]; rfl) rfl (by kernel_rfl) rfl (fun _ _ _ h => h) (Or.inl ⟨by rfl, fun w' hSw => by (try dsimp only at hSw); go_simp; try with_reducible rfl⟩) hSS ?_
       simp only [zqN]
       refine zqT 2 (some 67) _ (zqF 8 3) (by rw [List.getElem?_toArray]; rfl) rfl (by kernel_rfl) rfl (fun _ _ _ h => h) (Or.inl ⟨by rfl, fun w' hSw => by (try dsimp only at hSw); go_simp; try with_reducible rfl⟩) hSS ?_
       simp only [zqN]
       refine zqT 3 (some 68) _ (zqF 8 4) (by rw [List.getElem?_toArray]; rfl) rfl (by kernel_rfl) rfl (fun _ _ _ h => h) (Or.inl ⟨by rfl, fun w' hSw => by (try dsimp only at hSw); go_simp; try with_reducible rfl⟩) hSS ?_
       simp only [zqN]
       refine zqT 5 (some 70) _ #[true, true, true, true, false, true, false, false] (by rw [List.getElem?_toArray]; rfl) rfl (by kernel_rfl) rfl (fun _ _ _ h => h) (Or.inl ⟨by rfl, fun w' hSw => by (try dsimp only at hSw); go_simp; try with_reducible rfl⟩) hSS ?_
       simp only [zqN]
       refine zqT 6 (some 71) _ #[true, true, true, true, false, true, true, false] (by rw [List.getElem?_toArray]; rfl) rfl (by kernel_rfl) rfl (fun _ _ _ h => h) (Or.inl ⟨by rfl, fun w' hSw => by (try dsimp only at hSw); go_simp; try with_reducible rfl⟩) hSS ?_
       simp only [zqN]
       refine come_one (i := 4) (l' := (zqF 8 7)) (by rw [List.getElem?_toArray]; rfl) (by kernel_rfl) rfl (fun K' hK => ?_)
       go_simp
       go_at_call 63
       obtain ⟨_, pv, hKK, _⟩ := id h5.out.2.1
       refine (HSh.out X5.drew pv h5.out.1.drew hKK).mono ?_
       rintro e X6 ⟨⟨rb, cap, cs, rfl, hcap, hrb, hkb, hrc⟩, hb⟩
       have hb' : Below X5.heap.size X5 X6 := (Below.refl _ _).drew.trans hb
       have hT6 := Tl.below (n₀ := w0.heap.size) (Nat.le_trans HL.out.2.2.2.2.2.2.1.size h5.out.1.1.size) hb'
       have hS6 := HS8.out X6 hb'
       refine hK.out _ _ hS6 (fun hSS => ?_)
       try simp only [zqN]
       refine come_one (i := 7) (l' := (zqF 8 8)) (by rw [List.getElem?_toArray]; rfl) (by kernel_rfl) rfl (fun K' hK => ?_)
       go_simp
       go_at_call 62
       refine (HLo.out X6 rb cap cs (h5.out.1.trans hT6) hcap (Nat.le_trans HL.out.2.2.2.2.2.2.1.size (Nat.le_trans h5.out.1.1.size hrb)) hkb hrc (fun k => k < w0.heap.size) _ X6 (LD) (Tl.refl _ _) (HAX.out X6 (h5.out.1.trans hT6)) (fun k hk => .inl hk) (h5.out.2.1.below hb') HLN.out.2.2.2.1).mono ?_
       rintro e X7 ⟨⟨v7, rfl, _⟩, hI7, hT7⟩
       rw [HLE.out] at hI7
       have hkB := (hT6.trans hT7).bk h5.out.2.2 (by decide) (by decide)
       have hS7 := HSB.out X7 hkB
       refine hK.out _ _ hS7 (fun hSS => ?_)
       try simp only [zqN]
       refine wpAnyH_done (by kernel_rfl) ?_ _
       exact tmz_mk ⟨h5.out.1.trans (hT6.trans hT7), hI7, hkB⟩ (by kernel_rfl)
      case next6 =>
       rintro a' X6 hTz
       obtain ⟨f, h6_, rfl⟩ := tmz_el hTz
       have h6 := Lib.hid h6_
       clear hTz h6_
       clear q0 q1 q2 q3 q4 q5 q6 q7 q8 q9 q10 q11 q12 q13 q14 q15 q16 q17 q18 h5 HS8 HSB
       obtain ⟨q0, q1, q2, q3, q4, q5, q6, q7, q8, q9, q10, q11, q12, q13, q14, q15, q16, q17, q18⟩ := HX.out X6 ⟨_, h6.out⟩
       go_upto_region 9 with (fail)
       refine wp_cutL (fun a a' w' => Tmz (fun f => #[.pointer (some ⟨cp, 0, none⟩), .int .i64 (i : Int), f 2, f 3, .pointer (some ⟨W.heap.size, 0, none⟩), f 5, f 6, f 7, f 8, f 9, f 10, f 11, f 12, f 13, f 14, f 15, f 16, f 17, f 18, f 19, f 20, f 21, f 22, f 23, f 24, f 25, f 26, f 27, f 28, f 29, f 30, f 31, f 32, f 33, f 34, f 35, f 36, f 37, f 38, f 39, f 40, f 41, f 42, f 43, f 44, f 45, f 46, f 47, f 48, f 49, f 50, f 51, f 52, f 53, f 54, f 55, f 56, f 57, f 58, f 59, f 60, f 61, f 62, f 63, f 64, f 65, f 66, f 67, f 68, f 69, f 70, f 71, f 72, f 73, f 74, f 75, f 76, f 77, f 78, f 79, f 80, f 81, f 82, f 83, f 84, f 85, f 86, f 87, f 88, .bool ((decide (r.sort = 1) || decide (r.sort = 3)) && EM), f 90, f 91, f 92, f 93, f 94]) (Tl w0.heap.size W w' ∧ CkI w0.heap.size cp cv (LE) w' ∧ Bk w' W.heap.size 38 #[.string r.name, .int .u8 r.sort, .int .u8 r.body.kind, .string r.body.name, .string r.body.text, .slice sa1 r.body.set.length sc1, .slice ba1 r.body.subs.length bc1, .int .i64 r.p0, .int .i64 r.p1, .int .i64 r.p2]) a') ?first7 ?next7
       case first7 =>
        by_cases hs : r.sort = 1
        · have qs : (r.sort == 1) = true := by rw [hs]; rfl
          have ds : decide (r.sort = 1) = true := decide_eq_true hs
          rw [ds, Bool.true_or, Bool.true_and]
          clear hs ds
          go_wp2_with fail
          exact tmz_mk h6.out (by kernel_rfl)
        · have qs : (r.sort == 1) = false := by simpa using hs
          have ds : decide (r.sort = 1) = false := decide_eq_false hs
          rw [ds, Bool.false_or]
          clear hs ds
          by_cases hs : r.sort = 3
          · have qs3 : (r.sort == 3) = true := by rw [hs]; rfl
            have ds : decide (r.sort = 3) = true := decide_eq_true hs
            rw [ds, Bool.true_and]
            clear hs ds
            go_wp2_with fail
            exact tmz_mk h6.out (by kernel_rfl)
          · have qs3 : (r.sort == 3) = false := by simpa using hs
            have ds : decide (r.sort = 3) = false := decide_eq_false hs
            rw [ds, Bool.false_and]
            clear hs ds
            go_wp2_with fail
            exact tmz_mk h6.out (by kernel_rfl)
       case next7 =>
        rintro a' X7 hTz
        obtain ⟨f, h7_, rfl⟩ := tmz_el hTz
        have h7 := Lib.hid h7_
        clear hTz h7_
        clear q0 q1 q2 q3 q4 q5 q6 q7 q8 q9 q10 q11 q12 q13 q14 q15 q16 q17 q18 h6
        obtain ⟨q0, q1, q2, q3, q4, q5, q6, q7, q8, q9, q10, q11, q12, q13, q14, q15, q16, q17, q18⟩ := HX.out X7 ⟨_, h7.out⟩
        cases hB : ((decide (r.sort = 1) || decide (r.sort = 3)) && EM) with
        | true =>
         have hc : (r.sort = 1 ∨ r.sort = 3) ∧ EM = true := by simpa using hB
         have HQ := Lib.hid (show LE ++ [(⟨7, (i : Int), r.name⟩ : Pr)] = LF from by rw [← HLF.out, if_pos hc])
         clear hc hB
         go_wp2_with (go_at_call 46; refine (HTe.out X7 (LE) 7 h7.out.2.1 HLN.out.2.2.2.2).mono ?_; rintro e w7 ⟨⟨v7, rfl⟩, hI7, hT7⟩; rw [HQ.out] at hI7; have H7 := Lib.hid (And.intro hI7 hT7); clear hI7 hT7)
         go_end0
         exact ⟨⟨_, rfl⟩, H7.out.1, h7.out.1.trans H7.out.2⟩
        | false =>
         have hc : ¬ ((r.sort = 1 ∨ r.sort = 3) ∧ EM = true) := by simpa using hB
         have HQ := Lib.hid (show LE = LF from by rw [← HLF.out, if_neg hc, List.append_nil])
         clear hc hB
         go_wp2_with fail
         go_end0
         exact ⟨⟨_, rfl⟩, by rw [← HQ.out]; exact h7.out.2.1, h7.out.1⟩
end Go.Proofs.YtiinkhmgemoamaaDoor
