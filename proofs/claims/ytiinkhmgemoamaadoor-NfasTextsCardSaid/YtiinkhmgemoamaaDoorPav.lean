/- A part put behind another one: the contract of behind. What lies in memory when a place is made. A place made: the contract of place. How many nodes the builder goes through; what is asked of nodes; a part that has a text of no places. A node whose Sub is there once, or not, or again and again: the contract of often, of part's. A text made to places, rune by rune: the contract of literal. Nodes one behind the other: the contract of row, of part's. Nodes of which one is there: the contract of choice, of part's. -/
import Derived.Test.YtiinkhmgemoamaaDoorPao
import Derived.Deep.MidRow
import Derived.Deep.Cut
import Derived.Great.BuildSlice
import Derived.Lib.OthersKept
import Derived.Lib.TrimUEq
import Derived.Lib.MapLaws
import Derived.Test.YtiinkhmgemoamaaDoorPz
namespace Go.Proofs.YtiinkhmgemoamaaDoor.Nf
open Go Go.RowKit
attribute [local go_sem] Oper.semAt_some
set_option maxRecDepth 100000

def zer64 : List Value := (List.range 64).map fun _ => .int .u64 0
theorem bk_setCells {b : Nat} {t : TypeId} : ∀ (vs : List Value) (o : Nat) (w : World) (cs : Array Value), Bk w b t cs → o + vs.length ≤ cs.size →
 Only b w (w.setCells b o vs) ∧ ∃ cs', Bk (w.setCells b o vs) b t cs' ∧ cs'.size = cs.size ∧ (∀ j, (j < o ∨ o + vs.length ≤ j) → cs'[j]? = cs[j]?) ∧ ∀ j, j < vs.length → cs'[o + j]? = vs[j]?
 | [], o, w, cs, h, _ => ⟨Only.refl _ _, cs, h, rfl, fun _ _ => rfl, fun j hj => by simp at hj⟩
 | v :: r, o, w, cs, h, hl => by
  simp only [List.length_cons] at hl
  obtain ⟨h1, cs', h2, h3, h4, h5⟩ := bk_setCells r (o + 1) _ _ (h.set o v) (by simp; omega)
  refine ⟨(Only.set b o w v).trans h1, cs', h2, by simpa using h3, fun j hj => ?_, fun j hj => ?_⟩
  · simp only [List.length_cons] at hj
    rw [h4 j (by omega), Array.getElem?_setIfInBounds_ne (by omega)]
  · cases j with
    | zero =>
     rw [Nat.add_zero, h4 o (by omega), Array.getElem?_setIfInBounds_self_of_lt (by omega)]
     rfl
    | succ j =>
     rw [show o + (j + 1) = o + 1 + j by omega, h5 j (by simpa using hj)]
     rfl
/-- A part's cells. -/
structure PtB (W : World) (pb : Nat) (cs : Array Value) (F L : Nat → Bool) (E : Bool) : Prop where
 k : Bk W pb 71 cs
 sz : cs.size = 129
 f : WdA cs 0 F
 l : WdA cs 64 L
 c : cs[128]? = some (.bool E)
theorem PtB.e {W : World} {pb : Nat} {cs : Array Value} {F L : Nat → Bool} {E : Bool} (h : PtB W pb cs F L E) : W.cell? ⟨pb, 128, none⟩ = some (.bool E) := (h.k.cell 128).trans h.c
theorem PtB.tl {n₀ : Nat} {W W' : World} {pb : Nat} {cs : Array Value} {F L : Nat → Bool} {E : Bool} (h : PtB W pb cs F L E) (hT : Tl n₀ W W') : PtB W' pb cs F L E := ⟨hT.bk h.k (by decide) (by decide) (by decide), h.sz, h.f, h.l, h.c⟩
theorem PtB.only {W W' : World} {b pb : Nat} {cs : Array Value} {F L : Nat → Bool} {E : Bool} (h : PtB W pb cs F L E) (hO : Only b W W') (hne : pb ≠ b) : PtB W' pb cs F L E := ⟨hO.bk h.k hne, h.sz, h.f, h.l, h.c⟩
theorem PtB.first {W X2 : World} {pb : Nat} {cs : Array Value} {F F' L : Nat → Bool} {E : Bool} (h : PtB W pb cs F L E) (hx : Only pb W.drew X2 ∧ ∃ cs', Bk X2 pb 71 cs' ∧ Else 0 cs cs' ∧ WdA cs' 0 F') : ∃ cs', PtB X2 pb cs' F' L E ∧ Only pb W X2 := by
 obtain ⟨hO, cs', h1, ⟨h2, h3⟩, h4⟩ := hx
 exact ⟨cs', ⟨h1, by rw [h2, h.sz], h4, fun i hi => by rw [h3 _ (by omega)]; exact h.l i hi, by rw [h3 _ (by omega)]; exact h.c⟩, ⟨hO.os, hO.tape, hO.output, hO.size, hO.same⟩⟩
theorem PtB.last {W X2 : World} {pb : Nat} {cs : Array Value} {F L L' : Nat → Bool} {E : Bool} (h : PtB W pb cs F L E) (hx : Only pb W.drew X2 ∧ ∃ cs', Bk X2 pb 71 cs' ∧ Else 64 cs cs' ∧ WdA cs' 64 L') : ∃ cs', PtB X2 pb cs' F L' E ∧ Only pb W X2 := by
 obtain ⟨hO, cs', h1, ⟨h2, h3⟩, h4⟩ := hx
 exact ⟨cs', ⟨h1, by rw [h2, h.sz], fun i hi => by rw [h3 _ (by omega)]; exact h.f i hi, h4, by rw [h3 _ (by omega)]; exact h.c⟩, ⟨hO.os, hO.tape, hO.output, hO.size, hO.same⟩⟩
theorem PtB.zero {W : World} {pb : Nat} {cs : Array Value} {F L : Nat → Bool} {E : Bool} (h : PtB W pb cs F L E) : ∃ cs', PtB (W.setCells pb 64 zer64) pb cs' F none_ E ∧ Only pb W (W.setCells pb 64 zer64) := by
 have hl : zer64.length = 64 := by simp [zer64]
 obtain ⟨hO, cs', h1, h2, h3, h4⟩ := bk_setCells zer64 64 W cs h.k (by rw [hl, h.sz]; omega)
 rw [hl] at h3 h4
 refine ⟨cs', ⟨h1, by rw [h2, h.sz], fun i hi => by rw [h3 _ (by omega)]; exact h.f i hi, fun i hi => ?_, by rw [h3 _ (by omega)]; exact h.c⟩, hO⟩
 rw [h4 i hi, word_none]
 unfold zer64
 rw [List.getElem?_map, List.getElem?_range hi]
 rfl
theorem PtB.there {W : World} {pb : Nat} {cs : Array Value} {F L : Nat → Bool} {E : Bool} (h : PtB W pb cs F L E) : W.there pb 64 64 := fun j hj => ⟨by rw [h.k.cell, h.l j hj]; rfl, h.k.free _⟩
theorem PtB.empty {W : World} {pb : Nat} {cs : Array Value} {F L : Nat → Bool} {E : Bool} (h : PtB W pb cs F L E) (E' : Bool) : PtB (W.setCell ⟨pb, 128, none⟩ (.bool E')) pb (cs.setIfInBounds 128 (.bool E')) F L E' :=
 ⟨h.k.set _ _, by simpa using h.sz, fun i hi => by rw [Array.getElem?_setIfInBounds_ne (by omega)]; exact h.f i hi, fun i hi => by rw [Array.getElem?_setIfInBounds_ne (by omega)]; exact h.l i hi, by rw [Array.getElem?_setIfInBounds_self_of_lt (by rw [h.sz]; omega)]⟩
theorem PtB.pt {W : World} {pb : Nat} {cs : Array Value} {p : Pt} (h : PtB W pb cs p.first p.last p.empty) : PtA W pb p := ⟨cs, h.k, h.sz, h.f, h.l, h.c⟩
theorem wpList_zero {ops : Array Oper} {rest : List Oper} {o : Oper} {a : Act} {w : World} {Q : Exit → Act → World → Prop} (hg : o.guard = none) (ho : o.op = .build 64 #[])
 (h : wpList Tryd.prog ops Q rest (a.put o.dst (.agg zer64.toArray)) w) : wpList Tryd.prog ops Q (o :: rest) a w :=
 wpList_plain hg fun _ hK => by
  have := run_build (P := Tryd.prog) w 64 #[] zer64.toArray (by kernel_rfl)
  unfold Oper.wp execOp
  simp [ho, this]
  exact hK _ _ h
theorem Soft.drew (n₀ : Nat) (W : World) : Soft n₀ W W.drew := ⟨(Below.refl _ _).drew, fun _ _ h => h⟩
set_option maxHeartbeats 4000000 in
theorem behind_any (n₀ bb : Nat) (g : BV) (kind : Nat) (s : St) (W : World) (hI : BI n₀ bb g kind s W) (pb qb : Nat) (p q : Pt) (hp : PtA W pb p) (hq : PtA W qb q) (hne : qb ≠ pb) (hlo : n₀ ≤ pb)
 (hbd : ∀ x, p.last x = true → x < s.follow.length) (hcap : s.follow.length ≤ 4096) :
 Calls Tryd.prog 49 #[.pointer (some ⟨bb, 0, none⟩), .pointer (some ⟨pb, 0, none⟩), .pointer (some ⟨qb, 0, none⟩)] W fun e W' => e = .returned (.tuple #[]) ∧
  BI n₀ bb g kind (behindF s p q).1 W' ∧ PtA W' pb (behindF s p q).2 ∧ TlX n₀ pb W W' := by
 obtain ⟨cs, hk, hsz, hf, hl, he⟩ := hp
 obtain ⟨ds, qk, qsz, qf, ql, qe⟩ := hq
 have HL := Lib.hid (link_any n₀ bb g kind s W.drew (hI.soft (Soft.drew n₀ W)) pb 64 qb 0 71 71 cs ds p.last q.first hk hl (by decide) (by decide) (by decide) qk qf (by decide) (by decide) (by decide) hbd hcap)
 have dT : Tl n₀ W W.drew := (Soft.drew n₀ W).tl
 have hP : PtB W pb cs p.first p.last p.empty := ⟨hk, hsz, hf, hl, he⟩
 have hQ : PtB W qb ds q.first q.last q.empty := ⟨qk, qsz, qf, ql, qe⟩
 have hfin : ∀ (w1 w6 : World) (cs6 c1 : Array Value) (F L : Nat → Bool) (E : Bool), BI n₀ bb g kind (linkF s p.last q.first) w1 → Tl n₀ W w1 → PtB w6 pb cs6 F L E → Only pb w1 w6 → Bk w1 pb 71 c1 →
  BI n₀ bb g kind (linkF s p.last q.first) w6 ∧ PtA w6 pb ⟨F, L, E⟩ ∧ TlX n₀ pb W w6 := fun w1 w6 cs6 c1 F L E h1 h2 h3 h4 h5 =>
  ⟨h1.only h4 h5 hlo (by decide) (by decide) (by decide) (by decide), PtB.pt (p := ⟨F, L, E⟩) h3, (h2.x pb).trans (h4.tlx hlo)⟩
 replace hfin : ∀ {w1 w6 : World} {cs6 c1 : Array Value} {F L : Nat → Bool} {E : Bool}, BI n₀ bb g kind (linkF s p.last q.first) w1 → Tl n₀ W w1 → PtB w6 pb cs6 F L E → Only pb w1 w6 → Bk w1 pb 71 c1 →
  BI n₀ bb g kind (linkF s p.last q.first) w6 ∧ PtA w6 pb ⟨F, L, E⟩ ∧ TlX n₀ pb W w6 := fun h1 h2 h3 h4 h5 => hfin _ _ _ _ _ _ _ h1 h2 h3 h4 h5
 clear hk hsz hf hl he qk qsz qf ql qe hI
 obtain ⟨pf, pl, pe⟩ := p
 obtain ⟨qf, ql, qe⟩ := q
 simp only at *
 cases pe <;> cases qe
 · -- false false
   go_enter Tryd.func49, Tryd.ntmps49
   go_wp2_with fail
   refine wp_cutN (fun a a' w' => (∃ z0 z1 z2 z3 z4 z5 z6 z7 z8 z9 : Value, a' = ((((((((((a.put (some 6) z0).put (some 7) z1).put (some 8) z2).put (some 9) z3).put (some 10) z4).put (some 11) z5).put (some 12) z6).put (some 13) z7).put (some 14) z8).put (some 15) z9)) ∧ BI n₀ bb g kind (linkF s pl qf) w' ∧ Tl n₀ W w') ?first6 ?next6
   case first6 =>
    refine wp_region_held_drew (S := fun w' : World => True) (by kernel_rfl) trivial (fun hSS => ?_)
    show wpAnyH _ _ _ _ _ 10 #[false, false, false, false, false, false, false, false, false, false] _ _
    refine zqT 0 (some 6) _ (zqF 10 1) (by rw [List.getElem?_toArray]; rfl) rfl (by kernel_rfl) rfl (fun _ _ _ h => h) (Or.inl ⟨by rfl, fun w' hSw => by (try dsimp only at hSw); go_simp; try with_reducible rfl⟩) hSS ?_
    simp only [zqN]
    refine zqT 1 (some 7) _ (zqF 10 2) (by rw [List.getElem?_toArray]; rfl) rfl (by kernel_rfl) rfl (fun _ _ _ h => h) (Or.inl ⟨by rfl, fun w' hSw => by (try dsimp only at hSw); go_simp; try with_reducible rfl⟩) hSS ?_
    simp only [zqN]
    refine zqT 2 (some 8) _ (zqF 10 3) (by rw [List.getElem?_toArray]; rfl) rfl (by kernel_rfl) rfl (fun _ _ _ h => h) (Or.inl ⟨by rfl, fun w' hSw => by (try dsimp only at hSw); go_simp; try with_reducible rfl⟩) hSS ?_
    simp only [zqN]
    refine zqT 3 (some 9) _ (zqF 10 4) (by rw [List.getElem?_toArray]; rfl) rfl (by kernel_rfl) rfl (fun _ _ _ h => h) (Or.inl ⟨by rfl, fun w' hSw => by (try dsimp only at hSw); go_simp; try with_reducible rfl⟩) hSS ?_
    simp only [zqN]
    refine zqT 4 (some 10) _ (zqF 10 5) (by rw [List.getElem?_toArray]; rfl) rfl (by kernel_rfl) rfl (fun _ _ _ h => h) (Or.inl ⟨by rfl, fun w' hSw => by (try dsimp only at hSw); go_simp; try with_reducible rfl⟩) hSS ?_
    simp only [zqN]
    refine zqT 5 (some 11) _ (zqF 10 6) (by rw [List.getElem?_toArray]; rfl) rfl (by kernel_rfl) rfl (fun _ _ _ h => h) (Or.inl ⟨by rfl, fun w' hSw => by (try dsimp only at hSw); go_simp; try with_reducible rfl⟩) hSS ?_
    simp only [zqN]
    refine zqT 6 (some 12) _ (zqF 10 7) (by rw [List.getElem?_toArray]; rfl) rfl (by kernel_rfl) rfl (fun _ _ _ h => h) (Or.inl ⟨by rfl, fun w' hSw => by (try dsimp only at hSw); go_simp; try with_reducible rfl⟩) hSS ?_
    simp only [zqN]
    refine zqT 7 (some 13) _ (zqF 10 8) (by rw [List.getElem?_toArray]; rfl) rfl (by kernel_rfl) rfl (fun _ _ _ h => h) (Or.inl ⟨by rfl, fun w' hSw => by (try dsimp only at hSw); go_simp; try with_reducible rfl⟩) hSS ?_
    simp only [zqN]
    refine zqT 8 (some 14) _ (zqF 10 9) (by rw [List.getElem?_toArray]; rfl) rfl (by kernel_rfl) rfl (fun _ _ _ h => h) (Or.inl ⟨by rfl, fun w' hSw => by (try dsimp only at hSw); go_simp; try with_reducible rfl⟩) hSS ?_
    simp only [zqN]
    refine come_one (i := 9) (l' := (zqF 10 10)) (by rw [List.getElem?_toArray]; rfl) (by kernel_rfl) rfl (fun K' hK => ?_)
    go_simp
    go_at_call 50; refine HL.out.mono ?_; rintro e X2 ⟨rfl, hB2, hT2⟩
    refine hK.out _ _ trivial (fun hSS => ?_)
    try simp only [zqN]
    refine wpAnyH_done (by kernel_rfl) ?_ _
    exact ⟨⟨_, _, _, _, _, _, _, _, _, _, rfl⟩, hB2, dT.trans hT2⟩
   case next6 =>
   rintro a' w1 ⟨⟨z0, z1, z2, z3, z4, z5, z6, z7, z8, z9, rfl⟩, hB1, hT1⟩
   simp only [zqN]
   have P1 := hP.tl hT1
   have Q1 := hQ.tl hT1
   have e1 := P1.e
   have x1 := Q1.e
   clear HL hP hQ
   have P2 := P1
   have hO2 := Only.refl pb w1
   have Q2 := Q1.only hO2 hne
   have e2 := P2.e
   have x2 := Q2.e
   go_upto_if 33 with fail
   obtain ⟨cs3, P3, hZ⟩ := P2.zero
   have HTH := Lib.hid P2.there
   have hO3 := hO2.trans hZ
   have Q3 := Q2.only hZ hne
   refine wp_cutN (fun a a' w' => (∃ y34 y35 y36 y37 y38 : Value, a' = (((((a.put (some 34) y34).put (some 35) y35).put (some 36) y36).put (some 37) y37).put (some 38) y38)) ∧ w' = w1.setCells pb 64 zer64) ?first34 ?next34
   case first34 =>
    refine wp_cond_true rfl ?_
    refine wp_region_lit ?_
    refine wpList_plain rfl fun K hK => ?_
    go_simp
    refine hK _ _ ?_
    refine wpList_zero rfl rfl ?_
    refine wpList_plain rfl fun K hK => ?_
    go_simp
    refine hK _ _ ?_
    refine wpList_plain rfl fun K hK => ?_
    go_simp
    refine hK _ _ ?_
    refine wpList_plain rfl fun K hK => ?_
    go_simp
    refine hK _ _ ?_
    refine wpList_store_mid rfl 64 (.tmp 38) (.tmp 35) rfl pb 64 zer64.toArray rfl rfl HTH.out (by kernel_rfl) (by kernel_rfl) ?_
    exact ⟨⟨_, _, _, _, _, rfl⟩, rfl⟩
   case next34 =>
   rintro a' w3 ⟨⟨y34, y35, y36, y37, y38, rfl⟩, hw3⟩
   rw [← hw3] at P3 hO3 Q3
   clear hw3
   simp only [zqN]
   go_wp2_with fail
   have HJ5 := Lib.hid (join_any pb qb 64 64 71 71 cs3 ds none_ ql w3.drew P3.k Q3.k hne P3.l Q3.l)
   have HF5 := Lib.hid (show ∀ X2, (Only pb w3.drew X2 ∧ ∃ cs', Bk X2 pb 71 cs' ∧ Else 64 cs3 cs' ∧ WdA cs' 64 (jn none_ ql)) → ∃ cs', PtB X2 pb cs' pf (jn none_ ql) false ∧ Only pb w3 X2 from fun X2 h => P3.last h)
   refine wp_cutN (fun a a' w' => (∃ z0 z1 z2 z3 z4 z5 z6 z7 z8 : Value, a' = (((((((((a.put (some 39) z0).put (some 40) z1).put (some 41) z2).put (some 42) z3).put (some 43) z4).put (some 44) z5).put (some 45) z6).put (some 46) z7).put (some 47) z8)) ∧ ∃ cs', PtB w' pb cs' pf (jn none_ ql) false ∧ Only pb w3 w') ?first39 ?next39
   case first39 =>
    refine wp_region_held_drew (S := fun w' : World => True) (by kernel_rfl) trivial (fun hSS => ?_)
    show wpAnyH _ _ _ _ _ 9 #[false, false, false, false, false, false, false, false, false] _ _
    refine zqT 0 (some 39) _ (zqF 9 1) (by rw [List.getElem?_toArray]; rfl) rfl (by kernel_rfl) rfl (fun _ _ _ h => h) (Or.inl ⟨by rfl, fun w' hSw => by (try dsimp only at hSw); go_simp; try with_reducible rfl⟩) hSS ?_
    simp only [zqN]
    refine zqT 1 (some 40) _ (zqF 9 2) (by rw [List.getElem?_toArray]; rfl) rfl (by kernel_rfl) rfl (fun _ _ _ h => h) (Or.inl ⟨by rfl, fun w' hSw => by (try dsimp only at hSw); go_simp; try with_reducible rfl⟩) hSS ?_
    simp only [zqN]
    refine zqT 2 (some 41) _ (zqF 9 3) (by rw [List.getElem?_toArray]; rfl) rfl (by kernel_rfl) rfl (fun _ _ _ h => h) (Or.inl ⟨by rfl, fun w' hSw => by (try dsimp only at hSw); go_simp; try with_reducible rfl⟩) hSS ?_
    simp only [zqN]
    refine zqT 3 (some 42) _ (zqF 9 4) (by rw [List.getElem?_toArray]; rfl) rfl (by kernel_rfl) rfl (fun _ _ _ h => h) (Or.inl ⟨by rfl, fun w' hSw => by (try dsimp only at hSw); go_simp; try with_reducible rfl⟩) hSS ?_
    simp only [zqN]
    refine zqT 4 (some 43) _ (zqF 9 5) (by rw [List.getElem?_toArray]; rfl) rfl (by kernel_rfl) rfl (fun _ _ _ h => h) (Or.inl ⟨by rfl, fun w' hSw => by (try dsimp only at hSw); go_simp; try with_reducible rfl⟩) hSS ?_
    simp only [zqN]
    refine zqT 5 (some 44) _ (zqF 9 6) (by rw [List.getElem?_toArray]; rfl) rfl (by kernel_rfl) rfl (fun _ _ _ h => h) (Or.inl ⟨by rfl, fun w' hSw => by (try dsimp only at hSw); go_simp; try with_reducible rfl⟩) hSS ?_
    simp only [zqN]
    refine zqT 6 (some 45) _ (zqF 9 7) (by rw [List.getElem?_toArray]; rfl) rfl (by kernel_rfl) rfl (fun _ _ _ h => h) (Or.inl ⟨by rfl, fun w' hSw => by (try dsimp only at hSw); go_simp; try with_reducible rfl⟩) hSS ?_
    simp only [zqN]
    refine zqT 7 (some 46) _ (zqF 9 8) (by rw [List.getElem?_toArray]; rfl) rfl (by kernel_rfl) rfl (fun _ _ _ h => h) (Or.inl ⟨by rfl, fun w' hSw => by (try dsimp only at hSw); go_simp; try with_reducible rfl⟩) hSS ?_
    simp only [zqN]
    refine come_one (i := 8) (l' := (zqF 9 9)) (by rw [List.getElem?_toArray]; rfl) (by kernel_rfl) rfl (fun K' hK => ?_)
    go_simp
    go_at_call 31; refine HJ5.out.mono ?_; rintro e X2 ⟨rfl, hX2⟩
    refine hK.out _ _ trivial (fun hSS => ?_)
    try simp only [zqN]
    refine wpAnyH_done (by kernel_rfl) ?_ _
    exact ⟨⟨_, _, _, _, _, _, _, _, _, rfl⟩, HF5.out X2 hX2⟩
   case next39 =>
   rintro a' w5 ⟨⟨z0, z1, z2, z3, z4, z5, z6, z7, z8, rfl⟩, cs5, P5, hO5⟩
   simp only [zqN]
   have Q5 := Q3.only hO5 hne
   have e5 := P5.e
   have f5 := P5.k.free 128
   have x5 := Q5.e
   have P6 := P5.empty false
   have hO6 := (hO3.trans hO5).trans (Only.set pb 128 w5 (.bool false))
   have HG := Lib.hid (hfin hB1 hT1 P6 hO6 P1.k)
   go_wp2_with fail
   exact bodyPost_end (results_none rfl _ _ _) rfl ⟨rfl, by simpa [behindF] using HG.out⟩
 · -- false true
   go_enter Tryd.func49, Tryd.ntmps49
   go_wp2_with fail
   refine wp_cutN (fun a a' w' => (∃ z0 z1 z2 z3 z4 z5 z6 z7 z8 z9 : Value, a' = ((((((((((a.put (some 6) z0).put (some 7) z1).put (some 8) z2).put (some 9) z3).put (some 10) z4).put (some 11) z5).put (some 12) z6).put (some 13) z7).put (some 14) z8).put (some 15) z9)) ∧ BI n₀ bb g kind (linkF s pl qf) w' ∧ Tl n₀ W w') ?first6 ?next6
   case first6 =>
    refine wp_region_held_drew (S := fun w' : World => True) (by kernel_rfl) trivial (fun hSS => ?_)
    show wpAnyH _ _ _ _ _ 10 #[false, false, false, false, false, false, false, false, false, false] _ _
    refine zqT 0 (some 6) _ (zqF 10 1) (by rw [List.getElem?_toArray]; rfl) rfl (by kernel_rfl) rfl (fun _ _ _ h => h) (Or.inl ⟨by rfl, fun w' hSw => by (try dsimp only at hSw); go_simp; try with_reducible rfl⟩) hSS ?_
    simp only [zqN]
    refine zqT 1 (some 7) _ (zqF 10 2) (by rw [List.getElem?_toArray]; rfl) rfl (by kernel_rfl) rfl (fun _ _ _ h => h) (Or.inl ⟨by rfl, fun w' hSw => by (try dsimp only at hSw); go_simp; try with_reducible rfl⟩) hSS ?_
    simp only [zqN]
    refine zqT 2 (some 8) _ (zqF 10 3) (by rw [List.getElem?_toArray]; rfl) rfl (by kernel_rfl) rfl (fun _ _ _ h => h) (Or.inl ⟨by rfl, fun w' hSw => by (try dsimp only at hSw); go_simp; try with_reducible rfl⟩) hSS ?_
    simp only [zqN]
    refine zqT 3 (some 9) _ (zqF 10 4) (by rw [List.getElem?_toArray]; rfl) rfl (by kernel_rfl) rfl (fun _ _ _ h => h) (Or.inl ⟨by rfl, fun w' hSw => by (try dsimp only at hSw); go_simp; try with_reducible rfl⟩) hSS ?_
    simp only [zqN]
    refine zqT 4 (some 10) _ (zqF 10 5) (by rw [List.getElem?_toArray]; rfl) rfl (by kernel_rfl) rfl (fun _ _ _ h => h) (Or.inl ⟨by rfl, fun w' hSw => by (try dsimp only at hSw); go_simp; try with_reducible rfl⟩) hSS ?_
    simp only [zqN]
    refine zqT 5 (some 11) _ (zqF 10 6) (by rw [List.getElem?_toArray]; rfl) rfl (by kernel_rfl) rfl (fun _ _ _ h => h) (Or.inl ⟨by rfl, fun w' hSw => by (try dsimp only at hSw); go_simp; try with_reducible rfl⟩) hSS ?_
    simp only [zqN]
    refine zqT 6 (some 12) _ (zqF 10 7) (by rw [List.getElem?_toArray]; rfl) rfl (by kernel_rfl) rfl (fun _ _ _ h => h) (Or.inl ⟨by rfl, fun w' hSw => by (try dsimp only at hSw); go_simp; try with_reducible rfl⟩) hSS ?_
    simp only [zqN]
    refine zqT 7 (some 13) _ (zqF 10 8) (by rw [List.getElem?_toArray]; rfl) rfl (by kernel_rfl) rfl (fun _ _ _ h => h) (Or.inl ⟨by rfl, fun w' hSw => by (try dsimp only at hSw); go_simp; try with_reducible rfl⟩) hSS ?_
    simp only [zqN]
    refine zqT 8 (some 14) _ (zqF 10 9) (by rw [List.getElem?_toArray]; rfl) rfl (by kernel_rfl) rfl (fun _ _ _ h => h) (Or.inl ⟨by rfl, fun w' hSw => by (try dsimp only at hSw); go_simp; try with_reducible rfl⟩) hSS ?_
    simp only [zqN]
    refine come_one (i := 9) (l' := (zqF 10 10)) (by rw [List.getElem?_toArray]; rfl) (by kernel_rfl) rfl (fun K' hK => ?_)
    go_simp
    go_at_call 50; refine HL.out.mono ?_; rintro e X2 ⟨rfl, hB2, hT2⟩
    refine hK.out _ _ trivial (fun hSS => ?_)
    try simp only [zqN]
    refine wpAnyH_done (by kernel_rfl) ?_ _
    exact ⟨⟨_, _, _, _, _, _, _, _, _, _, rfl⟩, hB2, dT.trans hT2⟩
   case next6 =>
   rintro a' w1 ⟨⟨z0, z1, z2, z3, z4, z5, z6, z7, z8, z9, rfl⟩, hB1, hT1⟩
   simp only [zqN]
   have P1 := hP.tl hT1
   have Q1 := hQ.tl hT1
   have e1 := P1.e
   have x1 := Q1.e
   clear HL hP hQ
   have P2 := P1
   have hO2 := Only.refl pb w1
   have Q2 := Q1.only hO2 hne
   have e2 := P2.e
   have x2 := Q2.e
   go_wp2_with fail
   have P3 := P2
   have Q3 := Q2
   have hO3 := hO2
   have HJ5 := Lib.hid (join_any pb qb 64 64 71 71 cs ds pl ql w1.drew P3.k Q3.k hne P3.l Q3.l)
   have HF5 := Lib.hid (show ∀ X2, (Only pb w1.drew X2 ∧ ∃ cs', Bk X2 pb 71 cs' ∧ Else 64 cs cs' ∧ WdA cs' 64 (jn pl ql)) → ∃ cs', PtB X2 pb cs' pf (jn pl ql) false ∧ Only pb w1 X2 from fun X2 h => P3.last h)
   refine wp_cutN (fun a a' w' => (∃ z0 z1 z2 z3 z4 z5 z6 z7 z8 : Value, a' = (((((((((a.put (some 39) z0).put (some 40) z1).put (some 41) z2).put (some 42) z3).put (some 43) z4).put (some 44) z5).put (some 45) z6).put (some 46) z7).put (some 47) z8)) ∧ ∃ cs', PtB w' pb cs' pf (jn pl ql) false ∧ Only pb w1 w') ?first39 ?next39
   case first39 =>
    refine wp_region_held_drew (S := fun w' : World => True) (by kernel_rfl) trivial (fun hSS => ?_)
    show wpAnyH _ _ _ _ _ 9 #[false, false, false, false, false, false, false, false, false] _ _
    refine zqT 0 (some 39) _ (zqF 9 1) (by rw [List.getElem?_toArray]; rfl) rfl (by kernel_rfl) rfl (fun _ _ _ h => h) (Or.inl ⟨by rfl, fun w' hSw => by (try dsimp only at hSw); go_simp; try with_reducible rfl⟩) hSS ?_
    simp only [zqN]
    refine zqT 1 (some 40) _ (zqF 9 2) (by rw [List.getElem?_toArray]; rfl) rfl (by kernel_rfl) rfl (fun _ _ _ h => h) (Or.inl ⟨by rfl, fun w' hSw => by (try dsimp only at hSw); go_simp; try with_reducible rfl⟩) hSS ?_
    simp only [zqN]
    refine zqT 2 (some 41) _ (zqF 9 3) (by rw [List.getElem?_toArray]; rfl) rfl (by kernel_rfl) rfl (fun _ _ _ h => h) (Or.inl ⟨by rfl, fun w' hSw => by (try dsimp only at hSw); go_simp; try with_reducible rfl⟩) hSS ?_
    simp only [zqN]
    refine zqT 3 (some 42) _ (zqF 9 4) (by rw [List.getElem?_toArray]; rfl) rfl (by kernel_rfl) rfl (fun _ _ _ h => h) (Or.inl ⟨by rfl, fun w' hSw => by (try dsimp only at hSw); go_simp; try with_reducible rfl⟩) hSS ?_
    simp only [zqN]
    refine zqT 4 (some 43) _ (zqF 9 5) (by rw [List.getElem?_toArray]; rfl) rfl (by kernel_rfl) rfl (fun _ _ _ h => h) (Or.inl ⟨by rfl, fun w' hSw => by (try dsimp only at hSw); go_simp; try with_reducible rfl⟩) hSS ?_
    simp only [zqN]
    refine zqT 5 (some 44) _ (zqF 9 6) (by rw [List.getElem?_toArray]; rfl) rfl (by kernel_rfl) rfl (fun _ _ _ h => h) (Or.inl ⟨by rfl, fun w' hSw => by (try dsimp only at hSw); go_simp; try with_reducible rfl⟩) hSS ?_
    simp only [zqN]
    refine zqT 6 (some 45) _ (zqF 9 7) (by rw [List.getElem?_toArray]; rfl) rfl (by kernel_rfl) rfl (fun _ _ _ h => h) (Or.inl ⟨by rfl, fun w' hSw => by (try dsimp only at hSw); go_simp; try with_reducible rfl⟩) hSS ?_
    simp only [zqN]
    refine zqT 7 (some 46) _ (zqF 9 8) (by rw [List.getElem?_toArray]; rfl) rfl (by kernel_rfl) rfl (fun _ _ _ h => h) (Or.inl ⟨by rfl, fun w' hSw => by (try dsimp only at hSw); go_simp; try with_reducible rfl⟩) hSS ?_
    simp only [zqN]
    refine come_one (i := 8) (l' := (zqF 9 9)) (by rw [List.getElem?_toArray]; rfl) (by kernel_rfl) rfl (fun K' hK => ?_)
    go_simp
    go_at_call 31; refine HJ5.out.mono ?_; rintro e X2 ⟨rfl, hX2⟩
    refine hK.out _ _ trivial (fun hSS => ?_)
    try simp only [zqN]
    refine wpAnyH_done (by kernel_rfl) ?_ _
    exact ⟨⟨_, _, _, _, _, _, _, _, _, rfl⟩, HF5.out X2 hX2⟩
   case next39 =>
   rintro a' w5 ⟨⟨z0, z1, z2, z3, z4, z5, z6, z7, z8, rfl⟩, cs5, P5, hO5⟩
   simp only [zqN]
   have Q5 := Q3.only hO5 hne
   have e5 := P5.e
   have f5 := P5.k.free 128
   have x5 := Q5.e
   have P6 := P5.empty false
   have hO6 := (hO3.trans hO5).trans (Only.set pb 128 w5 (.bool false))
   have HG := Lib.hid (hfin hB1 hT1 P6 hO6 P1.k)
   go_wp2_with fail
   exact bodyPost_end (results_none rfl _ _ _) rfl ⟨rfl, by simpa [behindF] using HG.out⟩
 · -- true false
   go_enter Tryd.func49, Tryd.ntmps49
   go_wp2_with fail
   refine wp_cutN (fun a a' w' => (∃ z0 z1 z2 z3 z4 z5 z6 z7 z8 z9 : Value, a' = ((((((((((a.put (some 6) z0).put (some 7) z1).put (some 8) z2).put (some 9) z3).put (some 10) z4).put (some 11) z5).put (some 12) z6).put (some 13) z7).put (some 14) z8).put (some 15) z9)) ∧ BI n₀ bb g kind (linkF s pl qf) w' ∧ Tl n₀ W w') ?first6 ?next6
   case first6 =>
    refine wp_region_held_drew (S := fun w' : World => True) (by kernel_rfl) trivial (fun hSS => ?_)
    show wpAnyH _ _ _ _ _ 10 #[false, false, false, false, false, false, false, false, false, false] _ _
    refine zqT 0 (some 6) _ (zqF 10 1) (by rw [List.getElem?_toArray]; rfl) rfl (by kernel_rfl) rfl (fun _ _ _ h => h) (Or.inl ⟨by rfl, fun w' hSw => by (try dsimp only at hSw); go_simp; try with_reducible rfl⟩) hSS ?_
    simp only [zqN]
    refine zqT 1 (some 7) _ (zqF 10 2) (by rw [List.getElem?_toArray]; rfl) rfl (by kernel_rfl) rfl (fun _ _ _ h => h) (Or.inl ⟨by rfl, fun w' hSw => by (try dsimp only at hSw); go_simp; try with_reducible rfl⟩) hSS ?_
    simp only [zqN]
    refine zqT 2 (some 8) _ (zqF 10 3) (by rw [List.getElem?_toArray]; rfl) rfl (by kernel_rfl) rfl (fun _ _ _ h => h) (Or.inl ⟨by rfl, fun w' hSw => by (try dsimp only at hSw); go_simp; try with_reducible rfl⟩) hSS ?_
    simp only [zqN]
    refine zqT 3 (some 9) _ (zqF 10 4) (by rw [List.getElem?_toArray]; rfl) rfl (by kernel_rfl) rfl (fun _ _ _ h => h) (Or.inl ⟨by rfl, fun w' hSw => by (try dsimp only at hSw); go_simp; try with_reducible rfl⟩) hSS ?_
    simp only [zqN]
    refine zqT 4 (some 10) _ (zqF 10 5) (by rw [List.getElem?_toArray]; rfl) rfl (by kernel_rfl) rfl (fun _ _ _ h => h) (Or.inl ⟨by rfl, fun w' hSw => by (try dsimp only at hSw); go_simp; try with_reducible rfl⟩) hSS ?_
    simp only [zqN]
    refine zqT 5 (some 11) _ (zqF 10 6) (by rw [List.getElem?_toArray]; rfl) rfl (by kernel_rfl) rfl (fun _ _ _ h => h) (Or.inl ⟨by rfl, fun w' hSw => by (try dsimp only at hSw); go_simp; try with_reducible rfl⟩) hSS ?_
    simp only [zqN]
    refine zqT 6 (some 12) _ (zqF 10 7) (by rw [List.getElem?_toArray]; rfl) rfl (by kernel_rfl) rfl (fun _ _ _ h => h) (Or.inl ⟨by rfl, fun w' hSw => by (try dsimp only at hSw); go_simp; try with_reducible rfl⟩) hSS ?_
    simp only [zqN]
    refine zqT 7 (some 13) _ (zqF 10 8) (by rw [List.getElem?_toArray]; rfl) rfl (by kernel_rfl) rfl (fun _ _ _ h => h) (Or.inl ⟨by rfl, fun w' hSw => by (try dsimp only at hSw); go_simp; try with_reducible rfl⟩) hSS ?_
    simp only [zqN]
    refine zqT 8 (some 14) _ (zqF 10 9) (by rw [List.getElem?_toArray]; rfl) rfl (by kernel_rfl) rfl (fun _ _ _ h => h) (Or.inl ⟨by rfl, fun w' hSw => by (try dsimp only at hSw); go_simp; try with_reducible rfl⟩) hSS ?_
    simp only [zqN]
    refine come_one (i := 9) (l' := (zqF 10 10)) (by rw [List.getElem?_toArray]; rfl) (by kernel_rfl) rfl (fun K' hK => ?_)
    go_simp
    go_at_call 50; refine HL.out.mono ?_; rintro e X2 ⟨rfl, hB2, hT2⟩
    refine hK.out _ _ trivial (fun hSS => ?_)
    try simp only [zqN]
    refine wpAnyH_done (by kernel_rfl) ?_ _
    exact ⟨⟨_, _, _, _, _, _, _, _, _, _, rfl⟩, hB2, dT.trans hT2⟩
   case next6 =>
   rintro a' w1 ⟨⟨z0, z1, z2, z3, z4, z5, z6, z7, z8, z9, rfl⟩, hB1, hT1⟩
   simp only [zqN]
   have P1 := hP.tl hT1
   have Q1 := hQ.tl hT1
   have e1 := P1.e
   have x1 := Q1.e
   clear HL hP hQ
   go_wp2_with fail
   have HJ := Lib.hid (join_any pb qb 0 0 71 71 cs ds pf qf w1.drew P1.k Q1.k hne P1.f Q1.f)
   have HF := Lib.hid (show ∀ X2, (Only pb w1.drew X2 ∧ ∃ cs', Bk X2 pb 71 cs' ∧ Else 0 cs cs' ∧ WdA cs' 0 (jn pf qf)) → ∃ cs', PtB X2 pb cs' (jn pf qf) pl true ∧ Only pb w1 X2 from fun X2 h => P1.first h)
   refine wp_cutN (fun a a' w' => (∃ z0 z1 z2 z3 z4 z5 z6 z7 z8 : Value, a' = (((((((((a.put (some 20) z0).put (some 21) z1).put (some 22) z2).put (some 23) z3).put (some 24) z4).put (some 25) z5).put (some 26) z6).put (some 27) z7).put (some 28) z8)) ∧ ∃ cs', PtB w' pb cs' (jn pf qf) pl true ∧ Only pb w1 w') ?first20 ?next20
   case first20 =>
    refine wp_region_held_drew (S := fun w' : World => True) (by kernel_rfl) trivial (fun hSS => ?_)
    show wpAnyH _ _ _ _ _ 9 #[false, false, false, false, false, false, false, false, false] _ _
    refine zqT 0 (some 20) _ (zqF 9 1) (by rw [List.getElem?_toArray]; rfl) rfl (by kernel_rfl) rfl (fun _ _ _ h => h) (Or.inl ⟨by rfl, fun w' hSw => by (try dsimp only at hSw); go_simp; try with_reducible rfl⟩) hSS ?_
    simp only [zqN]
    refine zqT 1 (some 21) _ (zqF 9 2) (by rw [List.getElem?_toArray]; rfl) rfl (by kernel_rfl) rfl (fun _ _ _ h => h) (Or.inl ⟨by rfl, fun w' hSw => by (try dsimp only at hSw); go_simp; try with_reducible rfl⟩) hSS ?_
    simp only [zqN]
    refine zqT 2 (some 22) _ (zqF 9 3) (by rw [List.getElem?_toArray]; rfl) rfl (by kernel_rfl) rfl (fun _ _ _ h => h) (Or.inl ⟨by rfl, fun w' hSw => by (try dsimp only at hSw); go_simp; try with_reducible rfl⟩) hSS ?_
    simp only [zqN]
    refine zqT 3 (some 23) _ (zqF 9 4) (by rw [List.getElem?_toArray]; rfl) rfl (by kernel_rfl) rfl (fun _ _ _ h => h) (Or.inl ⟨by rfl, fun w' hSw => by (try dsimp only at hSw); go_simp; try with_reducible rfl⟩) hSS ?_
    simp only [zqN]
    refine zqT 4 (some 24) _ (zqF 9 5) (by rw [List.getElem?_toArray]; rfl) rfl (by kernel_rfl) rfl (fun _ _ _ h => h) (Or.inl ⟨by rfl, fun w' hSw => by (try dsimp only at hSw); go_simp; try with_reducible rfl⟩) hSS ?_
    simp only [zqN]
    refine zqT 5 (some 25) _ (zqF 9 6) (by rw [List.getElem?_toArray]; rfl) rfl (by kernel_rfl) rfl (fun _ _ _ h => h) (Or.inl ⟨by rfl, fun w' hSw => by (try dsimp only at hSw); go_simp; try with_reducible rfl⟩) hSS ?_
    simp only [zqN]
    refine zqT 6 (some 26) _ (zqF 9 7) (by rw [List.getElem?_toArray]; rfl) rfl (by kernel_rfl) rfl (fun _ _ _ h => h) (Or.inl ⟨by rfl, fun w' hSw => by (try dsimp only at hSw); go_simp; try with_reducible rfl⟩) hSS ?_
    simp only [zqN]
    refine zqT 7 (some 27) _ (zqF 9 8) (by rw [List.getElem?_toArray]; rfl) rfl (by kernel_rfl) rfl (fun _ _ _ h => h) (Or.inl ⟨by rfl, fun w' hSw => by (try dsimp only at hSw); go_simp; try with_reducible rfl⟩) hSS ?_
    simp only [zqN]
    refine come_one (i := 8) (l' := (zqF 9 9)) (by rw [List.getElem?_toArray]; rfl) (by kernel_rfl) rfl (fun K' hK => ?_)
    go_simp
    go_at_call 31; refine HJ.out.mono ?_; rintro e X2 ⟨rfl, hX2⟩
    refine hK.out _ _ trivial (fun hSS => ?_)
    try simp only [zqN]
    refine wpAnyH_done (by kernel_rfl) ?_ _
    exact ⟨⟨_, _, _, _, _, _, _, _, _, rfl⟩, HF.out X2 hX2⟩
   case next20 =>
   rintro a' w2 ⟨⟨z0, z1, z2, z3, z4, z5, z6, z7, z8, rfl⟩, cs2, P2, hO2⟩
   simp only [zqN]
   have Q2 := Q1.only hO2 hne
   have e2 := P2.e
   have x2 := Q2.e
   go_upto_if 33 with fail
   obtain ⟨cs3, P3, hZ⟩ := P2.zero
   have HTH := Lib.hid P2.there
   have hO3 := hO2.trans hZ
   have Q3 := Q2.only hZ hne
   refine wp_cutN (fun a a' w' => (∃ y34 y35 y36 y37 y38 : Value, a' = (((((a.put (some 34) y34).put (some 35) y35).put (some 36) y36).put (some 37) y37).put (some 38) y38)) ∧ w' = w2.setCells pb 64 zer64) ?first34 ?next34
   case first34 =>
    refine wp_cond_true rfl ?_
    refine wp_region_lit ?_
    refine wpList_plain rfl fun K hK => ?_
    go_simp
    refine hK _ _ ?_
    refine wpList_zero rfl rfl ?_
    refine wpList_plain rfl fun K hK => ?_
    go_simp
    refine hK _ _ ?_
    refine wpList_plain rfl fun K hK => ?_
    go_simp
    refine hK _ _ ?_
    refine wpList_plain rfl fun K hK => ?_
    go_simp
    refine hK _ _ ?_
    refine wpList_store_mid rfl 64 (.tmp 38) (.tmp 35) rfl pb 64 zer64.toArray rfl rfl HTH.out (by kernel_rfl) (by kernel_rfl) ?_
    exact ⟨⟨_, _, _, _, _, rfl⟩, rfl⟩
   case next34 =>
   rintro a' w3 ⟨⟨y34, y35, y36, y37, y38, rfl⟩, hw3⟩
   rw [← hw3] at P3 hO3 Q3
   clear hw3
   simp only [zqN]
   go_wp2_with fail
   have HJ5 := Lib.hid (join_any pb qb 64 64 71 71 cs3 ds none_ ql w3.drew P3.k Q3.k hne P3.l Q3.l)
   have HF5 := Lib.hid (show ∀ X2, (Only pb w3.drew X2 ∧ ∃ cs', Bk X2 pb 71 cs' ∧ Else 64 cs3 cs' ∧ WdA cs' 64 (jn none_ ql)) → ∃ cs', PtB X2 pb cs' (jn pf qf) (jn none_ ql) true ∧ Only pb w3 X2 from fun X2 h => P3.last h)
   refine wp_cutN (fun a a' w' => (∃ z0 z1 z2 z3 z4 z5 z6 z7 z8 : Value, a' = (((((((((a.put (some 39) z0).put (some 40) z1).put (some 41) z2).put (some 42) z3).put (some 43) z4).put (some 44) z5).put (some 45) z6).put (some 46) z7).put (some 47) z8)) ∧ ∃ cs', PtB w' pb cs' (jn pf qf) (jn none_ ql) true ∧ Only pb w3 w') ?first39 ?next39
   case first39 =>
    refine wp_region_held_drew (S := fun w' : World => True) (by kernel_rfl) trivial (fun hSS => ?_)
    show wpAnyH _ _ _ _ _ 9 #[false, false, false, false, false, false, false, false, false] _ _
    refine zqT 0 (some 39) _ (zqF 9 1) (by rw [List.getElem?_toArray]; rfl) rfl (by kernel_rfl) rfl (fun _ _ _ h => h) (Or.inl ⟨by rfl, fun w' hSw => by (try dsimp only at hSw); go_simp; try with_reducible rfl⟩) hSS ?_
    simp only [zqN]
    refine zqT 1 (some 40) _ (zqF 9 2) (by rw [List.getElem?_toArray]; rfl) rfl (by kernel_rfl) rfl (fun _ _ _ h => h) (Or.inl ⟨by rfl, fun w' hSw => by (try dsimp only at hSw); go_simp; try with_reducible rfl⟩) hSS ?_
    simp only [zqN]
    refine zqT 2 (some 41) _ (zqF 9 3) (by rw [List.getElem?_toArray]; rfl) rfl (by kernel_rfl) rfl (fun _ _ _ h => h) (Or.inl ⟨by rfl, fun w' hSw => by (try dsimp only at hSw); go_simp; try with_reducible rfl⟩) hSS ?_
    simp only [zqN]
    refine zqT 3 (some 42) _ (zqF 9 4) (by rw [List.getElem?_toArray]; rfl) rfl (by kernel_rfl) rfl (fun _ _ _ h => h) (Or.inl ⟨by rfl, fun w' hSw => by (try dsimp only at hSw); go_simp; try with_reducible rfl⟩) hSS ?_
    simp only [zqN]
    refine zqT 4 (some 43) _ (zqF 9 5) (by rw [List.getElem?_toArray]; rfl) rfl (by kernel_rfl) rfl (fun _ _ _ h => h) (Or.inl ⟨by rfl, fun w' hSw => by (try dsimp only at hSw); go_simp; try with_reducible rfl⟩) hSS ?_
    simp only [zqN]
    refine zqT 5 (some 44) _ (zqF 9 6) (by rw [List.getElem?_toArray]; rfl) rfl (by kernel_rfl) rfl (fun _ _ _ h => h) (Or.inl ⟨by rfl, fun w' hSw => by (try dsimp only at hSw); go_simp; try with_reducible rfl⟩) hSS ?_
    simp only [zqN]
    refine zqT 6 (some 45) _ (zqF 9 7) (by rw [List.getElem?_toArray]; rfl) rfl (by kernel_rfl) rfl (fun _ _ _ h => h) (Or.inl ⟨by rfl, fun w' hSw => by (try dsimp only at hSw); go_simp; try with_reducible rfl⟩) hSS ?_
    simp only [zqN]
    refine zqT 7 (some 46) _ (zqF 9 8) (by rw [List.getElem?_toArray]; rfl) rfl (by kernel_rfl) rfl (fun _ _ _ h => h) (Or.inl ⟨by rfl, fun w' hSw => by (try dsimp only at hSw); go_simp; try with_reducible rfl⟩) hSS ?_
    simp only [zqN]
    refine come_one (i := 8) (l' := (zqF 9 9)) (by rw [List.getElem?_toArray]; rfl) (by kernel_rfl) rfl (fun K' hK => ?_)
    go_simp
    go_at_call 31; refine HJ5.out.mono ?_; rintro e X2 ⟨rfl, hX2⟩
    refine hK.out _ _ trivial (fun hSS => ?_)
    try simp only [zqN]
    refine wpAnyH_done (by kernel_rfl) ?_ _
    exact ⟨⟨_, _, _, _, _, _, _, _, _, rfl⟩, HF5.out X2 hX2⟩
   case next39 =>
   rintro a' w5 ⟨⟨z0, z1, z2, z3, z4, z5, z6, z7, z8, rfl⟩, cs5, P5, hO5⟩
   simp only [zqN]
   have Q5 := Q3.only hO5 hne
   have e5 := P5.e
   have f5 := P5.k.free 128
   have x5 := Q5.e
   have P6 := P5.empty false
   have hO6 := (hO3.trans hO5).trans (Only.set pb 128 w5 (.bool false))
   have HG := Lib.hid (hfin hB1 hT1 P6 hO6 P1.k)
   go_wp2_with fail
   exact bodyPost_end (results_none rfl _ _ _) rfl ⟨rfl, by simpa [behindF] using HG.out⟩
 · -- true true
   go_enter Tryd.func49, Tryd.ntmps49
   go_wp2_with fail
   refine wp_cutN (fun a a' w' => (∃ z0 z1 z2 z3 z4 z5 z6 z7 z8 z9 : Value, a' = ((((((((((a.put (some 6) z0).put (some 7) z1).put (some 8) z2).put (some 9) z3).put (some 10) z4).put (some 11) z5).put (some 12) z6).put (some 13) z7).put (some 14) z8).put (some 15) z9)) ∧ BI n₀ bb g kind (linkF s pl qf) w' ∧ Tl n₀ W w') ?first6 ?next6
   case first6 =>
    refine wp_region_held_drew (S := fun w' : World => True) (by kernel_rfl) trivial (fun hSS => ?_)
    show wpAnyH _ _ _ _ _ 10 #[false, false, false, false, false, false, false, false, false, false] _ _
    refine zqT 0 (some 6) _ (zqF 10 1) (by rw [List.getElem?_toArray]; rfl) rfl (by kernel_rfl) rfl (fun _ _ _ h => h) (Or.inl ⟨by rfl, fun w' hSw => by (try dsimp only at hSw); go_simp; try with_reducible rfl⟩) hSS ?_
    simp only [zqN]
    refine zqT 1 (some 7) _ (zqF 10 2) (by rw [List.getElem?_toArray]; rfl) rfl (by kernel_rfl) rfl (fun _ _ _ h => h) (Or.inl ⟨by rfl, fun w' hSw => by (try dsimp only at hSw); go_simp; try with_reducible rfl⟩) hSS ?_
    simp only [zqN]
    refine zqT 2 (some 8) _ (zqF 10 3) (by rw [List.getElem?_toArray]; rfl) rfl (by kernel_rfl) rfl (fun _ _ _ h => h) (Or.inl ⟨by rfl, fun w' hSw => by (try dsimp only at hSw); go_simp; try with_reducible rfl⟩) hSS ?_
    simp only [zqN]
    refine zqT 3 (some 9) _ (zqF 10 4) (by rw [List.getElem?_toArray]; rfl) rfl (by kernel_rfl) rfl (fun _ _ _ h => h) (Or.inl ⟨by rfl, fun w' hSw => by (try dsimp only at hSw); go_simp; try with_reducible rfl⟩) hSS ?_
    simp only [zqN]
    refine zqT 4 (some 10) _ (zqF 10 5) (by rw [List.getElem?_toArray]; rfl) rfl (by kernel_rfl) rfl (fun _ _ _ h => h) (Or.inl ⟨by rfl, fun w' hSw => by (try dsimp only at hSw); go_simp; try with_reducible rfl⟩) hSS ?_
    simp only [zqN]
    refine zqT 5 (some 11) _ (zqF 10 6) (by rw [List.getElem?_toArray]; rfl) rfl (by kernel_rfl) rfl (fun _ _ _ h => h) (Or.inl ⟨by rfl, fun w' hSw => by (try dsimp only at hSw); go_simp; try with_reducible rfl⟩) hSS ?_
    simp only [zqN]
    refine zqT 6 (some 12) _ (zqF 10 7) (by rw [List.getElem?_toArray]; rfl) rfl (by kernel_rfl) rfl (fun _ _ _ h => h) (Or.inl ⟨by rfl, fun w' hSw => by (try dsimp only at hSw); go_simp; try with_reducible rfl⟩) hSS ?_
    simp only [zqN]
    refine zqT 7 (some 13) _ (zqF 10 8) (by rw [List.getElem?_toArray]; rfl) rfl (by kernel_rfl) rfl (fun _ _ _ h => h) (Or.inl ⟨by rfl, fun w' hSw => by (try dsimp only at hSw); go_simp; try with_reducible rfl⟩) hSS ?_
    simp only [zqN]
    refine zqT 8 (some 14) _ (zqF 10 9) (by rw [List.getElem?_toArray]; rfl) rfl (by kernel_rfl) rfl (fun _ _ _ h => h) (Or.inl ⟨by rfl, fun w' hSw => by (try dsimp only at hSw); go_simp; try with_reducible rfl⟩) hSS ?_
    simp only [zqN]
    refine come_one (i := 9) (l' := (zqF 10 10)) (by rw [List.getElem?_toArray]; rfl) (by kernel_rfl) rfl (fun K' hK => ?_)
    go_simp
    go_at_call 50; refine HL.out.mono ?_; rintro e X2 ⟨rfl, hB2, hT2⟩
    refine hK.out _ _ trivial (fun hSS => ?_)
    try simp only [zqN]
    refine wpAnyH_done (by kernel_rfl) ?_ _
    exact ⟨⟨_, _, _, _, _, _, _, _, _, _, rfl⟩, hB2, dT.trans hT2⟩
   case next6 =>
   rintro a' w1 ⟨⟨z0, z1, z2, z3, z4, z5, z6, z7, z8, z9, rfl⟩, hB1, hT1⟩
   simp only [zqN]
   have P1 := hP.tl hT1
   have Q1 := hQ.tl hT1
   have e1 := P1.e
   have x1 := Q1.e
   clear HL hP hQ
   go_wp2_with fail
   have HJ := Lib.hid (join_any pb qb 0 0 71 71 cs ds pf qf w1.drew P1.k Q1.k hne P1.f Q1.f)
   have HF := Lib.hid (show ∀ X2, (Only pb w1.drew X2 ∧ ∃ cs', Bk X2 pb 71 cs' ∧ Else 0 cs cs' ∧ WdA cs' 0 (jn pf qf)) → ∃ cs', PtB X2 pb cs' (jn pf qf) pl true ∧ Only pb w1 X2 from fun X2 h => P1.first h)
   refine wp_cutN (fun a a' w' => (∃ z0 z1 z2 z3 z4 z5 z6 z7 z8 : Value, a' = (((((((((a.put (some 20) z0).put (some 21) z1).put (some 22) z2).put (some 23) z3).put (some 24) z4).put (some 25) z5).put (some 26) z6).put (some 27) z7).put (some 28) z8)) ∧ ∃ cs', PtB w' pb cs' (jn pf qf) pl true ∧ Only pb w1 w') ?first20 ?next20
   case first20 =>
    refine wp_region_held_drew (S := fun w' : World => True) (by kernel_rfl) trivial (fun hSS => ?_)
    show wpAnyH _ _ _ _ _ 9 #[false, false, false, false, false, false, false, false, false] _ _
    refine zqT 0 (some 20) _ (zqF 9 1) (by rw [List.getElem?_toArray]; rfl) rfl (by kernel_rfl) rfl (fun _ _ _ h => h) (Or.inl ⟨by rfl, fun w' hSw => by (try dsimp only at hSw); go_simp; try with_reducible rfl⟩) hSS ?_
    simp only [zqN]
    refine zqT 1 (some 21) _ (zqF 9 2) (by rw [List.getElem?_toArray]; rfl) rfl (by kernel_rfl) rfl (fun _ _ _ h => h) (Or.inl ⟨by rfl, fun w' hSw => by (try dsimp only at hSw); go_simp; try with_reducible rfl⟩) hSS ?_
    simp only [zqN]
    refine zqT 2 (some 22) _ (zqF 9 3) (by rw [List.getElem?_toArray]; rfl) rfl (by kernel_rfl) rfl (fun _ _ _ h => h) (Or.inl ⟨by rfl, fun w' hSw => by (try dsimp only at hSw); go_simp; try with_reducible rfl⟩) hSS ?_
    simp only [zqN]
    refine zqT 3 (some 23) _ (zqF 9 4) (by rw [List.getElem?_toArray]; rfl) rfl (by kernel_rfl) rfl (fun _ _ _ h => h) (Or.inl ⟨by rfl, fun w' hSw => by (try dsimp only at hSw); go_simp; try with_reducible rfl⟩) hSS ?_
    simp only [zqN]
    refine zqT 4 (some 24) _ (zqF 9 5) (by rw [List.getElem?_toArray]; rfl) rfl (by kernel_rfl) rfl (fun _ _ _ h => h) (Or.inl ⟨by rfl, fun w' hSw => by (try dsimp only at hSw); go_simp; try with_reducible rfl⟩) hSS ?_
    simp only [zqN]
    refine zqT 5 (some 25) _ (zqF 9 6) (by rw [List.getElem?_toArray]; rfl) rfl (by kernel_rfl) rfl (fun _ _ _ h => h) (Or.inl ⟨by rfl, fun w' hSw => by (try dsimp only at hSw); go_simp; try with_reducible rfl⟩) hSS ?_
    simp only [zqN]
    refine zqT 6 (some 26) _ (zqF 9 7) (by rw [List.getElem?_toArray]; rfl) rfl (by kernel_rfl) rfl (fun _ _ _ h => h) (Or.inl ⟨by rfl, fun w' hSw => by (try dsimp only at hSw); go_simp; try with_reducible rfl⟩) hSS ?_
    simp only [zqN]
    refine zqT 7 (some 27) _ (zqF 9 8) (by rw [List.getElem?_toArray]; rfl) rfl (by kernel_rfl) rfl (fun _ _ _ h => h) (Or.inl ⟨by rfl, fun w' hSw => by (try dsimp only at hSw); go_simp; try with_reducible rfl⟩) hSS ?_
    simp only [zqN]
    refine come_one (i := 8) (l' := (zqF 9 9)) (by rw [List.getElem?_toArray]; rfl) (by kernel_rfl) rfl (fun K' hK => ?_)
    go_simp
    go_at_call 31; refine HJ.out.mono ?_; rintro e X2 ⟨rfl, hX2⟩
    refine hK.out _ _ trivial (fun hSS => ?_)
    try simp only [zqN]
    refine wpAnyH_done (by kernel_rfl) ?_ _
    exact ⟨⟨_, _, _, _, _, _, _, _, _, rfl⟩, HF.out X2 hX2⟩
   case next20 =>
   rintro a' w2 ⟨⟨z0, z1, z2, z3, z4, z5, z6, z7, z8, rfl⟩, cs2, P2, hO2⟩
   simp only [zqN]
   have Q2 := Q1.only hO2 hne
   have e2 := P2.e
   have x2 := Q2.e
   go_wp2_with fail
   have P3 := P2
   have Q3 := Q2
   have hO3 := hO2
   have HJ5 := Lib.hid (join_any pb qb 64 64 71 71 cs2 ds pl ql w2.drew P3.k Q3.k hne P3.l Q3.l)
   have HF5 := Lib.hid (show ∀ X2, (Only pb w2.drew X2 ∧ ∃ cs', Bk X2 pb 71 cs' ∧ Else 64 cs2 cs' ∧ WdA cs' 64 (jn pl ql)) → ∃ cs', PtB X2 pb cs' (jn pf qf) (jn pl ql) true ∧ Only pb w2 X2 from fun X2 h => P3.last h)
   refine wp_cutN (fun a a' w' => (∃ z0 z1 z2 z3 z4 z5 z6 z7 z8 : Value, a' = (((((((((a.put (some 39) z0).put (some 40) z1).put (some 41) z2).put (some 42) z3).put (some 43) z4).put (some 44) z5).put (some 45) z6).put (some 46) z7).put (some 47) z8)) ∧ ∃ cs', PtB w' pb cs' (jn pf qf) (jn pl ql) true ∧ Only pb w2 w') ?first39 ?next39
   case first39 =>
    refine wp_region_held_drew (S := fun w' : World => True) (by kernel_rfl) trivial (fun hSS => ?_)
    show wpAnyH _ _ _ _ _ 9 #[false, false, false, false, false, false, false, false, false] _ _
    refine zqT 0 (some 39) _ (zqF 9 1) (by rw [List.getElem?_toArray]; rfl) rfl (by kernel_rfl) rfl (fun _ _ _ h => h) (Or.inl ⟨by rfl, fun w' hSw => by (try dsimp only at hSw); go_simp; try with_reducible rfl⟩) hSS ?_
    simp only [zqN]
    refine zqT 1 (some 40) _ (zqF 9 2) (by rw [List.getElem?_toArray]; rfl) rfl (by kernel_rfl) rfl (fun _ _ _ h => h) (Or.inl ⟨by rfl, fun w' hSw => by (try dsimp only at hSw); go_simp; try with_reducible rfl⟩) hSS ?_
    simp only [zqN]
    refine zqT 2 (some 41) _ (zqF 9 3) (by rw [List.getElem?_toArray]; rfl) rfl (by kernel_rfl) rfl (fun _ _ _ h => h) (Or.inl ⟨by rfl, fun w' hSw => by (try dsimp only at hSw); go_simp; try with_reducible rfl⟩) hSS ?_
    simp only [zqN]
    refine zqT 3 (some 42) _ (zqF 9 4) (by rw [List.getElem?_toArray]; rfl) rfl (by kernel_rfl) rfl (fun _ _ _ h => h) (Or.inl ⟨by rfl, fun w' hSw => by (try dsimp only at hSw); go_simp; try with_reducible rfl⟩) hSS ?_
    simp only [zqN]
    refine zqT 4 (some 43) _ (zqF 9 5) (by rw [List.getElem?_toArray]; rfl) rfl (by kernel_rfl) rfl (fun _ _ _ h => h) (Or.inl ⟨by rfl, fun w' hSw => by (try dsimp only at hSw); go_simp; try with_reducible rfl⟩) hSS ?_
    simp only [zqN]
    refine zqT 5 (some 44) _ (zqF 9 6) (by rw [List.getElem?_toArray]; rfl) rfl (by kernel_rfl) rfl (fun _ _ _ h => h) (Or.inl ⟨by rfl, fun w' hSw => by (try dsimp only at hSw); go_simp; try with_reducible rfl⟩) hSS ?_
    simp only [zqN]
    refine zqT 6 (some 45) _ (zqF 9 7) (by rw [List.getElem?_toArray]; rfl) rfl (by kernel_rfl) rfl (fun _ _ _ h => h) (Or.inl ⟨by rfl, fun w' hSw => by (try dsimp only at hSw); go_simp; try with_reducible rfl⟩) hSS ?_
    simp only [zqN]
    refine zqT 7 (some 46) _ (zqF 9 8) (by rw [List.getElem?_toArray]; rfl) rfl (by kernel_rfl) rfl (fun _ _ _ h => h) (Or.inl ⟨by rfl, fun w' hSw => by (try dsimp only at hSw); go_simp; try with_reducible rfl⟩) hSS ?_
    simp only [zqN]
    refine come_one (i := 8) (l' := (zqF 9 9)) (by rw [List.getElem?_toArray]; rfl) (by kernel_rfl) rfl (fun K' hK => ?_)
    go_simp
    go_at_call 31; refine HJ5.out.mono ?_; rintro e X2 ⟨rfl, hX2⟩
    refine hK.out _ _ trivial (fun hSS => ?_)
    try simp only [zqN]
    refine wpAnyH_done (by kernel_rfl) ?_ _
    exact ⟨⟨_, _, _, _, _, _, _, _, _, rfl⟩, HF5.out X2 hX2⟩
   case next39 =>
   rintro a' w5 ⟨⟨z0, z1, z2, z3, z4, z5, z6, z7, z8, rfl⟩, cs5, P5, hO5⟩
   simp only [zqN]
   have Q5 := Q3.only hO5 hne
   have e5 := P5.e
   have f5 := P5.k.free 128
   have x5 := Q5.e
   have P6 := P5.empty true
   have hO6 := (hO3.trans hO5).trans (Only.set pb 128 w5 (.bool true))
   have HG := Lib.hid (hfin hB1 hT1 P6 hO6 P1.k)
   go_wp2_with fail
   exact bodyPost_end (results_none rfl _ _ _) rfl ⟨rfl, by simpa [behindF] using HG.out⟩
end Go.Proofs.YtiinkhmgemoamaaDoor.Nf
namespace Go.Proofs.YtiinkhmgemoamaaDoor.Nf
open Go Go.RowKit
set_option maxRecDepth 100000

theorem own_set_cell {base e size n gb cap bb slot : Nat} {xs : List Value} {W : World} {u : Value} (h : W.ownsRow base e size (.slice (some ⟨gb, 0, none⟩) n cap) n xs) (hne : gb ≠ bb) :
 ((Value.slice (some ⟨gb, 0, none⟩) n cap : Value) = .slice none 0 0 ∧ n = 0) ∨
 ∃ g c cur, (Value.slice (some ⟨gb, 0, none⟩) n cap : Value) = .slice (some ⟨g, 0, none⟩) n c ∧ base ≤ g ∧ (W.setCell ⟨bb, slot, none⟩ u).heap[g]? = some (.cells cur e (0, 0)) ∧ n ≤ c ∧ c ≤ maxLen ∧ cur.size = c * size ∧ cur.toList.take (n * size) = xs := by
 rcases h.2 with ⟨h1, _⟩ | ⟨g, c, cur, h1, h2, h3, h4⟩
 · cases h1
 · refine .inr ⟨g, c, cur, h1, h2, ?_, h4⟩
   have : g = gb := by injection h1 with h1; injection h1 with h1; injection h1 with h1; exact h1.symm
   subst this
   exact (Below.heap_setCell _ _ _ _ hne).trans h3
theorem own_keep {base e size n : Nat} {v : Value} {xs : List Value} {W W' : World} (h : W.ownsRow base e size v n xs) (hk : ∀ (k : Nat) (cur : Array Value), Bk W k e cur → Bk W' k e cur) : W'.ownsRow base e size v n xs := by
 refine ⟨h.1, ?_⟩
 rcases h.2 with h1 | ⟨g, c, cur, h1, h2, h3, h4⟩
 · exact .inl h1
 · exact .inr ⟨g, c, cur, h1, h2, hk g cur h3, h4⟩
/-- One more is appended to what the builder has. -/
theorem BIx.pushM {n₀ bb : Nat} {g : BV} {kind nodes : Nat} {over : Bool} {mv fv : Value} {ms : List Mk} {F : List (Nat → Bool)} {W w11 : World} (h : BIx n₀ bb g kind nodes over mv fv ms F W) {v : Value} {set : List (Int × Int)} (hv : SetV W v set) {ob : Obj} {gb cap : Nat}
 (hown : w11.ownsRow n₀ 48 4 (.slice (some ⟨gb, 0, none⟩) (ms.length + 1) cap) (ms.length + 1) (mV ms ++ [v, .int .i64 (kind : Int), .bool false, .slice none 0 0])) (hg : (W.alloc ob).grownBy w11 mv.ownBlock) (hat : mv.ownBlock = some gb ∨ gb = W.heap.size + 1) :
 BIx n₀ bb g kind nodes over (.slice (some ⟨gb, 0, none⟩) (ms.length + 1) cap) fv (ms ++ [(v, set, kind)]) F (w11.setCell ⟨bb, 6, none⟩ (.slice (some ⟨gb, 0, none⟩) (ms.length + 1) cap)) ∧ Tl n₀ W (w11.setCell ⟨bb, 6, none⟩ (.slice (some ⟨gb, 0, none⟩) (ms.length + 1) cap)) := by
 have hbl := h.b.lt
 have hrow : ∀ k, mv.ownBlock = some k → n₀ ≤ k ∧ ∃ cur, Bk W k 48 cur := fun k hk => ⟨(h.m.lt k hk).1, own_block (_n₀ := n₀) h.m k hk⟩
 have hnb : mv.ownBlock ≠ some bb := fun e => by
  obtain ⟨_, cur, hc⟩ := hrow bb e
  exact (hc.ne h.b (by decide)) rfl
 have hgb : gb ≠ bb := by
  rintro rfl
  rcases hat with e | e
  · exact hnb e
  · omega
 have keep : ∀ (k : Nat) (o : Obj), W.heap[k]? = some o → mv.ownBlock ≠ some k → w11.heap[k]? = some o := fun k o hk hne => by
  have hl := (Array.getElem?_eq_some_iff.1 hk).1
  rw [hg.block k (by simp; omega) (fun e => hne e.symm), Below.heap_alloc _ _ _ hl]
  exact hk
 have hbw : Below n₀ W w11 := ((Below.refl n₀ W).alloc (by have := h.lo; omega) ob).grown hg (by have := h.lo; simp; omega) (fun k e => (hrow k e).1)
 have hT : Tl n₀ W (w11.setCell ⟨bb, 6, none⟩ (.slice (some ⟨gb, 0, none⟩) (ms.length + 1) cap)) := by
  refine ⟨hbw.setCell (p := ⟨bb, 6, none⟩) h.lo _, fun k o hk hF => ?_⟩
  have e1 : k ≠ bb := by
   rintro rfl
   rw [show W.heap[k]? = _ from h.b] at hk
   injection hk with hk
   exact (hF _ _ _ hk.symm).1 rfl
  rw [Below.heap_setCell _ _ _ _ e1]
  refine keep k _ hk fun e => ?_
  obtain ⟨_, cur, hc⟩ := hrow k e
  rw [show W.heap[k]? = _ from hc] at hk
  injection hk with hk
  exact (hF _ _ _ hk.symm).2.1 rfl
 refine ⟨⟨h.lo, ?_, ?_, ?_, ?_, h.tab.below hT.1 h.tl, h.tl⟩, hT⟩
 · have k1 : Bk w11 bb 61 _ := keep bb _ h.b hnb
   have k2 := k1.set 6 (.slice (some ⟨gb, 0, none⟩) (ms.length + 1) cap)
   simpa using k2
 · rw [List.length_append, List.length_singleton, mV_app]
   exact ⟨hown.1, own_set_cell hown hgb⟩
 · exact own_keep h.f (fun k cu hk => (Below.heap_setCell _ _ _ _ (Bk.ne hk h.b (by decide))).trans (keep k _ hk fun e => by
    obtain ⟨_, cur, hc⟩ := hrow k e
    exact (hc.ne hk (by decide)) rfl))
 · intro x hx
   rcases List.mem_append.1 hx with hx | hx
   · exact (h.sets x hx).tl hT
   · rw [List.mem_singleton.1 hx]
     exact hv.tl hT
/-- One more is appended to what the builder has. -/
theorem BIx.pushF {n₀ bb : Nat} {g : BV} {kind nodes : Nat} {over : Bool} {mv fv : Value} {ms : List Mk} {F : List (Nat → Bool)} {W w11 : World} (h : BIx n₀ bb g kind nodes over mv fv ms F W) {ob : Obj} {gb cap : Nat}
 (hown : w11.ownsRow n₀ 64 64 (.slice (some ⟨gb, 0, none⟩) (F.length + 1) cap) (F.length + 1) (fV F ++ wordsV none_)) (hg : (W.alloc ob).grownBy w11 fv.ownBlock) (hat : fv.ownBlock = some gb ∨ gb = W.heap.size + 1) :
 BIx n₀ bb g kind nodes over mv (.slice (some ⟨gb, 0, none⟩) (F.length + 1) cap) ms (F ++ [none_]) (w11.setCell ⟨bb, 7, none⟩ (.slice (some ⟨gb, 0, none⟩) (F.length + 1) cap)) ∧ Tl n₀ W (w11.setCell ⟨bb, 7, none⟩ (.slice (some ⟨gb, 0, none⟩) (F.length + 1) cap)) := by
 have hbl := h.b.lt
 have hrow : ∀ k, fv.ownBlock = some k → n₀ ≤ k ∧ ∃ cur, Bk W k 64 cur := fun k hk => ⟨(h.f.lt k hk).1, own_block (_n₀ := n₀) h.f k hk⟩
 have hnb : fv.ownBlock ≠ some bb := fun e => by
  obtain ⟨_, cur, hc⟩ := hrow bb e
  exact (hc.ne h.b (by decide)) rfl
 have hgb : gb ≠ bb := by
  rintro rfl
  rcases hat with e | e
  · exact hnb e
  · omega
 have keep : ∀ (k : Nat) (o : Obj), W.heap[k]? = some o → fv.ownBlock ≠ some k → w11.heap[k]? = some o := fun k o hk hne => by
  have hl := (Array.getElem?_eq_some_iff.1 hk).1
  rw [hg.block k (by simp; omega) (fun e => hne e.symm), Below.heap_alloc _ _ _ hl]
  exact hk
 have hbw : Below n₀ W w11 := ((Below.refl n₀ W).alloc (by have := h.lo; omega) ob).grown hg (by have := h.lo; simp; omega) (fun k e => (hrow k e).1)
 have hT : Tl n₀ W (w11.setCell ⟨bb, 7, none⟩ (.slice (some ⟨gb, 0, none⟩) (F.length + 1) cap)) := by
  refine ⟨hbw.setCell (p := ⟨bb, 7, none⟩) h.lo _, fun k o hk hF => ?_⟩
  have e1 : k ≠ bb := by
   rintro rfl
   rw [show W.heap[k]? = _ from h.b] at hk
   injection hk with hk
   exact (hF _ _ _ hk.symm).1 rfl
  rw [Below.heap_setCell _ _ _ _ e1]
  refine keep k _ hk fun e => ?_
  obtain ⟨_, cur, hc⟩ := hrow k e
  rw [show W.heap[k]? = _ from hc] at hk
  injection hk with hk
  exact (hF _ _ _ hk.symm).2.2 rfl
 refine ⟨⟨h.lo, ?_, ?_, ?_, ?_, h.tab.below hT.1 h.tl, h.tl⟩, hT⟩
 · have k1 : Bk w11 bb 61 _ := keep bb _ h.b hnb
   have k2 := k1.set 7 (.slice (some ⟨gb, 0, none⟩) (F.length + 1) cap)
   simpa using k2
 · exact own_keep h.m (fun k cu hk => (Below.heap_setCell _ _ _ _ (Bk.ne hk h.b (by decide))).trans (keep k _ hk fun e => by
    obtain ⟨_, cur, hc⟩ := hrow k e
    exact (hc.ne hk (by decide)) rfl))
 · rw [List.length_append, List.length_singleton, fV_app]
   exact ⟨hown.1, own_set_cell hown hgb⟩
 · intro x hx
   exact (h.sets x hx).tl hT

def rV (set : List (Int × Int)) : List Value := set.flatMap fun p => [.int .i32 p.1, .int .i32 p.2]
theorem rV_len : ∀ set : List (Int × Int), (rV set).length = set.length * 2
 | [] => rfl
 | p :: l => by
  have := rV_len l
  unfold rV at this ⊢
  rw [List.flatMap_cons, List.length_append, this]
  simp; omega
theorem rV_at {W : World} : ∀ {set : List (Int × Int)} {a : Addr}, Nd.RgAt W set (some a) → ∀ j u, (rV set)[j]? = some u → W.cell? (a.add j) = some u
 | [], _, _, j, u, h => by simp [rV] at h
 | p :: l, _, ⟨b, o, ha, h0, h1, hr⟩, j, u, h => by
  injection ha with ha
  subst ha
  unfold rV at h
  rw [List.flatMap_cons] at h
  rw [Go.WideShapes.add_plain]
  match j, h with
  | 0, h => simp at h; subst h; exact h0
  | 1, h => simp at h; subst h; exact h1
  | j + 2, h =>
   have h2 : (rV l)[j]? = some u := by simpa [rV] using h
   have := rV_at hr j u h2
   rw [Go.WideShapes.add_plain] at this
   rw [show o + (j + 2) = o + 2 + j by omega]
   exact this
theorem rg_of_cells {W : World} {g : Nat} {Q : Nat → Prop} (hQ : Q g) : ∀ (set : List (Int × Int)) (o : Nat), (∀ j u, (rV set)[j]? = some u → W.cell? ⟨g, o + j, none⟩ = some u) → Ck.RgX Q W set (some ⟨g, o, none⟩)
 | [], _, _ => trivial
 | p :: l, o, h => ⟨g, o, rfl, hQ, h 0 _ rfl, h 1 _ rfl, rg_of_cells hQ l (o + 2) fun j u hu => by
  have := h (j + 2) u (by simpa [rV] using hu)
  rw [show o + 2 + j = o + (j + 2) by omega]
  exact this⟩
/-- A row of its own is a set that stays, clipped or not. -/
theorem own_setv {n₀ n : Nat} {v : Value} {set : List (Int × Int)} {W : World} (h : W.ownsRow n₀ 58 2 v n (rV set)) (hn : n = set.length) (hl : n ≤ 1000000) : ∃ A cap, v = .slice A n cap ∧ n ≤ cap ∧ cap ≤ 9223372036854775807 ∧ (A = none → cap = 0 ∧ n = 0) ∧ SetV W (.slice A n n) set := by
 subst hn
 rcases h.2 with ⟨h1, h2⟩ | ⟨g, c, cur, h1, h2, h3, h4, h5, h6, h7⟩
 · refine ⟨none, 0, by rw [h1, h2], by omega, by omega, fun _ => ⟨rfl, h2⟩, none, set.length, rfl, ⟨Nat.le_refl _, by omega⟩, ?_⟩
   obtain rfl : set = [] := List.eq_nil_of_length_eq_zero h2
   trivial
 · refine ⟨some ⟨g, 0, none⟩, c, h1, h4, by have := h5; unfold maxLen at this; omega, fun e => (by cases e), some ⟨g, 0, none⟩, set.length, rfl, ⟨Nat.le_refl _, by omega⟩, ?_⟩
   refine rg_of_cells (Q := Sty W) ⟨cur, _, h3⟩ set 0 fun j u hu => ?_
   rw [Nat.zero_add]
   have hj := (List.getElem?_eq_some_iff.1 hu).1
   rw [rV_len] at hj
   have hk : Bk W g 58 cur := h3
   rw [hk.cell, ← hu, ← h7, List.getElem?_take, if_pos hj]
   simp
theorem infoRn : (Tryd.prog.info? 58).map (fun i => (i.zero, i.size, i.bytes)) = some (some (.agg #[.int .i32 0, .int .i32 0]), 2, 8) := by kernel_rfl
theorem infoPl : (Tryd.prog.info? 48).map (fun i => (i.zero, i.size, i.bytes)) = some (some (.agg #[.slice none 0 0, .int .i64 0, .bool false, .slice none 0 0]), 4, 64) := by kernel_rfl
theorem infoPs : (Tryd.prog.info? 64).map (fun i => (i.zero, i.size, i.bytes)) = some (some (.agg zer64.toArray), 64, 512) := by kernel_rfl
/-- The runes of a place, copied. -/
theorem run_copy (n₀ : Nat) (W : World) (set : List (Int × Int)) (a : Option Addr) (c : Nat) (ty : TypeId) (hR : Nd.RgAt W set a) (hl : set.length ≤ 1000000) (hn : n₀ ≤ W.heap.size) :
 ∃ v' w', (Builtin.append_ #[31, 31] ty #[.slice none 0 0, .slice a set.length c]).run Tryd.prog W = .ok v' w' ∧ w'.ownsRow n₀ 58 2 v' set.length (rV set) ∧ W.grownBy w' none := by
 obtain ⟨i0, hi, hz0, hz1, hz2⟩ := info_parts infoRn
 cases a with
 | none =>
  obtain rfl : set = [] := by
   cases set with
   | nil => rfl
   | cons p l => obtain ⟨b, o, ha, _⟩ := hR; cases ha
  refine ⟨.slice none 0 0, W, ?_, World.ownsRow_nil _ _ _ _, ⟨rfl, rfl, rfl, Nat.le_refl _, fun _ _ _ => rfl⟩⟩
  simp [Builtin.append_, run_underlying Tryd.underlying31, sizeOf, typeInfo, hi, Builtin.lenOf, Builtin.firstCells]
 | some ad =>
  obtain ⟨v', w', h1, h2, h3, _⟩ := run_append_own (P := Tryd.prog) W n₀ 31 ty 58 i0 (.agg #[.int .i32 0, .int .i32 0]) 2 8 Tryd.underlying31 hi hz0 hz1 hz2 rfl (by decide) (.slice none 0 0) 0 [] (World.ownsRow_nil _ _ _ _)
   ad set.length c (rV set) (rV_len set) (rV_at hR) (fun u hu => by
    unfold rV at hu
    rw [List.mem_flatMap] at hu
    obtain ⟨p, _, hp⟩ := hu
    simp only [List.mem_cons, List.not_mem_nil, or_false] at hp
    rcases hp with rfl | rfl <;> rfl) (by unfold maxLen; omega) (by omega) hn
  rw [Nat.zero_add, List.nil_append] at h2
  exact ⟨v', w', h1, h2, h3⟩
theorem wpList_run {P : Program} {ops : Array Oper} {rest : List Oper} {o : Oper} {a : Act} {w : World} {Q : Exit → Act → World → Prop} (hgd : o.guard = none) (s x : Operand) (t : TypeId) (ho : o.op = .call { callee := .builtin .append, args := #[s, x], argTypes := #[t, t] })
 (v u : Value) (hs : a.eval s = v) (hx : a.eval x = u) (v' : Value) (w' : World) (hrun : (Builtin.append_ #[t, t] o.type #[v, u]).run P w = .ok v' w') (h : wpList P ops Q rest (a.put o.dst v') w') : wpList P ops Q (o :: rest) a w :=
 wpList_plain hgd fun K hK => by
  unfold Oper.wp
  simp [execOp, ho, resolve, invoke, builtin, hs, hx, hrun, Result.andThen]
  exact hK _ _ h
theorem ClipRn_some (a : Addr) (n cap : Nat) (hn : n ≤ cap) (hc : cap ≤ 9223372036854775807) (w : World) :
 Calls Tryd.prog 51 #[.slice (some a) n cap] w fun e w' => e = .returned (.slice (some a) n n) ∧ w = w' := by
 have n1 : (n : Int) ≤ 9223372036854775807 := by omega
 go_enter Tryd.func51, Tryd.ntmps51
 go_wp2_with fail
 go_ret
 exact ⟨rfl, rfl⟩
theorem ClipRn_nil (w : World) :
 Calls Tryd.prog 51 #[.slice none 0 0] w fun e w' => e = .returned (.slice none 0 0) ∧ w = w' := by
 go_enter Tryd.func51, Tryd.ntmps51
 go_wp2_with fail
 go_ret
 exact ⟨rfl, rfl⟩
theorem PtB.wds {W : World} {pb : Nat} {cs : Array Value} {F L : Nat → Bool} {E : Bool} (h : PtB W pb cs F L E) : Wds W pb 0 F ∧ Wds W pb 64 L :=
 ⟨fun i hi => ⟨by rw [h.k.cell, h.f i hi], h.k.free _⟩, fun i hi => ⟨by rw [h.k.cell, h.l i hi], h.k.free _⟩⟩
theorem wda_ad {cs : Array Value} {o p : Nat} {S : Nat → Bool} (h : WdA cs o S) (_hp : p < 4096) (hs : o + 64 ≤ cs.size) : WdA (cs.setIfInBounds (o + p / 64) (.int .u64 (word (ad S p) (p / 64) : Int))) o (ad S p) := fun i hi => by
 by_cases e : i = p / 64
 · subst e
   rw [Array.getElem?_setIfInBounds_self_of_lt (by omega)]
 · rw [Array.getElem?_setIfInBounds_ne (by omega), h i hi, word_ad, if_neg e]
theorem PtB.addF {W : World} {pb : Nat} {cs : Array Value} {F L : Nat → Bool} {E : Bool} (h : PtB W pb cs F L E) {p : Nat} (hp : p < 4096) : ∃ cs', PtB (W.drew.setCell ⟨pb, 0 + p / 64, none⟩ (.int .u64 (word (ad F p) (p / 64) : Int))) pb cs' (ad F p) L E :=
 ⟨_, Bk.set (w := W.drew) h.k (0 + p / 64) _, by simpa using h.sz, wda_ad h.f hp (by rw [h.sz]; omega), fun i hi => by rw [Array.getElem?_setIfInBounds_ne (by omega)]; exact h.l i hi, by rw [Array.getElem?_setIfInBounds_ne (by omega)]; exact h.c⟩
theorem PtB.addL {W : World} {pb : Nat} {cs : Array Value} {F L : Nat → Bool} {E : Bool} (h : PtB W pb cs F L E) {p : Nat} (hp : p < 4096) : ∃ cs', PtB (W.drew.setCell ⟨pb, 64 + p / 64, none⟩ (.int .u64 (word (ad L p) (p / 64) : Int))) pb cs' F (ad L p) E :=
 ⟨_, Bk.set (w := W.drew) h.k (64 + p / 64) _, by simpa using h.sz, fun i hi => by rw [Array.getElem?_setIfInBounds_ne (by omega)]; exact h.f i hi, wda_ad h.l hp (by rw [h.sz]; omega), by rw [Array.getElem?_setIfInBounds_ne (by omega)]; exact h.c⟩
theorem zero_cells : Tryd.zeroCells71 = ((List.range 128).map (fun _ => Value.int .u64 0) ++ [Value.bool false]).toArray := by kernel_rfl
theorem zero_ptb {W : World} {pb : Nat} (h : Bk W pb 71 Tryd.zeroCells71) : PtB W pb Tryd.zeroCells71 none_ none_ false := by
 have key : ∀ j, j < 128 → (Tryd.zeroCells71)[j]? = some (.int .u64 0) := fun j hj => by
  rw [zero_cells, List.getElem?_toArray, List.getElem?_append_left (by simpa using hj), List.getElem?_map, List.getElem?_range hj]
  rfl
 refine ⟨h, by rw [zero_cells]; simp, fun i hi => by rw [word_none]; exact key _ (by omega), fun i hi => by rw [word_none]; exact key _ (by omega), ?_⟩
 rw [zero_cells, List.getElem?_toArray, List.getElem?_append_right (by simp)]
 simp
end Go.Proofs.YtiinkhmgemoamaaDoor.Nf
namespace Go.Proofs.YtiinkhmgemoamaaDoor.Nf
open Go Go.RowKit
attribute [local go_sem] Oper.semAt_some
set_option maxRecDepth 100000
theorem bi_mk {n₀ bb : Nat} {g : BV} {kind : Nat} {s : St} {W : World} {mv fv : Value} {ms : List Mk} (h : BIx n₀ bb g kind s.nodes s.over mv fv ms s.follow W) (hm : ms.map (·.2) = s.made) : BI n₀ bb g kind s W := ⟨mv, fv, ms, h, hm⟩
theorem slice_form {w : World} {base e size n : Nat} {v : Value} {xs : List Value} (h : w.ownsRow base e size v n xs) : ∃ A cap, v = .slice A n cap := by
 rcases h.2 with ⟨h1, h2⟩ | ⟨g, c, cur, h1, _⟩
 · exact ⟨none, 0, by rw [h1, h2]⟩
 · exact ⟨_, c, h1⟩
theorem soft_alloc {n₀ : Nat} (W : World) (hn : n₀ ≤ W.heap.size) (o : Obj) : Soft n₀ W (W.alloc o) := Soft.below ((Below.refl _ _).alloc (Nat.le_refl _) o) hn
theorem soft_set_over {n₀ bb : Nat} {g : BV} {kind nodes : Nat} {over o2 : Bool} {mv fv : Value} {ms : List Mk} {F : List (Nat → Bool)} {W : World} (h : BIx n₀ bb g kind nodes over mv fv ms F W) :
 BIx n₀ bb g kind nodes o2 mv fv ms F (W.setCell ⟨bb, 8, none⟩ (.bool o2)) ∧ Tl n₀ W (W.setCell ⟨bb, 8, none⟩ (.bool o2)) := by
 have hO := Only.set bb 8 W (.bool o2)
 have hT : Tl n₀ W (W.setCell ⟨bb, 8, none⟩ (.bool o2)) := ⟨hO.below h.lo, fun k o hk hF => by
  rw [hO.same k ?_]
  · exact hk
  · rintro rfl
    rw [show W.heap[k]? = _ from h.b] at hk
    injection hk with hk
    exact (hF _ _ _ hk.symm).1 rfl⟩
 refine ⟨⟨h.lo, ?_, own_keep h.m fun k cu hk => hO.bk hk (hk.ne h.b (by decide)), own_keep h.f fun k cu hk => hO.bk hk (hk.ne h.b (by decide)), fun x hx => (h.sets x hx).tl hT, h.tab.below hT.1 h.tl, h.tl⟩, hT⟩
 have := h.b.set 8 (.bool o2)
 simpa using this
theorem zer_words : wordsV none_ = zer64 := by
 unfold wordsV zer64
 exact List.map_congr_left fun i _ => by rw [word_none]; rfl
set_option maxHeartbeats 4000000 in
theorem place_any (n₀ bb : Nat) (g : BV) (kind : Nat) (s : St) (W : World) (hI : BI n₀ bb g kind s W) (hOk : Ok s) (set : List (Int × Int)) (a0 : Option Addr) (c0 : Nat) (hR : Nd.RgAt W set a0) (_hc : set.length ≤ c0) (hl : set.length ≤ 1000000) :
 Calls Tryd.prog 36 #[.pointer (some ⟨bb, 0, none⟩), .slice a0 set.length c0] W fun e W' => ∃ pb, e = .returned (.pointer (some ⟨pb, 0, none⟩)) ∧ W.heap.size ≤ pb ∧
  BI n₀ bb g kind (placeF kind s set).1 W' ∧ PtA W' pb (placeF kind s set).2 ∧ Tl n₀ W W' := by
 obtain ⟨mv, fv, ms, hB, hms⟩ := hI
 have hmsl : ms.length = s.made.length := by rw [← hms, List.length_map]
 obtain ⟨i1, hi1, hj0, hj1, hj2⟩ := info_parts infoPl
 obtain ⟨i2, hi2, hk0, hk1, hk2⟩ := info_parts infoPs
 obtain ⟨mA, mc, rfl⟩ := slice_form hB.m
 obtain ⟨fA, fc, rfl⟩ := slice_form hB.f
 obtain ⟨N, hN⟩ : ∃ N, ms.length = N := ⟨_, rfl⟩
 have hFN : s.follow.length = N := by rw [hOk.len, ← hmsl, hN]
 have hcap : N ≤ 4096 := by rw [← hN, hmsl]; exact hOk.cap
 have hn0 : n₀ ≤ W.heap.size := by have := hB.b.lt; have := hB.lo; omega
 have hsz : W.heap.size ≤ W.heap.size := Nat.le_refl _
 rw [hN] at hB
 rw [hFN] at hB
 replace hFN := Lib.hid hFN
 replace hmsl := Lib.hid hmsl
 have HBX := Lib.hid hB
 have c6 : W.drew.cell? ⟨bb, 6, none⟩ = some (.slice mA N mc) := by have := hB.b.cell 6; simpa using this
 have HC := Lib.hid (show ∀ ob, (W.drew.alloc ob).cell? ⟨bb, 6, none⟩ = some (.slice mA N mc) from fun ob => by
  have := (hB.b.alloc (w := W.drew) ob).cell 6
  simpa using this)
 obtain ⟨SN, hSN⟩ : ∃ SN, set.length = SN := ⟨_, rfl⟩
 rw [hSN]
 have np : (N : Int) ≤ 9223372036854775807 := by omega
 go_enter Tryd.func36, Tryd.ntmps36
 go_wp2_with fail
 refine wp_cutN (fun a a' w' => (∃ z8 z9 z10 z11 z12 z13 z14 : Value, a' = (((((((((a.put (some 8) z8).put (some 9) z9).put (some 10) z10).put (some 11) z11).put (some 12) z12).put (some 13) z13).put (some 14) z14).put (some 5) (.pointer (some ⟨W.heap.size, 0, none⟩))).put (some 6) (.int .i64 (N : Int)))) ∧ w' = W.drew.alloc (.cells Tryd.zeroCells71 71)) ?first1 ?next1
 case first1 =>
  refine wp_region_held_drew (S := fun w' : World => (w'.cell? ⟨bb, 6, none⟩ = some (.slice mA N mc))) (by kernel_rfl) c6 (fun hSS => ?_)
  show wpAnyH _ _ _ _ _ 9 #[false, false, false, false, false, false, false, false, false] _ _
  refine zqT 0 (some 8) _ (zqF 9 1) (by rw [List.getElem?_toArray]; rfl) rfl (by kernel_rfl) rfl (fun _ _ _ h => h) (Or.inl ⟨by rfl, fun w' hSw => by (try dsimp only at hSw); go_simp; try with_reducible rfl⟩) hSS ?_
  simp only [zqN]
  refine zqT 2 (some 10) _ #[true, false, true, false, false, false, false, false, false] (by rw [List.getElem?_toArray]; rfl) rfl (by kernel_rfl) rfl (fun _ _ _ h => h) (Or.inl ⟨by rfl, fun w' hSw => by (try dsimp only at hSw); go_simp; try with_reducible rfl⟩) hSS ?_
  simp only [zqN]
  refine zqT 3 (some 11) _ #[true, false, true, true, false, false, false, false, false] (by rw [List.getElem?_toArray]; rfl) rfl (by kernel_rfl) rfl (fun _ _ _ h => h) (Or.inl ⟨by rfl, fun w' hSw => by (try dsimp only at hSw); go_simp; try with_reducible rfl⟩) hSS ?_
  simp only [zqN]
  refine zqT 4 (some 12) _ #[true, false, true, true, true, false, false, false, false] (by rw [List.getElem?_toArray]; rfl) rfl (by kernel_rfl) rfl (fun _ _ _ h => h) (Or.inl ⟨by rfl, fun w' hSw => by (try dsimp only at hSw); go_simp; try with_reducible rfl⟩) hSS ?_
  simp only [zqN]
  refine zqT 5 (some 13) _ #[true, false, true, true, true, true, false, false, false] (by rw [List.getElem?_toArray]; rfl) rfl (by kernel_rfl) rfl (fun _ _ _ h => h) (Or.inl ⟨by rfl, fun w' hSw => by (try dsimp only at hSw); go_simp; try with_reducible rfl⟩) hSS ?_
  simp only [zqN]
  refine zqT 6 (some 14) _ #[true, false, true, true, true, true, true, false, false] (by rw [List.getElem?_toArray]; rfl) rfl (by kernel_rfl) rfl (fun _ _ _ h => h) (Or.inl ⟨by rfl, fun w' hSw => by (try dsimp only at hSw); go_simp; try with_reducible rfl⟩) hSS ?_
  simp only [zqN]
  refine come_one (i := 1) (l' := (zqF 9 7)) (by rw [List.getElem?_toArray]; rfl) (by kernel_rfl) rfl (fun K' hK => ?_)
  go_simp

  refine hK.out _ _ (HC.out _) (fun hSS => ?_)
  try simp only [zqN]
  refine zqT 7 (some 5) _ (zqF 9 8) (by rw [List.getElem?_toArray]; rfl) rfl (by kernel_rfl) rfl (fun _ _ _ h => h) (Or.inl ⟨by rfl, fun w' hSw => by (try dsimp only at hSw); go_simp; try with_reducible rfl⟩) hSS ?_
  simp only [zqN]
  refine zqT 8 (some 6) _ (zqF 9 9) (by rw [List.getElem?_toArray]; rfl) rfl (by kernel_rfl) rfl (fun _ _ _ h => h) (Or.inl ⟨by rfl, fun w' hSw => by (try dsimp only at hSw); go_simp; try with_reducible rfl⟩) hSS ?_
  simp only [zqN]
  refine wpAnyH_done (by kernel_rfl) ?_ _
  exact ⟨⟨_, _, _, _, _, _, _, rfl⟩, rfl⟩
 case next1 =>
 rintro a' w2 ⟨⟨z8, z9, z10, z11, z12, z13, z14, rfl⟩, hw2⟩
 simp only [zqN]
 have hS2 : Soft n₀ W w2 := by
  rw [hw2]
  have h1 := Soft.drew n₀ W
  have h2 := soft_alloc (n₀ := n₀) W.drew hn0 (.cells Tryd.zeroCells71 71)
  exact h1.trans h2
 have hP2 : PtB w2 W.heap.size Tryd.zeroCells71 none_ none_ false := by
  rw [hw2]
  exact zero_ptb (Bk.made W.drew 71 Tryd.zeroCells71)
 have hs2 : w2.heap.size = W.heap.size + 1 := by rw [hw2]; exact World.size_alloc W.drew _
 have hB2 := hB.soft hS2
 have hR2 : Nd.RgAt w2 set a0 := hR.below (show Below W.heap.size W w2 by rw [hw2]; exact ((Below.refl _ W).drew).alloc (Nat.le_refl _) _)
 clear hw2 HC c6
 by_cases hfull : N = 4096
 · subst hfull
   have hpl : placeF kind s set = ({ s with over := true }, .zero) := by unfold placeF; rw [if_pos (by rw [← hmsl.out, hN])]
   have b8 := hB2.b.cell 8
   have b8f := hB2.b.free 8
   simp at b8
   obtain ⟨hB3, hT3⟩ := soft_set_over (o2 := true) hB2
   have hP3 := hP2.tl hT3
   have HFin := Lib.hid (And.intro hB3 (And.intro hP3 (hS2.tl.trans hT3)))
   clear hB3 hP3 hT3 hB2 hP2 hB hR hR2 HBX
   go_wp2_with fail
   go_ret
   rw [hpl]
   exact ⟨_, rfl, hsz, bi_mk (s := { s with over := true }) (by first | exact HFin.out.1 | (rw [hN, hFN.out] at *; exact HFin.out.1)) hms, PtB.pt (p := Pt.zero) HFin.out.2.1, HFin.out.2.2⟩
 · have hne : ((N : Int) == 4096) = false := by simp; omega
   have hpl : placeF kind s set = ({ s with made := s.made ++ [(set, kind)], follow := s.follow ++ [none_] }, ⟨ad none_ N, ad none_ N, false⟩) := by
    unfold placeF
    rw [if_neg (by rw [← hmsl.out, hN]; exact hfull), ← hmsl.out, hN]
   obtain ⟨v', w4, hrun, hown4, hg4⟩ := run_copy n₀ w2 set a0 c0 31 hR2 hl (by omega)
   have hS4 : Soft n₀ w2 w4 := Soft.none (by omega) hg4
   rw [hSN] at hrun hown4
   rw [hSN] at hl
   obtain ⟨A, cap4, hv4, hcap4, hmx4, hnil4, hset4⟩ := own_setv hown4 hSN.symm hl
   subst hv4
   have hclip : ∀ w, Calls Tryd.prog 51 #[.slice A SN cap4] w fun e w' => e = .returned (.slice A SN SN) ∧ w = w' := fun w => by
    cases A with
    | none =>
     obtain ⟨e1, e2⟩ := hnil4 rfl
     rw [e1, e2]
     exact ClipRn_nil w
    | some ad => exact ClipRn_some ad SN cap4 hcap4 hmx4 w
   have HCl := Lib.hid hclip
   have hB4 := hB2.soft hS4
   have hP4 := hP2.tl hS4.tl
   have hT4 := hS2.tl.trans hS4.tl
   have hsz4 : W.heap.size < w4.heap.size := hP4.k.lt
   obtain ⟨w5, hw5⟩ : ∃ w5, w4 = w5 := ⟨_, rfl⟩
   rw [hw5] at hrun hown4 hset4 hB4 hP4 hT4 hsz4
   have hn5 : n₀ ≤ w5.heap.size := by omega
   obtain ⟨sA, hsA⟩ : ∃ sA, A = sA := ⟨_, rfl⟩
   rw [hsA] at hset4 HCl hrun
   have HR4 := Lib.hid (And.intro hrun (And.intro hset4 (And.intro hB4 (And.intro hP4 hT4))))
   clear hown4 hg4 hS4 hrun hset4 hB4 hP4 hB2 hP2 hR2 hR hB hS2 hclip hnil4 hcap4 hmx4 _hc
   go_upto_region 6 with (first
    | (at_builtin; refine wpList_run rfl _ _ 31 rfl _ _ rfl rfl _ _ HR4.out.1 ?_)
    | (go_at_call 51; refine (HCl.out _).mono ?_; rintro e w' ⟨rfl, rfl⟩))
   obtain ⟨_, hset5, hB5, hP5, hT5⟩ := HR4.out
   have d6 : w5.drew.cell? ⟨bb, 6, none⟩ = some (.slice mA N mc) := by have := hB5.b.cell 6; simpa using this
   have d4 : w5.drew.cell? ⟨bb, 4, none⟩ = some (.int .i64 (kind : Int)) := by have := hB5.b.cell 4; simpa using this
   have HA := Lib.hid (show ∀ ob, (w5.drew.alloc ob).cell? ⟨bb, 6, none⟩ = some (.slice mA N mc) ∧ (w5.drew.alloc ob).cell? ⟨bb, 4, none⟩ = some (.int .i64 (kind : Int)) from fun ob => by
    have h6 := (hB5.b.alloc (w := w5.drew) ob).cell 6
    have h4 := (hB5.b.alloc (w := w5.drew) ob).cell 4
    exact ⟨by simpa using h6, by simpa using h4⟩)
   have HO := Lib.hid (show ∀ ob, (w5.drew.alloc ob).ownsRow n₀ 48 4 (.slice mA N mc) N (mV ms) from fun ob => by
    have := (hB5.m).alloc (w := w5.drew) ob
    rwa [hN] at this)
   have hnob : (Value.slice mA N mc).ownBlock ≠ some bb := fun e => by
    obtain ⟨cur, hcu⟩ := own_block (_n₀ := n₀) hB5.m bb e
    exact (hcu.ne hB5.b (by decide)) rfl
   have HG := Lib.hid (show ∀ (ob : Obj) (w11 : World), (w5.drew.alloc ob).grownBy w11 (Value.slice mA N mc).ownBlock → w11.cell? ⟨bb, 6, none⟩ = some (.slice mA N mc) ∧ w11.frozen? ⟨bb, 6, none⟩ = false ∧ w11.cell? ⟨bb, 4, none⟩ = some (.int .i64 (kind : Int)) from fun ob w11 hgw => by
    have k1 := (hB5.b.alloc (w := w5.drew) _).grown hgw (fun e => hnob e.symm)
    have h6 := k1.cell 6
    have h4 := k1.cell 4
    exact ⟨by simpa using h6, k1.free 6, by simpa using h4⟩)
   have HM := Lib.hid (show ∀ (ob : Obj) (gb cap : Nat) (w11 : World), w11.ownsRow n₀ 48 4 (.slice (some ⟨gb, 0, none⟩) (N + 1) cap) (N + 1) (mV ms ++ [.slice sA SN SN, .int .i64 (kind : Int), .bool false, .slice none 0 0]) → (w5.drew.alloc ob).grownBy w11 (Value.slice mA N mc).ownBlock →
    ((Value.slice mA N mc).ownBlock = some gb ∨ gb = w5.heap.size + 1) →
    BIx n₀ bb g kind s.nodes s.over (.slice (some ⟨gb, 0, none⟩) (N + 1) cap) (.slice fA N fc) (ms ++ [(.slice sA SN SN, set, kind)]) s.follow (w11.setCell ⟨bb, 6, none⟩ (.slice (some ⟨gb, 0, none⟩) (N + 1) cap)) ∧ Tl n₀ w5 (w11.setCell ⟨bb, 6, none⟩ (.slice (some ⟨gb, 0, none⟩) (N + 1) cap)) from fun ob gb cap w11 h1 h2 h3 => by
    have := BIx.pushM (W := w5.drew) (hB5.soft (Soft.drew n₀ w5)) (hset5.tl (Soft.drew n₀ w5).tl) (gb := gb) (cap := cap) (w11 := w11) (by rw [hN]; exact h1) h2 h3
    rw [hN] at this
    exact ⟨this.1, (Soft.drew n₀ w5).tl.trans this.2⟩)
   clear HCl
   refine wp_cutN (fun a a' w' => (∃ y24 y25 y26 y27 y28 y29 y30 y31 y32 y33 y34 y35 y36 y37 y38 : Value, a' = (((((((((((((((a.put (some 24) y24).put (some 25) y25).put (some 26) y26).put (some 27) y27).put (some 28) y28).put (some 29) y29).put (some 30) y30).put (some 31) y31).put (some 32) y32).put (some 33) y33).put (some 34) y34).put (some 35) y35).put (some 36) y36).put (some 37) y37).put (some 38) y38)) ∧ ∃ gb cap, BIx n₀ bb g kind s.nodes s.over (.slice (some ⟨gb, 0, none⟩) (N + 1) cap) (.slice fA N fc) (ms ++ [(.slice sA SN SN, set, kind)]) s.follow w' ∧ Tl n₀ w5 w') ?first6 ?next6
   case first6 =>
    refine region_B (S := fun w' : World => (w'.cell? ⟨bb, 6, none⟩ = some (.slice mA N mc) ∧ w'.cell? ⟨bb, 4, none⟩ = some (.int .i64 (kind : Int)))) 15 (by kernel_rfl) ⟨d6, d4⟩ (fun hSS => ?_)
    show wpAnyB _ _ _ _ _ 15 16 #[false, false, false, false, false, false, false, false, false, false, false, false, false, false, false, false] _ _
    refine zqB 0 (some 24) _ (zqF 16 1) (by rw [List.getElem?_toArray]; rfl) rfl (by kernel_rfl) rfl (fun _ _ _ h => h) (Or.inl ⟨by rfl, fun w' hSw => by (try dsimp only at hSw); go_simp; try with_reducible rfl⟩) hSS ?_
    simp only [zqN]
    refine zqB 1 (some 25) _ (zqF 16 2) (by rw [List.getElem?_toArray]; rfl) rfl (by kernel_rfl) rfl (fun _ _ _ h => h) (Or.inl ⟨by rfl, fun w' hSw => by (try dsimp only at hSw); go_simp; try with_reducible rfl⟩) hSS ?_
    simp only [zqN]
    refine zqB 2 (some 26) _ (zqF 16 3) (by rw [List.getElem?_toArray]; rfl) rfl (by kernel_rfl) rfl (fun _ _ _ h => h) (Or.inl ⟨by rfl, fun w' hSw => by (try dsimp only at hSw); go_simp; try with_reducible rfl⟩) hSS ?_
    simp only [zqN]
    refine zqB 3 (some 27) _ (zqF 16 4) (by rw [List.getElem?_toArray]; rfl) rfl (by kernel_rfl) rfl (fun _ _ _ h => h) (Or.inl ⟨by rfl, fun w' hSw => by (try dsimp only at hSw); go_simp; try with_reducible rfl⟩) hSS ?_
    simp only [zqN]
    refine zqB 4 (some 28) _ (zqF 16 5) (by rw [List.getElem?_toArray]; rfl) rfl (by kernel_rfl) rfl (fun _ _ _ h => h) (Or.inl ⟨by rfl, fun w' hSw => by (try dsimp only at hSw); go_simp; try with_reducible rfl⟩) hSS ?_
    simp only [zqN]
    refine zqB 5 (some 29) _ (zqF 16 6) (by rw [List.getElem?_toArray]; rfl) rfl (by kernel_rfl) rfl (fun _ _ _ h => h) (Or.inl ⟨by rfl, fun w' hSw => by (try dsimp only at hSw); go_simp; try with_reducible rfl⟩) hSS ?_
    simp only [zqN]
    refine zqB 6 (some 30) _ (zqF 16 7) (by rw [List.getElem?_toArray]; rfl) rfl (by kernel_rfl) rfl (fun _ _ _ h => h) (Or.inl ⟨by rfl, fun w' hSw => by (try dsimp only at hSw); go_simp; try with_reducible rfl⟩) hSS ?_
    simp only [zqN]
    refine zqB 7 (some 31) _ (zqF 16 8) (by rw [List.getElem?_toArray]; rfl) rfl (by kernel_rfl) rfl (fun _ _ _ h => h) (Or.inl ⟨by rfl, fun w' hSw => by (try dsimp only at hSw); go_simp; try with_reducible rfl⟩) hSS ?_
    simp only [zqN]
    refine zqB 8 (some 32) _ (zqF 16 9) (by rw [List.getElem?_toArray]; rfl) rfl (by kernel_rfl) rfl (fun _ _ _ h => h) (Or.inl ⟨by rfl, fun w' hSw => by (try dsimp only at hSw); go_simp; try with_reducible rfl⟩) hSS ?_
    simp only [zqN]
    refine zqB 9 (some 33) _ (zqF 16 10) (by rw [List.getElem?_toArray]; rfl) rfl (by kernel_rfl) rfl (fun _ _ _ h => h) (Or.inl ⟨by rfl, fun w' hSw => by (try dsimp only at hSw); go_simp; try with_reducible rfl⟩) hSS ?_
    simp only [zqN]
    refine zqB 10 (some 34) _ (zqF 16 11) (by rw [List.getElem?_toArray]; rfl) rfl (by kernel_rfl) rfl (fun _ _ _ h => h) (Or.inl ⟨by rfl, fun w' hSw => by (try dsimp only at hSw); go_simp; try with_reducible rfl⟩) hSS ?_
    simp only [zqN]
    refine comeB (i := 11) (l' := #[true, true, true, true, true, true, true, true, true, true, true, true, false, false, false, false]) (by rw [List.getElem?_toArray]; rfl) (by kernel_rfl) rfl (fun K' hK => ?_)
    go_simp
    refine hK.out _ _ (Or.inr (HA.out _)) (fun hOr => ?_)
    replace hSS := hOr.resolve_left (by decide)
    try simp only [zqN]
    refine comeB (i := 12) (l' := #[true, true, true, true, true, true, true, true, true, true, true, true, true, false, false, false]) (by rw [List.getElem?_toArray]; rfl) (by kernel_rfl) rfl (fun K' hK => ?_)
    refine step_append_lies _ rfl _ _ 39 rfl n₀ 48 i1 (.agg #[.slice none 0 0, .int .i64 0, .bool false, .slice none 0 0]) 4 64 Tryd.underlying39 hi1 hj0 hj1 hj2 rfl (by decide) (.slice mA N mc) N (mV ms) rfl (HO.out _) ⟨w5.heap.size, 0, none⟩ 1 1 [.slice sA SN SN, .int .i64 (kind : Int), .bool false, .slice none 0 0] rfl rfl (cells_newP w5.drew _ _) (by simp [Value.oneCell']) (by decide) (by unfold maxLen; omega) (by omega) (by simp; omega) (w5.heap.size + 1) (by simp) ?_; intro gb cap w11 hown hgrow hat hlt; obtain ⟨g6, g6f, g4⟩ := HG.out _ w11 hgrow
    refine hK.out _ _ (Or.inr ⟨g6, g4⟩) (fun hOr => ?_)
    replace hSS := hOr.resolve_left (by decide)
    try simp only [zqN]
    refine pureB (i := 13) (d := (some 37)) (v := _) (l' := #[true, true, true, true, true, true, true, true, true, true, true, true, true, true, false, false]) (by rw [List.getElem?_toArray]; rfl) rfl (by kernel_rfl) (by kernel_rfl) (by kernel_rfl) (by decide) rfl (fun _ _ _ h => h) (Or.inl ⟨by rfl, fun w' _ => by go_simp; try with_reducible rfl⟩) (Or.inr hSS) ?_
    simp only [zqN]
    refine pureB (i := 14) (d := (some 38)) (v := _) (l' := #[true, true, true, true, true, true, true, true, true, true, true, true, true, true, true, false]) (by rw [List.getElem?_toArray]; rfl) rfl (by kernel_rfl) (by kernel_rfl) (by kernel_rfl) (by decide) rfl (fun _ _ _ h => h) (Or.inl ⟨by rfl, fun w' _ => by go_simp; try with_reducible rfl⟩) (Or.inr hSS) ?_
    simp only [zqN]
    refine comeB (i := 15) (l' := #[true, true, true, true, true, true, true, true, true, true, true, true, true, true, true, true]) (by rw [List.getElem?_toArray]; rfl) (by kernel_rfl) rfl (fun K' hK => ?_)
    go_simp
    refine hK.out _ _ (Or.inl rfl) (fun _ => ?_)
    try simp only [zqN]
    refine wpAnyB_done (by kernel_rfl) ?_ _
    exact ⟨⟨_, _, _, _, _, _, _, _, _, _, _, _, _, _, _, rfl⟩, gb, cap, HM.out _ gb cap w11 hown hgrow hat⟩
   case next6 =>
   rintro a' w6 ⟨⟨y24, y25, y26, y27, y28, y29, y30, y31, y32, y33, y34, y35, y36, y37, y38, rfl⟩, gb6, cap6, hB6, hT6⟩
   simp only [zqN]
   have hP6 := hP5.tl hT6
   have hT6' := hT5.trans hT6
   have d7 : w6.cell? ⟨bb, 7, none⟩ = some (.slice fA N fc) := by have := hB6.b.cell 7; simpa using this
   have HO7 := Lib.hid (show ∀ ob, (w6.alloc ob).ownsRow n₀ 64 64 (.slice fA N fc) N (fV s.follow) from fun ob => by
    have := (hB6.f).alloc (w := w6) ob
    rwa [hFN.out] at this)
   have hnof : (Value.slice fA N fc).ownBlock ≠ some bb := fun e => by
    obtain ⟨cur, hcu⟩ := own_block (_n₀ := n₀) hB6.f bb e
    exact (hcu.ne hB6.b (by decide)) rfl
   have HG7 := Lib.hid (show ∀ (ob : Obj) (w11 : World), (w6.alloc ob).grownBy w11 (Value.slice fA N fc).ownBlock → w11.cell? ⟨bb, 7, none⟩ = some (.slice fA N fc) ∧ w11.frozen? ⟨bb, 7, none⟩ = false from fun ob w11 hgw => by
    have k1 := (hB6.b.alloc (w := w6) ob).grown hgw (fun e => hnof e.symm)
    have h7 := k1.cell 7
    exact ⟨by simpa using h7, k1.free 7⟩)
   have HM7 := Lib.hid (show ∀ (ob : Obj) (gf cf : Nat) (w11 : World), w11.ownsRow n₀ 64 64 (.slice (some ⟨gf, 0, none⟩) (N + 1) cf) (N + 1) (fV s.follow ++ zer64) → (w6.alloc ob).grownBy w11 (Value.slice fA N fc).ownBlock →
    ((Value.slice fA N fc).ownBlock = some gf ∨ gf = w6.heap.size + 1) →
    BIx n₀ bb g kind s.nodes s.over (.slice (some ⟨gb6, 0, none⟩) (N + 1) cap6) (.slice (some ⟨gf, 0, none⟩) (N + 1) cf) (ms ++ [(.slice sA SN SN, set, kind)]) (s.follow ++ [none_]) (w11.setCell ⟨bb, 7, none⟩ (.slice (some ⟨gf, 0, none⟩) (N + 1) cf)) ∧ Tl n₀ w6 (w11.setCell ⟨bb, 7, none⟩ (.slice (some ⟨gf, 0, none⟩) (N + 1) cf)) from fun ob gf cf w11 h1 h2 h3 => by
    have := BIx.pushF (W := w6) hB6 (gb := gf) (cap := cf) (w11 := w11) (by rw [hFN.out, zer_words]; exact h1) h2 h3
    rw [hFN.out] at this
    exact this)
   have hn6 : n₀ ≤ w6.heap.size := Nat.le_trans hn5 hT6.size
   clear d6 d4 HA HO HG HM HR4 hnob hset5 hB5 hP5
   go_upto_region 7 with fail
   refine wp_cutN (fun a a' w' => (∃ x39 x40 x41 x42 x43 x44 x45 x46 x47 x48 : Value, a' = ((((((((((a.put (some 39) x39).put (some 40) x40).put (some 41) x41).put (some 42) x42).put (some 43) x43).put (some 44) x44).put (some 45) x45).put (some 46) x46).put (some 47) x47).put (some 48) x48)) ∧ ∃ gf cf, BIx n₀ bb g kind s.nodes s.over (.slice (some ⟨gb6, 0, none⟩) (N + 1) cap6) (.slice (some ⟨gf, 0, none⟩) (N + 1) cf) (ms ++ [(.slice sA SN SN, set, kind)]) (s.follow ++ [none_]) w' ∧ Tl n₀ w6 w') ?first7 ?next7
   case first7 =>
    refine wp_region_lit ?_
    refine wpList_plain rfl fun K hK => ?_
    go_simp
    refine hK _ _ ?_
    refine wpList_plain rfl fun K hK => ?_
    go_simp
    refine hK _ _ ?_
    refine wpList_plain rfl fun K hK => ?_
    go_simp
    refine hK _ _ ?_
    refine wpList_plain rfl fun K hK => ?_
    go_simp
    refine hK _ _ ?_
    refine wpList_plain rfl fun K hK => ?_
    go_simp
    refine hK _ _ ?_
    refine wpList_zero rfl rfl ?_
    refine wpList_buildSlice rfl 59 64 1 #[(0, .tmp 44)] rfl zer64.toArray i2 (.agg zer64.toArray) Tryd.underlying59 hi2 hk0 (by rw [hk1]; decide) (by rw [hk1]; decide) (by rw [hk1]; kernel_rfl) ?_
    dsimp only
    simp only [zqN]
    refine wpList_append_lies _ rfl _ _ 59 rfl n₀ 64 i2 (.agg zer64.toArray) 64 512 Tryd.underlying59 hi2 hk0 hk1 hk2 rfl (by decide) (.slice fA N fc) N (fV s.follow) rfl (HO7.out _) ⟨w6.heap.size, 0, none⟩ 1 1 zer64 rfl (by simp [zer64]) (cells_newP w6 _ _) (by simp [zer64, Value.oneCell']) (by decide) (by unfold maxLen; omega) (by omega) (by simp; omega) (w6.heap.size + 1) (by simp) ?_
    intro gf cf w11 hown hgrow hat hlt
    obtain ⟨g7, g7f⟩ := HG7.out _ w11 hgrow
    refine wpList_plain rfl fun K hK => ?_
    go_simp
    refine hK _ _ ?_
    refine wpList_plain rfl fun K hK => ?_
    go_simp
    refine hK _ _ ?_
    refine wpList_plain rfl fun K hK => ?_
    go_simp
    refine hK _ _ ?_
    exact ⟨⟨_, _, _, _, _, _, _, _, _, _, rfl⟩, gf, cf, HM7.out _ gf cf w11 hown hgrow hat⟩
   case next7 =>
   rintro a' w7 ⟨⟨x39, x40, x41, x42, x43, x44, x45, x46, x47, x48, rfl⟩, gf, cf, hB7, hT7⟩
   simp only [zqN]
   have hP7 := hP6.tl hT7
   have hT7' := hT6'.trans hT7
   have hlt : N < 4096 := by omega
   have HA1 := Lib.hid (add_any W.heap.size 0 N none_ w7 hP7.wds.1 hlt)
   obtain ⟨cs8, hP8⟩ := hP7.addF hlt
   obtain ⟨w8, hw8⟩ : ∃ w8, w7.drew.setCell ⟨W.heap.size, 0 + N / 64, none⟩ (.int .u64 (word (ad none_ N) (N / 64) : Int)) = w8 := ⟨_, rfl⟩
   have hO8 : Only W.heap.size w7 w8 := by rw [← hw8]; exact ⟨rfl, rfl, rfl, by simp, fun k hk => Below.heap_setCell _ _ _ _ hk⟩
   rw [hw8] at hP8 HA1
   have HA2 := Lib.hid (add_any W.heap.size 64 N none_ w8 hP8.wds.2 hlt)
   obtain ⟨cs9, hP9⟩ := hP8.addL hlt
   obtain ⟨w9, hw9⟩ : ∃ w9, w8.drew.setCell ⟨W.heap.size, 64 + N / 64, none⟩ (.int .u64 (word (ad none_ N) (N / 64) : Int)) = w9 := ⟨_, rfl⟩
   have hO9 : Only W.heap.size w8 w9 := by rw [← hw9]; exact ⟨rfl, rfl, rfl, by simp, fun k hk => Below.heap_setCell _ _ _ _ hk⟩
   rw [hw9] at hP9 HA2
   have hO := hO8.trans hO9
   have hBI : BI n₀ bb g kind { s with made := s.made ++ [(set, kind)], follow := s.follow ++ [none_] } w7 := bi_mk (s := { s with made := s.made ++ [(set, kind)], follow := s.follow ++ [none_] }) hB7 (by rw [List.map_append, hms]; rfl)
   have HFin := Lib.hid (And.intro (hBI.only hO hP7.k hn0 (by decide) (by decide) (by decide) (by decide)) (And.intro (PtB.pt (p := ⟨ad none_ N, ad none_ N, false⟩) hP9) (((hT7'.b W.heap.size).trans (hO.tlb hn0)).tl)))
   clear hBI hO hO8 hO9 hP7 hP8 hP9 hw8 hw9 hB7 hT7 hT7' hB6 hT6 hT6' hT5 hP6 d7 HO7 HG7 HM7 hnof HBX
   go_upto_region 9 with (go_at_call 52; refine HA1.out.mono ?_; rintro e w' ⟨rfl, rfl⟩)
   go_wp2_with (go_at_call 52; refine HA2.out.mono ?_; rintro e w' ⟨rfl, rfl⟩)
   go_ret
   rw [hpl]
   exact ⟨_, rfl, hsz, HFin.out.1, HFin.out.2.1, HFin.out.2.2⟩
end Go.Proofs.YtiinkhmgemoamaaDoor.Nf
namespace Go.Proofs.YtiinkhmgemoamaaDoor.Nf
open Go Go.RowKit Nd
set_option maxRecDepth 100000

/-- While it isn't over, no more nodes than may be. -/
def Low (s : St) : Prop := s.over = false → s.nodes ≤ 65536
def Nx (s s' : St) : Prop := s.nodes ≤ s'.nodes ∧ s'.nodes ≤ 65537 ∧ Low s'
theorem rowF_nodes {α : Type} {pt : St → α → St × Pt} (hpt : ∀ s n, s.nodes ≤ 65536 → Nx s (pt s n).1) : ∀ (l : List α) (s : St) (p : Pt), s.nodes ≤ 65536 → Nx s (rowF pt s p l).1
 | [], s, p, h => ⟨Nat.le_refl _, by show s.nodes ≤ 65537; omega, fun _ => h⟩
 | n :: l, s, p, h => by
  obtain ⟨h1, h2, h3⟩ := hpt s n h
  unfold rowF
  generalize pt s n = x at h1 h2 h3 ⊢
  obtain ⟨s1, q⟩ := x
  simp only at h1 h2 h3 ⊢
  cases ho : s1.over with
  | true => simp only [if_true]; exact ⟨h1, h2, h3⟩
  | false =>
   simp only [Bool.false_eq_true, if_false]
   have h4 := h3 ho
   obtain ⟨a, b, c⟩ := rowF_nodes hpt l (behindF s1 p q).1 (behindF s1 p q).2 h4
   exact ⟨Nat.le_trans h1 a, b, c⟩
theorem choiceF_nodes {α : Type} {pt : St → α → St × Pt} (hpt : ∀ s n, s.nodes ≤ 65536 → Nx s (pt s n).1) : ∀ (l : List α) (s : St) (p : Pt), s.nodes ≤ 65536 → Nx s (choiceF pt s p l).1
 | [], s, p, h => ⟨Nat.le_refl _, by show s.nodes ≤ 65537; omega, fun _ => h⟩
 | n :: l, s, p, h => by
  obtain ⟨h1, h2, h3⟩ := hpt s n h
  unfold choiceF
  generalize pt s n = x at h1 h2 h3 ⊢
  obtain ⟨s1, q⟩ := x
  simp only at h1 h2 h3 ⊢
  cases ho : s1.over with
  | true => simp only [if_true]; exact ⟨h1, h2, h3⟩
  | false =>
   simp only [Bool.false_eq_true, if_false]
   have h4 := h3 ho
   obtain ⟨a, b, c⟩ := choiceF_nodes hpt l s1 ⟨jn p.first q.first, jn p.last q.last, p.empty || q.empty⟩ h4
   exact ⟨Nat.le_trans h1 a, b, c⟩
theorem placeF_nodes (kind : Nat) (s : St) (set : List (Int × Int)) (h : s.nodes ≤ 65536) : Nx s (placeF kind s set).1 := by
 unfold placeF
 split
 · exact ⟨Nat.le_refl _, by show s.nodes ≤ 65537; omega, fun _ => h⟩
 · exact ⟨Nat.le_refl _, by show s.nodes ≤ 65537; omega, fun _ => h⟩
theorem partF_nodes (fd : ByteArray → Option T) (rns : ByteArray → List Int) (kind : Nat) : ∀ (F : Nat) (s : St) (n : T), s.nodes ≤ 65536 → Nx s (partF fd rns kind F s n).1
 | 0, s, n, h => ⟨by show s.nodes ≤ s.nodes + 1; omega, by show s.nodes + 1 ≤ 65537; omega, fun e => by cases e⟩
 | F + 1, s, n, h => by
  have ih := partF_nodes fd rns kind F
  unfold partF
  simp only
  split
  · rename_i ho
    exact ⟨by show s.nodes ≤ s.nodes + 1; omega, by show s.nodes + 1 ≤ 65537; omega, fun e => by rw [show (s.over || decide (65536 < s.nodes + 1)) = false from e] at ho; cases ho⟩
  · rename_i ho
    have hl : s.nodes + 1 ≤ 65536 := by
     simp only [Bool.or_eq_true, decide_eq_true_iff, not_or] at ho
     omega
    have up : ∀ s' : St, Nx { s with nodes := s.nodes + 1, over := s.over || decide (65536 < s.nodes + 1) } s' → Nx s s' := fun s' ⟨a, b, c⟩ => ⟨by have : s.nodes + 1 ≤ s'.nodes := a; omega, b, c⟩
    have same : Nx s { s with nodes := s.nodes + 1, over := s.over || decide (65536 < s.nodes + 1) } := ⟨by show s.nodes ≤ s.nodes + 1; omega, by show s.nodes + 1 ≤ 65537; omega, fun _ => hl⟩
    split
    · exact up _ (rowF_nodes ih n.subs _ _ hl)
    split
    · exact up _ (choiceF_nodes ih n.subs _ _ hl)
    split
    · have key : ∀ x : St × Pt, Nx s x.1 → Nx s (if n.kind = 2 then x.1 else linkF x.1 x.2.last x.2.first) := fun x hx => by
       split
       · exact hx
       · exact hx
      cases n.subs with
      | nil => exact key (_, Pt.zero) same
      | cons m _ => exact key _ (up _ (ih _ m hl))
    split
    · cases fd n.name with
      | none => exact same
      | some b => exact up _ (ih _ b hl)
    split
    · exact up _ (rowF_nodes (fun s r h => placeF_nodes kind s [(r, r)] h) (rns n.text) _ _ hl)
    split
    · exact up _ (placeF_nodes kind _ n.set hl)
    · exact same
/-- No set of a node has more ranges than may be copied. -/
inductive Sm : T → Prop where
 | mk {k : Int} {n x : ByteArray} {s : List (Int × Int)} {b : List T} : s.length ≤ 1000000 → x.size ≤ 1000000 → (∀ m ∈ b, Sm m) → Sm (.mk k n x s b)
theorem Sm.set {t : T} (h : Sm t) : t.set.length ≤ 1000000 := by cases h; assumption
theorem Sm.text {t : T} (h : Sm t) : t.text.size ≤ 1000000 := by cases h; assumption
theorem Sm.subs {t : T} (h : Sm t) : ∀ m ∈ t.subs, Sm m := by cases h; assumption
/-- What is asked of part, for so much that is left. -/
def PartOk (W0 : World) (bb : Nat) (g : BV) (fd : ByteArray → Option T) (rns : ByteArray → List Int) (kind F : Nat) : Prop :=
 ∀ (t : T) (v : Value) (s : St) (W : World), Nd.At W0 t v → Sm t → Below W0.heap.size W0 W → BI W0.heap.size bb g kind s W → Ok s → Low s → s.nodes ≤ 1000000 → 65537 ≤ s.nodes + F →
  Calls Tryd.prog 18 #[.pointer (some ⟨bb, 0, none⟩), v] W fun e W' => ∃ pb, e = .returned (.pointer (some ⟨pb, 0, none⟩)) ∧ W.heap.size ≤ pb ∧
   BI W0.heap.size bb g kind (partF fd rns kind F s t).1 W' ∧ PtA W' pb (partF fd rns kind F s t).2 ∧ Tl W0.heap.size W W'
/-- The cells of a part that has a text of no places, and no other. -/
def voidC : Array Value := ((List.range 128).map (fun _ => Value.int .u64 0) ++ [Value.bool true]).toArray
theorem void_ptb {W : World} {pb : Nat} (h : Bk W pb 71 voidC) : PtB W pb voidC none_ none_ true := by
 have key : ∀ j, j < 128 → voidC[j]? = some (.int .u64 0) := fun j hj => by
  unfold voidC
  rw [List.getElem?_toArray, List.getElem?_append_left (by simpa using hj), List.getElem?_map, List.getElem?_range hj]
  rfl
 refine ⟨h, by simp [voidC], fun i hi => by rw [word_none]; exact key _ (by omega), fun i hi => by rw [word_none]; exact key _ (by omega), ?_⟩
 unfold voidC
 rw [List.getElem?_toArray, List.getElem?_append_right (by simp)]
 simp
theorem wpList_void {ops : Array Oper} {rest : List Oper} {o : Oper} {a : Act} {w : World} {Q : Exit → Act → World → Prop} (hg : o.guard = none) (ho : o.op = .build 71 #[(1, .const (.bool true))])
 (h : wpList Tryd.prog ops Q rest (a.put o.dst (.agg voidC)) w) : wpList Tryd.prog ops Q (o :: rest) a w :=
 wpList_plain hg fun _ hK => by
  have := run_build (P := Tryd.prog) w 71 #[(1, .bool true)] voidC (by kernel_rfl)
  unfold Oper.wp execOp
  simp [ho, Act.eval, this]
  exact hK _ _ h
theorem BIx.over {n₀ bb : Nat} {g : BV} {kind nodes : Nat} {over : Bool} {mv fv : Value} {ms : List Mk} {F : List (Nat → Bool)} {W : World} (h : BIx n₀ bb g kind nodes over mv fv ms F W) : W.cell? ⟨bb, 8, none⟩ = some (.bool over) := by
 have := h.b.cell 8
 simpa using this
theorem BI.over {n₀ bb : Nat} {g : BV} {kind : Nat} {s : St} {W : World} (h : BI n₀ bb g kind s W) : W.cell? ⟨bb, 8, none⟩ = some (.bool s.over) := by
 obtain ⟨mv, fv, ms, h, _⟩ := h
 exact h.over
end Go.Proofs.YtiinkhmgemoamaaDoor.Nf
namespace Go.Proofs.YtiinkhmgemoamaaDoor.Nf
open Go Go.RowKit Nd
attribute [local go_sem] Oper.semAt_some
set_option maxRecDepth 100000

def oftF (pt : St → T → St × Pt) (s : St) (t : T) : St × Pt :=
 let x := match t.subs with | [] => (s, Pt.zero) | m :: _ => pt s m
 (if t.kind = 2 then x.1 else linkF x.1 x.2.last x.2.first, if t.kind = 4 then x.2 else { x.2 with empty := true })
set_option maxHeartbeats 8000000 in
theorem often_any (W0 : World) (bb : Nat) (g : BV) (fd : ByteArray → Option T) (rns : ByteArray → List Int) (kind F : Nat) (hP : PartOk W0 bb g fd rns kind F) (t : T) (v : Value) (s : St) (W : World)
 (hA : Nd.At W0 t v) (hSm : Sm t) (hW : Below W0.heap.size W0 W) (hI : BI W0.heap.size bb g kind s W) (hOk : Ok s) (hnd : s.nodes ≤ 65536) (hF : 65537 ≤ s.nodes + F) (hk : t.kind = 2 ∨ t.kind = 3 ∨ t.kind = 4) :
 Calls Tryd.prog 34 #[.pointer (some ⟨bb, 0, none⟩), v] W fun e W' => ∃ pb, e = .returned (.pointer (some ⟨pb, 0, none⟩)) ∧ W.heap.size ≤ pb ∧
  BI W0.heap.size bb g kind (oftF (partF fd rns kind F) s t).1 W' ∧ PtA W' pb (oftF (partF fd rns kind F) s t).2 ∧ Tl W0.heap.size W W' := by
 have hpo := partF_ok fd rns kind F
 unfold PartOk at hP
 generalize partF fd rns kind F = pt at *
 have HP := Lib.hid hP
 have HO := Lib.hid hpo
 have hW0 := Lib.hid hI.hi
 clear hP hpo
 obtain ⟨kd, nm, tx, st, sb⟩ := t
 obtain ⟨sa, sc, ba, bc, rfl, _, _, _, _, ⟨_, hbl⟩, _, hL⟩ := hA
 cases sb with
 | nil =>
 rcases hk with h | h | h <;> (replace h : kd = _ := h; subst h)
 · -- kind 2, no Sub
   have hR : oftF pt s (.mk 2 nm tx st []) = (s, ⟨none_, none_, true⟩) := by unfold oftF; simp [T.subs, T.kind, Pt.zero]
   obtain ⟨w3, hw3⟩ : ∃ w3, (W.alloc (.cells #[.int .u8 2, .string nm, .string tx, .slice sa st.length sc, .slice ba 0 bc] 34)).alloc (.cells Tryd.zeroCells71 71) = w3 := ⟨_, rfl⟩
   have hS3 : Soft W0.heap.size W w3 := by rw [← hw3]; exact (soft_alloc W hW0.out _).trans (soft_alloc _ (by have := hW0.out; simp; omega) _)
   have hNB : Bk w3 W.heap.size 34 #[.int .u8 2, .string nm, .string tx, .slice sa st.length sc, .slice ba 0 bc] := by rw [← hw3]; exact (Bk.made W _ _).alloc _
   have P3 : PtB w3 (W.heap.size + 1) Tryd.zeroCells71 none_ none_ false := by
    rw [← hw3]
    have := Bk.made (W.alloc (.cells #[.int .u8 2, .string nm, .string tx, .slice sa st.length sc, .slice ba 0 bc] 34)) 71 Tryd.zeroCells71
    rw [World.size_alloc] at this
    exact zero_ptb this
   have hB3 := hI.soft hS3
   have hF3 := hS3.tl.b W.heap.size
   have hOk3 := hOk
   have hPo : Pok s.made.length ⟨none_, none_, false⟩ := Pok.zero _
   have hlo : W.heap.size ≤ W.heap.size + 1 := by omega
   have n4 := hNB.cell 4
   simp at n4
   have HW3 := Lib.hid hw3
   clear hw3 hS3
   go_enter Tryd.func34, Tryd.ntmps34
   go_upto_region 2 with fail
   rw [HW3.out]
   have d0 := hNB.cell 0
   simp at d0
   have P4 := P3
   have hF4 := hF3
   have hB4 := hB3
   have c4 := P4.e
   have f4 := P4.k.free 128
   have P5 := P4.empty true
   have hO5 := Only.set (W.heap.size + 1) 128 w3 (.bool true)
   have hn5 : W0.heap.size ≤ (W.heap.size + 1) := Nat.le_trans hW0.out hlo
   have HG := Lib.hid (And.intro (hB4.only hO5 P4.k hn5 (by decide) (by decide) (by decide) (by decide)) (And.intro (PtB.pt (p := ⟨none_, none_, true⟩) P5) (hF4.trans ((hO5.tlb hn5).mono hlo))))
   clear P5 hO5
   clear P3 hF3 hB3 P4 hF4 hB4 hNB
   go_wp2_with fail
   go_ret
   rw [hR]
   exact ⟨_, rfl, hlo, HG.out.1, HG.out.2.1, HG.out.2.2.tl⟩
 · -- kind 3, no Sub
   have hR : oftF pt s (.mk 3 nm tx st []) = (linkF s none_ none_, ⟨none_, none_, true⟩) := by unfold oftF; simp [T.subs, T.kind, Pt.zero]
   obtain ⟨w3, hw3⟩ : ∃ w3, (W.alloc (.cells #[.int .u8 3, .string nm, .string tx, .slice sa st.length sc, .slice ba 0 bc] 34)).alloc (.cells Tryd.zeroCells71 71) = w3 := ⟨_, rfl⟩
   have hS3 : Soft W0.heap.size W w3 := by rw [← hw3]; exact (soft_alloc W hW0.out _).trans (soft_alloc _ (by have := hW0.out; simp; omega) _)
   have hNB : Bk w3 W.heap.size 34 #[.int .u8 3, .string nm, .string tx, .slice sa st.length sc, .slice ba 0 bc] := by rw [← hw3]; exact (Bk.made W _ _).alloc _
   have P3 : PtB w3 (W.heap.size + 1) Tryd.zeroCells71 none_ none_ false := by
    rw [← hw3]
    have := Bk.made (W.alloc (.cells #[.int .u8 3, .string nm, .string tx, .slice sa st.length sc, .slice ba 0 bc] 34)) 71 Tryd.zeroCells71
    rw [World.size_alloc] at this
    exact zero_ptb this
   have hB3 := hI.soft hS3
   have hF3 := hS3.tl.b W.heap.size
   have hOk3 := hOk
   have hPo : Pok s.made.length ⟨none_, none_, false⟩ := Pok.zero _
   have hlo : W.heap.size ≤ W.heap.size + 1 := by omega
   have n4 := hNB.cell 4
   simp at n4
   have HW3 := Lib.hid hw3
   clear hw3 hS3
   go_enter Tryd.func34, Tryd.ntmps34
   go_upto_region 2 with fail
   rw [HW3.out]
   have d0 := hNB.cell 0
   simp at d0
   have HLk := Lib.hid (link_any W0.heap.size bb g kind s w3.drew (hB3.soft (Soft.drew _ _)) (W.heap.size + 1) 64 (W.heap.size + 1) 0 71 71 Tryd.zeroCells71 Tryd.zeroCells71 none_ none_ P3.k P3.l (by decide) (by decide) (by decide) P3.k P3.f (by decide) (by decide) (by decide) (fun x hx => by rw [hOk3.len]; exact hPo.2 x hx) (by rw [hOk3.len]; exact hOk3.cap))
   have HT3 := Lib.hid (And.intro P3 (And.intro hF3 hNB))
   clear P3 hF3 hNB hB3
   go_upto_region 5 with fail
   refine wp_cutN (fun a a' w' => (∃ z0 z1 z2 z3 z4 z5 z6 z7 z8 z9 : Value, a' = ((((((((((a.put (some 21) z0).put (some 22) z1).put (some 23) z2).put (some 24) z3).put (some 25) z4).put (some 26) z5).put (some 27) z6).put (some 28) z7).put (some 29) z8).put (some 30) z9)) ∧ BI W0.heap.size bb g kind (linkF s none_ none_) w' ∧ Tl W0.heap.size w3 w') ?first21 ?next21
   case first21 =>
    refine wp_region_held_drew (S := fun w' : World => True) (by kernel_rfl) trivial (fun hSS => ?_)
    show wpAnyH _ _ _ _ _ 10 #[false, false, false, false, false, false, false, false, false, false] _ _
    refine zqT 0 (some 21) _ (zqF 10 1) (by rw [List.getElem?_toArray]; rfl) rfl (by kernel_rfl) rfl (fun _ _ _ h => h) (Or.inl ⟨by rfl, fun w' hSw => by (try dsimp only at hSw); go_simp; try with_reducible rfl⟩) hSS ?_
    simp only [zqN]
    refine zqT 1 (some 22) _ (zqF 10 2) (by rw [List.getElem?_toArray]; rfl) rfl (by kernel_rfl) rfl (fun _ _ _ h => h) (Or.inl ⟨by rfl, fun w' hSw => by (try dsimp only at hSw); go_simp; try with_reducible rfl⟩) hSS ?_
    simp only [zqN]
    refine zqT 2 (some 23) _ (zqF 10 3) (by rw [List.getElem?_toArray]; rfl) rfl (by kernel_rfl) rfl (fun _ _ _ h => h) (Or.inl ⟨by rfl, fun w' hSw => by (try dsimp only at hSw); go_simp; try with_reducible rfl⟩) hSS ?_
    simp only [zqN]
    refine zqT 3 (some 24) _ (zqF 10 4) (by rw [List.getElem?_toArray]; rfl) rfl (by kernel_rfl) rfl (fun _ _ _ h => h) (Or.inl ⟨by rfl, fun w' hSw => by (try dsimp only at hSw); go_simp; try with_reducible rfl⟩) hSS ?_
    simp only [zqN]
    refine zqT 4 (some 25) _ (zqF 10 5) (by rw [List.getElem?_toArray]; rfl) rfl (by kernel_rfl) rfl (fun _ _ _ h => h) (Or.inl ⟨by rfl, fun w' hSw => by (try dsimp only at hSw); go_simp; try with_reducible rfl⟩) hSS ?_
    simp only [zqN]
    refine zqT 5 (some 26) _ (zqF 10 6) (by rw [List.getElem?_toArray]; rfl) rfl (by kernel_rfl) rfl (fun _ _ _ h => h) (Or.inl ⟨by rfl, fun w' hSw => by (try dsimp only at hSw); go_simp; try with_reducible rfl⟩) hSS ?_
    simp only [zqN]
    refine zqT 6 (some 27) _ (zqF 10 7) (by rw [List.getElem?_toArray]; rfl) rfl (by kernel_rfl) rfl (fun _ _ _ h => h) (Or.inl ⟨by rfl, fun w' hSw => by (try dsimp only at hSw); go_simp; try with_reducible rfl⟩) hSS ?_
    simp only [zqN]
    refine zqT 7 (some 28) _ (zqF 10 8) (by rw [List.getElem?_toArray]; rfl) rfl (by kernel_rfl) rfl (fun _ _ _ h => h) (Or.inl ⟨by rfl, fun w' hSw => by (try dsimp only at hSw); go_simp; try with_reducible rfl⟩) hSS ?_
    simp only [zqN]
    refine zqT 8 (some 29) _ (zqF 10 9) (by rw [List.getElem?_toArray]; rfl) rfl (by kernel_rfl) rfl (fun _ _ _ h => h) (Or.inl ⟨by rfl, fun w' hSw => by (try dsimp only at hSw); go_simp; try with_reducible rfl⟩) hSS ?_
    simp only [zqN]
    refine come_one (i := 9) (l' := (zqF 10 10)) (by rw [List.getElem?_toArray]; rfl) (by kernel_rfl) rfl (fun K' hK => ?_)
    go_simp
    go_at_call 50; refine HLk.out.mono ?_; rintro e X2 ⟨rfl, hB2, hT2⟩
    refine hK.out _ _ trivial (fun hSS => ?_)
    try simp only [zqN]
    refine wpAnyH_done (by kernel_rfl) ?_ _
    exact ⟨⟨_, _, _, _, _, _, _, _, _, _, rfl⟩, hB2, (Soft.drew W0.heap.size w3).tl.trans hT2⟩
   case next21 =>
   rintro a' w4 ⟨⟨z0, z1, z2, z3, z4, z5, z6, z7, z8, z9, rfl⟩, hB4, hT4⟩
   simp only [zqN]
   obtain ⟨P3, hF3, hNB⟩ := HT3.out
   have P4 := P3.tl hT4
   have hF4 := hF3.trans (hT4.b W.heap.size)
   have hN4 := hT4.bk hNB (by decide) (by decide) (by decide)
   have g0 := hN4.cell 0
   simp at g0
   have c4 := P4.e
   have f4 := P4.k.free 128
   have P5 := P4.empty true
   have hO5 := Only.set (W.heap.size + 1) 128 w4 (.bool true)
   have hn5 : W0.heap.size ≤ (W.heap.size + 1) := Nat.le_trans hW0.out hlo
   have HG := Lib.hid (And.intro (hB4.only hO5 P4.k hn5 (by decide) (by decide) (by decide) (by decide)) (And.intro (PtB.pt (p := ⟨none_, none_, true⟩) P5) (hF4.trans ((hO5.tlb hn5).mono hlo))))
   clear P5 hO5
   clear P3 hF3 P4 hF4 hB4 hNB hN4
   go_wp2_with fail
   go_ret
   rw [hR]
   exact ⟨_, rfl, hlo, HG.out.1, HG.out.2.1, HG.out.2.2.tl⟩
 · -- kind 4, no Sub
   have hR : oftF pt s (.mk 4 nm tx st []) = (linkF s none_ none_, ⟨none_, none_, false⟩) := by unfold oftF; simp [T.subs, T.kind, Pt.zero]
   obtain ⟨w3, hw3⟩ : ∃ w3, (W.alloc (.cells #[.int .u8 4, .string nm, .string tx, .slice sa st.length sc, .slice ba 0 bc] 34)).alloc (.cells Tryd.zeroCells71 71) = w3 := ⟨_, rfl⟩
   have hS3 : Soft W0.heap.size W w3 := by rw [← hw3]; exact (soft_alloc W hW0.out _).trans (soft_alloc _ (by have := hW0.out; simp; omega) _)
   have hNB : Bk w3 W.heap.size 34 #[.int .u8 4, .string nm, .string tx, .slice sa st.length sc, .slice ba 0 bc] := by rw [← hw3]; exact (Bk.made W _ _).alloc _
   have P3 : PtB w3 (W.heap.size + 1) Tryd.zeroCells71 none_ none_ false := by
    rw [← hw3]
    have := Bk.made (W.alloc (.cells #[.int .u8 4, .string nm, .string tx, .slice sa st.length sc, .slice ba 0 bc] 34)) 71 Tryd.zeroCells71
    rw [World.size_alloc] at this
    exact zero_ptb this
   have hB3 := hI.soft hS3
   have hF3 := hS3.tl.b W.heap.size
   have hOk3 := hOk
   have hPo : Pok s.made.length ⟨none_, none_, false⟩ := Pok.zero _
   have hlo : W.heap.size ≤ W.heap.size + 1 := by omega
   have n4 := hNB.cell 4
   simp at n4
   have HW3 := Lib.hid hw3
   clear hw3 hS3
   go_enter Tryd.func34, Tryd.ntmps34
   go_upto_region 2 with fail
   rw [HW3.out]
   have d0 := hNB.cell 0
   simp at d0
   have HLk := Lib.hid (link_any W0.heap.size bb g kind s w3.drew (hB3.soft (Soft.drew _ _)) (W.heap.size + 1) 64 (W.heap.size + 1) 0 71 71 Tryd.zeroCells71 Tryd.zeroCells71 none_ none_ P3.k P3.l (by decide) (by decide) (by decide) P3.k P3.f (by decide) (by decide) (by decide) (fun x hx => by rw [hOk3.len]; exact hPo.2 x hx) (by rw [hOk3.len]; exact hOk3.cap))
   have HT3 := Lib.hid (And.intro P3 (And.intro hF3 hNB))
   clear P3 hF3 hNB hB3
   go_upto_region 5 with fail
   refine wp_cutN (fun a a' w' => (∃ z0 z1 z2 z3 z4 z5 z6 z7 z8 z9 : Value, a' = ((((((((((a.put (some 21) z0).put (some 22) z1).put (some 23) z2).put (some 24) z3).put (some 25) z4).put (some 26) z5).put (some 27) z6).put (some 28) z7).put (some 29) z8).put (some 30) z9)) ∧ BI W0.heap.size bb g kind (linkF s none_ none_) w' ∧ Tl W0.heap.size w3 w') ?first21 ?next21
   case first21 =>
    refine wp_region_held_drew (S := fun w' : World => True) (by kernel_rfl) trivial (fun hSS => ?_)
    show wpAnyH _ _ _ _ _ 10 #[false, false, false, false, false, false, false, false, false, false] _ _
    refine zqT 0 (some 21) _ (zqF 10 1) (by rw [List.getElem?_toArray]; rfl) rfl (by kernel_rfl) rfl (fun _ _ _ h => h) (Or.inl ⟨by rfl, fun w' hSw => by (try dsimp only at hSw); go_simp; try with_reducible rfl⟩) hSS ?_
    simp only [zqN]
    refine zqT 1 (some 22) _ (zqF 10 2) (by rw [List.getElem?_toArray]; rfl) rfl (by kernel_rfl) rfl (fun _ _ _ h => h) (Or.inl ⟨by rfl, fun w' hSw => by (try dsimp only at hSw); go_simp; try with_reducible rfl⟩) hSS ?_
    simp only [zqN]
    refine zqT 2 (some 23) _ (zqF 10 3) (by rw [List.getElem?_toArray]; rfl) rfl (by kernel_rfl) rfl (fun _ _ _ h => h) (Or.inl ⟨by rfl, fun w' hSw => by (try dsimp only at hSw); go_simp; try with_reducible rfl⟩) hSS ?_
    simp only [zqN]
    refine zqT 3 (some 24) _ (zqF 10 4) (by rw [List.getElem?_toArray]; rfl) rfl (by kernel_rfl) rfl (fun _ _ _ h => h) (Or.inl ⟨by rfl, fun w' hSw => by (try dsimp only at hSw); go_simp; try with_reducible rfl⟩) hSS ?_
    simp only [zqN]
    refine zqT 4 (some 25) _ (zqF 10 5) (by rw [List.getElem?_toArray]; rfl) rfl (by kernel_rfl) rfl (fun _ _ _ h => h) (Or.inl ⟨by rfl, fun w' hSw => by (try dsimp only at hSw); go_simp; try with_reducible rfl⟩) hSS ?_
    simp only [zqN]
    refine zqT 5 (some 26) _ (zqF 10 6) (by rw [List.getElem?_toArray]; rfl) rfl (by kernel_rfl) rfl (fun _ _ _ h => h) (Or.inl ⟨by rfl, fun w' hSw => by (try dsimp only at hSw); go_simp; try with_reducible rfl⟩) hSS ?_
    simp only [zqN]
    refine zqT 6 (some 27) _ (zqF 10 7) (by rw [List.getElem?_toArray]; rfl) rfl (by kernel_rfl) rfl (fun _ _ _ h => h) (Or.inl ⟨by rfl, fun w' hSw => by (try dsimp only at hSw); go_simp; try with_reducible rfl⟩) hSS ?_
    simp only [zqN]
    refine zqT 7 (some 28) _ (zqF 10 8) (by rw [List.getElem?_toArray]; rfl) rfl (by kernel_rfl) rfl (fun _ _ _ h => h) (Or.inl ⟨by rfl, fun w' hSw => by (try dsimp only at hSw); go_simp; try with_reducible rfl⟩) hSS ?_
    simp only [zqN]
    refine zqT 8 (some 29) _ (zqF 10 9) (by rw [List.getElem?_toArray]; rfl) rfl (by kernel_rfl) rfl (fun _ _ _ h => h) (Or.inl ⟨by rfl, fun w' hSw => by (try dsimp only at hSw); go_simp; try with_reducible rfl⟩) hSS ?_
    simp only [zqN]
    refine come_one (i := 9) (l' := (zqF 10 10)) (by rw [List.getElem?_toArray]; rfl) (by kernel_rfl) rfl (fun K' hK => ?_)
    go_simp
    go_at_call 50; refine HLk.out.mono ?_; rintro e X2 ⟨rfl, hB2, hT2⟩
    refine hK.out _ _ trivial (fun hSS => ?_)
    try simp only [zqN]
    refine wpAnyH_done (by kernel_rfl) ?_ _
    exact ⟨⟨_, _, _, _, _, _, _, _, _, _, rfl⟩, hB2, (Soft.drew W0.heap.size w3).tl.trans hT2⟩
   case next21 =>
   rintro a' w4 ⟨⟨z0, z1, z2, z3, z4, z5, z6, z7, z8, z9, rfl⟩, hB4, hT4⟩
   simp only [zqN]
   obtain ⟨P3, hF3, hNB⟩ := HT3.out
   have P4 := P3.tl hT4
   have hF4 := hF3.trans (hT4.b W.heap.size)
   have hN4 := hT4.bk hNB (by decide) (by decide) (by decide)
   have g0 := hN4.cell 0
   simp at g0
   have HG := Lib.hid (And.intro hB4 (And.intro (PtB.pt (p := ⟨none_, none_, false⟩) P4) hF4))
   clear P3 hF3 P4 hF4 hB4 hNB hN4
   go_wp2_with fail
   go_ret
   rw [hR]
   exact ⟨_, rfl, hlo, HG.out.1, HG.out.2.1, HG.out.2.2.tl⟩
 | cons m r =>
 have hSmM := hSm.subs m (List.mem_cons_self ..)
 unfold AtL at hL
 obtain ⟨b, o, v0, v1, v2, v3, v4, rfl, e0, e1, e2, e3, e4, hM, _⟩ := hL
 obtain ⟨sa1, sc1, ba1, bc1, e5, _⟩ := hM.form
 injection e5 with e5
 simp only [Array.mk.injEq, List.cons.injEq, and_true] at e5
 obtain ⟨rfl, rfl, rfl, rfl, rfl⟩ := e5
 obtain ⟨SN, hSN⟩ : ∃ SN, (m :: r).length = SN := ⟨_, rfl⟩
 rw [hSN] at hbl ⊢
 have hpos : 0 < SN := by rw [← hSN]; simp
 have q0 : (0 : Int) < (SN : Int) := by omega
 have q1 : (SN : Int) ≤ 9223372036854775807 := by omega
 have q2 : decide ((0 : Int) < (SN : Int)) = true := decide_eq_true q0
 clear hSN hbl
 rcases hk with h | h | h <;> (replace h : kd = _ := h; subst h)
 · -- kind 2, a Sub
   obtain ⟨X, hX⟩ : ∃ X, (W.alloc (.cells #[.int .u8 2, .string nm, .string tx, .slice sa st.length sc, .slice (some ⟨b, o, none⟩) SN bc] 34)).alloc (.cells Tryd.zeroCells71 71) = X := ⟨_, rfl⟩
   have hSX : Soft W0.heap.size W X := by rw [← hX]; exact (soft_alloc W hW0.out _).trans (soft_alloc _ (by have := hW0.out; simp; omega) _)
   have hNX : Bk X W.heap.size 34 #[.int .u8 2, .string nm, .string tx, .slice sa st.length sc, .slice (some ⟨b, o, none⟩) SN bc] := by rw [← hX]; exact (Bk.made W _ _).alloc _
   have hXs : W.heap.size ≤ X.heap.size := hSX.1.size
   have hBX := hW.trans hSX.1
   have HC := Lib.hid (HP.out m _ s X hM hSmM hBX (hI.soft hSX) hOk (fun _ => hnd) (by omega) hF)
   obtain ⟨⟨s2, ⟨pf, pl, pe⟩⟩, hx⟩ : ∃ x, pt s m = x := ⟨_, rfl⟩
   have o1 := HO.out s m hOk
   rw [hx] at HC o1
   obtain ⟨hOk3, o4, hPo⟩ := o1
   simp only at hOk3 o4 hPo
   have hR : oftF pt s (.mk 2 nm tx st (m :: r)) = (s2, ⟨pf, pl, true⟩) := by unfold oftF; simp [T.subs, T.kind, hx]
   have n4 := hNX.cell 4
   simp at n4
   have m0 := Nd.cell_keeps hBX e0
   have m1 := Nd.cell_keeps hBX e1
   have m2 := Nd.cell_keeps hBX e2
   have m3 := Nd.cell_keeps hBX e3
   have m4 := Nd.cell_keeps hBX e4
   have HFX := Lib.hid (And.intro hNX (hSX.tl.b W.heap.size))
   have HX := Lib.hid hX
   clear hX hSX hNX hBX hx o4 e0 e1 e2 e3 e4
   generalize m.kind = mk at *
   generalize m.name = mn at *
   generalize m.text = mx at *
   generalize m.set.length = ml at *
   generalize m.subs.length = mm at *
   go_enter Tryd.func34, Tryd.ntmps34
   go_upto_region 2 with fail
   rw [HX.out]
   go_upto_region 4 with (go_at_call 18; refine HC.out.mono ?_; rintro e w3 ⟨pq, rfl, hpq, hB3, hQ3, hT3⟩; clear HC n4 m0 m1 m2 m3 m4)
   obtain ⟨cs, k1, k2, k3, k4, k5⟩ := hQ3
   have P3 : PtB w3 pq cs pf pl pe := ⟨k1, k2, k3, k4, k5⟩
   have hF3 := HFX.out.2.trans (hT3.b W.heap.size)
   have hNB := hT3.bk HFX.out.1 (by decide) (by decide) (by decide)
   have hlo : W.heap.size ≤ pq := Nat.le_trans hXs hpq
   clear k1 k2 k3 k4 k5 hT3
   have d0 := hNB.cell 0
   simp at d0
   have P4 := P3
   have hF4 := hF3
   have hB4 := hB3
   have c4 := P4.e
   have f4 := P4.k.free 128
   have P5 := P4.empty true
   have hO5 := Only.set pq 128 w3 (.bool true)
   have hn5 : W0.heap.size ≤ pq := Nat.le_trans hW0.out hlo
   have HG := Lib.hid (And.intro (hB4.only hO5 P4.k hn5 (by decide) (by decide) (by decide) (by decide)) (And.intro (PtB.pt (p := ⟨pf, pl, true⟩) P5) (hF4.trans ((hO5.tlb hn5).mono hlo))))
   clear P5 hO5
   clear P3 hF3 hB3 P4 hF4 hB4 hNB
   go_wp2_with fail
   go_ret
   rw [hR]
   exact ⟨_, rfl, hlo, HG.out.1, HG.out.2.1, HG.out.2.2.tl⟩
 · -- kind 3, a Sub
   obtain ⟨X, hX⟩ : ∃ X, (W.alloc (.cells #[.int .u8 3, .string nm, .string tx, .slice sa st.length sc, .slice (some ⟨b, o, none⟩) SN bc] 34)).alloc (.cells Tryd.zeroCells71 71) = X := ⟨_, rfl⟩
   have hSX : Soft W0.heap.size W X := by rw [← hX]; exact (soft_alloc W hW0.out _).trans (soft_alloc _ (by have := hW0.out; simp; omega) _)
   have hNX : Bk X W.heap.size 34 #[.int .u8 3, .string nm, .string tx, .slice sa st.length sc, .slice (some ⟨b, o, none⟩) SN bc] := by rw [← hX]; exact (Bk.made W _ _).alloc _
   have hXs : W.heap.size ≤ X.heap.size := hSX.1.size
   have hBX := hW.trans hSX.1
   have HC := Lib.hid (HP.out m _ s X hM hSmM hBX (hI.soft hSX) hOk (fun _ => hnd) (by omega) hF)
   obtain ⟨⟨s2, ⟨pf, pl, pe⟩⟩, hx⟩ : ∃ x, pt s m = x := ⟨_, rfl⟩
   have o1 := HO.out s m hOk
   rw [hx] at HC o1
   obtain ⟨hOk3, o4, hPo⟩ := o1
   simp only at hOk3 o4 hPo
   have hR : oftF pt s (.mk 3 nm tx st (m :: r)) = (linkF s2 pl pf, ⟨pf, pl, true⟩) := by unfold oftF; simp [T.subs, T.kind, hx]
   have n4 := hNX.cell 4
   simp at n4
   have m0 := Nd.cell_keeps hBX e0
   have m1 := Nd.cell_keeps hBX e1
   have m2 := Nd.cell_keeps hBX e2
   have m3 := Nd.cell_keeps hBX e3
   have m4 := Nd.cell_keeps hBX e4
   have HFX := Lib.hid (And.intro hNX (hSX.tl.b W.heap.size))
   have HX := Lib.hid hX
   clear hX hSX hNX hBX hx o4 e0 e1 e2 e3 e4
   generalize m.kind = mk at *
   generalize m.name = mn at *
   generalize m.text = mx at *
   generalize m.set.length = ml at *
   generalize m.subs.length = mm at *
   go_enter Tryd.func34, Tryd.ntmps34
   go_upto_region 2 with fail
   rw [HX.out]
   go_upto_region 4 with (go_at_call 18; refine HC.out.mono ?_; rintro e w3 ⟨pq, rfl, hpq, hB3, hQ3, hT3⟩; clear HC n4 m0 m1 m2 m3 m4)
   obtain ⟨cs, k1, k2, k3, k4, k5⟩ := hQ3
   have P3 : PtB w3 pq cs pf pl pe := ⟨k1, k2, k3, k4, k5⟩
   have hF3 := HFX.out.2.trans (hT3.b W.heap.size)
   have hNB := hT3.bk HFX.out.1 (by decide) (by decide) (by decide)
   have hlo : W.heap.size ≤ pq := Nat.le_trans hXs hpq
   clear k1 k2 k3 k4 k5 hT3
   have d0 := hNB.cell 0
   simp at d0
   have HLk := Lib.hid (link_any W0.heap.size bb g kind s2 w3.drew (hB3.soft (Soft.drew _ _)) pq 64 pq 0 71 71 cs cs pl pf P3.k P3.l (by decide) (by decide) (by decide) P3.k P3.f (by decide) (by decide) (by decide) (fun x hx => by rw [hOk3.len]; exact hPo.2 x hx) (by rw [hOk3.len]; exact hOk3.cap))
   have HT3 := Lib.hid (And.intro P3 (And.intro hF3 hNB))
   clear P3 hF3 hNB hB3
   go_upto_region 5 with fail
   refine wp_cutN (fun a a' w' => (∃ z0 z1 z2 z3 z4 z5 z6 z7 z8 z9 : Value, a' = ((((((((((a.put (some 21) z0).put (some 22) z1).put (some 23) z2).put (some 24) z3).put (some 25) z4).put (some 26) z5).put (some 27) z6).put (some 28) z7).put (some 29) z8).put (some 30) z9)) ∧ BI W0.heap.size bb g kind (linkF s2 pl pf) w' ∧ Tl W0.heap.size w3 w') ?first21 ?next21
   case first21 =>
    refine wp_region_held_drew (S := fun w' : World => True) (by kernel_rfl) trivial (fun hSS => ?_)
    show wpAnyH _ _ _ _ _ 10 #[false, false, false, false, false, false, false, false, false, false] _ _
    refine zqT 0 (some 21) _ (zqF 10 1) (by rw [List.getElem?_toArray]; rfl) rfl (by kernel_rfl) rfl (fun _ _ _ h => h) (Or.inl ⟨by rfl, fun w' hSw => by (try dsimp only at hSw); go_simp; try with_reducible rfl⟩) hSS ?_
    simp only [zqN]
    refine zqT 1 (some 22) _ (zqF 10 2) (by rw [List.getElem?_toArray]; rfl) rfl (by kernel_rfl) rfl (fun _ _ _ h => h) (Or.inl ⟨by rfl, fun w' hSw => by (try dsimp only at hSw); go_simp; try with_reducible rfl⟩) hSS ?_
    simp only [zqN]
    refine zqT 2 (some 23) _ (zqF 10 3) (by rw [List.getElem?_toArray]; rfl) rfl (by kernel_rfl) rfl (fun _ _ _ h => h) (Or.inl ⟨by rfl, fun w' hSw => by (try dsimp only at hSw); go_simp; try with_reducible rfl⟩) hSS ?_
    simp only [zqN]
    refine zqT 3 (some 24) _ (zqF 10 4) (by rw [List.getElem?_toArray]; rfl) rfl (by kernel_rfl) rfl (fun _ _ _ h => h) (Or.inl ⟨by rfl, fun w' hSw => by (try dsimp only at hSw); go_simp; try with_reducible rfl⟩) hSS ?_
    simp only [zqN]
    refine zqT 4 (some 25) _ (zqF 10 5) (by rw [List.getElem?_toArray]; rfl) rfl (by kernel_rfl) rfl (fun _ _ _ h => h) (Or.inl ⟨by rfl, fun w' hSw => by (try dsimp only at hSw); go_simp; try with_reducible rfl⟩) hSS ?_
    simp only [zqN]
    refine zqT 5 (some 26) _ (zqF 10 6) (by rw [List.getElem?_toArray]; rfl) rfl (by kernel_rfl) rfl (fun _ _ _ h => h) (Or.inl ⟨by rfl, fun w' hSw => by (try dsimp only at hSw); go_simp; try with_reducible rfl⟩) hSS ?_
    simp only [zqN]
    refine zqT 6 (some 27) _ (zqF 10 7) (by rw [List.getElem?_toArray]; rfl) rfl (by kernel_rfl) rfl (fun _ _ _ h => h) (Or.inl ⟨by rfl, fun w' hSw => by (try dsimp only at hSw); go_simp; try with_reducible rfl⟩) hSS ?_
    simp only [zqN]
    refine zqT 7 (some 28) _ (zqF 10 8) (by rw [List.getElem?_toArray]; rfl) rfl (by kernel_rfl) rfl (fun _ _ _ h => h) (Or.inl ⟨by rfl, fun w' hSw => by (try dsimp only at hSw); go_simp; try with_reducible rfl⟩) hSS ?_
    simp only [zqN]
    refine zqT 8 (some 29) _ (zqF 10 9) (by rw [List.getElem?_toArray]; rfl) rfl (by kernel_rfl) rfl (fun _ _ _ h => h) (Or.inl ⟨by rfl, fun w' hSw => by (try dsimp only at hSw); go_simp; try with_reducible rfl⟩) hSS ?_
    simp only [zqN]
    refine come_one (i := 9) (l' := (zqF 10 10)) (by rw [List.getElem?_toArray]; rfl) (by kernel_rfl) rfl (fun K' hK => ?_)
    go_simp
    go_at_call 50; refine HLk.out.mono ?_; rintro e X2 ⟨rfl, hB2, hT2⟩
    refine hK.out _ _ trivial (fun hSS => ?_)
    try simp only [zqN]
    refine wpAnyH_done (by kernel_rfl) ?_ _
    exact ⟨⟨_, _, _, _, _, _, _, _, _, _, rfl⟩, hB2, (Soft.drew W0.heap.size w3).tl.trans hT2⟩
   case next21 =>
   rintro a' w4 ⟨⟨z0, z1, z2, z3, z4, z5, z6, z7, z8, z9, rfl⟩, hB4, hT4⟩
   simp only [zqN]
   obtain ⟨P3, hF3, hNB⟩ := HT3.out
   have P4 := P3.tl hT4
   have hF4 := hF3.trans (hT4.b W.heap.size)
   have hN4 := hT4.bk hNB (by decide) (by decide) (by decide)
   have g0 := hN4.cell 0
   simp at g0
   have c4 := P4.e
   have f4 := P4.k.free 128
   have P5 := P4.empty true
   have hO5 := Only.set pq 128 w4 (.bool true)
   have hn5 : W0.heap.size ≤ pq := Nat.le_trans hW0.out hlo
   have HG := Lib.hid (And.intro (hB4.only hO5 P4.k hn5 (by decide) (by decide) (by decide) (by decide)) (And.intro (PtB.pt (p := ⟨pf, pl, true⟩) P5) (hF4.trans ((hO5.tlb hn5).mono hlo))))
   clear P5 hO5
   clear P3 hF3 P4 hF4 hB4 hNB hN4
   go_wp2_with fail
   go_ret
   rw [hR]
   exact ⟨_, rfl, hlo, HG.out.1, HG.out.2.1, HG.out.2.2.tl⟩
 · -- kind 4, a Sub
   obtain ⟨X, hX⟩ : ∃ X, (W.alloc (.cells #[.int .u8 4, .string nm, .string tx, .slice sa st.length sc, .slice (some ⟨b, o, none⟩) SN bc] 34)).alloc (.cells Tryd.zeroCells71 71) = X := ⟨_, rfl⟩
   have hSX : Soft W0.heap.size W X := by rw [← hX]; exact (soft_alloc W hW0.out _).trans (soft_alloc _ (by have := hW0.out; simp; omega) _)
   have hNX : Bk X W.heap.size 34 #[.int .u8 4, .string nm, .string tx, .slice sa st.length sc, .slice (some ⟨b, o, none⟩) SN bc] := by rw [← hX]; exact (Bk.made W _ _).alloc _
   have hXs : W.heap.size ≤ X.heap.size := hSX.1.size
   have hBX := hW.trans hSX.1
   have HC := Lib.hid (HP.out m _ s X hM hSmM hBX (hI.soft hSX) hOk (fun _ => hnd) (by omega) hF)
   obtain ⟨⟨s2, ⟨pf, pl, pe⟩⟩, hx⟩ : ∃ x, pt s m = x := ⟨_, rfl⟩
   have o1 := HO.out s m hOk
   rw [hx] at HC o1
   obtain ⟨hOk3, o4, hPo⟩ := o1
   simp only at hOk3 o4 hPo
   have hR : oftF pt s (.mk 4 nm tx st (m :: r)) = (linkF s2 pl pf, ⟨pf, pl, pe⟩) := by unfold oftF; simp [T.subs, T.kind, hx]
   have n4 := hNX.cell 4
   simp at n4
   have m0 := Nd.cell_keeps hBX e0
   have m1 := Nd.cell_keeps hBX e1
   have m2 := Nd.cell_keeps hBX e2
   have m3 := Nd.cell_keeps hBX e3
   have m4 := Nd.cell_keeps hBX e4
   have HFX := Lib.hid (And.intro hNX (hSX.tl.b W.heap.size))
   have HX := Lib.hid hX
   clear hX hSX hNX hBX hx o4 e0 e1 e2 e3 e4
   generalize m.kind = mk at *
   generalize m.name = mn at *
   generalize m.text = mx at *
   generalize m.set.length = ml at *
   generalize m.subs.length = mm at *
   go_enter Tryd.func34, Tryd.ntmps34
   go_upto_region 2 with fail
   rw [HX.out]
   go_upto_region 4 with (go_at_call 18; refine HC.out.mono ?_; rintro e w3 ⟨pq, rfl, hpq, hB3, hQ3, hT3⟩; clear HC n4 m0 m1 m2 m3 m4)
   obtain ⟨cs, k1, k2, k3, k4, k5⟩ := hQ3
   have P3 : PtB w3 pq cs pf pl pe := ⟨k1, k2, k3, k4, k5⟩
   have hF3 := HFX.out.2.trans (hT3.b W.heap.size)
   have hNB := hT3.bk HFX.out.1 (by decide) (by decide) (by decide)
   have hlo : W.heap.size ≤ pq := Nat.le_trans hXs hpq
   clear k1 k2 k3 k4 k5 hT3
   have d0 := hNB.cell 0
   simp at d0
   have HLk := Lib.hid (link_any W0.heap.size bb g kind s2 w3.drew (hB3.soft (Soft.drew _ _)) pq 64 pq 0 71 71 cs cs pl pf P3.k P3.l (by decide) (by decide) (by decide) P3.k P3.f (by decide) (by decide) (by decide) (fun x hx => by rw [hOk3.len]; exact hPo.2 x hx) (by rw [hOk3.len]; exact hOk3.cap))
   have HT3 := Lib.hid (And.intro P3 (And.intro hF3 hNB))
   clear P3 hF3 hNB hB3
   go_upto_region 5 with fail
   refine wp_cutN (fun a a' w' => (∃ z0 z1 z2 z3 z4 z5 z6 z7 z8 z9 : Value, a' = ((((((((((a.put (some 21) z0).put (some 22) z1).put (some 23) z2).put (some 24) z3).put (some 25) z4).put (some 26) z5).put (some 27) z6).put (some 28) z7).put (some 29) z8).put (some 30) z9)) ∧ BI W0.heap.size bb g kind (linkF s2 pl pf) w' ∧ Tl W0.heap.size w3 w') ?first21 ?next21
   case first21 =>
    refine wp_region_held_drew (S := fun w' : World => True) (by kernel_rfl) trivial (fun hSS => ?_)
    show wpAnyH _ _ _ _ _ 10 #[false, false, false, false, false, false, false, false, false, false] _ _
    refine zqT 0 (some 21) _ (zqF 10 1) (by rw [List.getElem?_toArray]; rfl) rfl (by kernel_rfl) rfl (fun _ _ _ h => h) (Or.inl ⟨by rfl, fun w' hSw => by (try dsimp only at hSw); go_simp; try with_reducible rfl⟩) hSS ?_
    simp only [zqN]
    refine zqT 1 (some 22) _ (zqF 10 2) (by rw [List.getElem?_toArray]; rfl) rfl (by kernel_rfl) rfl (fun _ _ _ h => h) (Or.inl ⟨by rfl, fun w' hSw => by (try dsimp only at hSw); go_simp; try with_reducible rfl⟩) hSS ?_
    simp only [zqN]
    refine zqT 2 (some 23) _ (zqF 10 3) (by rw [List.getElem?_toArray]; rfl) rfl (by kernel_rfl) rfl (fun _ _ _ h => h) (Or.inl ⟨by rfl, fun w' hSw => by (try dsimp only at hSw); go_simp; try with_reducible rfl⟩) hSS ?_
    simp only [zqN]
    refine zqT 3 (some 24) _ (zqF 10 4) (by rw [List.getElem?_toArray]; rfl) rfl (by kernel_rfl) rfl (fun _ _ _ h => h) (Or.inl ⟨by rfl, fun w' hSw => by (try dsimp only at hSw); go_simp; try with_reducible rfl⟩) hSS ?_
    simp only [zqN]
    refine zqT 4 (some 25) _ (zqF 10 5) (by rw [List.getElem?_toArray]; rfl) rfl (by kernel_rfl) rfl (fun _ _ _ h => h) (Or.inl ⟨by rfl, fun w' hSw => by (try dsimp only at hSw); go_simp; try with_reducible rfl⟩) hSS ?_
    simp only [zqN]
    refine zqT 5 (some 26) _ (zqF 10 6) (by rw [List.getElem?_toArray]; rfl) rfl (by kernel_rfl) rfl (fun _ _ _ h => h) (Or.inl ⟨by rfl, fun w' hSw => by (try dsimp only at hSw); go_simp; try with_reducible rfl⟩) hSS ?_
    simp only [zqN]
    refine zqT 6 (some 27) _ (zqF 10 7) (by rw [List.getElem?_toArray]; rfl) rfl (by kernel_rfl) rfl (fun _ _ _ h => h) (Or.inl ⟨by rfl, fun w' hSw => by (try dsimp only at hSw); go_simp; try with_reducible rfl⟩) hSS ?_
    simp only [zqN]
    refine zqT 7 (some 28) _ (zqF 10 8) (by rw [List.getElem?_toArray]; rfl) rfl (by kernel_rfl) rfl (fun _ _ _ h => h) (Or.inl ⟨by rfl, fun w' hSw => by (try dsimp only at hSw); go_simp; try with_reducible rfl⟩) hSS ?_
    simp only [zqN]
    refine zqT 8 (some 29) _ (zqF 10 9) (by rw [List.getElem?_toArray]; rfl) rfl (by kernel_rfl) rfl (fun _ _ _ h => h) (Or.inl ⟨by rfl, fun w' hSw => by (try dsimp only at hSw); go_simp; try with_reducible rfl⟩) hSS ?_
    simp only [zqN]
    refine come_one (i := 9) (l' := (zqF 10 10)) (by rw [List.getElem?_toArray]; rfl) (by kernel_rfl) rfl (fun K' hK => ?_)
    go_simp
    go_at_call 50; refine HLk.out.mono ?_; rintro e X2 ⟨rfl, hB2, hT2⟩
    refine hK.out _ _ trivial (fun hSS => ?_)
    try simp only [zqN]
    refine wpAnyH_done (by kernel_rfl) ?_ _
    exact ⟨⟨_, _, _, _, _, _, _, _, _, _, rfl⟩, hB2, (Soft.drew W0.heap.size w3).tl.trans hT2⟩
   case next21 =>
   rintro a' w4 ⟨⟨z0, z1, z2, z3, z4, z5, z6, z7, z8, z9, rfl⟩, hB4, hT4⟩
   simp only [zqN]
   obtain ⟨P3, hF3, hNB⟩ := HT3.out
   have P4 := P3.tl hT4
   have hF4 := hF3.trans (hT4.b W.heap.size)
   have hN4 := hT4.bk hNB (by decide) (by decide) (by decide)
   have g0 := hN4.cell 0
   simp at g0
   have HG := Lib.hid (And.intro hB4 (And.intro (PtB.pt (p := ⟨pf, pl, pe⟩) P4) hF4))
   clear P3 hF3 P4 hF4 hB4 hNB hN4
   go_wp2_with fail
   go_ret
   rw [hR]
   exact ⟨_, rfl, hlo, HG.out.1, HG.out.2.1, HG.out.2.2.tl⟩
end Go.Proofs.YtiinkhmgemoamaaDoor.Nf
namespace Go.Proofs.YtiinkhmgemoamaaDoor.Nf
open Go Go.RowKit Nd
attribute [local go_sem] Oper.semAt_some
set_option maxRecDepth 100000

/-- A text's runes, as a range over it goes through them. -/
def rnF : Nat → List UInt8 → List Int
 | 0, _ => []
 | _ + 1, [] => []
 | n + 1, a :: l => ((Lib.decodeL (a :: l)).1 : Int) :: rnF n ((a :: l).drop (Lib.decodeL (a :: l)).2)
theorem rnF_fuel : ∀ (n m : Nat) (l : List UInt8), l.length ≤ n → l.length ≤ m → rnF n l = rnF m l
 | 0, 0, _, _, _ => rfl
 | 0, m + 1, [], _, _ => rfl
 | 0, _ + 1, _ :: _, h, _ => by simp at h
 | n + 1, 0, [], _, _ => rfl
 | _ + 1, 0, _ :: _, _, h => by simp at h
 | n + 1, m + 1, [], _, _ => rfl
 | n + 1, m + 1, a :: l, h1, h2 => by
  have hw := Lib.decodeL_width (a :: l)
  unfold rnF
  rw [rnF_fuel n m _ (by rw [List.length_drop]; omega) (by rw [List.length_drop]; omega)]
def runesOf (b : ByteArray) : List Int := rnF b.size b.data.toList
def rnAt (b : ByteArray) (p : Nat) : List Int := rnF b.size (b.data.toList.drop p)
theorem rnAt_zero (b : ByteArray) : rnAt b 0 = runesOf b := by unfold rnAt runesOf; rw [List.drop_zero]
theorem rnAt_end {b : ByteArray} {p : Nat} (h : b.size ≤ p) : rnAt b p = [] := by
 unfold rnAt
 rw [List.drop_eq_nil_of_le (by rw [← Lib.size_eq]; exact h)]
 cases b.size <;> rfl
theorem rnAt_step {b : ByteArray} {p : Nat} (h : p < b.size) : rnAt b p = ((Utf8.decode b p).1 : Int) :: rnAt b (p + (Utf8.decode b p).2) ∧ p + (Utf8.decode b p).2 ≤ b.size ∧ 1 ≤ (Utf8.decode b p).2 := by
 have hll : (b.data.toList.drop p).length = b.size - p := by rw [List.length_drop, ← Lib.size_eq]
 have hne : b.data.toList.drop p ≠ [] := by
  intro e
  rw [e] at hll
  simp at hll
  omega
 rw [← Lib.decodeL_drop]
 have hw := Lib.decodeL_width (b.data.toList.drop p)
 have hle := Lib.decodeL_le (b.data.toList.drop p) hne
 rw [hll] at hle
 refine ⟨?_, by omega, hw⟩
 unfold rnAt
 obtain ⟨n, hn⟩ : ∃ n, b.size = n + 1 := ⟨b.size - 1, by omega⟩
 rw [← List.drop_drop]
 generalize b.data.toList.drop p = l at *
 cases l with
 | nil => exact absurd rfl hne
 | cons a l =>
  rw [hn]
  conv => lhs; unfold rnF
  rw [rnF_fuel n (n + 1) _ (by rw [List.length_drop]; omega) (by rw [List.length_drop]; omega)]
theorem softc_iter {n₀ k : Nat} (W : World) (s : ByteArray) (p p' : Nat) (h : W.heap[k]? = some (.stringIter s p)) (hn : n₀ ≤ k) : SoftC n₀ W (W.iterAt k s p') :=
 ⟨Lib.below_iterAt (Below.refl _ _) hn s p', fun j o hj hc => by
  rw [Lib.iterAt_other W k j s p' ?_]
  · exact hj
  · rintro rfl
    rw [h] at hj
    cases hj
    simp [Obj.isCells] at hc⟩
theorem BI.softC {n₀ bb : Nat} {g : BV} {kind : Nat} {s : St} {W W' : World} (h : BI n₀ bb g kind s W) (hs : SoftC n₀ W W') : BI n₀ bb g kind s W' := by
 obtain ⟨mv, fv, ms, h1, h2⟩ := h
 exact ⟨mv, fv, ms, h1.softC hs, h2⟩
theorem PtA.softC {n₀ : Nat} {W W' : World} {pb : Nat} {p : Pt} (h : PtA W pb p) (hs : SoftC n₀ W W') : PtA W' pb p := by
 obtain ⟨cs, h1, h2⟩ := h
 exact ⟨cs, hs.bk h1, h2⟩
/-- At the head of the loop. -/
def LiI (n₀ bb pb : Nat) (g : BV) (kind : Nat) (tx : ByteArray) (RR : St × Pt) (W : World) (p : Nat) (sp : St) (pp : Pt) (wr : World) : Prop :=
 rowF (fun s r => placeF kind s [(r, r)]) sp pp (rnAt tx p) = RR ∧ BI n₀ bb g kind sp wr ∧ PtA wr pb pp ∧ Pok sp.made.length pp ∧ Ok sp ∧ sp.over = false ∧ TlB n₀ W.heap.size W wr ∧ wr.heap[W.heap.size + 1]? = some (.stringIter tx p) ∧ W.heap.size + 1 < wr.heap.size
set_option maxHeartbeats 4000000 in
theorem literal_any (n₀ bb : Nat) (g : BV) (kind : Nat) (tx : ByteArray) (s : St) (W : World) (hI : BI n₀ bb g kind s W) (hOk : Ok s) (hov : s.over = false) (_htx : tx.size ≤ 1000000) :
 Calls Tryd.prog 35 #[.pointer (some ⟨bb, 0, none⟩), .string tx] W fun e W' => ∃ pb, e = .returned (.pointer (some ⟨pb, 0, none⟩)) ∧ W.heap.size ≤ pb ∧
  BI n₀ bb g kind (rowF (fun s r => placeF kind s [(r, r)]) s .void (runesOf tx)).1 W' ∧ PtA W' pb (rowF (fun s r => placeF kind s [(r, r)]) s .void (runesOf tx)).2 ∧ Tl n₀ W W' := by
 obtain ⟨RR, hRR⟩ : ∃ RR, rowF (fun s r => placeF kind s [(r, r)]) s .void (runesOf tx) = RR := ⟨_, rfl⟩
 rw [hRR]
 have hn0 := hI.hi
 have hPA : PtB (W.alloc (.cells voidC 71)) W.heap.size voidC none_ none_ true := void_ptb (Bk.made W 71 voidC)
 have hS := soft_alloc W hn0 (.cells voidC 71)
 have HS := Lib.hid (show BI n₀ bb g kind s (W.alloc (.cells voidC 71)) ∧ PtA (W.alloc (.cells voidC 71)) W.heap.size Pt.void ∧ TlB n₀ W.heap.size W (W.alloc (.cells voidC 71)) ∧ (W.alloc (.cells voidC 71)).heap.size = W.heap.size + 1 from ⟨hI.soft hS, hPA.pt (p := Pt.void), hS.tl.b _, World.size_alloc _ _⟩)
 have HR := Lib.hid hRR
 have HOk := Lib.hid (And.intro hOk hov)
 have hW0 := Lib.hid hn0
 clear hRR hI hOk hov hPA hS hn0
 go_enter Tryd.func35, Tryd.ntmps35
 go_upto_region 1 with fail
 refine wp_cutN (fun a a' w' => (∃ y9 y10 : Value, a' = (((a.put (some 9) y9).put (some 10) y10).put (some 5) (.pointer (some ⟨W.heap.size, 0, none⟩)))) ∧ w' = W.alloc (.cells voidC 71)) ?first1 ?next1
 case first1 =>
  refine wp_region_lit ?_
  refine wpList_void rfl rfl ?_
  refine wpList_plain rfl fun K hK => ?_
  go_simp
  refine hK _ _ ?_
  refine wpList_plain rfl fun K hK => ?_
  go_simp
  refine hK _ _ ?_
  exact ⟨⟨_, _, rfl⟩, rfl⟩
 case next1 =>
 rintro a' w2 ⟨⟨y9, y10, rfl⟩, hw2⟩
 simp only [zqN]
 rw [← hw2] at HS
 have hs2 := HS.out.2.2.2
 clear hw2
 go_wp2_with fail
 go_loopw [13] (fun _ wr => ∃ (p : Nat) (sp : St) (pp : Pt), p ≤ tx.size ∧ Hid (LiI n₀ bb W.heap.size g kind tx RR W p sp pp wr)) (fun _ wr => tx.size - wr.iterPos (W.heap.size + 1))
 case atStart =>
  obtain ⟨h1, h2, h3, h4⟩ := HS.out
  have hi : (w2.alloc (.stringIter tx 0)).heap[W.heap.size + 1]? = some (.stringIter tx 0) := by rw [← h4]; exact World.alloc_heap_new w2 _
  have hA := soft_alloc (n₀ := n₀) w2 (by have := hW0.out; omega) (.stringIter tx 0)
  exact ⟨0, s, Pt.void, Nat.zero_le _, Lib.hid ⟨by rw [rnAt_zero]; exact HR.out, h1.soft hA, h2.tl hA.tl, Pok.void _, HOk.out.1, HOk.out.2, h3.trans (hA.tl.b _), hi, (Array.getElem?_eq_some_iff.1 hi).1⟩⟩
 case round =>
  obtain ⟨p, sp, pp, hp, hJ⟩ := hrel
  obtain ⟨h1, h2, h3, h4, h5, h6, h7, hit, h9⟩ := hJ.out
  clear HS hs2
  by_cases hlt : p < tx.size
  · have hps : wr.iterPos (W.heap.size + 1) = p := by simp [World.iterPos, hit]
    have hnx := fun ty => Lib.run_next_any_at (P := Tryd.prog) wr (W.heap.size + 1) tx p ty hit hlt
    obtain ⟨hst, hle, hwd⟩ := rnAt_step hlt
    generalize Utf8.decode tx p = dd at *
    obtain ⟨r, z⟩ := dd
    dsimp only at hnx hst hle hwd
    obtain ⟨R, hR⟩ : ∃ R : Int, (r : Int) = R := ⟨_, rfl⟩
    rw [hR] at hnx hst
    rw [hst] at h1
    obtain ⟨wi, hwi⟩ : ∃ wi, wr.iterAt (W.heap.size + 1) tx (p + z) = wi := ⟨_, rfl⟩
    have hCi : SoftC n₀ wr wi := by rw [← hwi]; exact softc_iter wr tx p (p + z) hit (by have := hW0.out; omega)
    have hii : wi.heap[W.heap.size + 1]? = some (.stringIter tx (p + z)) := by rw [← hwi]; exact Lib.iterAt_heap wr _ tx p (p + z) hit
    have his : wi.heap.size = wr.heap.size := by rw [← hwi]; exact Lib.iterAt_size _ _ _ _
    have hTi : TlB n₀ W.heap.size W wi := h7.trans ⟨hCi.1, fun k o hk ho _ => by rw [← hwi, Lib.iterAt_other _ _ _ _ _ (by omega)]; exact ho⟩
    rw [hwi] at hnx
    obtain ⟨X, hX⟩ : ∃ X, wi.alloc (.cells #[.int .i32 R, .int .i32 R] 58) = X := ⟨_, rfl⟩
    have hSX : Soft n₀ wi X := by rw [← hX]; exact soft_alloc wi (by have := hW0.out; omega) _
    have hXR : Nd.RgAt X [(R, R)] (some ⟨wi.heap.size, 0, none⟩) := by
     have := Bk.made wi 58 #[.int .i32 R, .int .i32 R]
     rw [hX] at this
     exact ⟨wi.heap.size, 0, rfl, by rw [this.cell]; rfl, by rw [this.cell]; rfl, trivial⟩
    have hXs : wi.heap.size < X.heap.size := by rw [← hX]; simp
    have hBX := (h2.softC hCi).soft hSX
    have HC := Lib.hid (place_any n₀ bb g kind sp X hBX h5 [(R, R)] (some ⟨wi.heap.size, 0, none⟩) 1 hXR (Nat.le_refl _) (by show 1 ≤ 1000000; omega))
    have o1 := placeF_ok kind h5 [(R, R)]
    obtain ⟨⟨s1, q⟩, hx⟩ : ∃ x, placeF kind sp [(R, R)] = x := ⟨_, rfl⟩
    rw [hx] at HC o1
    obtain ⟨o3, o4, o5⟩ := o1
    simp only at o3 o4 o5
    have HK := Lib.hid (show (s1.over = true → RR = (s1, pp)) ∧ (s1.over = false → rowF (fun s r => placeF kind s [(r, r)]) (behindF s1 pp q).1 (behindF s1 pp q).2 (rnAt tx (p + z)) = RR) from by
     unfold rowF at h1
     rw [hx] at h1
     refine ⟨fun ho => ?_, fun ho => ?_⟩
     · simp only [ho, if_true] at h1; exact h1.symm
     · simp only [ho, Bool.false_eq_true, if_false] at h1; exact h1)
    have HX := Lib.hid (And.intro (show PtA X W.heap.size pp from (h3.softC hCi).tl hSX.tl) (And.intro (hTi.trans (hSX.tl.b W.heap.size)) (And.intro (hSX.2 _ _ hii) (And.intro hXs (And.intro h9 (And.intro his (And.intro (h4.mono o4) (And.intro o3 o5))))))))
    have HPS := Lib.hid hps
    replace hX := Lib.hid hX
    clear hJ h1 h2 h3 h4 h5 h6 h7 hit h9 hst hwi hCi hii his hTi hSX hXR hXs hBX o3 o4 o5 hx hR hps
    go_upto_if 25 with (go_at_call 36; rw [hX.out]; refine HC.out.mono ?_; rintro e w5 ⟨pq, rfl, hpq, hB1, hQ1, hT1⟩; have c8 := hB1.over; clear HC)
    obtain ⟨hPX, hTX, hIX, hXs, h9, his, hPok, hOk1, hPokq⟩ := HX.out
    have hP5 := hPX.tl hT1
    have hT5 := hTX.trans (hT1.b W.heap.size)
    have hI5 := hT1.2 _ _ hIX (fun _ _ _ e => by cases e)
    have hpne : pq ≠ W.heap.size := by omega
    obtain ⟨ov, hov⟩ : ∃ ov, s1.over = ov := ⟨_, rfl⟩
    have HOV := Lib.hid hov
    rw [hov] at c8 ⊢
    clear hov hPX hTX hIX
    cases ov with
    | true =>
     have hfin := HK.out.1 HOV.out
     have HF := Lib.hid (And.intro hB1 (And.intro hP5 hT5))
     clear hB1 hP5 hT5 hQ1 hT1 hI5
     go_wp2_with fail
     go_ret
     rw [hfin]
     exact ⟨_, rfl, Nat.le_refl _, HF.out.1, HF.out.2.1, HF.out.2.2.tl⟩
    | false =>
     have hb := behindF_ok hOk1 hPok hPokq
     have HB := Lib.hid (behind_any n₀ bb g kind s1 w5 hB1 W.heap.size pq pp q hP5 hQ1 hpne hW0.out (fun x hx => by rw [hOk1.len]; exact hPok.2 x hx) (by rw [hOk1.len]; exact hOk1.cap))
     have HBO := Lib.hid (And.intro hb (And.intro hT5 hI5))
     clear hB1 hP5 hT5 hQ1 hT1 hb hI5
     go_wp2_with (go_at_call 49; refine HB.out.mono ?_; rintro e w6 ⟨rfl, hB6, hP6, hT6⟩)
     have hI6 := hT6.2 _ _ (by omega) HBO.out.2.2 (fun _ _ _ e => by cases e)
     have hp6 : w6.iterPos (W.heap.size + 1) = p + z := by simp [World.iterPos, hI6]
     exact ⟨⟨p + z, (behindF s1 pp q).1, (behindF s1 pp q).2, hle, Lib.hid ⟨HK.out.2 HOV.out, hB6, hP6, HBO.out.1.2.2, HBO.out.1.1, HOV.out, HBO.out.2.1.trans hT6.b, hI6, (Array.getElem?_eq_some_iff.1 hI6).1⟩⟩, by rw [hp6, HPS.out]; omega⟩
  · have hnx := fun ty => Lib.run_next_end_at (P := Tryd.prog) wr (W.heap.size + 1) tx p ty hit hlt
    rw [rnAt_end (by omega)] at h1
    have hfin : RR = (sp, pp) := by rw [← h1]; rfl
    have HF := Lib.hid (And.intro h2 (And.intro h3 h7))
    clear hJ h2 h3 h7 h1 hit
    go_wp2_with fail
    go_ret
    rw [hfin]
    exact ⟨_, rfl, Nat.le_refl _, HF.out.1, HF.out.2.1, HF.out.2.2.tl⟩
end Go.Proofs.YtiinkhmgemoamaaDoor.Nf
namespace Go.Proofs.YtiinkhmgemoamaaDoor.Nf
open Go Go.RowKit Nd
attribute [local go_sem] Oper.semAt_some
set_option maxRecDepth 100000

/-- At the head of the loop. -/
def RwI (W0 : World) (bb pb : Nat) (g : BV) (kind F : Nat) (pt : St → T → St × Pt) (l : List T) (RR : St × Pt) (W : World) (p : Nat) (sp : St) (pp : Pt) (wr : World) : Prop :=
 rowF pt sp pp (l.drop p) = RR ∧ BI W0.heap.size bb g kind sp wr ∧ PtA wr pb pp ∧ Pok sp.made.length pp ∧ Ok sp ∧ (sp.over = false ∧ sp.nodes ≤ 65536 ∧ 65537 ≤ sp.nodes + F) ∧ TlB W0.heap.size W.heap.size W wr
theorem drop_row {pt : St → T → St × Pt} {l : List T} {p : Nat} {t : T} {sp s1 : St} {pp q : Pt} {RR : St × Pt} (ht : l[p]? = some t) (h : rowF pt sp pp (l.drop p) = RR) (hx : pt sp t = (s1, q)) :
 (s1.over = true → RR = (s1, pp)) ∧ (s1.over = false → rowF pt (behindF s1 pp q).1 (behindF s1 pp q).2 (l.drop (p + 1)) = RR) := by
 rw [Nd.drop_some ht] at h
 unfold rowF at h
 rw [hx] at h
 refine ⟨fun ho => ?_, fun ho => ?_⟩
 · simp only [ho, if_true] at h; exact h.symm
 · simp only [ho, Bool.false_eq_true, if_false] at h; exact h
set_option maxHeartbeats 4000000 in
theorem row_any (W0 : World) (bb : Nat) (g : BV) (fd : ByteArray → Option T) (rns : ByteArray → List Int) (kind F : Nat) (hP : PartOk W0 bb g fd rns kind F) (l : List T) (a0 : Option Addr) (c0 : Nat) (s : St) (W : World)
 (hL : Nd.AtL W0 l a0) (hSm : ∀ m ∈ l, Sm m) (hW : Below W0.heap.size W0 W) (hI : BI W0.heap.size bb g kind s W) (hOk : Ok s) (hov : s.over = false) (hnd : s.nodes ≤ 65536) (hF : 65537 ≤ s.nodes + F) (hlen : l.length ≤ 140737488351232) :
 Calls Tryd.prog 32 #[.pointer (some ⟨bb, 0, none⟩), .slice a0 l.length c0] W fun e W' => ∃ pb, e = .returned (.pointer (some ⟨pb, 0, none⟩)) ∧ W.heap.size ≤ pb ∧
  BI W0.heap.size bb g kind (rowF (partF fd rns kind F) s .void l).1 W' ∧ PtA W' pb (rowF (partF fd rns kind F) s .void l).2 ∧ Tl W0.heap.size W W' := by
 have hpo := partF_ok fd rns kind F
 have hpn := partF_nodes fd rns kind F
 unfold PartOk at hP
 generalize partF fd rns kind F = pt at *
 obtain ⟨RR, hRR⟩ : ∃ RR, rowF pt s .void l = RR := ⟨_, rfl⟩
 rw [hRR]
 obtain ⟨SN, hSN⟩ : ∃ SN, l.length = SN := ⟨_, rfl⟩
 rw [hSN]
 have hn0 := hI.hi
 have n1 : (SN : Int) ≤ 9223372036854775807 := by omega
 have hPA : PtB (W.alloc (.cells voidC 71)) W.heap.size voidC none_ none_ true := void_ptb (Bk.made W 71 voidC)
 have hS := soft_alloc W hn0 (.cells voidC 71)
 have HS := Lib.hid (show RwI W0 bb W.heap.size g kind F pt l RR W 0 s .void (W.alloc (.cells voidC 71)) from ⟨by rw [List.drop_zero]; exact hRR, hI.soft hS, hPA.pt (p := Pt.void), Pok.void _, hOk, ⟨hov, hnd, hF⟩, (hS.tl.b _)⟩)
 have hLS := Lib.hid (show l.length = SN from hSN)
 have HP := Lib.hid hP
 have HO := Lib.hid (And.intro hpo hpn)
 have HL := Lib.hid (And.intro hL hSm)
 have HW := Lib.hid hW
 have hW0 := Lib.hid hn0
 clear hP hpo hpn hL hSm hW hRR hSN hI hOk hov hnd hF hPA hS hlen hn0
 go_enter Tryd.func32, Tryd.ntmps32
 go_upto_region 1 with fail
 refine wp_cutN (fun a a' w' => (∃ y9 y10 : Value, a' = (((a.put (some 9) y9).put (some 10) y10).put (some 5) (.pointer (some ⟨W.heap.size, 0, none⟩)))) ∧ w' = W.alloc (.cells voidC 71)) ?first1 ?next1
 case first1 =>
  refine wp_region_lit ?_
  refine wpList_void rfl rfl ?_
  refine wpList_plain rfl fun K hK => ?_
  go_simp
  refine hK _ _ ?_
  refine wpList_plain rfl fun K hK => ?_
  go_simp
  refine hK _ _ ?_
  exact ⟨⟨_, _, rfl⟩, rfl⟩
 case next1 =>
 rintro a' w2 ⟨⟨y9, y10, rfl⟩, hw2⟩
 simp only [zqN]
 rw [← hw2] at HS
 clear hw2
 go_wp2_with fail
 go_loopw [13] (fun i wr => ∃ (p : Nat) (sp : St) (pp : Pt), p ≤ SN ∧ i = .int .i64 p ∧ Hid (RwI W0 bb W.heap.size g kind F pt l RR W p sp pp wr)) (fun i _ => SN - (intOf i).toNat)
 case atStart => exact ⟨0, s, .void, Nat.zero_le _, rfl, HS⟩
 case round =>
  obtain ⟨p, sp, pp, hp, rfl, hJ⟩ := hrel
  clear HS
  by_cases hlt : p < SN
  · have p0 : (p : Int) < (SN : Int) := by omega
    have p1 : (0 : Int) ≤ (p : Int) := by omega
    obtain ⟨t, ht⟩ : ∃ t, l[p]? = some t := ⟨_, List.getElem?_eq_getElem (by rw [hLS.out]; exact hlt)⟩
    obtain ⟨h1, h2, h3, h4, h5, ⟨h6, h7, h8⟩, h9⟩ := hJ.out
    have hBw : Below W0.heap.size W0 wr := HW.out.trans h9.1
    obtain ⟨b, o, v0, v1, v2, v3, v4, rfl, c0', c1', c2', c3', c4', hAt⟩ := HL.out.1.get p t ht
    have c0 := Nd.cell_keeps hBw c0'
    have c1 := Nd.cell_keeps hBw c1'
    have c2 := Nd.cell_keeps hBw c2'
    have c3 := Nd.cell_keeps hBw c3'
    have c4 := Nd.cell_keeps hBw c4'
    obtain ⟨⟨s1, q⟩, hx⟩ : ∃ x, pt sp t = x := ⟨_, rfl⟩
    obtain ⟨X, hX⟩ : ∃ X, wr.alloc (.cells #[v0, v1, v2, v3, v4] 34) = X := ⟨_, rfl⟩
    have hSX : Soft W0.heap.size wr X := by rw [← hX]; exact soft_alloc wr h2.hi _
    have hXs : wr.heap.size < X.heap.size := by rw [← hX]; simp
    have HC := Lib.hid (HP.out t _ sp X hAt (HL.out.2 t (List.mem_of_getElem? ht)) (hBw.trans hSX.1) (h2.soft hSX) h5 (fun _ => h7) (by omega) h8)
    rw [hx] at HC
    obtain ⟨k1, k2⟩ := drop_row ht h1 hx
    have o1 := HO.out.1 sp t h5
    have o2 := HO.out.2 sp t h7
    rw [hx] at o1 o2
    obtain ⟨o3, o4, o5⟩ := o1
    obtain ⟨o6, o7, o8⟩ := o2
    simp only at o3 o4 o5 o6 o7 o8
    have hpbX : W.heap.size < wr.heap.size := by obtain ⟨cs, hk, _⟩ := h3; exact hk.lt
    have HX := Lib.hid (And.intro (show PtA X W.heap.size pp from h3.tl hSX.tl) (h9.trans (hSX.tl.b W.heap.size)))
    have HN := Lib.hid (And.intro hpbX (And.intro hXs (And.intro (h4.mono o4) (And.intro o3 (And.intro o5 (show 65537 ≤ s1.nodes + F by omega))))))
    have HK := Lib.hid (And.intro k1 k2)
    have HO8 := Lib.hid o8
    obtain ⟨sa1, sc1, ba1, bc1, e5, _⟩ := hAt.form
    injection e5 with e5
    simp only [Array.mk.injEq, List.cons.injEq, and_true] at e5
    obtain ⟨rfl, rfl, rfl, rfl, rfl⟩ := e5
    clear hJ h1 h2 h3 h4 h5 h9 hBw hAt c0' c1' c2' c3' c4' hSX k1 k2 o3 o4 o5 o6 o7 o8 hpbX h7 h8 h6 hx ht
    generalize t.kind = tk at *
    generalize t.name = tn at *
    generalize t.text = tx at *
    generalize t.set.length = tl at *
    generalize t.subs.length = tm at *
    replace hX := Lib.hid hX
    go_upto_if 23 with (go_at_call 18; rw [hX.out]; refine HC.out.mono ?_; rintro e w5 ⟨pq, rfl, hpq, hB1, hQ1, hT1⟩; have c8 := hB1.over; clear HC)
    clear c0 c1 c2 c3 c4
    obtain ⟨hPX, hTX⟩ := HX.out
    have hP5 := hPX.tl hT1
    have hT5 := hTX.trans (hT1.b W.heap.size)
    obtain ⟨hpbX, hXs, hPok, hOk1, hPokq, hFu⟩ := HN.out
    have hpne : pq ≠ W.heap.size := by omega
    obtain ⟨ov, hov⟩ : ∃ ov, s1.over = ov := ⟨_, rfl⟩
    have HOV := Lib.hid hov
    rw [hov] at c8 ⊢
    clear hov hPX hTX
    cases ov with
    | true =>
     have hfin := HK.out.1 HOV.out
     have HF := Lib.hid (And.intro hB1 (And.intro hP5 hT5))
     clear hB1 hP5 hT5 hQ1 hT1
     go_wp2_with fail
     go_ret
     rw [hfin]
     exact ⟨_, rfl, Nat.le_refl _, HF.out.1, HF.out.2.1, HF.out.2.2.tl⟩
    | false =>
     have hb := behindF_ok hOk1 hPok hPokq
     have HB := Lib.hid (behind_any W0.heap.size bb g kind s1 w5 hB1 W.heap.size pq pp q hP5 hQ1 hpne (by have := hW0.out; omega) (fun x hx => by rw [hOk1.len]; exact hPok.2 x hx) (by rw [hOk1.len]; exact hOk1.cap))
     have HBO := Lib.hid (And.intro hb hT5)
     clear hB1 hP5 hT5 hQ1 hT1 hb
     go_wp2_with (go_at_call 49; refine HB.out.mono ?_; rintro e w6 ⟨rfl, hB6, hP6, hT6⟩)
     exact ⟨⟨p + 1, (behindF s1 pp q).1, (behindF s1 pp q).2, by omega, by go_num, Lib.hid ⟨HK.out.2 HOV.out, hB6, hP6, HBO.out.1.2.2, HBO.out.1.1, ⟨HOV.out, HO8.out HOV.out, hFu⟩, HBO.out.2.trans hT6.b⟩⟩, by simp [intOf]; omega⟩
  · obtain rfl : p = SN := by omega
    obtain ⟨h1, h2, h3, h4, h5, h6, h9⟩ := hJ.out
    rw [List.drop_eq_nil_of_le (by rw [hLS.out]; exact Nat.le_refl _)] at h1
    have hfin : RR = (sp, pp) := by rw [← h1]; rfl
    have HF := Lib.hid (And.intro h2 (And.intro h3 h9))
    clear hJ h2 h3 h9 h1
    go_wp2_with fail
    go_ret
    rw [hfin]
    exact ⟨_, rfl, Nat.le_refl _, HF.out.1, HF.out.2.1, HF.out.2.2.tl⟩
end Go.Proofs.YtiinkhmgemoamaaDoor.Nf
namespace Go.Proofs.YtiinkhmgemoamaaDoor.Nf
open Go Go.RowKit Nd
attribute [local go_sem] Oper.semAt_some
set_option maxRecDepth 100000

/-- At the head of the loop. -/
def ChI (W0 : World) (bb pb : Nat) (g : BV) (kind F : Nat) (pt : St → T → St × Pt) (l : List T) (RR : St × Pt) (W : World) (p : Nat) (sp : St) (pp : Pt) (wr : World) : Prop :=
 choiceF pt sp pp (l.drop p) = RR ∧ BI W0.heap.size bb g kind sp wr ∧ PtA wr pb pp ∧ Pok sp.made.length pp ∧ Ok sp ∧ (sp.over = false ∧ sp.nodes ≤ 65536 ∧ 65537 ≤ sp.nodes + F) ∧ TlB W0.heap.size W.heap.size W wr
theorem drop_choice {pt : St → T → St × Pt} {l : List T} {p : Nat} {t : T} {sp s1 : St} {pp q : Pt} {RR : St × Pt} (ht : l[p]? = some t) (h : choiceF pt sp pp (l.drop p) = RR) (hx : pt sp t = (s1, q)) :
 (s1.over = true → RR = (s1, pp)) ∧ (s1.over = false → choiceF pt s1 ⟨jn pp.first q.first, jn pp.last q.last, pp.empty || q.empty⟩ (l.drop (p + 1)) = RR) := by
 rw [Nd.drop_some ht] at h
 unfold choiceF at h
 rw [hx] at h
 refine ⟨fun ho => ?_, fun ho => ?_⟩
 · simp only [ho, if_true] at h; exact h.symm
 · simp only [ho, Bool.false_eq_true, if_false] at h; exact h
set_option maxHeartbeats 4000000 in
theorem choice_any (W0 : World) (bb : Nat) (g : BV) (fd : ByteArray → Option T) (rns : ByteArray → List Int) (kind F : Nat) (hP : PartOk W0 bb g fd rns kind F) (l : List T) (a0 : Option Addr) (c0 : Nat) (s : St) (W : World)
 (hL : Nd.AtL W0 l a0) (hSm : ∀ m ∈ l, Sm m) (hW : Below W0.heap.size W0 W) (hI : BI W0.heap.size bb g kind s W) (hOk : Ok s) (hov : s.over = false) (hnd : s.nodes ≤ 65536) (hF : 65537 ≤ s.nodes + F) (hlen : l.length ≤ 140737488351232) :
 Calls Tryd.prog 33 #[.pointer (some ⟨bb, 0, none⟩), .slice a0 l.length c0] W fun e W' => ∃ pb, e = .returned (.pointer (some ⟨pb, 0, none⟩)) ∧ W.heap.size ≤ pb ∧
  BI W0.heap.size bb g kind (choiceF (partF fd rns kind F) s .zero l).1 W' ∧ PtA W' pb (choiceF (partF fd rns kind F) s .zero l).2 ∧ Tl W0.heap.size W W' := by
 have hpo := partF_ok fd rns kind F
 have hpn := partF_nodes fd rns kind F
 unfold PartOk at hP
 generalize partF fd rns kind F = pt at *
 obtain ⟨RR, hRR⟩ : ∃ RR, choiceF pt s .zero l = RR := ⟨_, rfl⟩
 rw [hRR]
 obtain ⟨SN, hSN⟩ : ∃ SN, l.length = SN := ⟨_, rfl⟩
 rw [hSN]
 have hn0 := hI.hi
 have n1 : (SN : Int) ≤ 9223372036854775807 := by omega
 have hPA : PtB (W.alloc (.cells Tryd.zeroCells71 71)) W.heap.size Tryd.zeroCells71 none_ none_ false := zero_ptb (Bk.made W 71 Tryd.zeroCells71)
 have hS := soft_alloc W hn0 (.cells Tryd.zeroCells71 71)
 have HS := Lib.hid (show ChI W0 bb W.heap.size g kind F pt l RR W 0 s .zero (W.alloc (.cells Tryd.zeroCells71 71)) from ⟨by rw [List.drop_zero]; exact hRR, hI.soft hS, hPA.pt (p := Pt.zero), Pok.zero _, hOk, ⟨hov, hnd, hF⟩, (hS.tl.b _)⟩)
 have hLS := Lib.hid (show l.length = SN from hSN)
 have HP := Lib.hid hP
 have HO := Lib.hid (And.intro hpo hpn)
 have HL := Lib.hid (And.intro hL hSm)
 have HW := Lib.hid hW
 have hW0 := Lib.hid hn0
 clear hP hpo hpn hL hSm hW hRR hSN hI hOk hov hnd hF hPA hS hlen hn0
 go_enter Tryd.func33, Tryd.ntmps33
 go_wp2_with fail
 obtain ⟨w2, hw2⟩ : ∃ w2, W.alloc (.cells Tryd.zeroCells71 71) = w2 := ⟨_, rfl⟩
 rw [hw2] at HS ⊢
 clear hw2
 go_loopw [13] (fun i wr => ∃ (p : Nat) (sp : St) (pp : Pt), p ≤ SN ∧ i = .int .i64 p ∧ Hid (ChI W0 bb W.heap.size g kind F pt l RR W p sp pp wr)) (fun i _ => SN - (intOf i).toNat)
 case atStart => exact ⟨0, s, .zero, Nat.zero_le _, rfl, HS⟩
 case round =>
  obtain ⟨p, sp, pp, hp, rfl, hJ⟩ := hrel
  clear HS
  by_cases hlt : p < SN
  · have p0 : (p : Int) < (SN : Int) := by omega
    have p1 : (0 : Int) ≤ (p : Int) := by omega
    obtain ⟨t, ht⟩ : ∃ t, l[p]? = some t := ⟨_, List.getElem?_eq_getElem (by rw [hLS.out]; exact hlt)⟩
    obtain ⟨h1, h2, h3, h4, h5, ⟨h6, h7, h8⟩, h9⟩ := hJ.out
    have hBw : Below W0.heap.size W0 wr := HW.out.trans h9.1
    obtain ⟨b, o, v0, v1, v2, v3, v4, rfl, c0', c1', c2', c3', c4', hAt⟩ := HL.out.1.get p t ht
    have c0 := Nd.cell_keeps hBw c0'
    have c1 := Nd.cell_keeps hBw c1'
    have c2 := Nd.cell_keeps hBw c2'
    have c3 := Nd.cell_keeps hBw c3'
    have c4 := Nd.cell_keeps hBw c4'
    obtain ⟨⟨s1, q⟩, hx⟩ : ∃ x, pt sp t = x := ⟨_, rfl⟩
    obtain ⟨X, hX⟩ : ∃ X, wr.alloc (.cells #[v0, v1, v2, v3, v4] 34) = X := ⟨_, rfl⟩
    have hSX : Soft W0.heap.size wr X := by rw [← hX]; exact soft_alloc wr h2.hi _
    have hXs : wr.heap.size < X.heap.size := by rw [← hX]; simp
    have HC := Lib.hid (HP.out t _ sp X hAt (HL.out.2 t (List.mem_of_getElem? ht)) (hBw.trans hSX.1) (h2.soft hSX) h5 (fun _ => h7) (by omega) h8)
    rw [hx] at HC
    obtain ⟨k1, k2⟩ := drop_choice ht h1 hx
    have o1 := HO.out.1 sp t h5
    have o2 := HO.out.2 sp t h7
    rw [hx] at o1 o2
    obtain ⟨o3, o4, o5⟩ := o1
    obtain ⟨o6, o7, o8⟩ := o2
    simp only at o3 o4 o5 o6 o7 o8
    have hpbX : W.heap.size < wr.heap.size := by obtain ⟨cs, hk, _⟩ := h3; exact hk.lt
    have HX := Lib.hid (And.intro (show PtA X W.heap.size pp from h3.tl hSX.tl) (h9.trans (hSX.tl.b W.heap.size)))
    have HN := Lib.hid (And.intro hpbX (And.intro hXs (And.intro (h4.mono o4) (And.intro o3 (And.intro o5 (show 65537 ≤ s1.nodes + F by omega))))))
    have HK := Lib.hid (And.intro k1 k2)
    have HO8 := Lib.hid o8
    obtain ⟨sa1, sc1, ba1, bc1, e5, _⟩ := hAt.form
    injection e5 with e5
    simp only [Array.mk.injEq, List.cons.injEq, and_true] at e5
    obtain ⟨rfl, rfl, rfl, rfl, rfl⟩ := e5
    clear hJ h1 h2 h3 h4 h5 h9 hBw hAt c0' c1' c2' c3' c4' hSX k1 k2 o3 o4 o5 o6 o7 o8 hpbX h7 h8 h6 hx ht
    generalize t.kind = tk at *
    generalize t.name = tn at *
    generalize t.text = tx at *
    generalize t.set.length = tl at *
    generalize t.subs.length = tm at *
    replace hX := Lib.hid hX
    go_upto_if 23 with (go_at_call 18; rw [hX.out]; refine HC.out.mono ?_; rintro e w5 ⟨pq, rfl, hpq, hB1, hQ1, hT1⟩; have c8 := hB1.over; clear HC)
    clear c0 c1 c2 c3 c4
    obtain ⟨hPX, hTX⟩ := HX.out
    have hP5 := hPX.tl hT1
    have hT5 := hTX.trans (hT1.b W.heap.size)
    obtain ⟨hpbX, hXs, hPok, hOk1, hPokq, hFu⟩ := HN.out
    have hpne : pq ≠ W.heap.size := by omega
    obtain ⟨ov, hov⟩ : ∃ ov, s1.over = ov := ⟨_, rfl⟩
    have HOV := Lib.hid hov
    rw [hov] at c8 ⊢
    clear hov hPX hTX
    cases ov with
    | true =>
     have hfin := HK.out.1 HOV.out
     have HF := Lib.hid (And.intro hB1 (And.intro hP5 hT5))
     clear hB1 hP5 hT5 hQ1 hT1
     go_wp2_with fail
     go_ret
     rw [hfin]
     exact ⟨_, rfl, Nat.le_refl _, HF.out.1, HF.out.2.1, HF.out.2.2.tl⟩
    | false =>
     obtain ⟨pf, pl, pe⟩ := pp
     obtain ⟨qf, ql, qe⟩ := q
     obtain ⟨cs, hk, hsz, hf, hl, he⟩ := hP5
     obtain ⟨ds, qk, qsz, qf', ql', qe'⟩ := hQ1
     simp only at hf hl he qf' ql' qe'
     have HJ := Lib.hid (joinE_any W.heap.size pq 71 71 cs ds pf pl qf ql w5.drew hk qk hpne hf hl qf' ql')
     have HJF := Lib.hid (show ∀ X2, (Only W.heap.size w5.drew X2 ∧ ∃ cs', Bk X2 W.heap.size 71 cs' ∧ cs'.size = cs.size ∧ WdA cs' 0 (jn pf qf) ∧ WdA cs' 64 (jn pl ql) ∧ ∀ j, 128 ≤ j → cs'[j]? = cs[j]?) → ∃ cs', PtB X2 W.heap.size cs' (jn pf qf) (jn pl ql) pe ∧ Only W.heap.size w5 X2 from fun X2 ⟨hO, cs', a1, a2, a3, a4, a5⟩ =>
      ⟨cs', ⟨a1, by rw [a2, hsz], a3, a4, by rw [a5 128 (by omega)]; exact he⟩, ⟨hO.os, hO.tape, hO.output, hO.size, hO.same⟩⟩)
     have hQ5 : PtB w5 pq ds qf ql qe := ⟨qk, qsz, qf', ql', qe'⟩
     have HBO := Lib.hid (And.intro hB1 (And.intro hT5 (And.intro hk hQ5)))
     clear hB1 hT5 hT1 hk hsz hf hl he qk qsz qf' ql' qe' hQ5
     go_upto_region 7 with fail
     refine wp_cutN (fun a a' w' => (∃ z0 z1 z2 z3 z4 z5 z6 : Value, a' = (((((((a.put (some 24) z0).put (some 25) z1).put (some 26) z2).put (some 27) z3).put (some 28) z4).put (some 29) z5).put (some 30) z6)) ∧ ∃ cs', PtB w' W.heap.size cs' (jn pf qf) (jn pl ql) pe ∧ Only W.heap.size w5 w') ?first24 ?next24
     case first24 =>
      refine wp_region_held_drew (S := fun w' : World => True) (by kernel_rfl) trivial (fun hSS => ?_)
      show wpAnyH _ _ _ _ _ 7 #[false, false, false, false, false, false, false] _ _
      refine zqT 0 (some 24) _ (zqF 7 1) (by rw [List.getElem?_toArray]; rfl) rfl (by kernel_rfl) rfl (fun _ _ _ h => h) (Or.inl ⟨by rfl, fun w' hSw => by (try dsimp only at hSw); go_simp; try with_reducible rfl⟩) hSS ?_
      simp only [zqN]
      refine zqT 1 (some 25) _ (zqF 7 2) (by rw [List.getElem?_toArray]; rfl) rfl (by kernel_rfl) rfl (fun _ _ _ h => h) (Or.inl ⟨by rfl, fun w' hSw => by (try dsimp only at hSw); go_simp; try with_reducible rfl⟩) hSS ?_
      simp only [zqN]
      refine zqT 2 (some 26) _ (zqF 7 3) (by rw [List.getElem?_toArray]; rfl) rfl (by kernel_rfl) rfl (fun _ _ _ h => h) (Or.inl ⟨by rfl, fun w' hSw => by (try dsimp only at hSw); go_simp; try with_reducible rfl⟩) hSS ?_
      simp only [zqN]
      refine zqT 3 (some 27) _ (zqF 7 4) (by rw [List.getElem?_toArray]; rfl) rfl (by kernel_rfl) rfl (fun _ _ _ h => h) (Or.inl ⟨by rfl, fun w' hSw => by (try dsimp only at hSw); go_simp; try with_reducible rfl⟩) hSS ?_
      simp only [zqN]
      refine zqT 4 (some 28) _ (zqF 7 5) (by rw [List.getElem?_toArray]; rfl) rfl (by kernel_rfl) rfl (fun _ _ _ h => h) (Or.inl ⟨by rfl, fun w' hSw => by (try dsimp only at hSw); go_simp; try with_reducible rfl⟩) hSS ?_
      simp only [zqN]
      refine zqT 5 (some 29) _ (zqF 7 6) (by rw [List.getElem?_toArray]; rfl) rfl (by kernel_rfl) rfl (fun _ _ _ h => h) (Or.inl ⟨by rfl, fun w' hSw => by (try dsimp only at hSw); go_simp; try with_reducible rfl⟩) hSS ?_
      simp only [zqN]
      refine come_one (i := 6) (l' := (zqF 7 7)) (by rw [List.getElem?_toArray]; rfl) (by kernel_rfl) rfl (fun K' hK => ?_)
      go_simp
      go_at_call 17; refine HJ.out.mono ?_; rintro e X2 ⟨rfl, hX2⟩
      refine hK.out _ _ trivial (fun hSS => ?_)
      try simp only [zqN]
      refine wpAnyH_done (by kernel_rfl) ?_ _
      exact ⟨⟨_, _, _, _, _, _, _, rfl⟩, HJF.out X2 hX2⟩
     case next24 =>
     rintro a' w6 ⟨⟨z0, z1, z2, z3, z4, z5, z6, rfl⟩, cs6, P6, hO6⟩
     simp only [zqN]
     obtain ⟨hB1, hT5, hk, hQ5⟩ := HBO.out
     have Q6 := hQ5.only hO6 hpne
     have e6 := P6.e
     have f6 := P6.k.free 128
     have x6 := Q6.e
     have P7 := P6.empty (pe || qe)
     have hO7 := hO6.trans (Only.set W.heap.size 128 w6 (.bool (pe || qe)))
     have hn : W0.heap.size ≤ W.heap.size := hW0.out
     have HG := Lib.hid (And.intro (hB1.only hO7 hk hn (by decide) (by decide) (by decide) (by decide)) (And.intro (PtB.pt (p := ⟨jn pf qf, jn pl ql, pe || qe⟩) P7) (hT5.trans (hO7.tlb hn))))
     have HPK := Lib.hid (show Pok s1.made.length ⟨jn pf qf, jn pl ql, pe || qe⟩ from ⟨hPok.1.jn hPokq.1, hPok.2.jn hPokq.2⟩)
     clear P6 P7 hO6 hO7 hB1 hT5 hk hQ5 Q6
     cases pe <;> cases qe <;>
      (go_wp2_with fail
       exact ⟨⟨p + 1, s1, _, by omega, by go_num, Lib.hid ⟨HK.out.2 HOV.out, HG.out.1, HG.out.2.1, HPK.out, hOk1, ⟨HOV.out, HO8.out HOV.out, hFu⟩, HG.out.2.2⟩⟩, by simp [intOf]; omega⟩)
  · obtain rfl : p = SN := by omega
    obtain ⟨h1, h2, h3, h4, h5, h6, h9⟩ := hJ.out
    rw [List.drop_eq_nil_of_le (by rw [hLS.out]; exact Nat.le_refl _)] at h1
    have hfin : RR = (sp, pp) := by rw [← h1]; rfl
    have HF := Lib.hid (And.intro h2 (And.intro h3 h9))
    clear hJ h2 h3 h9 h1
    go_wp2_with fail
    go_ret
    rw [hfin]
    exact ⟨_, rfl, Nat.le_refl _, HF.out.1, HF.out.2.1, HF.out.2.2.tl⟩
end Go.Proofs.YtiinkhmgemoamaaDoor.Nf
