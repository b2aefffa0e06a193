/- The contract of known: what is known of a grammar. -/
import Derived.Test.YtiinkhmgemoamaaDoorPas
import Derived.Test.YtiinkhmgemoamaaDoorPag
import Derived.RangeFuncWrites
import Derived.Deep.RegionHeld3
import Derived.Deep.RegionLaw
import Derived.Carry
namespace Go.Proofs.YtiinkhmgemoamaaDoor
open Go Go.RowKit Go.Shelf Nu Go.Maps Go.WideMaps
attribute [local go_sem] Oper.semAt_some
set_option maxRecDepth 100000

theorem ckn {w : World} {a : Addr} {v : Value} (o : Obj) (h : w.cell? a = some v) : (w.alloc o).cell? a = some v := by obtain ⟨b, i, s⟩ := a; obtain rfl := World.cell?_spot h; exact Nd.cell_keeps ((Below.refl _ _).alloc (Nat.le_refl _) _) h
theorem ckd {w : World} {a : Addr} {v : Value} (h : w.cell? a = some v) : w.drew.cell? a = some v := h
theorem cks {w : World} {p a : Addr} {u v : Value} (hne : p.block ≠ a.block) (h : w.cell? a = some v) : (w.setCell p u).cell? a = some v := by rw [World.cell?_setCell_far _ _ _ _ hne]; exact h
theorem Bk.made' {w : World} {b : Nat} {t : TypeId} {cs : Array Value} (h : b = w.heap.size) : Bk (w.alloc (.cells cs t)) b t cs := by subst h; exact Bk.made _ _ _
theorem Bk.drew {w : World} {b : Nat} {t : TypeId} {cs : Array Value} (h : Bk w b t cs) : Bk w.drew b t cs := h
theorem keep1 {W w2 : World} {b : Nat} (hb : Below W.heap.size W w2) (h : W.heap[b]? = some (.cells #[.pointer none] 133 (0, 0))) : w2.cell? ⟨b, 0, none⟩ = some (.pointer none) ∧ w2.frozen? ⟨b, 0, none⟩ = false ∧ b < w2.heap.size ∧ Bk w2 b 133 #[.pointer none] := by
 have hk : Bk w2 b 133 #[.pointer none] := Bk.below (show Bk W b _ _ from h) hb (Array.getElem?_eq_some_iff.1 h).1
 have hc := hk.cell 0
 exact ⟨by simpa using hc, hk.free 0, hk.lt, hk⟩
theorem lk1 (h : Array Obj) (a b : Obj) : ((h.push a).push b)[h.size + 1]? = some b := by have := Array.getElem?_push_size (xs := h.push a) (x := b); rwa [Array.size_push] at this
theorem lk2 (h : Array Obj) (a b c : Obj) : (((h.push a).push b).push c)[h.size + 1 + 1]? = some c := by have := Array.getElem?_push_size (xs := (h.push a).push b) (x := c); rwa [Array.size_push, Array.size_push] at this
theorem lk3 (h : Array Obj) (a b c d : Obj) : ((((h.push a).push b).push c).push d)[h.size + 1 + 1 + 1]? = some d := by have := Array.getElem?_push_size (xs := ((h.push a).push b).push c) (x := d); rwa [Array.size_push, Array.size_push, Array.size_push] at this
theorem lkp {X : Array Obj} {i : Nat} {v : Obj} (h : X[i]? = some v) (y : Obj) : (X.push y)[i]? = some v := by
 have := (Array.getElem?_eq_some_iff.1 h).1
 rw [Array.getElem?_push, if_neg (by omega)]
 exact h
theorem Bk.set1 {w : World} {b : Nat} {t : TypeId} {u v : Value} (h : Bk w b t #[u]) : Bk (w.setCell ⟨b, 0, none⟩ v) b t #[v] := h.set 0 v
abbrev OwnM (w : World) (b n : Nat) (D : DataW Unit) : Prop := w.ownsMap Tryd.prog 9 (plainElem Tryd.prog 3) b n D
theorem OwnM.made' {w : World} {b : Nat} (h : b = w.heap.size) : OwnM (w.alloc (.map #[] 0)) b 0 (.map []) := by subst h; exact World.ownsMap_made _ _ _ _
theorem OwnM.alloc {w : World} {b n : Nat} {D : DataW Unit} (h : OwnM w b n D) (o : Obj) : OwnM (w.alloc o) b n D := World.ownsMap.alloc h o
theorem OwnM.drew {w : World} {b n : Nat} {D : DataW Unit} (h : OwnM w b n D) : OwnM w.drew b n D := h
theorem OwnM.below {w w' : World} {b n B : Nat} {D : DataW Unit} (h : OwnM w b n D) (hb : Below B w w') (hB : b < B) : OwnM w' b n D := map_below h hb hB
theorem OwnM.setCell {w : World} {b n : Nat} {D : DataW Unit} (h : OwnM w b n D) (a : Addr) (v : Value) (hne : b ≠ a.block) : OwnM (w.setCell a v) b n D := World.ownsMap.setCell h hne v
theorem RowK.alloc {W1 w : World} {rs : List Nu.Rl} {ra : Option Addr} (h : RowK W1 w rs ra) (o : Obj) : RowK W1 (w.alloc o) rs ra := h.keep (by simp) (fun _ _ _ _ hk => hk.alloc o)
theorem RowK.setCell {W1 w : World} {rs : List Nu.Rl} {ra : Option Addr} (h : RowK W1 w rs ra) {kv : Nat} {t : TypeId} {cs : Array Value} (hk : Bk w kv t cs) (ht : 38 ≠ t) (i : Nat) (v : Value) : RowK W1 (w.setCell ⟨kv, i, none⟩ v) rs ra := h.keep (by simp) (fun _ _ _ _ hr => hr.other _ _ (hr.ne hk ht))
theorem belA {w X : World} (h : Below w.heap.size w X) (o : Obj) : Below w.heap.size w (X.alloc o) := h.alloc h.size o
theorem belS {w X : World} {b i : Nat} (hb : w.heap.size ≤ b) (h : Below w.heap.size w X) (v : Value) : Below w.heap.size w (X.setCell ⟨b, i, none⟩ v) := h.setCell hb v
theorem bkO {w : World} {b kv i : Nat} {t : TypeId} {cs : Array Value} {v : Value} (hne : b ≠ kv) (h : Bk w b t cs) : Bk (w.setCell ⟨kv, i, none⟩ v) b t cs := h.other _ _ hne
theorem ownO {w : World} {b n kv i : Nat} {D : DataW Unit} {v : Value} (hne : b ≠ kv) (h : OwnM w b n D) : OwnM (w.setCell ⟨kv, i, none⟩ v) b n D := h.setCell _ _ hne
theorem rowS {W1 w : World} {rs : List Nu.Rl} {ra : Option Addr} {kv : Nat} {u : Value} (h : RowK W1 w rs ra) (hk : Bk w kv 133 #[u]) (i : Nat) (v : Value) : RowK W1 (w.setCell ⟨kv, i, none⟩ v) rs ra := h.setCell hk (by decide) i v
/-- On the way out that goes on, and no other one. -/
def OnN (J : Act → World → Prop) : Exit → Act → World → Prop
 | .normal, a, w => J a w
 | _, _, _ => False
/-- What is laid when the loop begins. -/
def KPost (w : World) (rs : List Nu.Rl) (RN : Nat) (gv : Value) (a' : Act) (w' : World) : Prop := ∃ (u4 u5 u6 u7 u10 u11 u12 u14 u16 u17 u18 u19 u20 u21 u22 u23 u24 u25 u26 u27 u28 u29 u30 u31 u32 u33 u34 u35 u36 u37 u38 u39 u40 u41 u42 u43 u44 : Value) (kv kb mb eb : Nat) (ra2 : Option Addr) (rc2 : Nat),
 a' = { tmps := #[gv, .pointer (some ⟨w.heap.size, 0, none⟩), .pointer none, .pointer (some ⟨kv, 0, none⟩), u4, u5, u6, u7, .slice ra2 RN rc2, .map (some mb), u10, u11, u12, .slice (some ⟨eb, 0, none⟩) RN RN, u14, .pointer (some ⟨kb, 0, none⟩), u16, u17, u18, u19, u20, u21, u22, u23, u24, u25, u26, u27, u28, u29, u30, u31, u32, u33, u34, u35, u36, u37, u38, u39, u40, u41, u42, u43, u44], defers := [] } ∧ Below w.heap.size w w' ∧ (w.heap.size ≤ kv ∧ w.heap.size ≤ kb ∧ w.heap.size ≤ mb ∧ w.heap.size ≤ eb) ∧ RowK w w' rs ra2 ∧ RN ≤ rc2 ∧
 Bk w' kv 133 #[.pointer (some ⟨kb, 0, none⟩)] ∧ Bk w' kb 132 #[.slice ra2 RN rc2, .map (some mb), .slice (some ⟨eb, 0, none⟩) RN RN] ∧
 OwnM w' mb 0 (.map []) ∧ Bk w' eb 4 (bools (List.replicate RN false))
theorem box3 (w : World) (nm : ByteArray) (o1 o2 : Int) (ra : Option Addr) (RN rc : Nat) : (w.alloc (.cells #[.string nm, .int .i64 o1, .int .i64 o2, .slice ra RN rc] 26)).cell? ⟨w.heap.size, 3, none⟩ = some (.slice ra RN rc) := by
 have := (Bk.made w 26 #[.string nm, .int .i64 o1, .int .i64 o2, .slice ra RN rc]).cell 3
 rw [this]
 rfl
set_option maxHeartbeats 40000000 in
theorem known_any (nm : ByteArray) (o1 o2 : Int) (rs : List Nu.Rl) (v : Value) (w : World) (hG : GrV w nm o1 o2 rs v) (hsm : rs.length ≤ 1000 ∧ ∀ r ∈ rs, Nd.deep r.body ≤ 100000 ∧ Nd.count r.body ≤ 1000000) :
 Calls Tryd.prog 67 #[v] w fun e w' => (∃ W1 kb mb eb ra rc, e = .returned (.pointer (some ⟨kb, 0, none⟩)) ∧ Kn W1 w' kb mb eb ra rc rs (emp rs) ∧ w.heap.size ≤ W1.heap.size) ∧ Below w.heap.size w w' := by
 obtain ⟨ra, rc, rfl, hnm, hrc, hR⟩ := hG
 have hC : ∀ w1 : World, Below w.heap.size w w1 → 0 < w1.heap.size → w1.cell? ⟨w.heap.size, 3, none⟩ = some (.slice ra rs.length rc) → Calls Tryd.prog 56 #[.slice ra rs.length rc] w1 fun e w' =>
  (∃ ra' rc', e = .returned (.slice ra' rs.length rc') ∧ RowK w w' rs ra' ∧ rs.length ≤ rc') ∧ Below w1.heap.size w1 w' ∧ Below w.heap.size w w' ∧ w'.cell? ⟨w.heap.size, 3, none⟩ = some (.slice ra rs.length rc) := fun w1 hb hp hc =>
  (Clone_any w rs ra rc w1 hR hb hp ⟨hrc.1, hsm.1⟩).mono fun e w' ⟨h1, h2⟩ => ⟨h1, h2, hb.trans (h2.mono hb.size), Nd.cell_keeps h2 hc⟩
 obtain ⟨RN, hRN⟩ : ∃ k, rs.length = k := ⟨_, rfl⟩
 have HRN := Lib.hid hRN
 rw [hRN] at hrc hC hsm ⊢
 have n1 : (RN : Int) ≤ 9223372036854775807 := by omega
 have hmm := @run_makeMap Tryd.prog
 have hmk := run_make_row' (P := Tryd.prog) 52 4 (.bool false) 1 Tryd.underlying52 infoBool rfl .i64 .i64 RN (by omega) (by omega)
 clear hRN
 refine (callsIn_wide (n := 3)).1 (callsIn_of_wp_marks Tryd.func67 rfl trivial ?_ rfl)
 simp only [Tryd.ntmps67, List.size_toArray, List.length_cons, List.length_nil, Nat.reduceAdd, Nat.reduceSub, Array.replicate_succ, Array.replicate_zero, List.push_toArray, List.append_toArray, List.nil_append, List.cons_append]
 refine wpIn_wide.2 ?_
 go_wp2_with fail
 refine Code.wp_mono (Q := OnN (KPost w rs RN (.agg #[.string nm, .int .i64 o1, .int .i64 o2, .slice ra RN rc]))) ?mono ?reg
 case reg =>
  go_region_held3 (fun w' => w'.cell? ⟨w.heap.size, 3, none⟩ = some (.slice ra RN rc)) (first | (go_keep; done) | (repeat (first | (with_reducible exact box3 _ _ _ _ _ _ _) | (with_reducible exact c3') | (with_reducible refine ckd ?_) | (with_reducible refine ckn _ ?_) | (with_reducible refine cks (by first | (simp; done) | (simp; omega)) ?_)))) (first
   | (go_at_call 56; refine (hC _ (by repeat (first | (with_reducible exact Below.refl _ _) | (with_reducible refine Below.drew ?_) | (with_reducible refine Below.alloc ?_ (by first | (simp; done) | (simp; omega)) _))) (by simp) (by repeat (first | (with_reducible exact box3 _ _ _ _ _ _ _) | (with_reducible refine ckd ?_) | (with_reducible refine ckn _ ?_)))).mono ?_; rintro e w2 ⟨⟨ra2, rc2, rfl, hR2, hrc2⟩, hb2, hbw2, c3'⟩; have hsz2 : w.heap.size < w2.heap.size := World.block_lt_of_cell? _ _ c3'; have q0 : w.heap.size < w2.heap.size + 1 := Nat.lt_succ_of_lt hsz2; have q1 : w.heap.size < w2.heap.size + 1 + 1 := Nat.lt_succ_of_lt q0; have q2 : w.heap.size < w2.heap.size + 1 + 1 + 1 := Nat.lt_succ_of_lt q1; (first | (obtain ⟨kc, kf, kl, kk⟩ := keep1 (b := w.heap.size + 1 + 1 + 1) hb2 (lk3 _ _ _ _ _); have r2 : w.heap.size + 1 + 1 < w2.heap.size := Nat.lt_of_succ_lt kl; have r1 : w.heap.size + 1 < w2.heap.size := Nat.lt_of_succ_lt r2) | (obtain ⟨kc, kf, kl, kk⟩ := keep1d (b := w.heap.size + 1 + 1 + 1) hb2 (lk3 _ _ _ _ _); have r2 : w.heap.size + 1 + 1 < w2.heap.size := Nat.lt_of_succ_lt kl; have r1 : w.heap.size + 1 < w2.heap.size := Nat.lt_of_succ_lt r2) | (obtain ⟨kc, kf, kl, kk⟩ := keep1 (b := w.heap.size + 1 + 1) hb2 (lk2 _ _ _ _); have r1 : w.heap.size + 1 < w2.heap.size := Nat.lt_of_succ_lt kl) | (obtain ⟨kc, kf, kl, kk⟩ := keep1d (b := w.heap.size + 1 + 1) hb2 (lk2 _ _ _ _); have r1 : w.heap.size + 1 < w2.heap.size := Nat.lt_of_succ_lt kl) | (obtain ⟨kc, kf, kl, kk⟩ := keep1 (b := w.heap.size + 1 + 1) hb2 (lkp (lk2 _ _ _ _) _); have r1 : w.heap.size + 1 < w2.heap.size := Nat.lt_of_succ_lt kl) | (obtain ⟨kc, kf, kl, kk⟩ := keep1d (b := w.heap.size + 1 + 1) hb2 (lkp (lk2 _ _ _ _) _); have r1 : w.heap.size + 1 < w2.heap.size := Nat.lt_of_succ_lt kl) | (obtain ⟨kc, kf, kl, kk⟩ := keep1 (b := w.heap.size + 1) hb2 (lk1 _ _ _)) | (obtain ⟨kc, kf, kl, kk⟩ := keep1d (b := w.heap.size + 1) hb2 (lk1 _ _ _)) | (obtain ⟨kc, kf, kl, kk⟩ := keep1 (b := w.heap.size + 1) hb2 (lkp (lk1 _ _ _) _)) | (obtain ⟨kc, kf, kl, kk⟩ := keep1d (b := w.heap.size + 1) hb2 (lkp (lk1 _ _ _) _)) | (obtain ⟨kc, kf, kl, kk⟩ := keep1 (b := w.heap.size + 1) hb2 (lkp (lkp (lk1 _ _ _) _) _)) | (obtain ⟨kc, kf, kl, kk⟩ := keep1d (b := w.heap.size + 1) hb2 (lkp (lkp (lk1 _ _ _) _) _)) | skip)))
  all_goals refine ⟨_, _, _, _, _, _, _, _, _, _, _, _, _, _, _, _, _, _, _, _, _, _, _, _, _, _, _, _, _, _, _, _, _, _, _, _, _, _, _, _, _, _, _, rfl, ?_, ?_, ?_, hrc2, ?_, ?_, ?_, ?_⟩
  all_goals first
   | ((repeat (first | (with_reducible assumption) | (with_reducible exact Below.refl _ _) | (with_reducible refine belD ?_) | (with_reducible refine belA ?_ _) | (with_reducible refine belS (by first | (simp; done) | (simp; omega) | omega) ?_ _))); done)
   | (refine ⟨?_, ?_, ?_, ?_⟩ <;> omega)
   | ((repeat (first | (with_reducible assumption) | (with_reducible refine RowK.drew ?_) | (with_reducible refine RowK.alloc ?_ _) | (with_reducible refine rowS (u := .pointer none) ?_ ?_ _ _) | (with_reducible refine Bk.made' (by simp; done)) | (with_reducible refine Bk.drew ?_) | (with_reducible refine bkO (by first | (simp; done) | (simp; omega) | omega) ?_) | (with_reducible refine Bk.alloc ?_ _) | (with_reducible refine Bk.below ?_ hb2 (by first | (simp; done) | (simp; omega) | omega)))); done)
   | (rw [← made_bools]; (repeat (first | (with_reducible assumption) | (with_reducible refine Bk.made' (by simp; done)) | (with_reducible refine Bk.drew ?_) | (with_reducible refine Bk.set1 (u := .pointer none) ?_) | (with_reducible refine bkO (by first | (simp; done) | (simp; omega) | omega) ?_) | (with_reducible refine Bk.alloc ?_ _) | (with_reducible refine Bk.below ?_ hb2 (by first | (simp; done) | (simp; omega) | omega)))); done)
   | ((repeat (first | (with_reducible assumption) | (with_reducible refine Bk.made' (by simp; done)) | (with_reducible refine Bk.drew ?_) | (with_reducible refine Bk.set1 (u := .pointer none) ?_) | (with_reducible refine bkO (by first | (simp; done) | (simp; omega) | omega) ?_) | (with_reducible refine Bk.alloc ?_ _) | (with_reducible refine Bk.below ?_ hb2 (by first | (simp; done) | (simp; omega) | omega)))); done)
   | ((repeat (first | (with_reducible assumption) | (with_reducible refine OwnM.made' (by simp; done)) | (with_reducible refine OwnM.drew ?_) | (with_reducible refine ownO (by first | (simp; done) | (simp; omega) | omega) ?_) | (with_reducible refine OwnM.alloc ?_ _) | (with_reducible refine OwnM.below ?_ hb2 (by first | (simp; done) | (simp; omega) | omega)))); done)
 case mono =>
  intro e a2 w3 h
  cases e <;> simp only [OnN] at h
  obtain ⟨u4, u5, u6, u7, u10, u11, u12, u14, u16, u17, u18, u19, u20, u21, u22, u23, u24, u25, u26, u27, u28, u29, u30, u31, u32, u33, u34, u35, u36, u37, u38, u39, u40, u41, u42, u43, u44, kv, kb, mb, eb, ra2, rc2, rfl, hB, hlo, hrow, hrc2, hkv, hkb, hmap, heb⟩ := h
  have c0 := hkv.cell 0
  have c1 := hkb.cell 0
  have c2 := hkb.cell 1
  have c4 := hkb.cell 2
  simp at c0 c1 c2 c4
  clear hC hmm hmk
  go_wp2_with (go_at_call 79; refine (Backward_any _ _ _ _).mono ?_; rintro e w4 ⟨rfl, rfl⟩)
  obtain ⟨W0, hW0⟩ : ∃ W0, w3.alloc (.cells #[.slice ra2 RN rc2] 24) = W0 := ⟨_, rfl⟩
  have hz0 : W0.heap.size = w3.heap.size + 1 := by rw [← hW0]; simp
  have hbb : Below w3.heap.size w3 W0 := by rw [← hW0]; exact (Below.refl _ _).alloc (Nat.le_refl _) _
  have hB0 : Below w.heap.size w W0 := hB.trans (hbb.mono hB.size)
  have hrow0 : RowK w W0 rs ra2 := hrow.keep hbb.size (fun _ _ _ _ hk => hk.below hbb hk.lt)
  have hkv0 := hkv.below hbb hkv.lt
  have hkb0 := hkb.below hbb hkb.lt
  have heb0 := heb.below hbb heb.lt
  have hmap0 : OwnM W0 mb 0 (.map []) := OwnM.below hmap hbb (World.ownsMap.lt hmap)
  have hmlt : mb < w3.heap.size := World.ownsMap.lt hmap
  have hbox : Bk W0 w3.heap.size 24 #[.slice ra2 rs.length rc2] := by rw [HRN.out, ← hW0]; exact Bk.made _ _ _
  have hsz := hB0.size
  rw [hW0]
  clear hW0 hbb hrow hkv hkb heb hmap c0 c1 c2 c4
  have hrs : ∀ n : Nat, n < rs.length → n < 1000 := fun n h => by rw [HRN.out] at h; have := hsm.1; omega
  refine (wpIn_wide (n := 3)).1 ?_
  refine wpIn_rangeFunc_ownH rfl (by omega) (gf := 86) (lb := #[.pointer (some ⟨w3.heap.size, 0, none⟩)]) rfl trivial (enters_of Tryd.func86 (by kernel_rfl) rfl)
   (back_stops w rs ra2 rc2 (3 - 1) W0 w3.heap.size hrow0 ⟨by rw [HRN.out]; exact hrc2, by rw [HRN.out]; exact hsm.1⟩ hB0 hbox (by omega)) (fun h k => h.trans k) (fun W l o o' hl h hc hw => KpB.put (Nat.le_refl _) W l o o' (by omega) h hc hw) (Below.refl _ _) (fun _ => rfl)
   (fun pre W => (Bk W kv 133 #[.pointer (some ⟨kb, 0, none⟩)] ∧ Bk W kb 132 #[.slice ra2 RN rc2, .map (some mb), .slice (some ⟨eb, 0, none⟩) RN RN] ∧ OwnM W mb pre.length (foldD (pl pre)) ∧ Bk W eb 4 (bools (List.replicate RN false)) ∧ RowK w W rs ra2) ∧ Below w.heap.size w W)
   (fun _ _ _ => False)
   (OwnFrom.and (fun s A Bw row hs hg hr => ⟨hs.1.kept hg (fun r e => (hr r e).2), hs.2.1.kept hg (fun r e => (hr r e).2), World.ownsMap.kept hs.2.2.1 hg (fun e => by have := (hr _ e.symm).1; omega), hs.2.2.2.1.kept hg (fun r e => (hr r e).2), hs.2.2.2.2.keep hg.size (fun _ _ _ _ hk => hk.kept hg (fun r e => (hr r e).2))⟩) (ownFrom_below (Nat.le_refl _) hsz))
   (fun _ _ _ _ _ hs _ _ => hs)
   ⟨⟨hkv0, hkb0, hmap0, heb0, hrow0⟩, hB0⟩
   (fun x a' W => ∃ Bx, Bk W Bx 38 x.1.2.2 ∧ a' = { tmps := #[.agg #[.string nm, .int .i64 o1, .int .i64 o2, .slice ra RN rc], .pointer (some ⟨w.heap.size, 0, none⟩), .pointer none, .pointer (some ⟨kv, 0, none⟩), .int .i64 (x.1.1 : Int), .pointer (some ⟨Bx, 0, none⟩), u6, u7, .slice ra2 RN rc2, .map (some mb), u10, u11, u12, .slice (some ⟨eb, 0, none⟩) RN RN, u14, .pointer (some ⟨kb, 0, none⟩), .pointer (some ⟨kb, 0, none⟩), .pointer (some ⟨kb, 0, none⟩), .pointer (some ⟨kb, 0, none⟩), .slice ra2 RN rc2, .func (.func 86) #[] #[.pointer (some ⟨w3.heap.size, 0, none⟩)], .int .i64 (x.1.1 : Int), .agg x.1.2.2, u23, u24, u25, u26, u27, u28, u29, u30, u31, u32, u33, u34, u35, u36, u37, u38, u39, u40, u41, u42, u43, u44], defers := [] })
   (fun x a' s A Bw row hs hg hr => by obtain ⟨Bx, hb, he⟩ := hs; exact ⟨Bx, hb.kept hg (fun r e => (hr r e).2), he⟩) ?assign ?body ?done ?stop
  case assign =>
   rintro l pre ⟨⟨ix, r, u⟩, hx1, hx2, v0, v1, v2, v3, v4, hu, hAt, hns⟩ W K ⟨⟨i1, i2, i3, i4, i5⟩, iB⟩ hK
   dsimp only at hu hAt hns
   obtain ⟨sa1, sc1, ba1, bc1, rfl, rfl, rfl, rfl, rfl⟩ := hAt.five
   subst hu
   simp only [encR]
   gi_wp2
   exact hK _ _ ((KeepsOthers.alloc _ _).from _) (KpB.alloc W iB.size _) ⟨⟨i1.alloc _, i2.alloc _, OwnM.alloc i3 _, i4.alloc _, RowK.alloc i5 _⟩, iB.alloc iB.size _⟩ ⟨W.heap.size, Bk.made W _ _, rfl⟩
  case body =>
   rintro l pre ⟨⟨ix, r, u⟩, hx1, hx2, v0, v1, v2, v3, v4, hu, hAt, hns⟩ a' W hl ⟨rec, hrec⟩ ⟨⟨i1, i2, i3, i4, i5⟩, iB⟩ ⟨Bx, hbx, rfl⟩ hlt
   dsimp only at hu hAt hns hbx hx2 ⊢
   obtain ⟨sa1, sc1, ba1, bc1, rfl, rfl, rfl, rfl, rfl⟩ := hAt.five
   subst hu
   have hpl := hrs pre.length hlt
   have hmb := World.ownsMap.lt i3
   have wfi : (Lit.int .i64 (ix : Int)).wf = true := WalkArith.wf_i64 (by omega)
   obtain ⟨w5, hrun, hown, hturn⟩ := World.ownsMap.store (w := W.drew) i3 law Tryd.underlying130 (by unfold maxLen; omega) (keyOf_string_mk (s := r.name) Tryd.underlying9 (by unfold maxLen; omega)) (plainElem_int Tryd.underlying3 wfi)
   have hgr : W.grownBy w5 (some mb) := by have := hturn.grown; exact ⟨this.os, this.tape, this.output, this.size, this.block⟩
   have hmc : ∀ (b : Nat) (t : TypeId) (cs : Array Value), Bk W b t cs → b ≠ mb := fun b t cs hk => by
    rintro rfl
    obtain ⟨es, cl, h1, _⟩ := i3
    unfold Bk at hk
    rw [h1] at hk
    cases hk
   have kp : ∀ {b : Nat} {t : TypeId} {cs : Array Value}, Bk W b t cs → Bk w5 b t cs := fun {b t cs} hk => hk.grown hgr (fun e => by injection e with e; exact hmc b t cs hk e)
   have j1 := kp i1
   have j2 := kp i2
   have j4 := kp i4
   have j5 : RowK w w5 rs ra2 := i5.keep hgr.size (fun _ _ _ _ hk => kp hk)
   have j6 := kp hbx
   have jB : Below w.heap.size w w5 := iB.grown hgr iB.size (fun k e => by cases e; omega)
   have cv := i1.cell 0
   have ck1 := i2.cell 1
   have cx0 := hbx.cell 0
   have cy2 := j6.cell 2
   have cy3 := j6.cell 3
   have cy4 := j6.cell 4
   have cy5 := j6.cell 5
   have cy6 := j6.cell 6
   simp at cv ck1 cx0 cy2 cy3 cy4 cy5 cy6
   have hE := Ends_any r.body _ w5 (hAt.below jB) (hsm.2 r hx2).1 (by have := (hsm.2 r hx2).2; omega)
   have hpost : ∀ w6, Below w5.heap.size w5 w6 → KeepsFrom W0.heap.size W w6 ∧ KpB w.heap.size w.heap.size W w6 ∧ ((Bk w6 kv 133 #[.pointer (some ⟨kb, 0, none⟩)] ∧ Bk w6 kb 132 #[.slice ra2 RN rc2, .map (some mb), .slice (some ⟨eb, 0, none⟩) RN RN] ∧ OwnM w6 mb (pre.length + 1) ((foldD (pl pre)).put (.string r.name.data.toList) (.lit (.int .i64 (ix : Int)))) ∧ Bk w6 eb 4 (bools (List.replicate RN false)) ∧ RowK w w6 rs ra2) ∧ Below w.heap.size w w6) := fun w6 hb => by
    refine ⟨(KeepsFrom.of_grownBy hgr (fun k e => by cases e; omega)).trans ((others_below hb).from _), ⟨((Below.refl w.heap.size W).grown hgr iB.size (fun k e => by cases e; omega)).trans (hb.mono jB.size), fun b cs t f hb0 hc => ?_⟩, ⟨j1.below hb j1.lt, j2.below hb j2.lt, OwnM.below hown hb (World.ownsMap.lt hown), j4.below hb j4.lt, j5.keep hb.size (fun _ _ _ _ hk => hk.below hb hk.lt)⟩, jB.trans (hb.mono jB.size)⟩
    have hbm : b ≠ mb := by
     rintro rfl
     obtain ⟨es, cl, h1, _⟩ := i3
     rw [h1] at hc
     cases hc
    have h5 := hgr.block b (Array.getElem?_eq_some_iff.1 hc).1 (fun e => hbm (by injection e))
    rw [hc] at h5
    rw [hb.block b (Array.getElem?_eq_some_iff.1 h5).1]
    exact h5
   have HP := Lib.hid hpost
   have hfo : ∀ x : ItR w rs, x.1.1 = ix → x.1.2.1 = r → foldD (pl (pre ++ [x])) = (foldD (pl pre)).put (.string r.name.data.toList) (.lit (.int .i64 (ix : Int))) := fun x h1 h2 => by
    have e : pl (pre ++ [x]) = pl pre ++ [(x.1.1, x.1.2.1)] := by simp [pl]
    rw [e, foldD_snoc, h1, h2]
   have HFO := Lib.hid hfo
   replace hE := Lib.hid hE
   clear hpost hfo kp hmc hgr hturn hown jB j1 j2 j4 j5 j6 i1 i2 i4 i5 hbx iB i3
   generalize r.body.kind = sk at *
   generalize r.body.name = sn at *
   generalize r.body.text = sx at *
   generalize r.body.set.length = sl at *
   generalize r.body.subs.length = sm at *
   have hmix : Tryd.prog.follows .mixedOrders = true := by kernel_rfl
   gi_wp2
   gi_region
   all_goals gi_wp2_with (refine ⟨trivial, ?_⟩; gi_at_call 57; refine (CallsIn.inRound l (callsIn_wide.2 hE.out)).mono ?_; rintro e w6 ⟨rfl, hb6⟩)
   all_goals
    obtain ⟨z1, z2, z3, z4⟩ := HP.out w6 hb6
    refine ⟨z1, z2, ⟨z3.1, z3.2.1, ?_, z3.2.2.2⟩, z4⟩
    rw [HFO.out _ rfl rfl, List.length_append, List.length_singleton]
    exact z3.2.2.1
  case done =>
   rintro D ys W hD hys ⟨⟨i1, i2, i3, i4, i5⟩, iB⟩ hDf
   have hfold : foldD (pl ys) = mapF 0 rs := by rw [hys]; exact foldD_en rs 0
   rw [hfold] at i3
   have hyl : ys.length = rs.length := by
    have := congrArg List.length hys
    simpa [pl, en_len] using this
   rw [hyl] at i3
   have hKn : Kn w W kb mb eb ra2 rc2 rs (List.replicate rs.length false) := ⟨iB, i5, by rw [HRN.out]; exact ⟨hrc2, hsm.1⟩, by rw [HRN.out]; exact i2, i3, by rw [HRN.out]; exact i4, by simp, hlo.2.1, hlo.2.2.1, hlo.2.2.2⟩
   have hlk := lack_le (List.replicate rs.length false)
   rw [List.length_replicate] at hlk
   have hG := grow_any w W kb mb eb ra2 rc2 rs (List.replicate rs.length false) (rs.length + 1) hKn (by omega) (fun r hr => (hsm.2 r hr).2)
   have hkvlt := i1.lt
   have ne1 : kv ≠ eb := i1.ne i4 (by decide)
   have cv := i1.cell 0
   simp at cv
   have hDl : D < W.heap.size := (Array.getElem?_eq_some_iff.1 hDf).1
   have hDe : D ≠ eb := by
    rintro rfl
    have := i4
    unfold Bk at this
    rw [hDf] at this
    cases this
   have hnx : ∀ w9, Fr eb W w9 → w9.heap[D]? = some (.deferred (some [])) ∧ w9.cell? ⟨kv, 0, none⟩ = some (.pointer (some ⟨kb, 0, none⟩)) := fun w9 h3 => ⟨by rw [h3.2 D hDl hDe]; exact hDf, by
    have : Bk w9 kv 133 #[.pointer (some ⟨kb, 0, none⟩)] := by unfold Bk; rw [h3.2 kv hkvlt ne1]; exact i1
    rw [this.cell]; rfl⟩
   have HNX := Lib.hid hnx
   replace hG := Lib.hid hG
   clear hKn hys hfold hlk hnx
   go_wp2_with (go_at_call 80; refine (hG.out).mono ?_; rintro e w9 ⟨⟨u, rfl⟩, hK9, hB9, hO9⟩; obtain ⟨hD9, cv9⟩ := HNX.out w9 hO9)
   refine ⟨by simp, .inl ⟨_, _, rfl, run_takeDeferred hD9, ?_⟩⟩
   have hgD := grownBy_putObj' w9 D (.deferred none)
   have hnc : ∀ r, some D = some r → ∃ o : Obj, w9.heap[r]? = some o ∧ o.isCells = false := fun r e => by cases e; exact ⟨_, hD9, rfl⟩
   have hB99 : Below w.heap.size w (w9.putObj D (.deferred none)) := (iB.trans hB9).grown hgD (iB.trans hB9).size (fun k e => by cases e; omega)
   have hKf : Kn w (w9.putObj D (.deferred none)) kb mb eb ra2 rc2 rs (emp rs) :=
    ⟨hB99, hK9.row.keep hgD.size (fun _ _ _ _ hk => hk.kept hgD hnc), hK9.len, hK9.k.kept hgD hnc, World.ownsMap.kept hK9.m hgD (fun e => by cases e; omega), hK9.ev.kept hgD hnc, hK9.el, hK9.lo⟩
   refine ⟨.pointer (some ⟨kb, 0, none⟩), ?_, ⟨w, kb, mb, eb, ra2, rc2, rfl, hKf, Nat.le_refl _⟩, hB99⟩
   simp [results, Tryd.results67, go_sem]
  case stop =>
   rintro D c pre W _ _ h _
   exact h.elim
end Go.Proofs.YtiinkhmgemoamaaDoor
