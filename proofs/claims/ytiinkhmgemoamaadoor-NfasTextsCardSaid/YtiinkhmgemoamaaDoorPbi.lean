/- The contract of named: each rule with nothing but what it names. -/
import Derived.Test.YtiinkhmgemoamaaDoorPbg
import Derived.Test.YtiinkhmgemoamaaDoorPbh
import Derived.Test.YtiinkhmgemoamaaDoorPam
import Derived.Test.YtiinkhmgemoamaaDoorPz
namespace Go.Proofs.YtiinkhmgemoamaaDoor
open Go Go.RowKit Go.Shelf Ck Nu
attribute [local go_sem] Oper.semAt_some
set_option maxRecDepth 100000

namespace Ck
/-- The mark of a range over a function. -/
def mkD (D : Nat) : Deferred := { target := .collected D, args := #[] }
/-- Marks that lie open, all apart. -/
def Mks (n₀ : Nat) (Ds : List Nat) (W : World) : Prop := Ds.Nodup ∧ ∀ D ∈ Ds, n₀ ≤ D ∧ W.heap[D]? = some (.deferred (some []))
theorem Mks.nil (n₀ : Nat) (W : World) : Mks n₀ [] W := ⟨List.nodup_nil, by simp⟩
theorem Mks.keep {n₀ : Nat} {Ds : List Nat} {W W' : World} (h : Mks n₀ Ds W) (hk : ∀ (k : Nat) (o : Obj), W.heap[k]? = some o → o.isCells = false → W'.heap[k]? = some o) : Mks n₀ Ds W' := ⟨h.1, fun D hD => ⟨(h.2 D hD).1, hk D _ (h.2 D hD).2 (by simp [Obj.isCells])⟩⟩
theorem Mks.cons {n₀ D : Nat} {Ds : List Nat} {W : World} (h : Mks n₀ Ds W) (hn : n₀ ≤ D) (hD : W.heap[D]? = some (.deferred (some []))) (hne : ∀ E ∈ Ds, E < D) : Mks n₀ (D :: Ds) W :=
 ⟨List.nodup_cons.2 ⟨fun h => by have := hne D h; omega, h.1⟩, fun E hE => (List.mem_cons.1 hE).elim (fun e => by subst e; exact ⟨hn, hD⟩) (h.2 E)⟩
/-- Out of a function, by its marks. -/
theorem leaves_marks {F : Fence} {n : Nat} {P : Program} {fn : Func} {tmps : Array Value} {R : Ending → World → Prop} {n₀ : Nat} : ∀ (Ds : List Nat) (W : World), Mks n₀ Ds W →
 (∀ W' : World, Below n₀ W W' → (∀ (k : Nat) (o : Obj), W.heap[k]? = some o → o.isCells = true → W'.heap[k]? = some o) → ∃ v, (results fn tmps).run P W' = .ok v W' ∧ R (.returned v) W') → LeavesInM F n P fn tmps R (Ds.map mkD) .returning W
 | [], W, _, h => by
  obtain ⟨v, h1, h2⟩ := h W (Below.refl _ _) (fun _ _ h _ => h)
  exact ⟨v, h1, h2⟩
 | D :: Ds, W, hM, h => by
  obtain ⟨hn, hD⟩ := hM.2 D (by simp)
  have hnd := List.nodup_cons.1 hM.1
  have hother : ∀ k, k ≠ D → (W.putObj D (.deferred none)).heap[k]? = W.heap[k]? := fun k hk => by simp [World.putObj, Array.getElem?_setIfInBounds_ne (Ne.symm hk)]
  refine ⟨by simp, .inl ⟨D, _, rfl, run_takeDeferred hD, ?_⟩⟩
  refine leaves_marks (n₀ := n₀) Ds _ ⟨hnd.2, fun E hE => ⟨(hM.2 E (by simp [hE])).1, by rw [hother E (fun e => hnd.1 (e ▸ hE))]; exact (hM.2 E (by simp [hE])).2⟩⟩ fun W' hb hk => h W' ?_ fun k o ho hc => ?_
  · have hb0 : Below n₀ W (W.putObj D (.deferred none)) := ⟨rfl, rfl, rfl, by simp [World.putObj], fun k hk => hother k (by omega)⟩
    exact hb0.trans hb
  · refine hk k o ?_ hc
    rw [hother k (fun e => by subst e; rw [hD] at ho; cases ho; simp [Obj.isCells] at hc)]
    exact ho
/-- What holds at the head of the loop in named. -/
def NmI (w : World) (nm : ByteArray) (o1 o2 : Int) (rs : List Rl) (ra' : Option Addr) (RN rc' : Nat) (a : Act) (wr : World) : Prop :=
 ∃ (f : Nat → Value) (Ds : List Nat) (p : Nat), (p ≤ RN ∧ Mks w.heap.size Ds wr ∧ Bk wr w.heap.size 26 #[.string nm, .int .i64 o1, .int .i64 o2, .slice ra' RN rc'] ∧ Bk wr (w.heap.size + 1) 26 #[.string ⟨#[]⟩, .int .i64 0, .int .i64 0, .slice none 0 0] ∧ Below w.heap.size w wr ∧
  (rs = [] ∨ ∃ rb, ra' = some ⟨rb, 0, none⟩ ∧ w.heap.size + 1 < rb ∧ RowR wr (w.heap.size + 1) rb (nmS rs p))) ∧ a = { tmps := #[f 0, .pointer (some ⟨w.heap.size, 0, none⟩), .pointer (some ⟨w.heap.size + 1, 0, none⟩), f 3, f 4, f 5, f 6, f 7, f 8, f 9, f 10, f 11, .slice ra' RN rc', .int .i64 (RN : Int), .int .i64 (p : Int), f 15, f 16, f 17, f 18, f 19, f 20, f 21, f 22, f 23, f 24, f 25, f 26, f 27, f 28, f 29, f 30, f 31, f 32, f 33, f 34, f 35, f 36, f 37, f 38, f 39, f 40, f 41], defers := Ds.map mkD }
theorem nmI_mk {w : World} {nm : ByteArray} {o1 o2 : Int} {rs : List Rl} {ra' : Option Addr} {RN rc' : Nat} {t : Array Value} {ds : List Deferred} {wr : World} (Ds : List Nat) (p : Nat)
 (hB : p ≤ RN ∧ Mks w.heap.size Ds wr ∧ Bk wr w.heap.size 26 #[.string nm, .int .i64 o1, .int .i64 o2, .slice ra' RN rc'] ∧ Bk wr (w.heap.size + 1) 26 #[.string ⟨#[]⟩, .int .i64 0, .int .i64 0, .slice none 0 0] ∧ Below w.heap.size w wr ∧
  (rs = [] ∨ ∃ rb, ra' = some ⟨rb, 0, none⟩ ∧ w.heap.size + 1 < rb ∧ RowR wr (w.heap.size + 1) rb (nmS rs p))) (hd : ds = Ds.map mkD) (h : t = #[t.getD 0 undef, .pointer (some ⟨w.heap.size, 0, none⟩), .pointer (some ⟨w.heap.size + 1, 0, none⟩), t.getD 3 undef, t.getD 4 undef, t.getD 5 undef, t.getD 6 undef, t.getD 7 undef, t.getD 8 undef, t.getD 9 undef, t.getD 10 undef, t.getD 11 undef, .slice ra' RN rc', .int .i64 (RN : Int), .int .i64 (p : Int), t.getD 15 undef, t.getD 16 undef, t.getD 17 undef, t.getD 18 undef, t.getD 19 undef, t.getD 20 undef, t.getD 21 undef, t.getD 22 undef, t.getD 23 undef, t.getD 24 undef, t.getD 25 undef, t.getD 26 undef, t.getD 27 undef, t.getD 28 undef, t.getD 29 undef, t.getD 30 undef, t.getD 31 undef, t.getD 32 undef, t.getD 33 undef, t.getD 34 undef, t.getD 35 undef, t.getD 36 undef, t.getD 37 undef, t.getD 38 undef, t.getD 39 undef, t.getD 40 undef, t.getD 41 undef]) : NmI w nm o1 o2 rs ra' RN rc' { tmps := t, defers := ds } wr :=
 ⟨fun n => t.getD n undef, Ds, p, hB, by rw [← h, hd]⟩
mutual
theorem nam_small {w : World} : ∀ (t : Nd.T) {v : Value}, Nd.At w t v → ∀ m ∈ nam t, m.name.size ≤ 140737488351232
 | .mk k n x s b, _, ⟨sa, sc, ba, bc, hv, hk, h1, h2, h3, h4, h5, h6⟩ => fun m hm => by
  simp only [nam, List.mem_append] at hm
  rcases hm with hm | hm
  · split at hm
    · simp only [List.mem_singleton] at hm
      subst hm
      exact h1
    · cases hm
  · exact namL_small b h6 m hm
theorem namL_small {w : World} : ∀ (b : List Nd.T) {a : Option Addr}, Nd.AtL w b a → ∀ m ∈ namL b, m.name.size ≤ 140737488351232
 | [], _, _ => by simp [namL]
 | t :: r, _, ⟨b, o, v0, v1, v2, v3, v4, ha, h0, h1, h2, h3, h4, h5, h6⟩ => fun m hm => by
  simp only [namL, List.mem_append] at hm
  exact hm.elim (nam_small t h5 m) (namL_small r h6 m)
end
theorem cell_cells {w w' : World} (h : ∀ (k : Nat) (o : Obj), w.heap[k]? = some o → o.isCells = true → w'.heap[k]? = some o) {b o : Nat} {v : Value} (hc : w.cell? ⟨b, o, none⟩ = some v) : w'.cell? ⟨b, o, none⟩ = some v := by
 simp only [World.cell?] at hc ⊢
 cases hb : w.heap[b]? with
 | none => rw [hb] at hc; cases hc
 | some ob =>
  rw [hb] at hc
  cases ob <;> first | (rw [h b _ hb rfl]; exact hc) | cases hc
theorem rg_cells {w w' : World} (h : ∀ (b o : Nat) (v : Value), w.cell? ⟨b, o, none⟩ = some v → w'.cell? ⟨b, o, none⟩ = some v) : ∀ {st : List (Int × Int)} {a : Option Addr}, Nd.RgAt w st a → Nd.RgAt w' st a
 | [], _, _ => trivial
 | _ :: _, _, ⟨b, o, ha, h0, h1, hr⟩ => ⟨b, o, ha, h _ _ _ h0, h _ _ _ h1, rg_cells h hr⟩
mutual
theorem at_cells {w w' : World} (h : ∀ (b o : Nat) (v : Value), w.cell? ⟨b, o, none⟩ = some v → w'.cell? ⟨b, o, none⟩ = some v) : ∀ (t : Nd.T) {v : Value}, Nd.At w t v → Nd.At w' t v
 | .mk _ _ _ _ sb, _, ⟨sa, sc, ba, bc, hv, hk, h1, h2, h3, h4, h5, h6⟩ => ⟨sa, sc, ba, bc, hv, hk, h1, h2, h3, h4, rg_cells h h5, atL_cells h sb h6⟩
theorem atL_cells {w w' : World} (h : ∀ (b o : Nat) (v : Value), w.cell? ⟨b, o, none⟩ = some v → w'.cell? ⟨b, o, none⟩ = some v) : ∀ (r : List Nd.T) {a : Option Addr}, Nd.AtL w r a → Nd.AtL w' r a
 | [], _, _ => trivial
 | t :: r, _, ⟨b, o, v0, v1, v2, v3, v4, ha, h0, h1, h2, h3, h4, h5, h6⟩ => ⟨b, o, v0, v1, v2, v3, v4, ha, h _ _ _ h0, h _ _ _ h1, h _ _ _ h2, h _ _ _ h3, h _ _ _ h4, at_cells h t h5, atL_cells h r h6⟩
end
theorem ruL_cells {w w' : World} (h : ∀ (b o : Nat) (v : Value), w.cell? ⟨b, o, none⟩ = some v → w'.cell? ⟨b, o, none⟩ = some v) {rs : List Rl} {a : Option Addr} (hR : RuL w rs a) : RuL w' rs a := fun i r hi => by
 obtain ⟨b, o, ha, v0, v1, v2, v3, v4, a0, a1, a2, a3, a4, a5, a6, a7, a8, a9, hA, hs, hn⟩ := hR i r hi
 exact ⟨b, o, ha, v0, v1, v2, v3, v4, h _ _ _ a0, h _ _ _ a1, h _ _ _ a2, h _ _ _ a3, h _ _ _ a4, h _ _ _ a5, h _ _ _ a6, h _ _ _ a7, h _ _ _ a8, h _ _ _ a9, at_cells h _ hA, hs, hn⟩
theorem Ch.trans {AB : Nat} {X Y Z : World} (h : Ch AB X Y) (k : Ch AB Y Z) : Ch AB X Z := ⟨h.1.trans k.1, fun i o hi hne hs => k.2 i o (h.2 i o hi hne hs) hne hs⟩
theorem Ch.from {AB B : Nat} {Y : World} {β : Type} (hB : Y.heap.size ≤ B) (hAB : AB ≤ Y.heap.size) : OwnFrom B (fun (_ : β) W => Ch AB Y W) := fun s W W' row hs hg hr =>
 ⟨hs.1.grown hg (by have := (hs.1.size); omega) (fun k e => by have := (hr k e).1; omega), fun k o hk hne hc => by
  have h1 := hs.2 k o hk hne hc
  rw [hg.block k (Array.getElem?_eq_some_iff.1 h1).1 (fun e => by have := (hr k e.symm).1; have := (Array.getElem?_eq_some_iff.1 hk).1; omega)]
  exact h1⟩
end Ck
set_option maxHeartbeats 8000000 in
theorem ckNamed_any (nm : ByteArray) (o1 o2 : Int) (rs : List Rl) (v : Value) (w : World) (hG : GrV w nm o1 o2 rs v) (hpos : 0 < w.heap.size) (hsm : rs.length ≤ 1000 ∧ ∀ r ∈ rs, Nd.deep r.body ≤ 100000 ∧ Nd.count r.body ≤ 100000) :
 Calls Tryd.prog 60 #[v] w fun e w' => (∃ v', e = .returned v' ∧ GrV w' nm o1 o2 (nmR rs) v') ∧ Below w.heap.size w w' := by
 obtain ⟨ra0, rc0, rfl, hnm, hrc0, hR0⟩ := hG
 have hCl := fun (wx : World) (h : Below w.heap.size w wx) => Clone_any w rs ra0 rc0 wx hR0 h (Nat.lt_of_lt_of_le hpos h.size) ⟨hrc0.1, hsm.1⟩
 obtain ⟨RN, hRN⟩ : ∃ k, rs.length = k := ⟨_, rfl⟩
 rw [hRN] at hCl hrc0 ⊢
 have n1 : (RN : Int) ≤ 9223372036854775807 := by omega
 have HCl := Lib.hid hCl
 have HB1 := Lib.hid (((Below.refl _ w).alloc (Nat.le_refl _) (.cells #[.string nm, .int .i64 o1, .int .i64 o2, .slice ra0 RN rc0] 26)).alloc (by simp) (.cells #[.string ⟨#[]⟩, .int .i64 0, .int .i64 0, .slice none 0 0] 26))
 have HA := Lib.hid ((Bk.made w 26 #[.string nm, .int .i64 o1, .int .i64 o2, .slice ra0 RN rc0]).alloc (.cells #[.string ⟨#[]⟩, .int .i64 0, .int .i64 0, .slice none 0 0] 26))
 have HR1 := Lib.hid (show Bk ((w.alloc (.cells #[.string nm, .int .i64 o1, .int .i64 o2, .slice ra0 RN rc0] 26)).alloc (.cells #[.string ⟨#[]⟩, .int .i64 0, .int .i64 0, .slice none 0 0] 26)) (w.heap.size + 1) 26 _ from by
  have := Bk.made (w.alloc (.cells #[.string nm, .int .i64 o1, .int .i64 o2, .slice ra0 RN rc0] 26)) 26 #[.string ⟨#[]⟩, .int .i64 0, .int .i64 0, .slice none 0 0]
  rwa [World.size_alloc] at this)
 have HSM := Lib.hid hsm
 have HRN := Lib.hid hRN
 have HNM := Lib.hid hnm
 clear hCl hR0 hsm hRN hnm hpos
 refine (callsIn_wide (n := 4)).1 (callsIn_of_wp_marks Tryd.func60 rfl trivial ?_ rfl)
 simp only [Tryd.ntmps60, List.size_toArray, List.length_cons, List.length_nil, Nat.reduceAdd, Nat.reduceSub, Array.replicate_succ, Array.replicate_zero, List.push_toArray, List.append_toArray, List.nil_append, List.cons_append]
 refine wpIn_wide.2 ?_
 go_wp2_with fail
 refine (HCl.out _ HB1.out).mono ?_
 rintro e w2 ⟨⟨ra', rc', rfl, hRK, hrc'⟩, hb⟩
 have hA2 := HA.out.below hb HA.out.lt
 have hR2 := HR1.out.below hb HR1.out.lt
 have c3 := hA2.cell 3
 have f3 := hA2.free 3
 simp at c3
 have hA3 := hA2.set 3 (.slice ra' RN rc')
 have hR3 := hR2.other ⟨w.heap.size, 3, none⟩ (.slice ra' RN rc') (by simp)
 have hB3 := (HB1.out.trans (hb.mono HB1.out.size)).setCell (p := ⟨w.heap.size, 3, none⟩) (Nat.le_refl _) (.slice ra' RN rc')
 have hrow : rs = [] ∨ ∃ rb, ra' = some ⟨rb, 0, none⟩ ∧ w.heap.size + 1 < rb ∧ RowR (w2.setCell ⟨w.heap.size, 3, none⟩ (.slice ra' RN rc')) (w.heap.size + 1) rb (nmS rs 0) := by
  rcases hRK with ⟨h, _⟩ | ⟨rb, cs, rfl, h1, h2, h3⟩
  · exact .inl h
  · have n0 : rb ≠ w.heap.size := h2.ne hA2 (by decide)
    have n1 : rb ≠ w.heap.size + 1 := h2.ne hR2 (by decide)
    refine .inr ⟨rb, rfl, by omega, ?_⟩
    rw [nmS_zero]
    exact RowR.of hB3 (by omega) h1 (h2.other _ _ (by show rb ≠ w.heap.size; exact n0)) h3
 have hc3 := hA3.cell 3
 simp at hc3
 have HL := Lib.hid (And.intro hA3 (And.intro hR3 (And.intro hB3 hrow)))
 have HRC := Lib.hid (And.intro hrc' hrc0)
 clear hA2 hR2 hA3 hR3 hB3 hrow hRK hrc' hrc0 hb
 go_wp2_with fail
 refine wp_loop (fun a wr => NmI w nm o1 o2 rs ra' RN rc' a wr) (fun a _ => RN - (intOf (a.tmps.getD 14 undef)).toNat) ?start ?round
 case start =>
  obtain ⟨h1, h2, h3, h4⟩ := HL.out
  exact nmI_mk [] 0 ⟨Nat.zero_le _, Mks.nil _ _, by simpa using h1, h2, h3, h4⟩ rfl (by kernel_rfl)
 case round =>
  rintro a wr ⟨f, Ds, p, ⟨hp, hM, hA, hR, hB, hrow⟩, rfl⟩
  by_cases hlt : p < RN
  · have p0 : (p : Int) < (RN : Int) := by omega
    have d0 : decide (p < RN) = true := by rw [decide_eq_true_iff]; exact hlt
    obtain ⟨rb, rfl, hrb, hRR⟩ : ∃ rb, ra' = some ⟨rb, 0, none⟩ ∧ w.heap.size + 1 < rb ∧ RowR wr (w.heap.size + 1) rb (nmS rs p) := by
     rcases hrow with h | h
     · rw [h] at HRN; have := HRN.out; simp at this; omega
     · exact h
    obtain ⟨r, hr⟩ : ∃ r, rs[p]? = some r := ⟨_, List.getElem?_eq_getElem (by rw [HRN.out]; exact hlt)⟩
    obtain ⟨cs, hkb, hcs⟩ := id hRR
    obtain ⟨v0, v1, v2, v3, v4, a0, a1, a2, a3, a4, a5, a6, a7, a8, a9, hAt, hsr, hns⟩ := hcs p r (nmS_at hr)
    obtain ⟨sa1, sc1, ba1, bc1, e5⟩ := hAt.five
    injection e5 with e5
    simp only [Array.mk.injEq, List.cons.injEq, and_true] at e5
    obtain ⟨rfl, rfl, rfl, rfl, rfl⟩ := e5
    have b0 := (hkb.cell _).trans a0
    have b1 := (hkb.cell _).trans a1
    have b2 := (hkb.cell _).trans a2
    have b3 := (hkb.cell _).trans a3
    have b4 := (hkb.cell _).trans a4
    have b5 := (hkb.cell _).trans a5
    have b6 := (hkb.cell _).trans a6
    have b7 := (hkb.cell _).trans a7
    have b8 := (hkb.cell _).trans a8
    have b9 := (hkb.cell _).trans a9
    have cN := fun w1 => (callsIn_wide (n := 3)).1 (names_in 3 r.body.kind r.body.name r.body.text sa1 ba1 r.body.set.length sc1 r.body.subs.length bc1 w1)
    go_wp2_with (go_at_call 71; refine (cN _).mono ?_; clear cN; rintro e w' ⟨rfl, rfl⟩)
    clear a0 a1 a2 a3 a4 a5 a6 a7 a8 a9 b0 b1 b2 b3 b4 b5 b6 b7 b8 b9
    obtain ⟨W5, hW5⟩ : ∃ W5, wr.alloc (.cells #[.string r.name, .int .u8 r.sort, .int .u8 r.body.kind, .string r.body.name, .string r.body.text, .slice sa1 r.body.set.length sc1, .slice ba1 r.body.subs.length bc1, .int .i64 r.p0, .int .i64 r.p1, .int .i64 r.p2] 38) = W5 := ⟨_, rfl⟩
    obtain ⟨Y, hY⟩ : ∃ Y, (W5.alloc (.cells #[.int .u8 0, .string ⟨#[]⟩, .string ⟨#[]⟩, .slice none 0 0, .slice none 0 0] 34)).alloc (.cells #[.int .u8 r.body.kind, .string r.body.name, .string r.body.text, .slice sa1 r.body.set.length sc1, .slice ba1 r.body.subs.length bc1] 34) = Y := ⟨_, rfl⟩
    have h5s : W5.heap.size = wr.heap.size + 1 := by rw [← hW5, World.size_alloc]
    have hYs : Y.heap.size = wr.heap.size + 3 := by rw [← hY, World.size_alloc, World.size_alloc, h5s]
    have h5b : Below wr.heap.size wr W5 := by rw [← hW5]; exact (Below.refl _ _).alloc (Nat.le_refl _) _
    have hY5 : Below W5.heap.size W5 Y := by rw [← hY]; exact ((Below.refl _ _).alloc (Nat.le_refl _) _).alloc (by simp) _
    have kR5 : Bk W5 wr.heap.size 38 #[.string r.name, .int .u8 r.sort, .int .u8 r.body.kind, .string r.body.name, .string r.body.text, .slice sa1 r.body.set.length sc1, .slice ba1 r.body.subs.length bc1, .int .i64 r.p0, .int .i64 r.p1, .int .i64 r.p2] := by rw [← hW5]; exact Bk.made _ _ _
    have kAB : Bk Y (wr.heap.size + 1) 34 #[.int .u8 0, .string ⟨#[]⟩, .string ⟨#[]⟩, .slice none 0 0, .slice none 0 0] := by
     rw [← hY, ← h5s]
     exact (Bk.made W5 34 #[.int .u8 0, .string ⟨#[]⟩, .string ⟨#[]⟩, .slice none 0 0, .slice none 0 0]).alloc _
    have kNB : Bk Y (wr.heap.size + 1 + 1) 34 #[.int .u8 r.body.kind, .string r.body.name, .string r.body.text, .slice sa1 r.body.set.length sc1, .slice ba1 r.body.subs.length bc1] := by
     have := Bk.made (W5.alloc (.cells #[.int .u8 0, .string ⟨#[]⟩, .string ⟨#[]⟩, .slice none 0 0, .slice none 0 0] 34)) 34 #[.int .u8 r.body.kind, .string r.body.name, .string r.body.text, .slice sa1 r.body.set.length sc1, .slice ba1 r.body.subs.length bc1]
     rw [World.size_alloc, h5s, hY] at this
     exact this
    have hA5 : Nd.At W5 r.body (.agg #[.int .u8 r.body.kind, .string r.body.name, .string r.body.text, .slice sa1 r.body.set.length sc1, .slice ba1 r.body.subs.length bc1]) := (AtX.to _ hAt).below h5b
    obtain ⟨xs, hxs⟩ := items W5 100000 r.body _ hA5 (HSM.out.2 r (List.mem_of_getElem? hr)).1
    have hxl : xs.length ≤ 100000 := by rw [← lvls_len, lvls_all hxs, Nd.parts_len]; exact (HSM.out.2 r (List.mem_of_getElem? hr)).2
    rw [hW5, hY]
    refine (wpIn_wide (n := 4)).1 ?_
    refine range_all rfl (by omega) (gf := 84) (lb := #[.pointer (some ⟨wr.heap.size + 1 + 1, 0, none⟩)]) rfl trivial (enters_of Tryd.func84 (by kernel_rfl) rfl)
     (names_all W5 (4 - 1) (by omega) r.body _ xs Y (wr.heap.size + 1 + 1) hA5 hxs hY5 kNB) (fun h k => h.trans k) (fun W l o o' hl h hc => KpN.put W l o o' (by omega) h hc) (Below.refl _ _) (fun _ => rfl)
     (fun pre X => (∃ v, Gn Y.heap.size (wr.heap.size + 1) (pre.map (·.1.1.name)) v X) ∧ Ch (wr.heap.size + 1) Y X ∧ Y.heap.size ≤ X.heap.size)
     (OwnFrom.and Gn.from (OwnFrom.and (Ch.from (Nat.le_refl _) (by omega)) (fun s A B row hs hg hr => Nat.le_trans hs hg.size)))
     ⟨⟨_, kAB, fun _ => rfl, World.ownsRow_nil _ _ _ _⟩, Ch.refl _ _, Nat.le_refl _⟩
     (fun x a' X => ∃ Bx, Y.heap.size ≤ Bx ∧ Bk X Bx 34 x.1.2.cells ∧ a' = { tmps := #[f 0, .pointer (some ⟨w.heap.size, 0, none⟩), .pointer (some ⟨w.heap.size + 1, 0, none⟩), .int .i64 (p : Int), .pointer (some ⟨wr.heap.size, 0, none⟩), .pointer (some ⟨wr.heap.size + 1, 0, none⟩), .pointer (some ⟨Bx, 0, none⟩), f 7, f 8, f 9, f 10, f 11, .slice (some ⟨rb, 0, none⟩) RN rc', .int .i64 (RN : Int), .int .i64 (p : Int), .bool true, .int .i64 (p : Int), .pointer (some ⟨rb, p * 10, none⟩), .agg #[.string r.name, .int .u8 r.sort, .int .u8 r.body.kind, .string r.body.name, .string r.body.text, .slice sa1 r.body.set.length sc1, .slice ba1 r.body.subs.length bc1, .int .i64 r.p0, .int .i64 r.p1, .int .i64 r.p2], .agg #[.int .u8 0, .string ⟨#[]⟩, .string ⟨#[]⟩, .slice none 0 0, .slice none 0 0], .pointer (some ⟨wr.heap.size, 2, none⟩), .agg #[.int .u8 r.body.kind, .string r.body.name, .string r.body.text, .slice sa1 r.body.set.length sc1, .slice ba1 r.body.subs.length bc1], .func (.func 84) #[] #[.pointer (some ⟨wr.heap.size + 1 + 1, 0, none⟩)], x.1.2, f 24, f 25, f 26, f 27, f 28, f 29, f 30, f 31, f 32, f 33, f 34, f 35, f 36, f 37, f 38, f 39, f 40, f 41], defers := [] })
     (fun x a' s X Z row hs hg hr => by
      obtain ⟨Bx, h1, h2, h3⟩ := hs
      exact ⟨Bx, h1, h2.kept hg (fun r e => (hr r e).2), h3⟩) ?assign ?body ?done
    case assign =>
     rintro l' pre x X K ⟨⟨gv, iG⟩, iC, iS⟩ hK
     have hbm := Bk.made X 34 x.1.2.cells
     simp only [encN]
     obtain ⟨sa2, sc2, ba2, bc2, hxv, _⟩ := x.2.form
     rw [hxv] at hbm
     gi_wp2
     exact hK _ _ ((KeepsOthers.alloc _ _).from _) (KpN.alloc X (by omega) _) ⟨⟨gv, iG.below ((Below.refl _ _).alloc (Nat.le_refl _) _)⟩, iC.below (by omega) ((Below.refl _ _).alloc (Nat.le_refl _) _), by rw [World.size_alloc]; omega⟩ ⟨X.heap.size, iS, by rw [hxv]; exact hbm, by rw [hxv]⟩
    case body =>
     rintro l pre ⟨⟨tt, vv⟩, hx1⟩ a' X ⟨⟨gv, iG⟩, iC, iS⟩ ⟨Bx, hBx2, hbx, rfl⟩ hlt2
     dsimp only at hx1 hbx ⊢
     have hmap : (pre ++ [(⟨(tt, vv), hx1⟩ : ItN W5)]).map (·.1.1.name) = pre.map (·.1.1.name) ++ [tt.name] := by rw [List.map_append, List.map_singleton]
     have hpl : (pre.map (fun x : ItN W5 => x.1.1.name)).length ≤ 1000000 := by rw [List.length_map]; omega
     obtain ⟨sa2, sc2, ba2, bc2, rfl, _⟩ := hx1.form
     obtain ⟨n, hnn⟩ : ∃ n, (pre.map (fun x : ItN W5 => x.1.1.name)).length = n := ⟨_, rfl⟩
     have hbx1 := hbx.cell 1
     have hAB4 := iG.1.cell 4
     simp at hbx1 hAB4
     have hXd : Below X.heap.size X (X.drew.alloc (.cells #[.int .u8 0, .string ⟨#[]⟩, .string ⟨#[]⟩, .slice none 0 0, .slice none 0 0] 34)) := (Below.refl X.heap.size X).drew.alloc (Nat.le_refl _) _
     have hzc : ∀ j u, [Value.int .u8 0, .string ⟨#[]⟩, .string ⟨#[]⟩, .slice none 0 0, .slice none 0 0][j]? = some u → (X.drew.alloc (.cells #[.int .u8 0, .string ⟨#[]⟩, .string ⟨#[]⟩, .slice none 0 0, .slice none 0 0] 34)).cell? ((⟨X.heap.size, 0, none⟩ : Addr).add j) = some u := fun j u hj => by
      have := (Bk.made X.drew 34 #[.int .u8 0, .string ⟨#[]⟩, .string ⟨#[]⟩, .slice none 0 0, .slice none 0 0]).cell j
      rw [show ((⟨X.heap.size, 0, none⟩ : Addr).add j) = ⟨X.heap.size, j, none⟩ from by simp [Addr.add]; omega]
      refine (show _ = _ from this).trans ?_
      simpa using hj
     obtain ⟨g, cap, w11, hrun, how, hkA, hCh, hg1, hg2, hg3⟩ := gn_append (X := X) 32 iG (by omega) iS hpl hnn hXd X.heap.size hzc
     have hbx11 : Bk w11 Bx 34 _ := hCh.bk hbx (by omega) (fun _ => by rfl)
     have hgB : g ≠ Bx := by
      rintro rfl
      obtain ⟨cs, e, h5⟩ := hg3 _ hbx
      injection e with e
      subst e
      exact h5 (by rfl)
     have HGM := Lib.hid (fun W' h => gn_more (W' := W') tt.name hnn (show wr.heap.size + 1 < Y.heap.size by omega) how hkA hCh ⟨hg1, hg2, hg3⟩ h)
     have hfl := flatK_len (pre.map (fun x : ItN W5 => x.1.1.name))
     rw [hnn] at hfl
     have k0 := (how.cellAt (n * 5) (by omega)).trans (show _ = some (Value.int .u8 0) by rw [List.getElem?_append_right (by omega), hfl, Nat.sub_self]; rfl)
     have k1 := (how.cellAt (n * 5 + 1) (by omega)).trans (show _ = some (Value.string ⟨#[]⟩) by rw [List.getElem?_append_right (by omega), hfl, Nat.add_sub_cancel_left]; rfl)
     have k2 := (how.cellAt (n * 5 + 2) (by omega)).trans (show _ = some (Value.string ⟨#[]⟩) by rw [List.getElem?_append_right (by omega), hfl, Nat.add_sub_cancel_left]; rfl)
     have k3 := (how.cellAt (n * 5 + 3) (by omega)).trans (show _ = some (Value.slice none 0 0) by rw [List.getElem?_append_right (by omega), hfl, Nat.add_sub_cancel_left]; rfl)
     have k4 := (how.cellAt (n * 5 + 4) (by omega)).trans (show _ = some (Value.slice none 0 0) by rw [List.getElem?_append_right (by omega), hfl, Nat.add_sub_cancel_left]; rfl)
     have f0 := how.frozenAt (n * 5)
     have f1 := how.frozenAt (n * 5 + 1)
     have f2 := how.frozenAt (n * 5 + 2)
     have f3 := how.frozenAt (n * 5 + 3)
     have f4 := how.frozenAt (n * 5 + 4)
     have hA4 := hkA.cell 4
     have hF4 := hkA.free 4
     have hB11 := hbx11.cell 1
     simp at hA4 hB11
     have hneA : wr.heap.size + 1 ≠ g := by omega
     have hform : ∃ A c, gv = .slice A n c := by
      obtain ⟨A, c, e, _⟩ := slice_formP iG.2.2
      rw [hnn] at e
      exact ⟨A, c, e⟩
     obtain ⟨gA, gc, rfl⟩ := hform
     obtain ⟨m, hm⟩ : ∃ m, n + 1 = m := ⟨_, rfl⟩
     rw [hm] at hrun HGM
     have pn1 : (n : Int) < (m : Int) := by omega
     have HI := Lib.hid (And.intro iC (And.intro iS hmap))
     clear iC iS iG how hkA hCh hg3 hbx hbx11 hzc hXd hfl hpl hlt2 hAt hcs hkb
     gi_wp2
     refine wpIn_mono (Q := fun e a' w' => e = .normal ∧ ∃ u : Unit, (∃ v', Gn Y.heap.size (wr.heap.size + 1) (pre.map (fun x : ItN W5 => x.1.1.name) ++ [tt.name]) v' w') ∧ Ch (wr.heap.size + 1) X w') ?reg8 ?rest8
     case reg8 =>
      refine round_B (S := fun w' : World => (w'.cell? ⟨wr.heap.size + 1, 4, none⟩ = some (.slice gA n gc) ∧ w'.cell? ⟨Bx, 1, none⟩ = some (.string tt.name))) 11 (by kernel_rfl) (by kernel_rfl) (fun ⟨_, _, h⟩ => by cases h.1) ⟨hAB4, hbx1⟩ (fun hSS => ?_)
      show wpAnyB _ _ _ _ _ 11 12 #[false, false, false, false, false, false, false, false, false, false, false, false] _ _
      refine zqB 0 (some 24) _ (zqF 12 1) (by rw [List.getElem?_toArray]; rfl) rfl (by kernel_rfl) rfl (fun _ _ _ h => by cases h.1) (Or.inl ⟨by rfl, fun w' hSw => by (try dsimp only at hSw); go_simp; try with_reducible rfl⟩) hSS ?_
      simp only [zqN]
      refine zqB 1 (some 25) _ (zqF 12 2) (by rw [List.getElem?_toArray]; rfl) rfl (by kernel_rfl) rfl (fun _ _ _ h => by cases h.1) (Or.inl ⟨by rfl, fun w' hSw => by (try dsimp only at hSw); go_simp; try with_reducible rfl⟩) hSS ?_
      simp only [zqN]
      refine zqB 2 (some 26) _ (zqF 12 3) (by rw [List.getElem?_toArray]; rfl) rfl (by kernel_rfl) rfl (fun _ _ _ h => by cases h.1) (Or.inl ⟨by rfl, fun w' hSw => by (try dsimp only at hSw); go_simp; try with_reducible rfl⟩) hSS ?_
      simp only [zqN]
      refine zqB 3 (some 27) _ (zqF 12 4) (by rw [List.getElem?_toArray]; rfl) rfl (by kernel_rfl) rfl (fun _ _ _ h => by cases h.1) (Or.inl ⟨by rfl, fun w' hSw => by (try dsimp only at hSw); go_simp; try with_reducible rfl⟩) hSS ?_
      simp only [zqN]
      refine zqB 4 (some 28) _ (zqF 12 5) (by rw [List.getElem?_toArray]; rfl) rfl (by kernel_rfl) rfl (fun _ _ _ h => by cases h.1) (Or.inl ⟨by rfl, fun w' hSw => by (try dsimp only at hSw); go_simp; try with_reducible rfl⟩) hSS ?_
      simp only [zqN]
      refine zqB 5 (some 29) _ (zqF 12 6) (by rw [List.getElem?_toArray]; rfl) rfl (by kernel_rfl) rfl (fun _ _ _ h => by cases h.1) (Or.inl ⟨by rfl, fun w' hSw => by (try dsimp only at hSw); go_simp; try with_reducible rfl⟩) hSS ?_
      simp only [zqN]
      refine comeB (i := 6) (l' := #[true, true, true, true, true, true, true, false, false, false, false, false]) (by rw [List.getElem?_toArray]; rfl) (by kernel_rfl) rfl (fun K' hK => ?_)
      go_simp
      refine hK.out _ _ (Or.inr ⟨ckdL2 hAB4 _, ckdL2 hbx1 _⟩) (fun hOr => ?_)
      replace hSS := hOr.resolve_left (by decide)
      try simp only [zqN]
      refine comeB (i := 7) (l' := #[true, true, true, true, true, true, true, true, false, false, false, false]) (by rw [List.getElem?_toArray]; rfl) (by kernel_rfl) rfl (fun K' hK => ?_)
      refine step_append rfl _ _ 32 rfl _ _ rfl rfl _ _ hrun ?_
      refine hK.out _ _ (Or.inr ⟨hA4, hB11⟩) (fun hOr => ?_)
      replace hSS := hOr.resolve_left (by decide)
      try simp only [zqN]
      refine pureB (i := 8) (d := (some 32)) (v := _) (l' := #[true, true, true, true, true, true, true, true, true, false, false, false]) (by rw [List.getElem?_toArray]; rfl) rfl (by kernel_rfl) (by kernel_rfl) (by kernel_rfl) (by decide) rfl (fun _ _ _ h => by cases h.1) (Or.inl ⟨by rfl, fun w' _ => by go_simp; try with_reducible rfl⟩) (Or.inr hSS) ?_
      simp only [zqN]
      refine pureB (i := 10) (d := (some 33)) (v := _) (l' := #[true, true, true, true, true, true, true, true, true, false, true, false]) (by rw [List.getElem?_toArray]; rfl) rfl (by kernel_rfl) (by kernel_rfl) (by kernel_rfl) (by decide) rfl (fun _ _ _ h => by cases h.1) (Or.inl ⟨by rfl, fun w' _ => by go_simp; try with_reducible rfl⟩) (Or.inr hSS) ?_
      simp only [zqN]
      refine comeB2 (i := 9) (j := 11) (l1 := #[true, true, true, true, true, true, true, true, true, true, true, false]) (l2 := #[true, true, true, true, true, true, true, true, true, false, true, true]) (by rw [List.getElem?_toArray]; rfl) (by rw [List.getElem?_toArray]; rfl) (by kernel_rfl) rfl rfl (fun K' hK => ?_) (fun K' hK => ?_)
      · go_simp
        refine hK.out _ _ (Or.inr ⟨(ckneL (show g ≠ _ from Ne.symm hneA) (ckneL (show g ≠ _ from Ne.symm hneA) (ckneL (show g ≠ _ from Ne.symm hneA) (ckneL (show g ≠ _ from Ne.symm hneA) (ckneL (show g ≠ _ from Ne.symm hneA) hA4))))), (ckneL (show g ≠ _ from hgB) (ckneL (show g ≠ _ from hgB) (ckneL (show g ≠ _ from hgB) (ckneL (show g ≠ _ from hgB) (ckneL (show g ≠ _ from hgB) hB11)))))⟩) (fun hOr => ?_)
        replace hSS := hOr.resolve_left (by decide)
        try simp only [zqN]
        refine comeB (i := 11) (l' := #[true, true, true, true, true, true, true, true, true, true, true, true]) (by rw [List.getElem?_toArray]; rfl) (by kernel_rfl) rfl (fun K' hK => ?_)
        go_simp
        refine hK.out _ _ (Or.inl rfl) (fun _ => ?_)
        try simp only [zqN]
        refine wpAnyB_done (by kernel_rfl) ?_ _
        exact ⟨rfl, (), ⟨_, (HGM.out _ (Or.inl rfl)).1⟩, (HGM.out _ (Or.inl rfl)).2⟩
      · go_simp
        refine hK.out _ _ (Or.inl rfl) (fun _ => ?_)
        try simp only [zqN]
        refine comeB (i := 9) (l' := #[true, true, true, true, true, true, true, true, true, true, true, true]) (by rw [List.getElem?_toArray]; rfl) (by kernel_rfl) rfl (fun K' hK => ?_)
        go_simp
        refine hK.out _ _ (Or.inl rfl) (fun _ => ?_)
        try simp only [zqN]
        refine wpAnyB_done (by kernel_rfl) ?_ _
        exact ⟨rfl, (), ⟨_, (HGM.out _ (Or.inr rfl)).1⟩, (HGM.out _ (Or.inr rfl)).2⟩
     case rest8 =>
      rintro e a' X2 ⟨rfl, _, ⟨v', hG'⟩, hC'⟩
      obtain ⟨iC, iS, hmap⟩ := HI.out
      refine ⟨hC'.keeps (by omega), hC'.kp (by omega) (by omega), ⟨v', ?_⟩, iC.trans hC', Nat.le_trans iS hC'.1.size⟩
      rw [hmap]
      exact hG'
    case done =>
     rintro D Z hD ⟨⟨gv, iG⟩, iC, iS⟩ hDf
     have hnm : (fltN xs).map (fun x : ItN W5 => x.1.1.name) = (nam r.body).map (·.name) := by rw [← fltN_nam hxs, List.map_map]; rfl
     rw [hnm] at iG
     have hZ : Below wr.heap.size wr Z := h5b.trans ((hY5.trans (iC.1.mono (by omega))).mono h5b.size)
     have hRZ := hRR.below hZ
     obtain ⟨cz, hkz, hcz⟩ := id hRZ
     obtain ⟨w0, w1, w2', w3, w4, g0, g1, g2, g3, g4, g5, g6, g7, g8, g9, _⟩ := hcz p r (nmS_at hr)
     have m0 := (hkz.cell _).trans g2
     have m1 := (hkz.cell _).trans g3
     have m2 := (hkz.cell _).trans g4
     have m3 := (hkz.cell _).trans g5
     have m4 := (hkz.cell _).trans g6
     have f0 := hkz.free (p * 10 + 2)
     have f1 := hkz.free (p * 10 + 3)
     have f2 := hkz.free (p * 10 + 4)
     have f3 := hkz.free (p * 10 + 5)
     have f4 := hkz.free (p * 10 + 6)
     have hAZ := hA.below hZ hA.lt
     have hRsZ := hR.below hZ hR.lt
     have a3 := hAZ.cell 3
     have b0 := iG.1.cell 0
     have b1 := iG.1.cell 1
     have b2 := iG.1.cell 2
     have b3 := iG.1.cell 3
     have b4 := iG.1.cell 4
     simp at a3 b0 b1 b2 b3 b4
     have hsz := nam_small _ (AtX.to _ hAt)
     have hcn : ((nam r.body).map (·.name)).length ≤ 1000000 := by
      rw [List.length_map, ← fltN_nam hxs, List.length_map]
      exact Nat.le_trans (fltN_len xs) (by omega)
     have hrl : rb < wr.heap.size := hkb.lt
     have hat : AtX (fun k => k ≠ rb ∧ k ≠ w.heap.size + 1) Z (allT r.body) (.agg #[.int .u8 0, .string ⟨#[]⟩, .string ⟨#[]⟩, .slice none 0 0, gv]) := by
      have := gn_at (P := fun k => k ≠ rb ∧ k ≠ w.heap.size + 1) iG (fun k hk => by show k ≠ rb ∧ k ≠ w.heap.size + 1; omega) (fun n hn => by
       obtain ⟨m, hm, rfl⟩ := List.mem_map.1 hn
       exact hsz m hm) hcn
      unfold allT
      rw [List.map_map] at this
      exact this
     obtain ⟨gA, gn, gc, rfl⟩ : ∃ A n c, gv = .slice A n c := by
      obtain ⟨A, c, e, _⟩ := slice_formP iG.2.2
      exact ⟨A, _, c, e⟩
     have hput := hRZ.put (nmS_at hr) hat
     rw [nmS_put hr] at hput
     have HZ := Lib.hid (show p + 1 ≤ RN ∧ Mks w.heap.size (D :: Ds) (set5 Z rb (p * 10 + 2) (.int .u8 0) (.string ⟨#[]⟩) (.string ⟨#[]⟩) (.slice none 0 0) (.slice gA gn gc)) ∧ Bk (set5 Z rb (p * 10 + 2) (.int .u8 0) (.string ⟨#[]⟩) (.string ⟨#[]⟩) (.slice none 0 0) (.slice gA gn gc)) w.heap.size 26 #[.string nm, .int .i64 o1, .int .i64 o2, .slice (some ⟨rb, 0, none⟩) RN rc'] ∧ Bk (set5 Z rb (p * 10 + 2) (.int .u8 0) (.string ⟨#[]⟩) (.string ⟨#[]⟩) (.slice none 0 0) (.slice gA gn gc)) (w.heap.size + 1) 26 #[.string ⟨#[]⟩, .int .i64 0, .int .i64 0, .slice none 0 0] ∧ Below w.heap.size w (set5 Z rb (p * 10 + 2) (.int .u8 0) (.string ⟨#[]⟩) (.string ⟨#[]⟩) (.slice none 0 0) (.slice gA gn gc)) ∧
      (rs = [] ∨ ∃ rb', some (⟨rb, 0, none⟩ : Addr) = some ⟨rb', 0, none⟩ ∧ w.heap.size + 1 < rb' ∧ RowR (set5 Z rb (p * 10 + 2) (.int .u8 0) (.string ⟨#[]⟩) (.string ⟨#[]⟩) (.slice none 0 0) (.slice gA gn gc)) (w.heap.size + 1) rb' (nmS rs (p + 1))) from by
      have oth : ∀ {b : Nat} {t : TypeId} {c : Array Value}, Bk Z b t c → b ≠ rb → Bk (set5 Z rb (p * 10 + 2) (.int .u8 0) (.string ⟨#[]⟩) (.string ⟨#[]⟩) (.slice none 0 0) (.slice gA gn gc)) b t c := fun hb hn => ((((hb.other _ _ hn).other _ _ hn).other _ _ hn).other _ _ hn).other _ _ hn
      have hbw := hB.size
      have hwz := hZ.size
      refine ⟨by omega, ?_, oth hAZ (by omega), oth hRsZ (by omega), ((((((hB.trans (hZ.mono hbw)).setCell (by show w.heap.size ≤ rb; omega) _).setCell (by show w.heap.size ≤ rb; omega) _).setCell (by show w.heap.size ≤ rb; omega) _).setCell (by show w.heap.size ≤ rb; omega) _).setCell (by show w.heap.size ≤ rb; omega) _), .inr ⟨rb, rfl, hrb, hput⟩⟩
      have hMZ : Mks w.heap.size (D :: Ds) Z := (hM.keep fun k o hk _ => by rw [hZ.block k (Array.getElem?_eq_some_iff.1 hk).1]; exact hk).cons (by omega) hDf fun E hE => by
       have := (Array.getElem?_eq_some_iff.1 (hM.2 E hE).2).1
       omega
      refine hMZ.keep fun k o hk hc => ?_
      have hne : k ≠ rb := by
       rintro rfl
       rw [show Z.heap[k]? = _ from hkz] at hk
       cases hk
       simp [Obj.isCells] at hc
      unfold set5
      rw [Below.heap_setCell _ _ _ _ hne, Below.heap_setCell _ _ _ _ hne, Below.heap_setCell _ _ _ _ hne, Below.heap_setCell _ _ _ _ hne, Below.heap_setCell _ _ _ _ hne]
      exact hk)
     have hcs2 : ∀ (j : Nat), rb ≠ wr.heap.size + 1 := fun _ => by omega
     clear hput hat hcn hsz hRZ hkz hcz g0 g1 g2 g3 g4 g5 g6 g7 g8 g9 hAZ hRsZ iG iC hZ hDf hcs hkb hAt hxs hM hA hR hB hrow hRR
     go_wp2_with fail
     exact ⟨nmI_mk (D :: Ds) (p + 1) HZ.out rfl (by kernel_rfl), by simp [intOf]; omega⟩
  · have d0 : decide (p < RN) = false := by rw [decide_eq_false_iff_not]; exact hlt
    obtain rfl : p = RN := by omega
    have a0 := hA.cell 0
    have a1 := hA.cell 1
    have a2 := hA.cell 2
    have a3 := hA.cell 3
    have b0 := hR.cell 0
    have b1 := hR.cell 1
    have b2 := hR.cell 2
    have b3 := hR.cell 3
    have c0 := hR.free 0
    have c1 := hR.free 1
    have c2 := hR.free 2
    have c3 := hR.free 3
    simp at a0 a1 a2 a3 b0 b1 b2 b3
    have HR5 := Lib.hid ((((hR.set 0 (.string nm)).set 1 (.int .i64 o1)).set 2 (.int .i64 o2)).set 3 (.slice ra' p rc'))
    have HB5 := Lib.hid ((((hB.setCell (p := ⟨w.heap.size + 1, 0, none⟩) (by simp) (.string nm)).setCell (p := ⟨w.heap.size + 1, 1, none⟩) (by simp) (.int .i64 o1)).setCell (p := ⟨w.heap.size + 1, 2, none⟩) (by simp) (.int .i64 o2)).setCell (p := ⟨w.heap.size + 1, 3, none⟩) (by simp) (.slice ra' p rc'))
    have HM5 := Lib.hid (show Mks w.heap.size Ds ((((wr.setCell ⟨w.heap.size + 1, 0, none⟩ (.string nm)).setCell ⟨w.heap.size + 1, 1, none⟩ (.int .i64 o1)).setCell ⟨w.heap.size + 1, 2, none⟩ (.int .i64 o2)).setCell ⟨w.heap.size + 1, 3, none⟩ (.slice ra' p rc')) from
     hM.keep fun k o hk hc => by
      have hne : k ≠ w.heap.size + 1 := by
       rintro rfl
       rw [show wr.heap[w.heap.size + 1]? = _ from hR] at hk
       cases hk
       simp [Obj.isCells] at hc
      rw [Below.heap_setCell _ _ _ _ hne, Below.heap_setCell _ _ _ _ hne, Below.heap_setCell _ _ _ _ hne, Below.heap_setCell _ _ _ _ hne]
      exact hk)
    have HU := Lib.hid (show RuL ((((wr.setCell ⟨w.heap.size + 1, 0, none⟩ (.string nm)).setCell ⟨w.heap.size + 1, 1, none⟩ (.int .i64 o1)).setCell ⟨w.heap.size + 1, 2, none⟩ (.int .i64 o2)).setCell ⟨w.heap.size + 1, 3, none⟩ (.slice ra' p rc')) (nmR rs) ra' from by
     rcases hrow with rfl | ⟨rb, rfl, hrb, hRR⟩
     · exact RuL.nil _ _
     · obtain ⟨cs, hk, _⟩ := id hRR
       rw [← HRN.out, nmS_all] at hRR
       exact ((((hRR.oth (by omega) _ _).oth (by omega) _ _).oth (by omega) _ _).oth (by omega) _ _).ruL)
    clear hA hR hM hB hrow
    go_wp2_with fail
    refine leaves_marks (n₀ := w.heap.size) Ds _ HM5.out fun W' hb hk => ⟨.agg #[.string nm, .int .i64 o1, .int .i64 o2, .slice ra' p rc'], ?_, ?_⟩
    · have hz := hk _ _ HR5.out rfl
      have z0 := (show Bk W' _ _ _ from hz).cell 0
      have z1 := (show Bk W' _ _ _ from hz).cell 1
      have z2 := (show Bk W' _ _ _ from hz).cell 2
      have z3 := (show Bk W' _ _ _ from hz).cell 3
      clear a0 a1 a2 a3 b0 b1 b2 b3 c0 c1 c2 c3
      simp at z0 z1 z2 z3
      simp [results, Tryd.results60, go_sem, z0, z1, z2, z3]
    · have hln : (nmR rs).length = p := by rw [← HRN.out]; simp [nmR]
      exact ⟨⟨_, rfl, ra', rc', by rw [hln], HNM.out, by rw [hln]; exact ⟨HRC.out.1, by have := HRC.out.2; omega⟩, ruL_cells (fun b o v h => cell_cells hk h) HU.out⟩, HB5.out.trans hb⟩
end Go.Proofs.YtiinkhmgemoamaaDoor
