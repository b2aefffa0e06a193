/- The contracts of Empty and May. -/
import Derived.Test.YtiinkhmgemoamaaDoorPaz
import Derived.Deep.RegionHeld3
namespace Go.Proofs.YtiinkhmgemoamaaDoor
open Go Go.RowKit Nu
set_option maxRecDepth 100000

set_option maxHeartbeats 1000000 in
theorem Empty_any (nm : ByteArray) (o1 o2 : Int) (rs : List Nu.Rl) (v : Value) (w : World) (hG : GrV w nm o1 o2 rs v) (hsm : rs.length ≤ 1000 ∧ ∀ r ∈ rs, Nd.deep r.body ≤ 100000 ∧ Nd.count r.body ≤ 1000000) :
 Calls Tryd.prog 58 #[v] w fun e w' => (∃ eb, e = .returned (.slice (some ⟨eb, 0, none⟩) rs.length rs.length) ∧ Bk w' eb 4 (bools (emp rs)) ∧ w.heap.size ≤ eb) ∧ Below w.heap.size w w' := by
 have hKn := Lib.hid (fun ob => known_any nm o1 o2 rs v (w.alloc ob) (hG.below ((Below.refl _ w).alloc (Nat.le_refl _) ob)) hsm)
 obtain ⟨ra0, rc0, rfl, hnm, hrc0, hR0⟩ := hG
 go_enter Tryd.func58, Tryd.ntmps58
 go_wp2_with (go_at_call 67; refine (hKn.out _).mono ?_; rintro e w2 ⟨⟨W1, kb, mb, eb, ra, rc, rfl, hK, hW1⟩, hb2⟩; have k2 := hK.k.cell 2; simp at k2)
 go_ret
 exact ⟨⟨eb, rfl, hK.ev, by have := hK.lo; simp at hW1; omega⟩, ((Below.refl _ w).alloc (Nat.le_refl _) _).trans (hb2.mono (by simp))⟩
set_option maxHeartbeats 4000000 in
theorem May_any (nm : ByteArray) (o1 o2 : Int) (rs : List Nu.Rl) (v nv : Value) (i : Nat) (r : Nu.Rl) (t : Nd.T) (w : World) (hG : GrV w nm o1 o2 rs v) (hsm : rs.length ≤ 1000 ∧ ∀ r ∈ rs, Nd.deep r.body ≤ 100000 ∧ Nd.count r.body ≤ 1000000)
 (hr : rs[i]? = some r) (hA : Nd.At w t nv) (hd : Nd.deep t ≤ 100000 ∧ Nd.count t ≤ 1000000) :
 Calls Tryd.prog 74 #[v, .int .i64 i, nv] w fun e w' => e = .returned (.bool (thr rs r.sort (emp rs) t)) ∧ Below w.heap.size w w' := by
 have hKn := Lib.hid (fun (wx : World) (hb : Below w.heap.size w wx) => known_any nm o1 o2 rs v wx (hG.below hb) hsm)
 have hEn := Lib.hid (fun (wx : World) (hb : Below w.heap.size w wx) => Ends_any t nv wx (hA.below hb) hd.1 (by omega))
 have hMy := Lib.hid (fun (W1 wx : World) (kb mb eb : Nat) (ra : Option Addr) (rc : Nat) (hK : Kn W1 wx kb mb eb ra rc rs (emp rs)) (hb : Below w.heap.size w wx) => may_of W1 wx kb mb eb ra rc rs (emp rs) r.sort t nv hK (hA.below hb) hd.2)
 obtain ⟨ra0, rc0, rfl, hnm, hrc0, hR0⟩ := hG
 obtain ⟨g, o, rfl, v0, v1, v2, v3, v4, a0, a1, _⟩ := hR0 i r hr
 obtain ⟨sa, sc, ba, bc, rfl, _⟩ := hA.form
 have hi := (List.getElem?_eq_some_iff.1 hr).1
 generalize t.kind = k at *
 generalize t.name = tn at *
 generalize t.text = tx at *
 generalize t.set.length = SL at *
 generalize t.subs.length = SN at *
 generalize r.sort = rsort at *
 generalize thr rs rsort (emp rs) t = TT at *
 obtain ⟨RN, hRN⟩ : ∃ k, rs.length = k := ⟨_, rfl⟩
 rw [hRN] at hKn hrc0 hi hsm ⊢
 have p0 : (i : Int) < (RN : Int) := by omega
 have p1 : ¬ (i : Int) < 0 := by omega
 have d0 : decide ((i : Int) < 0) = false := decide_eq_false p1
 have d1 : decide ((RN : Int) ≤ (i : Int)) = false := decide_eq_false (by omega)
 have n1 : (RN : Int) ≤ 9223372036854775807 := by omega
 have hk : ∀ o1 o2, Below w.heap.size w ((w.alloc o1).alloc o2) := fun o1 o2 => ((Below.refl _ w).alloc (Nat.le_refl _) o1).alloc (by simp) o2
 have HB1 := Lib.hid (fun (wx : World) (hb : Below ((w.alloc (.cells #[.string nm, .int .i64 o1, .int .i64 o2, .slice (some ⟨g, o, none⟩) RN rc0] 26)).alloc (.cells #[.int .u8 k, .string tn, .string tx, .slice sa SL sc, .slice ba SN bc] 34)).heap.size ((w.alloc (.cells #[.string nm, .int .i64 o1, .int .i64 o2, .slice (some ⟨g, o, none⟩) RN rc0] 26)).alloc (.cells #[.int .u8 k, .string tn, .string tx, .slice sa SL sc, .slice ba SN bc] 34)) wx) =>
  show (Bk wx w.heap.size 26 #[.string nm, .int .i64 o1, .int .i64 o2, .slice (some ⟨g, o, none⟩) RN rc0] ∧ Bk wx (w.heap.size + 1) 34 #[.int .u8 k, .string tn, .string tx, .slice sa SL sc, .slice ba SN bc]) ∧ wx.cell? ⟨g, o + i * 10 + 1, none⟩ = some (.int .u8 rsort) from by
   have q1 := (Bk.made w 26 #[.string nm, .int .i64 o1, .int .i64 o2, .slice (some ⟨g, o, none⟩) RN rc0]).alloc (.cells #[.int .u8 k, .string tn, .string tx, .slice sa SL sc, .slice ba SN bc] 34)
   have q2 := Bk.made (w.alloc (.cells #[.string nm, .int .i64 o1, .int .i64 o2, .slice (some ⟨g, o, none⟩) RN rc0] 26)) 34 #[.int .u8 k, .string tn, .string tx, .slice sa SL sc, .slice ba SN bc]
   rw [World.size_alloc] at q2
   exact ⟨⟨q1.below hb q1.lt, q2.below hb q2.lt⟩, Nd.cell_keeps hb (Nd.cell_keeps (hk _ _) a1)⟩)
 clear hA hR0 hr a0 a1 hRN
 go_enter Tryd.func74, Tryd.ntmps74
 go_wp2_with (go_at_call 57; refine (hEn.out _ (hk _ _)).mono ?_; rintro e w1 ⟨rfl, hb1⟩; have hB1 := Lib.hid ((hk _ _).trans (hb1.mono (by simp; omega))); obtain ⟨⟨qg, qn⟩, qs⟩ := HB1.out w1 hb1; have g0 := qg.cell 0; have g1 := qg.cell 1; have g2 := qg.cell 2; have g3 := qg.cell 3; have m0 := qn.cell 0; have m1 := qn.cell 1; have m2 := qn.cell 2; have m3 := qn.cell 3; have m4 := qn.cell 4; simp at g0 g1 g2 g3 m0 m1 m2 m3 m4)
 go_region_held3 (fun w' => w'.cell? ⟨w.heap.size, 0, none⟩ = some (.string nm) ∧ w'.cell? ⟨w.heap.size, 1, none⟩ = some (.int .i64 o1) ∧ w'.cell? ⟨w.heap.size, 2, none⟩ = some (.int .i64 o2) ∧ w'.cell? ⟨w.heap.size, 3, none⟩ = some (.slice (some ⟨g, o, none⟩) RN rc0) ∧ w'.cell? ⟨w.heap.size + 1, 0, none⟩ = some (.int .u8 k) ∧ w'.cell? ⟨w.heap.size + 1, 1, none⟩ = some (.string tn) ∧ w'.cell? ⟨w.heap.size + 1, 2, none⟩ = some (.string tx) ∧ w'.cell? ⟨w.heap.size + 1, 3, none⟩ = some (.slice sa SL sc) ∧ w'.cell? ⟨w.heap.size + 1, 4, none⟩ = some (.slice ba SN bc) ∧ w'.cell? ⟨g, o + i * 10 + 1, none⟩ = some (.int .u8 rsort))
  (first | (go_keep; done) | exact ⟨Nd.cell_keeps hb2 g0, Nd.cell_keeps hb2 g1, Nd.cell_keeps hb2 g2, Nd.cell_keeps hb2 g3, Nd.cell_keeps hb2 m0, Nd.cell_keeps hb2 m1, Nd.cell_keeps hb2 m2, Nd.cell_keeps hb2 m3, Nd.cell_keeps hb2 m4, Nd.cell_keeps hb2 qs⟩ | exact ⟨Nd.cell_keeps hb3 (Nd.cell_keeps hb2 g0), Nd.cell_keeps hb3 (Nd.cell_keeps hb2 g1), Nd.cell_keeps hb3 (Nd.cell_keeps hb2 g2), Nd.cell_keeps hb3 (Nd.cell_keeps hb2 g3), Nd.cell_keeps hb3 (Nd.cell_keeps hb2 m0), Nd.cell_keeps hb3 (Nd.cell_keeps hb2 m1), Nd.cell_keeps hb3 (Nd.cell_keeps hb2 m2), Nd.cell_keeps hb3 (Nd.cell_keeps hb2 m3), Nd.cell_keeps hb3 (Nd.cell_keeps hb2 m4), Nd.cell_keeps hb3 (Nd.cell_keeps hb2 qs)⟩)
  (first
   | (go_at_call 67; refine (hKn.out _ hB1.out.drew).mono ?_; rintro e w2 ⟨⟨W1, kb, mb, eb, ra, rc, rfl, hK, hW1⟩, hb2⟩; have hB2 := Lib.hid (hB1.out.drew.trans (hb2.mono hB1.out.drew.size)))
   | (go_at_call 68; refine (hMy.out _ _ _ _ _ _ _ hK hB2.out).mono ?_; rintro e w3 ⟨rfl, hb3⟩))
 go_wp2_with fail
 go_ret
 exact ⟨rfl, hB2.out.trans (hb3.mono hB2.out.size)⟩
end Go.Proofs.YtiinkhmgemoamaaDoor
