/- The walk of NodesWrapped: where it asks all. -/
import Derived.Test.YthfkodimafmmgaaDoorNd1
namespace Go.Proofs.YthfkodimafmmgaaDoor
open Go Go.RowKit
set_option maxRecDepth 100000
theorem ba_app (a b : List UInt8) : (⟨(a ++ b).toArray⟩ : ByteArray) = ⟨a.toArray⟩ ++ ⟨b.toArray⟩ := by apply ByteArray.ext; simp
theorem ba_size (l : List UInt8) : (⟨l.toArray⟩ : ByteArray).size = l.length := by simp [ByteArray.size]
theorem bel3 (W : World) (a b c : Obj) : Below W.heap.size W (((W.alloc a).alloc b).alloc c).drew := (((Below.refl _ W).alloc (Nat.le_refl _) a).alloc (by simp) b |>.alloc (by simp; omega) c).drew
theorem bk3_0 (W : World) (cs : Array Value) (t : TypeId) (b c : Obj) : Bk (((W.alloc (.cells cs t)).alloc b).alloc c).drew W.heap.size t cs := ((Bk.made W t cs).alloc b).alloc c
theorem bk3_1 (W : World) (cs : Array Value) (t : TypeId) (a c : Obj) : Bk (((W.alloc a).alloc (.cells cs t)).alloc c).drew (W.heap.size + 1) t cs := by
  have := (Bk.made (W.alloc a) t cs).alloc c
  rw [World.size_alloc] at this
  exact this
theorem bk3_2 (W : World) (cs : Array Value) (t : TypeId) (a b : Obj) : Bk (((W.alloc a).alloc b).alloc (.cells cs t)).drew (W.heap.size + 1 + 1) t cs := by
  have := Bk.made ((W.alloc a).alloc b) t cs
  rw [World.size_alloc, World.size_alloc] at this
  exact this
/-- A box that holds the node t, whose Subs are N that lie in g. -/
def BoxOk (W wx : World) (bn : Nat) (t : Nd.T) (k N : Int) (g : Nat) (m : Nat) : Prop := N = m ∧ Bk wx bn 26 #[.int .u8 k, .string ⟨#[]⟩, .string ⟨#[]⟩, .slice none 0 0, .slice (some ⟨g, 0, none⟩) m m] ∧ Nd.At wx t (.agg #[.int .u8 k, .string ⟨#[]⟩, .string ⟨#[]⟩, .slice none 0 0, .slice (some ⟨g, 0, none⟩) m m]) ∧ Below W.heap.size W wx
theorem boxA {W wx : World} {bn g : Nat} {n : Nd.T} {k : Int} {v0 v1 v2 v3 v4 : Value} (hk : 0 ≤ k ∧ k < 256) (h1 : Bk wx bn 26 #[.int .u8 k, .string ⟨#[]⟩, .string ⟨#[]⟩, .slice none 0 0, .slice (some ⟨g, 0, none⟩) 2 2])
    (h2 : Bk wx g 26 #[v0, v1, v2, v3, v4, .int .u8 6, .string ⟨#[65]⟩, .string ⟨#[]⟩, .slice none 0 0, .slice none 0 0])
    (hB : Below W.heap.size W wx) (hA : Nd.At W n (.agg #[v0, v1, v2, v3, v4])) : BoxOk W wx bn (withA k n) k 2 g 2 :=
  ⟨rfl, h1, two_at hk h2 (Nd.At.below hB _ hA) (tok_at ⟨#[65]⟩ _ (by decide)), hB⟩
theorem bel2 (W : World) (a b : Obj) : Below W.heap.size W ((W.alloc a).alloc b) := ((Below.refl _ W).alloc (Nat.le_refl _) a).alloc (by simp) b
theorem bk2_0 (W : World) (cs : Array Value) (t : TypeId) (b : Obj) : Bk ((W.alloc (.cells cs t)).alloc b) W.heap.size t cs := (Bk.made W t cs).alloc b
theorem bk2_1 (W : World) (cs : Array Value) (t : TypeId) (a : Obj) : Bk ((W.alloc a).alloc (.cells cs t)) (W.heap.size + 1) t cs := by
  have := Bk.made (W.alloc a) t cs
  rw [World.size_alloc] at this
  exact this
theorem boxO {W wx : World} {bn g : Nat} {n : Nd.T} {v0 v1 v2 v3 v4 : Value} (h1 : Bk wx bn 26 #[.int .u8 2, .string ⟨#[]⟩, .string ⟨#[]⟩, .slice none 0 0, .slice (some ⟨g, 0, none⟩) 1 1])
    (h2 : Bk wx g 26 #[v0, v1, v2, v3, v4])
    (hB : Below W.heap.size W wx) (hA : Nd.At W n (.agg #[v0, v1, v2, v3, v4])) : BoxOk W wx bn (optT n) 2 1 g 1 :=
  ⟨rfl, h1, one_at (by omega) h2 (Nd.At.below hB _ hA), hB⟩
set_option maxHeartbeats 8000000 in
theorem wrapped_good (n : Nd.T) (v : Value) (tok : Bool) (w : World) (hE : Env w) (hA : Nd.At w n v) (hn : Nd.wt 0 n ≤ 3000) (hP : Nd.plainB n tok = true) (hdn : Nd.deep n ≤ 60) (hcn : Nd.count n ≤ 2000) :
    Calls Tryd.prog 3 #[v, .bool tok] w fun e w' => e = .returned (.bool true) ∧ Below w.heap.size w w' := by
  obtain ⟨sa, sc, ba, bc, rfl, _⟩ := hA.form
  obtain ⟨W1, hW1⟩ : ∃ W1, w.alloc (.cells #[.int .u8 n.kind, .string n.name, .string n.text, .slice sa n.set.length sc, .slice ba n.subs.length bc] 26) = W1 := ⟨_, rfl⟩
  have h1 : Below w.heap.size w W1 := by rw [← hW1]; exact (Below.refl _ w).alloc (Nat.le_refl _) _
  have kb : Bk W1 w.heap.size 26 #[.int .u8 n.kind, .string n.name, .string n.text, .slice sa n.set.length sc, .slice ba n.subs.length bc] := by rw [← hW1]; exact Bk.made w _ _
  have hE1 : Env W1 := hE.below h1
  have hA1 := hA.below h1
  have hl := kb.lt
  have k0 := kb.cell 0
  have k1 := kb.cell 1
  have k2 := kb.cell 2
  have k3 := kb.cell 3
  have k4 := kb.cell 4
  simp at k0 k1 k2 k3 k4
  have H1 := Lib.hid h1
  have LV := Lib.hid (fun wr (h : Below W1.heap.size W1 wr) => (lives_true wr (hE1.below h)).mono (R' := fun e w' => e = .returned (.bool true) ∧ Below W1.heap.size W1 w') fun e w' k => ⟨k.1, h.trans (k.2.mono h.size)⟩)
  have hG : decide (3000 < Nd.wt 0 n) = false := decide_eq_false (by omega)
  obtain ⟨DN, hDN⟩ : ∃ D : Int, (Nd.deep n : Int) = D := ⟨_, rfl⟩
  obtain ⟨CN, hCN⟩ : ∃ D : Int, (Nd.count n : Int) = D := ⟨_, rfl⟩
  have hD : decide ((60 : Int) < DN) = false := decide_eq_false (by omega)
  have hC : decide ((2000 : Int) < CN) = false := decide_eq_false (by omega)
  have GA := Lib.hid (fun wr (h : Below W1.heap.size W1 wr) => (Great_any n (.agg #[.int .u8 n.kind, .string n.name, .string n.text, .slice sa n.set.length sc, .slice ba n.subs.length bc]) wr (hA1.below h)).mono (R' := fun e w' => e = .returned (.bool false) ∧ Below W1.heap.size W1 w') fun e w' k => ⟨by rw [k.1, hG], h.trans (k.2.mono h.size)⟩)
  have PL := Lib.hid (fun wr (h : Below W1.heap.size W1 wr) => (Plain_any n (.agg #[.int .u8 n.kind, .string n.name, .string n.text, .slice sa n.set.length sc, .slice ba n.subs.length bc]) tok wr (hE1.below h) (hA1.below h) (by omega) (by omega)).mono (R' := fun e w' => e = .returned (.bool true) ∧ Below W1.heap.size W1 w') fun e w' k => ⟨by rw [k.1, hP], h.trans (k.2.mono h.size)⟩)
  have DE := Lib.hid (fun wr (h : Below W1.heap.size W1 wr) => (Deep_any n (.agg #[.int .u8 n.kind, .string n.name, .string n.text, .slice sa n.set.length sc, .slice ba n.subs.length bc]) wr (hA1.below h) (by omega) (by omega)).mono (R' := fun e w' => e = .returned (.int .i64 DN) ∧ Below W1.heap.size W1 w') fun e w' k => ⟨by rw [k.1, hDN], h.trans (k.2.mono h.size)⟩)
  have CO := Lib.hid (fun wr (h : Below W1.heap.size W1 wr) => (Count_any n (.agg #[.int .u8 n.kind, .string n.name, .string n.text, .slice sa n.set.length sc, .slice ba n.subs.length bc]) wr (hA1.below h) (by omega) (by omega)).mono (R' := fun e w' => e = .returned (.int .i64 CN) ∧ Below W1.heap.size W1 w') fun e w' k => ⟨by rw [k.1, hCN], h.trans (k.2.mono h.size)⟩)
  have HY := Lib.hid (fun w' (b : Below W1.heap.size W1 w') => show w'.cell? ⟨w.heap.size, 0, none⟩ = some (.int .u8 n.kind) ∧ w'.cell? ⟨w.heap.size, 1, none⟩ = some (.string n.name) ∧ w'.cell? ⟨w.heap.size, 2, none⟩ = some (.string n.text) ∧ w'.cell? ⟨w.heap.size, 3, none⟩ = some (.slice sa n.set.length sc) ∧ w'.cell? ⟨w.heap.size, 4, none⟩ = some (.slice ba n.subs.length bc) from ⟨(b.cell (p := ⟨w.heap.size, 0, none⟩) hl).trans k0, (b.cell (p := ⟨w.heap.size, 1, none⟩) hl).trans k1, (b.cell (p := ⟨w.heap.size, 2, none⟩) hl).trans k2, (b.cell (p := ⟨w.heap.size, 3, none⟩) hl).trans k3, (b.cell (p := ⟨w.heap.size, 4, none⟩) hl).trans k4⟩)
  have HW := Lib.hid hW1
  have HM := Lib.hid (And.intro hE1 (And.intro hA1 (And.intro hn (And.intro hP (And.intro hdn (And.intro hcn (And.intro hDN hCN)))))))
  have HK := Lib.hid kb
  clear h1 kb hE1 hA hE hW1 hA1 hG hP hl hDN hCN hn hdn hcn LV
  go_enter Tryd.func3, Tryd.ntmps3
  go_wp2_with fail
  rw [HW.out]
  refine (GA.out _ (Below.refl _ _)).mono ?_
  rintro e w1 ⟨rfl, b1⟩
  clear k0 k1 k2 k3 k4
  obtain ⟨l0, l1, l2, l3, l4⟩ := HY.out _ b1
  go_wp2_with fail
  refine (PL.out _ b1).mono ?_
  rintro e w2 ⟨rfl, b2⟩
  clear l0 l1 l2 l3 l4
  obtain ⟨m0, m1, m2, m3, m4⟩ := HY.out _ b2
  go_wp2_with fail
  refine (DE.out _ b2).mono ?_
  rintro e w3 ⟨rfl, b3⟩
  clear m0 m1 m2 m3 m4
  obtain ⟨p0, p1, p2, p3, p4⟩ := HY.out _ b3
  go_wp2_with fail
  refine (CO.out _ b3).mono ?_
  rintro e w4 ⟨rfl, b4⟩
  clear p0 p1 p2 p3 p4
  obtain ⟨q0, q1, q2, q3, q4⟩ := HY.out _ b4
  have HA4 := Lib.hid (HM.out.2.1.below b4)
  have HB4 := Lib.hid b4
  have CT := Lib.hid (fun s wx => tok_any s wx)
  clear b1 b2 b3 b4 GA
  go_upto_region 3 with fail
  go_cut [5] (fun x wx => ∃ bn g, x = .pointer (some ⟨bn, 0, none⟩) ∧ BoxOk w4 wx bn (withA 0 n) 0 2 g 2)
  case first =>
    go_region_held3 (fun w' => w'.cell? ⟨w.heap.size, 0, none⟩ = some (.int .u8 n.kind) ∧ w'.cell? ⟨w.heap.size, 1, none⟩ = some (.string n.name) ∧ w'.cell? ⟨w.heap.size, 2, none⟩ = some (.string n.text) ∧ w'.cell? ⟨w.heap.size, 3, none⟩ = some (.slice sa n.set.length sc) ∧ w'.cell? ⟨w.heap.size, 4, none⟩ = some (.slice ba n.subs.length bc)) (first | (go_keep; done) | exact ⟨ckd (ck (ck (ck (q0)))), ckd (ck (ck (ck (q1)))), ckd (ck (ck (ck (q2)))), ckd (ck (ck (ck (q3)))), ckd (ck (ck (ck (q4))))⟩ | exact ⟨ck (ck (ck (q0))), ck (ck (ck (q1))), ck (ck (ck (q2))), ck (ck (ck (q3))), ck (ck (ck (q4)))⟩ | exact ⟨ckd (ck (ck (q0))), ckd (ck (ck (q1))), ckd (ck (ck (q2))), ckd (ck (ck (q3))), ckd (ck (ck (q4)))⟩ | exact ⟨ck (ck (q0)), ck (ck (q1)), ck (ck (q2)), ck (ck (q3)), ck (ck (q4))⟩ | exact ⟨ckd (ck (q0)), ckd (ck (q1)), ckd (ck (q2)), ckd (ck (q3)), ckd (ck (q4))⟩ | exact ⟨ck (q0), ck (q1), ck (q2), ck (q3), ck (q4)⟩ | exact ⟨ckd (q0), ckd (q1), ckd (q2), ckd (q3), ckd (q4)⟩ | exact ⟨q0, q1, q2, q3, q4⟩)
      (first | (go_at_call 9; refine (CT.out _ _).mono ?_; rintro e w3 ⟨rfl, rfl⟩))
    all_goals
      go_wp2_with fail
      go_meet
      exact ⟨_, _, rfl, boxA (by omega) (by first | exact bk3_0 _ _ _ _ _ | exact bk3_1 _ _ _ _ _ | exact bk3_2 _ _ _ _ _) (by first | exact bk3_0 _ _ _ _ _ | exact bk3_1 _ _ _ _ _ | exact bk3_2 _ _ _ _ _) (bel3 _ _ _ _) HA4.out⟩
  case rest =>
    obtain ⟨bA, gA, rfl, hboxA⟩ := hcut
    obtain ⟨wA, hwA⟩ : ∃ z, z = wc := ⟨_, rfl⟩
    subst hwA
    have hbA := HB4.out.trans (hboxA.2.2.2.mono HB4.out.size)
    obtain ⟨r0, r1, r2, r3, r4⟩ := HY.out _ hbA
    have HA5 := Lib.hid (HM.out.2.1.below hbA)
    have HB5 := Lib.hid hbA
    have HXA := Lib.hid hboxA
    clear q0 q1 q2 q3 q4 hbA hboxA HB4 HA4
    go_upto_region 4 with fail
    go_cut [6] (fun x wx => ∃ bn g, x = .pointer (some ⟨bn, 0, none⟩) ∧ BoxOk wA wx bn (withA 1 n) 1 2 g 2)
    case first =>
      go_region_held3 (fun w' => w'.cell? ⟨w.heap.size, 0, none⟩ = some (.int .u8 n.kind) ∧ w'.cell? ⟨w.heap.size, 1, none⟩ = some (.string n.name) ∧ w'.cell? ⟨w.heap.size, 2, none⟩ = some (.string n.text) ∧ w'.cell? ⟨w.heap.size, 3, none⟩ = some (.slice sa n.set.length sc) ∧ w'.cell? ⟨w.heap.size, 4, none⟩ = some (.slice ba n.subs.length bc)) (first | (go_keep; done) | exact ⟨ckd (ck (ck (ck (r0)))), ckd (ck (ck (ck (r1)))), ckd (ck (ck (ck (r2)))), ckd (ck (ck (ck (r3)))), ckd (ck (ck (ck (r4))))⟩ | exact ⟨ck (ck (ck (r0))), ck (ck (ck (r1))), ck (ck (ck (r2))), ck (ck (ck (r3))), ck (ck (ck (r4)))⟩ | exact ⟨ckd (ck (ck (r0))), ckd (ck (ck (r1))), ckd (ck (ck (r2))), ckd (ck (ck (r3))), ckd (ck (ck (r4)))⟩ | exact ⟨ck (ck (r0)), ck (ck (r1)), ck (ck (r2)), ck (ck (r3)), ck (ck (r4))⟩ | exact ⟨ckd (ck (r0)), ckd (ck (r1)), ckd (ck (r2)), ckd (ck (r3)), ckd (ck (r4))⟩ | exact ⟨ck (r0), ck (r1), ck (r2), ck (r3), ck (r4)⟩ | exact ⟨ckd (r0), ckd (r1), ckd (r2), ckd (r3), ckd (r4)⟩ | exact ⟨r0, r1, r2, r3, r4⟩)
        (first | (go_at_call 9; refine (CT.out _ _).mono ?_; rintro e w3 ⟨rfl, rfl⟩))
      all_goals
        go_wp2_with fail
        go_meet
        exact ⟨_, _, rfl, boxA (by omega) (by first | exact bk3_0 _ _ _ _ _ | exact bk3_1 _ _ _ _ _ | exact bk3_2 _ _ _ _ _) (by first | exact bk3_0 _ _ _ _ _ | exact bk3_1 _ _ _ _ _ | exact bk3_2 _ _ _ _ _) (bel3 _ _ _ _) HA5.out⟩
    case rest =>
      obtain ⟨bS, gS, rfl, hboxS⟩ := hcut
      obtain ⟨wB, hwB⟩ : ∃ z, z = wc := ⟨_, rfl⟩
      subst hwB
      have hbB := HB5.out.trans (hboxS.2.2.2.mono HB5.out.size)
      obtain ⟨s0, s1, s2, s3, s4⟩ := HY.out _ hbB
      have HA6 := Lib.hid (HM.out.2.1.below hbB)
      have HB6 := Lib.hid hbB
      have HXS := Lib.hid hboxS
      clear r0 r1 r2 r3 r4 hbB hboxS HA5
      go_upto_region 5 with fail
      go_cut [7] (fun x wx => ∃ bn g, x = .pointer (some ⟨bn, 0, none⟩) ∧ BoxOk wB wx bn (optT n) 2 1 g 1)
      case first =>
        go_wp2_with fail
        go_meet
        exact ⟨_, _, rfl, boxO (by first | exact bk2_0 _ _ _ _ | exact bk2_1 _ _ _ _) (by first | exact bk2_0 _ _ _ _ | exact bk2_1 _ _ _ _) (bel2 _ _ _) HA6.out⟩
      case rest =>
        obtain ⟨bO, gO, rfl, hboxO⟩ := hcut
        obtain ⟨wO, hwO⟩ : ∃ z, z = wc := ⟨_, rfl⟩
        subst hwO
        have hbO := HB6.out.trans (hboxO.2.2.2.mono HB6.out.size)
        have xA := HXA.out
        have xS := HXS.out
        have sO := hboxO
        have bAO : Below wA.heap.size wA wO := xS.2.2.2.trans (sO.2.2.2.mono xS.2.2.2.size)
        have kA := xA.2.1.below bAO xA.2.1.lt
        have aA := xA.2.2.1.below bAO
        have kS := xS.2.1.below sO.2.2.2 xS.2.1.lt
        have aS := xS.2.2.1.below sO.2.2.2
        have kO := sO.2.1
        have aO := sO.2.2.1
        have aN := HM.out.2.1.below hbO
        have eO := HM.out.1.below hbO
        have kN : Bk wO w.heap.size 26 #[.int .u8 n.kind, .string n.name, .string n.text, .slice sa n.set.length sc, .slice ba n.subs.length bc] := HK.out.below hbO HK.out.lt
        have hwt := HM.out.2.2.1
        have hpl := HM.out.2.2.2.1
        have hdn := HM.out.2.2.2.2.1
        have hcn := HM.out.2.2.2.2.2.1
        have hDN := HM.out.2.2.2.2.2.2.1
        have hCN := HM.out.2.2.2.2.2.2.2
        have hfu := Nd.wt_full n 0 hwt
        have cA := withA_count 0 n
        have cS := withA_count 1 n
        have cO := optT_count n
        have dA := withA_deep 0 n
        have dS := withA_deep 1 n
        have dO := optT_deep n
        have fA := withA_full 0 n
        have fS := withA_full 1 n
        have fO := optT_full n
        obtain ⟨T, hT⟩ : ∃ T : ByteArray, ⟨(Nd.txt n).toArray⟩ = T := ⟨_, rfl⟩
        obtain ⟨XA, hXA⟩ : ∃ T : ByteArray, ⟨(Nd.txt (withA 0 n)).toArray⟩ = T := ⟨_, rfl⟩
        obtain ⟨XS, hXS⟩ : ∃ T : ByteArray, ⟨(Nd.txt (withA 1 n)).toArray⟩ = T := ⟨_, rfl⟩
        obtain ⟨XO, hXO⟩ : ∃ T : ByteArray, ⟨(Nd.txt (optT n)).toArray⟩ = T := ⟨_, rfl⟩
        have TN := Lib.hid (fun wr (h : Below wO.heap.size wO wr) => (NText_any n (.agg #[.int .u8 n.kind, .string n.name, .string n.text, .slice sa n.set.length sc, .slice ba n.subs.length bc]) wr (eO.below h) (aN.below h) (by omega) (by omega) (by omega)).mono (R' := fun e w' => e = .returned (.string T) ∧ Below wO.heap.size wO w') fun e w' k => ⟨by rw [k.1, hT], h.trans (k.2.mono h.size)⟩)
        have TA := Lib.hid (fun wr (h : Below wO.heap.size wO wr) => (NText_any (withA 0 n) (.agg #[.int .u8 0, .string ⟨#[]⟩, .string ⟨#[]⟩, .slice none 0 0, .slice (some ⟨gA, 0, none⟩) 2 2]) wr (eO.below h) (aA.below h) (by omega) (by omega) (by omega)).mono (R' := fun e w' => e = .returned (.string XA) ∧ Below wO.heap.size wO w') fun e w' k => ⟨by rw [k.1, hXA], h.trans (k.2.mono h.size)⟩)
        have TS := Lib.hid (fun wr (h : Below wO.heap.size wO wr) => (NText_any (withA 1 n) (.agg #[.int .u8 1, .string ⟨#[]⟩, .string ⟨#[]⟩, .slice none 0 0, .slice (some ⟨gS, 0, none⟩) 2 2]) wr (eO.below h) (aS.below h) (by omega) (by omega) (by omega)).mono (R' := fun e w' => e = .returned (.string XS) ∧ Below wO.heap.size wO w') fun e w' k => ⟨by rw [k.1, hXS], h.trans (k.2.mono h.size)⟩)
        have TO := Lib.hid (fun wr (h : Below wO.heap.size wO wr) => (NText_any (optT n) (.agg #[.int .u8 2, .string ⟨#[]⟩, .string ⟨#[]⟩, .slice none 0 0, .slice (some ⟨gO, 0, none⟩) 1 1]) wr (eO.below h) (aO.below h) (by omega) (by omega) (by omega)).mono (R' := fun e w' => e = .returned (.string XO) ∧ Below wO.heap.size wO w') fun e w' k => ⟨by rw [k.1, hXO], h.trans (k.2.mono h.size)⟩)
        have PA := Lib.hid (fun wr (h : Below wO.heap.size wO wr) => (Plain_any (withA 0 n) (.agg #[.int .u8 0, .string ⟨#[]⟩, .string ⟨#[]⟩, .slice none 0 0, .slice (some ⟨gA, 0, none⟩) 2 2]) tok wr (eO.below h) (aA.below h) (by omega) (by omega)).mono (R' := fun e w' => e = .returned (.bool true) ∧ Below wO.heap.size wO w') fun e w' k => ⟨by rw [k.1, withA_plain (Or.inl rfl) hpl hdn hcn], h.trans (k.2.mono h.size)⟩)
        have PS := Lib.hid (fun wr (h : Below wO.heap.size wO wr) => (Plain_any (withA 1 n) (.agg #[.int .u8 1, .string ⟨#[]⟩, .string ⟨#[]⟩, .slice none 0 0, .slice (some ⟨gS, 0, none⟩) 2 2]) tok wr (eO.below h) (aS.below h) (by omega) (by omega)).mono (R' := fun e w' => e = .returned (.bool true) ∧ Below wO.heap.size wO w') fun e w' k => ⟨by rw [k.1, withA_plain (Or.inr rfl) hpl hdn hcn], h.trans (k.2.mono h.size)⟩)
        have PO := Lib.hid (fun wr (h : Below wO.heap.size wO wr) => (Plain_any (optT n) (.agg #[.int .u8 2, .string ⟨#[]⟩, .string ⟨#[]⟩, .slice none 0 0, .slice (some ⟨gO, 0, none⟩) 1 1]) tok wr (eO.below h) (aO.below h) (by omega) (by omega)).mono (R' := fun e w' => e = .returned (.bool true) ∧ Below wO.heap.size wO w') fun e w' k => ⟨by rw [k.1, optT_plain hpl hdn hcn], h.trans (k.2.mono h.size)⟩)
        have QA := Lib.hid (fun wr (h : Below wO.heap.size wO wr) => (Count_any (withA 0 n) (.agg #[.int .u8 0, .string ⟨#[]⟩, .string ⟨#[]⟩, .slice none 0 0, .slice (some ⟨gA, 0, none⟩) 2 2]) wr (aA.below h) (by omega) (by omega)).mono (R' := fun e w' => e = .returned (.int .i64 (CN + 2)) ∧ Below wO.heap.size wO w') fun e w' k => ⟨by rw [k.1]; rw [cA, ← hCN]; rfl, h.trans (k.2.mono h.size)⟩)
        have QN := Lib.hid (fun wr (h : Below wO.heap.size wO wr) => (Count_any n (.agg #[.int .u8 n.kind, .string n.name, .string n.text, .slice sa n.set.length sc, .slice ba n.subs.length bc]) wr (aN.below h) (by omega) (by omega)).mono (R' := fun e w' => e = .returned (.int .i64 (CN)) ∧ Below wO.heap.size wO w') fun e w' k => ⟨by rw [k.1]; rw [hCN], h.trans (k.2.mono h.size)⟩)
        have EA := Lib.hid (fun wr (h : Below wO.heap.size wO wr) => (Deep_any (withA 0 n) (.agg #[.int .u8 0, .string ⟨#[]⟩, .string ⟨#[]⟩, .slice none 0 0, .slice (some ⟨gA, 0, none⟩) 2 2]) wr (aA.below h) (by omega) (by omega)).mono (R' := fun e w' => e = .returned (.int .i64 (DN + 1)) ∧ Below wO.heap.size wO w') fun e w' k => ⟨by rw [k.1]; rw [dA, ← hDN]; rfl, h.trans (k.2.mono h.size)⟩)
        have EN := Lib.hid (fun wr (h : Below wO.heap.size wO wr) => (Deep_any n (.agg #[.int .u8 n.kind, .string n.name, .string n.text, .slice sa n.set.length sc, .slice ba n.subs.length bc]) wr (aN.below h) (by omega) (by omega)).mono (R' := fun e w' => e = .returned (.int .i64 (DN)) ∧ Below wO.heap.size wO w') fun e w' k => ⟨by rw [k.1]; rw [hDN], h.trans (k.2.mono h.size)⟩)
        have EO := Lib.hid (fun wr (h : Below wO.heap.size wO wr) => (Deep_any (optT n) (.agg #[.int .u8 2, .string ⟨#[]⟩, .string ⟨#[]⟩, .slice none 0 0, .slice (some ⟨gO, 0, none⟩) 1 1]) wr (aO.below h) (by omega) (by omega)).mono (R' := fun e w' => e = .returned (.int .i64 (DN + 1)) ∧ Below wO.heap.size wO w') fun e w' k => ⟨by rw [k.1]; rw [dO, ← hDN]; rfl, h.trans (k.2.mono h.size)⟩)
        have LV := Lib.hid (fun wr (h : Below wO.heap.size wO wr) => (lives_true wr (eO.below h)).mono (R' := fun e w' => e = .returned (.bool true) ∧ Below wO.heap.size wO w') fun e w' k => ⟨k.1, h.trans (k.2.mono h.size)⟩)
        have hTs : T.size ≤ 1000000 := by rw [← hT, ba_size]; have := Nd.txt_len n; omega
        have zA : XA = T ++ ⟨#[32, 124, 32, 65]⟩ ∨ XA = ⟨#[40]⟩ ++ T ++ ⟨#[41, 32, 124, 32, 65]⟩ := by
          rcases alts_txt n with h | h
          · left; rw [← hXA, ← hT, h, ba_app]
          · right; rw [← hXA, ← hT, h, ba_app, ba_app]
        have zS : XS = T ++ ⟨#[32, 65]⟩ ∨ XS = ⟨#[40]⟩ ++ T ++ ⟨#[41, 32, 65]⟩ := by
          rcases seq_txt n with h | h
          · left; rw [← hXS, ← hT, h, ba_app]
          · right; rw [← hXS, ← hT, h, ba_app, ba_app]
        have zO : XO = T ++ ⟨#[63]⟩ ∨ XO = ⟨#[40]⟩ ++ T ++ ⟨#[41, 63]⟩ := by
          rcases opt_txt n with h | h
          · left; rw [← hXO, ← hT, h, ba_app]
          · right; rw [← hXO, ← hT, h, ba_app, ba_app]
        have lN := kN.lt
        have lA := kA.lt
        have lS := kS.lt
        have lO := kO.lt
        have y0 := kN.cell 0
        have y1 := kN.cell 1
        have y2 := kN.cell 2
        have y3 := kN.cell 3
        have y4 := kN.cell 4
        have y5 := kA.cell 0
        have y6 := kA.cell 1
        have y7 := kA.cell 2
        have y8 := kA.cell 3
        have y9 := kA.cell 4
        have y10 := kS.cell 0
        have y11 := kS.cell 1
        have y12 := kS.cell 2
        have y13 := kS.cell 3
        have y14 := kS.cell 4
        have y15 := kO.cell 0
        have y16 := kO.cell 1
        have y17 := kO.cell 2
        have y18 := kO.cell 3
        have y19 := kO.cell 4
        simp at y0 y1 y2 y3 y4 y5 y6 y7 y8 y9 y10 y11 y12 y13 y14 y15 y16 y17 y18 y19
        have HZ := Lib.hid (fun w' (b : Below wO.heap.size wO w') => show w'.cell? ⟨w.heap.size, 0, none⟩ = some (.int .u8 n.kind) ∧ w'.cell? ⟨w.heap.size, 1, none⟩ = some (.string n.name) ∧ w'.cell? ⟨w.heap.size, 2, none⟩ = some (.string n.text) ∧ w'.cell? ⟨w.heap.size, 3, none⟩ = some (.slice sa n.set.length sc) ∧ w'.cell? ⟨w.heap.size, 4, none⟩ = some (.slice ba n.subs.length bc) ∧ w'.cell? ⟨bA, 0, none⟩ = some (.int .u8 0) ∧ w'.cell? ⟨bA, 1, none⟩ = some (.string ⟨#[]⟩) ∧ w'.cell? ⟨bA, 2, none⟩ = some (.string ⟨#[]⟩) ∧ w'.cell? ⟨bA, 3, none⟩ = some (.slice none 0 0) ∧ w'.cell? ⟨bA, 4, none⟩ = some (.slice (some ⟨gA, 0, none⟩) 2 2) ∧ w'.cell? ⟨bS, 0, none⟩ = some (.int .u8 1) ∧ w'.cell? ⟨bS, 1, none⟩ = some (.string ⟨#[]⟩) ∧ w'.cell? ⟨bS, 2, none⟩ = some (.string ⟨#[]⟩) ∧ w'.cell? ⟨bS, 3, none⟩ = some (.slice none 0 0) ∧ w'.cell? ⟨bS, 4, none⟩ = some (.slice (some ⟨gS, 0, none⟩) 2 2) ∧ w'.cell? ⟨bO, 0, none⟩ = some (.int .u8 2) ∧ w'.cell? ⟨bO, 1, none⟩ = some (.string ⟨#[]⟩) ∧ w'.cell? ⟨bO, 2, none⟩ = some (.string ⟨#[]⟩) ∧ w'.cell? ⟨bO, 3, none⟩ = some (.slice none 0 0) ∧ w'.cell? ⟨bO, 4, none⟩ = some (.slice (some ⟨gO, 0, none⟩) 1 1) from ⟨(b.cell (p := ⟨w.heap.size, 0, none⟩) lN).trans y0, (b.cell (p := ⟨w.heap.size, 1, none⟩) lN).trans y1, (b.cell (p := ⟨w.heap.size, 2, none⟩) lN).trans y2, (b.cell (p := ⟨w.heap.size, 3, none⟩) lN).trans y3, (b.cell (p := ⟨w.heap.size, 4, none⟩) lN).trans y4, (b.cell (p := ⟨bA, 0, none⟩) lA).trans y5, (b.cell (p := ⟨bA, 1, none⟩) lA).trans y6, (b.cell (p := ⟨bA, 2, none⟩) lA).trans y7, (b.cell (p := ⟨bA, 3, none⟩) lA).trans y8, (b.cell (p := ⟨bA, 4, none⟩) lA).trans y9, (b.cell (p := ⟨bS, 0, none⟩) lS).trans y10, (b.cell (p := ⟨bS, 1, none⟩) lS).trans y11, (b.cell (p := ⟨bS, 2, none⟩) lS).trans y12, (b.cell (p := ⟨bS, 3, none⟩) lS).trans y13, (b.cell (p := ⟨bS, 4, none⟩) lS).trans y14, (b.cell (p := ⟨bO, 0, none⟩) lO).trans y15, (b.cell (p := ⟨bO, 1, none⟩) lO).trans y16, (b.cell (p := ⟨bO, 2, none⟩) lO).trans y17, (b.cell (p := ⟨bO, 3, none⟩) lO).trans y18, (b.cell (p := ⟨bO, 4, none⟩) lO).trans y19⟩)
        have HD := Lib.hid (And.intro hDN (And.intro hCN (And.intro hdn hcn)))
        have HBO := Lib.hid hbO
        have D2 : DN ≤ 60 := by omega
        have D0 : 1 ≤ DN := by have := Nd.deep_pos n; omega
        have C2 : CN ≤ 2000 := by omega
        have C0 : 0 ≤ CN := by omega
        clear hwt hpl hdn hcn hDN hCN hfu cA cS cO dA dS dO fA fS fO hT hXA hXS hXO xA xS sO bAO kA aA kS aS kO aO aN eO kN lN lA lS lO hboxO hbO s0 s1 s2 s3 s4 HXA HXS HB6 HB5 HA6 CT HK HM HY PL DE CO
        go_wp2_with fail
        refine (TN.out _ (Below.refl _ _)).mono ?_
        rintro e wya ⟨rfl, g1⟩
        clear y0 y1 y2 y3 y4 y5 y6 y7 y8 y9 y10 y11 y12 y13 y14 y15 y16 y17 y18 y19
        obtain ⟨ya0, ya1, ya2, ya3, ya4, ya5, ya6, ya7, ya8, ya9, ya10, ya11, ya12, ya13, ya14, ya15, ya16, ya17, ya18, ya19⟩ := HZ.out _ g1
        go_wp2_with fail
        refine (TA.out _ g1).mono ?_
        rintro e wyb ⟨rfl, g2⟩
        clear ya0 ya1 ya2 ya3 ya4 ya5 ya6 ya7 ya8 ya9 ya10 ya11 ya12 ya13 ya14 ya15 ya16 ya17 ya18 ya19
        obtain ⟨yb0, yb1, yb2, yb3, yb4, yb5, yb6, yb7, yb8, yb9, yb10, yb11, yb12, yb13, yb14, yb15, yb16, yb17, yb18, yb19⟩ := HZ.out _ g2
        go_wp2_with fail
        refine (TS.out _ g2).mono ?_
        rintro e wyc ⟨rfl, g3⟩
        clear yb0 yb1 yb2 yb3 yb4 yb5 yb6 yb7 yb8 yb9 yb10 yb11 yb12 yb13 yb14 yb15 yb16 yb17 yb18 yb19
        obtain ⟨yc0, yc1, yc2, yc3, yc4, yc5, yc6, yc7, yc8, yc9, yc10, yc11, yc12, yc13, yc14, yc15, yc16, yc17, yc18, yc19⟩ := HZ.out _ g3
        go_wp2_with fail
        refine (TO.out _ g3).mono ?_
        rintro e wyd ⟨rfl, g4⟩
        clear yc0 yc1 yc2 yc3 yc4 yc5 yc6 yc7 yc8 yc9 yc10 yc11 yc12 yc13 yc14 yc15 yc16 yc17 yc18 yc19
        obtain ⟨yd0, yd1, yd2, yd3, yd4, yd5, yd6, yd7, yd8, yd9, yd10, yd11, yd12, yd13, yd14, yd15, yd16, yd17, yd18, yd19⟩ := HZ.out _ g4
        clear g1 g2 g3
        have a0 : ∀ wx, (Op.stringOp .add ⟨#[40]⟩ T).run Tryd.prog wx = .ok (.string (⟨#[40]⟩ ++ T)) wx := fun wx => run_string_add_sum wx _ _ (by rw [show (⟨#[40]⟩ : ByteArray).size = 1 from rfl]; omega)
        have a1A : ∀ wx, (Op.stringOp .add T ⟨#[32, 124, 32, 65]⟩).run Tryd.prog wx = .ok (.string (T ++ ⟨#[32, 124, 32, 65]⟩)) wx := fun wx => run_string_add_sum wx _ _ (by rw [show (⟨#[32, 124, 32, 65]⟩ : ByteArray).size = 4 from rfl]; omega)
        have a2A : ∀ wx, (Op.stringOp .add (⟨#[40]⟩ ++ T) ⟨#[41, 32, 124, 32, 65]⟩).run Tryd.prog wx = .ok (.string (⟨#[40]⟩ ++ T ++ ⟨#[41, 32, 124, 32, 65]⟩)) wx := fun wx => run_string_add_sum wx _ _ (by rw [ByteArray.size_append, show (⟨#[40]⟩ : ByteArray).size = 1 from rfl, show (⟨#[41, 32, 124, 32, 65]⟩ : ByteArray).size = 5 from rfl]; omega)
        have a1S : ∀ wx, (Op.stringOp .add T ⟨#[32, 65]⟩).run Tryd.prog wx = .ok (.string (T ++ ⟨#[32, 65]⟩)) wx := fun wx => run_string_add_sum wx _ _ (by rw [show (⟨#[32, 65]⟩ : ByteArray).size = 2 from rfl]; omega)
        have a2S : ∀ wx, (Op.stringOp .add (⟨#[40]⟩ ++ T) ⟨#[41, 32, 65]⟩).run Tryd.prog wx = .ok (.string (⟨#[40]⟩ ++ T ++ ⟨#[41, 32, 65]⟩)) wx := fun wx => run_string_add_sum wx _ _ (by rw [ByteArray.size_append, show (⟨#[40]⟩ : ByteArray).size = 1 from rfl, show (⟨#[41, 32, 65]⟩ : ByteArray).size = 3 from rfl]; omega)
        have a1O : ∀ wx, (Op.stringOp .add T ⟨#[63]⟩).run Tryd.prog wx = .ok (.string (T ++ ⟨#[63]⟩)) wx := fun wx => run_string_add_sum wx _ _ (by rw [show (⟨#[63]⟩ : ByteArray).size = 1 from rfl]; omega)
        have a2O : ∀ wx, (Op.stringOp .add (⟨#[40]⟩ ++ T) ⟨#[41, 63]⟩).run Tryd.prog wx = .ok (.string (⟨#[40]⟩ ++ T ++ ⟨#[41, 63]⟩)) wx := fun wx => run_string_add_sum wx _ _ (by rw [ByteArray.size_append, show (⟨#[40]⟩ : ByteArray).size = 1 from rfl, show (⟨#[41, 63]⟩ : ByteArray).size = 2 from rfl]; omega)
        obtain ⟨tA, eA⟩ : ∃ b, (XA.toList == (T ++ ⟨#[32, 124, 32, 65]⟩).toList) = b := ⟨_, rfl⟩
        have pA : (XA.toList = (T ++ ⟨#[32, 124, 32, 65]⟩).toList) = (tA = true) := by rw [← eA]; simp
        have fA : tA = false → (XA.toList == (⟨#[40]⟩ ++ T ++ ⟨#[41, 32, 124, 32, 65]⟩).toList) = true ∧ XA.toList = (⟨#[40]⟩ ++ T ++ ⟨#[41, 32, 124, 32, 65]⟩).toList ∧ ((⟨#[40]⟩ ++ T ++ ⟨#[41, 32, 124, 32, 65]⟩).toList == (T ++ ⟨#[32, 124, 32, 65]⟩).toList) = false ∧ ¬ (⟨#[40]⟩ ++ T ++ ⟨#[41, 32, 124, 32, 65]⟩).toList = (T ++ ⟨#[32, 124, 32, 65]⟩).toList := by
          rintro rfl
          rcases zA with h | h
          · rw [h] at eA; simp at eA
          · have e := eA; rw [h] at e; rw [h]; exact ⟨by simp, rfl, e, fun q => by rw [q] at e; simp at e⟩
        obtain ⟨tS, eS⟩ : ∃ b, (XS.toList == (T ++ ⟨#[32, 65]⟩).toList) = b := ⟨_, rfl⟩
        have pS : (XS.toList = (T ++ ⟨#[32, 65]⟩).toList) = (tS = true) := by rw [← eS]; simp
        have fS : tS = false → (XS.toList == (⟨#[40]⟩ ++ T ++ ⟨#[41, 32, 65]⟩).toList) = true ∧ XS.toList = (⟨#[40]⟩ ++ T ++ ⟨#[41, 32, 65]⟩).toList ∧ ((⟨#[40]⟩ ++ T ++ ⟨#[41, 32, 65]⟩).toList == (T ++ ⟨#[32, 65]⟩).toList) = false ∧ ¬ (⟨#[40]⟩ ++ T ++ ⟨#[41, 32, 65]⟩).toList = (T ++ ⟨#[32, 65]⟩).toList := by
          rintro rfl
          rcases zS with h | h
          · rw [h] at eS; simp at eS
          · have e := eS; rw [h] at e; rw [h]; exact ⟨by simp, rfl, e, fun q => by rw [q] at e; simp at e⟩
        obtain ⟨tO, eO⟩ : ∃ b, (XO.toList == (T ++ ⟨#[63]⟩).toList) = b := ⟨_, rfl⟩
        have pO : (XO.toList = (T ++ ⟨#[63]⟩).toList) = (tO = true) := by rw [← eO]; simp
        have fO : tO = false → (XO.toList == (⟨#[40]⟩ ++ T ++ ⟨#[41, 63]⟩).toList) = true ∧ XO.toList = (⟨#[40]⟩ ++ T ++ ⟨#[41, 63]⟩).toList ∧ ((⟨#[40]⟩ ++ T ++ ⟨#[41, 63]⟩).toList == (T ++ ⟨#[63]⟩).toList) = false ∧ ¬ (⟨#[40]⟩ ++ T ++ ⟨#[41, 63]⟩).toList = (T ++ ⟨#[63]⟩).toList := by
          rintro rfl
          rcases zO with h | h
          · rw [h] at eO; simp at eO
          · have e := eO; rw [h] at e; rw [h]; exact ⟨by simp, rfl, e, fun q => by rw [q] at e; simp at e⟩
        clear zA zS zO hTs
        go_upto_region 10 with fail
        go_cut [12] (fun x wx => x = .bool true ∧ wx = wyd)
        case first =>
          cases tA <;> cases tS <;> cases tO <;> simp only [false_implies, reduceCtorEq, forall_const, Bool.false_eq_true] at fA fS fO pA pS pO
          all_goals
            clear D0 D2 C0 C2
            go_wp2_with fail
            go_meet
            exact ⟨rfl, rfl⟩
        case rest =>
          obtain ⟨rfl, rfl⟩ := hcut
          have u1 : IntKind.i64.wrap (CN + 2) = CN + 2 := IntWalk.i64_in _ (by omega)
          have u2 : IntKind.i64.wrap (DN + 1) = DN + 1 := IntWalk.i64_in _ (by omega)
          have u3 : max 2 (DN + 1) = DN + 1 := by omega
          clear D0 D2 C0 C2 a0 a1A a2A a1S a2S a1O a2O eA eS eO fA fS fO pA pS pO hD hC
          go_upto_region 11 with fail
          go_region_held3 (fun w' => w'.cell? ⟨w.heap.size, 0, none⟩ = some (.int .u8 n.kind) ∧ w'.cell? ⟨w.heap.size, 1, none⟩ = some (.string n.name) ∧ w'.cell? ⟨w.heap.size, 2, none⟩ = some (.string n.text) ∧ w'.cell? ⟨w.heap.size, 3, none⟩ = some (.slice sa n.set.length sc) ∧ w'.cell? ⟨w.heap.size, 4, none⟩ = some (.slice ba n.subs.length bc) ∧ w'.cell? ⟨bA, 0, none⟩ = some (.int .u8 0) ∧ w'.cell? ⟨bA, 1, none⟩ = some (.string ⟨#[]⟩) ∧ w'.cell? ⟨bA, 2, none⟩ = some (.string ⟨#[]⟩) ∧ w'.cell? ⟨bA, 3, none⟩ = some (.slice none 0 0) ∧ w'.cell? ⟨bA, 4, none⟩ = some (.slice (some ⟨gA, 0, none⟩) 2 2) ∧ w'.cell? ⟨bS, 0, none⟩ = some (.int .u8 1) ∧ w'.cell? ⟨bS, 1, none⟩ = some (.string ⟨#[]⟩) ∧ w'.cell? ⟨bS, 2, none⟩ = some (.string ⟨#[]⟩) ∧ w'.cell? ⟨bS, 3, none⟩ = some (.slice none 0 0) ∧ w'.cell? ⟨bS, 4, none⟩ = some (.slice (some ⟨gS, 0, none⟩) 2 2) ∧ w'.cell? ⟨bO, 0, none⟩ = some (.int .u8 2) ∧ w'.cell? ⟨bO, 1, none⟩ = some (.string ⟨#[]⟩) ∧ w'.cell? ⟨bO, 2, none⟩ = some (.string ⟨#[]⟩) ∧ w'.cell? ⟨bO, 3, none⟩ = some (.slice none 0 0) ∧ w'.cell? ⟨bO, 4, none⟩ = some (.slice (some ⟨gO, 0, none⟩) 1 1)) (go_keep)
            (first | (go_at_call 5; have tk := g4; refine (PA.out _ (by first | exact g4 | exact g4.drew)).mono ?_; rintro e wz0_ ⟨rfl, h0_⟩; clear yd0 yd1 yd2 yd3 yd4 yd5 yd6 yd7 yd8 yd9 yd10 yd11 yd12 yd13 yd14 yd15 yd16 yd17 yd18 yd19 tk g4; obtain ⟨z0_0, z0_1, z0_2, z0_3, z0_4, z0_5, z0_6, z0_7, z0_8, z0_9, z0_10, z0_11, z0_12, z0_13, z0_14, z0_15, z0_16, z0_17, z0_18, z0_19⟩ := HZ.out _ h0_) | (go_at_call 5; have tk := h0_; refine (PS.out _ (by first | exact h0_ | exact h0_.drew)).mono ?_; rintro e wz1_ ⟨rfl, h1_⟩; clear z0_0 z0_1 z0_2 z0_3 z0_4 z0_5 z0_6 z0_7 z0_8 z0_9 z0_10 z0_11 z0_12 z0_13 z0_14 z0_15 z0_16 z0_17 z0_18 z0_19 tk h0_; obtain ⟨z1_0, z1_1, z1_2, z1_3, z1_4, z1_5, z1_6, z1_7, z1_8, z1_9, z1_10, z1_11, z1_12, z1_13, z1_14, z1_15, z1_16, z1_17, z1_18, z1_19⟩ := HZ.out _ h1_) | (go_at_call 5; have tk := h1_; refine (PO.out _ (by first | exact h1_ | exact h1_.drew)).mono ?_; rintro e wz2_ ⟨rfl, h2_⟩; clear z1_0 z1_1 z1_2 z1_3 z1_4 z1_5 z1_6 z1_7 z1_8 z1_9 z1_10 z1_11 z1_12 z1_13 z1_14 z1_15 z1_16 z1_17 z1_18 z1_19 tk h1_; obtain ⟨z2_0, z2_1, z2_2, z2_3, z2_4, z2_5, z2_6, z2_7, z2_8, z2_9, z2_10, z2_11, z2_12, z2_13, z2_14, z2_15, z2_16, z2_17, z2_18, z2_19⟩ := HZ.out _ h2_) | (go_at_call 7; have tk := h2_; refine (QA.out _ (by first | exact h2_ | exact h2_.drew)).mono ?_; rintro e wz3_ ⟨rfl, h3_⟩; clear z2_0 z2_1 z2_2 z2_3 z2_4 z2_5 z2_6 z2_7 z2_8 z2_9 z2_10 z2_11 z2_12 z2_13 z2_14 z2_15 z2_16 z2_17 z2_18 z2_19 tk h2_; obtain ⟨z3_0, z3_1, z3_2, z3_3, z3_4, z3_5, z3_6, z3_7, z3_8, z3_9, z3_10, z3_11, z3_12, z3_13, z3_14, z3_15, z3_16, z3_17, z3_18, z3_19⟩ := HZ.out _ h3_) | (go_at_call 7; have tk := h3_; refine (QN.out _ (by first | exact h3_ | exact h3_.drew)).mono ?_; rintro e wz4_ ⟨rfl, h4_⟩; clear z3_0 z3_1 z3_2 z3_3 z3_4 z3_5 z3_6 z3_7 z3_8 z3_9 z3_10 z3_11 z3_12 z3_13 z3_14 z3_15 z3_16 z3_17 z3_18 z3_19 tk h3_; obtain ⟨z4_0, z4_1, z4_2, z4_3, z4_4, z4_5, z4_6, z4_7, z4_8, z4_9, z4_10, z4_11, z4_12, z4_13, z4_14, z4_15, z4_16, z4_17, z4_18, z4_19⟩ := HZ.out _ h4_) | (go_at_call 6; have tk := h4_; refine (EA.out _ (by first | exact h4_ | exact h4_.drew)).mono ?_; rintro e wz5_ ⟨rfl, h5_⟩; clear z4_0 z4_1 z4_2 z4_3 z4_4 z4_5 z4_6 z4_7 z4_8 z4_9 z4_10 z4_11 z4_12 z4_13 z4_14 z4_15 z4_16 z4_17 z4_18 z4_19 tk h4_; obtain ⟨z5_0, z5_1, z5_2, z5_3, z5_4, z5_5, z5_6, z5_7, z5_8, z5_9, z5_10, z5_11, z5_12, z5_13, z5_14, z5_15, z5_16, z5_17, z5_18, z5_19⟩ := HZ.out _ h5_) | (go_at_call 6; have tk := h5_; refine (EN.out _ (by first | exact h5_ | exact h5_.drew)).mono ?_; rintro e wz6_ ⟨rfl, h6_⟩; clear z5_0 z5_1 z5_2 z5_3 z5_4 z5_5 z5_6 z5_7 z5_8 z5_9 z5_10 z5_11 z5_12 z5_13 z5_14 z5_15 z5_16 z5_17 z5_18 z5_19 tk h5_; obtain ⟨z6_0, z6_1, z6_2, z6_3, z6_4, z6_5, z6_6, z6_7, z6_8, z6_9, z6_10, z6_11, z6_12, z6_13, z6_14, z6_15, z6_16, z6_17, z6_18, z6_19⟩ := HZ.out _ h6_) | (go_at_call 6; have tk := h6_; refine (EO.out _ (by first | exact h6_ | exact h6_.drew)).mono ?_; rintro e wz7_ ⟨rfl, h7_⟩; clear z6_0 z6_1 z6_2 z6_3 z6_4 z6_5 z6_6 z6_7 z6_8 z6_9 z6_10 z6_11 z6_12 z6_13 z6_14 z6_15 z6_16 z6_17 z6_18 z6_19 tk h6_; obtain ⟨z7_0, z7_1, z7_2, z7_3, z7_4, z7_5, z7_6, z7_7, z7_8, z7_9, z7_10, z7_11, z7_12, z7_13, z7_14, z7_15, z7_16, z7_17, z7_18, z7_19⟩ := HZ.out _ h7_) | (go_at_call 6; have tk := h7_; refine (EN.out _ (by first | exact h7_ | exact h7_.drew)).mono ?_; rintro e wz8_ ⟨rfl, h8_⟩; clear z7_0 z7_1 z7_2 z7_3 z7_4 z7_5 z7_6 z7_7 z7_8 z7_9 z7_10 z7_11 z7_12 z7_13 z7_14 z7_15 z7_16 z7_17 z7_18 z7_19 tk h7_; obtain ⟨z8_0, z8_1, z8_2, z8_3, z8_4, z8_5, z8_6, z8_7, z8_8, z8_9, z8_10, z8_11, z8_12, z8_13, z8_14, z8_15, z8_16, z8_17, z8_18, z8_19⟩ := HZ.out _ h8_) | (go_at_call 8; have tk := h8_; refine (LV.out _ (by first | exact h8_ | exact h8_.drew)).mono ?_; rintro e wz9_ ⟨rfl, h9_⟩; clear z8_0 z8_1 z8_2 z8_3 z8_4 z8_5 z8_6 z8_7 z8_8 z8_9 z8_10 z8_11 z8_12 z8_13 z8_14 z8_15 z8_16 z8_17 z8_18 z8_19 tk h8_; obtain ⟨z9_0, z9_1, z9_2, z9_3, z9_4, z9_5, z9_6, z9_7, z9_8, z9_9, z9_10, z9_11, z9_12, z9_13, z9_14, z9_15, z9_16, z9_17, z9_18, z9_19⟩ := HZ.out _ h9_))
          all_goals
            go_wp2_with fail
            go_ret
            exact ⟨by simp, H1.out.trans ((HBO.out.trans (h9_.mono HBO.out.size)).mono H1.out.size)⟩
end Go.Proofs.YthfkodimafmmgaaDoor
