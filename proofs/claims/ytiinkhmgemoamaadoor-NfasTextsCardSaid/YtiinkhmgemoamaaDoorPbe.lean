/- The contract of misnamed: what a rule names that is no rule, or may not stand there. -/
import Derived.Test.YtiinkhmgemoamaaDoorPbd
import Derived.Test.YtiinkhmgemoamaaDoorPz
namespace Go.Proofs.YtiinkhmgemoamaaDoor
open Go Go.RowKit Go.Shelf Ck Nu
attribute [local go_sem] Oper.semAt_some
set_option maxRecDepth 100000

set_option maxHeartbeats 4000000 in
theorem misnamed_any (w0 : World) (cp : Nat) (cv : CkV) (rs : List Rl) (L : List Pr) (i : Nat) (r : Rl) (W : World) (hS : CkS w0 cv rs) (hr : rs[i]? = some r) (hsm : rs.length ≤ 1000 ∧ ∀ r ∈ rs, Nd.deep r.body ≤ 100000 ∧ Nd.count r.body ≤ 100000)
 (hB : Below w0.heap.size w0 W) (hI : CkI w0.heap.size cp cv L W) (hL : L.length ≤ 500000) :
 Calls Tryd.prog 61 #[.pointer (some ⟨cp, 0, none⟩), .int .i64 i] W fun e W' => (∃ v, e = .returned v) ∧ CkI w0.heap.size cp cv (L ++ noneP rs i (nam r.body) ++ sortP rs r.sort i (nam r.body)) W' ∧ Tl w0.heap.size W W' := by
 obtain ⟨ra, rc, hgv, hnm, hrc, hR⟩ := id hS.gr
 obtain ⟨b, o, rfl, v0, v1, v2, v3, v4, a0, a1, a2, a3, a4, a5, a6, a7, a8, a9, hA, hsr, hns⟩ := hR i r hr
 obtain ⟨xs, hxs⟩ := items w0 100000 r.body _ hA (hsm.2 r (List.mem_of_getElem? hr)).1
 have e1 : cv.ra = some ⟨b, o, none⟩ ∧ cv.rn = rs.length ∧ cv.rc = rc := by simpa using hgv
 obtain ⟨_, pv, hK, _⟩ := id hI
 rw [e1.1, e1.2.1, e1.2.2] at hK
 have hi : i < rs.length := (List.getElem?_eq_some_iff.1 hr).1
 obtain ⟨sa1, sc1, ba1, bc1, rfl, rfl, rfl, rfl, rfl⟩ := hA.five
 obtain ⟨RN, hRN⟩ : ∃ k, rs.length = k := ⟨_, rfl⟩
 rw [hRN] at hK hi hrc
 have n1 : (RN : Int) ≤ 9223372036854775807 := by omega
 have p0 : (i : Int) < (RN : Int) := by omega
 have hBx : ∀ X : World, Below W.heap.size W X → Below w0.heap.size w0 X := fun X h => hB.trans (h.mono hB.size)
 have hx : ∀ X : World, Below W.heap.size W X → (X.cell? ⟨cp, 0, none⟩ = some (.string cv.nm) ∧ X.cell? ⟨cp, 1, none⟩ = some (.int .i64 cv.o1) ∧ X.cell? ⟨cp, 2, none⟩ = some (.int .i64 cv.o2) ∧ X.cell? ⟨cp, 3, none⟩ = some (.slice (some ⟨b, o, none⟩) RN rc)) ∧
  (X.cell? ⟨b, o + i * 10, none⟩ = some (.string r.name) ∧ X.cell? ⟨b, o + i * 10 + 1, none⟩ = some (.int .u8 r.sort) ∧ X.cell? ⟨b, o + i * 10 + 2, none⟩ = some (.int .u8 r.body.kind) ∧ X.cell? ⟨b, o + i * 10 + 3, none⟩ = some (.string r.body.name) ∧ X.cell? ⟨b, o + i * 10 + 4, none⟩ = some (.string r.body.text) ∧
  X.cell? ⟨b, o + i * 10 + 5, none⟩ = some (.slice sa1 r.body.set.length sc1) ∧ X.cell? ⟨b, o + i * 10 + 6, none⟩ = some (.slice ba1 r.body.subs.length bc1) ∧ X.cell? ⟨b, o + i * 10 + 7, none⟩ = some (.int .i64 r.p0) ∧ X.cell? ⟨b, o + i * 10 + 8, none⟩ = some (.int .i64 r.p1) ∧ X.cell? ⟨b, o + i * 10 + 9, none⟩ = some (.int .i64 r.p2)) := fun X h => by
  have k := hK.below h hK.lt
  have hb := hBx X h
  have k0 := k.cell 0
  have k1 := k.cell 1
  have k2 := k.cell 2
  have k3 := k.cell 3
  simp at k0 k1 k2 k3
  exact ⟨⟨k0, k1, k2, k3⟩, Nd.cell_keeps hb a0, Nd.cell_keeps hb a1, Nd.cell_keeps hb a2, Nd.cell_keeps hb a3, Nd.cell_keeps hb a4, Nd.cell_keeps hb a5, Nd.cell_keeps hb a6, Nd.cell_keeps hb a7, Nd.cell_keeps hb a8, Nd.cell_keeps hb a9⟩
 have hc0 : ((W.alloc (.cells #[.pointer (some ⟨cp, 0, none⟩)] 99)).alloc (.cells #[.int .i64 (i : Int)] 3)).cell? ⟨W.heap.size, 0, none⟩ = some (.pointer (some ⟨cp, 0, none⟩)) ∧ ((W.alloc (.cells #[.pointer (some ⟨cp, 0, none⟩)] 99)).alloc (.cells #[.int .i64 (i : Int)] 3)).cell? ⟨W.heap.size + 1, 0, none⟩ = some (.int .i64 (i : Int)) := by
  have k1 := (Bk.made W 99 #[.pointer (some ⟨cp, 0, none⟩)]).alloc (.cells #[.int .i64 (i : Int)] 3)
  have k2 := Bk.made (W.alloc (.cells #[.pointer (some ⟨cp, 0, none⟩)] 99)) 3 #[.int .i64 (i : Int)]
  rw [World.size_alloc] at k2
  exact ⟨k1.cell 0, k2.cell 0⟩
 obtain ⟨⟨k0, k1, k2, k3⟩, m0, m1, m2, m3, m4, m5, m6, m7, m8, m9⟩ := hx ((W.alloc (.cells #[.pointer (some ⟨cp, 0, none⟩)] 99)).alloc (.cells #[.int .i64 (i : Int)] 3)) (((Below.refl _ W).alloc (Nat.le_refl _) _).alloc (by simp) _)
 obtain ⟨c0, c1⟩ := hc0
 have HI := Lib.hid hI
 have HXS := Lib.hid (show List.map (fun x => x.1) xs = _ from hxs)
 have HAT := Lib.hid hA
 have HE1 := Lib.hid e1
 have HRK := Lib.hid (fun k (hk : k < RN) => show w0.cell? ⟨b, o + k * 10 + 1, none⟩ = some (.int .u8 (sortAt rs k)) from by
  obtain ⟨q, hq⟩ : ∃ q, rs[k]? = some q := ⟨_, List.getElem?_eq_getElem (by omega)⟩
  obtain ⟨b', o', hbo, _, _, _, _, _, _, h1, _⟩ := hR k q hq
  injection hbo with hbo
  injection hbo with hb1 ho1
  subst hb1 ho1
  rw [h1]
  unfold sortAt
  rw [hq])
 have HXL := Lib.hid (show xs.length ≤ 100000 from by rw [← lvls_len, lvls_all hxs, Nd.parts_len]; exact (hsm.2 r (List.mem_of_getElem? hr)).2)
 clear hI hK hxs hA hR hr hx hgv e1
 generalize r.name = rn at *
 generalize r.sort = rs_ at *
 generalize r.p0 = rp0 at *
 generalize r.p1 = rp1 at *
 generalize r.p2 = rp2 at *
 generalize r.body.kind = sk at *
 generalize r.body.name = sn at *
 generalize r.body.text = sx at *
 generalize r.body.set.length = sl at *
 generalize r.body.subs.length = sm at *
 refine (callsIn_wide (n := 4)).1 (callsIn_of_wp_marks Tryd.func61 rfl trivial ?_ rfl)
 simp only [Tryd.ntmps61, List.size_toArray, List.length_cons, List.length_nil, Nat.reduceAdd, Nat.reduceSub, Array.replicate_succ, Array.replicate_zero, List.push_toArray, List.append_toArray, List.nil_append, List.cons_append]
 refine wpIn_wide.2 ?_
 go_wp2_with fail
 refine Code.wp_mono (Q := OnN fun a' w' => w' = (((W.alloc (.cells #[.pointer (some ⟨cp, 0, none⟩)] 99)).alloc (.cells #[.int .i64 (i : Int)] 3)).alloc (.cells #[.string rn, .int .u8 rs_, .int .u8 sk, .string sn, .string sx, .slice sa1 sl sc1, .slice ba1 sm bc1, .int .i64 rp0, .int .i64 rp1, .int .i64 rp2] 38)).drew ∧ a' = { tmps := #[.pointer (some ⟨cp, 0, none⟩), .int .i64 (i : Int), .pointer (some ⟨W.heap.size, 0, none⟩), .pointer (some ⟨W.heap.size + 1, 0, none⟩), .pointer (some ⟨W.heap.size + 1 + 1, 0, none⟩), undef, undef, undef, .pointer (some ⟨cp, 0, none⟩), .pointer (some ⟨cp, 0, none⟩), .pointer (some ⟨cp, 0, none⟩), .pointer (some ⟨cp, 3, none⟩), .slice (some ⟨b, o, none⟩) RN rc, .int .i64 (i : Int), .pointer (some ⟨b, o + i * 10, none⟩), .agg #[.string rn, .int .u8 rs_, .int .u8 sk, .string sn, .string sx, .slice sa1 sl sc1, .slice ba1 sm bc1, .int .i64 rp0, .int .i64 rp1, .int .i64 rp2], undef, undef, undef, undef, undef, undef, undef, undef, undef, undef, undef, undef, undef, undef, undef, undef, undef, undef, undef, undef, undef, undef, undef, undef, undef, undef, undef, undef, undef, undef, undef, undef, undef, undef, undef, undef, undef, undef, undef, undef, undef, undef, undef, undef, undef, undef, undef, undef, undef, undef, undef, undef], defers := [] }) ?mono ?reg
 case reg =>
  go_region_held3 (fun w' => w'.cell? ⟨W.heap.size, 0, none⟩ = some (.pointer (some ⟨cp, 0, none⟩)) ∧ w'.cell? ⟨W.heap.size + 1, 0, none⟩ = some (.int .i64 (i : Int)) ∧ w'.cell? ⟨cp, 3, none⟩ = some (.slice (some ⟨b, o, none⟩) RN rc) ∧ w'.cell? ⟨b, o + i * 10, none⟩ = some (.string rn) ∧ w'.cell? ⟨b, o + i * 10 + 1, none⟩ = some (.int .u8 rs_) ∧ w'.cell? ⟨b, o + i * 10 + 2, none⟩ = some (.int .u8 sk) ∧ w'.cell? ⟨b, o + i * 10 + 3, none⟩ = some (.string sn) ∧ w'.cell? ⟨b, o + i * 10 + 4, none⟩ = some (.string sx) ∧ w'.cell? ⟨b, o + i * 10 + 5, none⟩ = some (.slice sa1 sl sc1) ∧ w'.cell? ⟨b, o + i * 10 + 6, none⟩ = some (.slice ba1 sm bc1) ∧ w'.cell? ⟨b, o + i * 10 + 7, none⟩ = some (.int .i64 rp0) ∧ w'.cell? ⟨b, o + i * 10 + 8, none⟩ = some (.int .i64 rp1) ∧ w'.cell? ⟨b, o + i * 10 + 9, none⟩ = some (.int .i64 rp2))
   (first | (go_keep; done) | (refine ⟨?_, ?_, ?_, ?_, ?_, ?_, ?_, ?_, ?_, ?_, ?_, ?_, ?_⟩ <;> (repeat (first | (with_reducible assumption) | (with_reducible refine ckd ?_) | (with_reducible refine ckn _ ?_) | (with_reducible refine cks (by first | (simp; done) | (simp; omega)) ?_))))) (fail)
  all_goals exact ⟨rfl, rfl⟩
 case mono =>
  intro e a2 w3 h
  cases e <;> simp only [OnN] at h
  obtain ⟨rfl, rfl⟩ := h
  obtain ⟨V, hV⟩ : ∃ V, (((W.alloc (.cells #[.pointer (some ⟨cp, 0, none⟩)] 99)).alloc (.cells #[.int .i64 (i : Int)] 3)).alloc (.cells #[.string rn, .int .u8 rs_, .int .u8 sk, .string sn, .string sx, .slice sa1 sl sc1, .slice ba1 sm bc1, .int .i64 rp0, .int .i64 rp1, .int .i64 rp2] 38)).drew = V := ⟨_, rfl⟩
  have vB : Below W.heap.size W V := by rw [← hV]; exact ((((Below.refl _ W).alloc (Nat.le_refl _) _).alloc (by simp) _).alloc (by simp; omega) _).drew
  have vs : V.heap.size = W.heap.size + 3 := by rw [← hV]; simp [World.drew]
  have vc : Bk V W.heap.size 99 #[.pointer (some ⟨cp, 0, none⟩)] := by rw [← hV]; exact ((Bk.made W _ _).alloc _).alloc _
  have vi : Bk V (W.heap.size + 1) 3 #[.int .i64 (i : Int)] := by
   rw [← hV]
   have := (Bk.made (W.alloc (.cells #[.pointer (some ⟨cp, 0, none⟩)] 99)) 3 #[.int .i64 (i : Int)]).alloc (.cells #[.string rn, .int .u8 rs_, .int .u8 sk, .string sn, .string sx, .slice sa1 sl sc1, .slice ba1 sm bc1, .int .i64 rp0, .int .i64 rp1, .int .i64 rp2] 38)
   rw [World.size_alloc] at this
   exact this
  have vr : Bk V (W.heap.size + 1 + 1) 38 #[.string rn, .int .u8 rs_, .int .u8 sk, .string sn, .string sx, .slice sa1 sl sc1, .slice ba1 sm bc1, .int .i64 rp0, .int .i64 rp1, .int .i64 rp2] := by
   rw [← hV]
   have := Bk.made ((W.alloc (.cells #[.pointer (some ⟨cp, 0, none⟩)] 99)).alloc (.cells #[.int .i64 (i : Int)] 3)) 38 #[.string rn, .int .u8 rs_, .int .u8 sk, .string sn, .string sx, .slice sa1 sl sc1, .slice ba1 sm bc1, .int .i64 rp0, .int .i64 rp1, .int .i64 rp2]
   rw [World.size_alloc, World.size_alloc] at this
   exact this
  have vI : CkI w0.heap.size cp cv L V := HI.out.below vB
  rw [hV]
  clear hV c0 c1 k0 k1 k2 k3 m0 m1 m2 m3 m4 m5 m6 m7 m8 m9
  have cN := fun w1 => (callsIn_wide (n := 3)).1 (names_in 3 sk sn sx sa1 ba1 sl sc1 sm bc1 w1)
  have r2 := vr.cell 2
  have r3 := vr.cell 3
  have r4 := vr.cell 4
  have r5 := vr.cell 5
  have r6 := vr.cell 6
  simp at r2 r3 r4 r5 r6
  have hF : Fence.wide.fn 71 := trivial
  go_wp2_with (go_at_call 71; refine (cN _).mono ?_; rintro e w' ⟨rfl, rfl⟩)
  -- behind the first region

  obtain ⟨Y, hY⟩ : ∃ Y, V.alloc (.cells #[.int .u8 sk, .string sn, .string sx, .slice sa1 sl sc1, .slice ba1 sm bc1] 34) = Y := ⟨_, rfl⟩
  have ybY : Below V.heap.size V Y := by rw [← hY]; exact (Below.refl _ _).alloc (Nat.le_refl _) _
  have yBY : Below W.heap.size W Y := vB.trans (ybY.mono vB.size)
  have y0Y : Below w0.heap.size w0 Y := hB.trans (yBY.mono hB.size)
  have ycY := vc.below ybY vc.lt
  have yiY := vi.below ybY vi.lt
  have yrY := vr.below ybY vr.lt
  have yboxY : Bk Y (W.heap.size + 3) 34 #[.int .u8 sk, .string sn, .string sx, .slice sa1 sl sc1, .slice ba1 sm bc1] := by rw [← vs, ← hY]; exact Bk.made _ _ _
  have yIY := vI.below ybY
  rw [hY]
  have hszY := y0Y.size
  have hsyY := yBY.size
  refine (wpIn_wide (n := 4)).1 ?_
  refine range_all rfl (by omega) (gf := 84) (lb := #[.pointer (some ⟨W.heap.size + 3, 0, none⟩)]) rfl trivial (enters_of Tryd.func84 (by kernel_rfl) rfl)
   (names_all w0 (4 - 1) (by omega) r.body _ xs Y (W.heap.size + 3) HAT.out HXS.out y0Y yboxY) (fun h k => h.trans k) (fun W l o o' hl h hc => KpN.put W l o o' (by omega) h hc) (Below.refl _ _) (fun _ => rfl)
   (fun pre X => CkI w0.heap.size cp cv (L ++ noneP rs i (pre.map (·.1.1))) X ∧ Tl w0.heap.size Y X)
   (OwnFrom.and (fun s A B row hs hg hr => CkI.from (β := Unit) () A B row hs hg hr) (Tl.own (Nat.le_refl _) hszY))
   ⟨by simpa [noneP, sortP] using yIY, Tl.refl _ _⟩
   (fun x a' X => ∃ Bx, Y.heap.size ≤ Bx ∧ Bk X Bx 34 x.1.2.cells ∧  a' = { tmps := #[.pointer (some ⟨cp, 0, none⟩), .int .i64 (i : Int), .pointer (some ⟨W.heap.size, 0, none⟩), .pointer (some ⟨W.heap.size + 1, 0, none⟩), .pointer (some ⟨W.heap.size + 1 + 1, 0, none⟩), .pointer (some ⟨Bx, 0, none⟩), undef, undef, .pointer (some ⟨cp, 0, none⟩), .pointer (some ⟨cp, 0, none⟩), .pointer (some ⟨cp, 0, none⟩), .pointer (some ⟨cp, 3, none⟩), .slice (some ⟨b, o, none⟩) RN rc, .int .i64 (i : Int), .pointer (some ⟨b, o + i * 10, none⟩), .agg #[.string rn, .int .u8 rs_, .int .u8 sk, .string sn, .string sx, .slice sa1 sl sc1, .slice ba1 sm bc1, .int .i64 rp0, .int .i64 rp1, .int .i64 rp2], .pointer (some ⟨W.heap.size + 1 + 1, 2, none⟩), .agg #[.int .u8 sk, .string sn, .string sx, .slice sa1 sl sc1, .slice ba1 sm bc1], .func (.func 84) #[] #[.pointer (some ⟨W.heap.size + 3, 0, none⟩)], x.1.2, undef, undef, undef, undef, undef, undef, undef, undef, undef, undef, undef, undef, undef, undef, undef, undef, undef, undef, undef, undef, undef, undef, undef, undef, undef, undef, undef, undef, undef, undef, undef, undef, undef, undef, undef, undef, undef, undef, undef, undef, undef, undef, undef, undef, undef, undef, undef, undef], defers := [] })
   (fun x a' s X Z row hs hg hr => by
    obtain ⟨Bx, h1, h2, h3⟩ := hs
    exact ⟨Bx, h1, h2.kept hg (fun r e => (hr r e).2), h3⟩) ?assign ?body ?done
  case assign =>
   rintro l' pre x X K ⟨hi, hT⟩ hK
   have hws := hT.1.size
   have hhh := Tl.below (n₀ := w0.heap.size) (by omega) ((Below.refl X.heap.size X).alloc (Nat.le_refl _) (.cells x.1.2.cells 34))
   have hyx : Y.heap.size ≤ X.heap.size := (hT.keeps (B := 0)).size
   have hck := hi.alloc (.cells x.1.2.cells 34)
   have hbm := Bk.made X 34 x.1.2.cells
   simp only [encN]
   obtain ⟨sa2, sc2, ba2, bc2, hxv, _⟩ := x.2.form
   rw [hxv] at hhh hck hbm
   gi_wp2
   exact hK _ _ hhh.keeps (hhh.kp (Nat.le_refl _)) ⟨hck, hT.trans hhh⟩ ⟨X.heap.size, hyx, by rw [hxv]; exact hbm, by rw [hxv]⟩
  case body =>
   rintro l pre ⟨⟨tt, vv⟩, hx1⟩ a' X ⟨hi, hT⟩ ⟨Bx, hBx, hbx, rfl⟩ hlt
   dsimp only at hx1 hbx ⊢
   have hsn := noneP_snoc rs i (pre.map (·.1.1)) tt
   have hsn2 : L ++ noneP rs i ((pre ++ [(⟨(tt, vv), hx1⟩ : ItN w0)]).map (·.1.1)) = L ++ noneP rs i (pre.map (·.1.1)) ++ (if fnd rs tt.name = none then [⟨2, i, tt.name⟩] else []) := by rw [List.map_append, List.map_singleton, hsn, List.append_assoc]
   have hfin : ∀ X3, CkI w0.heap.size cp cv (L ++ noneP rs i (pre.map (·.1.1)) ++ (if fnd rs tt.name = none then [⟨2, i, tt.name⟩] else [])) X3 → Tl w0.heap.size X X3 → KeepsFrom Y.heap.size X X3 ∧ KpC w0.heap.size Y.heap.size X X3 ∧ CkI w0.heap.size cp cv (L ++ noneP rs i ((pre ++ [(⟨(tt, vv), hx1⟩ : ItN w0)]).map (·.1.1))) X3 ∧ Tl w0.heap.size Y X3 := fun X3 h1 h2 => ⟨h2.keeps, h2.kp (Nat.le_refl _), by rw [hsn2]; exact h1, hT.trans h2⟩
   have HF := Lib.hid hfin
   have hlen : (noneP rs i (pre.map (·.1.1))).length ≤ 100000 := by
    have h1 : (noneP rs i (pre.map (·.1.1))).length ≤ (pre.map (·.1.1)).length := List.length_filterMap_le _ _
    have h2 := HXL.out
    rw [List.length_map] at h1
    omega
   have hws : w0.heap.size ≤ X.heap.size := by have := hT.1.size; omega
   have hXb : ∀ X2, Below X.heap.size X X2 → Below w0.heap.size w0 X2 := fun X2 h => y0Y.trans ((hT.1).trans (h.mono hws))
   have HFd := Lib.hid (fun X2 (h : Below X.heap.size X X2) => (Find_any cv.nm cv.o1 cv.o2 rs _ tt.name X2 (GrV2_below hS.gr (hXb X2 h))).mono (R' := fun e w' => e = .returned (.int .i64 (whereI (fnd rs tt.name))) ∧ Below X.heap.size X w') fun e w' ⟨h1, h2⟩ => ⟨h1, h.trans (h2.mono h.size)⟩)
   obtain ⟨sa2, sc2, ba2, bc2, rfl, ⟨_, hns2, _⟩⟩ := hx1.form
   have HTe := Lib.hid (fun X2 (h : Below X.heap.size X X2) => tell_any w0.heap.size cp cv (L ++ noneP rs i (pre.map (·.1.1))) 2 i tt.name X2 (hi.below h) hns2 (by rw [List.length_append]; omega))
   have xc := hT.bk ycY (by decide) (by decide)
   have xi := hT.bk yiY (by decide) (by decide)
   have HX := Lib.hid (fun X2 (h : Below X.heap.size X X2) => show (X2.cell? ⟨W.heap.size, 0, none⟩ = some (.pointer (some ⟨cp, 0, none⟩)) ∧ X2.cell? ⟨W.heap.size + 1, 0, none⟩ = some (.int .i64 (i : Int))) ∧ X2.cell? ⟨Bx, 1, none⟩ = some (.string tt.name) from ⟨⟨(xc.below h xc.lt).cell 0, (xi.below h xi.lt).cell 0⟩, (hbx.below h hbx.lt).cell 1⟩)
   obtain ⟨_, pv, hK, _⟩ := id hi
   rw [HE1.out.1, HE1.out.2.1, HE1.out.2.2, hRN] at hK HFd
   have k0 := hK.cell 0
   have k1 := hK.cell 1
   have k2 := hK.cell 2
   have k3 := hK.cell 3
   have e1 := hbx.cell 1
   have q0 := xc.cell 0
   have q1 := xi.cell 0
   simp [Value.cells] at k0 k1 k2 k3 e1 q0 q1
   have HKX := Lib.hid (fun X2 (h : Below X.heap.size X X2) => show X2.cell? ⟨cp, 0, none⟩ = some (.string cv.nm) ∧ X2.cell? ⟨cp, 1, none⟩ = some (.int .i64 cv.o1) ∧ X2.cell? ⟨cp, 2, none⟩ = some (.int .i64 cv.o2) ∧ X2.cell? ⟨cp, 3, none⟩ = some (.slice (some ⟨b, o, none⟩) RN rc) from ⟨(hK.below h hK.lt).cell 0, (hK.below h hK.lt).cell 1, (hK.below h hK.lt).cell 2, (hK.below h hK.lt).cell 3⟩)
   have HI2 := Lib.hid hi
   clear hi hT hbx hK hsn hsn2 hfin hXb xc xi
   generalize hfn : fnd rs tt.name = fn at *
   generalize tt.name = tn at *
   obtain ⟨⟨q00, q01⟩, q02⟩ := HX.out X (Below.refl _ _)
   clear e1 q0 q1
   cases fn with
   | none =>
    simp only [whereI] at HFd
    gi_wp2
    refine wpIn_mono (Q := fun e a' w' => e = .normal ∧ ∃ u20 u21 u22 u23 u24 u25 u26 : Value, Below X.heap.size X w' ∧ a' = { tmps := #[.pointer (some ⟨cp, 0, none⟩), .int .i64 (i : Int), .pointer (some ⟨W.heap.size, 0, none⟩), .pointer (some ⟨W.heap.size + 1, 0, none⟩), .pointer (some ⟨W.heap.size + 1 + 1, 0, none⟩), .pointer (some ⟨Bx, 0, none⟩), undef, undef, .pointer (some ⟨cp, 0, none⟩), .pointer (some ⟨cp, 0, none⟩), .pointer (some ⟨cp, 0, none⟩), .pointer (some ⟨cp, 3, none⟩), .slice (some ⟨b, o, none⟩) RN rc, .int .i64 (i : Int), .pointer (some ⟨b, o + i * 10, none⟩), .agg #[.string rn, .int .u8 rs_, .int .u8 sk, .string sn, .string sx, .slice sa1 sl sc1, .slice ba1 sm bc1, .int .i64 rp0, .int .i64 rp1, .int .i64 rp2], .pointer (some ⟨W.heap.size + 1 + 1, 2, none⟩), .agg #[.int .u8 sk, .string sn, .string sx, .slice sa1 sl sc1, .slice ba1 sm bc1], .func (.func 84) #[] #[.pointer (some ⟨W.heap.size + 3, 0, none⟩)], .agg #[.int .u8 tt.kind, .string tn, .string tt.text, .slice sa2 tt.set.length sc2, .slice ba2 tt.subs.length bc2], u20, u21, u22, u23, u24, u25, u26, .bool true, undef, undef, undef, undef, undef, undef, undef, undef, undef, undef, undef, undef, undef, undef, undef, undef, undef, undef, undef, undef, undef, undef, undef, undef, undef, undef, undef, undef, undef, undef, undef, undef, undef, undef, undef, undef, undef, undef, undef, undef], defers := [] }) ?reg4 ?rest4
    case reg4 =>
     refine round_held (S := fun w' : World => (w'.cell? ⟨W.heap.size, 0, none⟩ = some (.pointer (some ⟨cp, 0, none⟩)) ∧ w'.cell? ⟨Bx, 1, none⟩ = some (.string tn)) ∧ w'.cell? ⟨cp, 0, none⟩ = some (.string cv.nm) ∧ w'.cell? ⟨cp, 1, none⟩ = some (.int .i64 cv.o1) ∧ w'.cell? ⟨cp, 2, none⟩ = some (.int .i64 cv.o2) ∧ w'.cell? ⟨cp, 3, none⟩ = some (.slice (some ⟨b, o, none⟩) RN rc)) (by kernel_rfl) (by kernel_rfl) (fun ⟨_, _, h⟩ => by cases h.1) ⟨⟨q00, q02⟩, k0, k1, k2, k3⟩ (fun hSS => ?_)
     show wpAnyH _ _ _ _ _ 8 #[false, false, false, false, false, false, false, false] _ _
     refine zqT 0 (some 20) _ (zqF 8 1) (by rw [List.getElem?_toArray]; rfl) rfl (by kernel_rfl) rfl (fun _ _ _ h => by cases h.1) (Or.inl ⟨by rfl, fun w' hSw => by (try dsimp only at hSw); go_simp; try with_reducible rfl⟩) hSS ?_
     simp only [zqN]
     refine zqT 1 (some 21) _ (zqF 8 2) (by rw [List.getElem?_toArray]; rfl) rfl (by kernel_rfl) rfl (fun _ _ _ h => by cases h.1) (Or.inl ⟨by rfl, fun w' hSw => by (try dsimp only at hSw); go_simp; try with_reducible rfl⟩) hSS ?_
     simp only [zqN]
     refine zqT 2 (some 22) _ (zqF 8 3) (by rw [List.getElem?_toArray]; rfl) rfl (by kernel_rfl) rfl (fun _ _ _ h => by cases h.1) (Or.inl ⟨by rfl, fun w' hSw => by (try dsimp only at hSw); go_simp; try with_reducible rfl⟩) hSS ?_
     simp only [zqN]
     refine zqT 3 (some 23) _ (zqF 8 4) (by rw [List.getElem?_toArray]; rfl) rfl (by kernel_rfl) rfl (fun _ _ _ h => by cases h.1) (Or.inl ⟨by rfl, fun w' hSw => by (try dsimp only at hSw); go_simp; try with_reducible rfl⟩) hSS ?_
     simp only [zqN]
     refine zqT 4 (some 24) _ (zqF 8 5) (by rw [List.getElem?_toArray]; rfl) rfl (by kernel_rfl) rfl (fun _ _ _ h => by cases h.1) (Or.inl ⟨by rfl, fun w' hSw => by (try dsimp only at hSw); go_simp; try with_reducible rfl⟩) hSS ?_
     simp only [zqN]
     refine zqT 5 (some 25) _ (zqF 8 6) (by rw [List.getElem?_toArray]; rfl) rfl (by kernel_rfl) rfl (fun _ _ _ h => by cases h.1) (Or.inl ⟨by rfl, fun w' hSw => by (try dsimp only at hSw); go_simp; try with_reducible rfl⟩) hSS ?_
     simp only [zqN]
     refine come_one (i := 6) (l' := (zqF 8 7)) (by rw [List.getElem?_toArray]; rfl) (by kernel_rfl) rfl (fun K' hK => ?_)
     go_simp
     go_at_call 25; refine (HFd.out _ (Below.refl _ _).drew).mono ?_; rintro e X2 ⟨rfl, hb2⟩; obtain ⟨⟨z0, z1⟩, z2⟩ := HX.out X2 hb2; obtain ⟨k0', k1', k2', k3'⟩ := HKX.out X2 hb2
     refine hK.out _ _ ⟨⟨z0, z2⟩, k0', k1', k2', k3'⟩ (fun hSS => ?_)
     try simp only [zqN]
     refine zqT 7 (some 27) _ (zqF 8 8) (by rw [List.getElem?_toArray]; rfl) rfl (by kernel_rfl) rfl (fun _ _ _ h => by cases h.1) (Or.inl ⟨by rfl, fun w' hSw => by (try dsimp only at hSw); go_simp; try with_reducible rfl⟩) hSS ?_
     simp only [zqN]
     refine wpAnyH_done (by kernel_rfl) ?_ _
     exact ⟨rfl, _, _, _, _, _, _, _, hb2, rfl⟩
    case rest4 =>
     rintro e a' X2 ⟨rfl, u20, u21, u22, u23, u24, u25, u26, hb2, rfl⟩
     obtain ⟨⟨z0, z1⟩, z2⟩ := HX.out X2 hb2
     clear k0 k1 k2 k3
     gi_wp2_with (refine ⟨trivial, ?_⟩; gi_at_call 46; refine (CallsIn.inRound l (callsIn_wide.2 (HTe.out X2 hb2))).mono ?_; rintro e X3 ⟨⟨v, rfl⟩, hI3, hT3⟩)
     exact HF.out X3 hI3 ((Tl.below hws hb2).trans hT3)
   | some k =>
    simp only [whereI] at HFd
    have p1 : ¬ (k : Int) < 0 := by omega
    have d1 : decide ((k : Int) < 0) = false := decide_eq_false p1
    gi_wp2
    refine wpIn_mono (Q := fun e a' w' => e = .normal ∧ ∃ u20 u21 u22 u23 u24 u25 u26 : Value, Below X.heap.size X w' ∧ a' = { tmps := #[.pointer (some ⟨cp, 0, none⟩), .int .i64 (i : Int), .pointer (some ⟨W.heap.size, 0, none⟩), .pointer (some ⟨W.heap.size + 1, 0, none⟩), .pointer (some ⟨W.heap.size + 1 + 1, 0, none⟩), .pointer (some ⟨Bx, 0, none⟩), undef, undef, .pointer (some ⟨cp, 0, none⟩), .pointer (some ⟨cp, 0, none⟩), .pointer (some ⟨cp, 0, none⟩), .pointer (some ⟨cp, 3, none⟩), .slice (some ⟨b, o, none⟩) RN rc, .int .i64 (i : Int), .pointer (some ⟨b, o + i * 10, none⟩), .agg #[.string rn, .int .u8 rs_, .int .u8 sk, .string sn, .string sx, .slice sa1 sl sc1, .slice ba1 sm bc1, .int .i64 rp0, .int .i64 rp1, .int .i64 rp2], .pointer (some ⟨W.heap.size + 1 + 1, 2, none⟩), .agg #[.int .u8 sk, .string sn, .string sx, .slice sa1 sl sc1, .slice ba1 sm bc1], .func (.func 84) #[] #[.pointer (some ⟨W.heap.size + 3, 0, none⟩)], .agg #[.int .u8 tt.kind, .string tn, .string tt.text, .slice sa2 tt.set.length sc2, .slice ba2 tt.subs.length bc2], u20, u21, u22, u23, u24, u25, u26, .bool false, undef, undef, undef, undef, undef, undef, undef, undef, undef, undef, undef, undef, undef, undef, undef, undef, undef, undef, undef, undef, undef, undef, undef, undef, undef, undef, undef, undef, undef, undef, undef, undef, undef, undef, undef, undef, undef, undef, undef, undef], defers := [] }) ?reg4 ?rest4
    case reg4 =>
     refine round_held (S := fun w' : World => (w'.cell? ⟨W.heap.size, 0, none⟩ = some (.pointer (some ⟨cp, 0, none⟩)) ∧ w'.cell? ⟨Bx, 1, none⟩ = some (.string tn)) ∧ w'.cell? ⟨cp, 0, none⟩ = some (.string cv.nm) ∧ w'.cell? ⟨cp, 1, none⟩ = some (.int .i64 cv.o1) ∧ w'.cell? ⟨cp, 2, none⟩ = some (.int .i64 cv.o2) ∧ w'.cell? ⟨cp, 3, none⟩ = some (.slice (some ⟨b, o, none⟩) RN rc)) (by kernel_rfl) (by kernel_rfl) (fun ⟨_, _, h⟩ => by cases h.1) ⟨⟨q00, q02⟩, k0, k1, k2, k3⟩ (fun hSS => ?_)
     show wpAnyH _ _ _ _ _ 8 #[false, false, false, false, false, false, false, false] _ _
     refine zqT 0 (some 20) _ (zqF 8 1) (by rw [List.getElem?_toArray]; rfl) rfl (by kernel_rfl) rfl (fun _ _ _ h => by cases h.1) (Or.inl ⟨by rfl, fun w' hSw => by (try dsimp only at hSw); go_simp; try with_reducible rfl⟩) hSS ?_
     simp only [zqN]
     refine zqT 1 (some 21) _ (zqF 8 2) (by rw [List.getElem?_toArray]; rfl) rfl (by kernel_rfl) rfl (fun _ _ _ h => by cases h.1) (Or.inl ⟨by rfl, fun w' hSw => by (try dsimp only at hSw); go_simp; try with_reducible rfl⟩) hSS ?_
     simp only [zqN]
     refine zqT 2 (some 22) _ (zqF 8 3) (by rw [List.getElem?_toArray]; rfl) rfl (by kernel_rfl) rfl (fun _ _ _ h => by cases h.1) (Or.inl ⟨by rfl, fun w' hSw => by (try dsimp only at hSw); go_simp; try with_reducible rfl⟩) hSS ?_
     simp only [zqN]
     refine zqT 3 (some 23) _ (zqF 8 4) (by rw [List.getElem?_toArray]; rfl) rfl (by kernel_rfl) rfl (fun _ _ _ h => by cases h.1) (Or.inl ⟨by rfl, fun w' hSw => by (try dsimp only at hSw); go_simp; try with_reducible rfl⟩) hSS ?_
     simp only [zqN]
     refine zqT 4 (some 24) _ (zqF 8 5) (by rw [List.getElem?_toArray]; rfl) rfl (by kernel_rfl) rfl (fun _ _ _ h => by cases h.1) (Or.inl ⟨by rfl, fun w' hSw => by (try dsimp only at hSw); go_simp; try with_reducible rfl⟩) hSS ?_
     simp only [zqN]
     refine zqT 5 (some 25) _ (zqF 8 6) (by rw [List.getElem?_toArray]; rfl) rfl (by kernel_rfl) rfl (fun _ _ _ h => by cases h.1) (Or.inl ⟨by rfl, fun w' hSw => by (try dsimp only at hSw); go_simp; try with_reducible rfl⟩) hSS ?_
     simp only [zqN]
     refine come_one (i := 6) (l' := (zqF 8 7)) (by rw [List.getElem?_toArray]; rfl) (by kernel_rfl) rfl (fun K' hK => ?_)
     go_simp
     go_at_call 25; refine (HFd.out _ (Below.refl _ _).drew).mono ?_; rintro e X2 ⟨rfl, hb2⟩; obtain ⟨⟨z0, z1⟩, z2⟩ := HX.out X2 hb2; obtain ⟨k0', k1', k2', k3'⟩ := HKX.out X2 hb2
     refine hK.out _ _ ⟨⟨z0, z2⟩, k0', k1', k2', k3'⟩ (fun hSS => ?_)
     try simp only [zqN]
     refine zqT 7 (some 27) _ (zqF 8 8) (by rw [List.getElem?_toArray]; rfl) rfl (by kernel_rfl) rfl (fun _ _ _ h => by cases h.1) (Or.inl ⟨by rfl, fun w' hSw => by (try dsimp only at hSw); go_simp; try with_reducible rfl⟩) hSS ?_
     simp only [zqN]
     refine wpAnyH_done (by kernel_rfl) ?_ _
     exact ⟨rfl, _, _, _, _, _, _, _, hb2, rfl⟩
    case rest4 =>
     rintro e a' X2 ⟨rfl, u20, u21, u22, u23, u24, u25, u26, hb2, rfl⟩
     clear k0 k1 k2 k3
     gi_wp2
     exact HF.out X2 (by simpa using HI2.out.below hb2) (Tl.below hws hb2)
  case done =>
   rintro D Z hD ⟨hi, hT⟩ hDf
   rw [fltN_nam HXS.out] at hi
   have zc := hT.bk ycY (by decide) (by decide)
   have zi := hT.bk yiY (by decide) (by decide)
   have zr := hT.bk yrY (by decide) (by decide)
   have zsz := (hT.keeps (B := 0)).size
   have r2 := zr.cell 2
   have r3 := zr.cell 3
   have r4 := zr.cell 4
   have r5 := zr.cell 5
   have r6 := zr.cell 6
   simp at r2 r3 r4 r5 r6
   have cN := fun w1 => (callsIn_wide (n := 3)).1 (names_in 3 sk sn sx sa1 ba1 sl sc1 sm bc1 w1)
   go_wp2_with (go_at_call 71; refine (cN _).mono ?_; clear cN; rintro e w' ⟨rfl, rfl⟩)
   obtain ⟨V2, hV2⟩ : ∃ V2, Z.alloc (.cells #[.int .u8 sk, .string sn, .string sx, .slice sa1 sl sc1, .slice ba1 sm bc1] 34) = V2 := ⟨_, rfl⟩
   have vb2 : Below Z.heap.size Z V2 := by rw [← hV2]; exact (Below.refl _ _).alloc (Nat.le_refl _) _
   have hTv : Tl w0.heap.size Y V2 := hT.trans (Tl.below (by omega) vb2)
   have y02 : Below w0.heap.size w0 V2 := y0Y.trans hTv.1
   have yc2 := zc.below vb2 zc.lt
   have yi2 := zi.below vb2 zi.lt
   have yr2 := zr.below vb2 zr.lt
   have ybox2 : Bk V2 Z.heap.size 34 #[.int .u8 sk, .string sn, .string sx, .slice sa1 sl sc1, .slice ba1 sm bc1] := by rw [← hV2]; exact Bk.made _ _ _
   have yI2 := hi.below vb2
   have hD2 : V2.heap[D]? = some (.deferred (some [])) := by rw [vb2.block D (Array.getElem?_eq_some_iff.1 hDf).1]; exact hDf
   rw [hV2]
   have hsz2 := y02.size
   have hsy2 := vb2.size
   clear hi zc zi zr r2 r3 r4 r5 r6
   refine (wpIn_wide (n := 4)).1 ?_
   refine range_all rfl (by omega) (gf := 84) (lb := #[.pointer (some ⟨Z.heap.size, 0, none⟩)]) rfl trivial (enters_of Tryd.func84 (by kernel_rfl) rfl)
    (names_all w0 (4 - 1) (by omega) r.body _ xs V2 Z.heap.size HAT.out HXS.out y02 ybox2) (fun h k => h.trans k) (fun W l o o' hl h hc => KpN.put W l o o' (by omega) h hc) (Below.refl _ _) (fun _ => rfl)
    (fun pre X => CkI w0.heap.size cp cv (L ++ noneP rs i (nam r.body) ++ sortP rs rs_ i (pre.map (·.1.1))) X ∧ Tl w0.heap.size V2 X)
    (OwnFrom.and (fun s A B row hs hg hr => CkI.from (β := Unit) () A B row hs hg hr) (Tl.own (Nat.le_refl _) hsz2))
    ⟨by simpa [sortP] using yI2, Tl.refl _ _⟩
    (fun x a' X => ∃ Bx, V2.heap.size ≤ Bx ∧ Bk X Bx 34 x.1.2.cells ∧ a' = { tmps := #[.pointer (some ⟨cp, 0, none⟩), .int .i64 (i : Int), .pointer (some ⟨W.heap.size, 0, none⟩), .pointer (some ⟨W.heap.size + 1, 0, none⟩), .pointer (some ⟨W.heap.size + 1 + 1, 0, none⟩), undef, .pointer (some ⟨Bx, 0, none⟩), undef, .pointer (some ⟨cp, 0, none⟩), .pointer (some ⟨cp, 0, none⟩), .pointer (some ⟨cp, 0, none⟩), .pointer (some ⟨cp, 3, none⟩), .slice (some ⟨b, o, none⟩) RN rc, .int .i64 (i : Int), .pointer (some ⟨b, o + i * 10, none⟩), .agg #[.string rn, .int .u8 rs_, .int .u8 sk, .string sn, .string sx, .slice sa1 sl sc1, .slice ba1 sm bc1, .int .i64 rp0, .int .i64 rp1, .int .i64 rp2], .pointer (some ⟨W.heap.size + 1 + 1, 2, none⟩), .agg #[.int .u8 sk, .string sn, .string sx, .slice sa1 sl sc1, .slice ba1 sm bc1], .func (.func 84) #[] #[.pointer (some ⟨W.heap.size + 3, 0, none⟩)], undef, undef, undef, undef, undef, undef, undef, undef, undef, undef, undef, undef, undef, undef, .pointer (some ⟨W.heap.size + 1 + 1, 2, none⟩), .agg #[.int .u8 sk, .string sn, .string sx, .slice sa1 sl sc1, .slice ba1 sm bc1], .func (.func 84) #[] #[.pointer (some ⟨Z.heap.size, 0, none⟩)], x.1.2, undef, undef, undef, undef, undef, undef, undef, undef, undef, undef, undef, undef, undef, undef, undef, undef, undef, undef, undef, undef, undef, undef, undef, undef, undef, undef, undef, undef, undef, undef, undef], defers := [] })
    (fun x a' s X Z row hs hg hr => by
     obtain ⟨Bx, h1, h2, h3⟩ := hs
     exact ⟨Bx, h1, h2.kept hg (fun r e => (hr r e).2), h3⟩) ?assign2 ?body2 ?done2
   case assign2 =>
    rintro l' pre x X K ⟨hi, hT⟩ hK
    have hws := hT.1.size
    have hhh := Tl.below (n₀ := w0.heap.size) (by omega) ((Below.refl X.heap.size X).alloc (Nat.le_refl _) (.cells x.1.2.cells 34))
    have hyx : V2.heap.size ≤ X.heap.size := (hT.keeps (B := 0)).size
    have hck := hi.alloc (.cells x.1.2.cells 34)
    have hbm := Bk.made X 34 x.1.2.cells
    simp only [encN]
    obtain ⟨sa2, sc2, ba2, bc2, hxv, _⟩ := x.2.form
    rw [hxv] at hhh hck hbm
    gi_wp2
    exact hK _ _ hhh.keeps (hhh.kp (Nat.le_refl _)) ⟨hck, hT.trans hhh⟩ ⟨X.heap.size, hyx, by rw [hxv]; exact hbm, by rw [hxv]⟩
   case body2 =>
    rintro l pre ⟨⟨tt, vv⟩, hx1⟩ a' X ⟨hi, hT⟩ ⟨Bx, hBx, hbx, rfl⟩ hlt
    dsimp only at hx1 hbx ⊢
    have hsn := sortP_snoc rs rs_ i (pre.map (·.1.1)) tt
    have hsn2 : L ++ noneP rs i (nam r.body) ++ sortP rs rs_ i ((pre ++ [(⟨(tt, vv), hx1⟩ : ItN w0)]).map (·.1.1)) = L ++ noneP rs i (nam r.body) ++ sortP rs rs_ i (pre.map (·.1.1)) ++ (if sortB rs rs_ tt then [⟨3, i, tt.name⟩] else []) := by rw [List.map_append, List.map_singleton, hsn]; simp only [List.append_assoc]
    have hfin : ∀ X3, CkI w0.heap.size cp cv (L ++ noneP rs i (nam r.body) ++ sortP rs rs_ i (pre.map (·.1.1)) ++ (if sortB rs rs_ tt then [⟨3, i, tt.name⟩] else [])) X3 → Tl w0.heap.size X X3 → KeepsFrom V2.heap.size X X3 ∧ KpC w0.heap.size V2.heap.size X X3 ∧ CkI w0.heap.size cp cv (L ++ noneP rs i (nam r.body) ++ sortP rs rs_ i ((pre ++ [(⟨(tt, vv), hx1⟩ : ItN w0)]).map (·.1.1))) X3 ∧ Tl w0.heap.size V2 X3 := fun X3 h1 h2 => ⟨h2.keeps, h2.kp (Nat.le_refl _), by rw [hsn2]; exact h1, hT.trans h2⟩
    have HF := Lib.hid hfin
    have hlen : (noneP rs i (nam r.body)).length ≤ 100000 ∧ (sortP rs rs_ i (pre.map (·.1.1))).length ≤ 100000 := by
     have h1 : (noneP rs i (nam r.body)).length ≤ (nam r.body).length := List.length_filterMap_le _ _
     have h3 : (nam r.body).length ≤ xs.length := by rw [← fltN_nam HXS.out, List.length_map]; exact fltN_len xs
     have h4 : (sortP rs rs_ i (pre.map (·.1.1))).length ≤ (pre.map (·.1.1)).length := List.length_filterMap_le _ _
     have h2 := HXL.out
     rw [List.length_map] at h4
     omega
    have hws : w0.heap.size ≤ X.heap.size := by have := hT.1.size; omega
    have hXb : ∀ X2, Below X.heap.size X X2 → Below w0.heap.size w0 X2 := fun X2 h => y02.trans ((hT.1).trans (h.mono hws))
    have HFd := Lib.hid (fun X2 (h : Below X.heap.size X X2) => (Find_any cv.nm cv.o1 cv.o2 rs _ tt.name X2 (GrV2_below hS.gr (hXb X2 h))).mono (R' := fun e w' => e = .returned (.int .i64 (whereI (fnd rs tt.name))) ∧ Below X.heap.size X w') fun e w' ⟨h1, h2⟩ => ⟨h1, h.trans (h2.mono h.size)⟩)
    have hsB : sortB rs rs_ tt = (match fnd rs tt.name with | some to => !Ck.fits tt.kind rs_ (sortAt rs to) | none => false) := rfl
    obtain ⟨sa2, sc2, ba2, bc2, rfl, ⟨_, hns2, _⟩⟩ := hx1.form
    have HTe := Lib.hid (fun X2 (h : Below X.heap.size X X2) => tell_any w0.heap.size cp cv (L ++ noneP rs i (nam r.body) ++ sortP rs rs_ i (pre.map (·.1.1))) 3 i tt.name X2 (hi.below h) hns2 (by rw [List.length_append, List.length_append]; omega))
    have xc := hT.bk yc2 (by decide) (by decide)
    have xi := hT.bk yi2 (by decide) (by decide)
    have xr := hT.bk yr2 (by decide) (by decide)
    obtain ⟨_, pv, hK, _⟩ := id hi
    rw [HE1.out.1, HE1.out.2.1, HE1.out.2.2, hRN] at hK HFd
    have HX := Lib.hid (fun X2 (h : Below X.heap.size X X2) => show ((X2.cell? ⟨W.heap.size, 0, none⟩ = some (.pointer (some ⟨cp, 0, none⟩)) ∧ X2.cell? ⟨W.heap.size + 1, 0, none⟩ = some (.int .i64 (i : Int))) ∧ X2.cell? ⟨Bx, 1, none⟩ = some (.string tt.name)) ∧ X2.cell? ⟨Bx, 0, none⟩ = some (.int .u8 tt.kind) ∧ X2.cell? ⟨W.heap.size + 1 + 1, 1, none⟩ = some (.int .u8 rs_) ∧ X2.cell? ⟨cp, 3, none⟩ = some (.slice (some ⟨b, o, none⟩) RN rc) from ⟨⟨⟨(xc.below h xc.lt).cell 0, (xi.below h xi.lt).cell 0⟩, (hbx.below h hbx.lt).cell 1⟩, (hbx.below h hbx.lt).cell 0, (xr.below h xr.lt).cell 1, (hK.below h hK.lt).cell 3⟩)
    have HXk := Lib.hid (fun X2 (h : Below X.heap.size X X2) k (hk : k < RN) => show X2.cell? ⟨b, o + k * 10 + 1, none⟩ = some (.int .u8 (sortAt rs k)) from Nd.cell_keeps (hXb X2 h) (HRK.out k hk))
    have k0 := hK.cell 0
    have k1 := hK.cell 1
    have k2 := hK.cell 2
    have k3 := hK.cell 3
    have e1 := hbx.cell 1
    have q0 := xc.cell 0
    have q1 := xi.cell 0
    simp [Value.cells] at k0 k1 k2 k3 e1 q0 q1
    have HKX := Lib.hid (fun X2 (h : Below X.heap.size X X2) => show X2.cell? ⟨cp, 0, none⟩ = some (.string cv.nm) ∧ X2.cell? ⟨cp, 1, none⟩ = some (.int .i64 cv.o1) ∧ X2.cell? ⟨cp, 2, none⟩ = some (.int .i64 cv.o2) ∧ X2.cell? ⟨cp, 3, none⟩ = some (.slice (some ⟨b, o, none⟩) RN rc) from ⟨(hK.below h hK.lt).cell 0, (hK.below h hK.lt).cell 1, (hK.below h hK.lt).cell 2, (hK.below h hK.lt).cell 3⟩)
    have HI2 := Lib.hid hi
    clear hi hT hbx hK hsn hsn2 hfin hXb xc xi xr
    generalize sortB rs rs_ tt = SB at *
    have HFB := Lib.hid (fun k (h : fnd rs tt.name = some k) => fnd_lt h)
    rw [hRN] at HFB
    generalize hfn : fnd rs tt.name = fn at *
    generalize tt.name = tn at *
    generalize tt.kind = tk at *
    obtain ⟨⟨⟨q00, q01⟩, q02⟩, _⟩ := HX.out X (Below.refl _ _)
    clear e1 q0 q1
    gi_wp2
    refine wpIn_mono (Q := fun e a' w' => e = .normal ∧ ∃ w0 w1 w5 w8 w9 w10 w11 w12 w13 w14 w15 w16 w17 w18 w19 w20 w21 w22 w23 w24 w25 w26 w27 w28 w29 w30 w31 w32 w33 w34 w35 w36 u37 u38 u39 u40 u41 u42 u43 : Value, Below X.heap.size X w' ∧ a' = { tmps := #[w0, w1, .pointer (some ⟨W.heap.size, 0, none⟩), .pointer (some ⟨W.heap.size + 1, 0, none⟩), .pointer (some ⟨W.heap.size + 1 + 1, 0, none⟩), w5, .pointer (some ⟨Bx, 0, none⟩), .int .i64 (whereI fn), w8, w9, w10, w11, w12, w13, w14, w15, w16, w17, w18, w19, w20, w21, w22, w23, w24, w25, w26, w27, w28, w29, w30, w31, w32, w33, w34, w35, w36, u37, u38, u39, u40, u41, u42, u43, undef, undef, undef, undef, undef, undef, undef, undef, undef, undef, undef, undef, undef, undef, undef, undef, undef, undef, undef, undef, undef, undef, undef, undef], defers := [] }) ?reg8 ?rest8
    case reg8 =>
     refine round_held (S := fun w' : World => (w'.cell? ⟨W.heap.size, 0, none⟩ = some (.pointer (some ⟨cp, 0, none⟩)) ∧ w'.cell? ⟨Bx, 1, none⟩ = some (.string tn)) ∧ w'.cell? ⟨cp, 0, none⟩ = some (.string cv.nm) ∧ w'.cell? ⟨cp, 1, none⟩ = some (.int .i64 cv.o1) ∧ w'.cell? ⟨cp, 2, none⟩ = some (.int .i64 cv.o2) ∧ w'.cell? ⟨cp, 3, none⟩ = some (.slice (some ⟨b, o, none⟩) RN rc)) (by kernel_rfl) (by kernel_rfl) (fun ⟨_, _, h⟩ => by cases h.1) ⟨⟨q00, q02⟩, k0, k1, k2, k3⟩ (fun hSS => ?_)
     show wpAnyH _ _ _ _ _ 8 #[false, false, false, false, false, false, false, false] _ _
     refine zqT 0 (some 37) _ (zqF 8 1) (by rw [List.getElem?_toArray]; rfl) rfl (by kernel_rfl) rfl (fun _ _ _ h => by cases h.1) (Or.inl ⟨by rfl, fun w' hSw => by (try dsimp only at hSw); go_simp; try with_reducible rfl⟩) hSS ?_
     simp only [zqN]
     refine zqT 1 (some 38) _ (zqF 8 2) (by rw [List.getElem?_toArray]; rfl) rfl (by kernel_rfl) rfl (fun _ _ _ h => by cases h.1) (Or.inl ⟨by rfl, fun w' hSw => by (try dsimp only at hSw); go_simp; try with_reducible rfl⟩) hSS ?_
     simp only [zqN]
     refine zqT 2 (some 39) _ (zqF 8 3) (by rw [List.getElem?_toArray]; rfl) rfl (by kernel_rfl) rfl (fun _ _ _ h => by cases h.1) (Or.inl ⟨by rfl, fun w' hSw => by (try dsimp only at hSw); go_simp; try with_reducible rfl⟩) hSS ?_
     simp only [zqN]
     refine zqT 3 (some 40) _ (zqF 8 4) (by rw [List.getElem?_toArray]; rfl) rfl (by kernel_rfl) rfl (fun _ _ _ h => by cases h.1) (Or.inl ⟨by rfl, fun w' hSw => by (try dsimp only at hSw); go_simp; try with_reducible rfl⟩) hSS ?_
     simp only [zqN]
     refine zqT 4 (some 41) _ (zqF 8 5) (by rw [List.getElem?_toArray]; rfl) rfl (by kernel_rfl) rfl (fun _ _ _ h => by cases h.1) (Or.inl ⟨by rfl, fun w' hSw => by (try dsimp only at hSw); go_simp; try with_reducible rfl⟩) hSS ?_
     simp only [zqN]
     refine zqT 5 (some 42) _ (zqF 8 6) (by rw [List.getElem?_toArray]; rfl) rfl (by kernel_rfl) rfl (fun _ _ _ h => by cases h.1) (Or.inl ⟨by rfl, fun w' hSw => by (try dsimp only at hSw); go_simp; try with_reducible rfl⟩) hSS ?_
     simp only [zqN]
     refine come_one (i := 6) (l' := (zqF 8 7)) (by rw [List.getElem?_toArray]; rfl) (by kernel_rfl) rfl (fun K' hK => ?_)
     go_simp
     go_at_call 25; refine (HFd.out _ (Below.refl _ _).drew).mono ?_; rintro e X2 ⟨rfl, hb2⟩; obtain ⟨⟨⟨z0, z1⟩, z2⟩, z3, z4, z5⟩ := HX.out X2 hb2; obtain ⟨k0', k1', k2', k3'⟩ := HKX.out X2 hb2
     refine hK.out _ _ ⟨⟨z0, z2⟩, k0', k1', k2', k3'⟩ (fun hSS => ?_)
     try simp only [zqN]
     refine zqT 7 (some 7) _ (zqF 8 8) (by rw [List.getElem?_toArray]; rfl) rfl (by kernel_rfl) rfl (fun _ _ _ h => by cases h.1) (Or.inl ⟨by rfl, fun w' hSw => by (try dsimp only at hSw); go_simp; try with_reducible rfl⟩) hSS ?_
     simp only [zqN]
     refine wpAnyH_done (by kernel_rfl) ?_ _
     exact ⟨rfl, _, _, _, _, _, _, _, _, _, _, _, _, _, _, _, _, _, _, _, _, _, _, _, _, _, _, _, _, _, _, _, _, _, _, _, _, _, _, _, hb2, rfl⟩
    case rest8 =>
     rintro e a' X2 ⟨rfl, w0, w1, w5, w8, w9, w10, w11, w12, w13, w14, w15, w16, w17, w18, w19, w20, w21, w22, w23, w24, w25, w26, w27, w28, w29, w30, w31, w32, w33, w34, w35, w36, u37, u38, u39, u40, u41, u42, u43, hb2, rfl⟩
     obtain ⟨⟨⟨z0, z1⟩, z2⟩, z3, z4, z5⟩ := HX.out X2 hb2
     clear k0 k1 k2 k3
     clear HFd
     cases fn with
     | none =>
      subst hsB
      simp only [whereI]
      gi_wp2
      refine wpIn_mono (Q := fun e a' w' => e = .normal ∧ ∃ u44 u45 u46 u47 u48 u49 u50 u51 u52 u53 u54 u55 u56 u57 u58 u59 u60 u61 : Value, Below X.heap.size X w' ∧ a' = { tmps := #[w0, w1, .pointer (some ⟨W.heap.size, 0, none⟩), .pointer (some ⟨W.heap.size + 1, 0, none⟩), .pointer (some ⟨W.heap.size + 1 + 1, 0, none⟩), w5, .pointer (some ⟨Bx, 0, none⟩), .int .i64 (-1), w8, w9, w10, w11, w12, w13, w14, w15, w16, w17, w18, w19, w20, w21, w22, w23, w24, w25, w26, w27, w28, w29, w30, w31, w32, w33, w34, w35, w36, u37, u38, u39, u40, u41, u42, u43, u44, u45, u46, u47, u48, u49, u50, u51, u52, u53, u54, u55, u56, u57, u58, u59, u60, u61, .bool false, undef, undef, undef, undef, undef], defers := [] }) ?reg9 ?rest9
      case reg9 =>
       refine round_held (S := fun w' : World => True) (by kernel_rfl) (by kernel_rfl) (fun ⟨_, _, h⟩ => by cases h.1) trivial (fun hSS => ?_)
       show wpAnyH _ _ _ _ _ 19 #[false, false, false, false, false, false, false, false, false, false, false, false, false, false, false, false, false, false, false] _ _
       refine zqT 0 (some 44) _ (zqF 19 1) (by rw [List.getElem?_toArray]; rfl) rfl (by kernel_rfl) rfl (fun _ _ _ h => by cases h.1) (Or.inl ⟨by rfl, fun w' hSw => by (try dsimp only at hSw); go_simp; try with_reducible rfl⟩) hSS ?_
       simp only [zqN]
       refine zqT 1 (some 45) _ (zqF 19 2) (by rw [List.getElem?_toArray]; rfl) rfl (by kernel_rfl) rfl (fun _ _ _ h => by cases h.1) (Or.inl ⟨by rfl, fun w' hSw => by (try dsimp only at hSw); go_simp; try with_reducible rfl⟩) hSS ?_
       simp only [zqN]
       refine zqT 2 (some 46) _ (zqF 19 3) (by rw [List.getElem?_toArray]; rfl) rfl (by kernel_rfl) rfl (fun _ _ _ h => by cases h.1) (Or.inl ⟨by rfl, fun w' hSw => by (try dsimp only at hSw); go_simp; try with_reducible rfl⟩) hSS ?_
       simp only [zqN]
       refine take_one (i := 3) (d := (some 47)) (v := undef) (l' := #[true, true, true, true, false, false, false, false, false, false, false, false, false, false, false, false, false, false, false]) (by rw [List.getElem?_toArray]; rfl) rfl (by kernel_rfl) (by kernel_rfl) (by kernel_rfl) rfl (fun _ _ _ h => by cases h.1) (Or.inr ⟨by rfl, rfl⟩) hSS ?_
       simp only [zqN]
       refine take_one (i := 4) (d := (some 48)) (v := undef) (l' := #[true, true, true, true, true, false, false, false, false, false, false, false, false, false, false, false, false, false, false]) (by rw [List.getElem?_toArray]; rfl) rfl (by kernel_rfl) (by kernel_rfl) (by kernel_rfl) rfl (fun _ _ _ h => by cases h.1) (Or.inr ⟨by rfl, rfl⟩) hSS ?_
       simp only [zqN]
       refine take_one (i := 5) (d := (some 49)) (v := undef) (l' := #[true, true, true, true, true, true, false, false, false, false, false, false, false, false, false, false, false, false, false]) (by rw [List.getElem?_toArray]; rfl) rfl (by kernel_rfl) (by kernel_rfl) (by kernel_rfl) rfl (fun _ _ _ h => by cases h.1) (Or.inr ⟨by rfl, rfl⟩) hSS ?_
       simp only [zqN]
       refine take_one (i := 6) (d := (some 50)) (v := undef) (l' := #[true, true, true, true, true, true, true, false, false, false, false, false, false, false, false, false, false, false, false]) (by rw [List.getElem?_toArray]; rfl) rfl (by kernel_rfl) (by kernel_rfl) (by kernel_rfl) rfl (fun _ _ _ h => by cases h.1) (Or.inr ⟨by rfl, rfl⟩) hSS ?_
       simp only [zqN]
       refine take_one (i := 7) (d := (some 51)) (v := undef) (l' := #[true, true, true, true, true, true, true, true, false, false, false, false, false, false, false, false, false, false, false]) (by rw [List.getElem?_toArray]; rfl) rfl (by kernel_rfl) (by kernel_rfl) (by kernel_rfl) rfl (fun _ _ _ h => by cases h.1) (Or.inr ⟨by rfl, rfl⟩) hSS ?_
       simp only [zqN]
       refine take_one (i := 8) (d := (some 52)) (v := undef) (l' := #[true, true, true, true, true, true, true, true, true, false, false, false, false, false, false, false, false, false, false]) (by rw [List.getElem?_toArray]; rfl) rfl (by kernel_rfl) (by kernel_rfl) (by kernel_rfl) rfl (fun _ _ _ h => by cases h.1) (Or.inr ⟨by rfl, rfl⟩) hSS ?_
       simp only [zqN]
       refine take_one (i := 9) (d := (some 53)) (v := undef) (l' := #[true, true, true, true, true, true, true, true, true, true, false, false, false, false, false, false, false, false, false]) (by rw [List.getElem?_toArray]; rfl) rfl (by kernel_rfl) (by kernel_rfl) (by kernel_rfl) rfl (fun _ _ _ h => by cases h.1) (Or.inr ⟨by rfl, rfl⟩) hSS ?_
       simp only [zqN]
       refine take_one (i := 10) (d := (some 54)) (v := undef) (l' := #[true, true, true, true, true, true, true, true, true, true, true, false, false, false, false, false, false, false, false]) (by rw [List.getElem?_toArray]; rfl) rfl (by kernel_rfl) (by kernel_rfl) (by kernel_rfl) rfl (fun _ _ _ h => by cases h.1) (Or.inr ⟨by rfl, rfl⟩) hSS ?_
       simp only [zqN]
       refine take_one (i := 11) (d := (some 55)) (v := undef) (l' := #[true, true, true, true, true, true, true, true, true, true, true, true, false, false, false, false, false, false, false]) (by rw [List.getElem?_toArray]; rfl) rfl (by kernel_rfl) (by kernel_rfl) (by kernel_rfl) rfl (fun _ _ _ h => by cases h.1) (Or.inr ⟨by rfl, rfl⟩) hSS ?_
       simp only [zqN]
       refine take_one (i := 12) (d := (some 56)) (v := undef) (l' := #[true, true, true, true, true, true, true, true, true, true, true, true, true, false, false, false, false, false, false]) (by rw [List.getElem?_toArray]; rfl) rfl (by kernel_rfl) (by kernel_rfl) (by kernel_rfl) rfl (fun _ _ _ h => by cases h.1) (Or.inr ⟨by rfl, rfl⟩) hSS ?_
       simp only [zqN]
       refine take_one (i := 13) (d := (some 57)) (v := undef) (l' := #[true, true, true, true, true, true, true, true, true, true, true, true, true, true, false, false, false, false, false]) (by rw [List.getElem?_toArray]; rfl) rfl (by kernel_rfl) (by kernel_rfl) (by kernel_rfl) rfl (fun _ _ _ h => by cases h.1) (Or.inr ⟨by rfl, rfl⟩) hSS ?_
       simp only [zqN]
       refine take_one (i := 14) (d := (some 58)) (v := undef) (l' := #[true, true, true, true, true, true, true, true, true, true, true, true, true, true, true, false, false, false, false]) (by rw [List.getElem?_toArray]; rfl) rfl (by kernel_rfl) (by kernel_rfl) (by kernel_rfl) rfl (fun _ _ _ h => by cases h.1) (Or.inr ⟨by rfl, rfl⟩) hSS ?_
       simp only [zqN]
       refine take_one (i := 15) (d := (some 59)) (v := undef) (l' := #[true, true, true, true, true, true, true, true, true, true, true, true, true, true, true, true, false, false, false]) (by rw [List.getElem?_toArray]; rfl) rfl (by kernel_rfl) (by kernel_rfl) (by kernel_rfl) rfl (fun _ _ _ h => by cases h.1) (Or.inr ⟨by rfl, rfl⟩) hSS ?_
       simp only [zqN]
       refine take_one (i := 16) (d := (some 60)) (v := undef) (l' := #[true, true, true, true, true, true, true, true, true, true, true, true, true, true, true, true, true, false, false]) (by rw [List.getElem?_toArray]; rfl) rfl (by kernel_rfl) (by kernel_rfl) (by kernel_rfl) rfl (fun _ _ _ h => by cases h.1) (Or.inr ⟨by rfl, rfl⟩) hSS ?_
       simp only [zqN]
       refine take_one (i := 17) (d := (some 61)) (v := undef) (l' := #[true, true, true, true, true, true, true, true, true, true, true, true, true, true, true, true, true, true, false]) (by rw [List.getElem?_toArray]; rfl) rfl (by kernel_rfl) (by kernel_rfl) (by kernel_rfl) rfl (fun _ _ _ h => by cases h.1) (Or.inr ⟨by rfl, rfl⟩) hSS ?_
       simp only [zqN]
       refine zqT 18 (some 62) _ (zqF 19 19) (by rw [List.getElem?_toArray]; rfl) rfl (by kernel_rfl) rfl (fun _ _ _ h => by cases h.1) (Or.inl ⟨by rfl, fun w' hSw => by (try dsimp only at hSw); go_simp; try with_reducible rfl⟩) hSS ?_
       simp only [zqN]
       refine wpAnyH_done (by kernel_rfl) ?_ _
       exact ⟨rfl, _, _, _, _, _, _, _, _, _, _, _, _, _, _, _, _, _, _, hb2.drew, rfl⟩

      case rest9 =>
       rintro e a' X3 ⟨rfl, u44, u45, u46, u47, u48, u49, u50, u51, u52, u53, u54, u55, u56, u57, u58, u59, u60, u61, hb3, rfl⟩
       gi_wp2
       exact HF.out X3 (by simpa using HI2.out.below hb3) (Tl.below hws hb3)
     | some k =>
      have hk := HFB.out k rfl
      have z6 := HXk.out X2 hb2 k hk
      have p1 : (0 : Int) ≤ (k : Int) := by omega
      have p2 : (k : Int) < (RN : Int) := by omega
      have d1 : decide ((0 : Int) ≤ (k : Int)) = true := decide_eq_true p1
      have HFi := Lib.hid (fun X3 (h : Below X.heap.size X X3) => (fits_any tk rs_ (sortAt rs k) X3).mono (R' := fun e w' => e = .returned (.bool (Ck.fits tk rs_ (sortAt rs k))) ∧ Below X.heap.size X w') fun e w' ⟨h1, h2⟩ => ⟨h1, h.trans (h2.mono h.size)⟩)
      dsimp only at hsB
      generalize Ck.fits tk rs_ (sortAt rs k) = FB at *
      simp only [whereI]
      gi_wp2
      refine wpIn_mono (Q := fun e a' w' => e = .normal ∧ ∃ u44 u45 u46 u47 u48 u49 u50 u51 u52 u53 u54 u55 u56 u57 u58 u59 u60 u61 : Value, Below X.heap.size X w' ∧ a' = { tmps := #[w0, w1, .pointer (some ⟨W.heap.size, 0, none⟩), .pointer (some ⟨W.heap.size + 1, 0, none⟩), .pointer (some ⟨W.heap.size + 1 + 1, 0, none⟩), w5, .pointer (some ⟨Bx, 0, none⟩), .int .i64 (k : Int), w8, w9, w10, w11, w12, w13, w14, w15, w16, w17, w18, w19, w20, w21, w22, w23, w24, w25, w26, w27, w28, w29, w30, w31, w32, w33, w34, w35, w36, u37, u38, u39, u40, u41, u42, u43, u44, u45, u46, u47, u48, u49, u50, u51, u52, u53, u54, u55, u56, u57, u58, u59, u60, u61, .bool (!FB), undef, undef, undef, undef, undef], defers := [] }) ?reg9 ?rest9
      case reg9 =>
       refine round_held (S := fun w' : World => w'.cell? ⟨W.heap.size, 0, none⟩ = some (.pointer (some ⟨cp, 0, none⟩)) ∧ w'.cell? ⟨Bx, 0, none⟩ = some (.int .u8 tk) ∧ w'.cell? ⟨W.heap.size + 1 + 1, 1, none⟩ = some (.int .u8 rs_) ∧ w'.cell? ⟨cp, 3, none⟩ = some (.slice (some ⟨b, o, none⟩) RN rc) ∧ w'.cell? ⟨b, o + k * 10 + 1, none⟩ = some (.int .u8 (sortAt rs k))) (by kernel_rfl) (by kernel_rfl) (fun ⟨_, _, h⟩ => by cases h.1) ⟨z0, z3, z4, z5, z6⟩ (fun hSS => ?_)
       show wpAnyH _ _ _ _ _ 19 #[false, false, false, false, false, false, false, false, false, false, false, false, false, false, false, false, false, false, false] _ _
       refine zqT 0 (some 44) _ (zqF 19 1) (by rw [List.getElem?_toArray]; rfl) rfl (by kernel_rfl) rfl (fun _ _ _ h => by cases h.1) (Or.inl ⟨by rfl, fun w' hSw => by (try dsimp only at hSw); go_simp; try with_reducible rfl⟩) hSS ?_
       simp only [zqN]
       refine zqT 1 (some 45) _ (zqF 19 2) (by rw [List.getElem?_toArray]; rfl) rfl (by kernel_rfl) rfl (fun _ _ _ h => by cases h.1) (Or.inl ⟨by rfl, fun w' hSw => by (try dsimp only at hSw); go_simp; try with_reducible rfl⟩) hSS ?_
       simp only [zqN]
       refine zqT 2 (some 46) _ (zqF 19 3) (by rw [List.getElem?_toArray]; rfl) rfl (by kernel_rfl) rfl (fun _ _ _ h => by cases h.1) (Or.inl ⟨by rfl, fun w' hSw => by (try dsimp only at hSw); go_simp; try with_reducible rfl⟩) hSS ?_
       simp only [zqN]
       refine zqT 3 (some 47) _ (zqF 19 4) (by rw [List.getElem?_toArray]; rfl) rfl (by kernel_rfl) rfl (fun _ _ _ h => by cases h.1) (Or.inl ⟨by rfl, fun w' hSw => by (try dsimp only at hSw); go_simp; try with_reducible rfl⟩) hSS ?_
       simp only [zqN]
       refine zqT 4 (some 48) _ (zqF 19 5) (by rw [List.getElem?_toArray]; rfl) rfl (by kernel_rfl) rfl (fun _ _ _ h => by cases h.1) (Or.inl ⟨by rfl, fun w' hSw => by (try dsimp only at hSw); go_simp; try with_reducible rfl⟩) hSS ?_
       simp only [zqN]
       refine zqT 5 (some 49) _ (zqF 19 6) (by rw [List.getElem?_toArray]; rfl) rfl (by kernel_rfl) rfl (fun _ _ _ h => by cases h.1) (Or.inl ⟨by rfl, fun w' hSw => by (try dsimp only at hSw); go_simp; try with_reducible rfl⟩) hSS ?_
       simp only [zqN]
       refine zqT 6 (some 50) _ (zqF 19 7) (by rw [List.getElem?_toArray]; rfl) rfl (by kernel_rfl) rfl (fun _ _ _ h => by cases h.1) (Or.inl ⟨by rfl, fun w' hSw => by (try dsimp only at hSw); go_simp; try with_reducible rfl⟩) hSS ?_
       simp only [zqN]
       refine zqT 7 (some 51) _ (zqF 19 8) (by rw [List.getElem?_toArray]; rfl) rfl (by kernel_rfl) rfl (fun _ _ _ h => by cases h.1) (Or.inl ⟨by rfl, fun w' hSw => by (try dsimp only at hSw); go_simp; try with_reducible rfl⟩) hSS ?_
       simp only [zqN]
       refine zqT 8 (some 52) _ (zqF 19 9) (by rw [List.getElem?_toArray]; rfl) rfl (by kernel_rfl) rfl (fun _ _ _ h => by cases h.1) (Or.inl ⟨by rfl, fun w' hSw => by (try dsimp only at hSw); go_simp; try with_reducible rfl⟩) hSS ?_
       simp only [zqN]
       refine zqT 9 (some 53) _ (zqF 19 10) (by rw [List.getElem?_toArray]; rfl) rfl (by kernel_rfl) rfl (fun _ _ _ h => by cases h.1) (Or.inl ⟨by rfl, fun w' hSw => by (try dsimp only at hSw); go_simp; try with_reducible rfl⟩) hSS ?_
       simp only [zqN]
       refine zqT 10 (some 54) _ (zqF 19 11) (by rw [List.getElem?_toArray]; rfl) rfl (by kernel_rfl) rfl (fun _ _ _ h => by cases h.1) (Or.inl ⟨by rfl, fun w' hSw => by (try dsimp only at hSw); go_simp; try with_reducible rfl⟩) hSS ?_
       simp only [zqN]
       refine zqT 11 (some 55) _ (zqF 19 12) (by rw [List.getElem?_toArray]; rfl) rfl (by kernel_rfl) rfl (fun _ _ _ h => by cases h.1) (Or.inl ⟨by rfl, fun w' hSw => by (try dsimp only at hSw); go_simp; try with_reducible rfl⟩) hSS ?_
       simp only [zqN]
       refine zqT 12 (some 56) _ (zqF 19 13) (by rw [List.getElem?_toArray]; rfl) rfl (by kernel_rfl) rfl (fun _ _ _ h => by cases h.1) (Or.inl ⟨by rfl, fun w' hSw => by (try dsimp only at hSw); go_simp; try with_reducible rfl⟩) hSS ?_
       simp only [zqN]
       refine zqT 13 (some 57) _ (zqF 19 14) (by rw [List.getElem?_toArray]; rfl) rfl (by kernel_rfl) rfl (fun _ _ _ h => by cases h.1) (Or.inl ⟨by rfl, fun w' hSw => by (try dsimp only at hSw); go_simp; try with_reducible rfl⟩) hSS ?_
       simp only [zqN]
       refine zqT 14 (some 58) _ (zqF 19 15) (by rw [List.getElem?_toArray]; rfl) rfl (by kernel_rfl) rfl (fun _ _ _ h => by cases h.1) (Or.inl ⟨by rfl, fun w' hSw => by (try dsimp only at hSw); go_simp; try with_reducible rfl⟩) hSS ?_
       simp only [zqN]
       refine zqT 15 (some 59) _ (zqF 19 16) (by rw [List.getElem?_toArray]; rfl) rfl (by kernel_rfl) rfl (fun _ _ _ h => by cases h.1) (Or.inl ⟨by rfl, fun w' hSw => by (try dsimp only at hSw); go_simp; try with_reducible rfl⟩) hSS ?_
       simp only [zqN]
       refine come_one (i := 16) (l' := (zqF 19 17)) (by rw [List.getElem?_toArray]; rfl) (by kernel_rfl) rfl (fun K' hK => ?_)
       go_simp
       go_at_call 72; refine (HFi.out _ hb2.drew).mono ?_; rintro e X3 ⟨rfl, hb3⟩; have zz := HX.out X3 hb3
       refine hK.out _ _ ⟨zz.1.1.1, zz.2.1, zz.2.2.1, zz.2.2.2, HXk.out X3 hb3 k hk⟩ (fun hSS => ?_)
       try simp only [zqN]
       refine zqT 17 (some 61) _ (zqF 19 18) (by rw [List.getElem?_toArray]; rfl) rfl (by kernel_rfl) rfl (fun _ _ _ h => by cases h.1) (Or.inl ⟨by rfl, fun w' hSw => by (try dsimp only at hSw); go_simp; try with_reducible rfl⟩) hSS ?_
       simp only [zqN]
       refine zqT 18 (some 62) _ (zqF 19 19) (by rw [List.getElem?_toArray]; rfl) rfl (by kernel_rfl) rfl (fun _ _ _ h => by cases h.1) (Or.inl ⟨by rfl, fun w' hSw => by (try dsimp only at hSw); go_simp; try with_reducible rfl⟩) hSS ?_
       simp only [zqN]
       refine wpAnyH_done (by kernel_rfl) ?_ _
       exact ⟨rfl, _, _, _, _, _, _, _, _, _, _, _, _, _, _, _, _, _, _, hb3, rfl⟩

      case rest9 =>
       rintro e a' X3 ⟨rfl, u44, u45, u46, u47, u48, u49, u50, u51, u52, u53, u54, u55, u56, u57, u58, u59, u60, u61, hb3, rfl⟩
       obtain ⟨⟨⟨y0, y1⟩, y2⟩, _⟩ := HX.out X3 hb3
       subst hsB
       clear z0 z1 z2 z3 z4 z5 z6
       cases FB with
       | true =>
        gi_wp2
        exact HF.out X3 (by simpa using HI2.out.below hb3) (Tl.below hws hb3)
       | false =>
        gi_wp2_with (refine ⟨trivial, ?_⟩; gi_at_call 46; refine (CallsIn.inRound l (callsIn_wide.2 (HTe.out X3 hb3))).mono ?_; rintro e X4 ⟨⟨v, rfl⟩, hI4, hT4⟩)
        exact HF.out X4 hI4 ((Tl.below hws hb3).trans hT4)
   case done2 =>
    rintro D2 Z2 hDz ⟨hi2, hT2⟩ hDf2
    rw [fltN_nam HXS.out] at hi2
    have hWV : Tl w0.heap.size W Z2 := (Tl.below hB.size yBY).trans (hTv.trans hT2)
    have hDz1 := hT2.2 D _ hD2 trivial
    have hDlt := (Array.getElem?_eq_some_iff.1 hD2).1
    have hne : D2 ≠ D := by omega
    gi_wp2
    refine ⟨by simp, .inl ⟨_, _, rfl, run_takeDeferred hDf2, ?_⟩⟩
    have hDz2 : (Z2.putObj D2 (.deferred none)).heap[D]? = some (.deferred (some [])) := (World.putObj_heap_other (Ne.symm hne)).trans hDz1
    have g1 := grownBy_putObj' Z2 D2 (.deferred none)
    have g2 := grownBy_putObj' (Z2.putObj D2 (.deferred none)) D (.deferred none)
    have hi3 := CkI.from (n₀ := w0.heap.size) (cp := cp) (B := W.heap.size) (β := Unit) () _ _ _ hi2 g1 (fun r e => by cases e; exact ⟨by omega, _, hDf2, rfl⟩)
    have hi4 := CkI.from (n₀ := w0.heap.size) (cp := cp) (B := W.heap.size) (β := Unit) () _ _ _ hi3 g2 (fun r e => by cases e; exact ⟨by omega, _, hDz2, rfl⟩)
    have ht3 := Tl.own (β := Unit) (n₀ := w0.heap.size) (B := W.heap.size) (Nat.le_refl W.heap.size) hB.size () _ _ _ hWV g1 (fun r e => by cases e; exact ⟨by omega, _, hDf2, rfl⟩)
    have ht4 := Tl.own (β := Unit) (n₀ := w0.heap.size) (B := W.heap.size) (Nat.le_refl W.heap.size) hB.size () _ _ _ ht3 g2 (fun r e => by cases e; exact ⟨by omega, _, hDz2, rfl⟩)
    refine ⟨by simp, .inl ⟨_, _, rfl, run_takeDeferred hDz2, ?_⟩⟩
    exact ⟨_, results_none rfl _ _ _, ⟨_, rfl⟩, hi4, ht4⟩
end Go.Proofs.YtiinkhmgemoamaaDoor
