/- The contract of short, its first part: which rules a rule's body asks for. -/
import Derived.Test.YtiinkhmgemoamaaDoorPbd
import Derived.Test.YtiinkhmgemoamaaDoorPad
import Derived.Test.YtiinkhmgemoamaaDoorPbj
import Derived.Test.YtiinkhmgemoamaaDoorPz
namespace Go.Proofs.YtiinkhmgemoamaaDoor
open Go Go.RowKit Go.Shelf Ck Nu
attribute [local go_sem] Oper.semAt_some
set_option maxRecDepth 100000

/-- What has been asked for, name by name. -/
def askF (rs : List Rl) (l : List Nd.T) : List Bool := l.foldl (fun a n => match fnd rs n.name with | some to => a.set to true | none => a) (List.replicate rs.length false)
theorem askF_snoc (rs : List Rl) (l : List Nd.T) (n : Nd.T) : askF rs (l ++ [n]) = (match fnd rs n.name with | some to => (askF rs l).set to true | none => askF rs l) := by
 unfold askF
 rw [List.foldl_append]
 rfl
theorem askF_len (rs : List Rl) (l : List Nd.T) : (askF rs l).length = rs.length := by
 have key : ∀ (l : List Nd.T) (a : List Bool), a.length = rs.length → (l.foldl (fun a n => match fnd rs n.name with | some to => a.set to true | none => a) a).length = rs.length := by
  intro l
  induction l with
  | nil => intro a h; exact h
  | cons n l ih =>
   intro a h
   simp only [List.foldl_cons]
   refine ih _ ?_
   split
   · simpa using h
   · exact h
 exact key l _ (by simp)
theorem askF_all (rs : List Rl) (t : Nd.T) : askF rs (nam t) = asked rs t := rfl
set_option maxHeartbeats 4000000 in
theorem short_any (w0 : World) (cp : Nat) (cv : CkV) (rs : List Rl) (pv : Value) (i : Nat) (r : Rl) (W : World) (hS : CkS w0 cv rs) (hr : rs[i]? = some r) (hsm : rs.length ≤ 1000 ∧ ∀ r ∈ rs, Nd.deep r.body ≤ 100000 ∧ Nd.count r.body ≤ 100000)
 (hB : Below w0.heap.size w0 W) (hK : Bk W cp 103 #[.string cv.nm, .int .i64 cv.o1, .int .i64 cv.o2, .slice cv.ra cv.rn cv.rc, cv.em, cv.re, cv.wi, pv]) :
 Calls Tryd.prog 63 #[.pointer (some ⟨cp, 0, none⟩), .int .i64 i] W fun e W' => (∃ rb cap cs, e = .returned (.agg #[.string ⟨#[]⟩, .int .i64 0, .int .i64 0, .slice (some ⟨rb, 0, none⟩) (short rs r).length cap]) ∧ (short rs r).length ≤ cap ∧ W.heap.size ≤ rb ∧ Bk W' rb 38 cs ∧ RowC w0 (short rs r) cs) ∧ Below W.heap.size W W' := by
 obtain ⟨ra, rc, hgv, hnm, hrc, hR⟩ := id hS.gr
 obtain ⟨b, o, rfl, v0, v1, v2, v3, v4, a0, a1, a2, a3, a4, a5, a6, a7, a8, a9, hA, hsr, hns⟩ := hR i r hr
 obtain ⟨xs, hxs⟩ := items w0 100000 r.body _ hA (hsm.2 r (List.mem_of_getElem? hr)).1
 have e1 : cv.ra = some ⟨b, o, none⟩ ∧ cv.rn = rs.length ∧ cv.rc = rc := by simpa using hgv
 rw [e1.1, e1.2.1, e1.2.2] at hK
 have hi : i < rs.length := (List.getElem?_eq_some_iff.1 hr).1
 obtain ⟨sa1, sc1, ba1, bc1, rfl, rfl, rfl, rfl, rfl⟩ := hA.five
 obtain ⟨RN, hRN⟩ : ∃ k, rs.length = k := ⟨_, rfl⟩
 have hmk := run_make_row' (P := Tryd.prog) 52 4 (.bool false) 1 Tryd.underlying52 infoBool rfl .i64 .i64 RN (by have := hsm.1; omega) (by have := hsm.1; omega)
 rw [hRN] at hK hi hrc
 have n1 : (RN : Int) ≤ 9223372036854775807 := by omega
 have p0 : (i : Int) < (RN : Int) := by omega
 have hBx : ∀ X : World, Below W.heap.size W X → Below w0.heap.size w0 X := fun X h => hB.trans (h.mono hB.size)
 have hx : ∀ X : World, Below W.heap.size W X → (X.cell? ⟨cp, 0, none⟩ = some (.string cv.nm) ∧ X.cell? ⟨cp, 1, none⟩ = some (.int .i64 cv.o1) ∧ X.cell? ⟨cp, 2, none⟩ = some (.int .i64 cv.o2) ∧ X.cell? ⟨cp, 3, none⟩ = some (.slice (some ⟨b, o, none⟩) RN rc)) ∧
  (X.cell? ⟨b, o + i * 10, none⟩ = some (.string r.name) ∧ X.cell? ⟨b, o + i * 10 + 1, none⟩ = some (.int .u8 r.sort) ∧ X.cell? ⟨b, o + i * 10 + 2, none⟩ = some (.int .u8 r.body.kind) ∧ X.cell? ⟨b, o + i * 10 + 3, none⟩ = some (.string r.body.name) ∧ X.cell? ⟨b, o + i * 10 + 4, none⟩ = some (.string r.body.text) ∧
  X.cell? ⟨b, o + i * 10 + 5, none⟩ = some (.slice sa1 r.body.set.length sc1) ∧ X.cell? ⟨b, o + i * 10 + 6, none⟩ = some (.slice ba1 r.body.subs.length bc1) ∧ X.cell? ⟨b, o + i * 10 + 7, none⟩ = some (.int .i64 r.p0) ∧ X.cell? ⟨b, o + i * 10 + 8, none⟩ = some (.int .i64 r.p1) ∧ X.cell? ⟨b, o + i * 10 + 9, none⟩ = some (.int .i64 r.p2)) := fun X h => by
  have k := hK.below h hK.lt
  have hb := hBx X h
  have k0 := k.cell 0
  have k1 := k.cell 1
  have k2 := k.cell 2
  have k3 := k.cell 3
  simp at k0 k1 k2 k3
  exact ⟨⟨k0, k1, k2, k3⟩, Nd.cell_keeps hb a0, Nd.cell_keeps hb a1, Nd.cell_keeps hb a2, Nd.cell_keeps hb a3, Nd.cell_keeps hb a4, Nd.cell_keeps hb a5, Nd.cell_keeps hb a6, Nd.cell_keeps hb a7, Nd.cell_keeps hb a8, Nd.cell_keeps hb a9⟩
 have b2 := ((Below.refl W.heap.size W).alloc (Nat.le_refl _) (.cells #[.pointer (some ⟨cp, 0, none⟩)] 99)).alloc (by simp) (.cells #[.string ⟨#[]⟩, .int .i64 0, .int .i64 0, .slice none 0 0] 26)
 obtain ⟨⟨k0, k1, k2, k3⟩, m0, m1, m2, m3, m4, m5, m6, m7, m8, m9⟩ := hx _ b2
 have c0 := ((Bk.made W 99 #[.pointer (some ⟨cp, 0, none⟩)]).alloc (.cells #[.string ⟨#[]⟩, .int .i64 0, .int .i64 0, .slice none 0 0] 26)).cell 0
 have c0' := (((Bk.made W 99 #[.pointer (some ⟨cp, 0, none⟩)]).alloc (.cells #[.string ⟨#[]⟩, .int .i64 0, .int .i64 0, .slice none 0 0] 26)).alloc (.cells #[.string r.name, .int .u8 r.sort, .int .u8 r.body.kind, .string r.body.name, .string r.body.text, .slice sa1 r.body.set.length sc1, .slice ba1 r.body.subs.length bc1, .int .i64 r.p0, .int .i64 r.p1, .int .i64 r.p2] 38)).cell 0
 have b3 := b2.alloc (by simp; omega) (.cells #[.string r.name, .int .u8 r.sort, .int .u8 r.body.kind, .string r.body.name, .string r.body.text, .slice sa1 r.body.set.length sc1, .slice ba1 r.body.subs.length bc1, .int .i64 r.p0, .int .i64 r.p1, .int .i64 r.p2] 38)
 obtain ⟨⟨k0', k1', k2', k3'⟩, _⟩ := hx _ b3
 have b4 := b3.alloc (by simp; omega) (.cells (madeCells #[.bool false] RN) 4)
 have b5 := b4.alloc (by simp; omega) (.cells #[.slice (some ⟨W.heap.size + 1 + 1 + 1, 0, none⟩) RN RN] 52)
 have hbx5 : Bk (((((W.alloc (.cells #[.pointer (some ⟨cp, 0, none⟩)] 99)).alloc (.cells #[.string ⟨#[]⟩, .int .i64 0, .int .i64 0, .slice none 0 0] 26)).alloc (.cells #[.string r.name, .int .u8 r.sort, .int .u8 r.body.kind, .string r.body.name, .string r.body.text, .slice sa1 r.body.set.length sc1, .slice ba1 r.body.subs.length bc1, .int .i64 r.p0, .int .i64 r.p1, .int .i64 r.p2] 38)).alloc (.cells (madeCells #[.bool false] RN) 4)).alloc (.cells #[.slice (some ⟨W.heap.size + 1 + 1 + 1, 0, none⟩) RN RN] 52)) W.heap.size 99 #[.pointer (some ⟨cp, 0, none⟩)] ∧ Bk (((((W.alloc (.cells #[.pointer (some ⟨cp, 0, none⟩)] 99)).alloc (.cells #[.string ⟨#[]⟩, .int .i64 0, .int .i64 0, .slice none 0 0] 26)).alloc (.cells #[.string r.name, .int .u8 r.sort, .int .u8 r.body.kind, .string r.body.name, .string r.body.text, .slice sa1 r.body.set.length sc1, .slice ba1 r.body.subs.length bc1, .int .i64 r.p0, .int .i64 r.p1, .int .i64 r.p2] 38)).alloc (.cells (madeCells #[.bool false] RN) 4)).alloc (.cells #[.slice (some ⟨W.heap.size + 1 + 1 + 1, 0, none⟩) RN RN] 52)) (W.heap.size + 1) 26 #[.string ⟨#[]⟩, .int .i64 0, .int .i64 0, .slice none 0 0] ∧ Bk (((((W.alloc (.cells #[.pointer (some ⟨cp, 0, none⟩)] 99)).alloc (.cells #[.string ⟨#[]⟩, .int .i64 0, .int .i64 0, .slice none 0 0] 26)).alloc (.cells #[.string r.name, .int .u8 r.sort, .int .u8 r.body.kind, .string r.body.name, .string r.body.text, .slice sa1 r.body.set.length sc1, .slice ba1 r.body.subs.length bc1, .int .i64 r.p0, .int .i64 r.p1, .int .i64 r.p2] 38)).alloc (.cells (madeCells #[.bool false] RN) 4)).alloc (.cells #[.slice (some ⟨W.heap.size + 1 + 1 + 1, 0, none⟩) RN RN] 52)) (W.heap.size + 1 + 1) 38 #[.string r.name, .int .u8 r.sort, .int .u8 r.body.kind, .string r.body.name, .string r.body.text, .slice sa1 r.body.set.length sc1, .slice ba1 r.body.subs.length bc1, .int .i64 r.p0, .int .i64 r.p1, .int .i64 r.p2] ∧ Bk (((((W.alloc (.cells #[.pointer (some ⟨cp, 0, none⟩)] 99)).alloc (.cells #[.string ⟨#[]⟩, .int .i64 0, .int .i64 0, .slice none 0 0] 26)).alloc (.cells #[.string r.name, .int .u8 r.sort, .int .u8 r.body.kind, .string r.body.name, .string r.body.text, .slice sa1 r.body.set.length sc1, .slice ba1 r.body.subs.length bc1, .int .i64 r.p0, .int .i64 r.p1, .int .i64 r.p2] 38)).alloc (.cells (madeCells #[.bool false] RN) 4)).alloc (.cells #[.slice (some ⟨W.heap.size + 1 + 1 + 1, 0, none⟩) RN RN] 52)) (W.heap.size + 1 + 1 + 1) 4 (madeCells #[.bool false] RN) ∧ Bk (((((W.alloc (.cells #[.pointer (some ⟨cp, 0, none⟩)] 99)).alloc (.cells #[.string ⟨#[]⟩, .int .i64 0, .int .i64 0, .slice none 0 0] 26)).alloc (.cells #[.string r.name, .int .u8 r.sort, .int .u8 r.body.kind, .string r.body.name, .string r.body.text, .slice sa1 r.body.set.length sc1, .slice ba1 r.body.subs.length bc1, .int .i64 r.p0, .int .i64 r.p1, .int .i64 r.p2] 38)).alloc (.cells (madeCells #[.bool false] RN) 4)).alloc (.cells #[.slice (some ⟨W.heap.size + 1 + 1 + 1, 0, none⟩) RN RN] 52)) (W.heap.size + 1 + 1 + 1 + 1) 52 #[.slice (some ⟨W.heap.size + 1 + 1 + 1, 0, none⟩) RN RN] := by
  have q1 := ((((Bk.made W 99 #[.pointer (some ⟨cp, 0, none⟩)]).alloc (.cells #[.string ⟨#[]⟩, .int .i64 0, .int .i64 0, .slice none 0 0] 26)).alloc (.cells #[.string r.name, .int .u8 r.sort, .int .u8 r.body.kind, .string r.body.name, .string r.body.text, .slice sa1 r.body.set.length sc1, .slice ba1 r.body.subs.length bc1, .int .i64 r.p0, .int .i64 r.p1, .int .i64 r.p2] 38)).alloc (.cells (madeCells #[.bool false] RN) 4)).alloc (.cells #[.slice (some ⟨W.heap.size + 1 + 1 + 1, 0, none⟩) RN RN] 52)
  have q2 := (((Bk.made (W.alloc (.cells #[.pointer (some ⟨cp, 0, none⟩)] 99)) 26 #[.string ⟨#[]⟩, .int .i64 0, .int .i64 0, .slice none 0 0]).alloc (.cells #[.string r.name, .int .u8 r.sort, .int .u8 r.body.kind, .string r.body.name, .string r.body.text, .slice sa1 r.body.set.length sc1, .slice ba1 r.body.subs.length bc1, .int .i64 r.p0, .int .i64 r.p1, .int .i64 r.p2] 38)).alloc (.cells (madeCells #[.bool false] RN) 4)).alloc (.cells #[.slice (some ⟨W.heap.size + 1 + 1 + 1, 0, none⟩) RN RN] 52)
  have q3 := ((Bk.made ((W.alloc (.cells #[.pointer (some ⟨cp, 0, none⟩)] 99)).alloc (.cells #[.string ⟨#[]⟩, .int .i64 0, .int .i64 0, .slice none 0 0] 26)) 38 #[.string r.name, .int .u8 r.sort, .int .u8 r.body.kind, .string r.body.name, .string r.body.text, .slice sa1 r.body.set.length sc1, .slice ba1 r.body.subs.length bc1, .int .i64 r.p0, .int .i64 r.p1, .int .i64 r.p2]).alloc (.cells (madeCells #[.bool false] RN) 4)).alloc (.cells #[.slice (some ⟨W.heap.size + 1 + 1 + 1, 0, none⟩) RN RN] 52)
  have q4 := (Bk.made (((W.alloc (.cells #[.pointer (some ⟨cp, 0, none⟩)] 99)).alloc (.cells #[.string ⟨#[]⟩, .int .i64 0, .int .i64 0, .slice none 0 0] 26)).alloc (.cells #[.string r.name, .int .u8 r.sort, .int .u8 r.body.kind, .string r.body.name, .string r.body.text, .slice sa1 r.body.set.length sc1, .slice ba1 r.body.subs.length bc1, .int .i64 r.p0, .int .i64 r.p1, .int .i64 r.p2] 38)) 4 (madeCells #[.bool false] RN)).alloc (.cells #[.slice (some ⟨W.heap.size + 1 + 1 + 1, 0, none⟩) RN RN] 52)
  have q5 := Bk.made ((((W.alloc (.cells #[.pointer (some ⟨cp, 0, none⟩)] 99)).alloc (.cells #[.string ⟨#[]⟩, .int .i64 0, .int .i64 0, .slice none 0 0] 26)).alloc (.cells #[.string r.name, .int .u8 r.sort, .int .u8 r.body.kind, .string r.body.name, .string r.body.text, .slice sa1 r.body.set.length sc1, .slice ba1 r.body.subs.length bc1, .int .i64 r.p0, .int .i64 r.p1, .int .i64 r.p2] 38)).alloc (.cells (madeCells #[.bool false] RN) 4)) 52 #[.slice (some ⟨W.heap.size + 1 + 1 + 1, 0, none⟩) RN RN]
  simp only [World.size_alloc] at q2 q3 q4 q5
  exact ⟨q1, q2, q3, q4, q5⟩
 obtain ⟨hc5, hg5, hr5, ha5, hs5⟩ := hbx5
 have r2 := hr5.cell 2
 have r3 := hr5.cell 3
 have r4 := hr5.cell 4
 have r5 := hr5.cell 5
 have r6 := hr5.cell 6
 simp at c0 c0' r2 r3 r4 r5 r6
 have cN := fun w1 => (callsIn_wide (n := 3)).1 (names_in 3 r.body.kind r.body.name r.body.text sa1 ba1 r.body.set.length sc1 r.body.subs.length bc1 w1)
 refine (callsIn_wide (n := 4)).1 (callsIn_of_wp_marks Tryd.func63 rfl trivial ?_ rfl)
 simp only [Tryd.ntmps63, List.size_toArray, List.length_cons, List.length_nil, Nat.reduceAdd, Nat.reduceSub, Array.replicate_succ, Array.replicate_zero, List.push_toArray, List.append_toArray, List.nil_append, List.cons_append]
 refine wpIn_wide.2 ?_
 go_wp2_with (go_at_call 71; refine (cN _).mono ?_; clear cN; rintro e w' ⟨rfl, rfl⟩)
 -- the loop
 obtain ⟨V, hV⟩ : ∃ V, (((((W.alloc (.cells #[.pointer (some ⟨cp, 0, none⟩)] 99)).alloc (.cells #[.string ⟨#[]⟩, .int .i64 0, .int .i64 0, .slice none 0 0] 26)).alloc (.cells #[.string r.name, .int .u8 r.sort, .int .u8 r.body.kind, .string r.body.name, .string r.body.text, .slice sa1 r.body.set.length sc1, .slice ba1 r.body.subs.length bc1, .int .i64 r.p0, .int .i64 r.p1, .int .i64 r.p2] 38)).alloc (.cells (madeCells #[.bool false] RN) 4)).alloc (.cells #[.slice (some ⟨W.heap.size + 1 + 1 + 1, 0, none⟩) RN RN] 52)) = V := ⟨_, rfl⟩
 rw [hV] at hc5 hg5 hr5 ha5 hs5 b5
 rw [hV]
 have vs : V.heap.size = W.heap.size + 1 + 1 + 1 + 1 + 1 := by rw [← hV]; simp
 obtain ⟨Y, hY⟩ : ∃ Y, V.alloc (.cells #[.int .u8 r.body.kind, .string r.body.name, .string r.body.text, .slice sa1 r.body.set.length sc1, .slice ba1 r.body.subs.length bc1] 34) = Y := ⟨_, rfl⟩
 have ybY : Below V.heap.size V Y := by rw [← hY]; exact (Below.refl _ _).alloc (Nat.le_refl _) _
 have yB : Below W.heap.size W Y := b5.trans (ybY.mono b5.size)
 have y0 : Below w0.heap.size w0 Y := hBx Y yB
 have ybox : Bk Y (W.heap.size + 1 + 1 + 1 + 1 + 1) 34 #[.int .u8 r.body.kind, .string r.body.name, .string r.body.text, .slice sa1 r.body.set.length sc1, .slice ba1 r.body.subs.length bc1] := by rw [← vs, ← hY]; exact Bk.made _ _ _
 have hmade : madeCells #[.bool false] RN = bools (askF rs []) := by rw [made_bools, ← hRN]; rfl
 rw [hmade] at ha5
 have yI : (fun LL X => (Bk X W.heap.size 99 #[.pointer (some ⟨cp, 0, none⟩)] ∧ Bk X (W.heap.size + 1) 26 #[.string ⟨#[]⟩, .int .i64 0, .int .i64 0, .slice none 0 0] ∧ Bk X (W.heap.size + 1 + 1) 38 #[.string r.name, .int .u8 r.sort, .int .u8 r.body.kind, .string r.body.name, .string r.body.text, .slice sa1 r.body.set.length sc1, .slice ba1 r.body.subs.length bc1, .int .i64 r.p0, .int .i64 r.p1, .int .i64 r.p2] ∧ Bk X (W.heap.size + 1 + 1 + 1) 4 (bools (askF rs LL)) ∧ Bk X (W.heap.size + 1 + 1 + 1 + 1) 52 #[.slice (some ⟨W.heap.size + 1 + 1 + 1, 0, none⟩) RN RN])) ([] : List Nd.T) Y := ⟨hc5.below ybY hc5.lt, hg5.below ybY hg5.lt, hr5.below ybY hr5.lt, ha5.below ybY ha5.lt, hs5.below ybY hs5.lt⟩
 have hszY := y0.size
 have hsyY := yB.size
 have hYs : Y.heap.size = W.heap.size + 1 + 1 + 1 + 1 + 1 + 1 := by rw [← hY, World.size_alloc, vs]
 rw [hY]
 have HYS := Lib.hid hYs
 clear hYs vs
 clear hY hV ha5 hc5 hg5 hr5 hs5 ybY k0 k1 k2 k3 k0' k1' k2' k3' m0 m1 m2 m3 m4 m5 m6 m7 m8 m9 c0 c0' r2 r3 r4 r5 r6 b2 b3 b4 hmk
 refine (wpIn_wide (n := 4)).1 ?_
 refine range_all rfl (by omega) (gf := 84) (lb := #[.pointer (some ⟨W.heap.size + 1 + 1 + 1 + 1 + 1, 0, none⟩)]) rfl trivial (enters_of Tryd.func84 (by kernel_rfl) rfl)
  (names_all w0 (4 - 1) (by omega) r.body _ xs Y (W.heap.size + 1 + 1 + 1 + 1 + 1) hA hxs y0 ybox) (fun h k => h.trans k) (fun W l o o' hl h hc => KpN.put W l o o' (by omega) h hc) (Below.refl _ _) (fun _ => rfl)
  (fun pre X => (Bk X W.heap.size 99 #[.pointer (some ⟨cp, 0, none⟩)] ∧ Bk X (W.heap.size + 1) 26 #[.string ⟨#[]⟩, .int .i64 0, .int .i64 0, .slice none 0 0] ∧ Bk X (W.heap.size + 1 + 1) 38 #[.string r.name, .int .u8 r.sort, .int .u8 r.body.kind, .string r.body.name, .string r.body.text, .slice sa1 r.body.set.length sc1, .slice ba1 r.body.subs.length bc1, .int .i64 r.p0, .int .i64 r.p1, .int .i64 r.p2] ∧ Bk X (W.heap.size + 1 + 1 + 1) 4 (bools (askF rs (pre.map (·.1.1)))) ∧ Bk X (W.heap.size + 1 + 1 + 1 + 1) 52 #[.slice (some ⟨W.heap.size + 1 + 1 + 1, 0, none⟩) RN RN]) ∧ Below W.heap.size W X ∧ Y.heap.size ≤ X.heap.size)
  (OwnFrom.and (fun s A B row hs hg hr => ⟨hs.1.kept hg (fun r e => (hr r e).2), hs.2.1.kept hg (fun r e => (hr r e).2), hs.2.2.1.kept hg (fun r e => (hr r e).2), hs.2.2.2.1.kept hg (fun r e => (hr r e).2), hs.2.2.2.2.kept hg (fun r e => (hr r e).2)⟩) (OwnFrom.and (ownFrom_below (Nat.le_refl _) hsyY) (fun s A B row hs hg hr => Nat.le_trans hs hg.size)))
  ⟨yI, yB, Nat.le_refl _⟩
  (fun x a' X => ∃ Bx, Y.heap.size ≤ Bx ∧ Bk X Bx 34 x.1.2.cells ∧ a' = { tmps := #[.pointer (some ⟨cp, 0, none⟩), .int .i64 (i : Int), .pointer (some ⟨W.heap.size, 0, none⟩), undef, .pointer (some ⟨W.heap.size + 1, 0, none⟩), .pointer (some ⟨W.heap.size + 1 + 1, 0, none⟩), .pointer (some ⟨W.heap.size + 1 + 1 + 1 + 1, 0, none⟩), .pointer (some ⟨Bx, 0, none⟩), undef, undef, undef, .pointer (some ⟨cp, 0, none⟩), .pointer (some ⟨cp, 0, none⟩), .pointer (some ⟨cp, 0, none⟩), .pointer (some ⟨cp, 3, none⟩), .slice (some ⟨b, o, none⟩) RN rc, .int .i64 (i : Int), .pointer (some ⟨b, o + i * 10, none⟩), .agg #[.string r.name, .int .u8 r.sort, .int .u8 r.body.kind, .string r.body.name, .string r.body.text, .slice sa1 r.body.set.length sc1, .slice ba1 r.body.subs.length bc1, .int .i64 r.p0, .int .i64 r.p1, .int .i64 r.p2], .pointer (some ⟨cp, 0, none⟩), .pointer (some ⟨cp, 0, none⟩), .pointer (some ⟨cp, 0, none⟩), .pointer (some ⟨cp, 3, none⟩), .slice (some ⟨b, o, none⟩) RN rc, .int .i64 (RN : Int), .slice (some ⟨W.heap.size + 1 + 1 + 1, 0, none⟩) RN RN, .pointer (some ⟨W.heap.size + 1 + 1, 2, none⟩), .agg #[.int .u8 r.body.kind, .string r.body.name, .string r.body.text, .slice sa1 r.body.set.length sc1, .slice ba1 r.body.subs.length bc1], .func (.func 84) #[] #[.pointer (some ⟨W.heap.size + 1 + 1 + 1 + 1 + 1, 0, none⟩)], x.1.2, undef, undef, undef, undef, undef, undef, undef, undef, undef, undef, undef, undef, undef, undef, undef, undef, undef, undef, undef, undef, undef, undef, undef, undef, undef, undef, undef, undef, undef, undef, undef, undef, undef, undef, undef, undef, undef, undef, undef, undef, undef, undef, undef, undef, undef, undef, undef, undef, undef, undef, undef, undef, undef, undef, undef, undef], defers := [] })
  (fun x a' s X Z row hs hg hr => by
   obtain ⟨Bx, h1, h2, h3⟩ := hs
   exact ⟨Bx, h1, h2.kept hg (fun r e => (hr r e).2), h3⟩) ?assign ?body ?done
 case assign =>
  rintro l' pre x X K ⟨⟨i1, i2, i3, i4, i5⟩, iB, iS⟩ hK
  have hws : w0.heap.size ≤ X.heap.size := by have := hB.size; have := iB.size; omega
  have hbm := Bk.made X 34 x.1.2.cells
  have hfin := hK
  simp only [encN]
  obtain ⟨sa2, sc2, ba2, bc2, hxv, _⟩ := x.2.form
  rw [hxv] at hbm
  gi_wp2
  exact hK _ _ ((KeepsOthers.alloc _ _).from _) (KpN.alloc X hws _) ⟨⟨i1.alloc _, i2.alloc _, i3.alloc _, i4.alloc _, i5.alloc _⟩, iB.alloc iB.size _, by rw [World.size_alloc]; omega⟩ ⟨X.heap.size, iS, by rw [hxv]; exact hbm, by rw [hxv]⟩
 case body =>
  rintro l pre ⟨⟨tt, vv⟩, hx1⟩ a' X ⟨⟨i1, i2, i3, i4, i5⟩, iB, iS⟩ ⟨Bx, hBx2, hbx, rfl⟩ hlt
  dsimp only at hx1 hbx ⊢
  have hsn := askF_snoc rs (pre.map (·.1.1)) tt
  have hmap : (pre ++ [(⟨(tt, vv), hx1⟩ : ItN w0)]).map (·.1.1) = pre.map (·.1.1) ++ [tt] := by rw [List.map_append, List.map_singleton]
  have hws : w0.heap.size ≤ X.heap.size := by have := hB.size; have := iB.size; omega
  have hXb : ∀ X2, Below X.heap.size X X2 → Below W.heap.size W X2 := fun X2 h => iB.trans (h.mono iB.size)
  refine wpIn_mono (Q := ownPostG Y.heap.size (KpC w0.heap.size Y.heap.size) (fun (_ : List Unit) X => (Bk X W.heap.size 99 #[.pointer (some ⟨cp, 0, none⟩)] ∧ Bk X (W.heap.size + 1) 26 #[.string ⟨#[]⟩, .int .i64 0, .int .i64 0, .slice none 0 0] ∧ Bk X (W.heap.size + 1 + 1) 38 #[.string r.name, .int .u8 r.sort, .int .u8 r.body.kind, .string r.body.name, .string r.body.text, .slice sa1 r.body.set.length sc1, .slice ba1 r.body.subs.length bc1, .int .i64 r.p0, .int .i64 r.p1, .int .i64 r.p2] ∧ Bk X (W.heap.size + 1 + 1 + 1) 4 (bools (match fnd rs tt.name with | some to => (askF rs (pre.map (·.1.1))).set to true | none => askF rs (pre.map (·.1.1)))) ∧ Bk X (W.heap.size + 1 + 1 + 1 + 1) 52 #[.slice (some ⟨W.heap.size + 1 + 1 + 1, 0, none⟩) RN RN]) ∧ Below W.heap.size W X ∧ Y.heap.size ≤ X.heap.size) (fun _ _ _ => False) [] X) ?_ (fun e a W' h => by
   rw [← hsn, ← hmap] at h
   cases e <;> exact h)
  have HFd := Lib.hid (fun X2 (h : Below X.heap.size X X2) => (Find_any cv.nm cv.o1 cv.o2 rs _ tt.name X2 (GrV2_below hS.gr (hBx X2 (hXb X2 h)))).mono (R' := fun e w' => e = .returned (.int .i64 (whereI (fnd rs tt.name))) ∧ Below X.heap.size X w') fun e w' ⟨h1, h2⟩ => ⟨h1, h.trans (h2.mono h.size)⟩)
  rw [e1.1, e1.2.1, e1.2.2, hRN] at HFd
  have HLT := Lib.hid (fun k (h : fnd rs tt.name = some k) => fnd_lt h)
  rw [hRN] at HLT
  obtain ⟨sa2, sc2, ba2, bc2, rfl, _⟩ := hx1.form
  have HKX := Lib.hid (fun X2 (h : Below X.heap.size X X2) => show (X2.cell? ⟨W.heap.size, 0, none⟩ = some (.pointer (some ⟨cp, 0, none⟩)) ∧ X2.cell? ⟨Bx, 1, none⟩ = some (.string tt.name)) ∧ X2.cell? ⟨cp, 0, none⟩ = some (.string cv.nm) ∧ X2.cell? ⟨cp, 1, none⟩ = some (.int .i64 cv.o1) ∧ X2.cell? ⟨cp, 2, none⟩ = some (.int .i64 cv.o2) ∧ X2.cell? ⟨cp, 3, none⟩ = some (.slice (some ⟨b, o, none⟩) RN rc) from ⟨⟨(i1.below h i1.lt).cell 0, (hbx.below h hbx.lt).cell 1⟩, (hx X2 (hXb X2 h)).1⟩)
  have HI := Lib.hid (fun X2 (h : Below X.heap.size X X2) => (And.intro (i1.below h i1.lt) (And.intro (i2.below h i2.lt) (And.intro (i3.below h i3.lt) (And.intro (i4.below h i4.lt) (i5.below h i5.lt))))))
  have HXB := Lib.hid hXb
  have hln : (askF rs (pre.map (·.1.1))).length = RN := by rw [askF_len, hRN]
  clear hsn hmap hXb hx hbx i1 i2 i3 i4 i5 hlt hxs hA hS
  generalize askF rs (pre.map (·.1.1)) = AF at *
  generalize hfn : fnd rs tt.name = fn at *
  generalize tt.name = tn at *
  obtain ⟨⟨q00, q02⟩, k0, k1, k2, k3⟩ := HKX.out X (Below.refl _ _)
  gi_wp2
  refine wpIn_mono (Q := fun e a' w' => e = .normal ∧ ∃ z0 z1 z3 z4 z5 z7 z9 z10 z11 z12 z13 z14 z15 z16 z17 z18 z19 z20 z21 z22 z23 z24 z25 z26 z27 z28 z29 u30 u31 u32 u33 u34 u35 u36 : Value, Below X.heap.size X w' ∧ a' = { tmps := #[z0, z1, .pointer (some ⟨W.heap.size, 0, none⟩), z3, z4, z5, .pointer (some ⟨W.heap.size + 1 + 1 + 1 + 1, 0, none⟩), z7, .int .i64 (whereI fn), z9, z10, z11, z12, z13, z14, z15, z16, z17, z18, z19, z20, z21, z22, z23, z24, z25, z26, z27, z28, z29, u30, u31, u32, u33, u34, u35, u36, undef, undef, undef, undef, undef, undef, undef, undef, undef, undef, undef, undef, undef, undef, undef, undef, undef, undef, undef, undef, undef, undef, undef, undef, undef, undef, undef, undef, undef, undef, undef, undef, undef, undef, undef, undef, undef, undef, undef, undef, undef, undef, undef, undef, undef, undef, undef, undef, undef], defers := [] }) ?reg5 ?rest5
  case reg5 =>
   refine round_held (S := fun w' : World => (w'.cell? ⟨W.heap.size, 0, none⟩ = some (.pointer (some ⟨cp, 0, none⟩)) ∧ w'.cell? ⟨Bx, 1, none⟩ = some (.string tn)) ∧ w'.cell? ⟨cp, 0, none⟩ = some (.string cv.nm) ∧ w'.cell? ⟨cp, 1, none⟩ = some (.int .i64 cv.o1) ∧ w'.cell? ⟨cp, 2, none⟩ = some (.int .i64 cv.o2) ∧ w'.cell? ⟨cp, 3, none⟩ = some (.slice (some ⟨b, o, none⟩) RN rc)) (by kernel_rfl) (by kernel_rfl) (fun ⟨_, _, h⟩ => by cases h.1) ⟨⟨q00, q02⟩, k0, k1, k2, k3⟩ (fun hSS => ?_)
   show wpAnyH _ _ _ _ _ 8 #[false, false, false, false, false, false, false, false] _ _
   refine zqT 0 (some 30) _ (zqF 8 1) (by rw [List.getElem?_toArray]; rfl) rfl (by kernel_rfl) rfl (fun _ _ _ h => by cases h.1) (Or.inl ⟨by rfl, fun w' hSw => by (try dsimp only at hSw); go_simp; try with_reducible rfl⟩) hSS ?_
   simp only [zqN]
   refine zqT 1 (some 31) _ (zqF 8 2) (by rw [List.getElem?_toArray]; rfl) rfl (by kernel_rfl) rfl (fun _ _ _ h => by cases h.1) (Or.inl ⟨by rfl, fun w' hSw => by (try dsimp only at hSw); go_simp; try with_reducible rfl⟩) hSS ?_
   simp only [zqN]
   refine zqT 2 (some 32) _ (zqF 8 3) (by rw [List.getElem?_toArray]; rfl) rfl (by kernel_rfl) rfl (fun _ _ _ h => by cases h.1) (Or.inl ⟨by rfl, fun w' hSw => by (try dsimp only at hSw); go_simp; try with_reducible rfl⟩) hSS ?_
   simp only [zqN]
   refine zqT 3 (some 33) _ (zqF 8 4) (by rw [List.getElem?_toArray]; rfl) rfl (by kernel_rfl) rfl (fun _ _ _ h => by cases h.1) (Or.inl ⟨by rfl, fun w' hSw => by (try dsimp only at hSw); go_simp; try with_reducible rfl⟩) hSS ?_
   simp only [zqN]
   refine zqT 4 (some 34) _ (zqF 8 5) (by rw [List.getElem?_toArray]; rfl) rfl (by kernel_rfl) rfl (fun _ _ _ h => by cases h.1) (Or.inl ⟨by rfl, fun w' hSw => by (try dsimp only at hSw); go_simp; try with_reducible rfl⟩) hSS ?_
   simp only [zqN]
   refine zqT 5 (some 35) _ (zqF 8 6) (by rw [List.getElem?_toArray]; rfl) rfl (by kernel_rfl) rfl (fun _ _ _ h => by cases h.1) (Or.inl ⟨by rfl, fun w' hSw => by (try dsimp only at hSw); go_simp; try with_reducible rfl⟩) hSS ?_
   simp only [zqN]
   refine come_one (i := 6) (l' := (zqF 8 7)) (by rw [List.getElem?_toArray]; rfl) (by kernel_rfl) rfl (fun K' hK => ?_)
   go_simp
   go_at_call 25; refine (HFd.out _ (Below.refl _ _).drew).mono ?_; rintro e X2 ⟨rfl, hb2⟩
   refine hK.out _ _ (HKX.out X2 hb2) (fun hSS => ?_)
   try simp only [zqN]
   refine zqT 7 (some 8) _ (zqF 8 8) (by rw [List.getElem?_toArray]; rfl) rfl (by kernel_rfl) rfl (fun _ _ _ h => by cases h.1) (Or.inl ⟨by rfl, fun w' hSw => by (try dsimp only at hSw); go_simp; try with_reducible rfl⟩) hSS ?_
   simp only [zqN]
   refine wpAnyH_done (by kernel_rfl) ?_ _
   exact ⟨rfl, _, _, _, _, _, _, _, _, _, _, _, _, _, _, _, _, _, _, _, _, _, _, _, _, _, _, _, _, _, _, _, _, _, _, hb2, rfl⟩
  case rest5 =>
   rintro e a' X2 ⟨rfl, z0, z1, z3, z4, z5, z7, z9, z10, z11, z12, z13, z14, z15, z16, z17, z18, z19, z20, z21, z22, z23, z24, z25, z26, z27, z28, z29, u30, u31, u32, u33, u34, u35, u36, hb2, rfl⟩
   obtain ⟨j1, j2, j3, j4, j5⟩ := HI.out X2 hb2
   have g0 := j5.cell 0
   simp at g0
   clear k0 k1 k2 k3 q00 q02
   cases fn with
   | none =>
    simp only [whereI]
    gi_wp2
    exact ⟨(Tl.below (n₀ := w0.heap.size) hws hb2).keeps, KpN.below hws hb2, ⟨j1, j2, j3, j4, j5⟩, HXB.out X2 hb2, Nat.le_trans iS hb2.size⟩
   | some k =>
    have hk := HLT.out k rfl
    have p1 : (0 : Int) ≤ (k : Int) := by omega
    have p2 : (k : Int) < (RN : Int) := by omega
    have d1 : decide ((0 : Int) ≤ (k : Int)) = true := decide_eq_true p1
    have f4 := j4.free k
    have c4 := j4.cell k
    rw [bools_get (by rw [hln]; exact hk)] at c4
    simp only [whereI]
    gi_wp2
    have hne : w0.heap.size ≤ W.heap.size := hB.size
    have hlb : (⟨W.heap.size + 1 + 1 + 1, k, none⟩ : Addr).block < Y.heap.size := by rw [HYS.out]; show W.heap.size + 1 + 1 + 1 < _; omega
    have j4' := j4.set k (.bool true)
    rw [bools_set] at j4'
    exact ⟨((Tl.below (n₀ := w0.heap.size) hws hb2).keeps).trans ((KeepsOthers.setCell _ _ _).from _), (KpN.below hws hb2).trans (KpN.setCell _ _ _ (by show w0.heap.size ≤ W.heap.size + 1 + 1 + 1; omega) hlb),
     ⟨j1.other _ _ (by simp; omega), j2.other _ _ (by simp), j3.other _ _ (by simp), j4', j5.other _ _ (by simp)⟩, (HXB.out X2 hb2).setCell (by simp; omega) _, by rw [World.size_setCell]; exact Nat.le_trans iS hb2.size⟩
 case done =>
  rintro D Z hD ⟨⟨i1, i2, i3, i4, i5⟩, iB, iS⟩ hDf
  rw [fltN_nam hxs, askF_all] at i4
  obtain ⟨eb, hem, hbe⟩ := hS.em
  rw [hem, hRN] at hK
  obtain ⟨AS, hAS⟩ : ∃ l, asked rs r.body = l := ⟨_, rfl⟩
  obtain ⟨EM, hEM⟩ : ∃ l, emp rs = l := ⟨_, rfl⟩
  have las : AS.length = RN := by rw [← hAS, ← askF_all, askF_len, hRN]
  have lem : EM.length = RN := by rw [← hEM, emp_len, hRN]
  have hSH : short rs r = shortF EM AS 0 rs ++ [⟨⟨#[]⟩, r.sort, stand false, 0, 0, 0⟩] := by rw [← hAS, ← hEM]; rfl
  rw [hEM] at hbe
  rw [hAS] at i4
  have hsY : W.heap.size + 1 < Y.heap.size := by rw [HYS.out]; omega
  have gS : ShG (W.heap.size + 1) Y.heap.size (flatS EM AS 0 (rs.take 0)) (shortF EM AS 0 (rs.take 0)).length (.slice none 0 0) Z := ⟨i2, World.ownsRow_nil _ _ _ _⟩
  have HX := Lib.hid (fun X (h : Below W.heap.size W X) => show (X.cell? ⟨cp, 0, none⟩ = some (.string cv.nm) ∧ X.cell? ⟨cp, 1, none⟩ = some (.int .i64 cv.o1) ∧ X.cell? ⟨cp, 2, none⟩ = some (.int .i64 cv.o2) ∧ X.cell? ⟨cp, 3, none⟩ = some (.slice (some ⟨b, o, none⟩) RN rc) ∧ X.cell? ⟨cp, 4, none⟩ = some (.slice (some ⟨eb, 0, none⟩) RN RN)) ∧ Bk X eb 4 (bools EM) from by
   have k := hK.below h hK.lt
   have k0 := k.cell 0
   have k1 := k.cell 1
   have k2 := k.cell 2
   have k3 := k.cell 3
   have k4 := k.cell 4
   simp at k0 k1 k2 k3 k4
   exact ⟨⟨k0, k1, k2, k3, k4⟩, hbe.below (hBx X h) hbe.lt⟩)
  have HBX := Lib.hid hBx
  have HCP := Lib.hid (fun X (h : Below W.heap.size W X) => show cp < X.heap.size from (hK.below h hK.lt).lt)
  have HCL := Lib.hid (show cp < W.heap.size ∧ eb < W.heap.size from ⟨hK.lt, Nat.lt_of_lt_of_le hbe.lt hB.size⟩)
  have HR := Lib.hid hR
  have HSH := Lib.hid hSH
  have HRN := Lib.hid hRN
  have HLA := Lib.hid (And.intro las lem)
  have HSM := Lib.hid hsm
  have HWZ := Lib.hid hB.size
  have HSR := Lib.hid hsr
  clear hx hBx hSH hRN las lem hsm hK hbe hR hS hA hxs hAS hEM hem hns hsr b5 y0 yB ybox hmade yI hszY a0 a1 a2 a3 a4 a5 a6 a7 a8 a9 hr hgv e1 hB
  obtain ⟨⟨k0, k1, k2, k3, k4⟩, _⟩ := HX.out Z iB
  have c0 := i1.cell 0
  simp at c0
  gi_wp2
  go_wp2_with fail
  clear k0 k1 k2 k3 k4 c0
  go_loopw [48] (fun i wr => ∃ p : Nat, p ≤ RN ∧ i = .int .i64 p ∧ (∃ v, ShG (W.heap.size + 1) Y.heap.size (flatS EM AS 0 (rs.take p)) (shortF EM AS 0 (rs.take p)).length v wr) ∧ Bk wr W.heap.size 99 #[.pointer (some ⟨cp, 0, none⟩)] ∧ Bk wr (W.heap.size + 1 + 1) 38 #[.string r.name, .int .u8 r.sort, .int .u8 r.body.kind, .string r.body.name, .string r.body.text, .slice sa1 r.body.set.length sc1, .slice ba1 r.body.subs.length bc1, .int .i64 r.p0, .int .i64 r.p1, .int .i64 r.p2] ∧ Bk wr (W.heap.size + 1 + 1 + 1) 4 (bools AS) ∧ Bk wr (W.heap.size + 1 + 1 + 1 + 1) 52 #[.slice (some ⟨W.heap.size + 1 + 1 + 1, 0, none⟩) RN RN] ∧ wr.heap[D]? = some (.deferred (some [])) ∧ Below W.heap.size W wr ∧ Y.heap.size ≤ wr.heap.size) (fun i _ => RN - (intOf i).toNat)
  case atStart => exact ⟨0, Nat.zero_le _, rfl, ⟨_, gS⟩, i1, i3, i4, i5, hDf, iB, iS⟩
  case round =>
   clear gS i1 i2 i3 i4 i5 hDf iB iS
   obtain ⟨p, hp, rfl, ⟨v, hG⟩, i1, i3, i4, i5, hDf, iB, iS⟩ := hrel
   by_cases hlt2 : p < RN
   · have d2 : decide (p < RN) = true := by rw [decide_eq_true_iff]; exact hlt2
     have p0' : (p : Int) < (RN : Int) := by omega
     obtain ⟨q, hq⟩ : ∃ q, rs[p]? = some q := ⟨_, List.getElem?_eq_getElem (by rw [HRN.out]; exact hlt2)⟩
     obtain ⟨b', o', eb', v0, v1, v2, v3, v4, d0, d1, d2', d3, d4, d5, d6, d7, d8, d9, hAq, hsq, hnq⟩ := HR.out p q hq
     have ebo : b = b' ∧ o = o' := by simpa using eb'
     obtain ⟨rfl, rfl⟩ := ebo
     obtain ⟨sa2, sc2, ba2, bc2, rfl, rfl, rfl, rfl, rfl⟩ := hAq.five
     have hb0 := HBX.out wr iB
     have e0 := Nd.cell_keeps hb0 d0
     have e1 := Nd.cell_keeps hb0 d1
     have e2 := Nd.cell_keeps hb0 d2'
     have e3 := Nd.cell_keeps hb0 d3
     have e4 := Nd.cell_keeps hb0 d4
     have e5 := Nd.cell_keeps hb0 d5
     have e6 := Nd.cell_keeps hb0 d6
     have e7 := Nd.cell_keeps hb0 d7
     have e8 := Nd.cell_keeps hb0 d8
     have e9 := Nd.cell_keeps hb0 d9
     have ft := flatS_take EM AS rs hq
     have st := shortF_take EM AS rs hq
     have g5 := (i5.alloc (.cells #[.string q.name, .int .u8 q.sort, .int .u8 q.body.kind, .string q.body.name, .string q.body.text, .slice sa2 q.body.set.length sc2, .slice ba2 q.body.subs.length bc2, .int .i64 q.p0, .int .i64 q.p1, .int .i64 q.p2] 38)).cell 0
     have g4 := (i4.alloc (.cells #[.string q.name, .int .u8 q.sort, .int .u8 q.body.kind, .string q.body.name, .string q.body.text, .slice sa2 q.body.set.length sc2, .slice ba2 q.body.subs.length bc2, .int .i64 q.p0, .int .i64 q.p1, .int .i64 q.p2] 38)).cell p
     rw [bools_get (by rw [HLA.out.1]; exact hlt2)] at g4
     simp at g5
     have bb : Below wr.heap.size wr (wr.alloc (.cells #[.string q.name, .int .u8 q.sort, .int .u8 q.body.kind, .string q.body.name, .string q.body.text, .slice sa2 q.body.set.length sc2, .slice ba2 q.body.subs.length bc2, .int .i64 q.p0, .int .i64 q.p1, .int .i64 q.p2] 38)) := (Below.refl _ _).alloc (Nat.le_refl _) _
     have DB : (wr.alloc (.cells #[.string q.name, .int .u8 q.sort, .int .u8 q.body.kind, .string q.body.name, .string q.body.text, .slice sa2 q.body.set.length sc2, .slice ba2 q.body.subs.length bc2, .int .i64 q.p0, .int .i64 q.p1, .int .i64 q.p2] 38)).heap[D]? = some (.deferred (some [])) := by rw [bb.block D (Array.getElem?_eq_some_iff.1 hDf).1]; exact hDf
     clear d0 d1 d2' d3 d4 d5 d6 d7 d8 d9 hAq eb' hb0
     cases hAp : AS.getD p false with
     | false =>
      rw [hAp] at g4 ft st
      simp only [Bool.false_eq_true, if_false, List.append_nil] at ft st
      go_wp2_with fail
      refine ⟨⟨p + 1, by omega, by go_num, ⟨v, by rw [ft, st]; exact hG.below bb⟩, i1.alloc _, i3.alloc _, i4.alloc _, i5.alloc _, DB, iB.alloc iB.size _, by rw [World.size_alloc]; omega⟩, by simp [intOf]; omega⟩
     | true =>
      rw [hAp] at g4 ft st
      simp only [if_true] at ft st
      obtain ⟨SN, hSN⟩ : ∃ n, (shortF EM AS 0 (rs.take p)).length = n := ⟨_, rfl⟩
      have hSNl : (shortF EM AS 0 (rs.take (p + 1))).length = SN + 1 := by rw [st, List.length_append, hSN]; rfl
      rw [hSN] at hG
      have HSN := Lib.hid (show SN ≤ 1000 from by have h1 := shortF_len EM AS (rs.take p) 0; have h2 := HSM.out.1; rw [List.length_take] at h1; omega)
      obtain ⟨KB, hKB⟩ : ∃ k : Int, (if EM.getD p false = true then 1 else 0) = k := ⟨_, rfl⟩
      have hGA := hG.below bb
      obtain ⟨WR, hWR⟩ : ∃ X, wr.alloc (.cells #[.string q.name, .int .u8 q.sort, .int .u8 q.body.kind, .string q.body.name, .string q.body.text, .slice sa2 q.body.set.length sc2, .slice ba2 q.body.subs.length bc2, .int .i64 q.p0, .int .i64 q.p1, .int .i64 q.p2] 38) = X := ⟨_, rfl⟩
      have hsR : WR.heap.size = wr.heap.size + 1 := by rw [← hWR, World.size_alloc]
      have j0 := Bk.made wr 38 #[.string q.name, .int .u8 q.sort, .int .u8 q.body.kind, .string q.body.name, .string q.body.text, .slice sa2 q.body.set.length sc2, .slice ba2 q.body.subs.length bc2, .int .i64 q.p0, .int .i64 q.p1, .int .i64 q.p2]
      have j1 := i1.alloc (.cells #[.string q.name, .int .u8 q.sort, .int .u8 q.body.kind, .string q.body.name, .string q.body.text, .slice sa2 q.body.set.length sc2, .slice ba2 q.body.subs.length bc2, .int .i64 q.p0, .int .i64 q.p1, .int .i64 q.p2] 38)
      have j3 := i3.alloc (.cells #[.string q.name, .int .u8 q.sort, .int .u8 q.body.kind, .string q.body.name, .string q.body.text, .slice sa2 q.body.set.length sc2, .slice ba2 q.body.subs.length bc2, .int .i64 q.p0, .int .i64 q.p1, .int .i64 q.p2] 38)
      have j4 := i4.alloc (.cells #[.string q.name, .int .u8 q.sort, .int .u8 q.body.kind, .string q.body.name, .string q.body.text, .slice sa2 q.body.set.length sc2, .slice ba2 q.body.subs.length bc2, .int .i64 q.p0, .int .i64 q.p1, .int .i64 q.p2] 38)
      have j5 := i5.alloc (.cells #[.string q.name, .int .u8 q.sort, .int .u8 q.body.kind, .string q.body.name, .string q.body.text, .slice sa2 q.body.set.length sc2, .slice ba2 q.body.subs.length bc2, .int .i64 q.p0, .int .i64 q.p1, .int .i64 q.p2] 38)
      have hBR := iB.trans (bb.mono iB.size)
      rw [hWR] at g4 g5 j0 j1 j3 j4 j5 hGA hBR DB
      go_wp2_with fail
      obtain ⟨i0, hi0, hz0, hz1, hz2⟩ := info_parts infoRule6
      have HCS := Lib.hid (fun X2 (h : Below WR.heap.size WR X2) => show X2.cell? ⟨wr.heap.size, 0, none⟩ = some (.string q.name) ∧ X2.cell? ⟨wr.heap.size, 1, none⟩ = some (.int .u8 q.sort) ∧ X2.cell? ⟨W.heap.size, 0, none⟩ = some (.pointer (some ⟨cp, 0, none⟩)) ∧ X2.cell? ⟨cp, 4, none⟩ = some (.slice (some ⟨eb, 0, none⟩) RN RN) ∧ X2.cell? ⟨eb, p, none⟩ = some (.bool (EM.getD p false)) from by
       have h1 := (j0.below h j0.lt).cell 0
       have h2 := (j0.below h j0.lt).cell 1
       have h3 := (j1.below h j1.lt).cell 0
       have h4 := HX.out X2 (hBR.trans (h.mono hBR.size))
       have h5 := h4.2.cell p
       rw [bools_get (by rw [HLA.out.2]; exact hlt2)] at h5
       simp at h1 h2 h3
       exact ⟨h1, h2, h3, h4.1.2.2.2.2, h5⟩)
      have HVC := Lib.hid (fun X2 (h : Below WR.heap.size WR X2) => show X2.cell? ⟨W.heap.size + 1, 3, none⟩ = some v from by have := (hGA.below h).1.cell 3; simpa using this)
      have HCG := Lib.hid (fun (w9 w11 : World) (x : Value) (hb : Below WR.heap.size WR w9) (hg : (w9.alloc (.cells #[.string q.name, .int .u8 q.sort, .int .u8 KB, .string ⟨#[]⟩, .string ⟨#[]⟩, .slice none 0 0, .slice none 0 0, .int .i64 0, .int .i64 0, .int .i64 0] 38)).grownBy w11 v.ownBlock) => show (w11.cell? ⟨wr.heap.size, 0, none⟩ = some (.string q.name) ∧ w11.cell? ⟨wr.heap.size, 1, none⟩ = some (.int .u8 q.sort) ∧ w11.cell? ⟨W.heap.size, 0, none⟩ = some (.pointer (some ⟨cp, 0, none⟩)) ∧ w11.cell? ⟨cp, 4, none⟩ = some (.slice (some ⟨eb, 0, none⟩) RN RN) ∧ w11.cell? ⟨eb, p, none⟩ = some (.bool (EM.getD p false))) ∧ ((w11.setCell ⟨W.heap.size + 1, 3, none⟩ x).cell? ⟨wr.heap.size, 0, none⟩ = some (.string q.name) ∧ (w11.setCell ⟨W.heap.size + 1, 3, none⟩ x).cell? ⟨wr.heap.size, 1, none⟩ = some (.int .u8 q.sort) ∧ (w11.setCell ⟨W.heap.size + 1, 3, none⟩ x).cell? ⟨W.heap.size, 0, none⟩ = some (.pointer (some ⟨cp, 0, none⟩)) ∧ (w11.setCell ⟨W.heap.size + 1, 3, none⟩ x).cell? ⟨cp, 4, none⟩ = some (.slice (some ⟨eb, 0, none⟩) RN RN) ∧ (w11.setCell ⟨W.heap.size + 1, 3, none⟩ x).cell? ⟨eb, p, none⟩ = some (.bool (EM.getD p false))) from by
       have hx := HCS.out _ (hb.alloc hb.size (.cells #[.string q.name, .int .u8 q.sort, .int .u8 KB, .string ⟨#[]⟩, .string ⟨#[]⟩, .slice none 0 0, .slice none 0 0, .int .i64 0, .int .i64 0, .int .i64 0] 38))
       have hov : ∀ k, v.ownBlock = some k → Y.heap.size ≤ k ∧ k < wr.heap.size := fun k e => hG.2.lt k e
       have hby : ∀ (k : Nat), k < WR.heap.size → (k < Y.heap.size ∨ k = wr.heap.size) → w11.heap[k]? = (w9.alloc (.cells #[.string q.name, .int .u8 q.sort, .int .u8 KB, .string ⟨#[]⟩, .string ⟨#[]⟩, .slice none 0 0, .slice none 0 0, .int .i64 0, .int .i64 0, .int .i64 0] 38)).heap[k]? := fun k h1 h2 => hg.block k (by have := hb.size; simp; omega) (fun e => by have := hov k e.symm; omega)
       have l1 := (HX.out WR hBR).2.lt
       have l2 : cp < WR.heap.size := HCP.out WR hBR
       have key : w11.cell? ⟨wr.heap.size, 0, none⟩ = some (.string q.name) ∧ w11.cell? ⟨wr.heap.size, 1, none⟩ = some (.int .u8 q.sort) ∧ w11.cell? ⟨W.heap.size, 0, none⟩ = some (.pointer (some ⟨cp, 0, none⟩)) ∧ w11.cell? ⟨cp, 4, none⟩ = some (.slice (some ⟨eb, 0, none⟩) RN RN) ∧ w11.cell? ⟨eb, p, none⟩ = some (.bool (EM.getD p false)) := ⟨(World.cell?_of_block (hby _ (by show wr.heap.size < _; omega) (.inr rfl))).trans hx.1, (World.cell?_of_block (hby _ (by show wr.heap.size < _; omega) (.inr rfl))).trans hx.2.1, (World.cell?_of_block (hby _ (by show W.heap.size < _; have := hBR.size; omega) (.inl (by show W.heap.size < _; omega)))).trans hx.2.2.1, (World.cell?_of_block (hby _ l2 (.inl (by show cp < _; have := HCL.out.1; omega)))).trans hx.2.2.2.1, (World.cell?_of_block (hby _ l1 (.inl (by show eb < _; have := HCL.out.2; omega)))).trans hx.2.2.2.2⟩
       refine ⟨key, ?_, ?_, ?_, ?_, ?_⟩
       · rw [← key.1]; exact World.cell?_of_block (Below.heap_setCell _ _ _ _ (by show wr.heap.size ≠ W.heap.size + 1; omega))
       · rw [← key.2.1]; exact World.cell?_of_block (Below.heap_setCell _ _ _ _ (by show wr.heap.size ≠ W.heap.size + 1; omega))
       · rw [← key.2.2.1]; exact World.cell?_of_block (Below.heap_setCell _ _ _ _ (by show W.heap.size ≠ W.heap.size + 1; omega))
       · rw [← key.2.2.2.1]; exact World.cell?_of_block (Below.heap_setCell _ _ _ _ (by show cp ≠ W.heap.size + 1; have := HCL.out.1; omega))
       · rw [← key.2.2.2.2]; exact World.cell?_of_block (Below.heap_setCell _ _ _ _ (by show eb ≠ W.heap.size + 1; have := HCL.out.2; omega)))
      have hC := Lib.hid (fun wx (h : Below WR.heap.size WR wx) => (stand_any (EM.getD p false) wx).mono (R' := fun e w' => e = .returned (.agg #[.int .u8 KB, .string ⟨#[]⟩, .string ⟨#[]⟩, .slice none 0 0, .slice none 0 0]) ∧ Below WR.heap.size WR w' ∧ (w'.cell? ⟨wr.heap.size, 0, none⟩ = some (.string q.name) ∧ w'.cell? ⟨wr.heap.size, 1, none⟩ = some (.int .u8 q.sort) ∧ w'.cell? ⟨W.heap.size, 0, none⟩ = some (.pointer (some ⟨cp, 0, none⟩)) ∧ w'.cell? ⟨cp, 4, none⟩ = some (.slice (some ⟨eb, 0, none⟩) RN RN) ∧ w'.cell? ⟨eb, p, none⟩ = some (.bool (EM.getD p false))) ∧ ((w'.alloc (.cells #[.string q.name, .int .u8 q.sort, .int .u8 KB, .string ⟨#[]⟩, .string ⟨#[]⟩, .slice none 0 0, .slice none 0 0, .int .i64 0, .int .i64 0, .int .i64 0] 38)).cell? ⟨wr.heap.size, 0, none⟩ = some (.string q.name) ∧ (w'.alloc (.cells #[.string q.name, .int .u8 q.sort, .int .u8 KB, .string ⟨#[]⟩, .string ⟨#[]⟩, .slice none 0 0, .slice none 0 0, .int .i64 0, .int .i64 0, .int .i64 0] 38)).cell? ⟨wr.heap.size, 1, none⟩ = some (.int .u8 q.sort) ∧ (w'.alloc (.cells #[.string q.name, .int .u8 q.sort, .int .u8 KB, .string ⟨#[]⟩, .string ⟨#[]⟩, .slice none 0 0, .slice none 0 0, .int .i64 0, .int .i64 0, .int .i64 0] 38)).cell? ⟨W.heap.size, 0, none⟩ = some (.pointer (some ⟨cp, 0, none⟩)) ∧ (w'.alloc (.cells #[.string q.name, .int .u8 q.sort, .int .u8 KB, .string ⟨#[]⟩, .string ⟨#[]⟩, .slice none 0 0, .slice none 0 0, .int .i64 0, .int .i64 0, .int .i64 0] 38)).cell? ⟨cp, 4, none⟩ = some (.slice (some ⟨eb, 0, none⟩) RN RN) ∧ (w'.alloc (.cells #[.string q.name, .int .u8 q.sort, .int .u8 KB, .string ⟨#[]⟩, .string ⟨#[]⟩, .slice none 0 0, .slice none 0 0, .int .i64 0, .int .i64 0, .int .i64 0] 38)).cell? ⟨eb, p, none⟩ = some (.bool (EM.getD p false))) ∧ w'.cell? ⟨W.heap.size + 1, 3, none⟩ = some v ∧ (w'.alloc (.cells #[.string q.name, .int .u8 q.sort, .int .u8 KB, .string ⟨#[]⟩, .string ⟨#[]⟩, .slice none 0 0, .slice none 0 0, .int .i64 0, .int .i64 0, .int .i64 0] 38)).cell? ⟨W.heap.size + 1, 3, none⟩ = some v ∧ (w'.alloc (.cells #[.string q.name, .int .u8 q.sort, .int .u8 KB, .string ⟨#[]⟩, .string ⟨#[]⟩, .slice none 0 0, .slice none 0 0, .int .i64 0, .int .i64 0, .int .i64 0] 38)).ownsRow Y.heap.size 38 10 v SN (flatS EM AS 0 (rs.take p))) fun e w' ⟨h1, h2⟩ => by
       have h3 := h.trans (h2.mono h.size)
       have h4 := h3.alloc h3.size (.cells #[.string q.name, .int .u8 q.sort, .int .u8 KB, .string ⟨#[]⟩, .string ⟨#[]⟩, .slice none 0 0, .slice none 0 0, .int .i64 0, .int .i64 0, .int .i64 0] 38)
       exact ⟨by rw [h1, ← hKB]; rfl, h3, HCS.out _ h3, HCS.out _ h4, HVC.out _ h3, HVC.out _ h4, (hGA.below h4).2⟩)
      have HF := Lib.hid (fun (w9 w11 : World) (hb : Below WR.heap.size WR w9) (hg : (w9.alloc (.cells #[.string q.name, .int .u8 q.sort, .int .u8 KB, .string ⟨#[]⟩, .string ⟨#[]⟩, .slice none 0 0, .slice none 0 0, .int .i64 0, .int .i64 0, .int .i64 0] 38)).grownBy w11 v.ownBlock) => short_box (hGA.below (hb.alloc hb.size _)) hsY hg)
      have HYX := Lib.hid (show Y.heap.size ≤ WR.heap.size from by omega)
      have HKK := Lib.hid (fun (w9 w11 : World) (g11 cap11 : Nat) (hb : Below WR.heap.size WR w9) (hg : (w9.alloc (.cells #[.string q.name, .int .u8 q.sort, .int .u8 KB, .string ⟨#[]⟩, .string ⟨#[]⟩, .slice none 0 0, .slice none 0 0, .int .i64 0, .int .i64 0, .int .i64 0] 38)).grownBy w11 v.ownBlock) (hown : w11.ownsRow Y.heap.size 38 10 (.slice (some ⟨g11, 0, none⟩) (SN + 1) cap11) (SN + 1) ((flatS EM AS 0 (rs.take p)) ++ [.string q.name, .int .u8 q.sort, .int .u8 KB, .string ⟨#[]⟩, .string ⟨#[]⟩, .slice none 0 0, .slice none 0 0, .int .i64 0, .int .i64 0, .int .i64 0])) => And.intro (short_key (hGA.below (hb.alloc hb.size _)) hsY (Nat.le_trans (Nat.le_trans HYX.out hb.size) (by simp)) (Nat.le_succ _) (hBR.trans ((hb.alloc hb.size (.cells #[.string q.name, .int .u8 q.sort, .int .u8 KB, .string ⟨#[]⟩, .string ⟨#[]⟩, .slice none 0 0, .slice none 0 0, .int .i64 0, .int .i64 0, .int .i64 0] 38)).mono hBR.size)) hown hg) (hb.alloc hb.size (.cells #[.string q.name, .int .u8 q.sort, .int .u8 KB, .string ⟨#[]⟩, .string ⟨#[]⟩, .slice none 0 0, .slice none 0 0, .int .i64 0, .int .i64 0, .int .i64 0] 38)))
      have hSW := HCS.out WR (Below.refl _ _)
      have hVW := HVC.out WR (Below.refl _ _)
      refine wp_cut (fun a a' w' => (∃ z57 z58 z59 z60 z61 z62 z63 z64 z65 z66 z67 z68 z69 z70 z71 z72 z73 z74 : Value, a' = ((((((((((((((((((a.put (some 57) z57).put (some 58) z58).put (some 59) z59).put (some 60) z60).put (some 61) z61).put (some 62) z62).put (some 63) z63).put (some 64) z64).put (some 65) z65).put (some 66) z66).put (some 67) z67).put (some 68) z68).put (some 69) z69).put (some 70) z70).put (some 71) z71).put (some 72) z72).put (some 73) z73).put (some 74) z74)) ∧ ∃ w9 w11 g11 cap11, Below WR.heap.size WR w9 ∧ (w9.alloc (.cells #[.string q.name, .int .u8 q.sort, .int .u8 KB, .string ⟨#[]⟩, .string ⟨#[]⟩, .slice none 0 0, .slice none 0 0, .int .i64 0, .int .i64 0, .int .i64 0] 38)).grownBy w11 v.ownBlock ∧ w11.ownsRow Y.heap.size 38 10 (.slice (some ⟨g11, 0, none⟩) (SN + 1) cap11) (SN + 1) ((flatS EM AS 0 (rs.take p)) ++ [.string q.name, .int .u8 q.sort, .int .u8 KB, .string ⟨#[]⟩, .string ⟨#[]⟩, .slice none 0 0, .slice none 0 0, .int .i64 0, .int .i64 0, .int .i64 0]) ∧ w' = (w11.setCell ⟨W.heap.size + 1, 3, none⟩ (.slice (some ⟨g11, 0, none⟩) (SN + 1) cap11))) ?first ?next
      case first =>
       have hVd := HVC.out WR.drew (Below.refl _ _).drew
       refine wp_region_held_drew (S := fun w' : World => w'.cell? ⟨wr.heap.size, 0, none⟩ = some (.string q.name) ∧ w'.cell? ⟨wr.heap.size, 1, none⟩ = some (.int .u8 q.sort) ∧ w'.cell? ⟨W.heap.size, 0, none⟩ = some (.pointer (some ⟨cp, 0, none⟩)) ∧ w'.cell? ⟨cp, 4, none⟩ = some (.slice (some ⟨eb, 0, none⟩) RN RN) ∧ w'.cell? ⟨eb, p, none⟩ = some (.bool (EM.getD p false))) (by kernel_rfl) (HCS.out _ (Below.refl _ _).drew) (fun hSS => ?_)
       show wpAnyH _ _ _ _ _ 19 #[false, false, false, false, false, false, false, false, false, false, false, false, false, false, false, false, false, false, false] _ _
       refine zqT 0 (some 57) _ (zqF 19 1) (by rw [List.getElem?_toArray]; rfl) rfl (by kernel_rfl) rfl (fun _ _ _ h => h) (Or.inl ⟨by rfl, fun w' hSw => by (try dsimp only at hSw); go_simp; try with_reducible rfl⟩) hSS ?_
       simp only [zqN]
       refine zqT 2 (some 59) _ #[true, false, true, false, false, false, false, false, false, false, false, false, false, false, false, false, false, false, false] (by rw [List.getElem?_toArray]; rfl) rfl (by kernel_rfl) rfl (fun _ _ _ h => h) (Or.inl ⟨by rfl, fun w' hSw => by (try dsimp only at hSw); go_simp; try with_reducible rfl⟩) hSS ?_
       simp only [zqN]
       refine zqT 3 (some 60) _ #[true, false, true, true, false, false, false, false, false, false, false, false, false, false, false, false, false, false, false] (by rw [List.getElem?_toArray]; rfl) rfl (by kernel_rfl) rfl (fun _ _ _ h => h) (Or.inl ⟨by rfl, fun w' hSw => by (try dsimp only at hSw); go_simp; try with_reducible rfl⟩) hSS ?_
       simp only [zqN]
       refine zqT 4 (some 61) _ #[true, false, true, true, true, false, false, false, false, false, false, false, false, false, false, false, false, false, false] (by rw [List.getElem?_toArray]; rfl) rfl (by kernel_rfl) rfl (fun _ _ _ h => h) (Or.inl ⟨by rfl, fun w' hSw => by (try dsimp only at hSw); go_simp; try with_reducible rfl⟩) hSS ?_
       simp only [zqN]
       refine zqT 5 (some 62) _ #[true, false, true, true, true, true, false, false, false, false, false, false, false, false, false, false, false, false, false] (by rw [List.getElem?_toArray]; rfl) rfl (by kernel_rfl) rfl (fun _ _ _ h => h) (Or.inl ⟨by rfl, fun w' hSw => by (try dsimp only at hSw); go_simp; try with_reducible rfl⟩) hSS ?_
       simp only [zqN]
       refine zqT 6 (some 63) _ #[true, false, true, true, true, true, true, false, false, false, false, false, false, false, false, false, false, false, false] (by rw [List.getElem?_toArray]; rfl) rfl (by kernel_rfl) rfl (fun _ _ _ h => h) (Or.inl ⟨by rfl, fun w' hSw => by (try dsimp only at hSw); go_simp; try with_reducible rfl⟩) hSS ?_
       simp only [zqN]
       refine zqT 7 (some 64) _ #[true, false, true, true, true, true, true, true, false, false, false, false, false, false, false, false, false, false, false] (by rw [List.getElem?_toArray]; rfl) rfl (by kernel_rfl) rfl (fun _ _ _ h => h) (Or.inl ⟨by rfl, fun w' hSw => by (try dsimp only at hSw); go_simp; try with_reducible rfl⟩) hSS ?_
       simp only [zqN]
       refine zqT 8 (some 65) _ #[true, false, true, true, true, true, true, true, true, false, false, false, false, false, false, false, false, false, false] (by rw [List.getElem?_toArray]; rfl) rfl (by kernel_rfl) rfl (fun _ _ _ h => h) (Or.inl ⟨by rfl, fun w' hSw => by (try dsimp only at hSw); go_simp; try with_reducible rfl⟩) hSS ?_
       simp only [zqN]
       refine zqT 9 (some 66) _ #[true, false, true, true, true, true, true, true, true, true, false, false, false, false, false, false, false, false, false] (by rw [List.getElem?_toArray]; rfl) rfl (by kernel_rfl) rfl (fun _ _ _ h => h) (Or.inl ⟨by rfl, fun w' hSw => by (try dsimp only at hSw); go_simp; try with_reducible rfl⟩) hSS ?_
       simp only [zqN]
       refine zqT 10 (some 67) _ #[true, false, true, true, true, true, true, true, true, true, true, false, false, false, false, false, false, false, false] (by rw [List.getElem?_toArray]; rfl) rfl (by kernel_rfl) rfl (fun _ _ _ h => h) (Or.inl ⟨by rfl, fun w' hSw => by (try dsimp only at hSw); go_simp; try with_reducible rfl⟩) hSS ?_
       simp only [zqN]
       refine zqT 11 (some 68) _ #[true, false, true, true, true, true, true, true, true, true, true, true, false, false, false, false, false, false, false] (by rw [List.getElem?_toArray]; rfl) rfl (by kernel_rfl) rfl (fun _ _ _ h => h) (Or.inl ⟨by rfl, fun w' hSw => by (try dsimp only at hSw); go_simp; try with_reducible rfl⟩) hSS ?_
       simp only [zqN]
       refine zqT 12 (some 69) _ #[true, false, true, true, true, true, true, true, true, true, true, true, true, false, false, false, false, false, false] (by rw [List.getElem?_toArray]; rfl) rfl (by kernel_rfl) rfl (fun _ _ _ h => h) (Or.inl ⟨by rfl, fun w' hSw => by (try dsimp only at hSw); go_simp; try with_reducible rfl⟩) hSS ?_
       simp only [zqN]
       refine come_two (i := 1) (j := 13) (l1 := #[true, true, true, true, true, true, true, true, true, true, true, true, true, false, false, false, false, false, false]) (l2 := #[true, false, true, true, true, true, true, true, true, true, true, true, true, true, false, false, false, false, false]) (by rw [List.getElem?_toArray]; rfl) (by rw [List.getElem?_toArray]; rfl) (by kernel_rfl) rfl rfl (fun K' hK => ?_) (fun K' hK => ?_)
       · go_simp
         refine hK.out _ _ hSS (fun hSS => ?_)
         try simp only [zqN]
         refine come_one (i := 13) (l' := (zqF 19 14)) (by rw [List.getElem?_toArray]; rfl) (by kernel_rfl) rfl (fun K' hK => ?_)
         go_simp; go_at_call 75; refine (hC.out _ (by first | exact Below.refl _ _ | exact (Below.refl _ _).drew)).mono ?_; rintro e w9 ⟨rfl, hb9, z9, z10, x9, x10, ho9⟩
         refine hK.out _ _ z9 (fun hSS => ?_)
         try simp only [zqN]
         refine come_one (i := 14) (l' := (zqF 19 15)) (by rw [List.getElem?_toArray]; rfl) (by kernel_rfl) rfl (fun K' hK => ?_)
         go_simp
         refine hK.out _ _ hSS (fun hSS => ?_)
         try simp only [zqN]
         refine come_one (i := 15) (l' := (zqF 19 16)) (by rw [List.getElem?_toArray]; rfl) (by kernel_rfl) rfl (fun K' hK => ?_)
         go_simp
         refine hK.out _ _ z10 (fun hSS => ?_)
         try simp only [zqN]
         refine come_one (i := 16) (l' := (zqF 19 17)) (by rw [List.getElem?_toArray]; rfl) (by kernel_rfl) rfl (fun K' hK => ?_)
         refine step_append_lies _ rfl _ _ 24 rfl Y.heap.size 38 i0 (.agg #[.string ⟨#[]⟩, .int .u8 0, .int .u8 0, .string ⟨#[]⟩, .string ⟨#[]⟩, .slice none 0 0, .slice none 0 0, .int .i64 0, .int .i64 0, .int .i64 0]) 10 136 Tryd.underlying24 hi0 hz0 hz1 hz2 rfl (by decide) _ SN _ rfl ho9 ⟨w9.heap.size, 0, none⟩ 1 1 [.string q.name, .int .u8 q.sort, .int .u8 KB, .string ⟨#[]⟩, .string ⟨#[]⟩, .slice none 0 0, .slice none 0 0, .int .i64 0, .int .i64 0, .int .i64 0] rfl rfl (cells_newP _ _ _) (by simp [Value.oneCell']) (by decide) (by have := HSN.out; unfold maxLen; omega) (by have := HSN.out; omega) (by have := HYX.out; have := hb9.size; simp; omega) _ rfl ?_; intro g11 cap11 w11 hown11 hg11 hat11 hlt11; obtain ⟨z11, f11⟩ := HF.out _ _ hb9 hg11
         refine hK.out _ _ (HCG.out w9 w11 undef hb9 hg11).1 (fun hSS => ?_)
         try simp only [zqN]
         refine come_one (i := 17) (l' := (zqF 19 18)) (by rw [List.getElem?_toArray]; rfl) (by kernel_rfl) rfl (fun K' hK => ?_)
         go_simp
         refine hK.out _ _ hSS (fun hSS => ?_)
         try simp only [zqN]
         refine come_one (i := 18) (l' := (zqF 19 19)) (by rw [List.getElem?_toArray]; rfl) (by kernel_rfl) rfl (fun K' hK => ?_)
         go_simp
         refine hK.out _ _ (HCG.out w9 w11 _ hb9 hg11).2 (fun hSS => ?_)
         try simp only [zqN]
         refine wpAnyH_done (by kernel_rfl) ?_ _
         refine ⟨?_, w9, w11, g11, cap11, hb9, hg11, hown11, rfl⟩
         iterate 18 apply Exists.intro
         try simp only [zqN]
         rfl
       · go_simp; go_at_call 75; refine (hC.out _ (by first | exact Below.refl _ _ | exact (Below.refl _ _).drew)).mono ?_; rintro e w9 ⟨rfl, hb9, z9, z10, x9, x10, ho9⟩
         refine hK.out _ _ z9 (fun hSS => ?_)
         try simp only [zqN]
         refine come_two (i := 1) (j := 14) (l1 := #[true, true, true, true, true, true, true, true, true, true, true, true, true, true, false, false, false, false, false]) (l2 := #[true, false, true, true, true, true, true, true, true, true, true, true, true, true, true, false, false, false, false]) (by rw [List.getElem?_toArray]; rfl) (by rw [List.getElem?_toArray]; rfl) (by kernel_rfl) rfl rfl (fun K' hK => ?_) (fun K' hK => ?_)
         · go_simp
           refine hK.out _ _ hSS (fun hSS => ?_)
           try simp only [zqN]
           refine come_one (i := 14) (l' := (zqF 19 15)) (by rw [List.getElem?_toArray]; rfl) (by kernel_rfl) rfl (fun K' hK => ?_)
           go_simp
           refine hK.out _ _ hSS (fun hSS => ?_)
           try simp only [zqN]
           refine come_one (i := 15) (l' := (zqF 19 16)) (by rw [List.getElem?_toArray]; rfl) (by kernel_rfl) rfl (fun K' hK => ?_)
           go_simp
           refine hK.out _ _ z10 (fun hSS => ?_)
           try simp only [zqN]
           refine come_one (i := 16) (l' := (zqF 19 17)) (by rw [List.getElem?_toArray]; rfl) (by kernel_rfl) rfl (fun K' hK => ?_)
           refine step_append_lies _ rfl _ _ 24 rfl Y.heap.size 38 i0 (.agg #[.string ⟨#[]⟩, .int .u8 0, .int .u8 0, .string ⟨#[]⟩, .string ⟨#[]⟩, .slice none 0 0, .slice none 0 0, .int .i64 0, .int .i64 0, .int .i64 0]) 10 136 Tryd.underlying24 hi0 hz0 hz1 hz2 rfl (by decide) _ SN _ rfl ho9 ⟨w9.heap.size, 0, none⟩ 1 1 [.string q.name, .int .u8 q.sort, .int .u8 KB, .string ⟨#[]⟩, .string ⟨#[]⟩, .slice none 0 0, .slice none 0 0, .int .i64 0, .int .i64 0, .int .i64 0] rfl rfl (cells_newP _ _ _) (by simp [Value.oneCell']) (by decide) (by have := HSN.out; unfold maxLen; omega) (by have := HSN.out; omega) (by have := HYX.out; have := hb9.size; simp; omega) _ rfl ?_; intro g11 cap11 w11 hown11 hg11 hat11 hlt11; obtain ⟨z11, f11⟩ := HF.out _ _ hb9 hg11
           refine hK.out _ _ (HCG.out w9 w11 undef hb9 hg11).1 (fun hSS => ?_)
           try simp only [zqN]
           refine come_one (i := 17) (l' := (zqF 19 18)) (by rw [List.getElem?_toArray]; rfl) (by kernel_rfl) rfl (fun K' hK => ?_)
           go_simp
           refine hK.out _ _ hSS (fun hSS => ?_)
           try simp only [zqN]
           refine come_one (i := 18) (l' := (zqF 19 19)) (by rw [List.getElem?_toArray]; rfl) (by kernel_rfl) rfl (fun K' hK => ?_)
           go_simp
           refine hK.out _ _ (HCG.out w9 w11 _ hb9 hg11).2 (fun hSS => ?_)
           try simp only [zqN]
           refine wpAnyH_done (by kernel_rfl) ?_ _
           refine ⟨?_, w9, w11, g11, cap11, hb9, hg11, hown11, rfl⟩
           iterate 18 apply Exists.intro
           try simp only [zqN]
           rfl
         · go_simp
           refine hK.out _ _ hSS (fun hSS => ?_)
           try simp only [zqN]
           refine come_two (i := 1) (j := 15) (l1 := #[true, true, true, true, true, true, true, true, true, true, true, true, true, true, true, false, false, false, false]) (l2 := #[true, false, true, true, true, true, true, true, true, true, true, true, true, true, true, true, false, false, false]) (by rw [List.getElem?_toArray]; rfl) (by rw [List.getElem?_toArray]; rfl) (by kernel_rfl) rfl rfl (fun K' hK => ?_) (fun K' hK => ?_)
           · go_simp
             refine hK.out _ _ hSS (fun hSS => ?_)
             try simp only [zqN]
             refine come_one (i := 15) (l' := (zqF 19 16)) (by rw [List.getElem?_toArray]; rfl) (by kernel_rfl) rfl (fun K' hK => ?_)
             go_simp
             refine hK.out _ _ z10 (fun hSS => ?_)
             try simp only [zqN]
             refine come_one (i := 16) (l' := (zqF 19 17)) (by rw [List.getElem?_toArray]; rfl) (by kernel_rfl) rfl (fun K' hK => ?_)
             refine step_append_lies _ rfl _ _ 24 rfl Y.heap.size 38 i0 (.agg #[.string ⟨#[]⟩, .int .u8 0, .int .u8 0, .string ⟨#[]⟩, .string ⟨#[]⟩, .slice none 0 0, .slice none 0 0, .int .i64 0, .int .i64 0, .int .i64 0]) 10 136 Tryd.underlying24 hi0 hz0 hz1 hz2 rfl (by decide) _ SN _ rfl ho9 ⟨w9.heap.size, 0, none⟩ 1 1 [.string q.name, .int .u8 q.sort, .int .u8 KB, .string ⟨#[]⟩, .string ⟨#[]⟩, .slice none 0 0, .slice none 0 0, .int .i64 0, .int .i64 0, .int .i64 0] rfl rfl (cells_newP _ _ _) (by simp [Value.oneCell']) (by decide) (by have := HSN.out; unfold maxLen; omega) (by have := HSN.out; omega) (by have := HYX.out; have := hb9.size; simp; omega) _ rfl ?_; intro g11 cap11 w11 hown11 hg11 hat11 hlt11; obtain ⟨z11, f11⟩ := HF.out _ _ hb9 hg11
             refine hK.out _ _ (HCG.out w9 w11 undef hb9 hg11).1 (fun hSS => ?_)
             try simp only [zqN]
             refine come_one (i := 17) (l' := (zqF 19 18)) (by rw [List.getElem?_toArray]; rfl) (by kernel_rfl) rfl (fun K' hK => ?_)
             go_simp
             refine hK.out _ _ hSS (fun hSS => ?_)
             try simp only [zqN]
             refine come_one (i := 18) (l' := (zqF 19 19)) (by rw [List.getElem?_toArray]; rfl) (by kernel_rfl) rfl (fun K' hK => ?_)
             go_simp
             refine hK.out _ _ (HCG.out w9 w11 _ hb9 hg11).2 (fun hSS => ?_)
             try simp only [zqN]
             refine wpAnyH_done (by kernel_rfl) ?_ _
             refine ⟨?_, w9, w11, g11, cap11, hb9, hg11, hown11, rfl⟩
             iterate 18 apply Exists.intro
             try simp only [zqN]
             rfl
           · go_simp
             refine hK.out _ _ z10 (fun hSS => ?_)
             try simp only [zqN]
             refine come_one (i := 1) (l' := (zqF 19 16)) (by rw [List.getElem?_toArray]; rfl) (by kernel_rfl) rfl (fun K' hK => ?_)
             go_simp
             refine hK.out _ _ hSS (fun hSS => ?_)
             try simp only [zqN]
             refine come_one (i := 16) (l' := (zqF 19 17)) (by rw [List.getElem?_toArray]; rfl) (by kernel_rfl) rfl (fun K' hK => ?_)
             refine step_append_lies _ rfl _ _ 24 rfl Y.heap.size 38 i0 (.agg #[.string ⟨#[]⟩, .int .u8 0, .int .u8 0, .string ⟨#[]⟩, .string ⟨#[]⟩, .slice none 0 0, .slice none 0 0, .int .i64 0, .int .i64 0, .int .i64 0]) 10 136 Tryd.underlying24 hi0 hz0 hz1 hz2 rfl (by decide) _ SN _ rfl ho9 ⟨w9.heap.size, 0, none⟩ 1 1 [.string q.name, .int .u8 q.sort, .int .u8 KB, .string ⟨#[]⟩, .string ⟨#[]⟩, .slice none 0 0, .slice none 0 0, .int .i64 0, .int .i64 0, .int .i64 0] rfl rfl (cells_newP _ _ _) (by simp [Value.oneCell']) (by decide) (by have := HSN.out; unfold maxLen; omega) (by have := HSN.out; omega) (by have := HYX.out; have := hb9.size; simp; omega) _ rfl ?_; intro g11 cap11 w11 hown11 hg11 hat11 hlt11; obtain ⟨z11, f11⟩ := HF.out _ _ hb9 hg11
             refine hK.out _ _ (HCG.out w9 w11 undef hb9 hg11).1 (fun hSS => ?_)
             try simp only [zqN]
             refine come_one (i := 17) (l' := (zqF 19 18)) (by rw [List.getElem?_toArray]; rfl) (by kernel_rfl) rfl (fun K' hK => ?_)
             go_simp
             refine hK.out _ _ hSS (fun hSS => ?_)
             try simp only [zqN]
             refine come_one (i := 18) (l' := (zqF 19 19)) (by rw [List.getElem?_toArray]; rfl) (by kernel_rfl) rfl (fun K' hK => ?_)
             go_simp
             refine hK.out _ _ (HCG.out w9 w11 _ hb9 hg11).2 (fun hSS => ?_)
             try simp only [zqN]
             refine wpAnyH_done (by kernel_rfl) ?_ _
             refine ⟨?_, w9, w11, g11, cap11, hb9, hg11, hown11, rfl⟩
             iterate 18 apply Exists.intro
             try simp only [zqN]
             rfl
      case next =>
       rintro a' w' ⟨⟨z57, z58, z59, z60, z61, z62, z63, z64, z65, z66, z67, z68, z69, z70, z71, z72, z73, z74, rfl⟩, w9, w11, g11, cap11, hb9, hg11, hown11, rfl⟩
       simp only [zqN]
       obtain ⟨⟨q1, q2, q3, q4, q5⟩, q6⟩ := HKK.out w9 w11 g11 cap11 hb9 hg11 hown11
       have hDn := q3 D _ (by rw [q6.block D (Array.getElem?_eq_some_iff.1 DB).1]; exact DB) (by simp [Obj.isCells])
       have n1' := q2 _ _ _ (by omega) (by omega) (j1.below q6 j1.lt)
       have n3' := q2 _ _ _ (by rw [HYS.out]; omega) (by omega) (j3.below q6 j3.lt)
       have n4' := q2 _ _ _ (by rw [HYS.out]; omega) (by omega) (j4.below q6 j4.lt)
       have n5' := q2 _ _ _ (by rw [HYS.out]; omega) (by omega) (j5.below q6 j5.lt)
       have hft : flatS EM AS 0 (rs.take (p + 1)) = (flatS EM AS 0 (rs.take p)) ++ [.string q.name, .int .u8 q.sort, .int .u8 KB, .string ⟨#[]⟩, .string ⟨#[]⟩, .slice none 0 0, .slice none 0 0, .int .i64 0, .int .i64 0, .int .i64 0] := by rw [ft]; unfold cellsS; rw [hKB]
       rw [← hft] at q1
       obtain ⟨WF, hWF⟩ : ∃ X, (w11.setCell ⟨W.heap.size + 1, 3, none⟩ (.slice (some ⟨g11, 0, none⟩) (SN + 1) cap11)) = X := ⟨_, rfl⟩
       rw [hWF] at q1 q4 q5 hDn n1' n3' n4' n5' ⊢
       clear ft st hft
       go_wp2_with fail
       refine ⟨⟨p + 1, by omega, by go_num, ⟨_, by rw [hSNl]; exact q1⟩, n1', n3', n4', n5', hDn, q4, q5⟩, by simp [intOf]; omega⟩
   · have d2 : decide (p < RN) = false := by rw [decide_eq_false_iff_not]; exact hlt2
     obtain rfl : RN = p := by omega
     have ht : rs.take RN = rs := by rw [← HRN.out, List.take_length]
     rw [ht] at hG
     obtain ⟨SN, hSN⟩ : ∃ n, (shortF EM AS 0 rs).length = n := ⟨_, rfl⟩
     rw [hSN] at hG
     have HSN := Lib.hid (show SN ≤ 1000 from by have := shortF_len EM AS rs 0; have := HSM.out.1; omega)
     have HYX := Lib.hid iS
     obtain ⟨i0, hi0, hz0, hz1, hz2⟩ := info_parts infoRule6
     have HCS := Lib.hid (fun X2 (h : Below wr.heap.size wr X2) => show X2.cell? ⟨W.heap.size + 1, 3, none⟩ = some (v) ∧ X2.cell? ⟨W.heap.size + 1 + 1, 1, none⟩ = some (.int .u8 r.sort) from ⟨by have := (hG.below h).1.cell 3; simpa using this, by have := (i3.below h i3.lt).cell 1; simpa using this⟩)
     have hC := Lib.hid (fun wx (h : Below wr.heap.size wr wx) => (stand_any false wx).mono (R' := fun e w' => e = .returned (.agg #[.int .u8 0, .string ⟨#[]⟩, .string ⟨#[]⟩, .slice none 0 0, .slice none 0 0]) ∧ Below wr.heap.size wr w' ∧ (w'.cell? ⟨W.heap.size + 1, 3, none⟩ = some (v) ∧ w'.cell? ⟨W.heap.size + 1 + 1, 1, none⟩ = some (.int .u8 r.sort)) ∧ ((w'.alloc (.cells #[.string ⟨#[]⟩, .int .u8 r.sort, .int .u8 0, .string ⟨#[]⟩, .string ⟨#[]⟩, .slice none 0 0, .slice none 0 0, .int .i64 0, .int .i64 0, .int .i64 0] 38)).cell? ⟨W.heap.size + 1, 3, none⟩ = some (v) ∧ (w'.alloc (.cells #[.string ⟨#[]⟩, .int .u8 r.sort, .int .u8 0, .string ⟨#[]⟩, .string ⟨#[]⟩, .slice none 0 0, .slice none 0 0, .int .i64 0, .int .i64 0, .int .i64 0] 38)).cell? ⟨W.heap.size + 1 + 1, 1, none⟩ = some (.int .u8 r.sort)) ∧ (w'.alloc (.cells #[.string ⟨#[]⟩, .int .u8 r.sort, .int .u8 0, .string ⟨#[]⟩, .string ⟨#[]⟩, .slice none 0 0, .slice none 0 0, .int .i64 0, .int .i64 0, .int .i64 0] 38)).ownsRow Y.heap.size 38 10 v SN (flatS EM AS 0 rs)) fun e w' ⟨h1, h2⟩ => by
      have h3 := h.trans (h2.mono h.size)
      have h4 := h3.alloc h3.size (.cells #[.string ⟨#[]⟩, .int .u8 r.sort, .int .u8 0, .string ⟨#[]⟩, .string ⟨#[]⟩, .slice none 0 0, .slice none 0 0, .int .i64 0, .int .i64 0, .int .i64 0] 38)
      exact ⟨h1, h3, HCS.out _ h3, HCS.out _ h4, (hG.below h4).2⟩)
     have HF := Lib.hid (fun (w9 w11 : World) (hb : Below wr.heap.size wr w9) (hg : (w9.alloc (.cells #[.string ⟨#[]⟩, .int .u8 r.sort, .int .u8 0, .string ⟨#[]⟩, .string ⟨#[]⟩, .slice none 0 0, .slice none 0 0, .int .i64 0, .int .i64 0, .int .i64 0] 38)).grownBy w11 v.ownBlock) => short_box (hG.below (hb.alloc hb.size _)) hsY hg)
     have HKK := Lib.hid (fun (w9 w11 : World) (g11 cap11 : Nat) (hb : Below wr.heap.size wr w9) (hg : (w9.alloc (.cells #[.string ⟨#[]⟩, .int .u8 r.sort, .int .u8 0, .string ⟨#[]⟩, .string ⟨#[]⟩, .slice none 0 0, .slice none 0 0, .int .i64 0, .int .i64 0, .int .i64 0] 38)).grownBy w11 v.ownBlock) (hown : w11.ownsRow Y.heap.size 38 10 (.slice (some ⟨g11, 0, none⟩) (SN + 1) cap11) (SN + 1) ((flatS EM AS 0 rs) ++ (#[.string ⟨#[]⟩, .int .u8 r.sort, .int .u8 0, .string ⟨#[]⟩, .string ⟨#[]⟩, .slice none 0 0, .slice none 0 0, .int .i64 0, .int .i64 0, .int .i64 0]).toList)) => And.intro (short_key (hG.below (hb.alloc hb.size _)) hsY (Nat.le_trans (Nat.le_trans iS hb.size) (by simp)) (Nat.le_succ _) (iB.trans ((hb.alloc hb.size (.cells #[.string ⟨#[]⟩, .int .u8 r.sort, .int .u8 0, .string ⟨#[]⟩, .string ⟨#[]⟩, .slice none 0 0, .slice none 0 0, .int .i64 0, .int .i64 0, .int .i64 0] 38)).mono iB.size)) hown hg) (hb.alloc hb.size (.cells #[.string ⟨#[]⟩, .int .u8 r.sort, .int .u8 0, .string ⟨#[]⟩, .string ⟨#[]⟩, .slice none 0 0, .slice none 0 0, .int .i64 0, .int .i64 0, .int .i64 0] 38)))
     obtain ⟨y0, y1⟩ := HCS.out wr (Below.refl _ _)
     have x3f := hG.1.free 3
     have hDb := Lib.hid (fun X2 (h : Below wr.heap.size wr X2) => show X2.heap[D]? = some (.deferred (some [])) from by rw [h.block D (Array.getElem?_eq_some_iff.1 hDf).1]; exact hDf)
     go_wp2_with fail
     refine wp_cut (fun a a' w' => (∃ z76 z77 z78 z79 z80 z81 z82 z83 z84 : Value, a' = (((((((((a.put (some 76) z76).put (some 77) z77).put (some 78) z78).put (some 79) z79).put (some 80) z80).put (some 81) z81).put (some 82) z82).put (some 83) z83).put (some 84) z84)) ∧ ∃ w9 w11 g11 cap11, Below wr.heap.size wr w9 ∧ (w9.alloc (.cells #[.string ⟨#[]⟩, .int .u8 r.sort, .int .u8 0, .string ⟨#[]⟩, .string ⟨#[]⟩, .slice none 0 0, .slice none 0 0, .int .i64 0, .int .i64 0, .int .i64 0] 38)).grownBy w11 v.ownBlock ∧ w11.ownsRow Y.heap.size 38 10 (.slice (some ⟨g11, 0, none⟩) (SN + 1) cap11) (SN + 1) (flatS EM AS 0 rs ++ (#[.string ⟨#[]⟩, .int .u8 r.sort, .int .u8 0, .string ⟨#[]⟩, .string ⟨#[]⟩, .slice none 0 0, .slice none 0 0, .int .i64 0, .int .i64 0, .int .i64 0] : Array Value).toList) ∧ w' = (w11.setCell ⟨W.heap.size + 1, 3, none⟩ (.slice (some ⟨g11, 0, none⟩) (SN + 1) cap11))) ?first ?next
     case first =>
      go_region_law (first
       | (refine step_append_lies _ rfl _ _ 24 rfl Y.heap.size 38 i0 (.agg #[.string ⟨#[]⟩, .int .u8 0, .int .u8 0, .string ⟨#[]⟩, .string ⟨#[]⟩, .slice none 0 0, .slice none 0 0, .int .i64 0, .int .i64 0, .int .i64 0]) 10 136 Tryd.underlying24 hi0 hz0 hz1 hz2 rfl (by decide) _ SN _ rfl ho9 ⟨w9.heap.size, 0, none⟩ 1 1 [.string ⟨#[]⟩, .int .u8 r.sort, .int .u8 0, .string ⟨#[]⟩, .string ⟨#[]⟩, .slice none 0 0, .slice none 0 0, .int .i64 0, .int .i64 0, .int .i64 0] rfl rfl (cells_newP _ _ _) (by simp [Value.oneCell']) (by decide) (by have := HSN.out; unfold maxLen; omega) (by have := HSN.out; omega) (by have := HYX.out; have := hb9.size; simp; omega) _ rfl ?_; intro g11 cap11 w11 hown11 hg11 hat11 hlt11; obtain ⟨z11, f11⟩ := HF.out _ _ hb9 hg11)
       | (go_simp; go_at_call 75; refine (hC.out _ (by first | exact Below.refl _ _ | exact (Below.refl _ _).drew)).mono ?_; rintro e w9 ⟨rfl, hb9, z9, z10, ho9⟩; obtain ⟨y0, y1⟩ := z9; obtain ⟨x0, x1⟩ := z10))
      all_goals
       refine ⟨?_, w9, w11, g11, cap11, hb9, hg11, hown11, rfl⟩
       iterate 9 apply Exists.intro
       simp only [zqN]
       rfl
     case next =>
      rintro a' w' ⟨⟨z76, z77, z78, z79, z80, z81, z82, z83, z84, rfl⟩, w9, w11, g11, cap11, hb9, hg11, hown11, rfl⟩
      simp only [zqN]
      obtain ⟨⟨q1, q2, q3, q4, q5⟩, q6⟩ := HKK.out w9 w11 g11 cap11 hb9 hg11 hown11
      have hDn := q3 D _ (hDb.out _ q6) (by simp [Obj.isCells])
      obtain ⟨WF, hWF⟩ : ∃ X, (w11.setCell ⟨W.heap.size + 1, 3, none⟩ (.slice (some ⟨g11, 0, none⟩) (SN + 1) cap11)) = X := ⟨_, rfl⟩
      rw [hWF] at q1 q2 q3 q4 q5 hDn ⊢
      have z0 := q1.1.cell 0
      have z1 := q1.1.cell 1
      have z2 := q1.1.cell 2
      have z3 := q1.1.cell 3
      have f0 := q1.1.free 0
      have f1 := q1.1.free 1
      have f2 := q1.1.free 2
      have f3 := q1.1.free 3
      simp at z0 z1 z2 z3
      go_wp2_with fail
      obtain ⟨WE, hWE⟩ : ∃ X, ((((WF.setCell ⟨W.heap.size + 1, 0, none⟩ (.string ⟨#[]⟩)).setCell ⟨W.heap.size + 1, 1, none⟩ (.int .i64 0)).setCell ⟨W.heap.size + 1, 2, none⟩ (.int .i64 0)).setCell ⟨W.heap.size + 1, 3, none⟩ (.slice (some ⟨g11, 0, none⟩) (SN + 1) cap11)) = X := ⟨_, rfl⟩
      have hDs : D ≠ W.heap.size + 1 := by omega
      have bE : Below W.heap.size W WE := by rw [← hWE]; exact (((q4.setCell (by simp) _).setCell (by simp) _).setCell (by simp) _).setCell (by simp) _
      have DE : WE.heap[D]? = some (.deferred (some [])) := by rw [← hWE, Below.heap_setCell _ _ _ _ hDs, Below.heap_setCell _ _ _ _ hDs, Below.heap_setCell _ _ _ _ hDs, Below.heap_setCell _ _ _ _ hDs]; exact hDn
      have k1 := (((q1.1.set 0 (.string ⟨#[]⟩)).set 1 (.int .i64 0)).set 2 (.int .i64 0)).set 3 (.slice (some ⟨g11, 0, none⟩) (SN + 1) cap11)
      rw [hWE] at k1 ⊢
      have hgY : Y.heap.size ≤ g11 := (q1.2.lt g11 rfl).1
      obtain ⟨cur, hcap, hcur⟩ : ∃ cur, SN + 1 ≤ cap11 ∧ Bk WF g11 38 cur := by
       rcases q1.2.2 with ⟨h1, _⟩ | ⟨g', c', cur, h1, h2, h3, h4, _⟩
       · cases h1
       · injection h1 with h1 _ h1'
         injection h1 with h1
         injection h1 with h1
         subst h1 h1'
         exact ⟨cur, h4, h3⟩
      have hrow : Bk WE g11 38 cur := by
       rw [← hWE]
       exact (((hcur.other _ _ (by show g11 ≠ W.heap.size + 1; omega)).other _ _ (by show g11 ≠ W.heap.size + 1; omega)).other _ _ (by show g11 ≠ W.heap.size + 1; omega)).other _ _ (by show g11 ≠ W.heap.size + 1; omega)
      have hlen : (short rs r).length = SN + 1 := by rw [HSH.out, List.length_append, hSN]; rfl
      have hD2 : W.heap.size ≤ D := by omega
      refine ⟨by simp, .inl ⟨_, _, rfl, run_takeDeferred DE, ?_⟩⟩
      have kk := k1.kept (grownBy_putObj' _ D (.deferred none)) (fun r e => by cases e; exact ⟨_, DE, rfl⟩)
      have kr := hrow.kept (grownBy_putObj' _ D (.deferred none)) (fun r e => by cases e; exact ⟨_, DE, rfl⟩)
      have m0 := kk.cell 0
      have m1 := kk.cell 1
      have m2 := kk.cell 2
      have m3 := kk.cell 3
      simp at m0 m1 m2 m3
      refine ⟨.agg #[.string ⟨#[]⟩, .int .i64 0, .int .i64 0, .slice (some ⟨g11, 0, none⟩) (SN + 1) cap11], ?_, ⟨g11, cap11, by rw [hlen], by rw [hlen]; exact hcap, by omega, cur, kr, ?_⟩, bE.trans (belowK_b (w := W) (Nat.le_refl _) _ D _ _ hD2 DE rfl rfl)⟩
      · simp [results, Tryd.results63, go_sem, m0, m1, m2, m3]
      · rw [HSH.out]
        refine rowC_short w0 EM AS rs r.sort (fun q hq => ?_) HSR.out cur (fun j hj => ?_)
        · obtain ⟨k, hk⟩ := List.mem_iff_getElem?.1 hq
          obtain ⟨_, _, _, _, _, _, _, _, _, _, _, _, _, _, _, _, _, _, _, h1, h2⟩ := HR.out k q hk
          exact ⟨h1, h2⟩
        · have h1 := q1.2.cellAt j (by have := flatS_len EM AS rs 0; rw [List.length_append] at hj; simp [cellsS] at hj; omega)
          rw [hcur.cell j] at h1
          exact h1
end Go.Proofs.YtiinkhmgemoamaaDoor
