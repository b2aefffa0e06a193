/- The chapter's example: lives answers true. -/
import Derived.Test.YthfkodimafmmgaaGreatDoorNdA
import Derived.Test.YthfkodimafmmgaaGreatDoorNdR
import Derived.Test.YthfkodimafmmgaaGreatDoorNdS
import Derived.Test.YthfkodimafmmgaaGreatDoorNdL
import Derived.Deep.RegionHeld3
import Derived.Deep.DeepCutAuto
import Derived.Deep.CutBlock
namespace Go.Proofs.YthfkodimafmmgaaGreatDoor
open Go Go.RowKit
set_option maxRecDepth 100000

/-- A token's node. -/
def tokT (s : ByteArray) : Nd.T := .mk 6 s ⟨#[]⟩ [] []
abbrev tokC (s : ByteArray) : Array Value := #[.int .u8 6, .string s, .string ⟨#[]⟩, .slice none 0 0, .slice none 0 0]
theorem tok_at (s : ByteArray) (w : World) (hs : s.size ≤ 140737488351232) : Nd.At w (tokT s) (.agg (tokC s)) := by
  unfold tokT Nd.At
  exact ⟨none, 0, none, 0, rfl, by omega, hs, by simp [ByteArray.size], ⟨by simp, by simp⟩, ⟨by simp, by simp⟩, trivial, by unfold Nd.AtL; trivial⟩
set_option maxHeartbeats 400000 in
theorem tok_any (s : ByteArray) (w : World) : Calls Tryz.prog 19 #[.string s] w fun e w' => e = .returned (.agg (tokC s)) ∧ w' = w.alloc (.cells (tokC s) 26) := by
  go_enter Tryz.func19, Tryz.ntmps19
  go_wp2_with fail
  refine bodyPost_ret (v := .agg (tokC s)) ?_ rfl ⟨rfl, rfl⟩
  simp [results, Tryz.results19, go_sem]
/-- The example's star. -/
def starT : Nd.T := .mk 3 ⟨#[]⟩ ⟨#[]⟩ [] [.mk 0 ⟨#[]⟩ ⟨#[]⟩ [] [tokT ⟨#[66]⟩, tokT ⟨#[67]⟩]]
/-- The example. -/
def exT : Nd.T := .mk 0 ⟨#[]⟩ ⟨#[]⟩ [] [tokT ⟨#[65]⟩, .mk 1 ⟨#[]⟩ ⟨#[]⟩ [] [starT, .mk 5 ⟨#[100]⟩ ⟨#[]⟩ [] []]]
theorem ex_txt : Nd.txt exT = [65, 32, 124, 32, 40, 66, 32, 124, 32, 67, 41, 42, 32, 100] := by rfl
theorem ex_count : Nd.count exT = 8 := by rfl
theorem ex_deep : Nd.deep exT = 5 := by rfl
theorem ex_full : Nd.full exT = 12 := by rfl
theorem ex_plain : Nd.plainB exT false = true := by simp [exT, starT, tokT, Nd.plainB, Nd.parts, Nd.partsL, Nd.okP, Nd.fitsB, Nd.T.kind, Nd.T.name, Nd.T.text, Nd.T.set, Nd.T.subs, Nd.looksB, ByteArray.toList_eq, Nd.nameP, Nd.smallL, Nd.bigL, Nd.behL]
theorem ex_plain' : Nd.plainB exT true = false := by simp [exT, starT, tokT, Nd.plainB, Nd.parts, Nd.partsL, Nd.okP, Nd.fitsB, Nd.T.kind, Nd.T.name, Nd.T.text, Nd.T.set, Nd.T.subs, Nd.looksB, ByteArray.toList_eq, Nd.nameP, Nd.smallL, Nd.bigL, Nd.behL]
theorem ex_same : Nd.sameB exT exT = true := by simp [exT, starT, tokT, Nd.sameB, Nd.sameL]
theorem ex_diff : Nd.sameB exT starT = false := by simp [exT, starT, Nd.sameB]
/-- A node whose Subs are one or two that lie one behind the other. -/
theorem two_at {k : Int} {t u : Nd.T} {w : World} {g : Nat} {tt : TypeId} {v0 v1 v2 v3 v4 u0 u1 u2 u3 u4 : Value} (hk : 0 ≤ k ∧ k < 256) (hb : Bk w g tt #[v0, v1, v2, v3, v4, u0, u1, u2, u3, u4]) (ht : Nd.At w t (.agg #[v0, v1, v2, v3, v4])) (hu : Nd.At w u (.agg #[u0, u1, u2, u3, u4])) :
    Nd.At w (.mk k ⟨#[]⟩ ⟨#[]⟩ [] [t, u]) (.agg #[.int .u8 k, .string ⟨#[]⟩, .string ⟨#[]⟩, .slice none 0 0, .slice (some ⟨g, 0, none⟩) 2 2]) := by
  unfold Nd.At
  refine ⟨none, 0, some ⟨g, 0, none⟩, 2, rfl, hk, by simp [ByteArray.size], by simp [ByteArray.size], ⟨by simp, by simp⟩, ⟨by simp, by simp⟩, trivial, ?_⟩
  unfold Nd.AtL
  refine ⟨g, 0, v0, v1, v2, v3, v4, rfl, hb.cell 0, hb.cell 1, hb.cell 2, hb.cell 3, hb.cell 4, ht, ?_⟩
  unfold Nd.AtL
  exact ⟨g, 5, u0, u1, u2, u3, u4, rfl, hb.cell 5, hb.cell 6, hb.cell 7, hb.cell 8, hb.cell 9, hu, by unfold Nd.AtL; trivial⟩
theorem one_at {k : Int} {t : Nd.T} {w : World} {g : Nat} {tt : TypeId} {v0 v1 v2 v3 v4 : Value} (hk : 0 ≤ k ∧ k < 256) (hb : Bk w g tt #[v0, v1, v2, v3, v4]) (ht : Nd.At w t (.agg #[v0, v1, v2, v3, v4])) :
    Nd.At w (.mk k ⟨#[]⟩ ⟨#[]⟩ [] [t]) (.agg #[.int .u8 k, .string ⟨#[]⟩, .string ⟨#[]⟩, .slice none 0 0, .slice (some ⟨g, 0, none⟩) 1 1]) := by
  unfold Nd.At
  refine ⟨none, 0, some ⟨g, 0, none⟩, 1, rfl, hk, by simp [ByteArray.size], by simp [ByteArray.size], ⟨by simp, by simp⟩, ⟨by simp, by simp⟩, trivial, ?_⟩
  unfold Nd.AtL
  exact ⟨g, 0, v0, v1, v2, v3, v4, rfl, hb.cell 0, hb.cell 1, hb.cell 2, hb.cell 3, hb.cell 4, ht, by unfold Nd.AtL; trivial⟩
theorem ref_at (s : ByteArray) (w : World) (hs : s.size ≤ 140737488351232) : Nd.At w (.mk 5 s ⟨#[]⟩ [] []) (.agg #[.int .u8 5, .string s, .string ⟨#[]⟩, .slice none 0 0, .slice none 0 0]) := by
  unfold Nd.At
  exact ⟨none, 0, none, 0, rfl, by omega, hs, by simp [ByteArray.size], ⟨by simp, by simp⟩, ⟨by simp, by simp⟩, trivial, by unfold Nd.AtL; trivial⟩
theorem ck {w : World} {g o : Nat} {v : Value} {o1 : Obj} (h : w.cell? ⟨g, o, none⟩ = some v) : (w.alloc o1).cell? ⟨g, o, none⟩ = some v := Nd.cell_keeps ((Below.refl _ _).alloc (Nat.le_refl _) _) h
theorem ckd {w : World} {a : Addr} {v : Value} (h : w.cell? a = some v) : w.drew.cell? a = some v := h
theorem bel4 (W : World) (a b c d : Obj) : Below W.heap.size W ((((W.alloc a).alloc b).alloc c).alloc d).drew := ((((Below.refl _ W).alloc (Nat.le_refl _) a).alloc (by simp) b).alloc (by simp; omega) c |>.alloc (by simp; omega) d).drew
theorem bk4_0 (W : World) (cs : Array Value) (t : TypeId) (b c d : Obj) : Bk ((((W.alloc (.cells cs t)).alloc b).alloc c).alloc d).drew W.heap.size t cs := ((((Bk.made W t cs).alloc b).alloc c).alloc d)
theorem bk4_1 (W : World) (cs : Array Value) (t : TypeId) (a c d : Obj) : Bk ((((W.alloc a).alloc (.cells cs t)).alloc c).alloc d).drew (W.heap.size + 1) t cs := by
  have := ((Bk.made (W.alloc a) t cs).alloc c).alloc d
  rw [World.size_alloc] at this
  exact this
theorem bk4_2 (W : World) (cs : Array Value) (t : TypeId) (a b d : Obj) : Bk ((((W.alloc a).alloc b).alloc (.cells cs t)).alloc d).drew (W.heap.size + 1 + 1) t cs := by
  have := (Bk.made ((W.alloc a).alloc b) t cs).alloc d
  rw [World.size_alloc, World.size_alloc] at this
  exact this
theorem bk4_3 (W : World) (cs : Array Value) (t : TypeId) (a b c : Obj) : Bk ((((W.alloc a).alloc b).alloc c).alloc (.cells cs t)).drew (W.heap.size + 1 + 1 + 1) t cs := by
  have := Bk.made (((W.alloc a).alloc b).alloc c) t cs
  rw [World.size_alloc, World.size_alloc, World.size_alloc] at this
  exact this
def ExOk (W5 wx : World) (bn g : Nat) : Prop := Bk wx bn 26 #[.int .u8 0, .string ⟨#[]⟩, .string ⟨#[]⟩, .slice none 0 0, .slice (some ⟨g, 0, none⟩) 2 2] ∧ Nd.At wx exT (.agg #[.int .u8 0, .string ⟨#[]⟩, .string ⟨#[]⟩, .slice none 0 0, .slice (some ⟨g, 0, none⟩) 2 2]) ∧ Below W5.heap.size W5 wx
theorem exOk_mk {W5 wx : World} {bn g g2 : Nat} {v0 v1 v2 v3 v4 : Value} (h1 : Bk wx bn 26 #[.int .u8 0, .string ⟨#[]⟩, .string ⟨#[]⟩, .slice none 0 0, .slice (some ⟨g, 0, none⟩) 2 2])
    (h2 : Bk wx g 26 #[.int .u8 6, .string ⟨#[65]⟩, .string ⟨#[]⟩, .slice none 0 0, .slice none 0 0, .int .u8 1, .string ⟨#[]⟩, .string ⟨#[]⟩, .slice none 0 0, .slice (some ⟨g2, 0, none⟩) 2 2])
    (h3 : Bk wx g2 26 #[v0, v1, v2, v3, v4, .int .u8 5, .string ⟨#[100]⟩, .string ⟨#[]⟩, .slice none 0 0, .slice none 0 0])
    (hB : Below W5.heap.size W5 wx) (hS : Nd.At W5 starT (.agg #[v0, v1, v2, v3, v4])) : ExOk W5 wx bn g :=
  ⟨h1, two_at (by omega) h2 (tok_at ⟨#[65]⟩ _ (by decide)) (two_at (by omega) h3 (Nd.At.below hB _ hS) (ref_at ⟨#[100]⟩ _ (by decide))), hB⟩
set_option maxHeartbeats 2000000 in
theorem lives_true (w : World) (hE : Env w) : Calls Tryz.prog 5 #[] w fun e w' => e = .returned (.bool true) ∧ Below w.heap.size w w' := by
  have CT := Lib.hid (fun s wx => tok_any s wx)
  have HE := Lib.hid hE
  clear hE
  go_enter Tryz.func5, Tryz.ntmps5
  go_wp2_with fail
  refine (CT.out _ _).mono ?_
  rintro e w1 ⟨rfl, rfl⟩
  go_wp2_with fail
  refine (CT.out _ _).mono ?_
  rintro e w2 ⟨rfl, rfl⟩
  go_upto_region 2 with fail
  obtain ⟨W2, hW2⟩ : ∃ W2, (w.alloc (.cells (tokC ⟨#[66]⟩) 26)).alloc (.cells (tokC ⟨#[67]⟩) 26) = W2 := ⟨_, rfl⟩
  have hz2 : W2.heap.size = w.heap.size + 1 + 1 := by rw [← hW2]; simp
  have hb2 : Below w.heap.size w W2 := by rw [← hW2]; exact ((Below.refl _ w).alloc (Nat.le_refl _) _).alloc (by simp) _
  rw [hW2]
  rw [← hz2]
  obtain ⟨W5, hW5⟩ : ∃ W5, ((W2.alloc (.cells #[.int .u8 6, .string ⟨#[66]⟩, .string ⟨#[]⟩, .slice none 0 0, .slice none 0 0, .int .u8 6, .string ⟨#[67]⟩, .string ⟨#[]⟩, .slice none 0 0, .slice none 0 0] 26)).alloc (.cells #[.int .u8 0, .string ⟨#[]⟩, .string ⟨#[]⟩, .slice none 0 0, .slice (some ⟨W2.heap.size, 0, none⟩) 2 2] 26)).alloc (.cells #[.int .u8 3, .string ⟨#[]⟩, .string ⟨#[]⟩, .slice none 0 0, .slice (some ⟨W2.heap.size + 1, 0, none⟩) 1 1] 26) = W5 := ⟨_, rfl⟩
  rw [hW5]
  have hb5 : Below W2.heap.size W2 W5 := by rw [← hW5]; exact (((Below.refl _ W2).alloc (Nat.le_refl _) _).alloc (by simp) _).alloc (by simp; omega) _
  have k2 : Bk W5 W2.heap.size 26 #[.int .u8 6, .string ⟨#[66]⟩, .string ⟨#[]⟩, .slice none 0 0, .slice none 0 0, .int .u8 6, .string ⟨#[67]⟩, .string ⟨#[]⟩, .slice none 0 0, .slice none 0 0] := by
    rw [← hW5]; exact ((Bk.made W2 _ _).alloc _).alloc _
  have k3 : Bk W5 (W2.heap.size + 1) 26 #[.int .u8 0, .string ⟨#[]⟩, .string ⟨#[]⟩, .slice none 0 0, .slice (some ⟨W2.heap.size, 0, none⟩) 2 2] := by
    rw [← hW5]
    have := (Bk.made (W2.alloc (.cells #[.int .u8 6, .string ⟨#[66]⟩, .string ⟨#[]⟩, .slice none 0 0, .slice none 0 0, .int .u8 6, .string ⟨#[67]⟩, .string ⟨#[]⟩, .slice none 0 0, .slice none 0 0] 26)) 26 #[.int .u8 0, .string ⟨#[]⟩, .string ⟨#[]⟩, .slice none 0 0, .slice (some ⟨W2.heap.size, 0, none⟩) 2 2]).alloc (.cells #[.int .u8 3, .string ⟨#[]⟩, .string ⟨#[]⟩, .slice none 0 0, .slice (some ⟨W2.heap.size + 1, 0, none⟩) 1 1] 26)
    rwa [World.size_alloc] at this
  have k4 : Bk W5 (W2.heap.size + 1 + 1) 26 #[.int .u8 3, .string ⟨#[]⟩, .string ⟨#[]⟩, .slice none 0 0, .slice (some ⟨W2.heap.size + 1, 0, none⟩) 1 1] := by
    rw [← hW5]
    have := Bk.made ((W2.alloc (.cells #[.int .u8 6, .string ⟨#[66]⟩, .string ⟨#[]⟩, .slice none 0 0, .slice none 0 0, .int .u8 6, .string ⟨#[67]⟩, .string ⟨#[]⟩, .slice none 0 0, .slice none 0 0] 26)).alloc (.cells #[.int .u8 0, .string ⟨#[]⟩, .string ⟨#[]⟩, .slice none 0 0, .slice (some ⟨W2.heap.size, 0, none⟩) 2 2] 26)) 26 #[.int .u8 3, .string ⟨#[]⟩, .string ⟨#[]⟩, .slice none 0 0, .slice (some ⟨W2.heap.size + 1, 0, none⟩) 1 1]
    rwa [World.size_alloc, World.size_alloc] at this
  have hS5 : Nd.At W5 starT (.agg #[.int .u8 3, .string ⟨#[]⟩, .string ⟨#[]⟩, .slice none 0 0, .slice (some ⟨W2.heap.size + 1, 0, none⟩) 1 1]) := one_at (by omega) k3 (two_at (by omega) k2 (tok_at _ _ (by decide)) (tok_at _ _ (by decide)))
  have HB5 := Lib.hid (hb2.trans (hb5.mono hb2.size))
  have HS5 := Lib.hid hS5
  have HK4 := Lib.hid k4
  have c0 := k4.cell 0
  have c1 := k4.cell 1
  have c2 := k4.cell 2
  have c3 := k4.cell 3
  have c4 := k4.cell 4
  simp at c0 c1 c2 c3 c4
  obtain ⟨gS, hgS⟩ : ∃ g, W2.heap.size + 1 + 1 = g := ⟨_, rfl⟩
  obtain ⟨gA, hgA⟩ : ∃ g, W2.heap.size + 1 = g := ⟨_, rfl⟩
  rw [hgS] at HK4 c0 c1 c2 c3 c4 ⊢
  rw [hgA] at HK4 HS5 c4 ⊢
  clear hW2 hW5 hz2 hb2 hb5 k2 k3 k4 hS5 hgS hgA
  go_cut [2] (fun x wx => ∃ bn g, x = .pointer (some ⟨bn, 0, none⟩) ∧ ExOk W5 wx bn g)
  case first =>
    go_region_held3 (fun w' => w'.cell? ⟨gS, 0, none⟩ = some (.int .u8 3) ∧ w'.cell? ⟨gS, 1, none⟩ = some (.string ⟨#[]⟩) ∧ w'.cell? ⟨gS, 2, none⟩ = some (.string ⟨#[]⟩) ∧ w'.cell? ⟨gS, 3, none⟩ = some (.slice none 0 0) ∧ w'.cell? ⟨gS, 4, none⟩ = some (.slice (some ⟨gA, 0, none⟩) 1 1)) (first | (go_keep; done) | exact ⟨ckd (ck (ck (ck (c0)))), ckd (ck (ck (ck (c1)))), ckd (ck (ck (ck (c2)))), ckd (ck (ck (ck (c3)))), ckd (ck (ck (ck (c4))))⟩ | exact ⟨ckd (ck (ck (ck (ck (c0))))), ckd (ck (ck (ck (ck (c1))))), ckd (ck (ck (ck (ck (c2))))), ckd (ck (ck (ck (ck (c3))))), ckd (ck (ck (ck (ck (c4)))))⟩ | exact ⟨ckd (ck (ck (c0))), ckd (ck (ck (c1))), ckd (ck (ck (c2))), ckd (ck (ck (c3))), ckd (ck (ck (c4)))⟩ | exact ⟨ckd (ck (c0)), ckd (ck (c1)), ckd (ck (c2)), ckd (ck (c3)), ckd (ck (c4))⟩ | exact ⟨(ck (ck (ck (c0)))), (ck (ck (ck (c1)))), (ck (ck (ck (c2)))), (ck (ck (ck (c3)))), (ck (ck (ck (c4))))⟩ | exact ⟨(ck (ck (ck (ck (c0))))), (ck (ck (ck (ck (c1))))), (ck (ck (ck (ck (c2))))), (ck (ck (ck (ck (c3))))), (ck (ck (ck (ck (c4)))))⟩)
      (first | (go_at_call 19; refine (CT.out _ _).mono ?_; rintro e w3 ⟨rfl, rfl⟩))
    all_goals
      go_wp2_with fail
      go_meet
      exact ⟨_, _, rfl, exOk_mk (by first | exact bk4_0 _ _ _ _ _ _ | exact bk4_1 _ _ _ _ _ _ | exact bk4_2 _ _ _ _ _ _ | exact bk4_3 _ _ _ _ _ _) (by first | exact bk4_0 _ _ _ _ _ _ | exact bk4_1 _ _ _ _ _ _ | exact bk4_2 _ _ _ _ _ _ | exact bk4_3 _ _ _ _ _ _) (by first | exact bk4_0 _ _ _ _ _ _ | exact bk4_1 _ _ _ _ _ _ | exact bk4_2 _ _ _ _ _ _ | exact bk4_3 _ _ _ _ _ _) (bel4 _ _ _ _ _) HS5.out⟩
  case rest =>
    obtain ⟨bn, g, rfl, hbn, hAt, hb⟩ := hcut
    have hE' : Env wc := HE.out.below (HB5.out.trans (hb.mono HB5.out.size))
    have hS' : Nd.At wc starT (.agg #[.int .u8 3, .string ⟨#[]⟩, .string ⟨#[]⟩, .slice none 0 0, .slice (some ⟨gA, 0, none⟩) 1 1]) := Nd.At.below hb _ HS5.out
    have ends' : ∀ wr, Below wc.heap.size wc wr → Calls Tryz.prog 24 #[(.agg #[.int .u8 0, .string ⟨#[]⟩, .string ⟨#[]⟩, .slice none 0 0, .slice (some ⟨g, 0, none⟩) 2 2])] wr fun e w' => e = .returned (.bool true) ∧ Below wr.heap.size wr w' := fun wr h => ends_any exT _ wr (hAt.below h) (by decide) (by decide)
    have TX := Lib.hid (fun wr (h : Below wc.heap.size wc wr) => (NText_any exT (.agg #[.int .u8 0, .string ⟨#[]⟩, .string ⟨#[]⟩, .slice none 0 0, .slice (some ⟨g, 0, none⟩) 2 2]) wr (hE'.below h) (hAt.below h) (by decide) (by decide) (by decide)).mono (R' := fun e w' => e = .returned (.string ⟨#[65, 32, 124, 32, 40, 66, 32, 124, 32, 67, 41, 42, 32, 100]⟩) ∧ Below wc.heap.size wc w') fun e w' k => ⟨by rw [k.1, ex_txt], h.trans (k.2.mono h.size)⟩)
    have CO := Lib.hid (fun wr (h : Below wc.heap.size wc wr) => (Count_any exT (.agg #[.int .u8 0, .string ⟨#[]⟩, .string ⟨#[]⟩, .slice none 0 0, .slice (some ⟨g, 0, none⟩) 2 2]) wr (hAt.below h) (by decide) (by decide)).mono (R' := fun e w' => e = .returned (.int .i64 8) ∧ Below wc.heap.size wc w') fun e w' k => ⟨by rw [k.1, ex_count]; rfl, h.trans (k.2.mono h.size)⟩)
    have DE := Lib.hid (fun wr (h : Below wc.heap.size wc wr) => (Deep_any exT (.agg #[.int .u8 0, .string ⟨#[]⟩, .string ⟨#[]⟩, .slice none 0 0, .slice (some ⟨g, 0, none⟩) 2 2]) wr (hAt.below h) (by decide) (by decide)).mono (R' := fun e w' => e = .returned (.int .i64 5) ∧ Below wc.heap.size wc w') fun e w' k => ⟨by rw [k.1, ex_deep]; rfl, h.trans (k.2.mono h.size)⟩)
    have PF := Lib.hid (fun wr (h : Below wc.heap.size wc wr) => (Plain_any exT (.agg #[.int .u8 0, .string ⟨#[]⟩, .string ⟨#[]⟩, .slice none 0 0, .slice (some ⟨g, 0, none⟩) 2 2]) false wr (hE'.below h) (hAt.below h) (by decide) (by decide)).mono (R' := fun e w' => e = .returned (.bool true) ∧ Below wc.heap.size wc w') fun e w' k => ⟨by rw [k.1, ex_plain], h.trans (k.2.mono h.size)⟩)
    have PT := Lib.hid (fun wr (h : Below wc.heap.size wc wr) => (Plain_any exT (.agg #[.int .u8 0, .string ⟨#[]⟩, .string ⟨#[]⟩, .slice none 0 0, .slice (some ⟨g, 0, none⟩) 2 2]) true wr (hE'.below h) (hAt.below h) (by decide) (by decide)).mono (R' := fun e w' => e = .returned (.bool false) ∧ Below wc.heap.size wc w') fun e w' k => ⟨by rw [k.1, ex_plain'], h.trans (k.2.mono h.size)⟩)
    have CP := Lib.hid (fun wr (h : Below wc.heap.size wc wr) => (Copy_any exT (.agg #[.int .u8 0, .string ⟨#[]⟩, .string ⟨#[]⟩, .slice none 0 0, .slice (some ⟨g, 0, none⟩) 2 2]) wr (hAt.below h) (by decide) (fun wx hx => ends' wx (h.trans (hx.mono h.size)))).mono (R' := fun e w' => ∃ v', e = .returned v' ∧ Nd.At w' exT v' ∧ Below wc.heap.size wc w') fun e w' k => by obtain ⟨v', k1, k2, k3⟩ := k; exact ⟨v', k1, k2.to, h.trans (k3.mono h.size)⟩)
    have SA := Lib.hid (fun wr vc (h : Below wc.heap.size wc wr) (hv : Nd.At wr exT vc) => (Same_any exT exT (.agg #[.int .u8 0, .string ⟨#[]⟩, .string ⟨#[]⟩, .slice none 0 0, .slice (some ⟨g, 0, none⟩) 2 2]) vc wr (hAt.below h) hv (fun wx hx => ends' wx (h.trans (hx.mono h.size)))).mono (R' := fun e w' => e = .returned (.bool true) ∧ Below wc.heap.size wc w') fun e w' k => ⟨by rw [k.1, ex_same], h.trans (k.2.mono h.size)⟩)
    have SD := Lib.hid (fun wr (h : Below wc.heap.size wc wr) => (Same_any exT starT (.agg #[.int .u8 0, .string ⟨#[]⟩, .string ⟨#[]⟩, .slice none 0 0, .slice (some ⟨g, 0, none⟩) 2 2]) (.agg #[.int .u8 3, .string ⟨#[]⟩, .string ⟨#[]⟩, .slice none 0 0, .slice (some ⟨gA, 0, none⟩) 1 1]) wr (hAt.below h) (hS'.below h) (fun wx hx => ends' wx (h.trans (hx.mono h.size)))).mono (R' := fun e w' => e = .returned (.bool false) ∧ Below wc.heap.size wc w') fun e w' k => ⟨by rw [k.1, ex_diff], h.trans (k.2.mono h.size)⟩)
    have lb := hbn.lt
    have lS : gS < wc.heap.size := Nat.lt_of_lt_of_le HK4.out.lt hb.size
    have y0 := hbn.cell 0
    have y1 := hbn.cell 1
    have y2 := hbn.cell 2
    have y3 := hbn.cell 3
    have y4 := hbn.cell 4
    have kS := HK4.out.below hb HK4.out.lt
    have y5 := kS.cell 0
    have y6 := kS.cell 1
    have y7 := kS.cell 2
    have y8 := kS.cell 3
    have y9 := kS.cell 4
    simp at y0 y1 y2 y3 y4 y5 y6 y7 y8 y9
    have HY : Hid (∀ w', Below wc.heap.size wc w' → w'.cell? ⟨bn, 0, none⟩ = some (.int .u8 0) ∧ w'.cell? ⟨bn, 1, none⟩ = some (.string ⟨#[]⟩) ∧ w'.cell? ⟨bn, 2, none⟩ = some (.string ⟨#[]⟩) ∧ w'.cell? ⟨bn, 3, none⟩ = some (.slice none 0 0) ∧ w'.cell? ⟨bn, 4, none⟩ = some (.slice (some ⟨g, 0, none⟩) 2 2) ∧ w'.cell? ⟨gS, 0, none⟩ = some (.int .u8 3) ∧ w'.cell? ⟨gS, 1, none⟩ = some (.string ⟨#[]⟩) ∧ w'.cell? ⟨gS, 2, none⟩ = some (.string ⟨#[]⟩) ∧ w'.cell? ⟨gS, 3, none⟩ = some (.slice none 0 0) ∧ w'.cell? ⟨gS, 4, none⟩ = some (.slice (some ⟨gA, 0, none⟩) 1 1)) := Lib.hid (fun w' b => ⟨(b.cell (p := ⟨bn, 0, none⟩) lb).trans y0, (b.cell (p := ⟨bn, 1, none⟩) lb).trans y1, (b.cell (p := ⟨bn, 2, none⟩) lb).trans y2, (b.cell (p := ⟨bn, 3, none⟩) lb).trans y3, (b.cell (p := ⟨bn, 4, none⟩) lb).trans y4, (b.cell (p := ⟨gS, 0, none⟩) lS).trans y5, (b.cell (p := ⟨gS, 1, none⟩) lS).trans y6, (b.cell (p := ⟨gS, 2, none⟩) lS).trans y7, (b.cell (p := ⟨gS, 3, none⟩) lS).trans y8, (b.cell (p := ⟨gS, 4, none⟩) lS).trans y9⟩)
    clear lb lS
    have HB6 := Lib.hid (HB5.out.trans (hb.mono HB5.out.size))
    clear c0 c1 c2 c3 c4 HE HB5 HS5 HK4 CT hbn hAt hb hE' hS' ends' kS
    go_upto_region 3 with fail
    go_region_held3 (fun w' => w'.cell? ⟨bn, 0, none⟩ = some (.int .u8 0) ∧ w'.cell? ⟨bn, 1, none⟩ = some (.string ⟨#[]⟩) ∧ w'.cell? ⟨bn, 2, none⟩ = some (.string ⟨#[]⟩) ∧ w'.cell? ⟨bn, 3, none⟩ = some (.slice none 0 0) ∧ w'.cell? ⟨bn, 4, none⟩ = some (.slice (some ⟨g, 0, none⟩) 2 2) ∧ w'.cell? ⟨gS, 0, none⟩ = some (.int .u8 3) ∧ w'.cell? ⟨gS, 1, none⟩ = some (.string ⟨#[]⟩) ∧ w'.cell? ⟨gS, 2, none⟩ = some (.string ⟨#[]⟩) ∧ w'.cell? ⟨gS, 3, none⟩ = some (.slice none 0 0) ∧ w'.cell? ⟨gS, 4, none⟩ = some (.slice (some ⟨gA, 0, none⟩) 1 1)) (go_keep)
      (first | (go_at_call 16; refine (TX.out _ (by first | exact Below.refl _ _ | exact (Below.refl _ _).drew)).mono ?_; rintro e wa ⟨rfl, ba⟩; clear y0 y1 y2 y3 y4 y5 y6 y7 y8 y9; obtain ⟨xwa0, xwa1, xwa2, xwa3, xwa4, xwa5, xwa6, xwa7, xwa8, xwa9⟩ := HY.out _ ba) | (go_at_call 6; refine (CO.out _ (by first | exact ba | exact ba.drew)).mono ?_; rintro e wb ⟨rfl, bb⟩; clear xwa0 xwa1 xwa2 xwa3 xwa4 xwa5 xwa6 xwa7 xwa8 xwa9; obtain ⟨xwb0, xwb1, xwb2, xwb3, xwb4, xwb5, xwb6, xwb7, xwb8, xwb9⟩ := HY.out _ bb; clear ba) | (go_at_call 8; refine (DE.out _ (by first | exact bb | exact bb.drew)).mono ?_; rintro e wd ⟨rfl, bd⟩; clear xwb0 xwb1 xwb2 xwb3 xwb4 xwb5 xwb6 xwb7 xwb8 xwb9; obtain ⟨xwd0, xwd1, xwd2, xwd3, xwd4, xwd5, xwd6, xwd7, xwd8, xwd9⟩ := HY.out _ bd; clear bb) | (go_at_call 10; have bd' := bd; refine (PF.out _ (by first | exact bd | exact bd.drew)).mono ?_; rintro e we ⟨rfl, be⟩; clear xwd0 xwd1 xwd2 xwd3 xwd4 xwd5 xwd6 xwd7 xwd8 xwd9; obtain ⟨xwe0, xwe1, xwe2, xwe3, xwe4, xwe5, xwe6, xwe7, xwe8, xwe9⟩ := HY.out _ be; clear bd bd') | (go_at_call 10; refine (PT.out _ (by first | exact be | exact be.drew)).mono ?_; rintro e wf ⟨rfl, bf⟩; clear xwe0 xwe1 xwe2 xwe3 xwe4 xwe5 xwe6 xwe7 xwe8 xwe9; obtain ⟨xwf0, xwf1, xwf2, xwf3, xwf4, xwf5, xwf6, xwf7, xwf8, xwf9⟩ := HY.out _ bf; clear be) | (go_at_call 15; refine (CP.out _ (by first | exact bf | exact bf.drew)).mono ?_; rintro e wg ⟨vc, rfl, hvc, bg⟩; clear xwf0 xwf1 xwf2 xwf3 xwf4 xwf5 xwf6 xwf7 xwf8 xwf9; obtain ⟨xwg0, xwg1, xwg2, xwg3, xwg4, xwg5, xwg6, xwg7, xwg8, xwg9⟩ := HY.out _ bg; clear bf) | (go_at_call 12; have hvc' := hvc; refine (SA.out _ _ (by first | exact bg | exact bg.drew) hvc).mono ?_; rintro e wh ⟨rfl, bh⟩; clear xwg0 xwg1 xwg2 xwg3 xwg4 xwg5 xwg6 xwg7 xwg8 xwg9; obtain ⟨xwh0, xwh1, xwh2, xwh3, xwh4, xwh5, xwh6, xwh7, xwh8, xwh9⟩ := HY.out _ bh; clear hvc hvc' bg) | (go_at_call 12; refine (SD.out _ (by first | exact bh | exact bh.drew)).mono ?_; rintro e wi ⟨rfl, bi⟩; clear xwh0 xwh1 xwh2 xwh3 xwh4 xwh5 xwh6 xwh7 xwh8 xwh9; obtain ⟨xwi0, xwi1, xwi2, xwi3, xwi4, xwi5, xwi6, xwi7, xwi8, xwi9⟩ := HY.out _ bi; clear bh))
    have HB7 := Lib.hid (HB6.out.trans (bi.mono HB6.out.size))
    go_wp2_with fail
    go_ret
    exact ⟨by simp, HB7.out⟩
end Go.Proofs.YthfkodimafmmgaaGreatDoor
