/- The contract of what slices.Backward of rules hands back: they come, with their places, from the last one on. -/
import Derived.RangeFuncNested
import Derived.RangeFuncBound
import Derived.RangeFuncCalls
import Derived.RangeFuncLeaves
import Derived.Shelf.Abstract
import Derived.Shelf.RegionOpen
import Derived.OwnWalkIn
import Derived.TacticsInMore
import Derived.LoopNIn
import Derived.LoopIn
import Derived.Test.YtiinkhmgemoamaaDoorPam
import Derived.Test.YtiinkhmgemoamaaDoorPaf
import Derived.Carry
import Derived.Deep.OwnRows
import Derived.Test.YtiinkhmgemoamaaDoorPar
namespace Go.Proofs.YtiinkhmgemoamaaDoor
open Go Go.RowKit Go.Shelf Nu
attribute [local go_sem] Oper.semAt_some
set_option maxRecDepth 100000

namespace Nu
/-- Rules with their places. -/
def en : Nat → List Rl → List (Nat × Rl)
 | _, [] => []
 | k, r :: l => (k, r) :: en (k + 1) l
/-- A rule's value. -/
def RuV (w : World) (r : Rl) (u : Array Value) : Prop := ∃ v0 v1 v2 v3 v4, u = #[.string r.name, .int .u8 r.sort, v0, v1, v2, v3, v4, .int .i64 r.p0, .int .i64 r.p1, .int .i64 r.p2] ∧ Nd.At w r.body (.agg #[v0, v1, v2, v3, v4]) ∧ r.name.size ≤ 140737488351232
/-- The rule r lies at ⟨b, o⟩, its nodes in W1. -/
def RuC2 (W1 w : World) (r : Rl) (b o : Nat) : Prop := ∃ v0 v1 v2 v3 v4, w.cell? ⟨b, o, none⟩ = some (.string r.name) ∧ w.cell? ⟨b, o + 1, none⟩ = some (.int .u8 r.sort) ∧
 w.cell? ⟨b, o + 2, none⟩ = some v0 ∧ w.cell? ⟨b, o + 3, none⟩ = some v1 ∧ w.cell? ⟨b, o + 4, none⟩ = some v2 ∧ w.cell? ⟨b, o + 5, none⟩ = some v3 ∧ w.cell? ⟨b, o + 6, none⟩ = some v4 ∧
 w.cell? ⟨b, o + 7, none⟩ = some (.int .i64 r.p0) ∧ w.cell? ⟨b, o + 8, none⟩ = some (.int .i64 r.p1) ∧ w.cell? ⟨b, o + 9, none⟩ = some (.int .i64 r.p2) ∧
 Nd.At W1 r.body (.agg #[v0, v1, v2, v3, v4]) ∧ (0 ≤ r.sort ∧ r.sort < 256) ∧ r.name.size ≤ 140737488351232
/-- A rule that comes: its place, itself, its value. -/
abbrev ItR (w : World) (rs : List Rl) := { x : Nat × Rl × Array Value // x.1 < 1000 ∧ x.2.1 ∈ rs ∧ RuV w x.2.1 x.2.2 }
def encR {w : World} {rs : List Rl} (x : ItR w rs) : Array Value := #[.int .i64 (x.1.1 : Int), .agg x.1.2.2]
def pl {w : World} {rs : List Rl} (xs : List (ItR w rs)) : List (Nat × Rl) := xs.map fun x => (x.1.1, x.1.2.1)
end Nu
set_option maxHeartbeats 2000000 in
theorem backF_in (w0 : World) (rs : List Nu.Rl) (ra : Option Addr) (rc l C n : Nat) (J Jx : List (ItR w0 rs) → World → Prop) (hJ : AbidesFrom C J)
 (hY : ∀ m pre x W, J pre W → pre.length < rs.length → YieldAt Fence.wide m Tryd.prog l (encR x) W fun e W' =>
  (e = .returned (.bool true) ∧ J (pre ++ [x]) W' ∧ KpB w0.heap.size w0.heap.size W W') ∨ (e = .returned (.bool false) ∧ Jx (pre ++ [x]) W')) (W : World) (Bt : Nat) (hR : RowK w0 W rs ra) (hrc : rs.length ≤ rc ∧ rs.length ≤ 1000)
 (hb : Below w0.heap.size w0 W) (h0 : J [] W) (hbox : Bk W Bt 24 #[.slice ra rs.length rc]) (hBt : w0.heap.size ≤ Bt) :
 CallsIn Fence.wide n Tryd.prog 86 #[.func (.yield l) #[] #[], .pointer (some ⟨Bt, 0, none⟩)] W fun e W' => (∃ u, e = .returned u) ∧ ((∃ ys, pl ys = (en 0 rs).reverse ∧ J ys W') ∨ (∃ pre, True ∧ Jx pre W')) := by
 have c0 := hbox.cell 0
 simp at c0
 have hF : Fence.wide.fn 86 := trivial
 obtain ⟨RN, hRN⟩ : ∃ k, rs.length = k := ⟨_, rfl⟩
 have HRN := Lib.hid hRN
 rw [hRN] at hrc c0 hY hbox
 have n1 : (RN : Int) ≤ 9223372036854775807 := by omega
 have w1 : IntKind.i64.wrap ((RN : Int) - 1) = (RN : Int) - 1 := IntWalk.i64_in _ (by omega)
 have hk0 : KpB w0.heap.size w0.heap.size W W := KpB.refl _ _ _
 clear hRN
 refine callsIn_of_wp Tryd.func86 rfl trivial ?_ rfl
 simp only [Tryd.ntmps86, List.size_toArray, List.length_cons, List.length_nil, Nat.reduceAdd, Nat.reduceSub, Array.replicate_succ, Array.replicate_zero, List.push_toArray, List.append_toArray, List.nil_append, List.cons_append]
 gi_wp2
 gi_loopw [3] (fun p wr => ∃ (k : Nat) (KI : Int) (pre : List (ItR w0 rs)), k ≤ RN ∧ p = .int .i64 KI ∧ Hid ((k : Int) - 1 = KI) ∧ Hid (pl pre = (en k (rs.drop k)).reverse) ∧ pre.length + k = RN ∧ J pre wr ∧ KpB w0.heap.size w0.heap.size W wr)
  (fun p _ => (intOf p + 1).toNat)
 case atStart => exact ⟨RN, _, [], Nat.le_refl _, rfl, Lib.hid rfl, by rw [List.drop_eq_nil_of_le (by rw [HRN.out]; omega)]; exact Lib.hid rfl, by simp, h0, hk0⟩
 case round =>
  obtain ⟨k, KI, pre, hk, rfl, hKI, hpl, hpn, hJr, hkr⟩ := hrel
  have c1 : wr.cell? ⟨Bt, 0, none⟩ = some (.slice ra RN rc) := by
   have := hkr.2 Bt _ _ _ hBt (show W.heap[Bt]? = _ from hbox)
   simp [World.cell?, this]
  have HKI := hKI.out
  by_cases hk1 : 0 < k
  · obtain ⟨q, rfl⟩ : ∃ q, k = q + 1 := ⟨k - 1, by omega⟩
    obtain rfl : KI = (q : Int) := by omega
    have d0 : decide (0 ≤ (q : Int)) = true := by rw [decide_eq_true_iff]; omega
    have p0 : (q : Int) < (RN : Int) := by omega
    obtain ⟨r, hr⟩ : ∃ r, rs[q]? = some r := ⟨_, List.getElem?_eq_getElem (by rw [HRN.out]; omega)⟩
    have hBw := hb.trans hkr.1
    have hRw : RowK w0 wr rs ra := hR.keep hkr.1.size (fun rb cs _ h1 hk => hkr.2 rb cs _ _ h1 hk)
    obtain ⟨g, rfl, v0, v1, v2, v3, v4, b0, b1, b2, b3, b4, b5, b6, b7, b8, b9, hAs, _, hns⟩ : ∃ g, ra = some ⟨g, 0, none⟩ ∧ RuC2 w0 wr r g (q * 10) := by
     rcases hRw with ⟨rfl, _⟩ | ⟨rb, cs, rfl, _, h2, h3⟩
     · simp at hr
     · obtain ⟨v0, v1, v2, v3, v4, a0, a1, a2, a3, a4, a5, a6, a7, a8, a9, hA, hs, hn⟩ := h3 q r hr
       refine ⟨rb, rfl, v0, v1, v2, v3, v4, ?_, ?_, ?_, ?_, ?_, ?_, ?_, ?_, ?_, ?_, hA, hs, hn⟩ <;> rw [h2.cell] <;> assumption
    have hV : RuV w0 r #[.string r.name, .int .u8 r.sort, v0, v1, v2, v3, v4, .int .i64 r.p0, .int .i64 r.p1, .int .i64 r.p2] := ⟨v0, v1, v2, v3, v4, rfl, hAs, hns⟩
    have hq1000 : q < 1000 := by omega
    have hy0 := hY (n - 1) pre ⟨(q, r, #[.string r.name, .int .u8 r.sort, v0, v1, v2, v3, v4, .int .i64 r.p0, .int .i64 r.p1, .int .i64 r.p2]), hq1000, List.mem_of_getElem? hr, hV⟩ wr hJr (by omega)
    have hpl2 : ∀ x : ItR w0 rs, x.1.1 = q → x.1.2.1 = r → pl (pre ++ [x]) = (en q (rs.drop q)).reverse := by
     intro x h1 h2
     have : pl (pre ++ [x]) = pl pre ++ [(x.1.1, x.1.2.1)] := by simp [pl]
     rw [this, hpl.out, h1, h2, Nd.drop_some hr]
     simp only [en, List.reverse_cons]
    have hp3 := Lib.hid (hpl2 ⟨(q, r, #[.string r.name, .int .u8 r.sort, v0, v1, v2, v3, v4, .int .i64 r.p0, .int .i64 r.p1, .int .i64 r.p2]), hq1000, List.mem_of_getElem? hr, hV⟩ rfl rfl)
    obtain ⟨X, hX⟩ : ∃ X : ItR w0 rs, (⟨(q, r, #[.string r.name, .int .u8 r.sort, v0, v1, v2, v3, v4, .int .i64 r.p0, .int .i64 r.p1, .int .i64 r.p2]), hq1000, List.mem_of_getElem? hr, hV⟩ : ItR w0 rs) = X := ⟨_, rfl⟩
    have hex : encR X = #[.int .i64 (q : Int), .agg #[.string r.name, .int .u8 r.sort, v0, v1, v2, v3, v4, .int .i64 r.p0, .int .i64 r.p1, .int .i64 r.p2]] := by rw [← hX]; rfl
    rw [hX] at hy0 hp3
    rw [hex] at hy0
    have wq : IntKind.i64.wrap ((q : Int) - 1) = (q : Int) - 1 := IntWalk.i64_in _ (by omega)
    obtain ⟨sa1, sc1, ba1, bc1, rfl, rfl, rfl, rfl, rfl⟩ := hAs.five
    generalize r.body.kind = sk at *
    generalize r.body.name = sn at *
    generalize r.body.text = sx at *
    generalize r.body.set.length = sl at *
    generalize r.body.subs.length = sm at *
    generalize r.name = rn at *
    generalize r.sort = rsort at *
    generalize r.p0 = q0 at *
    generalize r.p1 = q1 at *
    generalize r.p2 = q2 at *
    obtain ⟨fn, tmps, assign, body, hy, hyR⟩ := hy0
    clear hRw hpl2 hX hex hAs hpl hKI HKI
    gi_wp2_with ((try refine ⟨wide_hdd _, ?_⟩); refine hyR.mono ?_; clear hyR; rintro e W2 (⟨rfl, hJ2, hk2⟩ | ⟨rfl, hx2⟩))
    · clear hy
      go_roundw
      case rel => exact ⟨q, (q : Int) - 1, pre ++ [X], by omega, rfl, Lib.hid rfl, hp3, by simp; omega, hJ2, hkr.trans hk2⟩
      case measure => simp only [intOf]; omega
    · clear hy
      refine bodyPost_ret (results_none rfl _ _ _) rfl ?_
      exact ⟨⟨_, rfl⟩, .inr ⟨pre ++ [X], trivial, hx2⟩⟩
  · obtain rfl : k = 0 := by omega
    obtain rfl : KI = -1 := by omega
    rw [List.drop_zero] at hpl
    gi_wp2
    go_end0
    exact ⟨⟨_, rfl⟩, .inl ⟨pre, hpl.out, hJr⟩⟩
theorem back_stops (w0 : World) (rs : List Nu.Rl) (ra : Option Addr) (rc n : Nat) (w : World) (Bt : Nat) (hR : RowK w0 w rs ra) (hrc : rs.length ≤ rc ∧ rs.length ≤ 1000) (hb : Below w0.heap.size w0 w) (hbox : Bk w Bt 24 #[.slice ra rs.length rc]) (hBt : w0.heap.size ≤ Bt) :
 SeqStopsK Fence.wide n Tryd.prog 86 #[.pointer (some ⟨Bt, 0, none⟩)] (encR : ItR w0 rs → Array Value) (KpB w0.heap.size w0.heap.size) (fun ys => pl ys = (en 0 rs).reverse) (fun _ => True) rs.length w :=
 fun l J Jx W hW hJ _ hY h0 => backF_in w0 rs ra rc l W.heap.size n J Jx hJ (fun _ pre x W1 hj hl => yield_any (hY pre x W1 hj hl)) W Bt (hR.keep hW.size (fun _rb _cs _ _ hk => hk.below hW hk.lt)) hrc (hb.trans (hW.mono hb.size)) h0 (hbox.below hW hbox.lt) hBt
theorem Backward_any (ra : Option Addr) (k rc : Nat) (w : World) :
 Calls Tryd.prog 79 #[.slice ra k rc] w fun e w' => e = .returned (.func (.func 86) #[] #[.pointer (some ⟨w.heap.size, 0, none⟩)]) ∧ w' = w.alloc (.cells #[.slice ra k rc] 24) := by
 go_enter Tryd.func79, Tryd.ntmps79
 go_wp2_with fail
 go_ret
 exact ⟨rfl, rfl⟩
end Go.Proofs.YtiinkhmgemoamaaDoor
namespace Go.Proofs.YtiinkhmgemoamaaDoor
open Go Go.RowKit Nu Go.Maps
set_option maxRecDepth 100000

theorem infoBool : (Tryd.prog.info? 4).map (fun i => (i.zero, i.size, i.bytes)) = some (some (.bool false), 1, 1) := by kernel_rfl
namespace Nu
def foldD (ps : List (Nat × Rl)) : DataW Unit := ps.foldl (fun D p => D.put (.string p.2.name.data.toList) (.lit (.int .i64 (p.1 : Int)))) (.map [])
theorem foldD_snoc (ps : List (Nat × Rl)) (p : Nat × Rl) : foldD (ps ++ [p]) = (foldD ps).put (.string p.2.name.data.toList) (.lit (.int .i64 (p.1 : Int))) := by
 unfold foldD
 rw [List.foldl_append]
 rfl
theorem foldD_en : ∀ (l : List Rl) (k : Nat), foldD (en k l).reverse = mapF k l
 | [], _ => rfl
 | r :: l, k => by
  simp only [en, List.reverse_cons, mapF]
  rw [foldD_snoc, foldD_en l (k + 1)]
theorem en_len : ∀ (l : List Rl) (k : Nat), (en k l).length = l.length
 | [], _ => rfl
 | _ :: l, k => by simp only [en, List.length_cons, en_len l (k + 1)]
end Nu
theorem made_bools (n : Nat) : madeCells #[.bool false] n = bools (List.replicate n false) := by
 unfold bools
 rw [List.map_replicate]
 apply Array.ext
 · simp [madeCells]
 · intro i h1 h2
   simp [madeCells, Nat.mod_one]
end Go.Proofs.YtiinkhmgemoamaaDoor
namespace Go.Proofs.YtiinkhmgemoamaaDoor.Gl
open Go Go.RowKit Nd Nu Nf
attribute [local go_sem] Oper.semAt_some
set_option maxRecDepth 100000

/-- A row of booleans of its own. -/
def BoV (w : World) (v : Value) (m : List Bool) : Prop := ∃ b c, v = .slice (some ⟨b, 0, none⟩) m.length c ∧ Bk w b 4 (bools m)
theorem BoV.below {w w' : World} {v : Value} {m : List Bool} (h : BoV w v m) (hb : Below w.heap.size w w') : BoV w' v m := by
 obtain ⟨b, c, h1, h2⟩ := h
 exact ⟨b, c, h1, h2.below hb h2.lt⟩
/-- The runes l lie at v. -/
def LiV (w : World) (v : Value) (l : List Int) : Prop := ∃ a c, v = .slice a l.length c ∧ ∀ (i : Nat) (r : Int), l[i]? = some r → ∃ b o, a = some ⟨b, o, none⟩ ∧ w.cell? ⟨b, o + i, none⟩ = some (.int .i32 r)
theorem LiV.below {w w' : World} {v : Value} {l : List Int} (h : LiV w v l) (hb : Below w.heap.size w w') : LiV w' v l := by
 obtain ⟨a, c, h1, h2⟩ := h
 exact ⟨a, c, h1, fun i r hr => by
  obtain ⟨b, o, e1, e2⟩ := h2 i r hr
  exact ⟨b, o, e1, Nd.cell_keeps hb e2⟩⟩
set_option maxHeartbeats 2000000 in
theorem some_any (m : List Bool) (v : Value) (w : World) (hv : BoV w v m) (hl : m.length ≤ 140737488351232) :
 Calls Tryd.prog 23 #[v] w fun e w' => e = .returned (.bool (m.any id)) ∧ w' = w := by
 obtain ⟨b, c, rfl, hk⟩ := hv
 obtain ⟨N, hN⟩ : ∃ N, m.length = N := ⟨_, rfl⟩
 have HN := Lib.hid hN
 have HK := Lib.hid (fun (i : Nat) (x : Bool) (h : m[i]? = some x) => show w.cell? ⟨b, i, none⟩ = some (.bool x) from by
  rw [hk.cell]
  have hi := (List.getElem?_eq_some_iff.1 h).1
  rw [bools_get hi, List.getD_eq_getElem?_getD, h]
  rfl)
 obtain ⟨TT, hT⟩ : ∃ t, m.any id = t := ⟨_, rfl⟩
 have HT := Lib.hid hT
 rw [hN] at hl ⊢
 rw [hT]
 have n1 : (N : Int) ≤ 9223372036854775807 := by omega
 clear hN hk hT
 go_enter Tryd.func23, Tryd.ntmps23
 go_wp2_with fail
 go_loopw [3] (fun i wr => ∃ (k : Nat), k ≤ N ∧ i = .int .i64 k ∧ wr = w ∧ Hid ((m.drop k).any id = TT)) (fun i _ => N - (intOf i).toNat)
 case atStart => exact ⟨0, Nat.zero_le _, rfl, rfl, Lib.hid (by rw [List.drop_zero]; exact HT.out)⟩
 case round =>
  obtain ⟨k, hk, rfl, rfl, hJ⟩ := hrel
  by_cases hlt : k < N
  · obtain ⟨x, hx⟩ : ∃ x, m[k]? = some x := ⟨_, List.getElem?_eq_getElem (by rw [HN.out]; exact hlt)⟩
    have c0 := HK.out k x hx
    have d0 : decide (k < N) = true := by rw [decide_eq_true_iff]; exact hlt
    have a0 : (k : Int) < (N : Int) := by omega
    have a1 : (0 : Int) ≤ (k : Int) := by omega
    have hJ2 : (x || (m.drop (k + 1)).any id) = TT := by rw [← hJ.out, Nd.drop_some hx]; rfl
    cases x with
    | true =>
     have HF := Lib.hid (show TT = true from by rw [← hJ2]; rfl)
     clear hJ hJ2 hx
     go_wp2_with fail
     go_ret
     exact ⟨by rw [HF.out]; rfl, rfl⟩
    | false =>
     have HF := Lib.hid (show (m.drop (k + 1)).any id = TT from by rw [← hJ2]; rfl)
     clear hJ hJ2 hx
     go_wp2_with fail
     exact ⟨⟨k + 1, by omega, by go_num, trivial, HF⟩, by simp [intOf]; omega⟩
  · have d0 : decide (k < N) = false := by rw [decide_eq_false_iff_not]; exact hlt
    have HF := Lib.hid (show TT = false from by rw [← hJ.out, List.drop_eq_nil_of_le (by rw [HN.out]; omega)]; rfl)
    clear hJ
    go_wp2_with fail
    go_ret
    exact ⟨by rw [HF.out]; rfl, rfl⟩
set_option maxHeartbeats 2000000 in
theorem holds_any (set : List (Int × Int)) (a : Option Addr) (c : Nat) (r : Int) (w : World) (hR : Nd.RgAt w set a) (hl : set.length ≤ 140737488351232) :
 Calls Tryd.prog 11 #[.slice a set.length c, .int .i32 r] w fun e w' => e = .returned (.bool (inS set r)) ∧ w' = w := by
 obtain ⟨N, hN⟩ : ∃ N, set.length = N := ⟨_, rfl⟩
 have HN := Lib.hid hN
 have HR := Lib.hid hR
 obtain ⟨TT, hT⟩ : ∃ t, inS set r = t := ⟨_, rfl⟩
 have HT := Lib.hid hT
 rw [hN] at hl ⊢
 rw [hT]
 have n1 : (N : Int) ≤ 9223372036854775807 := by omega
 clear hN hR hT
 go_enter Tryd.func11, Tryd.ntmps11
 go_wp2_with fail
 go_loopw [5] (fun i wr => ∃ (k : Nat), k ≤ N ∧ i = .int .i64 k ∧ wr = w ∧ Hid (inS (set.drop k) r = TT)) (fun i _ => N - (intOf i).toNat)
 case atStart => exact ⟨0, Nat.zero_le _, rfl, rfl, Lib.hid (by rw [List.drop_zero]; exact HT.out)⟩
 case round =>
  obtain ⟨k, hk, rfl, rfl, hJ⟩ := hrel
  by_cases hlt : k < N
  · obtain ⟨p, hp⟩ : ∃ p, set[k]? = some p := ⟨_, List.getElem?_eq_getElem (by rw [HN.out]; exact hlt)⟩
    obtain ⟨g1, o1, rfl, x1, x2⟩ := HR.out.get k p hp
    obtain ⟨pa, pb⟩ := p
    dsimp only at x1 x2
    have d0 : decide (k < N) = true := by rw [decide_eq_true_iff]; exact hlt
    have a0 : (k : Int) < (N : Int) := by omega
    have hJ2 : ((decide (pa ≤ r) && decide (r ≤ pb)) || inS (set.drop (k + 1)) r) = TT := by rw [← hJ.out, Nd.drop_some hp]; rfl
    obtain ⟨ba, hba⟩ : ∃ x, decide (pa ≤ r) = x := ⟨_, rfl⟩
    obtain ⟨bb, hbb⟩ : ∃ x, decide (r ≤ pb) = x := ⟨_, rfl⟩
    rw [hba, hbb] at hJ2
    cases ba with
    | false =>
     have HF := Lib.hid (show inS (set.drop (k + 1)) r = TT from by rw [← hJ2]; rfl)
     clear hJ hJ2 hp
     go_wp2_with fail
     exact ⟨⟨k + 1, by omega, by go_num, trivial, HF⟩, by simp [intOf]; omega⟩
    | true =>
     cases bb with
     | false =>
      have HF := Lib.hid (show inS (set.drop (k + 1)) r = TT from by rw [← hJ2]; rfl)
      clear hJ hJ2 hp
      go_wp2_with fail
      exact ⟨⟨k + 1, by omega, by go_num, trivial, HF⟩, by simp [intOf]; omega⟩
     | true =>
      have HF := Lib.hid (show TT = true from by rw [← hJ2]; rfl)
      clear hJ hJ2 hp
      go_wp2_with fail
      go_ret
      exact ⟨by rw [HF.out]; rfl, rfl⟩
  · have d0 : decide (k < N) = false := by rw [decide_eq_false_iff_not]; exact hlt
    have HF := Lib.hid (show TT = false from by rw [← hJ.out, List.drop_eq_nil_of_le (by rw [HN.out]; omega)]; rfl)
    clear hJ
    go_wp2_with fail
    go_ret
    exact ⟨by rw [HF.out]; rfl, rfl⟩
end Go.Proofs.YtiinkhmgemoamaaDoor.Gl
