/- The contracts of what is gone through: many, names, ends, both Great, Flags. -/
import Derived.Test.YtiinkhmgemoamaaDoorPac
import Derived.RegionTactic
import Derived.Test.YtiinkhmgemoamaaDoorPab
namespace Go.Proofs.YtiinkhmgemoamaaDoor
open Go Go.RowKit Nu
set_option maxRecDepth 100000

namespace Nu
/-- Is a grammar too great to be gone through? -/
def g4 (nm : ByteArray) (rs : List Rl) : Bool := decide (80 < rs.length) || (rs.any (fun r => decide (3000 < Nd.wt 0 r.body) || decide (200 < r.name.size)) || decide (200 < nm.size))
def sum : List Rl → Nat
 | [] => 0
 | r :: l => Nd.count r.body + sum l
def g5 (nm : ByteArray) (rs : List Rl) : Bool := (g4 nm rs || decide (20 < rs.length)) || decide (500 < sum rs)
/-- A grammar's value. -/
def GrV (w : World) (nm : ByteArray) (o1 o2 : Int) (rs : List Rl) (v : Value) : Prop := ∃ ra rc, v = .agg #[.string nm, .int .i64 o1, .int .i64 o2, .slice ra rs.length rc] ∧ nm.size ≤ 140737488351232 ∧ (rs.length ≤ rc ∧ rs.length ≤ 140737488351232) ∧ RuL w rs ra
theorem small_of {nm : ByteArray} {rs : List Rl} (h : g5 nm rs = false) : rs.length ≤ 20 ∧ (∀ r ∈ rs, Nd.deep r.body ≤ 101 ∧ r.name.size ≤ 200) ∧ sum rs ≤ 500 ∧ nm.size ≤ 200 := by
 simp only [g5, g4, Bool.or_eq_false_iff, decide_eq_false_iff_not, List.any_eq_false] at h
 obtain ⟨⟨⟨h1, h2, h3⟩, h4⟩, h5⟩ := h
 refine ⟨by omega, fun r hr => ?_, by omega, by omega⟩
 have := h2 r hr
 simp only [Bool.or_eq_true, decide_eq_true_iff, not_or] at this
 have := (Nd.wt_small r.body 0 (by omega)).1
 omega
theorem count_le_sum : ∀ (rs : List Rl) (r : Rl), r ∈ rs → Nd.count r.body ≤ sum rs
 | [], _, h => by simp at h
 | q :: l, r, h => by
  simp only [sum]
  rcases List.mem_cons.1 h with rfl | h
  · omega
  · have := count_le_sum l r h; omega
end Nu

set_option maxHeartbeats 1000000 in
theorem many_any (t : Nd.T) : ∀ (v : Value) (w : World), Nd.At w t v → Nd.count t ≤ 1099511627776 →
 Calls Tryd.prog 14 #[v] w fun e w' => e = .returned (.int .i64 (Nd.count t)) ∧ Below w.heap.size w w' := by
 induction t using Nd.T.ind with | _ k nm tx st sb ih => ?_
 intro v w hA hle
 have hsub := hA.subs
 have e : Nd.count (.mk k nm tx st sb) = 1 + Nd.countL sb := by simp only [Nd.count]
 rw [e] at hle ⊢
 unfold Nd.At at hA
 obtain ⟨sa, sc, ba, bc, rfl, _, hnm, htx, hsc, hbc, _, _⟩ := hA
 have e0 : Nd.subsA (.agg #[.int .u8 k, .string nm, .string tx, .slice sa st.length sc, .slice ba sb.length bc]) = ba := rfl
 rw [e0] at hsub
 obtain ⟨SN, hSN⟩ : ∃ k, sb.length = k := ⟨_, rfl⟩
 obtain ⟨SL, hSL⟩ : ∃ k, st.length = k := ⟨_, rfl⟩
 have HSN := Lib.hid hSN
 rw [hSN] at hbc ⊢
 rw [hSL] at hsc ⊢
 have n1 : (SN : Int) ≤ 9223372036854775807 := by omega
 obtain ⟨TT, hTT⟩ : ∃ k, 1 + Nd.countL sb = k := ⟨_, rfl⟩
 have HTT := Lib.hid hTT
 rw [hTT] at hle ⊢
 clear hSN hSL e0 e hTT
 go_enter Tryd.func14, Tryd.ntmps14
 go_wp2_with fail
 go_loopw [3, 4] (fun a i wr => ∃ p acc : Nat, p ≤ SN ∧ i = .int .i64 p ∧ a = .int .i64 acc ∧ Hid (acc + Nd.countL (sb.drop p) = TT) ∧ Bk wr w.heap.size 34 #[.int .u8 k, .string nm, .string tx, .slice sa SL sc, .slice ba SN bc] ∧ Below w.heap.size w wr) (fun _ i _ => SN - (intOf i).toNat)
 case atStart => exact ⟨0, 1, Nat.zero_le _, rfl, rfl, by rw [List.drop_zero]; exact HTT, Bk.made w 34 _, (Below.refl _ w).alloc (Nat.le_refl _) _⟩
 case round =>
  obtain ⟨p, acc, hp, rfl, rfl, hT, hK, hB⟩ := hrel
  have c4 := hK.cell 4
  simp at c4
  have haT : acc ≤ TT := by have := hT.out; omega
  obtain ⟨A, hA⟩ : ∃ A : Int, (acc : Int) = A := ⟨_, rfl⟩
  rw [hA]
  by_cases hlt : p < SN
  · have d2 : decide (p < SN) = true := by rw [decide_eq_true_iff]; exact hlt
    have p0 : (p : Int) < (SN : Int) := by omega
    obtain ⟨s, hs⟩ : ∃ s, sb[p]? = some s := ⟨_, List.getElem?_eq_getElem (by rw [HSN.out]; exact hlt)⟩
    obtain ⟨g, o, v0, v1, v2, v3, v4, rfl, h0, h1, h2, h3, h4, hv, hAs⟩ := hsub.val p s hs
    have e0 := Nd.cell_keeps hB h0
    have e1 := Nd.cell_keeps hB h1
    have e2 := Nd.cell_keeps hB h2
    have e3 := Nd.cell_keeps hB h3
    have e4 := Nd.cell_keeps hB h4
    have hst : acc + Nd.count s + Nd.countL (sb.drop (p + 1)) = TT := by
     rw [← hT.out, Nd.drop_some hs]
     simp only [Nd.countL]
     omega
    have hC := ih s (List.mem_of_getElem? hs) _ wr (hAs.below hB) (by omega)
    obtain ⟨CW, hCW⟩ : ∃ A : Int, (Nd.count s : Int) = A := ⟨_, rfl⟩
    rw [hCW] at hC
    have hA2 : ((acc + Nd.count s : Nat) : Int) = A + CW := by omega
    have HA2 := Lib.hid hA2
    have HST := Lib.hid hst
    have w4 : IntKind.i64.wrap (A + CW) = A + CW := IntWalk.i64_in _ (by omega)
    obtain ⟨sa1, sc1, ba1, bc1, rfl, rfl, rfl, rfl, rfl⟩ := hAs.five
    generalize s.kind = sk at *
    generalize s.name = sn at *
    generalize s.text = sx at *
    generalize s.set.length = sl at *
    generalize s.subs.length = sm at *
    replace hC := Lib.hid hC
    clear h0 h1 h2 h3 h4 hv hAs hs hCW hA hA2 hst haT
    go_wp2_with (go_at_call 14; refine hC.out.mono ?_; rintro e w' ⟨rfl, hb⟩)
    refine ⟨⟨p + 1, acc + Nd.count s, by omega, by go_num, by rw [HA2.out], HST, hK.below hb hK.lt, hB.trans (hb.mono hB.size)⟩, by simp [intOf]; omega⟩
  · have d2 : decide (p < SN) = false := by rw [decide_eq_false_iff_not]; exact hlt
    have hfin : acc = TT := by
     rw [← hT.out, List.drop_eq_nil_of_le (by rw [HSN.out]; omega)]
     simp only [Nd.countL]; omega
    have HF := Lib.hid (show A = (TT : Int) by omega)
    clear hT hfin hA haT
    go_wp2_with fail
    go_ret
    exact ⟨by rw [HF.out]; rfl, hB⟩
end Go.Proofs.YtiinkhmgemoamaaDoor
namespace Go.Proofs.YtiinkhmgemoamaaDoor.Nu
open Go Go.RowKit Nd


def reaAt (rs : List Rl) (i k : Nat) : Bool := ((rea rs).getD i []).getD k false
theorem rea_at (rs : List Rl) {i : Nat} (hi : i < rs.length) : (rea rs).getD i [] = spr (stp rs) rs.length ((stp rs).getD i []) (List.replicate rs.length false) := by
 have hs : i < (stp rs).length := by simp [stp, hi]
 have h2 : (stp rs)[i]? = some ((stp rs)[i]) := List.getElem?_eq_getElem hs
 unfold rea
 rw [List.getD_eq_getElem?_getD, List.getElem?_map, h2, List.getD_eq_getElem?_getD, h2]
 rfl
end Go.Proofs.YtiinkhmgemoamaaDoor.Nu
namespace Go.Proofs.YtiinkhmgemoamaaDoor.Nu
open Go Go.RowKit Nd



end Go.Proofs.YtiinkhmgemoamaaDoor.Nu
namespace Go.Proofs.YtiinkhmgemoamaaDoor.Ck
open Go Go.RowKit Nd Nu

/-- What is named in a node: its parts that name something, in order. -/
def isNm : T → Bool
 | .mk k _ _ _ _ => decide (k = 5 ∨ k = 6)
theorem isNm_kind (t : T) : isNm t = decide (t.kind = 5 ∨ t.kind = 6) := by cases t; rfl
mutual
def nam : T → List T
 | .mk k n x s b => (if k = 5 ∨ k = 6 then [.mk k n x s b] else []) ++ namL b
def namL : List T → List T
 | [] => []
 | t :: r => nam t ++ namL r
end
mutual
theorem nam_parts (l : Nat) : ∀ t : T, ((Nd.parts l t).map (·.2)).filter isNm = nam t
 | .mk k n x s b => by
  have := nam_partsL (l + 1) b
  have e : isNm (.mk k n x s b) = decide (k = 5 ∨ k = 6) := rfl
  simp only [Nd.parts, List.map_cons, List.filter_cons, e, nam]
  rw [show (List.filter isNm (List.map (fun x => x.2) (partsL (l + 1) b))) = namL b from this]
  by_cases h : k = 5 ∨ k = 6
  · simp [h]
  · simp [h]
theorem nam_partsL (l : Nat) : ∀ b : List T, ((Nd.partsL l b).map (·.2)).filter isNm = namL b
 | [] => rfl
 | t :: r => by
  simp only [Nd.partsL, List.map_append, List.filter_append, namL]
  rw [nam_parts l t, nam_partsL l r]
end
/-- A problem: its code, the rule's place, the name. -/
structure Pr where
 code : Int
 rule : Int
 name : ByteArray
/-- May KRef, or KTok, in a rule of one sort name one of another? -/
def fits (k s t : Int) : Bool := if k = 5 then decide (s = 0 ∧ t = 0) else if s = 0 then decide (t = 1) else decide (t = 2)
/-- What is named that is no rule. -/
def noneP (rs : List Rl) (i : Nat) (l : List T) : List Pr := l.filterMap fun n => if fnd rs n.name = none then some ⟨2, i, n.name⟩ else none
/-- What is named that may not stand there. -/
def sortB (rs : List Rl) (s : Int) (n : T) : Bool := match fnd rs n.name with
 | some to => !fits n.kind s (sortAt rs to)
 | none => false
def sortP (rs : List Rl) (s : Int) (i : Nat) (l : List T) : List Pr := l.filterMap fun n => if sortB rs s n then some ⟨3, i, n.name⟩ else none
/-- A node that may be empty, or that may not. -/
def stand (b : Bool) : T := .mk (if b then 1 else 0) ⟨#[]⟩ ⟨#[]⟩ [] []
/-- Is a node a loop? -/
def isLoop (k : Int) : Bool := decide (k = 3 ∨ k = 4)
mutual
/-- A node as it is handed back: the Subs of loops are a node each. -/
def lpT (e : T → Bool) : T → T
 | .mk k n x s b => .mk k n x s (lpL e (isLoop k) b)
def lpL (e : T → Bool) (lp : Bool) : List T → List T
 | [] => []
 | t :: r => (if lp then stand (e (lpT e t)) else lpT e t) :: lpL e lp r
end
mutual
/-- How many loops are told of a node. -/
def lpN (e : T → Bool) : T → Nat
 | .mk k _ _ _ b => lpNL e (isLoop k) true b
def lpNL (e : T → Bool) (lp first : Bool) : List T → Nat
 | [] => 0
 | t :: r => lpN e t + (if lp && first && e (lpT e t) then 1 else 0) + lpNL e lp false r
end
/-- The rules that are asked for in a rule's body. -/
def asked (rs : List Rl) (t : T) : List Bool := (nam t).foldl (fun a n => match fnd rs n.name with | some to => a.set to true | none => a) (List.replicate rs.length false)
/-- The short grammar: the rules that are asked for, from the k-th on. -/
def shortF (e a : List Bool) : Nat → List Rl → List Rl
 | _, [] => []
 | k, r :: l => (if a.getD k false then [⟨r.name, r.sort, stand (e.getD k false), 0, 0, 0⟩] else []) ++ shortF e a (k + 1) l
def short (rs : List Rl) (r : Rl) : List Rl := shortF (emp rs) (asked rs r.body) 0 rs ++ [⟨⟨#[]⟩, r.sort, stand false, 0, 0, 0⟩]
/-- May a node be empty by the short grammar? -/
def shE (rs : List Rl) (r : Rl) (t : T) : Bool := thr (short rs r) r.sort (emp (short rs r)) t
/-- Each rule with nothing but what it names. -/
def allT (t : T) : T := .mk 0 ⟨#[]⟩ ⟨#[]⟩ [] ((nam t).map fun n => .mk 6 n.name ⟨#[]⟩ [] [])
def nmR (rs : List Rl) : List Rl := rs.map fun r => { r with body := allT r.body }
/-- What is wrong with the i-th rule. -/
def rulP (rs : List Rl) (i : Nat) (r : Rl) : List Pr :=
 (match fnd rs r.name with | some k => if k < i then [⟨1, i, r.name⟩] else [] | none => [⟨1, i, r.name⟩]) ++ noneP rs i (nam r.body) ++ sortP rs r.sort i (nam r.body) ++
 (if r.sort = 0 ∧ reaAt rs i i = true then [⟨4, i, r.name⟩] else []) ++ (if reaAt (nmR rs) i i = true then [⟨5, i, r.name⟩] else []) ++
 List.replicate (lpN (shE rs r) r.body) ⟨6, i, r.name⟩ ++ (if (r.sort = 1 ∨ r.sort = 3) ∧ (emp rs).getD i false = true then [⟨7, i, r.name⟩] else [])
def rulesF (rs : List Rl) : Nat → List Rl → List Pr
 | _, [] => []
 | k, r :: l => rulP rs k r ++ rulesF rs (k + 1) l
/-- The first parser's rule. -/
def start (rs : List Rl) : Option Nat := rs.findIdx? fun r => r.sort = 0
/-- All that is wrong. -/
def chk (rs : List Rl) : List Pr := rulesF rs 0 rs ++ (if start rs = none then [⟨8, -1, ⟨#[]⟩⟩] else [])
end Go.Proofs.YtiinkhmgemoamaaDoor.Ck
namespace Go.Proofs.YtiinkhmgemoamaaDoor.Ck
open Go Go.RowKit Nd Nu



end Go.Proofs.YtiinkhmgemoamaaDoor.Ck
namespace Go.Proofs.YtiinkhmgemoamaaDoor.Ck
open Go Go.RowKit Nd Nu


theorem mem_namL {b : List T} {u : T} (hu : u ∈ b) {n : T} (hn : n ∈ nam u) : n ∈ namL b := by
 induction b with
 | nil => simp at hu
 | cons q l ih =>
  simp only [namL, List.mem_append]
  rcases List.mem_cons.1 hu with rfl | hu
  · exact .inl hn
  · exact .inr (ih hu)
theorem nam_sub {k : Int} {n x : ByteArray} {st : List (Int × Int)} {b : List T} {m : T} (h : m ∈ namL b) : m ∈ nam (.mk k n x st b) := by
 simp only [nam, List.mem_append]
 exact .inr h
end Go.Proofs.YtiinkhmgemoamaaDoor.Ck
namespace Go.Proofs.YtiinkhmgemoamaaDoor.Ck
open Go Go.RowKit Nd Nu

theorem rules_nil (rs : List Rl) : ∀ (l : List Rl) (k i : Nat) (r : Rl), rulesF rs k l = [] → l[i]? = some r → rulP rs (k + i) r = []
 | [], _, _, _, _, h => by simp at h
 | q :: l, k, 0, r, h, hr => by
  simp only [rulesF, List.append_eq_nil_iff] at h
  injection hr with hr
  subst hr
  exact h.1
 | q :: l, k, i + 1, r, h, hr => by
  simp only [rulesF, List.append_eq_nil_iff] at h
  have := rules_nil rs l (k + 1) i r h.2 (by simpa using hr)
  rwa [show k + 1 + i = k + (i + 1) by omega] at this
/-- What is so of a rule of which nothing is told. -/
structure Well (rs : List Rl) (i : Nat) (r : Rl) : Prop where
 one : fnd rs r.name = some i
 nms : ∀ n ∈ nam r.body, ∃ k, fnd rs n.name = some k ∧ fits n.kind r.sort (sortAt rs k) = true
 left : r.sort = 0 → reaAt rs i i = false
 round : reaAt (nmR rs) i i = false
 loops : lpN (shE rs r) r.body = 0
 full : (r.sort = 1 ∨ r.sort = 3) → (emp rs).getD i false = false
theorem fndF_of (nm : ByteArray) : ∀ (l : List Rl) (k i : Nat) (r : Rl), l[i]? = some r → r.name.toList = nm.toList → ∃ j, fndF nm k l = some j ∧ j ≤ k + i
 | [], _, _, _, h, _ => by simp at h
 | q :: l, k, 0, r, h, hn => by
  injection h with h
  subst h
  exact ⟨k, by simp only [fndF]; rw [if_pos hn], by omega⟩
 | q :: l, k, i + 1, r, h, hn => by
  simp only [fndF]
  split
  · exact ⟨k, rfl, by omega⟩
  · obtain ⟨j, h1, h2⟩ := fndF_of nm l (k + 1) i r (by simpa using h) hn
    exact ⟨j, h1, by omega⟩
theorem well_of {rs : List Rl} {i : Nat} {r : Rl} (hr : rs[i]? = some r) (h : rulP rs i r = []) : Well rs i r := by
 unfold rulP at h
 simp only [List.append_eq_nil_iff] at h
 obtain ⟨⟨⟨⟨⟨⟨h1, h2⟩, h3⟩, h4⟩, h5⟩, h6⟩, h7⟩ := h
 obtain ⟨j, hj, hle⟩ := fndF_of r.name rs 0 i r hr rfl
 have hj' : fnd rs r.name = some j := hj
 have hji : j = i := by
  rw [hj'] at h1
  dsimp only at h1
  split at h1
  · cases h1
  · omega
 refine ⟨by rw [hj', hji], fun n hn => ?_, fun h0 => ?_, ?_, ?_, fun hs => ?_⟩
 · cases hf : fnd rs n.name with
   | none =>
    have : (⟨2, (i : Int), n.name⟩ : Pr) ∈ noneP rs i (nam r.body) := List.mem_filterMap.2 ⟨n, hn, by rw [hf]; simp⟩
    rw [h2] at this
    simp at this
   | some k =>
    refine ⟨k, rfl, ?_⟩
    cases hq : fits n.kind r.sort (sortAt rs k) with
    | true => rfl
    | false =>
     have hb : sortB rs r.sort n = true := by unfold sortB; rw [hf]; dsimp only; rw [hq]; rfl
     have : (⟨3, (i : Int), n.name⟩ : Pr) ∈ sortP rs r.sort i (nam r.body) := List.mem_filterMap.2 ⟨n, hn, by rw [hb]; simp⟩
     rw [h3] at this
     simp at this
 · cases hq : reaAt rs i i with
   | false => rfl
   | true => rw [if_pos ⟨h0, hq⟩] at h4; cases h4
 · cases hq : reaAt (nmR rs) i i with
   | false => rfl
   | true => rw [if_pos hq] at h5; cases h5
 · have := congrArg List.length h6
   simpa using this
 · cases hq : (emp rs).getD i false with
   | false => rfl
   | true => rw [if_pos ⟨hs, hq⟩] at h7; cases h7
/-- Nothing is wrong. -/
theorem fine_of {rs : List Rl} (h : chk rs = []) : start rs ≠ none ∧ ∀ (i : Nat) (r : Rl), rs[i]? = some r → Well rs i r := by
 unfold chk at h
 rw [List.append_eq_nil_iff] at h
 refine ⟨fun e => ?_, fun i r hr => well_of hr ?_⟩
 · rw [if_pos e] at h; cases h.2
 · have := rules_nil rs rs 0 i r h.1 hr
   rwa [Nat.zero_add] at this



end Go.Proofs.YtiinkhmgemoamaaDoor.Ck
