/- The contract of stand; the short grammar's rules, cell by cell. The short grammar while its rules are gathered. -/
import Derived.Test.YtiinkhmgemoamaaDoorPad
import Derived.Test.YtiinkhmgemoamaaDoorPbd
import Derived.Test.YtiinkhmgemoamaaDoorPah
import Derived.Test.YtiinkhmgemoamaaDoorPae
import Derived.Deep.RegionHeld3
namespace Go.Proofs.YtiinkhmgemoamaaDoor
open Go Go.RowKit Nu Ck
set_option maxRecDepth 100000

def standV (b : Bool) : Value := .agg #[.int .u8 (if b then 1 else 0), .string ⟨#[]⟩, .string ⟨#[]⟩, .slice none 0 0, .slice none 0 0]
theorem stand_at (w : World) (b : Bool) : Nd.At w (Ck.stand b) (standV b) := by
 unfold Ck.stand standV Nd.At
 refine ⟨none, 0, none, 0, rfl, ?_, ?_, ?_, ?_, ?_, ?_, ?_⟩
 · cases b <;> simp
 · first | trivial | omega | simp
 · first | trivial | omega | simp
 · first | trivial | omega | simp
 · first | trivial | omega | simp
 · simp [Nd.RgAt]
 · simp [Nd.AtL]
set_option maxHeartbeats 400000 in
theorem stand_any (b : Bool) (w : World) : Calls Tryd.prog 75 #[.bool b] w fun e w' => e = .returned (standV b) ∧ Below w.heap.size w w' := by
 unfold standV
 cases b
 · go_enter Tryd.func75, Tryd.ntmps75
   go_wp2_with fail
   have KB := Bk.made w 34 #[.int .u8 0, .string ⟨#[]⟩, .string ⟨#[]⟩, .slice none 0 0, .slice none 0 0]
   refine bodyPost_ret (v := .agg #[.int .u8 0, .string ⟨#[]⟩, .string ⟨#[]⟩, .slice none 0 0, .slice none 0 0]) ?_ rfl ?_
   · have z0 := KB.cell 0
     have z1 := KB.cell 1
     have z2 := KB.cell 2
     have z3 := KB.cell 3
     have z4 := KB.cell 4
     simp only [List.getElem?_toArray, List.getElem?_cons_zero, List.getElem?_cons_succ] at z0 z1 z2 z3 z4
     simp [results, Tryd.results75, go_sem, z0, z1, z2, z3, z4]
   · exact ⟨rfl, (Below.refl _ w).alloc (Nat.le_refl _) _⟩
 · go_enter Tryd.func75, Tryd.ntmps75
   go_wp2_with fail
   have KB := Bk.made w 34 #[.int .u8 1, .string ⟨#[]⟩, .string ⟨#[]⟩, .slice none 0 0, .slice none 0 0]
   refine bodyPost_ret (v := .agg #[.int .u8 1, .string ⟨#[]⟩, .string ⟨#[]⟩, .slice none 0 0, .slice none 0 0]) ?_ rfl ?_
   · have z0 := KB.cell 0
     have z1 := KB.cell 1
     have z2 := KB.cell 2
     have z3 := KB.cell 3
     have z4 := KB.cell 4
     simp only [List.getElem?_toArray, List.getElem?_cons_zero, List.getElem?_cons_succ] at z0 z1 z2 z3 z4
     simp [results, Tryd.results75, go_sem, z0, z1, z2, z3, z4]
   · exact ⟨rfl, (Below.refl _ w).alloc (Nat.le_refl _) _⟩
namespace Ck
theorem shortF_app (e a : List Bool) : ∀ (l m : List Rl) (k : Nat), shortF e a k (l ++ m) = shortF e a k l ++ shortF e a (k + l.length) m
 | [], m, k => by simp [shortF]
 | r :: l, m, k => by
  simp only [List.cons_append, shortF]
  rw [shortF_app e a l m (k + 1), List.append_assoc, List.length_cons, show k + 1 + l.length = k + (l.length + 1) by omega]
theorem shortF_take (e a : List Bool) (rs : List Rl) {p : Nat} {r : Rl} (hr : rs[p]? = some r) : shortF e a 0 (rs.take (p + 1)) = shortF e a 0 (rs.take p) ++ (if a.getD p false then [⟨r.name, r.sort, stand (e.getD p false), 0, 0, 0⟩] else []) := by
 have hp := (List.getElem?_eq_some_iff.1 hr).1
 rw [List.take_add_one, hr, shortF_app]
 simp only [Option.toList, shortF, List.append_nil, List.length_take, Nat.zero_add]
 rw [Nat.min_eq_left (by omega)]
theorem shortF_len (e a : List Bool) : ∀ (l : List Rl) (k : Nat), (shortF e a k l).length ≤ l.length
 | [], _ => Nat.le_refl _
 | r :: l, k => by
  have := shortF_len e a l (k + 1)
  simp only [shortF, List.length_append, List.length_cons]
  split <;> simp <;> omega
/-- A rule of the short grammar, cell by cell. -/
def cellsS (n : ByteArray) (s : Int) (b : Bool) : List Value := [.string n, .int .u8 s, .int .u8 (if b then 1 else 0), .string ⟨#[]⟩, .string ⟨#[]⟩, .slice none 0 0, .slice none 0 0, .int .i64 0, .int .i64 0, .int .i64 0]
/-- The rules that have been gathered, cell by cell. -/
def flatS (e a : List Bool) : Nat → List Rl → List Value
 | _, [] => []
 | k, r :: l => (if a.getD k false then cellsS r.name r.sort (e.getD k false) else []) ++ flatS e a (k + 1) l
theorem flatS_app (e a : List Bool) : ∀ (l m : List Rl) (k : Nat), flatS e a k (l ++ m) = flatS e a k l ++ flatS e a (k + l.length) m
 | [], m, k => by simp [flatS]
 | r :: l, m, k => by
  simp only [List.cons_append, flatS]
  rw [flatS_app e a l m (k + 1), List.append_assoc, List.length_cons, show k + 1 + l.length = k + (l.length + 1) by omega]
theorem flatS_take (e a : List Bool) (rs : List Rl) {p : Nat} {r : Rl} (hr : rs[p]? = some r) : flatS e a 0 (rs.take (p + 1)) = flatS e a 0 (rs.take p) ++ (if a.getD p false then cellsS r.name r.sort (e.getD p false) else []) := by
 have hp := (List.getElem?_eq_some_iff.1 hr).1
 rw [List.take_add_one, hr, flatS_app]
 simp only [Option.toList, flatS, List.append_nil, List.length_take, Nat.zero_add]
 rw [Nat.min_eq_left (by omega)]
theorem flatS_len (e a : List Bool) : ∀ (l : List Rl) (k : Nat), (flatS e a k l).length = (shortF e a k l).length * 10
 | [], _ => rfl
 | r :: l, k => by
  have := flatS_len e a l (k + 1)
  simp only [flatS, shortF, List.length_append]
  split
  · simp [cellsS]; omega
  · simp; omega
/-- What lies cell by cell in a block are the rules. -/
theorem flatS_get (e a : List Bool) : ∀ (l : List Rl) (k i : Nat) (q : Rl), (∀ r ∈ l, (0 ≤ r.sort ∧ r.sort < 256) ∧ r.name.size ≤ 140737488351232) → (shortF e a k l)[i]? = some q →
 ∃ b, q.body = stand b ∧ (q.p0 = 0 ∧ q.p1 = 0 ∧ q.p2 = 0) ∧ ((0 ≤ q.sort ∧ q.sort < 256) ∧ q.name.size ≤ 140737488351232) ∧ ∀ m, m < 10 → (flatS e a k l)[i * 10 + m]? = (cellsS q.name q.sort b)[m]?
 | [], _, _, _, _, h => by simp [shortF] at h
 | r :: l, k, i, q, hl, h => by
  have ih := flatS_get e a l (k + 1)
  simp only [shortF] at h
  simp only [flatS]
  split at h
  · rename_i ha
    rw [if_pos ha]
    cases i with
    | zero =>
     simp only [List.singleton_append, List.getElem?_cons_zero, Option.some.injEq] at h
     subst h
     refine ⟨e.getD k false, rfl, ⟨rfl, rfl, rfl⟩, hl r (by simp), fun m hm => ?_⟩
     rw [Nat.zero_mul, Nat.zero_add, List.getElem?_append_left (by simp [cellsS]; omega)]
    | succ i =>
     simp only [List.singleton_append, List.getElem?_cons_succ] at h
     obtain ⟨b, h1, h2, h3, h4⟩ := ih i q (fun r hr => hl r (by simp [hr])) h
     refine ⟨b, h1, h2, h3, fun m hm => ?_⟩
     rw [List.getElem?_append_right (by simp [cellsS]; omega), show (i + 1) * 10 + m - (cellsS r.name r.sort (e.getD k false)).length = i * 10 + m by simp [cellsS]; omega]
     exact h4 m hm
  · rename_i ha
    rw [if_neg ha]
    simp only [List.nil_append] at h ⊢
    exact ih i q (fun r hr => hl r (by simp [hr])) h
end Ck
end Go.Proofs.YtiinkhmgemoamaaDoor
namespace Go.Proofs.YtiinkhmgemoamaaDoor
open Go Go.RowKit Go.Shelf Ck Nu
set_option maxRecDepth 100000

theorem infoRule6 : (Tryd.prog.info? 38).map (fun i => (i.zero, i.size, i.bytes)) = some (some (.agg #[.string ⟨#[]⟩, .int .u8 0, .int .u8 0, .string ⟨#[]⟩, .string ⟨#[]⟩, .slice none 0 0, .slice none 0 0, .int .i64 0, .int .i64 0, .int .i64 0]), 10, 136) := by kernel_rfl
/-- The grammar's box at s, the row of rules that it holds is its own, in blocks from yb on. -/
def ShG (s yb : Nat) (gl : List Value) (n : Nat) (v : Value) (X : World) : Prop := Bk X s 26 #[.string ⟨#[]⟩, .int .i64 0, .int .i64 0, v] ∧ X.ownsRow yb 38 10 v n gl
theorem own_below {X X' : World} {yb : Nat} {e : TypeId} {size n : Nat} {v : Value} {gl : List Value} (h : X.ownsRow yb e size v n gl) (hb : Below X.heap.size X X') : X'.ownsRow yb e size v n gl := by
 refine ⟨h.1, ?_⟩
 rcases h.2 with h5 | ⟨g, c, cur, q1, q2, q3, q4⟩
 · exact .inl h5
 · refine .inr ⟨g, c, cur, q1, q2, ?_, q4⟩
   rw [hb.block g (Array.getElem?_eq_some_iff.1 q3).1]
   exact q3
theorem ShG.below {s yb : Nat} {gl : List Value} {n : Nat} {v : Value} {X X' : World} (h : ShG s yb gl n v X) (hb : Below X.heap.size X X') : ShG s yb gl n v X' := ⟨h.1.below hb h.1.lt, own_below h.2 hb⟩
/-- A rule more. -/
theorem short_key {s yb n B : Nat} {gl news : List Value} {v : Value} {w X w11 : World} {g cap : Nat} (h : ShG s yb gl n v X) (hs : s < yb) (hyX : yb ≤ X.heap.size) (hBs : B ≤ s) (hb : Below B w X)
 (hown : w11.ownsRow yb 38 10 (.slice (some ⟨g, 0, none⟩) (n + 1) cap) (n + 1) (gl ++ news)) (hg : X.grownBy w11 v.ownBlock) :
 ShG s yb (gl ++ news) (n + 1) (.slice (some ⟨g, 0, none⟩) (n + 1) cap) (w11.setCell ⟨s, 3, none⟩ (.slice (some ⟨g, 0, none⟩) (n + 1) cap)) ∧
  (∀ b t cs, b < yb → b ≠ s → Bk X b t cs → Bk (w11.setCell ⟨s, 3, none⟩ (.slice (some ⟨g, 0, none⟩) (n + 1) cap)) b t cs) ∧
  (∀ (k : Nat) (o : Obj), X.heap[k]? = some o → o.isCells = false → (w11.setCell ⟨s, 3, none⟩ (.slice (some ⟨g, 0, none⟩) (n + 1) cap)).heap[k]? = some o) ∧
  Below B w (w11.setCell ⟨s, 3, none⟩ (.slice (some ⟨g, 0, none⟩) (n + 1) cap)) ∧ yb ≤ (w11.setCell ⟨s, 3, none⟩ (.slice (some ⟨g, 0, none⟩) (n + 1) cap)).heap.size := by
 have hrow : ∀ b, v.ownBlock = some b → yb ≤ b := fun b e => (h.2.lt b e).1
 have hgb : yb ≤ g := (hown.lt g rfl).1
 have k1 : Bk w11 s 26 _ := h.1.grown hg (fun e => by have := hrow s e.symm; omega)
 have k2 := k1.set 3 (.slice (some ⟨g, 0, none⟩) (n + 1) cap)
 simp at k2
 refine ⟨⟨k2, hown.1, ?_⟩, fun b t cs hlt hne hk => ?_, fun k o hk ho => ?_, (hb.grown hg (by have := h.1.lt; omega) (fun k e => by have := hrow k e; omega)).setCell (p := ⟨s, 3, none⟩) hBs _, by rw [World.size_setCell]; exact Nat.le_trans hyX hg.size⟩
 · rcases hown.2 with ⟨h1, _⟩ | ⟨g', c, cur, h1, h2, h3, h4⟩
   · cases h1
   · refine .inr ⟨g', c, cur, h1, h2, ?_, h4⟩
     exact (Below.heap_setCell _ _ _ _ (by show g' ≠ s; omega)).trans h3
 · have k3 : Bk w11 b t cs := hk.grown hg (fun e => by have := hrow b e.symm; omega)
   exact k3.other _ _ hne
 · have n1 : k ≠ s := by
    rintro rfl
    rw [show X.heap[k]? = _ from h.1] at hk
    injection hk with hk
    subst hk
    simp [Obj.isCells] at ho
   have n2 : v.ownBlock ≠ some k := fun e => by
    rcases h.2.2 with ⟨h1, _⟩ | ⟨g', c, cur, h1, h2, h3, h4⟩
    · rw [h1] at e; cases e
    · rw [h1] at e
      have e2 : g' = k := by simpa [Value.ownBlock] using e
      subst e2
      rw [h3] at hk
      injection hk with hk
      subst hk
      simp [Obj.isCells] at ho
   rw [Below.heap_setCell _ _ _ _ n1, hg.block k (Array.getElem?_eq_some_iff.1 hk).1 (fun e => n2 e.symm)]
   exact hk
/-- At the box before the store. -/
theorem short_box {s yb n : Nat} {gl : List Value} {v : Value} {X w11 : World} (h : ShG s yb gl n v X) (hs : s < yb) (hg : X.grownBy w11 v.ownBlock) : w11.cell? ⟨s, 3, none⟩ = some v ∧ w11.frozen? ⟨s, 3, none⟩ = false := by
 have k1 : Bk w11 s 26 _ := h.1.grown hg (fun e => by have := (h.2.lt s e.symm).1; omega)
 exact ⟨by have := k1.cell 3; simpa using this, k1.free 3⟩
/-- A piece of code that ends as it should, apart from what follows: whatever follows, no panic's post hangs on the temporaries. -/
theorem wp_cut {P : Program} {c : Code} {Q : Exit → Act → World → Prop} {a : Act} {w : World} (R : Act → Act → World → Prop)
 (first : Code.wp P c (fun e a' w' => match e with | .normal => R a a' w' | _ => False) a w) (next : ∀ a' w', R a a' w' → Q .normal a' w') : Code.wp P c Q a w :=
 Code.wp_mono (fun e a' w' h => by cases e <;> first | exact next a' w' h | exact h.elim) first
/-- Two operations that may come up. -/
theorem come_two {P : Program} {md : Region.Mode} {ops : Array Oper} {Q : Exit → Act → World → Prop} {S : World → Prop} {i j : Nat} {l1 l2 : Array Bool} {oi oj : Oper} {fuel : Nat} {listed : Array Bool} {a : Act} {w : World}
 (hi : ops[i]? = some oi) (hj : ops[j]? = some oj) (hr : Region.ready md ops listed = [i, j]) (hl1 : listed.setIfInBounds i true = l1) (hl2 : listed.setIfInBounds j true = l2)
 (h1 : ∀ K' : Act → World → Prop, Shut (∀ a w, S w → (S w → wpAnyH P md ops Q S fuel l1 a w) → K' a w) → if Region.wanted oi (yielded ops a.tmps) = true then Oper.wp P oi a w K' Q else K' (a.put oi.dst undef) w)
 (h2 : ∀ K' : Act → World → Prop, Shut (∀ a w, S w → (S w → wpAnyH P md ops Q S fuel l2 a w) → K' a w) → if Region.wanted oj (yielded ops a.tmps) = true then Oper.wp P oj a w K' Q else K' (a.put oj.dst undef) w) : wpAnyH P md ops Q S (fuel + 1) listed a w := by
 subst hl1 hl2
 exact wpAnyH_ready hr (by simp) (AllReadyH.cons hi h1 (AllReadyH.cons hj h2 AllReadyH.nil))
theorem rowC_short (w0 : World) (e a : List Bool) (rs : List Rl) (sort : Int) (hl : ∀ r ∈ rs, (0 ≤ r.sort ∧ r.sort < 256) ∧ r.name.size ≤ 140737488351232) (hs : 0 ≤ sort ∧ sort < 256) (cs : Array Value)
 (hcs : ∀ j, j < (flatS e a 0 rs ++ cellsS ⟨#[]⟩ sort false).length → cs[j]? = (flatS e a 0 rs ++ cellsS ⟨#[]⟩ sort false)[j]?) : RowC w0 (shortF e a 0 rs ++ [⟨⟨#[]⟩, sort, stand false, 0, 0, 0⟩]) cs := by
 intro i q hq
 have hfl := flatS_len e a rs 0
 have key : ∀ (n : ByteArray) (s : Int) (b : Bool), q = ⟨n, s, stand b, 0, 0, 0⟩ → ((0 ≤ s ∧ s < 256) ∧ n.size ≤ 140737488351232) → (∀ m, m < 10 → cs[i * 10 + m]? = (cellsS n s b)[m]?) → ∃ v0 v1 v2 v3 v4, cs[i * 10]? = some (.string q.name) ∧ cs[i * 10 + 1]? = some (.int .u8 q.sort) ∧
  cs[i * 10 + 2]? = some v0 ∧ cs[i * 10 + 3]? = some v1 ∧ cs[i * 10 + 4]? = some v2 ∧ cs[i * 10 + 5]? = some v3 ∧ cs[i * 10 + 6]? = some v4 ∧
  cs[i * 10 + 7]? = some (.int .i64 q.p0) ∧ cs[i * 10 + 8]? = some (.int .i64 q.p1) ∧ cs[i * 10 + 9]? = some (.int .i64 q.p2) ∧
  Nd.At w0 q.body (.agg #[v0, v1, v2, v3, v4]) ∧ (0 ≤ q.sort ∧ q.sort < 256) ∧ q.name.size ≤ 140737488351232 := by
  rintro n s b rfl hb hm
  exact ⟨_, _, _, _, _, hm 0 (by omega), hm 1 (by omega), hm 2 (by omega), hm 3 (by omega), hm 4 (by omega), hm 5 (by omega), hm 6 (by omega), hm 7 (by omega), hm 8 (by omega), hm 9 (by omega), stand_at w0 b, hb.1, hb.2⟩
 by_cases hlt : i < (shortF e a 0 rs).length
 · rw [List.getElem?_append_left hlt] at hq
   obtain ⟨b, h1, h2, h3, h4⟩ := flatS_get e a rs 0 i q hl hq
   obtain ⟨qn, qs, qb, q0, q1, q2⟩ := q
   simp only at h1 h2 h3 h4
   obtain ⟨rfl, rfl, rfl⟩ := h2
   subst h1
   refine key qn qs b rfl h3 fun m hm => ?_
   rw [hcs _ (by rw [List.length_append]; omega), List.getElem?_append_left (by omega)]
   exact h4 m hm
 · rw [List.getElem?_append_right (by omega)] at hq
   have e1 : i - (shortF e a 0 rs).length = 0 := by
    rcases Nat.eq_zero_or_pos (i - (shortF e a 0 rs).length) with h | h
    · exact h
    · rw [List.getElem?_eq_none (by simp; omega)] at hq; cases hq
   rw [e1] at hq
   have hq2 : (⟨⟨#[]⟩, sort, stand false, 0, 0, 0⟩ : Rl) = q := by simpa using hq
   refine key ⟨#[]⟩ sort false hq2.symm ⟨hs, by decide⟩ fun m hm => ?_
   rw [hcs _ (by rw [List.length_append]; simp [cellsS]; omega), List.getElem?_append_right (by omega), show i * 10 + m - (flatS e a 0 rs).length = m by omega]
end Go.Proofs.YtiinkhmgemoamaaDoor
