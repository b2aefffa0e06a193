/- The checker: how it lies, and what telling a problem does. -/
import Derived.Test.YtiinkhmgemoamaaDoorPag
import Derived.Test.YtiinkhmgemoamaaDoorShelf
import Derived.ArgAppend
import Derived.Deep.AppendLies
import Derived.Deep.RegionLaw
import Derived.RegionTactic
import Derived.Laws.OwnMore
namespace Go.Proofs.YtiinkhmgemoamaaDoor
open Go Go.RowKit Go.Shelf Ck
set_option maxRecDepth 100000

theorem own_mono {w : World} {base base' : Nat} {e : TypeId} {size : Nat} {v : Value} {n : Nat} {xs : List Value} (h : w.ownsRow base' e size v n xs) (hb : base ≤ base') : w.ownsRow base e size v n xs := by
 refine ⟨h.1, ?_⟩
 rcases h.2 with h1 | ⟨g, c, cur, h1, h2, h3⟩
 · exact .inl h1
 · exact .inr ⟨g, c, cur, h1, by omega, h3⟩
/-- A block that telling leaves as it lies. -/
def Fix : Obj → Prop
 | .cells _ t _ => t ≠ 110 ∧ t ≠ 103
 | _ => True
/-- What lies below n₀ is left, and every block that is neither problems nor the checker. -/
def Tl (n₀ : Nat) (W W' : World) : Prop := Below n₀ W W' ∧ ∀ (k : Nat) (o : Obj), W.heap[k]? = some o → Fix o → W'.heap[k]? = some o
theorem Tl.refl (n₀ : Nat) (W : World) : Tl n₀ W W := ⟨Below.refl _ _, fun _ _ h _ => h⟩
theorem Tl.trans {n₀ : Nat} {X Y Z : World} (h : Tl n₀ X Y) (k : Tl n₀ Y Z) : Tl n₀ X Z := ⟨h.1.trans k.1, fun i o hi ho => k.2 i o (h.2 i o hi ho) ho⟩
theorem Tl.below {n₀ : Nat} {W W' : World} (hn : n₀ ≤ W.heap.size) (h : Below W.heap.size W W') : Tl n₀ W W' :=
 ⟨h.mono hn, fun k o ho _ => by rw [h.block k (Array.getElem?_eq_some_iff.1 ho).1]; exact ho⟩
theorem Tl.drew {n₀ : Nat} {X W : World} (h : Tl n₀ X W) : Tl n₀ X W.drew := ⟨h.1.drew, h.2⟩
theorem Tl.bk {n₀ : Nat} {W W' : World} (h : Tl n₀ W W') {b : Nat} {t : TypeId} {cs : Array Value} (hk : Bk W b t cs) (h1 : t ≠ 110) (h2 : t ≠ 103) : Bk W' b t cs := h.2 b _ hk ⟨h1, h2⟩
theorem Tl.keeps {n₀ B : Nat} {W W' : World} (h : Tl n₀ W W') : KeepsFrom B W W' := ⟨h.1.size, fun k o _ hk ho => h.2 k o hk (by cases o <;> simp [Obj.isCells] at ho <;> trivial)⟩
theorem Tl.kp {n₀ n₁ B : Nat} {W W' : World} (h : Tl n₀ W W') (hn : n₁ ≤ n₀) : KpC n₁ B W W' := ⟨h.1.mono hn, fun b cs t _ hk hc => h.2 b _ hc (by rcases hk with ⟨rfl, _⟩ | rfl <;> exact ⟨by decide, by decide⟩)⟩
theorem Tl.own {β : Type} {n₀ B : Nat} {X : World} (hB : X.heap.size ≤ B) (hn : n₀ ≤ X.heap.size) : OwnFrom B (fun (_ : β) W => Tl n₀ X W) := fun s W W' row hs hg hr =>
 ⟨hs.1.grown hg (by have := hs.1.size; omega) (fun k e => by have := (hr k e).1; omega), fun k o hk ho => by
  have h1 := hs.2 k o hk ho
  rw [hg.block k (Array.getElem?_eq_some_iff.1 h1).1 (fun e => by have := (hr k e.symm).1; have := (Array.getElem?_eq_some_iff.1 hk).1; omega)]
  exact h1⟩

/-- Problems, cell by cell. -/
def flatP : List Pr → List Value
 | [] => []
 | p :: l => [.int .u8 p.code, .int .i64 p.rule, .string p.name] ++ flatP l
theorem flatP_app : ∀ (a b : List Pr), flatP (a ++ b) = flatP a ++ flatP b
 | [], _ => rfl
 | p :: a, b => by simp only [List.cons_append, flatP, flatP_app a b, List.append_assoc]
/-- The seven cells of the checker that stay. -/
structure CkV where
 nm : ByteArray
 o1 : Int
 o2 : Int
 ra : Option Addr
 rn : Nat
 rc : Nat
 em : Value
 re : Value
 wi : Value
/-- The checker lies at cp, with the problems L told. -/
def CkI (n₀ cp : Nat) (cv : CkV) (L : List Pr) (W : World) : Prop := n₀ ≤ cp ∧ ∃ pv, Bk W cp 103 #[.string cv.nm, .int .i64 cv.o1, .int .i64 cv.o2, .slice cv.ra cv.rn cv.rc, cv.em, cv.re, cv.wi, pv] ∧ W.ownsRow n₀ 110 3 pv L.length (flatP L)
theorem own_grownP {w w' : World} {base e size n : Nat} {v : Value} {xs : List Value} {row : Option Nat} (h : w.ownsRow base e size v n xs) (hg : w.grownBy w' row) (hne : ∀ b, v.ownBlock = some b → row ≠ some b) : w'.ownsRow base e size v n xs := by
 refine ⟨h.1, ?_⟩
 rcases h.2 with h1 | ⟨g, c, cur, h1, h2, h3, h4⟩
 · exact .inl h1
 · refine .inr ⟨g, c, cur, h1, h2, ?_, h4⟩
   rw [hg.block g (Array.getElem?_eq_some_iff.1 h3).1 (fun e => hne g (by rw [h1]; rfl) e.symm)]
   exact h3
theorem infoP : (Tryd.prog.info? 110).map (fun i => (i.zero, i.size, i.bytes)) = some (some (.agg #[.int .u8 0, .int .i64 0, .string ⟨#[]⟩]), 3, 32) := by kernel_rfl
theorem CkI.from {n₀ cp B : Nat} {cv : CkV} {L : List Pr} {β : Type} : OwnFrom B (fun (_ : β) W => CkI n₀ cp cv L W) := fun s W W' row hs hg hr => by
 obtain ⟨h0, pv, h1, h2⟩ := hs
 refine ⟨h0, pv, h1.kept hg (fun r e => (hr r e).2), own_grownP h2 hg fun b hb e => ?_⟩
 obtain ⟨o, ho, hc⟩ := (hr _ e).2
 rcases h2.2 with ⟨h3, _⟩ | ⟨g, c, cur, h3, _, h4, _⟩
 · rw [h3] at hb; cases hb
 · rw [h3] at hb
   simp [Value.ownBlock] at hb
   subst hb
   rw [h4] at ho
   cases ho
   simp [Obj.isCells] at hc
theorem CkI.below {n₀ cp : Nat} {cv : CkV} {L : List Pr} {W W' : World} (h : CkI n₀ cp cv L W) (hb : Below W.heap.size W W') : CkI n₀ cp cv L W' := by
 obtain ⟨h0, pv, h1, h2⟩ := h
 refine ⟨h0, pv, h1.below hb h1.lt, ⟨h2.1, ?_⟩⟩
 rcases h2.2 with h3 | ⟨g, c, cur, h3, h4, h5, h6⟩
 · exact .inl h3
 · refine .inr ⟨g, c, cur, h3, h4, ?_, h6⟩
   rw [hb.block g (Array.getElem?_eq_some_iff.1 h5).1]
   exact h5
theorem CkI.alloc {n₀ cp : Nat} {cv : CkV} {L : List Pr} {W : World} (h : CkI n₀ cp cv L W) (o : Obj) : CkI n₀ cp cv L (W.alloc o) := h.below ((Below.refl _ _).alloc (Nat.le_refl _) o)
theorem sClone_any (s : ByteArray) (hs : s.size ≤ 281474976710656) (w : World) : Calls Tryd.prog 65 #[.string s] w fun e w' => e = .returned (.string s) ∧ Below w.heap.size w w' := by
 go_enter Tryd.func65, Tryd.ntmps65
 go_wp2_with (go_at_call 76; refine (Tryd.stringslite_Clone _ _ hs).mono ?_; rintro e w' ⟨rfl, hb⟩)
 go_ret
 exact ⟨rfl, hb⟩
theorem slice_formP {w : World} {base e size n : Nat} {v : Value} {xs : List Value} (h : w.ownsRow base e size v n xs) : ∃ A cap, v = .slice A n cap ∧ (n ≤ cap) := by
 rcases h.2 with ⟨h1, h2⟩ | ⟨g, c, cur, h1, h2, h3, h4, h5, h6⟩
 · exact ⟨none, 0, by rw [h1, h2], by omega⟩
 · exact ⟨some ⟨g, 0, none⟩, c, h1, h4⟩
theorem cells_newP (w : World) (xs : List Value) (t : TypeId) : ∀ j u, xs[j]? = some u → (w.alloc (.cells xs.toArray t)).cell? ((⟨w.heap.size, 0, none⟩ : Addr).add j) = some u := by
 intro j u hj
 have := (Bk.made w t xs.toArray).cell j
 rw [show ((⟨w.heap.size, 0, none⟩ : Addr).add j) = ⟨w.heap.size, j, none⟩ from by simp [Addr.add]; omega]
 rw [this]
 simpa using hj
theorem tell_key {n₀ cp n : Nat} {cv : CkV} {L : List Pr} {W w9 w11 : World} {A : Option Addr} {cap g cap2 : Nat} {code rule : Int} {name : ByteArray} (h0 : n₀ ≤ cp)
 (hK : Bk W cp 103 #[.string cv.nm, .int .i64 cv.o1, .int .i64 cv.o2, .slice cv.ra cv.rn cv.rc, cv.em, cv.re, cv.wi, .slice A n cap]) (hL : L.length = n)
 (hown : W.ownsRow n₀ 110 3 (.slice A n cap) n (flatP L)) (hb : Below W.heap.size W w9)
 (hown11 : w11.ownsRow n₀ 110 3 (.slice (some ⟨g, 0, none⟩) (n + 1) cap2) (n + 1) (flatP L ++ [.int .u8 code, .int .i64 rule, .string name]))
 (hg : (w9.alloc (.cells #[.int .u8 code, .int .i64 rule, .string name] 110)).grownBy w11 (Value.slice A n cap).ownBlock) (hat : (Value.slice A n cap).ownBlock = some g ∨ g = w9.heap.size + 1) :
 CkI n₀ cp cv (L ++ [⟨code, rule, name⟩]) (w11.setCell ⟨cp, 7, none⟩ (.slice (some ⟨g, 0, none⟩) (n + 1) cap2)) ∧ Tl n₀ W (w11.setCell ⟨cp, 7, none⟩ (.slice (some ⟨g, 0, none⟩) (n + 1) cap2)) := by
 have hnn : n₀ ≤ W.heap.size := by have := hK.lt; omega
 have hb2 : Below W.heap.size W (w9.alloc (.cells #[.int .u8 code, .int .i64 rule, .string name] 110)) := hb.alloc hb.size _
 -- the row's block, if there is one
 have hrow : ∀ b, (Value.slice A n cap).ownBlock = some b → n₀ ≤ b ∧ b < W.heap.size ∧ ∃ cs f, W.heap[b]? = some (.cells cs 110 f) := by
  intro b e
  rcases hown.2 with ⟨h1, _⟩ | ⟨g', c, cur, h1, h2, h3, _⟩
  · rw [h1] at e; cases e
  · rw [h1] at e
    have e2 : g' = b := by simpa [Value.ownBlock] using e
    subst e2
    exact ⟨h2, (Array.getElem?_eq_some_iff.1 h3).1, cur, _, h3⟩
 have hncp : (Value.slice A n cap).ownBlock ≠ some cp := fun e => by
  obtain ⟨_, _, cs, f, h⟩ := hrow cp e
  rw [show W.heap[cp]? = _ from hK] at h
  cases h
 have hgcp : g ≠ cp := by
  rintro rfl
  rcases hat with h | h
  · exact hncp h
  · have := hK.lt; have := hb.size; omega
 have k1 : Bk w11 cp 103 _ := (hK.below hb2 hK.lt).grown hg (fun e => hncp e.symm)
 have k2 := k1.set 7 (.slice (some ⟨g, 0, none⟩) (n + 1) cap2)
 simp at k2
 refine ⟨⟨h0, _, k2, ?_⟩, ?_, ?_⟩
 · rw [List.length_append, List.length_singleton, hL, flatP_app]
   refine ⟨hown11.1, ?_⟩
   rcases hown11.2 with ⟨h1, _⟩ | ⟨g', c, cur, h1, h2, h3, h4⟩
   · cases h1
   · refine .inr ⟨g', c, cur, h1, h2, ?_, h4⟩
     have e2 : g' = g := by injection h1 with h1; injection h1 with h1; injection h1 with h1; exact h1.symm
     subst e2
     exact (Below.heap_setCell _ _ _ _ hgcp).trans h3
 · exact ((hb2.mono hnn).grown hg (by have := hb2.size; simp at this ⊢; omega) (fun k e => (hrow k e).1)).setCell (p := ⟨cp, 7, none⟩) h0 _
 · intro k o hk ho
   have hlt := (Array.getElem?_eq_some_iff.1 hk).1
   have n1 : k ≠ cp := by
    rintro rfl
    rw [show W.heap[k]? = _ from hK] at hk
    injection hk with hk
    subst hk
    exact ho.2 rfl
   have n2 : (Value.slice A n cap).ownBlock ≠ some k := fun e => by
    obtain ⟨_, _, cs, f, h⟩ := hrow k e
    rw [h] at hk
    injection hk with hk
    subst hk
    exact ho.1 rfl
   rw [Below.heap_setCell _ _ _ _ n1, hg.block k (by have := hb2.size; omega) (fun e => n2 e.symm), hb2.block k hlt]
   exact hk
set_option maxHeartbeats 2000000 in
theorem tell_any (n₀ cp : Nat) (cv : CkV) (L : List Pr) (code rule : Int) (name : ByteArray) (W : World) (hI : CkI n₀ cp cv L W) (hs : name.size ≤ 140737488351232) (hL : L.length ≤ 1000000) :
 Calls Tryd.prog 46 #[.pointer (some ⟨cp, 0, none⟩), .int .u8 code, .int .i64 rule, .string name] W fun e W' => (∃ v, e = .returned v) ∧ CkI n₀ cp cv (L ++ [⟨code, rule, name⟩]) W' ∧ Tl n₀ W W' := by
 obtain ⟨i0, hi, hz0, hz1, hz2⟩ := info_parts infoP
 obtain ⟨h0, pv, hK, hown⟩ := hI
 obtain ⟨n, hn⟩ : ∃ n, L.length = n := ⟨_, rfl⟩
 rw [hn] at hL hown
 obtain ⟨A, cap, rfl, hcap⟩ := slice_formP hown
 have hC := Lib.hid (fun wx (h : Below W.heap.size W wx) => (sClone_any name (by omega) wx).mono (R' := fun e w' => e = .returned (.string name) ∧ Below W.heap.size W w' ∧ w'.cell? ⟨cp, 7, none⟩ = some (.slice A n cap) ∧ (w'.alloc (.cells #[.int .u8 code, .int .i64 rule, .string name] 110)).cell? ⟨cp, 7, none⟩ = some (.slice A n cap) ∧ (w'.alloc (.cells #[.int .u8 code, .int .i64 rule, .string name] 110)).ownsRow n₀ 110 3 (.slice A n cap) n (flatP L)) fun e w' ⟨h1, h2⟩ => by
  have h3 := h.trans (h2.mono h.size)
  have h4 := (hK.below h3 hK.lt).cell 7
  refine ⟨h1, h3, by simpa using h4, by simpa using (((hK.below h3 hK.lt).alloc (.cells #[.int .u8 code, .int .i64 rule, .string name] 110)).cell 7), hown.1, ?_⟩
  rcases hown.2 with h5 | ⟨g, c, cur, q1, q2, q3, q4⟩
  · exact .inl h5
  · refine .inr ⟨g, c, cur, q1, q2, ?_, q4⟩
    have h6 := h3.alloc h3.size (.cells #[.int .u8 code, .int .i64 rule, .string name] 110)
    rw [h6.block g (Array.getElem?_eq_some_iff.1 q3).1]
    exact q3)
 have p7 := hK.cell 7
 have f7 := hK.free 7
 simp at p7
 have HKK := Lib.hid (fun w9 w11 g cap2 h1 h2 h3 h4 => tell_key (n := n) (w9 := w9) (w11 := w11) (g := g) (cap2 := cap2) (code := code) (rule := rule) (name := name) h0 hK hn hown h1 h2 h3 h4)
 have HL := Lib.hid (And.intro hL (And.intro hcap (show n₀ ≤ W.heap.size from by have := hK.lt; omega)))
 have HF := Lib.hid (fun (w9 w11 : World) (hb : Below W.heap.size W w9) (hg : (w9.alloc (.cells #[.int .u8 code, .int .i64 rule, .string name] 110)).grownBy w11 (Value.slice A n cap).ownBlock) => show w11.cell? ⟨cp, 7, none⟩ = some (.slice A n cap) ∧ w11.frozen? ⟨cp, 7, none⟩ = false from by
  have hncp : (Value.slice A n cap).ownBlock ≠ some cp := fun e => by
   rcases hown.2 with ⟨h1, _⟩ | ⟨g', c, cur, h1, h2, h3, _⟩
   · rw [h1] at e; cases e
   · rw [h1] at e
     have e2 : g' = cp := by simpa [Value.ownBlock] using e
     subst e2
     rw [show W.heap[g']? = _ from hK] at h3
     cases h3
  have k1 : Bk w11 cp 103 _ := (hK.below (hb.alloc hb.size _) hK.lt).grown hg (fun e => hncp e.symm)
  exact ⟨by have := k1.cell 7; simpa using this, k1.free 7⟩)
 clear hown hK hcap
 go_enter Tryd.func46, Tryd.ntmps46
 go_wp2_with fail
 go_region_law (first
  | (refine step_append_lies _ rfl _ _ 81 rfl n₀ 110 i0 (.agg #[.int .u8 0, .int .i64 0, .string ⟨#[]⟩]) 3 32 Tryd.underlying81 hi hz0 hz1 hz2 rfl (by decide) _ n _ rfl ho9 ⟨w9.heap.size, 0, none⟩ 1 1 [.int .u8 code, .int .i64 rule, .string name] rfl rfl (cells_newP _ _ _) (by simp [Value.oneCell']) (by decide) (by have := HL.out.1; unfold maxLen; omega) (by have := HL.out.1; omega) (by have := HL.out.2.2; have := hb9.size; simp; omega) _ rfl ?_; intro g11 cap11 w11 hown11 hg11 hat11 hlt11; obtain ⟨z11, f11⟩ := HF.out _ _ hb9 hg11)
  | (go_simp; go_at_call 65; refine (hC.out _ (by first | exact Below.refl _ _ | exact (Below.refl _ _).drew)).mono ?_; rintro e w9 ⟨rfl, hb9, z9, z10, ho9⟩))
 all_goals
  go_end0
  exact ⟨⟨_, rfl⟩, HKK.out w9 w11 g11 cap11 hb9 hown11 hg11 (hat11.imp id (fun h => h.trans (World.size_alloc _ _)))⟩
end Go.Proofs.YtiinkhmgemoamaaDoor
