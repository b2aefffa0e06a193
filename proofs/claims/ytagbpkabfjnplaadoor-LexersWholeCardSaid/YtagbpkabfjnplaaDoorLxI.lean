/- Lexers: rows of numbers as they are gathered; the contract of lexers.copied. -/
import Derived.Test.YtagbpkabfjnplaaDoorLxH
import Derived.Test.YtagbpkabfjnplaaDoorRgB
import Derived.Deep.Cut
import Derived.Deep.DeepCutAuto
import Derived.Deep.CutBlock
namespace Go.Proofs.YtagbpkabfjnplaaDoor
open Go Go.RowKit Rn Lx
attribute [local go_sem] Oper.semAt_some
set_option maxRecDepth 100000

namespace Lx
theorem wp_cutX {P : Program} {c : Code} {Q : Exit → Act → World → Prop} {a : Act} {w : World} (R : Act → Act → World → Prop)
    (first : Code.wp P c (fun e a' w' => match e with | .normal => R a a' w' | _ => False) a w) (next : ∀ a' w', R a a' w' → Q .normal a' w') : Code.wp P c Q a w :=
  Code.wp_mono (fun e a' w' h => by cases e <;> first | exact next a' w' h | exact h.elim) first
theorem infoRow : (Tryd.prog.info? 23).map (fun i => (i.zero, i.size, i.bytes)) = some (some (.slice none 0 0), 1, 24) := by kernel_rfl
/-- Rows that are gathered at v, each in memory of its own from B on. -/
def Gth (w : World) (B : Nat) (v : Value) (ls : List (List Int)) : Prop :=
  ∃ xs : List Value, w.ownsRow B 23 1 v ls.length xs ∧ ∀ (i : Nat) (l : List Int), ls[i]? = some l → ∃ a c, xs[i]? = some (.slice a l.length c) ∧ OwnV w 3 B (.slice a l.length c) l.length (l.map (Value.int .i64))
theorem Gth.nil (w : World) (B : Nat) : Gth w B (.slice none 0 0) [] := ⟨[], World.ownsRow_nil w _ _ _, fun i l h => by simp at h⟩
theorem Gth.kept {w w' : World} {B : Nat} {v : Value} {ls : List (List Int)} (h : Gth w B v ls) (hb : ∀ k, B ≤ k → k < w.heap.size → w'.heap[k]? = w.heap[k]?) : Gth w' B v ls := by
  obtain ⟨xs, ho, hx⟩ := h
  refine ⟨xs, ⟨ho.1, ?_⟩, fun i l hl => ?_⟩
  · rcases ho.2 with h | ⟨g, cap, cur, h1, h2, h3, h4⟩
    · exact .inl h
    · exact .inr ⟨g, cap, cur, h1, h2, by rw [hb g h2 (Array.getElem?_eq_some_iff.1 h3).1]; exact h3, h4⟩
  · obtain ⟨a, c, h1, h2⟩ := hx i l hl
    exact ⟨a, c, h1, h2.kept fun g cur hg hk => by unfold Bk at hk ⊢; rw [hb g hg (Array.getElem?_eq_some_iff.1 hk).1]; exact hk⟩
theorem Gth.below {w w' : World} {B : Nat} {v : Value} {ls : List (List Int)} (h : Gth w B v ls) (hb : Below w.heap.size w w') : Gth w' B v ls := h.kept fun k _ hk => hb.block k hk
theorem Gth.set {w : World} {B b o : Nat} {v x : Value} {ls : List (List Int)} {t : TypeId} {cs : Array Value} (h : Gth w B v ls) (hk : Bk w b t cs) (ht : t ≠ 3) (ht2 : t ≠ 23) : Gth (w.setCell ⟨b, o, none⟩ x) B v ls := by
  obtain ⟨xs, ho, hx⟩ := h
  refine ⟨xs, ⟨ho.1, ?_⟩, fun i l hl => ?_⟩
  · rcases ho.2 with h | ⟨g, cap, cur, h1, h2, h3, h4⟩
    · exact .inl h
    · refine .inr ⟨g, cap, cur, h1, h2, ?_, h4⟩
      have hg : Bk w g 23 cur := h3
      exact hg.other _ _ (Bk.ne hg hk (fun e => ht2 e.symm))
  · obtain ⟨a, c, h1, h2⟩ := hx i l hl
    exact ⟨a, c, h1, h2.kept fun g cur hg hq => hq.other _ _ (Bk.ne hq hk (fun e => ht e.symm))⟩
theorem Gth.mono {w : World} {B C : Nat} {v : Value} {ls : List (List Int)} (h : Gth w B v ls) (hC : C ≤ B) : Gth w C v ls := by
  obtain ⟨xs, ho, hx⟩ := h
  refine ⟨xs, ⟨ho.1, ?_⟩, fun i l hl => ?_⟩
  · rcases ho.2 with h | ⟨g, cap, cur, h1, h2, h3, h4⟩
    · exact .inl h
    · exact .inr ⟨g, cap, cur, h1, by omega, h3, h4⟩
  · obtain ⟨a, c, h1, h2⟩ := hx i l hl
    exact ⟨a, c, h1, h2.mono hC⟩
theorem Gth.zz {w : World} {B : Nat} {v : Value} {ls : List (List Int)} (h : Gth w B v ls) : ZZV w v ls := by
  obtain ⟨xs, ho, hx⟩ := h
  rcases ho.2 with ⟨rfl, h0⟩ | ⟨g, cap, cur, rfl, h2, h3, h4, h5, h6, h7⟩
  · obtain rfl : ls = [] := List.eq_nil_of_length_eq_zero h0
    exact ⟨none, 0, rfl, Nat.le_refl _, fun i l h => by simp at h⟩
  · refine ⟨_, cap, rfl, h4, fun i l hl => ?_⟩
    obtain ⟨a, c, e1, e2⟩ := hx i l hl
    refine ⟨g, 0, a, c, rfl, ?_, e2.zv⟩
    have hg : Bk w g 23 cur := h3
    rw [hg.cell, Nat.zero_add]
    rw [← h7, List.getElem?_take] at e1
    split at e1
    · simpa using e1
    · cases e1
/-- One row more. -/
theorem Gth.push {w w' : World} {B : Nat} {v v' : Value} {ls : List (List Int)} {l : List Int} {a : Option Addr} {c : Nat} (h : Gth w B v ls) (hl : OwnV w 3 B (.slice a l.length c) l.length (l.map (Value.int .i64)))
    (hg : w.grownBy w' v.ownBlock) (ho : ∀ xs, w.ownsRow B 23 1 v ls.length xs → w'.ownsRow B 23 1 v' (ls.length + 1) (xs ++ [.slice a l.length c])) : Gth w' B v' (ls ++ [l]) := by
  obtain ⟨xs, hx, hr⟩ := h
  have hlen : xs.length = ls.length := by have := hx.1; omega
  have key : ∀ (u : Value) (k : List Int), OwnV w 3 B u k.length (k.map (Value.int .i64)) → OwnV w' 3 B u k.length (k.map (Value.int .i64)) := fun u k hu => hu.kept fun g cur hg2 hk => by
    refine hk.grown hg ?_
    intro e
    rcases hx.2 with ⟨rfl, _⟩ | ⟨g', cap, cur', rfl, h2, h3, _⟩
    · cases e
    · simp only [Value.ownBlock, Option.some.injEq] at e
      have hk2 : Bk w g' 23 cur' := h3
      exact Bk.ne hk hk2 (by decide) e
  refine ⟨xs ++ [.slice a l.length c], by rw [List.length_append]; exact ho xs hx, fun i k hi => ?_⟩
  rw [List.getElem?_append] at hi
  split at hi
  · next hlt =>
    obtain ⟨a1, c1, h1, h2⟩ := hr i k hi
    exact ⟨a1, c1, by rw [List.getElem?_append_left (by omega)]; exact h1, key _ _ h2⟩
  · next hge =>
    have h0 : i = ls.length := by
      have := (List.getElem?_eq_some_iff.1 hi).1
      simp at this
      omega
    subst h0
    simp at hi
    subst hi
    exact ⟨a, c, by rw [← hlen]; simp, key _ _ hl⟩
theorem Gth.push_run {w : World} {B z : Nat} {v : Value} {ls : List (List Int)} {l : List Int} {a : Option Addr} {c : Nat} (h : Gth w B v ls) (hl : OwnV w 3 B (.slice a l.length c) l.length (l.map (Value.int .i64)))
    (hz : Bk w z 23 #[.slice a l.length c]) (hn : ls.length ≤ 100000) (hB : B ≤ w.heap.size) :
    ∃ v' w', (Builtin.append_ #[24, 24] 24 #[v, .slice (some ⟨z, 0, none⟩) 1 1]).run Tryd.prog w = .ok v' w' ∧ Gth w' B v' (ls ++ [l]) ∧ w.grownBy w' v.ownBlock := by
  obtain ⟨i0, hi, hz0, hz1, hz2⟩ := infoOf infoRow
  obtain ⟨xs, hx, hr⟩ := h
  obtain ⟨v', w', e1, e2, e3, _⟩ := run_append_own (P := Tryd.prog) w B 24 24 23 i0 _ 1 24 Tryd.underlying24 hi hz0 hz1 hz2 rfl (by decide) v ls.length xs hx ⟨z, 0, none⟩ 1 1 [.slice a l.length c] rfl
    (fun j u hj => by
      match j, hj with
      | 0, hj => simp at hj; subst hj; rw [Go.WideShapes.add_plain, hz.cell]; rfl
      | j + 1, hj => simp at hj) (fun u hu => by rw [List.mem_singleton.1 hu]; rfl) (by unfold maxLen; omega) (by omega) hB
  exact ⟨v', w', e1, Gth.push ⟨xs, hx, hr⟩ hl e3 (fun ys hy => by
    have h2 : ys = xs := by
      rcases hx.2 with ⟨rfl, h0⟩ | ⟨g, cap, cur, rfl, _, h3, _, _, _, h7⟩
      · have a1 := hx.1; have a2 := hy.1
        rw [h0] at a1 a2
        rw [List.eq_nil_of_length_eq_zero (by omega : ys.length = 0), List.eq_nil_of_length_eq_zero (by omega : xs.length = 0)]
      · rcases hy.2 with ⟨e, _⟩ | ⟨g', cap', cur', e, _, h3', _, _, _, h7'⟩
        · cases e
        · injection e with e
          injection e with e
          injection e with e
          subst e
          rw [h3] at h3'
          injection h3' with h3'
          injection h3' with h3'
          subst h3'
          rw [← h7, ← h7']
    rw [h2]; exact e2), e3⟩
/-- What a box of temporaries leaves open. -/
def CopR (g : (Nat → Value) → Nat → Array Value) (B : Nat → World → Prop) (a : Act) (w : World) : Prop := ∃ f b, B b w ∧ a = { tmps := g f b, defers := [] }
theorem copr_mk {g : (Nat → Value) → Nat → Array Value} {B : Nat → World → Prop} {t : Array Value} {w : World} (b : Nat) (hb : B b w) (h : t = g (fun n => t.getD n undef) b) : CopR g B { tmps := t, defers := [] } w := ⟨_, b, hb, by rw [← h]⟩
/-- The copy under way: its box, and the three lists that are there. -/
def Cop3 (t : Tb) (w1 : World) (B b : Nat) (w : World) : Prop := ∃ a1 c1 a2 c2 a4 c4, Bk w b 26 #[.slice a1 t.rs.length c1, .slice a2 t.cs.length c2, .slice none 0 0, .slice a4 t.es.length c4] ∧
  OwnV w 63 B (.slice a1 t.rs.length c1) t.rs.length (rgV t.rs) ∧ OwnV w 3 B (.slice a2 t.cs.length c2) t.cs.length (t.cs.map (Value.int .i64)) ∧ OwnV w 3 B (.slice a4 t.es.length c4) t.es.length (t.es.map (Value.int .i64)) ∧ w1.heap.size ≤ b ∧ Below w1.heap.size w1 w
/-- A table in memory of its own. -/
def TOwn (w : World) (B : Nat) (t : Tb) (v1 v2 v3 v4 : Value) : Prop :=
  OwnV w 63 B v1 t.rs.length (rgV t.rs) ∧ OwnV w 3 B v2 t.cs.length (t.cs.map (Value.int .i64)) ∧ Gth w B v3 t.ns ∧ OwnV w 3 B v4 t.es.length (t.es.map (Value.int .i64))
theorem TOwn.below {w w' : World} {B : Nat} {t : Tb} {v1 v2 v3 v4 : Value} (h : TOwn w B t v1 v2 v3 v4) (hb : Below w.heap.size w w') : TOwn w' B t v1 v2 v3 v4 := ⟨h.1.below hb, h.2.1.below hb, h.2.2.1.below hb, h.2.2.2.below hb⟩
theorem TOwn.tl {w : World} {B : Nat} {t : Tb} {v1 v2 v3 v4 : Value} (h : TOwn w B t v1 v2 v3 v4) : TL w v1 v2 v3 v4 t := ⟨h.1.rl, h.2.1.zv, h.2.2.1.zz, h.2.2.2.zv⟩
/-- The copy under way, with rows. -/
def CopL (t : Tb) (w1 : World) (B b : Nat) (k : Nat) (sa : Option Addr) (n sc : Nat) (w : World) : Prop := ∃ a1 c1 a2 c2 a4 c4, Bk w b 26 #[.slice a1 t.rs.length c1, .slice a2 t.cs.length c2, .slice sa n sc, .slice a4 t.es.length c4] ∧
  OwnV w 63 B (.slice a1 t.rs.length c1) t.rs.length (rgV t.rs) ∧ OwnV w 3 B (.slice a2 t.cs.length c2) t.cs.length (t.cs.map (Value.int .i64)) ∧ Gth w B (.slice sa n sc) (t.ns.take k) ∧ OwnV w 3 B (.slice a4 t.es.length c4) t.es.length (t.es.map (Value.int .i64)) ∧ w1.heap.size ≤ b ∧ Below w1.heap.size w1 w
end Lx
namespace Lx
theorem cop_made {t : Tb} {w1 w : World} {a1 a2 a4 : Option Addr} {c1 c2 c4 : Nat}
    (h1 : OwnV w 63 w1.heap.size (.slice a1 t.rs.length c1) t.rs.length (rgV t.rs)) (h2 : OwnV w 3 w1.heap.size (.slice a2 t.cs.length c2) t.cs.length (t.cs.map (Value.int .i64))) (h4 : OwnV w 3 w1.heap.size (.slice a4 t.es.length c4) t.es.length (t.es.map (Value.int .i64))) (hb : Below w1.heap.size w1 w) :
    Cop3 t w1 w1.heap.size w.heap.size (w.alloc (.cells #[.slice a1 t.rs.length c1, .slice a2 t.cs.length c2, .slice none 0 0, .slice a4 t.es.length c4] 26)) := by
  have hs : Below w.heap.size w (w.alloc (.cells #[.slice a1 t.rs.length c1, .slice a2 t.cs.length c2, .slice none 0 0, .slice a4 t.es.length c4] 26)) := (Below.refl _ _).alloc (Nat.le_refl _) _
  exact ⟨a1, c1, a2, c2, a4, c4, Bk.made _ _ _, h1.below hs, h2.below hs, h4.below hs, hb.size, hb.alloc hb.size _⟩
theorem cop_store {t : Tb} {w1 w : World} {b : Nat} {a1 a2 a4 : Option Addr} {c1 c2 c4 : Nat} (hq : Bk w b 26 #[.slice none 0 0, .slice none 0 0, .slice none 0 0, .slice none 0 0])
    (h1 : OwnV w 63 w1.heap.size (.slice a1 t.rs.length c1) t.rs.length (rgV t.rs)) (h2 : OwnV w 3 w1.heap.size (.slice a2 t.cs.length c2) t.cs.length (t.cs.map (Value.int .i64))) (h4 : OwnV w 3 w1.heap.size (.slice a4 t.es.length c4) t.es.length (t.es.map (Value.int .i64))) (hb : Below w1.heap.size w1 w) (hB : w1.heap.size ≤ b) :
    Cop3 t w1 w1.heap.size b ((((w.setCell ⟨b, 0, none⟩ (.slice a1 t.rs.length c1)).setCell ⟨b, 1, none⟩ (.slice a2 t.cs.length c2)).setCell ⟨b, 2, none⟩ (.slice none 0 0)).setCell ⟨b, 3, none⟩ (.slice a4 t.es.length c4)) := by
  have hk := (((hq.set 0 (.slice a1 t.rs.length c1)).set 1 (.slice a2 t.cs.length c2)).set 2 (.slice none 0 0)).set 3 (.slice a4 t.es.length c4)
  have ho : ∀ (g : Nat) (ty : TypeId) (cur : Array Value), ty ≠ 26 → Bk w g ty cur → Bk ((((w.setCell ⟨b, 0, none⟩ (.slice a1 t.rs.length c1)).setCell ⟨b, 1, none⟩ (.slice a2 t.cs.length c2)).setCell ⟨b, 2, none⟩ (.slice none 0 0)).setCell ⟨b, 3, none⟩ (.slice a4 t.es.length c4)) g ty cur := fun g ty cur hne hg => by
    have hn := Bk.ne hg hq hne
    exact (((hg.other ⟨b, 0, none⟩ _ hn).other ⟨b, 1, none⟩ _ hn).other ⟨b, 2, none⟩ _ hn).other ⟨b, 3, none⟩ _ hn
  exact ⟨a1, c1, a2, c2, a4, c4, hk, h1.kept fun g cur _ hg => ho g _ _ (by decide) hg, h2.kept fun g cur _ hg => ho g _ _ (by decide) hg, h4.kept fun g cur _ hg => ho g _ _ (by decide) hg, hB, (((hb.setCell (p := ⟨b, 0, none⟩) hB _).setCell (p := ⟨b, 1, none⟩) hB _).setCell (p := ⟨b, 2, none⟩) hB _).setCell (p := ⟨b, 3, none⟩) hB _⟩
end Lx
namespace Lx
theorem Gth.form {w : World} {B : Nat} {v : Value} {ls : List (List Int)} {l : List Int} (h : Gth w B v (ls ++ [l])) : ∃ g cap, v = .slice (some ⟨g, 0, none⟩) (ls ++ [l]).length cap := by
  obtain ⟨xs, ho, _⟩ := h
  rcases ho.2 with ⟨_, h0⟩ | ⟨g, cap, cur, e, _⟩
  · simp at h0
  · exact ⟨g, cap, e⟩
theorem cop_more {t : Tb} {w1 wr W w5 : World} {b k g5 cap5 : Nat} {sa : Option Addr} {sc : Nat} {l : List Int} (h : CopL t w1 w1.heap.size b k sa k sc wr) (hlk : (t.ns.take k).length = k) (hl : t.ns[k]? = some l) (hb : Below wr.heap.size wr W)
    (hg : W.grownBy w5 (Value.slice sa k sc).ownBlock) (hgth : Gth w5 w1.heap.size (.slice (some ⟨g5, 0, none⟩) (t.ns.take k ++ [l]).length cap5) (t.ns.take k ++ [l])) :
    ((w5.cell? ⟨b, 2, none⟩ = some (.slice sa k sc) ∧ w5.frozen? ⟨b, 2, none⟩ = false)) ∧ CopL t w1 w1.heap.size b (k + 1) (some ⟨g5, 0, none⟩) (k + 1) cap5 (w5.setCell ⟨b, 2, none⟩ (.slice (some ⟨g5, 0, none⟩) (t.ns.take k ++ [l]).length cap5)) := by
  obtain ⟨a1, c1, a2, c2, a4, c4, hk, o1, o2, o3, o4, hBb, hB⟩ := h
  have hrow : ∀ r, (Value.slice sa k sc).ownBlock = some r → w1.heap.size ≤ r ∧ ∃ cur, Bk W r 23 cur := fun r hr => by
    obtain ⟨xs, ho, _⟩ := o3.below hb
    rcases ho.2 with ⟨e, _⟩ | ⟨g, cap, cur, e, hge, hcur, _⟩
    · rw [e] at hr; cases hr
    · rw [e] at hr; injection hr with hr; subst hr; exact ⟨hge, cur, hcur⟩
  have kept : ∀ (g : Nat) (ty : TypeId) (cur : Array Value), ty ≠ 23 → Bk wr g ty cur → Bk w5 g ty cur := fun g ty cur hne hq => by
    have h1 := hq.below hb hq.lt
    refine h1.grown hg fun e => ?_
    obtain ⟨_, c', h2⟩ := hrow g e.symm
    exact Bk.ne h1 h2 hne rfl
  have hk5 := kept _ _ _ (by decide) hk
  have hk1 : t.ns.take k ++ [l] = t.ns.take (k + 1) := by rw [List.take_add_one, hl]; rfl
  have hl1 : (t.ns.take k ++ [l]).length = k + 1 := by rw [List.length_append, hlk]; rfl
  rw [hl1, hk1] at hgth
  rw [hl1]
  have hset := hk5.set 2 (.slice (some ⟨g5, 0, none⟩) (k + 1) cap5)
  have ho : ∀ (g : Nat) (ty : TypeId) (cur : Array Value), ty ≠ 26 → Bk w5 g ty cur → Bk (w5.setCell ⟨b, 2, none⟩ (.slice (some ⟨g5, 0, none⟩) (k + 1) cap5)) g ty cur := fun g ty cur hne hq => hq.other _ _ (Bk.ne hq hk5 hne)
  refine ⟨⟨by rw [hk5.cell]; rfl, hk5.free 2⟩, a1, c1, a2, c2, a4, c4, hset, o1.kept fun g cur _ hq => ho _ _ _ (by decide) (kept _ _ _ (by decide) hq), o2.kept fun g cur _ hq => ho _ _ _ (by decide) (kept _ _ _ (by decide) hq), ?_, o4.kept fun g cur _ hq => ho _ _ _ (by decide) (kept _ _ _ (by decide) hq), hBb, ?_⟩
  · exact hgth.set hk5 (by decide) (by decide)
  · exact ((hB.trans (hb.mono hB.size)).grown hg (Nat.le_trans hB.size hb.size) (fun r hr => (hrow r hr).1)).setCell hBb _
theorem cop_end {t : Tb} {w w1 wr : World} {v1 v2 v3 v4 : Value} (hz : w1.heap.size = w.heap.size + 1 + 1) (hk : Bk wr (w.heap.size + 1) 26 #[.slice none 0 0, .slice none 0 0, .slice none 0 0, .slice none 0 0]) (h : TOwn wr w1.heap.size t v1 v2 v3 v4) :
    Bk ((((wr.setCell ⟨w.heap.size + 1, 0, none⟩ v1).setCell ⟨w.heap.size + 1, 1, none⟩ v2).setCell ⟨w.heap.size + 1, 2, none⟩ v3).setCell ⟨w.heap.size + 1, 3, none⟩ v4) (w.heap.size + 1) 26 #[v1, v2, v3, v4] ∧
    TOwn ((((wr.setCell ⟨w.heap.size + 1, 0, none⟩ v1).setCell ⟨w.heap.size + 1, 1, none⟩ v2).setCell ⟨w.heap.size + 1, 2, none⟩ v3).setCell ⟨w.heap.size + 1, 3, none⟩ v4) w.heap.size t v1 v2 v3 v4 := by
  have hh : ∀ k, w1.heap.size ≤ k → ((((wr.setCell ⟨w.heap.size + 1, 0, none⟩ v1).setCell ⟨w.heap.size + 1, 1, none⟩ v2).setCell ⟨w.heap.size + 1, 2, none⟩ v3).setCell ⟨w.heap.size + 1, 3, none⟩ v4).heap[k]? = wr.heap[k]? := fun k hk' => by
    rw [Below.heap_setCell _ _ _ _ (by show k ≠ w.heap.size + 1; omega), Below.heap_setCell _ _ _ _ (by show k ≠ w.heap.size + 1; omega), Below.heap_setCell _ _ _ _ (by show k ≠ w.heap.size + 1; omega), Below.heap_setCell _ _ _ _ (by show k ≠ w.heap.size + 1; omega)]
  have hb : ∀ (g : Nat) (ty : TypeId) (cur : Array Value), w1.heap.size ≤ g → Bk wr g ty cur → Bk ((((wr.setCell ⟨w.heap.size + 1, 0, none⟩ v1).setCell ⟨w.heap.size + 1, 1, none⟩ v2).setCell ⟨w.heap.size + 1, 2, none⟩ v3).setCell ⟨w.heap.size + 1, 3, none⟩ v4) g ty cur := fun g ty cur hg hq => by
    unfold Bk at hq ⊢
    rw [hh g hg]; exact hq
  refine ⟨(((hk.set 0 v1).set 1 v2).set 2 v3).set 3 v4, ?_, ?_, ?_, ?_⟩
  · exact (h.1.kept fun g cur hg hq => hb g _ _ hg hq).mono (by omega)
  · exact (h.2.1.kept fun g cur hg hq => hb g _ _ hg hq).mono (by omega)
  · exact Gth.mono (h.2.2.1.kept fun k hk' _ => hh k hk') (by omega)
  · exact (h.2.2.2.kept fun g cur hg hq => hb g _ _ hg hq).mono (by omega)
end Lx
set_option maxHeartbeats 16000000 in
theorem copied_any (t : Tb) (rv cv nv ev : Value) (w : World) (hT : TL w rv cv nv ev t) (hs : Sm t) :
    Calls Tryd.prog 27 #[.agg #[rv, cv, nv, ev]] w fun e w' => (∃ v1 v2 v3 v4, e = .returned (.agg #[v1, v2, v3, v4]) ∧ TOwn w' w.heap.size t v1 v2 v3 v4) ∧ Below w.heap.size w w' := by
  obtain ⟨w1, hw1⟩ : ∃ w1, (bx w rv cv nv ev).alloc (.cells #[.slice none 0 0, .slice none 0 0, .slice none 0 0, .slice none 0 0] 26) = w1 := ⟨_, rfl⟩
  have hz1 : w1.heap.size = w.heap.size + 1 + 1 := by rw [← hw1]; simp
  have hb1 : Below w.heap.size w w1 := by rw [← hw1]; exact (bx_below w rv cv nv ev).alloc (by simp) _
  have hk0 : Bk w1 w.heap.size 26 #[rv, cv, nv, ev] := by rw [← hw1]; exact (Bk.made w _ _).alloc _
  have hk1 : Bk w1 (w.heap.size + 1) 26 #[.slice none 0 0, .slice none 0 0, .slice none 0 0, .slice none 0 0] := by
    rw [← hw1]
    have := Bk.made (bx w rv cv nv ev) 26 #[.slice none 0 0, .slice none 0 0, .slice none 0 0, .slice none 0 0]
    rwa [show (bx w rv cv nv ev).heap.size = w.heap.size + 1 from by simp] at this
  have HW1 := Lib.hid hw1
  have HT := Lib.hid (fun (W : World) (h : Below w1.heap.size w1 W) => (hT.below hb1).below h)
  have HK := Lib.hid (fun (W : World) (h : Below w1.heap.size w1 W) => show W.cell? ⟨w.heap.size, 0, none⟩ = some rv ∧ W.cell? ⟨w.heap.size, 1, none⟩ = some cv ∧ W.cell? ⟨w.heap.size, 2, none⟩ = some nv ∧ W.cell? ⟨w.heap.size, 3, none⟩ = some ev from by
    have k := hk0.below h hk0.lt
    exact ⟨by rw [k.cell]; rfl, by rw [k.cell]; rfl, by rw [k.cell]; rfl, by rw [k.cell]; rfl⟩)
  have HK1 := Lib.hid (fun (W : World) (h : Below w1.heap.size w1 W) => hk1.below h hk1.lt)
  have HCR := Lib.hid (fun (W : World) (h : Below w1.heap.size w1 W) => (CloneR_any t.rs rv W (((hT.below hb1).below h).1) (Nat.le_trans hs.rs (by omega))).mono fun e w' x => show (∃ a' c', e = .returned (.slice a' t.rs.length c') ∧ OwnV w' 63 w1.heap.size (.slice a' t.rs.length c') t.rs.length (rgV t.rs)) ∧ Below W.heap.size W w' ∧ Below w1.heap.size w1 w' from ⟨by obtain ⟨a, c, e1, e2⟩ := x.1; exact ⟨a, c, e1, e2.mono h.size⟩, x.2, h.trans (x.2.mono h.size)⟩)
  have HCC := Lib.hid (fun (W : World) (h : Below w1.heap.size w1 W) => (CloneI_any t.cs cv W (((hT.below hb1).below h).2.1) (Nat.le_trans hs.cs (by omega))).mono fun e w' x => show (∃ a' c', e = .returned (.slice a' t.cs.length c') ∧ OwnV w' 3 w1.heap.size (.slice a' t.cs.length c') t.cs.length (t.cs.map (Value.int .i64))) ∧ Below W.heap.size W w' ∧ Below w1.heap.size w1 w' from ⟨by obtain ⟨a, c, e1, e2⟩ := x.1; exact ⟨a, c, e1, e2.mono h.size⟩, x.2, h.trans (x.2.mono h.size)⟩)
  have HCE := Lib.hid (fun (W : World) (h : Below w1.heap.size w1 W) => (CloneI_any t.es ev W (((hT.below hb1).below h).2.2.2) (Nat.le_trans hs.es (by omega))).mono fun e w' x => show (∃ a' c', e = .returned (.slice a' t.es.length c') ∧ OwnV w' 3 w1.heap.size (.slice a' t.es.length c') t.es.length (t.es.map (Value.int .i64))) ∧ Below W.heap.size W w' ∧ Below w1.heap.size w1 w' from ⟨by obtain ⟨a, c, e1, e2⟩ := x.1; exact ⟨a, c, e1, e2.mono h.size⟩, x.2, h.trans (x.2.mono h.size)⟩)
  have LR := Lib.hid hs.row
  have l3 := hs.ns
  have HZ1 := Lib.hid hz1
  have HB1 := Lib.hid hb1
  obtain ⟨⟨ra, rc, rfl, _, _⟩, ⟨ca, cc, rfl, _, _⟩, ⟨na, nc, rfl, _, _⟩, ⟨ea, ec, rfl, _, _⟩⟩ := hT
  clear hw1 hz1 hb1 hk0 hk1 hs
  go_enter Tryd.func27, Tryd.ntmps27
  go_upto_region 1 with fail
  rw [HW1.out]
  refine wp_cutX (fun a a' w' => CopR (fun f b => #[f 0, .pointer (some ⟨w.heap.size, 0, none⟩), .pointer (some ⟨w.heap.size + 1, 0, none⟩), .pointer (some ⟨b, 0, none⟩), f 4, f 5, f 6, f 7, f 8, f 9, f 10, f 11, f 12, f 13, f 14, f 15, f 16, f 17, f 18, f 19, f 20, f 21, f 22, f 23, f 24, f 25, f 26, f 27, f 28, f 29, f 30, f 31]) (fun b w' => Cop3 t w1 w1.heap.size b w') a' w') ?reg1 ?rest1
  have hbd : Below w1.heap.size w1 w1.drew := (Below.refl _ _).drew
  have HQ4 := Lib.hid (fun (w : World) (b : Nat) (hq : Bk w b 26 #[.slice none 0 0, .slice none 0 0, .slice none 0 0, .slice none 0 0]) => show w.cell? ⟨b, 0, none⟩ = some (.slice none 0 0) ∧ w.cell? ⟨b, 1, none⟩ = some (.slice none 0 0) ∧ w.cell? ⟨b, 2, none⟩ = some (.slice none 0 0) ∧ w.cell? ⟨b, 3, none⟩ = some (.slice none 0 0) ∧ w.frozen? ⟨b, 0, none⟩ = false ∧ w.frozen? ⟨b, 1, none⟩ = false ∧ w.frozen? ⟨b, 2, none⟩ = false ∧ w.frozen? ⟨b, 3, none⟩ = false from ⟨by rw [hq.cell]; rfl, by rw [hq.cell]; rfl, by rw [hq.cell]; rfl, by rw [hq.cell]; rfl, hq.free 0, hq.free 1, hq.free 2, hq.free 3⟩)
  case reg1 =>
    refine region_B (S := fun w' : World => (w'.cell? ⟨w.heap.size, 0, none⟩ = some (.slice ra t.rs.length rc) ∧ w'.cell? ⟨w.heap.size, 1, none⟩ = some (.slice ca t.cs.length cc) ∧ w'.cell? ⟨w.heap.size, 2, none⟩ = some (.slice na t.ns.length nc) ∧ w'.cell? ⟨w.heap.size, 3, none⟩ = some (.slice ea t.es.length ec))) 11 (by kernel_rfl) (HK.out _ (Below.refl _ _).drew) (fun hSS => ?_)
    show wpAnyB _ _ _ _ _ 11 12 #[false, false, false, false, false, false, false, false, false, false, false, false] _ _
    refine takeB (i := 0) (d := (some 6)) (v := _) (l' := #[true, false, false, false, false, false, false, false, false, false, false, false]) (by rw [List.getElem?_toArray]; rfl) rfl (by kernel_rfl) (by kernel_rfl) (by kernel_rfl) (by kernel_rfl) (by kernel_rfl) rfl (fun _ _ _ h => h) (Or.inl ⟨by rfl, fun w' hSw => by (try dsimp only at hSw); go_simp; try with_reducible rfl⟩) hSS ?_
    simp only [Act.put, List.setIfInBounds_toArray, List.set_cons_zero, List.set_cons_succ]
    refine takeB (i := 1) (d := (some 7)) (v := _) (l' := #[true, true, false, false, false, false, false, false, false, false, false, false]) (by rw [List.getElem?_toArray]; rfl) rfl (by kernel_rfl) (by kernel_rfl) (by kernel_rfl) (by kernel_rfl) (by kernel_rfl) rfl (fun _ _ _ h => h) (Or.inl ⟨by rfl, fun w' hSw => by (try dsimp only at hSw); go_simp; try with_reducible rfl⟩) hSS ?_
    simp only [Act.put, List.setIfInBounds_toArray, List.set_cons_zero, List.set_cons_succ]
    refine takeB (i := 3) (d := (some 9)) (v := _) (l' := #[true, true, false, true, false, false, false, false, false, false, false, false]) (by rw [List.getElem?_toArray]; rfl) rfl (by kernel_rfl) (by kernel_rfl) (by kernel_rfl) (by kernel_rfl) (by kernel_rfl) rfl (fun _ _ _ h => h) (Or.inl ⟨by rfl, fun w' hSw => by (try dsimp only at hSw); go_simp; try with_reducible rfl⟩) hSS ?_
    simp only [Act.put, List.setIfInBounds_toArray, List.set_cons_zero, List.set_cons_succ]
    refine takeB (i := 4) (d := (some 10)) (v := _) (l' := #[true, true, false, true, true, false, false, false, false, false, false, false]) (by rw [List.getElem?_toArray]; rfl) rfl (by kernel_rfl) (by kernel_rfl) (by kernel_rfl) (by kernel_rfl) (by kernel_rfl) rfl (fun _ _ _ h => h) (Or.inl ⟨by rfl, fun w' hSw => by (try dsimp only at hSw); go_simp; try with_reducible rfl⟩) hSS ?_
    simp only [Act.put, List.setIfInBounds_toArray, List.set_cons_zero, List.set_cons_succ]
    refine takeB (i := 6) (d := (some 12)) (v := _) (l' := #[true, true, false, true, true, false, true, false, false, false, false, false]) (by rw [List.getElem?_toArray]; rfl) rfl (by kernel_rfl) (by kernel_rfl) (by kernel_rfl) (by kernel_rfl) (by kernel_rfl) rfl (fun _ _ _ h => h) (Or.inl ⟨by rfl, fun w' hSw => by (try dsimp only at hSw); go_simp; try with_reducible rfl⟩) hSS ?_
    simp only [Act.put, List.setIfInBounds_toArray, List.set_cons_zero, List.set_cons_succ]
    refine takeB (i := 7) (d := (some 13)) (v := _) (l' := #[true, true, false, true, true, false, true, true, false, false, false, false]) (by rw [List.getElem?_toArray]; rfl) rfl (by kernel_rfl) (by kernel_rfl) (by kernel_rfl) (by kernel_rfl) (by kernel_rfl) rfl (fun _ _ _ h => h) (Or.inl ⟨by rfl, fun w' hSw => by (try dsimp only at hSw); go_simp; try with_reducible rfl⟩) hSS ?_
    simp only [Act.put, List.setIfInBounds_toArray, List.set_cons_zero, List.set_cons_succ]
    refine comeB2 (i := 2) (j := 10) (l1 := #[true, true, true, true, true, false, true, true, false, false, false, false]) (l2 := #[true, true, false, true, true, false, true, true, false, false, true, false]) (by rw [List.getElem?_toArray]; rfl) (by rw [List.getElem?_toArray]; rfl) (by kernel_rfl) rfl rfl (fun K' hK => ?_) (fun K' hK => ?_)
    · go_simp
      go_at_call 49; refine (HCR.out _ hbd).mono ?_; rintro e wc0 ⟨⟨a0, c0, rfl, hx0⟩, hs0, hb0⟩
      refine hK.out _ _ (Or.inr (HK.out _ hb0)) (fun hOr => ?_)
      replace hSS := hOr.resolve_left (by decide)
      try simp only [Act.put, List.setIfInBounds_toArray, List.set_cons_zero, List.set_cons_succ]
      refine comeB2 (i := 5) (j := 10) (l1 := #[true, true, true, true, true, true, true, true, false, false, false, false]) (l2 := #[true, true, true, true, true, false, true, true, false, false, true, false]) (by rw [List.getElem?_toArray]; rfl) (by rw [List.getElem?_toArray]; rfl) (by kernel_rfl) rfl rfl (fun K' hK => ?_) (fun K' hK => ?_)
      · go_simp
        go_at_call 50; refine (HCC.out _ hb0).mono ?_; rintro e wc1 ⟨⟨a1, c1, rfl, hx1⟩, hs1, hb1⟩
        have hx0_1 := hx0.below hs1
        refine hK.out _ _ (Or.inr (HK.out _ hb1)) (fun hOr => ?_)
        replace hSS := hOr.resolve_left (by decide)
        try simp only [Act.put, List.setIfInBounds_toArray, List.set_cons_zero, List.set_cons_succ]
        refine comeB2 (i := 8) (j := 10) (l1 := #[true, true, true, true, true, true, true, true, true, false, false, false]) (l2 := #[true, true, true, true, true, true, true, true, false, false, true, false]) (by rw [List.getElem?_toArray]; rfl) (by rw [List.getElem?_toArray]; rfl) (by kernel_rfl) rfl rfl (fun K' hK => ?_) (fun K' hK => ?_)
        · go_simp
          go_at_call 50; refine (HCE.out _ hb1).mono ?_; rintro e wc2 ⟨⟨a2, c2, rfl, hx2⟩, hs2, hb2⟩
          have hx0_1_2 := hx0_1.below hs2
          have hx1_2 := hx1.below hs2
          refine hK.out _ _ (Or.inr (HK.out _ hb2)) (fun hOr => ?_)
          replace hSS := hOr.resolve_left (by decide)
          try simp only [Act.put, List.setIfInBounds_toArray, List.set_cons_zero, List.set_cons_succ]
          refine pureB (i := 9) (d := (some 15)) (v := _) (l' := #[true, true, true, true, true, true, true, true, true, true, false, false]) (by rw [List.getElem?_toArray]; rfl) rfl (by kernel_rfl) (by kernel_rfl) (by kernel_rfl) (by decide) rfl (fun _ _ _ h => h) (Or.inl ⟨by rfl, fun w' _ => by go_simp; try with_reducible rfl⟩) (Or.inr hSS) ?_
          simp only [Act.put, List.setIfInBounds_toArray, List.set_cons_zero, List.set_cons_succ]
          have HFin := Lib.hid (cop_made hx0_1_2 hx1_2 hx2 hb2)
          refine comeB (i := 10) (l' := #[true, true, true, true, true, true, true, true, true, true, true, false]) (by rw [List.getElem?_toArray]; rfl) (by kernel_rfl) rfl (fun K' hK => ?_)
          go_simp
          have hbz3 : Below w1.heap.size w1 (wc2.alloc (.cells #[.slice none 0 0, .slice none 0 0, .slice none 0 0, .slice none 0 0] 26)) := hb2.alloc hb2.size _
          refine hK.out _ _ (Or.inr (HK.out _ hbz3)) (fun hOr => ?_)
          replace hSS := hOr.resolve_left (by decide)
          try simp only [Act.put, List.setIfInBounds_toArray, List.set_cons_zero, List.set_cons_succ]
          refine comeB (i := 11) (l' := #[true, true, true, true, true, true, true, true, true, true, true, true]) (by rw [List.getElem?_toArray]; rfl) (by kernel_rfl) rfl (fun K' hK => ?_)
          go_simp
          refine hK.out _ _ (Or.inl rfl) (fun _ => ?_)
          try simp only [Act.put, List.setIfInBounds_toArray, List.set_cons_zero, List.set_cons_succ]
          refine wpAnyB_done (by kernel_rfl) ?_ _
          exact copr_mk _ HFin.out (by kernel_rfl)
        · go_simp
          have hbz2 : Below w1.heap.size w1 (wc1.alloc (.cells #[.slice none 0 0, .slice none 0 0, .slice none 0 0, .slice none 0 0] 26)) := hb1.alloc hb1.size _
          have hqz2 : Bk (wc1.alloc (.cells #[.slice none 0 0, .slice none 0 0, .slice none 0 0, .slice none 0 0] 26)) (wc1).heap.size 26 #[.slice none 0 0, .slice none 0 0, .slice none 0 0, .slice none 0 0] := Bk.made wc1 26 #[.slice none 0 0, .slice none 0 0, .slice none 0 0, .slice none 0 0]
          have hsz2 : Below (wc1).heap.size (wc1) ((wc1).alloc (.cells #[.slice none 0 0, .slice none 0 0, .slice none 0 0, .slice none 0 0] 26)) := (Below.refl _ _).alloc (Nat.le_refl _) _
          have hx0_1_z2 := hx0_1.below hsz2
          have hx1_z2 := hx1.below hsz2
          refine hK.out _ _ (Or.inr (HK.out _ hbz2)) (fun hOr => ?_)
          replace hSS := hOr.resolve_left (by decide)
          try simp only [Act.put, List.setIfInBounds_toArray, List.set_cons_zero, List.set_cons_succ]
          refine comeB (i := 8) (l' := #[true, true, true, true, true, true, true, true, true, false, true, false]) (by rw [List.getElem?_toArray]; rfl) (by kernel_rfl) rfl (fun K' hK => ?_)
          go_simp
          go_at_call 50; refine (HCE.out _ hbz2).mono ?_; rintro e wc2y ⟨⟨a2y, c2y, rfl, hx2y⟩, hs2y, hb2y⟩
          have hx0_1_z2_2y := hx0_1_z2.below hs2y
          have hx1_z2_2y := hx1_z2.below hs2y
          have hqz2_2y := hqz2.below hs2y hqz2.lt
          refine hK.out _ _ (Or.inr (HK.out _ hb2y)) (fun hOr => ?_)
          replace hSS := hOr.resolve_left (by decide)
          try simp only [Act.put, List.setIfInBounds_toArray, List.set_cons_zero, List.set_cons_succ]
          refine pureB (i := 9) (d := (some 15)) (v := _) (l' := #[true, true, true, true, true, true, true, true, true, true, true, false]) (by rw [List.getElem?_toArray]; rfl) rfl (by kernel_rfl) (by kernel_rfl) (by kernel_rfl) (by decide) rfl (fun _ _ _ h => h) (Or.inl ⟨by rfl, fun w' _ => by go_simp; try with_reducible rfl⟩) (Or.inr hSS) ?_
          simp only [Act.put, List.setIfInBounds_toArray, List.set_cons_zero, List.set_cons_succ]
          refine comeB (i := 11) (l' := #[true, true, true, true, true, true, true, true, true, true, true, true]) (by rw [List.getElem?_toArray]; rfl) (by kernel_rfl) rfl (fun K' hK => ?_)
          have HFin := Lib.hid (cop_store hqz2_2y hx0_1_z2_2y hx1_z2_2y hx2y hb2y (hb1.size))
          have HQ0 := Lib.hid hqz2_2y
          obtain ⟨q0, q1, q2, q3, p0, p1, p2, p3⟩ := HQ4.out _ _ HQ0.out
          go_simp
          refine hK.out _ _ (Or.inl rfl) (fun _ => ?_)
          try simp only [Act.put, List.setIfInBounds_toArray, List.set_cons_zero, List.set_cons_succ]
          refine wpAnyB_done (by kernel_rfl) ?_ _
          exact copr_mk _ HFin.out (by kernel_rfl)
      · go_simp
        have hbz1 : Below w1.heap.size w1 (wc0.alloc (.cells #[.slice none 0 0, .slice none 0 0, .slice none 0 0, .slice none 0 0] 26)) := hb0.alloc hb0.size _
        have hqz1 : Bk (wc0.alloc (.cells #[.slice none 0 0, .slice none 0 0, .slice none 0 0, .slice none 0 0] 26)) (wc0).heap.size 26 #[.slice none 0 0, .slice none 0 0, .slice none 0 0, .slice none 0 0] := Bk.made wc0 26 #[.slice none 0 0, .slice none 0 0, .slice none 0 0, .slice none 0 0]
        have hsz1 : Below (wc0).heap.size (wc0) ((wc0).alloc (.cells #[.slice none 0 0, .slice none 0 0, .slice none 0 0, .slice none 0 0] 26)) := (Below.refl _ _).alloc (Nat.le_refl _) _
        have hx0_z1 := hx0.below hsz1
        refine hK.out _ _ (Or.inr (HK.out _ hbz1)) (fun hOr => ?_)
        replace hSS := hOr.resolve_left (by decide)
        try simp only [Act.put, List.setIfInBounds_toArray, List.set_cons_zero, List.set_cons_succ]
        refine comeB (i := 5) (l' := #[true, true, true, true, true, true, true, true, false, false, true, false]) (by rw [List.getElem?_toArray]; rfl) (by kernel_rfl) rfl (fun K' hK => ?_)
        go_simp
        go_at_call 50; refine (HCC.out _ hbz1).mono ?_; rintro e wc1y ⟨⟨a1y, c1y, rfl, hx1y⟩, hs1y, hb1y⟩
        have hx0_z1_1y := hx0_z1.below hs1y
        have hqz1_1y := hqz1.below hs1y hqz1.lt
        refine hK.out _ _ (Or.inr (HK.out _ hb1y)) (fun hOr => ?_)
        replace hSS := hOr.resolve_left (by decide)
        try simp only [Act.put, List.setIfInBounds_toArray, List.set_cons_zero, List.set_cons_succ]
        refine comeB (i := 8) (l' := #[true, true, true, true, true, true, true, true, true, false, true, false]) (by rw [List.getElem?_toArray]; rfl) (by kernel_rfl) rfl (fun K' hK => ?_)
        go_simp
        go_at_call 50; refine (HCE.out _ hb1y).mono ?_; rintro e wc2y ⟨⟨a2y, c2y, rfl, hx2y⟩, hs2y, hb2y⟩
        have hx0_z1_1y_2y := hx0_z1_1y.below hs2y
        have hx1y_2y := hx1y.below hs2y
        have hqz1_1y_2y := hqz1_1y.below hs2y hqz1_1y.lt
        refine hK.out _ _ (Or.inr (HK.out _ hb2y)) (fun hOr => ?_)
        replace hSS := hOr.resolve_left (by decide)
        try simp only [Act.put, List.setIfInBounds_toArray, List.set_cons_zero, List.set_cons_succ]
        refine pureB (i := 9) (d := (some 15)) (v := _) (l' := #[true, true, true, true, true, true, true, true, true, true, true, false]) (by rw [List.getElem?_toArray]; rfl) rfl (by kernel_rfl) (by kernel_rfl) (by kernel_rfl) (by decide) rfl (fun _ _ _ h => h) (Or.inl ⟨by rfl, fun w' _ => by go_simp; try with_reducible rfl⟩) (Or.inr hSS) ?_
        simp only [Act.put, List.setIfInBounds_toArray, List.set_cons_zero, List.set_cons_succ]
        refine comeB (i := 11) (l' := #[true, true, true, true, true, true, true, true, true, true, true, true]) (by rw [List.getElem?_toArray]; rfl) (by kernel_rfl) rfl (fun K' hK => ?_)
        have HFin := Lib.hid (cop_store hqz1_1y_2y hx0_z1_1y_2y hx1y_2y hx2y hb2y (hb0.size))
        have HQ0 := Lib.hid hqz1_1y_2y
        obtain ⟨q0, q1, q2, q3, p0, p1, p2, p3⟩ := HQ4.out _ _ HQ0.out
        go_simp
        refine hK.out _ _ (Or.inl rfl) (fun _ => ?_)
        try simp only [Act.put, List.setIfInBounds_toArray, List.set_cons_zero, List.set_cons_succ]
        refine wpAnyB_done (by kernel_rfl) ?_ _
        exact copr_mk _ HFin.out (by kernel_rfl)
    · go_simp
      have hbz0 : Below w1.heap.size w1 (w1.drew.alloc (.cells #[.slice none 0 0, .slice none 0 0, .slice none 0 0, .slice none 0 0] 26)) := hbd.alloc hbd.size _
      have hqz0 : Bk (w1.drew.alloc (.cells #[.slice none 0 0, .slice none 0 0, .slice none 0 0, .slice none 0 0] 26)) (w1).heap.size 26 #[.slice none 0 0, .slice none 0 0, .slice none 0 0, .slice none 0 0] := Bk.made w1.drew 26 #[.slice none 0 0, .slice none 0 0, .slice none 0 0, .slice none 0 0]
      have hsz0 : Below (w1.drew).heap.size (w1.drew) ((w1.drew).alloc (.cells #[.slice none 0 0, .slice none 0 0, .slice none 0 0, .slice none 0 0] 26)) := (Below.refl _ _).alloc (Nat.le_refl _) _
      refine hK.out _ _ (Or.inr (HK.out _ hbz0)) (fun hOr => ?_)
      replace hSS := hOr.resolve_left (by decide)
      try simp only [Act.put, List.setIfInBounds_toArray, List.set_cons_zero, List.set_cons_succ]
      refine comeB (i := 2) (l' := #[true, true, true, true, true, false, true, true, false, false, true, false]) (by rw [List.getElem?_toArray]; rfl) (by kernel_rfl) rfl (fun K' hK => ?_)
      go_simp
      go_at_call 49; refine (HCR.out _ hbz0).mono ?_; rintro e wc0y ⟨⟨a0y, c0y, rfl, hx0y⟩, hs0y, hb0y⟩
      have hqz0_0y := hqz0.below hs0y hqz0.lt
      refine hK.out _ _ (Or.inr (HK.out _ hb0y)) (fun hOr => ?_)
      replace hSS := hOr.resolve_left (by decide)
      try simp only [Act.put, List.setIfInBounds_toArray, List.set_cons_zero, List.set_cons_succ]
      refine comeB (i := 5) (l' := #[true, true, true, true, true, true, true, true, false, false, true, false]) (by rw [List.getElem?_toArray]; rfl) (by kernel_rfl) rfl (fun K' hK => ?_)
      go_simp
      go_at_call 50; refine (HCC.out _ hb0y).mono ?_; rintro e wc1y ⟨⟨a1y, c1y, rfl, hx1y⟩, hs1y, hb1y⟩
      have hx0y_1y := hx0y.below hs1y
      have hqz0_0y_1y := hqz0_0y.below hs1y hqz0_0y.lt
      refine hK.out _ _ (Or.inr (HK.out _ hb1y)) (fun hOr => ?_)
      replace hSS := hOr.resolve_left (by decide)
      try simp only [Act.put, List.setIfInBounds_toArray, List.set_cons_zero, List.set_cons_succ]
      refine comeB (i := 8) (l' := #[true, true, true, true, true, true, true, true, true, false, true, false]) (by rw [List.getElem?_toArray]; rfl) (by kernel_rfl) rfl (fun K' hK => ?_)
      go_simp
      go_at_call 50; refine (HCE.out _ hb1y).mono ?_; rintro e wc2y ⟨⟨a2y, c2y, rfl, hx2y⟩, hs2y, hb2y⟩
      have hx0y_1y_2y := hx0y_1y.below hs2y
      have hx1y_2y := hx1y.below hs2y
      have hqz0_0y_1y_2y := hqz0_0y_1y.below hs2y hqz0_0y_1y.lt
      refine hK.out _ _ (Or.inr (HK.out _ hb2y)) (fun hOr => ?_)
      replace hSS := hOr.resolve_left (by decide)
      try simp only [Act.put, List.setIfInBounds_toArray, List.set_cons_zero, List.set_cons_succ]
      refine pureB (i := 9) (d := (some 15)) (v := _) (l' := #[true, true, true, true, true, true, true, true, true, true, true, false]) (by rw [List.getElem?_toArray]; rfl) rfl (by kernel_rfl) (by kernel_rfl) (by kernel_rfl) (by decide) rfl (fun _ _ _ h => h) (Or.inl ⟨by rfl, fun w' _ => by go_simp; try with_reducible rfl⟩) (Or.inr hSS) ?_
      simp only [Act.put, List.setIfInBounds_toArray, List.set_cons_zero, List.set_cons_succ]
      refine comeB (i := 11) (l' := #[true, true, true, true, true, true, true, true, true, true, true, true]) (by rw [List.getElem?_toArray]; rfl) (by kernel_rfl) rfl (fun K' hK => ?_)
      have HFin := Lib.hid (cop_store hqz0_0y_1y_2y hx0y_1y_2y hx1y_2y hx2y hb2y (hbd.size))
      have HQ0 := Lib.hid hqz0_0y_1y_2y
      obtain ⟨q0, q1, q2, q3, p0, p1, p2, p3⟩ := HQ4.out _ _ HQ0.out
      go_simp
      refine hK.out _ _ (Or.inl rfl) (fun _ => ?_)
      try simp only [Act.put, List.setIfInBounds_toArray, List.set_cons_zero, List.set_cons_succ]
      refine wpAnyB_done (by kernel_rfl) ?_ _
      exact copr_mk _ HFin.out (by kernel_rfl)
  case rest1 =>
    rintro a' w2 ⟨f, b, ⟨a1, c1, a2, c2, a4, c4, hk, o1, o2, o4, hBb, hB2⟩, rfl⟩
    obtain ⟨k0, k1, k2, k3⟩ := HK.out _ hB2
    have HL0 := Lib.hid (show CopL t w1 w1.heap.size b 0 none 0 0 w2 from ⟨a1, c1, a2, c2, a4, c4, hk, o1, o2, by rw [List.take_zero]; exact Gth.nil _ _, o4, hBb, hB2⟩)
    clear hk o1 o2 o4 hBb hB2
    go_wp2_with fail
    clear k0 k1 k2 k3
    go_loopw [19] (fun i wr => ∃ (k : Nat) (sa : Option Addr) (sc : Nat), k ≤ t.ns.length ∧ i = .int .i64 k ∧ Hid (CopL t w1 w1.heap.size b k sa k sc wr)) (fun i _ => t.ns.length - (intOf i).toNat)
    case atStart => exact ⟨0, none, 0, Nat.zero_le _, rfl, HL0⟩
    case round =>
      obtain ⟨k, sa, sc, hkN, rfl, hJ⟩ := hrel
      have hJ2 := hJ.out
      obtain ⟨a1, c1, a2, c2, a4, c4, hk, o1, o2, o3, o4, hBb, hB⟩ := hJ2
      by_cases hlt : k < t.ns.length
      · have d0 : decide (k < t.ns.length) = true := by rw [decide_eq_true_iff]; exact hlt
        have n0 : (k : Int) < (t.ns.length : Int) := by omega
        obtain ⟨l, hl⟩ : ∃ l, t.ns[k]? = some l := ⟨_, List.getElem?_eq_getElem hlt⟩
        have hlk : (t.ns.take k).length = k := by rw [List.length_take]; omega
        obtain ⟨_, _, zN, _⟩ := HT.out _ hB
        obtain ⟨na', nc', en, _, zN⟩ := zN
        injection en with en1 en2 en3
        subst en1
        clear en2 en3
        obtain ⟨g, o, qa, qc, rfl, y1, hz⟩ := zN k l hl
        have hll := LR.out l (List.mem_of_getElem? hl)
        have HCL := Lib.hid (fun (W : World) (h : Below wr.heap.size wr W) => (CloneI_any l _ W (hz.below h) (Nat.le_trans hll (by omega))).mono fun e w' x => show (∃ a' c', e = .returned (.slice a' l.length c') ∧ OwnV w' 3 w1.heap.size (.slice a' l.length c') l.length (l.map (Value.int .i64))) ∧ Below wr.heap.size wr w' from ⟨by obtain ⟨a, c, e1, e2⟩ := x.1; exact ⟨a, c, e1, e2.mono (Nat.le_trans hB.size h.size)⟩, h.trans (x.2.mono h.size)⟩)
        have HS2 := Lib.hid (fun (W : World) (h : Below wr.heap.size wr W) => show W.cell? ⟨b, 2, none⟩ = some (.slice sa k sc) ∧ W.frozen? ⟨b, 2, none⟩ = false from by
          have q := hk.below h hk.lt
          exact ⟨by rw [q.cell]; rfl, q.free 2⟩)
        have HPU := Lib.hid (fun (W : World) (h : Below wr.heap.size wr W) (qa : Option Addr) (qc : Nat) (hown : OwnV W 3 w1.heap.size (.slice qa l.length qc) l.length (l.map (Value.int .i64))) (z : Nat) (hz : Bk W z 23 #[.slice qa l.length qc]) => Gth.push_run (o3.below h) hown hz (by rw [hlk]; omega) (Nat.le_trans hB.size h.size))
        have HFIN := Lib.hid (fun (W w5 : World) (g5 cap5 : Nat) (h : Below wr.heap.size wr W) (hg : W.grownBy w5 (Value.slice sa k sc).ownBlock) (hgth : Gth w5 w1.heap.size (.slice (some ⟨g5, 0, none⟩) (t.ns.take k ++ [l]).length cap5) (t.ns.take k ++ [l])) => cop_more (b := b) (l := l) hJ.out hlk hl h hg hgth)
        have HLK := Lib.hid hlk
        have HTK := Lib.hid hl
        have hL1 : (t.ns.take k ++ [l]).length = k + 1 := by rw [List.length_append, hlk]; rfl
        rw [hL1] at HFIN
        have HL1 := Lib.hid hL1
        clear hz zN hk o1 o2 o3 o4 hlk hl hJ hL1
        go_wp2_with fail
        refine wp_cutX (fun a a' w' => (∃ z0 z1 z2 z3 z4 z5 z6 : Value, a' = ((((((a.put (some 23) z0).put (some 24) z1).put (some 25) z2).put (some 26) z3).put (some 27) z4).put (some 28) z5).put (some 29) z6) ∧ ∃ sa' sc', CopL t w1 w1.heap.size b (k + 1) sa' (k + 1) sc' w') ?reg5 ?rest5
        case reg5 =>
          refine region_B (S := fun w' : World => (w'.cell? ⟨b, 2, none⟩ = some (.slice sa k sc) ∧ w'.frozen? ⟨b, 2, none⟩ = false)) 7 (by kernel_rfl) (HS2.out _ (Below.refl _ _).drew) (fun hSS => ?_)
          show wpAnyB _ _ _ _ _ 7 8 #[false, false, false, false, false, false, false, false] _ _
          refine pureB (i := 0) (d := (some 23)) (v := _) (l' := #[true, false, false, false, false, false, false, false]) (by rw [List.getElem?_toArray]; rfl) rfl (by kernel_rfl) (by kernel_rfl) (by kernel_rfl) (by decide) rfl (fun _ _ _ h => h) (Or.inl ⟨by rfl, fun w' _ => by go_simp; try with_reducible rfl⟩) (Or.inr hSS) ?_
          simp only [Act.put, List.setIfInBounds_toArray, List.set_cons_zero, List.set_cons_succ]
          refine takeB (i := 1) (d := (some 24)) (v := _) (l' := #[true, true, false, false, false, false, false, false]) (by rw [List.getElem?_toArray]; rfl) rfl (by kernel_rfl) (by kernel_rfl) (by kernel_rfl) (by kernel_rfl) (by kernel_rfl) rfl (fun _ _ _ h => h) (Or.inl ⟨by rfl, fun w' hSw => by (try dsimp only at hSw); go_simp; try with_reducible rfl⟩) hSS ?_
          simp only [Act.put, List.setIfInBounds_toArray, List.set_cons_zero, List.set_cons_succ]
          refine pureB (i := 2) (d := (some 25)) (v := _) (l' := #[true, true, true, false, false, false, false, false]) (by rw [List.getElem?_toArray]; rfl) rfl (by kernel_rfl) (by kernel_rfl) (by kernel_rfl) (by decide) rfl (fun _ _ _ h => h) (Or.inl ⟨by rfl, fun w' _ => by go_simp; try with_reducible rfl⟩) (Or.inr hSS) ?_
          simp only [Act.put, List.setIfInBounds_toArray, List.set_cons_zero, List.set_cons_succ]
          refine comeB (i := 3) (l' := #[true, true, true, true, false, false, false, false]) (by rw [List.getElem?_toArray]; rfl) (by kernel_rfl) rfl (fun K' hK => ?_)
          go_simp
          go_at_call 50; refine (HCL.out _ (Below.refl _ _).drew).mono ?_; rintro e w3 ⟨⟨qa', qc', rfl, hown⟩, hs3⟩
          refine hK.out _ _ (Or.inr (HS2.out _ hs3)) (fun hOr => ?_)
          replace hSS := hOr.resolve_left (by decide)
          try simp only [Act.put, List.setIfInBounds_toArray, List.set_cons_zero, List.set_cons_succ]
          refine comeB (i := 4) (l' := #[true, true, true, true, true, false, false, false]) (by rw [List.getElem?_toArray]; rfl) (by kernel_rfl) rfl (fun K' hK => ?_)
          go_simp
          have hs4 : Below wr.heap.size wr (w3.alloc (.cells #[.slice qa' l.length qc'] 23)) := hs3.alloc hs3.size _
          refine hK.out _ _ (Or.inr (HS2.out _ hs4)) (fun hOr => ?_)
          replace hSS := hOr.resolve_left (by decide)
          try simp only [Act.put, List.setIfInBounds_toArray, List.set_cons_zero, List.set_cons_succ]
          refine comeB (i := 5) (l' := #[true, true, true, true, true, true, false, false]) (by rw [List.getElem?_toArray]; rfl) (by kernel_rfl) rfl (fun K' hK => ?_)
          obtain ⟨v5, w5, hrun, hgth, hgr⟩ := HPU.out _ hs4 _ _ (hown.below ((Below.refl w3.heap.size w3).alloc (Nat.le_refl _) _)) _ (Bk.made w3 23 #[.slice qa' l.length qc'])
          obtain ⟨g5, cap5, rfl⟩ := hgth.form
          rw [HL1.out] at hgth hrun
          have HF5 := HFIN.out _ _ _ _ hs4 hgr hgth
          refine step_append rfl _ _ 24 rfl _ _ rfl rfl _ _ hrun ?_
          refine hK.out _ _ (Or.inr HF5.1) (fun hOr => ?_)
          replace hSS := hOr.resolve_left (by decide)
          try simp only [Act.put, List.setIfInBounds_toArray, List.set_cons_zero, List.set_cons_succ]
          refine pureB (i := 6) (d := (some 29)) (v := _) (l' := #[true, true, true, true, true, true, true, false]) (by rw [List.getElem?_toArray]; rfl) rfl (by kernel_rfl) (by kernel_rfl) (by kernel_rfl) (by decide) rfl (fun _ _ _ h => h) (Or.inl ⟨by rfl, fun w' _ => by go_simp; try with_reducible rfl⟩) (Or.inr hSS) ?_
          simp only [Act.put, List.setIfInBounds_toArray, List.set_cons_zero, List.set_cons_succ]
          refine comeB (i := 7) (l' := #[true, true, true, true, true, true, true, true]) (by rw [List.getElem?_toArray]; rfl) (by kernel_rfl) rfl (fun K' hK => ?_)
          go_simp
          refine hK.out _ _ (Or.inl rfl) (fun _ => ?_)
          try simp only [Act.put, List.setIfInBounds_toArray, List.set_cons_zero, List.set_cons_succ]
          refine wpAnyB_done (by kernel_rfl) ?_ _
          exact ⟨⟨_, _, _, _, _, _, _, rfl⟩, _, _, HF5.2⟩
        case rest5 =>
          rintro a' w' ⟨⟨z0, z1, z2, z3, z4, z5, z6, rfl⟩, sa', sc', hnew⟩
          have HN := Lib.hid hnew
          clear hnew
          try simp only [Act.put, List.setIfInBounds_toArray, List.set_cons_zero, List.set_cons_succ]
          go_wp2_with fail
          exact ⟨⟨k + 1, sa', sc', by omega, by go_num, HN⟩, by simp [intOf]; omega⟩
      · obtain rfl : k = t.ns.length := by omega
        have d0 : decide (t.ns.length < t.ns.length) = false := by simp
        have kO := HK1.out _ hB
        have hTk : t.ns.take t.ns.length = t.ns := List.take_length
        rw [hTk] at o3
        have b0 := hk.cell 0
        have b1 := hk.cell 1
        have b2 := hk.cell 2
        have b3 := hk.cell 3
        have d1 := kO.cell 0
        have d2 := kO.cell 1
        have d3 := kO.cell 2
        have d4 := kO.cell 3
        have f0 := kO.free 0
        have f1 := kO.free 1
        have f2 := kO.free 2
        have f3 := kO.free 3
        simp only [List.getElem?_toArray, List.getElem?_cons_zero, List.getElem?_cons_succ] at b0 b1 b2 b3 d1 d2 d3 d4
        have HO := Lib.hid (cop_end (t := t) (w := w) HZ1.out kO ⟨o1, o2, o3, o4⟩)
        have HBB := Lib.hid (HB1.out.trans (hB.mono HB1.out.size))
        clear hJ hk o1 o2 o3 o4 kO hTk hB
        go_wp2_with fail
        obtain ⟨hr, hO⟩ := HO.out
        have g0 := hr.cell 0
        have g1 := hr.cell 1
        have g2 := hr.cell 2
        have g3 := hr.cell 3
        simp only [List.getElem?_toArray, List.getElem?_cons_zero, List.getElem?_cons_succ] at g0 g1 g2 g3
        refine bodyPost_ret (v := .agg #[.slice a1 t.rs.length c1, .slice a2 t.cs.length c2, .slice sa t.ns.length sc, .slice a4 t.es.length c4]) ?_ rfl ⟨⟨_, _, _, _, rfl, hO⟩, ?_⟩
        · clear b0 b1 b2 b3 d1 d2 d3 d4
          simp [results, Tryd.results27, go_sem, g0, g1, g2, g3]
        · exact (((HBB.out.setCell (by simp) _).setCell (by simp) _).setCell (by simp) _).setCell (by simp) _
end Go.Proofs.YtagbpkabfjnplaaDoor
