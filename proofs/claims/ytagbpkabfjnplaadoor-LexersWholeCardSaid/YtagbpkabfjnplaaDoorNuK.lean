/- A block that is known whole. -/
import Derived.Test.YtagbpkabfjnplaaDoorNdM
import Derived.Test.YtagbpkabfjnplaaDoorProg
import Derived.WalkSpells
import Derived.Lib.Hide
import Derived.WalkKit
import Derived.Below
import Derived.Laws.AppendOwn
import Derived.RangeFuncOwn
import Derived.RangeFuncFrom
namespace Go.Proofs.YtagbpkabfjnplaaDoor
open Go Go.RowKit


/-- Block b is just the cells cs of type t, none of them frozen. -/
def Bk (w : World) (b : Nat) (t : TypeId) (cs : Array Value) : Prop := w.heap[b]? = some (.cells cs t (0, 0))
theorem Bk.lt {w : World} {b : Nat} {t : TypeId} {cs : Array Value} (h : Bk w b t cs) : b < w.heap.size := by unfold Bk at h; exact (Array.getElem?_eq_some_iff.1 h).1
theorem Bk.cell {w : World} {b : Nat} {t : TypeId} {cs : Array Value} (h : Bk w b t cs) (i : Nat) : w.cell? ⟨b, i, none⟩ = cs[i]? := by unfold Bk at h; simp [World.cell?, h]
theorem Bk.free {w : World} {b : Nat} {t : TypeId} {cs : Array Value} (h : Bk w b t cs) (i : Nat) : w.frozen? ⟨b, i, none⟩ = false := by unfold Bk at h; simp [World.frozen?, h]
theorem Bk.made (w : World) (t : TypeId) (cs : Array Value) : Bk (w.alloc (.cells cs t)) w.heap.size t cs := by
  unfold Bk
  show (w.heap.push (Obj.cells cs t))[w.heap.size]? = _
  simp
theorem Bk.alloc {w : World} {b : Nat} {t : TypeId} {cs : Array Value} (h : Bk w b t cs) (o : Obj) : Bk (w.alloc o) b t cs := by
  have hl := h.lt
  unfold Bk at h ⊢
  rw [Below.heap_alloc _ _ _ hl]; exact h
theorem Bk.set {w : World} {b : Nat} {t : TypeId} {cs : Array Value} (h : Bk w b t cs) (i : Nat) (v : Value) : Bk (w.setCell ⟨b, i, none⟩ v) b t (cs.setIfInBounds i v) := by
  unfold Bk at h ⊢
  simp [World.setCell, Array.getElem?_modify, h]
theorem Bk.other {w : World} {b : Nat} {t : TypeId} {cs : Array Value} (h : Bk w b t cs) (a : Addr) (v : Value) (hne : b ≠ a.block) : Bk (w.setCell a v) b t cs := by
  unfold Bk at h ⊢
  rw [Below.heap_setCell _ _ _ _ hne]; exact h
theorem Bk.below {w w' : World} {b : Nat} {t : TypeId} {cs : Array Value} {B : Nat} (h : Bk w b t cs) (hb : Below B w w') (hB : b < B) : Bk w' b t cs := by
  unfold Bk at h ⊢
  rw [hb.block b hB]; exact h
theorem Bk.grown {w w' : World} {b : Nat} {t : TypeId} {cs : Array Value} {row : Option Nat} (h : Bk w b t cs) (hg : w.grownBy w' row) (hr : some b ≠ row) : Bk w' b t cs := by
  have hl := h.lt
  unfold Bk at h ⊢
  rw [hg.block b hl hr]; exact h
theorem Bk.ne {w : World} {b c : Nat} {t u : TypeId} {cs ds : Array Value} (h : Bk w b t cs) (k : Bk w c u ds) (hne : t ≠ u) : b ≠ c := by
  rintro rfl
  unfold Bk at h k
  rw [h] at k
  injection k with k
  injection k with _ k
  exact hne k
theorem Bk.kept {A B : World} {b : Nat} {t : TypeId} {cs : Array Value} {row : Option Nat} (h : Bk A b t cs) (hg : A.grownBy B row) (hr : ∀ r, row = some r → ∃ o : Obj, A.heap[r]? = some o ∧ o.isCells = false) : Bk B b t cs := by
  refine h.grown hg ?_
  intro e
  obtain ⟨o, ho, hc⟩ := hr b e.symm
  unfold Bk at h
  rw [h] at ho
  injection ho with ho
  subst ho
  simp [Obj.isCells] at hc
end Go.Proofs.YtagbpkabfjnplaaDoor
