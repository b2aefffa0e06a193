/- The words as they lie in memory; what Scan's loop keeps there. -/
import Derived.Test.YtokpknjmcegkaaaDoorScL
namespace Go.Proofs.YtokpknjmcegkaaaDoor
open Go Go.RowKit Ru
set_option maxRecDepth 100000

/-- A word's cells: sv is its ranges' slice. -/
def wcells (l : List UInt8) (sv : Value) (d : Sc.W) : List Value := [.int .u8 d.kind, .string ⟨d.text.toArray⟩, sv, .int .i64 d.pos, .int .i64 (place (l.take d.pos)).1, .int .i64 (place (l.take d.pos)).2]
def wordsCells (l : List UInt8) (svs : List Value) (ds : List Sc.W) : List Value := (List.zipWith (wcells l) svs ds).flatten
theorem wordsCells_snoc (l : List UInt8) (svs : List Value) (ds : List Sc.W) (sv : Value) (d : Sc.W) (h : svs.length = ds.length) : wordsCells l (svs ++ [sv]) (ds ++ [d]) = wordsCells l svs ds ++ wcells l sv d := by
  unfold wordsCells
  rw [List.zipWith_append h]
  simp
theorem wordsCells_len (l : List UInt8) : ∀ (svs : List Value) (ds : List Sc.W), svs.length = ds.length → (wordsCells l svs ds).length = ds.length * 6
  | [], [], _ => rfl
  | sv :: svs, d :: ds, h => by
    have := wordsCells_len l svs ds (by simpa using h)
    unfold wordsCells at this ⊢
    simp only [List.zipWith_cons_cons, List.flatten_cons, List.length_append, List.length_cons, this]
    have e : (wcells l sv d).length = 6 := rfl
    omega
  | [], _ :: _, h => by simp at h
  | _ :: _, [], h => by simp at h
theorem wordsCells_at (l : List UInt8) : ∀ (svs : List Value) (ds : List Sc.W) (i j : Nat) (sv : Value) (d : Sc.W), svs.length = ds.length → svs[i]? = some sv → ds[i]? = some d → j < 6 → (wordsCells l svs ds)[i * 6 + j]? = (wcells l sv d)[j]?
  | [], _, _, _, _, _, _, h, _, _ => by simp at h
  | _ :: _, [], _, _, _, _, h, _, _, _ => by simp at h
  | s0 :: svs, d0 :: ds, 0, j, sv, d, hl, h1, h2, hj => by
    simp at h1 h2
    subst h1 h2
    have e : (wcells l s0 d0).length = 6 := rfl
    unfold wordsCells
    simp only [List.zipWith_cons_cons, List.flatten_cons, Nat.zero_mul, Nat.zero_add]
    rw [List.getElem?_append_left (by omega)]
  | s0 :: svs, d0 :: ds, i + 1, j, sv, d, hl, h1, h2, hj => by
    have := wordsCells_at l svs ds i j sv d (by simpa using hl) (by simpa using h1) (by simpa using h2) hj
    have e : (wcells l s0 d0).length = 6 := rfl
    unfold wordsCells at this ⊢
    simp only [List.zipWith_cons_cons, List.flatten_cons]
    rw [List.getElem?_append_right (by omega), e, show (i + 1) * 6 + j - 6 = i * 6 + j by omega]
    exact this

theorem own_ne {w : World} {B b : Nat} {e t : TypeId} {size n : Nat} {v : Value} {xs : List Value} {cs : Array Value} (h : w.ownsRow B e size v n xs) (hb : Bk w b t cs) (hne : e ≠ t) : some b ≠ v.ownBlock := by
  rcases h.2 with ⟨rfl, _⟩ | ⟨g, cap, cur, rfl, _, hh, _⟩
  · simp [Value.ownBlock]
  · intro he
    have : b = g := by simpa [Value.ownBlock] using he
    subst this
    exact Bk.ne (t := e) hh hb hne rfl
theorem own_grown {w w' : World} {B : Nat} {e : TypeId} {size n : Nat} {v : Value} {xs : List Value} {row : Option Nat} (h : w.ownsRow B e size v n xs) (hg : w.grownBy w' row) (hr : ∀ b, row = some b → ∃ t cs, Bk w b t cs ∧ e ≠ t) : w'.ownsRow B e size v n xs := by
  refine h.kept hg ?_
  cases hv : v.ownBlock with
  | none => exact .inl rfl
  | some g =>
    refine .inr fun e1 => ?_
    obtain ⟨t, cs, h1, h2⟩ := hr g e1.symm
    exact own_ne h h1 h2 hv.symm
theorem Row.grown {w w' : World} {B : Nat} {e : TypeId} {size n : Nat} {v : Value} {xs : List Value} {row : Option Nat} (h : Row w B e size v n xs) (hg : w.grownBy w' row) (hr : ∀ b, row = some b → ∃ t cs, Bk w b t cs ∧ e ≠ t) : Row w' B e size v n xs := by
  refine ⟨h.1, ?_⟩
  rcases h.2 with h1 | ⟨g, c, cur, h1, h2, h3, h4⟩
  · exact .inl h1
  · refine .inr ⟨g, c, cur, h1, h2, ?_, h4⟩
    rw [hg.block g (Array.getElem?_eq_some_iff.1 h3).1 ?_]
    · exact h3
    · intro e1
      obtain ⟨t, cs, k1, k2⟩ := hr g e1.symm
      exact Bk.ne (t := e) h3 k1 k2 rfl
theorem own_row {w : World} {B b : Nat} {e : TypeId} {size n : Nat} {v : Value} {xs : List Value} (h : w.ownsRow B e size v n xs) (hb : v.ownBlock = some b) : ∃ cs, Bk w b e cs := by
  rcases h.2 with ⟨rfl, _⟩ | ⟨g, cap, cur, rfl, _, hh, _⟩
  · simp [Value.ownBlock] at hb
  · have : g = b := by simpa [Value.ownBlock] using hb
    subst this
    exact ⟨cur, hh⟩

/-- What Scan's loop keeps in memory. -/
def Mem (s : ByteArray) (w : World) (bS bL : Nat) (v : Value) (svs : List Value) (ds : List Sc.W) (wr : World) (q : Nat) : Prop :=
  Bk wr w.heap.size 28 #[.int .i64 0, .int .i64 0, .int .i64 0, .int .i64 0] ∧ Pl s wr bS bL q ∧ svs.length = ds.length ∧ wr.ownsRow (w.heap.size + 1) 38 6 v ds.length (wordsCells s.data.toList svs ds) ∧
  (∀ (i : Nat) sv d, svs[i]? = some sv → ds[i]? = some d → SetAt wr (w.heap.size + 1) sv d.set) ∧ Below w.heap.size w wr
theorem Mem.below {s : ByteArray} {w : World} {bS bL : Nat} {v : Value} {svs : List Value} {ds : List Sc.W} {wr w1 : World} {q : Nat} (h : Mem s w bS bL v svs ds wr q) (hb : Below wr.heap.size wr w1) : Mem s w bS bL v svs ds w1 q := by
  obtain ⟨h1, h2, h3, h4, h5, h6⟩ := h
  exact ⟨h1.below hb h1.lt, h2.below hb, h3, own_below h4 hb, fun i sv d k1 k2 => (h5 i sv d k1 k2).below hb, h6.trans (hb.mono h6.size)⟩
theorem Mem.told {s : ByteArray} {w : World} {bS bL : Nat} {v : Value} {svs : List Value} {ds : List Sc.W} {wr w1 : World} {q k : Nat} (h : Mem s w bS bL v svs ds wr q) (hL : w.heap.size < bL) (hg : wr.grownBy w1 (some bL)) (hP : Pl s w1 bS bL k) : Mem s w bS bL v svs ds w1 k := by
  obtain ⟨h1, h2, h3, h4, h5, h6⟩ := h
  have hBL := h2.2.2.2.2
  have hr : ∀ (e : TypeId), e ≠ 26 → ∀ b, some bL = some b → ∃ t cs, Bk wr b t cs ∧ e ≠ t := by
    intro e he b hb
    injection hb with hb
    subst hb
    exact ⟨_, _, hBL, he⟩
  refine ⟨h1.grown hg (by intro e; injection e with e; omega), hP, h3, own_grown h4 hg (hr _ (by decide)), fun i sv d k1 k2 => Row.grown (h5 i sv d k1 k2) hg (hr _ (by decide)), h6.grown hg h6.size ?_⟩
  intro b hb
  injection hb with hb
  omega
theorem Mem.push {s : ByteArray} {w : World} {bS bL : Nat} {v v' : Value} {svs : List Value} {ds : List Sc.W} {wr w1 : World} {q : Nat} {sv : Value} {d : Sc.W} (h : Mem s w bS bL v svs ds wr q) (hset : SetAt wr (w.heap.size + 1) sv d.set)
    (hown : w1.ownsRow (w.heap.size + 1) 38 6 v' (ds.length + 1) (wordsCells s.data.toList svs ds ++ wcells s.data.toList sv d)) (hg : wr.grownBy w1 v.ownBlock) : Mem s w bS bL v' (svs ++ [sv]) (ds ++ [d]) w1 q := by
  obtain ⟨h1, h2, h3, h4, h5, h6⟩ := h
  have hr : ∀ (e : TypeId), e ≠ 38 → ∀ b, v.ownBlock = some b → ∃ t cs, Bk wr b t cs ∧ e ≠ t := by
    intro e he b hb
    obtain ⟨cs, hcs⟩ := own_row h4 hb
    exact ⟨_, _, hcs, he⟩
  refine ⟨h1.grown hg ?_, h2.grown hg ?_ ?_, by simp [h3], ?_, ?_, h6.grown hg h6.size ?_⟩
  · intro e
    have := (h4.lt _ e.symm).1
    omega
  · exact own_ne h4 h2.2.2.2.1 (by decide)
  · exact own_ne h4 h2.2.2.2.2 (by decide)
  · rw [wordsCells_snoc _ _ _ _ _ h3, List.length_append]
    exact hown
  · intro i sv2 d2 k1 k2
    by_cases hi : i < ds.length
    · rw [List.getElem?_append_left (by omega)] at k1 k2
      exact Row.grown (h5 i sv2 d2 k1 k2) hg (hr _ (by decide))
    · rw [List.getElem?_append_right (by omega)] at k1 k2
      have hi2 : i - ds.length = 0 := by
        rcases Nat.eq_zero_or_pos (i - ds.length) with h0 | h0
        · exact h0
        · rw [List.getElem?_eq_none (by simp; omega)] at k2; cases k2
      rw [h3, hi2] at k1
      rw [hi2] at k2
      simp at k1 k2
      subst k1 k2
      exact Row.grown hset hg (hr _ (by decide))
  · intro b hb
    have := (h4.lt _ hb).1
    omega
/-- The words ds of the text l at v. -/
def Words (w : World) (B : Nat) (v : Value) (l : List UInt8) (ds : List Sc.W) : Prop :=
  ∃ svs : List Value, svs.length = ds.length ∧ Row w B 38 6 v ds.length (wordsCells l svs ds) ∧ ∀ (i : Nat) sv d, svs[i]? = some sv → ds[i]? = some d → SetAt w B sv d.set
theorem Words.below {w w' : World} {B : Nat} {v : Value} {l : List UInt8} {ds : List Sc.W} (h : Words w B v l ds) (hb : Below w.heap.size w w') : Words w' B v l ds := by
  obtain ⟨svs, h1, h2, h3⟩ := h
  exact ⟨svs, h1, h2.below hb, fun i sv d k1 k2 => (h3 i sv d k1 k2).below hb⟩
/-- What Scan answers. -/
def Told (s : ByteArray) (w : World) (e : Ending) (w' : World) : Prop :=
  (∃ c p, Sc.scanL s.data.toList = .err c p ∧ p ≤ s.size ∧ e = .returned (.tuple #[.slice none 0 0, .agg #[.int .i64 c, .int .i64 p, .int .i64 (place (s.data.toList.take p)).1, .int .i64 (place (s.data.toList.take p)).2]]) ∧ Below w.heap.size w w') ∨
  (∃ ds v, Sc.scanL s.data.toList = .ok ds ∧ e = .returned (.tuple #[v, .agg #[.int .i64 0, .int .i64 0, .int .i64 0, .int .i64 0]]) ∧ Words w' (w.heap.size + 1) v s.data.toList ds ∧ Below w.heap.size w w')
end Go.Proofs.YtokpknjmcegkaaaDoor
