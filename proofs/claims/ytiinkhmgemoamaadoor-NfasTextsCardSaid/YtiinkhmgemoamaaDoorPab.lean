/- Nulls: rules as they lie in memory; which of them may be empty, which reach which: plain functions. Nothing of the program's code stands here. -/
import Derived.Test.YtiinkhmgemoamaaDoorPaa
namespace Go.Proofs.YtiinkhmgemoamaaDoor.Nu
open Go Go.RowKit Nd

/-- A rule. -/
structure Rl where
 name : ByteArray
 sort : Int
 body : Nd.T
 p0 : Int
 p1 : Int
 p2 : Int

/-- The rule r lies at ⟨b, o⟩. -/
def RuC (w : World) (r : Rl) (b o : Nat) : Prop := ∃ v0 v1 v2 v3 v4, w.cell? ⟨b, o, none⟩ = some (.string r.name) ∧ w.cell? ⟨b, o + 1, none⟩ = some (.int .u8 r.sort) ∧
 w.cell? ⟨b, o + 2, none⟩ = some v0 ∧ w.cell? ⟨b, o + 3, none⟩ = some v1 ∧ w.cell? ⟨b, o + 4, none⟩ = some v2 ∧ w.cell? ⟨b, o + 5, none⟩ = some v3 ∧ w.cell? ⟨b, o + 6, none⟩ = some v4 ∧
 w.cell? ⟨b, o + 7, none⟩ = some (.int .i64 r.p0) ∧ w.cell? ⟨b, o + 8, none⟩ = some (.int .i64 r.p1) ∧ w.cell? ⟨b, o + 9, none⟩ = some (.int .i64 r.p2) ∧
 At w r.body (.agg #[v0, v1, v2, v3, v4]) ∧ (0 ≤ r.sort ∧ r.sort < 256) ∧ r.name.size ≤ 140737488351232
/-- The rules rs lie one behind the other at a. -/
def RuL (w : World) (rs : List Rl) (a : Option Addr) : Prop := ∀ (i : Nat) (r : Rl), rs[i]? = some r → ∃ b o, a = some ⟨b, o, none⟩ ∧ RuC w r b (o + i * 10)
theorem RuC.below {w w' : World} (hb : Below w.heap.size w w') {r : Rl} {b o : Nat} : RuC w r b o → RuC w' r b o
 | ⟨v0, v1, v2, v3, v4, a0, a1, a2, a3, a4, a5, a6, a7, a8, a9, h, h1, h2⟩ =>
  ⟨v0, v1, v2, v3, v4, cell_keeps hb a0, cell_keeps hb a1, cell_keeps hb a2, cell_keeps hb a3, cell_keeps hb a4, cell_keeps hb a5, cell_keeps hb a6, cell_keeps hb a7, cell_keeps hb a8, cell_keeps hb a9, At.below hb _ h, h1, h2⟩
theorem RuL.below {w w' : World} (hb : Below w.heap.size w w') {rs : List Rl} {a : Option Addr} (h : RuL w rs a) : RuL w' rs a := fun i r hi => by
 obtain ⟨b, o, ha, hc⟩ := h i r hi
 exact ⟨b, o, ha, hc.below hb⟩


def fndF (nm : ByteArray) : Nat → List Rl → Option Nat
 | _, [] => none
 | k, r :: l => if r.name.toList = nm.toList then some k else fndF nm (k + 1) l
def fnd (rs : List Rl) (nm : ByteArray) : Option Nat := fndF nm 0 rs
theorem fndF_ge (nm : ByteArray) : ∀ (l : List Rl) (k i : Nat), fndF nm k l = some i → k ≤ i ∧ i < k + l.length
 | [], _, _, h => by simp [fndF] at h
 | r :: l, k, i, h => by
  simp only [fndF] at h
  split at h
  · injection h with h; subst h; simp
  · have := fndF_ge nm l (k + 1) i h
    simp only [List.length_cons]; omega
theorem fnd_lt {rs : List Rl} {nm : ByteArray} {i : Nat} (h : fnd rs nm = some i) : i < rs.length := by
 have := fndF_ge nm rs 0 i h; omega
def sortAt (rs : List Rl) (i : Nat) : Int := match rs[i]? with
 | some r => r.sort
 | none => 0
/-- The rule that a node of kind k names in a rule of sort s. -/
def nmd (rs : List Rl) (s k : Int) (nm : ByteArray) : Option Nat :=
 match fnd rs nm with
 | none => none
 | some i => if k = 5 then (if sortAt rs i = 0 then some i else none) else (if sortAt rs i ≠ 0 ∧ s ≠ 0 then some i else none)
theorem nmd_lt {rs : List Rl} {s k : Int} {nm : ByteArray} {i : Nat} (h : nmd rs s k nm = some i) : i < rs.length := by
 unfold nmd at h
 cases hf : fnd rs nm with
 | none => rw [hf] at h; simp at h
 | some j =>
  rw [hf] at h
  have := fnd_lt hf
  dsimp only at h
  split at h <;> split at h <;> first | (injection h with h; omega) | cases h


mutual
/-- May a node of a rule of sort s be empty, by the rules e that may? -/
def thr (rs : List Rl) (s : Int) (e : List Bool) : T → Bool
 | .mk k n x _ b => if k = 1 then thrA rs s e b else if k = 0 ∨ k = 4 then thrO rs s e b else if k = 2 ∨ k = 3 ∨ k = 7 then true else
  if k = 8 then decide (x.toList = []) else if k = 5 ∨ k = 6 then (match nmd rs s k n with | some i => e.getD i false | none => false) else false
def thrA (rs : List Rl) (s : Int) (e : List Bool) : List T → Bool
 | [] => true
 | t :: r => thr rs s e t && thrA rs s e r
def thrO (rs : List Rl) (s : Int) (e : List Bool) : List T → Bool
 | [] => false
 | t :: r => thr rs s e t || thrO rs s e r
end
mutual
/-- Which rules a node reaches at once. -/
def rch (rs : List Rl) (s : Int) (e : List Bool) : T → List Nat
 | .mk k n _ _ b => if k = 1 then rchA rs s e b else if k = 0 ∨ k = 4 then rchO rs s e b else if k = 2 ∨ k = 3 ∨ k = 7 then rchO rs s e b else
  if k = 8 then [] else if k = 5 ∨ k = 6 then (match nmd rs s k n with | some i => [i] | none => []) else []
def rchA (rs : List Rl) (s : Int) (e : List Bool) : List T → List Nat
 | [] => []
 | t :: r => rch rs s e t ++ (if thr rs s e t then rchA rs s e r else [])
def rchO (rs : List Rl) (s : Int) (e : List Bool) : List T → List Nat
 | [] => []
 | t :: r => rch rs s e t ++ rchO rs s e r
end
mutual
theorem rch_len (rs : List Rl) (s : Int) (e : List Bool) : ∀ t : T, (rch rs s e t).length ≤ count t
 | .mk k n x y b => by
  have h1 := rchA_len rs s e b
  have h2 := rchO_len rs s e b
  simp only [rch, count]
  split
  · omega
  · split
    · omega
    · split
      · omega
      · split
        · simp
        · split
          · split
            · simp
            · simp
          · simp
theorem rchA_len (rs : List Rl) (s : Int) (e : List Bool) : ∀ b : List T, (rchA rs s e b).length ≤ countL b
 | [] => by simp [rchA]
 | t :: r => by
  have h1 := rch_len rs s e t
  have h2 := rchA_len rs s e r
  simp only [rchA, countL, List.length_append]
  split
  · omega
  · simp; omega
theorem rchO_len (rs : List Rl) (s : Int) (e : List Bool) : ∀ b : List T, (rchO rs s e b).length ≤ countL b
 | [] => by simp [rchO]
 | t :: r => by
  have h1 := rch_len rs s e t
  have h2 := rchO_len rs s e r
  simp only [rchO, countL, List.length_append]
  omega
end
mutual
theorem rch_lt (rs : List Rl) (s : Int) (e : List Bool) : ∀ t : T, ∀ i ∈ rch rs s e t, i < rs.length
 | .mk k n x y b => by
  have h1 := rchA_lt rs s e b
  have h2 := rchO_lt rs s e b
  simp only [rch]
  split
  · exact h1
  · split
    · exact h2
    · split
      · exact h2
      · split
        · simp
        · split
          · split
            · rename_i i hi
              intro j hj
              rw [List.mem_singleton.1 hj]
              exact nmd_lt hi
            · simp
          · simp
theorem rchA_lt (rs : List Rl) (s : Int) (e : List Bool) : ∀ b : List T, ∀ i ∈ rchA rs s e b, i < rs.length
 | [] => by simp [rchA]
 | t :: r => by
  have h1 := rch_lt rs s e t
  have h2 := rchA_lt rs s e r
  simp only [rchA]
  intro i hi
  rcases List.mem_append.1 hi with hi | hi
  · exact h1 i hi
  · split at hi
    · exact h2 i hi
    · simp at hi
theorem rchO_lt (rs : List Rl) (s : Int) (e : List Bool) : ∀ b : List T, ∀ i ∈ rchO rs s e b, i < rs.length
 | [] => by simp [rchO]
 | t :: r => by
  have h1 := rch_lt rs s e t
  have h2 := rchO_lt rs s e r
  simp only [rchO]
  intro i hi
  rcases List.mem_append.1 hi with hi | hi
  · exact h1 i hi
  · exact h2 i hi
end


/-- One round over the rules. -/
def pass (rs : List Rl) : Nat → List Bool → Bool → List Rl → List Bool × Bool
 | _, e, g, [] => (e, g)
 | k, e, g, r :: l => if e.getD k false = false ∧ thr rs r.sort e r.body = true then pass rs (k + 1) (e.set k true) true l else pass rs (k + 1) e g l
def grow (rs : List Rl) : Nat → List Bool → List Bool
 | 0, e => e
 | f + 1, e => if (pass rs 0 e false rs).2 then grow rs f (pass rs 0 e false rs).1 else (pass rs 0 e false rs).1
/-- How many are not so. -/
def lack : List Bool → Nat
 | [] => 0
 | b :: l => (if b then 0 else 1) + lack l
theorem lack_le : ∀ l : List Bool, lack l ≤ l.length
 | [] => by simp [lack]
 | b :: l => by have := lack_le l; simp only [lack, List.length_cons]; split <;> omega
theorem lack_set : ∀ (l : List Bool) (k : Nat), k < l.length → l.getD k false = false → lack (l.set k true) + 1 = lack l
 | [], _, h, _ => by simp at h
 | b :: l, 0, _, h => by simp at h; subst h; simp [lack]; omega
 | b :: l, k + 1, hk, h => by
  have := lack_set l k (by simpa using hk) (by simpa using h)
  simp only [List.set_cons_succ, lack]
  omega
theorem pass_len (rs : List Rl) : ∀ (l : List Rl) (k : Nat) (e : List Bool) (g : Bool), (pass rs k e g l).1.length = e.length
 | [], _, _, _ => rfl
 | r :: l, k, e, g => by
  simp only [pass]
  split
  · rw [pass_len rs l]; simp
  · exact pass_len rs l _ _ _
theorem pass_lack (rs : List Rl) : ∀ (l : List Rl) (k : Nat) (e : List Bool) (g : Bool), k + l.length ≤ e.length →
 lack (pass rs k e g l).1 ≤ lack e ∧ (g = false → (pass rs k e g l).2 = true → lack (pass rs k e g l).1 < lack e)
 | [], _, _, _, _ => by simp only [pass]; exact ⟨Nat.le_refl _, fun h1 h2 => by rw [h1] at h2; cases h2⟩
 | r :: l, k, e, g, h => by
  simp only [List.length_cons] at h
  simp only [pass]
  split
  · rename_i hc
    have h1 := lack_set e k (by omega) hc.1
    have h2 := (pass_lack rs l (k + 1) (e.set k true) true (by simp; omega)).1
    exact ⟨by omega, fun _ _ => by omega⟩
  · exact pass_lack rs l (k + 1) e g (by omega)
theorem grow_len (rs : List Rl) : ∀ (f : Nat) (e : List Bool), (grow rs f e).length = e.length
 | 0, _ => rfl
 | f + 1, e => by
  simp only [grow]
  split
  · rw [grow_len rs f, pass_len]
  · rw [pass_len]
/-- Which rules may be empty. -/
def emp (rs : List Rl) : List Bool := grow rs (rs.length + 1) (List.replicate rs.length false)
theorem emp_len (rs : List Rl) : (emp rs).length = rs.length := by unfold emp; rw [grow_len]; simp


def stp (rs : List Rl) : List (List Nat) := rs.map fun r => rch rs r.sort (emp rs) r.body
/-- What is marked, gone on from all of l. -/
def spr (ss : List (List Nat)) : Nat → List Nat → List Bool → List Bool
 | _, [], m => m
 | 0, t :: l, m => if m.getD t false then spr ss 0 l m else m
 | f + 1, t :: l, m => if m.getD t false then spr ss (f + 1) l m else spr ss (f + 1) l (spr ss f (ss.getD t []) (m.set t true))
theorem spr_len (ss : List (List Nat)) : ∀ (f : Nat) (l : List Nat) (m : List Bool), (spr ss f l m).length = m.length
 | 0, [], m => by simp only [spr]
 | f + 1, [], m => by simp only [spr]
 | 0, t :: l, m => by
  simp only [spr]
  split
  · exact spr_len ss 0 l m
  · rfl
 | f + 1, t :: l, m => by
  simp only [spr]
  split
  · exact spr_len ss (f + 1) l m
  · rw [spr_len ss (f + 1) l, spr_len ss f]; simp
theorem spr_nil (ss : List (List Nat)) (f : Nat) (m : List Bool) : spr ss f [] m = m := by cases f <;> simp only [spr]
/-- A list of marks is at most as much as another one. -/
def Le (a b : List Bool) : Prop := ∀ i : Nat, a.getD i false = true → b.getD i false = true
theorem Le.refl (a : List Bool) : Le a a := fun _ h => h
theorem Le.trans {a b c : List Bool} (h : Le a b) (k : Le b c) : Le a c := fun i hi => k i (h i hi)
theorem Le.set (a : List Bool) (k : Nat) : Le a (a.set k true) := fun i hi => by
 rw [List.getD_eq_getElem?_getD] at hi ⊢
 rw [List.getElem?_set]
 split
 · split
   · rfl
   · rename_i h1 h2; subst h1; rw [List.getElem?_eq_none (by omega)] at hi; simp at hi
 · exact hi
theorem lack_mono : ∀ (a b : List Bool), a.length = b.length → Le a b → lack b ≤ lack a
 | [], [], _, _ => Nat.le_refl _
 | [], _ :: _, h, _ => by simp at h
 | _ :: _, [], h, _ => by simp at h
 | x :: a, y :: b, h, hl => by
  have h0 := hl 0
  have h1 := lack_mono a b (by simpa using h) (fun i hi => by simpa using hl (i + 1) (by simpa using hi))
  simp only [List.getD_cons_zero] at h0
  simp only [lack]
  cases x <;> cases y <;> simp at h0 ⊢ <;> omega
theorem spr_le (ss : List (List Nat)) : ∀ (f : Nat) (l : List Nat) (m : List Bool), Le m (spr ss f l m)
 | 0, [], m => by rw [spr_nil]; exact Le.refl _
 | f + 1, [], m => by rw [spr_nil]; exact Le.refl _
 | 0, t :: l, m => by
  simp only [spr]
  split
  · exact spr_le ss 0 l m
  · exact Le.refl _
 | f + 1, t :: l, m => by
  simp only [spr]
  split
  · exact spr_le ss (f + 1) l m
  · exact ((Le.set m t).trans (spr_le ss f _ _)).trans (spr_le ss (f + 1) l _)
def rea (rs : List Rl) : List (List Bool) := (stp rs).map fun l => spr (stp rs) rs.length l (List.replicate rs.length false)
end Go.Proofs.YtiinkhmgemoamaaDoor.Nu
