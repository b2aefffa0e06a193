/- What is known of a grammar, as it lies in memory; the contract of named. -/
import Derived.Test.YtiinkhmgemoamaaDoorPai
import Derived.Maps.OwnSet
import Derived.Laws.Strings
import Derived.StringKeys
namespace Go.Proofs.YtiinkhmgemoamaaDoor
open Go Go.RowKit Nu Go.Maps Go.WideMaps
set_option maxRecDepth 100000

theorem law : Keyed Tryd.prog 9 := string_keyed Tryd.underlying9
theorem zeroI (w : World) : (zeroValue 3).run Tryd.prog w = .ok (.int .i64 0) w := by kernel_rfl
namespace Nu
/-- The names' places. -/
def mapF : Nat → List Rl → DataW Unit
 | _, [] => .map []
 | k, r :: l => (mapF (k + 1) l).put (.string r.name.data.toList) (.lit (.int .i64 (k : Int)))
theorem nmd_fnd {rs : List Rl} {s k : Int} {nm : ByteArray} {i : Nat} (h : nmd rs s k nm = some i) : (fnd rs nm).getD 0 = i := by
 unfold nmd at h
 cases hf : fnd rs nm with
 | none => rw [hf] at h; simp at h
 | some j =>
  rw [hf] at h
  dsimp only at h
  split at h <;> split at h <;> first | (injection h with h) | cases h
theorem mapF_is : ∀ (l : List Rl) (k : Nat), IsMap (mapF k l)
 | [], _ => isMap_empty
 | _ :: l, k => (mapF_is l (k + 1)).put _ _
theorem key_eq {a b : ByteArray} : a.toList = b.toList ↔ (Lit.string a.data.toList) = Lit.string b.data.toList := by
 rw [ByteArray.toList_eq, ByteArray.toList_eq]
 constructor
 · intro h; rw [h]
 · intro h; injection h
theorem mapF_has (x : ByteArray) : ∀ (l : List Rl) (k : Nat), Maps.has (mapF k l) (.string x.data.toList) = (fndF x k l).isSome
 | [], _ => rfl
 | r :: l, k => by
  simp only [mapF, fndF]
  by_cases h : r.name.toList = x.toList
  · rw [if_pos h, key_eq.1 h, has_put_same (mapF_is l (k + 1)) (by simp [WideAt.IsKeyLit])]; rfl
  · rw [if_neg h, has_put_other (fun e => h (key_eq.2 e.symm)), mapF_has x l (k + 1)]
theorem mapF_at (x : ByteArray) : ∀ (l : List Rl) (k i : Nat), fndF x k l = some i → (mapF k l).atKey (.string x.data.toList) (.lit (.int .i64 0)) = .lit (.int .i64 (i : Int))
 | [], _, _, h => by simp [fndF] at h
 | r :: l, k, i, hi => by
  simp only [mapF]
  simp only [fndF] at hi
  by_cases h : r.name.toList = x.toList
  · rw [if_pos h] at hi
    injection hi with hi
    rw [key_eq.1 h, atKey_put_same (mapF_is l (k + 1)) (by simp [WideAt.IsKeyLit]), hi]
  · rw [if_neg h] at hi
    rw [atKey_put_other (fun e => h (key_eq.2 e.symm))]
    exact mapF_at x l (k + 1) i hi
end Nu
theorem map_below {w w' : World} {b n B : Nat} {D : DataW Unit} (h : w.ownsMap Tryd.prog 9 (plainElem Tryd.prog 3) b n D) (hb : Below B w w') (hB : b < B) : w'.ownsMap Tryd.prog 9 (plainElem Tryd.prog 3) b n D := by
 obtain ⟨es, cl, h1, h2⟩ := h
 exact ⟨es, cl, by rw [hb.block b hB]; exact h1, h2⟩
/-- Bools in cells. -/
def bools (e : List Bool) : Array Value := (e.map Value.bool).toArray
theorem bools_get {e : List Bool} {i : Nat} (h : i < e.length) : (bools e)[i]? = some (.bool (e.getD i false)) := by
 unfold bools
 rw [List.getElem?_toArray, List.getElem?_map, List.getElem?_eq_getElem h, List.getD_eq_getElem?_getD, List.getElem?_eq_getElem h]
 rfl
theorem bools_set (e : List Bool) (i : Nat) (b : Bool) : (bools e).setIfInBounds i (.bool b) = bools (e.set i b) := by
 unfold bools
 rw [List.setIfInBounds_toArray, List.map_set]
/-- The block that an address names. -/
def blk : Option Addr → Nat
 | some a => a.block
 | none => 0
/-- The cells of rules whose nodes lie in W1. -/
def RowC (W1 : World) (rs : List Nu.Rl) (cs : Array Value) : Prop := ∀ (i : Nat) (r : Nu.Rl), rs[i]? = some r → ∃ v0 v1 v2 v3 v4, cs[i * 10]? = some (.string r.name) ∧ cs[i * 10 + 1]? = some (.int .u8 r.sort) ∧
 cs[i * 10 + 2]? = some v0 ∧ cs[i * 10 + 3]? = some v1 ∧ cs[i * 10 + 4]? = some v2 ∧ cs[i * 10 + 5]? = some v3 ∧ cs[i * 10 + 6]? = some v4 ∧
 cs[i * 10 + 7]? = some (.int .i64 r.p0) ∧ cs[i * 10 + 8]? = some (.int .i64 r.p1) ∧ cs[i * 10 + 9]? = some (.int .i64 r.p2) ∧
 Nd.At W1 r.body (.agg #[v0, v1, v2, v3, v4]) ∧ (0 ≤ r.sort ∧ r.sort < 256) ∧ r.name.size ≤ 140737488351232
/-- A row of its own holds the rules rs, whose nodes lie in W1. -/
def RowK (W1 w : World) (rs : List Nu.Rl) (ra : Option Addr) : Prop :=
 (rs = [] ∧ blk ra < w.heap.size) ∨ ∃ rb cs, ra = some ⟨rb, 0, none⟩ ∧ W1.heap.size ≤ rb ∧ Bk w rb 38 cs ∧ RowC W1 rs cs
theorem RowK.keep {W1 w w' : World} {rs : List Nu.Rl} {ra : Option Addr} (h : RowK W1 w rs ra) (hs : w.heap.size ≤ w'.heap.size) (hk : ∀ rb cs, rb = blk ra → W1.heap.size ≤ rb → Bk w rb 38 cs → Bk w' rb 38 cs) : RowK W1 w' rs ra := by
 rcases h with ⟨h1, h2⟩ | ⟨rb, cs, rfl, h1, h2, h3⟩
 · exact .inl ⟨h1, Nat.lt_of_lt_of_le h2 hs⟩
 · exact .inr ⟨rb, cs, rfl, h1, hk rb cs rfl h1 h2, h3⟩
theorem RowK.lt {W1 w : World} {rs : List Nu.Rl} {ra : Option Addr} (h : RowK W1 w rs ra) : blk ra < w.heap.size := by
 rcases h with ⟨_, h2⟩ | ⟨rb, cs, rfl, _, h2, _⟩
 · exact h2
 · exact h2.lt
theorem RowK.at {W1 w : World} {rs : List Nu.Rl} {ra : Option Addr} (h : RowK W1 w rs ra) (hb : Below W1.heap.size W1 w) : RuL w rs ra := by
 intro i r hi
 rcases h with ⟨rfl, _⟩ | ⟨rb, cs, rfl, _, h2, h3⟩
 · simp at hi
 · obtain ⟨v0, v1, v2, v3, v4, a0, a1, a2, a3, a4, a5, a6, a7, a8, a9, hA, hs, hn⟩ := h3 i r hi
   refine ⟨rb, 0, rfl, v0, v1, v2, v3, v4, ?_, ?_, ?_, ?_, ?_, ?_, ?_, ?_, ?_, ?_, Nd.At.below hb _ hA, hs, hn⟩ <;> rw [h2.cell, Nat.zero_add] <;> assumption
/-- What is known: the rules rs at ra, whose nodes lie in W1 already; the names' places; which may be empty. -/
structure Kn (W1 w : World) (kb mb eb : Nat) (ra : Option Addr) (rc : Nat) (rs : List Nu.Rl) (e : List Bool) : Prop where
 b : Below W1.heap.size W1 w
 row : RowK W1 w rs ra
 len : rs.length ≤ rc ∧ rs.length ≤ 1000
 k : Bk w kb 132 #[.slice ra rs.length rc, .map (some mb), .slice (some ⟨eb, 0, none⟩) rs.length rs.length]
 m : w.ownsMap Tryd.prog 9 (plainElem Tryd.prog 3) mb rs.length (mapF 0 rs)
 ev : Bk w eb 4 (bools e)
 el : e.length = rs.length
 lo : W1.heap.size ≤ kb ∧ W1.heap.size ≤ mb ∧ W1.heap.size ≤ eb
theorem Kn.below {W1 w w' : World} {kb mb eb : Nat} {ra : Option Addr} {rc : Nat} {rs : List Nu.Rl} {e : List Bool} {B : Nat} (h : Kn W1 w kb mb eb ra rc rs e) (hb : Below B w w') (hB : kb < B ∧ mb < B ∧ eb < B ∧ blk ra < B) : Kn W1 w' kb mb eb ra rc rs e :=
 ⟨h.b.trans (hb.mono (by have := h.lo; omega)), h.row.keep hb.size (fun rb cs e0 _ hk => hk.below hb (by omega)), h.len, h.k.below hb hB.1, map_below h.m hb hB.2.1, h.ev.below hb hB.2.2.1, h.el, h.lo⟩
theorem Kn.lt {W1 w : World} {kb mb eb : Nat} {ra : Option Addr} {rc : Nat} {rs : List Nu.Rl} {e : List Bool} (h : Kn W1 w kb mb eb ra rc rs e) : kb < w.heap.size ∧ mb < w.heap.size ∧ eb < w.heap.size ∧ blk ra < w.heap.size := ⟨h.k.lt, h.m.lt, h.ev.lt, h.row.lt⟩
theorem Kn.r {W1 w : World} {kb mb eb : Nat} {ra : Option Addr} {rc : Nat} {rs : List Nu.Rl} {e : List Bool} (h : Kn W1 w kb mb eb ra rc rs e) : RuL w rs ra := h.row.at h.b
theorem Kn.alloc {W1 w : World} {kb mb eb : Nat} {ra : Option Addr} {rc : Nat} {rs : List Nu.Rl} {e : List Bool} (h : Kn W1 w kb mb eb ra rc rs e) (o : Obj) : Kn W1 (w.alloc o) kb mb eb ra rc rs e :=
 h.below ((Below.refl _ w).alloc (Nat.le_refl _) o) h.lt
theorem Kn.sort {W1 w : World} {kb mb eb : Nat} {ra : Option Addr} {rc : Nat} {rs : List Nu.Rl} {e : List Bool} (h : Kn W1 w kb mb eb ra rc rs e) {i : Nat} (hi : i < rs.length) :
 ∃ g o, ra = some ⟨g, o, none⟩ ∧ w.cell? ⟨g, o + i * 10 + 1, none⟩ = some (.int .u8 (sortAt rs i)) := by
 obtain ⟨r, hr⟩ : ∃ r, rs[i]? = some r := ⟨_, List.getElem?_eq_getElem hi⟩
 obtain ⟨g, o, ha, v0, v1, v2, v3, v4, a0, a1, _⟩ := h.r i r hr
 refine ⟨g, o, ha, ?_⟩
 have e : sortAt rs i = r.sort := by unfold sortAt; rw [hr]
 rw [e]
 exact a1
/-- A name is looked up. -/
theorem look_name {w : World} {mb n : Nat} {rs : List Nu.Rl} (h : w.ownsMap Tryd.prog 9 (plainElem Tryd.prog 3) mb n (mapF 0 rs)) (nm : ByteArray) (hlen : nm.size ≤ maxLen) :
 ∃ c : Int, (Instr.lookup 130 (.map (some mb)) (.string nm) true).run Tryd.prog w = .ok (.tuple #[.int .i64 c, .bool (fnd rs nm).isSome]) w ∧ ∀ i, fnd rs nm = some i → c = i := by
 obtain ⟨v, ps, hrun, hv⟩ := h.look_ok law Tryd.underlying130 (zeroI w) (plainElem_int Tryd.underlying3 (by decide)) (keyOf_string_mk Tryd.underlying9 hlen)
 obtain ⟨c, rfl, hc, _⟩ := plainElem_int_inv Tryd.underlying3 hv
 rw [mapF_has nm rs 0] at hrun
 refine ⟨c, hrun, fun i hi => ?_⟩
 have hc := congrArg Prod.fst hc
 dsimp only at hc
 rw [mapF_at nm rs 0 i hi] at hc
 injection hc with hc
 injection hc with _ hc
 exact hc.symm
set_option maxHeartbeats 2000000 in
theorem named_any (t : Nd.T) (v : Value) (s : Int) (W1 w : World) (kb mb eb : Nat) (ra : Option Addr) (rc : Nat) (rs : List Nu.Rl) (e : List Bool) (h : Kn W1 w kb mb eb ra rc rs e) (hA : Nd.At w t v) :
 Calls Tryd.prog 83 #[.pointer (some ⟨kb, 0, none⟩), v, .int .u8 s] w fun e w' => e = .returned (.tuple #[.int .i64 (((fnd rs t.name).getD 0 : Nat) : Int), .bool (nmd rs s t.kind t.name).isSome]) ∧ Below w.heap.size w w' := by
 obtain ⟨sa, sc, ba, bc, rfl, _, hnm, _⟩ := hA.form
 generalize t.kind = k at *
 generalize t.name = nm at *
 generalize t.text = tx at *
 generalize t.set.length = SL at *
 generalize t.subs.length = SN at *
 have hlen : nm.size ≤ maxLen := by unfold maxLen; omega
 have hm : ∀ o, (w.alloc o).ownsMap Tryd.prog 9 (plainElem Tryd.prog 3) mb rs.length (mapF 0 rs) := fun o => (h.alloc o).m
 have hk : ∀ o, (w.alloc o).cell? ⟨kb, 1, none⟩ = some (.map (some mb)) := fun o => by have := (h.alloc o).k.cell 1; simpa using this
 have hk0 : ∀ o, (w.alloc o).cell? ⟨kb, 0, none⟩ = some (.slice ra rs.length rc) := fun o => by have := (h.alloc o).k.cell 0; simpa using this
 have hlook := fun o => look_name (hm o).drew nm hlen
 have hlr := h.len.2
 have n1 : (rs.length : Int) ≤ 9223372036854775807 := by omega
 cases hf : fnd rs nm with
 | none =>
  have hn : nmd rs s k nm = none := by unfold nmd; rw [hf]
  rw [hn]
  rw [show (Option.none : Option Nat).getD 0 = 0 from rfl, show (Option.none : Option Nat).isSome = false from rfl]
  rw [hf] at hlook
  clear hA hk0 hn
  go_enter Tryd.func83, Tryd.ntmps83
  have hk1 := hk (.cells #[.int .u8 k, .string nm, .string tx, .slice sa SL sc, .slice ba SN bc] 34)
  obtain ⟨c, hrun, _⟩ := hlook (.cells #[.int .u8 k, .string nm, .string tx, .slice sa SL sc, .slice ba SN bc] 34)
  replace hrun : (Instr.lookup _ _ _ _).run _ _ = .ok (.tuple #[.int .i64 c, .bool false]) _ := hrun
  go_wp2_with fail
  all_goals go_region
  all_goals go_wp2_with fail
  all_goals go_ret2
  all_goals exact ⟨rfl, ((Below.refl _ w).alloc (Nat.le_refl _) _).drew⟩
 | some i =>
  have hi := fnd_lt hf
  have hn : nmd rs s k nm = if k = 5 then (if sortAt rs i = 0 then some i else none) else (if sortAt rs i ≠ 0 ∧ s ≠ 0 then some i else none) := by unfold nmd; rw [hf]
  rw [hn]
  rw [hf] at hlook
  obtain ⟨g, o, rfl, hs0⟩ := h.sort hi
  have hs1 : ∀ o', (w.alloc o').cell? ⟨g, o + i * 10 + 1, none⟩ = some (.int .u8 (sortAt rs i)) := fun o' => by rw [← hs0]; exact ((Below.refl _ w).alloc (Nat.le_refl _) o').cell (p := ⟨g, o + i * 10 + 1, none⟩) (World.block_lt_of_cell? _ _ hs0)
  generalize sortAt rs i = q at *
  have p0 : (i : Int) < (rs.length : Int) := by omega
  obtain ⟨X, hX⟩ : ∃ x, (q == 0) = x := ⟨_, rfl⟩
  obtain ⟨Y, hY⟩ : ∃ x, (k == 5) = x := ⟨_, rfl⟩
  obtain ⟨Z, hZ⟩ : ∃ x, (s == 0) = x := ⟨_, rfl⟩
  have e1 : (if k = 5 then (if q = 0 then some i else none) else (if q ≠ 0 ∧ s ≠ 0 then some i else none)).isSome = (if Y then X else (!X && !Z)) := by
   rw [← hX, ← hY, ← hZ]
   by_cases h1 : k = 5 <;> by_cases h2 : q = 0 <;> by_cases h3 : s = 0 <;> simp [h1, h2, h3]
  rw [show (some i).getD 0 = i from rfl]
  have hgo : ∀ (b : Bool), (if Y then X else (!X && !Z)) = b → Calls Tryd.prog 83 #[.pointer (some ⟨kb, 0, none⟩), .agg #[.int .u8 k, .string nm, .string tx, .slice sa SL sc, .slice ba SN bc], .int .u8 s] w fun e w' => e = .returned (.tuple #[.int .i64 (i : Int), .bool b]) ∧ Below w.heap.size w w' := by
   intro b hb
   have hZ2 : (s != 0) = !Z := by rw [← hZ]; rfl
   clear hA hn e1 hs0
   go_enter Tryd.func83, Tryd.ntmps83
   have hk1 := hk (.cells #[.int .u8 k, .string nm, .string tx, .slice sa SL sc, .slice ba SN bc] 34)
   have hk2 := hk0 (.cells #[.int .u8 k, .string nm, .string tx, .slice sa SL sc, .slice ba SN bc] 34)
   have hs2 := hs1 (.cells #[.int .u8 k, .string nm, .string tx, .slice sa SL sc, .slice ba SN bc] 34)
   obtain ⟨c, hrun, hc⟩ := hlook (.cells #[.int .u8 k, .string nm, .string tx, .slice sa SL sc, .slice ba SN bc] 34)
   obtain rfl := hc i rfl
   replace hrun : (Instr.lookup _ _ _ _).run _ _ = .ok (.tuple #[.int .i64 (i : Int), .bool true]) _ := hrun
   go_wp2_with fail
   all_goals go_region
   cases X <;> cases Y <;> cases Z <;> simp only [Bool.not_true, Bool.not_false] at hZ2 <;> cases hb
   all_goals go_wp2_with fail
   all_goals go_ret2
   all_goals exact ⟨rfl, ((Below.refl _ w).alloc (Nat.le_refl _) _).drew⟩
  rw [e1]
  exact hgo _ rfl
end Go.Proofs.YtiinkhmgemoamaaDoor
