/- Rules copied, with one more behind them; a node of two. -/
import Derived.Test.YthlfahghoinocaaCk8
import Derived.Test.YthlfahghoinocaaCkV
import Derived.Test.YthlfahghoinocaaNuB
import Derived.Test.YthlfahghoinocaaCkq
import Derived.Test.YthlfahghoinocaaNuW
namespace Go.Proofs.Ythlfahghoinocaa
open Go Go.RowKit Go.Shelf Ck Nu
set_option maxRecDepth 100000

namespace Ck
theorem rulP_leM (rs : List Rl) (i : Nat) (r : Rl) (h : Nd.count r.body ≤ 600) : (rulP rs i r).length ≤ 2404 := by
  have h1 := nmR_count r.body
  have h2 := noneP_len rs i (nam r.body)
  have h3 := sortP_len rs r.sort i (nam r.body)
  have h4 := lpN_le (shE rs r) r.body
  have hif : ∀ (c : Prop) [Decidable c] (x : Pr), (if c then [x] else []).length ≤ 1 := fun c _ x => by split <;> simp
  have a2 := hif (r.sort = 0 ∧ reaAt rs i i = true) ⟨4, i, r.name⟩
  have a3 := hif (reaAt (nmR rs) i i = true) ⟨5, i, r.name⟩
  have a4 := hif ((r.sort = 1 ∨ r.sort = 3) ∧ (emp rs).getD i false = true) ⟨7, i, r.name⟩
  unfold rulP
  simp only [List.length_append, List.length_replicate]
  cases fnd rs r.name with
  | none => simp only [List.length_cons, List.length_nil]; omega
  | some k =>
    have a1 := hif (k < i) ⟨1, i, r.name⟩
    dsimp only
    omega
theorem rulesF_boundM (rs : List Rl) : ∀ (l : List Rl) (k : Nat), (∀ r ∈ l, Nd.count r.body ≤ 600) → (rulesF rs k l).length ≤ l.length * 2404
  | [], _, _ => by simp [rulesF]
  | r :: l, k, h => by
    have h1 := rulP_leM rs k r (h r (by simp))
    have h2 := rulesF_boundM rs l (k + 1) (fun q hq => h q (by simp [hq]))
    simp only [rulesF, List.length_append, List.length_cons]
    omega
end Ck
/-- A rule, cell by cell. -/
def rlV (x : Rl) (sa : Option Addr) (sl sc : Nat) (ba : Option Addr) (bl bc : Nat) : List Value := [.string x.name, .int .u8 x.sort, .int .u8 x.body.kind, .string x.body.name, .string x.body.text, .slice sa sl sc, .slice ba bl bc, .int .i64 x.p0, .int .i64 x.p1, .int .i64 x.p2]
theorem RowC_more {W : World} {rs : List Rl} {cs : Array Value} {x : Rl} {sa ba : Option Addr} {sl sc bl bc : Nat} (h : RowC W rs cs) (hd : ∀ (k : Nat) (u : Value), (rlV x sa sl sc ba bl bc)[k]? = some u → cs[rs.length * 10 + k]? = some u)
    (hA : Nd.At W x.body (.agg #[.int .u8 x.body.kind, .string x.body.name, .string x.body.text, .slice sa sl sc, .slice ba bl bc])) (hs : 0 ≤ x.sort ∧ x.sort < 256) (hn : x.name.size ≤ 140737488351232) : RowC W (rs ++ [x]) cs := fun i r hr => by
  by_cases hi : i < rs.length
  · rw [List.getElem?_append_left hi] at hr
    exact h i r hr
  · rw [List.getElem?_append_right (by omega)] at hr
    have h0 : i - rs.length = 0 := by
      rcases Nat.eq_zero_or_pos (i - rs.length) with h | h
      · exact h
      · rw [List.getElem?_eq_none (by simp; omega)] at hr; cases hr
    rw [h0] at hr
    injection hr with hr
    subst hr
    obtain rfl : i = rs.length := by omega
    exact ⟨_, _, _, _, _, hd 0 _ rfl, hd 1 _ rfl, hd 2 _ rfl, hd 3 _ rfl, hd 4 _ rfl, hd 5 _ rfl, hd 6 _ rfl, hd 7 _ rfl, hd 8 _ rfl, hd 9 _ rfl, hA, hs, hn⟩
/-- A row's cells, as rules. -/
theorem row_of {W w5 : World} {base n : Nat} {v' : Value} {rs : List Rl} {xs : List Value} (hown : w5.ownsRow base 44 10 v' n xs) (hn : 0 < n) (hx2 : ∀ cs : Array Value, (∀ (j : Nat) (u : Value), xs[j]? = some u → cs[j]? = some u) → RowC W rs cs) :
    ∃ g cap cur, v' = .slice (some ⟨g, 0, none⟩) n cap ∧ base ≤ g ∧ Bk w5 g 44 cur ∧ n ≤ cap ∧ RowC W rs cur := by
  rcases hown.2 with ⟨_, h0⟩ | ⟨g, cap, cur, rfl, hgb, hcur, hcap, _, _, htk⟩
  · omega
  · refine ⟨g, cap, cur, rfl, hgb, hcur, hcap, hx2 cur fun j u hj => ?_⟩
    rw [← htk, List.getElem?_take] at hj
    split at hj
    · simpa using hj
    · cases hj
theorem rows_more {W : World} {rs : List Rl} {xs : List Value} {x : Rl} {sa ba : Option Addr} {sl sc bl bc : Nat} (hxl : xs.length = rs.length * 10) (hx2 : ∀ cs : Array Value, (∀ (j : Nat) (u : Value), xs[j]? = some u → cs[j]? = some u) → RowC W rs cs)
    (hA : Nd.At W x.body (.agg #[.int .u8 x.body.kind, .string x.body.name, .string x.body.text, .slice sa sl sc, .slice ba bl bc])) (hs : 0 ≤ x.sort ∧ x.sort < 256) (hn : x.name.size ≤ 140737488351232) (cs : Array Value) (h : ∀ (j : Nat) (u : Value), (xs ++ rlV x sa sl sc ba bl bc)[j]? = some u → cs[j]? = some u) : RowC W (rs ++ [x]) cs := by
  refine RowC_more (hx2 cs fun j u hj => h j u ?_) (fun k u hk => h _ u ?_) hA hs hn
  · rw [List.getElem?_append_left (List.getElem?_eq_some_iff.1 hj).1]
    exact hj
  · rw [List.getElem?_append_right (by omega), hxl, Nat.add_sub_cancel_left]
    exact hk
/-- Rules, behind none. -/
theorem app_first {X Y : World} (ty : TypeId) (hb : Below X.heap.size X Y) {n rc : Nat} {ad : Addr} {xs : List Value} (hxl : xs.length = n * 10) (hxg : ∀ j u, xs[j]? = some u → Y.cell? (ad.add j) = some u) (hx1 : ∀ u ∈ xs, u.oneCell' = true) (hn : n ≤ 1000) :
    ∃ v' w', (Builtin.append_ #[24, 24] ty #[.slice none 0 0, .slice (some ad) n rc]).run Try.prog Y = .ok v' w' ∧ w'.ownsRow X.heap.size 44 10 v' n xs ∧ Below X.heap.size X w' ∧ Below Y.heap.size Y w' := by
  obtain ⟨i0, hi, hz0, hz1, hz2⟩ := info_parts infoRule
  obtain ⟨v', w', hr, h2, h3, _⟩ := run_append_own (P := Try.prog) Y X.heap.size 24 ty 44 i0 _ 10 136 Try.underlying24 hi hz0 hz1 hz2 rfl (by decide) _ 0 [] (World.ownsRow_nil Y _ 44 10) ad n rc xs hxl hxg hx1 (by unfold maxLen; omega) (by omega) hb.size
  rw [Nat.zero_add, List.nil_append] at h2
  exact ⟨v', w', hr, h2, hb.grown h3 hb.size (fun k e => by cases e), (Below.refl _ Y).grown h3 (Nat.le_refl _) (fun k e => by cases e)⟩
/-- One more. -/
theorem app_more {X Y : World} (ty : TypeId) (hb : Below X.heap.size X Y) {n z : Nat} {v : Value} {xs xr : List Value} (how : Y.ownsRow X.heap.size 44 10 v n xs) (hl : xr.length = 10) (hz : ∀ j u, xr[j]? = some u → Y.cell? ((⟨z, 0, none⟩ : Addr).add j) = some u) (h1 : ∀ u ∈ xr, u.oneCell' = true) (hn : n ≤ 1000) :
    ∃ v' w', (Builtin.append_ #[24, 24] ty #[v, .slice (some ⟨z, 0, none⟩) 1 1]).run Try.prog Y = .ok v' w' ∧ w'.ownsRow X.heap.size 44 10 v' (n + 1) (xs ++ xr) ∧ Below X.heap.size X w' := by
  obtain ⟨i0, hi, hz0, hz1, hz2⟩ := info_parts infoRule
  obtain ⟨v', w', hr, h2, h3, _⟩ := append_row (P := Try.prog) Y X.heap.size 24 ty 44 i0 _ 10 136 Try.underlying24 hi hz0 hz1 hz2 rfl (by decide) v n xs how ⟨z, 0, none⟩ 1 1 xr (by rw [hl]) hz h1 (by unfold maxLen; omega) (by omega) hb.size
  exact ⟨v', w', hr, h2, hb.grown h3 hb.size (fun k e => (how.lt k e).1)⟩
/-- Two nodes in a row of their own, as one. -/
theorem both_at {P : Nat → Prop} {w : World} {s : Nat} {a b : Nd.T} {v0 v1 v2 v3 v4 u0 u1 u2 u3 u4 : Value} (hb : Bk w s 40 #[v0, v1, v2, v3, v4, u0, u1, u2, u3, u4]) (hs : P s) (ha : AtX P w a (.agg #[v0, v1, v2, v3, v4])) (hu : AtX P w b (.agg #[u0, u1, u2, u3, u4])) :
    AtX P w (bothT a b) (.agg #[.int .u8 1, .string ⟨#[]⟩, .string ⟨#[]⟩, .slice none 0 0, .slice (some ⟨s, 0, none⟩) 2 2]) := by
  unfold bothT AtX
  refine ⟨none, 0, some ⟨s, 0, none⟩, 2, rfl, by omega, by simp [ByteArray.size], by simp [ByteArray.size], ⟨by simp, by simp⟩, ⟨by simp, by simp⟩, trivial, ?_⟩
  unfold AtLX
  refine ⟨s, 0, v0, v1, v2, v3, v4, rfl, hs, hb.cell 0, hb.cell 1, hb.cell 2, hb.cell 3, hb.cell 4, ha, ?_⟩
  unfold AtLX
  exact ⟨s, 5, u0, u1, u2, u3, u4, rfl, hs, hb.cell 5, hb.cell 6, hb.cell 7, hb.cell 8, hb.cell 9, hu, by unfold AtLX; trivial⟩
theorem leaf_atX (P : Nat → Prop) (w : World) {k : Int} (hk : 0 ≤ k ∧ k < 256) {n : ByteArray} (hn : n.size ≤ 140737488351232) : AtX P w (leafT k n) (.agg #[.int .u8 k, .string n, .string ⟨#[]⟩, .slice none 0 0, .slice none 0 0]) := by
  unfold leafT AtX
  exact ⟨none, 0, none, 0, rfl, hk, hn, by decide, by simp, by simp, trivial, by unfold AtLX; trivial⟩
theorem both_small (a b : Nd.T) : Nd.deep (bothT a b) = 1 + max (Nd.deep a) (Nd.deep b) ∧ Nd.count (bothT a b) = 1 + (Nd.count a + Nd.count b) := by
  constructor
  · simp [bothT, Nd.deep, Nd.deepL]
  · simp [bothT, Nd.count, Nd.countL]
theorem leaf_small (k : Int) (n : ByteArray) : Nd.deep (leafT k n) = 1 ∧ Nd.count (leafT k n) = 1 := by simp [leafT, Nd.deep, Nd.deepL, Nd.count, Nd.countL]
/-- A rule's body turned, in its place. -/
theorem turn_is {rs : List Rl} {i : Nat} {r : Rl} (hr : rs[i]? = some r) (b : Nd.T) : turn rs i b = rs.set i { r with body := b } := by unfold turn; rw [hr]
end Go.Proofs.Ythlfahghoinocaa
