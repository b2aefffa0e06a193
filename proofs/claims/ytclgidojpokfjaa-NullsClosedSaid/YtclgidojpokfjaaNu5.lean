/- A row of rules with one more behind it. -/
import Derived.Test.YtclgidojpokfjaaNuW
namespace Go.Proofs.Ytclgidojpokfjaa
open Go Go.RowKit Nu
set_option maxRecDepth 100000

/-- The rule that nothing names. -/
def dashR : Nu.Rl := ⟨⟨#[45]⟩, 0, .mk 1 ⟨#[]⟩ ⟨#[]⟩ [] [], 0, 0, 0⟩
def dashV : List Value := [.string ⟨#[45]⟩, .int .u8 0, .int .u8 1, .string ⟨#[]⟩, .string ⟨#[]⟩, .slice none 0 0, .slice none 0 0, .int .i64 0, .int .i64 0, .int .i64 0]
theorem dash_at (W : World) : Nd.At W (.mk 1 ⟨#[]⟩ ⟨#[]⟩ [] []) (.agg #[.int .u8 1, .string ⟨#[]⟩, .string ⟨#[]⟩, .slice none 0 0, .slice none 0 0]) := by
  unfold Nd.At
  exact ⟨none, 0, none, 0, rfl, by omega, by simp [ByteArray.size], by simp [ByteArray.size], ⟨by simp, by simp⟩, ⟨by simp, by simp⟩, trivial, by unfold Nd.AtL; trivial⟩
theorem dash_thr (rs : List Nu.Rl) (s : Int) (e : List Bool) : thr rs s e dashR.body = true := by simp [dashR, thr, thrA]
theorem RowC_snoc {W : World} {rs : List Nu.Rl} {cs : Array Value} (h : RowC W rs cs) (hd : ∀ (k : Nat) (u : Value), dashV[k]? = some u → cs[rs.length * 10 + k]? = some u) : RowC W (rs ++ [dashR]) cs := fun i r hr => by
  by_cases hi : i < rs.length
  · rw [List.getElem?_append_left hi] at hr
    exact h i r hr
  · rw [List.getElem?_append_right (by omega)] at hr
    have h0 : i - rs.length = 0 := by
      rcases Nat.eq_zero_or_pos (i - rs.length) with h | h
      · exact h
      · rw [List.getElem?_eq_none (by simp; omega)] at hr; cases hr
    rw [h0] at hr
    injection hr with hr
    subst hr
    obtain rfl : i = rs.length := by omega
    exact ⟨_, _, _, _, _, hd 0 _ rfl, hd 1 _ rfl, hd 2 _ rfl, hd 3 _ rfl, hd 4 _ rfl, hd 5 _ rfl, hd 6 _ rfl, hd 7 _ rfl, hd 8 _ rfl, hd 9 _ rfl, dash_at W, by decide, by simp [ByteArray.size, dashR]⟩
theorem dash_got {W w5 : World} {base : Nat} {v' : Value} {rs : List Nu.Rl} {xs : List Value} (hown : w5.ownsRow base 43 10 v' (rs.length + 1) (xs ++ dashV)) (hxl : xs.length = rs.length * 10) (hx2 : ∀ cs : Array Value, (∀ (j : Nat) (u : Value), xs[j]? = some u → cs[j]? = some u) → RowC W rs cs) :
    ∃ g cap cur, v' = .slice (some ⟨g, 0, none⟩) (rs.length + 1) cap ∧ base ≤ g ∧ Bk w5 g 43 cur ∧ rs.length + 1 ≤ cap ∧ RowC W (rs ++ [dashR]) cur := by
  rcases hown.2 with ⟨_, h0⟩ | ⟨g, cap, cur, rfl, hgb, hcur, hcap, _, _, htk⟩
  · omega
  · have all : ∀ (j : Nat) (u : Value), (xs ++ dashV)[j]? = some u → cur[j]? = some u := fun j u hj => by
      rw [← htk, List.getElem?_take] at hj
      split at hj
      · simpa using hj
      · cases hj
    refine ⟨g, cap, cur, rfl, hgb, hcur, hcap, RowC_snoc (hx2 cur fun j u hj => all j u ?_) fun k u hk => all _ u ?_⟩
    · rw [List.getElem?_append_left (List.getElem?_eq_some_iff.1 hj).1]
      exact hj
    · rw [List.getElem?_append_right (by omega), hxl, Nat.add_sub_cancel_left]
      exact hk
theorem dash_small {rs : List Nu.Rl} {D N : Nat} (h : ∀ r ∈ rs, Nd.deep r.body ≤ D ∧ Nd.count r.body ≤ N) (h1 : 1 ≤ D ∧ 1 ≤ N) : ∀ r ∈ rs ++ [dashR], Nd.deep r.body ≤ D ∧ Nd.count r.body ≤ N := fun r hr => by
  rcases List.mem_append.1 hr with hr | hr
  · exact h r hr
  · obtain rfl : r = dashR := by simpa using hr
    simp only [dashR, Nd.deep, Nd.deepL, Nd.count, Nd.countL]
    omega
/-- Rules as cells, or none. -/
theorem row_read0 {w0 : World} {rs : List Nu.Rl} {ra : Option Addr} (hR0 : RuL w0 rs ra) : (ra = none ∧ rs = []) ∨ ∃ (ad : Addr) (xs : List Value), ra = some ad ∧ xs.length = rs.length * 10 ∧ (∀ (j : Nat) (u : Value), xs[j]? = some u → ∀ w : World, Below w0.heap.size w0 w → w.cell? (ad.add j) = some u) ∧ (∀ u ∈ xs, u.oneCell' = true) ∧ (∀ cs : Array Value, (∀ (j : Nat) (u : Value), xs[j]? = some u → cs[j]? = some u) → RowC w0 rs cs) := by
  cases rs with
  | nil =>
    cases ra with
    | none => exact .inl ⟨rfl, rfl⟩
    | some ad => exact .inr ⟨ad, [], rfl, rfl, fun j u h => by simp at h, fun u h => by simp at h, fun cs _ i r h => by simp at h⟩
  | cons r l =>
    obtain ⟨b, o, he, _⟩ := hR0 0 r rfl
    subst he
    obtain ⟨xs, h1, h2, h3, h4⟩ := row_read hR0
    exact .inr ⟨_, xs, rfl, h1, fun j u h w hb => by rw [Go.WideShapes.add_plain]; exact Nd.cell_keeps hb (h2 j u h), h3, h4⟩
theorem dash_cells (w : World) : ∀ (j : Nat) (u : Value), dashV[j]? = some u → (w.alloc (.cells #[.string ⟨#[45]⟩, .int .u8 0, .int .u8 1, .string ⟨#[]⟩, .string ⟨#[]⟩, .slice none 0 0, .slice none 0 0, .int .i64 0, .int .i64 0, .int .i64 0] 43)).cell? ((⟨w.heap.size, 0, none⟩ : Addr).add j) = some u := fun j u h => by
  have hk := Bk.made w 43 dashV.toArray
  rw [Go.WideShapes.add_plain, Nat.zero_add]
  have := hk.cell j
  rw [List.getElem?_toArray, h] at this
  exact this
end Go.Proofs.Ytclgidojpokfjaa
