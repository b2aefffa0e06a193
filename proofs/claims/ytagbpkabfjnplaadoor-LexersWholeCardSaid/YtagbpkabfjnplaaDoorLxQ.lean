/- The laws' own: how great a table is; the state behind a text. -/
import Derived.Test.YtagbpkabfjnplaaDoorLxM
namespace Go.Proofs.YtagbpkabfjnplaaDoor
open Go Go.RowKit Rn Lx
set_option maxRecDepth 100000

namespace Lx
def greatF : Nat → List (List Int) → Bool
  | n, [] => decide (6000 < n)
  | n, l :: ls => if 6000 < n + 1 + l.length then true else greatF (n + 1 + l.length) ls
def greatB (t : Tb) : Bool := greatF (t.rs.length + t.cs.length + t.es.length) t.ns
theorem greatF_no : ∀ (ls : List (List Int)) (n : Nat), greatF n ls = false → n + ls.length ≤ 6000 ∧ ∀ l ∈ ls, l.length ≤ 6000
  | [], n, h => by simp [greatF] at h; simp; omega
  | l :: ls, n, h => by
    simp only [greatF] at h
    split at h
    · cases h
    · next hn =>
      obtain ⟨a, b⟩ := greatF_no ls _ h
      refine ⟨by rw [List.length_cons]; omega, fun k hk => ?_⟩
      rcases List.mem_cons.1 hk with rfl | hk
      · omega
      · exact b k hk
theorem great_sm {t : Tb} (h : greatB t = false) : Sm t := by
  obtain ⟨a, b⟩ := greatF_no _ _ h
  exact ⟨by omega, by omega, by omega, by omega, b⟩
/-- What a machine holds. -/
structure Lg (t : Tb) : Prop where
  rs : t.rs.length ≤ 140737488351232
  cs : t.cs.length ≤ 140737488351232
  ns : t.ns.length ≤ 140737488351232
  es : t.es.length ≤ 140737488351232
  row : ∀ l ∈ t.ns, l.length ≤ 140737488351232
end Lx
set_option maxHeartbeats 4000000 in
theorem Great_any (t : Tb) (rv cv nv ev : Value) (w : World) (hT : TL w rv cv nv ev t) (hs : Lg t) :
    Calls Tryd.prog 7 #[.agg #[rv, cv, nv, ev]] w fun e w' => e = .returned (.bool (greatB t)) ∧ Below w.heap.size w w' := by
  have hb0 := bx_below w rv cv nv ev
  have HB0 := Lib.hid hb0
  have HT := Lib.hid (hT.below hb0).2.2.1
  obtain ⟨⟨ra, rc, rfl, _, _⟩, ⟨ca, cc, rfl, _, _⟩, ⟨na, nc, rfl, _, _⟩, ⟨ea, ec, rfl, _, _⟩⟩ := hT
  obtain ⟨MM, hM⟩ : ∃ m, greatB t = m := ⟨_, rfl⟩
  rw [hM]
  have l1 := hs.rs
  have l2 := hs.cs
  have l3 := hs.ns
  have l4 := hs.es
  have LR := Lib.hid hs.row
  obtain ⟨R, hR⟩ : ∃ R, t.rs.length = R := ⟨_, rfl⟩
  obtain ⟨C, hC⟩ : ∃ R, t.cs.length = R := ⟨_, rfl⟩
  obtain ⟨N, hN⟩ : ∃ R, t.ns.length = R := ⟨_, rfl⟩
  obtain ⟨E, hE⟩ : ∃ R, t.es.length = R := ⟨_, rfl⟩
  have HM0 := Lib.hid (show ∃ n, ((R : Int) + (C : Int) + (E : Int)) = ((n : Nat) : Int) ∧ n ≤ 422212465053696 ∧ greatF n (t.ns.drop 0) = MM from ⟨R + C + E, by omega, by omega, by rw [List.drop_zero, ← hM, greatB, hR, hC, hE]⟩)
  have LN := Lib.hid hN
  rw [hR] at l1 HT HB0 ⊢
  rw [hC] at l2 HT HB0 ⊢
  rw [hN] at l3 HT HB0 ⊢
  rw [hE] at l4 HT HB0 ⊢
  clear hs hM hR hC hN hE hb0
  have n3 : (N : Int) ≤ 9223372036854775807 := by omega
  obtain ⟨n0, hn0, hn1, hn2⟩ := HM0.out
  have HN2 := Lib.hid hn2
  clear hn2
  go_enter Tryd.func7, Tryd.ntmps7
  go_wp2_with fail
  try rw [hn0]
  clear hn0
  go_loopw [4, 3] (fun i u wr => ∃ k n : Nat, k ≤ N ∧ i = .int .i64 k ∧ u = .int .i64 n ∧ n ≤ 422212465053696 ∧ wr = (bx w (.slice ra R rc) (.slice ca C cc) (.slice na N nc) (.slice ea E ec)) ∧ Hid (greatF n (t.ns.drop k) = MM)) (fun i _ _ => N - (intOf i).toNat)
  case atStart => exact ⟨0, n0, Nat.zero_le _, rfl, rfl, hn1, rfl, HN2⟩
  case round =>
    obtain ⟨k, n, hk, rfl, rfl, hn, rfl, hJ⟩ := hrel
    by_cases hlt : k < N
    · have d0 : decide (k < N) = true := by rw [decide_eq_true_iff]; exact hlt
      have a0 : (k : Int) < (N : Int) := by omega
      have a1 : (0 : Int) ≤ (k : Int) := by omega
      obtain ⟨l, hl⟩ : ∃ l, t.ns[k]? = some l := ⟨_, List.getElem?_eq_getElem (by rw [LN.out]; exact hlt)⟩
      obtain ⟨na', nc', en, _, zN⟩ := HT.out
      injection en with en1 en2 en3
      subst en1
      clear en2 en3
      obtain ⟨g, o, qa, qc, rfl, y1, _⟩ := zN k l hl
      have hll := LR.out l (List.mem_of_getElem? hl)
      have hst := hJ.out
      rw [Nd.drop_some hl] at hst
      simp only [greatF] at hst
      obtain ⟨ll, hl2⟩ : ∃ q, l.length = q := ⟨_, rfl⟩
      rw [hl2] at y1 hst hll
      clear zN hl hl2 hJ
      by_cases h1 : 6000 < n + 1 + ll
      · rw [if_pos h1] at hst
        have d1 : decide ((6000 : Int) < (n : Int) + 1 + (ll : Int)) = true := decide_eq_true (by omega)
        have HQ := Lib.hid hst
        clear hst
        go_wp2_with fail
        go_ret
        exact ⟨by rw [← HQ.out]; rfl, HB0.out⟩
      · rw [if_neg h1] at hst
        have d1 : decide ((6000 : Int) < (n : Int) + 1 + (ll : Int)) = false := decide_eq_false (by omega)
        have HQ := Lib.hid hst
        clear hst
        go_wp2_with fail
        exact ⟨⟨k + 1, n + 1 + ll, by omega, by go_num, by go_num, by omega, by first | trivial | rfl, HQ⟩, by simp [intOf]; omega⟩
    · have d0 : decide (k < N) = false := by rw [decide_eq_false_iff_not]; exact hlt
      have HQ := Lib.hid (show decide (6000 < n) = MM from by rw [← hJ.out, List.drop_eq_nil_of_le (by rw [LN.out]; omega)]; rfl)
      clear hJ
      by_cases h1 : 6000 < n
      · have d1 : decide (6000 < n) = true := decide_eq_true h1
        have d2 : decide ((6000 : Int) < (n : Int)) = true := decide_eq_true (by omega)
        have HQ2 := Lib.hid (show true = MM from by rw [← HQ.out, d1])
        clear HQ
        go_wp2_with fail
        go_ret
        exact ⟨by rw [← HQ2.out]; rfl, HB0.out⟩
      · have d1 : decide (6000 < n) = false := decide_eq_false h1
        have d2 : decide ((6000 : Int) < (n : Int)) = false := decide_eq_false (by omega)
        have HQ2 := Lib.hid (show false = MM from by rw [← HQ.out, d1])
        clear HQ
        go_wp2_with fail
        go_ret
        exact ⟨by rw [← HQ2.out]; rfl, HB0.out⟩
set_option maxHeartbeats 4000000 in
theorem state_any (t : Tb) (rv cv nv ev : Value) (s : ByteArray) (w : World) (hT : TL w rv cv nv ev t) (hs : Sm t) (hE : EnvL w) (hsz : s.size ≤ 100000) :
    Calls Tryd.prog 22 #[.agg #[rv, cv, nv, ev], .string s] w fun e w' => e = .returned (.int .i64 (stF t s.size 0 s.data.toList)) ∧ Below w.heap.size w w' := by
  have hb0 := bx_below w rv cv nv ev
  have HS := Lib.hid (fun (W : World) (h : Below (bx w rv cv nv ev).heap.size (bx w rv cv nv ev) W) (st x : Int) =>
    (Step_any t rv cv nv ev st x W ((hT.below hb0).below h) hs).mono fun e w' x' => show e = .returned (.int .i64 (stp t st x)) ∧ Below (bx w rv cv nv ev).heap.size (bx w rv cv nv ev) w' from ⟨x'.1, h.trans (x'.2.mono h.size)⟩)
  have HD := Lib.hid (fun (W : World) (h : Below (bx w rv cv nv ev).heap.size (bx w rv cv nv ev) W) (k : Nat) (hk : k < s.size) =>
    (DecodeL_in s k W (by omega) hk ((hE.below hb0).below h)).mono fun e w' x' => show e = .returned (decT (Lib.decodeL (s.data.toList.drop k))) ∧ Below (bx w rv cv nv ev).heap.size (bx w rv cv nv ev) w' from ⟨x'.1, h.trans (x'.2.mono h.size)⟩)
  have HC := Lib.hid (fun (W : World) (h : Below (bx w rv cv nv ev).heap.size (bx w rv cv nv ev) W) => bx_cells h)
  obtain ⟨TT, hTT⟩ : ∃ q, stF t s.size 0 s.data.toList = q := ⟨_, rfl⟩
  rw [hTT]
  have HF0 := Lib.hid (show ∃ f, s.size - 0 ≤ f ∧ stF t f 0 (s.data.toList.drop 0) = TT from ⟨s.size, by omega, by rw [List.drop_zero]; exact hTT⟩)
  have HBe := Lib.hid (show s.data.toList.length = s.size from (Lib.size_eq s).symm)
  obtain ⟨⟨ra, rc, rfl, _, _⟩, ⟨ca, cc, rfl, _, _⟩, ⟨na, nc, rfl, _, _⟩, ⟨ea, ec, rfl, _, _⟩⟩ := hT
  clear hTT hs hE hb0
  go_enter Tryd.func22, Tryd.ntmps22
  go_wp2_with fail
  go_loopw [6, 5] (fun i u wr => ∃ (k : Nat) (q : Int), k ≤ s.size ∧ i = .int .i64 k ∧ u = .int .i64 q ∧ Hid (Below (bx w (.slice ra t.rs.length rc) (.slice ca t.cs.length cc) (.slice na t.ns.length nc) (.slice ea t.es.length ec)).heap.size (bx w (.slice ra t.rs.length rc) (.slice ca t.cs.length cc) (.slice na t.ns.length nc) (.slice ea t.es.length ec)) wr) ∧ Hid (∃ f, s.size - k ≤ f ∧ stF t f q (s.data.toList.drop k) = TT)) (fun i _ _ => s.size - (intOf i).toNat)
  case atStart => exact ⟨0, 0, Nat.zero_le _, rfl, rfl, Lib.hid (Below.refl _ _), HF0⟩
  case round =>
    obtain ⟨k, q, hk, rfl, rfl, hB, hF⟩ := hrel
    by_cases hlt : k < s.size
    · have d0 : decide (k < s.size) = true := by rw [decide_eq_true_iff]; exact hlt
      by_cases hq : q < 0
      · have d1 : decide (0 ≤ q) = false := decide_eq_false (by omega)
        have HQ := Lib.hid (show q = TT from by obtain ⟨f, _, h⟩ := hF.out; rw [← h, stF_neg _ _ _ _ hq])
        clear hF
        go_wp2_with fail
        go_ret
        exact ⟨by rw [← HQ.out]; rfl, bx_trans hB.out⟩
      have d1 : decide (0 ≤ q) = true := decide_eq_true (by omega)
      have hne : s.data.toList.drop k ≠ [] := by
        intro e
        have := congrArg List.length e
        rw [List.length_drop, HBe.out, List.length_nil] at this
        omega
      obtain ⟨f, hfl, hfe⟩ := hF.out
      obtain ⟨f, rfl⟩ : ∃ f', f = f' + 1 := ⟨f - 1, by omega⟩
      rw [stF, if_neg (by rintro (h | h); exact hne h; exact hq h), List.drop_drop] at hfe
      have hw := Lib.decodeL_width (s.data.toList.drop k)
      have hle := Lib.decodeL_le (s.data.toList.drop k) hne
      rw [List.length_drop, HBe.out] at hle
      have HDk := Lib.hid (HD.out wr hB.out k hlt)
      by_cases hbad : Lib.decodeL (s.data.toList.drop k) = (65533, 1)
      · rw [if_pos hbad] at hfe
        rw [decT_bad hbad] at HDk
        have HQ := Lib.hid hfe
        clear hbad hfe hfl hF hne hw hle
        go_wp2_with fail
        refine HDk.out.mono ?_
        rintro e w3 ⟨rfl, b3⟩
        have B3 := Lib.hid b3
        clear b3
        go_wp2_with fail
        go_ret
        exact ⟨by rw [← HQ.out]; rfl, bx_trans B3.out⟩
      · rw [if_neg hbad] at hfe
        rw [decT_ok hbad] at HDk
        clear hbad hF hne
        generalize Lib.decodeL (s.data.toList.drop k) = d at *
        obtain ⟨r, n⟩ := d
        dsimp only at *
        have HQ := Lib.hid (show ∃ f, s.size - (k + n) ≤ f ∧ stF t f (stp t q (r : Int)) (s.data.toList.drop (k + n)) = TT from ⟨f, by omega, hfe⟩)
        have HSk := Lib.hid (fun (W : World) (h : Below (bx w (.slice ra t.rs.length rc) (.slice ca t.cs.length cc) (.slice na t.ns.length nc) (.slice ea t.es.length ec)).heap.size (bx w (.slice ra t.rs.length rc) (.slice ca t.cs.length cc) (.slice na t.ns.length nc) (.slice ea t.es.length ec)) W) => HS.out W h q (r : Int))
        clear hfe hfl
        obtain ⟨R, hR⟩ : ∃ R : Int, stp t q (r : Int) = R := ⟨_, rfl⟩
        rw [hR] at HQ HSk
        clear hR
        go_wp2_with fail
        refine HDk.out.mono ?_
        rintro e w3 ⟨rfl, b3⟩
        obtain ⟨c0, c1, c2, c3⟩ := HC.out _ b3
        have B3 := Lib.hid b3
        clear b3
        go_wp2_with fail
        refine (HSk.out _ B3.out).mono ?_
        rintro e w4 ⟨rfl, b4⟩
        have B4 := Lib.hid b4
        clear b4 c0 c1 c2 c3
        go_wp2_with fail
        exact ⟨⟨k + n, R, by omega, by go_num, rfl, B4, HQ⟩, by simp [intOf]; omega⟩
    · have d0 : decide (k < s.size) = false := by rw [decide_eq_false_iff_not]; exact hlt
      have HQ := Lib.hid (show q = TT from by obtain ⟨f, _, h⟩ := hF.out; rw [← h, List.drop_eq_nil_of_le (by rw [HBe.out]; omega), stF_nil])
      clear hF
      go_wp2_with fail
      go_ret
      exact ⟨by rw [← HQ.out]; rfl, bx_trans hB.out⟩
end Go.Proofs.YtagbpkabfjnplaaDoor
