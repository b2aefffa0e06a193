/- The contract of spread: what is reached is marked. -/
import Derived.Test.YtiinkhmgemoamaaDoorPaj
import Derived.Laws.OwnMore
import Derived.Maps.AppendAt
namespace Go.Proofs.YtiinkhmgemoamaaDoor
open Go Go.RowKit Nu
set_option maxRecDepth 100000

namespace Nu
theorem spr_mark (ss : List (List Nat)) {f t : Nat} {l : List Nat} {m : List Bool} (h : m.getD t false = true) : spr ss f (t :: l) m = spr ss f l m := by
 cases f <;> simp only [spr] <;> rw [if_pos h]
theorem spr_go (ss : List (List Nat)) {f t : Nat} {l : List Nat} {m : List Bool} (h : m.getD t false = false) : spr ss (f + 1) (t :: l) m = spr ss (f + 1) l (spr ss f (ss.getD t []) (m.set t true)) := by
 simp only [spr]
 rw [if_neg (by rw [h]; simp)]
theorem spr_lack (ss : List (List Nat)) (f : Nat) (l : List Nat) (m : List Bool) : lack (spr ss f l m) ≤ lack m := lack_mono _ _ (spr_len ss f l m).symm (spr_le ss f l m)
end Nu
/-- The slice v holds the numbers l. -/
def IRow (w : World) (v : Value) (l : List Nat) : Prop := ∃ a c, v = .slice a l.length c ∧ l.length ≤ 1000000 ∧ l.length ≤ c ∧ ∀ (i x : Nat), l[i]? = some x → ∃ b o, a = some ⟨b, o, none⟩ ∧ w.cell? ⟨b, o + i, none⟩ = some (.int .i64 (x : Int))
/-- The rows ss. -/
def Stp (w : World) (sr : Nat) (ss : List (List Nat)) : Prop := ∃ cs : Array Value, Bk w sr 40 cs ∧ cs.size = ss.length ∧ ∀ (i : Nat) (l : List Nat), ss[i]? = some l → ∃ v, cs[i]? = some v ∧ IRow w v l
/-- What is no block of bools stays. -/
theorem int_kept {w w' : World} {rb b o : Nat} {m : List Bool} {x : Int} (hg : w.grownBy w' (some rb)) (hm : Bk w rb 4 (bools m)) (h : w.cell? ⟨b, o, none⟩ = some (.int .i64 x)) : w'.cell? ⟨b, o, none⟩ = some (.int .i64 x) := by
 have hlt := World.block_lt_of_cell? _ _ h
 have hne : b ≠ rb := by
  rintro rfl
  rw [hm.cell] at h
  unfold bools at h
  rw [List.getElem?_toArray, List.getElem?_map] at h
  cases hb : m[o]? with
  | none => rw [hb] at h; cases h
  | some y => rw [hb] at h; cases h
 have := hg.block b hlt (by simpa using hne)
 rw [← h]
 simp [World.cell?, this]
theorem IRow.kept {w w' : World} {rb : Nat} {m : List Bool} {v : Value} {l : List Nat} (hg : w.grownBy w' (some rb)) (hm : Bk w rb 4 (bools m)) : IRow w v l → IRow w' v l
 | ⟨a, c, hv, h1, h2, h3⟩ => ⟨a, c, hv, h1, h2, fun i x hx => by
  obtain ⟨b, o, ha, hc⟩ := h3 i x hx
  exact ⟨b, o, ha, int_kept hg hm hc⟩⟩
theorem Stp.kept {w w' : World} {rb sr : Nat} {m : List Bool} {ss : List (List Nat)} (h : Stp w sr ss) (hg : w.grownBy w' (some rb)) (hm : Bk w rb 4 (bools m)) : Stp w' sr ss := by
 obtain ⟨cs, h1, h2, h3⟩ := h
 refine ⟨cs, h1.grown hg (fun e => by injection e with e; exact (h1.ne hm (by decide)) e), h2, fun i l hl => ?_⟩
 obtain ⟨v, hv, hr⟩ := h3 i l hl
 exact ⟨v, hv, hr.kept hg hm⟩
theorem grown_set (w : World) (b i : Nat) (v : Value) : w.grownBy (w.setCell ⟨b, i, none⟩ v) (some b) := ⟨rfl, rfl, rfl, by simp, fun k _ hk => Below.heap_setCell _ _ _ _ (fun e => hk (by rw [e]))⟩
set_option maxHeartbeats 2000000 in
theorem spread_any (sr rb : Nat) (ss : List (List Nat)) (hall : ∀ l ∈ ss, ∀ x ∈ l, x < ss.length) (hss : ss.length ≤ 1000) : ∀ (f : Nat) (m : List Bool) (fr : Nat) (w : World), Stp w sr ss → Bk w rb 4 (bools m) → m.length = ss.length → fr < ss.length → lack m ≤ f →
 Calls Tryd.prog 70 #[.int .i64 fr, .slice (some ⟨sr, 0, none⟩) ss.length ss.length, .slice (some ⟨rb, 0, none⟩) ss.length ss.length] w fun e w' => (∃ u, e = .returned u) ∧ Bk w' rb 4 (bools (spr ss f (ss.getD fr []) m)) ∧ w.grownBy w' (some rb) := by
 intro f
 induction f using Nat.strongRecOn with | _ f ih => ?_
 intro m fr w hS hM hml hfr hf
 obtain ⟨l, hl⟩ : ∃ l, ss[fr]? = some l := ⟨_, List.getElem?_eq_getElem hfr⟩
 have hgl : ss.getD fr [] = l := by rw [List.getD_eq_getElem?_getD, hl]; rfl
 rw [hgl]
 have hlx := hall l (List.mem_of_getElem? hl)
 obtain ⟨cs, s1, s2, s3⟩ := id hS
 obtain ⟨v, hv, ra, rc, rfl, hl6, hlc, hrow⟩ := s3 fr l hl
 have c0 := s1.cell fr
 rw [hv] at c0
 have p1 : (fr : Int) < (ss.length : Int) := by omega
 have n1 : (ss.length : Int) ≤ 9223372036854775807 := by omega
 obtain ⟨LN, hLN⟩ : ∃ k, l.length = k := ⟨_, rfl⟩
 have HLN := Lib.hid hLN
 rw [hLN] at hl6 hlc c0
 obtain ⟨MM, hMM⟩ : ∃ k, spr ss f l m = k := ⟨_, rfl⟩
 have HMM := Lib.hid hMM
 rw [hMM]
 obtain ⟨SN, hSN⟩ : ∃ k, ss.length = k := ⟨_, rfl⟩
 have HSN := Lib.hid hSN
 rw [hSN] at hss ih hml hfr p1 n1 hlx ⊢
 have HIH := Lib.hid ih
 have HS := Lib.hid hS
 clear hgl hMM hLN s3 hv s1 s2 hl hSN hall ih hS
 go_enter Tryd.func70, Tryd.ntmps70
 go_wp2_with fail
 go_loopw [13] (fun i wr => ∃ (p : Nat) (m1 : List Bool), p ≤ LN ∧ i = .int .i64 p ∧ Hid (spr ss f (l.drop p) m1 = MM) ∧ Hid (lack m1 ≤ f) ∧ Hid (m1.length = SN) ∧ Bk wr rb 4 (bools m1) ∧ w.grownBy wr (some rb)) (fun i _ => LN - (intOf i).toNat)
 case atStart => exact ⟨0, m, Nat.zero_le _, rfl, by rw [List.drop_zero]; exact HMM, Lib.hid hf, Lib.hid hml, hM, ⟨rfl, rfl, rfl, Nat.le_refl _, fun _ _ _ => rfl⟩⟩
 case round =>
  obtain ⟨p, m1, hp, rfl, hT, hL, hm1, hK, hg⟩ := hrel
  by_cases hlt : p < LN
  · have d2 : decide (p < LN) = true := by rw [decide_eq_true_iff]; exact hlt
    have p0 : (p : Int) < (LN : Int) := by omega
    obtain ⟨t, ht⟩ : ∃ t, l[p]? = some t := ⟨_, List.getElem?_eq_getElem (by rw [HLN.out]; exact hlt)⟩
    obtain ⟨b, o, rfl, hc⟩ := hrow p t ht
    have e0 := int_kept hg hM hc
    have htl := hlx t (List.mem_of_getElem? ht)
    have t1 : (t : Int) < (SN : Int) := by omega
    have ce := hK.cell t
    rw [bools_get (by rw [hm1.out]; exact htl)] at ce
    have fe := hK.free t
    have hT2 := hT.out
    rw [Nd.drop_some ht] at hT2
    by_cases hmt : m1.getD t false = true
    · rw [spr_mark ss hmt] at hT2
      rw [hmt] at ce
      have HT2 := Lib.hid hT2
      clear hT2 hT ht hc hmt hrow hlx HS HIH hM
      go_wp2_with fail
      refine ⟨⟨p + 1, m1, by omega, by go_num, HT2, hL, hm1, hK, hg⟩, by simp [intOf]; omega⟩
    · have hmf : m1.getD t false = false := by simpa using hmt
      rw [hmf] at ce
      have hls := lack_set m1 t (by rw [hm1.out]; exact htl) hmf
      obtain ⟨f', rfl⟩ : ∃ f', f = f' + 1 := ⟨f - 1, by have := hL.out; omega⟩
      rw [spr_go ss hmf] at hT2
      have hg2 := hg.trans (grown_set wr rb t (.bool true))
      have hK2 := hK.set t (.bool true)
      rw [bools_set] at hK2
      have hC := HIH.out f' (by omega) (m1.set t true) t (wr.setCell ⟨rb, t, none⟩ (.bool true)) (HS.out.kept hg2 hM) hK2 (by rw [List.length_set]; exact hm1.out) htl (by have := hL.out; omega)
      have hlk : lack (spr ss f' (ss.getD t []) (m1.set t true)) ≤ f' + 1 := by have := spr_lack ss f' (ss.getD t []) (m1.set t true); have := hL.out; omega
      have hln : (spr ss f' (ss.getD t []) (m1.set t true)).length = SN := by rw [spr_len, List.length_set]; exact hm1.out
      generalize spr ss f' (ss.getD t []) (m1.set t true) = m3 at *
      have HT2 := Lib.hid hT2
      have HLK := Lib.hid hlk
      have HL3 := Lib.hid hln
      replace hC := Lib.hid hC
      have HG := Lib.hid hg2
      clear hT2 hT ht hc hmt hmf hls hlk hln hg2 hK2 hrow hlx hM
      go_wp2_with (go_at_call 70; refine hC.out.mono ?_; rintro e w' ⟨⟨u, rfl⟩, hb, hgw⟩)
      refine ⟨⟨p + 1, m3, by omega, by go_num, HT2, HLK, HL3, hb, HG.out.trans hgw⟩, by simp [intOf]; omega⟩
  · have d2 : decide (p < LN) = false := by rw [decide_eq_false_iff_not]; exact hlt
    have hfin : m1 = MM := by
     rw [← hT.out, List.drop_eq_nil_of_le (by rw [HLN.out]; omega), spr_nil]
    have HF := Lib.hid hfin
    clear hfin hT
    go_wp2_with fail
    go_end0
    exact ⟨⟨_, rfl⟩, by rw [← HF.out]; exact hK, hg⟩
end Go.Proofs.YtiinkhmgemoamaaDoor
