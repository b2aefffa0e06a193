/- The contracts of nodes.sub, first, join: of whatever can be written. -/
import Derived.Test.YthfkodimafmmgaaDoorNdO
namespace Go.Proofs.YthfkodimafmmgaaDoor
open Go Go.RowKit Ru
set_option maxRecDepth 100000

namespace Nd
mutual
/-- A node's text; what a node has not is written as nothing. -/
def txt : T → List UInt8
  | .mk k n x s b =>
    if k = 0 then joinT 0 [32, 124, 32] true b
    else if k = 1 then (if b.length = 0 then [40, 41] else []) ++ joinT 1 [32] true b
    else if k = 2 then firstT 2 b ++ [63]
    else if k = 3 then firstT 3 b ++ [42]
    else if k = 4 then firstT 4 b ++ [43]
    else if k = 5 ∨ k = 6 then n.data.toList
    else if k = 7 then [40] ++ firstT 7 b ++ [41, 32, 61, 62]
    else if k = 8 then [39] ++ lit x.data.toList ++ [39]
    else if k = 9 then [91] ++ rgT s ++ [93]
    else []
def joinT (k : Int) (sep : List UInt8) (first : Bool) : List T → List UInt8
  | [] => []
  | t :: r => (if first then [] else sep) ++ (if wrappedB k t then [40] ++ txt t ++ [41] else txt t) ++ joinT k sep false r
def firstT (k : Int) : List T → List UInt8
  | [] => []
  | t :: _ => if wrappedB k t then [40] ++ txt t ++ [41] else txt t
end
def subT (k : Int) (t : T) : List UInt8 := if wrappedB k t then [40] ++ txt t ++ [41] else txt t
theorem joinT_cons (k : Int) (sep : List UInt8) (f : Bool) (t : T) (r : List T) : joinT k sep f (t :: r) = (if f then [] else sep) ++ subT k t ++ joinT k sep false r := by simp only [joinT, subT]
theorem firstT_cons (k : Int) (t : T) (r : List T) : firstT k (t :: r) = subT k t := by simp only [firstT, subT]
mutual
/-- A node's weight, all of it. -/
def full : T → Nat
  | .mk _ n x s b => 1 + n.size + x.size + s.length + fullL b
def fullL : List T → Nat
  | [] => 0
  | t :: r => full t + fullL r
end
theorem full_pos (t : T) : 1 ≤ full t := by cases t; simp [full]; omega
mutual
theorem txt_len : ∀ t : T, (txt t).length + 10 ≤ 30 * full t
  | .mk k n x s b => by
    have e : full (.mk k n x s b) = 1 + n.size + x.size + s.length + fullL b := by simp only [full]
    have h1 := fun (k : Int) (sep : List UInt8) (h : sep.length ≤ 3) => joinT_len k sep h true b
    have h2 := fun k => firstT_len k b
    have h3 := lit_len x.data.toList
    have h4 := rgT_len s
    rw [← Lib.size_eq] at h3
    have h5 := Lib.size_eq n
    rw [e]
    simp only [txt]
    split
    · have := h1 0 [32, 124, 32] (by simp); omega
    split
    · have := h1 1 [32] (by simp)
      rw [List.length_append]
      split <;> simp <;> omega
    split
    · have := h2 2; simp; omega
    split
    · have := h2 3; simp; omega
    split
    · have := h2 4; simp; omega
    split
    · omega
    split
    · have := h2 7; simp; omega
    split
    · simp; omega
    split
    · simp; omega
    · simp; omega
theorem joinT_len (k : Int) (sep : List UInt8) (hs : sep.length ≤ 3) (f : Bool) : ∀ b : List T, (joinT k sep f b).length ≤ 30 * fullL b
  | [] => by simp [joinT]
  | t :: r => by
    have h1 := txt_len t
    have h2 := joinT_len k sep hs false r
    have e : fullL (t :: r) = full t + fullL r := by simp only [fullL]
    rw [e]
    simp only [joinT, List.length_append]
    have h3 : (if f then [] else sep).length ≤ 3 := by split <;> simp_all
    have h4 : (if wrappedB k t then [40] ++ txt t ++ [41] else txt t).length ≤ (txt t).length + 2 := by split <;> simp
    omega
theorem firstT_len (k : Int) : ∀ b : List T, (firstT k b).length ≤ 30 * fullL b
  | [] => by simp [firstT]
  | t :: r => by
    have h1 := txt_len t
    have e : fullL (t :: r) = full t + fullL r := by simp only [fullL]
    rw [e]
    simp only [firstT]
    have h4 : (if wrappedB k t then [40] ++ txt t ++ [41] else txt t).length ≤ (txt t).length + 2 := by split <;> simp
    omega
end
theorem subT_len (k : Int) (t : T) : (subT k t).length ≤ (txt t).length + 2 := by unfold subT; split <;> simp
end Nd

theorem Kept.drew (B b : Nat) (w : World) : Kept B b w w.drew := ⟨⟨rfl, rfl, rfl, Nat.le_refl _, fun _ _ => rfl⟩, fun _ _ h _ _ => h⟩
/-- Where a writing call stands: w0 is the world in which the nodes lie. -/
structure Seat (w0 w : World) (B b : Nat) (l : List UInt8) : Prop where
  env : Env w0
  bel : Below w0.heap.size w0 w
  hB0 : w0.heap.size ≤ B
  hBw : B ≤ w.heap.size
  lt : b < w.heap.size
  bd : Bd B b l w
theorem Seat.step {w0 w w' : World} {B b : Nat} {l l' : List UInt8} (h : Seat w0 w B b l) (hb : Bd B b l' w') (hk : Kept B b w w') : Seat w0 w' B b l' :=
  ⟨h.env, h.bel.trans (hk.1.mono h.hB0), h.hB0, Nat.le_trans h.hBw hk.1.size, Nat.lt_of_lt_of_le h.lt hk.1.size, hb⟩
theorem Seat.below {w0 w w' : World} {B b : Nat} {l : List UInt8} (h : Seat w0 w B b l) (hb : Below w.heap.size w w') : Seat w0 w' B b l := h.step (builder_below h.bd hb) (Kept.of_below hb h.hBw)
theorem Seat.alloc {w0 w : World} {B b : Nat} {l : List UInt8} (h : Seat w0 w B b l) (o : Obj) : Seat w0 (w.alloc o) B b l := h.below ((Below.refl _ _).alloc (Nat.le_refl _) _)
theorem Seat.at {w0 w : World} {B b : Nat} {l : List UInt8} (h : Seat w0 w B b l) {t : Nd.T} {v : Value} (hA : Nd.At w0 t v) : Nd.At w t v := hA.below h.bel
def WriteOk (t : Nd.T) : Prop := ∀ (w0 w : World) (v : Value) (B b : Nat) (l : List UInt8), Seat w0 w B b l → Nd.At w0 t v → l.length + 30 * Nd.full t ≤ 1099511627 →
  Calls Tryd.prog 18 #[.pointer (some ⟨b, 0, none⟩), v] w (Puts B b l (Nd.txt t) w)
set_option maxHeartbeats 1000000 in
theorem sub_of (t : Nd.T) (ih : WriteOk t) (k : Int) (w0 w : World) (v : Value) (B b : Nat) (l : List UInt8) (hS : Seat w0 w B b l) (hA : Nd.At w0 t v) (hl : l.length + 10 + 30 * Nd.full t ≤ 1099511627) :
    Calls Tryd.prog 47 #[.pointer (some ⟨b, 0, none⟩), .int .u8 k, v] w (Puts B b l (Nd.subT k t) w) := by
  have htl := Nd.txt_len t
  have CW := fun (o : Obj) => wrapped_any k t v (w.alloc o) ((hS.alloc o).at hA)
  have CI := fun (wx : World) (dd : List UInt8) (h : Seat w0 wx B b dd) (hd : dd.length ≤ l.length + 1) => ih w0 wx v B b dd h hA (by omega)
  have CB := fun (c : UInt8) (wx : World) (dd : List UInt8) (h : Seat w0 wx B b dd) (hd : dd.length ≤ 1099511627776) => putByte B b dd c _ rfl wx h.bd hd h.hBw
  have hwn : w.heap.size ≠ b := by have := hS.lt; omega
  have hsub : Nd.subT k t = if Nd.wrappedB k t then [40] ++ Nd.txt t ++ [41] else Nd.txt t := rfl
  rw [hsub]
  obtain ⟨TX, hTX⟩ : ∃ x, Nd.txt t = x := ⟨_, rfl⟩
  rw [hTX] at htl CI ⊢
  generalize Nd.wrappedB k t = wb at *
  obtain ⟨sa, sc, ba, bc, rfl, _⟩ := hA.form
  generalize t.kind = sk at *
  generalize t.name = sn at *
  generalize t.text = sx at *
  generalize t.set.length = sl at *
  generalize t.subs.length = sm at *
  have HS1 := Lib.hid (hS.alloc (.cells #[.int .u8 sk, .string sn, .string sx, .slice sa sl sc, .slice ba sm bc] 26))
  have HK1 := Lib.hid (Kept.alloc (b := b) w hS.hBw (.cells #[.int .u8 sk, .string sn, .string sx, .slice sa sl sc, .slice ba sm bc] 26))
  have HW1 := Lib.hid (Bk.made w 26 #[.int .u8 sk, .string sn, .string sx, .slice sa sl sc, .slice ba sm bc])
  have CB40 := Lib.hid (fun wx dd h hd => CB 40 wx dd h hd)
  have CB41 := Lib.hid (fun wx dd h hd => CB 41 wx dd h hd)
  rw [show (((40 : UInt8).toNat : Nat) : Int) = 40 from rfl] at CB40
  rw [show (((41 : UInt8).toNat : Nat) : Int) = 41 from rfl] at CB41
  replace CW := Lib.hid CW
  replace CI := Lib.hid CI
  clear hsub hTX ih CB hS
  cases wb with
  | false =>
    rw [if_neg (by simp)]
    go_enter Tryd.func47, Tryd.ntmps47
    go_wp2_with fail
    refine (CW.out _).mono ?_
    rintro e w2 ⟨rfl, hb2⟩
    have HW2 := Lib.hid (HW1.out.below hb2 HW1.out.lt)
    have HS2 := Lib.hid (HS1.out.below hb2)
    have HK2 := Lib.hid (HK1.out.trans (Kept.of_below hb2 HS1.out.hBw))
    have e0 := HW2.out.cell 0
    have e1 := HW2.out.cell 1
    have e2 := HW2.out.cell 2
    have e3 := HW2.out.cell 3
    have e4 := HW2.out.cell 4
    simp at e0 e1 e2 e3 e4
    clear hb2
    go_wp2_with fail
    refine (CI.out _ l HS2.out (by omega)).mono ?_
    rintro e w3 ⟨⟨_, rfl⟩, hb3, hk3⟩
    have HB3 := Lib.hid hb3
    have HK3 := Lib.hid (HK2.out.trans hk3)
    clear hb3 hk3
    go_wp2_with fail
    go_end0
    exact ⟨⟨_, rfl⟩, HB3.out, HK3.out⟩
  | true =>
    rw [if_pos rfl]
    go_enter Tryd.func47, Tryd.ntmps47
    go_wp2_with fail
    refine (CW.out _).mono ?_
    rintro e w2 ⟨rfl, hb2⟩
    have HW2 := Lib.hid (HW1.out.below hb2 HW1.out.lt)
    have HS2 := Lib.hid (HS1.out.below hb2)
    have HK2 := Lib.hid (HK1.out.trans (Kept.of_below hb2 HS1.out.hBw))
    clear hb2
    go_wp2_with fail
    refine (CB40.out _ l HS2.out (by omega)).mono ?_
    rintro e w3 ⟨⟨_, rfl⟩, hb3, hk3⟩
    have HW3 := Lib.hid (hk3.bk HW2.out hwn (by decide))
    have HS3 := Lib.hid (HS2.out.step hb3 hk3)
    have HK3 := Lib.hid (HK2.out.trans hk3)
    have e0 := HW3.out.cell 0
    have e1 := HW3.out.cell 1
    have e2 := HW3.out.cell 2
    have e3 := HW3.out.cell 3
    have e4 := HW3.out.cell 4
    simp at e0 e1 e2 e3 e4
    clear hb3 hk3
    go_wp2_with fail
    refine (CI.out _ (l ++ [40]) HS3.out (by simp)).mono ?_
    rintro e w4 ⟨⟨_, rfl⟩, hb4, hk4⟩
    have HS4 := Lib.hid (HS3.out.step hb4 hk4)
    have HK4 := Lib.hid (HK3.out.trans hk4)
    clear hb4 hk4
    go_wp2_with fail
    refine (CB41.out _ (l ++ [40] ++ TX) HS4.out (by simp; omega)).mono ?_
    rintro e w5 ⟨⟨_, rfl⟩, hb5, hk5⟩
    have HB5 := Lib.hid hb5
    have HK5 := Lib.hid (HK4.out.trans hk5)
    clear hb5 hk5
    go_wp2_with fail
    go_end0
    exact ⟨⟨_, rfl⟩, by simpa using HB5.out, HK5.out⟩
set_option maxHeartbeats 1000000 in
theorem first_of (k : Int) (nm tx : ByteArray) (st : List (Int × Int)) (sb : List Nd.T) (ih : ∀ t ∈ sb, WriteOk t) (w0 w : World) (v : Value) (B b : Nat) (l : List UInt8) (hS : Seat w0 w B b l) (hA : Nd.At w0 (.mk k nm tx st sb) v) (hl : l.length + 10 + 30 * Nd.fullL sb ≤ 1099511627) :
    Calls Tryd.prog 32 #[.pointer (some ⟨b, 0, none⟩), v] w (Puts B b l (Nd.firstT k sb) w) := by
  have hsub := hA.subs
  unfold Nd.At at hA
  obtain ⟨sa, sc, ba, bc, rfl, _, _, _, hsc, hbc, _, _⟩ := hA
  have e0 : Nd.subsA (.agg #[.int .u8 k, .string nm, .string tx, .slice sa st.length sc, .slice ba sb.length bc]) = ba := rfl
  rw [e0] at hsub
  obtain ⟨SL, hSL⟩ : ∃ k, st.length = k := ⟨_, rfl⟩
  rw [hSL] at hsc ⊢
  have HS1 := Lib.hid (hS.alloc (.cells #[.int .u8 k, .string nm, .string tx, .slice sa SL sc, .slice ba sb.length bc] 26))
  have HK1 := Lib.hid (Kept.alloc (b := b) w hS.hBw (.cells #[.int .u8 k, .string nm, .string tx, .slice sa SL sc, .slice ba sb.length bc] 26))
  cases sb with
  | nil =>
    have HB1 := Lib.hid HS1.out.bd
    have e1 : Nd.firstT k [] = [] := by simp only [Nd.firstT]
    rw [e1]
    simp only [List.length_nil] at HS1 HK1 HB1 hbc ⊢
    clear hS hSL
    go_enter Tryd.func32, Tryd.ntmps32
    go_wp2_with fail
    go_end0
    exact ⟨⟨_, rfl⟩, by simpa using HB1.out, HK1.out⟩
  | cons t r =>
    have hfl : Nd.fullL (t :: r) = Nd.full t + Nd.fullL r := by simp only [Nd.fullL]
    obtain ⟨g, o, v0, v1, v2, v3, v4, rfl, h0, h1, h2, h3, h4, hv, hAs⟩ := hsub.val 0 t rfl
    have C := fun (wx : World) (h : Seat w0 wx B b l) => sub_of t (ih t (by simp)) k w0 wx _ B b l h hAs (by omega)
    rw [← Nd.firstT_cons k t r] at C
    generalize Nd.firstT k (t :: r) = FT at *
    have c0 := Nd.cell_keeps HS1.out.bel h0
    have c1 := Nd.cell_keeps HS1.out.bel h1
    have c2 := Nd.cell_keeps HS1.out.bel h2
    have c3 := Nd.cell_keeps HS1.out.bel h3
    have c4 := Nd.cell_keeps HS1.out.bel h4
    simp only [Nat.zero_mul, Nat.add_zero] at c0 c1 c2 c3 c4
    obtain ⟨sa1, sc1, ba1, bc1, rfl, rfl, rfl, rfl, rfl⟩ := hAs.five
    obtain ⟨N, hN⟩ : ∃ N, (t :: r).length = N := ⟨_, rfl⟩
    have hN1 : 1 ≤ N := by rw [← hN]; simp
    rw [hN] at HS1 HK1 hbc c0 c1 c2 c3 c4 ⊢
    have n0 : decide ((0 : Int) < (N : Int)) = true := by rw [decide_eq_true_iff]; omega
    have n1 : (0 : Int) < (N : Int) := by omega
    have n2 : decide (0 < N) = true := by rw [decide_eq_true_iff]; omega
    generalize t.kind = sk at *
    generalize t.name = sn at *
    generalize t.text = sx at *
    generalize t.set.length = sl at *
    generalize t.subs.length = sm at *
    replace C := Lib.hid C
    clear hS hSL h0 h1 h2 h3 h4 hv hAs hN hsub ih
    go_enter Tryd.func32, Tryd.ntmps32
    go_wp2_with fail
    go_region_with (refine (C.out _ (by first | exact HS1.out | exact HS1.out.below ⟨rfl, rfl, rfl, Nat.le_refl _, fun _ _ => rfl⟩)).mono ?_; rintro e w3 ⟨⟨_, rfl⟩, hb3, hk3⟩)
    all_goals
      go_end0
      exact ⟨⟨_, rfl⟩, hb3, (HK1.out.trans (Kept.drew _ _ _)).trans hk3⟩
set_option maxHeartbeats 2000000 in
theorem join_of (k : Int) (nm tx : ByteArray) (st : List (Int × Int)) (sb : List Nd.T) (ih : ∀ t ∈ sb, WriteOk t) (sep : ByteArray) (hsep : sep.size ≤ 3) (w0 w : World) (v : Value) (B b : Nat) (l : List UInt8) (hS : Seat w0 w B b l) (hA : Nd.At w0 (.mk k nm tx st sb) v) (hl : l.length + 20 + 30 * Nd.fullL sb ≤ 1099511627) :
    Calls Tryd.prog 30 #[.pointer (some ⟨b, 0, none⟩), v, .string sep] w (Puts B b l (Nd.joinT k sep.data.toList true sb) w) := by
  have hsub := hA.subs
  unfold Nd.At at hA
  obtain ⟨sa, sc, ba, bc, rfl, _, _, _, hsc, hbc, _, _⟩ := hA
  have e0 : Nd.subsA (.agg #[.int .u8 k, .string nm, .string tx, .slice sa st.length sc, .slice ba sb.length bc]) = ba := rfl
  rw [e0] at hsub
  obtain ⟨SL, hSL⟩ : ∃ k, st.length = k := ⟨_, rfl⟩
  obtain ⟨SN, hSN⟩ : ∃ k, sb.length = k := ⟨_, rfl⟩
  have HSN := Lib.hid hSN
  rw [hSL] at hsc ⊢
  rw [hSN] at hbc ⊢
  have n1 : (SN : Int) ≤ 9223372036854775807 := by omega
  have HS1 := Lib.hid (hS.alloc (.cells #[.int .u8 k, .string nm, .string tx, .slice sa SL sc, .slice ba SN bc] 26))
  have HK1 := Lib.hid (Kept.alloc (b := b) w hS.hBw (.cells #[.int .u8 k, .string nm, .string tx, .slice sa SL sc, .slice ba SN bc] 26))
  have HW1 := Lib.hid (Bk.made w 26 #[.int .u8 k, .string nm, .string tx, .slice sa SL sc, .slice ba SN bc])
  have hwn : w.heap.size ≠ b := by have := hS.lt; omega
  have hwb := hS.lt
  obtain ⟨LL, hLL⟩ : ∃ LL, Nd.joinT k sep.data.toList true sb = LL := ⟨_, rfl⟩
  have HLL := Lib.hid hLL
  rw [hLL]
  have hseps : sep.data.toList.length ≤ 3 := by rw [← Lib.size_eq]; exact hsep
  have CP := fun (wx : World) (dd : List UInt8) (h : Seat w0 wx B b dd) (hd : dd.length ≤ 1099511627776) => putText B b dd sep wx h.bd hd (by omega) h.hBw
  have HP : Hid _ := Lib.hid CP
  clear hS hSL hSN hLL CP
  go_enter Tryd.func30, Tryd.ntmps30
  go_wp2_with fail
  go_loopw [11] (fun i wr => ∃ (p : Nat) (dn : List UInt8), p ≤ SN ∧ i = .int .i64 p ∧ Hid (dn ++ Nd.joinT k sep.data.toList (decide (p = 0)) (sb.drop p) = LL) ∧ dn.length + 30 * Nd.fullL (sb.drop p) ≤ 30 * Nd.fullL sb ∧ Seat w0 wr B b (l ++ dn) ∧ Kept B b w wr ∧ Bk wr w.heap.size 26 #[.int .u8 k, .string nm, .string tx, .slice sa SL sc, .slice ba SN bc]) (fun i _ => SN - (intOf i).toNat)
  case atStart => exact ⟨0, [], Nat.zero_le _, rfl, Lib.hid (by rw [List.drop_zero, List.nil_append]; exact HLL.out), by simp, by rw [List.append_nil]; exact HS1.out, HK1.out, HW1.out⟩
  case round =>
    obtain ⟨p, dn, hp, rfl, hd, hdl, hS, hkp, hbox⟩ := hrel
    have HS := Lib.hid hS
    have HK := Lib.hid hkp
    have hwz : w.heap.size ≤ wr.heap.size := hkp.1.size
    have hxb : wr.heap.size ≠ b := by have := hS.lt; omega
    clear hS hkp
    by_cases hlt : p < SN
    · have d0 : decide (p < SN) = true := by rw [decide_eq_true_iff]; exact hlt
      have a0 : (p : Int) < (SN : Int) := by omega
      obtain ⟨s, hs⟩ : ∃ s, sb[p]? = some s := ⟨_, List.getElem?_eq_getElem (by rw [HSN.out]; exact hlt)⟩
      obtain ⟨g, o, v0, v1, v2, v3, v4, rfl, h0, h1, h2, h3, h4, hv, hAs⟩ := hsub.val p s hs
      have e0 := Nd.cell_keeps HS.out.bel h0
      have e1 := Nd.cell_keeps HS.out.bel h1
      have e2 := Nd.cell_keeps HS.out.bel h2
      have e3 := Nd.cell_keeps HS.out.bel h3
      have e4 := Nd.cell_keeps HS.out.bel h4
      have hd2 := hd.out
      rw [Nd.drop_some hs, Nd.joinT_cons] at hd2
      rw [Nd.drop_some hs] at hdl
      have hfl : Nd.fullL (s :: sb.drop (p + 1)) = Nd.full s + Nd.fullL (sb.drop (p + 1)) := by simp only [Nd.fullL]
      have hsl := Nd.subT_len k s
      have htl := Nd.txt_len s
      have C := fun (wx : World) (dd : List UInt8) (h : Seat w0 wx B b dd) (hdd : dd.length ≤ (l ++ dn).length + 3) => sub_of s (ih s (List.mem_of_getElem? hs)) k w0 wx _ B b dd h hAs (by rw [List.length_append] at hdd; omega)
      rw [hfl] at hdl
      generalize Nd.subT k s = ST at *
      obtain ⟨sa1, sc1, ba1, bc1, rfl, rfl, rfl, rfl, rfl⟩ := hAs.five
      have HW2 := Lib.hid (hbox.alloc (.cells #[.int .u8 s.kind, .string s.name, .string s.text, .slice sa1 s.set.length sc1, .slice ba1 s.subs.length bc1] 26))
      have HX2 := Lib.hid (Bk.made wr 26 #[.int .u8 s.kind, .string s.name, .string s.text, .slice sa1 s.set.length sc1, .slice ba1 s.subs.length bc1])
      have HS2 := Lib.hid (HS.out.alloc (.cells #[.int .u8 s.kind, .string s.name, .string s.text, .slice sa1 s.set.length sc1, .slice ba1 s.subs.length bc1] 26))
      have HK2 := Lib.hid (HK.out.trans (Kept.alloc (b := b) wr HS.out.hBw (.cells #[.int .u8 s.kind, .string s.name, .string s.text, .slice sa1 s.set.length sc1, .slice ba1 s.subs.length bc1] 26)))
      generalize s.kind = sk at *
      generalize s.name = sn at *
      generalize s.text = sx at *
      generalize s.set.length = sl at *
      generalize s.subs.length = sm at *
      replace C := Lib.hid C
      have c0 := HW2.out.cell 0
      simp at c0
      clear h0 h1 h2 h3 h4 hv hAs hs hfl hd hbox
      by_cases hz : p = 0
      · have d1 : decide ((0 : Int) < (p : Int)) = false := by rw [decide_eq_false_iff_not]; omega
        have d2 : decide (0 < p) = false := by rw [decide_eq_false_iff_not]; omega
        rw [decide_eq_true hz, if_pos rfl, List.nil_append, ← List.append_assoc] at hd2
        have HD := Lib.hid (show dn ++ ST ++ Nd.joinT k sep.data.toList (decide (p + 1 = 0)) (sb.drop (p + 1)) = LL by rw [decide_eq_false (by omega)]; exact hd2)
        have f0 := HX2.out.cell 0
        have f1 := HX2.out.cell 1
        have f2 := HX2.out.cell 2
        have f3 := HX2.out.cell 3
        have f4 := HX2.out.cell 4
        simp at f0 f1 f2 f3 f4
        clear hd2 hz
        go_wp2_with fail
        refine (C.out _ (l ++ dn) HS2.out (by omega)).mono ?_
        rintro e w3 ⟨⟨_, rfl⟩, hb3, hk3⟩
        have HS3 := Lib.hid (HS2.out.step hb3 hk3)
        have HK3 := Lib.hid (HK2.out.trans hk3)
        have HW3 := Lib.hid (hk3.bk HW2.out hwn (by decide))
        clear hb3 hk3
        go_wp2_with fail
        exact ⟨⟨p + 1, dn ++ ST, by omega, by go_num, HD, by simp; omega, by rw [← List.append_assoc]; exact HS3.out, HK3.out, HW3.out⟩, by simp [intOf]; omega⟩
      · have d1 : decide ((0 : Int) < (p : Int)) = true := by rw [decide_eq_true_iff]; omega
        have d2 : decide (0 < p) = true := by rw [decide_eq_true_iff]; omega
        rw [decide_eq_false hz, if_neg (by simp), ← List.append_assoc, ← List.append_assoc] at hd2
        have HD := Lib.hid (show dn ++ sep.data.toList ++ ST ++ Nd.joinT k sep.data.toList (decide (p + 1 = 0)) (sb.drop (p + 1)) = LL by rw [decide_eq_false (by omega)]; exact hd2)
        clear hd2
        go_wp2_with fail
        refine (HP.out _ (l ++ dn) HS2.out (by simp; omega)).mono ?_
        rintro e w3 ⟨⟨_, rfl⟩, hb3, hk3⟩
        have HS3 := Lib.hid (HS2.out.step hb3 hk3)
        have HK3 := Lib.hid (HK2.out.trans hk3)
        have HW3 := Lib.hid (hk3.bk HW2.out hwn (by decide))
        have HX3 := Lib.hid (hk3.bk HX2.out hxb (by decide))
        have g0 := HW3.out.cell 0
        have f0 := HX3.out.cell 0
        have f1 := HX3.out.cell 1
        have f2 := HX3.out.cell 2
        have f3 := HX3.out.cell 3
        have f4 := HX3.out.cell 4
        simp at g0 f0 f1 f2 f3 f4
        clear hb3 hk3
        go_wp2_with fail
        refine (C.out _ (l ++ dn ++ sep.data.toList) HS3.out (by simp only [List.length_append]; omega)).mono ?_
        rintro e w4 ⟨⟨_, rfl⟩, hb4, hk4⟩
        have HS4 := Lib.hid (HS3.out.step hb4 hk4)
        have HK4 := Lib.hid (HK3.out.trans hk4)
        have HW4 := Lib.hid (hk4.bk HW3.out hwn (by decide))
        clear hb4 hk4
        go_wp2_with fail
        exact ⟨⟨p + 1, dn ++ sep.data.toList ++ ST, by omega, by go_num, HD, by simp only [List.length_append]; omega, by simpa using HS4.out, HK4.out, HW4.out⟩, by simp [intOf]; omega⟩
    · have d0 : decide (p < SN) = false := by rw [decide_eq_false_iff_not]; exact hlt
      have hfin : dn = LL := by
        have := hd.out
        rw [List.drop_eq_nil_of_le (by rw [HSN.out]; omega)] at this
        simpa [Nd.joinT] using this
      subst hfin
      clear hd
      go_wp2_with fail
      go_end0
      exact ⟨⟨_, rfl⟩, HS.out.bd, HK.out⟩
end Go.Proofs.YthfkodimafmmgaaDoor
