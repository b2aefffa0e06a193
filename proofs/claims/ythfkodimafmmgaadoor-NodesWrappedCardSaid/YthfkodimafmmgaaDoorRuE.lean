/- strings.IndexRune in the eight signs that are escaped by themselves, whatever the rune. -/
import Derived.Test.YthfkodimafmmgaaDoorRuD
import Derived.Test.YthfkodimafmmgaaDoorShelf
import Derived.Lib.OthersKept
namespace Go.Proofs.YthfkodimafmmgaaDoor
open Go Go.RowKit Ru
set_option maxRecDepth 100000

abbrev meant : ByteArray := ⟨#[10, 13, 9, 92, 39, 93, 45, 91]⟩
theorem ixb_none (a : Nat) (x : UInt8) (h : 128 ≤ x.toNat) (ha : a ≤ 8) : Lib.indexByte (meant.extract a 8).data.toList x = -1 := by
  have key : ∀ (l : List UInt8), (∀ b ∈ l, b.toNat < 128) → Lib.indexByte l x = -1 := by
    intro l
    induction l with
    | nil => intro _; rfl
    | cons b l ih =>
      intro hl
      unfold Lib.indexByte
      have h1 := hl b (by simp)
      have hne : (b == x) = false := by
        rw [beq_eq_false_iff_ne]
        intro e; subst e; omega
      rw [hne, ih (fun c hc => hl c (by simp [hc]))]
      rfl
  refine key _ ?_
  have : ∀ k : Fin 9, ∀ b ∈ (meant.extract k.val 8).data.toList, b.toNat < 128 := by decide
  exact this ⟨a, by omega⟩
/-- A quiet call in a world that draws have already turned. -/
theorem quiet_on {P : Program} {f : FuncId} {args : Array Value} {w : World} {a n : Nat} {v : Value}
    (h : Calls P f args (w.drewN (a + n)) fun e w' => e = .returned v ∧ w' = w.drewN (a + n)) :
    Calls P f args (w.drewN (a + n)) fun e w'' => e = .returned v ∧ ∃ m, w'' = w.drewN (a + m) :=
  h.mono fun _ _ ⟨he, hm⟩ => ⟨he, n, hm⟩
set_option maxRecDepth 100000 in
set_option maxHeartbeats 1000000 in
theorem IndexRune_2 (r : Int) (w : World) (h : Go.validRune r = true) (hne : r ≠ 65533) (h0 : 128 ≤ r) (h1 : r < 2048) :
    Calls Tryd.prog 64 #[.string meant, .int .i32 r] w fun e w' => e = .returned (.int .i64 (-1)) ∧ ∃ m, w' = w.drewN m := by
  obtain ⟨x0, x1, hen, hx1⟩ : ∃ x0 x1 : UInt8, Utf8.encode r = ⟨#[x0, x1]⟩ ∧ 128 ≤ x1.toNat := ⟨_, _, encode_2 h0 h1, by simp; omega⟩
  have H := Lib.hid h
  obtain ⟨v, hv⟩ : ∃ v : Int, v = (x1.toNat : Int) := ⟨_, rfl⟩
  have hi1 : ∀ wx, (Instr.index 9 (.string meant) (.int .i64 1)).run Tryd.prog wx = .ok (.int .u8 13) wx := fun _ => by kernel_rfl
  have hi2 : ∀ wx, (Instr.index 9 (.string ⟨#[x0, x1]⟩) (.int .i64 1)).run Tryd.prog wx = .ok (.int .u8 v) wx := fun _ => by rw [hv]; kernel_rfl
  have hsl : ∀ wx, (Instr.slice 9 (.string meant) (some (.int .i64 2)) none none).run Tryd.prog wx = .ok (.string (meant.extract 2 8)) wx := fun _ => by kernel_rfl
  have HC : Hid (∀ wx, Calls Tryd.prog 37 #[.string (meant.extract 2 8), .int .u8 v] wx fun e w' => e = .returned (.int .i64 (-1)) ∧ w' = wx) := by
    refine Lib.hid fun wx => (Tryd.strings_IndexByte _ _ wx).mono fun e w' ⟨he, hw⟩ => ⟨?_, hw⟩
    rw [he, hv]
    have e1 : ((x1.toNat : Int)).toNat.toUInt8 = x1 := by simp
    rw [e1, ixb_none 2 x1 hx1 (by omega)]
  have t1 : (r == 65533) = false := by rw [beq_eq_false_iff_ne]; omega
  have t2 : (13 != v) = true := by rw [bne_iff_ne]; omega
  have t3 : decide (r < 128) = false := by rw [decide_eq_false_iff_not]; omega
  clear hx1 hv h hne
  generalize (⟨#[10, 13, 9, 92, 39, 93, 45, 91]⟩ : ByteArray).extract 2 8 = sl at *
  go_enter Tryd.func64, Tryd.ntmps64
  go_wp2_with (go_at_call 63; refine (validRune_yes _ _ H.out).mono ?_; rintro e w' ⟨rfl, rfl⟩)
  go_step3
  go_wp2
  refine wp_loop_rounds 1 ?_
  rw [rounds_succ]
  go_wp2
  go_step3
  go_wp2
  go_quiet (fail)
  go_wp2
  go_quiet ((go_at_call 37; exact quiet_on (HC.out _)))
  go_wp2
  rw [Exit.noGoto_ret]
  go_wp2
  rw [Exit.noGoto_ret]
  go_ret
  exact ⟨rfl, _, rfl⟩
set_option maxRecDepth 100000 in
set_option maxHeartbeats 1000000 in
theorem IndexRune_3 (r : Int) (w : World) (h : Go.validRune r = true) (hne : r ≠ 65533) (h0 : 2048 ≤ r) (h1 : r < 65536) :
    Calls Tryd.prog 64 #[.string meant, .int .i32 r] w fun e w' => e = .returned (.int .i64 (-1)) ∧ ∃ m, w' = w.drewN m := by
  obtain ⟨x0, x1, x2, hen, hx1⟩ : ∃ x0 x1 x2 : UInt8, Utf8.encode r = ⟨#[x0, x1, x2]⟩ ∧ 128 ≤ x2.toNat := ⟨_, _, _, encode_3 h h0 h1, by simp; omega⟩
  have H := Lib.hid h
  obtain ⟨v, hv⟩ : ∃ v : Int, v = (x2.toNat : Int) := ⟨_, rfl⟩
  have hi1 : ∀ wx, (Instr.index 9 (.string meant) (.int .i64 2)).run Tryd.prog wx = .ok (.int .u8 9) wx := fun _ => by kernel_rfl
  have hi2 : ∀ wx, (Instr.index 9 (.string ⟨#[x0, x1, x2]⟩) (.int .i64 2)).run Tryd.prog wx = .ok (.int .u8 v) wx := fun _ => by rw [hv]; kernel_rfl
  have hsl : ∀ wx, (Instr.slice 9 (.string meant) (some (.int .i64 3)) none none).run Tryd.prog wx = .ok (.string (meant.extract 3 8)) wx := fun _ => by kernel_rfl
  have HC : Hid (∀ wx, Calls Tryd.prog 37 #[.string (meant.extract 3 8), .int .u8 v] wx fun e w' => e = .returned (.int .i64 (-1)) ∧ w' = wx) := by
    refine Lib.hid fun wx => (Tryd.strings_IndexByte _ _ wx).mono fun e w' ⟨he, hw⟩ => ⟨?_, hw⟩
    rw [he, hv]
    have e1 : ((x2.toNat : Int)).toNat.toUInt8 = x2 := by simp
    rw [e1, ixb_none 3 x2 hx1 (by omega)]
  have t1 : (r == 65533) = false := by rw [beq_eq_false_iff_ne]; omega
  have t2 : (9 != v) = true := by rw [bne_iff_ne]; omega
  have t3 : decide (r < 128) = false := by rw [decide_eq_false_iff_not]; omega
  clear hx1 hv h hne
  generalize (⟨#[10, 13, 9, 92, 39, 93, 45, 91]⟩ : ByteArray).extract 3 8 = sl at *
  go_enter Tryd.func64, Tryd.ntmps64
  go_wp2_with (go_at_call 63; refine (validRune_yes _ _ H.out).mono ?_; rintro e w' ⟨rfl, rfl⟩)
  go_step3
  go_wp2
  refine wp_loop_rounds 1 ?_
  rw [rounds_succ]
  go_wp2
  go_step3
  go_wp2
  go_quiet (fail)
  go_wp2
  go_quiet ((go_at_call 37; exact quiet_on (HC.out _)))
  go_wp2
  rw [Exit.noGoto_ret]
  go_wp2
  rw [Exit.noGoto_ret]
  go_ret
  exact ⟨rfl, _, rfl⟩
set_option maxRecDepth 100000 in
set_option maxHeartbeats 1000000 in
theorem IndexRune_4 (r : Int) (w : World) (h : Go.validRune r = true) (hne : r ≠ 65533) (h0 : 65536 ≤ r) (h1 : r ≤ 1114111) :
    Calls Tryd.prog 64 #[.string meant, .int .i32 r] w fun e w' => e = .returned (.int .i64 (-1)) ∧ ∃ m, w' = w.drewN m := by
  obtain ⟨x0, x1, x2, x3, hen, hx1⟩ : ∃ x0 x1 x2 x3 : UInt8, Utf8.encode r = ⟨#[x0, x1, x2, x3]⟩ ∧ 128 ≤ x3.toNat := ⟨_, _, _, _, encode_4 h0 h1, by simp; omega⟩
  have H := Lib.hid h
  obtain ⟨v, hv⟩ : ∃ v : Int, v = (x3.toNat : Int) := ⟨_, rfl⟩
  have hi1 : ∀ wx, (Instr.index 9 (.string meant) (.int .i64 3)).run Tryd.prog wx = .ok (.int .u8 92) wx := fun _ => by kernel_rfl
  have hi2 : ∀ wx, (Instr.index 9 (.string ⟨#[x0, x1, x2, x3]⟩) (.int .i64 3)).run Tryd.prog wx = .ok (.int .u8 v) wx := fun _ => by rw [hv]; kernel_rfl
  have hsl : ∀ wx, (Instr.slice 9 (.string meant) (some (.int .i64 4)) none none).run Tryd.prog wx = .ok (.string (meant.extract 4 8)) wx := fun _ => by kernel_rfl
  have HC : Hid (∀ wx, Calls Tryd.prog 37 #[.string (meant.extract 4 8), .int .u8 v] wx fun e w' => e = .returned (.int .i64 (-1)) ∧ w' = wx) := by
    refine Lib.hid fun wx => (Tryd.strings_IndexByte _ _ wx).mono fun e w' ⟨he, hw⟩ => ⟨?_, hw⟩
    rw [he, hv]
    have e1 : ((x3.toNat : Int)).toNat.toUInt8 = x3 := by simp
    rw [e1, ixb_none 4 x3 hx1 (by omega)]
  have t1 : (r == 65533) = false := by rw [beq_eq_false_iff_ne]; omega
  have t2 : (92 != v) = true := by rw [bne_iff_ne]; omega
  have t3 : decide (r < 128) = false := by rw [decide_eq_false_iff_not]; omega
  clear hx1 hv h hne
  generalize (⟨#[10, 13, 9, 92, 39, 93, 45, 91]⟩ : ByteArray).extract 4 8 = sl at *
  go_enter Tryd.func64, Tryd.ntmps64
  go_wp2_with (go_at_call 63; refine (validRune_yes _ _ H.out).mono ?_; rintro e w' ⟨rfl, rfl⟩)
  go_step3
  go_wp2
  refine wp_loop_rounds 1 ?_
  rw [rounds_succ]
  go_wp2
  go_step3
  go_wp2
  go_quiet (fail)
  go_wp2
  go_quiet ((go_at_call 37; exact quiet_on (HC.out _)))
  go_wp2
  rw [Exit.noGoto_ret]
  go_wp2
  rw [Exit.noGoto_ret]
  go_ret
  exact ⟨rfl, _, rfl⟩
set_option maxRecDepth 100000 in
set_option maxHeartbeats 1000000 in
/-- At the rune that stands for what is none: the eight signs, one by one. -/
theorem IndexRune_e (w : World) :
    Calls Tryd.prog 64 #[.string meant, .int .i32 65533] w fun e w' => e = .returned (.int .i64 (-1)) ∧ Below w.heap.size w w' := by
  go_enter Tryd.func64, Tryd.ntmps64
  go_wp2
  go_loopw [5, 6] (fun _ _ wr => ∃ pos : Nat, pos ≤ 8 ∧ wr.heap[w.heap.size]? = some (.stringIter meant pos) ∧ Below w.heap.size w wr) (fun _ _ wr => 8 - wr.iterPos w.heap.size)
  case atStart => exact ⟨0, by omega, World.iter_heap w meant 0, (Below.refl _ w).alloc (Nat.le_refl _) _⟩
  case round =>
    obtain ⟨pos, hp, hit, hb⟩ := hrel
    by_cases hp8 : pos < 8
    · have hd : ∃ c : Nat, Utf8.decode meant pos = (c, 1) ∧ c < 128 := by
        have : ∀ k : Fin 8, (Utf8.decode meant k.val).2 = 1 ∧ (Utf8.decode meant k.val).1 < 128 := by decide
        have h2 := this ⟨pos, hp8⟩
        exact ⟨_, Prod.ext rfl h2.1, h2.2⟩
      obtain ⟨c, hd, hc⟩ := hd
      have hnx := fun ty => Lib.run_next_any_at (P := Tryd.prog) wr w.heap.size meant pos ty hit hp8
      rw [hd] at hnx
      obtain ⟨ci, hci⟩ : ∃ ci : Int, ci = (c : Int) := ⟨_, rfl⟩
      have t : (ci == 65533) = false := by rw [beq_eq_false_iff_ne]; omega
      dsimp only at hnx
      rw [← hci] at hnx
      have hit2 := Lib.iterAt_heap wr w.heap.size meant pos (pos + 1) hit
      have hb2 := Lib.below_iterAt hb (Nat.le_refl _) meant (pos + 1)
      have hps : wr.iterPos w.heap.size = pos := by simp [World.iterPos, hit]
      have hps2 : (wr.iterAt w.heap.size meant (pos + 1)).iterPos w.heap.size = pos + 1 := by simp [World.iterPos, hit2]
      have HM := Lib.hid (show 8 - (wr.iterAt w.heap.size meant (pos + 1)).iterPos w.heap.size < 8 - wr.iterPos w.heap.size by rw [hps, hps2]; omega)
      have HI := Lib.hid hit2
      clear hci hd hit hit2 hps hps2 hb
      go_wp2
      exact ⟨⟨pos + 1, by omega, HI.out, hb2⟩, HM.out⟩
    · have hnx := fun ty => Lib.run_next_end_at (P := Tryd.prog) wr w.heap.size meant pos ty hit (show ¬ pos < 8 from hp8)
      clear hit
      go_wp2
      go_ret
      exact ⟨rfl, hb⟩
end Go.Proofs.YthfkodimafmmgaaDoor
