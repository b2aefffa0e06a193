/- strings.Trim at a cutset of ASCII bytes: its laying, typed out; whether anything is left. -/
import Derived.Shelf.Strings.SlTrimAscii
import Derived.Shelf.LaysC
import Derived.KernelRfl
import Derived.Below
import Derived.Test.YthfkodimafmmgaaGreatDoorProg
namespace Go.Proofs
open Go.Shelf
def Tryz.tr_ren : Go.Shelf.Ren := ⟨fun | 119 => 80 | 120 => 91 | 137 => 55 | 151 => 85 | 152 => 81 | 160 => 56 | 197 => 76 | 217 => 68 | 224 => 88 | 225 => 89 | 227 => 71 | 228 => 84 | 231 => 69 | 232 => 70 | 233 => 72 | 234 => 73 | 235 => 74 | 236 => 75 | 260 => 87 | 266 => 83 | 271 => 86 | n => n, fun | 0 => 0 | 3 => 3 | 4 => 4 | 5 => 5 | 9 => 9 | 21 => 21 | 46 => 101 | 105 => 92 | 116 => 87 | 117 => 88 | 119 => 103 | 124 => 91 | 138 => 105 | 139 => 106 | n => n, fun | 3 => 1 | 4 => 2 | n => n⟩
theorem Tryz.tr_lays : Go.Proofs.Lays.n160 Tryz.prog Tryz.tr_ren := {
  mixed := by kernel_rfl
  f119 := Tryz.func80.trans (congrArg some (by kernel_rfl))
  f120 := Tryz.func91.trans (congrArg some (by kernel_rfl))
  f137 := Tryz.func55.trans (congrArg some (by kernel_rfl))
  f151 := Tryz.func85.trans (congrArg some (by kernel_rfl))
  f152 := Tryz.func81.trans (congrArg some (by kernel_rfl))
  f160 := Tryz.func56.trans (congrArg some (by kernel_rfl))
  f197 := Tryz.func76.trans (congrArg some (by kernel_rfl))
  f217 := Tryz.func68.trans (congrArg some (by kernel_rfl))
  f224 := Tryz.func88.trans (congrArg some (by kernel_rfl))
  f225 := Tryz.func89.trans (congrArg some (by kernel_rfl))
  f227 := Tryz.func71.trans (congrArg some (by kernel_rfl))
  f228 := Tryz.func84.trans (congrArg some (by kernel_rfl))
  f231 := Tryz.func69.trans (congrArg some (by kernel_rfl))
  f232 := Tryz.func70.trans (congrArg some (by kernel_rfl))
  f233 := Tryz.func72.trans (congrArg some (by kernel_rfl))
  f234 := Tryz.func73.trans (congrArg some (by kernel_rfl))
  f235 := Tryz.func74.trans (congrArg some (by kernel_rfl))
  f236 := Tryz.func75.trans (congrArg some (by kernel_rfl))
  f260 := Tryz.func87.trans (congrArg some (by kernel_rfl))
  f266 := Tryz.func83.trans (congrArg some (by kernel_rfl))
  f271 := Tryz.func86.trans (congrArg some (by kernel_rfl))
  t0 := Tryz.underlying0
  a0 := Tryz.isAgg0
  z0 := Tryz.sizeOf0
  v0 := Tryz.zeroValue0
  t3 := Tryz.underlying3
  a3 := Tryz.isAgg3
  z3 := Tryz.sizeOf3
  v3 := Tryz.zeroValue3
  t4 := Tryz.underlying4
  a4 := Tryz.isAgg4
  z4 := Tryz.sizeOf4
  v4 := Tryz.zeroValue4
  t5 := Tryz.underlying5
  a5 := Tryz.isAgg5
  z5 := Tryz.sizeOf5
  v5 := Tryz.zeroValue5
  t9 := Tryz.underlying9
  a9 := Tryz.isAgg9
  z9 := Tryz.sizeOf9
  v9 := Tryz.zeroValue9
  t21 := Tryz.underlying21
  a21 := Tryz.isAgg21
  z21 := Tryz.sizeOf21
  v21 := Tryz.zeroValue21
  t46 := Tryz.underlying101
  a46 := Tryz.isAgg101
  z46 := Tryz.sizeOf101
  v46 := Tryz.zeroValue101
  t105 := Tryz.underlying92
  a105 := Tryz.isAgg92
  z105 := Tryz.sizeOf92
  v105 := Tryz.zeroValue92
  t116 := Tryz.underlying87
  a116 := Tryz.isAgg87
  z116 := Tryz.sizeOf87
  t117 := Tryz.underlying88
  a117 := Tryz.isAgg88
  z117 := Tryz.sizeOf88
  v117 := Tryz.zeroValue88
  t119 := Tryz.underlying103
  a119 := Tryz.isAgg103
  z119 := Tryz.sizeOf103
  t124 := Tryz.underlying91
  a124 := Tryz.isAgg91
  z124 := Tryz.sizeOf91
  v124 := Tryz.zeroValue91
  t138 := Tryz.underlying105
  a138 := Tryz.isAgg105
  z138 := Tryz.sizeOf105
  v138 := Tryz.zeroValue105
  t139 := Tryz.underlying106
  a139 := Tryz.isAgg106
  z139 := Tryz.sizeOf106
  v139 := Tryz.zeroValue106
  g3 := by kernel_rfl
  g4 := by kernel_rfl }
theorem Tryz.tr_zero (w : World) : (zeroValue 87).run Tryz.prog w = .ok (.agg (Array.replicate 256 (.bool false))) w := (Tryz.zeroValue87 w).trans (congrArg (fun v => Result.ok v w) (by kernel_rfl))
open Go.RowKit in
theorem Tryz.Trim_set (s cutset : ByteArray) (w : World) (h2 : 2 ≤ cutset.size) (h0 : 0 < s.size) (hs : s.size ≤ 9223372036854775807) (hcs : cutset.size < 4294967281) (hascii : ∀ (j : Nat) b, cutset.data.toList[j]? = some b → b.toNat < 128) :
    Calls Tryz.prog 56 #[.string s, .string cutset] w fun e w' => e = .returned (.string ⟨(Lib.trimS s.data.toList cutset.data.toList).toArray⟩) ∧ Below w.heap.size w w' :=
  (Any.strings_Trim_set Tryz.tr_lays Tryz.tr_zero (by kernel_rfl) s cutset w h2 h0 hs hcs hascii).mono fun e w' ⟨he, q, hq⟩ => ⟨he, by
    rw [hq]
    have hb : Below w.heap.size w ((w.alloc (.cells (Lib.setCells cutset.data.toList) 87)).alloc (.cells (Lib.setCells cutset.data.toList) 87)) := ((Below.refl _ w).alloc (Nat.le_refl _) _).alloc (by simp) _
    exact ⟨hb.os, hb.tape, hb.output, hb.size, hb.block⟩⟩
/-- Nothing is left just if all are in the set. -/
theorem trimS_nil (l cs : List UInt8) : Lib.trimS l cs = [] ↔ ∀ b ∈ l, cs.contains b = true := by
  have h1 : ∀ (p : UInt8 → Bool) (l : List UInt8), l.dropWhile p = [] ↔ ∀ b ∈ l, p b = true := by
    intro p l
    induction l with
    | nil => simp
    | cons c l ih =>
      by_cases hc : p c = true
      · simp [List.dropWhile, hc, ih]
      · simp [List.dropWhile, hc]
  have h2 : ∀ (p : UInt8 → Bool) (l : List UInt8), (∀ b ∈ (l.reverse.dropWhile p).reverse, p b = true) ↔ ∀ b ∈ l, p b = true := by
    intro p l
    constructor
    · intro h
      by_cases he : l.reverse.dropWhile p = []
      · intro b hb
        exact (h1 p l.reverse).1 he b (by simpa using hb)
      · exfalso
        have hne := List.head_dropWhile_not p he
        have := h ((l.reverse.dropWhile p).head he) (List.mem_reverse.2 (List.head_mem he))
        rw [this] at hne
        simp at hne
    · intro h b hb
      have hm : b ∈ l.reverse.dropWhile p := by simpa using hb
      exact h b (by simpa using (List.dropWhile_suffix p).subset hm)
  unfold Lib.trimS Lib.trimLeftS Lib.trimRightS
  rw [h1, h2]
end Go.Proofs
