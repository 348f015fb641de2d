import Derived.Shelf.Strings.Builder1
import Derived.Shelf.Strings.Builder2
import Derived.Shelf.Strings.OnBuilder
import Derived.Shelf.Strings.Trim
import Derived.Shelf.Small.Utf8
import Derived.Shelf.Small.Bits
import Derived.Shelf.Small.Strs
import Derived.Shelf.Small.Wraps
import Derived.Shelf.Strings.BuilderF
import Derived.Shelf.Strings.BuilderK
import Derived.Shelf.Utf8.RuneCount
import Derived.Shelf.Strings.Builder2Cap
import Derived.Shelf.Strconv.Itoa0
import Derived.Shelf.Strconv.Itoa1
import Derived.Shelf.LaysM
import Derived.Shelf.Strconv.Itoa2
import Derived.Shelf.Strconv.Itoa3
import Derived.Shelf.Strconv.Itoa4
import Derived.Shelf.Strconv.Clone
import Derived.Shelf.Strconv.SyntaxError
import Derived.Shelf.Strconv.Lower
import Derived.Shelf.Strconv.ParseUint10
import Derived.Shelf.Strconv.ParseUint10Empty
import Derived.Shelf.Strconv.RangeError
import Derived.Shelf.Strconv.ParseUintEmpty
import Derived.Shelf.Strconv.ParseUint10b64
import Derived.Shelf.Strconv.ParseUint10b32
import Derived.Shelf.Strconv.ParseUint10b16
import Derived.Shelf.Strconv.ParseUint10b8
import Derived.Shelf.Strings.Search1
import Derived.Shelf.Strings.Search2
import Derived.Shelf.Strings.Search3
import Derived.Shelf.Strings.Count
import Derived.Shelf.Strings.Shaped
import Derived.Shelf.Sort.Plain
import Derived.Shelf.Strings.Prefix
import Derived.Shelf.Strings.Split
import Derived.Shelf.Strings.SplitShaped
import Derived.Shelf.Unicode.Decode
import Derived.Shelf.Strings.Runes
import Derived.Shelf.Strings.RuneCount
import Derived.Shelf.Strings.IndexAny
import Derived.Shelf.Strings.AsciiSet
import Derived.Shelf.Strings.IndexAnyAll
import Derived.Shelf.Strings.Explode
import Derived.Shelf.Bits.Mul64
import Derived.Shelf.Strings.Repeat
import Derived.Shelf.Unicode.DecodeSlow
import Derived.Shelf.Unicode.DecodeAny
import Derived.Shelf.Unicode.DecodeLast
import Derived.Shelf.Slices.Equal
import Derived.Shelf.Slices.CompactS
import Derived.Shelf.Slices.Cells
import Derived.Shelf.Slices.In.SortNone
import Derived.Shelf.Slices.Empties2
import Derived.Ground.SlbCloneProg
import Derived.Shelf.Bytes.SlClone
import Derived.Test.YtcmjpkfinbakkaaGreatDoorProg
import Derived.Test.YtcmjpkfinbakkaaGreatDoorRows
import Derived.WalkKit
import Derived.WalkSpells
import Derived.WalkLawsBesides
import Derived.RegionTactic
import Derived.Lib.Hide
import Derived.Lib.IndexAny
import Derived.Lib.ConvBytes
import Derived.Deep.QuietTactic
import Derived.Deep.LoopGhost
import Derived.BigQuiet
import Derived.Laws.RangeString
import Derived.Laws.RangeAny
import Derived.WalkMore
import Derived.Handy
import Derived.Laws.Runes
import Derived.Lib.OthersKept
namespace Go.Proofs
open Go.Shelf
def Tryz.lays119_ren : Go.Shelf.Ren := ⟨fun | 119 => 177 | n => n, fun | 21 => 21 | 4 => 4 | n => n, fun | n => n⟩
theorem Tryz.lays119 : Go.Proofs.Lays.n119 Tryz.prog Tryz.lays119_ren := {
  mixed := by kernel_rfl
  f119 := Tryz.func177.trans (congrArg some (by kernel_rfl))
  t4 := Tryz.underlying4
  a4 := Tryz.isAgg4
  z4 := Tryz.sizeOf4
  v4 := Tryz.zeroValue4
  t21 := Tryz.underlying21
  a21 := Tryz.isAgg21
  z21 := Tryz.sizeOf21
  v21 := Tryz.zeroValue21 }
theorem Tryz.utf8_ValidRune (r : Int) (w : World) :
    Calls Tryz.prog 177 #[.int .i32 r] w fun e w' => e = .returned (.bool (Lib.validRune r)) ∧ w' = w := Any.utf8_ValidRune Tryz.lays119 r w
def Tryz.lays137_ren : Go.Shelf.Ren := ⟨fun | 137 => 176 | 217 => 221 | 266 => 261 | n => n, fun | 9 => 9 | 5 => 5 | 3 => 3 | n => n, fun | n => n⟩
theorem Tryz.lays137 : Go.Proofs.Lays.n137 Tryz.prog Tryz.lays137_ren := {
  mixed := by kernel_rfl
  f137 := Tryz.func176.trans (congrArg some (by kernel_rfl))
  f217 := Tryz.func221.trans (congrArg some (by kernel_rfl))
  f266 := Tryz.func261.trans (congrArg some (by kernel_rfl))
  t3 := Tryz.underlying3
  a3 := Tryz.isAgg3
  z3 := Tryz.sizeOf3
  v3 := Tryz.zeroValue3
  t5 := Tryz.underlying5
  a5 := Tryz.isAgg5
  z5 := Tryz.sizeOf5
  v5 := Tryz.zeroValue5
  t9 := Tryz.underlying9
  a9 := Tryz.isAgg9
  z9 := Tryz.sizeOf9
  v9 := Tryz.zeroValue9 }
open Go.RowKit in
theorem Tryz.strings_IndexByte (s : ByteArray) (c : Int) (w : World) :
    Calls Tryz.prog 176 #[.string s, .int .u8 c] w fun e w' => e = .returned (.int .i64 (Lib.indexByte s.data.toList c.toNat.toUInt8)) ∧ w' = w := Any.strings_IndexByte Tryz.lays137 s c w
def Tryz.lays152_ren : Go.Shelf.Ren := ⟨fun | 152 => 119 | 137 => 176 | 119 => 177 | 224 => 178 | 225 => 179 | 217 => 221 | 266 => 261 | n => n, fun | 9 => 9 | 21 => 21 | 3 => 3 | 4 => 4 | 5 => 5 | 0 => 0 | 46 => 108 | n => n, fun | n => n⟩
theorem Tryz.lays152 : Go.Proofs.Lays.n152 Tryz.prog Tryz.lays152_ren := {
  mixed := by kernel_rfl
  f119 := Tryz.func177.trans (congrArg some (by kernel_rfl))
  f137 := Tryz.func176.trans (congrArg some (by kernel_rfl))
  f152 := Tryz.func119.trans (congrArg some (by kernel_rfl))
  f217 := Tryz.func221.trans (congrArg some (by kernel_rfl))
  f224 := Tryz.func178.trans (congrArg some (by kernel_rfl))
  f225 := Tryz.func179.trans (congrArg some (by kernel_rfl))
  f266 := Tryz.func261.trans (congrArg some (by kernel_rfl))
  t0 := Tryz.underlying0
  a0 := Tryz.isAgg0
  z0 := Tryz.sizeOf0
  v0 := Tryz.zeroValue0
  t3 := Tryz.underlying3
  a3 := Tryz.isAgg3
  z3 := Tryz.sizeOf3
  v3 := Tryz.zeroValue3
  t4 := Tryz.underlying4
  a4 := Tryz.isAgg4
  z4 := Tryz.sizeOf4
  v4 := Tryz.zeroValue4
  t5 := Tryz.underlying5
  a5 := Tryz.isAgg5
  z5 := Tryz.sizeOf5
  v5 := Tryz.zeroValue5
  t9 := Tryz.underlying9
  a9 := Tryz.isAgg9
  z9 := Tryz.sizeOf9
  v9 := Tryz.zeroValue9
  t21 := Tryz.underlying21
  a21 := Tryz.isAgg21
  z21 := Tryz.sizeOf21
  v21 := Tryz.zeroValue21
  t46 := Tryz.underlying108
  a46 := Tryz.isAgg108
  z46 := Tryz.sizeOf108
  v46 := Tryz.zeroValue108 }
open Go.RowKit Go.Lib in
theorem Tryz.strings_IndexRune_ascii (s : ByteArray) (r : Int) (w : World) (h0 : 0 ≤ r) (h1 : r < 128) :
    Calls Tryz.prog 119 #[.string s, .int .i32 r] w fun e w' => e = .returned (.int .i64 (Lib.indexByte s.data.toList r.toNat.toUInt8)) ∧ w' = w := Any.strings_IndexRune_ascii Tryz.lays152 s r w h0 h1
def Tryz.lays226_ren : Go.Shelf.Ren := ⟨fun | 226 => 120 | n => n, fun | 3 => 3 | 4 => 4 | n => n, fun | n => n⟩
theorem Tryz.lays226 : Go.Proofs.Lays.n226 Tryz.prog Tryz.lays226_ren := {
  mixed := by kernel_rfl
  f226 := Tryz.func120.trans (congrArg some (by kernel_rfl))
  t3 := Tryz.underlying3
  a3 := Tryz.isAgg3
  z3 := Tryz.sizeOf3
  v3 := Tryz.zeroValue3
  t4 := Tryz.underlying4
  a4 := Tryz.isAgg4
  z4 := Tryz.sizeOf4
  v4 := Tryz.zeroValue4 }
open Go.RowKit Go.Lib in
theorem Tryz.strings_shouldUseASCIISet (n : Int) (w : World) :
    Calls Tryz.prog 120 #[.int .i64 n] w fun e w' => e = .returned (.bool (decide (8 < n))) ∧ w' = w := Any.strings_shouldUseASCIISet Tryz.lays226 n w
def Tryz.lays153_ren : Go.Shelf.Ren := ⟨fun | 153 => 74 | 152 => 119 | 226 => 120 | 227 => 121 | 228 => 122 | 137 => 176 | 119 => 177 | 224 => 178 | 225 => 179 | 217 => 221 | 266 => 261 | n => n, fun | 9 => 9 | 3 => 3 | 4 => 4 | 5 => 5 | 21 => 21 | 117 => 157 | 116 => 156 | 0 => 0 | 46 => 108 | 124 => 205 | n => n, fun | n => n⟩
theorem Tryz.lays153 : Go.Proofs.Lays.n153 Tryz.prog Tryz.lays153_ren := {
  mixed := by kernel_rfl
  f119 := Tryz.func177.trans (congrArg some (by kernel_rfl))
  f137 := Tryz.func176.trans (congrArg some (by kernel_rfl))
  f152 := Tryz.func119.trans (congrArg some (by kernel_rfl))
  f153 := Tryz.func74.trans (congrArg some (by kernel_rfl))
  f217 := Tryz.func221.trans (congrArg some (by kernel_rfl))
  f224 := Tryz.func178.trans (congrArg some (by kernel_rfl))
  f225 := Tryz.func179.trans (congrArg some (by kernel_rfl))
  f226 := Tryz.func120.trans (congrArg some (by kernel_rfl))
  f227 := Tryz.func121.trans (congrArg some (by kernel_rfl))
  f228 := Tryz.func122.trans (congrArg some (by kernel_rfl))
  f266 := Tryz.func261.trans (congrArg some (by kernel_rfl))
  t0 := Tryz.underlying0
  a0 := Tryz.isAgg0
  z0 := Tryz.sizeOf0
  v0 := Tryz.zeroValue0
  t3 := Tryz.underlying3
  a3 := Tryz.isAgg3
  z3 := Tryz.sizeOf3
  v3 := Tryz.zeroValue3
  t4 := Tryz.underlying4
  a4 := Tryz.isAgg4
  z4 := Tryz.sizeOf4
  v4 := Tryz.zeroValue4
  t5 := Tryz.underlying5
  a5 := Tryz.isAgg5
  z5 := Tryz.sizeOf5
  v5 := Tryz.zeroValue5
  t9 := Tryz.underlying9
  a9 := Tryz.isAgg9
  z9 := Tryz.sizeOf9
  v9 := Tryz.zeroValue9
  t21 := Tryz.underlying21
  a21 := Tryz.isAgg21
  z21 := Tryz.sizeOf21
  v21 := Tryz.zeroValue21
  t46 := Tryz.underlying108
  a46 := Tryz.isAgg108
  z46 := Tryz.sizeOf108
  v46 := Tryz.zeroValue108
  t116 := Tryz.underlying156
  a116 := Tryz.isAgg156
  z116 := Tryz.sizeOf156
  t117 := Tryz.underlying157
  a117 := Tryz.isAgg157
  z117 := Tryz.sizeOf157
  v117 := Tryz.zeroValue157
  t124 := Tryz.underlying205
  a124 := Tryz.isAgg205
  z124 := Tryz.sizeOf205
  v124 := Tryz.zeroValue205 }
def Tryz.lays227_ren : Go.Shelf.Ren := ⟨fun | 227 => 121 | n => n, fun | 9 => 9 | 116 => 156 | 4 => 4 | 0 => 0 | 3 => 3 | 5 => 5 | n => n, fun | n => n⟩
theorem Tryz.lays227 : Go.Proofs.Lays.n227 Tryz.prog Tryz.lays227_ren := {
  mixed := by kernel_rfl
  f227 := Tryz.func121.trans (congrArg some (by kernel_rfl))
  t0 := Tryz.underlying0
  a0 := Tryz.isAgg0
  z0 := Tryz.sizeOf0
  v0 := Tryz.zeroValue0
  t3 := Tryz.underlying3
  a3 := Tryz.isAgg3
  z3 := Tryz.sizeOf3
  v3 := Tryz.zeroValue3
  t4 := Tryz.underlying4
  a4 := Tryz.isAgg4
  z4 := Tryz.sizeOf4
  v4 := Tryz.zeroValue4
  t5 := Tryz.underlying5
  a5 := Tryz.isAgg5
  z5 := Tryz.sizeOf5
  v5 := Tryz.zeroValue5
  t9 := Tryz.underlying9
  a9 := Tryz.isAgg9
  z9 := Tryz.sizeOf9
  v9 := Tryz.zeroValue9
  t116 := Tryz.underlying156
  a116 := Tryz.isAgg156
  z116 := Tryz.sizeOf156 }
open Go.RowKit Go.Lib in
theorem Tryz.strings_makeASCIISet (hv116 : ∀ w, (zeroValue 156).run Tryz.prog w = .ok (.agg (Array.replicate 256 (.bool false))) w) (chars : ByteArray) (w : World) (hs : chars.size < 4294967281) (hascii : ∀ (j : Nat) b, chars.data.toList[j]? = some b → b.toNat < 128) :
    Calls Tryz.prog 121 #[.string chars] w fun e w' => e = .returned (.tuple #[.agg (Lib.setCells chars.data.toList), .bool true]) ∧ w' = w.alloc (.cells (Lib.setCells chars.data.toList) 156) := Any.strings_makeASCIISet Tryz.lays227 hv116 (by kernel_rfl) chars w hs hascii
def Tryz.lays228_ren : Go.Shelf.Ren := ⟨fun | 228 => 122 | n => n, fun | 124 => 205 | 5 => 5 | 4 => 4 | 0 => 0 | 116 => 156 | n => n, fun | n => n⟩
theorem Tryz.lays228 : Go.Proofs.Lays.n228 Tryz.prog Tryz.lays228_ren := {
  mixed := by kernel_rfl
  f228 := Tryz.func122.trans (congrArg some (by kernel_rfl))
  t0 := Tryz.underlying0
  a0 := Tryz.isAgg0
  z0 := Tryz.sizeOf0
  v0 := Tryz.zeroValue0
  t4 := Tryz.underlying4
  a4 := Tryz.isAgg4
  z4 := Tryz.sizeOf4
  v4 := Tryz.zeroValue4
  t5 := Tryz.underlying5
  a5 := Tryz.isAgg5
  z5 := Tryz.sizeOf5
  v5 := Tryz.zeroValue5
  t116 := Tryz.underlying156
  a116 := Tryz.isAgg156
  z116 := Tryz.sizeOf156
  t124 := Tryz.underlying205
  a124 := Tryz.isAgg205
  z124 := Tryz.sizeOf205
  v124 := Tryz.zeroValue205 }
open Go.RowKit Go.Lib in
theorem Tryz.asciiSet_contains (b : Nat) (x : UInt8) (v : Bool) (w : World) (hc : w.cell? ⟨b, x.toNat, none⟩ = some (.bool v)) :
    Calls Tryz.prog 122 #[.pointer (some ⟨b, 0, none⟩), .int .u8 x.toNat] w fun e w' => e = .returned (.bool v) ∧ w' = w := Any.asciiSet_contains Tryz.lays228 b x v w hc
open Go.RowKit Go.Lib in
theorem Tryz.strings_IndexAny_long (hv116 : ∀ w, (zeroValue 156).run Tryz.prog w = .ok (.agg (Array.replicate 256 (.bool false))) w) (s chars : ByteArray) (w : World) (h2 : 2 ≤ chars.size) (h8 : 8 < s.size) (hs : s.size < 4294967281) (hcs : chars.size < 4294967281) (hascii : ∀ (j : Nat) b, chars.data.toList[j]? = some b → b.toNat < 128) :
    Calls Tryz.prog 74 #[.string s, .string chars] w fun e w' => e = .returned (.int .i64 (Lib.indexAny s.data.toList chars.data.toList)) ∧ w' = ((w.alloc (.cells (Lib.setCells chars.data.toList) 156)).alloc (.cells (Lib.setCells chars.data.toList) 156)) := Any.strings_IndexAny_long Tryz.lays153 hv116 (by kernel_rfl) s chars w h2 h8 hs hcs hascii
end Go.Proofs

namespace Go.Proofs
open Go.Shelf
def Tryz.lays169_ren : Go.Shelf.Ren := ⟨fun | 169 => 83 | n => n, fun | 70 => 119 | 9 => 9 | 0 => 0 | 72 => 121 | 37 => 41 | 127 => 161 | 3 => 3 | 5 => 5 | n => n, fun | n => n⟩
theorem Tryz.lays169 : Go.Proofs.Lays.n169 Tryz.prog Tryz.lays169_ren := {
  mixed := by kernel_rfl
  f169 := Tryz.func83.trans (congrArg some (by kernel_rfl))
  t0 := Tryz.underlying0
  a0 := Tryz.isAgg0
  z0 := Tryz.sizeOf0
  v0 := Tryz.zeroValue0
  t3 := Tryz.underlying3
  a3 := Tryz.isAgg3
  z3 := Tryz.sizeOf3
  v3 := Tryz.zeroValue3
  t9 := Tryz.underlying9
  a9 := Tryz.isAgg9
  z9 := Tryz.sizeOf9
  v9 := Tryz.zeroValue9
  t37 := Tryz.underlying41
  a37 := Tryz.isAgg41
  z37 := Tryz.sizeOf41
  v37 := Tryz.zeroValue41
  t70 := Tryz.underlying119
  a70 := Tryz.isAgg119
  z70 := Tryz.sizeOf119
  v70 := Tryz.zeroValue119
  t72 := Tryz.underlying121
  a72 := Tryz.isAgg121
  z72 := Tryz.sizeOf121
  v72 := Tryz.zeroValue121
  t127 := Tryz.underlying161
  a127 := Tryz.isAgg161
  z127 := Tryz.sizeOf161
  v127 := Tryz.zeroValue161 }
theorem Tryz.Builder_Extra_169 : Builder.Extra Tryz.prog Tryz.lays169_ren := {
  sizeBuilder := by kernel_rfl
  liesBuilder := by kernel_rfl
  t5 := Tryz.underlying5
  a5 := Tryz.isAgg5
  z5 := Tryz.sizeOf5
  v5 := Tryz.zeroValue5
  infoByte := by kernel_rfl
  cellsByte := by kernel_rfl
  sizeByte := by kernel_rfl
  neB5 := by decide }
open Go.RowKit in
theorem Tryz.Builder_String_any (B b : Nat) (l : List UInt8) (w : World) (h : Lib.IsBuilder 121 5 B b (Lib.byteCells l) w) (hBw : B ≤ w.heap.size) :
    Calls Tryz.prog 83 #[.pointer (some ⟨b, 0, none⟩)] w fun e w' => e = .returned (.string ⟨l.toArray⟩) ∧ Below B w w' := Any.Builder_String_any Tryz.lays169 Tryz.Builder_Extra_169 B b l w h hBw
end Go.Proofs

namespace Go.Proofs.YtcmjpkfinbakkaaGreatDoor.Fd
open Go.RowKit
set_option linter.unusedVariables false
abbrev Bs := List UInt8

/-! strings.IndexAny at three blanks, for all bytes. -/
def bl3 : ByteArray := ⟨#[32, 9, 10]⟩
theorem get_at (s : ByteArray) (i : Nat) (h : i < s.size) : s.get! i = s[i]'h := by
  simp [ByteArray.get!, getElem!_pos, h]
  rfl
/-- A rune behind a byte that is no ASCII: it is none either, and nor are the other bytes that it takes. -/
theorem decode_high (s : ByteArray) (i : Nat) (h : i < s.size) (hb : ¬ (s[i]'h).toNat < 128) :
    128 ≤ (Utf8.decode s i).1 ∧ 1 ≤ (Utf8.decode s i).2 ∧ (∀ k, k < (Utf8.decode s i).2 → ∃ hk : i + k < s.size, ¬ (s[i + k]'hk).toNat < 128) := by
  have e0 : (s.get! (i + 0)).toNat = (s[i]'h).toNat := by rw [Nat.add_zero, get_at s i h]
  have c1 : ∀ k, (decide (i + k < s.size) && ((s.get! (i + k)).toNat / 64 == 2)) = true → ∃ hk : i + k < s.size, ¬ (s[i + k]'hk).toNat < 128 := by
    intro k hk
    rw [Bool.and_eq_true, decide_eq_true_iff, beq_iff_eq] at hk
    refine ⟨hk.1, ?_⟩
    have := hk.2
    rw [get_at s (i + k) hk.1] at this
    omega
  have one : ∀ r, 128 ≤ r → 128 ≤ (r, 1).1 ∧ 1 ≤ (r, 1).2 ∧ (∀ k, k < ((r, 1) : Nat × Nat).2 → ∃ hk : i + k < s.size, ¬ (s[i + k]'hk).toNat < 128) := by
    intro r hr
    refine ⟨hr, Nat.le_refl _, fun k hk => ?_⟩
    obtain rfl : k = 0 := by simp at hk; exact hk
    exact ⟨h, hb⟩
  have err := one Utf8.runeError (by decide)
  simp only [Utf8.decode, e0]
  rw [if_neg hb]
  split
  · next h2 =>
    rw [Bool.and_eq_true] at h2
    split
    · next hc =>
      refine ⟨hc, (by show 1 ≤ 2; decide), fun k hk => ?_⟩
      match k, hk with
      | 0, _ => exact ⟨h, hb⟩
      | 1, _ => exact c1 1 h2.2
    · exact err
  · split
    · next h2 =>
      rw [Bool.and_eq_true, Bool.and_eq_true] at h2
      split
      · next hc =>
        rw [Bool.and_eq_true, decide_eq_true_iff] at hc
        refine ⟨by have := hc.1; simp only; omega, (by show 1 ≤ 3; decide), fun k hk => ?_⟩
        match k, hk with
        | 0, _ => exact ⟨h, hb⟩
        | 1, _ => exact c1 1 h2.1.2
        | 2, _ => exact c1 2 h2.2
      · exact err
    · split
      · next h2 =>
        rw [Bool.and_eq_true, Bool.and_eq_true, Bool.and_eq_true] at h2
        split
        · next hc =>
          rw [Bool.and_eq_true, decide_eq_true_iff] at hc
          refine ⟨by have := hc.1; simp only; omega, (by show 1 ≤ 4; decide), fun k hk => ?_⟩
          match k, hk with
          | 0, _ => exact ⟨h, hb⟩
          | 1, _ => exact c1 1 h2.1.1.2
          | 2, _ => exact c1 2 h2.1.2
          | 3, _ => exact c1 3 h2.2
        · exact err
      · exact err
/-- How a rune that is no ASCII is written: of bytes that are none. -/
theorem encode_high (r : Int) (h : 128 ≤ r) (hv : Utf8.valid r = true) : 2 ≤ (Utf8.encode r).size ∧ (Utf8.encode r).size ≤ 4 ∧ ∀ (i : Nat) (hi : i < (Utf8.encode r).size), ¬ ((Utf8.encode r)[i]'hi).toNat < 128 := by
  have hlt : r ≤ 1114111 := by
    unfold Utf8.valid at hv
    simp only [Bool.or_eq_true, Bool.and_eq_true, decide_eq_true_iff] at hv
    omega
  obtain ⟨c, rfl⟩ : ∃ c : Nat, r = (c : Int) := ⟨r.toNat, by omega⟩
  have hc : 128 ≤ c := by omega
  have hc2 : c ≤ 1114111 := by omega
  have hb : ∀ n : Nat, 128 ≤ n → n < 256 → ¬ (UInt8.ofNat n).toNat < 128 := by
    intro n h1 h2
    simp
    omega
  obtain ⟨E, hE⟩ : ∃ E, Utf8.encode (c : Int) = E := ⟨_, rfl⟩
  rw [hE]
  unfold Utf8.encode at hE
  simp only [hv, if_true, Int.toNat_natCast] at hE
  rw [if_neg (by omega)] at hE
  split at hE
  · subst hE
    refine ⟨by show 2 ≤ 2; decide, by show 2 ≤ 4; decide, fun i hi => ?_⟩
    match i, hi with
    | 0, _ => exact hb (0xC0 + c / 64) (by omega) (by omega)
    | 1, _ => exact hb (0x80 + c % 64) (by omega) (by omega)
  · split at hE
    · subst hE
      refine ⟨by show 2 ≤ 3; decide, by show 3 ≤ 4; decide, fun i hi => ?_⟩
      match i, hi with
      | 0, _ => exact hb (0xE0 + c / 4096) (by omega) (by omega)
      | 1, _ => exact hb (0x80 + c / 64 % 64) (by omega) (by omega)
      | 2, _ => exact hb (0x80 + c % 64) (by omega) (by omega)
    · subst hE
      refine ⟨by show 2 ≤ 4; decide, by show 4 ≤ 4; decide, fun i hi => ?_⟩
      match i, hi with
      | 0, _ => exact hb (0xF0 + c / 262144) (by omega) (by omega)
      | 1, _ => exact hb (0x80 + c / 4096 % 64) (by omega) (by omega)
      | 2, _ => exact hb (0x80 + c / 64 % 64) (by omega) (by omega)
      | 3, _ => exact hb (0x80 + c % 64) (by omega) (by omega)
theorem at_none {l : Bs} {c : UInt8} (h : ∀ j : Nat, j < l.length → l[j]? ≠ some c) : Lib.indexByte l c = -1 := by
  induction l with
  | nil => rfl
  | cons a t ih =>
    rw [Lib.indexByte]
    have ha : (a == c) = false := by
      have := h 0 (by simp)
      simpa using this
    have := ih (fun j hj => by have := h (j + 1) (by simpa using hj); simpa using this)
    rw [ha, this]; rfl
theorem wp_gen {c : Code} {Q : Exit → Act → World → Prop} {a : Act} {W : World} (R : World → Prop) (h1 : R W) (h : ∀ w5, R w5 → Code.wp Tryz.prog c Q a w5) : Code.wp Tryz.prog c Q a W := h W h1
theorem below_drewN {a w : World} (h : Below a.heap.size a w) (n : Nat) : Below a.heap.size a (w.drewN n) := ⟨h.os, h.tape, h.output, h.size, h.block⟩
theorem iter_below (w : World) (s : ByteArray) (pos : Nat) : Below w.heap.size w (w.iter s pos) :=
  (Below.refl _ w).alloc (Nat.le_refl _) _
set_option maxRecDepth 100000 in
set_option maxHeartbeats 4000000 in
theorem IndexRune_high (r : Int) (h : 128 ≤ r) (hr : r ≤ 2147483647) (w : World) : Calls Tryz.prog 119 #[.string ⟨#[32, 9, 10]⟩, .int .i32 r] w fun e w' => e = .returned (.int .i64 (-1)) ∧ Below w.heap.size w w' := by
  have h1 : (0 : Int) ≤ r := by omega
  have h2 : decide (r < 128) = false := decide_eq_false (by omega)
  by_cases he : r = 65533
  · subst he
    go_enter Tryz.func119, Tryz.ntmps119
    go_wp2_with fail
    go_loopg [5, 6] 3 (fun g _ _ wx => ∃ i : Nat, i + g = 3 ∧ wx = w.iter ⟨#[32, 9, 10]⟩ i)
    case atStart => exact ⟨0, by omega, rfl⟩
    case round =>
      obtain ⟨i, hig, rfl⟩ := hrel
      cases gk with
      | zero =>
        obtain rfl : i = 3 := by omega
        have hnx := fun ty => run_next_end (P := Tryz.prog) w ⟨#[32, 9, 10]⟩ 3 ty (by decide)
        go_wp2_with fail
        go_ret
        exact ⟨rfl, iter_below _ _ _⟩
      | succ g =>
        have hi : i < 3 := by omega
        obtain ⟨x, hx, hxl, hxe⟩ : ∃ x : UInt8, (⟨#[32, 9, 10]⟩ : ByteArray)[i]'hi = x ∧ x.toNat < 128 ∧ ((x.toNat : Int) == 65533) = false := by
          have h3 : i = 0 ∨ i = 1 ∨ i = 2 := by omega
          rcases h3 with rfl | rfl | rfl
          · exact ⟨32, rfl, by decide, by decide⟩
          · exact ⟨9, rfl, by decide, by decide⟩
          · exact ⟨10, rfl, by decide, by decide⟩
        have hnx := fun ty => run_next_ascii (P := Tryz.prog) w ⟨#[32, 9, 10]⟩ i ty hi (by rw [hx]; exact hxl)
        rw [hx] at hnx
        go_wp2_with fail
        go_roundg g
        case measure => omega
        case rel => exact ⟨i + 1, by omega, rfl⟩
  · have he' : (r == 65533) = false := by simpa using he
    have HV := Lib.hid (fun w => Tryz.utf8_ValidRune r w)
    by_cases hv : Lib.validRune r = true
    · rw [hv] at HV
      have hvr : Utf8.valid r = true := by
        unfold Lib.validRune at hv
        unfold Utf8.valid
        simp only [decide_eq_true_iff, Bool.or_eq_true, Bool.and_eq_true] at hv ⊢
        omega
      obtain ⟨E, hE⟩ : ∃ E, Utf8.encode r = E := ⟨_, rfl⟩
      obtain ⟨z1, z2, z3⟩ := encode_high r h hvr
      rw [hE] at z1 z2
      have z3 : ∀ (i : Nat) (hi : i < E.size), ¬ (E[i]'hi).toNat < 128 := by subst hE; exact z3
      have hcv : ∀ w, (convert 21 9 (.int .i32 r)).run Tryz.prog w = .ok (.string E) w := fun w => by
        rw [← hE]
        exact run_convert_int_string w 21 9 .i32 r (by kernel_rfl) Tryz.underlying9
      have hsz : E.size = 2 ∨ E.size = 3 ∨ E.size = 4 := by omega
      clear hvr hE z1 z2
      rcases hsz with hz | hz | hz
      · have hb := z3 1 (by omega)
        obtain ⟨q, hq⟩ : ∃ q, E[1] = q := ⟨_, rfl⟩
        have hge : E[1] = q := hq
        rw [hq] at hb
        have hne : (((((⟨#[32, 9, 10]⟩ : ByteArray)[1]).toNat : Nat) : Int) == (q.toNat : Int)) = false := by
          rw [beq_eq_false_iff_ne, show (((⟨#[32, 9, 10]⟩ : ByteArray)[1]).toNat : Nat) = 9 from rfl]; omega
        have hib : ∀ (s : ByteArray) w, (∀ c ∈ s.data.toList, c.toNat < 128) → Calls Tryz.prog 176 #[.string s, .int .u8 q.toNat] w fun e w' => e = .returned (.int .i64 (-1)) ∧ w' = w := fun s w hs => by
          have h := Tryz.strings_IndexByte s q.toNat w
          rw [show Lib.indexByte s.data.toList ((q.toNat : Int)).toNat.toUInt8 = -1 from ?_] at h
          · exact h
          · rw [show ((q.toNat : Int)).toNat.toUInt8 = q by simp]
            exact at_none (fun j hj e => hb (hs q (List.mem_of_getElem? e)))
        have HIB := Lib.hid hib
        have hw2 : IntKind.i64.wrap 2 = 2 := by decide
        have hw3 : IntKind.i64.wrap 3 = 3 := by decide
        clear z3 hq hib
        go_enter Tryz.func119, Tryz.ntmps119
        go_wp2_with (go_at_call 177; refine (HV.out _).mono ?_; rintro e w' ⟨rfl, h⟩; obtain rfl := h.symm)
        refine wp_scope_straight ?_
        go_wp2_with fail
        go_loopw [9] (fun i wx => i = .int .i64 1 ∧ wx = w) (fun _ _ => 0)
        case atStart => exact ⟨rfl, rfl⟩
        case round =>
          obtain ⟨rfl, rfl⟩ := hrel
          go_wp2_with fail
          refine wp_scope_straight ?_
          go_wp2_with fail
          go_quiet (fail)
          go_wp2_with fail
          refine wp_gen (fun w5 => Below wr.heap.size wr w5) (below_drewN (Below.refl _ _) _) ?_
          intro w5 hB5
          have HB5 := Lib.hid hB5
          clear hB5
          go_quiet ((go_at_call 176; exact Calls.quiet_of_same (HIB.out _ _ (by decide))))
          go_wp2_with fail
          simp +zetaDelta only [Exit.noGoto_ret, Exit.inBlock, Exit.then]
          go_ret
          exact ⟨rfl, below_drewN HB5.out _⟩
      · have hb := z3 2 (by omega)
        obtain ⟨q, hq⟩ : ∃ q, E[2] = q := ⟨_, rfl⟩
        have hge : E[2] = q := hq
        rw [hq] at hb
        have hne : (((((⟨#[32, 9, 10]⟩ : ByteArray)[2]).toNat : Nat) : Int) == (q.toNat : Int)) = false := by
          rw [beq_eq_false_iff_ne, show (((⟨#[32, 9, 10]⟩ : ByteArray)[2]).toNat : Nat) = 10 from rfl]; omega
        have hib : ∀ (s : ByteArray) w, (∀ c ∈ s.data.toList, c.toNat < 128) → Calls Tryz.prog 176 #[.string s, .int .u8 q.toNat] w fun e w' => e = .returned (.int .i64 (-1)) ∧ w' = w := fun s w hs => by
          have h := Tryz.strings_IndexByte s q.toNat w
          rw [show Lib.indexByte s.data.toList ((q.toNat : Int)).toNat.toUInt8 = -1 from ?_] at h
          · exact h
          · rw [show ((q.toNat : Int)).toNat.toUInt8 = q by simp]
            exact at_none (fun j hj e => hb (hs q (List.mem_of_getElem? e)))
        have HIB := Lib.hid hib
        have hw2 : IntKind.i64.wrap 2 = 2 := by decide
        have hw3 : IntKind.i64.wrap 3 = 3 := by decide
        clear z3 hq hib
        go_enter Tryz.func119, Tryz.ntmps119
        go_wp2_with (go_at_call 177; refine (HV.out _).mono ?_; rintro e w' ⟨rfl, h⟩; obtain rfl := h.symm)
        refine wp_scope_straight ?_
        go_wp2_with fail
        go_loopw [9] (fun i wx => i = .int .i64 2 ∧ wx = w) (fun _ _ => 0)
        case atStart => exact ⟨rfl, rfl⟩
        case round =>
          obtain ⟨rfl, rfl⟩ := hrel
          go_wp2_with fail
          refine wp_scope_straight ?_
          go_wp2_with fail
          go_quiet (fail)
          go_wp2_with fail
          refine wp_gen (fun w5 => Below wr.heap.size wr w5) (below_drewN (Below.refl _ _) _) ?_
          intro w5 hB5
          have HB5 := Lib.hid hB5
          clear hB5
          go_quiet ((go_at_call 176; exact Calls.quiet_of_same (HIB.out _ _ (by decide))))
          go_wp2_with fail
          simp +zetaDelta only [Exit.noGoto_ret, Exit.inBlock, Exit.then]
          go_ret
          exact ⟨rfl, below_drewN HB5.out _⟩
      · clear z3
        go_enter Tryz.func119, Tryz.ntmps119
        go_wp2_with (go_at_call 177; refine (HV.out _).mono ?_; rintro e w' ⟨rfl, h⟩; obtain rfl := h.symm)
        refine wp_scope_straight ?_
        go_wp2_with fail
        go_loopw [9] (fun i wx => i = .int .i64 3 ∧ wx = w) (fun _ _ => 0)
        case atStart => exact ⟨rfl, rfl⟩
        case round =>
          obtain ⟨rfl, rfl⟩ := hrel
          go_wp2_with fail
          simp +zetaDelta only [Exit.noGoto_ret, Exit.inBlock, Exit.then]
          go_ret
          exact ⟨rfl, Below.refl _ _⟩
    · have hv' : Lib.validRune r = false := by simpa using hv
      rw [hv'] at HV
      clear hv hv'
      go_enter Tryz.func119, Tryz.ntmps119
      go_wp2_with (go_at_call 177; refine (HV.out _).mono ?_; rintro e w' ⟨rfl, h⟩; obtain rfl := h.symm)
      go_ret
      exact ⟨rfl, Below.refl _ _⟩
theorem iterAt_below {w wx : World} {B k : Nat} {s : ByteArray} {p : Nat} (h : Below B w wx) (hk : B ≤ k) : Below B w (wx.iterAt k s p) :=
  h.trans ⟨rfl, rfl, rfl, Nat.le_of_eq (Lib.iterAt_size wx k s p).symm, fun i hi => Lib.iterAt_other wx k i s p (by omega)⟩
theorem high_no {x : UInt8} (h : ¬ x.toNat < 128) : [(32 : UInt8), 9, 10].contains x = false := by
  rw [List.contains_eq_mem, decide_eq_false_iff_not]
  intro hm
  simp only [List.mem_cons, List.not_mem_nil, or_false] at hm
  rcases hm with rfl | rfl | rfl <;> exact h (by decide)
set_option maxRecDepth 100000 in
set_option maxHeartbeats 4000000 in
theorem IndexAny_short (s : ByteArray) (w : World) (h8 : s.size ≤ 8) :
    Calls Tryz.prog 74 #[.string s, .string ⟨#[32, 9, 10]⟩] w fun e w' => e = .returned (.int .i64 (Lib.indexAny s.data.toList [32, 9, 10])) ∧ Below w.heap.size w w' := by
  have h8z : decide ((8 : Int) < (s.size : Int)) = false := decide_eq_false (by omega)
  obtain ⟨R, hR⟩ : ∃ R, Lib.indexAny s.data.toList [32, 9, 10] = R := ⟨_, rfl⟩
  rw [hR]
  have HR := Lib.hid hR
  obtain ⟨K, hK⟩ : ∃ K, w.heap.size = K := ⟨_, rfl⟩
  have HK := Lib.hid hK
  have HI0 : Hid ((w.iter s 0).heap[K]? = some (.stringIter s 0)) := by rw [← hK]; exact World.iter_heap w s 0
  have HBI : Hid (Below K w (w.iter s 0)) := by rw [← hK]; exact iter_below _ _ _
  clear hR hK
  go_enter Tryz.func74, Tryz.ntmps74
  go_wp2_with (go_at_call 120; refine (Tryz.strings_shouldUseASCIISet _ _).mono ?_; rintro e w' ⟨rfl, hw⟩; rw [hw, h8z])
  rw [HK.out]
  go_loopg [9, 10] s.size (fun g _ _ wx => ∃ i : Nat, i + g = s.size ∧ Hid (wx.heap[K]? = some (.stringIter s i)) ∧ Hid (Below K w wx) ∧ Hid (Lib.NoAny s.data.toList [32, 9, 10] i))
  case atStart => exact ⟨0, by omega, HI0.out, HBI.out, Lib.NoAny.zero _ _⟩
  case round =>
    obtain ⟨i, hig, HI, HB, HN⟩ := hrel
    cases gk with
    | zero =>
      obtain rfl : i = s.size := by omega
      have hnx := fun ty => Lib.run_next_end_at (P := Tryz.prog) _ K s s.size ty HI.out (by omega)
      have HE : Hid (-1 = R) := by rw [Hid, ← HR.out, Lib.indexAny_none (by rw [show s.data.toList.length = s.size from Array.length_toList]; exact HN.out)]
      go_wp2_with fail
      go_ret
      exact ⟨by rw [← HE.out]; rfl, by rw [HK.out]; exact HB.out⟩
    | succ g =>
      have hi : i < s.size := by omega
      obtain ⟨x, hx⟩ : ∃ x : UInt8, s[i]'hi = x := ⟨_, rfl⟩
      have hxl : s.data.toList[i]? = some x := by
        rw [← hx, List.getElem?_eq_getElem (by rw [show s.data.toList.length = s.size from Array.length_toList]; exact hi)]; rfl
      by_cases hx128 : x.toNat < 128
      · have hnx := fun ty => Lib.run_next_ascii_at (P := Tryz.prog) _ K s i ty HI.out hi (by rw [hx]; exact hx128)
        rw [hx] at hnx
        have HIA := Lib.hid (Lib.iterAt_heap _ K s i (i + 1) HI.out)
        have HBA := Lib.hid (iterAt_below (k := K) (s := s) (p := i + 1) HB.out (Nat.le_refl _))
        have Hx := Lib.hid hxl
        have hcon := Lib.contains_iff_indexByte [32, 9, 10] x
        have hir := fun w => Tryz.strings_IndexRune_ascii ⟨#[32, 9, 10]⟩ x.toNat w (by omega) (by omega)
        rw [show ((x.toNat : Int)).toNat.toUInt8 = x by simp] at hir
        obtain ⟨z, hz⟩ : ∃ z, Lib.indexByte (⟨#[32, 9, 10]⟩ : ByteArray).data.toList x = z := ⟨_, rfl⟩
        rw [hz] at hir
        rw [show Lib.indexByte [32, 9, 10] x = z from hz] at hcon
        have HIR := Lib.hid hir
        clear hxl hx hz hir
        cases hin : [(32 : UInt8), 9, 10].contains x with
        | false =>
          rw [hin] at hcon
          have hlt : decide ((0 : Int) ≤ z) = false := hcon.symm
          have HNN := Lib.hid (HN.out.succ Hx.out hin)
          clear hcon hin
          go_wp2_with (go_at_call 119; refine (HIR.out _).mono ?_; rintro e w' ⟨rfl, h⟩; obtain rfl := h.symm)
          go_roundg g
          case measure => omega
          case rel => exact ⟨i + 1, by omega, HIA.out, HBA.out, HNN.out⟩
        | true =>
          rw [hin] at hcon
          have hge : (0 : Int) ≤ z := of_decide_eq_true hcon.symm
          have HE : Hid ((i : Int) = R) := by rw [Hid, ← HR.out, Lib.indexAny_hit HN.out Hx.out hin]
          clear hcon hin
          go_wp2_with (go_at_call 119; refine (HIR.out _).mono ?_; rintro e w' ⟨rfl, h⟩; obtain rfl := h.symm)
          go_ret
          exact ⟨by rw [← HE.out]; rfl, by rw [HK.out]; exact HBA.out⟩
      · obtain ⟨d1, d2, d3⟩ := decode_high s i hi (by rw [hx]; exact hx128)
        have hd4 := decode_le s i
        have hnx := fun ty => Lib.run_next_any_at (P := Tryz.prog) _ K s i ty HI.out hi
        obtain ⟨r, hr⟩ : ∃ r, (Utf8.decode s i).1 = r := ⟨_, rfl⟩
        obtain ⟨wd, hwd⟩ : ∃ wd, (Utf8.decode s i).2 = wd := ⟨_, rfl⟩
        rw [hr] at hnx d1 hd4
        rw [hwd] at hnx d2 d3
        have hle : i + wd ≤ s.size := by
          obtain ⟨hk, _⟩ := d3 (wd - 1) (by omega)
          omega
        have HNN : Hid (Lib.NoAny s.data.toList [32, 9, 10] (i + wd)) := by
          intro j b hj hb
          by_cases h : j < i
          · exact HN.out j b h hb
          · obtain ⟨hk, hh⟩ := d3 (j - i) (by omega)
            have e : i + (j - i) = j := by omega
            simp only [e] at hh hk
            rw [List.getElem?_eq_getElem (by rw [show s.data.toList.length = s.size from Array.length_toList]; exact hk)] at hb
            cases hb
            exact high_no hh
        have HIA := Lib.hid (Lib.iterAt_heap _ K s i (i + wd) HI.out)
        have HBA := Lib.hid (iterAt_below (k := K) (s := s) (p := i + wd) HB.out (Nat.le_refl _))
        have HIR := Lib.hid (fun w => IndexRune_high (r : Int) (by omega) (by omega) w)
        clear hxl hx d1 d3 hr hwd
        go_wp2_with fail
        refine (HIR.out _).mono ?_
        rintro e w2 ⟨rfl, hb2⟩
        have HB2 := Lib.hid (HBA.out.trans (hb2.mono (by have := HBA.out.size; have h2 := HK.out; omega)))
        have HI2 : Hid (w2.heap[K]? = some (.stringIter s (i + wd))) := (hb2.block K (Array.getElem?_eq_some_iff.1 HIA.out).1).trans HIA.out
        clear hb2
        simp only []
        go_wp2_with fail
        go_roundg (s.size - (i + wd))
        case measure => omega
        case rel => exact ⟨i + wd, by omega, HI2.out, HB2.out, HNN.out⟩
theorem zero50 : ∀ w, (zeroValue 156).run Tryz.prog w = .ok (.agg (Array.replicate 256 (.bool false))) w := (zero_of_info (P := Tryz.prog) (show (Tryz.prog.info? 156).map (fun i => (i.zero, i.size)) = some (some (.agg (Array.replicate 256 (.bool false))), 256) by kernel_rfl)).1
theorem IndexAny_any (s : ByteArray) (w : World) (hs : s.size ≤ 100000) :
    Calls Tryz.prog 74 #[.string s, .string ⟨#[32, 9, 10]⟩] w fun e w' => e = .returned (.int .i64 (Lib.indexAny s.data.toList [32, 9, 10])) ∧ Below w.heap.size w w' := by
  by_cases h8 : s.size ≤ 8
  · exact IndexAny_short s w h8
  · refine (Tryz.strings_IndexAny_long zero50 s ⟨#[32, 9, 10]⟩ w (by decide) (by omega) (by omega) (by decide) (by
      intro j b hj
      have := List.mem_of_getElem? hj
      simp only [List.mem_cons, List.not_mem_nil, or_false] at this
      rcases this with rfl | rfl | rfl <;> decide)).mono ?_
    rintro e w' ⟨rfl, rfl⟩
    exact ⟨rfl, ((Below.refl _ w).alloc (Nat.le_refl _) _).alloc (by simp) _⟩
end Go.Proofs.YtcmjpkfinbakkaaGreatDoor.Fd
