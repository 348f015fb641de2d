import Derived.Shelf.Strings.Builder1
import Derived.Shelf.Strings.Builder2
import Derived.Shelf.Strings.OnBuilder
import Derived.Shelf.Strings.Trim
import Derived.Shelf.Small.Utf8
import Derived.Shelf.Small.Strs
import Derived.Shelf.Small.Wraps
import Derived.Shelf.Strings.Search1
import Derived.Shelf.Strings.Search2
import Derived.Shelf.Strings.Search3
import Derived.Shelf.Strings.Cut
import Derived.Shelf.Strings.Count
import Derived.Shelf.LaysM
import Derived.Shelf.Strings.Shaped
import Derived.Shelf.Strings.Prefix
import Derived.Shelf.Strings.Split
import Derived.Shelf.Strings.Replace
import Derived.Shelf.Strings.Runes
import Derived.Shelf.Strings.AsciiSet
import Derived.Shelf.Unicode.DecodeSlow
import Derived.Ground.Names2Prog
import Derived.Shelf.Slices.Clone
import Derived.Ground.SlbCloneProg
import Derived.Shelf.Bytes.SlClone
import Derived.Test.YtjagnihkpgbjeaaDoorProg
import Derived.Test.YtjagnihkpgbjeaaDoorZB
import Derived.Test.YtjagnihkpgbjeaaDoorRows
import Derived.WalkKit
import Derived.Lib.Hide
import Derived.Lib.Strings
import Derived.Sort.EncStr
import Derived.Maps.OwnSet
import Derived.Maps.Views
import Derived.OwnWalk
import Derived.Laws.AppendOwn
import Derived.Laws.OwnMore
import Derived.StringKeys
import Derived.WalkSpells
import Derived.WalkLawsBesides
namespace Go.Proofs
open Go.Shelf
def Tryd.lays156_ren : Go.Shelf.Ren := ⟨fun | 156 => 113 | 165 => 131 | 166 => 132 | 169 => 133 | 240 => 154 | 241 => 155 | 276 => 167 | 277 => 168 | n => n, fun | 31 => 29 | 9 => 9 | 3 => 3 | 4 => 4 | 0 => 0 | 20 => 20 | 72 => 166 | 76 => 170 | 70 => 164 | 37 => 28 | 75 => 169 | 127 => 189 | 164 => 201 | 5 => 5 | 80 => 172 | n => n, fun | n => n⟩
theorem Tryd.lays156 : Go.Proofs.Lays.n156 Tryd.prog Tryd.lays156_ren := {
  mixed := by kernel_rfl
  f156 := Tryd.func113.trans (congrArg some (by kernel_rfl))
  f165 := Tryd.func131.trans (congrArg some (by kernel_rfl))
  f166 := Tryd.func132.trans (congrArg some (by kernel_rfl))
  f169 := Tryd.func133.trans (congrArg some (by kernel_rfl))
  f240 := Tryd.func154.trans (congrArg some (by kernel_rfl))
  f241 := Tryd.func155.trans (congrArg some (by kernel_rfl))
  f276 := Tryd.func167.trans (congrArg some (by kernel_rfl))
  f277 := Tryd.func168.trans (congrArg some (by kernel_rfl))
  t0 := Tryd.underlying0
  a0 := Tryd.isAgg0
  z0 := Tryd.sizeOf0
  v0 := Tryd.zeroValue0
  t3 := Tryd.underlying3
  a3 := Tryd.isAgg3
  z3 := Tryd.sizeOf3
  v3 := Tryd.zeroValue3
  t4 := Tryd.underlying4
  a4 := Tryd.isAgg4
  z4 := Tryd.sizeOf4
  v4 := Tryd.zeroValue4
  t9 := Tryd.underlying9
  a9 := Tryd.isAgg9
  z9 := Tryd.sizeOf9
  v9 := Tryd.zeroValue9
  t20 := Tryd.underlying20
  a20 := Tryd.isAgg20
  z20 := Tryd.sizeOf20
  v20 := Tryd.zeroValue20
  t31 := Tryd.underlying29
  a31 := Tryd.isAgg29
  z31 := Tryd.sizeOf29
  v31 := Tryd.zeroValue29
  t37 := Tryd.underlying28
  a37 := Tryd.isAgg28
  z37 := Tryd.sizeOf28
  v37 := Tryd.zeroValue28
  t70 := Tryd.underlying164
  a70 := Tryd.isAgg164
  z70 := Tryd.sizeOf164
  v70 := Tryd.zeroValue164
  t72 := Tryd.underlying166
  a72 := Tryd.isAgg166
  z72 := Tryd.sizeOf166
  v72 := Tryd.zeroValue166
  t75 := Tryd.underlying169
  a75 := Tryd.isAgg169
  z75 := Tryd.sizeOf169
  v75 := Tryd.zeroValue169
  t76 := Tryd.underlying170
  a76 := Tryd.isAgg170
  z76 := Tryd.sizeOf170
  v76 := Tryd.zeroValue170
  t127 := Tryd.underlying189
  a127 := Tryd.isAgg189
  z127 := Tryd.sizeOf189
  v127 := Tryd.zeroValue189
  t164 := Tryd.underlying201
  a164 := Tryd.isAgg201
  z164 := Tryd.sizeOf201
  v164 := Tryd.zeroValue201 }
theorem Tryd.Builder_Extra_156 : Builder.Extra Tryd.prog Tryd.lays156_ren := {
  sizeBuilder := by kernel_rfl
  liesBuilder := by kernel_rfl
  t5 := Tryd.underlying5
  a5 := Tryd.isAgg5
  z5 := Tryd.sizeOf5
  v5 := Tryd.zeroValue5
  infoByte := by kernel_rfl
  cellsByte := by kernel_rfl
  sizeByte := by kernel_rfl
  neB5 := by decide }
open Go.RowKit in
theorem Tryd.strings_Join_none (a : Option Addr) (c : Nat) (sep : ByteArray) (w : World) :
    Calls Tryd.prog 113 #[.slice a 0 c, .string sep] w fun e w' => e = .returned (.string ⟨#[]⟩) ∧ w' = w := Any.strings_Join_none Tryd.lays156 Tryd.Builder_Extra_156 a c sep w
open Go.RowKit in
theorem Tryd.strings_Join (bk o c : Nat) (xs : List ByteArray) (sep : ByteArray) (w : World) (hcells : ∀ (j : Nat) x, xs[j]? = some x → w.cell? ⟨bk, o + j, none⟩ = some (.string x)) (hbk : bk < w.heap.size) (hN : xs.length ≤ 140737488355328) (hcap : xs.length ≤ c) (hlen : (Lib.join (xs.map (·.data.toList)) sep.data.toList).length ≤ 140737488355328) :
    Calls Tryd.prog 113 #[.slice (some ⟨bk, o, none⟩) xs.length c, .string sep] w fun e w' => e = .returned (.string ⟨(Lib.join (xs.map (·.data.toList)) sep.data.toList).toArray⟩) ∧ Below w.heap.size w w' := Any.strings_Join Tryd.lays156 Tryd.Builder_Extra_156 bk o c xs sep w hcells hbk hN hcap hlen
def Tryd.lays103_ren : Go.Shelf.Ren := ⟨fun | 103 => 75 | 210 => 96 | 206 => 85 | n => n, fun | 9 => 9 | 4 => 4 | 24 => 59 | 3 => 3 | n => n, fun | n => n⟩
theorem Tryd.lays103 : Go.Proofs.Lays.n103 Tryd.prog Tryd.lays103_ren := {
  mixed := by kernel_rfl
  f103 := Tryd.func75.trans (congrArg some (by kernel_rfl))
  f206 := Tryd.func85.trans (congrArg some (by kernel_rfl))
  f210 := Tryd.func96.trans (congrArg some (by kernel_rfl))
  t3 := Tryd.underlying3
  a3 := Tryd.isAgg3
  z3 := Tryd.sizeOf3
  v3 := Tryd.zeroValue3
  t4 := Tryd.underlying4
  a4 := Tryd.isAgg4
  z4 := Tryd.sizeOf4
  v4 := Tryd.zeroValue4
  t9 := Tryd.underlying9
  a9 := Tryd.isAgg9
  z9 := Tryd.sizeOf9
  v9 := Tryd.zeroValue9
  t24 := Tryd.underlying59
  a24 := Tryd.isAgg59
  z24 := Tryd.sizeOf59
  v24 := Tryd.zeroValue59 }
open Go.RowKit in
theorem Tryd.strings_CutPrefix (s p : ByteArray) (w : World) :
    Calls Tryd.prog 75 #[.string s, .string p] w fun e w' => e = .returned (.tuple #[.string ⟨(Lib.trimPrefix s.data.toList p.data.toList).toArray⟩, .bool (Lib.hasPrefix s.data.toList p.data.toList)]) ∧ w' = w := Any.strings_CutPrefix Tryd.lays103 s p w
def Tryd.lays143_ren : Go.Shelf.Ren := ⟨fun | 143 => 86 | 219 => 110 | 217 => 126 | 225 => 127 | 224 => 128 | 267 => 129 | 266 => 152 | 314 => 153 | n => n, fun | 9 => 9 | 3 => 3 | 4 => 4 | 5 => 5 | 46 => 154 | 146 => 187 | 51 => 183 | n => n, fun | 1 => 0 | n => n⟩
theorem Tryd.lays143 : Go.Proofs.Lays.n143 Tryd.prog Tryd.lays143_ren := {
  mixed := by kernel_rfl
  f143 := Tryd.func86.trans (congrArg some (by kernel_rfl))
  f217 := Tryd.func126.trans (congrArg some (by kernel_rfl))
  f219 := Tryd.func110.trans (congrArg some (by kernel_rfl))
  f224 := Tryd.func128.trans (congrArg some (by kernel_rfl))
  f225 := Tryd.func127.trans (congrArg some (by kernel_rfl))
  f266 := Tryd.func152.trans (congrArg some (by kernel_rfl))
  f267 := Tryd.func129.trans (congrArg some (by kernel_rfl))
  f314 := Tryd.func153.trans (congrArg some (by kernel_rfl))
  t3 := Tryd.underlying3
  a3 := Tryd.isAgg3
  z3 := Tryd.sizeOf3
  v3 := Tryd.zeroValue3
  t4 := Tryd.underlying4
  a4 := Tryd.isAgg4
  z4 := Tryd.sizeOf4
  v4 := Tryd.zeroValue4
  t5 := Tryd.underlying5
  a5 := Tryd.isAgg5
  z5 := Tryd.sizeOf5
  v5 := Tryd.zeroValue5
  t9 := Tryd.underlying9
  a9 := Tryd.isAgg9
  z9 := Tryd.sizeOf9
  v9 := Tryd.zeroValue9
  t46 := Tryd.underlying154
  a46 := Tryd.isAgg154
  z46 := Tryd.sizeOf154
  v46 := Tryd.zeroValue154
  t51 := Tryd.underlying183
  a51 := Tryd.isAgg183
  z51 := Tryd.sizeOf183
  v51 := Tryd.zeroValue183
  t146 := Tryd.underlying187
  a146 := Tryd.isAgg187
  z146 := Tryd.sizeOf187
  v146 := Tryd.zeroValue187
  g1 := by kernel_rfl }
open Go.RowKit Go.Lib in
theorem Tryd.strings_Index_one (s : ByteArray) (c : UInt8) (w : World) :
    Calls Tryd.prog 86 #[.string s, .string ⟨#[c]⟩] w fun e w' => e = .returned (.int .i64 (Lib.indexByte s.data.toList c)) ∧ w' = w := Any.strings_Index_one Tryd.lays143 s c w
def Tryd.lays144_ren : Go.Shelf.Ren := ⟨fun | 144 => 60 | 143 => 86 | 219 => 110 | 217 => 126 | 225 => 127 | 224 => 128 | 267 => 129 | 266 => 152 | 314 => 153 | n => n, fun | 9 => 9 | 4 => 4 | 3 => 3 | 5 => 5 | 46 => 154 | 146 => 187 | 51 => 183 | n => n, fun | 1 => 0 | n => n⟩
theorem Tryd.lays144 : Go.Proofs.Lays.n144 Tryd.prog Tryd.lays144_ren := {
  mixed := by kernel_rfl
  f143 := Tryd.func86.trans (congrArg some (by kernel_rfl))
  f144 := Tryd.func60.trans (congrArg some (by kernel_rfl))
  f217 := Tryd.func126.trans (congrArg some (by kernel_rfl))
  f219 := Tryd.func110.trans (congrArg some (by kernel_rfl))
  f224 := Tryd.func128.trans (congrArg some (by kernel_rfl))
  f225 := Tryd.func127.trans (congrArg some (by kernel_rfl))
  f266 := Tryd.func152.trans (congrArg some (by kernel_rfl))
  f267 := Tryd.func129.trans (congrArg some (by kernel_rfl))
  f314 := Tryd.func153.trans (congrArg some (by kernel_rfl))
  t3 := Tryd.underlying3
  a3 := Tryd.isAgg3
  z3 := Tryd.sizeOf3
  v3 := Tryd.zeroValue3
  t4 := Tryd.underlying4
  a4 := Tryd.isAgg4
  z4 := Tryd.sizeOf4
  v4 := Tryd.zeroValue4
  t5 := Tryd.underlying5
  a5 := Tryd.isAgg5
  z5 := Tryd.sizeOf5
  v5 := Tryd.zeroValue5
  t9 := Tryd.underlying9
  a9 := Tryd.isAgg9
  z9 := Tryd.sizeOf9
  v9 := Tryd.zeroValue9
  t46 := Tryd.underlying154
  a46 := Tryd.isAgg154
  z46 := Tryd.sizeOf154
  v46 := Tryd.zeroValue154
  t51 := Tryd.underlying183
  a51 := Tryd.isAgg183
  z51 := Tryd.sizeOf183
  v51 := Tryd.zeroValue183
  t146 := Tryd.underlying187
  a146 := Tryd.isAgg187
  z146 := Tryd.sizeOf187
  v146 := Tryd.zeroValue187
  g1 := by kernel_rfl }
open Go.RowKit Go.Lib in
theorem Tryd.strings_Contains_one (s : ByteArray) (c : UInt8) (w : World) :
    Calls Tryd.prog 60 #[.string s, .string ⟨#[c]⟩] w fun e w' => e = .returned (.bool (decide (0 ≤ Lib.indexByte s.data.toList c))) ∧ w' = w := Any.strings_Contains_one Tryd.lays144 s c w
def Tryd.lays99_ren : Go.Shelf.Ren := ⟨fun | 99 => 59 | 206 => 85 | n => n, fun | 9 => 9 | 4 => 4 | 3 => 3 | n => n, fun | n => n⟩
theorem Tryd.lays99 : Go.Proofs.Lays.n99 Tryd.prog Tryd.lays99_ren := {
  mixed := by kernel_rfl
  f99 := Tryd.func59.trans (congrArg some (by kernel_rfl))
  f206 := Tryd.func85.trans (congrArg some (by kernel_rfl))
  t3 := Tryd.underlying3
  a3 := Tryd.isAgg3
  z3 := Tryd.sizeOf3
  v3 := Tryd.zeroValue3
  t4 := Tryd.underlying4
  a4 := Tryd.isAgg4
  z4 := Tryd.sizeOf4
  v4 := Tryd.zeroValue4
  t9 := Tryd.underlying9
  a9 := Tryd.isAgg9
  z9 := Tryd.sizeOf9
  v9 := Tryd.zeroValue9 }
open Go.RowKit Go.Lib in
theorem Tryd.strings_HasPrefix (s p : ByteArray) (w : World) :
    Calls Tryd.prog 59 #[.string s, .string p] w fun e w' => e = .returned (.bool (Lib.hasPrefix s.data.toList p.data.toList)) ∧ w' = w := Any.strings_HasPrefix Tryd.lays99 s p w
def Tryd.laysNm216_ren : Go.Shelf.Ren := ⟨fun | 16 => 54 | n => n, fun | 24 => 29 | 9 => 9 | 4 => 4 | n => n, fun | n => n⟩
theorem Tryd.laysNm216 : Go.Proofs.Lays2.n16 Tryd.prog Tryd.laysNm216_ren := {
  mixed := by kernel_rfl
  f16 := Tryd.func54.trans (congrArg some (by kernel_rfl))
  t4 := Tryd.underlying4
  a4 := Tryd.isAgg4
  z4 := Tryd.sizeOf4
  v4 := Tryd.zeroValue4
  t9 := Tryd.underlying9
  a9 := Tryd.isAgg9
  z9 := Tryd.sizeOf9
  v9 := Tryd.zeroValue9
  t24 := Tryd.underlying29
  a24 := Tryd.isAgg29
  z24 := Tryd.sizeOf29
  v24 := Tryd.zeroValue29
  i9 := by kernel_rfl }
open Go.RowKit Go.Lib in
theorem Tryd.slices_Clone_string (b off n c : Nat) (zs : List ByteArray) (w : World) (hz : n ≤ zs.length) (hbig : n * 16 ≤ 140737488355328) (hc : ∀ j, j < zs.length → w.cell? ⟨b, off + j, none⟩ = some (.string (zs.getD j ByteArray.empty))) :
    Calls Tryd.prog 54 #[.slice (some ⟨b, off, none⟩) n c] w fun e w' => ∃ v', e = .returned v' ∧ w'.ownsRow w.heap.size 9 1 v' n ((zs.take n).map (Value.string)) ∧ v' ≠ .slice none 0 0 ∧ Below w.heap.size w w' := Any.slices_Clone_string Tryd.laysNm216 b off n c zs w hz hbig hc
open Go.RowKit Go.Lib in
theorem Tryd.slices_Clone_string_nil (n c : Nat) (w : World) :
    Calls Tryd.prog 54 #[.slice none n c] w fun e w' => e = .returned (.slice none 0 0) ∧ w' = w := Any.slices_Clone_string_nil Tryd.laysNm216 n c w
open Go.RowKit Go.Lib in
theorem Tryd.slices_Clone_string_zero (a : Addr) (c : Nat) (w : World) :
    Calls Tryd.prog 54 #[.slice (some a) 0 c] w fun e w' => ∃ v', e = .returned v' ∧ w'.ownsRow w.heap.size 9 1 v' 0 [] ∧ v' ≠ .slice none 0 0 ∧ Below w.heap.size w w' := Any.slices_Clone_string_zero Tryd.laysNm216 a c w
def Tryd.laysSlK4_ren : Go.Shelf.Ren := ⟨fun | 4 => 43 | n => n, fun | 22 => 28 | 4 => 4 | 5 => 5 | n => n, fun | n => n⟩
theorem Tryd.laysSlK4 : Go.Proofs.SlLaysK.n4 Tryd.prog Tryd.laysSlK4_ren := {
  mixed := by kernel_rfl
  f4 := Tryd.func43.trans (congrArg some (by kernel_rfl))
  t4 := Tryd.underlying4
  a4 := Tryd.isAgg4
  z4 := Tryd.sizeOf4
  v4 := Tryd.zeroValue4
  t22 := Tryd.underlying28
  a22 := Tryd.isAgg28
  z22 := Tryd.sizeOf28
  v22 := Tryd.zeroValue28
  t5 := Tryd.underlying5
  i5 := by kernel_rfl }
open Go.RowKit Go.Lib in
theorem Tryd.bytes_Clone_at (a : Addr) (n c : Nat) (xs : List Int) (w : World) (hx : xs.length = n) (hbig : n ≤ 140737488355328) (hc : ∀ i, i < n → w.cell? (a.add i) = some (.int .u8 (xs.getD i 0))) :
    Calls Tryd.prog 43 #[.slice (some a) n c] w fun e w' => ∃ v', e = .returned v' ∧ w'.ownsRow w.heap.size 5 1 v' n (xs.map (Value.int .u8)) ∧ v' ≠ .slice none 0 0 ∧ Below w.heap.size w w' := Any.bytes_Clone_at Tryd.laysSlK4 a n c xs w hx hbig hc
open Go.RowKit Go.Lib in
theorem Tryd.bytes_Clone_nil (n c : Nat) (w : World) :
    Calls Tryd.prog 43 #[.slice none n c] w fun e w' => e = .returned (.slice none 0 0) ∧ w' = w := Any.bytes_Clone_nil Tryd.laysSlK4 n c w
end Go.Proofs

namespace Go.Proofs.YtjagnihkpgbjeaaDoor
open Go.RowKit
set_option linter.unusedVariables false
/-! Strings in a slice: is a text there; is a pattern there. -/
theorem strs_sl {w : World} {a : Option Addr} {n c : Nat} {l : List Bs} (h : SlS w (.slice a n c) l) : StrsL w a l := by
  intro h0
  rcases h with ⟨_, rfl⟩ | ⟨g, off, c', e, h1, h2, h3, h4⟩
  · simp at h0
  · injection e with e _ _
    exact ⟨g, off, e, h3, h4⟩
/-- Is there a % in a text? -/
def pct (b : Bs) : Bool := decide (0 ≤ Lib.indexByte b 37)
theorem addk (g off k : Nat) : (⟨g, off, none⟩ : Addr).add k = ⟨g, off + k, none⟩ := by unfold Addr.add; by_cases h : k = 0 <;> simp [h]
def IdxP (z : Int) (p : Prop) : Prop := 0 ≤ z ↔ p
set_option maxRecDepth 100000 in
set_option maxHeartbeats 2000000 in
theorem Index_any (v : Value) (L : List Bs) (x : ByteArray) (w : World) (hv : SlS w v L) (hn : L.length ≤ 1000000000) :
    Calls Tryd.prog 104 #[v, .string x] w fun e w' => (∃ z : Int, e = .returned (.int .i64 z) ∧ IdxP z (x.data.toList ∈ L)) ∧ w' = w := by
  obtain ⟨a, c, rfl⟩ := hv.len
  have HS := Lib.hid (strs_sl hv)
  obtain ⟨n, hln⟩ : ∃ n, L.length = n := ⟨_, rfl⟩
  rw [hln] at hn ⊢
  have HLN := Lib.hid hln
  clear hv hln
  go_enter Tryd.func104, Tryd.ntmps104
  go_wp2_with fail
  go_loop [8] (fun i => ∃ k : Nat, k ≤ n ∧ i = .int .i64 k ∧ Hid (∀ j (h : j < L.length), j < k → L[j] ≠ x.data.toList)) (fun i => n - (intOf i).toNat)
  case atStart => exact ⟨0, by omega, rfl, fun j _ hj => by omega⟩
  case round =>
    obtain ⟨k, hk, rfl, HN⟩ := hrel
    by_cases hlt : k < n
    · have hltI : (k : Int) < (n : Int) := by omega
      have h0 : (0 : Int) ≤ (k : Int) := by omega
      have hltL : k < L.length := by rw [HLN.out]; exact hlt
      obtain ⟨g, off, rfl, _, hc⟩ := HS.out (by omega)
      have hck := hc k hltL
      have hadd := addk g off k
      clear hc
      by_cases hx : L[k] = x.data.toList
      · have HX := Lib.hid hx
        rw [show encStr L[k] = .string ⟨L[k].toArray⟩ from rfl, hx, show (⟨x.data.toList.toArray⟩ : ByteArray) = x by cases x; simp] at hck
        clear hx
        go_wp2_with fail
        go_ret
        refine ⟨⟨_, rfl, ?_⟩, rfl⟩
        exact ⟨fun _ => HX.out ▸ List.getElem_mem hltL, fun _ => h0⟩
      · have hne : (x.toList == (⟨L[k].toArray⟩ : ByteArray).toList) = false := by
          rw [beq_eq_false_iff_ne, Lib.toList_data, Lib.toList_data]
          intro e; exact hx (by simpa using e.symm)
        have HN2 : Hid (∀ j (h : j < L.length), j < k + 1 → L[j] ≠ x.data.toList) := fun j h hj => by
          by_cases e : j = k
          · subst e; exact hx
          · exact HN.out j h (by omega)
        obtain ⟨s, hs⟩ : ∃ s : ByteArray, ⟨L[k].toArray⟩ = s := ⟨_, rfl⟩
        rw [show encStr L[k] = .string ⟨L[k].toArray⟩ from rfl, hs] at hck
        rw [hs] at hne
        clear hx hs
        go_wp2_with fail
        exact ⟨⟨k + 1, by omega, by go_num, HN2.out⟩, by simp [intOf]; omega⟩
    · have hltI : ¬ (k : Int) < (n : Int) := by omega
      go_wp2_with fail
      go_ret
      refine ⟨⟨_, rfl, ?_⟩, rfl⟩
      refine ⟨fun h => absurd h (by decide), fun h => ?_⟩
      obtain ⟨j, hj, e⟩ := List.mem_iff_getElem.1 h
      exact absurd e (HN.out j hj (by have := HLN.out; omega))
set_option maxRecDepth 100000 in
theorem Contains_any (v : Value) (L : List Bs) (x : ByteArray) (w : World) (hv : SlS w v L) (hn : L.length ≤ 1000000000) (b : Bool) (hb : L.contains x.data.toList = b) :
    Calls Tryd.prog 78 #[v, .string x] w fun e w' => e = .returned (.bool b) ∧ w' = w := by
  have HI := Lib.hid (Index_any v L x w hv hn)
  have HB : Hid (x.data.toList ∈ L ↔ b = true) := by rw [Hid, ← hb]; exact List.contains_iff_mem.symm
  obtain ⟨a, c, rfl⟩ := hv.len
  clear hv hb
  go_enter Tryd.func78, Tryd.ntmps78
  go_wp2_with fail
  refine HI.out.mono ?_
  rintro e w' ⟨⟨z, rfl, hz0⟩, h⟩
  obtain rfl := h.symm
  simp only []
  have hz := Iff.trans (show 0 ≤ z ↔ _ from hz0) HB.out
  clear HB hz0
  cases b
  · have hz1 : ¬ (0 : Int) ≤ z := fun e => by simpa using hz.1 e
    clear hz
    go_wp2_with fail
    go_ret
    exact ⟨rfl, rfl⟩
  · have hz1 : (0 : Int) ≤ z := hz.2 rfl
    clear hz
    go_wp2_with fail
    go_ret
    exact ⟨rfl, rfl⟩
set_option maxRecDepth 100000 in
theorem Is_any (p : ByteArray) (w : World) (b : Bool) (hb : pct p.data.toList = b) : Calls Tryd.prog 58 #[.string p] w fun e w' => e = .returned (.bool b) ∧ w' = w := by
  have h1 : Calls Tryd.prog 60 #[.string p, .string ⟨#[37]⟩] w fun e w' => e = .returned (.bool b) ∧ w' = w := by rw [← hb]; exact Tryd.strings_Contains_one p 37 w
  have H1 := Lib.hid h1
  clear h1 hb
  go_enter Tryd.func58, Tryd.ntmps58
  go_wp2_with fail
  refine H1.out.mono ?_
  rintro e w1 ⟨rfl, hw1⟩
  obtain rfl := hw1.symm
  simp only []
  go_wp2_with fail
  go_ret
  exact ⟨rfl, rfl⟩
set_option maxRecDepth 100000 in
set_option maxHeartbeats 2000000 in
theorem IndexF_any (v : Value) (L : List Bs) (w : World) (hv : SlS w v L) (hn : L.length ≤ 1000000000) :
    Calls Tryd.prog 84 #[v, .func (.func 58) #[] #[]] w fun e w' => (∃ z : Int, e = .returned (.int .i64 z) ∧ IdxP z (L.any pct = true)) ∧ w' = w := by
  obtain ⟨a, c, rfl⟩ := hv.len
  have HS := Lib.hid (strs_sl hv)
  obtain ⟨n, hln⟩ : ∃ n, L.length = n := ⟨_, rfl⟩
  rw [hln] at hn ⊢
  have HLN := Lib.hid hln
  clear hv hln
  go_enter Tryd.func84, Tryd.ntmps84
  go_wp2_with fail
  go_loop [8] (fun i => ∃ k : Nat, k ≤ n ∧ i = .int .i64 k ∧ Hid (∀ j (h : j < L.length), j < k → pct L[j] = false)) (fun i => n - (intOf i).toNat)
  case atStart => exact ⟨0, by omega, rfl, fun j _ hj => by omega⟩
  case round =>
    obtain ⟨k, hk, rfl, HN⟩ := hrel
    by_cases hlt : k < n
    · have hltI : (k : Int) < (n : Int) := by omega
      have h0 : (0 : Int) ≤ (k : Int) := by omega
      have hltL : k < L.length := by rw [HLN.out]; exact hlt
      obtain ⟨g, off, rfl, _, hc⟩ := HS.out (by omega)
      have hck := hc k hltL
      have hadd := addk g off k
      clear hc
      obtain ⟨s, hs⟩ : ∃ s : ByteArray, ⟨L[k].toArray⟩ = s := ⟨_, rfl⟩
      obtain ⟨b, hb⟩ : ∃ b, pct L[k] = b := ⟨_, rfl⟩
      have HI := Lib.hid (Is_any s w b (by rw [← hs]; simpa using hb))
      rw [show encStr L[k] = .string ⟨L[k].toArray⟩ from rfl, hs] at hck
      have HB := Lib.hid hb
      clear hb hs
      cases b with
      | false =>
        have HN2 : Hid (∀ j (h : j < L.length), j < k + 1 → pct L[j] = false) := fun j h hj => by
          by_cases e : j = k
          · subst e; exact HB.out
          · exact HN.out j h (by omega)
        go_wp2_with (go_at_call 58; refine HI.out.mono ?_; rintro e w1 ⟨rfl, h1⟩; obtain rfl := h1.symm; simp only [])
        exact ⟨⟨k + 1, by omega, by go_num, HN2.out⟩, by simp [intOf]; omega⟩
      | true =>
        go_wp2_with (go_at_call 58; refine HI.out.mono ?_; rintro e w1 ⟨rfl, h1⟩; obtain rfl := h1.symm; simp only [])
        go_ret
        refine ⟨⟨_, rfl, ?_⟩, rfl⟩
        exact ⟨fun _ => ⟨_, List.getElem_mem hltL, HB.out⟩, fun _ => h0⟩
    · have hltI : ¬ (k : Int) < (n : Int) := by omega
      go_wp2_with fail
      go_ret
      refine ⟨⟨_, rfl, ?_⟩, rfl⟩
      refine ⟨fun h => absurd h (by decide), fun h => ?_⟩
      obtain ⟨x, hx, hp⟩ := h
      obtain ⟨j, hj, rfl⟩ := List.mem_iff_getElem.1 hx
      rw [HN.out j hj (by have := HLN.out; omega)] at hp
      cases hp
set_option maxRecDepth 100000 in
theorem ContainsF_any (v : Value) (L : List Bs) (w : World) (hv : SlS w v L) (hn : L.length ≤ 1000000000) (b : Bool) (hb : L.any pct = b) :
    Calls Tryd.prog 57 #[v, .func (.func 58) #[] #[]] w fun e w' => e = .returned (.bool b) ∧ w' = w := by
  have HI := Lib.hid (IndexF_any v L w hv hn)
  have HB : Hid (L.any pct = true ↔ b = true) := by rw [Hid, ← hb]
  obtain ⟨a, c, rfl⟩ := hv.len
  clear hv hb
  go_enter Tryd.func57, Tryd.ntmps57
  go_wp2_with fail
  refine HI.out.mono ?_
  rintro e w' ⟨⟨z, rfl, hz0⟩, h⟩
  obtain rfl := h.symm
  simp only []
  have hz := Iff.trans (show 0 ≤ z ↔ _ from hz0) HB.out
  clear HB hz0
  cases b
  · have hz1 : ¬ (0 : Int) ≤ z := fun e => by simpa using hz.1 e
    clear hz
    go_wp2_with fail
    go_ret
    exact ⟨rfl, rfl⟩
  · have hz1 : (0 : Int) ≤ z := hz.2 rfl
    clear hz
    go_wp2_with fail
    go_ret
    exact ⟨rfl, rfl⟩
end Go.Proofs.YtjagnihkpgbjeaaDoor

namespace Go.Proofs.YtjagnihkpgbjeaaDoor
open Go.RowKit Go.Maps Go.ChangeMaps
set_option linter.unusedVariables false

abbrev Bz := List UInt8
abbrev Pth := List Bz
/-- A node: a file with its bytes, or a directory; and its time. -/
structure Nd where
  file : Bool
  data : Bz
  time : Int
abbrev Tr := Pth → Option Nd
/-- How an element reads: where it points to. -/
def ptrR : Value → Option (DataW Unit × List MemPlace)
  | .pointer none => some (.nil, [])
  | .pointer (some ⟨b, 0, none⟩) => some (.lit (.int .i64 b), [])
  | _ => none
def ptrV : Option Nat → Value
  | none => .pointer none
  | some b => .pointer (some ⟨b, 0, none⟩)
def ptrD : Option Nat → DataW Unit
  | none => .nil
  | some b => .lit (.int .i64 b)
theorem ptrR_V (o : Option Nat) : ptrR (ptrV o) = some (ptrD o, []) := by cases o <;> rfl
theorem ptrR_inv {v : Value} {o : Option Nat} {ps : List MemPlace} (h : ptrR v = some (ptrD o, ps)) : v = ptrV o := by
  unfold ptrR at h
  split at h
  · cases o with
    | none => rfl
    | some b => simp [ptrD] at h
  · rename_i b
    cases o with
    | none => simp [ptrD] at h
    | some c =>
      simp [ptrD] at h
      have hb : b = c := by have := h.1; omega
      rw [hb]; rfl
  · cases h
theorem keyedS : Keyed Tryd.prog 9 := string_keyed Tryd.underlying9
/-- A directory's map: which block its names lead to. -/
structure Kids (w : World) (N : Nat) (m : Option Nat) (g : Bz → Option Nat) : Prop where
  no : m = none → ∀ k, g k = none
  yes : ∀ b, m = some b → ∃ nn D, nn ≤ N ∧ w.ownsMap Tryd.prog 9 ptrR b nn D ∧ ∀ k : Bz, D.atKey (.string k) .nil = ptrD (g k) ∧ Maps.has D (.string k) = (g k).isSome
theorem zero50 (w : World) : (zeroValue 72).run Tryd.prog w = .ok (.pointer none) w := by kernel_rfl
theorem Kids.look {w : World} {N : Nat} {m : Option Nat} {g : Bz → Option Nat} (h : Kids w N m g) (s : ByteArray) (hs : s.size ≤ maxLen) : (Instr.lookup 67 (.map m) (.string s) false).run Tryd.prog w = .ok (ptrV (g s.data.toList)) w := by
  have hk := Go.WideMaps.keyOf_string_mk Tryd.underlying9 hs
  cases m with
  | none =>
    rw [h.no rfl]
    have := Maps.look_nil (w := w) false keyedS Tryd.underlying67 (zero50 w) hk
    simpa [ptrV] using this
  | some b =>
    obtain ⟨nn, D, _, hown, hg⟩ := h.yes b rfl
    obtain ⟨v, ps, hrun, hv⟩ := hown.lookup keyedS Tryd.underlying67 (zero50 w) (zd := .nil) (zp := []) rfl hk
    rw [(hg _).1] at hv
    rw [hrun, ptrR_inv hv]
theorem Kids.only {w w' : World} {N : Nat} {m : Option Nat} {g : Bz → Option Nat} (h : Kids w N m g) (hb : ∀ b, m = some b → b < w.heap.size → w'.heap[b]? = w.heap[b]?) : Kids w' N m g := by
  refine ⟨h.no, fun b hm => ?_⟩
  obtain ⟨nn, D, h1, hown, hg⟩ := h.yes b hm
  have hlt := hown.lt
  obtain ⟨es, clock, h2, F, hs, hD⟩ := hown
  exact ⟨nn, D, h1, ⟨es, clock, (hb b hm hlt).trans h2, F, hs, hD⟩, hg⟩
theorem Kids.lt {w : World} {N : Nat} {m : Option Nat} {g : Bz → Option Nat} (h : Kids w N m g) {b : Nat} (hm : m = some b) : b < w.heap.size := by
  obtain ⟨nn, D, h1, hown, hg⟩ := h.yes b hm
  exact hown.lt
theorem Kids.mono {w : World} {N N' : Nat} {m : Option Nat} {g : Bz → Option Nat} (h : Kids w N m g) (hN : N ≤ N') : Kids w N' m g := by
  refine ⟨h.no, fun b hm => ?_⟩
  obtain ⟨nn, D, h1, r⟩ := h.yes b hm
  exact ⟨nn, D, by omega, r⟩
theorem Kids.congr {w : World} {N : Nat} {m : Option Nat} {g g' : Bz → Option Nat} (h : Kids w N m g) (hg : ∀ k, g' k = g k) : Kids w N m g' := by
  have : g' = g := funext hg
  rw [this]; exact h
theorem keyLit (k : Bz) : WideAt.IsKeyLit (.string k) := trivial
theorem Kids.of_put {w : World} {N nn b : Nat} {D : DataW Unit} {g g' : Bz → Option Nat} {k : Bz} {a : Nat} (h : w.ownsMap Tryd.prog 9 ptrR b nn (D.put (.string k) (.lit (.int .i64 a)))) (hn : nn ≤ N) (hD : IsMap D)
    (hg : ∀ x : Bz, D.atKey (.string x) .nil = ptrD (g x) ∧ Maps.has D (.string x) = (g x).isSome) (hg' : ∀ x, g' x = if x = k then some a else g x) : Kids w N (some b) g' := by
  refine ⟨fun e => by (cases e), fun b' e => ?_⟩
  cases e
  refine ⟨nn, _, hn, h, fun x => ?_⟩
  rw [hg']
  by_cases hx : x = k
  · subst hx
    rw [if_pos rfl]
    exact ⟨atKey_put_same hD (keyLit _) _ _, Maps.has_put_same hD (keyLit _) _⟩
  · rw [if_neg hx]
    have hne : (Lit.string x) ≠ .string k := fun e => hx (by injection e)
    exact ⟨(atKey_put_other hne _ _).trans (hg x).1, (Maps.has_put_other hne _).trans (hg x).2⟩
theorem Kids.of_del {w : World} {N nn b : Nat} {D : DataW Unit} {g g' : Bz → Option Nat} {k : Bz} (h : w.ownsMap Tryd.prog 9 ptrR b nn (D.del (.string k))) (hn : nn ≤ N)
    (hg : ∀ x : Bz, D.atKey (.string x) .nil = ptrD (g x) ∧ Maps.has D (.string x) = (g x).isSome) (hg' : ∀ x, g' x = if x = k then none else g x) : Kids w N (some b) g' := by
  refine ⟨fun e => by (cases e), fun b' e => ?_⟩
  cases e
  refine ⟨nn, _, hn, h, fun x => ?_⟩
  rw [hg']
  by_cases hx : x = k
  · subst hx
    rw [if_pos rfl]
    exact ⟨atKey_del_same _, Maps.has_del_same⟩
  · rw [if_neg hx]
    have hne : (Lit.string x) ≠ .string k := fun e => hx (by injection e)
    exact ⟨(atKey_del_other hne _).trans (hg x).1, (Maps.has_del_other hne).trans (hg x).2⟩
theorem kids_made (w : World) (N : Nat) (g : Bz → Option Nat) (hg : ∀ k, g k = none) : (w.alloc (.map #[] 0)).ownsMap Tryd.prog 9 ptrR w.heap.size 0 (.map []) ∧ ∀ x : Bz, (DataW.map (H := Unit) []).atKey (.string x) .nil = ptrD (g x) ∧ Maps.has (DataW.map (H := Unit) []) (.string x) = (g x).isSome :=
  ⟨World.ownsMap_made w _ _ _, fun x => by rw [hg x]; exact ⟨rfl, rfl⟩⟩
end Go.Proofs.YtjagnihkpgbjeaaDoor

namespace Go.Proofs.YtjagnihkpgbjeaaDoor
open Go.RowKit Go.Maps Go.ChangeMaps
set_option linter.unusedVariables false

/-- Of what was there nothing but the blocks of S has turned. -/
structure Only (S : Nat → Prop) (w w' : World) : Prop where
  os : w'.os = w.os
  tape : w'.tape = w.tape
  output : w'.output = w.output
  size : w.heap.size ≤ w'.heap.size
  block : ∀ k, k < w.heap.size → ¬ S k → w'.heap[k]? = w.heap[k]?
theorem Only.refl (S : Nat → Prop) (w : World) : Only S w w := ⟨rfl, rfl, rfl, Nat.le_refl _, fun _ _ _ => rfl⟩
theorem Only.trans {S S' T : Nat → Prop} {a b c : World} (h : Only S a b) (k : Only S' b c) (hS : ∀ i, S i → T i) (hS' : ∀ i, i < a.heap.size → S' i → T i) : Only T a c :=
  ⟨k.os.trans h.os, k.tape.trans h.tape, k.output.trans h.output, Nat.le_trans h.size k.size, fun i hi hn =>
    (k.block i (Nat.lt_of_lt_of_le hi h.size) (fun e => hn (hS' i hi e))).trans (h.block i hi (fun e => hn (hS i e)))⟩
theorem Only.mono {S T : Nat → Prop} {a b : World} (h : Only S a b) (hS : ∀ i, S i → T i) : Only T a b := ⟨h.os, h.tape, h.output, h.size, fun i hi hn => h.block i hi (fun e => hn (hS i e))⟩
theorem Only.of_below {S : Nat → Prop} {a b : World} (h : Below a.heap.size a b) : Only S a b := ⟨h.os, h.tape, h.output, h.size, fun i hi _ => h.block i hi⟩
theorem Only.of_grown {S : Nat → Prop} {a b : World} {row : Option Nat} (h : a.grownBy b row) (hr : ∀ k, row = some k → S k) : Only S a b :=
  ⟨h.os, h.tape, h.output, h.size, fun i hi hn => h.block i hi (fun e => hn (hr i e.symm))⟩
theorem Only.below {S : Nat → Prop} {a b : World} {B : Nat} (h : Only S a b) (hS : ∀ k, S k → B ≤ k) (hB : B ≤ a.heap.size) : Below B a b :=
  ⟨h.os, h.tape, h.output, h.size, fun i hi => h.block i (by omega) (fun e => by have := hS i e; omega)⟩
theorem Only.set {S : Nat → Prop} {a w : World} (h : Only S a w) {g : Nat} (hg : S g ∨ a.heap.size ≤ g) (i : Nat) (u : Value) : Only S a (w.setCell ⟨g, i, none⟩ u) :=
  ⟨h.os, h.tape, h.output, by simpa using h.size, fun k hk hn => (Below.heap_setCell _ _ _ _ (by intro e; have e : k = g := e; subst e; rcases hg with e | e; exact hn e; omega)).trans (h.block k hk hn)⟩

theorem row_only {w w' : World} {B n : Nat} {v : Value} {xs : List Value} (h : w.ownsRow B 5 1 v n xs) (hb : ∀ g, v.ownBlock = some g → g < w.heap.size → w'.heap[g]? = w.heap[g]?) : w'.ownsRow B 5 1 v n xs := by
  refine ⟨h.1, ?_⟩
  rcases h.2 with hn | ⟨g, cap, cur, rfl, h1, h2, r⟩
  · exact .inl hn
  · exact .inr ⟨g, cap, cur, rfl, h1, (hb g rfl (Array.getElem?_eq_some_iff.1 h2).1).trans h2, r⟩
theorem row_lt {w : World} {B n : Nat} {v : Value} {xs : List Value} (h : w.ownsRow B 5 1 v n xs) {g : Nat} (hg : v.ownBlock = some g) : g < w.heap.size := by
  rcases h.2 with ⟨rfl, _⟩ | ⟨g', cap, cur, rfl, h1, h2, r⟩
  · cases hg
  · cases hg
    exact (Array.getElem?_eq_some_iff.1 h2).1

def u8s (l : Bz) : List Value := l.map fun c => .int .u8 c.toNat
theorem u8s_len (l : Bz) : (u8s l).length = l.length := List.length_map ..
def ndC (n : Nd) (v : Value) (m : Option Nat) : List Value := [.bool n.file, v, .int .i64 n.time, .map m]
def tlOf (tl : List Value) : Pth → List Value
  | [] => tl
  | _ => []
def tyOf (ty : TypeId) : Pth → TypeId
  | [] => ty
  | _ => 69
def kidsOf (T : Tr) (A : Pth → Nat) (p : Pth) (k : Bz) : Option Nat := if (T (p ++ [k])).isSome then some (A (p ++ [k])) else none
/-- A tree of nodes lies at block f. -/
structure TreeAt (w : World) (B N f : Nat) (ty : TypeId) (tl : List Value) (T : Tr) (A : Pth → Nat) (M : Pth → Option Nat) (V : Pth → Value) : Prop where
  a0 : A [] = f
  root : ∃ n, T [] = some n
  up : ∀ p k, (T (p ++ [k])).isSome → ∃ n, T p = some n ∧ n.file = false
  blk : ∀ p n, T p = some n → w.heap[A p]? = some (.cells (ndC n (V p) (M p) ++ tlOf tl p).toArray (tyOf ty p) (0, 0))
  data : ∀ p n, T p = some n → w.ownsRow B 5 1 (V p) n.data.length (u8s n.data)
  kids : ∀ p n, T p = some n → Kids w N (M p) (kidsOf T A p)
  base : ∀ p n, T p = some n → B ≤ A p ∧ ∀ b, M p = some b → B ≤ b
  injA : ∀ p q, (T p).isSome → (T q).isSome → A p = A q → p = q
  injM : ∀ p q b, (T p).isSome → (T q).isSome → M p = some b → M q = some b → p = q
  injV : ∀ p q b, (T p).isSome → (T q).isSome → (V p).ownBlock = some b → (V q).ownBlock = some b → p = q
/-- The blocks of a tree. -/
def foot (T : Tr) (A : Pth → Nat) (M : Pth → Option Nat) (V : Pth → Value) (k : Nat) : Prop := ∃ p n, T p = some n ∧ (A p = k ∨ M p = some k ∨ (V p).ownBlock = some k)
section
variable {w w' : World} {B N f : Nat} {ty : TypeId} {tl : List Value} {T : Tr} {A : Pth → Nat} {M : Pth → Option Nat} {V : Pth → Value}
theorem TreeAt.lt (h : TreeAt w B N f ty tl T A M V) {k : Nat} (hk : foot T A M V k) : k < w.heap.size := by
  obtain ⟨p, n, hp, e | e | e⟩ := hk
  · have := h.blk p n hp
    rw [e] at this
    exact (Array.getElem?_eq_some_iff.1 this).1
  · exact (h.kids p n hp).lt e
  · exact row_lt (h.data p n hp) e
theorem TreeAt.ge (h : TreeAt w B N f ty tl T A M V) {k : Nat} (hk : foot T A M V k) : B ≤ k := by
  obtain ⟨p, n, hp, e | e | e⟩ := hk
  · rw [← e]; exact (h.base p n hp).1
  · exact (h.base p n hp).2 k e
  · rcases (h.data p n hp).2 with ⟨e1, _⟩ | ⟨g, cap, cur, e1, h1, h2, r⟩
    · rw [e1] at e; cases e
    · rw [e1] at e; cases e; exact h1
theorem TreeAt.only {X : Nat → Prop} (h : TreeAt w B N f ty tl T A M V) (ho : Only X w w') (hd : ∀ k, X k → ¬ foot T A M V k) : TreeAt w' B N f ty tl T A M V := by
  have hb : ∀ k, foot T A M V k → w'.heap[k]? = w.heap[k]? := fun k hk => ho.block k (h.lt hk) (fun e => hd k e hk)
  exact ⟨h.a0, h.root, h.up, fun p n hp => (hb _ ⟨p, n, hp, .inl rfl⟩).trans (h.blk p n hp), fun p n hp => row_only (h.data p n hp) (fun g hg _ => hb g ⟨p, n, hp, .inr (.inr hg)⟩),
    fun p n hp => (h.kids p n hp).only (fun b hm _ => hb b ⟨p, n, hp, .inr (.inl hm)⟩), h.base, h.injA, h.injM, h.injV⟩
theorem TreeAt.mono (h : TreeAt w B N f ty tl T A M V) {N' : Nat} (hN : N ≤ N') : TreeAt w B N' f ty tl T A M V :=
  ⟨h.a0, h.root, h.up, h.blk, h.data, fun p n hp => (h.kids p n hp).mono hN, h.base, h.injA, h.injM, h.injV⟩
/-- The blocks of the three sorts differ. -/
theorem TreeAt.neAM (h : TreeAt w B N f ty tl T A M V) {p q : Pth} {b : Nat} (hp : (T p).isSome) (hq : (T q).isSome) (hm : M q = some b) : A p ≠ b := by
  obtain ⟨n, hn⟩ := Option.isSome_iff_exists.1 hp
  obtain ⟨n', hn'⟩ := Option.isSome_iff_exists.1 hq
  intro e
  obtain ⟨nn, D, _, hown, _⟩ := (h.kids q n' hn').yes b hm
  obtain ⟨es, clock, h2, _⟩ := hown
  have := h.blk p n hn
  rw [e, h2] at this
  cases this
theorem tyOf_ne (hty : ty ≠ 5) (p : Pth) : tyOf ty p ≠ 5 := by
  cases p with
  | nil => exact hty
  | cons => exact show (69 : Nat) ≠ 5 by decide
theorem TreeAt.neAV (h : TreeAt w B N f ty tl T A M V) (hty : ty ≠ 5) {p q : Pth} {b : Nat} (hp : (T p).isSome) (hq : (T q).isSome) (hm : (V q).ownBlock = some b) : A p ≠ b := by
  obtain ⟨n, hn⟩ := Option.isSome_iff_exists.1 hp
  obtain ⟨n', hn'⟩ := Option.isSome_iff_exists.1 hq
  intro e
  rcases (h.data q n' hn').2 with ⟨e1, _⟩ | ⟨g, cap, cur, e1, h1, h2, r⟩
  · rw [e1] at hm; cases hm
  · rw [e1] at hm
    cases hm
    have := h.blk p n hn
    rw [e] at this
    have h3 := h2.symm.trans this
    injection h3 with h3
    injection h3 with _ h3 _
    exact tyOf_ne hty p h3.symm
theorem TreeAt.neMV (h : TreeAt w B N f ty tl T A M V) {p q : Pth} {b c : Nat} (hp : (T p).isSome) (hq : (T q).isSome) (hc : M p = some c) (hm : (V q).ownBlock = some b) : c ≠ b := by
  obtain ⟨n, hn⟩ := Option.isSome_iff_exists.1 hp
  obtain ⟨n', hn'⟩ := Option.isSome_iff_exists.1 hq
  intro e
  obtain ⟨nn, D, _, hown, _⟩ := (h.kids p n hn).yes c hc
  obtain ⟨es, clock, hx, _⟩ := hown
  rcases (h.data q n' hn').2 with ⟨e1, _⟩ | ⟨g, cap, cur, e1, h1, h2, r⟩
  · rw [e1] at hm; cases hm
  · rw [e1] at hm
    cases hm
    rw [e, h2] at hx
    cases hx
end
end Go.Proofs.YtjagnihkpgbjeaaDoor
