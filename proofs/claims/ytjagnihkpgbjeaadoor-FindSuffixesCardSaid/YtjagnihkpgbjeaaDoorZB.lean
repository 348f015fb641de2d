import Derived.Shelf.Strings.Builder1
import Derived.Shelf.Strings.Builder2
import Derived.Shelf.Strings.OnBuilder
import Derived.Shelf.Strings.Trim
import Derived.Shelf.Small.Utf8
import Derived.Shelf.Small.Strs
import Derived.Shelf.Small.Wraps
import Derived.Shelf.Strings.Search1
import Derived.Shelf.Strings.Search2
import Derived.Shelf.Strings.Search3
import Derived.Shelf.Strings.Cut
import Derived.Shelf.Strings.Count
import Derived.Shelf.LaysM
import Derived.Shelf.Strings.Shaped
import Derived.Shelf.Strings.Prefix
import Derived.Shelf.Strings.Split
import Derived.Shelf.Strings.Replace
import Derived.Shelf.Strings.Runes
import Derived.Shelf.Strings.AsciiSet
import Derived.Shelf.Unicode.DecodeSlow
import Derived.Ground.Names2Prog
import Derived.Shelf.Slices.Clone
import Derived.Ground.SlbCloneProg
import Derived.Shelf.Bytes.SlClone
import Derived.Test.YtjagnihkpgbjeaaDoorProg
import Derived.Test.YtjagnihkpgbjeaaDoorRows
import Derived.WalkKit
import Derived.OwnWalk
import Derived.Lib.Hide
import Derived.Lib.Strings
import Derived.Sort.EncStr
import Derived.Laws.AppendOwn
import Derived.Deep.AppendLies
import Derived.Sort.OwnSorted
import Derived.Laws.AppendOwnNone
import Derived.BigQuiet
import Derived.Deep.Draws
import Derived.Deep.QuietTactic
namespace Go.Proofs
open Go.Shelf
def Tryd.lays145_ren : Go.Shelf.Ren := ⟨fun | 145 => 123 | 220 => 150 | 219 => 110 | 217 => 126 | 225 => 127 | 224 => 128 | 267 => 129 | 266 => 152 | 314 => 153 | n => n, fun | 9 => 9 | 4 => 4 | 59 => 146 | 3 => 3 | 5 => 5 | 46 => 154 | 146 => 187 | 51 => 183 | n => n, fun | 1 => 0 | n => n⟩
theorem Tryd.lays145 : Go.Proofs.Lays.n145 Tryd.prog Tryd.lays145_ren := {
  mixed := by kernel_rfl
  f145 := Tryd.func123.trans (congrArg some (by kernel_rfl))
  f217 := Tryd.func126.trans (congrArg some (by kernel_rfl))
  f219 := Tryd.func110.trans (congrArg some (by kernel_rfl))
  f220 := Tryd.func150.trans (congrArg some (by kernel_rfl))
  f224 := Tryd.func128.trans (congrArg some (by kernel_rfl))
  f225 := Tryd.func127.trans (congrArg some (by kernel_rfl))
  f266 := Tryd.func152.trans (congrArg some (by kernel_rfl))
  f267 := Tryd.func129.trans (congrArg some (by kernel_rfl))
  f314 := Tryd.func153.trans (congrArg some (by kernel_rfl))
  t3 := Tryd.underlying3
  a3 := Tryd.isAgg3
  z3 := Tryd.sizeOf3
  v3 := Tryd.zeroValue3
  t4 := Tryd.underlying4
  a4 := Tryd.isAgg4
  z4 := Tryd.sizeOf4
  v4 := Tryd.zeroValue4
  t5 := Tryd.underlying5
  a5 := Tryd.isAgg5
  z5 := Tryd.sizeOf5
  v5 := Tryd.zeroValue5
  t9 := Tryd.underlying9
  a9 := Tryd.isAgg9
  z9 := Tryd.sizeOf9
  v9 := Tryd.zeroValue9
  t46 := Tryd.underlying154
  a46 := Tryd.isAgg154
  z46 := Tryd.sizeOf154
  v46 := Tryd.zeroValue154
  t51 := Tryd.underlying183
  a51 := Tryd.isAgg183
  z51 := Tryd.sizeOf183
  v51 := Tryd.zeroValue183
  t59 := Tryd.underlying146
  a59 := Tryd.isAgg146
  z59 := Tryd.sizeOf146
  v59 := Tryd.zeroValue146
  t146 := Tryd.underlying187
  a146 := Tryd.isAgg187
  z146 := Tryd.sizeOf187
  v146 := Tryd.zeroValue187
  g1 := by kernel_rfl }
open Go.RowKit Go.Lib in
theorem Tryd.strings_Cut (s sep : ByteArray) (m : Int) (w : World) (hs : s.size < 4294967281) (hm : w.cell? ⟨0, 0, none⟩ = some (.int .i64 m)) :
    Calls Tryd.prog 123 #[.string s, .string sep] w fun e w' => e = .returned (.tuple #[.string ⟨(Lib.cut s.data.toList sep.data.toList).1.toArray⟩, .string ⟨(Lib.cut s.data.toList sep.data.toList).2.1.toArray⟩, .bool (Lib.cut s.data.toList sep.data.toList).2.2]) ∧ ∃ n, w' = w.drewN n := Any.strings_Cut Tryd.lays145 s sep m w hs hm
def Tryd.lays100_ren : Go.Shelf.Ren := ⟨fun | 100 => 109 | 207 => 125 | n => n, fun | 9 => 9 | 4 => 4 | 3 => 3 | n => n, fun | n => n⟩
theorem Tryd.lays100 : Go.Proofs.Lays.n100 Tryd.prog Tryd.lays100_ren := {
  mixed := by kernel_rfl
  f100 := Tryd.func109.trans (congrArg some (by kernel_rfl))
  f207 := Tryd.func125.trans (congrArg some (by kernel_rfl))
  t3 := Tryd.underlying3
  a3 := Tryd.isAgg3
  z3 := Tryd.sizeOf3
  v3 := Tryd.zeroValue3
  t4 := Tryd.underlying4
  a4 := Tryd.isAgg4
  z4 := Tryd.sizeOf4
  v4 := Tryd.zeroValue4
  t9 := Tryd.underlying9
  a9 := Tryd.isAgg9
  z9 := Tryd.sizeOf9
  v9 := Tryd.zeroValue9 }
open Go.RowKit Go.Lib in
theorem Tryd.strings_HasSuffix (s p : ByteArray) (w : World) (hs : s.size ≤ 9223372036854775807) :
    Calls Tryd.prog 109 #[.string s, .string p] w fun e w' => e = .returned (.bool (Lib.hasSuffix s.data.toList p.data.toList)) ∧ w' = w := Any.strings_HasSuffix Tryd.lays100 s p w hs
def Tryd.lays154_ren : Go.Shelf.Ren := ⟨fun | 154 => 124 | 138 => 151 | 165 => 131 | 143 => 86 | 166 => 132 | 197 => 120 | 169 => 133 | 195 => 165 | 218 => 166 | 240 => 154 | 241 => 155 | 219 => 110 | 260 => 147 | 276 => 167 | 277 => 168 | 217 => 126 | 225 => 127 | 224 => 128 | 267 => 129 | 266 => 152 | 314 => 153 | n => n, fun | 9 => 9 | 3 => 3 | 4 => 4 | 72 => 166 | 0 => 0 | 76 => 170 | 105 => 156 | 21 => 21 | 5 => 5 | 70 => 164 | 20 => 20 | 37 => 28 | 75 => 169 | 127 => 189 | 164 => 201 | 46 => 154 | 119 => 196 | 139 => 199 | 138 => 198 | 146 => 187 | 51 => 183 | 80 => 172 | n => n, fun | 1 => 0 | 3 => 1 | 4 => 2 | n => n⟩
theorem Tryd.lays154 : Go.Proofs.Lays.n154 Tryd.prog Tryd.lays154_ren := {
  mixed := by kernel_rfl
  f138 := Tryd.func151.trans (congrArg some (by kernel_rfl))
  f143 := Tryd.func86.trans (congrArg some (by kernel_rfl))
  f154 := Tryd.func124.trans (congrArg some (by kernel_rfl))
  f165 := Tryd.func131.trans (congrArg some (by kernel_rfl))
  f166 := Tryd.func132.trans (congrArg some (by kernel_rfl))
  f169 := Tryd.func133.trans (congrArg some (by kernel_rfl))
  f195 := Tryd.func165.trans (congrArg some (by kernel_rfl))
  f197 := Tryd.func120.trans (congrArg some (by kernel_rfl))
  f217 := Tryd.func126.trans (congrArg some (by kernel_rfl))
  f218 := Tryd.func166.trans (congrArg some (by kernel_rfl))
  f219 := Tryd.func110.trans (congrArg some (by kernel_rfl))
  f224 := Tryd.func128.trans (congrArg some (by kernel_rfl))
  f225 := Tryd.func127.trans (congrArg some (by kernel_rfl))
  f240 := Tryd.func154.trans (congrArg some (by kernel_rfl))
  f241 := Tryd.func155.trans (congrArg some (by kernel_rfl))
  f260 := Tryd.func147.trans (congrArg some (by kernel_rfl))
  f266 := Tryd.func152.trans (congrArg some (by kernel_rfl))
  f267 := Tryd.func129.trans (congrArg some (by kernel_rfl))
  f276 := Tryd.func167.trans (congrArg some (by kernel_rfl))
  f277 := Tryd.func168.trans (congrArg some (by kernel_rfl))
  f314 := Tryd.func153.trans (congrArg some (by kernel_rfl))
  t0 := Tryd.underlying0
  a0 := Tryd.isAgg0
  z0 := Tryd.sizeOf0
  v0 := Tryd.zeroValue0
  t3 := Tryd.underlying3
  a3 := Tryd.isAgg3
  z3 := Tryd.sizeOf3
  v3 := Tryd.zeroValue3
  t4 := Tryd.underlying4
  a4 := Tryd.isAgg4
  z4 := Tryd.sizeOf4
  v4 := Tryd.zeroValue4
  t5 := Tryd.underlying5
  a5 := Tryd.isAgg5
  z5 := Tryd.sizeOf5
  v5 := Tryd.zeroValue5
  t9 := Tryd.underlying9
  a9 := Tryd.isAgg9
  z9 := Tryd.sizeOf9
  v9 := Tryd.zeroValue9
  t20 := Tryd.underlying20
  a20 := Tryd.isAgg20
  z20 := Tryd.sizeOf20
  v20 := Tryd.zeroValue20
  t21 := Tryd.underlying21
  a21 := Tryd.isAgg21
  z21 := Tryd.sizeOf21
  v21 := Tryd.zeroValue21
  t37 := Tryd.underlying28
  a37 := Tryd.isAgg28
  z37 := Tryd.sizeOf28
  v37 := Tryd.zeroValue28
  t46 := Tryd.underlying154
  a46 := Tryd.isAgg154
  z46 := Tryd.sizeOf154
  v46 := Tryd.zeroValue154
  t51 := Tryd.underlying183
  a51 := Tryd.isAgg183
  z51 := Tryd.sizeOf183
  v51 := Tryd.zeroValue183
  t70 := Tryd.underlying164
  a70 := Tryd.isAgg164
  z70 := Tryd.sizeOf164
  v70 := Tryd.zeroValue164
  t72 := Tryd.underlying166
  a72 := Tryd.isAgg166
  z72 := Tryd.sizeOf166
  v72 := Tryd.zeroValue166
  t75 := Tryd.underlying169
  a75 := Tryd.isAgg169
  z75 := Tryd.sizeOf169
  v75 := Tryd.zeroValue169
  t76 := Tryd.underlying170
  a76 := Tryd.isAgg170
  z76 := Tryd.sizeOf170
  v76 := Tryd.zeroValue170
  t105 := Tryd.underlying156
  a105 := Tryd.isAgg156
  z105 := Tryd.sizeOf156
  v105 := Tryd.zeroValue156
  t119 := Tryd.underlying196
  a119 := Tryd.isAgg196
  z119 := Tryd.sizeOf196
  t127 := Tryd.underlying189
  a127 := Tryd.isAgg189
  z127 := Tryd.sizeOf189
  v127 := Tryd.zeroValue189
  t138 := Tryd.underlying198
  a138 := Tryd.isAgg198
  z138 := Tryd.sizeOf198
  v138 := Tryd.zeroValue198
  t139 := Tryd.underlying199
  a139 := Tryd.isAgg199
  z139 := Tryd.sizeOf199
  v139 := Tryd.zeroValue199
  t146 := Tryd.underlying187
  a146 := Tryd.isAgg187
  z146 := Tryd.sizeOf187
  v146 := Tryd.zeroValue187
  t164 := Tryd.underlying201
  a164 := Tryd.isAgg201
  z164 := Tryd.sizeOf201
  v164 := Tryd.zeroValue201
  g1 := by kernel_rfl
  g3 := by kernel_rfl
  g4 := by kernel_rfl }
theorem Tryd.Builder_Extra_154 : Builder.Extra Tryd.prog Tryd.lays154_ren := {
  sizeBuilder := by kernel_rfl
  liesBuilder := by kernel_rfl
  t5 := Tryd.underlying5
  a5 := Tryd.isAgg5
  z5 := Tryd.sizeOf5
  v5 := Tryd.zeroValue5
  infoByte := by kernel_rfl
  cellsByte := by kernel_rfl
  sizeByte := by kernel_rfl
  neB5 := by decide }
open Go.RowKit Go.Lib in
theorem Tryd.strings_Replace_some (s old new : ByteArray) (n : Int) (m : Int) (w : World) (hs : s.size < 4294967281) (hm : w.cell? ⟨0, 0, none⟩ = some (.int .i64 m)) (h1 : 1 ≤ old.size) (hne : old ≠ new) (hn0 : n ≠ 0) (hc0 : Lib.countB s old ≠ 0) (hlen : s.size + Lib.countB s old * new.size ≤ 140737488355328) :
    Calls Tryd.prog 124 #[.string s, .string old, .string new, .int .i64 n] w fun e w' =>
      e = .returned (.string ⟨(Lib.replaceK old.data.toList new.data.toList (Lib.replaceNum s.data.toList old.data.toList n) s.data.toList).toArray⟩) ∧ Below w.heap.size w w' := Any.strings_Replace_some Tryd.lays154 Tryd.Builder_Extra_154 s old new n m w hs hm h1 hne hn0 hc0 hlen
open Go.RowKit Go.Lib in
theorem Tryd.strings_Replace_none (s old new : ByteArray) (n : Int) (w : World) (h : old = new ∨ n = 0) :
    Calls Tryd.prog 124 #[.string s, .string old, .string new, .int .i64 n] w fun e w' => e = .returned (.string s) ∧ w' = w := Any.strings_Replace_none Tryd.lays154 s old new n w h
open Go.RowKit Go.Lib in
theorem Tryd.strings_Replace_absent (s old new : ByteArray) (n : Int) (m : Int) (w : World) (hs : s.size < 4294967281) (hm : w.cell? ⟨0, 0, none⟩ = some (.int .i64 m)) (h1 : 1 ≤ old.size) (hne : old ≠ new) (hn0 : n ≠ 0) (hc0 : Lib.countB s old = 0) :
    Calls Tryd.prog 124 #[.string s, .string old, .string new, .int .i64 n] w fun e w' => e = .returned (.string s) ∧ w' = w := Any.strings_Replace_absent Tryd.lays154 s old new n m w hs hm h1 hne hn0 hc0
open Go.RowKit Go.Lib in
theorem Tryd.strings_Replace (s old new : ByteArray) (n : Int) (m : Int) (w : World) (hs : s.size < 4294967281) (hm : w.cell? ⟨0, 0, none⟩ = some (.int .i64 m)) (h1 : 1 ≤ old.size) (hlen : s.size + Lib.countB s old * new.size ≤ 140737488355328) :
    Calls Tryd.prog 124 #[.string s, .string old, .string new, .int .i64 n] w fun e w' =>
      e = .returned (.string ⟨(Lib.replace s.data.toList old.data.toList new.data.toList n).toArray⟩) ∧ Below w.heap.size w w' := Any.strings_Replace Tryd.lays154 Tryd.Builder_Extra_154 s old new n m w hs hm h1 hlen
end Go.Proofs

namespace Go.Proofs.YtjagnihkpgbjeaaDoor
open Go.RowKit

abbrev Bs := List UInt8
def gb (s : ByteArray) (i : Nat) : UInt8 := s.data.toList.getD i 0
theorem gb_eq (s : ByteArray) (i : Nat) (h : i < s.size) : s[i] = gb s i := by
  have : i < s.data.toList.length := by simpa using h
  unfold gb
  rw [List.getD_eq_getElem?_getD, List.getElem?_eq_getElem this]; rfl

/-- The pieces between the strokes. -/
def sp : Bs → List Bs
  | [] => [[]]
  | c :: t => if c = 47 then [] :: sp t else match sp t with
    | [] => [[c]]
    | a :: r => (c :: a) :: r
def push (l : List Bs) (s : Bs) : List Bs := if s = [] ∨ s = [46] then l else if s = [46, 46] then l.dropLast else l ++ [s]

theorem sp_all : ∀ a : Bs, (∀ c ∈ a, c ≠ 47) → sp a = [a]
  | [], _ => rfl
  | c :: t, h => by
    rw [sp, if_neg (h c (by simp)), sp_all t (fun x hx => h x (by simp [hx]))]
theorem sp_cut : ∀ (a t : Bs), (∀ c ∈ a, c ≠ 47) → sp (a ++ 47 :: t) = a :: sp t
  | [], t, _ => by simp [sp]
  | c :: a, t, h => by
    rw [List.cons_append, sp, if_neg (h c (by simp)), sp_cut a t (fun x hx => h x (by simp [hx]))]

/-- The bytes of s from f up to i. -/
def seg (s : ByteArray) (f i : Nat) : Bs := (s.data.toList.take i).drop f
theorem seg_ext (s : ByteArray) (f i : Nat) : (s.extract f i).toList = seg s f i := by
  rw [Lib.extract_toList]
  unfold seg
  rw [List.drop_take]
theorem seg_no (s : ByteArray) (f i : Nat) (hi : i ≤ s.size) (h : ∀ j, f ≤ j → j < i → gb s j ≠ 47) : ∀ c ∈ seg s f i, c ≠ 47 := by
  intro c hc
  obtain ⟨j, hj, rfl⟩ := List.mem_iff_getElem.1 hc
  have hl : s.data.toList.length = s.size := Array.length_toList
  unfold seg at hj ⊢
  rw [List.length_drop, List.length_take] at hj
  have := h (f + j) (by omega) (by omega)
  rw [List.getElem_drop, List.getElem_take]
  unfold gb at this
  rw [List.getD_eq_getElem?_getD, List.getElem?_eq_getElem (by omega)] at this
  exact this
theorem seg_end (s : ByteArray) (f : Nat) : seg s f s.size = s.data.toList.drop f := by
  have hl : s.data.toList.length = s.size := Array.length_toList
  unfold seg
  rw [List.take_of_length_le (by omega)]
theorem seg_cut (s : ByteArray) (f i : Nat) (hf : f ≤ i) (hi : i < s.size) : s.data.toList.drop f = seg s f i ++ gb s i :: s.data.toList.drop (i + 1) := by
  have hl : s.data.toList.length = s.size := Array.length_toList
  have hb : s.data.toList.drop i = gb s i :: s.data.toList.drop (i + 1) := by
    rw [List.drop_eq_getElem_cons (by omega)]
    unfold gb
    rw [List.getD_eq_getElem?_getD, List.getElem?_eq_getElem (by omega)]; rfl
  rw [← hb]
  unfold seg
  conv => lhs; rw [← List.take_append_drop i s.data.toList]
  rw [List.drop_append_of_le_length (by rw [List.length_take]; omega)]

theorem push_len (l : List Bs) (s : Bs) : (push l s).length ≤ l.length + 1 := by
  unfold push
  split
  · omega
  · split
    · simp; omega
    · simp

theorem cut_step {p : ByteArray} {f i : Nat} {l R : List Bs} (hf : f ≤ i) (hi : i < p.size) (hno : ∀ j, f ≤ j → j < i → gb p j ≠ 47) (h47 : gb p i = 47) (hR : (sp (p.data.toList.drop f)).foldl push l = R) :
    (sp (p.data.toList.drop (i + 1))).foldl push (push l (seg p f i)) = R := by
  rw [seg_cut p f i hf hi, h47, sp_cut _ _ (seg_no p f i (by omega) hno)] at hR
  exact hR
theorem end_step {p : ByteArray} {f : Nat} {l R : List Bs} (hno : ∀ j, f ≤ j → j < p.size → gb p j ≠ 47) (hR : (sp (p.data.toList.drop f)).foldl push l = R) :
    push l (seg p f p.size) = R := by
  rw [← seg_end, sp_all _ (seg_no p f p.size (Nat.le_refl _) hno)] at hR
  exact hR
end Go.Proofs.YtjagnihkpgbjeaaDoor

namespace Go.Proofs.YtjagnihkpgbjeaaDoor
open Go.RowKit

theorem info9 : (Tryd.prog.info? 9).map (fun i => (i.zero, i.size, i.bytes)) = some (some (.string ⟨#[]⟩), 1, 16) := by kernel_rfl
theorem elem30 : Tryd.prog.elem 29 = 9 := by kernel_rfl

theorem push_dd (l : List Bs) : push l [46, 46] = l.dropLast := by
  unfold push
  rw [if_neg (by simp), if_pos rfl]
theorem slice_last (g n c : Nat) (hn : 0 < n) (hc : n ≤ c) :
    ∀ w, (Instr.slice 29 (.slice (some ⟨g, 0, none⟩) n c) none (some (.int .i64 ((n : Int) - 1))) none).run Tryd.prog w = .ok (.slice (some ⟨g, 0, none⟩) (n - 1) c) w := by
  intro w
  rw [run_slice_h (P := Tryd.prog) (w := w) 29 (some ⟨g, 0, none⟩) n c (by rw [elem30]; exact Tryd.underlying29) .i64 ((n : Int) - 1) (by omega) (by omega), elem30, Tryd.sizeOf9]
  simp [Result.andThen, sliced, Addr.add]
theorem own_cap {w : World} {B g n c : Nat} {xs : List Value} (h : w.ownsRow B 9 1 (.slice (some ⟨g, 0, none⟩) n c) n xs) (hn : 0 < n) : n ≤ c := by
  rcases h.2 with ⟨_, h0⟩ | ⟨g', c', cur, hv, _, _, h1, _⟩
  · omega
  · injection hv with _ _ e
    rw [e]; exact h1
theorem own_last {w : World} {B g c : Nat} {l : List Bs} (h : w.ownsRow B 9 1 (.slice (some ⟨g, 0, none⟩) l.length c) l.length (l.map encStr)) (hn : 0 < l.length) :
    w.ownsRow B 9 1 (.slice (some ⟨g, 0, none⟩) (l.length - 1) c) (l.length - 1) (l.dropLast.map encStr) := by
  rcases h.2 with ⟨_, h0⟩ | ⟨g', c', cur, hv, hb, hg, h1, h2, h3, h4⟩
  · omega
  · injection hv with e1 _ e3
    subst e3
    injection e1 with e1
    injection e1 with e1
    subst e1
    refine ⟨by simp, .inr ⟨g, c, cur, rfl, hb, hg, by omega, h2, h3, ?_⟩⟩
    rw [List.dropLast_eq_take, List.map_take, ← h4, List.take_take, Nat.mul_one, Nat.mul_one, Nat.min_eq_left (by omega)]
theorem enc_of {s : ByteArray} {sg : Bs} (h : s.toList = sg) : Value.string s = encStr sg := by
  rw [Lib.toList_data] at h
  rw [← h]
theorem own_form {w : World} {B n : Nat} {v : Value} {xs : List Value} (h : w.ownsRow B 9 1 v n xs) : ∃ A c, v = .slice A n c := by
  rcases h.2 with ⟨h1, h0⟩ | ⟨g, c, _, h1, _⟩
  · exact ⟨none, 0, by rw [h1, h0]⟩
  · exact ⟨_, c, h1⟩

/-- The loop of names. -/
structure NR (B : Nat) (w wr : World) (p : ByteArray) (n0 : Nat) (v : Value) (f i : Nat) (l R : List Bs) : Prop where
  fi : f ≤ i
  ip : i ≤ p.size + 1
  own : wr.ownsRow B 9 1 v l.length (l.map encStr)
  len : l.length ≤ n0 + i
  old : Below B w wr
  no : ∀ j, f ≤ j → j < i → j < p.size → gb p j ≠ 47
  goes : i ≤ p.size → (sp (p.data.toList.drop f)).foldl push l = R
  ends : i = p.size + 1 → l = R

theorem NR.cut {B : Nat} {w wr wr' : World} {p : ByteArray} {n0 : Nat} {x x' : Value} {f i : Nat} {l R : List Bs} (h : NR B w wr p n0 x f i l R) (hc : i < p.size ∧ gb p i = 47 ∨ i = p.size)
    (hown : wr'.ownsRow B 9 1 x' (push l (seg p f i)).length ((push l (seg p f i)).map encStr)) (hB : Below B w wr') : NR B w wr' p n0 x' (i + 1) (i + 1) (push l (seg p f i)) R := by
  refine ⟨Nat.le_refl _, by have := h.ip; omega, hown, ?_, hB, fun j h1 h2 => by omega, fun hi => ?_, fun hi => ?_⟩
  · have := push_len l (seg p f i)
    have := h.len
    omega
  · rcases hc with ⟨h1, h2⟩ | h1
    · exact cut_step h.fi h1 (fun j a b => h.no j a b (by omega)) h2 (h.goes (by omega))
    · omega
  · rcases hc with ⟨h1, h2⟩ | h1
    · omega
    · subst h1
      exact end_step (fun j a b => h.no j a b b) (h.goes (Nat.le_refl _))
theorem NR.skip {B : Nat} {w wr : World} {p : ByteArray} {n0 : Nat} {x : Value} {f i : Nat} {l R : List Bs} (h : NR B w wr p n0 x f i l R) (hi : i < p.size) (hc : gb p i ≠ 47) : NR B w wr p n0 x f (i + 1) l R := by
  refine ⟨by have := h.fi; omega, by omega, h.own, by have := h.len; omega, h.old, fun j h1 h2 h3 => ?_, fun _ => h.goes (by omega), fun e => by omega⟩
  by_cases e : j = i
  · subst e; exact hc
  · exact h.no j h1 (by omega) h3

end Go.Proofs.YtjagnihkpgbjeaaDoor

namespace Go.Proofs.YtjagnihkpgbjeaaDoor
open Go.RowKit

/-- The names of a path as it is seen from a directory. -/
def parts (cwd p : ByteArray) : List Bs :=
  (sp p.data.toList).foldl push (if 0 < p.size ∧ gb p 0 = 47 then [] else (sp cwd.data.toList).foldl push [])

theorem push_fold_len (P : List Bs) : ∀ l : List Bs, (P.foldl push l).length ≤ l.length + P.length := by
  induction P with
  | nil => intro l; simp
  | cons a P ih =>
    intro l
    have h1 := ih (push l a)
    have h2 := push_len l a
    simp only [List.foldl_cons, List.length_cons]
    omega
theorem sp_len : ∀ a : Bs, (sp a).length ≤ a.length + 1
  | [] => by simp [sp]
  | c :: t => by
    have h := sp_len t
    rw [sp]
    split
    · simp; omega
    · split
      · simp
      · rename_i a r e
        rw [e] at h
        simp at h ⊢
        omega

end Go.Proofs.YtjagnihkpgbjeaaDoor

namespace Go.Proofs.YtjagnihkpgbjeaaDoor
open Go.RowKit

/-- Names, a stroke ahead of each. -/
def joined (L : List Bs) : Bs := L.flatMap (47 :: ·)
def written (L : List Bs) : Bs := if L = [] then [47] else joined L
theorem joined_snoc (L : List Bs) (x : Bs) : joined (L ++ [x]) = joined L ++ 47 :: x := by simp [joined]
theorem joined_nil {L : List Bs} (h : joined L = []) : L = [] := by
  cases L with
  | nil => rfl
  | cons a l => simp [joined] at h
theorem joined_take (L : List Bs) (k : Nat) (x : Bs) (hk : k < L.length) (hx : L[k] = x) : joined (L.take (k + 1)) = joined (L.take k) ++ 47 :: x := by
  rw [List.take_add_one, List.getElem?_eq_getElem hk, hx]
  exact joined_snoc _ _
theorem joined_len (L : List Bs) (k : Nat) : (joined (L.take k)).length ≤ (joined L).length := by
  conv => rhs; rw [← List.take_append_drop k L]
  unfold joined
  rw [List.flatMap_append, List.length_append]
  omega
theorem bytes_eq {s : ByteArray} {l : Bs} (h : s.data.toList = l) : s = ⟨l.toArray⟩ := by rw [← h]

end Go.Proofs.YtjagnihkpgbjeaaDoor

namespace Go.Proofs.YtjagnihkpgbjeaaDoor
open Go.RowKit

theorem joined_cons (a : Bs) (L : List Bs) : (joined (a :: L)).length = a.length + 1 + (joined L).length := by
  simp [joined]
  omega
theorem joined_app (L M : List Bs) : (joined (L ++ M)).length = (joined L).length + (joined M).length := by
  simp [joined]
theorem joined_sp : ∀ a : Bs, (joined (sp a)).length = a.length + 1
  | [] => by simp [sp, joined]
  | c :: t => by
    have h := joined_sp t
    rw [sp]
    split
    · rw [joined_cons, h]; simp; omega
    · split
      · rename_i e
        rw [e] at h
        simp [joined] at h
      · rename_i a r e
        rw [e, joined_cons] at h
        rw [joined_cons]
        simp only [List.length_cons]
        omega
theorem joined_drop (l : List Bs) : (joined l.dropLast).length ≤ (joined l).length := by
  rw [List.dropLast_eq_take]; exact joined_len l _
theorem joined_push (l : List Bs) (s : Bs) : (joined (push l s)).length ≤ (joined l).length + (s.length + 1) := by
  unfold push
  split
  · omega
  · split
    · have := joined_drop l; omega
    · rw [joined_app, joined_cons]; simp [joined]
theorem joined_fold (P : List Bs) : ∀ l : List Bs, (joined (P.foldl push l)).length ≤ (joined l).length + (joined P).length := by
  induction P with
  | nil => intro l; simp
  | cons a P ih =>
    intro l
    have h1 := ih (push l a)
    have h2 := joined_push l a
    rw [List.foldl_cons, joined_cons]
    omega
theorem parts_joined (cwd p : ByteArray) : (joined (parts cwd p)).length ≤ cwd.size + p.size + 2 := by
  have h1 := joined_fold (sp p.data.toList) (if 0 < p.size ∧ gb p 0 = 47 then [] else (sp cwd.data.toList).foldl push [])
  have h2 := joined_fold (sp cwd.data.toList) []
  have l1 : p.data.toList.length = p.size := Array.length_toList
  have l2 : cwd.data.toList.length = cwd.size := Array.length_toList
  rw [joined_sp] at h1 h2
  unfold parts
  split at h1 <;> rename_i hc
  · rw [if_pos hc]; simp [joined] at h1 h2 ⊢; omega
  · rw [if_neg hc]; simp [joined] at h1 h2 ⊢; omega
theorem parts_len (cwd p : ByteArray) : (parts cwd p).length ≤ cwd.size + p.size + 2 := by
  have h := parts_joined cwd p
  have : ∀ L : List Bs, L.length ≤ (joined L).length := fun L => by
    induction L with
    | nil => simp
    | cons a L ih => rw [joined_cons, List.length_cons]; omega
  have := this (parts cwd p)
  omega

end Go.Proofs.YtjagnihkpgbjeaaDoor

namespace Go.Proofs.YtjagnihkpgbjeaaDoor
open Go.RowKit

theorem elemS : Tryd.prog.elem 29 = 9 := by kernel_rfl
theorem slice_from (g off n c k : Nat) (hk : k ≤ n) :
    ∃ off', (k < c → off' = off + k) ∧ ∀ w, (Instr.slice 29 (.slice (some ⟨g, off, none⟩) n c) (some (.int .i64 k)) none none).run Tryd.prog w = .ok (.slice (some ⟨g, off', none⟩) (n - k) (c - k)) w := by
  refine ⟨if c = k then off else off + k, fun h => by rw [if_neg (by omega)], fun w => ?_⟩
  rw [run_slice_l (P := Tryd.prog) (w := w) 29 (some ⟨g, off, none⟩) n c (by rw [elemS]; exact Tryd.underlying29) .i64 (k : Int) (by omega) (by omega), elemS, Tryd.sizeOf9]
  simp only [Result.andThen, sliced, Int.toNat_natCast]
  by_cases h : c = k
  · simp [h]
  · simp [h, Addr.add]
theorem slice_to (g off n c k : Nat) (hk : k ≤ c) :
    ∀ w, (Instr.slice 29 (.slice (some ⟨g, off, none⟩) n c) none (some (.int .i64 k)) none).run Tryd.prog w = .ok (.slice (some ⟨g, off, none⟩) k c) w := by
  intro w
  rw [run_slice_h (P := Tryd.prog) (w := w) 29 (some ⟨g, off, none⟩) n c (by rw [elemS]; exact Tryd.underlying29) .i64 (k : Int) (by omega) (by omega), elemS, Tryd.sizeOf9]
  simp [Result.andThen, sliced, Addr.add]
theorem slice_nil_from : ∀ w, (Instr.slice 29 (.slice none 0 0) (some (.int .i64 0)) none none).run Tryd.prog w = .ok (.slice none 0 0) w := by
  intro w
  have := run_slice_l (P := Tryd.prog) (w := w) 29 none 0 0 (by rw [elemS]; exact Tryd.underlying29) .i64 0 (by omega) (by omega)
  rw [this, elemS, Tryd.sizeOf9]
  simp [Result.andThen, sliced]
theorem slice_nil_to : ∀ w, (Instr.slice 29 (.slice none 0 0) none (some (.int .i64 0)) none).run Tryd.prog w = .ok (.slice none 0 0) w := by
  intro w
  have := run_slice_h (P := Tryd.prog) (w := w) 29 none 0 0 (by rw [elemS]; exact Tryd.underlying29) .i64 0 (by omega) (by omega)
  rw [this, elemS, Tryd.sizeOf9]
  simp [Result.andThen, sliced]

/-- The texts L lie behind the slice v. -/
def SlS (w : World) (v : Value) (L : List Bs) : Prop :=
  (v = .slice none 0 0 ∧ L = []) ∨ ∃ g off c, v = .slice (some ⟨g, off, none⟩) L.length c ∧ L.length ≤ c ∧ c ≤ 9223372036854775807 ∧ g < w.heap.size ∧ ∀ i (h : i < L.length), w.cell? ⟨g, off + i, none⟩ = some (encStr L[i])
theorem SlS.below {w w' : World} {v : Value} {L : List Bs} (h : SlS w v L) (hb : Below w.heap.size w w') : SlS w' v L := by
  rcases h with h | ⟨g, off, c, h1, h2, h3, h4, h5⟩
  · exact .inl h
  · exact .inr ⟨g, off, c, h1, h2, h3, Nat.lt_of_lt_of_le h4 hb.size, fun i hi => by rw [hb.cell (p := ⟨g, off + i, none⟩) h4]; exact h5 i hi⟩
theorem SlS.own {w : World} {B : Nat} {v : Value} {L : List Bs} (h : w.ownsRow B 9 1 v L.length (L.map encStr)) : SlS w v L := by
  rcases h.2 with ⟨h1, h2⟩ | ⟨g, c, cur, h1, _, hg, h2, h3, h4⟩
  · exact .inl ⟨h1, List.length_eq_zero_iff.1 h2⟩
  · refine .inr ⟨g, 0, c, h1, h2, h3, (Array.getElem?_eq_some_iff.1 hg).1, fun i hi => ?_⟩
    rw [h1] at h
    have := World.ownsRow.cellAt h i (by omega)
    rw [Nat.zero_add, this]
    simp [hi]
theorem SlS.len {w : World} {v : Value} {L : List Bs} (h : SlS w v L) : ∃ a c, v = .slice a L.length c := by
  rcases h with ⟨h, rfl⟩ | ⟨g, off, c, h, _⟩
  · exact ⟨_, _, h⟩
  · exact ⟨_, _, h⟩
theorem gb_below {w w' : World} (h : Below w.heap.size w w') : w.grownBy w' none := ⟨h.os, h.tape, h.output, h.size, fun k hk _ => h.block k hk⟩
theorem own_em (v : Value) : v.ownBlock = none ∨ v.ownBlock ≠ none := Classical.em _
theorem addN1 (g i : Nat) : (⟨g, 0, none⟩ : Addr).add i = ⟨g, i, none⟩ := by unfold Addr.add; by_cases h : i = 0 <;> simp [h]
theorem btrans {a b c : World} (h1 : Below a.heap.size a b) (h2 : Below b.heap.size b c) : Below a.heap.size a c := h1.trans (h2.mono h1.size)
/-- The list that was, or a row of the call's own. -/
def SlN (w0 w : World) (v0 v : Value) (L0 L : List Bs) : Prop := (v = v0 ∧ L = L0) ∨ w.ownsRow w0.heap.size 9 1 v L.length (L.map encStr)
theorem SlN.own {w0 w : World} {v0 v : Value} {L0 L : List Bs} {B : Nat} (h : w.ownsRow B 9 1 v L.length (L.map encStr)) (hB : w0.heap.size ≤ B) : SlN w0 w v0 v L0 L := by
  refine .inr ⟨h.1, ?_⟩
  rcases h.2 with hn | ⟨g, cap, cur, e, h1, r⟩
  · exact .inl hn
  · exact .inr ⟨g, cap, cur, e, Nat.le_trans hB h1, r⟩
end Go.Proofs.YtjagnihkpgbjeaaDoor

namespace Go.Proofs.YtjagnihkpgbjeaaDoor
open Go.RowKit

/-- Where a byte is first. -/
def at_ (s : ByteArray) (c : UInt8) : Nat → Nat → Int
  | 0, _ => -1
  | n + 1, k => if k < s.size then (if gb s k = c then (k : Int) else at_ s c n (k + 1)) else -1

end Go.Proofs.YtjagnihkpgbjeaaDoor

namespace Go.Proofs.YtjagnihkpgbjeaaDoor
open Go.RowKit

def StrsL (w : World) (a : Option Addr) (L : List Bs) : Prop := 0 < L.length → ∃ g off, a = some ⟨g, off, none⟩ ∧ g < w.heap.size ∧ ∀ i (h : i < L.length), w.cell? ⟨g, off + i, none⟩ = some (encStr L[i])
theorem strs_own {w : World} {B : Nat} {a : Option Addr} {c : Nat} {L : List Bs} (h : w.ownsRow B 9 1 (.slice a L.length c) L.length (L.map encStr)) : StrsL w a L := fun hn => by
  obtain ⟨g, c', ea, _, hg⟩ := h.form hn
  injection ea with e1 _ _
  subst e1
  refine ⟨g, 0, rfl, hg, fun i hi => ?_⟩
  have := World.ownsRow.cellAt (g := g) (by simpa using h) i (by omega)
  rw [Nat.zero_add, this]
  simp [hi]

theorem draws (w : World) (m q : Nat) : (w.drewN m).drewN q = w.drewN (m + q) := by simp [World.drewN, Nat.add_assoc]

set_option maxRecDepth 100000 in
set_option maxHeartbeats 4000000 in
theorem Same_any (A A' : Option Addr) (L M : List Bs) (c c' : Nat) (w : World) (hn : L.length ≤ 4000000) (hS : StrsL w A L) (hS' : StrsL w A' M) (v : Bool) (hv : Hid (v = true ↔ L = M)) :
    Calls Tryd.prog 28 #[.slice A L.length c, .slice A' M.length c'] w fun e w' => e = .returned (.bool v) ∧ ∃ m, w' = w.drewN m := by
  have HS := Lib.hid hS
  have HS' := Lib.hid hS'
  clear hS hS'
  by_cases hlen : L.length = M.length
  · obtain ⟨n, hln⟩ : ∃ n, L.length = n := ⟨_, rfl⟩
    have hln' : M.length = n := hlen.symm.trans hln
    rw [hln] at hn
    rw [hln, hln']
    have HLN := Lib.hid hln
    have HLN' := Lib.hid hln'
    clear hln hln' hlen
    go_enter Tryd.func28, Tryd.ntmps28
    go_wp2_with fail
    go_loopw [5] (fun i wr => ∃ (k m : Nat), i = .int .i64 k ∧ k ≤ n ∧ wr = w.drewN m ∧ Hid (L.take k = M.take k)) (fun i _ => n - (intOf i).toNat)
    case atStart => exact ⟨0, 0, rfl, by omega, rfl, rfl⟩
    case round =>
      obtain ⟨k, m, rfl, hk, rfl, HK⟩ := hrel
      by_cases hlt : k < n
      · have hltL : k < L.length := by rw [HLN.out]; exact hlt
        have hltM : k < M.length := by rw [HLN'.out]; exact hlt
        obtain ⟨g, off, rfl, _, hc⟩ := HS.out (by omega)
        obtain ⟨g', off', rfl, _, hc'⟩ := HS'.out (by omega)
        have hck := hc k hltL
        have hck' := hc' k hltM
        clear hc hc'
        have hadd : (⟨g, off, none⟩ : Addr).add k = ⟨g, off + k, none⟩ := by unfold Addr.add; by_cases h : k = 0 <;> simp [h]
        have hadd' : (⟨g', off', none⟩ : Addr).add k = ⟨g', off' + k, none⟩ := by unfold Addr.add; by_cases h : k = 0 <;> simp [h]
        have b1 : (k : Int) < (n : Int) := by omega
        have b2 : (0 : Int) ≤ (k : Int) := by omega
        have HTL : Hid (L.take (k + 1) = L.take k ++ [L[k]]) := by rw [Hid, List.take_add_one, List.getElem?_eq_getElem hltL]; rfl
        have HTM : Hid (M.take (k + 1) = M.take k ++ [M[k]]) := by rw [Hid, List.take_add_one, List.getElem?_eq_getElem hltM]; rfl
        by_cases hxy : L[k] = M[k]
        · have HN : Hid (L.take (k + 1) = M.take (k + 1)) := by rw [Hid, HTL.out, HTM.out, HK.out, hxy]
          rw [hxy] at hck
          obtain ⟨x, hx⟩ : ∃ x : ByteArray, ⟨M[k].toArray⟩ = x := ⟨_, rfl⟩
          rw [show encStr M[k] = .string ⟨M[k].toArray⟩ from rfl, hx] at hck hck'
          clear hx hxy HTL HTM
          go_wp2_with fail
          go_quiet (fail)
          go_wp2_with fail
          exact ⟨⟨k + 1, _, rfl, by omega, rfl, HN.out⟩, by simp [intOf]; omega⟩
        · have HV : Hid (v = false) := by
            rw [Hid, Bool.eq_false_iff]
            intro h
            have e := hv.out.1 h
            subst e
            exact hxy rfl
          obtain ⟨x, hx⟩ : ∃ x : ByteArray, ⟨L[k].toArray⟩ = x := ⟨_, rfl⟩
          obtain ⟨y, hy⟩ : ∃ y : ByteArray, ⟨M[k].toArray⟩ = y := ⟨_, rfl⟩
          rw [show encStr L[k] = .string ⟨L[k].toArray⟩ from rfl, hx] at hck
          rw [show encStr M[k] = .string ⟨M[k].toArray⟩ from rfl, hy] at hck'
          have hne : (x.toList == y.toList) = false := by
            rw [beq_eq_false_iff_ne, Lib.toList_data, Lib.toList_data, ← hx, ← hy]
            exact hxy
          clear hx hy hxy HTL HTM
          go_wp2_with fail
          go_quiet (fail)
          go_wp2_with fail
          go_ret
          exact ⟨by rw [HV.out]; rfl, _, draws _ _ _⟩
      · have b1 : ¬ (k : Int) < (n : Int) := by omega
        have HV : Hid (v = true) := by
          rw [Hid, hv.out]
          have h := HK.out
          have h1 := HLN.out
          have h2 := HLN'.out
          rwa [List.take_of_length_le (by omega), List.take_of_length_le (by omega)] at h
        go_wp2_with fail
        go_ret
        exact ⟨by rw [HV.out]; rfl, _, rfl⟩
  · have HV : Hid (v = false) := by
      rw [Hid, Bool.eq_false_iff]
      intro h
      exact hlen (by rw [hv.out.1 h])
    have hne : ((L.length : Int) != (M.length : Int)) = true := by rw [bne_iff_ne]; omega
    clear hlen
    go_enter Tryd.func28, Tryd.ntmps28
    go_wp2_with fail
    go_ret
    exact ⟨by rw [HV.out]; rfl, 0, rfl⟩
end Go.Proofs.YtjagnihkpgbjeaaDoor
