import Derived.Test.YtcmjpkfinbakkaaDoorVE
import Derived.Shelf.Strings.Builder1
import Derived.Shelf.Strings.Builder2
import Derived.Shelf.Strings.OnBuilder
import Derived.Shelf.Small.Bits
import Derived.Shelf.Small.Wraps
import Derived.Shelf.Strings.BuilderF
import Derived.Shelf.Strings.BuilderK
import Derived.Shelf.Strings.Builder2Cap
import Derived.Shelf.Strconv.Itoa0
import Derived.Shelf.Strings.Search1
import Derived.Shelf.Strings.Search2
import Derived.Shelf.Strings.Search3
import Derived.Shelf.LaysM
import Derived.Shelf.Strings.Shaped
import Derived.Shelf.Sort.Plain
import Derived.Shelf.Strings.Prefix
import Derived.Shelf.Unicode.Decode
import Derived.Shelf.Unicode.DecodeSlow
import Derived.Shelf.Unicode.DecodeAny
import Derived.Shelf.Slices.In.SortNone
import Derived.Ground.SlbCloneProg
import Derived.Shelf.Bytes.SlClone
import Derived.Test.YtcmjpkfinbakkaaDoorProg
import Derived.RangeFuncNested
import Derived.RangeFuncBound
import Derived.RangeFuncCalls
import Derived.RangeFuncLeaves
import Derived.RangeFuncBox
import Derived.Shelf.Abstract
import Derived.Shelf.RegionOpen
import Derived.OwnWalkIn
import Derived.TacticsInMore
import Derived.LoopNIn
import Derived.LoopIn
import Derived.Maps.AppendAt
namespace Go.Proofs.YtcmjpkfinbakkaaDoor
open Go.RowKit

/-! The laws of names, strokes and pushes. -/
def Good (L : List Bs) : Prop := ∀ x ∈ L, x ≠ [] ∧ x ≠ [46] ∧ x ≠ [46, 46] ∧ ∀ c ∈ x, c ≠ 47
theorem good_nil : Good [] := fun x h => by simp at h
theorem good_sub {L M : List Bs} (h : Good M) (hs : ∀ x ∈ L, x ∈ M) : Good L := fun x hx => h x (hs x hx)
theorem good_last {L : List Bs} (h : Good L) : Good L.dropLast := good_sub h fun _ hx => List.dropLast_subset _ hx
theorem sp_no : ∀ (a : Bs) (x : Bs), x ∈ sp a → ∀ c ∈ x, c ≠ 47
  | [], x, h => by simp [sp] at h; subst h; simp
  | d :: t, x, h => by
    have ih := sp_no t
    rw [sp] at h
    split at h
    · rcases List.mem_cons.1 h with rfl | h
      · simp
      · exact ih x h
    · rename_i hd
      split at h
      · simp at h; subst h; simpa using hd
      · rename_i a r e
        rw [e] at ih
        rcases List.mem_cons.1 h with rfl | h
        · intro c hc
          rcases List.mem_cons.1 hc with rfl | hc
          · exact hd
          · exact ih a (by simp) c hc
        · exact ih x (by simp [h])
theorem sp_app : ∀ (a t : Bs), sp (a ++ 47 :: t) = sp a ++ sp t
  | [], t => by simp [sp]
  | c :: a, t => by
    have ih := sp_app a t
    rw [List.cons_append, sp]
    by_cases hc : c = 47
    · rw [if_pos hc, ih, sp, if_pos hc]; rfl
    · rw [if_neg hc, ih, sp, if_neg hc]
      cases h : sp a with
      | nil => cases a with
        | nil => simp [sp] at h
        | cons d r =>
          rw [sp] at h
          split at h
          · simp at h
          · split at h <;> simp at h
      | cons b r => rfl
theorem push_good {l : List Bs} {s : Bs} (h : Good l) (hs : ∀ c ∈ s, c ≠ 47) : Good (push l s) := by
  unfold push
  split
  · exact h
  · rename_i h1
    split
    · exact good_last h
    · rename_i h2
      intro x hx
      rcases List.mem_append.1 hx with hx | hx
      · exact h x hx
      · simp at hx; subst hx
        exact ⟨fun e => h1 (.inl e), fun e => h1 (.inr e), h2, hs⟩
theorem fold_good : ∀ (P : List Bs) {l : List Bs}, Good l → (∀ x ∈ P, ∀ c ∈ x, c ≠ 47) → Good (P.foldl push l)
  | [], _, h, _ => h
  | a :: P, _, h, hp => fold_good P (push_good h (hp a (by simp))) fun x hx => hp x (by simp [hx])
theorem parts_good (cwd p : ByteArray) : Good (parts cwd p) := by
  unfold parts
  refine fold_good _ ?_ (sp_no _)
  split
  · exact good_nil
  · exact fold_good _ good_nil (sp_no _)
theorem push_of {l : List Bs} {s : Bs} (h : s ≠ [] ∧ s ≠ [46] ∧ s ≠ [46, 46] ∧ ∀ c ∈ s, c ≠ 47) : push l s = l ++ [s] := by
  unfold push
  rw [if_neg (by rintro (e | e); exact h.1 e; exact h.2.1 e), if_neg h.2.2.1]
theorem fold_id : ∀ (L l : List Bs), Good L → L.foldl push l = l ++ L
  | [], l, _ => by simp
  | a :: L, l, h => by
    rw [List.foldl_cons, push_of (h a (by simp)), fold_id L _ (fun x hx => h x (by simp [hx]))]
    simp
theorem sp_joined : ∀ (L : List Bs), Good L → sp (joined L) = [] :: L
  | [], _ => rfl
  | a :: L, h => by
    have ih := sp_joined L (fun x hx => h x (by simp [hx]))
    have ha := (h a (by simp)).2.2.2
    rw [show joined (a :: L) = [] ++ 47 :: (a ++ joined L) by simp [joined], sp_app]
    cases L with
    | nil => rw [show joined ([] : List Bs) = [] from rfl, List.append_nil, sp_all a ha]; rfl
    | cons b M =>
      rw [show joined (b :: M) = 47 :: (b ++ joined M) by simp [joined]] at ih ⊢
      rw [show sp (47 :: (b ++ joined M)) = [] :: sp (b ++ joined M) by simp [sp]] at ih
      injection ih with _ ih
      rw [sp_cut _ _ ha, ih]; rfl
theorem push_nil (l : List Bs) : push l [] = l := by simp [push]
theorem fold_written (L : List Bs) (h : Good L) : (sp (written L)).foldl push [] = L := by
  unfold written
  split
  · rename_i e; subst e; rfl
  · rw [sp_joined L h, List.foldl_cons, push_nil, fold_id L _ h, List.nil_append]

/-- A list's bytes as a string. -/
def bs (l : Bs) : ByteArray := ⟨l.toArray⟩
theorem bs_list (l : Bs) : (bs l).data.toList = l := rfl
theorem bs_size (l : Bs) : (bs l).size = l.length := rfl
theorem bs_of (s : ByteArray) : bs s.data.toList = s := rfl
/-- Does a path begin with a stroke. -/
def rooted (a : Bs) : Prop := a.head? = some 47
instance (a : Bs) : Decidable (rooted a) := by unfold rooted; infer_instance
theorem rooted_iff (p : ByteArray) : (0 < p.size ∧ gb p 0 = 47) ↔ rooted p.data.toList := by
  have hl : p.data.toList.length = p.size := Array.length_toList
  unfold rooted gb
  cases h : p.data.toList with
  | nil => rw [h] at hl; simp at hl; simp [← hl]
  | cons a t => rw [h] at hl; simp at hl; simp; omega
def partsL (c p : Bs) : List Bs := (sp p).foldl push (if rooted p then [] else (sp c).foldl push [])
theorem parts_eq (cwd p : ByteArray) : parts cwd p = partsL cwd.data.toList p.data.toList := by
  unfold parts partsL
  simp only [rooted_iff]
theorem partsL_good (c p : Bs) : Good (partsL c p) := by
  rw [← bs_list c, ← bs_list p, ← parts_eq]; exact parts_good _ _
theorem rooted_written (L : List Bs) : rooted (written L) := by
  unfold rooted written
  split
  · rfl
  · cases L with
    | nil => contradiction
    | cons a l => simp [joined]
theorem partsL_written (c : Bs) {L : List Bs} (h : Good L) : partsL c (written L) = L := by
  unfold partsL
  rw [if_pos (rooted_written L), fold_written L h]
theorem rooted_app {p : Bs} (hp : p ≠ []) (t : Bs) : rooted (p ++ t) ↔ rooted p := by
  cases p with
  | nil => exact absurd rfl hp
  | cons a l => simp [rooted]
/-- Further names behind a path. -/
theorem partsL_app {p : Bs} (hp : p ≠ []) (c t : Bs) : partsL c (p ++ 47 :: t) = (sp t).foldl push (partsL c p) := by
  unfold partsL
  rw [sp_app, List.foldl_append]
  simp only [rooted_app hp]
theorem partsL_one {q : Bs} (hq : ¬ rooted q) {L : List Bs} (h : Good L) : partsL (written L) q = (sp q).foldl push L := by
  unfold partsL
  rw [if_neg hq, fold_written L h]
theorem steps_law {c p q : Bs} (hp : p ≠ []) (hq : ¬ rooted q) : partsL (written (partsL c p)) q = partsL c (p ++ 47 :: q) := by
  rw [partsL_one hq (partsL_good c p), partsL_app hp]
theorem dots_more {c p n : Bs} (hp : p ≠ []) (hn : n ≠ [] ∧ n ≠ [46] ∧ n ≠ [46, 46] ∧ ∀ x ∈ n, x ≠ 47) : partsL c (p ++ 47 :: n) = partsL c p ++ [n] := by
  rw [partsL_app hp, sp_all n hn.2.2.2, List.foldl_cons, push_of hn]; rfl
theorem dots_one {c p : Bs} (hp : p ≠ []) : partsL c (p ++ [47, 46, 47]) = partsL c p := by
  rw [show p ++ [47, 46, 47] = p ++ 47 :: [46, 47] from rfl, partsL_app hp]
  rfl
theorem dots_two {c p n : Bs} (hp : p ≠ []) (hn : n ≠ [] ∧ n ≠ [46] ∧ n ≠ [46, 46] ∧ ∀ x ∈ n, x ≠ 47) : partsL c (p ++ [47, 47] ++ n ++ [47, 46, 46]) = partsL c p := by
  rw [show p ++ [47, 47] ++ n ++ [47, 46, 46] = p ++ 47 :: (47 :: (n ++ 47 :: [46, 46])) by simp, partsL_app hp]
  rw [show sp (47 :: (n ++ 47 :: [46, 46])) = [] :: sp (n ++ 47 :: [46, 46]) by simp [sp], sp_cut n _ hn.2.2.2, List.foldl_cons, push_nil, List.foldl_cons, push_of hn]
  simp [sp, push]

/-- Every byte of a path's names is one of the two texts'. -/
theorem push_mem {l : List Bs} {s x : Bs} (h : x ∈ push l s) : x ∈ l ∨ x = s := by
  unfold push at h
  split at h
  · exact .inl h
  · split at h
    · exact .inl (List.dropLast_subset _ h)
    · simpa using h
theorem fold_mem : ∀ (P l : List Bs) (x : Bs), x ∈ P.foldl push l → x ∈ l ∨ x ∈ P
  | [], _, _, h => .inl h
  | a :: P, l, x, h => by
    rcases fold_mem P _ x h with h | h
    · rcases push_mem h with h | h
      · exact .inl h
      · exact .inr (by simp [h])
    · exact .inr (by simp [h])
theorem sp_mem : ∀ (a x : Bs), x ∈ sp a → ∀ c ∈ x, c ∈ a
  | [], x, h => by simp [sp] at h; subst h; simp
  | d :: t, x, h => by
    have ih := sp_mem t
    rw [sp] at h
    split at h
    · rcases List.mem_cons.1 h with rfl | h
      · simp
      · intro c hc; exact List.mem_cons_of_mem _ (ih x h c hc)
    · split at h
      · simp at h; subst h; simp
      · rename_i a r e
        rw [e] at ih
        rcases List.mem_cons.1 h with rfl | h
        · intro c hc
          rcases List.mem_cons.1 hc with rfl | hc
          · simp
          · exact List.mem_cons_of_mem _ (ih a (by simp) c hc)
        · intro c hc; exact List.mem_cons_of_mem _ (ih x (by simp [h]) c hc)
theorem partsL_bytes {c p x : Bs} (h : x ∈ partsL c p) : ∀ b ∈ x, b ∈ c ∨ b ∈ p := by
  intro b hb
  unfold partsL at h
  rcases fold_mem _ _ _ h with h | h
  · split at h
    · simp at h
    · rcases fold_mem _ _ _ h with h | h
      · simp at h
      · exact .inl (sp_mem _ _ h b hb)
  · exact .inr (sp_mem _ _ h b hb)
theorem written_bytes {L : List Bs} {b : UInt8} (h : b ∈ written L) : b = 47 ∨ ∃ x ∈ L, b ∈ x := by
  unfold written at h
  split at h
  · simp at h; exact .inl h
  · unfold joined at h
    rw [List.mem_flatMap] at h
    obtain ⟨x, hx, hb⟩ := h
    rcases List.mem_cons.1 hb with h | h
    · exact .inl h
    · exact .inr ⟨x, hx, h⟩
end Go.Proofs.YtcmjpkfinbakkaaDoor

namespace Go.Proofs
open Go.Shelf
def Tryd.lays156_ren : Go.Shelf.Ren := ⟨fun | 156 => 55 | 165 => 64 | 166 => 65 | 169 => 66 | 240 => 84 | 241 => 85 | 276 => 96 | 277 => 97 | n => n, fun | 31 => 29 | 9 => 9 | 3 => 3 | 4 => 4 | 0 => 0 | 20 => 20 | 72 => 96 | 76 => 100 | 70 => 94 | 37 => 28 | 75 => 99 | 127 => 119 | 164 => 130 | 5 => 5 | 80 => 102 | n => n, fun | n => n⟩
theorem Tryd.lays156 : Go.Proofs.Lays.n156 Tryd.prog Tryd.lays156_ren := {
  mixed := by kernel_rfl
  f156 := Tryd.func55.trans (congrArg some (by kernel_rfl))
  f165 := Tryd.func64.trans (congrArg some (by kernel_rfl))
  f166 := Tryd.func65.trans (congrArg some (by kernel_rfl))
  f169 := Tryd.func66.trans (congrArg some (by kernel_rfl))
  f240 := Tryd.func84.trans (congrArg some (by kernel_rfl))
  f241 := Tryd.func85.trans (congrArg some (by kernel_rfl))
  f276 := Tryd.func96.trans (congrArg some (by kernel_rfl))
  f277 := Tryd.func97.trans (congrArg some (by kernel_rfl))
  t0 := Tryd.underlying0
  a0 := Tryd.isAgg0
  z0 := Tryd.sizeOf0
  v0 := Tryd.zeroValue0
  t3 := Tryd.underlying3
  a3 := Tryd.isAgg3
  z3 := Tryd.sizeOf3
  v3 := Tryd.zeroValue3
  t4 := Tryd.underlying4
  a4 := Tryd.isAgg4
  z4 := Tryd.sizeOf4
  v4 := Tryd.zeroValue4
  t9 := Tryd.underlying9
  a9 := Tryd.isAgg9
  z9 := Tryd.sizeOf9
  v9 := Tryd.zeroValue9
  t20 := Tryd.underlying20
  a20 := Tryd.isAgg20
  z20 := Tryd.sizeOf20
  v20 := Tryd.zeroValue20
  t31 := Tryd.underlying29
  a31 := Tryd.isAgg29
  z31 := Tryd.sizeOf29
  v31 := Tryd.zeroValue29
  t37 := Tryd.underlying28
  a37 := Tryd.isAgg28
  z37 := Tryd.sizeOf28
  v37 := Tryd.zeroValue28
  t70 := Tryd.underlying94
  a70 := Tryd.isAgg94
  z70 := Tryd.sizeOf94
  v70 := Tryd.zeroValue94
  t72 := Tryd.underlying96
  a72 := Tryd.isAgg96
  z72 := Tryd.sizeOf96
  v72 := Tryd.zeroValue96
  t75 := Tryd.underlying99
  a75 := Tryd.isAgg99
  z75 := Tryd.sizeOf99
  v75 := Tryd.zeroValue99
  t76 := Tryd.underlying100
  a76 := Tryd.isAgg100
  z76 := Tryd.sizeOf100
  v76 := Tryd.zeroValue100
  t127 := Tryd.underlying119
  a127 := Tryd.isAgg119
  z127 := Tryd.sizeOf119
  v127 := Tryd.zeroValue119
  t164 := Tryd.underlying130
  a164 := Tryd.isAgg130
  z164 := Tryd.sizeOf130
  v164 := Tryd.zeroValue130 }
theorem Tryd.Builder_Extra_156 : Builder.Extra Tryd.prog Tryd.lays156_ren := {
  sizeBuilder := by kernel_rfl
  liesBuilder := by kernel_rfl
  t5 := Tryd.underlying5
  a5 := Tryd.isAgg5
  z5 := Tryd.sizeOf5
  v5 := Tryd.zeroValue5
  infoByte := by kernel_rfl
  cellsByte := by kernel_rfl
  sizeByte := by kernel_rfl
  neB5 := by decide }
open Go.RowKit in
theorem Tryd.strings_Join_none (a : Option Addr) (c : Nat) (sep : ByteArray) (w : World) :
    Calls Tryd.prog 55 #[.slice a 0 c, .string sep] w fun e w' => e = .returned (.string ⟨#[]⟩) ∧ w' = w := Any.strings_Join_none Tryd.lays156 Tryd.Builder_Extra_156 a c sep w
open Go.RowKit in
theorem Tryd.strings_Join (bk o c : Nat) (xs : List ByteArray) (sep : ByteArray) (w : World) (hcells : ∀ (j : Nat) x, xs[j]? = some x → w.cell? ⟨bk, o + j, none⟩ = some (.string x)) (hbk : bk < w.heap.size) (hN : xs.length ≤ 140737488355328) (hcap : xs.length ≤ c) (hlen : (Lib.join (xs.map (·.data.toList)) sep.data.toList).length ≤ 140737488355328) :
    Calls Tryd.prog 55 #[.slice (some ⟨bk, o, none⟩) xs.length c, .string sep] w fun e w' => e = .returned (.string ⟨(Lib.join (xs.map (·.data.toList)) sep.data.toList).toArray⟩) ∧ Below w.heap.size w w' := Any.strings_Join Tryd.lays156 Tryd.Builder_Extra_156 bk o c xs sep w hcells hbk hN hcap hlen
def Tryd.lays103_ren : Go.Shelf.Ren := ⟨fun | 103 => 51 | 210 => 61 | 206 => 56 | n => n, fun | 9 => 9 | 4 => 4 | 24 => 83 | 3 => 3 | n => n, fun | n => n⟩
theorem Tryd.lays103 : Go.Proofs.Lays.n103 Tryd.prog Tryd.lays103_ren := {
  mixed := by kernel_rfl
  f103 := Tryd.func51.trans (congrArg some (by kernel_rfl))
  f206 := Tryd.func56.trans (congrArg some (by kernel_rfl))
  f210 := Tryd.func61.trans (congrArg some (by kernel_rfl))
  t3 := Tryd.underlying3
  a3 := Tryd.isAgg3
  z3 := Tryd.sizeOf3
  v3 := Tryd.zeroValue3
  t4 := Tryd.underlying4
  a4 := Tryd.isAgg4
  z4 := Tryd.sizeOf4
  v4 := Tryd.zeroValue4
  t9 := Tryd.underlying9
  a9 := Tryd.isAgg9
  z9 := Tryd.sizeOf9
  v9 := Tryd.zeroValue9
  t24 := Tryd.underlying83
  a24 := Tryd.isAgg83
  z24 := Tryd.sizeOf83
  v24 := Tryd.zeroValue83 }
open Go.RowKit in
theorem Tryd.strings_CutPrefix (s p : ByteArray) (w : World) :
    Calls Tryd.prog 51 #[.string s, .string p] w fun e w' => e = .returned (.tuple #[.string ⟨(Lib.trimPrefix s.data.toList p.data.toList).toArray⟩, .bool (Lib.hasPrefix s.data.toList p.data.toList)]) ∧ w' = w := Any.strings_CutPrefix Tryd.lays103 s p w
def Tryd.lays143_ren : Go.Shelf.Ren := ⟨fun | 143 => 54 | 219 => 63 | 217 => 80 | 225 => 81 | 224 => 82 | 267 => 83 | 266 => 94 | 314 => 95 | n => n, fun | 9 => 9 | 3 => 3 | 4 => 4 | 5 => 5 | 46 => 93 | 146 => 128 | 51 => 113 | n => n, fun | 1 => 0 | n => n⟩
theorem Tryd.lays143 : Go.Proofs.Lays.n143 Tryd.prog Tryd.lays143_ren := {
  mixed := by kernel_rfl
  f143 := Tryd.func54.trans (congrArg some (by kernel_rfl))
  f217 := Tryd.func80.trans (congrArg some (by kernel_rfl))
  f219 := Tryd.func63.trans (congrArg some (by kernel_rfl))
  f224 := Tryd.func82.trans (congrArg some (by kernel_rfl))
  f225 := Tryd.func81.trans (congrArg some (by kernel_rfl))
  f266 := Tryd.func94.trans (congrArg some (by kernel_rfl))
  f267 := Tryd.func83.trans (congrArg some (by kernel_rfl))
  f314 := Tryd.func95.trans (congrArg some (by kernel_rfl))
  t3 := Tryd.underlying3
  a3 := Tryd.isAgg3
  z3 := Tryd.sizeOf3
  v3 := Tryd.zeroValue3
  t4 := Tryd.underlying4
  a4 := Tryd.isAgg4
  z4 := Tryd.sizeOf4
  v4 := Tryd.zeroValue4
  t5 := Tryd.underlying5
  a5 := Tryd.isAgg5
  z5 := Tryd.sizeOf5
  v5 := Tryd.zeroValue5
  t9 := Tryd.underlying9
  a9 := Tryd.isAgg9
  z9 := Tryd.sizeOf9
  v9 := Tryd.zeroValue9
  t46 := Tryd.underlying93
  a46 := Tryd.isAgg93
  z46 := Tryd.sizeOf93
  v46 := Tryd.zeroValue93
  t51 := Tryd.underlying113
  a51 := Tryd.isAgg113
  z51 := Tryd.sizeOf113
  v51 := Tryd.zeroValue113
  t146 := Tryd.underlying128
  a146 := Tryd.isAgg128
  z146 := Tryd.sizeOf128
  v146 := Tryd.zeroValue128
  g1 := by kernel_rfl }
open Go.RowKit Go.Lib in
theorem Tryd.strings_Index_one (s : ByteArray) (c : UInt8) (w : World) :
    Calls Tryd.prog 54 #[.string s, .string ⟨#[c]⟩] w fun e w' => e = .returned (.int .i64 (Lib.indexByte s.data.toList c)) ∧ w' = w := Any.strings_Index_one Tryd.lays143 s c w
def Tryd.lays144_ren : Go.Shelf.Ren := ⟨fun | 144 => 43 | 143 => 54 | 219 => 63 | 217 => 80 | 225 => 81 | 224 => 82 | 267 => 83 | 266 => 94 | 314 => 95 | n => n, fun | 9 => 9 | 4 => 4 | 3 => 3 | 5 => 5 | 46 => 93 | 146 => 128 | 51 => 113 | n => n, fun | 1 => 0 | n => n⟩
theorem Tryd.lays144 : Go.Proofs.Lays.n144 Tryd.prog Tryd.lays144_ren := {
  mixed := by kernel_rfl
  f143 := Tryd.func54.trans (congrArg some (by kernel_rfl))
  f144 := Tryd.func43.trans (congrArg some (by kernel_rfl))
  f217 := Tryd.func80.trans (congrArg some (by kernel_rfl))
  f219 := Tryd.func63.trans (congrArg some (by kernel_rfl))
  f224 := Tryd.func82.trans (congrArg some (by kernel_rfl))
  f225 := Tryd.func81.trans (congrArg some (by kernel_rfl))
  f266 := Tryd.func94.trans (congrArg some (by kernel_rfl))
  f267 := Tryd.func83.trans (congrArg some (by kernel_rfl))
  f314 := Tryd.func95.trans (congrArg some (by kernel_rfl))
  t3 := Tryd.underlying3
  a3 := Tryd.isAgg3
  z3 := Tryd.sizeOf3
  v3 := Tryd.zeroValue3
  t4 := Tryd.underlying4
  a4 := Tryd.isAgg4
  z4 := Tryd.sizeOf4
  v4 := Tryd.zeroValue4
  t5 := Tryd.underlying5
  a5 := Tryd.isAgg5
  z5 := Tryd.sizeOf5
  v5 := Tryd.zeroValue5
  t9 := Tryd.underlying9
  a9 := Tryd.isAgg9
  z9 := Tryd.sizeOf9
  v9 := Tryd.zeroValue9
  t46 := Tryd.underlying93
  a46 := Tryd.isAgg93
  z46 := Tryd.sizeOf93
  v46 := Tryd.zeroValue93
  t51 := Tryd.underlying113
  a51 := Tryd.isAgg113
  z51 := Tryd.sizeOf113
  v51 := Tryd.zeroValue113
  t146 := Tryd.underlying128
  a146 := Tryd.isAgg128
  z146 := Tryd.sizeOf128
  v146 := Tryd.zeroValue128
  g1 := by kernel_rfl }
open Go.RowKit Go.Lib in
theorem Tryd.strings_Contains_one (s : ByteArray) (c : UInt8) (w : World) :
    Calls Tryd.prog 43 #[.string s, .string ⟨#[c]⟩] w fun e w' => e = .returned (.bool (decide (0 ≤ Lib.indexByte s.data.toList c))) ∧ w' = w := Any.strings_Contains_one Tryd.lays144 s c w
def Tryd.lays99_ren : Go.Shelf.Ren := ⟨fun | 99 => 45 | 206 => 56 | n => n, fun | 9 => 9 | 4 => 4 | 3 => 3 | n => n, fun | n => n⟩
theorem Tryd.lays99 : Go.Proofs.Lays.n99 Tryd.prog Tryd.lays99_ren := {
  mixed := by kernel_rfl
  f99 := Tryd.func45.trans (congrArg some (by kernel_rfl))
  f206 := Tryd.func56.trans (congrArg some (by kernel_rfl))
  t3 := Tryd.underlying3
  a3 := Tryd.isAgg3
  z3 := Tryd.sizeOf3
  v3 := Tryd.zeroValue3
  t4 := Tryd.underlying4
  a4 := Tryd.isAgg4
  z4 := Tryd.sizeOf4
  v4 := Tryd.zeroValue4
  t9 := Tryd.underlying9
  a9 := Tryd.isAgg9
  z9 := Tryd.sizeOf9
  v9 := Tryd.zeroValue9 }
open Go.RowKit Go.Lib in
theorem Tryd.strings_HasPrefix (s p : ByteArray) (w : World) :
    Calls Tryd.prog 45 #[.string s, .string p] w fun e w' => e = .returned (.bool (Lib.hasPrefix s.data.toList p.data.toList)) ∧ w' = w := Any.strings_HasPrefix Tryd.lays99 s p w
def Tryd.laysSlK4_ren : Go.Shelf.Ren := ⟨fun | 4 => 25 | n => n, fun | 22 => 28 | 4 => 4 | 5 => 5 | n => n, fun | n => n⟩
theorem Tryd.laysSlK4 : Go.Proofs.SlLaysK.n4 Tryd.prog Tryd.laysSlK4_ren := {
  mixed := by kernel_rfl
  f4 := Tryd.func25.trans (congrArg some (by kernel_rfl))
  t4 := Tryd.underlying4
  a4 := Tryd.isAgg4
  z4 := Tryd.sizeOf4
  v4 := Tryd.zeroValue4
  t22 := Tryd.underlying28
  a22 := Tryd.isAgg28
  z22 := Tryd.sizeOf28
  v22 := Tryd.zeroValue28
  t5 := Tryd.underlying5
  i5 := by kernel_rfl }
open Go.RowKit Go.Lib in
theorem Tryd.bytes_Clone_at (a : Addr) (n c : Nat) (xs : List Int) (w : World) (hx : xs.length = n) (hbig : n ≤ 140737488355328) (hc : ∀ i, i < n → w.cell? (a.add i) = some (.int .u8 (xs.getD i 0))) :
    Calls Tryd.prog 25 #[.slice (some a) n c] w fun e w' => ∃ v', e = .returned v' ∧ w'.ownsRow w.heap.size 5 1 v' n (xs.map (Value.int .u8)) ∧ v' ≠ .slice none 0 0 ∧ Below w.heap.size w w' := Any.bytes_Clone_at Tryd.laysSlK4 a n c xs w hx hbig hc
open Go.RowKit Go.Lib in
theorem Tryd.bytes_Clone_nil (n c : Nat) (w : World) :
    Calls Tryd.prog 25 #[.slice none n c] w fun e w' => e = .returned (.slice none 0 0) ∧ w' = w := Any.bytes_Clone_nil Tryd.laysSlK4 n c w
end Go.Proofs

namespace Go.Proofs.YtcmjpkfinbakkaaDoor
open Go.RowKit Go.Shelf

/-! A range over an iterator that writes cells of its own between two rounds (T), whose loop body ends every round normally. -/
section
variable {F : Fence} {n : Nat} {P : Program}

theorem stepR_scope_s {b : Frame} {a : Act} {k : List Item} {cs : List Frame} {w : World} {c : Code} : step P (lone (b.atR a (.code (.scope c) :: k)) cs w) = .next (lone (b.atR a (.code c :: .inScope c :: k)) cs w) :=
  step_lone_go (by simp [stepG, stepG.exec, Frame.atR])
theorem stepR_inScope_s {b : Frame} {a : Act} {k : List Item} {cs : List Frame} {w : World} {c : Code} : step P (lone (b.atR a (.inScope c :: k)) cs w) = .next (lone (b.atR a k) cs w) :=
  step_lone_go (by simp [stepG, stepG.exec, Frame.atR])
/-- A scope through which the run goes without a goto, under a fence. -/
theorem wpIn_scope_s {c : Code} {Q : Exit → Act → World → Prop} {a : Act} {w : World} (h : c.wpIn F n P (Exit.noGoto Q) a w) : (Code.scope c).wpIn F n P Q a w := by
  intro b k cs hro hb hr
  have h0 : (lone (b.atR a (.code (.scope c) :: k)) cs w).fenced P F := fenced_calm hb hr rfl
  obtain ⟨e, a₁, w₁, hq, harr⟩ := h b (.inScope c :: k) cs hro hb hr
  cases e with
  | normal => exact ⟨.normal, a₁, w₁, hq, .head h0 stepR_scope_s (StepsIn.trans harr (.one (fenced_calm hb hr rfl) stepR_inScope_s))⟩
  | exit id =>
    have hx : exitTo id (.inScope c :: k) = exitTo id k := by simp [exitTo]
    exact ⟨.exit id, a₁, w₁, hq, fun k' hk => .head h0 stepR_scope_s (harr.1 k' (by rw [hx]; exact hk)),
      fun hr' hk => let ⟨k₁, h1, h2⟩ := harr.2 hr' (by rw [hx]; exact hk); ⟨k₁, h1, .head h0 stepR_scope_s h2⟩⟩
  | goto l => exact hq.elim
  | ret => exact ⟨_, a₁, w₁, hq, .of_steps (.one h0 stepR_scope_s) harr⟩
  | panic ch => exact ⟨_, a₁, w₁, hq, .of_steps (.one h0 stepR_scope_s) harr⟩
  | outgrown => exact ⟨_, a₁, w₁, hq, .of_steps (.one h0 stepR_scope_s) harr⟩

/-- How a round's body is left. -/
def roundEnds {α : Type} (B : Nat) (Kp : World → World → Prop) (I : List α → World → Prop) (ys : List α) (W : World) : Exit → Act → World → Prop
  | .normal, _, W' => KeepsFrom B W W' ∧ Kp W W' ∧ I ys W'
  | _, _, _ => False

theorem wpIn_rangeFunc_T {α : Type} {g : Operand} {ps : Array Tmp} {assign body : Code} {Q : Exit → Act → World → Prop} {a : Act} {w : World}
    (hro : F.round = none) (h1 : 1 ≤ n) {gf : Nat} {lb : Array Value} (hg : a.eval g = .func (.func gf) #[] lb) (hFg : F.fn gf) (eg : ∀ args w, (callFunc gf args).run P w = .ok (.enter gf args) w)
    {encs : α → Array Value} {T Kp : World → World → Prop} {xs : List α} (hT : ∀ A C, T A C → KeepsOthers A C)
    (hseq : ∀ (l : Nat) (J : List α → World → Prop) (W : World), Below w.heap.size w W → (∀ s A C, J s A → T A C → J s C) →
      (∀ pre x W1, J pre W1 → pre ++ [x] <+: xs → YieldAt F (n - 1 - 1) P l (encs x) W1 fun e W' => e = .returned (.bool true) ∧ J (pre ++ [x]) W' ∧ Kp W1 W') →
      J [] W → CallsIn F (n - 1) P gf (#[.func (.yield l) #[] #[]] ++ lb) W fun e W' => (∃ v, e = .returned v) ∧ J xs W')
    (hKt : ∀ {A C D : World}, Kp A C → Kp C D → Kp A D) (hKb : ∀ (W : World) (l : Nat) (o : Obj), w.heap.size ≤ l → Kp W (W.putObj l o)) (hps : ∀ x, (encs x).size = ps.size)
    (I : List α → World → Prop) (hI : OwnFrom w.heap.size I) (hIT : ∀ s A C, I s A → T A C → I s C) (h0 : I [] w) (a₁ : α → Act)
    (hassign : ∀ (l : Nat) (x : α) (W : World) (K : Act → World → Prop), K (a₁ x) W →
      assign.wpIn (F.inRound l) (n - 1 - 1) P (Exit.then K (fun _ _ _ => False)) { tmps := (ps.zip (encs x)).foldl (fun t (p, v) => t.setIfInBounds p v) a.tmps, defers := [] } W)
    (hbody : ∀ (l : Nat) (pre : List α) (x : α) (W : World), I pre W → pre ++ [x] <+: xs → body.wpIn (F.inRound l) (n - 1 - 1) P (roundEnds w.heap.size Kp I (pre ++ [x]) W) (a₁ x) W)
    (hdone : ∀ (D : Nat) (W : World), w.heap.size ≤ D → I xs W → W.heap[D]? = some (.deferred (some [])) → Q .normal { a with defers := { target := .collected D, args := #[] } :: a.defers } W) :
    (Code.rangeFunc g ps assign body).wpIn F n P Q a w := by
  refine wpIn_rangeFunc fun fn hfn => ?_
  rw [hro]
  obtain ⟨N, hN⟩ : ∃ N, w.heap.size = N := ⟨_, rfl⟩
  obtain ⟨rc, hrc⟩ : ∃ rc : LoopState → Loop, rc = fun st => { state := st, pending := none, fn, tmps := a.tmps, params := ps, assign, body, defers := N } := ⟨_, rfl⟩
  obtain ⟨V, hV⟩ : ∃ V, (w.alloc (.deferred (some []))).alloc (.loop (rc .ready)) = V := ⟨_, rfl⟩
  have vl : V.heap[N + 1]? = some (.loop (rc .ready)) := by
    rw [← hV, ← hN]
    simpa using World.alloc_heap_new (w.alloc (.deferred (some []))) (.loop (rc .ready))
  have vk : V.heap[N]? = some (.deferred (some [])) := by
    rw [← hV, ← hN]
    exact (Below.heap_alloc _ _ _ (by simp)).trans (World.alloc_heap_new w _)
  have vi : I [] V := by rw [← hV]; exact hI.alloc _ (hI.alloc _ h0)
  have vb : Below w.heap.size w V := by
    rw [← hV]; exact ((Below.refl _ w).alloc (Nat.le_refl _) _).alloc (by simp) _
  refine ⟨N + 1, [{ target := .collected N, args := #[] }], V, { target := .fn (.func gf) lb, args := #[.func (.yield (N + 1)) #[] #[]] }, V, gf,
    #[.func (.yield (N + 1)) #[] #[]] ++ lb, V, ?_, by simp only [resolve, hg]; simp [go_sem], fun f' hf' => by simp [Target.leads] at hf'; subst hf'; exact hFg, by simp [invoke, go_sem, eg], fun _ => h1, ?_⟩
  · rw [← hV, hrc, ← hN]; exact run_enterLoop_outer _ _ _ _ _
  refine (hseq (N + 1) (fun pre W => I pre W ∧ W.heap[N + 1]? = some (.loop (rc .ready)) ∧ W.heap[N]? = some (.deferred (some []))) V vb
    (fun s A C hs ht => ⟨hIT s A C hs.1 ht, (hT A C ht).same _ _ hs.2.1 rfl, (hT A C ht).same _ _ hs.2.2 rfl⟩) ?_ ⟨vi, vl, vk⟩).mono ?_
  · rintro pre x W ⟨hi, hl, hk⟩ hx
    have hlt : N + 1 < W.heap.size := (Array.getElem?_eq_some_iff.1 hl).1
    have hy := run_yield (P := P) (args := encs x) hl (by rw [hrc]; exact hps x)
    rw [hrc] at hy
    refine ⟨fn, _, assign, body, hy, roundIn_of_wpIn hfn (hassign _ x W _ ⟨_, run_beginRound hl (by rw [hrc]), ?_⟩)⟩
    obtain ⟨U, hU⟩ : ∃ U, W.putObj (N + 1) (.loop (rc .busy)) = U := ⟨_, rfl⟩
    have hU' : W.putObj (N + 1) (.loop { rc .ready with state := .busy }) = U := by rw [← hU, hrc]
    have ul : U.heap[N + 1]? = some (.loop (rc .busy)) := by rw [← hU]; exact World.putObj_heap_same hlt
    have uk : U.heap[N]? = some (.deferred (some [])) := by rw [← hU]; exact (World.putObj_heap_other (by omega)).trans hk
    have ui : I pre U := by rw [← hU]; exact hI.putObj _ hi (by omega) hl rfl
    have uw : Kp W U := by rw [← hU]; exact hKb _ _ _ (by omega)
    rw [hU']
    refine wpIn_mono (hbody _ pre x U ui hx) ?_
    intro e a3 X hp
    cases e with
    | normal =>
      obtain ⟨hk3, hkp3, hi3⟩ := hp
      have xl := hk3.same (N + 1) _ (by omega) ul rfl
      have xk := hk3.same N _ (by omega) uk rfl
      have hr := run_endRound (P := P) none xl
      refine ⟨_, _, hr, rfl, ⟨hI.putObj _ hi3 (by omega) xl rfl, ?_, (World.putObj_heap_other (by omega)).trans xk⟩, hKt (hKt uw hkp3) (hKb _ _ _ (by omega))⟩
      rw [World.putObj_heap_same (Array.getElem?_eq_some_iff.1 xl).1, hrc]
      rfl
    | ret => exact hp.elim
    | exit id => exact hp.elim
    | goto t => exact hp.elim
    | panic ch => exact hp.elim
    | outgrown => exact hp.elim
  · rintro e X ⟨⟨v, rfl⟩, hi, hl, hk⟩
    have he := run_endLoop (P := P) hl (by rw [hrc]; simp)
    refine ⟨none, _, by rw [he, hrc], hdone N _ (by omega) (hI.putObj _ hi (by omega) hl rfl) ((World.putObj_heap_other (by omega)).trans hk)⟩
end
end Go.Proofs.YtcmjpkfinbakkaaDoor

namespace Go.Proofs.YtcmjpkfinbakkaaDoor
open Go.RowKit Go.Shelf
attribute [local go_sem] Oper.semAt_some

def Keep (b : Nat) (W W' : World) : Prop := ∀ k, b < k → k < b + 4 → W'.heap[k]? = W.heap[k]?
theorem Keep.box {b k t : Nat} {W W' : World} {v : Value} (h : Keep b W W') (hx : Boxed W k t v) (h1 : b < k) (h2 : k < b + 4) : Boxed W' k t v := (h k h1 h2).trans hx
theorem Keep.trans {b : Nat} {A C D : World} (h : Keep b A C) (k : Keep b C D) : Keep b A D := fun i h1 h2 => (k i h1 h2).trans (h i h1 h2)

theorem idx_none : ∀ a : Bs, (∀ c ∈ a, c ≠ 47) → Lib.indexByte a 47 = -1
  | [], _ => rfl
  | c :: t, h => by
    have h1 : (c == 47) = false := by rw [beq_eq_false_iff_ne]; exact h c (by simp)
    have h2 := idx_none t (fun x hx => h x (by simp [hx]))
    unfold Lib.indexByte
    rw [h1, h2]; rfl
theorem idx_some : ∀ (a t : Bs), (∀ c ∈ a, c ≠ 47) → Lib.indexByte (a ++ 47 :: t) 47 = a.length
  | [], t, _ => by simp [Lib.indexByte]
  | c :: a, t, h => by
    have h1 : (c == 47) = false := by rw [beq_eq_false_iff_ne]; exact h c (by simp)
    have h2 := idx_some a t (fun x hx => h x (by simp [hx]))
    have h3 : ((a.length : Int) == -1) = false := by rw [beq_eq_false_iff_ne]; omega
    rw [List.cons_append]
    unfold Lib.indexByte
    rw [h1, h2, h3]
    simp
theorem no_or : ∀ r : Bs, (∀ c ∈ r, c ≠ 47) ∨ ∃ a t, r = a ++ 47 :: t ∧ ∀ c ∈ a, c ≠ 47
  | [] => .inl (by simp)
  | c :: r => by
    by_cases hc : c = 47
    · exact .inr ⟨[], r, by simp [hc], by simp⟩
    · rcases no_or r with h | ⟨a, t, e, h⟩
      · exact .inl (by simpa [hc] using h)
      · exact .inr ⟨c :: a, t, by simp [e], by simpa [hc] using h⟩
theorem ext_bytes {s : ByteArray} {f i : Nat} {l : Bs} (h : seg s f i = l) : s.extract f i = bs l := by
  have h1 := seg_ext s f i
  rw [h, Lib.toList_data] at h1
  exact bytes_eq h1

/-- What is left in the iterator's cell. -/
def left_ (W : World) (b : Nat) : Nat := match W.cell? ⟨b + 1, 0, none⟩ with | some (.string s) => s.size | _ => 0
theorem left_eq {W : World} {b t : Nat} {s : ByteArray} (h : Boxed W (b + 1) t (.string s)) : left_ W b = s.size := by
  unfold left_; rw [h.cell]

set_option maxRecDepth 100000 in
set_option maxHeartbeats 2000000 in
theorem split_in (n : Nat) (hn : 1 ≤ n) (l b : Nat) (J : List Bs → World → Prop) (xs : List Bs)
    (hJ : ∀ s A u, J s A → J s (A.setCell ⟨b + 1, 0, none⟩ u))
    (hY : ∀ pre x W, J pre W → pre ++ [x] <+: xs → YieldAt Fence.wide (n - 1) Tryd.prog l #[encStr x] W fun e W' => e = .returned (.bool true) ∧ J (pre ++ [x]) W' ∧ Keep b W W')
    (p : ByteArray) (hx : sp p.data.toList = xs) (hp : p.size ≤ 100000) (W : World) (h1 : Boxed W (b + 1) 9 (.string p)) (h2 : Boxed W (b + 2) 9 (.string ⟨#[47]⟩)) (h3 : Boxed W (b + 3) 3 (.int .i64 0)) (h0 : J [] W) :
    CallsIn Fence.wide n Tryd.prog 86 #[.func (.yield l) #[] #[], .pointer (some ⟨b + 2, 0, none⟩), .pointer (some ⟨b + 1, 0, none⟩), .pointer (some ⟨b + 3, 0, none⟩)] W fun e W' => (∃ v, e = .returned v) ∧ J xs W' := by
  have hro : Fence.wide.round = none := rfl
  have H0 : Hid (∃ (s : ByteArray) (pre : List Bs), Boxed W (b + 1) 9 (.string s) ∧ Boxed W (b + 2) 9 (.string ⟨#[47]⟩) ∧ Boxed W (b + 3) 3 (.int .i64 0) ∧ pre ++ sp s.data.toList = xs ∧ J pre W ∧ s.size ≤ 100000) := ⟨p, [], h1, h2, h3, by simpa using hx, h0, hp⟩
  have hc2 := h2.cell
  clear hx hp h1 h2 h3 h0
  refine callsIn_of_wp Tryd.func86 rfl trivial ?_ hro
  simp only [Tryd.ntmps86, List.size_toArray, List.length_cons, List.length_nil, Nat.reduceAdd, Nat.reduceSub, Array.replicate_succ, Array.replicate_zero, List.push_toArray, List.append_toArray, List.nil_append, List.cons_append]
  gi_wp2
  gi_loopw [7, 8] (fun _ _ wr => Hid (∃ (s : ByteArray) (pre : List Bs), Boxed wr (b + 1) 9 (.string s) ∧ Boxed wr (b + 2) 9 (.string ⟨#[47]⟩) ∧ Boxed wr (b + 3) 3 (.int .i64 0) ∧ pre ++ sp s.data.toList = xs ∧ J pre wr ∧ s.size ≤ 100000)) (fun _ _ wr => left_ wr b)
  case atStart => exact H0
  case round =>
    obtain ⟨s, pre, b1, b2, b3, hxs, hj, hsz⟩ := hrel.out
    have c1 := b1.cell
    have c2 := b2.cell
    have c3 := b3.cell
    have f1 := b1.frozen
    have HJ := Lib.hid hj
    have HX := Lib.hid hxs
    have hls : s.data.toList.length = s.size := Array.length_toList
    rcases no_or s.data.toList with hno | ⟨a, t, he, hno⟩
    · have hi := idx_none _ hno
      have hpx : pre ++ [s.data.toList] = xs := by rw [← hxs, sp_all _ hno]
      obtain ⟨fn, tmps, assign, body, hy, hR⟩ := hY pre s.data.toList wr hj (by rw [hpx]; exact List.prefix_refl _)
      rw [show encStr s.data.toList = Value.string s from rfl] at hy
      have HR := Lib.hid hR
      have HPX := Lib.hid hpx
      clear hj hxs hrel hR hpx hno hls
      gi_wp2_with (refine ⟨trivial, ?_⟩; gi_at_call 54; refine (callsIn_wide.2 (Tryd.strings_Index_one s 47 _)).mono ?_; rintro e w' ⟨rfl, rfl⟩)
      refine HR.out.mono ?_
      rintro e W3 ⟨rfl, hJ3, hk3⟩
      rw [HPX.out] at hJ3
      gi_wp2
      go_end0
      exact ⟨⟨_, rfl⟩, hJ3⟩
    · have hi := idx_some a t hno
      rw [← he] at hi
      have hsp : pre ++ [a] ++ sp t = xs := by rw [← hxs, he, sp_cut a t hno]; simp
      obtain ⟨k, hk⟩ : ∃ k, a.length = k := ⟨_, rfl⟩
      rw [hk] at hi
      have hsk : k + 1 + t.length = s.size := by rw [← hls, he]; simp; omega
      have e1 : s.extract 0 k = bs a := ext_bytes (by unfold seg; rw [he, ← hk]; simp)
      have e2 : s.extract (k + 1) s.size = bs t := ext_bytes (by unfold seg; rw [List.take_of_length_le (by omega), he, ← hk]; simp)
      obtain ⟨za, hza⟩ : ∃ z, bs a = z := ⟨_, rfl⟩
      obtain ⟨zt, hzt⟩ : ∃ z, bs t = z := ⟨_, rfl⟩
      obtain ⟨fn, tmps, assign, body, hy, hR⟩ := hY pre a wr hj (by rw [← hsp]; exact List.prefix_append _ _)
      rw [show encStr a = Value.string za from congrArg Value.string hza] at hy
      rw [hza] at e1
      rw [hzt] at e2
      have HR := Lib.hid hR
      have HT : Hid (t = zt.data.toList) := by rw [← hzt]; rfl
      have HSP := Lib.hid hsp
      have HB2 := Lib.hid b2
      have HB3 := Lib.hid b3
      have HB1 := Lib.hid b1
      have hztn : t.length = zt.size := by rw [← hzt]; rfl
      have q1 : (0 : Int) ≤ (k : Int) := by omega
      have q2 : (k : Int) ≤ (s.size : Int) := by omega
      have q3 : (k : Int) + 1 ≤ (s.size : Int) := by omega
      have q4 : (0 : Int) ≤ (k : Int) + 1 := by omega
      have q5 : IntKind.i64.wrap ((k : Int) + 1) = (k : Int) + 1 := by rw [IntKind.wrap_i64]; omega
      have q6 : wrap64 ((k : Int) + 1) = (k : Int) + 1 := by unfold wrap64; omega
      have q7 : IntKind.i64.wrap (k : Int) = (k : Int) := by rw [IntKind.wrap_i64]; omega
      have q8 : wrap64 (k : Int) = (k : Int) := by unfold wrap64; omega
      clear hj hxs hrel hR hsp hno hls he hk hza hzt b1 b2 b3
      gi_wp2_with (refine ⟨trivial, ?_⟩; gi_at_call 54; refine (callsIn_wide.2 (Tryd.strings_Index_one s 47 _)).mono ?_; rintro e w' ⟨rfl, rfl⟩)
      refine HR.out.mono ?_
      rintro e W3 ⟨rfl, hJ3, hk3⟩
      have d1 := hk3.box HB1.out (by omega) (by omega)
      have d2 := hk3.box HB2.out (by omega) (by omega)
      have d3 := hk3.box HB3.out (by omega) (by omega)
      have g1 := d1.cell
      have g2 := d2.cell
      have g3 := d3.cell
      have gf := d1.frozen
      have HD1 := Lib.hid d1
      have HD2 := Lib.hid d2
      have HD3 := Lib.hid d3
      have HJ3 := Lib.hid hJ3
      clear d1 d2 d3 hJ3 hk3
      gi_wp2
      go_roundw
      case rel => exact ⟨zt, pre ++ [a], HD1.out.set _, HD2.out.other (by omega) _, HD3.out.other (by omega) _, by rw [← HT.out]; exact HSP.out, hJ _ _ _ HJ3.out, by omega⟩
      case measure => rw [left_eq (HD1.out.set (.string zt)), left_eq HB1.out]; omega
end Go.Proofs.YtcmjpkfinbakkaaDoor

namespace Go.Proofs.YtcmjpkfinbakkaaDoor
open Go.RowKit Go.Shelf
attribute [local go_sem] Oper.semAt_some

set_option maxHeartbeats 1000000 in
theorem splitSeq_any (p sep : ByteArray) (k : Int) (w : World) :
    Calls Tryd.prog 67 #[.string p, .string sep, .int .i64 k] w fun e w' => e = .returned (.func (.func 86) #[] #[.pointer (some ⟨w.heap.size + 1, 0, none⟩), .pointer (some ⟨w.heap.size, 0, none⟩), .pointer (some ⟨w.heap.size + 2, 0, none⟩)]) ∧
      w' = ((w.alloc (.cells #[.string p] 9)).alloc (.cells #[.string sep] 9)).alloc (.cells #[.int .i64 k] 3) := by
  go_enter Tryd.func67, Tryd.ntmps67
  go_wp2_with fail
  go_ret
  exact ⟨rfl, rfl⟩
set_option maxHeartbeats 1000000 in
theorem SplitSeq_any (p sep : ByteArray) (w : World) :
    Calls Tryd.prog 57 #[.string p, .string sep] w fun e w' => e = .returned (.func (.func 86) #[] #[.pointer (some ⟨w.heap.size + 1, 0, none⟩), .pointer (some ⟨w.heap.size, 0, none⟩), .pointer (some ⟨w.heap.size + 2, 0, none⟩)]) ∧
      w' = ((w.alloc (.cells #[.string p] 9)).alloc (.cells #[.string sep] 9)).alloc (.cells #[.int .i64 0] 3) := by
  go_enter Tryd.func57, Tryd.ntmps57
  go_wp2_with fail
  refine (splitSeq_any p sep 0 w).mono ?_
  rintro e w1 ⟨rfl, h1⟩
  have H1 := Lib.hid h1
  clear h1
  go_wp2_with fail
  go_ret
  exact ⟨rfl, H1.out⟩

/-- Where an appended row lies: where it lay, or in a new block. -/
theorem append_where {w w' : World} {base : Nat} {ty : TypeId} {v v' : Value} {n : Nat} {xs : List Value} (hown : w.ownsRow base 9 1 v n xs) {ad : Addr} {c : Nat} {u : Value} (hc : w.cell? ad = some u) (h1 : u.oneCell' = true) (hb : (n + 1) * 16 ≤ 140737488355328)
    (hrun : (Builtin.append_ #[29, 29] ty #[v, .slice (some ad) 1 c]).run Tryd.prog w = .ok v' w') : v'.ownBlock = v.ownBlock ∨ v'.ownBlock = some w.heap.size := by
  obtain ⟨i0, hi, hz0, hz1, hz2⟩ := info_parts info9
  have hnews : ∀ j x, [u][j]? = some x → w.cell? (ad.add j) = some x := by
    intro j x hj
    match j, hj with
    | 0, hj => simp at hj; subst hj; simpa [Addr.add] using hc
  rcases hown.2 with ⟨rfl, rfl⟩ | ⟨g, cap, cur, rfl, hbg, hg, hnc, hcm, hcs, htake⟩
  · have hr := run_append_nil (P := Tryd.prog) w 29 ty 9 i0 (.string ⟨#[]⟩) Tryd.underlying29 hi hz0 ad 1 c [u] (by rw [hz1]; rfl) hnews (by omega) (by omega) (by rw [hz2]; omega)
    rw [hr] at hrun
    injection hrun with e _
    right
    rw [← e]; rfl
  · by_cases hroom : n + 1 ≤ cap
    · have hr := run_append_room (P := Tryd.prog) w 29 ty 9 i0 Tryd.underlying29 hi g n cap cur hg ad 1 c [u] (by rw [hz1]; rfl) hnews (by simpa using h1) hroom (by rw [hz1, hcs]; simp; omega)
      rw [hr] at hrun
      injection hrun with e _
      left
      rw [← e]; rfl
    · have holds : ∀ j x, xs[j]? = some x → w.cell? ((⟨g, 0, none⟩ : Addr).add j) = some x := hown.cells (g := g) rfl
      have hr := run_append_grow (P := Tryd.prog) w 29 ty 9 i0 (.string ⟨#[]⟩) Tryd.underlying29 hi hz0 ⟨g, 0, none⟩ n cap xs (by rw [hz1]; exact hown.1) holds ad 1 c [u] (by rw [hz1]; rfl) hnews (by omega) (by omega) (growslice_fits (by omega) (by rw [hz2]; exact hb))
      rw [hr] at hrun
      injection hrun with e _
      right
      rw [← e]; rfl

theorem wpListIn_append_apart {F : Fence} {n : Nat} (w : World) {ops : Array Oper} {rest : List Oper} {o : Oper} {a : Act} {Q : Exit → Act → World → Prop}
    (hg : o.guard = none) (s x : Operand) (hop : o.op = Op.call { callee := Callee.builtin Builtin.append, args := #[s, x], argTypes := #[29, 29] })
    (base : Nat) (v : Value) (k : Nat) (xs : List Value) (hs : a.eval s = v) (hown : w.ownsRow base 9 1 v k xs) (ad : Addr) (c : Nat) (u : Value) (hx : a.eval x = .slice (some ad) 1 c)
    (hc : w.cell? ad = some u) (h1c : u.oneCell' = true) (b1 : k + 1 ≤ 1000000) (b3 : base ≤ w.heap.size)
    (hK : ∀ v' w', w'.ownsRow base 9 1 v' (k + 1) (xs ++ [u]) → w.grownBy w' v.ownBlock → (v'.ownBlock = v.ownBlock ∨ v'.ownBlock = some w.heap.size) → wpListIn F n Tryd.prog ops Q rest (a.put o.dst v') w') :
    wpListIn F n Tryd.prog ops Q (o :: rest) a w := by
  obtain ⟨i0, hi, hz0, hz1, hz2⟩ := info_parts info9
  refine wpListIn_plain hg fun K hK' => ?_
  obtain ⟨v', w', hrun, r1, r2, _⟩ := run_append_own (P := Tryd.prog) w base 29 o.type 9 i0 (.string ⟨#[]⟩) 1 16 Tryd.underlying29 hi hz0 hz1 hz2 rfl (by decide) v k xs hown ad 1 c [u] rfl (fun j y hj => by match j, hj with | 0, hj => simp at hj; subst hj; simpa [Addr.add] using hc) (by simpa using h1c) (by unfold maxLen; omega) (by omega) b3
  have r4 := append_where hown hc h1c (by omega) hrun
  unfold Oper.wpIn
  refine ⟨?_, ?_⟩
  · simp [Oper.about, hop, resolve, Target.leads, Sem.run_pure]
  · rw [Oper.semAt_plain F _ _ (by rw [hop]; intro c hc'; cases hc')]
    simp [execOp, hop, resolve, invoke, builtin, hs, hx, hrun, Result.andThen]
    exact hK' _ _ (hK v' w' r1 r2 r4)
end Go.Proofs.YtcmjpkfinbakkaaDoor
