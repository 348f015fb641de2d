import Derived.Shelf.Strings.Builder1
import Derived.Shelf.Strings.Builder2
import Derived.Shelf.Strings.OnBuilder
import Derived.Test.YtcmjpkfinbakkaaGreatDoorProg
import Derived.Test.YtcmjpkfinbakkaaGreatDoorRows
import Derived.WalkKit
import Derived.OwnWalk
import Derived.Lib.Hide
import Derived.Lib.Strings
import Derived.Sort.EncStr
import Derived.Laws.AppendOwn
import Derived.Deep.AppendLies
import Derived.BigQuiet
import Derived.Deep.Draws
import Derived.Deep.QuietTactic
import Derived.Sort.OwnSorted
import Derived.Laws.AppendOwnNone
namespace Go.Proofs
open Go.Shelf
def Tryz.lays156_ren : Go.Shelf.Ren := ⟨fun | 156 => 98 | 165 => 145 | 166 => 81 | 169 => 83 | 240 => 127 | 241 => 197 | 276 => 183 | 277 => 236 | n => n, fun | 31 => 22 | 9 => 9 | 3 => 3 | 4 => 4 | 0 => 0 | 20 => 20 | 72 => 121 | 76 => 124 | 70 => 119 | 37 => 41 | 75 => 123 | 127 => 161 | 164 => 209 | 5 => 5 | 80 => 127 | n => n, fun | n => n⟩
theorem Tryz.lays156 : Go.Proofs.Lays.n156 Tryz.prog Tryz.lays156_ren := {
  mixed := by kernel_rfl
  f156 := Tryz.func98.trans (congrArg some (by kernel_rfl))
  f165 := Tryz.func145.trans (congrArg some (by kernel_rfl))
  f166 := Tryz.func81.trans (congrArg some (by kernel_rfl))
  f169 := Tryz.func83.trans (congrArg some (by kernel_rfl))
  f240 := Tryz.func127.trans (congrArg some (by kernel_rfl))
  f241 := Tryz.func197.trans (congrArg some (by kernel_rfl))
  f276 := Tryz.func183.trans (congrArg some (by kernel_rfl))
  f277 := Tryz.func236.trans (congrArg some (by kernel_rfl))
  t0 := Tryz.underlying0
  a0 := Tryz.isAgg0
  z0 := Tryz.sizeOf0
  v0 := Tryz.zeroValue0
  t3 := Tryz.underlying3
  a3 := Tryz.isAgg3
  z3 := Tryz.sizeOf3
  v3 := Tryz.zeroValue3
  t4 := Tryz.underlying4
  a4 := Tryz.isAgg4
  z4 := Tryz.sizeOf4
  v4 := Tryz.zeroValue4
  t9 := Tryz.underlying9
  a9 := Tryz.isAgg9
  z9 := Tryz.sizeOf9
  v9 := Tryz.zeroValue9
  t20 := Tryz.underlying20
  a20 := Tryz.isAgg20
  z20 := Tryz.sizeOf20
  v20 := Tryz.zeroValue20
  t31 := Tryz.underlying22
  a31 := Tryz.isAgg22
  z31 := Tryz.sizeOf22
  v31 := Tryz.zeroValue22
  t37 := Tryz.underlying41
  a37 := Tryz.isAgg41
  z37 := Tryz.sizeOf41
  v37 := Tryz.zeroValue41
  t70 := Tryz.underlying119
  a70 := Tryz.isAgg119
  z70 := Tryz.sizeOf119
  v70 := Tryz.zeroValue119
  t72 := Tryz.underlying121
  a72 := Tryz.isAgg121
  z72 := Tryz.sizeOf121
  v72 := Tryz.zeroValue121
  t75 := Tryz.underlying123
  a75 := Tryz.isAgg123
  z75 := Tryz.sizeOf123
  v75 := Tryz.zeroValue123
  t76 := Tryz.underlying124
  a76 := Tryz.isAgg124
  z76 := Tryz.sizeOf124
  v76 := Tryz.zeroValue124
  t127 := Tryz.underlying161
  a127 := Tryz.isAgg161
  z127 := Tryz.sizeOf161
  v127 := Tryz.zeroValue161
  t164 := Tryz.underlying209
  a164 := Tryz.isAgg209
  z164 := Tryz.sizeOf209
  v164 := Tryz.zeroValue209 }
theorem Tryz.Builder_Extra_156 : Builder.Extra Tryz.prog Tryz.lays156_ren := {
  sizeBuilder := by kernel_rfl
  liesBuilder := by kernel_rfl
  t5 := Tryz.underlying5
  a5 := Tryz.isAgg5
  z5 := Tryz.sizeOf5
  v5 := Tryz.zeroValue5
  infoByte := by kernel_rfl
  cellsByte := by kernel_rfl
  sizeByte := by kernel_rfl
  neB5 := by decide }
open Go.RowKit in
theorem Tryz.strings_Join_none (a : Option Addr) (c : Nat) (sep : ByteArray) (w : World) :
    Calls Tryz.prog 98 #[.slice a 0 c, .string sep] w fun e w' => e = .returned (.string ⟨#[]⟩) ∧ w' = w := Any.strings_Join_none Tryz.lays156 Tryz.Builder_Extra_156 a c sep w
open Go.RowKit in
theorem Tryz.strings_Join (bk o c : Nat) (xs : List ByteArray) (sep : ByteArray) (w : World) (hcells : ∀ (j : Nat) x, xs[j]? = some x → w.cell? ⟨bk, o + j, none⟩ = some (.string x)) (hbk : bk < w.heap.size) (hN : xs.length ≤ 140737488355328) (hcap : xs.length ≤ c) (hlen : (Lib.join (xs.map (·.data.toList)) sep.data.toList).length ≤ 140737488355328) :
    Calls Tryz.prog 98 #[.slice (some ⟨bk, o, none⟩) xs.length c, .string sep] w fun e w' => e = .returned (.string ⟨(Lib.join (xs.map (·.data.toList)) sep.data.toList).toArray⟩) ∧ Below w.heap.size w w' := Any.strings_Join Tryz.lays156 Tryz.Builder_Extra_156 bk o c xs sep w hcells hbk hN hcap hlen
end Go.Proofs

namespace Go.Proofs.YtcmjpkfinbakkaaGreatDoor.Vf
set_option maxRecDepth 100000
open Go.RowKit

abbrev Bs := List UInt8
def gb (s : ByteArray) (i : Nat) : UInt8 := s.data.toList.getD i 0
theorem gb_eq (s : ByteArray) (i : Nat) (h : i < s.size) : s[i] = gb s i := by
  have : i < s.data.toList.length := by simpa using h
  unfold gb
  rw [List.getD_eq_getElem?_getD, List.getElem?_eq_getElem this]; rfl

/-- The pieces between the strokes. -/
def sp : Bs → List Bs
  | [] => [[]]
  | c :: t => if c = 47 then [] :: sp t else match sp t with
    | [] => [[c]]
    | a :: r => (c :: a) :: r
def push (l : List Bs) (s : Bs) : List Bs := if s = [] ∨ s = [46] then l else if s = [46, 46] then l.dropLast else l ++ [s]

theorem sp_all : ∀ a : Bs, (∀ c ∈ a, c ≠ 47) → sp a = [a]
  | [], _ => rfl
  | c :: t, h => by
    rw [sp, if_neg (h c (by simp)), sp_all t (fun x hx => h x (by simp [hx]))]
theorem sp_cut : ∀ (a t : Bs), (∀ c ∈ a, c ≠ 47) → sp (a ++ 47 :: t) = a :: sp t
  | [], t, _ => by simp [sp]
  | c :: a, t, h => by
    rw [List.cons_append, sp, if_neg (h c (by simp)), sp_cut a t (fun x hx => h x (by simp [hx]))]

/-- The bytes of s from f up to i. -/
def seg (s : ByteArray) (f i : Nat) : Bs := (s.data.toList.take i).drop f
theorem seg_ext (s : ByteArray) (f i : Nat) : (s.extract f i).toList = seg s f i := by
  rw [Lib.extract_toList]
  unfold seg
  rw [List.drop_take]
theorem seg_no (s : ByteArray) (f i : Nat) (hi : i ≤ s.size) (h : ∀ j, f ≤ j → j < i → gb s j ≠ 47) : ∀ c ∈ seg s f i, c ≠ 47 := by
  intro c hc
  obtain ⟨j, hj, rfl⟩ := List.mem_iff_getElem.1 hc
  have hl : s.data.toList.length = s.size := Array.length_toList
  unfold seg at hj ⊢
  rw [List.length_drop, List.length_take] at hj
  have := h (f + j) (by omega) (by omega)
  rw [List.getElem_drop, List.getElem_take]
  unfold gb at this
  rw [List.getD_eq_getElem?_getD, List.getElem?_eq_getElem (by omega)] at this
  exact this
theorem seg_end (s : ByteArray) (f : Nat) : seg s f s.size = s.data.toList.drop f := by
  have hl : s.data.toList.length = s.size := Array.length_toList
  unfold seg
  rw [List.take_of_length_le (by omega)]
theorem seg_cut (s : ByteArray) (f i : Nat) (hf : f ≤ i) (hi : i < s.size) : s.data.toList.drop f = seg s f i ++ gb s i :: s.data.toList.drop (i + 1) := by
  have hl : s.data.toList.length = s.size := Array.length_toList
  have hb : s.data.toList.drop i = gb s i :: s.data.toList.drop (i + 1) := by
    rw [List.drop_eq_getElem_cons (by omega)]
    unfold gb
    rw [List.getD_eq_getElem?_getD, List.getElem?_eq_getElem (by omega)]; rfl
  rw [← hb]
  unfold seg
  conv => lhs; rw [← List.take_append_drop i s.data.toList]
  rw [List.drop_append_of_le_length (by rw [List.length_take]; omega)]

theorem push_len (l : List Bs) (s : Bs) : (push l s).length ≤ l.length + 1 := by
  unfold push
  split
  · omega
  · split
    · simp; omega
    · simp

theorem cut_step {p : ByteArray} {f i : Nat} {l R : List Bs} (hf : f ≤ i) (hi : i < p.size) (hno : ∀ j, f ≤ j → j < i → gb p j ≠ 47) (h47 : gb p i = 47) (hR : (sp (p.data.toList.drop f)).foldl push l = R) :
    (sp (p.data.toList.drop (i + 1))).foldl push (push l (seg p f i)) = R := by
  rw [seg_cut p f i hf hi, h47, sp_cut _ _ (seg_no p f i (by omega) hno)] at hR
  exact hR
theorem end_step {p : ByteArray} {f : Nat} {l R : List Bs} (hno : ∀ j, f ≤ j → j < p.size → gb p j ≠ 47) (hR : (sp (p.data.toList.drop f)).foldl push l = R) :
    push l (seg p f p.size) = R := by
  rw [← seg_end, sp_all _ (seg_no p f p.size (Nat.le_refl _) hno)] at hR
  exact hR
end Go.Proofs.YtcmjpkfinbakkaaGreatDoor.Vf

namespace Go.Proofs.YtcmjpkfinbakkaaGreatDoor.Vf
set_option maxRecDepth 100000
open Go.RowKit

theorem info9 : (Tryz.prog.info? 9).map (fun i => (i.zero, i.size, i.bytes)) = some (some (.string ⟨#[]⟩), 1, 16) := by kernel_rfl
theorem elem30 : Tryz.prog.elem 22 = 9 := by kernel_rfl

theorem push_dd (l : List Bs) : push l [46, 46] = l.dropLast := by
  unfold push
  rw [if_neg (by simp), if_pos rfl]
theorem slice_last (g n c : Nat) (hn : 0 < n) (hc : n ≤ c) :
    ∀ w, (Instr.slice 22 (.slice (some ⟨g, 0, none⟩) n c) none (some (.int .i64 ((n : Int) - 1))) none).run Tryz.prog w = .ok (.slice (some ⟨g, 0, none⟩) (n - 1) c) w := by
  intro w
  rw [run_slice_h (P := Tryz.prog) (w := w) 22 (some ⟨g, 0, none⟩) n c (by rw [elem30]; exact Tryz.underlying22) .i64 ((n : Int) - 1) (by omega) (by omega), elem30, Tryz.sizeOf9]
  simp [Result.andThen, sliced, Addr.add]
theorem own_cap {w : World} {B g n c : Nat} {xs : List Value} (h : w.ownsRow B 9 1 (.slice (some ⟨g, 0, none⟩) n c) n xs) (hn : 0 < n) : n ≤ c := by
  rcases h.2 with ⟨_, h0⟩ | ⟨g', c', cur, hv, _, _, h1, _⟩
  · omega
  · injection hv with _ _ e
    rw [e]; exact h1
theorem own_last {w : World} {B g c : Nat} {l : List Bs} (h : w.ownsRow B 9 1 (.slice (some ⟨g, 0, none⟩) l.length c) l.length (l.map encStr)) (hn : 0 < l.length) :
    w.ownsRow B 9 1 (.slice (some ⟨g, 0, none⟩) (l.length - 1) c) (l.length - 1) (l.dropLast.map encStr) := by
  rcases h.2 with ⟨_, h0⟩ | ⟨g', c', cur, hv, hb, hg, h1, h2, h3, h4⟩
  · omega
  · injection hv with e1 _ e3
    subst e3
    injection e1 with e1
    injection e1 with e1
    subst e1
    refine ⟨by simp, .inr ⟨g, c, cur, rfl, hb, hg, by omega, h2, h3, ?_⟩⟩
    rw [List.dropLast_eq_take, List.map_take, ← h4, List.take_take, Nat.mul_one, Nat.mul_one, Nat.min_eq_left (by omega)]
theorem enc_of {s : ByteArray} {sg : Bs} (h : s.toList = sg) : Value.string s = encStr sg := by
  rw [Lib.toList_data] at h
  rw [← h]
theorem own_form {w : World} {B n : Nat} {v : Value} {xs : List Value} (h : w.ownsRow B 9 1 v n xs) : ∃ A c, v = .slice A n c := by
  rcases h.2 with ⟨h1, h0⟩ | ⟨g, c, _, h1, _⟩
  · exact ⟨none, 0, by rw [h1, h0]⟩
  · exact ⟨_, c, h1⟩

/-- The loop of names. -/
structure NR (B : Nat) (w wr : World) (p : ByteArray) (n0 : Nat) (v : Value) (f i : Nat) (l R : List Bs) : Prop where
  fi : f ≤ i
  ip : i ≤ p.size + 1
  own : wr.ownsRow B 9 1 v l.length (l.map encStr)
  len : l.length ≤ n0 + i
  old : Below B w wr
  no : ∀ j, f ≤ j → j < i → j < p.size → gb p j ≠ 47
  goes : i ≤ p.size → (sp (p.data.toList.drop f)).foldl push l = R
  ends : i = p.size + 1 → l = R

theorem NR.cut {B : Nat} {w wr wr' : World} {p : ByteArray} {n0 : Nat} {x x' : Value} {f i : Nat} {l R : List Bs} (h : NR B w wr p n0 x f i l R) (hc : i < p.size ∧ gb p i = 47 ∨ i = p.size)
    (hown : wr'.ownsRow B 9 1 x' (push l (seg p f i)).length ((push l (seg p f i)).map encStr)) (hB : Below B w wr') : NR B w wr' p n0 x' (i + 1) (i + 1) (push l (seg p f i)) R := by
  refine ⟨Nat.le_refl _, by have := h.ip; omega, hown, ?_, hB, fun j h1 h2 => by omega, fun hi => ?_, fun hi => ?_⟩
  · have := push_len l (seg p f i)
    have := h.len
    omega
  · rcases hc with ⟨h1, h2⟩ | h1
    · exact cut_step h.fi h1 (fun j a b => h.no j a b (by omega)) h2 (h.goes (by omega))
    · omega
  · rcases hc with ⟨h1, h2⟩ | h1
    · omega
    · subst h1
      exact end_step (fun j a b => h.no j a b b) (h.goes (Nat.le_refl _))
theorem NR.skip {B : Nat} {w wr : World} {p : ByteArray} {n0 : Nat} {x : Value} {f i : Nat} {l R : List Bs} (h : NR B w wr p n0 x f i l R) (hi : i < p.size) (hc : gb p i ≠ 47) : NR B w wr p n0 x f (i + 1) l R := by
  refine ⟨by have := h.fi; omega, by omega, h.own, by have := h.len; omega, h.old, fun j h1 h2 h3 => ?_, fun _ => h.goes (by omega), fun e => by omega⟩
  by_cases e : j = i
  · subst e; exact hc
  · exact h.no j h1 (by omega) h3

end Go.Proofs.YtcmjpkfinbakkaaGreatDoor.Vf

namespace Go.Proofs.YtcmjpkfinbakkaaGreatDoor.Vf
set_option maxRecDepth 100000
open Go.RowKit

/-- The names of a path as it is seen from a directory. -/
def parts (cwd p : ByteArray) : List Bs :=
  (sp p.data.toList).foldl push (if 0 < p.size ∧ gb p 0 = 47 then [] else (sp cwd.data.toList).foldl push [])

theorem push_fold_len (P : List Bs) : ∀ l : List Bs, (P.foldl push l).length ≤ l.length + P.length := by
  induction P with
  | nil => intro l; simp
  | cons a P ih =>
    intro l
    have h1 := ih (push l a)
    have h2 := push_len l a
    simp only [List.foldl_cons, List.length_cons]
    omega
theorem sp_len : ∀ a : Bs, (sp a).length ≤ a.length + 1
  | [] => by simp [sp]
  | c :: t => by
    have h := sp_len t
    rw [sp]
    split
    · simp; omega
    · split
      · simp
      · rename_i a r e
        rw [e] at h
        simp at h ⊢
        omega

end Go.Proofs.YtcmjpkfinbakkaaGreatDoor.Vf

namespace Go.Proofs.YtcmjpkfinbakkaaGreatDoor.Vf
set_option maxRecDepth 100000
open Go.RowKit

/-- Names, a stroke ahead of each. -/
def joined (L : List Bs) : Bs := L.flatMap (47 :: ·)
def written (L : List Bs) : Bs := if L = [] then [47] else joined L
theorem joined_snoc (L : List Bs) (x : Bs) : joined (L ++ [x]) = joined L ++ 47 :: x := by simp [joined]
theorem joined_nil {L : List Bs} (h : joined L = []) : L = [] := by
  cases L with
  | nil => rfl
  | cons a l => simp [joined] at h
theorem joined_take (L : List Bs) (k : Nat) (x : Bs) (hk : k < L.length) (hx : L[k] = x) : joined (L.take (k + 1)) = joined (L.take k) ++ 47 :: x := by
  rw [List.take_add_one, List.getElem?_eq_getElem hk, hx]
  exact joined_snoc _ _
theorem joined_len (L : List Bs) (k : Nat) : (joined (L.take k)).length ≤ (joined L).length := by
  conv => rhs; rw [← List.take_append_drop k L]
  unfold joined
  rw [List.flatMap_append, List.length_append]
  omega
theorem bytes_eq {s : ByteArray} {l : Bs} (h : s.data.toList = l) : s = ⟨l.toArray⟩ := by rw [← h]

end Go.Proofs.YtcmjpkfinbakkaaGreatDoor.Vf

namespace Go.Proofs.YtcmjpkfinbakkaaGreatDoor.Vf
set_option maxRecDepth 100000
open Go.RowKit

theorem joined_cons (a : Bs) (L : List Bs) : (joined (a :: L)).length = a.length + 1 + (joined L).length := by
  simp [joined]
  omega
theorem joined_app (L M : List Bs) : (joined (L ++ M)).length = (joined L).length + (joined M).length := by
  simp [joined]
theorem joined_sp : ∀ a : Bs, (joined (sp a)).length = a.length + 1
  | [] => by simp [sp, joined]
  | c :: t => by
    have h := joined_sp t
    rw [sp]
    split
    · rw [joined_cons, h]; simp; omega
    · split
      · rename_i e
        rw [e] at h
        simp [joined] at h
      · rename_i a r e
        rw [e, joined_cons] at h
        rw [joined_cons]
        simp only [List.length_cons]
        omega
theorem joined_drop (l : List Bs) : (joined l.dropLast).length ≤ (joined l).length := by
  rw [List.dropLast_eq_take]; exact joined_len l _
theorem joined_push (l : List Bs) (s : Bs) : (joined (push l s)).length ≤ (joined l).length + (s.length + 1) := by
  unfold push
  split
  · omega
  · split
    · have := joined_drop l; omega
    · rw [joined_app, joined_cons]; simp [joined]
theorem joined_fold (P : List Bs) : ∀ l : List Bs, (joined (P.foldl push l)).length ≤ (joined l).length + (joined P).length := by
  induction P with
  | nil => intro l; simp
  | cons a P ih =>
    intro l
    have h1 := ih (push l a)
    have h2 := joined_push l a
    rw [List.foldl_cons, joined_cons]
    omega
theorem parts_joined (cwd p : ByteArray) : (joined (parts cwd p)).length ≤ cwd.size + p.size + 2 := by
  have h1 := joined_fold (sp p.data.toList) (if 0 < p.size ∧ gb p 0 = 47 then [] else (sp cwd.data.toList).foldl push [])
  have h2 := joined_fold (sp cwd.data.toList) []
  have l1 : p.data.toList.length = p.size := Array.length_toList
  have l2 : cwd.data.toList.length = cwd.size := Array.length_toList
  rw [joined_sp] at h1 h2
  unfold parts
  split at h1 <;> rename_i hc
  · rw [if_pos hc]; simp [joined] at h1 h2 ⊢; omega
  · rw [if_neg hc]; simp [joined] at h1 h2 ⊢; omega
theorem parts_len (cwd p : ByteArray) : (parts cwd p).length ≤ cwd.size + p.size + 2 := by
  have h := parts_joined cwd p
  have : ∀ L : List Bs, L.length ≤ (joined L).length := fun L => by
    induction L with
    | nil => simp
    | cons a L ih => rw [joined_cons, List.length_cons]; omega
  have := this (parts cwd p)
  omega

end Go.Proofs.YtcmjpkfinbakkaaGreatDoor.Vf

namespace Go.Proofs.YtcmjpkfinbakkaaGreatDoor.Vf
set_option maxRecDepth 100000
open Go.RowKit

/-- Where a byte is first. -/
def at_ (s : ByteArray) (c : UInt8) : Nat → Nat → Int
  | 0, _ => -1
  | n + 1, k => if k < s.size then (if gb s k = c then (k : Int) else at_ s c n (k + 1)) else -1

end Go.Proofs.YtcmjpkfinbakkaaGreatDoor.Vf

namespace Go.Proofs.YtcmjpkfinbakkaaGreatDoor.Vf
set_option maxRecDepth 100000
open Go.RowKit

def StrsL (w : World) (a : Option Addr) (L : List Bs) : Prop := 0 < L.length → ∃ g off, a = some ⟨g, off, none⟩ ∧ g < w.heap.size ∧ ∀ i (h : i < L.length), w.cell? ⟨g, off + i, none⟩ = some (encStr L[i])
theorem strs_own {w : World} {B : Nat} {a : Option Addr} {c : Nat} {L : List Bs} (h : w.ownsRow B 9 1 (.slice a L.length c) L.length (L.map encStr)) : StrsL w a L := fun hn => by
  obtain ⟨g, c', ea, _, hg⟩ := h.form hn
  injection ea with e1 _ _
  subst e1
  refine ⟨g, 0, rfl, hg, fun i hi => ?_⟩
  have := World.ownsRow.cellAt (g := g) (by simpa using h) i (by omega)
  rw [Nat.zero_add, this]
  simp [hi]

theorem draws (w : World) (m q : Nat) : (w.drewN m).drewN q = w.drewN (m + q) := by simp [World.drewN, Nat.add_assoc]

set_option maxRecDepth 100000 in
set_option maxHeartbeats 4000000 in
theorem Same_any (A A' : Option Addr) (L M : List Bs) (c c' : Nat) (w : World) (hn : L.length ≤ 4000000) (hS : StrsL w A L) (hS' : StrsL w A' M) (v : Bool) (hv : Hid (v = true ↔ L = M)) :
    Calls Tryz.prog 19 #[.slice A L.length c, .slice A' M.length c'] w fun e w' => e = .returned (.bool v) ∧ ∃ m, w' = w.drewN m := by
  have HS := Lib.hid hS
  have HS' := Lib.hid hS'
  clear hS hS'
  by_cases hlen : L.length = M.length
  · obtain ⟨n, hln⟩ : ∃ n, L.length = n := ⟨_, rfl⟩
    have hln' : M.length = n := hlen.symm.trans hln
    rw [hln] at hn
    rw [hln, hln']
    have HLN := Lib.hid hln
    have HLN' := Lib.hid hln'
    clear hln hln' hlen
    go_enter Tryz.func19, Tryz.ntmps19
    go_wp2_with fail
    go_loopw [5] (fun i wr => ∃ (k m : Nat), i = .int .i64 k ∧ k ≤ n ∧ wr = w.drewN m ∧ Hid (L.take k = M.take k)) (fun i _ => n - (intOf i).toNat)
    case atStart => exact ⟨0, 0, rfl, by omega, rfl, rfl⟩
    case round =>
      obtain ⟨k, m, rfl, hk, rfl, HK⟩ := hrel
      by_cases hlt : k < n
      · have hltL : k < L.length := by rw [HLN.out]; exact hlt
        have hltM : k < M.length := by rw [HLN'.out]; exact hlt
        obtain ⟨g, off, rfl, _, hc⟩ := HS.out (by omega)
        obtain ⟨g', off', rfl, _, hc'⟩ := HS'.out (by omega)
        have hck := hc k hltL
        have hck' := hc' k hltM
        clear hc hc'
        have hadd : (⟨g, off, none⟩ : Addr).add k = ⟨g, off + k, none⟩ := by unfold Addr.add; by_cases h : k = 0 <;> simp [h]
        have hadd' : (⟨g', off', none⟩ : Addr).add k = ⟨g', off' + k, none⟩ := by unfold Addr.add; by_cases h : k = 0 <;> simp [h]
        have b1 : (k : Int) < (n : Int) := by omega
        have b2 : (0 : Int) ≤ (k : Int) := by omega
        have HTL : Hid (L.take (k + 1) = L.take k ++ [L[k]]) := by rw [Hid, List.take_add_one, List.getElem?_eq_getElem hltL]; rfl
        have HTM : Hid (M.take (k + 1) = M.take k ++ [M[k]]) := by rw [Hid, List.take_add_one, List.getElem?_eq_getElem hltM]; rfl
        by_cases hxy : L[k] = M[k]
        · have HN : Hid (L.take (k + 1) = M.take (k + 1)) := by rw [Hid, HTL.out, HTM.out, HK.out, hxy]
          rw [hxy] at hck
          obtain ⟨x, hx⟩ : ∃ x : ByteArray, ⟨M[k].toArray⟩ = x := ⟨_, rfl⟩
          rw [show encStr M[k] = .string ⟨M[k].toArray⟩ from rfl, hx] at hck hck'
          clear hx hxy HTL HTM
          go_wp2_with fail
          go_quiet (fail)
          go_wp2_with fail
          exact ⟨⟨k + 1, _, rfl, by omega, rfl, HN.out⟩, by simp [intOf]; omega⟩
        · have HV : Hid (v = false) := by
            rw [Hid, Bool.eq_false_iff]
            intro h
            have e := hv.out.1 h
            subst e
            exact hxy rfl
          obtain ⟨x, hx⟩ : ∃ x : ByteArray, ⟨L[k].toArray⟩ = x := ⟨_, rfl⟩
          obtain ⟨y, hy⟩ : ∃ y : ByteArray, ⟨M[k].toArray⟩ = y := ⟨_, rfl⟩
          rw [show encStr L[k] = .string ⟨L[k].toArray⟩ from rfl, hx] at hck
          rw [show encStr M[k] = .string ⟨M[k].toArray⟩ from rfl, hy] at hck'
          have hne : (x.toList == y.toList) = false := by
            rw [beq_eq_false_iff_ne, Lib.toList_data, Lib.toList_data, ← hx, ← hy]
            exact hxy
          clear hx hy hxy HTL HTM
          go_wp2_with fail
          go_quiet (fail)
          go_wp2_with fail
          go_ret
          exact ⟨by rw [HV.out]; rfl, _, draws _ _ _⟩
      · have b1 : ¬ (k : Int) < (n : Int) := by omega
        have HV : Hid (v = true) := by
          rw [Hid, hv.out]
          have h := HK.out
          have h1 := HLN.out
          have h2 := HLN'.out
          rwa [List.take_of_length_le (by omega), List.take_of_length_le (by omega)] at h
        go_wp2_with fail
        go_ret
        exact ⟨by rw [HV.out]; rfl, _, rfl⟩
  · have HV : Hid (v = false) := by
      rw [Hid, Bool.eq_false_iff]
      intro h
      exact hlen (by rw [hv.out.1 h])
    have hne : ((L.length : Int) != (M.length : Int)) = true := by rw [bne_iff_ne]; omega
    clear hlen
    go_enter Tryz.func19, Tryz.ntmps19
    go_wp2_with fail
    go_ret
    exact ⟨by rw [HV.out]; rfl, 0, rfl⟩
end Go.Proofs.YtcmjpkfinbakkaaGreatDoor.Vf

namespace Go.Proofs.YtcmjpkfinbakkaaGreatDoor.Vf
set_option maxRecDepth 100000
open Go.RowKit

theorem elemS : Tryz.prog.elem 22 = 9 := by kernel_rfl
theorem slice_from (g off n c k : Nat) (hk : k ≤ n) :
    ∃ off', (k < c → off' = off + k) ∧ ∀ w, (Instr.slice 22 (.slice (some ⟨g, off, none⟩) n c) (some (.int .i64 k)) none none).run Tryz.prog w = .ok (.slice (some ⟨g, off', none⟩) (n - k) (c - k)) w := by
  refine ⟨if c = k then off else off + k, fun h => by rw [if_neg (by omega)], fun w => ?_⟩
  rw [run_slice_l (P := Tryz.prog) (w := w) 22 (some ⟨g, off, none⟩) n c (by rw [elemS]; exact Tryz.underlying22) .i64 (k : Int) (by omega) (by omega), elemS, Tryz.sizeOf9]
  simp only [Result.andThen, sliced, Int.toNat_natCast]
  by_cases h : c = k
  · simp [h]
  · simp [h, Addr.add]
theorem slice_to (g off n c k : Nat) (hk : k ≤ c) :
    ∀ w, (Instr.slice 22 (.slice (some ⟨g, off, none⟩) n c) none (some (.int .i64 k)) none).run Tryz.prog w = .ok (.slice (some ⟨g, off, none⟩) k c) w := by
  intro w
  rw [run_slice_h (P := Tryz.prog) (w := w) 22 (some ⟨g, off, none⟩) n c (by rw [elemS]; exact Tryz.underlying22) .i64 (k : Int) (by omega) (by omega), elemS, Tryz.sizeOf9]
  simp [Result.andThen, sliced, Addr.add]
theorem slice_nil_from : ∀ w, (Instr.slice 22 (.slice none 0 0) (some (.int .i64 0)) none none).run Tryz.prog w = .ok (.slice none 0 0) w := by
  intro w
  have := run_slice_l (P := Tryz.prog) (w := w) 22 none 0 0 (by rw [elemS]; exact Tryz.underlying22) .i64 0 (by omega) (by omega)
  rw [this, elemS, Tryz.sizeOf9]
  simp [Result.andThen, sliced]
theorem slice_nil_to : ∀ w, (Instr.slice 22 (.slice none 0 0) none (some (.int .i64 0)) none).run Tryz.prog w = .ok (.slice none 0 0) w := by
  intro w
  have := run_slice_h (P := Tryz.prog) (w := w) 22 none 0 0 (by rw [elemS]; exact Tryz.underlying22) .i64 0 (by omega) (by omega)
  rw [this, elemS, Tryz.sizeOf9]
  simp [Result.andThen, sliced]

/-- The texts L lie behind the slice v. -/
def SlS (w : World) (v : Value) (L : List Bs) : Prop :=
  (v = .slice none 0 0 ∧ L = []) ∨ ∃ g off c, v = .slice (some ⟨g, off, none⟩) L.length c ∧ L.length ≤ c ∧ c ≤ 9223372036854775807 ∧ g < w.heap.size ∧ ∀ i (h : i < L.length), w.cell? ⟨g, off + i, none⟩ = some (encStr L[i])
theorem SlS.below {w w' : World} {v : Value} {L : List Bs} (h : SlS w v L) (hb : Below w.heap.size w w') : SlS w' v L := by
  rcases h with h | ⟨g, off, c, h1, h2, h3, h4, h5⟩
  · exact .inl h
  · exact .inr ⟨g, off, c, h1, h2, h3, Nat.lt_of_lt_of_le h4 hb.size, fun i hi => by rw [hb.cell (p := ⟨g, off + i, none⟩) h4]; exact h5 i hi⟩
theorem SlS.own {w : World} {B : Nat} {v : Value} {L : List Bs} (h : w.ownsRow B 9 1 v L.length (L.map encStr)) : SlS w v L := by
  rcases h.2 with ⟨h1, h2⟩ | ⟨g, c, cur, h1, _, hg, h2, h3, h4⟩
  · exact .inl ⟨h1, List.length_eq_zero_iff.1 h2⟩
  · refine .inr ⟨g, 0, c, h1, h2, h3, (Array.getElem?_eq_some_iff.1 hg).1, fun i hi => ?_⟩
    rw [h1] at h
    have := World.ownsRow.cellAt h i (by omega)
    rw [Nat.zero_add, this]
    simp [hi]
theorem SlS.len {w : World} {v : Value} {L : List Bs} (h : SlS w v L) : ∃ a c, v = .slice a L.length c := by
  rcases h with ⟨h, rfl⟩ | ⟨g, off, c, h, _⟩
  · exact ⟨_, _, h⟩
  · exact ⟨_, _, h⟩
theorem gb_below {w w' : World} (h : Below w.heap.size w w') : w.grownBy w' none := ⟨h.os, h.tape, h.output, h.size, fun k hk _ => h.block k hk⟩
theorem own_em (v : Value) : v.ownBlock = none ∨ v.ownBlock ≠ none := Classical.em _
theorem addN1 (g i : Nat) : (⟨g, 0, none⟩ : Addr).add i = ⟨g, i, none⟩ := by unfold Addr.add; by_cases h : i = 0 <;> simp [h]
theorem btrans {a b c : World} (h1 : Below a.heap.size a b) (h2 : Below b.heap.size b c) : Below a.heap.size a c := h1.trans (h2.mono h1.size)
/-- The list that was, or a row of the call's own. -/
def SlN (w0 w : World) (v0 v : Value) (L0 L : List Bs) : Prop := (v = v0 ∧ L = L0) ∨ w.ownsRow w0.heap.size 9 1 v L.length (L.map encStr)
theorem SlN.own {w0 w : World} {v0 v : Value} {L0 L : List Bs} {B : Nat} (h : w.ownsRow B 9 1 v L.length (L.map encStr)) (hB : w0.heap.size ≤ B) : SlN w0 w v0 v L0 L := by
  refine .inr ⟨h.1, ?_⟩
  rcases h.2 with hn | ⟨g, cap, cur, e, h1, r⟩
  · exact .inl hn
  · exact .inr ⟨g, cap, cur, e, Nat.le_trans hB h1, r⟩
end Go.Proofs.YtcmjpkfinbakkaaGreatDoor.Vf

namespace Go.Proofs.YtcmjpkfinbakkaaGreatDoor.Vf
set_option maxRecDepth 100000
open Go.RowKit

theorem slice_some (g n c k : Nat) (hk : k ≤ c) :
    ∀ w, (Instr.slice 22 (.slice (some ⟨g, 0, none⟩) n c) none (some (.int .i64 k)) none).run Tryz.prog w = .ok (.slice (some ⟨g, 0, none⟩) k c) w := by
  intro w
  rw [run_slice_h (P := Tryz.prog) (w := w) 22 (some ⟨g, 0, none⟩) n c (by rw [elem30]; exact Tryz.underlying22) .i64 (k : Int) (by omega) (by omega), elem30, Tryz.sizeOf9]
  simp [Result.andThen, sliced, Addr.add]
theorem slice_nil : ∀ w, (Instr.slice 22 (.slice none 0 0) none (some (.int .i64 0)) none).run Tryz.prog w = .ok (.slice none 0 0) w := by
  intro w
  rw [run_slice_h (P := Tryz.prog) (w := w) 22 none 0 0 (by rw [elem30]; exact Tryz.underlying22) .i64 0 (by omega) (by omega), elem30, Tryz.sizeOf9]
  simp [Result.andThen, sliced]
/-- A row cut at its front: the slice and what it holds. -/
theorem own_cut {w : World} {B c : Nat} {A : Option Addr} {L : List Bs} {k : Nat} (h : w.ownsRow B 9 1 (.slice A L.length c) L.length (L.map encStr)) (hk : k ≤ L.length) :
    (∀ w', (Instr.slice 22 (.slice A L.length c) none (some (.int .i64 k)) none).run Tryz.prog w' = .ok (.slice A k c) w') ∧ StrsL w A (L.take k) := by
  have hs := strs_own h
  refine ⟨?_, fun hn => ?_⟩
  · rcases h.2 with ⟨h1, h0⟩ | ⟨g, c', cur, hv, _, _, h1, _⟩
    · injection h1 with e1 _ e3
      subst e1
      subst e3
      have : k = 0 := by omega
      subst this
      rw [h0]
      exact slice_nil
    · injection hv with e1 _ e3
      subst e1
      exact slice_some g L.length c k (by omega)
  · obtain ⟨g, off, e, hg, hc⟩ := hs (by rw [List.length_take] at hn; omega)
    refine ⟨g, off, e, hg, fun i hi => ?_⟩
    rw [List.length_take] at hi
    rw [hc i (by omega), List.getElem_take]

end Go.Proofs.YtcmjpkfinbakkaaGreatDoor.Vf

namespace Go.Proofs.YtcmjpkfinbakkaaGreatDoor.Vf
set_option maxRecDepth 100000
open Go.RowKit

def abs_ (cwd p : ByteArray) : Bs × Int :=
  if p.size = 0 ∨ 0 ≤ at_ p 0 (p.size + 1) 0 ∨ 0 ≤ at_ cwd 0 (cwd.size + 1) 0 then ([], 1)
  else if ∃ x ∈ parts cwd p, 60 < x.length then ([], 3)
  else if 20 < (parts cwd p).length ∨ 200 < (written (parts cwd p)).length then ([], 3)
  else (written (parts cwd p), 0)

end Go.Proofs.YtcmjpkfinbakkaaGreatDoor.Vf

namespace Go.Proofs.YtcmjpkfinbakkaaGreatDoor.Vf
set_option maxRecDepth 100000
open Go.RowKit

/-! The laws of names, strokes and pushes. -/
def Good (L : List Bs) : Prop := ∀ x ∈ L, x ≠ [] ∧ x ≠ [46] ∧ x ≠ [46, 46] ∧ ∀ c ∈ x, c ≠ 47
theorem good_nil : Good [] := fun x h => by simp at h
theorem good_sub {L M : List Bs} (h : Good M) (hs : ∀ x ∈ L, x ∈ M) : Good L := fun x hx => h x (hs x hx)
theorem good_last {L : List Bs} (h : Good L) : Good L.dropLast := good_sub h fun _ hx => List.dropLast_subset _ hx
theorem sp_no : ∀ (a : Bs) (x : Bs), x ∈ sp a → ∀ c ∈ x, c ≠ 47
  | [], x, h => by simp [sp] at h; subst h; simp
  | d :: t, x, h => by
    have ih := sp_no t
    rw [sp] at h
    split at h
    · rcases List.mem_cons.1 h with rfl | h
      · simp
      · exact ih x h
    · rename_i hd
      split at h
      · simp at h; subst h; simpa using hd
      · rename_i a r e
        rw [e] at ih
        rcases List.mem_cons.1 h with rfl | h
        · intro c hc
          rcases List.mem_cons.1 hc with rfl | hc
          · exact hd
          · exact ih a (by simp) c hc
        · exact ih x (by simp [h])
theorem sp_app : ∀ (a t : Bs), sp (a ++ 47 :: t) = sp a ++ sp t
  | [], t => by simp [sp]
  | c :: a, t => by
    have ih := sp_app a t
    rw [List.cons_append, sp]
    by_cases hc : c = 47
    · rw [if_pos hc, ih, sp, if_pos hc]; rfl
    · rw [if_neg hc, ih, sp, if_neg hc]
      cases h : sp a with
      | nil => cases a with
        | nil => simp [sp] at h
        | cons d r =>
          rw [sp] at h
          split at h
          · simp at h
          · split at h <;> simp at h
      | cons b r => rfl
theorem push_good {l : List Bs} {s : Bs} (h : Good l) (hs : ∀ c ∈ s, c ≠ 47) : Good (push l s) := by
  unfold push
  split
  · exact h
  · rename_i h1
    split
    · exact good_last h
    · rename_i h2
      intro x hx
      rcases List.mem_append.1 hx with hx | hx
      · exact h x hx
      · simp at hx; subst hx
        exact ⟨fun e => h1 (.inl e), fun e => h1 (.inr e), h2, hs⟩
theorem fold_good : ∀ (P : List Bs) {l : List Bs}, Good l → (∀ x ∈ P, ∀ c ∈ x, c ≠ 47) → Good (P.foldl push l)
  | [], _, h, _ => h
  | a :: P, _, h, hp => fold_good P (push_good h (hp a (by simp))) fun x hx => hp x (by simp [hx])
theorem parts_good (cwd p : ByteArray) : Good (parts cwd p) := by
  unfold parts
  refine fold_good _ ?_ (sp_no _)
  split
  · exact good_nil
  · exact fold_good _ good_nil (sp_no _)
theorem push_of {l : List Bs} {s : Bs} (h : s ≠ [] ∧ s ≠ [46] ∧ s ≠ [46, 46] ∧ ∀ c ∈ s, c ≠ 47) : push l s = l ++ [s] := by
  unfold push
  rw [if_neg (by rintro (e | e); exact h.1 e; exact h.2.1 e), if_neg h.2.2.1]
theorem fold_id : ∀ (L l : List Bs), Good L → L.foldl push l = l ++ L
  | [], l, _ => by simp
  | a :: L, l, h => by
    rw [List.foldl_cons, push_of (h a (by simp)), fold_id L _ (fun x hx => h x (by simp [hx]))]
    simp
theorem sp_joined : ∀ (L : List Bs), Good L → sp (joined L) = [] :: L
  | [], _ => rfl
  | a :: L, h => by
    have ih := sp_joined L (fun x hx => h x (by simp [hx]))
    have ha := (h a (by simp)).2.2.2
    rw [show joined (a :: L) = [] ++ 47 :: (a ++ joined L) by simp [joined], sp_app]
    cases L with
    | nil => rw [show joined ([] : List Bs) = [] from rfl, List.append_nil, sp_all a ha]; rfl
    | cons b M =>
      rw [show joined (b :: M) = 47 :: (b ++ joined M) by simp [joined]] at ih ⊢
      rw [show sp (47 :: (b ++ joined M)) = [] :: sp (b ++ joined M) by simp [sp]] at ih
      injection ih with _ ih
      rw [sp_cut _ _ ha, ih]; rfl
theorem push_nil (l : List Bs) : push l [] = l := by simp [push]
theorem fold_written (L : List Bs) (h : Good L) : (sp (written L)).foldl push [] = L := by
  unfold written
  split
  · rename_i e; subst e; rfl
  · rw [sp_joined L h, List.foldl_cons, push_nil, fold_id L _ h, List.nil_append]

/-- A list's bytes as a string. -/
def bs (l : Bs) : ByteArray := ⟨l.toArray⟩
theorem bs_list (l : Bs) : (bs l).data.toList = l := rfl
theorem bs_size (l : Bs) : (bs l).size = l.length := rfl
theorem bs_of (s : ByteArray) : bs s.data.toList = s := rfl
/-- Does a path begin with a stroke. -/
def rooted (a : Bs) : Prop := a.head? = some 47
instance (a : Bs) : Decidable (rooted a) := by unfold rooted; infer_instance
theorem rooted_iff (p : ByteArray) : (0 < p.size ∧ gb p 0 = 47) ↔ rooted p.data.toList := by
  have hl : p.data.toList.length = p.size := Array.length_toList
  unfold rooted gb
  cases h : p.data.toList with
  | nil => rw [h] at hl; simp at hl; simp [← hl]
  | cons a t => rw [h] at hl; simp at hl; simp; omega
def partsL (c p : Bs) : List Bs := (sp p).foldl push (if rooted p then [] else (sp c).foldl push [])
theorem parts_eq (cwd p : ByteArray) : parts cwd p = partsL cwd.data.toList p.data.toList := by
  unfold parts partsL
  simp only [rooted_iff]
theorem partsL_good (c p : Bs) : Good (partsL c p) := by
  rw [← bs_list c, ← bs_list p, ← parts_eq]; exact parts_good _ _
theorem rooted_written (L : List Bs) : rooted (written L) := by
  unfold rooted written
  split
  · rfl
  · cases L with
    | nil => contradiction
    | cons a l => simp [joined]
theorem partsL_written (c : Bs) {L : List Bs} (h : Good L) : partsL c (written L) = L := by
  unfold partsL
  rw [if_pos (rooted_written L), fold_written L h]
theorem rooted_app {p : Bs} (hp : p ≠ []) (t : Bs) : rooted (p ++ t) ↔ rooted p := by
  cases p with
  | nil => exact absurd rfl hp
  | cons a l => simp [rooted]
/-- Further names behind a path. -/
theorem partsL_app {p : Bs} (hp : p ≠ []) (c t : Bs) : partsL c (p ++ 47 :: t) = (sp t).foldl push (partsL c p) := by
  unfold partsL
  rw [sp_app, List.foldl_append]
  simp only [rooted_app hp]
theorem partsL_one {q : Bs} (hq : ¬ rooted q) {L : List Bs} (h : Good L) : partsL (written L) q = (sp q).foldl push L := by
  unfold partsL
  rw [if_neg hq, fold_written L h]
theorem steps_law {c p q : Bs} (hp : p ≠ []) (hq : ¬ rooted q) : partsL (written (partsL c p)) q = partsL c (p ++ 47 :: q) := by
  rw [partsL_one hq (partsL_good c p), partsL_app hp]
theorem dots_more {c p n : Bs} (hp : p ≠ []) (hn : n ≠ [] ∧ n ≠ [46] ∧ n ≠ [46, 46] ∧ ∀ x ∈ n, x ≠ 47) : partsL c (p ++ 47 :: n) = partsL c p ++ [n] := by
  rw [partsL_app hp, sp_all n hn.2.2.2, List.foldl_cons, push_of hn]; rfl
theorem dots_one {c p : Bs} (hp : p ≠ []) : partsL c (p ++ [47, 46, 47]) = partsL c p := by
  rw [show p ++ [47, 46, 47] = p ++ 47 :: [46, 47] from rfl, partsL_app hp]
  rfl
theorem dots_two {c p n : Bs} (hp : p ≠ []) (hn : n ≠ [] ∧ n ≠ [46] ∧ n ≠ [46, 46] ∧ ∀ x ∈ n, x ≠ 47) : partsL c (p ++ [47, 47] ++ n ++ [47, 46, 46]) = partsL c p := by
  rw [show p ++ [47, 47] ++ n ++ [47, 46, 46] = p ++ 47 :: (47 :: (n ++ 47 :: [46, 46])) by simp, partsL_app hp]
  rw [show sp (47 :: (n ++ 47 :: [46, 46])) = [] :: sp (n ++ 47 :: [46, 46]) by simp [sp], sp_cut n _ hn.2.2.2, List.foldl_cons, push_nil, List.foldl_cons, push_of hn]
  simp [sp, push]

/-- Every byte of a path's names is one of the two texts'. -/
theorem push_mem {l : List Bs} {s x : Bs} (h : x ∈ push l s) : x ∈ l ∨ x = s := by
  unfold push at h
  split at h
  · exact .inl h
  · split at h
    · exact .inl (List.dropLast_subset _ h)
    · simpa using h
theorem fold_mem : ∀ (P l : List Bs) (x : Bs), x ∈ P.foldl push l → x ∈ l ∨ x ∈ P
  | [], _, _, h => .inl h
  | a :: P, l, x, h => by
    rcases fold_mem P _ x h with h | h
    · rcases push_mem h with h | h
      · exact .inl h
      · exact .inr (by simp [h])
    · exact .inr (by simp [h])
theorem sp_mem : ∀ (a x : Bs), x ∈ sp a → ∀ c ∈ x, c ∈ a
  | [], x, h => by simp [sp] at h; subst h; simp
  | d :: t, x, h => by
    have ih := sp_mem t
    rw [sp] at h
    split at h
    · rcases List.mem_cons.1 h with rfl | h
      · simp
      · intro c hc; exact List.mem_cons_of_mem _ (ih x h c hc)
    · split at h
      · simp at h; subst h; simp
      · rename_i a r e
        rw [e] at ih
        rcases List.mem_cons.1 h with rfl | h
        · intro c hc
          rcases List.mem_cons.1 hc with rfl | hc
          · simp
          · exact List.mem_cons_of_mem _ (ih a (by simp) c hc)
        · intro c hc; exact List.mem_cons_of_mem _ (ih x (by simp [h]) c hc)
theorem partsL_bytes {c p x : Bs} (h : x ∈ partsL c p) : ∀ b ∈ x, b ∈ c ∨ b ∈ p := by
  intro b hb
  unfold partsL at h
  rcases fold_mem _ _ _ h with h | h
  · split at h
    · simp at h
    · rcases fold_mem _ _ _ h with h | h
      · simp at h
      · exact .inl (sp_mem _ _ h b hb)
  · exact .inr (sp_mem _ _ h b hb)
theorem written_bytes {L : List Bs} {b : UInt8} (h : b ∈ written L) : b = 47 ∨ ∃ x ∈ L, b ∈ x := by
  unfold written at h
  split at h
  · simp at h; exact .inl h
  · unfold joined at h
    rw [List.mem_flatMap] at h
    obtain ⟨x, hx, hb⟩ := h
    rcases List.mem_cons.1 hb with h | h
    · exact .inl h
    · exact .inr ⟨x, hx, h⟩
end Go.Proofs.YtcmjpkfinbakkaaGreatDoor.Vf
