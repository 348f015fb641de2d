import Derived.Test.YtjagnihkpgbjeaaDoorRows
import Derived.WalkKit
import Derived.OwnWalk
import Derived.Lib.Hide
import Derived.Lib.Strings
import Derived.Sort.EncStr
import Derived.Laws.AppendOwn
import Derived.Deep.AppendLies
namespace Go.Proofs.YtjagnihkpgbjeaaDoor
open Go.RowKit

abbrev Bs := List UInt8
def gb (s : ByteArray) (i : Nat) : UInt8 := s.data.toList.getD i 0
theorem gb_eq (s : ByteArray) (i : Nat) (h : i < s.size) : s[i] = gb s i := by
  have : i < s.data.toList.length := by simpa using h
  unfold gb
  rw [List.getD_eq_getElem?_getD, List.getElem?_eq_getElem this]; rfl

/-- The pieces between the strokes. -/
def sp : Bs → List Bs
  | [] => [[]]
  | c :: t => if c = 47 then [] :: sp t else match sp t with
    | [] => [[c]]
    | a :: r => (c :: a) :: r
def push (l : List Bs) (s : Bs) : List Bs := if s = [] ∨ s = [46] then l else if s = [46, 46] then l.dropLast else l ++ [s]

theorem sp_all : ∀ a : Bs, (∀ c ∈ a, c ≠ 47) → sp a = [a]
  | [], _ => rfl
  | c :: t, h => by
    rw [sp, if_neg (h c (by simp)), sp_all t (fun x hx => h x (by simp [hx]))]
theorem sp_cut : ∀ (a t : Bs), (∀ c ∈ a, c ≠ 47) → sp (a ++ 47 :: t) = a :: sp t
  | [], t, _ => by simp [sp]
  | c :: a, t, h => by
    rw [List.cons_append, sp, if_neg (h c (by simp)), sp_cut a t (fun x hx => h x (by simp [hx]))]

/-- The bytes of s from f up to i. -/
def seg (s : ByteArray) (f i : Nat) : Bs := (s.data.toList.take i).drop f
theorem seg_ext (s : ByteArray) (f i : Nat) : (s.extract f i).toList = seg s f i := by
  rw [Lib.extract_toList]
  unfold seg
  rw [List.drop_take]
theorem seg_no (s : ByteArray) (f i : Nat) (hi : i ≤ s.size) (h : ∀ j, f ≤ j → j < i → gb s j ≠ 47) : ∀ c ∈ seg s f i, c ≠ 47 := by
  intro c hc
  obtain ⟨j, hj, rfl⟩ := List.mem_iff_getElem.1 hc
  have hl : s.data.toList.length = s.size := Array.length_toList
  unfold seg at hj ⊢
  rw [List.length_drop, List.length_take] at hj
  have := h (f + j) (by omega) (by omega)
  rw [List.getElem_drop, List.getElem_take]
  unfold gb at this
  rw [List.getD_eq_getElem?_getD, List.getElem?_eq_getElem (by omega)] at this
  exact this
theorem seg_end (s : ByteArray) (f : Nat) : seg s f s.size = s.data.toList.drop f := by
  have hl : s.data.toList.length = s.size := Array.length_toList
  unfold seg
  rw [List.take_of_length_le (by omega)]
theorem seg_cut (s : ByteArray) (f i : Nat) (hf : f ≤ i) (hi : i < s.size) : s.data.toList.drop f = seg s f i ++ gb s i :: s.data.toList.drop (i + 1) := by
  have hl : s.data.toList.length = s.size := Array.length_toList
  have hb : s.data.toList.drop i = gb s i :: s.data.toList.drop (i + 1) := by
    rw [List.drop_eq_getElem_cons (by omega)]
    unfold gb
    rw [List.getD_eq_getElem?_getD, List.getElem?_eq_getElem (by omega)]; rfl
  rw [← hb]
  unfold seg
  conv => lhs; rw [← List.take_append_drop i s.data.toList]
  rw [List.drop_append_of_le_length (by rw [List.length_take]; omega)]

theorem push_len (l : List Bs) (s : Bs) : (push l s).length ≤ l.length + 1 := by
  unfold push
  split
  · omega
  · split
    · simp; omega
    · simp

theorem cut_step {p : ByteArray} {f i : Nat} {l R : List Bs} (hf : f ≤ i) (hi : i < p.size) (hno : ∀ j, f ≤ j → j < i → gb p j ≠ 47) (h47 : gb p i = 47) (hR : (sp (p.data.toList.drop f)).foldl push l = R) :
    (sp (p.data.toList.drop (i + 1))).foldl push (push l (seg p f i)) = R := by
  rw [seg_cut p f i hf hi, h47, sp_cut _ _ (seg_no p f i (by omega) hno)] at hR
  exact hR
theorem end_step {p : ByteArray} {f : Nat} {l R : List Bs} (hno : ∀ j, f ≤ j → j < p.size → gb p j ≠ 47) (hR : (sp (p.data.toList.drop f)).foldl push l = R) :
    push l (seg p f p.size) = R := by
  rw [← seg_end, sp_all _ (seg_no p f p.size (Nat.le_refl _) hno)] at hR
  exact hR
end Go.Proofs.YtjagnihkpgbjeaaDoor
