import Derived.Test.YtafbheplaheohaaR
import Derived.StillTailTactics
namespace Go.Proofs.Ytafbheplaheohaa
open Go.RowKit
set_option linter.unusedVariables false

def WordP (w : World) (rb : Nat) (S : ByteArray) (r : Res (List Prt × Bz)) (e : Ending) (w' : World) : Prop := match r with
  | .error x => e = .returned (.tuple #[.slice none 0 0, .int .i64 x]) ∧ x ≠ 0 ∧ Only (fun k => k = rb) w w' ∧ ∃ a', Rd w' rb S a' ∧ a' ≤ 20000
  | .ok (l, t) => Only (fun k => k = rb) w w' ∧ ∃ v a', e = .returned (.tuple #[v, .int .i64 0]) ∧ Wd w' (fun k => w.heap.size ≤ k) v l ∧ Rd w' rb S a' ∧ a' ≤ S.size ∧ S.data.toList.drop a' = t
theorem Rd.setI {w : World} {rb a : Nat} {S : ByteArray} (h : Rd w rb S a) {ai : Int} (a' : Nat) (e : ai = (a' : Int)) : Rd (w.setCell ⟨rb, 1, none⟩ (.int .i64 ai)) rb S a' := by subst e; exact h.set a'
theorem heap_two (w : World) (o o' : Obj) : ((w.alloc o).alloc o').heap[w.heap.size]? = some o ∧ ((w.alloc o).alloc o').heap[w.heap.size + 1]? = some o' := by
  have h1 := heap_alloc_new (w.alloc o) o'
  have hs : (w.alloc o).heap.size = w.heap.size + 1 := by simp
  rw [hs] at h1
  exact ⟨((MapKept.heap_alloc _ _).2 _ (by omega)).trans (heap_alloc_new w o), h1⟩
def zeroL2 : List Value := [.int .i64 3, .string ⟨#[]⟩, .string ⟨#[]⟩, .string ⟨#[]⟩, .slice none 0 0, .bool false]
theorem trim_hash (s : ByteArray) : (∃ m : ByteArray, s.data.toList = 35 :: m.data.toList ∧ (⟨(Lib.trimPrefix s.data.toList [35]).toArray⟩ : ByteArray) = m ∧ Lib.hasPrefix s.data.toList [35] = true) ∨ (s.data.toList.head? ≠ some 35 ∧ Lib.hasPrefix s.data.toList [35] = false) := by
  cases h : s.data.toList with
  | nil => exact .inr ⟨by simp, rfl⟩
  | cons c r =>
    by_cases e : c = 35
    · subst e
      exact .inl ⟨⟨r.toArray⟩, rfl, by simp [Lib.trimPrefix, Lib.hasPrefix], by simp [Lib.hasPrefix]⟩
    · refine .inr ⟨by simpa using e, ?_⟩
      simp [Lib.hasPrefix, List.isPrefixOf]
      exact fun x => e x.symm
theorem brace_head (s : ByteArray) : Lib.hasPrefix s.data.toList [125] = decide (s.data.toList.head? = some 125) := by
  cases h : s.data.toList with
  | nil => rfl
  | cons c r =>
    by_cases e : c = 125
    · subst e; simp [Lib.hasPrefix, List.isPrefixOf]
    · have e' : (125 : UInt8) ≠ c := fun x => e x.symm
      simp [Lib.hasPrefix, List.isPrefixOf, e, e']
theorem headF_a {m : Bz} (h1 : m.head? ≠ some 125) (h2 : opOf m = []) : headF (35 :: m) = ([76], m.take (longParam m), m.drop (longParam m)) := by
  unfold headF; rw [if_pos ⟨rfl, h1, h2⟩]; rfl
theorem headF_b {s : Bz} (h : ¬ (s.head? = some 35 ∧ s.tail.head? ≠ some 125 ∧ opOf s.tail = [])) : headF s = (opOf (s.drop (longParam s)), s.take (longParam s), (s.drop (longParam s)).drop (opOf (s.drop (longParam s))).length) := by
  unfold headF; rw [if_neg h]
/-- The boxes of a call that reads ${: the result's, and the part's. -/
structure Bx (w wx : World) (rb : Nat) (S : ByteArray) (a : Nat) (N O : ByteArray) (V : Value) : Prop where
  z : wx.heap[w.heap.size]? = some (.cells [.int .i64 0, .string ⟨#[]⟩, .string ⟨#[]⟩, .string ⟨#[]⟩, .slice none 0 0, .bool false].toArray 39 (0, 0))
  x : wx.heap[w.heap.size + 1]? = some (.cells [.int .i64 3, .string ⟨#[]⟩, .string N, .string O, V, .bool false].toArray 39 (0, 0))
  rd : Rd wx rb S a
  only : Only (fun k => k = rb) w wx
theorem Bx.drew {w wx : World} {rb a : Nat} {S N O : ByteArray} {V : Value} (h : Bx w wx rb S a N O V) : Bx w wx.drew rb S a N O V := ⟨h.z, h.x, h.rd, ⟨h.only.os, h.only.tape, h.only.output, h.only.size, h.only.block⟩⟩
theorem Bx.under {w wx w' : World} {rb a : Nat} {S N O : ByteArray} {V : Value} (h : Bx w wx rb S a N O V) (hb : Below wx.heap.size wx w') : Bx w w' rb S a N O V :=
  ⟨(hb.block _ (blk_lt h.z)).trans h.z, (hb.block _ (blk_lt h.x)).trans h.x, h.rd.under hb, h.only.trans (Only.of_below (S := fun _ => False) hb) (fun _ h => h) (fun _ _ h => h.elim)⟩
theorem Bx.at {w wx : World} {rb a : Nat} {S N O : ByteArray} {V : Value} (h : Bx w wx rb S a N O V) (hr : rb < w.heap.size) (a' : Nat) {ai : Int} (e : ai = (a' : Int)) : Bx w (wx.setCell ⟨rb, 1, none⟩ (.int .i64 ai)) rb S a' N O V :=
  ⟨(heap_other (by show w.heap.size ≠ rb; omega) _ _).trans h.z, (heap_other (by show w.heap.size + 1 ≠ rb; omega) _ _).trans h.x, h.rd.setI a' e, h.only.set (.inl rfl) _ _⟩
theorem Bx.name {w wx : World} {rb a : Nat} {S N O : ByteArray} {V : Value} (h : Bx w wx rb S a N O V) (hr : rb < w.heap.size) (N' : ByteArray) : Bx w (wx.setCell ⟨w.heap.size + 1, 2, none⟩ (.string N')) rb S a N' O V :=
  ⟨(heap_other (by show w.heap.size ≠ w.heap.size + 1; omega) _ _).trans h.z, set_of h.x 2 _, (heap_other (by show rb ≠ w.heap.size + 1; omega) _ _).trans h.rd, h.only.set (.inr (by omega)) _ _⟩
theorem Bx.op {w wx : World} {rb a : Nat} {S N O : ByteArray} {V : Value} (h : Bx w wx rb S a N O V) (hr : rb < w.heap.size) (O' : ByteArray) : Bx w (wx.setCell ⟨w.heap.size + 1, 3, none⟩ (.string O')) rb S a N O' V :=
  ⟨(heap_other (by show w.heap.size ≠ w.heap.size + 1; omega) _ _).trans h.z, set_of h.x 3 _, (heap_other (by show rb ≠ w.heap.size + 1; omega) _ _).trans h.rd, h.only.set (.inr (by omega)) _ _⟩
theorem Bx.word {w wx : World} {rb a : Nat} {S N O : ByteArray} {V : Value} (h : Bx w wx rb S a N O V) (hr : rb < w.heap.size) (V' : Value) : Bx w (wx.setCell ⟨w.heap.size + 1, 4, none⟩ V') rb S a N O V' :=
  ⟨(heap_other (by show w.heap.size ≠ w.heap.size + 1; omega) _ _).trans h.z, set_of h.x 4 _, (heap_other (by show rb ≠ w.heap.size + 1; omega) _ _).trans h.rd, h.only.set (.inr (by omega)) _ _⟩
theorem Bx.only' {w wx w' : World} {rb a a' : Nat} {S N O : ByteArray} {V : Value} (h : Bx w wx rb S a N O V) (hr : rb < w.heap.size) (ho : Only (fun k => k = rb) wx w') (hd : Rd w' rb S a') : Bx w w' rb S a' N O V :=
  ⟨(ho.block _ (blk_lt h.z) (by omega)).trans h.z, (ho.block _ (blk_lt h.x) (by omega)).trans h.x, hd, h.only.trans ho (fun _ h => h) (fun _ _ h => h)⟩
theorem wd_close {w w9 w11 : World} {rb n8 : Nat} {V u : Value} {l : List Prt} {pt : Pt} (hwd : Wd w9 (fun k => n8 ≤ k) V l) (h1 : w.heap.size + 1 < n8) (hrb : rb < w.heap.size) (hb : Below (w9.setCell ⟨w.heap.size + 1, 4, none⟩ V).heap.size (w9.setCell ⟨w.heap.size + 1, 4, none⟩ V) w11) : Wd (put6 (w11.setCell ⟨rb, 1, none⟩ u) w.heap.size 0 pt) (fun k => w.heap.size ≤ k) V l := by
  have hO : Only (fun k => k < n8) w9 w11 := ((Only.refl (fun k => k < n8) w9).set (.inl h1) 4 V).trans (Only.of_below (S := fun _ => False) hb) (fun _ h => h) (fun _ _ h => h.elim)
  have hn : w.heap.size < n8 := by omega
  have hO2 : Only (fun k => k < n8) w9 (put6 (w11.setCell ⟨rb, 1, none⟩ u) w.heap.size 0 pt) := (((((((hO.set (.inl (by omega)) 1 u).set (.inl hn) _ _).set (.inl hn) _ _).set (.inl hn) _ _).set (.inl hn) _ _).set (.inl hn) _ _).set (.inl hn) _ _)
  exact (hwd.only hO2 (fun g _ h _ => by omega)).mono fun g h => by omega
section
variable {W : Bz → Res (List Prt × Bz)} {q : Bool} {d : Nat} {s o n r : Bz} (h : headF s = (o, n, r))
include h
theorem brace_1 (hn : n = []) : braceF W q d s = .error 2 := by simp only [braceF, h]; rw [if_pos hn]
theorem brace_2 (hn : n ≠ []) (ho : o = [] ∨ o = [76]) (hr : r.head? ≠ some 125) : braceF W q d s = .error 2 := by
  simp only [braceF, h]; rw [if_neg hn, if_pos ho]
  cases r with
  | nil => rfl
  | cons c r => exact if_neg (by simpa using hr)
theorem brace_3 (hn : n ≠ []) (ho : o = [] ∨ o = [76]) (hr : r.head? = some 125) : braceF W q d s = .ok (.mk 3 [] n o [] q, r.drop 1) := by
  simp only [braceF, h]; rw [if_neg hn, if_pos ho]
  cases r with
  | nil => cases hr
  | cons c r => exact if_pos (by simpa using hr)
theorem brace_4 (hn : n ≠ []) (ho : ¬ (o = [] ∨ o = [76])) (hd : d = 40) : braceF W q d s = .error 3 := by
  simp only [braceF, h]; rw [if_neg hn, if_neg ho, if_pos hd]
theorem brace_5 (hn : n ≠ []) (ho : ¬ (o = [] ∨ o = [76])) (hd : d ≠ 40) {x : Nat} (hW : W r = .error x) : braceF W q d s = .error x := by
  simp only [braceF, h]; rw [if_neg hn, if_neg ho, if_neg hd, hW]
theorem brace_6 (hn : n ≠ []) (ho : ¬ (o = [] ∨ o = [76])) (hd : d ≠ 40) {l : List Prt} {t : Bz} (hW : W r = .ok (l, t)) (ht : t.head? ≠ some 125) : braceF W q d s = .error 2 := by
  simp only [braceF, h]; rw [if_neg hn, if_neg ho, if_neg hd, hW]
  cases t with
  | nil => rfl
  | cons c t => exact if_neg (by simpa using ht)
theorem brace_7 (hn : n ≠ []) (ho : ¬ (o = [] ∨ o = [76])) (hd : d ≠ 40) {l : List Prt} {t : Bz} (hW : W r = .ok (l, t)) (ht : t.head? = some 125) : braceF W q d s = .ok (.mk 3 [] n o l q, t.drop 1) := by
  simp only [braceF, h]; rw [if_neg hn, if_neg ho, if_neg hd, hW]
  cases t with
  | nil => cases ht
  | cons c t => exact if_pos (by simpa using ht)
end
theorem opOf_L (s : Bz) : opOf s ≠ [76] := by
  intro h
  unfold opOf at h
  split at h
  · next e => rw [h] at e; revert e; decide
  · split at h
    · next e => rw [h] at e; revert e; decide
    · cases h
end Go.Proofs.Ytafbheplaheohaa
