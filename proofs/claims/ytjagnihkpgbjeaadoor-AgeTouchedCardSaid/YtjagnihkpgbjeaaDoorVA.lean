import Derived.Test.YtjagnihkpgbjeaaDoorRows
import Derived.WalkKit
import Derived.Lib.Hide
import Derived.Lib.Strings
import Derived.Sort.EncStr
import Derived.Maps.OwnSet
import Derived.Maps.Views
import Derived.OwnWalk
import Derived.Laws.AppendOwn
import Derived.Laws.OwnMore
import Derived.StringKeys
namespace Go.Proofs.YtjagnihkpgbjeaaDoor
open Go.RowKit Go.Maps Go.ChangeMaps
set_option linter.unusedVariables false

abbrev Bz := List UInt8
abbrev Pth := List Bz
/-- A node: a file with its bytes, or a directory; and its time. -/
structure Nd where
  file : Bool
  data : Bz
  time : Int
abbrev Tr := Pth → Option Nd
/-- How an element reads: where it points to. -/
def ptrR : Value → Option (DataW Unit × List MemPlace)
  | .pointer none => some (.nil, [])
  | .pointer (some ⟨b, 0, none⟩) => some (.lit (.int .i64 b), [])
  | _ => none
def ptrV : Option Nat → Value
  | none => .pointer none
  | some b => .pointer (some ⟨b, 0, none⟩)
def ptrD : Option Nat → DataW Unit
  | none => .nil
  | some b => .lit (.int .i64 b)
theorem ptrR_V (o : Option Nat) : ptrR (ptrV o) = some (ptrD o, []) := by cases o <;> rfl
theorem ptrR_inv {v : Value} {o : Option Nat} {ps : List MemPlace} (h : ptrR v = some (ptrD o, ps)) : v = ptrV o := by
  unfold ptrR at h
  split at h
  · cases o with
    | none => rfl
    | some b => simp [ptrD] at h
  · rename_i b
    cases o with
    | none => simp [ptrD] at h
    | some c =>
      simp [ptrD] at h
      have hb : b = c := by have := h.1; omega
      rw [hb]; rfl
  · cases h
theorem keyedS : Keyed Tryd.prog 9 := string_keyed Tryd.underlying9
/-- A directory's map: which block its names lead to. -/
structure Kids (w : World) (N : Nat) (m : Option Nat) (g : Bz → Option Nat) : Prop where
  no : m = none → ∀ k, g k = none
  yes : ∀ b, m = some b → ∃ nn D, nn ≤ N ∧ w.ownsMap Tryd.prog 9 ptrR b nn D ∧ ∀ k : Bz, D.atKey (.string k) .nil = ptrD (g k) ∧ Maps.has D (.string k) = (g k).isSome
theorem zero50 (w : World) : (zeroValue 72).run Tryd.prog w = .ok (.pointer none) w := by kernel_rfl
theorem Kids.look {w : World} {N : Nat} {m : Option Nat} {g : Bz → Option Nat} (h : Kids w N m g) (s : ByteArray) (hs : s.size ≤ maxLen) : (Instr.lookup 67 (.map m) (.string s) false).run Tryd.prog w = .ok (ptrV (g s.data.toList)) w := by
  have hk := Go.WideMaps.keyOf_string_mk Tryd.underlying9 hs
  cases m with
  | none =>
    rw [h.no rfl]
    have := Maps.look_nil (w := w) false keyedS Tryd.underlying67 (zero50 w) hk
    simpa [ptrV] using this
  | some b =>
    obtain ⟨nn, D, _, hown, hg⟩ := h.yes b rfl
    obtain ⟨v, ps, hrun, hv⟩ := hown.lookup keyedS Tryd.underlying67 (zero50 w) (zd := .nil) (zp := []) rfl hk
    rw [(hg _).1] at hv
    rw [hrun, ptrR_inv hv]
theorem Kids.only {w w' : World} {N : Nat} {m : Option Nat} {g : Bz → Option Nat} (h : Kids w N m g) (hb : ∀ b, m = some b → b < w.heap.size → w'.heap[b]? = w.heap[b]?) : Kids w' N m g := by
  refine ⟨h.no, fun b hm => ?_⟩
  obtain ⟨nn, D, h1, hown, hg⟩ := h.yes b hm
  have hlt := hown.lt
  obtain ⟨es, clock, h2, F, hs, hD⟩ := hown
  exact ⟨nn, D, h1, ⟨es, clock, (hb b hm hlt).trans h2, F, hs, hD⟩, hg⟩
theorem Kids.lt {w : World} {N : Nat} {m : Option Nat} {g : Bz → Option Nat} (h : Kids w N m g) {b : Nat} (hm : m = some b) : b < w.heap.size := by
  obtain ⟨nn, D, h1, hown, hg⟩ := h.yes b hm
  exact hown.lt
theorem Kids.mono {w : World} {N N' : Nat} {m : Option Nat} {g : Bz → Option Nat} (h : Kids w N m g) (hN : N ≤ N') : Kids w N' m g := by
  refine ⟨h.no, fun b hm => ?_⟩
  obtain ⟨nn, D, h1, r⟩ := h.yes b hm
  exact ⟨nn, D, by omega, r⟩
theorem Kids.congr {w : World} {N : Nat} {m : Option Nat} {g g' : Bz → Option Nat} (h : Kids w N m g) (hg : ∀ k, g' k = g k) : Kids w N m g' := by
  have : g' = g := funext hg
  rw [this]; exact h
theorem keyLit (k : Bz) : WideAt.IsKeyLit (.string k) := trivial
theorem Kids.of_put {w : World} {N nn b : Nat} {D : DataW Unit} {g g' : Bz → Option Nat} {k : Bz} {a : Nat} (h : w.ownsMap Tryd.prog 9 ptrR b nn (D.put (.string k) (.lit (.int .i64 a)))) (hn : nn ≤ N) (hD : IsMap D)
    (hg : ∀ x : Bz, D.atKey (.string x) .nil = ptrD (g x) ∧ Maps.has D (.string x) = (g x).isSome) (hg' : ∀ x, g' x = if x = k then some a else g x) : Kids w N (some b) g' := by
  refine ⟨fun e => by (cases e), fun b' e => ?_⟩
  cases e
  refine ⟨nn, _, hn, h, fun x => ?_⟩
  rw [hg']
  by_cases hx : x = k
  · subst hx
    rw [if_pos rfl]
    exact ⟨atKey_put_same hD (keyLit _) _ _, Maps.has_put_same hD (keyLit _) _⟩
  · rw [if_neg hx]
    have hne : (Lit.string x) ≠ .string k := fun e => hx (by injection e)
    exact ⟨(atKey_put_other hne _ _).trans (hg x).1, (Maps.has_put_other hne _).trans (hg x).2⟩
theorem Kids.of_del {w : World} {N nn b : Nat} {D : DataW Unit} {g g' : Bz → Option Nat} {k : Bz} (h : w.ownsMap Tryd.prog 9 ptrR b nn (D.del (.string k))) (hn : nn ≤ N)
    (hg : ∀ x : Bz, D.atKey (.string x) .nil = ptrD (g x) ∧ Maps.has D (.string x) = (g x).isSome) (hg' : ∀ x, g' x = if x = k then none else g x) : Kids w N (some b) g' := by
  refine ⟨fun e => by (cases e), fun b' e => ?_⟩
  cases e
  refine ⟨nn, _, hn, h, fun x => ?_⟩
  rw [hg']
  by_cases hx : x = k
  · subst hx
    rw [if_pos rfl]
    exact ⟨atKey_del_same _, Maps.has_del_same⟩
  · rw [if_neg hx]
    have hne : (Lit.string x) ≠ .string k := fun e => hx (by injection e)
    exact ⟨(atKey_del_other hne _).trans (hg x).1, (Maps.has_del_other hne).trans (hg x).2⟩
theorem kids_made (w : World) (N : Nat) (g : Bz → Option Nat) (hg : ∀ k, g k = none) : (w.alloc (.map #[] 0)).ownsMap Tryd.prog 9 ptrR w.heap.size 0 (.map []) ∧ ∀ x : Bz, (DataW.map (H := Unit) []).atKey (.string x) .nil = ptrD (g x) ∧ Maps.has (DataW.map (H := Unit) []) (.string x) = (g x).isSome :=
  ⟨World.ownsMap_made w _ _ _, fun x => by rw [hg x]; exact ⟨rfl, rfl⟩⟩
end Go.Proofs.YtjagnihkpgbjeaaDoor
