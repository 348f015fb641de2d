import Derived.Test.YtkdacdbmlgffgaaA
import Derived.Test.YtkdacdbmlgffgaaRows
import Derived.Test.YtkdacdbmlgffgaaZ
import Derived.WalkKit
import Derived.WalkSpells
import Derived.WalkLawsBesides
import Derived.RegionTactic
import Derived.ChangeAlike
import Derived.BigRegion
import Derived.Lib.Hide
import Derived.Deep.CutBlock
import Derived.Deep.DeepCutAuto
import Derived.Deep.LoopGhost
import Derived.Deep.QuietTactic
import Derived.Deep.AppendLies
import Derived.BigQuiet
namespace Go.Proofs.Ytkdacdbmlgffgaa
open Go.RowKit
set_option linter.unusedVariables false

/-- Of what was there nothing but the blocks of S has turned. -/
structure Only (S : Nat → Prop) (w w' : World) : Prop where
  os : w'.os = w.os
  tape : w'.tape = w.tape
  output : w'.output = w.output
  size : w.heap.size ≤ w'.heap.size
  block : ∀ k, k < w.heap.size → ¬ S k → w'.heap[k]? = w.heap[k]?
theorem Only.refl (S : Nat → Prop) (w : World) : Only S w w := ⟨rfl, rfl, rfl, Nat.le_refl _, fun _ _ _ => rfl⟩
theorem Only.trans {S S' T : Nat → Prop} {a b c : World} (h : Only S a b) (k : Only S' b c) (hS : ∀ i, S i → T i) (hS' : ∀ i, i < a.heap.size → S' i → T i) : Only T a c :=
  ⟨k.os.trans h.os, k.tape.trans h.tape, k.output.trans h.output, Nat.le_trans h.size k.size, fun i hi hn =>
    (k.block i (Nat.lt_of_lt_of_le hi h.size) (fun e => hn (hS' i hi e))).trans (h.block i hi (fun e => hn (hS i e)))⟩
theorem Only.mono {S T : Nat → Prop} {a b : World} (h : Only S a b) (hS : ∀ i, S i → T i) : Only T a b := ⟨h.os, h.tape, h.output, h.size, fun i hi hn => h.block i hi (fun e => hn (hS i e))⟩
theorem Only.of_below {S : Nat → Prop} {a b : World} (h : Below a.heap.size a b) : Only S a b := ⟨h.os, h.tape, h.output, h.size, fun i hi _ => h.block i hi⟩
theorem Only.of_grown {S : Nat → Prop} {a b : World} {row : Option Nat} (h : a.grownBy b row) (hr : ∀ k, row = some k → S k) : Only S a b :=
  ⟨h.os, h.tape, h.output, h.size, fun i hi hn => h.block i hi (fun e => hn (hr i e.symm))⟩
theorem Only.below {S : Nat → Prop} {a b : World} {B : Nat} (h : Only S a b) (hS : ∀ k, S k → B ≤ k) (hB : B ≤ a.heap.size) : Below B a b :=
  ⟨h.os, h.tape, h.output, h.size, fun i hi => h.block i (by omega) (fun e => by have := hS i e; omega)⟩
theorem Only.set {S : Nat → Prop} {a w : World} (h : Only S a w) {g : Nat} (hg : S g ∨ a.heap.size ≤ g) (i : Nat) (u : Value) : Only S a (w.setCell ⟨g, i, none⟩ u) :=
  ⟨h.os, h.tape, h.output, by simpa using h.size, fun k hk hn => (Below.heap_setCell _ _ _ _ (by intro e; have e : k = g := e; subst e; rcases hg with e | e; exact hn e; omega)).trans (h.block k hk hn)⟩

def pcells (L : List Pr) : List Value := L.flatMap fun p => [.string p.n, .string p.v]
theorem pcells_len : ∀ L : List Pr, (pcells L).length = L.length * 2
  | [] => rfl
  | p :: L => by
    show ([Value.string p.n, .string p.v] ++ pcells L).length = _
    rw [List.length_append, pcells_len L]; simp; omega
theorem pcells_n : ∀ (L : List Pr) (i : Nat) (h : i < L.length), (pcells L)[i * 2]? = some (.string L[i].n)
  | [], _, h => absurd h (by simp)
  | p :: L, 0, _ => rfl
  | p :: L, i + 1, h => by
    rw [show (i + 1) * 2 = i * 2 + 1 + 1 by omega]
    exact pcells_n L i (by simpa using h)
theorem pcells_v : ∀ (L : List Pr) (i : Nat) (h : i < L.length), (pcells L)[i * 2 + 1]? = some (.string L[i].v)
  | [], _, h => absurd h (by simp)
  | p :: L, 0, _ => rfl
  | p :: L, i + 1, h => by
    rw [show (i + 1) * 2 + 1 = i * 2 + 1 + 1 + 1 by omega]
    exact pcells_v L i (by simpa using h)
theorem pcells_one {L : List Pr} : ∀ u ∈ pcells L, u.oneCell' = true := by
  intro u hu
  obtain ⟨p, _, h⟩ := List.mem_flatMap.1 hu
  simp at h
  rcases h with rfl | rfl <;> rfl
theorem pcells_app (L M : List Pr) : pcells (L ++ M) = pcells L ++ pcells M := by simp [pcells]
theorem pcells_take : ∀ (L : List Pr) (k : Nat), pcells (L.take k) = (pcells L).take (k * 2)
  | [], k => by simp [pcells]
  | p :: L, 0 => by simp [pcells]
  | p :: L, k + 1 => by
    show [Value.string p.n, .string p.v] ++ pcells (L.take k) = ([Value.string p.n, .string p.v] ++ pcells L).take ((k + 1) * 2)
    rw [pcells_take L k, show (k + 1) * 2 = k * 2 + 1 + 1 by omega]; rfl
theorem pcells_drop : ∀ (L : List Pr) (k : Nat), pcells (L.drop k) = (pcells L).drop (k * 2)
  | [], k => by simp [pcells]
  | p :: L, 0 => by simp [pcells]
  | p :: L, k + 1 => by
    show pcells (L.drop k) = ([Value.string p.n, .string p.v] ++ pcells L).drop ((k + 1) * 2)
    rw [pcells_drop L k, show (k + 1) * 2 = k * 2 + 1 + 1 by omega]; rfl

/-- The list v holds the pairs L, in a row of the call's own. -/
def Row (w : World) (B : Nat) (v : Value) (L : List Pr) : Prop := w.ownsRow B 54 2 v L.length (pcells L)
/-- A set of variables (of type T) at block g. -/
structure VAt (w : World) (T : TypeId) (B g : Nat) (v : Value) (L : List Pr) : Prop where
  blk : w.heap[g]? = some (.cells #[v] T (0, 0))
  row : Row w B v L
  le : B ≤ g
  ne : v.ownBlock ≠ some g
theorem VAt.lt {w : World} {T : TypeId} {B g : Nat} {v : Value} {L : List Pr} (h : VAt w T B g v L) : g < w.heap.size := (Array.getElem?_eq_some_iff.1 h.blk).1
theorem VAt.cell {w : World} {T : TypeId} {B g : Nat} {v : Value} {L : List Pr} (h : VAt w T B g v L) : w.cell? ⟨g, 0, none⟩ = some v := by
  simp only [World.cell?, h.blk]; rfl
theorem VAt.free {w : World} {T : TypeId} {B g : Nat} {v : Value} {L : List Pr} (h : VAt w T B g v L) : w.frozen? ⟨g, 0, none⟩ = false := by
  simp [World.frozen?, h.blk]
theorem Row.only {S : Nat → Prop} {w w' : World} {B : Nat} {v : Value} {L : List Pr} (h : Row w B v L) (hO : Only S w w') (hn : ∀ k, v.ownBlock = some k → ¬ S k) : Row w' B v L := by
  refine ⟨h.1, ?_⟩
  rcases h.2 with h1 | ⟨b, cap, cur, rfl, h2, h3, h4⟩
  · exact .inl h1
  · exact .inr ⟨b, cap, cur, rfl, h2, (hO.block b (Array.getElem?_eq_some_iff.1 h3).1 (hn b rfl)).trans h3, h4⟩
theorem VAt.only {S : Nat → Prop} {w w' : World} {T : TypeId} {B g : Nat} {v : Value} {L : List Pr} (h : VAt w T B g v L) (hO : Only S w w') (hg : ¬ S g) (hn : ∀ k, v.ownBlock = some k → ¬ S k) : VAt w' T B g v L :=
  ⟨(hO.block g h.lt hg).trans h.blk, h.row.only hO hn, h.le, h.ne⟩
theorem VAt.below {w w' : World} {T : TypeId} {B g : Nat} {v : Value} {L : List Pr} (h : VAt w T B g v L) (hb : Below w.heap.size w w') : VAt w' T B g v L :=
  h.only (S := fun _ => False) (Only.of_below hb) (fun e => e) (fun _ _ e => e)

theorem add2 (g i : Nat) : (⟨g, 0, none⟩ : Addr).add (i * 2) = ⟨g, i * 2, none⟩ := by unfold Addr.add; by_cases h : i * 2 = 0 <;> simp [h]
/-- What a walk asks of a row. -/
theorem Row.form {w : World} {B : Nat} {v : Value} {L : List Pr} (h : Row w B v L) : (v = .slice none 0 0 ∧ L = []) ∨
    ∃ b cap, v = .slice (some ⟨b, 0, none⟩) L.length cap ∧ B ≤ b ∧ b < w.heap.size ∧ L.length ≤ cap ∧ cap ≤ maxLen ∧ (∀ i (h : i < L.length), w.cell? ⟨b, i * 2, none⟩ = some (.string L[i].n) ∧ w.cell? ⟨b, i * 2 + 1, none⟩ = some (.string L[i].v)) ∧ ∀ j, w.frozen? ⟨b, j, none⟩ = false := by
  rcases h.2 with ⟨h1, h2⟩ | ⟨b, cap, cur, rfl, h2, h3, h4, h5, h6⟩
  · exact .inl ⟨h1, List.length_eq_zero_iff.1 h2⟩
  · refine .inr ⟨b, cap, rfl, h2, (Array.getElem?_eq_some_iff.1 h3).1, h4, h5, fun i hi => ?_, fun j => World.ownsRow.frozenAt h j⟩
    rw [World.ownsRow.cellAt h (i * 2) (by omega), World.ownsRow.cellAt h (i * 2 + 1) (by omega)]
    exact ⟨pcells_n L i hi, pcells_v L i hi⟩
end Go.Proofs.Ytkdacdbmlgffgaa
