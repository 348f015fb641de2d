import Derived.Test.YtjagnihkpgbjeaaDoorVA
import Derived.WalkSpells
import Derived.WalkLawsBesides
namespace Go.Proofs.YtjagnihkpgbjeaaDoor
open Go.RowKit Go.Maps Go.ChangeMaps
set_option linter.unusedVariables false

/-- Of what was there nothing but the blocks of S has turned. -/
structure Only (S : Nat → Prop) (w w' : World) : Prop where
  os : w'.os = w.os
  tape : w'.tape = w.tape
  output : w'.output = w.output
  size : w.heap.size ≤ w'.heap.size
  block : ∀ k, k < w.heap.size → ¬ S k → w'.heap[k]? = w.heap[k]?
theorem Only.refl (S : Nat → Prop) (w : World) : Only S w w := ⟨rfl, rfl, rfl, Nat.le_refl _, fun _ _ _ => rfl⟩
theorem Only.trans {S S' T : Nat → Prop} {a b c : World} (h : Only S a b) (k : Only S' b c) (hS : ∀ i, S i → T i) (hS' : ∀ i, i < a.heap.size → S' i → T i) : Only T a c :=
  ⟨k.os.trans h.os, k.tape.trans h.tape, k.output.trans h.output, Nat.le_trans h.size k.size, fun i hi hn =>
    (k.block i (Nat.lt_of_lt_of_le hi h.size) (fun e => hn (hS' i hi e))).trans (h.block i hi (fun e => hn (hS i e)))⟩
theorem Only.mono {S T : Nat → Prop} {a b : World} (h : Only S a b) (hS : ∀ i, S i → T i) : Only T a b := ⟨h.os, h.tape, h.output, h.size, fun i hi hn => h.block i hi (fun e => hn (hS i e))⟩
theorem Only.of_below {S : Nat → Prop} {a b : World} (h : Below a.heap.size a b) : Only S a b := ⟨h.os, h.tape, h.output, h.size, fun i hi _ => h.block i hi⟩
theorem Only.of_grown {S : Nat → Prop} {a b : World} {row : Option Nat} (h : a.grownBy b row) (hr : ∀ k, row = some k → S k) : Only S a b :=
  ⟨h.os, h.tape, h.output, h.size, fun i hi hn => h.block i hi (fun e => hn (hr i e.symm))⟩
theorem Only.below {S : Nat → Prop} {a b : World} {B : Nat} (h : Only S a b) (hS : ∀ k, S k → B ≤ k) (hB : B ≤ a.heap.size) : Below B a b :=
  ⟨h.os, h.tape, h.output, h.size, fun i hi => h.block i (by omega) (fun e => by have := hS i e; omega)⟩
theorem Only.set {S : Nat → Prop} {a w : World} (h : Only S a w) {g : Nat} (hg : S g ∨ a.heap.size ≤ g) (i : Nat) (u : Value) : Only S a (w.setCell ⟨g, i, none⟩ u) :=
  ⟨h.os, h.tape, h.output, by simpa using h.size, fun k hk hn => (Below.heap_setCell _ _ _ _ (by intro e; have e : k = g := e; subst e; rcases hg with e | e; exact hn e; omega)).trans (h.block k hk hn)⟩

theorem row_only {w w' : World} {B n : Nat} {v : Value} {xs : List Value} (h : w.ownsRow B 5 1 v n xs) (hb : ∀ g, v.ownBlock = some g → g < w.heap.size → w'.heap[g]? = w.heap[g]?) : w'.ownsRow B 5 1 v n xs := by
  refine ⟨h.1, ?_⟩
  rcases h.2 with hn | ⟨g, cap, cur, rfl, h1, h2, r⟩
  · exact .inl hn
  · exact .inr ⟨g, cap, cur, rfl, h1, (hb g rfl (Array.getElem?_eq_some_iff.1 h2).1).trans h2, r⟩
theorem row_lt {w : World} {B n : Nat} {v : Value} {xs : List Value} (h : w.ownsRow B 5 1 v n xs) {g : Nat} (hg : v.ownBlock = some g) : g < w.heap.size := by
  rcases h.2 with ⟨rfl, _⟩ | ⟨g', cap, cur, rfl, h1, h2, r⟩
  · cases hg
  · cases hg
    exact (Array.getElem?_eq_some_iff.1 h2).1

def u8s (l : Bz) : List Value := l.map fun c => .int .u8 c.toNat
theorem u8s_len (l : Bz) : (u8s l).length = l.length := List.length_map ..
def ndC (n : Nd) (v : Value) (m : Option Nat) : List Value := [.bool n.file, v, .int .i64 n.time, .map m]
def tlOf (tl : List Value) : Pth → List Value
  | [] => tl
  | _ => []
def tyOf (ty : TypeId) : Pth → TypeId
  | [] => ty
  | _ => 69
def kidsOf (T : Tr) (A : Pth → Nat) (p : Pth) (k : Bz) : Option Nat := if (T (p ++ [k])).isSome then some (A (p ++ [k])) else none
/-- A tree of nodes lies at block f. -/
structure TreeAt (w : World) (B N f : Nat) (ty : TypeId) (tl : List Value) (T : Tr) (A : Pth → Nat) (M : Pth → Option Nat) (V : Pth → Value) : Prop where
  a0 : A [] = f
  root : ∃ n, T [] = some n
  up : ∀ p k, (T (p ++ [k])).isSome → ∃ n, T p = some n ∧ n.file = false
  blk : ∀ p n, T p = some n → w.heap[A p]? = some (.cells (ndC n (V p) (M p) ++ tlOf tl p).toArray (tyOf ty p) (0, 0))
  data : ∀ p n, T p = some n → w.ownsRow B 5 1 (V p) n.data.length (u8s n.data)
  kids : ∀ p n, T p = some n → Kids w N (M p) (kidsOf T A p)
  base : ∀ p n, T p = some n → B ≤ A p ∧ ∀ b, M p = some b → B ≤ b
  injA : ∀ p q, (T p).isSome → (T q).isSome → A p = A q → p = q
  injM : ∀ p q b, (T p).isSome → (T q).isSome → M p = some b → M q = some b → p = q
  injV : ∀ p q b, (T p).isSome → (T q).isSome → (V p).ownBlock = some b → (V q).ownBlock = some b → p = q
/-- The blocks of a tree. -/
def foot (T : Tr) (A : Pth → Nat) (M : Pth → Option Nat) (V : Pth → Value) (k : Nat) : Prop := ∃ p n, T p = some n ∧ (A p = k ∨ M p = some k ∨ (V p).ownBlock = some k)
section
variable {w w' : World} {B N f : Nat} {ty : TypeId} {tl : List Value} {T : Tr} {A : Pth → Nat} {M : Pth → Option Nat} {V : Pth → Value}
theorem TreeAt.lt (h : TreeAt w B N f ty tl T A M V) {k : Nat} (hk : foot T A M V k) : k < w.heap.size := by
  obtain ⟨p, n, hp, e | e | e⟩ := hk
  · have := h.blk p n hp
    rw [e] at this
    exact (Array.getElem?_eq_some_iff.1 this).1
  · exact (h.kids p n hp).lt e
  · exact row_lt (h.data p n hp) e
theorem TreeAt.ge (h : TreeAt w B N f ty tl T A M V) {k : Nat} (hk : foot T A M V k) : B ≤ k := by
  obtain ⟨p, n, hp, e | e | e⟩ := hk
  · rw [← e]; exact (h.base p n hp).1
  · exact (h.base p n hp).2 k e
  · rcases (h.data p n hp).2 with ⟨e1, _⟩ | ⟨g, cap, cur, e1, h1, h2, r⟩
    · rw [e1] at e; cases e
    · rw [e1] at e; cases e; exact h1
theorem TreeAt.only {X : Nat → Prop} (h : TreeAt w B N f ty tl T A M V) (ho : Only X w w') (hd : ∀ k, X k → ¬ foot T A M V k) : TreeAt w' B N f ty tl T A M V := by
  have hb : ∀ k, foot T A M V k → w'.heap[k]? = w.heap[k]? := fun k hk => ho.block k (h.lt hk) (fun e => hd k e hk)
  exact ⟨h.a0, h.root, h.up, fun p n hp => (hb _ ⟨p, n, hp, .inl rfl⟩).trans (h.blk p n hp), fun p n hp => row_only (h.data p n hp) (fun g hg _ => hb g ⟨p, n, hp, .inr (.inr hg)⟩),
    fun p n hp => (h.kids p n hp).only (fun b hm _ => hb b ⟨p, n, hp, .inr (.inl hm)⟩), h.base, h.injA, h.injM, h.injV⟩
theorem TreeAt.mono (h : TreeAt w B N f ty tl T A M V) {N' : Nat} (hN : N ≤ N') : TreeAt w B N' f ty tl T A M V :=
  ⟨h.a0, h.root, h.up, h.blk, h.data, fun p n hp => (h.kids p n hp).mono hN, h.base, h.injA, h.injM, h.injV⟩
/-- The blocks of the three sorts differ. -/
theorem TreeAt.neAM (h : TreeAt w B N f ty tl T A M V) {p q : Pth} {b : Nat} (hp : (T p).isSome) (hq : (T q).isSome) (hm : M q = some b) : A p ≠ b := by
  obtain ⟨n, hn⟩ := Option.isSome_iff_exists.1 hp
  obtain ⟨n', hn'⟩ := Option.isSome_iff_exists.1 hq
  intro e
  obtain ⟨nn, D, _, hown, _⟩ := (h.kids q n' hn').yes b hm
  obtain ⟨es, clock, h2, _⟩ := hown
  have := h.blk p n hn
  rw [e, h2] at this
  cases this
theorem tyOf_ne (hty : ty ≠ 5) (p : Pth) : tyOf ty p ≠ 5 := by
  cases p with
  | nil => exact hty
  | cons => exact show (69 : Nat) ≠ 5 by decide
theorem TreeAt.neAV (h : TreeAt w B N f ty tl T A M V) (hty : ty ≠ 5) {p q : Pth} {b : Nat} (hp : (T p).isSome) (hq : (T q).isSome) (hm : (V q).ownBlock = some b) : A p ≠ b := by
  obtain ⟨n, hn⟩ := Option.isSome_iff_exists.1 hp
  obtain ⟨n', hn'⟩ := Option.isSome_iff_exists.1 hq
  intro e
  rcases (h.data q n' hn').2 with ⟨e1, _⟩ | ⟨g, cap, cur, e1, h1, h2, r⟩
  · rw [e1] at hm; cases hm
  · rw [e1] at hm
    cases hm
    have := h.blk p n hn
    rw [e] at this
    have h3 := h2.symm.trans this
    injection h3 with h3
    injection h3 with _ h3 _
    exact tyOf_ne hty p h3.symm
theorem TreeAt.neMV (h : TreeAt w B N f ty tl T A M V) {p q : Pth} {b c : Nat} (hp : (T p).isSome) (hq : (T q).isSome) (hc : M p = some c) (hm : (V q).ownBlock = some b) : c ≠ b := by
  obtain ⟨n, hn⟩ := Option.isSome_iff_exists.1 hp
  obtain ⟨n', hn'⟩ := Option.isSome_iff_exists.1 hq
  intro e
  obtain ⟨nn, D, _, hown, _⟩ := (h.kids p n hn).yes c hc
  obtain ⟨es, clock, hx, _⟩ := hown
  rcases (h.data q n' hn').2 with ⟨e1, _⟩ | ⟨g, cap, cur, e1, h1, h2, r⟩
  · rw [e1] at hm; cases hm
  · rw [e1] at hm
    cases hm
    rw [e, h2] at hx
    cases hx
end
end Go.Proofs.YtjagnihkpgbjeaaDoor
