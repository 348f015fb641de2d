import Derived.Test.YtcmjpkfinbakkaaGreatDoorQXN
import Derived.WalkSpells
import Derived.WalkLawsBesides
import Derived.RegionTactic
import Derived.Deep.QuietTactic
import Derived.Deep.LoopGhost
import Derived.BigQuiet
import Derived.WalkMore
import Derived.Handy
import Derived.BigFrame
import Derived.ChangeArms
import Derived.Carry
namespace Go.Proofs.YtcmjpkfinbakkaaGreatDoor.Vf
set_option maxRecDepth 100000
open Go.RowKit Go.Maps Go.ChangeMaps
set_option linter.unusedVariables false

/-- Of what was there nothing but the blocks of S has turned. -/
structure Only (S : Nat → Prop) (w w' : World) : Prop where
  os : w'.os = w.os
  tape : w'.tape = w.tape
  output : w'.output = w.output
  size : w.heap.size ≤ w'.heap.size
  block : ∀ k, k < w.heap.size → ¬ S k → w'.heap[k]? = w.heap[k]?
theorem Only.refl (S : Nat → Prop) (w : World) : Only S w w := ⟨rfl, rfl, rfl, Nat.le_refl _, fun _ _ _ => rfl⟩
theorem Only.trans {S S' T : Nat → Prop} {a b c : World} (h : Only S a b) (k : Only S' b c) (hS : ∀ i, S i → T i) (hS' : ∀ i, i < a.heap.size → S' i → T i) : Only T a c :=
  ⟨k.os.trans h.os, k.tape.trans h.tape, k.output.trans h.output, Nat.le_trans h.size k.size, fun i hi hn =>
    (k.block i (Nat.lt_of_lt_of_le hi h.size) (fun e => hn (hS' i hi e))).trans (h.block i hi (fun e => hn (hS i e)))⟩
theorem Only.mono {S T : Nat → Prop} {a b : World} (h : Only S a b) (hS : ∀ i, S i → T i) : Only T a b := ⟨h.os, h.tape, h.output, h.size, fun i hi hn => h.block i hi (fun e => hn (hS i e))⟩
theorem Only.of_below {S : Nat → Prop} {a b : World} (h : Below a.heap.size a b) : Only S a b := ⟨h.os, h.tape, h.output, h.size, fun i hi _ => h.block i hi⟩
theorem Only.of_grown {S : Nat → Prop} {a b : World} {row : Option Nat} (h : a.grownBy b row) (hr : ∀ k, row = some k → S k) : Only S a b :=
  ⟨h.os, h.tape, h.output, h.size, fun i hi hn => h.block i hi (fun e => hn (hr i e.symm))⟩
theorem Only.below {S : Nat → Prop} {a b : World} {B : Nat} (h : Only S a b) (hS : ∀ k, S k → B ≤ k) (hB : B ≤ a.heap.size) : Below B a b :=
  ⟨h.os, h.tape, h.output, h.size, fun i hi => h.block i (by omega) (fun e => by have := hS i e; omega)⟩
theorem Only.set {S : Nat → Prop} {a w : World} (h : Only S a w) {g : Nat} (hg : S g ∨ a.heap.size ≤ g) (i : Nat) (u : Value) : Only S a (w.setCell ⟨g, i, none⟩ u) :=
  ⟨h.os, h.tape, h.output, by simpa using h.size, fun k hk hn => (Below.heap_setCell _ _ _ _ (by intro e; have e : k = g := e; subst e; rcases hg with e | e; exact hn e; omega)).trans (h.block k hk hn)⟩

theorem row_only {w w' : World} {B n : Nat} {v : Value} {xs : List Value} (h : w.ownsRow B 5 1 v n xs) (hb : ∀ g, v.ownBlock = some g → g < w.heap.size → w'.heap[g]? = w.heap[g]?) : w'.ownsRow B 5 1 v n xs := by
  refine ⟨h.1, ?_⟩
  rcases h.2 with hn | ⟨g, cap, cur, rfl, h1, h2, r⟩
  · exact .inl hn
  · exact .inr ⟨g, cap, cur, rfl, h1, (hb g rfl (Array.getElem?_eq_some_iff.1 h2).1).trans h2, r⟩
theorem row_lt {w : World} {B n : Nat} {v : Value} {xs : List Value} (h : w.ownsRow B 5 1 v n xs) {g : Nat} (hg : v.ownBlock = some g) : g < w.heap.size := by
  rcases h.2 with ⟨rfl, _⟩ | ⟨g', cap, cur, rfl, h1, h2, r⟩
  · cases hg
  · cases hg
    exact (Array.getElem?_eq_some_iff.1 h2).1

def u8s (l : Bz) : List Value := l.map fun c => .int .u8 c.toNat
theorem u8s_len (l : Bz) : (u8s l).length = l.length := List.length_map ..
def ndC (n : Nd) (v : Value) (m : Option Nat) : List Value := [.bool n.file, v, .int .i64 n.time, .map m]
def tlOf (tl : List Value) : Pth → List Value
  | [] => tl
  | _ => []
def tyOf (ty : TypeId) : Pth → TypeId
  | [] => ty
  | _ => 69
def kidsOf (T : Tr) (A : Pth → Nat) (p : Pth) (k : Bz) : Option Nat := if (T (p ++ [k])).isSome then some (A (p ++ [k])) else none
/-- A tree of nodes lies at block f. -/
structure TreeAt (w : World) (B N f : Nat) (ty : TypeId) (tl : List Value) (T : Tr) (A : Pth → Nat) (M : Pth → Option Nat) (V : Pth → Value) : Prop where
  a0 : A [] = f
  root : ∃ n, T [] = some n
  up : ∀ p k, (T (p ++ [k])).isSome → ∃ n, T p = some n ∧ n.file = false
  blk : ∀ p n, T p = some n → w.heap[A p]? = some (.cells (ndC n (V p) (M p) ++ tlOf tl p).toArray (tyOf ty p) (0, 0))
  data : ∀ p n, T p = some n → w.ownsRow B 5 1 (V p) n.data.length (u8s n.data)
  kids : ∀ p n, T p = some n → Kids w N (M p) (kidsOf T A p)
  base : ∀ p n, T p = some n → B ≤ A p ∧ ∀ b, M p = some b → B ≤ b
  injA : ∀ p q, (T p).isSome → (T q).isSome → A p = A q → p = q
  injM : ∀ p q b, (T p).isSome → (T q).isSome → M p = some b → M q = some b → p = q
  injV : ∀ p q b, (T p).isSome → (T q).isSome → (V p).ownBlock = some b → (V q).ownBlock = some b → p = q
/-- The blocks of a tree. -/
def foot (T : Tr) (A : Pth → Nat) (M : Pth → Option Nat) (V : Pth → Value) (k : Nat) : Prop := ∃ p n, T p = some n ∧ (A p = k ∨ M p = some k ∨ (V p).ownBlock = some k)
section
variable {w w' : World} {B N f : Nat} {ty : TypeId} {tl : List Value} {T : Tr} {A : Pth → Nat} {M : Pth → Option Nat} {V : Pth → Value}
theorem TreeAt.lt (h : TreeAt w B N f ty tl T A M V) {k : Nat} (hk : foot T A M V k) : k < w.heap.size := by
  obtain ⟨p, n, hp, e | e | e⟩ := hk
  · have := h.blk p n hp
    rw [e] at this
    exact (Array.getElem?_eq_some_iff.1 this).1
  · exact (h.kids p n hp).lt e
  · exact row_lt (h.data p n hp) e
theorem TreeAt.ge (h : TreeAt w B N f ty tl T A M V) {k : Nat} (hk : foot T A M V k) : B ≤ k := by
  obtain ⟨p, n, hp, e | e | e⟩ := hk
  · rw [← e]; exact (h.base p n hp).1
  · exact (h.base p n hp).2 k e
  · rcases (h.data p n hp).2 with ⟨e1, _⟩ | ⟨g, cap, cur, e1, h1, h2, r⟩
    · rw [e1] at e; cases e
    · rw [e1] at e; cases e; exact h1
theorem TreeAt.only {X : Nat → Prop} (h : TreeAt w B N f ty tl T A M V) (ho : Only X w w') (hd : ∀ k, X k → ¬ foot T A M V k) : TreeAt w' B N f ty tl T A M V := by
  have hb : ∀ k, foot T A M V k → w'.heap[k]? = w.heap[k]? := fun k hk => ho.block k (h.lt hk) (fun e => hd k e hk)
  exact ⟨h.a0, h.root, h.up, fun p n hp => (hb _ ⟨p, n, hp, .inl rfl⟩).trans (h.blk p n hp), fun p n hp => row_only (h.data p n hp) (fun g hg _ => hb g ⟨p, n, hp, .inr (.inr hg)⟩),
    fun p n hp => (h.kids p n hp).only (fun b hm _ => hb b ⟨p, n, hp, .inr (.inl hm)⟩), h.base, h.injA, h.injM, h.injV⟩
theorem TreeAt.mono (h : TreeAt w B N f ty tl T A M V) {N' : Nat} (hN : N ≤ N') : TreeAt w B N' f ty tl T A M V :=
  ⟨h.a0, h.root, h.up, h.blk, h.data, fun p n hp => (h.kids p n hp).mono hN, h.base, h.injA, h.injM, h.injV⟩
/-- The blocks of the three sorts differ. -/
theorem TreeAt.neAM (h : TreeAt w B N f ty tl T A M V) {p q : Pth} {b : Nat} (hp : (T p).isSome) (hq : (T q).isSome) (hm : M q = some b) : A p ≠ b := by
  obtain ⟨n, hn⟩ := Option.isSome_iff_exists.1 hp
  obtain ⟨n', hn'⟩ := Option.isSome_iff_exists.1 hq
  intro e
  obtain ⟨nn, D, _, hown, _⟩ := (h.kids q n' hn').yes b hm
  obtain ⟨es, clock, h2, _⟩ := hown
  have := h.blk p n hn
  rw [e, h2] at this
  cases this
theorem tyOf_ne (hty : ty ≠ 5) (p : Pth) : tyOf ty p ≠ 5 := by
  cases p with
  | nil => exact hty
  | cons => exact show (69 : Nat) ≠ 5 by decide
theorem TreeAt.neAV (h : TreeAt w B N f ty tl T A M V) (hty : ty ≠ 5) {p q : Pth} {b : Nat} (hp : (T p).isSome) (hq : (T q).isSome) (hm : (V q).ownBlock = some b) : A p ≠ b := by
  obtain ⟨n, hn⟩ := Option.isSome_iff_exists.1 hp
  obtain ⟨n', hn'⟩ := Option.isSome_iff_exists.1 hq
  intro e
  rcases (h.data q n' hn').2 with ⟨e1, _⟩ | ⟨g, cap, cur, e1, h1, h2, r⟩
  · rw [e1] at hm; cases hm
  · rw [e1] at hm
    cases hm
    have := h.blk p n hn
    rw [e] at this
    have h3 := h2.symm.trans this
    injection h3 with h3
    injection h3 with _ h3 _
    exact tyOf_ne hty p h3.symm
theorem TreeAt.neMV (h : TreeAt w B N f ty tl T A M V) {p q : Pth} {b c : Nat} (hp : (T p).isSome) (hq : (T q).isSome) (hc : M p = some c) (hm : (V q).ownBlock = some b) : c ≠ b := by
  obtain ⟨n, hn⟩ := Option.isSome_iff_exists.1 hp
  obtain ⟨n', hn'⟩ := Option.isSome_iff_exists.1 hq
  intro e
  obtain ⟨nn, D, _, hown, _⟩ := (h.kids p n hn).yes c hc
  obtain ⟨es, clock, hx, _⟩ := hown
  rcases (h.data q n' hn').2 with ⟨e1, _⟩ | ⟨g, cap, cur, e1, h1, h2, r⟩
  · rw [e1] at hm; cases hm
  · rw [e1] at hm
    cases hm
    rw [e, h2] at hx
    cases hx
end
end Go.Proofs.YtcmjpkfinbakkaaGreatDoor.Vf

namespace Go.Proofs.YtcmjpkfinbakkaaGreatDoor.Vf
set_option maxRecDepth 100000
open Go.RowKit Go.Maps Go.ChangeMaps
set_option linter.unusedVariables false

def setF {α : Type} (F : Pth → α) (p : Pth) (x : α) (q : Pth) : α := if q = p then x else F q
theorem setF_same {α : Type} (F : Pth → α) (p : Pth) (x : α) : setF F p x p = x := if_pos rfl
theorem setF_other {α : Type} (F : Pth → α) {p q : Pth} (x : α) (h : q ≠ p) : setF F p x q = F q := if_neg h
def graftF {α : Type} (F : Pth → α) (p : Pth) (G : Pth → α) (q : Pth) : α := if p.isPrefixOf q = true then G (q.drop p.length) else F q
theorem graftF_in {α : Type} (F : Pth → α) (p : Pth) (G : Pth → α) (r : Pth) : graftF F p G (p ++ r) = G r := by
  have h : p.isPrefixOf (p ++ r) = true := List.isPrefixOf_iff_prefix.2 ⟨r, rfl⟩
  unfold graftF; rw [if_pos h]; simp
theorem graftF_out {α : Type} (F : Pth → α) (p : Pth) (G : Pth → α) {q : Pth} (h : ¬ p <+: q) : graftF F p G q = F q := by
  unfold graftF; rw [if_neg (fun e => h (List.isPrefixOf_iff_prefix.1 e))]
theorem graft_self {α : Type} (F : Pth → α) (p : Pth) (G : Pth → α) : graftF F p G p = G [] := by have := graftF_in F p G []; simpa using this
theorem not_pre_self (d : Pth) (k : Bz) : ¬ (d ++ [k]) <+: d := fun h => by have := h.length_le; simp at this; omega
section
variable {w w' : World} {B N f : Nat} {ty : TypeId} {tl : List Value} {T : Tr} {A : Pth → Nat} {M : Pth → Option Nat} {V : Pth → Value}
theorem TreeAt.setTl (h : TreeAt w B N f ty tl T A M V) {n0 : Nd} (h0 : T [] = some n0) (tl' : List Value) (ho : Only (fun k => k = f) w w') (hb : w'.heap[f]? = some (.cells (ndC n0 (V []) (M []) ++ tl').toArray ty (0, 0))) (hty : ty ≠ 5) :
    TreeAt w' B N f ty tl' T A M V := by
  have hs : (T []).isSome := by rw [h0]; rfl
  have hof : ∀ k, foot T A M V k → k ≠ f → w'.heap[k]? = w.heap[k]? := fun k hk hne => ho.block k (h.lt hk) hne
  refine ⟨h.a0, h.root, h.up, fun p n hp => ?_, fun p n hp => ?_, fun p n hp => ?_, h.base, h.injA, h.injM, h.injV⟩
  · cases p with
    | nil =>
      rw [h0] at hp; cases hp
      rw [h.a0]; exact hb
    | cons a p =>
      have hne : A (a :: p) ≠ f := fun e => by
        have := h.injA (a :: p) [] (by rw [hp]; rfl) hs (e.trans h.a0.symm)
        cases this
      exact (hof _ ⟨_, n, hp, .inl rfl⟩ hne).trans (h.blk _ n hp)
  · refine row_only (h.data p n hp) fun g hg _ => hof g ⟨p, n, hp, .inr (.inr hg)⟩ fun e => ?_
    exact h.neAV hty hs (by rw [hp]; rfl) hg (h.a0.trans e.symm)
  · refine (h.kids p n hp).only fun b hm _ => hof b ⟨p, n, hp, .inr (.inl hm)⟩ fun e => ?_
    exact h.neAM hs (by rw [hp]; rfl) hm (h.a0.trans e.symm)
theorem TreeAt.setNode (h : TreeAt w B N f ty tl T A M V) (hty : ty ≠ 5) {p : Pth} {n n' : Nd} (hp : T p = some n) (hf : n'.file = n.file) (v' : Value) {X : Nat → Prop} (ho : Only X w w') (hX : ∀ k, X k → k = A p ∨ (V p).ownBlock = some k)
    (hb : w'.heap[A p]? = some (.cells (ndC n' v' (M p) ++ tlOf tl p).toArray (tyOf ty p) (0, 0))) (hd : w'.ownsRow B 5 1 v' n'.data.length (u8s n'.data)) (hv : ∀ b, v'.ownBlock = some b → (V p).ownBlock = some b ∨ w.heap.size ≤ b) :
    TreeAt w' B N f ty tl (setF T p (some n')) A M (setF V p v') := by
  have hs : (T p).isSome := by rw [hp]; rfl
  have hT : ∀ q, (setF T p (some n') q).isSome = (T q).isSome := fun q => by
    by_cases e : q = p
    · rw [e, setF_same, hp]; rfl
    · rw [setF_other _ _ e]
  have hof : ∀ k, foot T A M V k → k ≠ A p → (V p).ownBlock ≠ some k → w'.heap[k]? = w.heap[k]? := fun k hk h1 h2 => ho.block k (h.lt hk) fun e => by
    rcases hX k e with e | e
    · exact h1 e
    · exact h2 e
  have hin : ∀ q m, setF T p (some n') q = some m → ∃ m0, T q = some m0 ∧ m0.file = m.file := fun q m e => by
    by_cases hq : q = p
    · subst hq; rw [setF_same] at e; cases e; exact ⟨n, hp, hf.symm⟩
    · rw [setF_other _ _ hq] at e; exact ⟨m, e, rfl⟩
  have hkk : ∀ q, kidsOf (setF T p (some n')) A q = kidsOf T A q := fun q => funext fun k => by unfold kidsOf; rw [hT]
  refine ⟨h.a0, ?_, fun q k hq => ?_, fun q m hq => ?_, fun q m hq => ?_, fun q m hq => ?_, fun q m hq => ?_, fun a b ha hb' => ?_, fun a b c ha hb' => ?_, fun a b c ha hb' h1 h2 => ?_⟩
  · obtain ⟨n0, h0⟩ := h.root
    exact Option.isSome_iff_exists.1 (by rw [hT, h0]; rfl)
  · rw [hT] at hq
    obtain ⟨m, h1, h2⟩ := h.up q k hq
    by_cases e : q = p
    · subst e; rw [hp] at h1; cases h1; exact ⟨n', setF_same _ _ _, hf.trans h2⟩
    · exact ⟨m, (setF_other _ _ e).trans h1, h2⟩
  · by_cases e : q = p
    · subst e; rw [setF_same] at hq; cases hq; rw [setF_same]; exact hb
    · rw [setF_other _ _ e] at hq
      rw [setF_other _ _ e]
      refine (hof _ ⟨q, m, hq, .inl rfl⟩ (fun e2 => e (h.injA q p (by rw [hq]; rfl) hs e2)) fun e2 => ?_).trans (h.blk q m hq)
      exact h.neAV hty (by rw [hq]; rfl) hs e2 rfl
  · by_cases e : q = p
    · subst e; rw [setF_same] at hq; cases hq; rw [setF_same]; exact hd
    · rw [setF_other _ _ e] at hq
      rw [setF_other _ _ e]
      refine row_only (h.data q m hq) fun g hg _ => hof g ⟨q, m, hq, .inr (.inr hg)⟩ (fun e2 => ?_) fun e2 => ?_
      · exact h.neAV hty hs (by rw [hq]; rfl) hg e2.symm
      · exact e (h.injV q p g (by rw [hq]; rfl) hs hg e2)
  · obtain ⟨m0, hq0, _⟩ := hin q m hq
    rw [hkk]
    refine (h.kids q m0 hq0).only fun b hm _ => hof b ⟨q, m0, hq0, .inr (.inl hm)⟩ (fun e2 => ?_) fun e2 => ?_
    · exact h.neAM hs (by rw [hq0]; rfl) hm e2.symm
    · exact h.neMV (by rw [hq0]; rfl) hs hm e2 rfl
  · obtain ⟨m0, hq0, _⟩ := hin q m hq
    exact h.base q m0 hq0
  · rw [hT] at ha hb'
    exact h.injA a b ha hb'
  · rw [hT] at ha hb'
    exact h.injM a b c ha hb'
  · rw [hT] at ha hb'
    have old : ∀ q, (T q).isSome → (V q).ownBlock = some c → c < w.heap.size := fun q hq hc => by
      obtain ⟨m, hm⟩ := Option.isSome_iff_exists.1 hq
      exact row_lt (h.data q m hm) hc
    by_cases ea : a = p
    · by_cases eb : b = p
      · rw [ea, eb]
      · rw [ea, setF_same] at h1
        rw [setF_other _ _ eb] at h2
        rcases hv c h1 with e | e
        · exact ea.trans (h.injV p b c hs hb' e h2)
        · have := old b hb' h2; omega
    · rw [setF_other _ _ ea] at h1
      by_cases eb : b = p
      · rw [eb, setF_same] at h2
        rcases hv c h2 with e | e
        · exact (h.injV a p c ha hs h1 e).trans eb.symm
        · have := old a ha h1; omega
      · rw [setF_other _ _ eb] at h2
        exact h.injV a b c ha hb' h1 h2
end
end Go.Proofs.YtcmjpkfinbakkaaGreatDoor.Vf

namespace Go.Proofs.YtcmjpkfinbakkaaGreatDoor.Vf
set_option maxRecDepth 100000
open Go.RowKit Go.Maps Go.ChangeMaps
set_option linter.unusedVariables false
section
variable {w w' : World} {B N f : Nat} {ty : TypeId} {tl : List Value} {T : Tr} {A : Pth → Nat} {M : Pth → Option Nat} {V : Pth → Value}
theorem graft_snoc {α : Type} (F : Pth → α) (d : Pth) (k : Bz) (G : Pth → α) (q : Pth) (x : Bz) (hq : ¬ (d ++ [k]) <+: q) :
    graftF F (d ++ [k]) G (q ++ [x]) = if q = d ∧ x = k then G [] else F (q ++ [x]) := by
  by_cases e : q = d ∧ x = k
  · rw [if_pos e, e.1, e.2, graft_self]
  · rw [if_neg e]
    refine graftF_out _ _ _ fun h => ?_
    rcases List.prefix_concat_iff.1 h with h1 | h1
    · have h2 := List.append_inj' h1 rfl
      exact e ⟨h2.1.symm, by have := h2.2; simpa using this.symm⟩
    · exact hq h1
theorem pre_cases (p q : Pth) : (∃ r, q = p ++ r) ∨ ¬ p <+: q := by
  by_cases h : p <+: q
  · obtain ⟨r, hr⟩ := h; exact .inl ⟨r, hr.symm⟩
  · exact .inr h
theorem TreeAt.graft (h : TreeAt w B N f ty tl T A M V) {c N2 : Nat} {T2 : Tr} {A2 : Pth → Nat} {M2 : Pth → Option Nat} {V2 : Pth → Value} (h2 : TreeAt w B N2 c 69 [] T2 A2 M2 V2) (hN2 : N2 ≤ N + 1) (hty : ty ≠ 5)
    {d : Pth} {k : Bz} {dn : Nd} (hd : T d = some dn) (hdf : dn.file = false) (hdis : ∀ j, foot T A M V j → ¬ foot T2 A2 M2 V2 j)
    {X : Nat → Prop} (ho : Only X w w') (hX : ∀ j, X j → j = A d ∨ M d = some j) (m' : Option Nat) (hblk : w'.heap[A d]? = some (.cells (ndC dn (V d) m' ++ tlOf tl d).toArray (tyOf ty d) (0, 0)))
    (hk : Kids w' (N + 1) m' (fun x => if x = k then some c else kidsOf T A d x)) (hm : m' = M d ∨ ∀ b, m' = some b → w.heap.size ≤ b) (hmB : ∀ b, m' = some b → B ≤ b) :
    TreeAt w' B (N + 1) f ty tl (graftF T (d ++ [k]) T2) (graftF A (d ++ [k]) A2) (graftF (setF M d m') (d ++ [k]) M2) (graftF V (d ++ [k]) V2) := by
  have hds : (T d).isSome := by rw [hd]; rfl
  have hnd : ¬ (d ++ [k]) <+: d := not_pre_self d k
  have hfd : foot T A M V (A d) := ⟨d, dn, hd, .inl rfl⟩
  have hXf : ∀ j, X j → foot T A M V j := fun j hj => by
    rcases hX j hj with e | e
    · exact ⟨d, dn, hd, .inl e.symm⟩
    · exact ⟨d, dn, hd, .inr (.inl e)⟩
  have h2' : TreeAt w' B N2 c 69 [] T2 A2 M2 V2 := h2.only ho fun j hj e => hdis j (hXf j hj) e
  have hof : ∀ j, foot T A M V j → j ≠ A d → M d ≠ some j → w'.heap[j]? = w.heap[j]? := fun j hj h1 h3 => ho.block j (h.lt hj) fun e => by
    rcases hX j e with e | e
    · exact h1 e
    · exact h3 e
  have hko : ∀ q, ¬ (d ++ [k]) <+: q → q ≠ d → kidsOf (graftF T (d ++ [k]) T2) (graftF A (d ++ [k]) A2) q = kidsOf T A q := fun q hq hqd => funext fun x => by
    unfold kidsOf
    have hne : ¬ (q = d ∧ x = k) := fun e => hqd e.1
    simp only [graft_snoc _ _ _ _ _ _ hq, hne, if_false]
  have hki : ∀ r, kidsOf (graftF T (d ++ [k]) T2) (graftF A (d ++ [k]) A2) (d ++ [k] ++ r) = kidsOf T2 A2 r := fun r => funext fun x => by
    unfold kidsOf
    rw [List.append_assoc (d ++ [k]), graftF_in, graftF_in]
  obtain ⟨n2, hr2⟩ := h2.root
  have hkd : ∀ x, kidsOf (graftF T (d ++ [k]) T2) (graftF A (d ++ [k]) A2) d x = if x = k then some c else kidsOf T A d x := fun x => by
    unfold kidsOf
    simp only [graft_snoc _ _ _ _ _ _ hnd]
    by_cases e : x = k
    · simp [e, hr2, h2.a0]
    · simp [e]
  have f2 : ∀ {r : Pth} {j : Nat}, (T2 r).isSome → (A2 r = j ∨ M2 r = some j ∨ (V2 r).ownBlock = some j) → foot T2 A2 M2 V2 j := fun {r j} hr e => by
    obtain ⟨n, hn⟩ := Option.isSome_iff_exists.1 hr
    exact ⟨r, n, hn, e⟩
  have f1 : ∀ {r : Pth} {j : Nat}, (T r).isSome → (A r = j ∨ M r = some j ∨ (V r).ownBlock = some j) → foot T A M V j := fun {r j} hr e => by
    obtain ⟨n, hn⟩ := Option.isSome_iff_exists.1 hr
    exact ⟨r, n, hn, e⟩
  refine ⟨?_, ?_, fun q x hq => ?_, fun q m hq => ?_, fun q m hq => ?_, fun q m hq => ?_, fun q m hq => ?_, fun a b ha hb => ?_, fun a b j ha hb h3 h4 => ?_, fun a b j ha hb h3 h4 => ?_⟩
  · rw [graftF_out _ _ _ (fun e => by have := e.length_le; simp at this)]
    exact h.a0
  · rw [graftF_out _ _ _ (fun e => by have := e.length_le; simp at this)]
    exact h.root
  · rcases pre_cases (d ++ [k]) q with ⟨r, rfl⟩ | hn
    · rw [List.append_assoc (d ++ [k]), graftF_in] at hq
      rw [graftF_in]
      exact h2.up r x hq
    · rw [graft_snoc _ _ _ _ _ _ hn] at hq
      rw [graftF_out _ _ _ hn]
      by_cases e : q = d ∧ x = k
      · rw [e.1]; exact ⟨dn, hd, hdf⟩
      · rw [if_neg e] at hq
        exact h.up q x hq
  · rcases pre_cases (d ++ [k]) q with ⟨r, rfl⟩ | hn
    · rw [graftF_in] at hq
      rw [graftF_in, graftF_in, graftF_in]
      have h5 := h2'.blk r m hq
      have e1 : tlOf tl (d ++ [k] ++ r) = tlOf [] r := by cases d <;> cases r <;> rfl
      have e2 : tyOf ty (d ++ [k] ++ r) = tyOf 69 r := by cases d <;> cases r <;> rfl
      rw [e1, e2]; exact h5
    · rw [graftF_out _ _ _ hn] at hq
      rw [graftF_out _ _ _ hn, graftF_out _ _ _ hn, graftF_out _ _ _ hn]
      by_cases e : q = d
      · subst e
        rw [hd] at hq; cases hq
        rw [setF_same]; exact hblk
      · rw [setF_other _ _ e]
        refine (hof _ ⟨q, m, hq, .inl rfl⟩ (fun e2 => e (h.injA q d (by rw [hq]; rfl) hds e2)) fun e2 => ?_).trans (h.blk q m hq)
        exact h.neAM (by rw [hq]; rfl) hds e2 rfl
  · rcases pre_cases (d ++ [k]) q with ⟨r, rfl⟩ | hn
    · rw [graftF_in] at hq
      rw [graftF_in]
      exact h2'.data r m hq
    · rw [graftF_out _ _ _ hn] at hq
      rw [graftF_out _ _ _ hn]
      refine row_only (h.data q m hq) fun g hg _ => hof g ⟨q, m, hq, .inr (.inr hg)⟩ (fun e2 => ?_) fun e2 => ?_
      · exact h.neAV hty hds (by rw [hq]; rfl) hg e2.symm
      · exact h.neMV hds (by rw [hq]; rfl) e2 hg rfl
  · rcases pre_cases (d ++ [k]) q with ⟨r, rfl⟩ | hn
    · rw [graftF_in] at hq
      rw [graftF_in, hki]
      exact (h2'.kids r m hq).mono hN2
    · rw [graftF_out _ _ _ hn] at hq
      rw [graftF_out _ _ _ hn]
      by_cases e : q = d
      · subst e
        rw [setF_same]
        exact hk.congr hkd
      · rw [setF_other _ _ e, hko q hn e]
        refine ((h.kids q m hq).only fun b hb _ => hof b ⟨q, m, hq, .inr (.inl hb)⟩ (fun e2 => ?_) fun e2 => ?_).mono (Nat.le_succ N)
        · exact h.neAM hds (by rw [hq]; rfl) hb e2.symm
        · exact e (h.injM q d b (by rw [hq]; rfl) hds hb e2)
  · rcases pre_cases (d ++ [k]) q with ⟨r, rfl⟩ | hn
    · rw [graftF_in] at hq
      rw [graftF_in, graftF_in]
      exact h2.base r m hq
    · rw [graftF_out _ _ _ hn] at hq
      rw [graftF_out _ _ _ hn, graftF_out _ _ _ hn]
      refine ⟨(h.base q m hq).1, fun b hb => ?_⟩
      by_cases e : q = d
      · rw [e, setF_same] at hb; exact hmB b hb
      · rw [setF_other _ _ e] at hb; exact (h.base q m hq).2 b hb
  · rcases pre_cases (d ++ [k]) a with ⟨r, rfl⟩ | ea
    · rw [graftF_in] at ha ⊢
      rcases pre_cases (d ++ [k]) b with ⟨s, rfl⟩ | eb
      · rw [graftF_in] at hb ⊢
        intro e
        rw [h2.injA r s ha hb e]
      · rw [graftF_out _ _ _ eb] at hb ⊢
        intro e
        exact absurd (f2 ha (.inl e)) (hdis _ (f1 hb (.inl rfl)))
    · rw [graftF_out _ _ _ ea] at ha ⊢
      rcases pre_cases (d ++ [k]) b with ⟨s, rfl⟩ | eb
      · rw [graftF_in] at hb ⊢
        intro e
        exact absurd (f2 hb (.inl rfl)) (hdis _ (f1 ha (.inl e)))
      · rw [graftF_out _ _ _ eb] at hb ⊢
        exact h.injA a b ha hb
  · have key : ∀ q, (T q).isSome → setF M d m' q = some j → ¬ foot T2 A2 M2 V2 j := fun q hq e => by
      by_cases eq : q = d
      · rw [eq, setF_same] at e
        rcases hm with e2 | e2
        · exact hdis j (f1 hds (.inr (.inl (e2.symm.trans e))))
        · intro hf2
          have := h2.lt hf2
          have := e2 j e
          omega
      · rw [setF_other _ _ eq] at e
        exact hdis j (f1 hq (.inr (.inl e)))
    rcases pre_cases (d ++ [k]) a with ⟨r, rfl⟩ | ea
    · rw [graftF_in] at ha h3
      rcases pre_cases (d ++ [k]) b with ⟨s, rfl⟩ | eb
      · rw [graftF_in] at hb h4
        rw [h2.injM r s j ha hb h3 h4]
      · rw [graftF_out _ _ _ eb] at hb h4
        exact absurd (f2 ha (.inr (.inl h3))) (key b hb h4)
    · rw [graftF_out _ _ _ ea] at ha h3
      rcases pre_cases (d ++ [k]) b with ⟨s, rfl⟩ | eb
      · rw [graftF_in] at hb h4
        exact absurd (f2 hb (.inr (.inl h4))) (key a ha h3)
      · rw [graftF_out _ _ _ eb] at hb h4
        have one : ∀ q, (T q).isSome → q ≠ d → M q = some j → setF M d m' d = some j → False := fun q hq e1 e2 e3 => by
          rw [setF_same] at e3
          rcases hm with e4 | e4
          · exact e1 (h.injM q d j hq hds e2 (e4.symm.trans e3))
          · have := e4 j e3
            have := h.lt (f1 hq (.inr (.inl e2)))
            omega
        by_cases e1 : a = d
        · by_cases e2 : b = d
          · rw [e1, e2]
          · rw [setF_other _ _ e2] at h4
            rw [e1] at h3
            exact (one b hb e2 h4 h3).elim
        · by_cases e2 : b = d
          · rw [setF_other _ _ e1] at h3
            rw [e2] at h4
            exact (one a ha e1 h3 h4).elim
          · rw [setF_other _ _ e1] at h3
            rw [setF_other _ _ e2] at h4
            exact h.injM a b j ha hb h3 h4
  · rcases pre_cases (d ++ [k]) a with ⟨r, rfl⟩ | ea
    · rw [graftF_in] at ha h3
      rcases pre_cases (d ++ [k]) b with ⟨s, rfl⟩ | eb
      · rw [graftF_in] at hb h4
        rw [h2.injV r s j ha hb h3 h4]
      · rw [graftF_out _ _ _ eb] at hb h4
        exact absurd (f2 ha (.inr (.inr h3))) (hdis _ (f1 hb (.inr (.inr h4))))
    · rw [graftF_out _ _ _ ea] at ha h3
      rcases pre_cases (d ++ [k]) b with ⟨s, rfl⟩ | eb
      · rw [graftF_in] at hb h4
        exact absurd (f2 hb (.inr (.inr h4))) (hdis _ (f1 ha (.inr (.inr h3))))
      · rw [graftF_out _ _ _ eb] at hb h4
        exact h.injV a b j ha hb h3 h4
/-- A node by itself. -/
theorem TreeAt.leaf {n : Nd} {c : Nat} {v : Value} (hb : w.heap[c]? = some (.cells (ndC n v none).toArray 69 (0, 0))) (hd : w.ownsRow B 5 1 v n.data.length (u8s n.data)) (hB : B ≤ c) :
    TreeAt w B N c 69 [] (fun q => if q = [] then some n else none) (fun _ => c) (fun _ => none) (fun _ => v) := by
  have e0 : ∀ {p : Pth} {m : Nd}, (if p = [] then some n else none) = some m → p = [] ∧ m = n := fun {p m} h => by
    by_cases e : p = []
    · rw [if_pos e] at h; cases h; exact ⟨e, rfl⟩
    · rw [if_neg e] at h; cases h
  have e1 : ∀ {p : Pth}, (if p = [] then some n else none).isSome = true → p = [] := fun {p} h => by
    by_cases e : p = []
    · exact e
    · rw [if_neg e] at h; cases h
  refine ⟨rfl, ⟨n, if_pos rfl⟩, fun p k h => absurd (e1 h) (by simp), fun p m h => ?_, fun p m h => ?_, fun p m h => ⟨fun _ k => ?_, fun b e => (nomatch e)⟩, fun p m h => ⟨hB, fun b e => (nomatch e)⟩, fun p q hp hq _ => ?_, fun p q b hp hq e => (nomatch e), fun p q b hp hq _ _ => ?_⟩
  · obtain ⟨rfl, rfl⟩ := e0 h; simpa [tlOf, tyOf] using hb
  · obtain ⟨rfl, rfl⟩ := e0 h; exact hd
  · unfold kidsOf; rw [if_neg (by simp)]
  · rw [e1 hp, e1 hq]
  · rw [e1 hp, e1 hq]
end
end Go.Proofs.YtcmjpkfinbakkaaGreatDoor.Vf

namespace Go.Proofs.YtcmjpkfinbakkaaGreatDoor.Vf
set_option maxRecDepth 100000
open Go.RowKit Go.Maps Go.ChangeMaps
set_option linter.unusedVariables false
section
variable {w : World} {a : Nat} {cs : List Value} {ty : TypeId}
theorem cell_of (hb : w.heap[a]? = some (.cells cs.toArray ty (0, 0))) (i : Nat) : w.cell? ⟨a, i, none⟩ = cs[i]? := by
  simp only [World.cell?, hb]; simp
theorem free_of (hb : w.heap[a]? = some (.cells cs.toArray ty (0, 0))) (i : Nat) : w.frozen? ⟨a, i, none⟩ = false := by
  simp [World.frozen?, hb]
theorem set_of (hb : w.heap[a]? = some (.cells cs.toArray ty (0, 0))) (i : Nat) (v : Value) : (w.setCell ⟨a, i, none⟩ v).heap[a]? = some (.cells (cs.set i v).toArray ty (0, 0)) := by
  have h1 : (w.heap.modify a fun | .cells c elem frozen => Obj.cells (if (none : Option Nat).isSome then c else c.setIfInBounds i v) elem frozen | o => o)[a]? = some (.cells (cs.set i v).toArray ty (0, 0)) := by
    rw [Array.getElem?_modify, if_pos rfl, hb]; simp
  exact h1
theorem blk_lt (hb : w.heap[a]? = some (.cells cs.toArray ty (0, 0))) : a < w.heap.size := (Array.getElem?_eq_some_iff.1 hb).1
end
@[go_sem] theorem eqlMap45 (m : Option Nat) (w : World) : (binOp .eql 67 (.map m) (.map none)).run Tryz.prog w = .ok (.bool m.isNone) w := run_eql_map_nil w 67 9 72 m Tryz.underlying67
theorem addK (b k : Nat) : (⟨b, 0, none⟩ : Addr).add k = ⟨b, k, none⟩ := by unfold Addr.add; split <;> simp_all
def PutP (a kb N : Nat) (cs : List Value) (ty : TypeId) (m : Option Nat) (g : Bz → Option Nat) (s : ByteArray) (w : World) (e : Ending) (w' : World) : Prop :=
  e = .returned (.tuple #[]) ∧ ∃ m', w'.heap[a]? = some (.cells (cs.set 3 (.map m')).toArray ty (0, 0)) ∧ Kids w' (N + 1) m' (fun x => if x = s.data.toList then some kb else g x) ∧ Only (fun j => j = a ∨ m = some j) w w' ∧ ((m' = m ∧ m.isSome) ∨ (m = none ∧ m' = some w.heap.size))
set_option maxRecDepth 100000 in
set_option maxHeartbeats 2000000 in
theorem put_any (a kb N : Nat) (cs : List Value) (ty : TypeId) (m : Option Nat) (g : Bz → Option Nat) (s : ByteArray) (w : World) (hb : w.heap[a]? = some (.cells cs.toArray ty (0, 0))) (hc : cs[3]? = some (.map m)) (hk : Kids w N m g) (hs : s.size ≤ maxLen) (hN : N < maxLen) :
    Calls Tryz.prog 78 #[.pointer (some ⟨a, 0, none⟩), .string s, .pointer (some ⟨kb, 0, none⟩)] w (PutP a kb N cs ty m g s w) := by
  have hkey := Go.WideMaps.keyOf_string_mk Tryz.underlying9 hs
  have hval : ptrR (.pointer (some ⟨kb, 0, none⟩)) = some (.lit (.int .i64 kb), []) := rfl
  have HB := Lib.hid hb
  have HK := Lib.hid hk
  have hcell : w.cell? ⟨a, 3, none⟩ = some (.map m) := (cell_of hb 3).trans hc
  have hfree := free_of hb 3
  obtain ⟨Q', hQ⟩ : ∃ Q', PutP a kb N cs ty m g s w = Q' := ⟨_, rfl⟩
  rw [hQ]
  have HQ := Lib.hid hQ
  have HC := Lib.hid hc
  clear hb hk hQ hc
  cases m with
  | none =>
    have hmm := @run_makeMap Tryz.prog
    obtain ⟨hmade, hg0⟩ := kids_made w N g (fun k => HK.out.no rfl k)
    have HG := Lib.hid hg0
    have hlt := blk_lt HB.out
    have hne : w.heap.size ≠ a := by omega
    obtain ⟨w0, hw0⟩ : ∃ w0, (w.setCell ⟨a, 3, none⟩ (.map (some w.heap.size))).alloc (.map #[] 0) = w0 := ⟨_, rfl⟩
    have hown1 : w0.ownsMap Tryz.prog 9 ptrR w.heap.size 0 (.map []) := by
      have := World.ownsMap_made (w.setCell ⟨a, 3, none⟩ (.map (some w.heap.size))) Tryz.prog 9 ptrR
      rw [hw0] at this
      simpa using this
    have hb0 : Hid (w0.heap[a]? = some (.cells (cs.set 3 (.map (some w.heap.size))).toArray ty (0, 0))) := by
      show w0.heap[a]? = _
      rw [← hw0, (MapKept.heap_alloc _ _).2 a (by simpa using hlt)]
      exact set_of HB.out 3 _
    have ho0 : Hid (Only (fun j => j = a) w w0) := by
      show Only (fun j => j = a) w w0
      rw [← hw0]
      exact ((Only.refl (fun j => j = a) w).set (.inl rfl) 3 _).trans (Only.of_grown (S := fun j => j = a) (World.grownBy_alloc _ _ none) (fun k e => by cases e)) (fun _ h => h) (fun _ _ h => h)
    have HW := Lib.hid hw0
    clear hmade hg0 hw0
    go_enter Tryz.func78, Tryz.ntmps78
    go_wp2_with (at_mapUpdate; rw [HW.out]; refine wpList_mapUpdate_own _ rfl _ _ _ 67 rfl 9 72 keyedS Tryz.underlying67 _ w.heap.size 0 (.map []) rfl hown1 (by omega) _ _ (.string s.data.toList) rfl rfl hkey (.lit (.int .i64 kb)) [] hval ?_; intro w1 h1 g1)
    go_end0
    rw [← HQ.out]
    refine ⟨rfl, some w.heap.size, (g1.block a (blk_lt hb0.out) (by simpa using hne.symm)).trans hb0.out, Kids.of_put h1 (by omega) ⟨_, rfl⟩ HG.out (fun x => rfl), ?_, .inr ⟨rfl, rfl⟩⟩
    exact (ho0.out.trans (Only.of_grown g1 (S := fun j => j = w.heap.size) (fun k e => by cases e; rfl)) (fun i h => .inl h) (fun i hi h => by omega))
  | some b =>
    obtain ⟨nn, D, hnn, hown1, hg0⟩ := HK.out.yes b rfl
    have HG := Lib.hid hg0
    have hne : b ≠ a := by
      intro e
      obtain ⟨es, clock, h2, _⟩ := hown1
      have h3 := HB.out
      rw [← e, h2] at h3
      cases h3
    have hn1 : nn < maxLen := by omega
    clear hg0
    go_enter Tryz.func78, Tryz.ntmps78
    go_wp2_with (at_mapUpdate; refine wpList_mapUpdate_own _ rfl _ _ _ 67 rfl 9 72 keyedS Tryz.underlying67 _ b nn D rfl hown1 hn1 _ _ (.string s.data.toList) rfl rfl hkey (.lit (.int .i64 kb)) [] hval ?_; intro w1 h1 g1)
    go_end0
    rw [← HQ.out]
    refine ⟨rfl, some b, ?_, Kids.of_put h1 (by omega) (hown1.isMap) HG.out (fun x => rfl), Only.of_grown g1 (fun k e => by cases e; exact .inr rfl), .inl ⟨rfl, rfl⟩⟩
    rw [g1.block a (blk_lt HB.out) (by simpa using hne.symm), HB.out]
    congr 3
    have h4 := HC.out
    refine List.ext_getElem? fun i => ?_
    rw [List.getElem?_set]
    by_cases hi : 3 = i
    · subst hi
      rw [if_pos rfl, h4]
      have : 3 < cs.length := by
        by_cases hl : 3 < cs.length
        · exact hl
        · rw [List.getElem?_eq_none (by omega)] at h4; cases h4
      simp [this]
    · rw [if_neg hi]
end Go.Proofs.YtcmjpkfinbakkaaGreatDoor.Vf
