import Derived.Test.YtpgaeldjiiaoiaaQ
namespace Go.Proofs.Ytpgaeldjiiaoiaa
open Go.RowKit

/-- Bytes that lie in a row of bytes. -/
def R5 (w : World) (A : Option Addr) (n : Nat) (f : Nat → UInt8) : Prop := 0 < n → ∃ g cur, A = some ⟨g, 0, none⟩ ∧ w.heap[g]? = some (.cells cur 5 (0, 0)) ∧ ∀ i, i < n → cur[i]? = some (bv (f i))
def NotRow (w : World) (row : Option Nat) : Prop := ∀ b, row = some b → ∃ cur, w.heap[b]? = some (.cells cur 37 (0, 0))
theorem R5.grown {w w' : World} {row : Option Nat} {A : Option Addr} {n : Nat} {f : Nat → UInt8} (h : R5 w A n f) (hg : w.grownBy w' row) (hr : NotRow w row) : R5 w' A n f := by
  intro hn
  obtain ⟨g, cur, e, hh, hc⟩ := h hn
  refine ⟨g, cur, e, ?_, hc⟩
  rw [hg.block g (Array.getElem?_eq_some_iff.1 hh).1, hh]
  intro e'
  obtain ⟨cur', h'⟩ := hr g e'.symm
  rw [hh] at h'
  simp at h'
theorem R5.below {w w' : World} {A : Option Addr} {n : Nat} {f : Nat → UInt8} (h : R5 w A n f) (hb : Below w.heap.size w w') : R5 w' A n f := h.grown (gb_below hb) (fun b e => by cases e)
theorem R5.alloc {w : World} {A : Option Addr} {n : Nat} {f : Nat → UInt8} (h : R5 w A n f) (o : Obj) : R5 (w.alloc o) A n f := h.below ((Below.refl _ _).alloc (Nat.le_refl _) o)
theorem R5.rd {w : World} {A : Option Addr} {n : Nat} {f : Nat → UInt8} (h : R5 w A n f) : Rd w A n f := by
  intro hn
  obtain ⟨g, cur, e, hh, hc⟩ := h hn
  refine ⟨_, e, fun i hi => ?_⟩
  have ha : (⟨g, 0, none⟩ : Addr).add i = ⟨g, i, none⟩ := by unfold Addr.add; by_cases h : i = 0 <;> simp [h]
  rw [ha]
  simp [World.cell?, hh, hc i hi]
theorem R5.own {w : World} {B n C : Nat} {A : Option Addr} {l : List UInt8} (h : w.ownsRow B 5 1 (.slice A n C) n (l.map bv)) : R5 w A n (fun i => l.getD i 0) := by
  intro hn
  rcases h.2 with ⟨h1, _⟩ | ⟨g, cap, cur, h1, hb, hg, hnc, hcm, hcs, htake⟩
  · have := h.form hn
    obtain ⟨g, cap, e, _⟩ := this
    rw [h1] at e; cases e
  · injection h1 with e1 e2 e3
    refine ⟨g, cur, e1, hg, fun i hi => ?_⟩
    have hl : l.length = n := by have := h.1; simpa using this
    have : (l.map bv)[i]? = some (bv (l.getD i 0)) := by simp [hl, hi]
    rw [← htake, List.getElem?_take, if_pos (by omega)] at this
    simpa using this

structure RI where
  k : Nat
  c : UInt8
  nb : Bool
  A1 : Option Addr
  C1 : Nat
  A2 : Option Addr
  C2 : Nat
  ps : List (UInt8 × UInt8)
def RI.cs (x : RI) : List Value := [.int .i64 x.k, .int .u8 x.c.toNat, .bool x.nb, .slice x.A1 x.ps.length x.C1, .slice x.A2 x.ps.length x.C2]
structure RI.Ok (w : World) (x : RI) : Prop where
  lo : R5 w x.A1 x.ps.length (loAt x.ps)
  hi : R5 w x.A2 x.ps.length (hiAt x.ps)
  le : x.ps.length ≤ 100000
  k3 : x.k ≤ 3
theorem RI.Ok.grown {w w' : World} {row : Option Nat} {x : RI} (h : x.Ok w) (hg : w.grownBy w' row) (hr : NotRow w row) : x.Ok w' := ⟨h.lo.grown hg hr, h.hi.grown hg hr, h.le, h.k3⟩
def semR (x : RI) : It := if x.k = 1 then itStar else if x.k = 2 then itOne else if x.k = 3 then itSet (fun n => F x.ps n != x.nb) else itLit x.c
def flatR (xs : List RI) : List Value := xs.flatMap RI.cs
theorem flatR_snoc (xs : List RI) (x : RI) : flatR (xs ++ [x]) = flatR xs ++ x.cs := by simp [flatR]

def ItemsPost (w : World) (P : List It) (e : Ending) (w' : World) : Prop :=
  ∃ v xs, e = .returned v ∧ w'.ownsRow w.heap.size 37 5 v xs.length (flatR xs) ∧ (∀ x ∈ xs, x.Ok w') ∧ xs.map semR = P ∧ xs.length ≤ 100000 ∧ Below w.heap.size w w'

structure ItemsRel (s : ByteArray) (w wr : World) (P : List It) (v : Value) (k : Nat) (xs : List RI) : Prop where
  le : k ≤ s.size
  own : wr.ownsRow w.heap.size 37 5 v xs.length (flatR xs)
  cnt : xs.length ≤ k
  old : Below w.heap.size w wr
  ok : ∀ x ∈ xs, x.Ok wr
  rest : xs.map semR ++ pcs s (s.size + 1 - k) k true = P

theorem own59 {w : World} {B n : Nat} {v : Value} {l : List Value} (h : w.ownsRow B 37 5 v n l) : NotRow w v.ownBlock := by
  intro b hb
  rcases h.2 with ⟨h1, _⟩ | ⟨g, cap, cur, h1, _, hg, _⟩
  · rw [h1] at hb; cases hb
  · rw [h1] at hb
    simp [Value.ownBlock] at hb
    subst hb
    exact ⟨cur, hg⟩

/-- One item more: W is the world ahead of the append. -/
theorem ItemsRel.next {s : ByteArray} {w wr W w1 : World} {P : List It} {v v' : Value} {k k' : Nat} {xs : List RI} {x : RI} {it : It} (h : ItemsRel s w wr P v k xs) (hk : k < k') (hks : k' ≤ s.size)
    (hW : Below wr.heap.size wr W) (hx : x.Ok W) (hsem : semR x = it) (hit : pcs s (s.size + 1 - k) k true = it :: pcs s (s.size - k) k' true)
    (hown' : w1.ownsRow w.heap.size 37 5 v' (xs.length + 1) (flatR xs ++ x.cs)) (hg : W.grownBy w1 v.ownBlock) : ItemsRel s w w1 P v' k' (xs ++ [x]) := by
  have hownW := h.own.kept (gb_below hW) (own_em _)
  have hBW : Below w.heap.size w W := h.old.trans (hW.mono h.old.size)
  refine ⟨hks, by rw [flatR_snoc]; simpa using hown', by have := h.cnt; simp; omega, hBW.grown hg hBW.size (fun j hj => (h.own.lt j hj).1), ?_, ?_⟩
  · intro y hy
    rcases List.mem_append.1 hy with hy | hy
    · exact ((h.ok y hy).grown (gb_below hW) (fun b e => by cases e)).grown hg (own59 hownW)
    · rw [List.mem_singleton.1 hy]; exact hx.grown hg (own59 hownW)
  · have := h.rest
    rw [← this, hit, List.map_append, List.append_assoc, pcs_fuel s (s.size + 1 - k') (s.size - k) k' true (by omega) (by omega)]
    simp [hsem]

def plainR (k : Nat) (c : UInt8) : RI := ⟨k, c, false, none, 0, none, 0, []⟩
theorem plainR_ok (k : Nat) (c : UInt8) (w : World) (h : k ≤ 3) : (plainR k c).Ok w := ⟨fun h => absurd h (by simp [plainR]), fun h => absurd h (by simp [plainR]), by simp [plainR], h⟩
end Go.Proofs.Ytpgaeldjiiaoiaa
