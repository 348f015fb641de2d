import Derived.Test.YtjagnihkpgbjeaaDoorGF
namespace Go.Proofs.YtjagnihkpgbjeaaDoor
open Go.RowKit Go.Maps Go.ChangeMaps
set_option linter.unusedVariables false
/-! A file system beside blocks X of the call's own. -/
structure Sy (B : Nat) (X : Nat → Prop) (w : World) (N f : Nat) (c : Cn) (T : Tr) : Prop where
  fs : ∃ F : Nat → Prop, Fs w B N f c T F ∧ ∀ j, F j → B ≤ j ∧ j < w.heap.size ∧ ¬ X j
  le : B ≤ w.heap.size
theorem Sy.sx {B : Nat} {X : Nat → Prop} {w : World} {N f : Nat} {c : Cn} {T : Tr} (h : Sy B X w N f c T) : Sx B w N f c T := by
  obtain ⟨⟨F, h1, h2⟩, h3⟩ := h
  exact ⟨⟨F, h1, fun j hj => ⟨(h2 j hj).1, (h2 j hj).2.1⟩⟩, h3⟩
theorem Sx.sy {B : Nat} {X : Nat → Prop} {w : World} {N f : Nat} {c : Cn} {T : Tr} (h : Sx B w N f c T) (hX : ∀ j, X j → w.heap.size ≤ j) : Sy B X w N f c T := by
  obtain ⟨⟨F, h1, h2⟩, h3⟩ := h
  exact ⟨⟨F, h1, fun j hj => ⟨(h2 j hj).1, (h2 j hj).2, fun e => by have := (h2 j hj).2; have := hX j e; omega⟩⟩, h3⟩
theorem Sy.below {B : Nat} {X : Nat → Prop} {w w' : World} {N f : Nat} {c : Cn} {T : Tr} (h : Sy B X w N f c T) (hb : Below w.heap.size w w') : Sy B X w' N f c T := by
  obtain ⟨⟨F, h1, h2⟩, h3⟩ := h
  exact ⟨⟨F, h1.below hb, fun j hj => ⟨(h2 j hj).1, Nat.lt_of_lt_of_le (h2 j hj).2.1 hb.size, (h2 j hj).2.2⟩⟩, Nat.le_trans h3 hb.size⟩
theorem Sy.set {B : Nat} {X : Nat → Prop} {w : World} {N f : Nat} {c : Cn} {T : Tr} (h : Sy B X w N f c T) {b : Nat} (hb : X b) (i : Nat) (v : Value) : Sy B X (w.setCell ⟨b, i, none⟩ v) N f c T := by
  obtain ⟨⟨F, ⟨A, M, V, h1, h4, h5⟩, h2⟩, h3⟩ := h
  refine ⟨⟨F, ⟨A, M, V, h1.only (X := fun k => k = b) ((Only.refl (fun k => k = b) w).set (.inl rfl) i v) (fun k hk hf => ?_), h4, h5⟩, fun j hj => ?_⟩, by simpa using h3⟩
  · subst hk; exact (h2 k (h4 k hf)).2.2 hb
  · have := h2 j hj
    exact ⟨this.1, by simpa using this.2.1, this.2.2⟩
theorem Sy.mut {B : Nat} {X : Nat → Prop} {w w' : World} {N f : Nat} {c c' : Cn} {T T' : Tr} {F : Nat → Prop} {er : Int} {e : Ending} (h1 : Fs w B N f c T F) (h2 : ∀ j, F j → B ≤ j ∧ j < w.heap.size ∧ ¬ X j) (h3 : B ≤ w.heap.size) (hX : ∀ j, X j → j < w.heap.size) (h : MutP w B N f F er T' c' e w') :
    e = .returned (.int .i64 er) ∧ Sy B X w' (N + 1) f c' T' ∧ Below B w w' ∧ ∀ j, X j → w'.heap[j]? = w.heap[j]? := by
  obtain ⟨e1, e2, e3⟩ := h.fs
  refine ⟨e1, ⟨⟨_, e2, fun j hj => ⟨?_, hj.2, ?_⟩⟩, Nat.le_trans h3 e3.size⟩, e3.below (fun k hk => (h2 k hk).1) h3, fun j hj => e3.block j (hX j hj) (fun e => (h2 j e).2.2 hj)⟩
  · rcases hj.1 with h | h
    · exact (h2 j h).1
    · exact Nat.le_trans h3 h
  · rcases hj.1 with h | h
    · exact (h2 j h).2.2
    · exact fun e => by have := hX j e; omega
/-! The times of three files. -/
def nmT (j : Nat) : Bz := [UInt8.ofNat (97 + j)]
def ndT (t : Nat) : Option Nd := if t = 0 then none else some ⟨true, [], t⟩
def cn1 (t : Nat) : Int := if t = 0 then 0 else 1
structure St (T : Tr) (c : Cn) (t : Nat → Nat) (k : Nat) : Prop where
  nd : ∀ j, j < 3 → T [nmT j] = ndT (t j)
  cn : c = ⟨10, 10, cn1 (t 0) + cn1 (t 1) + cn1 (t 2), 0, k⟩
  le : ∀ j, j < 3 → t j ≤ k
def updT (t : Nat → Nat) (j v i : Nat) : Nat := if i = j then v else t i
theorem nmT_nm (j : Nat) (h : j < 3) : Nm (nmT j) := by
  have hc : j = 0 ∨ j = 1 ∨ j = 2 := by omega
  rcases hc with rfl | rfl | rfl
  · exact nmA
  · exact nmB
  · exact nmC
theorem nmT_ne (i j : Nat) (hi : i < 3) (hj : j < 3) (h : i ≠ j) : nmT i ≠ nmT j := by
  have ci : i = 0 ∨ i = 1 ∨ i = 2 := by omega
  have cj : j = 0 ∨ j = 1 ∨ j = 2 := by omega
  rcases ci with rfl | rfl | rfl <;> rcases cj with rfl | rfl | rfl <;> first | exact absurd rfl h | decide
theorem cn1_le (t : Nat) : 0 ≤ cn1 t ∧ cn1 t ≤ 1 := by unfold cn1; split <;> omega
theorem St.ok {T : Tr} {c : Cn} {t : Nat → Nat} {k : Nat} (h : St T c t k) (hk : k ≤ 1000) : c.Ok := by
  have := cn1_le (t 0); have := cn1_le (t 1); have := cn1_le (t 2)
  rw [h.cn]
  exact ⟨⟨by show (0 : Int) ≤ 10; omega, by show (10 : Int) ≤ _; omega⟩, ⟨by show (0 : Int) ≤ 10; omega, by show (10 : Int) ≤ _; omega⟩, ⟨by show 0 ≤ cn1 (t 0) + cn1 (t 1) + cn1 (t 2); omega, by show cn1 (t 0) + cn1 (t 1) + cn1 (t 2) ≤ _; omega⟩, ⟨by show (0 : Int) ≤ 0; omega, by show (0 : Int) ≤ _; omega⟩, ⟨by show (0 : Int) ≤ k; omega, by show (k : Int) ≤ _; omega⟩⟩
theorem St.next {T : Tr} {c : Cn} {t : Nat → Nat} {k : Nat} (h : St T c t k) (j : Nat) (hj : j < 3) (x : Int) (hx : x = cn1 (updT t j (k + 1) 0) + cn1 (updT t j (k + 1) 1) + cn1 (updT t j (k + 1) 2)) :
    St (setF T [nmT j] (some ⟨true, [], c.clock + 1⟩)) ⟨c.nodes, c.bytes, x, c.size, c.clock + 1⟩ (updT t j (k + 1)) (k + 1) := by
  have hc := h.cn
  subst hc
  refine ⟨fun i hi => ?_, by rw [hx]; simp, fun i hi => ?_⟩
  · by_cases e : i = j
    · subst e
      rw [setF_same]
      simp [updT, ndT]
    · rw [setF_other _ _ (by intro e2; exact nmT_ne i j hi hj e (by simpa using e2)), h.nd i hi]
      simp [updT, e]
  · unfold updT
    split
    · exact Nat.le_refl _
    · exact Nat.le_succ_of_le (h.le i hi)
theorem cn_upd (t : Nat → Nat) (j k : Nat) (hj : j < 3) : cn1 (updT t j (k + 1) 0) + cn1 (updT t j (k + 1) 1) + cn1 (updT t j (k + 1) 2) = cn1 (t 0) + cn1 (t 1) + cn1 (t 2) + (1 - cn1 (t j)) := by
  have hc : j = 0 ∨ j = 1 ∨ j = 2 := by omega
  rcases hc with rfl | rfl | rfl <;> simp [updT, cn1] <;> omega
theorem Touch_st {B : Nat} {X : Nat → Prop} {w : World} {N f : Nat} {c : Cn} {T : Tr} {t : Nat → Nat} {k : Nat} (h : Sy B X w N f c T) (hX : ∀ j, X j → j < w.heap.size) (hS : St T c t k) (hk : k ≤ 100) (hN : N < maxLen) (j : Nat) (hj : j < 3) :
    Calls Tryd.prog 21 #[.pointer (some ⟨f, 0, none⟩), .string (pathB (nmT j))] w fun e w' => e = .returned (.int .i64 0) ∧ (∃ c' T', Sy B X w' (N + 1) f c' T' ∧ St T' c' (updT t j (k + 1)) (k + 1)) ∧ Below B w w' ∧ ∀ j, X j → w'.heap[j]? = w.heap[j]? := by
  obtain ⟨⟨F, h1, h2⟩, h3⟩ := h
  have hcn := hS.cn
  have hok := hS.ok (by omega)
  have b0 := cn1_le (t 0); have b1 := cn1_le (t 1); have b2 := cn1_le (t 2)
  by_cases ht : t j = 0
  · have hn : T [nmT j] = none := by rw [hS.nd j hj, ht]; rfl
    refine (TouchN h1 (nmT_nm j hj) hn hok hN h3 (by rw [hcn]; show ¬ (10 : Int) ≤ cn1 (t 0) + cn1 (t 1) + cn1 (t 2); omega) (by rw [hcn]; show (0 : Int) ≤ 10; omega)).mono ?_
    intro e w' hm
    obtain ⟨e1, e2, e3, e4⟩ := Sy.mut h1 h2 h3 hX hm
    exact ⟨e1, ⟨_, _, e2, hS.next j hj _ (by rw [cn_upd t j k hj, hcn]; show cn1 (t 0) + cn1 (t 1) + cn1 (t 2) + 1 = _; simp [cn1, ht])⟩, e3, e4⟩
  · have hn : T [nmT j] = some ⟨true, [], t j⟩ := by rw [hS.nd j hj]; simp [ndT, ht]
    refine (TouchO h1 (nmT_nm j hj) hn hok).mono ?_
    intro e w' hm
    obtain ⟨e1, e2, e3, e4⟩ := Sy.mut h1 h2 h3 hX hm
    exact ⟨e1, ⟨_, _, e2, hS.next j hj _ (by rw [cn_upd t j k hj, hcn]; show cn1 (t 0) + cn1 (t 1) + cn1 (t 2) = _; simp [cn1, ht])⟩, e3, e4⟩
/-! What Old and Newer say of them. -/
def wantT (t : Nat → Nat) : Bool := decide (t 0 = 0) || (decide (t 0 < t 1) || decide (t 0 < t 2))
theorem tm_st {T : Tr} {c : Cn} {t : Nat → Nat} {k : Nat} (h : St T c t k) (j : Nat) (hj : j < 3) : tmF T (nmT j) = t j := by
  unfold tmF
  rw [h.nd j hj]
  unfold ndT
  by_cases e : t j = 0
  · rw [if_pos e, e]; rfl
  · rw [if_neg e]
theorem th_st {T : Tr} {c : Cn} {t : Nat → Nat} {k : Nat} (h : St T c t k) (j : Nat) (hj : j < 3) : thF T (nmT j) = decide (t j ≠ 0) := by
  unfold thF
  rw [h.nd j hj]
  unfold ndT
  by_cases e : t j = 0
  · rw [if_pos e]; simp [e]
  · rw [if_neg e]; simp [e]
theorem newer_st {T : Tr} {c : Cn} {t : Nat → Nat} {k : Nat} (h : St T c t k) : ([[98], [99]] : List Bs).filter (fun x => decide (tmF T [97] < tmF T x)) = (if t 0 < t 1 then [[98]] else []) ++ (if t 0 < t 2 then [[99]] else []) := by
  have h0 : tmF T [97] = t 0 := tm_st h 0 (by omega)
  have h1 : tmF T [98] = t 1 := tm_st h 1 (by omega)
  have h2 : tmF T [99] = t 2 := tm_st h 2 (by omega)
  by_cases a : t 0 < t 1 <;> by_cases b : t 0 < t 2 <;> simp [h0, h1, h2, a, b]
theorem old_st {T : Tr} {c : Cn} {t : Nat → Nat} {k : Nat} (h : St T c t k) : oldF [] T [97] [[98], [99]] [] = wantT t := by
  have h0 : thF T [97] = decide (t 0 ≠ 0) := th_st h 0 (by omega)
  have hh : hasF [] phB.data.toList [97] = false := by decide
  unfold oldF wantT newerF
  rw [hh, h0, newer_st h]
  by_cases z : t 0 = 0
  · simp [z]
  · by_cases a : t 0 < t 1 <;> by_cases b : t 0 < t 2 <;> simp [z, a, b]
end Go.Proofs.YtjagnihkpgbjeaaDoor
