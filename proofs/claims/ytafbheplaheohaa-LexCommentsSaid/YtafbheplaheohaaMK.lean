import Derived.Test.YtafbheplaheohaaMJ
namespace Go.Proofs.Ytafbheplaheohaa
set_option linter.unusedVariables false
set_option autoImplicit false

/-! The operators in the document's order: the first one that fits is the longest one. -/
def opsR : List Bz := [[59, 59], [38, 38], [124, 124], [62, 62], [50, 62, 62], [50, 62], [59], [124], [40], [41], [60], [62], [10]]
theorem opsR_sub : ∀ o ∈ ops3, o ∈ opsR := by decide
theorem opsR_sub' : ∀ o ∈ opsR, o ∈ ops3 ∧ 1 ≤ o.length ∧ o.length ≤ 3 := by decide
theorem pre_take {s o : Bz} (h : o.isPrefixOf s = true) : s.take o.length = o := (List.prefix_iff_eq_take.1 (List.isPrefixOf_iff_prefix.1 h)).symm
theorem take_pre (s : Bz) (n : Nat) : (s.take n).isPrefixOf s = true := List.isPrefixOf_iff_prefix.2 (List.take_prefix n s)
theorem operator_none3 {s : Bz} (h : ∀ o ∈ opsR, o.isPrefixOf s = false) : operator s = [] := by
  have key : ∀ n, ops3.contains (s.take n) = false := fun n => by
    rw [Bool.eq_false_iff]
    intro hc
    have := h _ (opsR_sub _ (List.contains_iff_mem.1 hc))
    rw [take_pre] at this; cases this
  unfold operator
  rw [key, key, key]; rfl
theorem take_take_pre (s : Bz) {m n : Nat} (h : m ≤ n) : (s.take m).isPrefixOf (s.take n) = true := by
  have : s.take m = (s.take n).take m := by rw [List.take_take, Nat.min_eq_left h]
  rw [this]; exact take_pre _ _
theorem operator_max {s o : Bz} (ho : o ∈ ops3) (h1 : 1 ≤ o.length) (h3 : o.length ≤ 3) (hp : o.isPrefixOf s = true) : operator s ∈ ops3 ∧ (operator s).isPrefixOf s = true ∧ o.isPrefixOf (operator s) = true := by
  have ht := pre_take hp
  unfold operator
  by_cases c3 : ops3.contains (s.take 3) = true
  · rw [if_pos c3]
    exact ⟨List.contains_iff_mem.1 c3, take_pre _ _, by rw [← ht]; exact take_take_pre s h3⟩
  rw [if_neg c3]
  have n3 : o.length ≠ 3 := fun e => c3 (by rw [← e, ht]; exact List.contains_iff_mem.2 ho)
  by_cases c2 : ops3.contains (s.take 2) = true
  · rw [if_pos c2]
    exact ⟨List.contains_iff_mem.1 c2, take_pre _ _, by rw [← ht]; exact take_take_pre s (by omega)⟩
  rw [if_neg c2]
  have n2 : o.length ≠ 2 := fun e => c2 (by rw [← e, ht]; exact List.contains_iff_mem.2 ho)
  have n1 : o.length = 1 := by omega
  have c1 : ops3.contains (s.take 1) = true := by rw [← n1, ht]; exact List.contains_iff_mem.2 ho
  rw [if_pos c1]
  exact ⟨List.contains_iff_mem.1 c1, take_pre _ _, by rw [← ht]; exact take_take_pre s (by omega)⟩
theorem opsR_ord : ∀ i : Fin 13, ∀ j : Fin 13, (opsR[i.val]?.getD []).isPrefixOf (opsR[j.val]?.getD []) = true → j ≤ i := by decide
def NoPre3 (l : Bz) (k : Nat) : Prop := ∀ o ∈ opsR.take k, o.isPrefixOf l = false
theorem NoPre3.succ {l : Bz} {k : Nat} (h : NoPre3 l k) {o : Bz} (ho : opsR[k]? = some o) (hp : o.isPrefixOf l = false) : NoPre3 l (k + 1) := by
  intro x hx
  rw [List.take_add_one, ho] at hx
  rcases List.mem_append.1 hx with hx | hx
  · exact h x hx
  · simp at hx; rw [hx]; exact hp
theorem NoPre3.hit {l : Bz} {k : Nat} (h : NoPre3 l k) {o : Bz} (ho : opsR[k]? = some o) (hp : o.isPrefixOf l = true) : operator l = o := by
  have hk : k < 13 := by
    by_cases hk : k < 13
    · exact hk
    · rw [List.getElem?_eq_none (by show opsR.length ≤ k; simp [opsR]; omega)] at ho; cases ho
  obtain ⟨m1, m2, m3⟩ := opsR_sub' o (List.mem_of_getElem? ho)
  obtain ⟨k1, k2, k3⟩ := operator_max m1 m2 m3 hp
  obtain ⟨j, hj⟩ := List.mem_iff_getElem?.1 (opsR_sub _ k1)
  have hj13 : j < 13 := by
    by_cases hk : j < 13
    · exact hk
    · rw [List.getElem?_eq_none (by show opsR.length ≤ j; simp [opsR]; omega)] at hj; cases hj
  have hle := opsR_ord ⟨k, hk⟩ ⟨j, hj13⟩ (by simp only [ho, hj, Option.getD_some]; exact k3)
  have hle : j ≤ k := hle
  by_cases e : j = k
  · subst e
    rw [ho] at hj
    injection hj with hj; exact hj.symm
  · have : (operator l).isPrefixOf l = false := h _ (List.mem_of_getElem? (i := j) (by rw [List.getElem?_take, if_pos (by omega)]; exact hj))
    rw [k2] at this; cases this
theorem NoPre3.all {l : Bz} (h : NoPre3 l 13) : operator l = [] := operator_none3 (fun o ho => h o ho)
/-- Skipping, as the document's reader does it. -/
theorem tokC_blank' {c : UInt8} {r : Bz} (h : isBlank c = true) (l : List Tok) : tokC (c :: r) l = tokC r l := tokC_skip (by rw [skipF_cons, if_pos h])
theorem tokC_join (r : Bz) (l : List Tok) : tokC (92 :: 10 :: r) l = tokC r l := tokC_skip (by rw [skipF_cons, if_neg (by decide), if_pos rfl]; rfl)
theorem skip_bs {r : Bz} (h : r.head? ≠ some 10) : skipF false (92 :: r) = 92 :: r := by
  rw [skipF_cons, if_neg (by decide), if_pos rfl]
  cases r with
  | nil => rfl
  | cons d r =>
    simp only
    rw [if_neg (fun e => h (by rw [e]; rfl))]
theorem skip_comm (r : Bz) : skipF false (35 :: r) = skipF true (35 :: r) := by
  rw [skipF_cons, if_neg (by decide), if_neg (by decide), if_pos rfl, show skipF true (35 :: r) = (if (35 : UInt8) = 10 then 35 :: r else skipF true r) from rfl, if_neg (by decide)]
theorem skipT_cons (c : UInt8) (r : Bz) : skipF true (c :: r) = if c = 10 then c :: r else skipF true r := rfl
theorem tokC_comm_end {s t : Bz} (l : List Tok) (h : skipF false s = skipF true t) (ht : t = [] ∨ t.head? = some 10) : tokC s l = tokC t l := by
  refine tokC_skip (h.trans ?_)
  rcases ht with rfl | ht
  · rfl
  · cases t with
    | nil => cases ht
    | cons c r =>
      have : c = 10 := by simpa using ht
      subst this
      rw [skipT_cons, if_pos rfl]
      exact (skip_stop rfl (by decide) (by decide)).symm
end Go.Proofs.Ytafbheplaheohaa
