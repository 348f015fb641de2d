import Derived.Test.YtafbheplaheohaaMD
namespace Go.Proofs.Ytafbheplaheohaa
set_option linter.unusedVariables false
set_option autoImplicit false

/-! LexOps, LexTwos: operators one behind the other. -/
def opsL : List Bz := [[59, 59], [38, 38], [124, 124], [62, 62], [59], [124], [40], [41], [60], [62], [10]]
def opB (blank : Bool) (o : Bz) : Bz := if blank then 32 :: (o ++ [9]) else o
/-- The text behind the first operator. -/
def opsS (blank : Bool) : List Bz → Bz
  | [] => []
  | o :: r => 97 :: (opB blank o ++ opsS blank r)
def opsT : List Bz → List Tok
  | [] => []
  | o :: r => .word [txt 1 [97]] :: .op o :: opsT r
def opsA (blank : Bool) : List Bz → Bz
  | [] => []
  | o :: r => opB blank o ++ opsS blank r
def opsW : List Bz → List Tok
  | [] => []
  | o :: r => .op o :: opsT r
theorem opsS_app (blank : Bool) (o : Bz) : ∀ l, opsS blank (l ++ [o]) = opsS blank l ++ 97 :: opB blank o
  | [] => by simp [opsS]
  | x :: l => by simp [opsS, opsS_app blank o l]
theorem opsT_app (o : Bz) : ∀ l, opsT (l ++ [o]) = opsT l ++ [.word [txt 1 [97]], .op o]
  | [] => by simp [opsT]
  | x :: l => by simp [opsT, opsT_app o l]
theorem opsA_app (blank : Bool) (o : Bz) (l : List Bz) (h : l ≠ []) : opsA blank (l ++ [o]) = opsA blank l ++ 97 :: opB blank o := by
  cases l with
  | nil => exact absurd rfl h
  | cons x l => simp [opsA, opsS_app]
theorem opsW_app (o : Bz) (l : List Bz) (h : l ≠ []) : opsW (l ++ [o]) = opsW l ++ [.word [txt 1 [97]], .op o] := by
  cases l with
  | nil => exact absurd rfl h
  | cons x l => simp [opsW, opsT_app]
theorem operator_at {o t : Bz} (ho : o ∈ opsL) (ht : t = [] ∨ t.head? = some 9 ∨ t.head? = some 97) : operator (o ++ t) = o := by
  have key : ∀ t1 : Bz, operator (o ++ (9 :: t1)) = o ∧ operator (o ++ (97 :: t1)) = o ∧ operator (o ++ []) = o := by
    intro t1
    cases t1 with
    | nil => revert o; decide
    | cons a t2 =>
      simp only [opsL, List.mem_cons, List.not_mem_nil, or_false] at ho
      rcases ho with rfl | rfl | rfl | rfl | rfl | rfl | rfl | rfl | rfl | rfl | rfl <;> refine ⟨?_, ?_, ?_⟩ <;> simp [operator, ops3]
  rcases ht with rfl | ht | ht
  · exact (key []).2.2
  · cases t with
    | nil => cases ht
    | cons a t => simp at ht; subst ht; exact (key t).1
  · cases t with
    | nil => cases ht
    | cons a t => simp at ht; subst ht; exact (key t).2.1
theorem opsS_head (blank : Bool) (l : List Bz) : opsS blank l = [] ∨ (opsS blank l).head? = some 97 := by
  cases l with
  | nil => exact .inl rfl
  | cons o l => exact .inr rfl
/-- From behind an operator on. -/
theorem tok_ops (blank : Bool) : ∀ (l : List Bz) (f : Nat) (acc : List Tok), (∀ o ∈ l, o ∈ opsL) → (opsS blank l).length < f → tokF f ((if blank then [9] else []) ++ opsS blank l) acc = .ok (acc ++ opsT l)
  | [], f, acc, _, hf => by
    cases f with
    | zero => cases hf
    | succ f =>
      rw [show opsT [] = [] from rfl, List.append_nil]
      cases blank <;> exact tokF_nil rfl
  | o :: l, f, acc, h, hf => by
    have ho := h o (by simp)
    have ih := tok_ops blank l
    have hne : o ≠ [] := by intro e; subst e; revert ho; decide
    have hl1 : 0 < o.length := List.length_pos_iff.2 hne
    have hsep : ∀ t : Bz, ∃ c r, opB blank o ++ t = c :: r ∧ endsB 1 c = true ∧ opB blank o ++ t = (if blank then [32] else []) ++ (o ++ ((if blank then [9] else []) ++ t)) := by
      intro t
      cases blank with
      | true => exact ⟨32, o ++ ([9] ++ t), by simp [opB], rfl, by simp [opB]⟩
      | false =>
        cases o with
        | nil => exact absurd rfl hne
        | cons c r =>
          refine ⟨c, r ++ t, by simp [opB], ?_, by simp [opB]⟩
          have hd : ∀ o ∈ opsL, ∀ c, o.head? = some c → endsB 1 c = true := by decide
          exact hd _ ho c rfl
    obtain ⟨c, r, e1, e2, e3⟩ := hsep (opsS blank l)
    have hlen : (opsS blank (o :: l)).length = 1 + ((opB blank o).length + (opsS blank l).length) := by simp [opsS]; omega
    have hop : (opB blank o).length = o.length + if blank then 2 else 0 := by cases blank <;> simp [opB]
    obtain ⟨f, rfl⟩ : ∃ f', f = f' + 2 := ⟨f - 2, by omega⟩
    have sk : skipF false ((if blank then [9] else []) ++ opsS blank (o :: l)) = 97 :: (c :: r) := by
      rw [opsS, e1]; cases blank <;> rfl
    have hw : wordF 1 (97 :: (c :: r)) = .ok ([txt 1 [97]], c :: r) := by
      rw [wordF_eq, readC_else rfl (by decide) (by decide) (by decide) (by decide) (by decide), readC_end e2]; rfl
    rw [tokF_word sk (low_op (by decide) (by decide)) (by decide), hw]
    simp only
    rw [← e1, e3]
    have hoc : ∃ d q, o = d :: q ∧ skipF false (d :: (q ++ ((if blank then [9] else []) ++ opsS blank l))) = d :: (q ++ ((if blank then [9] else []) ++ opsS blank l)) := by
      cases o with
      | nil => exact absurd rfl hne
      | cons d q =>
        refine ⟨d, q, rfl, ?_⟩
        have hd : ∀ o ∈ opsL, ∀ c, o.head? = some c → isBlank c = false ∧ c ≠ 92 ∧ c ≠ 35 := by decide
        obtain ⟨g1, g2, g3⟩ := hd _ ho d rfl
        exact skip_stop g1 g2 g3
    obtain ⟨d, q, hdq, hsk⟩ := hoc
    have sk2 : skipF false ((if blank then [32] else []) ++ (o ++ ((if blank then [9] else []) ++ opsS blank l))) = d :: (q ++ ((if blank then [9] else []) ++ opsS blank l)) := by
      rw [hdq]
      cases blank with
      | false => exact hsk
      | true => exact (skipF_cons 32 _).trans hsk
    have hat : operator (d :: (q ++ ((if blank then [9] else []) ++ opsS blank l))) = o := by
      have := operator_at (o := o) (t := (if blank then [9] else []) ++ opsS blank l) ho (by
        cases blank with
        | true => exact .inr (.inl rfl)
        | false => exact (opsS_head false l).elim .inl (fun e => .inr (.inr e)))
      rw [hdq] at this ⊢
      exact this
    rw [tokF_op sk2 hat hne]
    rw [show d :: (q ++ ((if blank then [9] else []) ++ opsS blank l)) = o ++ ((if blank then [9] else []) ++ opsS blank l) by rw [hdq]; rfl, List.drop_left]
    rw [ih f _ (fun x hx => h x (List.mem_cons_of_mem _ hx)) (by rw [hlen, hop] at hf; omega)]
    simp [opsT]
theorem ops_tok (blank : Bool) (l : List Bz) (h : ∀ o ∈ l, o ∈ opsL) (f : Nat) (hf : (opsA blank l).length < f) : tokF f (opsA blank l) [] = .ok (opsW l) := by
  cases l with
  | nil =>
    cases f with
    | zero => cases hf
    | succ f => exact tokF_nil rfl
  | cons o l =>
    have ho := h o (by simp)
    have hne : o ≠ [] := by intro e; subst e; revert ho; decide
    have hl1 : 0 < o.length := List.length_pos_iff.2 hne
    obtain ⟨d, q, rfl⟩ : ∃ d q, o = d :: q := by
      cases o with
      | nil => exact absurd rfl hne
      | cons d q => exact ⟨d, q, rfl⟩
    have e3 : opsA blank ((d :: q) :: l) = (if blank then [32] else []) ++ ((d :: q) ++ ((if blank then [9] else []) ++ opsS blank l)) := by
      cases blank <;> simp [opsA, opB]
    have hd : ∀ o ∈ opsL, ∀ c, o.head? = some c → isBlank c = false ∧ c ≠ 92 ∧ c ≠ 35 := by decide
    obtain ⟨g1, g2, g3⟩ := hd _ ho d rfl
    have hsk : skipF false (d :: (q ++ ((if blank then [9] else []) ++ opsS blank l))) = d :: (q ++ ((if blank then [9] else []) ++ opsS blank l)) := skip_stop g1 g2 g3
    have sk2 : skipF false (opsA blank ((d :: q) :: l)) = d :: (q ++ ((if blank then [9] else []) ++ opsS blank l)) := by
      rw [e3]
      cases blank with
      | false => exact hsk
      | true => exact (skipF_cons 32 _).trans hsk
    have hat : operator (d :: (q ++ ((if blank then [9] else []) ++ opsS blank l))) = d :: q :=
      operator_at (o := d :: q) (t := (if blank then [9] else []) ++ opsS blank l) ho (by
        cases blank with
        | true => exact .inr (.inl rfl)
        | false => exact (opsS_head false l).elim .inl (fun e => .inr (.inr e)))
    have hlen : (opsS blank l).length + 1 < f := by
      rw [e3] at hf; cases blank <;> simp at hf <;> omega
    obtain ⟨f, rfl⟩ : ∃ f', f = f' + 1 := ⟨f - 1, by omega⟩
    rw [tokF_op sk2 hat hne]
    rw [show d :: (q ++ ((if blank then [9] else []) ++ opsS blank l)) = (d :: q) ++ ((if blank then [9] else []) ++ opsS blank l) by rfl, List.drop_left]
    rw [tok_ops blank l f _ (fun x hx => h x (List.mem_cons_of_mem _ hx)) (by omega)]
    rfl
theorem opB_len {o : Bz} (blank : Bool) (ho : o ∈ opsL) : (opB blank o).length ≤ 4 := by
  have hd : ∀ o ∈ opsL, o.length ≤ 2 := by decide
  have := hd o ho
  cases blank <;> simp [opB] <;> omega
theorem opB_nz {o : Bz} (blank : Bool) (ho : o ∈ opsL) : ∀ x ∈ opB blank o, x ≠ 0 := by
  have hd : ∀ b : Bool, ∀ o ∈ opsL, ∀ x ∈ opB b o, x ≠ 0 := by decide
  exact hd blank o ho
theorem opsS_len (blank : Bool) : ∀ l : List Bz, (∀ o ∈ l, o ∈ opsL) → (opsS blank l).length ≤ 5 * l.length
  | [], _ => by simp [opsS]
  | o :: l, h => by
    have h1 := opB_len blank (h o (by simp))
    have h2 := opsS_len blank l (fun x hx => h x (List.mem_cons_of_mem _ hx))
    simp [opsS]; omega
theorem opsS_nz (blank : Bool) : ∀ l : List Bz, (∀ o ∈ l, o ∈ opsL) → ∀ x ∈ opsS blank l, x ≠ 0
  | [], _ => by simp [opsS]
  | o :: l, h => by
    have h1 := opB_nz blank (h o (by simp))
    have h2 := opsS_nz blank l (fun x hx => h x (List.mem_cons_of_mem _ hx))
    intro x hx
    simp [opsS] at hx
    rcases hx with rfl | hx | hx
    · decide
    · exact h1 x hx
    · exact h2 x hx
theorem opsA_len (blank : Bool) (l : List Bz) (h : ∀ o ∈ l, o ∈ opsL) : (opsA blank l).length ≤ 5 * l.length := by
  cases l with
  | nil => simp [opsA]
  | cons o l =>
    have := opsS_len blank (o :: l) h
    simp [opsS, opsA] at this ⊢; omega
theorem ops_all (blank : Bool) (l : List Bz) (h : ∀ o ∈ l, o ∈ opsL) (hl : l.length ≤ 30) : tokensF (opsA blank l) = .ok (opsW l) := by
  have h1 := opsA_len blank l h
  have h2 : ∀ x ∈ opsA blank l, x ≠ 0 := by
    cases l with
    | nil => simp [opsA]
    | cons o l =>
      intro x hx
      exact opsS_nz blank (o :: l) h x (by simp [opsS, opsA] at hx ⊢; exact .inr hx)
  rw [tokensF_eq (mayN_ok (by omega) h2)]
  exact ops_tok blank l h _ (Nat.lt_succ_self _)
/-- Where a 2 ahead of a > belongs to it. -/
def twosS : List Bz := [[50, 62, 102], [97, 32, 50, 62, 102], [97, 50, 62, 102], [50, 32, 62, 102], [50, 62, 62, 102], [97, 32, 50, 62, 62, 102], [34, 50, 34, 62, 102], [49, 50, 62, 102], [51, 62, 102], [50, 60, 102], [36, 120, 50, 62, 102]]
def twosO : List Bz := [[50, 62], [50, 62], [62], [62], [50, 62, 62], [50, 62, 62], [62], [62], [62], [60], [62]]
def twosA : List Nat := [0, 1, 1, 1, 0, 1, 1, 1, 1, 1, 1]
def isOk (r : Res (List Tok)) (k : Nat) (o : Bz) : Bool := match r with
  | .error _ => false
  | .ok l => l.length == k + 2 && (match l[k]? with
    | some (.op t) => t == o
    | _ => false)
theorem twos_all : ∀ i, i < 11 → isOk (tokensF (twosS.getD i [])) (twosA.getD i 0) (twosO.getD i []) = true := by decide +kernel
end Go.Proofs.Ytafbheplaheohaa
