import Derived.Test.YtafbheplaheohaaMI
namespace Go.Proofs.Ytafbheplaheohaa
set_option linter.unusedVariables false
set_option autoImplicit false

/-! LexSplit and LexComments: mathematics. -/
theorem tokens_ok {s : Bz} {x : List Tok} (h : tokensF s = .ok x) : mayN s = 0 ∧ tokC s [] = .ok x := by
  by_cases hm : mayN s = 0
  · rw [tokensF_all hm] at h; exact ⟨hm, h⟩
  · unfold tokensF at h
    rw [if_pos hm] at h; cases h
theorem mayN_no0 {s : Bz} (h : mayN s = 0) : ∀ x ∈ s, x ≠ 0 := by
  unfold mayN at h
  split at h
  · cases h
  · split at h
    · cases h
    · rename_i h2
      intro x hx e
      subst e
      exact h2 (List.contains_iff_mem.2 hx)
theorem operator_10 (b : Bz) : operator (10 :: b) = [10] := by
  have key : ∀ o ∈ ops3, o.head? = some 10 → o = [10] := by decide
  have k2 : ops3.contains [10] = true := by decide
  have take : ∀ k, ops3.contains ((10 :: b).take (k + 1)) = true → (10 :: b).take (k + 1) = [10] := fun k h => key _ (List.contains_iff_mem.1 h) rfl
  unfold operator
  by_cases h3 : ops3.contains ((10 :: b).take 3) = true
  · rw [if_pos h3]; exact take 2 h3
  · rw [if_neg h3]
    by_cases h2 : ops3.contains ((10 :: b).take 2) = true
    · rw [if_pos h2]; exact take 1 h2
    · rw [if_neg h2]
      show (if ops3.contains [10] = true then [10] else []) = [10]
      rw [if_pos k2]
theorem tokC_line (b : Bz) (l : List Tok) : tokC (10 :: b) l = tokC b (l ++ [.op [10]]) := by
  have h1 : skipF false (10 :: b) = 10 :: b := skip_stop rfl (by decide) (by decide)
  rw [tokC_op h1 (by rw [operator_10]; simp), operator_10]; rfl
theorem tokC_blank (b : Bz) (l : List Tok) : tokC (32 :: b) l = tokC b l := tokC_skip (by rw [skipF_cons, if_pos (show isBlank 32 = true from rfl)])
theorem tokC_with {b : Bz} {y : List Tok} (h : tokC b [] = .ok y) (k : List Tok) : tokC b k = .ok (k ++ y) := by
  have := tokC_app b.length b [] k (Nat.le_refl _)
  rw [List.append_nil, h] at this
  exact this
def sepB (line : Bool) : UInt8 := if line then 10 else 32
def sepT (line : Bool) : List Tok := if line then [.op [10]] else []
theorem split_tokens {a b : Bz} {x y : List Tok} (hx : tokensF a = .ok x) (hy : tokensF b = .ok y) (ha : a.length ≤ 300) (hb : b.length ≤ 300) (hno : No92 a) (line : Bool) : tokensF (a ++ sepB line :: b) = .ok (x ++ sepT line ++ y) := by
  obtain ⟨a1, a2⟩ := tokens_ok hx
  obtain ⟨b1, b2⟩ := tokens_ok hy
  have hm : mayN (a ++ sepB line :: b) = 0 := mayN_ok (by simp; omega) (fun z hz => by
    rcases List.mem_append.1 hz with hz | hz
    · exact mayN_no0 a1 z hz
    · rcases List.mem_cons.1 hz with rfl | hz
      · cases line <;> decide
      · exact mayN_no0 b1 z hz)
  rw [tokensF_all hm, tokC_ext (t := sepB line :: b) ⟨_, _, rfl, by cases line <;> simp [sepB]⟩ a.length a (Nat.le_refl _) hno [] x a2]
  cases line with
  | true =>
    show tokC (10 :: b) x = .ok (x ++ [.op [10]] ++ y)
    rw [tokC_line]
    exact tokC_with b2 _
  | false =>
    show tokC (32 :: b) x = .ok (x ++ [] ++ y)
    rw [tokC_blank, List.append_nil]
    exact tokC_with b2 _
theorem skip_to : ∀ (a : Bz) (r : Bz), (∀ x ∈ a, x ≠ 10) → skipF true (a ++ 10 :: r) = 10 :: r
  | [], r, _ => by rw [List.nil_append, skipF, if_pos rfl]
  | c :: a, r, h => by
    rw [List.cons_append, skipF, if_neg (h c (by simp))]
    exact skip_to a r (fun x hx => h x (List.mem_cons_of_mem _ hx))
theorem skip_off : ∀ (a : Bz), (∀ x ∈ a, x ≠ 10) → skipF true a = []
  | [], _ => by rw [skipF]
  | c :: a, h => by
    rw [skipF, if_neg (h c (by simp))]
    exact skip_off a (fun x hx => h x (List.mem_cons_of_mem _ hx))
theorem comm_one {a b : Bz} {y : List Tok} (hy : tokensF b = .ok y) (ha : a.length ≤ 300) (hb : b.length ≤ 300) (h : ∀ x ∈ a, x ≠ 10 ∧ x ≠ 0) : tokensF (35 :: (a ++ 10 :: b)) = .ok (.op [10] :: y) := by
  obtain ⟨b1, b2⟩ := tokens_ok hy
  have hm : mayN (35 :: (a ++ 10 :: b)) = 0 := mayN_ok (by simp; omega) (fun z hz => by
    rcases List.mem_cons.1 hz with rfl | hz
    · decide
    rcases List.mem_append.1 hz with hz | hz
    · exact (h z hz).2
    · rcases List.mem_cons.1 hz with rfl | hz
      · decide
      · exact mayN_no0 b1 z hz)
  have hs : skipF false (35 :: (a ++ 10 :: b)) = skipF false (10 :: b) := by
    rw [skipF_cons, if_neg (by decide), if_neg (by decide), if_pos rfl, skip_to a b (fun x hx => (h x hx).1)]
    exact (skip_stop rfl (by decide) (by decide)).symm
  rw [tokensF_all hm, tokC_skip hs, tokC_line]
  exact tokC_with b2 _
theorem comm_two {a : Bz} (ha : a.length ≤ 300) (h : ∀ x ∈ a, x ≠ 10 ∧ x ≠ 0) : tokensF (120 :: 32 :: 35 :: a) = .ok [.word [txt 1 [120]]] := by
  have hm : mayN (120 :: 32 :: 35 :: a) = 0 := mayN_ok (by simp; omega) (fun z hz => by
    rcases List.mem_cons.1 hz with rfl | hz
    · decide
    rcases List.mem_cons.1 hz with rfl | hz
    · decide
    rcases List.mem_cons.1 hz with rfl | hz
    · decide
    exact (h z hz).2)
  have hw : wordF 1 (120 :: 32 :: 35 :: a) = .ok ([txt 1 [120]], 32 :: 35 :: a) := by
    rw [wordF_eq, show (120 :: 32 :: 35 :: a : Bz) = [120] ++ 32 :: 35 :: a from rfl, read_plain [120] _ _ (fun x hx => by
      rw [List.mem_singleton.1 hx]; exact low_plain (by decide) (by decide)), readC_end rfl]
    rfl
  rw [tokensF_all hm, (tokC_word (low_skip (by decide) (by decide)) (low_op (by decide) (by decide)) (by decide) hw).1]
  have hs : skipF false (32 :: 35 :: a) = [] := by
    rw [skipF_cons, if_pos (show isBlank 32 = true from rfl), skipF_cons, if_neg (by decide), if_neg (by decide), if_pos rfl]
    exact skip_off a (fun x hx => (h x hx).1)
  rw [tokC_nil hs]; rfl
theorem comm_three : tokensF [120, 35, 121] = .ok [.word [txt 1 [120, 35, 121]]] := by rfl
end Go.Proofs.Ytafbheplaheohaa
