import Derived.Test.YtafbheplaheohaaMD
namespace Go.Proofs.Ytafbheplaheohaa
set_option linter.unusedVariables false
set_option autoImplicit false

/-! Tokens, with fuel enough; how far a word goes. -/
theorem skipF_len : ∀ (b : Bool) (s : Bz), (skipF b s).length ≤ s.length
  | true, [] => Nat.le_refl _
  | false, [] => Nat.le_refl _
  | true, c :: r => by
    rw [skipF]
    have := skipF_len true r
    split
    · exact Nat.le_refl _
    · simp; omega
  | false, c :: r => by
    rw [skipF_cons]
    have h1 := skipF_len false r
    have h2 := skipF_len true r
    split
    · simp; omega
    · split
      · cases r with
        | nil => exact Nat.le_refl _
        | cons d r =>
          simp only
          have h3 := skipF_len false r
          split
          · simp; omega
          · exact Nat.le_refl _
      · split
        · simp; omega
        · exact Nat.le_refl _
  termination_by _ s => s.length
/-- Reading from a byte on that is no end goes over it. -/
theorem readF_prog {f e : Nat} {q : Bool} {d : Nat} {p : PS} {c : UInt8} {s : Bz} {p' : PS} {r : Bz} (he : endsB e c = false) (h : readF (f + 1) e q d p (c :: s) = .ok (p', r)) : r.length ≤ s.length := by
  rw [readF] at h
  rw [if_neg (by simp [he])] at h
  have ih := readF_len f
  split at h
  · have := ih _ _ _ _ _ _ _ h
    have := escF_len q p s
    omega
  split at h
  · split at h
    · cases h
    · rename_i t r' e1
      have := ih _ _ _ _ _ _ _ h
      have := cutAt_len e1
      omega
  split at h
  · split at h
    · cases h
    · cases h
    · rename_i p1 c1 r1 e1
      have := ih _ _ _ _ _ _ _ h
      have := ih _ _ _ _ _ _ _ e1
      simp at this; omega
  split at h
  · split at h
    · cases h
    · rename_i p1 r1 e1
      have := ih _ _ _ _ _ _ _ h
      have := dollF_len (fun t w r _ hw => by
        obtain ⟨p2, e2, _⟩ := allR_ok hw
        exact ih _ _ _ _ _ _ _ e2) e1
      omega
  split at h
  · cases h
  · exact ih _ _ _ _ _ _ _ h
/-- What skipping comes to is no blank, and no comment. -/
theorem skipF_head : ∀ (b : Bool) (s : Bz) (c : UInt8) (r : Bz), skipF b s = c :: r → isBlank c = false ∧ c ≠ 35 ∨ b = true ∧ c = 10
  | true, [], c, r, h => by cases h
  | false, [], c, r, h => by cases h
  | true, a :: s, c, r, h => by
    rw [skipF] at h
    split at h
    · cases h; right; exact ⟨rfl, by assumption⟩
    · exact (skipF_head true s c r h)
  | false, a :: s, c, r, h => by
    rw [skipF_cons] at h
    have key : ∀ (s : Bz), s.length ≤ (a :: s).length → True := fun _ _ => trivial
    split at h
    · exact skipF_head false s c r h
    · split at h
      · cases s with
        | nil => cases h; left; rename_i h1 h2; exact ⟨by simpa using h1, by rw [h2]; decide⟩
        | cons d s =>
          simp only at h
          split at h
          · exact skipF_head false s c r h
          · cases h; left; rename_i h1 h2 _; exact ⟨by simpa using h1, by rw [h2]; decide⟩
      · split at h
        · rcases skipF_head true s c r h with h1 | ⟨_, h1⟩
          · exact .inl h1
          · left; rw [h1]; exact ⟨rfl, by decide⟩
        · cases h; left; rename_i h1 _ h3; exact ⟨by simpa using h1, h3⟩
  termination_by _ s => s.length
/-- A byte at which an operator does not begin, nor a &, is none that ends a word. -/
theorem no_end {c : UInt8} {r : Bz} (hb : isBlank c = false) (ho : operator (c :: r) = []) (hc : c ≠ 38) : endsB 1 c = false := by
  have key1 : ∀ x ∈ ([59, 124, 40, 41, 60, 62, 10] : Bz), ops3.contains [x] = true := by decide
  have key : ∀ x : UInt8, x ∈ ([59, 124, 40, 41, 60, 62, 10] : Bz) → operator (x :: r) ≠ [] := by
    intro x hx he
    have h1 : ops3.contains [x] = true := key1 x hx
    unfold operator at he
    split at he
    · simp at he
    · split at he
      · simp at he
      · rw [show (x :: r).take 1 = [x] from rfl, if_pos h1] at he; cases he
  have k : ∀ x : UInt8, x ∈ ([59, 124, 40, 41, 60, 62, 10] : Bz) → c ≠ x := fun x hx e => key x hx (e ▸ ho)
  have e1 := k 59 (by decide)
  have e2 := k 124 (by decide)
  have e3 := k 40 (by decide)
  have e4 := k 41 (by decide)
  have e5 := k 60 (by decide)
  have e6 := k 62 (by decide)
  have e7 := k 10 (by decide)
  simp [endsB, separates, isSpace, hb, separs, e1, e2, e3, e4, e5, e6, e7, hc]
theorem word_prog {c : UInt8} {s : Bz} {w : List Prt} {r : Bz} (he : endsB 1 c = false) (h : wordF 1 (c :: s) = .ok (w, r)) : r.length ≤ s.length := by
  obtain ⟨p, h1, _⟩ := allR_ok h
  exact readF_prog he h1
theorem op_len (s : Bz) (h : operator s ≠ []) : 0 < (operator s).length ∧ (operator s).length ≤ s.length ∧ s = operator s ++ s.drop (operator s).length := by
  refine ⟨List.length_pos_iff.2 h, ?_, ?_⟩
  · unfold operator at h ⊢
    split
    · simp
      omega
    · split
      · simp; omega
      · split
        · simp; omega
        · simp
  · unfold operator at h ⊢
    split
    · rw [List.length_take]
      by_cases h3 : 3 ≤ s.length
      · rw [Nat.min_eq_left h3, List.take_append_drop]
      · rw [Nat.min_eq_right (by omega), List.drop_length, List.take_of_length_le (by omega), List.append_nil]
    · split
      · rw [List.length_take]
        by_cases h3 : 2 ≤ s.length
        · rw [Nat.min_eq_left h3, List.take_append_drop]
        · rw [Nat.min_eq_right (by omega), List.drop_length, List.take_of_length_le (by omega), List.append_nil]
      · split
        · rw [List.length_take]
          by_cases h3 : 1 ≤ s.length
          · rw [Nat.min_eq_left h3, List.take_append_drop]
          · rw [Nat.min_eq_right (by omega), List.drop_length, List.take_of_length_le (by omega), List.append_nil]
        · simp
theorem tokF_fuel : ∀ (f g : Nat) (s : Bz) (l : List Tok), s.length < f → s.length < g → tokF f s l = tokF g s l
  | 0, _, _, _, h, _ => absurd h (by omega)
  | _ + 1, 0, _, _, _, h => absurd h (by omega)
  | f + 1, g + 1, s, l, hf, hg => by
    have hsk := skipF_len false s
    cases hs : skipF false s with
    | nil => rw [tokF_nil hs, tokF_nil hs]
    | cons c r =>
      rw [hs] at hsk
      simp at hsk
      by_cases ho : operator (c :: r) = []
      · by_cases hc : c = 38
        · subst hc; rw [tokF_bad hs ho, tokF_bad hs ho]
        · rw [tokF_word hs ho hc, tokF_word hs ho hc]
          cases hw : wordF 1 (c :: r) with
          | error x => rfl
          | ok z =>
            obtain ⟨w, r'⟩ := z
            have hb : isBlank c = false := by
              rcases skipF_head false s c r hs with h | ⟨h, _⟩
              · exact h.1
              · cases h
            have := word_prog (no_end hb ho hc) hw
            exact tokF_fuel f g _ _ (by omega) (by omega)
      · rw [tokF_op hs rfl ho, tokF_op hs rfl ho]
        have := (op_len _ ho).1
        have hd : ((c :: r).drop (operator (c :: r)).length).length ≤ r.length := by simp; omega
        exact tokF_fuel f g _ _ (by omega) (by omega)
def tokC (s : Bz) (l : List Tok) : Res (List Tok) := tokF (s.length + 1) s l
theorem tokC_of {f : Nat} {s : Bz} {l : List Tok} (h : s.length < f) : tokF f s l = tokC s l := tokF_fuel _ _ _ _ h (Nat.lt_succ_self _)
section
variable {s : Bz} {l : List Tok} {c : UInt8} {r : Bz}
theorem skip_short (h : skipF false s = c :: r) : r.length < s.length := by
  have := skipF_len false s
  rw [h] at this; simp at this; omega
theorem tokC_nil (h : skipF false s = []) : tokC s l = .ok l := tokF_nil h
theorem tokC_op (h : skipF false s = c :: r) (ho : operator (c :: r) ≠ []) : tokC s l = tokC ((c :: r).drop (operator (c :: r)).length) (l ++ [.op (operator (c :: r))]) := by
  rw [tokC, tokF_op h rfl ho]
  have := (op_len _ ho).1
  have := skip_short h
  exact tokC_of (by simp; omega)
theorem tokC_bad (h : skipF false s = 38 :: r) (ho : operator (38 :: r) = []) : tokC s l = .error 2 := tokF_bad h ho
theorem tokC_err {x : Nat} (h : skipF false s = c :: r) (ho : operator (c :: r) = []) (hc : c ≠ 38) (hw : wordF 1 (c :: r) = .error x) : tokC s l = .error x := by
  rw [tokC, tokF_word h ho hc, hw]
theorem skip_end (h : skipF false s = c :: r) (ho : operator (c :: r) = []) (hc : c ≠ 38) : endsB 1 c = false := by
  refine no_end ?_ ho hc
  rcases skipF_head false s c r h with h | ⟨h, _⟩
  · exact h.1
  · cases h
theorem tokC_word {w : List Prt} {r' : Bz} (h : skipF false s = c :: r) (ho : operator (c :: r) = []) (hc : c ≠ 38) (hw : wordF 1 (c :: r) = .ok (w, r')) : tokC s l = tokC r' (l ++ [.word w]) ∧ r'.length ≤ r.length := by
  have hp := word_prog (skip_end h ho hc) hw
  refine ⟨?_, hp⟩
  rw [tokC, tokF_word h ho hc, hw]
  have := skip_short h
  exact tokC_of (by omega)
end
/-- Tokens, one behind the other. -/
theorem tokC_app : ∀ (n : Nat) (s : Bz) (l k : List Tok), s.length ≤ n → tokC s (k ++ l) = (match tokC s l with
    | .error x => .error x
    | .ok m => .ok (k ++ m))
  | n, s, l, k, hn => by
    cases hs : skipF false s with
    | nil => rw [tokC_nil hs, tokC_nil hs]
    | cons c r =>
      have hsh := skip_short hs
      by_cases ho : operator (c :: r) = []
      · by_cases hc : c = 38
        · subst hc; rw [tokC_bad hs ho, tokC_bad hs ho]
        · cases hw : wordF 1 (c :: r) with
          | error x => rw [tokC_err hs ho hc hw, tokC_err hs ho hc hw]
          | ok z =>
            obtain ⟨w, r'⟩ := z
            have h1 := tokC_word (l := l) hs ho hc hw
            have h2 := tokC_word (l := k ++ l) hs ho hc hw
            rw [h1.1, h2.1, List.append_assoc]
            cases n with
            | zero => omega
            | succ n => exact tokC_app n _ _ _ (by have := h1.2; omega)
      · rw [tokC_op hs ho, tokC_op hs ho, List.append_assoc]
        have := (op_len _ ho).1
        cases n with
        | zero => omega
        | succ n => exact tokC_app n _ _ _ (by simp; omega)
theorem tokensF_all {s : Bz} (h : mayN s = 0) : tokensF s = tokC s [] := by rw [tokensF_eq h]; rfl
/-! How many parts a word has in all. -/
mutual
def psz : Prt → Nat
  | .mk _ _ _ _ w _ => 1 + wsz w
def wsz : List Prt → Nat
  | [] => 0
  | x :: l => psz x + wsz l
end
theorem wsz_app : ∀ (a b : List Prt), wsz (a ++ b) = wsz a + wsz b
  | [], b => by simp [wsz]
  | x :: a, b => by simp [wsz, wsz_app a b]; omega
theorem psz_pos : ∀ x : Prt, psz x = 1 + wsz x.word
  | .mk _ _ _ _ _ _ => by rw [psz]; rfl
theorem wsz_len : ∀ l : List Prt, l.length ≤ wsz l
  | [] => Nat.zero_le _
  | x :: l => by have := wsz_len l; have := psz_pos x; simp [wsz]; omega
theorem wsz_at : ∀ (l : List Prt) (i : Nat) (h : i < l.length), wsz l[i].word < wsz l
  | [], _, h => absurd h (by simp)
  | x :: l, 0, _ => by have := psz_pos x; simp [wsz]; omega
  | x :: l, i + 1, h => by have := wsz_at l i (by simpa using h); simp [wsz]; omega
end Go.Proofs.Ytafbheplaheohaa
