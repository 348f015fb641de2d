import Derived.Test.YtafbheplaheohaaMI
namespace Go.Proofs.Ytafbheplaheohaa
set_option linter.unusedVariables false
set_option autoImplicit false

/-! How many parts a word has in all, those within others too. -/
def PS.wz (p : PS) : Nat := wsz p.list + p.bytes.length
theorem flush_wlen (p : PS) : wsz p.flush.list ≤ p.wz := by
  unfold PS.flush PS.wz
  by_cases h : p.bytes = []
  · simp [h]
  · have : 0 < p.bytes.length := List.length_pos_iff.2 h
    rw [if_neg h]
    show wsz (p.list ++ [txt p.kind p.bytes]) ≤ _
    rw [wsz_app]
    simp [wsz, psz, txt]; omega
theorem put_wz (p : PS) (k : Nat) (s : Bz) : (p.put k s).wz ≤ p.wz + s.length := by
  have hf := flush_wlen p
  unfold PS.put
  split
  · omega
  · split
    · show wsz p.list + (p.bytes ++ s).length ≤ _
      rw [List.length_append]; unfold PS.wz; omega
    · show wsz p.flush.list + s.length ≤ _
      omega
theorem add_wz (p : PS) (x : Prt) : (p.add x).wz ≤ p.wz + psz x := by
  have hf := flush_wlen p
  show wsz (p.flush.list ++ [x]) + 0 ≤ _
  rw [wsz_app]
  simp [wsz]; omega
theorem mark_wz (p : PS) : p.mark.wz = p.wz := rfl
theorem all_wz (p : PS) : wsz p.all ≤ p.wz + 1 := by
  have hf := flush_wlen p
  unfold PS.all
  split
  · simp [wsz, psz, txt]
  · omega
theorem escF_wz (q : Bool) (p : PS) (r : Bz) : (escF q p r).1.wz + (escF q p r).2.length ≤ p.wz + r.length + 1 := by
  cases r with
  | nil => have := put_wz p 2 [92]; unfold escF; simpa using this
  | cons c r =>
    rw [escF]
    split
    · have := put_wz p 2 [92]; simp at this ⊢; omega
    · split
      · simp; omega
      · have := put_wz p 2 [c]; simp at this ⊢; omega
theorem opOf_pos {u : Bz} (h : opOf u ≠ []) : 0 < (opOf u).length ∧ u ≠ [] := by
  refine ⟨List.length_pos_iff.2 h, fun e => h (by rw [e]; rfl)⟩
theorem braceF_wz {W : Bz → Res (List Prt × Bz)} {q : Bool} {d : Nat} {s : Bz} {x : Prt} {r : Bz} (hW : ∀ t w r, t.length ≤ s.length → W t = .ok (w, r) → wsz w + r.length ≤ t.length + 1) (h : braceF W q d s = .ok (x, r)) : psz x + r.length ≤ s.length := by
  have hh := headF_len s
  have h1 : (headF s).1 ≠ [] → (headF s).1 ≠ [76] → (headF s).2.2.length + 1 ≤ s.length := by
    intro a b
    by_cases hc : HeadC s
    · exact absurd (by rw [headF_yes hc]) b
    · rw [headF_no hc] at a ⊢
      simp only at a ⊢
      obtain ⟨k1, k2⟩ := opOf_pos a
      have : 0 < (s.drop (longParam s)).length := List.length_pos_iff.2 k2
      simp at this ⊢
      omega
  unfold braceF at h
  simp only at h
  split at h
  · cases h
  split at h
  · split at h
    · cases h
    · rename_i c r' e
      split at h
      · cases h
        rw [e] at hh
        simp [psz, wsz] at hh ⊢; omega
      · cases h
  rename_i g2
  split at h
  · cases h
  split at h
  · cases h
  · cases h
  · rename_i w c r' e
    have h2 := hW _ _ _ hh e
    have h3 := h1 (fun e => g2 (.inl e)) (fun e => g2 (.inr e))
    split at h
    · cases h
      simp [psz] at h2 ⊢; omega
    · cases h
theorem dollF_wz {W : Bz → Res (List Prt × Bz)} {q : Bool} {d : Nat} {p : PS} {s : Bz} {x : PS} {r : Bz} (hW : ∀ t w r, t.length ≤ s.length → W t = .ok (w, r) → wsz w + r.length ≤ t.length + 1) (h : dollF W q d p s = .ok (x, r)) : x.wz + r.length ≤ p.wz + s.length + 1 := by
  unfold dollF at h
  split at h
  · split at h
    · cases h
    · rename_i x' r' e
      cases h
      have h1 := braceF_wz (fun t w r ht hw => hW t w r (by simp at ht; omega) hw) e
      have h2 := add_wz p x'
      rw [List.length_tail] at h1; omega
  split at h
  · split at h
    · cases h
    · cases h; rename_i i _; have := add_wz p (.mk 4 ((s.drop 2).take i) [] [] [] q); simp [psz, wsz] at this ⊢; omega
  split at h
  · split at h
    · cases h
    · cases h; rename_i i _; have := add_wz p (.mk 5 (s.tail.take i) [] [] [] q); simp [psz, wsz] at this ⊢; omega
  split at h
  · cases h; have := add_wz p (.mk 3 [] (s.take (paramLen s)) [] [] q); simp [psz, wsz] at this ⊢; omega
  · cases h; have := put_wz p (if q then 2 else 1) [36]; simp at this ⊢; omega
theorem readF_wz : ∀ (f e : Nat) (q : Bool) (d : Nat) (p : PS) (s : Bz) (p' : PS) (r : Bz), readF f e q d p s = .ok (p', r) → p'.wz + r.length ≤ p.wz + s.length
  | 0, _, _, _, _, _, _, _, h => by cases h
  | f + 1, e, q, d, p, [], p', r, h => by rw [readF] at h; cases h; exact Nat.le_refl _
  | f + 1, e, q, d, p, c :: s, p', r, h => by
    rw [readF] at h
    have ih := readF_wz f
    split at h
    · cases h; exact Nat.le_refl _
    split at h
    · have := ih _ _ _ _ _ _ _ h
      have := escF_wz q p s
      simp; omega
    split at h
    · split at h
      · cases h
      · rename_i t r' e1
        have := ih _ _ _ _ _ _ _ h
        have h2 := congrArg List.length (cutAt_eq e1).1
        have h3 := put_wz p.mark 2 t
        rw [mark_wz] at h3
        simp at h2 ⊢; omega
    split at h
    · split at h
      · cases h
      · cases h
      · rename_i p1 c1 r1 e1
        have := ih _ _ _ _ _ _ _ h
        have h2 := ih _ _ _ _ _ _ _ e1
        rw [mark_wz] at h2
        simp at this h2 ⊢; omega
    split at h
    · split at h
      · cases h
      · rename_i p1 r1 e1
        have := ih _ _ _ _ _ _ _ h
        have := dollF_wz (fun t w r _ hw => by
          obtain ⟨p2, e2, rfl⟩ := allR_ok hw
          have k1 := ih _ _ _ _ _ _ _ e2
          have k2 := all_wz p2
          have k3 : ps0.wz = 0 := rfl
          omega) e1
        simp; omega
    split at h
    · cases h
    · have := ih _ _ _ _ _ _ _ h
      have := put_wz p (if q then 2 else 1) [c]
      simp at this ⊢; omega
theorem wordF_wz {e : Nat} {s : Bz} {w : List Prt} {r : Bz} (h : wordF e s = .ok (w, r)) : wsz w ≤ s.length + 1 := by
  obtain ⟨p2, e2, rfl⟩ := allR_ok h
  have k1 := readF_wz _ _ _ _ _ _ _ _ e2
  have k2 := all_wz p2
  have k3 : ps0.wz = 0 := rfl
  omega
def wszT : Tok → Nat | .op _ => 0 | .word w => wsz w
theorem tokC_wz (N : Nat) : ∀ (n : Nat) (s : Bz), s.length ≤ n → s.length + 1 ≤ N → ∀ (l x : List Tok), (∀ t ∈ l, wszT t ≤ N) → tokC s l = .ok x → ∀ t ∈ x, wszT t ≤ N := by
  intro n
  induction n with
  | zero =>
    intro s hn hN l x hl h
    have : s = [] := List.eq_nil_of_length_eq_zero (by omega)
    subst this
    rw [tokC_nil rfl] at h
    cases h; exact hl
  | succ n ih =>
    intro s hn hN l x hl h
    cases hs : skipF false s with
    | nil =>
      rw [tokC_nil hs] at h
      cases h; exact hl
    | cons c r =>
      have hsh := skip_short hs
      by_cases ho : operator (c :: r) = []
      · by_cases hc : c = 38
        · subst hc
          rw [tokC_bad hs ho] at h; cases h
        · cases hw : wordF 1 (c :: r) with
          | error y => rw [tokC_err hs ho hc hw] at h; cases h
          | ok z =>
            obtain ⟨w, r'⟩ := z
            obtain ⟨g3, g4⟩ := tokC_word (l := l) hs ho hc hw
            rw [g3] at h
            have hwz := wordF_wz hw
            refine ih r' (by omega) (by omega) _ _ (fun t ht => ?_) h
            rcases List.mem_append.1 ht with ht | ht
            · exact hl t ht
            · rw [List.mem_singleton.1 ht]
              simp [wszT] at hwz ⊢; omega
      · rw [tokC_op hs ho] at h
        obtain ⟨k1, k2, _⟩ := op_len _ ho
        refine ih _ (by simp at k2 ⊢; omega) (by simp at k2 ⊢; omega) _ _ (fun t ht => ?_) h
        rcases List.mem_append.1 ht with ht | ht
        · exact hl t ht
        · rw [List.mem_singleton.1 ht]
          exact Nat.zero_le _
theorem tokens_wz {s : Bz} {x : List Tok} (h : tokensF s = .ok x) : ∀ t ∈ x, wszT t ≤ s.length + 1 := by
  have hm : mayN s = 0 := by
    by_cases hm : mayN s = 0
    · exact hm
    · unfold tokensF at h
      rw [if_pos hm] at h; cases h
  rw [tokensF_all hm] at h
  exact tokC_wz _ s.length s (Nat.le_refl _) (Nat.le_refl _) [] x (fun t ht => by cases ht) h
end Go.Proofs.Ytafbheplaheohaa
