import Derived.Test.YtafbheplaheohaaMA
namespace Go.Proofs.Ytafbheplaheohaa
set_option linter.unusedVariables false
set_option autoImplicit false

theorem cutAt_eq : ∀ {q : UInt8} {s t r : Bz}, cutAt q s = some (t, r) → s = t ++ q :: r ∧ ∀ x ∈ t, x ≠ q
  | q, [], t, r, h => by cases h
  | q, c :: s, t, r, h => by
    unfold cutAt at h
    by_cases e : c = q
    · rw [if_pos e] at h; cases h; exact ⟨by rw [e]; rfl, by simp⟩
    · rw [if_neg e] at h
      cases h1 : cutAt q s with
      | none => rw [h1] at h; cases h
      | some x =>
        obtain ⟨t', r'⟩ := x
        rw [h1] at h; cases h
        obtain ⟨i, j⟩ := cutAt_eq h1
        refine ⟨by rw [i]; rfl, fun x hx => ?_⟩
        rcases List.mem_cons.1 hx with rfl | hx
        · exact e
        · exact j x hx
theorem cutAt_len {q : UInt8} {s t r : Bz} (h : cutAt q s = some (t, r)) : r.length < s.length := by
  rw [(cutAt_eq h).1]; simp; omega
theorem cutAt_none : ∀ {q : UInt8} {s : Bz}, cutAt q s = none → ∀ x ∈ s, x ≠ q
  | q, [], h => by simp
  | q, c :: s, h => by
    unfold cutAt at h
    by_cases e : c = q
    · rw [if_pos e] at h; cases h
    · rw [if_neg e] at h
      cases h1 : cutAt q s with
      | none =>
        intro x hx
        rcases List.mem_cons.1 hx with rfl | hx
        · exact e
        · exact cutAt_none h1 x hx
      | some x => rw [h1] at h; cases h
theorem escF_len (q : Bool) (p : PS) (s : Bz) : (escF q p s).2.length ≤ s.length := by
  cases s with
  | nil => exact Nat.le_refl _
  | cons c r =>
    rw [escF]
    split
    · exact Nat.le_refl _
    · split <;> simp
theorem headF_len (s : Bz) : (headF s).2.2.length ≤ s.length := by
  unfold headF
  split
  · simp
  · simp
theorem braceF_len {W : Bz → Res (List Prt × Bz)} {q : Bool} {d : Nat} {s : Bz} {x : Prt} {r : Bz} (hW : ∀ t w r, t.length ≤ s.length → W t = .ok (w, r) → r.length ≤ t.length) (h : braceF W q d s = .ok (x, r)) : r.length < s.length := by
  have hh := headF_len s
  unfold braceF at h
  simp only at h
  split at h
  · cases h
  split at h
  · split at h
    · cases h
    · rename_i c r' e
      split at h
      · cases h
        rw [e] at hh; simp at hh; omega
      · cases h
  split at h
  · cases h
  split at h
  · cases h
  · cases h
  · rename_i w c r' e
    have := hW _ _ _ hh e
    split at h
    · cases h
      simp at this; omega
    · cases h
theorem braceF_congr {W W' : Bz → Res (List Prt × Bz)} {q : Bool} {d : Nat} {s : Bz} (h : ∀ t, t.length ≤ s.length → W t = W' t) : braceF W q d s = braceF W' q d s := by
  unfold braceF
  simp only [h _ (headF_len s)]
theorem dollF_len {W : Bz → Res (List Prt × Bz)} {q : Bool} {d : Nat} {p : PS} {s : Bz} {x : PS} {r : Bz} (hW : ∀ t w r, t.length ≤ s.length → W t = .ok (w, r) → r.length ≤ t.length) (h : dollF W q d p s = .ok (x, r)) : r.length ≤ s.length := by
  unfold dollF at h
  split at h
  · split at h
    · cases h
    · rename_i x' r' e
      cases h
      have := braceF_len (fun t w r ht hw => hW t w r (by simp at ht; omega) hw) e
      simp at this; omega
  split at h
  · split at h
    · cases h
    · cases h; simp
  split at h
  · split at h
    · cases h
    · cases h; simp
  split at h
  · cases h; simp
  · cases h; exact Nat.le_refl _
theorem dollF_congr {W W' : Bz → Res (List Prt × Bz)} {q : Bool} {d : Nat} {p : PS} {s : Bz} (h : ∀ t, t.length ≤ s.length → W t = W' t) : dollF W q d p s = dollF W' q d p s := by
  unfold dollF
  rw [braceF_congr (s := s.tail) (fun t ht => h t (by simp at ht; omega))]
theorem allR_ok {x : Res (PS × Bz)} {w : List Prt} {r : Bz} (h : allR x = .ok (w, r)) : ∃ p, x = .ok (p, r) ∧ w = p.all := by
  unfold allR at h
  split at h
  · cases h
  · cases h; exact ⟨_, rfl, rfl⟩
theorem readF_len : ∀ (f e : Nat) (q : Bool) (d : Nat) (p : PS) (s : Bz) (p' : PS) (r : Bz), readF f e q d p s = .ok (p', r) → r.length ≤ s.length
  | 0, _, _, _, _, _, _, _, h => by cases h
  | f + 1, e, q, d, p, [], p', r, h => by rw [readF] at h; cases h; exact Nat.le_refl _
  | f + 1, e, q, d, p, c :: s, p', r, h => by
    rw [readF] at h
    have ih := readF_len f
    split at h
    · cases h; exact Nat.le_refl _
    split at h
    · have := ih _ _ _ _ _ _ _ h
      have := escF_len q p s
      simp; omega
    split at h
    · split at h
      · cases h
      · rename_i t r' e1
        have := ih _ _ _ _ _ _ _ h
        have := cutAt_len e1
        simp; omega
    split at h
    · split at h
      · cases h
      · cases h
      · rename_i p1 c1 r1 e1
        have := ih _ _ _ _ _ _ _ h
        have := ih _ _ _ _ _ _ _ e1
        simp at this ⊢; omega
    split at h
    · split at h
      · cases h
      · rename_i p1 r1 e1
        have := ih _ _ _ _ _ _ _ h
        have := dollF_len (fun t w r _ hw => by
          obtain ⟨p2, e2, _⟩ := allR_ok hw
          exact ih _ _ _ _ _ _ _ e2) e1
        simp; omega
    split at h
    · cases h
    · have := ih _ _ _ _ _ _ _ h
      simp; omega
theorem readF_fuel : ∀ (f g e : Nat) (q : Bool) (d : Nat) (p : PS) (s : Bz), s.length < f → s.length < g → readF f e q d p s = readF g e q d p s
  | 0, _, _, _, _, _, _, h, _ => absurd h (by omega)
  | _ + 1, 0, _, _, _, _, _, _, h => absurd h (by omega)
  | f + 1, g + 1, e, q, d, p, [], _, _ => by rw [readF, readF]
  | f + 1, g + 1, e, q, d, p, c :: s, hf, hg => by
    have hf : s.length < f := by simp at hf; omega
    have hg : s.length < g := by simp at hg; omega
    have ih := fun e q d p (t : Bz) (h : t.length ≤ s.length) => readF_fuel f g e q d p t (by omega) (by omega)
    rw [readF, readF]
    rw [dollF_congr (W := fun s => allR (readF f 2 q (d + 1) ps0 s)) (W' := fun s => allR (readF g 2 q (d + 1) ps0 s)) (fun t ht => by simp only [ih _ _ _ _ t ht])]
    rw [ih 3 true d p.mark s (Nat.le_refl _)]
    rw [ih e q d (escF q p s).1 (escF q p s).2 (escF_len q p s)]
    rw [ih e q d _ s (Nat.le_refl _)]
    have h1 : ∀ t r', cutAt 39 s = some (t, r') → readF f e q d (p.mark.put 2 t) r' = readF g e q d (p.mark.put 2 t) r' := fun t r' h => ih _ _ _ _ _ (Nat.le_of_lt (cutAt_len h))
    have h2 : ∀ p' c' r', readF g 3 true d p.mark s = .ok (p', c' :: r') → readF f e q d p' r' = readF g e q d p' r' := fun p' c' r' h => ih _ _ _ _ _ (by have := readF_len _ _ _ _ _ _ _ _ h; simp at this; omega)
    have h3 : ∀ p' r', dollF (fun s => allR (readF g 2 q (d + 1) ps0 s)) q d p s = .ok (p', r') → readF f e q d p' r' = readF g e q d p' r' := fun p' r' h => ih _ _ _ _ _ (dollF_len (fun t w r _ hw => by
      obtain ⟨p2, e2, _⟩ := allR_ok hw
      exact readF_len _ _ _ _ _ _ _ _ e2) h)
    cases hc : cutAt 39 s with
    | none =>
      cases hr : readF g 3 true d p.mark s with
      | error x =>
        cases hd : dollF (fun s => allR (readF g 2 q (d + 1) ps0 s)) q d p s with
        | error y => rfl
        | ok y => obtain ⟨p', r'⟩ := y; simp only [h3 _ _ hd]
      | ok x =>
        obtain ⟨p2, r2⟩ := x
        cases hd : dollF (fun s => allR (readF g 2 q (d + 1) ps0 s)) q d p s with
        | error y => cases r2 with
          | nil => rfl
          | cons c2 r2 => simp only [h2 _ _ _ hr]
        | ok y => obtain ⟨p', r'⟩ := y; cases r2 with
          | nil => simp only [h3 _ _ hd]
          | cons c2 r2 => simp only [h3 _ _ hd, h2 _ _ _ hr]
    | some z =>
      obtain ⟨t, rc⟩ := z
      cases hr : readF g 3 true d p.mark s with
      | error x =>
        cases hd : dollF (fun s => allR (readF g 2 q (d + 1) ps0 s)) q d p s with
        | error y => simp only [h1 _ _ hc]
        | ok y => obtain ⟨p', r'⟩ := y; simp only [h3 _ _ hd, h1 _ _ hc]
      | ok x =>
        obtain ⟨p2, r2⟩ := x
        cases hd : dollF (fun s => allR (readF g 2 q (d + 1) ps0 s)) q d p s with
        | error y => cases r2 with
          | nil => simp only [h1 _ _ hc]
          | cons c2 r2 => simp only [h2 _ _ _ hr, h1 _ _ hc]
        | ok y => obtain ⟨p', r'⟩ := y; cases r2 with
          | nil => simp only [h3 _ _ hd, h1 _ _ hc]
          | cons c2 r2 => simp only [h3 _ _ hd, h2 _ _ _ hr, h1 _ _ hc]
/-- Reading, with fuel enough. -/
def readC (e : Nat) (q : Bool) (d : Nat) (p : PS) (s : Bz) : Res (PS × Bz) := readF (s.length + 1) e q d p s
def wordC (q : Bool) (d : Nat) (s : Bz) : Res (List Prt × Bz) := allR (readC 2 q d ps0 s)
theorem readC_of {f e : Nat} {q : Bool} {d : Nat} {p : PS} {s : Bz} (h : s.length < f) : readF f e q d p s = readC e q d p s := readF_fuel _ _ _ _ _ _ _ h (Nat.lt_succ_self _)
theorem readC_len {e : Nat} {q : Bool} {d : Nat} {p : PS} {s : Bz} {p' : PS} {r : Bz} (h : readC e q d p s = .ok (p', r)) : r.length ≤ s.length := readF_len _ _ _ _ _ _ _ _ h
section
variable {e : Nat} {q : Bool} {d : Nat} {p : PS} {c : UInt8} {r : Bz}
theorem readC_nil : readC e q d p [] = .ok (p, []) := by rw [readC, readF]
theorem readC_end (h : endsB e c = true) : readC e q d p (c :: r) = .ok (p, c :: r) := by rw [readC, readF, if_pos h]
theorem readC_esc (h : endsB e c = false) (h2 : c = 92) : readC e q d p (c :: r) = readC e q d (escF q p r).1 (escF q p r).2 := by
  rw [readC, readF, if_neg (by simp [h]), if_pos h2]
  exact readC_of (by have := escF_len q p r; simp; omega)
theorem readC_one (h : endsB e 39 = false) (hq : q = false) : readC e q d p (39 :: r) = match cutAt 39 r with
    | none => .error 2
    | some (t, r') => readC e q d (p.mark.put 2 t) r' := by
  rw [readC, readF, if_neg (by simp [h]), if_neg (by decide), if_pos ⟨rfl, hq⟩]
  cases hc : cutAt 39 r with
  | none => rfl
  | some z =>
    obtain ⟨t, r'⟩ := z
    exact readC_of (by have := cutAt_len hc; simp; omega)
theorem readC_two (h : endsB e 34 = false) (hq : q = false) : readC e q d p (34 :: r) = match readC 3 true d p.mark r with
    | .error x => .error x
    | .ok (p', []) => .error 2
    | .ok (p', _ :: r') => readC e q d p' r' := by
  rw [readC, readF, if_neg (by simp [h]), if_neg (by decide), if_neg (by simp), if_pos ⟨rfl, hq⟩, readC_of (f := (34 :: r).length) (by simp)]
  cases hc : readC 3 true d p.mark r with
  | error x => rfl
  | ok z =>
    obtain ⟨p', r'⟩ := z
    cases r' with
    | nil => rfl
    | cons c' r' => exact readC_of (by have := readC_len hc; simp at this ⊢; omega)
theorem wordC_len {q : Bool} {d : Nat} {t : Bz} {w : List Prt} {r : Bz} (h : wordC q d t = .ok (w, r)) : r.length ≤ t.length := by
  obtain ⟨p2, e2, _⟩ := allR_ok h
  exact readC_len e2
theorem readC_doll (h : endsB e 36 = false) : readC e q d p (36 :: r) = match dollF (wordC q (d + 1)) q d p r with
    | .error x => .error x
    | .ok (p', r') => readC e q d p' r' := by
  rw [readC, readF, if_neg (by simp [h]), if_neg (by decide), if_neg (by simp), if_neg (by simp), if_pos rfl]
  rw [dollF_congr (W := fun s => allR (readF (36 :: r).length 2 q (d + 1) ps0 s)) (W' := wordC q (d + 1)) (fun t ht => by show allR (readF _ 2 q (d + 1) ps0 t) = _; rw [readC_of (by simp; omega)]; rfl)]
  cases hc : dollF (wordC q (d + 1)) q d p r with
  | error x => rfl
  | ok z =>
    obtain ⟨p', r'⟩ := z
    exact readC_of (by have := dollF_len (fun t w r _ hw => wordC_len hw) hc; simp; omega)
theorem readC_bad (h : endsB e c = false) (h2 : c = 96 ∨ (c = 34 ∧ q = true)) : readC e q d p (c :: r) = .error 2 := by
  rcases h2 with rfl | ⟨rfl, rfl⟩
  · rw [readC, readF, if_neg (by simp [h]), if_neg (by decide), if_neg (by simp), if_neg (by simp), if_neg (by decide), if_pos (by decide)]
  · rw [readC, readF, if_neg (by simp [h]), if_neg (by decide), if_neg (by simp), if_neg (by simp), if_neg (by decide), if_pos (by decide)]
theorem readC_else (h : endsB e c = false) (h1 : c ≠ 92) (h2 : ¬ (c = 39 ∧ q = false)) (h3 : c ≠ 34) (h4 : c ≠ 36) (h5 : c ≠ 96) : readC e q d p (c :: r) = readC e q d (p.put (if q then 2 else 1) [c]) r := by
  rw [readC, readF, if_neg (by simp [h]), if_neg h1, if_neg h2, if_neg (fun x => h3 x.1), if_neg h4, if_neg (fun x => x.elim h3 h5)]
  exact readC_of (by simp)
end
theorem wordF_eq (e : Nat) (s : Bz) : wordF e s = allR (readC e false 0 ps0 s) := rfl
end Go.Proofs.Ytafbheplaheohaa
