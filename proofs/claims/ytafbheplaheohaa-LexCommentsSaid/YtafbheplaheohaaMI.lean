import Derived.Test.YtafbheplaheohaaMG
import Derived.Test.YtafbheplaheohaaME
namespace Go.Proofs.Ytafbheplaheohaa
set_option linter.unusedVariables false
set_option autoImplicit false

/-! What is read of a text that is whole is read of it with more behind it. -/
def Sepr (t : Bz) : Prop := ∃ x t', t = x :: t' ∧ (x = 32 ∨ x = 10)
def No92 (s : Bz) : Prop := ∀ x ∈ s, x ≠ 92 ∧ x ≠ 35
theorem No92.drop {s : Bz} (h : No92 s) (k : Nat) : No92 (s.drop k) := fun x hx => h x (List.mem_of_mem_drop hx)
theorem No92.tail {c : UInt8} {s : Bz} (h : No92 (c :: s)) : No92 s := fun x hx => h x (List.mem_cons_of_mem _ hx)
theorem cutAt_ext {q : UInt8} {s a r : Bz} (h : cutAt q s = some (a, r)) (t : Bz) : cutAt q (s ++ t) = some (a, r ++ t) := by
  obtain ⟨h1, h2⟩ := cutAt_eq h
  rw [h1, List.append_assoc, List.cons_append]; exact cutAt_app h2
theorem map_some {x : Option Nat} {i : Nat} (h : x.map (· + 1) = some i) : ∃ j, x = some j ∧ i = j + 1 := by
  cases x with
  | none => cases h
  | some j => exact ⟨j, rfl, by simpa using h.symm⟩
theorem calcN_ext (t : Bz) : ∀ (s : Bz) (o i : Nat), calcN o s = some i → i + 2 ≤ s.length ∧ calcN o (s ++ t) = some i
  | [], o, i, h => by rw [calcN] at h; cases h
  | c :: r, o, i, h => by
    rw [List.cons_append, calcN_cons]
    rw [calcN_cons] at h
    by_cases h40 : c = 40
    · rw [if_pos h40] at h ⊢
      obtain ⟨j, hj, rfl⟩ := map_some h
      obtain ⟨e1, e2⟩ := calcN_ext t r (o + 1) j hj
      rw [e2]
      exact ⟨by simp; omega, rfl⟩
    rw [if_neg h40] at h ⊢
    by_cases h41 : c = 41
    · rw [if_pos h41] at h ⊢
      cases o with
      | zero =>
        simp only at h ⊢
        cases r with
        | nil => simp at h
        | cons b r =>
          by_cases hb : b = 41
          · subst hb
            simp at h
            subst h
            exact ⟨by simp, by simp⟩
          · simp [hb] at h
      | succ o =>
        simp only at h ⊢
        obtain ⟨j, hj, rfl⟩ := map_some h
        obtain ⟨e1, e2⟩ := calcN_ext t r o j hj
        rw [e2]
        exact ⟨by simp; omega, rfl⟩
    rw [if_neg h41] at h ⊢
    obtain ⟨j, hj, rfl⟩ := map_some h
    obtain ⟨e1, e2⟩ := calcN_ext t r o j hj
    rw [e2]
    exact ⟨by simp; omega, rfl⟩
theorem quotT_f (q c : UInt8) (r : Bz) : quotT q false (c :: r) = if c = q then 1 else if c = 92 ∧ q = 34 then quotT q true r + 1 else quotT q false r + 1 := rfl
theorem quotT_t (q c : UInt8) (r : Bz) : quotT q true (c :: r) = quotT q false r + 1 := rfl
theorem quotT_ext (q : UInt8) (t : Bz) : ∀ (s : Bz) (b : Bool), quotT q b s ≤ s.length → quotT q b (s ++ t) = quotT q b s
  | [], b, h => by
    have : quotT q b [] = 1 := by cases b <;> rfl
    rw [this] at h; simp at h
  | c :: r, true, h => by
    rw [List.cons_append, quotT_t, quotT_t]
    rw [quotT_t] at h
    rw [quotT_ext q t r false (by simpa using h)]
  | c :: r, false, h => by
    rw [List.cons_append, quotT_f, quotT_f]
    rw [quotT_f] at h
    by_cases h1 : c = q
    · rw [if_pos h1, if_pos h1]
    rw [if_neg h1] at h
    rw [if_neg h1, if_neg h1]
    by_cases h2 : c = 92 ∧ q = 34
    · rw [if_pos h2] at h
      rw [if_pos h2, if_pos h2, quotT_ext q t r true (by simpa using h)]
    · rw [if_neg h2] at h
      rw [if_neg h2, if_neg h2, quotT_ext q t r false (by simpa using h)]
theorem subN_z (o : Nat) (c : UInt8) (r : Bz) : subN o 0 (c :: r) = if c = 40 then (subN (o + 1) 0 r).map (· + 1) else if c = 41 then (match o with
      | 0 => some 0
      | o' + 1 => (subN o' 0 r).map (· + 1)) else if c = 92 then (subN o 1 r).map (· + 1) else if c = 39 ∨ c = 34 then (subN o (quotT c false r) r).map (· + 1) else (subN o 0 r).map (· + 1) := subN_cons o c r
theorem subN_s (o k : Nat) (c : UInt8) (r : Bz) : subN o (k + 1) (c :: r) = (subN o k r).map (· + 1) := by rw [subN]
theorem subN_ext (t : Bz) : ∀ (s : Bz) (o k i : Nat), subN o k s = some i → k ≤ i ∧ i < s.length ∧ subN o k (s ++ t) = some i
  | [], o, k, i, h => by rw [subN] at h; cases h
  | c :: r, o, k + 1, i, h => by
    rw [subN_s] at h
    rw [List.cons_append, subN_s]
    obtain ⟨j, hj, rfl⟩ := map_some h
    obtain ⟨e0, e1, e2⟩ := subN_ext t r o k j hj
    rw [e2]
    exact ⟨by omega, by simp; omega, rfl⟩
  | c :: r, o, 0, i, h => by
    rw [subN_z] at h
    rw [List.cons_append, subN_z]
    by_cases h40 : c = 40
    · rw [if_pos h40] at h ⊢
      obtain ⟨j, hj, rfl⟩ := map_some h
      obtain ⟨e0, e1, e2⟩ := subN_ext t r _ _ j hj
      rw [e2]
      exact ⟨by omega, by simp; omega, rfl⟩
    rw [if_neg h40] at h ⊢
    by_cases h41 : c = 41
    · rw [if_pos h41] at h ⊢
      cases o with
      | zero =>
        simp only at h ⊢
        cases h
        exact ⟨by omega, by simp, rfl⟩
      | succ o =>
        simp only at h ⊢
        obtain ⟨j, hj, rfl⟩ := map_some h
        obtain ⟨e0, e1, e2⟩ := subN_ext t r _ _ j hj
        rw [e2]
        exact ⟨by omega, by simp; omega, rfl⟩
    rw [if_neg h41] at h ⊢
    by_cases h92 : c = 92
    · rw [if_pos h92] at h ⊢
      obtain ⟨j, hj, rfl⟩ := map_some h
      obtain ⟨e0, e1, e2⟩ := subN_ext t r _ _ j hj
      rw [e2]
      exact ⟨by omega, by simp; omega, rfl⟩
    rw [if_neg h92] at h ⊢
    by_cases hq : c = 39 ∨ c = 34
    · rw [if_pos hq] at h ⊢
      obtain ⟨j, hj, rfl⟩ := map_some h
      obtain ⟨e0, e1, e2⟩ := subN_ext t r _ _ j hj
      rw [quotT_ext c t r false (by omega), e2]
      exact ⟨by omega, by simp; omega, rfl⟩
    rw [if_neg hq] at h ⊢
    obtain ⟨j, hj, rfl⟩ := map_some h
    obtain ⟨e0, e1, e2⟩ := subN_ext t r _ _ j hj
    rw [e2]
    exact ⟨by omega, by simp; omega, rfl⟩
theorem opOf_ext {u t : Bz} (hu : u ≠ []) (ht : Sepr t) : opOf (u ++ t) = opOf u := by
  obtain ⟨x, t', rfl, hx⟩ := ht
  match u, hu with
  | [a], _ =>
    have h2 : ops2.contains [a, x] = false := by
      have key : ∀ o ∈ ops2, o.getLast? ≠ some 32 ∧ o.getLast? ≠ some 10 := by decide
      rw [Bool.eq_false_iff]; intro h
      have := key _ (List.contains_iff_mem.1 h)
      rcases hx with rfl | rfl
      · exact this.1 rfl
      · exact this.2 rfl
    show (if ops2.contains [a, x] then [a, x] else if ops2.contains [a] then [a] else []) = (if ops2.contains [a] then [a] else if ops2.contains [a] then [a] else [])
    rw [h2]
    cases ops2.contains [a] <;> rfl
  | a :: b :: u, _ => rfl
theorem operator_ext {u t : Bz} (hu : u ≠ []) (ht : Sepr t) : operator (u ++ t) = operator u := by
  obtain ⟨x, t', rfl, hx⟩ := ht
  have key : ∀ o ∈ ops3, 2 ≤ o.length → (32 : UInt8) ∉ o ∧ (10 : UInt8) ∉ o := by decide
  have no : ∀ o : Bz, 2 ≤ o.length → x ∈ o → ops3.contains o = false := by
    intro o h2 hm
    rw [Bool.eq_false_iff]; intro h
    have := key _ (List.contains_iff_mem.1 h) h2
    rcases hx with rfl | rfl
    · exact this.1 hm
    · exact this.2 hm
  match u, hu with
  | [a], _ =>
    have h3 : ops3.contains (([a] ++ x :: t').take 3) = false := no _ (by cases t' <;> simp) (by cases t' <;> simp)
    have h2 : ops3.contains [a, x] = false := no _ (by simp) (by simp)
    unfold operator
    rw [h3]
    show (if false = true then _ else if ops3.contains [a, x] then [a, x] else if ops3.contains [a] then [a] else []) = (if ops3.contains [a] then [a] else if ops3.contains [a] then [a] else if ops3.contains [a] then [a] else [])
    rw [h2]
    cases ops3.contains [a] <;> rfl
  | [a, b], _ =>
    have h3 : ops3.contains [a, b, x] = false := no _ (by simp) (by simp)
    show (if ops3.contains [a, b, x] then [a, b, x] else if ops3.contains [a, b] then [a, b] else if ops3.contains [a] then [a] else []) = (if ops3.contains [a, b] then [a, b] else if ops3.contains [a, b] then [a, b] else if ops3.contains [a] then [a] else [])
    rw [h3]
    cases ops3.contains [a, b] <;> rfl
  | a :: b :: c :: u, _ => rfl
theorem sep_word {x : UInt8} (hx : x = 32 ∨ x = 10) : isWordC x = false ∧ isDigit x = false ∧ signs.contains x = false ∧ (isLetter x || x == 95) = false := by
  rcases hx with rfl | rfl <;> exact ⟨rfl, rfl, rfl, rfl⟩
theorem tailLen_ext {t : Bz} (ht : Sepr t) : ∀ s : Bz, tailLen (s ++ t) = tailLen s
  | [] => by
    obtain ⟨x, t', rfl, hx⟩ := ht
    show (if isWordC x then tailLen t' + 1 else 0) = 0
    rw [(sep_word hx).1]; rfl
  | c :: r => by
    show (if isWordC c then tailLen (r ++ t) + 1 else 0) = (if isWordC c then tailLen r + 1 else 0)
    rw [tailLen_ext ht r]
theorem digitsLen_ext {t : Bz} (ht : Sepr t) : ∀ s : Bz, digitsLen (s ++ t) = digitsLen s
  | [] => by
    obtain ⟨x, t', rfl, hx⟩ := ht
    show (if isDigit x then digitsLen t' + 1 else 0) = 0
    rw [(sep_word hx).2.1]; rfl
  | c :: r => by
    show (if isDigit c then digitsLen (r ++ t) + 1 else 0) = (if isDigit c then digitsLen r + 1 else 0)
    rw [digitsLen_ext ht r]
theorem nameLen_ext {t : Bz} (ht : Sepr t) : ∀ s : Bz, nameLen (s ++ t) = nameLen s
  | [] => by
    obtain ⟨x, t', rfl, hx⟩ := ht
    show (if isLetter x || x == 95 then tailLen t' + 1 else 0) = 0
    rw [(sep_word hx).2.2.2]; rfl
  | c :: r => by
    show (if isLetter c || c == 95 then tailLen (r ++ t) + 1 else 0) = (if isLetter c || c == 95 then tailLen r + 1 else 0)
    rw [tailLen_ext ht r]
theorem paramLen_ext {t : Bz} (ht : Sepr t) (s : Bz) : paramLen (s ++ t) = paramLen s := by
  unfold paramLen
  rw [nameLen_ext ht s]
  cases s with
  | nil =>
    obtain ⟨x, t', rfl, hx⟩ := ht
    obtain ⟨_, h2, h3, _⟩ := sep_word hx
    show (if 0 < nameLen [] then nameLen [] else if isDigit x || signs.contains x then 1 else 0) = _
    rw [h2, h3]; rfl
  | cons c r => rfl
theorem longParam_ext {t : Bz} (ht : Sepr t) (s : Bz) : longParam (s ++ t) = longParam s := by
  unfold longParam
  rw [paramLen_ext ht, digitsLen_ext ht]
theorem drop_ext {s t : Bz} {k : Nat} (h : s.drop k ≠ []) : (s ++ t).drop k = s.drop k ++ t ∧ (s ++ t).take k = s.take k ∧ k < s.length := by
  have hk : k < s.length := by
    by_cases h2 : k < s.length
    · exact h2
    · exact absurd (List.drop_of_length_le (by omega)) h
  exact ⟨List.drop_append_of_le_length (by omega), List.take_append_of_le_length (by omega), hk⟩
def HeadC (s : Bz) : Prop := s.head? = some 35 ∧ s.tail.head? ≠ some 125 ∧ opOf s.tail = []
instance (s : Bz) : Decidable (HeadC s) := by unfold HeadC; exact inferInstance
theorem headF_yes {s : Bz} (h : HeadC s) : headF s = ([76], s.tail.take (longParam s.tail), s.tail.drop (longParam s.tail)) := by
  unfold headF; exact if_pos h
theorem headF_no {s : Bz} (h : ¬ HeadC s) : headF s = (opOf (s.drop (longParam s)), s.take (longParam s), (s.drop (longParam s)).drop (opOf (s.drop (longParam s))).length) := by
  unfold headF; exact if_neg h
theorem headF_ext {s t : Bz} (ht : Sepr t) (h : (headF s).2.2 ≠ []) : headF (s ++ t) = ((headF s).1, (headF s).2.1, (headF s).2.2 ++ t) := by
  cases s with
  | nil =>
    exact absurd (by rw [headF_no (by unfold HeadC; simp)]; simp) h
  | cons c r =>
    by_cases hc : HeadC (c :: r)
    · rw [headF_yes hc] at h ⊢
      simp only [List.tail_cons] at h ⊢
      have hr : r ≠ [] := by rintro rfl; simp at h
      obtain ⟨e1, e2, e3⟩ := drop_ext (t := t) h
      have hc2 : HeadC (c :: r ++ t) := by
        obtain ⟨h1, h2, h3⟩ := hc
        refine ⟨h1, ?_, ?_⟩
        · show (r ++ t).head? ≠ _
          cases r with
          | nil => exact absurd rfl hr
          | cons b r => exact h2
        · show opOf (r ++ t) = []
          rw [opOf_ext hr ht]; exact h3
      rw [headF_yes hc2]
      show ([76], (r ++ t).take (longParam (r ++ t)), (r ++ t).drop (longParam (r ++ t))) = _
      rw [longParam_ext ht, e1, e2]
    · rw [headF_no hc] at h ⊢
      simp only at h ⊢
      have hd : (c :: r).drop (longParam (c :: r)) ≠ [] := by intro e; rw [e] at h; simp at h
      obtain ⟨e1, e2, e3⟩ := drop_ext (t := t) hd
      obtain ⟨e4, _, _⟩ := drop_ext (t := t) h
      have hc2 : ¬ HeadC (c :: r ++ t) := by
        intro hh
        obtain ⟨h1, h2, h3⟩ := hh
        have h1 : c = 35 := Option.some.inj h1
        cases r with
        | nil =>
          refine hc ⟨h1, by simp, rfl⟩
        | cons b r =>
          refine hc ⟨h1, h2, ?_⟩
          have h3 : opOf (b :: r ++ t) = [] := h3
          rw [opOf_ext (by simp) ht] at h3
          exact h3
      rw [headF_no hc2, longParam_ext ht, e1, e2, opOf_ext hd ht, e4]
section
variable {W : Bz → Res (List Prt × Bz)} {q : Bool} {d : Nat} {p : PS} {s t : Bz}
theorem No92.head {s : Bz} (h : No92 s) : No92 (headF s).2.2 := by
  by_cases hc : HeadC s
  · rw [headF_yes hc]
    cases s with
    | nil => exact fun x hx => by simp at hx
    | cons c r => exact (h.tail).drop _
  · rw [headF_no hc]; exact (h.drop _).drop _
/-- What W does with more behind. -/
def WExt (W : Bz → Res (List Prt × Bz)) (t : Bz) (n : Nat) : Prop := ∀ u w r, u.length ≤ n → No92 u → W u = .ok (w, r) → r.length ≤ u.length ∧ No92 r ∧ (r ≠ [] → W (u ++ t) = .ok (w, r ++ t))
theorem braceF_ext (ht : Sepr t) (hW : WExt W t s.length) (hs : No92 s) {x : Prt} {r : Bz} (h : braceF W q d s = .ok (x, r)) : braceF W q d (s ++ t) = .ok (x, r ++ t) ∧ No92 r := by
  have hne : (headF s).2.2 ≠ [] := by
    intro e
    unfold braceF at h
    simp only at h
    rw [e] at h
    split at h
    · cases h
    split at h
    · cases h
    split at h
    · cases h
    split at h
    · cases h
    · cases h
    · rename_i w c r' e2
      have := (hW [] _ _ (by simp) (fun x hx => by simp at hx) e2).1
      simp at this
  have hh := headF_ext (t := t) ht hne
  have h92 := hs.head
  have hl := headF_len s
  unfold braceF at h ⊢
  simp only at h ⊢
  rw [hh]
  simp only
  split at h
  · cases h
  rename_i g1
  rw [if_neg g1]
  split at h
  · rename_i g2
    rw [if_pos g2]
    split at h
    · cases h
    · rename_i c r' e
      rw [e]
      rw [e] at h92
      split at h
      · rename_i g3
        cases h
        exact ⟨by simp [g3], h92.tail⟩
      · cases h
  rename_i g2
  rw [if_neg g2]
  split at h
  · cases h
  rename_i g3
  rw [if_neg g3]
  split at h
  · cases h
  · cases h
  · rename_i w c r' e
    obtain ⟨f1, f2, f3⟩ := hW _ _ _ hl h92 e
    rw [f3 (by simp)]
    split at h
    · rename_i g4
      cases h
      exact ⟨by simp [g4], f2.tail⟩
    · cases h
theorem dollF_ext (ht : Sepr t) (hW : WExt W t s.length) (hs : No92 s) {x : PS} {r : Bz} (h : dollF W q d p s = .ok (x, r)) : dollF W q d p (s ++ t) = .ok (x, r ++ t) ∧ No92 r := by
  by_cases h0 : s = []
  · subst h0
    have e : dollF W q d p [] = .ok (p.put (if q then 2 else 1) [36], []) := rfl
    rw [e] at h
    cases h
    obtain ⟨y, t', rfl, hy⟩ := ht
    refine ⟨?_, fun z hz => by simp at hz⟩
    have hp : paramLen (y :: t') = 0 := paramLen_ext (t := y :: t') ⟨y, t', rfl, hy⟩ []
    unfold dollF
    have h1 : ¬ (([] ++ y :: t' : Bz).head? = some 123) := by rcases hy with rfl | rfl <;> simp
    have h2 : ¬ (([] ++ y :: t' : Bz).head? = some 40) := by rcases hy with rfl | rfl <;> simp
    rw [if_neg h1, if_neg (fun h => h2 h.1), if_neg h2, show ([] ++ y :: t' : Bz) = y :: t' from rfl, hp, if_neg (Nat.lt_irrefl 0)]
  obtain ⟨c, u, rfl⟩ : ∃ c u, s = c :: u := by
    cases s with
    | nil => exact absurd rfl h0
    | cons c u => exact ⟨c, u, rfl⟩
  unfold dollF at h ⊢
  by_cases h1 : (c :: u).head? = some 123
  · rw [if_pos h1] at h
    rw [if_pos (show (c :: u ++ t).head? = some 123 from h1)]
    split at h
    · cases h
    · rename_i x' r' e
      cases h
      obtain ⟨e1, e2⟩ := braceF_ext ht (fun v w r hv => hW v w r (by simp; omega)) hs.tail e
      rw [show (c :: u ++ t).tail = u ++ t from rfl, e1]
      exact ⟨rfl, e2⟩
  rw [if_neg h1] at h
  rw [if_neg (show ¬ ((c :: u ++ t).head? = some 123) from h1)]
  by_cases h2 : (c :: u).head? = some 40 ∧ (c :: u).tail.head? = some 40
  · have h2' : (c :: u ++ t).head? = some 40 ∧ (c :: u ++ t).tail.head? = some 40 := ⟨h2.1, by
      cases u with
      | nil => simp at h2
      | cons b u => exact h2.2⟩
    rw [if_pos h2] at h
    rw [if_pos h2']
    split at h
    · cases h
    · rename_i i e
      cases h
      cases u with
      | nil => simp at h2
      | cons b u =>
        have e : calcN 0 u = some i := e
        obtain ⟨f1, f2⟩ := calcN_ext t u 0 i e
        show (match calcN 0 (u ++ t) with
          | none => Except.error 2
          | some i => Except.ok (p.add (.mk 4 ((u ++ t).take i) [] [] [] q), (u ++ t).drop (i + 2))) = Except.ok (p.add (.mk 4 (u.take i) [] [] [] q), u.drop (i + 2) ++ t) ∧ _
        rw [f2]
        simp only
        rw [List.take_append_of_le_length (by omega), List.drop_append_of_le_length (by omega)]
        exact ⟨rfl, (hs.tail.tail).drop _⟩
  have h2' : ¬ ((c :: u ++ t).head? = some 40 ∧ (c :: u ++ t).tail.head? = some 40) := by
    rintro ⟨g1, g2⟩
    cases u with
    | nil =>
      obtain ⟨y, t', rfl, hy⟩ := ht
      have g2 : y = 40 := by simpa using g2
      rcases hy with e | e <;> rw [e] at g2 <;> exact absurd g2 (by decide)
    | cons b u => exact h2 ⟨g1, g2⟩
  rw [if_neg h2] at h
  rw [if_neg h2']
  by_cases h3 : (c :: u).head? = some 40
  · rw [if_pos h3] at h
    rw [if_pos (show (c :: u ++ t).head? = some 40 from h3)]
    split at h
    · cases h
    · rename_i i e
      cases h
      obtain ⟨_, f1, f2⟩ := subN_ext t u 0 0 i e
      have f1 : i < u.length := f1
      rw [show (c :: u ++ t).tail = u ++ t from rfl, f2]
      simp only
      rw [List.take_append_of_le_length (by omega), List.drop_append_of_le_length (by omega)]
      exact ⟨rfl, hs.tail.drop _⟩
  rw [if_neg h3] at h
  rw [if_neg (show ¬ ((c :: u ++ t).head? = some 40) from h3)]
  have hp : paramLen (c :: u ++ t) = paramLen (c :: u) := paramLen_ext ht (c :: u)
  rw [hp]
  have hpl : paramLen (c :: u) ≤ (c :: u).length := by
    have ht' : ∀ s : Bz, tailLen s ≤ s.length := by
      intro s
      induction s with
      | nil => exact Nat.le_refl _
      | cons b s ih =>
        show (if isWordC b then tailLen s + 1 else 0) ≤ _
        split
        · simp; omega
        · omega
    have hn : nameLen (c :: u) ≤ (c :: u).length := by
      show (if isLetter c || c == 95 then tailLen u + 1 else 0) ≤ _
      have := ht' u
      split
      · simp; omega
      · omega
    unfold paramLen
    split
    · exact hn
    · simp only
      split
      · simp
      · omega
  by_cases h4 : 0 < paramLen (c :: u)
  · rw [if_pos h4] at h
    rw [if_pos h4]
    cases h
    rw [List.take_append_of_le_length hpl, List.drop_append_of_le_length hpl]
    exact ⟨rfl, hs.drop _⟩
  · rw [if_neg h4] at h
    rw [if_neg h4]
    cases h
    exact ⟨rfl, hs⟩
end
/-- Reading with more behind. -/
theorem read_ext {t : Bz} (ht : Sepr t) : ∀ (n : Nat) (s : Bz), s.length ≤ n → ∀ (e : Nat) (q : Bool) (d : Nat) (p p' : PS) (r : Bz), No92 s → readC e q d p s = .ok (p', r) →
    No92 r ∧ ((r = [] ∧ readC e q d p (s ++ t) = readC e q d p' t) ∨ (∃ c r', r = c :: r' ∧ endsB e c = true ∧ readC e q d p (s ++ t) = .ok (p', r ++ t)))
  | n, [], _, e, q, d, p, p', r, hs, h => by
    rw [readC_nil] at h
    cases h
    exact ⟨hs, .inl ⟨rfl, rfl⟩⟩
  | 0, c :: s, hn, _, _, _, _, _, _, _, _ => absurd hn (by simp)
  | n + 1, c :: s, hn, e, q, d, p, p', r, hs, h => by
    have hn : s.length ≤ n := by simpa using hn
    have ih := fun (u : Bz) (hu : u.length ≤ s.length) => read_ext ht n u (by omega)
    have h92 := hs.tail
    have hc92 : c ≠ 92 := (hs c (by simp)).1
    by_cases he : endsB e c = true
    · rw [readC_end he] at h
      cases h
      exact ⟨hs, .inr ⟨c, s, rfl, he, by rw [List.cons_append, readC_end he]⟩⟩
    have he : endsB e c = false := by simpa using he
    rw [List.cons_append]
    by_cases h39 : c = 39 ∧ q = false
    · obtain ⟨rfl, rfl⟩ := h39
      rw [readC_one he rfl] at h ⊢
      cases hc : cutAt 39 s with
      | none => rw [hc] at h; cases h
      | some z =>
        obtain ⟨a, r'⟩ := z
        rw [hc] at h
        rw [cutAt_ext hc t]
        simp only at h ⊢
        have hl := cutAt_len hc
        have hm : No92 r' := fun x hx => h92 x (by rw [(cutAt_eq hc).1]; simp [hx])
        exact ih r' (by omega) _ _ _ _ _ _ hm h
    by_cases h34 : c = 34
    · subst h34
      cases q with
      | true => rw [readC_bad he (.inr ⟨rfl, rfl⟩)] at h; cases h
      | false =>
        rw [readC_two he rfl] at h ⊢
        cases hc : readC 3 true d p.mark s with
        | error x => rw [hc] at h; cases h
        | ok z =>
          obtain ⟨p1, r1⟩ := z
          rw [hc] at h
          cases r1 with
          | nil => cases h
          | cons c1 r1 =>
            simp only at h
            obtain ⟨f1, f2⟩ := ih s (Nat.le_refl _) _ _ _ _ _ _ h92 hc
            rcases f2 with ⟨f2, _⟩ | ⟨c2, r2, f2, f3, f4⟩
            · cases f2
            · rw [f4]
              simp only [List.cons_append]
              have hl := readC_len hc
              exact ih r1 (by simp at hl; omega) _ _ _ _ _ _ f1.tail h
    by_cases h36 : c = 36
    · subst h36
      rw [readC_doll he] at h ⊢
      have hW : WExt (wordC q (d + 1)) t s.length := fun u w r hu hu92 hw => by
        refine ⟨wordC_len hw, ?_⟩
        obtain ⟨p2, g1, g2⟩ := allR_ok hw
        obtain ⟨f1, f2⟩ := ih u hu _ _ _ _ _ _ hu92 g1
        refine ⟨f1, fun hr => ?_⟩
        rcases f2 with ⟨f2, _⟩ | ⟨c2, r2, f2, f3, f4⟩
        · exact absurd f2 hr
        · unfold wordC
          rw [f4, g2]; rfl
      cases hc : dollF (wordC q (d + 1)) q d p s with
      | error x => rw [hc] at h; cases h
      | ok z =>
        obtain ⟨p1, r1⟩ := z
        rw [hc] at h
        simp only at h
        obtain ⟨f1, f2⟩ := dollF_ext ht hW h92 hc
        rw [f1]
        simp only
        have hl := dollF_len (fun t w r _ hw => wordC_len hw) hc
        exact ih r1 hl _ _ _ _ _ _ f2 h
    by_cases h96 : c = 96
    · rw [readC_bad he (.inl h96)] at h; cases h
    rw [readC_else he hc92 h39 h34 h36 h96] at h ⊢
    exact ih s (Nat.le_refl _) _ _ _ _ _ _ h92 h
theorem sep_ends {t : Bz} (ht : Sepr t) : ∃ c t', t = c :: t' ∧ endsB 1 c = true := by
  obtain ⟨x, t', rfl, hx⟩ := ht
  exact ⟨x, t', rfl, by rcases hx with rfl | rfl <;> rfl⟩
theorem word_ext {s t : Bz} (ht : Sepr t) (hs : No92 s) {w : List Prt} {r : Bz} (h : wordF 1 s = .ok (w, r)) : wordF 1 (s ++ t) = .ok (w, r ++ t) ∧ No92 r := by
  rw [wordF_eq] at h ⊢
  obtain ⟨p2, g1, g2⟩ := allR_ok h
  obtain ⟨f1, f2⟩ := read_ext ht s.length s (Nat.le_refl _) _ _ _ _ _ _ hs g1
  refine ⟨?_, f1⟩
  rcases f2 with ⟨rfl, f2⟩ | ⟨c2, r2, f2, f3, f4⟩
  · obtain ⟨c, t', rfl, hc⟩ := sep_ends ht
    rw [f2, readC_end hc, g2]; rfl
  · rw [f4, g2]; rfl
theorem skipF_ext {t : Bz} : ∀ (s : Bz), No92 s → (skipF false s = [] ∧ skipF false (s ++ t) = skipF false t) ∨ (∃ c r, skipF false s = c :: r ∧ skipF false (s ++ t) = c :: r ++ t ∧ No92 (c :: r))
  | [], _ => .inl ⟨rfl, rfl⟩
  | c :: s, h => by
    have ih := skipF_ext (t := t) s h.tail
    by_cases hb : isBlank c = true
    · rw [List.cons_append, skipF_cons, skipF_cons, if_pos hb, if_pos hb]
      exact ih
    · right
      have e1 := skip_stop (r := s) (by simpa using hb) (h c (by simp)).1 (h c (by simp)).2
      have e2 := skip_stop (r := s ++ t) (by simpa using hb) (h c (by simp)).1 (h c (by simp)).2
      exact ⟨c, s, e1, e2, h⟩
theorem tokC_skip {s s' : Bz} {l : List Tok} (h : skipF false s = skipF false s') : tokC s l = tokC s' l := by
  cases hs : skipF false s with
  | nil =>
    have hs' := hs
    rw [h] at hs'
    rw [tokC_nil hs, tokC_nil hs']
  | cons c r =>
    have hs' := hs
    rw [h] at hs'
    by_cases ho : operator (c :: r) = []
    · by_cases hc : c = 38
      · subst hc
        rw [tokC_bad hs ho, tokC_bad hs' ho]
      · cases hw : wordF 1 (c :: r) with
        | error x => rw [tokC_err hs ho hc hw, tokC_err hs' ho hc hw]
        | ok z =>
          obtain ⟨w, r'⟩ := z
          rw [(tokC_word hs ho hc hw).1, (tokC_word hs' ho hc hw).1]
    · rw [tokC_op hs ho, tokC_op hs' ho]
theorem tokC_ext {t : Bz} (ht : Sepr t) : ∀ (n : Nat) (s : Bz), s.length ≤ n → No92 s → ∀ (l x : List Tok), tokC s l = .ok x → tokC (s ++ t) l = tokC t x := by
  intro n
  induction n with
  | zero =>
    intro s hn hs l x h
    have : s = [] := List.eq_nil_of_length_eq_zero (by omega)
    subst this
    rw [tokC_nil rfl] at h
    cases h; rfl
  | succ n ih =>
    intro s hn hs l x h
    rcases skipF_ext (t := t) s hs with ⟨e1, e2⟩ | ⟨c, r, e1, e2, e3⟩
    · rw [tokC_nil e1] at h
      cases h
      exact tokC_skip e2
    · have hsh := skip_short e1
      by_cases ho : operator (c :: r) = []
      · by_cases hc : c = 38
        · subst hc
          rw [tokC_bad e1 ho] at h; cases h
        · have ho2 : operator (c :: r ++ t) = [] := by rw [operator_ext (by simp) ht]; exact ho
          cases hw : wordF 1 (c :: r) with
          | error y => rw [tokC_err e1 ho hc hw] at h; cases h
          | ok z =>
            obtain ⟨w, r'⟩ := z
            obtain ⟨g1, g2⟩ := word_ext ht e3 hw
            obtain ⟨g3, g4⟩ := tokC_word (l := l) e1 ho hc hw
            rw [(tokC_word (l := l) e2 ho2 hc g1).1]
            rw [g3] at h
            exact ih r' (by omega) g2 _ _ h
      · have ho2 : operator (c :: r ++ t) = operator (c :: r) := operator_ext (by simp) ht
        rw [tokC_op e1 ho] at h
        rw [tokC_op e2 (by show operator (c :: r ++ t) ≠ []; rw [ho2]; exact ho)]
        show tokC ((c :: r ++ t).drop (operator (c :: r ++ t)).length) (l ++ [.op (operator (c :: r ++ t))]) = _
        obtain ⟨k1, k2, _⟩ := op_len _ ho
        rw [ho2, List.drop_append_of_le_length k2]
        exact ih _ (by simp at k2 ⊢; omega) (e3.drop _) _ _ h
end Go.Proofs.Ytafbheplaheohaa
