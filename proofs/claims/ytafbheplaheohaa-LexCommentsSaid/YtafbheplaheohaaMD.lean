import Derived.Test.YtafbheplaheohaaMC
namespace Go.Proofs.Ytafbheplaheohaa
set_option linter.unusedVariables false
set_option autoImplicit false

theorem mayN_ok {s : Bz} (h1 : s.length ≤ 16384) (h2 : ∀ x ∈ s, x ≠ 0) : mayN s = 0 := by
  unfold mayN
  rw [if_neg (by omega), if_neg]
  intro h
  exact h2 0 (List.contains_iff_mem.1 h) rfl
theorem ops_none {ops : List Bz} {c : UInt8} {r : Bz} {n : Nat} (h : ∀ o ∈ ops, o.head? ≠ some c) : ops.contains ((c :: r).take (n + 1)) = false := by
  cases e : ops.contains ((c :: r).take (n + 1)) with
  | false => rfl
  | true => exact absurd rfl (h _ (List.contains_iff_mem.1 e))
theorem operator_none {c : UInt8} {r : Bz} (h : ∀ o ∈ ops3, o.head? ≠ some c) : operator (c :: r) = [] := by
  unfold operator
  rw [ops_none h, ops_none h, ops_none h]; rfl
theorem skipF_cons (c : UInt8) (r : Bz) : skipF false (c :: r) = if isBlank c then skipF false r else if c = 92 then (match r with
      | [] => c :: r
      | c' :: r' => if c' = 10 then skipF false r' else c :: r) else if c = 35 then skipF true r else c :: r := by
  cases r <;> rfl
theorem skip_stop {c : UInt8} {r : Bz} (h1 : isBlank c = false) (h2 : c ≠ 92) (h3 : c ≠ 35) : skipF false (c :: r) = c :: r := by
  rw [skipF_cons, h1, if_neg (by decide), if_neg h2, if_neg h3]
theorem low_ne {x : UInt8} (h1 : 97 ≤ x) (h2 : x ≤ 122) (y : UInt8) (hy : decide (97 ≤ y ∧ y ≤ 122) = false) : x ≠ y := fun e => by
  subst e
  rw [decide_eq_false_iff_not] at hy
  exact hy ⟨h1, h2⟩
theorem low_skip {x : UInt8} {r : Bz} (h1 : 97 ≤ x) (h2 : x ≤ 122) : skipF false (x :: r) = x :: r := by
  refine skip_stop ?_ (low_ne h1 h2 92 rfl) (low_ne h1 h2 35 rfl)
  unfold isBlank
  simp [low_ne h1 h2 32 rfl, low_ne h1 h2 9 rfl]
theorem low_op {x : UInt8} {r : Bz} (h1 : 97 ≤ x) (h2 : x ≤ 122) : operator (x :: r) = [] := by
  refine operator_none fun o ho e => ?_
  have key : ∀ o ∈ ops3, ∃ y, o.head? = some y ∧ decide (97 ≤ y ∧ y ≤ 122) = false := by decide
  obtain ⟨y, e1, e2⟩ := key o ho
  rw [e1] at e
  injection e with e
  exact low_ne h1 h2 y e2 e.symm
def Low (s : Bz) : Prop := ∀ x ∈ s, 97 ≤ x ∧ x ≤ 122
theorem Low.plain {s : Bz} (h : Low s) (e : Nat) (q : Bool) : ∀ x ∈ s, Plain e q x := fun x hx => low_plain (h x hx).1 (h x hx).2
theorem Low.nz {s : Bz} (h : Low s) : ∀ x ∈ s, x ≠ 0 := fun x hx => low_ne (h x hx).1 (h x hx).2 0 rfl
theorem read_all {e : Nat} {q : Bool} {d : Nat} {p : PS} {s : Bz} (h : ∀ x ∈ s, Plain e q x) : readC e q d p s = .ok (p.put (if q then 2 else 1) s, []) := by
  have := read_plain (d := d) s p [] h
  rw [List.append_nil, readC_nil] at this
  exact this
theorem word_low {s : Bz} (h : Low s) (hs : s ≠ []) (e : Nat) : wordF e s = .ok ([txt 1 s], []) := by
  rw [wordF_eq, read_all (h.plain e false)]
  show Except.ok ((ps0.put 1 s).all, []) = _
  rw [all_put 1 s hs (by decide)]
theorem tok_low {s : Bz} (h : Low s) (hs : s ≠ []) (f : Nat) (l : List Tok) : tokF (f + 2) s l = .ok (l ++ [.word [txt 1 s]]) := by
  cases s with
  | nil => exact absurd rfl hs
  | cons c r =>
    obtain ⟨h1, h2⟩ := h c (by simp)
    rw [tokF_word (low_skip h1 h2) (low_op h1 h2) (low_ne h1 h2 38 rfl), word_low h hs 1]
    exact tokF_nil rfl
theorem tokensF_eq {s : Bz} (h : mayN s = 0) : tokensF s = tokF (s.length + 1) s [] := by
  unfold tokensF; rw [if_neg (by rw [h]; decide)]
theorem wordsF_eq {s : Bz} (h : mayN s = 0) : wordsF s = match wordF 0 s with
    | .error x => .error x
    | .ok (w, _) => .ok w := by
  unfold wordsF; rw [if_neg (by rw [h]; decide)]
  cases wordF 0 s <;> rfl
/-! LexBack. -/
theorem back_line {s : Bz} (h : Low s) (hl : s.length ≤ 100) : tokensF (92 :: 10 :: s) = .ok (if s = [] then [] else [.word [txt 1 s]]) := by
  rw [tokensF_eq (mayN_ok (by simp; omega) (by
    intro x hx
    simp at hx
    rcases hx with rfl | rfl | hx
    · decide
    · decide
    · exact h.nz x hx))]
  have hsk : skipF false (92 :: 10 :: s) = skipF false s := by rw [skipF_cons]; rfl
  by_cases hs : s = []
  · subst hs; rfl
  · rw [if_neg hs]
    cases s with
    | nil => exact absurd rfl hs
    | cons c r =>
      obtain ⟨h1, h2⟩ := h c (by simp)
      rw [show (92 :: 10 :: c :: r : Bz).length + 1 = (r.length + 3) + 1 from rfl, tokF_word (hsk.trans (low_skip h1 h2)) (low_op h1 h2) (low_ne h1 h2 38 rfl), word_low h hs 1]
      exact tokF_nil rfl
theorem op92 (r : Bz) : operator (92 :: r) = [] := operator_none (by decide)
theorem all_two (a : UInt8) (s : Bz) : ((ps0.put 2 [a]).put 1 s).all = txt 2 [a] :: if s = [] then [] else [txt 1 s] := by
  by_cases hs : s = []
  · subst hs; rfl
  · rw [if_neg hs]
    have : (ps0.put 2 [a]).put 1 s = ⟨[txt 2 [a]], 1, s, false⟩ := by
      have h1 : ps0.put 2 [a] = ⟨[], 2, [a], false⟩ := rfl
      rw [h1]
      unfold PS.put; rw [if_neg hs, if_neg (by simp)]; rfl
    rw [this]
    unfold PS.all PS.flush
    simp [hs]
theorem back_byte {c : UInt8} {s : Bz} (hc : c ≠ 0) (h10 : c ≠ 10) (h : Low s) (hl : s.length ≤ 100) : tokensF (92 :: c :: s) = .ok [.word (txt 2 [c] :: if s = [] then [] else [txt 1 s])] := by
  rw [tokensF_eq (mayN_ok (by simp; omega) (by
    intro x hx
    simp at hx
    rcases hx with rfl | rfl | hx
    · decide
    · exact hc
    · exact h.nz x hx))]
  have hsk : skipF false (92 :: c :: s) = 92 :: c :: s := by
    rw [skipF_cons, if_neg (by decide), if_pos rfl]
    exact if_neg h10
  have hw : wordF 1 (92 :: c :: s) = .ok (txt 2 [c] :: (if s = [] then [] else [txt 1 s]), []) := by
    rw [wordF_eq, readC_esc (by decide) rfl]
    have he : escF false ps0 (c :: s) = (ps0.put 2 [c], s) := by
      rw [escF, if_neg (by simp), if_neg h10]
    rw [he]
    show allR (readC 1 false 0 (ps0.put 2 [c]) s) = _
    rw [read_all (h.plain 1 false)]
    show Except.ok (((ps0.put 2 [c]).put 1 s).all, []) = _
    rw [all_two]
  rw [show (92 :: c :: s : Bz).length + 1 = (s.length + 2) + 1 from rfl, tokF_word hsk (op92 _) (by decide), hw]
  exact tokF_nil rfl
/-! LexQuotes. -/
theorem cutAt_app {q : UInt8} {r : Bz} : ∀ {s : Bz}, (∀ x ∈ s, x ≠ q) → cutAt q (s ++ q :: r) = some (s, r)
  | [], h => by rw [List.nil_append, cutAt, if_pos rfl]
  | c :: s, h => by rw [List.cons_append, cutAt, if_neg (h c (by simp)), cutAt_app (fun x hx => h x (List.mem_cons_of_mem _ hx))]; rfl
theorem cutAt_no {q : UInt8} : ∀ {s : Bz}, (∀ x ∈ s, x ≠ q) → cutAt q s = none
  | [], h => rfl
  | c :: s, h => by rw [cutAt, if_neg (h c (by simp)), cutAt_no (fun x hx => h x (List.mem_cons_of_mem _ hx))]; rfl
theorem all_mark (s : Bz) : (ps0.mark.put 2 s).all = [txt 2 s] := by
  by_cases hs : s = []
  · subst hs; rfl
  · have : ps0.mark.put 2 s = ⟨[], 2, s, true⟩ := by
      unfold PS.put; rw [if_neg hs, if_neg (by simp [ps0, PS.mark])]; rfl
    rw [this]
    unfold PS.all PS.flush
    simp [hs]
def QuoteOk (two : Bool) (s : Bz) : Prop := ∀ x ∈ s, x ≠ 0 ∧ x ≠ 39 ∧ (two = true → x ≠ 34 ∧ x ≠ 92 ∧ x ≠ 36 ∧ x ≠ 96)
def qOf (two : Bool) : UInt8 := if two then 34 else 39
theorem quote_plain {s : Bz} (h : QuoteOk true s) : ∀ x ∈ s, Plain 3 true x := fun x hx => by
  obtain ⟨h1, h2, h3⟩ := h x hx
  obtain ⟨h4, h5, h6, h7⟩ := h3 rfl
  refine ⟨?_, h5, fun e => by simp at e, h4, h6, h7⟩
  unfold endsB
  simpa using h4
theorem quote_read {two : Bool} {s r : Bz} (h : QuoteOk two s) {e : Nat} (he : e = 0 ∨ e = 1) (d : Nat) (p : PS) : readC e false d p (qOf two :: (s ++ qOf two :: r)) = readC e false d (p.mark.put 2 s) r := by
  cases two with
  | false =>
    show readC e false d p (39 :: (s ++ 39 :: r)) = _
    rw [readC_one (by rcases he with rfl | rfl <;> rfl) rfl, cutAt_app (fun x hx => (h x hx).2.1)]
  | true =>
    show readC e false d p (34 :: (s ++ 34 :: r)) = _
    rw [readC_two (by rcases he with rfl | rfl <;> rfl) rfl, read_plain s _ _ (quote_plain h), readC_end rfl]
    rfl
theorem quote_open {two : Bool} {s : Bz} (h : QuoteOk two s) (d : Nat) (p : PS) : readC 1 false d p (qOf two :: s) = .error 2 := by
  cases two with
  | false =>
    show readC 1 false d p (39 :: s) = _
    rw [readC_one rfl rfl, cutAt_no (fun x hx => (h x hx).2.1)]
  | true =>
    show readC 1 false d p (34 :: s) = _
    rw [readC_two rfl rfl, read_all (quote_plain h)]
theorem qOf_facts (two : Bool) (r : Bz) : skipF false (qOf two :: r) = qOf two :: r ∧ operator (qOf two :: r) = [] ∧ qOf two ≠ 38 ∧ qOf two ≠ 0 := by
  cases two <;> exact ⟨skip_stop rfl (by decide) (by decide), operator_none (by decide), by decide, by decide⟩
theorem quote_tokens {two : Bool} {s : Bz} (h : QuoteOk two s) (hl : s.length ≤ 300) : tokensF (qOf two :: (s ++ [qOf two])) = .ok [.word [txt 2 s]] ∧ wordsF (qOf two :: (s ++ [qOf two])) = .ok [txt 2 s] ∧ tokensF (qOf two :: s) = .error 2 := by
  obtain ⟨_, _, h3, h4⟩ := qOf_facts two []
  have hm : mayN (qOf two :: (s ++ [qOf two])) = 0 := mayN_ok (by simp; omega) (by
    intro x hx
    simp at hx
    rcases hx with rfl | hx | rfl
    · exact h4
    · exact (h x hx).1
    · exact h4)
  have hm2 : mayN (qOf two :: s) = 0 := mayN_ok (by simp; omega) (by
    intro x hx
    simp at hx
    rcases hx with rfl | hx
    · exact h4
    · exact (h x hx).1)
  have hw : ∀ e, e = 0 ∨ e = 1 → wordF e (qOf two :: (s ++ [qOf two])) = .ok ([txt 2 s], []) := fun e he => by
    rw [wordF_eq, quote_read h he, readC_nil]
    show Except.ok ((ps0.mark.put 2 s).all, []) = _
    rw [all_mark]
  refine ⟨?_, ?_, ?_⟩
  · rw [tokensF_eq hm, show (qOf two :: (s ++ [qOf two]) : Bz).length + 1 = ((s ++ [qOf two]).length + 1) + 1 from rfl, tokF_word (qOf_facts two _).1 (qOf_facts two _).2.1 h3, hw 1 (.inr rfl)]
    exact tokF_nil rfl
  · rw [wordsF_eq hm, hw 0 (.inl rfl)]
  · rw [tokensF_eq hm2, show (qOf two :: s : Bz).length + 1 = (s.length + 1) + 1 from rfl, tokF_word (qOf_facts two _).1 (qOf_facts two _).2.1 h3]
    have : wordF 1 (qOf two :: s) = .error 2 := by rw [wordF_eq, quote_open h]; rfl
    rw [this]
end Go.Proofs.Ytafbheplaheohaa
