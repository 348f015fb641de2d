import Derived.Test.YtafbheplaheohaaMB
namespace Go.Proofs.Ytafbheplaheohaa
set_option linter.unusedVariables false
set_option autoImplicit false

def PS.sz (p : PS) : Nat := p.list.length + p.bytes.length
theorem flush_len (p : PS) : p.flush.list.length ≤ p.sz := by
  unfold PS.flush PS.sz
  by_cases h : p.bytes = []
  · simp [h]
  · have : 0 < p.bytes.length := List.length_pos_iff.2 h
    simp [h]; omega
theorem flush_sz (p : PS) : p.flush.sz ≤ p.sz := by
  have := flush_len p
  show p.flush.list.length + 0 ≤ _
  omega
theorem put_sz (p : PS) (k : Nat) (s : Bz) : (p.put k s).sz ≤ p.sz + s.length := by
  have hf := flush_len p
  unfold PS.put
  split
  · omega
  · split
    · show p.list.length + (p.bytes ++ s).length ≤ _
      rw [List.length_append]; unfold PS.sz; omega
    · show p.flush.list.length + s.length ≤ _
      omega
theorem add_sz (p : PS) (x : Prt) : (p.add x).sz ≤ p.sz + 1 := by
  have hf := flush_len p
  show (p.flush.list ++ [x]).length + 0 ≤ _
  simp; omega
theorem mark_sz (p : PS) : p.mark.sz = p.sz := rfl
theorem escF_sz (q : Bool) (p : PS) (r : Bz) : (escF q p r).1.sz + (escF q p r).2.length ≤ p.sz + r.length + 1 := by
  cases r with
  | nil => have := put_sz p 2 [92]; unfold escF; simpa using this
  | cons c r =>
    rw [escF]
    split
    · have := put_sz p 2 [92]; simp at this ⊢; omega
    · split
      · simp; omega
      · have := put_sz p 2 [c]; simp at this ⊢; omega
theorem dollF_sz {W : Bz → Res (List Prt × Bz)} {q : Bool} {d : Nat} {p : PS} {s : Bz} {x : PS} {r : Bz} (hW : ∀ t w r, t.length ≤ s.length → W t = .ok (w, r) → r.length ≤ t.length) (h : dollF W q d p s = .ok (x, r)) : x.sz + r.length ≤ p.sz + s.length + 1 := by
  unfold dollF at h
  split at h
  · split at h
    · cases h
    · rename_i x' r' e
      cases h
      have h1 := braceF_len (fun t w r ht hw => hW t w r (by simp at ht; omega) hw) e
      have h2 := add_sz p x'
      rw [List.length_tail] at h1; omega
  split at h
  · split at h
    · cases h
    · cases h; rename_i i _; have := add_sz p (.mk 4 ((s.drop 2).take i) [] [] [] q); simp at this ⊢; omega
  split at h
  · split at h
    · cases h
    · cases h; rename_i i _; have := add_sz p (.mk 5 (s.tail.take i) [] [] [] q); simp at this ⊢; omega
  split at h
  · cases h; have := add_sz p (.mk 3 [] (s.take (paramLen s)) [] [] q); simp at this ⊢; omega
  · cases h; have := put_sz p (if q then 2 else 1) [36]; simp at this ⊢; omega
theorem flush_flush (p : PS) : p.flush.flush = p.flush := by
  unfold PS.flush; simp
theorem put_nil (p : PS) (k : Nat) : p.put k [] = p := by unfold PS.put; rw [if_pos rfl]
theorem put_put (p : PS) (k : Nat) (s t : Bz) : (p.put k s).put k t = p.put k (s ++ t) := by
  by_cases hs : s = []
  · subst hs; rw [put_nil, List.nil_append]
  by_cases ht : t = []
  · subst ht; rw [put_nil, List.append_nil]
  have hst : s ++ t ≠ [] := by simp [hs]
  unfold PS.put
  rw [if_neg hs, if_neg hst]
  by_cases hk : k = p.kind
  · rw [if_pos hk, if_pos hk, if_neg ht]; simp
  · rw [if_neg hk, if_neg hk, if_neg ht]; simp
theorem all_put (k : Nat) (s : Bz) (hs : s ≠ []) (hk : k ≠ 0) : (ps0.put k s).all = [txt k s] := by
  have : ps0.put k s = ⟨[], k, s, false⟩ := by
    unfold PS.put; rw [if_neg hs, if_neg (by simpa [ps0] using hk)]; rfl
  rw [this]
  unfold PS.all PS.flush
  simp [hs]
/-- A byte that stands in a word as itself. -/
structure Plain (e : Nat) (q : Bool) (x : UInt8) : Prop where
  e : endsB e x = false
  a : x ≠ 92
  b : ¬ (x = 39 ∧ q = false)
  c : x ≠ 34
  d : x ≠ 36
  f : x ≠ 96
theorem read_plain {e : Nat} {q : Bool} {d : Nat} : ∀ (s : Bz) (p : PS) (r : Bz), (∀ x ∈ s, Plain e q x) → readC e q d p (s ++ r) = readC e q d (p.put (if q then 2 else 1) s) r
  | [], p, r, _ => by rw [put_nil]; rfl
  | c :: s, p, r, h => by
    have hc := h c (by simp)
    rw [List.cons_append, readC_else hc.e hc.a hc.b hc.c hc.d hc.f, read_plain s _ r (fun x hx => h x (List.mem_cons_of_mem _ hx)), put_put]
    rfl
theorem low_plain {e : Nat} {q : Bool} {x : UInt8} (h1 : 97 ≤ x) (h2 : x ≤ 122) : Plain e q x := by
  have key : ∀ y : UInt8, ¬ (97 ≤ y ∧ y ≤ 122) → x ≠ y := fun y hy e => hy (e ▸ ⟨h1, h2⟩)
  have n := fun (y : UInt8) (hy : decide (97 ≤ y ∧ y ≤ 122) = false) => key y (by simpa using hy)
  refine ⟨?_, n 92 rfl, fun h => n 39 rfl h.1, n 34 rfl, n 36 rfl, n 96 rfl⟩
  unfold endsB separates isSpace isBlank separs
  have e1 := n 32 rfl; have e2 := n 9 rfl; have e3 := n 10 rfl; have e4 := n 59 rfl; have e5 := n 38 rfl; have e6 := n 124 rfl; have e7 := n 40 rfl
  have e8 := n 41 rfl; have e9 := n 60 rfl; have e10 := n 62 rfl; have e11 := n 34 rfl
  have e12 : x ≠ 125 := by
    intro e; subst e; revert h2; decide
  simp [e1, e2, e3, e4, e5, e6, e7, e8, e9, e10, e11, e12]
theorem tokF_nil {f : Nat} {s : Bz} {l : List Tok} (h : skipF false s = []) : tokF (f + 1) s l = .ok l := by rw [tokF, h]
theorem tokF_op {f : Nat} {s : Bz} {l : List Tok} {c : UInt8} {r o : Bz} (h : skipF false s = c :: r) (ho : operator (c :: r) = o) (hne : o ≠ []) : tokF (f + 1) s l = tokF f ((c :: r).drop o.length) (l ++ [.op o]) := by
  rw [tokF, h]
  simp only
  rw [ho, if_neg hne]
theorem tokF_word {f : Nat} {s : Bz} {l : List Tok} {c : UInt8} {r : Bz} (h : skipF false s = c :: r) (ho : operator (c :: r) = []) (hc : c ≠ 38) : tokF (f + 1) s l = match wordF 1 (c :: r) with
    | .error x => .error x
    | .ok (w, r') => tokF f r' (l ++ [.word w]) := by
  rw [tokF, h]
  simp only
  rw [if_pos ho, if_neg hc]
  cases wordF 1 (c :: r) <;> rfl
theorem tokF_bad {f : Nat} {s : Bz} {l : List Tok} {r : Bz} (h : skipF false s = 38 :: r) (ho : operator (38 :: r) = []) : tokF (f + 1) s l = .error 2 := by
  rw [tokF, h]
  simp only
  rw [if_pos ho, if_pos trivial]
theorem alive_val : tokensF [97, 32, 34, 98, 32, 99, 34] = .ok [.word [txt 1 [97]], .word [txt 2 [98, 32, 99]]] := by rfl
end Go.Proofs.Ytafbheplaheohaa
