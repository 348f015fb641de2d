import Derived.Test.YtcjfpkfbdcmlbaaDoorA
namespace Go.Proofs.YtcjfpkfbdcmlbaaDoor
set_option linter.unusedVariables false

/-! Makefiles one behind the other. -/
theorem getLast?_app {α : Type} (X : List α) {Y : List α} (h : Y ≠ []) : (X ++ Y).getLast? = Y.getLast? := by
  rw [List.getLast?_append]
  cases hy : Y.getLast? with
  | none => exact absurd (List.getLast?_eq_none_iff.1 hy) h
  | some y => rfl
theorem dropE_app {X Y : List Bs} (hY : Y ≠ []) : dropE (X ++ Y) = X ++ dropE Y := by
  unfold dropE
  rw [getLast?_app _ hY, List.dropLast_append_of_ne_nil hY]
  split <;> rfl
theorem phys_cat (a b : Bs) : phys (a ++ 10 :: b) = seg a ++ phys b := by
  unfold phys; rw [seg_cat, dropE_app (seg_ne b)]
/-- The last line does not end with a backslash. -/
def okL : List Bs → Prop
  | [] => True
  | [x] => x.getLast? ≠ some 92
  | _ :: y :: r => okL (y :: r)
theorem okL_tail {x : Bs} {r : List Bs} (h : okL (x :: r)) : okL r := by
  cases r with
  | nil => trivial
  | cons y r => exact h
theorem okL_head {x z : Bs} {r : List Bs} (h : okL (x :: r)) (hz : x.getLast? ≠ some 92 → z.getLast? ≠ some 92) : okL (z :: r) := by
  cases r with
  | nil => exact hz h
  | cons y r => exact h
theorem odd_end {t : Bs} (h : t.getLast? ≠ some 92) : odd t = false := by
  have : sl t = 0 := by
    unfold sl
    rw [List.getLast?_eq_head?_reverse] at h
    cases hr : t.reverse with
    | nil => rfl
    | cons c u =>
      rw [hr] at h
      have hc : c ≠ 92 := by simpa using h
      rw [List.takeWhile_cons, if_neg (by simpa using hc)]; rfl
  unfold odd; rw [this]; rfl
theorem last_suffix {u n : Bs} (c : UInt8) (hc : c ≠ 92) (hs : u <:+ n) (hn : n.getLast? ≠ some 92) : (c :: u).getLast? ≠ some 92 := by
  obtain ⟨w, rfl⟩ := hs
  cases u with
  | nil => simpa using hc
  | cons d u =>
    rw [List.getLast?_cons_of_ne_nil (by simp)]
    rwa [getLast?_app _ (by simp)] at hn
theorem tl9_suf (n : Bs) : tl9 n <:+ n := by
  unfold tl9; split
  · exact List.tail_suffix n
  · exact List.suffix_rfl
theorem trL_suf (n : Bs) : trL n <:+ n := List.dropWhile_suffix _
theorem goR_app : ∀ (r : List Bs) (t : Bs) (P : List Bs), okL (t :: r) → goR t (r ++ P) = ((goR t r).1, (goR t r).2 ++ P) ∧ okL (goR t r).2
  | [], t, P, h => by
    have ho := odd_end (show t.getLast? ≠ some 92 from h)
    have e : goR t [] = (t, []) := by rw [goR]
    rw [e]
    refine ⟨?_, trivial⟩
    cases P with
    | nil => exact e
    | cons n P => rw [List.nil_append, goR, if_neg (by simp [ho])]
  | n :: r, t, P, h => by
    rw [List.cons_append, goR, goR]
    split
    · exact goR_app r _ P (okL_head (okL_tail h) (fun hn => by rw [getLast?_app _ (by simp)]; exact last_suffix 10 (by decide) (tl9_suf n) hn))
    · exact ⟨rfl, okL_tail h⟩
theorem goN_app : ∀ (r : List Bs) (t : Bs) (P : List Bs), okL (t :: r) → goN t (r ++ P) = ((goN t r).1, (goN t r).2 ++ P) ∧ okL (goN t r).2
  | [], t, P, h => by
    have ho := odd_end (show t.getLast? ≠ some 92 from h)
    have e : goN t [] = (t, []) := by rw [goN, if_neg (by simp [ho])]
    rw [e]
    refine ⟨?_, trivial⟩
    cases P with
    | nil => exact e
    | cons n P => rw [List.nil_append, goN, if_neg (by simp [ho])]
  | n :: r, t, P, h => by
    rw [List.cons_append, goN, goN]
    split
    · exact goN_app r _ P (okL_head (okL_tail h) (fun hn => by
        rw [List.append_assoc, getLast?_app _ (by simp)]; exact last_suffix 32 (by decide) (trL_suf n) hn))
    · exact ⟨rfl, okL_tail h⟩
theorem tail_last {t : Bs} (h : t.getLast? ≠ some 92) : t.tail.getLast? ≠ some 92 := by
  cases t with
  | nil => exact h
  | cons c t =>
    cases t with
    | nil => simp
    | cons d t => rwa [List.getLast?_cons_of_ne_nil (by simp)] at h
theorem readL_app : ∀ (n : Nat) (X P : List Bs), X.length ≤ n → okL X → readL (X ++ P) = readL X ++ readL P
  | n, [], P, _, _ => rfl
  | 0, x :: X, P, h, _ => by simp at h
  | n + 1, t :: r, P, h, hk => by
    have hr : r.length ≤ n := by simpa using h
    by_cases h9 : t.head? = some 9
    · obtain ⟨e, hk2⟩ := goR_app r t.tail P (okL_head hk tail_last)
      rw [List.cons_append, readL_rec h9, readL_rec h9, e, List.cons_append]
      dsimp only
      rw [readL_app n _ P (Nat.le_trans (goR_len _ _) hr) hk2]
    · obtain ⟨e, hk2⟩ := goN_app r t P hk
      rw [List.cons_append, readL_not h9, readL_not h9, e, List.append_assoc]
      dsimp only
      rw [readL_app n _ P (Nat.le_trans (goN_len _ _) hr) hk2]
theorem readL_empty (P : List Bs) : readL ([] :: P) = readL P := by
  rw [readL_not (by simp)]
  have e : goN [] P = ([], P) := by cases P <;> rfl
  rw [e]
  have e2 : fin [] = [] := by unfold fin; rw [cmt]; rfl
  rw [e2]; rfl
theorem seg_single : ∀ (t : Bs), seg t = [[]] → t = []
  | [], _ => rfl
  | c :: t, h => by
    by_cases hc : c = 10
    · subst hc; rw [seg_cons10] at h
      injection h with _ h2
      exact absurd h2 (seg_ne t)
    · obtain ⟨hd, r, e1, e2⟩ := seg_cons hc t
      rw [e2] at h
      injection h with h1 _
      cases h1
theorem okL_seg : ∀ (u : Bs), u.getLast? ≠ some 92 → okL (seg u)
  | [], _ => by rw [show seg [] = [[]] from rfl]; simp [okL]
  | c :: t, h => by
    by_cases ht : t = []
    · subst ht
      by_cases hc : c = 10
      · subst hc; rw [seg_cons10]; rw [show seg [] = [[]] from rfl]; simp [okL]
      · rw [seg_one [c] (by simpa using hc)]; exact h
    · have hl : t.getLast? ≠ some 92 := by rwa [List.getLast?_cons_of_ne_nil ht] at h
      have ih := okL_seg t hl
      by_cases hc : c = 10
      · subst hc; rw [seg_cons10]
        cases hs : seg t with
        | nil => exact absurd hs (seg_ne t)
        | cons x r => rw [hs] at ih; exact ih
      · obtain ⟨hd, r, e1, e2⟩ := seg_cons hc t
        rw [e2]
        rw [e1] at ih
        cases r with
        | cons y r => exact ih
        | nil =>
          have hne : hd ≠ [] := fun e => ht (seg_single t (by rw [e1, e]))
          show (c :: hd).getLast? ≠ some 92
          rw [List.getLast?_cons_of_ne_nil hne]; exact ih
theorem suf_one {a : Bs} (h : Lib.hasSuffix a [92] = false) : a.getLast? ≠ some 92 := by
  intro hl
  obtain ⟨u, hu⟩ := List.getLast?_eq_some_iff.1 hl
  have : Lib.hasSuffix a [92] = true := by
    unfold Lib.hasSuffix; rw [List.isSuffixOf_iff_suffix]; exact ⟨u, hu.symm⟩
  rw [h] at this; cases this
theorem parts_val (a b : Bs) (h1 : Lib.hasSuffix a [92] = false) (h2 : Lib.hasSuffix a [92, 10] = false) : readL (phys (a ++ 10 :: b)) = readL (phys a) ++ readL (phys b) := by
  rw [phys_cat]
  have hlast := suf_one h1
  by_cases h0 : a = []
  · subst h0
    rw [show seg [] = [[]] from rfl, phys_nil]
    exact readL_empty _
  · by_cases h10 : a.getLast? = some 10
    · obtain ⟨u, rfl⟩ : ∃ u, a = u ++ [10] := List.getLast?_eq_some_iff.1 h10
      rw [phys_end, seg_cat u [], show seg [] = [[]] from rfl, List.append_assoc]
      have hu : u.getLast? ≠ some 92 := by
        intro hl
        obtain ⟨v, rfl⟩ := List.getLast?_eq_some_iff.1 hl
        have : Lib.hasSuffix (v ++ [92] ++ [10]) [92, 10] = true := by
          unfold Lib.hasSuffix; rw [List.isSuffixOf_iff_suffix]; exact ⟨v, by simp⟩
        rw [h2] at this; cases this
      rw [readL_app _ _ _ (Nat.le_refl _) (okL_seg u hu)]
      exact congrArg _ (readL_empty _)
    · rw [phys_open a h0 h10]
      exact readL_app _ _ _ (Nat.le_refl _) (okL_seg a hlast)
end Go.Proofs.YtcjfpkfbdcmlbaaDoor
