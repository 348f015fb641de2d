import Derived.Lib.Replace
import Derived.Lib.SplitLaws
import Derived.Lib.SlTrimSet
namespace Go.Proofs.YtcjfpkfbdcmlbaaDoor
set_option linter.unusedVariables false
abbrev Bs := List UInt8

/-! The physical lines of a text. -/
def seg : Bs → List Bs
  | [] => [[]]
  | c :: t => if c = 10 then [] :: seg t else match seg t with | [] => [[c]] | h :: r => (c :: h) :: r
theorem seg_ne (s : Bs) : seg s ≠ [] := by
  cases s with
  | nil => simp [seg]
  | cons c t =>
    rw [seg]
    split
    · simp
    · split <;> simp
theorem seg_cons10 (t : Bs) : seg (10 :: t) = [] :: seg t := by rw [seg, if_pos rfl]
theorem seg_cons {c : UInt8} (h : c ≠ 10) (t : Bs) : ∃ hd r, seg t = hd :: r ∧ seg (c :: t) = (c :: hd) :: r := by
  cases hs : seg t with
  | nil => exact absurd hs (seg_ne t)
  | cons hd r => exact ⟨hd, r, rfl, by rw [seg, if_neg h, hs]⟩
theorem seg_app : ∀ (a b : Bs), (∀ c ∈ a, c ≠ 10) → seg (a ++ 10 :: b) = a :: seg b
  | [], b, _ => seg_cons10 b
  | c :: a, b, h => by
    have ih := seg_app a b (fun x hx => h x (by simp [hx]))
    obtain ⟨hd, r, e1, e2⟩ := seg_cons (h c (by simp)) (a ++ 10 :: b)
    rw [ih] at e1
    injection e1 with e3 e4
    rw [List.cons_append, e2, ← e3, ← e4]
theorem seg_one : ∀ (a : Bs), (∀ c ∈ a, c ≠ 10) → seg a = [a]
  | [], _ => rfl
  | c :: a, h => by
    have ih := seg_one a (fun x hx => h x (by simp [hx]))
    obtain ⟨hd, r, e1, e2⟩ := seg_cons (h c (by simp)) a
    rw [ih] at e1
    injection e1 with e3 e4
    rw [e2, ← e3, ← e4]
theorem seg_cat : ∀ (a b : Bs), seg (a ++ 10 :: b) = seg a ++ seg b
  | [], b => seg_cons10 b
  | c :: a, b => by
    have ih := seg_cat a b
    by_cases h : c = 10
    · subst h
      rw [List.cons_append, seg_cons10, seg_cons10, ih, List.cons_append]
    · obtain ⟨hd, r, e1, e2⟩ := seg_cons h (a ++ 10 :: b)
      obtain ⟨hd', r', e3, e4⟩ := seg_cons h a
      rw [ih, e3, List.cons_append] at e1
      injection e1 with e5 e6
      rw [List.cons_append, e2, e4, List.cons_append, ← e5, ← e6]
theorem split_first {c : UInt8} : ∀ {s : Bs}, c ∈ s → ∃ a b, s = a ++ c :: b ∧ ∀ x ∈ a, x ≠ c
  | d :: s, h => by
    by_cases hd : d = c
    · subst hd; exact ⟨[], s, rfl, by simp⟩
    · rcases List.mem_cons.1 h with h | h
      · exact absurd h.symm hd
      · obtain ⟨a, b, e, h2⟩ := split_first h
        refine ⟨d :: a, b, by rw [e]; rfl, fun x hx => ?_⟩
        rcases List.mem_cons.1 hx with rfl | hx
        · exact hd
        · exact h2 x hx
theorem index_hit {c : UInt8} : ∀ (a b : Bs), (∀ x ∈ a, x ≠ c) → Lib.indexByte (a ++ c :: b) c = a.length
  | [], b, _ => by rw [List.nil_append, Lib.indexByte, if_pos (by simp)]; rfl
  | d :: a, b, h => by
    have ih := index_hit a b (fun x hx => h x (by simp [hx]))
    rw [List.cons_append, Lib.indexByte, if_neg (by simpa using h d (by simp)), ih, if_neg (by simp), List.length_cons]; omega
theorem index_miss {c : UInt8} : ∀ (a : Bs), (∀ x ∈ a, x ≠ c) → Lib.indexByte a c = -1
  | [], _ => rfl
  | d :: a, h => by
    rw [Lib.indexByte, if_neg (by simpa using h d (by simp)), index_miss a (fun x hx => h x (by simp [hx]))]; rfl
/-- What Split makes of a text. -/
theorem splitK_seg : ∀ (k : Nat) (s : Bs), s.count 10 ≤ k → Lib.splitK [10] 0 k s = seg s
  | k, s, hk => by
    by_cases h : (10 : UInt8) ∈ s
    · obtain ⟨a, b, rfl, ha⟩ := split_first h
      rw [List.count_append, List.count_cons_self] at hk
      cases k with
      | zero => omega
      | succ k =>
        have hi := index_hit a b ha
        rw [Lib.splitK, Lib.index_one, hi, if_neg (by simp), seg_app a b ha]
        have e1 : (a ++ 10 :: b).take ((a.length : Int).toNat + 0) = a := by simp
        have e2 : (a ++ 10 :: b).drop ((a.length : Int).toNat + [(10 : UInt8)].length) = b := by simp
        rw [e1, e2, splitK_seg k b (by omega)]
    · have hn : ∀ x ∈ s, x ≠ 10 := fun x hx e => h (e ▸ hx)
      rw [seg_one s hn]
      cases k with
      | zero => rfl
      | succ k => rw [Lib.splitK, Lib.index_one, index_miss s hn, if_pos (by decide)]
/-- A text's lines: the last one may want its end. -/
def dropE (l : List Bs) : List Bs := if l.getLast? = some [] then l.dropLast else l
def phys (s : Bs) : List Bs := dropE (seg s)
theorem dropE_snoc (l : List Bs) (x : Bs) : dropE (l ++ [x]) = if x = [] then l else l ++ [x] := by
  unfold dropE
  rw [List.getLast?_append, List.dropLast_append_of_ne_nil (by simp)]
  simp
theorem phys_nil : phys [] = [] := rfl
theorem phys_end (u : Bs) : phys (u ++ [10]) = seg u := by
  unfold phys
  rw [seg_cat u [], show seg [] = [[]] from rfl, dropE_snoc, if_pos rfl]
theorem last_seg : ∀ (s : Bs), s ≠ [] → s.getLast? ≠ some 10 → (seg s).getLast? ≠ some []
  | [], h, _ => absurd rfl h
  | c :: t, _, h => by
    by_cases ht : t = []
    · subst ht
      have hc : c ≠ 10 := by simpa using h
      rw [seg_one [c] (by simpa using hc)]; simp
    · have hl : t.getLast? ≠ some 10 := by rwa [List.getLast?_cons_of_ne_nil ht] at h
      have ih := last_seg t ht hl
      by_cases hc : c = 10
      · subst hc
        rw [seg_cons10, List.getLast?_cons_of_ne_nil (seg_ne t)]; exact ih
      · obtain ⟨hd, r, e1, e2⟩ := seg_cons hc t
        rw [e2]
        rw [e1] at ih
        cases r with
        | nil => simp
        | cons y r => rw [List.getLast?_cons_of_ne_nil (by simp)] at ih ⊢; exact ih
theorem phys_open (s : Bs) (h0 : s ≠ []) (h : s.getLast? ≠ some 10) : phys s = seg s := by
  unfold phys dropE
  rw [if_neg (last_seg s h0 h)]
/-- What the program makes of it. -/
theorem phys_trim (s : Bs) (h0 : s ≠ []) : Lib.splitK [10] 0 (Lib.count (Lib.trimSuffix s [10]) [10]) (Lib.trimSuffix s [10]) = phys s := by
  rw [splitK_seg _ _ (by rw [Lib.count_one]; exact Nat.le_refl _)]
  by_cases h : s.getLast? = some 10
  · obtain ⟨u, rfl⟩ : ∃ u, s = u ++ [10] := ⟨s.dropLast, by
      obtain ⟨l, hl⟩ := List.getLast?_eq_some_iff.1 h
      rw [hl]; simp⟩
    have e : Lib.trimSuffix (u ++ [10]) [10] = u := by
      unfold Lib.trimSuffix
      rw [if_pos (by simp [Lib.hasSuffix])]
      simp
    rw [e, phys_end]
  · have e : Lib.trimSuffix s [10] = s := by
      unfold Lib.trimSuffix
      rw [if_neg ?_]
      intro hs
      apply h
      simp only [Lib.hasSuffix] at hs
      obtain ⟨u, hu⟩ := List.isSuffixOf_iff_suffix.1 hs
      rw [← hu]; simp
    rw [e, phys_open s h0 h]

/-! How lines go on. -/
def isB (c : UInt8) : Bool := [(32 : UInt8), 9].contains c
/-- How many backslashes stand at the end. -/
def sl (s : Bs) : Nat := (s.reverse.takeWhile (· == 92)).length
def odd (s : Bs) : Bool := sl s % 2 == 1
theorem sl_trim (s : Bs) : (Lib.trimRightS s [92]).length + sl s = s.length := by
  unfold Lib.trimRightS sl
  rw [List.length_reverse]
  have e : s.reverse.dropWhile (fun x => [(92 : UInt8)].contains x) = s.reverse.dropWhile (· == 92) := by
    congr 1; funext b; exact Lib.contains_one 92 b
  rw [e]
  have := congrArg List.length (List.takeWhile_append_dropWhile (p := fun x : UInt8 => x == 92) (l := s.reverse))
  rw [List.length_append, List.length_reverse] at this
  omega
theorem sl_at {s : Bs} {n : Nat} (h1 : ∀ x ∈ s.reverse.take n, x = 92) (hn : n ≤ s.length) (h2 : ∀ c, s.reverse[n]? = some c → c ≠ 92) : sl s = n := by
  unfold sl
  conv => lhs; rw [← List.take_append_drop n s.reverse]
  have h3 : ∀ x ∈ s.reverse.take n, (x == 92) = true := fun x hx => by rw [h1 x hx]; rfl
  rw [List.takeWhile_append_of_pos h3, List.length_append]
  have h4 : (s.reverse.drop n).takeWhile (· == 92) = [] := by
    cases h : s.reverse.drop n with
    | nil => rfl
    | cons c r =>
      have : s.reverse[n]? = some c := by
        have := congrArg List.head? h
        rw [List.head?_drop] at this
        exact this
      rw [List.takeWhile_cons, if_neg (by simpa using h2 c this)]
  rw [h4, List.length_take, List.length_reverse]
  simp; omega
def tl9 (s : Bs) : Bs := if s.head? = some 9 then s.tail else s
def trR (s : Bs) : Bs := Lib.trimRightS s [32, 9]
def trL (s : Bs) : Bs := Lib.trimLeftS s [32, 9]
theorem trR_nil : trR [] = [] := rfl
theorem trR_snoc (s : Bs) (c : UInt8) : trR (s ++ [c]) = if isB c then trR s else s ++ [c] := by
  unfold trR Lib.trimRightS isB
  rw [List.reverse_append, List.reverse_singleton, List.singleton_append, List.dropWhile_cons]
  split <;> simp
theorem trL_cons (c : UInt8) (s : Bs) : trL (c :: s) = if isB c then trL s else c :: s := by
  unfold trL Lib.trimLeftS isB
  rw [List.dropWhile_cons]
/-- Both ends, from either side. -/
theorem trim_comm (s : Bs) : trL (trR s) = trR (trL s) := by
  have key : ∀ (n : Nat) (s : Bs), s.length = n → trL (trR s) = trR (trL s) := by
    intro n
    induction n with
    | zero => intro s h; rw [List.length_eq_zero_iff.1 h]; rfl
    | succ n ih =>
      intro s h
      cases s with
      | nil => rfl
      | cons c t =>
        by_cases hc : isB c = true
        · have e1 : trL (c :: t) = trL t := by rw [trL_cons, if_pos hc]
          rw [e1, ← ih t (by simpa using h)]
          have e2 : trR (c :: t) = [] ∧ trR t = [] ∨ trR (c :: t) = c :: trR t := by
            unfold trR Lib.trimRightS
            rw [List.reverse_cons]
            have hd : ∀ l : Bs, (l ++ [c]).dropWhile (fun x => [(32 : UInt8), 9].contains x) = [] ∧ l.dropWhile (fun x => [(32 : UInt8), 9].contains x) = [] ∨ (l ++ [c]).dropWhile (fun x => [(32 : UInt8), 9].contains x) = l.dropWhile (fun x => [(32 : UInt8), 9].contains x) ++ [c] := by
              intro l
              induction l with
              | nil => left; rw [List.nil_append, List.dropWhile_cons, if_pos (by exact hc)]; exact ⟨rfl, rfl⟩
              | cons d l ih2 =>
                rw [List.cons_append, List.dropWhile_cons, List.dropWhile_cons]
                split
                · exact ih2
                · right; rfl
            rcases hd t.reverse with ⟨h1, h2⟩ | h1
            · left; rw [h1, h2]; exact ⟨rfl, rfl⟩
            · right; rw [h1, List.reverse_append]; rfl
          rcases e2 with ⟨h1, h2⟩ | h1
          · rw [h1, h2]
          · rw [h1, trL_cons, if_pos hc]
        · have e1 : trL (c :: t) = c :: t := by rw [trL_cons, if_neg hc]
          rw [e1]
          have e2 : ∃ r, trR (c :: t) = c :: r := by
            unfold trR Lib.trimRightS
            rw [List.reverse_cons]
            have hd : ∀ l : Bs, ∃ r, (l ++ [c]).dropWhile (fun x => [(32 : UInt8), 9].contains x) = r ++ [c] := by
              intro l
              induction l with
              | nil =>
                refine ⟨[], ?_⟩
                rw [List.nil_append, List.dropWhile_cons, if_neg (by exact hc)]
              | cons d l ih2 =>
                rw [List.cons_append, List.dropWhile_cons]
                split
                · exact ih2
                · exact ⟨d :: l, rfl⟩
            obtain ⟨r, hr⟩ := hd t.reverse
            exact ⟨r.reverse, by rw [hr, List.reverse_append]; rfl⟩
          obtain ⟨r, hr⟩ := e2
          rw [hr, trL_cons, if_neg hc]
  exact key s.length s rfl

/-! A line without its comment. -/
def cmt : Bs → Bs
  | [] => []
  | c :: t => if c = 92 ∧ t.head? = some 35 then 35 :: cmt t.tail else if c = 35 then [] else c :: cmt t
termination_by l => l.length
decreasing_by all_goals (simp; try omega)
def rep : Bs → Bs
  | [] => []
  | c :: t => if c = 92 ∧ t.head? = some 35 then 35 :: rep t.tail else c :: rep t
termination_by l => l.length
decreasing_by all_goals (simp; try omega)
/-- Up to the first remark; b: a backslash stands ahead. -/
def cutR : Bool → Bs → Bs
  | _, [] => []
  | b, c :: t => if c = 35 ∧ b = false then [] else c :: cutR (c == 92) t
theorem cutR_head (b : Bool) (t : Bs) (h : t.head? ≠ some 35) : cutR b t = cutR false t ∧ (cutR false t).head? ≠ some 35 := by
  cases t with
  | nil => exact ⟨rfl, by simp [cutR]⟩
  | cons c t =>
    have hc : c ≠ 35 := by simpa using h
    rw [cutR, cutR, if_neg (fun e => hc e.1), if_neg (fun e => hc e.1)]
    exact ⟨rfl, by simpa using hc⟩
theorem cmt_rep : ∀ (n : Nat) (s : Bs), s.length ≤ n → cmt s = rep (cutR false s)
  | n, [], _ => by rw [cmt, cutR, rep]
  | 0, c :: t, h => by simp at h
  | n + 1, c :: t, h => by
    have hl : t.length ≤ n := by simpa using h
    rw [cmt]
    by_cases h1 : c = 92 ∧ t.head? = some 35
    · rw [if_pos h1]
      obtain ⟨rfl, h2⟩ := h1
      cases t with
      | nil => simp at h2
      | cons d t =>
        have hd : d = 35 := by simpa using h2
        subst hd
        rw [List.tail_cons, cmt_rep n t (by simp at hl; omega), cutR, if_neg (by simp), cutR, if_neg (by simp), rep, if_pos (by simp)]
        rfl
    · rw [if_neg h1]
      by_cases h2 : c = 35
      · subst h2
        rw [if_pos rfl, cutR, if_pos ⟨rfl, rfl⟩, rep]
      · rw [if_neg h2, cmt_rep n t hl, cutR, if_neg (fun e => h2 e.1)]
        by_cases h3 : c = 92
        · subst h3
          have h4 : t.head? ≠ some 35 := fun e => h1 ⟨rfl, e⟩
          obtain ⟨e1, e2⟩ := cutR_head true t h4
          rw [show ((92 : UInt8) == 92) = true from rfl, e1, rep, if_neg (fun e => e2 e.2)]
        · rw [show (c == 92) = false by simpa using h3, rep, if_neg (fun e => h3 e.1)]
theorem pre_iff (c : UInt8) (t : Bs) : ([(92 : UInt8), 35].isPrefixOf (c :: t)) = true ↔ c = 92 ∧ t.head? = some 35 := by
  cases t with
  | nil => simp [List.isPrefixOf]
  | cons d t => simp [List.isPrefixOf]; exact ⟨fun h => ⟨h.1.symm, h.2.symm⟩, fun h => ⟨h.1.symm, h.2.symm⟩⟩
theorem index_skip {c : UInt8} {t : Bs} (h : ¬ (c = 92 ∧ t.head? = some 35)) : Lib.index (c :: t) [92, 35] = if Lib.index t [92, 35] = -1 then -1 else Lib.index t [92, 35] + 1 := by
  rw [Lib.index, if_neg (fun e => h ((pre_iff c t).1 e))]
  by_cases h2 : Lib.index t [92, 35] = -1
  · rw [if_pos h2, if_pos (by simpa using h2)]
  · rw [if_neg h2, if_neg (by simpa using h2)]
theorem replaceK_skip {c : UInt8} {t : Bs} (h : ¬ (c = 92 ∧ t.head? = some 35)) (k : Nat) : Lib.replaceK [92, 35] [35] k (c :: t) = c :: Lib.replaceK [92, 35] [35] k t := by
  cases k with
  | zero => rfl
  | succ k =>
    rw [Lib.replaceK, Lib.replaceK, index_skip h]
    by_cases h2 : Lib.index t [92, 35] = -1
    · rw [if_pos h2, if_pos (by decide), h2, if_pos (by decide)]
    · have hge := Lib.index_ge t [92, 35]
      obtain ⟨i, hi⟩ : ∃ i : Nat, Lib.index t [92, 35] = i := ⟨(Lib.index t [92, 35]).toNat, by omega⟩
      rw [if_neg h2, hi, if_neg (by simp; omega), if_neg (by simp)]
      have e1 : ((i : Int) + 1).toNat = i + 1 := by omega
      rw [e1, Int.toNat_natCast, List.take_succ_cons, show i + 1 + [(92 : UInt8), 35].length = (i + [(92 : UInt8), 35].length) + 1 by omega, List.drop_succ_cons]
      rfl
theorem count_skip {c : UInt8} {t : Bs} (h : ¬ (c = 92 ∧ t.head? = some 35)) : Lib.count (c :: t) [92, 35] = Lib.count t [92, 35] := by
  have hi := index_skip h
  by_cases h2 : Lib.index t [92, 35] = -1
  · rw [if_pos h2] at hi
    rw [Lib.count_miss hi, Lib.count_miss h2]
  · have hge := Lib.index_ge t [92, 35]
    obtain ⟨i, hi2⟩ : ∃ i : Nat, Lib.index t [92, 35] = i := ⟨(Lib.index t [92, 35]).toNat, by omega⟩
    rw [if_neg h2, hi2] at hi
    rw [Lib.count_hit (i := i + 1) (by simp) (by rw [hi]; omega), Lib.count_hit (i := i) (by simp) hi2]
    rfl
theorem replaceK_rep : ∀ (n k : Nat) (s : Bs), s.length ≤ n → Lib.count s [92, 35] ≤ k → Lib.replaceK [92, 35] [35] k s = rep s
  | n, k, [], _, _ => by
    rw [rep]
    cases k with
    | zero => rfl
    | succ k => rw [Lib.replaceK, show Lib.index [] [92, 35] = -1 from rfl, if_pos (by decide)]
  | 0, k, c :: t, h, _ => by simp at h
  | n + 1, k, c :: t, h, hk => by
    have hl : t.length ≤ n := by simpa using h
    rw [rep]
    by_cases h1 : c = 92 ∧ t.head? = some 35
    · rw [if_pos h1]
      have h0 : Lib.index (c :: t) [92, 35] = (0 : Nat) := by rw [Lib.index, if_pos ((pre_iff c t).2 h1)]; rfl
      rw [Lib.count_hit (i := 0) (by simp) h0] at hk
      cases k with
      | zero => omega
      | succ k =>
        rw [Lib.replaceK, h0, if_neg (by simp)]
        have e : (c :: t).drop (((0 : Nat) : Int).toNat + [(92 : UInt8), 35].length) = t.tail := by cases t <;> rfl
        have e2 : (c :: t).drop (0 + [(92 : UInt8), 35].length) = t.tail := by cases t <;> rfl
        rw [e2] at hk
        rw [e, replaceK_rep n k t.tail (by simp; omega) (by omega)]
        rfl
    · rw [if_neg h1, replaceK_skip h1, replaceK_rep n k t hl (by rw [count_skip h1] at hk; exact hk)]
theorem replaceAll_rep (s : Bs) : Lib.replaceAll s [92, 35] [35] = rep s := by
  unfold Lib.replaceAll Lib.replace
  rw [if_neg (by decide)]
  refine replaceK_rep s.length _ s (Nat.le_refl _) ?_
  unfold Lib.replaceNum
  rw [if_pos (Or.inl (by decide))]
  exact Nat.le_refl _

/-! The lines of a makefile. -/
abbrev LN := Bool × Bs
def goR : Bs → List Bs → Bs × List Bs
  | t, [] => (t, [])
  | t, n :: r => if odd t then goR (t ++ 10 :: tl9 n) r else (t, n :: r)
def goN : Bs → List Bs → Bs × List Bs
  | t, [] => if odd t then (trR t.dropLast ++ [32], []) else (t, [])
  | t, n :: r => if odd t then goN (trR t.dropLast ++ [32] ++ trL n) r else (t, n :: r)
theorem goR_len : ∀ (t : Bs) (r : List Bs), (goR t r).2.length ≤ r.length
  | t, [] => Nat.le_refl _
  | t, n :: r => by
    rw [goR]
    split
    · have := goR_len (t ++ 10 :: tl9 n) r; simp; omega
    · exact Nat.le_refl _
theorem goN_len : ∀ (t : Bs) (r : List Bs), (goN t r).2.length ≤ r.length
  | t, [] => by rw [goN]; split <;> exact Nat.le_refl _
  | t, n :: r => by
    rw [goN]
    split
    · have := goN_len (trR t.dropLast ++ [32] ++ trL n) r; simp at this ⊢; omega
    · exact Nat.le_refl _
def fin (t : Bs) : List LN := if trL (trR (cmt t)) = [] then [] else [(false, trL (trR (cmt t)))]
def readF : Nat → List Bs → List LN
  | 0, _ => []
  | _ + 1, [] => []
  | n + 1, t :: r => if t.head? = some 9 then (true, (goR t.tail r).1) :: readF n (goR t.tail r).2 else fin (goN t r).1 ++ readF n (goN t r).2
theorem readF_enough : ∀ (n : Nat) (l : List Bs), l.length ≤ n → readF n l = readF l.length l
  | 0, l, h => by rw [List.length_eq_zero_iff.1 (Nat.le_zero.1 h)]; rfl
  | n + 1, [], _ => by rw [readF]; rfl
  | n + 1, t :: r, h => by
    have hr : r.length ≤ n := by simpa using h
    have key : ∀ r', r'.length ≤ r.length → readF n r' = readF r.length r' := fun r' hr' => by
      rw [readF_enough n r' (by omega)]
      by_cases hz : r.length < n + 1
      · exact (readF_enough' r.length r' hr' n hz).symm
      · omega
    rw [List.length_cons, readF, readF, key _ (goR_len _ _), key _ (goN_len _ _)]
where
  readF_enough' (m : Nat) (r' : List Bs) (h : r'.length ≤ m) (n : Nat) (hm : m < n + 1) : readF m r' = readF r'.length r' := by
    exact readF_enough m r' h
def readL (l : List Bs) : List LN := readF l.length l
theorem readL_nil : readL [] = [] := rfl
theorem readL_rec {t : Bs} {r : List Bs} (h : t.head? = some 9) : readL (t :: r) = (true, (goR t.tail r).1) :: readL (goR t.tail r).2 := by
  unfold readL
  rw [List.length_cons, readF, if_pos h, readF_enough _ _ (goR_len _ _)]
theorem readL_not {t : Bs} {r : List Bs} (h : t.head? ≠ some 9) : readL (t :: r) = fin (goN t r).1 ++ readL (goN t r).2 := by
  unfold readL
  rw [List.length_cons, readF, if_neg h, readF_enough _ _ (goN_len _ _)]
end Go.Proofs.YtcjfpkfbdcmlbaaDoor
