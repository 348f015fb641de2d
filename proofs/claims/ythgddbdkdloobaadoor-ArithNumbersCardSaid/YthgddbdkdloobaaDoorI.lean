import Derived.Test.YthgddbdkdloobaaDoorH
namespace Go.Proofs.YthgddbdkdloobaaDoor
open Go.RowKit
set_option linter.unusedVariables false

/-! Pairs. -/
abbrev Prs := List (ByteArray × ByteArray)
def bsl (l : Prs) : List (Bs × Bs) := l.map fun p => (p.1.data.toList, p.2.data.toList)
/-- What a slice of pairs holds, beside block B. -/
structure PV (B : Nat) (w : World) (pv : Value) (l : Prs) : Prop where
  len : l.length ≤ 9223372036854775807
  sz : ∀ p ∈ l, p.2.size ≤ 9223372036854775807
  at' : (∃ o c, pv = .slice o 0 c ∧ l = []) ∨ ∃ b off cap, pv = .slice (some ⟨b, off, none⟩) l.length cap ∧ b < w.heap.size ∧ b ≠ B ∧
    ∀ k (h : k < l.length), w.cell? ⟨b, off + k * 2, none⟩ = some (.string l[k].1) ∧ w.cell? ⟨b, off + k * 2 + 1, none⟩ = some (.string l[k].2)
theorem PV.kept {B : Nat} {w w' : World} {pv : Value} {l : Prs} (h : PV B w pv l) (hk : Kp B w w') : PV B w' pv l := by
  refine ⟨h.len, h.sz, ?_⟩
  rcases h.at' with h1 | ⟨b, off, cap, h1, h2, h3, h4⟩
  · exact .inl h1
  · refine .inr ⟨b, off, cap, h1, Nat.lt_of_lt_of_le h2 hk.size, h3, fun k hk2 => ?_⟩
    rw [hk.cell (p := ⟨b, off + k * 2, none⟩) h2 h3, hk.cell (p := ⟨b, off + k * 2 + 1, none⟩) h2 h3]
    exact h4 k hk2

/-! The blanks at both ends. -/
theorem dw_app_not {p : UInt8 → Bool} : ∀ (a b : Bs), a.all p = false → (a ++ b).dropWhile p = a.dropWhile p ++ b
  | [], b, h => by simp at h
  | c :: a, b, h => by
    rw [List.cons_append, List.dropWhile_cons, List.dropWhile_cons]
    cases hc : p c with
    | true =>
      rw [List.all_cons, hc, Bool.true_and] at h
      simp only [if_true]
      exact dw_app_not a b h
    | false => simp
theorem dw_app_all {p : UInt8 → Bool} : ∀ (a b : Bs), a.all p = true → (a ++ b).dropWhile p = b.dropWhile p
  | [], b, h => rfl
  | c :: a, b, h => by
    rw [List.all_cons, Bool.and_eq_true] at h
    rw [List.cons_append, List.dropWhile_cons, h.1, if_pos rfl]
    exact dw_app_all a b h.2
theorem dw_all {p : UInt8 → Bool} (a : Bs) (h : a.all p = true) : a.dropWhile p = [] := by
  have := dw_app_all a [] h
  simpa using this
theorem trim_both {p : UInt8 → Bool} : ∀ l : Bs, ((l.reverse.dropWhile p).reverse).dropWhile p = ((l.dropWhile p).reverse.dropWhile p).reverse
  | [] => rfl
  | c :: t => by
    have ih := trim_both (p := p) t
    rw [List.reverse_cons, List.dropWhile_cons]
    cases hc : p c with
    | true =>
      simp only [if_true]
      cases ht : t.reverse.all p with
      | true =>
        rw [dw_app_all _ _ ht, List.dropWhile_cons, hc, if_pos rfl, ← ih, dw_all _ ht]; rfl
      | false =>
        rw [dw_app_not _ _ ht, List.reverse_append, List.reverse_singleton, List.singleton_append, List.dropWhile_cons, hc, if_pos rfl, ih]
    | false =>
      rw [if_neg Bool.false_ne_true]
      cases ht : t.reverse.all p with
      | true =>
        rw [dw_app_all _ _ ht, List.reverse_cons, dw_app_all _ _ ht, List.dropWhile_cons, hc, if_neg Bool.false_ne_true, List.reverse_singleton, List.dropWhile_cons, hc, if_neg Bool.false_ne_true]
      | false =>
        rw [dw_app_not _ _ ht, List.reverse_cons, dw_app_not _ _ ht, List.reverse_append, List.reverse_singleton, List.singleton_append, List.dropWhile_cons, hc, if_neg Bool.false_ne_true]
theorem bl_has : ∀ n : Fin 256, ([32, 9, 10] : Bs).contains (UInt8.ofNat n.val) = isBl (UInt8.ofNat n.val) := by decide +kernel
theorem bl_has' (c : UInt8) : ([32, 9, 10] : Bs).contains c = isBl c := by
  have h := bl_has ⟨c.toNat, c.toNat_lt⟩
  simpa using h
theorem trimS_bl (l : Bs) : Lib.trimS l [32, 9, 10] = trim l := by
  unfold Lib.trimS Lib.trimLeftS Lib.trimRightS trim
  rw [show (fun c => ([32, 9, 10] : Bs).contains c) = isBl from funext bl_has']
  exact trim_both l
theorem Trim_any (s : ByteArray) (w : World) (hs : s.size ≤ 9223372036854775807) :
    Calls Tryd.prog 58 #[.string s, .string ⟨#[32, 9, 10]⟩] w fun e w' => e = .returned (.string ⟨(trim s.data.toList).toArray⟩) ∧ Below w.heap.size w w' := by
  have := Tryd.strings_Trim_laid s ⟨#[32, 9, 10]⟩ w hs (by decide) (ascii_of_all (by decide))
  rw [show (⟨#[32, 9, 10]⟩ : ByteArray).data.toList = [32, 9, 10] from rfl, trimS_bl] at this
  exact this
/-! Which one of a name is the last. -/
theorem look_snoc (l : List (Bs × Bs)) (p : Bs × Bs) (n : Bs) : look (l ++ [p]) n = if p.1 = n then p.2 else look l n := by
  unfold look; rw [List.foldl_append]; rfl
theorem look_none {l : List (Bs × Bs)} {n : Bs} (h : ∀ p ∈ l, p.1 ≠ n) : look l n = [] := by
  obtain ⟨k, hk⟩ : ∃ k, l.length = k := ⟨_, rfl⟩
  induction k generalizing l with
  | zero => rw [List.length_eq_zero_iff.1 hk]; rfl
  | succ k ih =>
    have hne : l ≠ [] := by intro e; rw [e] at hk; simp at hk
    rw [← List.dropLast_concat_getLast hne, look_snoc, if_neg (h _ (List.getLast_mem hne))]
    exact ih (fun p hp => h p (List.dropLast_subset l hp)) (by rw [List.length_dropLast, hk]; rfl)
theorem look_at {l : List (Bs × Bs)} {n : Bs} {i : Nat} (h : ∀ j (hj : j < l.length), i ≤ j → l[j].1 ≠ n) : look l n = look (l.take i) n := by
  obtain ⟨k, hk⟩ : ∃ k, l.length - i = k := ⟨_, rfl⟩
  induction k generalizing l with
  | zero => rw [List.take_of_length_le (by omega)]
  | succ k ih =>
    have hne : l ≠ [] := by intro e; rw [e] at hk; simp at hk
    have hl := List.length_pos_iff.2 hne
    have e := List.dropLast_concat_getLast hne
    have h1 : l.getLast hne = l[l.length - 1] := List.getLast_eq_getElem hne
    rw [← e, look_snoc, if_neg (by rw [h1]; exact h _ (by omega) (by omega)), e, ih (l := l.dropLast)]
    · rw [List.dropLast_eq_take, List.take_take, Nat.min_eq_left (by omega)]
    · intro j hj hi
      rw [List.getElem_dropLast]
      rw [List.length_dropLast] at hj
      exact h j (by omega) hi
    · rw [List.length_dropLast]; omega
theorem look_here {l : List (Bs × Bs)} {n : Bs} {i : Nat} (hi : i < l.length) (h : l[i].1 = n) : look (l.take (i + 1)) n = l[i].2 := by
  rw [List.take_add_one, List.getElem?_eq_getElem hi]
  show look (l.take i ++ [l[i]]) n = _
  rw [look_snoc, if_pos h]
theorem tw_mem {p : UInt8 → Bool} : ∀ {l : Bs} {c : UInt8}, c ∈ l.takeWhile p → p c = true
  | [], c, h => by simp at h
  | a :: l, c, h => by
    rw [List.takeWhile_cons] at h
    split at h
    · rename_i ha
      rcases List.mem_cons.1 h with h | h
      · rw [h]; exact ha
      · exact tw_mem h
    · simp at h
/-- What a value's answer is. -/
def encV : Option Int → Value
  | none => .tuple #[.int .i64 0, .int .i64 2]
  | some v => .tuple #[.int .i64 v, .int .i64 0]

set_option maxRecDepth 100000 in
set_option maxHeartbeats 1000000 in
theorem Number_any (s : ByteArray) (w : World) (hs : s.size ≤ 9223372036854775807) : Calls Tryd.prog 60 #[.string s, .int .i64 1, .int .i64 s.size] w fun e w' => e = .returned (.bool (decide (1 ≤ s.size) && s.data.toList.all isDig)) ∧ w' = w := by
  have HD := Lib.hid (fun w => Digits_any s w hs)
  by_cases h1 : 1 ≤ s.size
  · have h1I : (1 : Int) ≤ (s.size : Int) := by omega
    have h2I : (s.size : Int) ≤ (s.size : Int) := by omega
    have HE : Hid ((((digL s.data.toList : Nat) : Int) == (s.size : Int)) = (decide (1 ≤ s.size) && s.data.toList.all isDig)) := by
      rw [Hid, decide_eq_true h1, Bool.true_and, Bool.eq_iff_iff, beq_iff_eq, List.all_eq_true]
      have hl := dlen s
      constructor
      · intro e
        have he : s.data.toList.takeWhile isDig = s.data.toList := (List.takeWhile_prefix isDig).eq_of_length (by unfold digL at e; omega)
        intro c hc
        rw [← he] at hc
        exact tw_mem hc
      · intro h
        unfold digL
        rw [tw_at (k := s.size) (fun c hc => h c (List.mem_of_mem_take hc)) (.inl hl.symm)]
    obtain ⟨k, hk⟩ : ∃ k, digL s.data.toList = k := ⟨_, rfl⟩
    rw [hk] at HD HE
    obtain ⟨R, hR⟩ : ∃ R, (decide (1 ≤ s.size) && s.data.toList.all isDig) = R := ⟨_, rfl⟩
    rw [hR] at HE ⊢
    clear hk hR h1
    go_enter Tryd.func60, Tryd.ntmps60
    go_wp2_with fail
    refine (HD.out w).mono ?_
    rintro e w' ⟨rfl, h⟩
    obtain rfl := h.symm
    go_wp2_with fail
    go_ret
    exact ⟨by rw [← HE.out]; rfl, rfl⟩
  · have h1I : ¬ (1 : Int) ≤ (s.size : Int) := by omega
    have h1D : decide ((1 : Int) ≤ (s.size : Int)) = false := by simpa using h1I
    rw [decide_eq_false h1, Bool.false_and]
    clear h1
    go_enter Tryd.func60, Tryd.ntmps60
    go_wp2_with fail
    go_ret
    exact ⟨rfl, rfl⟩
end Go.Proofs.YthgddbdkdloobaaDoor
