import Derived.Test.YtdkkfcpnfhfjdaaB
namespace Go.Proofs.Ytdkkfcpnfhfjdaa
open Go.RowKit
set_option linter.unusedVariables false

/-! The mathematics of a word's fields. -/
def isBl (c : UInt8) : Bool := [(32 : UInt8), 9, 10].contains c
/-- A part: its kind and its bytes. -/
abbrev P2 := Int × Bs
def wt (f : List P2) (a : Bs) : List P2 := if a = [] then f else f ++ [(1, a)]
def shut (fs : List (List P2)) (f : List P2) : List (List P2) := if f = [] then fs else fs ++ [f]
/-- The text of a part that may be parted, from a state on: the fields that are whole, the one in hand, and the bytes in hand. -/
def txB (fs : List (List P2)) (f : List P2) (acc : Bs) : Bs → List (List P2) × List P2
  | [] => (fs, wt f acc)
  | c :: t => if isBl c then txB (shut fs (wt f acc)) [] [] t else txB fs f (acc ++ [c]) t
def tx (fs : List (List P2)) (f : List P2) (s : Bs) : List (List P2) × List P2 := txB fs f [] s
theorem txB_app {fs : List (List P2)} {f : List P2} : ∀ {a r acc : Bs}, (∀ x ∈ a, isBl x = false) → txB fs f acc (a ++ r) = txB fs f (acc ++ a) r
  | [], r, acc, _ => by simp
  | c :: a, r, acc, h => by
    rw [List.cons_append, txB, if_neg (by simp [h c (by simp)]), txB_app (fun x hx => h x (by simp [hx]))]
    simp
theorem tx_none {fs : List (List P2)} {f : List P2} {s : Bs} (h : ∀ c ∈ s, isBl c = false) : tx fs f s = (fs, wt f s) := by
  unfold tx
  have := txB_app (fs := fs) (f := f) (a := s) (r := []) (acc := []) h
  rw [List.append_nil, List.nil_append] at this
  rw [this, txB]
theorem tx_some {fs : List (List P2)} {f : List P2} {a r : Bs} {c : UInt8} (h : ∀ x ∈ a, isBl x = false) (hc : isBl c = true) : tx fs f (a ++ c :: r) = tx (shut fs (wt f a)) [] r := by
  unfold tx
  rw [txB_app h, List.nil_append, txB, if_pos hc]
def onePart (st : List (List P2) × List P2) (p : P2) : List (List P2) × List P2 := if p.1 = 1 then tx st.1 st.2 p.2 else (st.1, st.2 ++ [p])
def runL (l : List P2) : List (List P2) × List P2 := l.foldl onePart ([], [])
/-- The fields of a word. -/
def splitL (l : List P2) : List (List P2) := shut (runL l).1 (runL l).2
theorem runL_snoc (l : List P2) (p : P2) : runL (l ++ [p]) = onePart (runL l) p := by simp [runL]
/-- The text of a field, of fields. -/
def textL (f : List P2) : Bs := f.flatMap (·.2)
theorem textL_app (f g : List P2) : textL (f ++ g) = textL f ++ textL g := by simp [textL]
theorem textL_wt (f : List P2) (a : Bs) : textL (wt f a) = textL f ++ a := by
  unfold wt
  split
  · next h => rw [h, List.append_nil]
  · simp [textL]
def allText (fs : List (List P2)) : Bs := fs.flatMap textL
theorem allText_shut (fs : List (List P2)) (f : List P2) : allText (shut fs f) = allText fs ++ textL f := by
  unfold shut
  split
  · next h => rw [h]; simp [textL]
  · simp [allText]
theorem wt_ne {f : List P2} {a : Bs} (h : a ≠ []) : wt f a ≠ [] := by unfold wt; rw [if_neg h]; simp
/-- What is left of a text without its blanks. -/
def noBl (s : Bs) : Bs := s.filter fun c => !isBl c
theorem txB_text : ∀ (fs : List (List P2)) (f : List P2) (acc s : Bs), allText (txB fs f acc s).1 ++ textL (txB fs f acc s).2 = allText fs ++ textL f ++ acc ++ noBl s
  | fs, f, acc, [] => by simp [txB, textL_wt, noBl]
  | fs, f, acc, c :: t => by
    rw [txB]
    by_cases h : isBl c = true
    · rw [if_pos h, txB_text, allText_shut, textL_wt]
      simp [noBl, h, textL]
    · rw [if_neg h, txB_text]
      simp [noBl, h]
theorem tx_text (fs : List (List P2)) (f : List P2) (s : Bs) : allText (tx fs f s).1 ++ textL (tx fs f s).2 = allText fs ++ textL f ++ noBl s := by
  unfold tx; rw [txB_text]; simp
/-- What the law holds the fields against. -/
def wantL (l : List P2) : Bs := l.flatMap fun p => if p.1 = 1 then noBl p.2 else p.2
theorem runL_text (l : List P2) : allText (runL l).1 ++ textL (runL l).2 = wantL l := by
  have key : ∀ (l : List P2) (st : List (List P2) × List P2), allText (l.foldl onePart st).1 ++ textL (l.foldl onePart st).2 = allText st.1 ++ textL st.2 ++ wantL l := by
    intro l
    induction l with
    | nil => intro st; simp [wantL]
    | cons p l ih =>
      intro st
      rw [List.foldl_cons, ih]
      have : allText (onePart st p).1 ++ textL (onePart st p).2 = allText st.1 ++ textL st.2 ++ (if p.1 = 1 then noBl p.2 else p.2) := by
        unfold onePart
        split
        · rw [tx_text]
        · simp [textL]
      rw [this]
      simp [wantL]
  have := key l ([], [])
  unfold runL
  rw [this]
  simp [allText, textL]
theorem splitL_text (l : List P2) : allText (splitL l) = wantL l := by
  unfold splitL
  rw [allText_shut, runL_text]
/-- No field is empty. -/
def Full (fs : List (List P2)) : Prop := ∀ f ∈ fs, f ≠ []
theorem full_shut {fs : List (List P2)} {f : List P2} (h : Full fs) : Full (shut fs f) := by
  unfold shut
  split
  · exact h
  · next hf =>
    intro g hg
    rcases List.mem_append.1 hg with hg | hg
    · exact h g hg
    · rw [List.mem_singleton] at hg; subst hg; exact hf
theorem full_txB : ∀ {fs : List (List P2)} {f : List P2} {acc s : Bs}, Full fs → Full (txB fs f acc s).1
  | fs, f, acc, [], h => h
  | fs, f, acc, c :: t, h => by
    rw [txB]
    split
    · exact full_txB (full_shut h)
    · exact full_txB h
theorem full_splitL (l : List P2) : Full (splitL l) := by
  have key : ∀ (l : List P2) (st : List (List P2) × List P2), Full st.1 → Full (l.foldl onePart st).1 := by
    intro l
    induction l with
    | nil => intro st h; exact h
    | cons p l ih =>
      intro st h
      rw [List.foldl_cons]
      refine ih _ ?_
      unfold onePart
      split
      · exact full_txB h
      · exact h
  exact full_shut (key l _ (by intro f hf; cases hf))
theorem shut_nil (fs : List (List P2)) : shut fs [] = fs := by simp [shut]
theorem wt_nil (f : List P2) : wt f [] = f := by simp [wt]
theorem skip_blanks : ∀ (bl : Bs) (fs : List (List P2)) (r : Bs), (∀ c ∈ bl, isBl c = true) → txB fs [] [] (bl ++ r) = txB fs [] [] r
  | [], fs, r, _ => rfl
  | c :: bl, fs, r, h => by
    rw [List.cons_append, txB, if_pos (h c (by simp)), wt_nil, shut_nil, skip_blanks bl fs r (fun x hx => h x (by simp [hx]))]
theorem txB_blanks {bl : Bs} {fs : List (List P2)} {acc r : Bs} (h : ∀ c ∈ bl, isBl c = true) (h0 : bl ≠ []) : txB fs [] acc (bl ++ r) = txB (shut fs (wt [] acc)) [] [] r := by
  cases bl with
  | nil => exact absurd rfl h0
  | cons c bl =>
    rw [List.cons_append, txB, if_pos (h c (by simp)), skip_blanks bl _ r (fun x hx => h x (by simp [hx]))]
/-- Words parted by blanks. -/
theorem split_words : ∀ (ws : List Bs) (bl : Bs) (fs : List (List P2)) (acc : Bs), bl ≠ [] → (∀ c ∈ bl, isBl c = true) → (∀ x ∈ ws, x ≠ [] ∧ ∀ c ∈ x, isBl c = false) →
    shut (txB fs [] acc (ws.flatMap fun x => bl ++ x)).1 (txB fs [] acc (ws.flatMap fun x => bl ++ x)).2 = shut fs (wt [] acc) ++ ws.map fun x => [((1 : Int), x)]
  | [], bl, fs, acc, _, _, _ => by simp [txB]
  | x :: ws, bl, fs, acc, h1, h2, h3 => by
    have hx := h3 x (by simp)
    rw [List.flatMap_cons, List.append_assoc, txB_blanks h2 h1, txB_app hx.2, List.nil_append, split_words ws bl _ x h1 h2 (fun y hy => h3 y (by simp [hy]))]
    have e : wt [] x = [(1, x)] := by simp [wt, hx.1]
    rw [e]
    simp [shut]
theorem splitL_words (ws : List Bs) (bl : Bs) (h1 : bl ≠ []) (h2 : ∀ c ∈ bl, isBl c = true) (h3 : ∀ x ∈ ws, x ≠ [] ∧ ∀ c ∈ x, isBl c = false) : splitL [(1, ws.flatMap fun x => bl ++ x)] = ws.map fun x => [((1 : Int), x)] := by
  have := split_words ws bl [] [] h1 h2 h3
  simpa [splitL, runL, onePart, tx, wt, shut] using this
theorem splitL_quote (k : Int) (hk : k ≠ 1) (s : Bs) : splitL [(k, s)] = [[(k, s)]] := by
  simp [splitL, runL, onePart, hk, shut]
/-- Where the first blank stands. -/
theorem any_none {s : Bs} (h : Lib.indexAny s [32, 9, 10] < 0) : ∀ c ∈ s, isBl c = false := by
  induction s with
  | nil => intro c hc; cases hc
  | cons b l ih =>
    rw [Lib.indexAny] at h
    by_cases hb : [(32 : UInt8), 9, 10].contains b = true
    · rw [if_pos hb] at h; exact absurd h (by decide)
    · rw [if_neg hb] at h
      have hge := Lib.indexAny_ge [32, 9, 10] l
      have hl : Lib.indexAny l [32, 9, 10] < 0 := by
        by_cases e : Lib.indexAny l [32, 9, 10] = -1
        · omega
        · rw [if_neg (by simpa using e)] at h; omega
      intro c hc
      rcases List.mem_cons.1 hc with rfl | hc
      · simpa [isBl] using hb
      · exact ih hl c hc
theorem any_some : ∀ {s : Bs} {k : Nat}, Lib.indexAny s [32, 9, 10] = k → ∃ c, k < s.length ∧ (∀ x ∈ s.take k, isBl x = false) ∧ s.drop k = c :: s.drop (k + 1) ∧ isBl c = true
  | [], k, h => by rw [Lib.indexAny] at h; omega
  | b :: l, k, h => by
    rw [Lib.indexAny] at h
    by_cases hb : [(32 : UInt8), 9, 10].contains b = true
    · rw [if_pos hb] at h
      obtain rfl : k = 0 := by omega
      exact ⟨b, by simp, by simp, rfl, hb⟩
    · rw [if_neg hb] at h
      by_cases e : Lib.indexAny l [32, 9, 10] = -1
      · rw [if_pos (by simpa using e)] at h; omega
      · rw [if_neg (by simpa using e)] at h
        have hge := Lib.indexAny_ge [32, 9, 10] l
        obtain ⟨j, hj⟩ : ∃ j : Nat, k = j + 1 := ⟨k - 1, by omega⟩
        subst hj
        obtain ⟨c, h1, h2, h3, h4⟩ := any_some (s := l) (k := j) (by omega)
        refine ⟨c, by simpa using h1, ?_, by simpa using h3, h4⟩
        intro x hx
        rw [List.take_succ_cons] at hx
        rcases List.mem_cons.1 hx with rfl | hx
        · simpa [isBl] using hb
        · exact h2 x hx
end Go.Proofs.Ytdkkfcpnfhfjdaa
