import Derived.Lib.Bytealg
import Derived.Lib.Strings
import Derived.Lib.TrimAscii
import Derived.Lib.FieldsP
import Derived.Lib.MapLaws
import Derived.Lib.SpaceUEq
import Derived.Lib.Replace
import Derived.Lib.SplitLaws
namespace Go.Proofs.YthbemfpoanmjcaaDoor
set_option linter.unusedVariables false
open Go Go.Lib
abbrev Bs := List UInt8
abbrev Pr := Bs × Bs
/-- A text, an error's number, and how many references were met. -/
abbrev R := (Bs × Int) × Nat

/-! What macros come to. -/
/-- The value of the last pair of a name. -/
def lastV (l : List Pr) (n : Bs) : Option Bs := (l.reverse.find? (fun p => p.1 == n)).map (·.2)
/-- How long the reference is that a text begins with: what opens is o, what shuts c. -/
def scanR (o c : UInt8) : Bs → Nat → Int → Nat
  | [], _, _ => 0
  | b :: t, i, k => if b = o then scanR o c t (i + 1) (k + 1) else if b = c then (if k - 1 = 0 then i + 1 else scanR o c t (i + 1) (k - 1)) else scanR o c t (i + 1) k
def refN (s : Bs) : Nat :=
  if s[1]? = some 40 then scanR 40 41 (s.drop 1) 1 0 else if s[1]? = some 123 then scanR 123 125 (s.drop 1) 1 0 else 2
def fin3 (out : Bs) (c : Nat) : R := if 16384 < out.length then (([], 3), c) else ((out, 0), c)
def piecesF (rf : Bs → Nat → R) : Nat → Bs → Bs → Nat → R
  | 0, _, _, c => (([], 0), c)
  | f + 1, s, out, c =>
    if Lib.indexByte s 36 < 0 ∨ Lib.indexByte s 36 = (s.length : Int) - 1 then fin3 (out ++ s) c
    else if (s.drop (Lib.indexByte s 36).toNat)[1]? = some 36 then piecesF rf f ((s.drop (Lib.indexByte s 36).toNat).drop 2) (out ++ s.take (Lib.indexByte s 36).toNat ++ [36]) c
    else if 16384 < (out ++ s.take (Lib.indexByte s 36).toNat).length then (([], 3), c)
    else if refN (s.drop (Lib.indexByte s 36).toNat) = 0 then (([], 2), c)
    else if (rf (((s.drop (Lib.indexByte s 36).toNat).take (refN (s.drop (Lib.indexByte s 36).toNat))).drop 1) c).1.2 ≠ 0 then (([], (rf (((s.drop (Lib.indexByte s 36).toNat).take (refN (s.drop (Lib.indexByte s 36).toNat))).drop 1) c).1.2), (rf (((s.drop (Lib.indexByte s 36).toNat).take (refN (s.drop (Lib.indexByte s 36).toNat))).drop 1) c).2)
    else piecesF rf f ((s.drop (Lib.indexByte s 36).toNat).drop (refN (s.drop (Lib.indexByte s 36).toNat))) (out ++ s.take (Lib.indexByte s 36).toNat ++ (rf (((s.drop (Lib.indexByte s 36).toNat).take (refN (s.drop (Lib.indexByte s 36).toNat))).drop 1) c).1.1) (rf (((s.drop (Lib.indexByte s 36).toNat).take (refN (s.drop (Lib.indexByte s 36).toNat))).drop 1) c).2
/-- One round, with its parts named. -/
theorem piecesF_end {rf : Bs → Nat → R} {f : Nat} {s out : Bs} {c : Nat} (h : Lib.indexByte s 36 < 0 ∨ Lib.indexByte s 36 = (s.length : Int) - 1) : piecesF rf (f + 1) s out c = fin3 (out ++ s) c := by
  rw [piecesF, if_pos h]
theorem piecesF_two {rf : Bs → Nat → R} {f a : Nat} {s out : Bs} {c : Nat} (ha : Lib.indexByte s 36 = (a : Int)) (h : a + 1 < s.length) (h2 : (s.drop a)[1]? = some 36) :
    piecesF rf (f + 1) s out c = piecesF rf f ((s.drop a).drop 2) (out ++ s.take a ++ [36]) c := by
  rw [piecesF, ha, if_neg (by omega), Int.toNat_natCast, if_pos h2]
theorem piecesF_long {rf : Bs → Nat → R} {f a : Nat} {s out : Bs} {c : Nat} (ha : Lib.indexByte s 36 = (a : Int)) (h : a + 1 < s.length) (h2 : (s.drop a)[1]? ≠ some 36) (h3 : 16384 < (out ++ s.take a).length) :
    piecesF rf (f + 1) s out c = (([], 3), c) := by
  rw [piecesF, ha, if_neg (by omega), Int.toNat_natCast, if_neg h2, if_pos h3]
theorem piecesF_open {rf : Bs → Nat → R} {f a : Nat} {s out : Bs} {c : Nat} (ha : Lib.indexByte s 36 = (a : Int)) (h : a + 1 < s.length) (h2 : (s.drop a)[1]? ≠ some 36) (h3 : ¬ 16384 < (out ++ s.take a).length) (h4 : refN (s.drop a) = 0) :
    piecesF rf (f + 1) s out c = (([], 2), c) := by
  rw [piecesF, ha, if_neg (by omega), Int.toNat_natCast, if_neg h2, if_neg h3, if_pos h4]
theorem piecesF_bad {rf : Bs → Nat → R} {f a n c2 : Nat} {s out v : Bs} {c : Nat} {e : Int} (ha : Lib.indexByte s 36 = (a : Int)) (h : a + 1 < s.length) (h2 : (s.drop a)[1]? ≠ some 36) (h3 : ¬ 16384 < (out ++ s.take a).length) (h4 : refN (s.drop a) = n) (h5 : n ≠ 0)
    (h6 : rf (((s.drop a).take n).drop 1) c = ((v, e), c2)) (h7 : e ≠ 0) : piecesF rf (f + 1) s out c = (([], e), c2) := by
  subst h4
  rw [piecesF, ha, if_neg (by omega), Int.toNat_natCast, if_neg h2, if_neg h3, if_neg h5, h6, if_pos h7]
theorem piecesF_on {rf : Bs → Nat → R} {f a n c2 : Nat} {s out v : Bs} {c : Nat} {e : Int} (ha : Lib.indexByte s 36 = (a : Int)) (h : a + 1 < s.length) (h2 : (s.drop a)[1]? ≠ some 36) (h3 : ¬ 16384 < (out ++ s.take a).length) (h4 : refN (s.drop a) = n) (h5 : n ≠ 0)
    (h6 : rf (((s.drop a).take n).drop 1) c = ((v, e), c2)) (h7 : e = 0) : piecesF rf (f + 1) s out c = piecesF rf f ((s.drop a).drop n) (out ++ s.take a ++ v) c2 := by
  subst h4
  rw [piecesF, ha, if_neg (by omega), Int.toNat_natCast, if_neg h2, if_neg h3, if_neg h5, h6, if_neg (by simpa using h7)]
def valueF (l auto : List Pr) (ex : List Bs → Bs → Nat → R) (op : List Bs) (nm : Bs) (c : Nat) : R :=
  match lastV auto nm with
  | some v => ((v, 0), c)
  | none => match lastV l nm with
    | none => (([], 0), c)
    | some v => if nm ∈ op then (([], 18), c) else ex (op ++ [nm]) v c
/-- How the words of a value are changed, one behind the other. -/
def sepR (x : Nat) : Bool := x == 32 || x == 9 || x == 10
theorem sepR_big {x : Nat} (h : 11 ≤ x) (h2 : x ≠ 32) : sepR x = false := by
  unfold sepR
  rw [beq_eq_false_iff_ne.2 h2, beq_eq_false_iff_ne.2 (show x ≠ 9 by omega), beq_eq_false_iff_ne.2 (show x ≠ 10 by omega)]; rfl
def sepAt (s : ByteArray) (i : Nat) : Bool := sepR (s.get! i).toNat
def clS (st : Option Nat) (pos : Nat) (acc : List (Nat × Nat)) : List (Nat × Nat) := match st with | some a => acc ++ [(a, pos)] | none => acc
def stepB (s : ByteArray) : Nat → Nat → Option Nat → List (Nat × Nat) → List (Nat × Nat) × Option Nat
  | 0, _, st, acc => (acc, st)
  | f + 1, pos, st, acc =>
    if sepAt s pos then stepB s f (pos + 1) none (clS st pos acc)
    else stepB s f (pos + 1) (some (st.getD pos)) acc
theorem stepB_succ (s : ByteArray) (f pos : Nat) (st : Option Nat) (acc : List (Nat × Nat)) : stepB s (f + 1) pos st acc = if sepAt s pos then stepB s f (pos + 1) none (clS st pos acc) else stepB s f (pos + 1) (some (st.getD pos)) acc := rfl
theorem spans_succ (p : Nat → Bool) (s : ByteArray) (f pos : Nat) (st : Option Nat) (acc : List (Nat × Nat)) (h : pos < s.size) : Lib.spansFromP p s (f + 1) pos st acc = if p (Utf8.decode s pos).1 then Lib.spansFromP p s f (pos + (Utf8.decode s pos).2) none (clS st pos acc) else Lib.spansFromP p s f (pos + (Utf8.decode s pos).2) (some (st.getD pos)) acc := by
  show (if pos < s.size then _ else _) = _
  rw [if_pos h]
  cases st <;> rfl
theorem stepB_skip (s : ByteArray) : ∀ (n f pos : Nat) (st : Option Nat) (acc : List (Nat × Nat)), (∀ j, j < n + 1 → sepAt s (pos + j) = false) →
    stepB s (f + (n + 1)) pos st acc = stepB s f (pos + (n + 1)) (some (st.getD pos)) acc
  | 0, f, pos, st, acc, h => by
    have h0 := h 0 (by omega)
    rw [Nat.add_zero] at h0
    rw [show f + (0 + 1) = f + 1 from rfl, stepB_succ, if_neg (by simp [h0])]
  | n + 1, f, pos, st, acc, h => by
    have h0 := h 0 (by omega)
    rw [Nat.add_zero] at h0
    rw [show f + (n + 1 + 1) = (f + (n + 1)) + 1 by omega, stepB_succ, if_neg (by simp [h0])]
    rw [stepB_skip s n f (pos + 1) _ acc (fun j hj => by have := h (j + 1) (by omega); rw [show pos + 1 + j = pos + (j + 1) by omega]; exact this)]
    rw [show pos + 1 + (n + 1) = pos + (n + 1 + 1) by omega]
    rfl
theorem dec_ways (s : ByteArray) (pos : Nat) (h : pos < s.size) :
    ((s.get! pos).toNat < 128 ∧ Utf8.decode s pos = ((s.get! pos).toNat, 1)) ∨
    (128 ≤ (Utf8.decode s pos).1 ∧ ∃ n, (Utf8.decode s pos).2 = n + 1 ∧ n + 1 ≤ s.size - pos ∧ ∀ j, j < n + 1 → 128 ≤ (s.get! (pos + j)).toNat) := by
  rw [decode_at]
  have hn : 1 ≤ s.size - pos := by omega
  generalize s.size - pos = m at hn ⊢
  have key : ∀ (b0 b1 b2 b3 : Nat), b0 < 256 → (b0 < 128 ∧ decodeN m b0 b1 b2 b3 = (b0, 1)) ∨ (128 ≤ b0 ∧ 128 ≤ (decodeN m b0 b1 b2 b3).1 ∧ ∃ n, (decodeN m b0 b1 b2 b3).2 = n + 1 ∧ n + 1 ≤ m ∧ n ≤ 3 ∧ (1 ≤ n → 128 ≤ b1) ∧ (2 ≤ n → 128 ≤ b2) ∧ (3 ≤ n → 128 ≤ b3)) := by
    intro b0 b1 b2 b3 hb
    by_cases h0 : b0 < 128
    · left; exact ⟨h0, decodeN_ascii _ _ _ _ _ h0⟩
    · right
      refine ⟨by omega, ?_⟩
      rcases decodeN_shape m b0 b1 b2 b3 with ⟨c, e⟩ | ⟨c1, c2, c3, cv, e⟩ | ⟨c1, c2, c3, c4, cv, cs, e⟩ | ⟨c1, c2, c3, c4, c5, cv, cw, e⟩ | e
      · omega
      · rw [e]; exact ⟨by dsimp only; omega, 1, rfl, by omega, by omega, by omega, by omega, by omega⟩
      · rw [e]; exact ⟨by dsimp only; omega, 2, rfl, by omega, by omega, by omega, by omega, by omega⟩
      · rw [e]; exact ⟨by dsimp only; omega, 3, rfl, by omega, by omega, by omega, by omega, by omega⟩
      · rw [e]; exact ⟨by dsimp only; omega, 0, rfl, by omega, by omega, by omega, by omega, by omega⟩
  rcases key (s.get! pos).toNat (s.get! (pos + 1)).toNat (s.get! (pos + 2)).toNat (s.get! (pos + 3)).toNat (UInt8.toNat_lt _) with ⟨h0, e⟩ | ⟨h0, h1, n, e, hm, h3, g1, g2, g3⟩
  · exact .inl ⟨h0, e⟩
  · refine .inr ⟨h1, n, e, hm, fun j hj => ?_⟩
    match j, hj with
    | 0, _ => exact h0
    | 1, hj => exact g1 (by omega)
    | 2, hj => exact g2 (by omega)
    | 3, hj => exact g3 (by omega)
    | j + 4, hj => omega
theorem spans_stepB (s : ByteArray) : ∀ (f pos : Nat) (st : Option Nat) (acc : List (Nat × Nat)), pos ≤ s.size → s.size - pos ≤ f → Lib.spansFromP sepR s f pos st acc = stepB s (s.size - pos) pos st acc
  | 0, pos, st, acc, hp, hf => by
    rw [show s.size - pos = 0 by omega]; rfl
  | f + 1, pos, st, acc, hp, hf => by
    by_cases h : pos < s.size
    · rw [spans_succ _ _ _ _ _ _ h]
      rcases dec_ways s pos h with ⟨h0, e⟩ | ⟨h1, n, e, hm, hj⟩
      · rw [e, show s.size - pos = (s.size - (pos + 1)) + 1 by omega, stepB_succ]
        have hs : sepAt s pos = sepR (s.get! pos).toNat := rfl
        rw [hs]
        dsimp only
        cases sepR (s.get! pos).toNat with
        | true =>
          rw [if_pos rfl, if_pos rfl]
          cases st <;> exact spans_stepB s f (pos + 1) _ _ (by omega) (by omega)
        | false =>
          rw [if_neg (by simp), if_neg (by simp)]
          cases st <;> exact spans_stepB s f (pos + 1) _ _ (by omega) (by omega)
      · rw [sepR_big (by omega) (by omega), if_neg (by simp), e]
        have hsk := stepB_skip s n (s.size - (pos + (n + 1))) pos st acc (fun j hj' => sepR_big (by have := hj j hj'; omega) (by have := hj j hj'; omega))
        rw [show s.size - pos = (s.size - (pos + (n + 1))) + (n + 1) by omega, hsk]
        cases st <;> exact spans_stepB s f (pos + (n + 1)) _ _ (by omega) (by omega)
    · rw [Lib.spansFromP_end _ _ _ _ _ _ h, show s.size - pos = 0 by omega]; rfl
/-- The words: what FieldsFunc gives. -/
def wordsB (s : ByteArray) : List ByteArray := (Lib.closeSpans s (stepB s s.size 0 none [])).map fun x => s.extract x.1 x.2
theorem goFieldsP_sep (s : ByteArray) : Lib.goFieldsP sepR s = wordsB s := by
  unfold Lib.goFieldsP wordsB Lib.spansOfP
  rw [spans_stepB s s.size 0 none [] (Nat.zero_le _) (by omega), Nat.sub_zero]
/-- A state of the walk by bytes, at place i: what lies behind it gives SP. -/
structure AtW (s : ByteArray) (SP : List (Nat × Nat)) (i fr : Nat) (acc : List (Nat × Nat)) : Prop where
  le : fr ≤ i
  len : acc.length ≤ i
  st : ∃ st, ((st = none ∧ fr = i) ∨ (st = some fr ∧ fr < i)) ∧ Lib.closeSpans s (stepB s (s.size - i) i st acc) = SP
theorem AtW.start (s : ByteArray) : AtW s (Lib.closeSpans s (stepB s s.size 0 none [])) 0 0 [] := ⟨Nat.le_refl _, Nat.le_refl _, none, .inl ⟨rfl, rfl⟩, rfl⟩
theorem AtW.on {s : ByteArray} {SP acc : List (Nat × Nat)} {i fr : Nat} (h : AtW s SP i fr acc) (hi : i < s.size) (hn : sepAt s i = false) : AtW s SP (i + 1) fr acc := by
  obtain ⟨h1, h2, st, h3, h4⟩ := h
  refine ⟨by omega, by omega, some fr, .inr ⟨rfl, by omega⟩, ?_⟩
  rw [show s.size - i = (s.size - (i + 1)) + 1 by omega, stepB_succ, if_neg (by simp [hn])] at h4
  rcases h3 with ⟨rfl, rfl⟩ | ⟨rfl, _⟩
  · exact h4
  · exact h4
theorem AtW.word {s : ByteArray} {SP acc : List (Nat × Nat)} {i fr : Nat} (h : AtW s SP i fr acc) (hi : i < s.size) (hn : sepAt s i = true) (hf : fr < i) : AtW s SP (i + 1) (i + 1) (acc ++ [(fr, i)]) := by
  obtain ⟨h1, h2, st, h3, h4⟩ := h
  refine ⟨by omega, by simp; omega, none, .inl ⟨rfl, rfl⟩, ?_⟩
  rw [show s.size - i = (s.size - (i + 1)) + 1 by omega, stepB_succ, if_pos hn] at h4
  rcases h3 with ⟨rfl, rfl⟩ | ⟨rfl, _⟩
  · omega
  · exact h4
theorem AtW.skip {s : ByteArray} {SP acc : List (Nat × Nat)} {i fr : Nat} (h : AtW s SP i fr acc) (hi : i < s.size) (hn : sepAt s i = true) (hf : ¬ fr < i) : AtW s SP (i + 1) (i + 1) acc := by
  obtain ⟨h1, h2, st, h3, h4⟩ := h
  refine ⟨by omega, by omega, none, .inl ⟨rfl, rfl⟩, ?_⟩
  rw [show s.size - i = (s.size - (i + 1)) + 1 by omega, stepB_succ, if_pos hn] at h4
  rcases h3 with ⟨rfl, rfl⟩ | ⟨rfl, _⟩
  · exact h4
  · omega
theorem AtW.last {s : ByteArray} {SP acc : List (Nat × Nat)} {fr : Nat} (h : AtW s SP s.size fr acc) : SP = if fr < s.size then acc ++ [(fr, s.size)] else acc := by
  obtain ⟨h1, h2, st, h3, h4⟩ := h
  rw [Nat.sub_self, stepB] at h4
  rcases h3 with ⟨rfl, rfl⟩ | ⟨rfl, h5⟩
  · rw [if_neg (by omega), ← h4]; rfl
  · rw [if_pos h5, ← h4]; rfl
def matchF (p s : Bs) : Bs × Bool :=
  if (Lib.cut p [37]).2.2 = false then ([], p == s)
  else if s.length ≤ (Lib.cut p [37]).1.length + (Lib.cut p [37]).2.1.length ∨ Lib.hasPrefix s (Lib.cut p [37]).1 = false ∨ Lib.hasSuffix s (Lib.cut p [37]).2.1 = false then ([], false)
  else ((s.take (s.length - (Lib.cut p [37]).2.1.length)).drop (Lib.cut p [37]).1.length, true)
def oneF (fr to w : Bs) : Bs :=
  if 0 ≤ Lib.indexByte fr 37 then (if (matchF fr w).2 = true then Lib.replace to [37] (matchF fr w).1 1 else w)
  else if Lib.hasSuffix w fr = true then Lib.trimSuffix w fr ++ to else w
def swapL (fr to : Bs) : List Bs → Bool → Bs → Bs
  | [], _, out => out
  | w :: r, first, out => if 16384 < out.length then out else swapL fr to r false (out ++ (if first then [] else [32]) ++ oneF fr to w)
def swapF (v fr to : Bs) : Bs := swapL fr to ((wordsB ⟨v.toArray⟩).map (·.data.toList)) true []
def referF (l auto : List Pr) (ex : List Bs → Bs → Nat → R) (op : List Bs) (s : Bs) (c0 : Nat) : R :=
  if 10000 < c0 + 1 then (([], 3), c0 + 1)
  else if s.length = 1 then valueF l auto ex op s (c0 + 1)
  else match ex op ((s.take (s.length - 1)).drop 1) (c0 + 1) with
    | ((inner, e), c) =>
      if e ≠ 0 then (([], e), c)
      else match Lib.cut inner [58] with
        | (name, change, _) => match Lib.cut change [61] with
          | (fr, to, ch) =>
            if ch = false then valueF l auto ex op inner c
            else match valueF l auto ex op name c with
              | ((v, e2), c2) => ((swapF v fr to, e2), c2)
/-- What a text comes to, d references deep at the most; op: the names whose values are being told. -/
def expandF (l auto : List Pr) : Nat → List Bs → Bs → Nat → R
  | 0 => fun _ s c => if 16384 < s.length then (([], 3), c) else piecesF (fun _ c => (([], 3), c + 1)) (s.length + 1) s [] c
  | d + 1 => fun op s c => if 16384 < s.length then (([], 3), c) else piecesF (referF l auto (expandF l auto d) op) (s.length + 1) s [] c
end Go.Proofs.YthbemfpoanmjcaaDoor
