import Derived.Test.YtjagnihkpgbjeaaDoorJG
namespace Go.Proofs.YtjagnihkpgbjeaaDoor
open Go.RowKit Go.Maps Go.ChangeMaps
set_option linter.unusedVariables false
/-! FindChains: the rules, the files, what fits. -/
def sj (j : Nat) : Bs := 46 :: 115 :: dg j
def patR (j : Nat) : Rl := ⟨[[37, 46, 111]], [37 :: sj j], [114 :: sj j]⟩
def plR (st : Bs) (j : Nat) : Rl := ⟨[st ++ sj j], [], []⟩
def addR (st : Bs) (b : Bool) (i : Nat) : List Rl := if b then [plR st i] else []
def chR (st : Bs) (th : Nat → Bool) (kn : Bool) : Nat → List Rl
  | 0 => []
  | i + 1 => chR st th kn i ++ patR i :: addR st (th i && kn) i
/-- How many files are written; the tree behind the first i rounds. -/
def chN (th : Nat → Bool) (kn : Bool) : Nat → Nat
  | 0 => 0
  | i + 1 => if th i && !kn then chN th kn i + 1 else chN th kn i
def chT (st : Bs) (th : Nat → Bool) (kn : Bool) : Nat → Tr
  | 0 => newT
  | i + 1 => if th i && !kn then setF (chT st th kn i) [st ++ sj i] (some ⟨true, [], (chN th kn i : Int) + 1⟩) else chT st th kn i
theorem dg_inj : ∀ i j : Fin 10, dg i.val = dg j.val → i = j := by decide
theorem sj_inj (st : Bs) {i j : Nat} (hi : i < 10) (hj : j < 10) (h : st ++ sj i = st ++ sj j) : i = j := by
  have h := List.append_cancel_left h
  unfold sj at h
  injection h with _ h
  injection h with _ h
  have := dg_inj ⟨i, hi⟩ ⟨j, hj⟩ h
  injection this
theorem chT_at (st : Bs) (th : Nat → Bool) (kn : Bool) (j : Nat) (hj : j < 10) : ∀ n, n ≤ 10 → kdF (chT st th kn n) (st ++ sj j) = if decide (j < n) && (th j && !kn) then 1 else 0
  | 0, _ => by simp [chT]; rfl
  | n + 1, hn => by
    have ih := chT_at st th kn j hj n (by omega)
    unfold chT
    by_cases h : (th n && !kn) = true
    · rw [if_pos h]
      by_cases e : j = n
      · subst e
        rw [h]
        unfold kdF setF
        rw [if_pos rfl]
        simp
      · have hne : ([st ++ sj j] : Pth) ≠ [st ++ sj n] := fun e2 => e (sj_inj st hj (by omega) (by injection e2))
        have : kdF (setF (chT st th kn n) [st ++ sj n] (some ⟨true, [], (chN th kn n : Int) + 1⟩)) (st ++ sj j) = kdF (chT st th kn n) (st ++ sj j) := by
          unfold kdF setF
          rw [if_neg hne]
        rw [this, ih]
        have e2 : decide (j < n + 1) = decide (j < n) := by by_cases h2 : j < n <;> simp [h2] <;> omega
        rw [e2]
    · rw [if_neg h, ih]
      by_cases e : j = n
      · subst e
        have h : (th j && !kn) = false := by simpa using h
        rw [h]; simp
      · have e2 : decide (j < n + 1) = decide (j < n) := by by_cases h2 : j < n <;> simp [h2] <;> omega
        rw [e2]
theorem no37 {st : Bs} (hst : ∀ c ∈ st, 97 ≤ c ∧ c ≤ 122) (j : Nat) (hj : j < 10) : (37 : UInt8) ∉ st ++ sj j := by
  intro h
  rcases List.mem_append.1 h with h | h
  · have := (hst 37 h).1
    exact absurd this (by decide)
  · revert h
    have : ∀ j : Fin 10, (37 : UInt8) ∉ sj j.val := by decide
    exact this ⟨j, hj⟩
theorem knownF_app (a b : List Rl) (x : Bs) : knownF (a ++ b) x = (knownF a x || knownF b x) := by unfold knownF; rw [List.any_append]
theorem makes_pat {st : Bs} (hst : ∀ c ∈ st, 97 ≤ c ∧ c ≤ 122) (i j : Nat) (hj : j < 10) : makesF (patR i) (st ++ sj j) = false := by
  have h : ([[37, 46, 111]] : List Bs).contains (st ++ sj j) = false := by
    rw [Bool.eq_false_iff]
    intro h
    have := List.contains_iff_mem.1 h
    have e : st ++ sj j = [37, 46, 111] := by simpa using this
    exact no37 hst j hj (by rw [e]; simp)
  unfold makesF patR
  rw [h]; rfl
theorem indexByte_no : ∀ {l : List UInt8}, (37 : UInt8) ∉ l → Lib.indexByte l 37 = -1
  | [], _ => by rfl
  | c :: l, h => by
    have h1 : c ≠ (37 : UInt8) := fun e => h (by rw [e]; simp)
    have h2 : (37 : UInt8) ∉ l := fun e => h (List.mem_cons_of_mem _ e)
    unfold Lib.indexByte
    rw [if_neg (by simpa using h1), indexByte_no h2]
    rfl
theorem pct_no {l : Bs} (h : (37 : UInt8) ∉ l) : pct l = false := by
  unfold pct
  rw [indexByte_no h]; rfl
theorem makes_pl {st : Bs} (hst : ∀ c ∈ st, 97 ≤ c ∧ c ≤ 122) (i j : Nat) (hi : i < 10) (hj : j < 10) : makesF (plR st i) (st ++ sj j) = decide (i = j) := by
  unfold makesF isPlainF plR
  by_cases e : i = j
  · subst e
    simp [pct_no (no37 hst i hi)]
  · have : st ++ sj j ≠ st ++ sj i := fun h => e (sj_inj st hi hj h.symm)
    simp only [List.contains_cons, List.contains_nil, Bool.or_false, e, decide_false]
    rw [beq_eq_false_iff_ne.2 this]; rfl
theorem known_at {st : Bs} (hst : ∀ c ∈ st, 97 ≤ c ∧ c ≤ 122) (th : Nat → Bool) (kn : Bool) (j : Nat) (hj : j < 10) : ∀ n, n ≤ 10 → knownF (chR st th kn n) (st ++ sj j) = (decide (j < n) && (th j && kn))
  | 0, _ => by simp [chR, knownF]
  | n + 1, hn => by
    have ih := known_at hst th kn j hj n (by omega)
    unfold chR
    rw [knownF_app, ih]
    have e0 : knownF (patR n :: addR st (th n && kn) n) (st ++ sj j) = (decide (n = j) && (th n && kn)) := by
      unfold knownF
      rw [List.any_cons, makes_pat hst n j hj]
      cases h : (th n && kn) with
      | false => simp [addR]
      | true =>
        show (false || (addR st true n).any _) = _
        unfold addR
        rw [if_pos rfl, List.any_cons, makes_pl hst n j (by omega) hj]; simp
    rw [e0]
    by_cases e : n = j
    · subst e; simp
    · have e2 : decide (j < n + 1) = decide (j < n) := by by_cases h2 : j < n <;> simp [h2] <;> omega
      rw [e2]; simp [e]
theorem fit_pat {st : Bs} (hst : ∀ c ∈ st, 97 ≤ c ∧ c ≤ 122) (th : Nat → Bool) (kn : Bool) (n j : Nat) (hj : j < n) (hn : n ≤ 10) : fitF (chT st th kn n) (chR st th kn n) st (patR j) = th j := by
  have h1 := chT_at st th kn j (by omega) n hn
  have h2 := known_at hst th kn j (by omega) n hn
  have e : needF st (patR j) = st ++ sj j := rfl
  unfold fitF
  rw [e, h1, h2]
  have hj' : decide (j < n) = true := by simpa using hj
  rw [hj']
  cases th j <;> cases kn <;> rfl
theorem fit_pl (T : Tr) (rs : List Rl) (st : Bs) (j : Nat) : fitF T rs st (plR st j) = false := rfl
def firstT (th : Nat → Bool) : Nat → Option Nat
  | 0 => none
  | m + 1 => match firstT th m with
    | some k => some k
    | none => if th m then some m else none
theorem find_ch {st : Bs} (hst : ∀ c ∈ st, 97 ≤ c ∧ c ≤ 122) (th : Nat → Bool) (kn : Bool) (n : Nat) (hn : n ≤ 10) : ∀ m, m ≤ n → (chR st th kn m).find? (fitF (chT st th kn n) (chR st th kn n) st) = (firstT th m).map patR
  | 0, _ => rfl
  | m + 1, hm => by
    have ih := find_ch hst th kn n hn m (by omega)
    have hf := fit_pat hst th kn n m (by omega) hn
    obtain ⟨p, hp⟩ : ∃ p, fitF (chT st th kn n) (chR st th kn n) st = p := ⟨_, rfl⟩
    have hpl : p (plR st m) = false := by rw [← hp]; rfl
    rw [hp] at ih hf ⊢
    unfold chR firstT
    rw [List.find?_append, ih]
    cases h : firstT th m with
    | some k => rfl
    | none =>
      show (none.or ((patR m :: addR st (th m && kn) m).find? p)) = _
      rw [Option.none_or, List.find?_cons, hf]
      cases h2 : th m with
      | true => rfl
      | false =>
        show (addR st (false && kn) m).find? p = _
        unfold addR
        simp
theorem ch_mem {st : Bs} (th : Nat → Bool) (kn : Bool) : ∀ n, ∀ r ∈ chR st th kn n, (∃ j, j < n ∧ r = patR j) ∨ (∃ j, j < n ∧ r = plR st j)
  | 0, r, h => by simp [chR] at h
  | n + 1, r, h => by
    unfold chR at h
    rcases List.mem_append.1 h with h | h
    · rcases ch_mem th kn n r h with ⟨j, hj, e⟩ | ⟨j, hj, e⟩
      · exact .inl ⟨j, by omega, e⟩
      · exact .inr ⟨j, by omega, e⟩
    · rcases List.mem_cons.1 h with h | h
      · exact .inl ⟨n, by omega, h⟩
      · unfold addR at h
        split at h
        · exact .inr ⟨n, by omega, by simpa using h⟩
        · simp at h
theorem ch_len {st : Bs} (th : Nat → Bool) (kn : Bool) : ∀ n, (chR st th kn n).length ≤ 2 * n
  | 0 => by simp [chR]
  | n + 1 => by
    have ih := ch_len (st := st) th kn n
    unfold chR addR
    rw [List.length_append, List.length_cons]
    split <;> simp <;> omega
theorem ch_few {st : Bs} (th : Nat → Bool) (kn : Bool) (n : Nat) : ∀ r ∈ chR st th kn n, r.ns.length ≤ 100 := by
  intro r h
  rcases ch_mem th kn n r h with ⟨j, _, rfl⟩ | ⟨j, _, rfl⟩ <;> simp [patR, plR]
theorem sj_len (j : Nat) : (sj j).length ≤ 4 := by have := dg_len j; unfold sj; simp; omega
theorem sj_ok : ∀ j : Fin 10, ∀ c ∈ sj j.val, c ≠ 47 ∧ c ≠ 0 := by decide
theorem nm_ch {st : Bs} (h0 : st ≠ []) (hst : ∀ c ∈ st, 97 ≤ c ∧ c ≤ 122) (hl : st.length ≤ 30) (j : Nat) (hj : j < 10) : Nm (st ++ sj j) := by
  have hlt := sj_len j
  have h0' : 0 < st.length := List.length_pos_iff.2 h0
  have h2 : 2 ≤ (sj j).length := by unfold sj; simp
  have hc : ∀ c ∈ st ++ sj j, c ≠ 47 ∧ c ≠ 0 := fun c hc => by
    rcases List.mem_append.1 hc with h | h
    · have := hst c h
      exact ⟨fun e => by rw [e] at this; exact absurd this.1 (by decide), fun e => by rw [e] at this; exact absurd this.1 (by decide)⟩
    · exact sj_ok ⟨j, hj⟩ c h
  refine ⟨fun e => ?_, fun e => ?_, fun e => ?_, fun c h => (hc c h).1, fun c h => (hc c h).2, by rw [List.length_append]; omega⟩
  all_goals
    have := congrArg List.length e
    rw [List.length_append] at this
    simp only [List.length_nil, List.length_cons] at this
    omega
theorem ch_pats {st : Bs} (h0 : st ≠ []) (hst : ∀ c ∈ st, 97 ≤ c ∧ c ≤ 122) (hl : st.length ≤ 30) (th : Nat → Bool) (kn : Bool) (n : Nat) (hn : n ≤ 10) : ∀ r ∈ chR st th kn n, r.rc = [] ∨ PatOk st [46, 111] r := by
  intro r h
  rcases ch_mem th kn n r h with ⟨j, hj, rfl⟩ | ⟨j, _, rfl⟩
  · exact .inr ⟨rfl, sj j, rfl, nm_ch h0 hst hl j (by omega), by have := sj_len j; omega⟩
  · exact .inl rfl
theorem ch_plain {st : Bs} (hst : ∀ c ∈ st, 97 ≤ c ∧ c ≤ 122) (th : Nat → Bool) (kn : Bool) (n : Nat) : plainF (chR st th kn n) (st ++ [46, 111]) = [] := by
  unfold plainF
  rw [List.filter_eq_nil_iff]
  intro r h
  have hno : (37 : UInt8) ∉ st ++ [46, 111] := by
    intro h
    rcases List.mem_append.1 h with h | h
    · exact absurd (hst 37 h).1 (by decide)
    · revert h; decide
  rcases ch_mem th kn n r h with ⟨j, _, rfl⟩ | ⟨j, _, rfl⟩
  · have : ([[37, 46, 111]] : List Bs).contains (st ++ [46, 111]) = false := by
      rw [Bool.eq_false_iff]
      intro h
      have e : st ++ [46, 111] = [37, 46, 111] := by simpa using List.contains_iff_mem.1 h
      exact hno (by rw [e]; simp)
    unfold makesF patR
    rw [this]; simp
  · have : ([st ++ sj j] : List Bs).contains (st ++ [46, 111]) = false := by
      rw [Bool.eq_false_iff]
      intro h
      have e : st ++ [46, 111] = st ++ sj j := by simpa using List.contains_iff_mem.1 h
      have e := List.append_cancel_left e
      unfold sj at e
      injection e with _ e
      injection e with e _
      exact absurd e (by decide)
    unfold makesF plR
    rw [this]; simp
end Go.Proofs.YtjagnihkpgbjeaaDoor
