import Derived.Test.YtafbheplaheohaaMD
namespace Go.Proofs.Ytafbheplaheohaa
set_option linter.unusedVariables false
set_option autoImplicit false

/-! LexScripts. -/
def balF : Nat → Bz → Option Nat
  | o, [] => some o
  | o, c :: r => if c = 40 then balF (o + 1) r else if c = 41 then (match o with
      | 0 => none
      | o' + 1 => balF o' r) else balF o r
theorem balF_cons (o : Nat) (c : UInt8) (r : Bz) : balF o (c :: r) = if c = 40 then balF (o + 1) r else if c = 41 then (match o with
      | 0 => none
      | o' + 1 => balF o' r) else balF o r := by cases o <;> rfl
theorem calcN_cons (o : Nat) (c : UInt8) (r : Bz) : calcN o (c :: r) = if c = 40 then (calcN (o + 1) r).map (· + 1) else if c = 41 then (match o with
      | 0 => if r.head? = some 41 then some 0 else none
      | o' + 1 => (calcN o' r).map (· + 1)) else (calcN o r).map (· + 1) := by cases o <;> rfl
theorem subN_cons (o : Nat) (c : UInt8) (r : Bz) : subN o 0 (c :: r) = if c = 40 then (subN (o + 1) 0 r).map (· + 1) else if c = 41 then (match o with
      | 0 => some 0
      | o' + 1 => (subN o' 0 r).map (· + 1)) else if c = 92 then (subN o 1 r).map (· + 1) else if c = 39 ∨ c = 34 then (subN o (quotT c false r) r).map (· + 1) else (subN o 0 r).map (· + 1) := by cases o <;> rfl
theorem calcN_app : ∀ (s : Bz) (o m : Nat) (t : Bz), balF o s = some m → calcN o (s ++ t) = (calcN m t).map (· + s.length)
  | [], o, m, t, h => by cases h; simp
  | c :: s, o, m, t, h => by
    have fin : ∀ x : Option Nat, (x.map (· + s.length)).map (· + 1) = x.map (· + (c :: s).length) := fun x => by
      cases x with
      | none => rfl
      | some a => simp; omega
    rw [balF_cons] at h
    rw [List.cons_append, calcN_cons]
    split at h
    · rw [if_pos ‹_›, calcN_app s _ m t h, fin]
    · rw [if_neg ‹_›]
      split at h
      · rw [if_pos ‹_›]
        cases o with
        | zero => cases h
        | succ o => simp only at h ⊢; rw [calcN_app s _ m t h, fin]
      · rw [if_neg ‹_›, calcN_app s _ m t h, fin]
theorem subN_app : ∀ (s : Bz) (o m : Nat) (t : Bz), (∀ x ∈ s, x ≠ 92 ∧ x ≠ 39 ∧ x ≠ 34) → balF o s = some m → subN o 0 (s ++ t) = (subN m 0 t).map (· + s.length)
  | [], o, m, t, hx, h => by cases h; simp
  | c :: s, o, m, t, hx, h => by
    have fin : ∀ x : Option Nat, (x.map (· + s.length)).map (· + 1) = x.map (· + (c :: s).length) := fun x => by
      cases x with
      | none => rfl
      | some a => simp; omega
    obtain ⟨h1, h2, h3⟩ := hx c (by simp)
    have hx' : ∀ x ∈ s, x ≠ 92 ∧ x ≠ 39 ∧ x ≠ 34 := fun x h => hx x (List.mem_cons_of_mem _ h)
    rw [balF_cons] at h
    rw [List.cons_append, subN_cons]
    split at h
    · rw [if_pos ‹_›, subN_app s _ m t hx' h, fin]
    · rw [if_neg ‹_›]
      split at h
      · rw [if_pos ‹_›]
        cases o with
        | zero => cases h
        | succ o => simp only at h ⊢; rw [subN_app s _ m t hx' h, fin]
      · rw [if_neg ‹_›, if_neg h1, if_neg (fun e => e.elim h2 h3), subN_app s _ m t hx' h, fin]
structure ScriptOk (ck : Bool) (s : Bz) : Prop where
  bytes : ∀ x ∈ s, x ≠ 39 ∧ x ≠ 34 ∧ x ≠ 92 ∧ x ≠ 0 ∧ x ≠ 96
  bal : balF 0 s = some 0
  head : ck = false → s.head? ≠ some 40
def bodyB (ck : Bool) (s : Bz) : Bz := if ck then 40 :: 40 :: (s ++ [41, 41]) else 40 :: (s ++ [41])
def scriptP (ck quoted : Bool) (s : Bz) : Prt := .mk (if ck then 4 else 5) s [] [] [] quoted
theorem doll_script {ck : Bool} {s : Bz} (h : ScriptOk ck s) (W : Bz → Res (List Prt × Bz)) (q : Bool) (d : Nat) (p : PS) (r : Bz) : dollF W q d p (bodyB ck s ++ r) = .ok (p.add (scriptP ck q s), r) := by
  cases ck with
  | true =>
    have e : bodyB true s ++ r = 40 :: 40 :: (s ++ 41 :: 41 :: r) := by unfold bodyB; simp
    rw [e]
    unfold dollF
    rw [if_neg (by simp), if_pos (by simp)]
    have : calcN 0 ((40 :: 40 :: (s ++ 41 :: 41 :: r) : Bz).drop 2) = some s.length := by
      show calcN 0 (s ++ 41 :: 41 :: r) = _
      rw [calcN_app s 0 0 _ h.bal]
      simp [calcN]
    rw [this]
    simp only
    show Except.ok (p.add (.mk 4 ((s ++ 41 :: 41 :: r).take s.length) [] [] [] q), (s ++ 41 :: 41 :: r).drop (s.length + 2)) = _
    rw [List.take_left, ← List.drop_drop, List.drop_left]
    rfl
  | false =>
    have e : bodyB false s ++ r = 40 :: (s ++ 41 :: r) := by unfold bodyB; simp
    rw [e]
    unfold dollF
    have hh : ¬ ((40 :: (s ++ 41 :: r) : Bz).head? = some 40 ∧ (40 :: (s ++ 41 :: r) : Bz).tail.head? = some 40) := by
      rintro ⟨_, h2⟩
      have h3 := h.head rfl
      cases s with
      | nil => simp at h2
      | cons c s => exact h3 (by simpa using h2)
    rw [if_neg (by simp), if_neg hh, if_pos (by simp)]
    have : subN 0 0 (40 :: (s ++ 41 :: r) : Bz).tail = some s.length := by
      show subN 0 0 (s ++ 41 :: r) = _
      rw [subN_app s 0 0 _ (fun x hx => ⟨(h.bytes x hx).2.2.1, (h.bytes x hx).1, (h.bytes x hx).2.1⟩) h.bal]
      simp [subN]
    rw [this]
    simp only
    show Except.ok (p.add (.mk 5 ((s ++ 41 :: r).take s.length) [] [] [] q), (s ++ 41 :: r).drop (s.length + 1)) = _
    rw [List.take_left, ← List.drop_drop, List.drop_left]
    rfl
theorem all_add (x : Prt) : (ps0.add x).all = [x] := rfl
theorem all_madd (x : Prt) : (ps0.mark.add x).all = [x] := rfl
def scriptB (ck quoted : Bool) (s : Bz) : Bz := if quoted then 34 :: 36 :: (bodyB ck s ++ [34]) else 36 :: bodyB ck s
theorem script_read {ck : Bool} (quoted : Bool) {s : Bz} (h : ScriptOk ck s) {e : Nat} (he : e = 0 ∨ e = 1) (r : Bz) : ∃ p, p.all = [scriptP ck quoted s] ∧ readC e false 0 ps0 (scriptB ck quoted s ++ r) = readC e false 0 p r := by
  cases quoted with
  | false =>
    refine ⟨ps0.add (scriptP ck false s), rfl, ?_⟩
    show readC e false 0 ps0 (36 :: (bodyB ck s ++ r)) = _
    rw [readC_doll (by rcases he with rfl | rfl <;> rfl), doll_script h]
  | true =>
    refine ⟨ps0.mark.add (scriptP ck true s), rfl, ?_⟩
    have e1 : scriptB ck true s ++ r = 34 :: 36 :: (bodyB ck s ++ 34 :: r) := by unfold scriptB; simp
    rw [e1, readC_two (by rcases he with rfl | rfl <;> rfl) rfl, readC_doll rfl, doll_script h]
    simp only
    rw [readC_end rfl]
theorem bodyB_mem {ck : Bool} {s : Bz} {x : UInt8} (h : x ∈ bodyB ck s) : x = 40 ∨ x = 41 ∨ x ∈ s := by
  unfold bodyB at h
  split at h
  · simp at h; rcases h with h | h | h <;> simp [h]
  · simp at h; rcases h with h | h | h <;> simp [h]
theorem scriptB_len (ck quoted : Bool) (s : Bz) : (scriptB ck quoted s).length ≤ s.length + 7 := by
  unfold scriptB bodyB
  split <;> split <;> simp <;> omega
theorem script_all {ck quoted : Bool} {s : Bz} (h : ScriptOk ck s) (hl : s.length ≤ 200) : wordsF (scriptB ck quoted s) = .ok [scriptP ck quoted s] ∧ tokensF (scriptB ck quoted s ++ [59]) = .ok [.word [scriptP ck quoted s], .op [59]] := by
  have hlen := scriptB_len ck quoted s
  have hz : ∀ x ∈ scriptB ck quoted s, x ≠ 0 := by
    intro x hx
    unfold scriptB at hx
    have key : x = 34 ∨ x = 36 ∨ x ∈ bodyB ck s := by
      split at hx
      · simp at hx; rcases hx with h | h | h | h <;> simp [h]
      · simp at hx; rcases hx with h | h <;> simp [h]
    rcases key with rfl | rfl | hx
    · decide
    · decide
    · rcases bodyB_mem hx with rfl | rfl | hx
      · decide
      · decide
      · exact (h.bytes x hx).2.2.2.1
  have hm : mayN (scriptB ck quoted s) = 0 := mayN_ok (by omega) hz
  have hm2 : mayN (scriptB ck quoted s ++ [59]) = 0 := mayN_ok (by simp; omega) (by
    intro x hx
    rcases List.mem_append.1 hx with hx | hx
    · exact hz x hx
    · rw [List.mem_singleton.1 hx]; decide)
  constructor
  · obtain ⟨p, hp, hr⟩ := script_read quoted h (e := 0) (.inl rfl) []
    rw [List.append_nil, readC_nil] at hr
    rw [wordsF_eq hm, wordF_eq, hr]
    show Except.ok p.all = _
    rw [hp]
  · obtain ⟨p, hp, hr⟩ := script_read quoted h (e := 1) (.inr rfl) [59]
    rw [readC_end rfl] at hr
    obtain ⟨c, t, hc, hcc⟩ : ∃ c t, scriptB ck quoted s ++ [59] = c :: t ∧ (c = 34 ∨ c = 36) := by
      cases quoted with
      | true => exact ⟨34, _, rfl, .inl rfl⟩
      | false => exact ⟨36, _, rfl, .inr rfl⟩
    have hsk : skipF false (c :: t) = c :: t ∧ operator (c :: t) = [] ∧ c ≠ 38 := by
      rcases hcc with rfl | rfl <;> exact ⟨skip_stop rfl (by decide) (by decide), operator_none (by decide), by decide⟩
    have hw : wordF 1 (c :: t) = .ok ([scriptP ck quoted s], [59]) := by
      rw [← hc, wordF_eq, hr]
      show Except.ok (p.all, [59]) = _
      rw [hp]
    have hln : ∃ n, (scriptB ck quoted s ++ [59]).length = n + 2 := by
      cases quoted <;> exact ⟨_, by unfold scriptB; simp; rfl⟩
    obtain ⟨n, hn⟩ := hln
    rw [tokensF_eq hm2, hn, hc, tokF_word hsk.1 hsk.2.1 hsk.2.2, hw]
    simp only
    rw [tokF_op (c := 59) (r := []) (o := [59]) rfl (by decide) (by simp)]
    exact tokF_nil rfl
/-! LexBraces. -/
def brOps : List Bz := [[], [58, 45], [45], [58, 61], [61], [58, 63], [63], [58, 43], [43], [37], [37, 37], [35], [35, 35]]
def nestB (name o : Bz) : Nat → Bz
  | 0 => []
  | k + 1 => 36 :: 123 :: (name ++ (o ++ (nestB name o k ++ [125])))
def nestP (name o : Bz) (q : Bool) : Nat → List Prt
  | 0 => []
  | k + 1 => [.mk 3 [] name o (nestP name o q k) q]
theorem low_word {x : UInt8} (h1 : 97 ≤ x) (h2 : x ≤ 122) : isLetter x = true := by
  have : ∀ y : UInt8, 97 ≤ y ∧ y ≤ 122 → isLetter y = true := by
    intro y ⟨h1, h2⟩
    unfold isLetter
    refine decide_eq_true ?_
    have : y ||| 32 = y := by
      have h1' : 97 ≤ y.toNat := UInt8.le_iff_toNat_le.1 h1
      have h2' : y.toNat ≤ 122 := UInt8.le_iff_toNat_le.1 h2
      refine UInt8.toNat_inj.1 ?_
      rw [UInt8.toNat_or]
      have key : ∀ n : Nat, n < 123 → 97 ≤ n → n ||| (32 : UInt8).toNat = n := by decide
      exact key _ (by omega) h1'
    rw [this]; exact ⟨h1, h2⟩
  exact this x ⟨h1, h2⟩
theorem tailLen_low : ∀ {s r : Bz}, Low s → (∀ c, r.head? = some c → isWordC c = false) → tailLen (s ++ r) = s.length
  | [], [], _, _ => rfl
  | [], c :: r, _, h => by rw [List.nil_append, tailLen, h c rfl]; rfl
  | x :: s, r, hs, h => by
    obtain ⟨h1, h2⟩ := hs x (by simp)
    have : isWordC x = true := by unfold isWordC; rw [low_word h1 h2]; rfl
    rw [List.cons_append, tailLen, this, if_pos rfl, tailLen_low (fun y hy => hs y (List.mem_cons_of_mem _ hy)) h]; rfl
theorem low_digit {x : UInt8} (h1 : 97 ≤ x) : isDigit x = false := by
  unfold isDigit
  refine decide_eq_false ?_
  rintro ⟨_, h⟩
  have h1' : 97 ≤ x.toNat := UInt8.le_iff_toNat_le.1 h1
  have h2' : x.toNat ≤ 57 := UInt8.le_iff_toNat_le.1 h
  omega
theorem long_low {s r : Bz} (hs : Low s) (hne : s ≠ []) (h : ∀ c, r.head? = some c → isWordC c = false) : longParam (s ++ r) = s.length := by
  cases s with
  | nil => exact absurd rfl hne
  | cons x s =>
    obtain ⟨h1, h2⟩ := hs x (by simp)
    have hn : nameLen (x :: s ++ r) = (x :: s).length := by
      rw [List.cons_append, nameLen, low_word h1 h2]
      simp only [Bool.true_or, if_true]
      rw [tailLen_low (fun y hy => hs y (List.mem_cons_of_mem _ hy)) h]; rfl
    have hd : digitsLen (x :: s ++ r) = 0 := by rw [List.cons_append, digitsLen, low_digit h1]; rfl
    unfold longParam paramLen
    rw [hn, hd, if_pos (by simp)]
    exact Nat.max_eq_left (Nat.zero_le _)
/-- What may stand behind a name and an operator in braces. -/
def Behind (o t : Bz) : Prop := (o = [] → t.head? = none ∨ t.head? = some 125) ∧ (t.head? = none ∨ t.head? = some 125 ∨ t.head? = some 36)
theorem opOf_at {o t : Bz} (ho : o ∈ brOps) (ht : Behind o t) : opOf (o ++ t) = o ∧ ∀ c, (o ++ t).head? = some c → isWordC c = false := by
  obtain ⟨h1, h2⟩ := ht
  cases t with
  | nil =>
    have : ∀ o ∈ brOps, opOf o = o ∧ ∀ c, o.head? = some c → isWordC c = false := by
      intro o ho
      simp only [brOps, List.mem_cons, List.not_mem_nil, or_false] at ho
      rcases ho with rfl | rfl | rfl | rfl | rfl | rfl | rfl | rfl | rfl | rfl | rfl | rfl | rfl <;> exact ⟨rfl, fun c hc => by first | (injection hc with hc; subst hc; rfl) | cases hc⟩
    simpa using this o ho
  | cons x t =>
    have hx : x = 125 ∨ x = 36 := by simpa using h2
    have hx1 : o = [] → x = 125 := by simpa using h1
    simp only [brOps, List.mem_cons, List.not_mem_nil, or_false] at ho
    rcases ho with rfl | rfl | rfl | rfl | rfl | rfl | rfl | rfl | rfl | rfl | rfl | rfl | rfl
    · obtain rfl := hx1 rfl
      refine ⟨?_, fun c hc => by injection hc with hc; subst hc; rfl⟩
      unfold opOf
      rw [List.nil_append, ops_none (by decide), ops_none (by decide)]; rfl
    all_goals
      refine ⟨?_, fun c hc => by injection hc with hc; subst hc; rfl⟩
      rcases hx with rfl | rfl <;> rfl
theorem head_at {name o t : Bz} (hn : Low name) (hne : name ≠ []) (ho : o ∈ brOps) (ht : Behind o t) : headF (name ++ (o ++ t)) = (o, name, t) := by
  obtain ⟨h1, h2⟩ := opOf_at ho ht
  have hl := long_low hn hne h2
  have hh : ¬ ((name ++ (o ++ t)).head? = some 35 ∧ (name ++ (o ++ t)).tail.head? ≠ some 125 ∧ opOf (name ++ (o ++ t)).tail = []) := by
    rintro ⟨h, _⟩
    cases name with
    | nil => exact hne rfl
    | cons x s =>
      have := hn x (by simp)
      injection h with h
      exact low_ne this.1 this.2 35 rfl h
  unfold headF
  rw [if_neg hh, hl, List.drop_left, List.take_left, h1, List.drop_left]
theorem ne76 {o : Bz} (ho : o ∈ brOps) : o ≠ [76] := by
  have : ∀ o ∈ brOps, o ≠ [76] := by decide
  exact this o ho
theorem brace_at {W : Bz → Res (List Prt × Bz)} {q : Bool} {d : Nat} {name o t r : Bz} {w : List Prt} (hn : Low name) (hne : name ≠ []) (ho : o ∈ brOps) (ht : Behind o t) (hd : d ≠ 40) (h0 : o = [] → t = 125 :: r ∧ w = []) (hW : W t = .ok (w, 125 :: r)) :
    braceF W q d (name ++ (o ++ t)) = .ok (.mk 3 [] name o w q, r) := by
  unfold braceF
  rw [head_at hn hne ho ht]
  simp only
  rw [if_neg hne]
  by_cases e : o = []
  · obtain ⟨rfl, rfl⟩ := h0 e
    rw [if_pos (.inl e)]
    simp
  · rw [if_neg (fun x => x.elim e (ne76 ho)), if_neg hd, hW]
    simp
theorem brace_deep {W : Bz → Res (List Prt × Bz)} {q : Bool} {name o t : Bz} (hn : Low name) (hne : name ≠ []) (ho : o ∈ brOps) (ht : Behind o t) (e : o ≠ []) : braceF W q 40 (name ++ (o ++ t)) = .error 3 := by
  unfold braceF
  rw [head_at hn hne ho ht]
  simp only
  rw [if_neg hne, if_neg (fun x => x.elim e (ne76 ho)), if_pos trivial]
theorem brace_bad {W : Bz → Res (List Prt × Bz)} {q : Bool} {d : Nat} {name o t : Bz} {x : Nat} (hn : Low name) (hne : name ≠ []) (ho : o ∈ brOps) (ht : Behind o t) (hd : d ≠ 40) (e : o ≠ []) (hW : W t = .error x) : braceF W q d (name ++ (o ++ t)) = .error x := by
  unfold braceF
  rw [head_at hn hne ho ht]
  simp only
  rw [if_neg hne, if_neg (fun x => x.elim e (ne76 ho)), if_neg hd, hW]
theorem brace_open {W : Bz → Res (List Prt × Bz)} {q : Bool} {d : Nat} {name o t : Bz} {w : List Prt} (hn : Low name) (hne : name ≠ []) (ho : o ∈ brOps) (ht : Behind o t) (hd : d ≠ 40) (h0 : o = [] → t = []) (hW : W t = .ok (w, [])) : braceF W q d (name ++ (o ++ t)) = .error 2 := by
  unfold braceF
  rw [head_at hn hne ho ht]
  simp only
  rw [if_neg hne]
  by_cases e : o = []
  · rw [h0 e, if_pos (.inl e)]
  · rw [if_neg (fun x => x.elim e (ne76 ho)), if_neg hd, hW]
theorem nest_behind {name o : Bz} (k : Nat) (h0 : o = [] → k = 0) (r : Bz) : Behind o (nestB name o k ++ 125 :: r) := by
  cases k with
  | zero => exact ⟨fun _ => .inr rfl, .inr (.inl rfl)⟩
  | succ k => exact ⟨fun e => by have := h0 e; omega, .inr (.inr rfl)⟩
theorem doll_brace {W : Bz → Res (List Prt × Bz)} {q : Bool} {d : Nat} {p : PS} {s : Bz} : dollF W q d p (123 :: s) = match braceF W q d s with
    | .error x => .error x
    | .ok (x, r) => .ok (p.add x, r) := by
  unfold dollF; rw [if_pos (by rfl)]
  show (match braceF W q d s with | .error x => _ | .ok (x, r) => _) = _
  cases braceF W q d s <;> rfl
theorem nest_read {name o : Bz} (hn : Low name) (hne : name ≠ []) (ho : o ∈ brOps) (q : Bool) : ∀ (k : Nat), (o = [] → k = 0) → ∀ (e d : Nat) (p : PS) (r : Bz), endsB e 36 = false → d + k ≤ 39 →
    readC e q d p (nestB name o (k + 1) ++ r) = readC e q d (p.add (.mk 3 [] name o (nestP name o q k) q)) r
  | k, h0, e, d, p, r, he, hd => by
    have hW : wordC q (d + 1) (nestB name o k ++ 125 :: r) = .ok (nestP name o q k, 125 :: r) := by
      unfold wordC
      cases k with
      | zero =>
        show allR (readC 2 q (d + 1) ps0 (125 :: r)) = _
        rw [readC_end rfl]; rfl
      | succ k =>
        rw [nest_read hn hne ho q k (fun e => by have := h0 e; omega) 2 (d + 1) ps0 (125 :: r) rfl (by omega), readC_end rfl]; rfl
    have e1 : nestB name o (k + 1) ++ r = 36 :: 123 :: (name ++ (o ++ (nestB name o k ++ 125 :: r))) := by simp [nestB]
    rw [e1, readC_doll he, doll_brace, brace_at hn hne ho (nest_behind k h0 r) (by omega) (fun e => by rw [h0 e]; exact ⟨rfl, rfl⟩) hW]
theorem nest_deep {name o : Bz} (hn : Low name) (hne : name ≠ []) (ho : o ∈ brOps) (hoe : o ≠ []) (q : Bool) : ∀ (k : Nat) (e d : Nat) (p : PS) (r : Bz), endsB e 36 = false → d ≤ 40 → 40 ≤ d + k →
    readC e q d p (nestB name o (k + 1) ++ r) = .error 3
  | k, e, d, p, r, he, hd, hk => by
    have e1 : nestB name o (k + 1) ++ r = 36 :: 123 :: (name ++ (o ++ (nestB name o k ++ 125 :: r))) := by simp [nestB]
    rw [e1, readC_doll he, doll_brace]
    by_cases h40 : d = 40
    · subst h40
      rw [brace_deep hn hne ho (nest_behind k (fun e => absurd e hoe) r) hoe]
    · cases k with
      | zero => omega
      | succ k =>
        rw [brace_bad (x := 3) hn hne ho (nest_behind (k + 1) (fun e => absurd e hoe) r) h40 hoe]
        unfold wordC
        rw [nest_deep hn hne ho hoe q k 2 (d + 1) ps0 (125 :: r) rfl (by omega) (by omega)]
        rfl
theorem nest_open {name o : Bz} (hn : Low name) (hne : name ≠ []) (ho : o ∈ brOps) (q : Bool) (k : Nat) (h0 : o = [] → k = 0) (e : Nat) (p : PS) (he : endsB e 36 = false) (hk : k ≤ 39) :
    readC e q 0 p (36 :: 123 :: (name ++ (o ++ nestB name o k))) = .error 2 := by
  have hb : Behind o (nestB name o k) := by
    cases k with
    | zero => exact ⟨fun _ => .inl rfl, .inl rfl⟩
    | succ k => exact ⟨fun e => by have := h0 e; omega, .inr (.inr rfl)⟩
  have hW : wordC q 1 (nestB name o k) = .ok (nestP name o q k, []) := by
    unfold wordC
    cases k with
    | zero => rfl
    | succ k =>
      have := nest_read hn hne ho q k (fun e => by have := h0 e; omega) 2 1 ps0 [] rfl (by omega)
      rw [List.append_nil, readC_nil] at this
      rw [this]; rfl
  rw [readC_doll he, doll_brace, brace_open hn hne ho hb (by decide) (fun e => by rw [h0 e]; rfl) hW]
theorem nestB_len {name o : Bz} : ∀ k, (nestB name o k).length = k * (name.length + o.length + 3)
  | 0 => by simp [nestB]
  | k + 1 => by simp [nestB, nestB_len k, Nat.add_mul]; omega
theorem nestB_nz {name o : Bz} (hn : Low name) (ho : o ∈ brOps) : ∀ k, ∀ x ∈ nestB name o k, x ≠ 0
  | 0 => by simp [nestB]
  | k + 1 => by
    have hoz : ∀ o ∈ brOps, ∀ x ∈ o, x ≠ 0 := by decide
    intro x hx
    simp [nestB] at hx
    rcases hx with rfl | rfl | hx | hx | hx | rfl
    · decide
    · decide
    · exact hn.nz x hx
    · exact hoz o ho x hx
    · exact nestB_nz hn ho k x hx
    · decide
/-- What a word of such braces is, with and without " around it, and without its last byte. -/
theorem braces_all {name o : Bz} (hn : Low name) (hne : name ≠ []) (hnl : name.length ≤ 40) (ho : o ∈ brOps) (k : Nat) (h0 : o = [] → k = 0) (hk : k ≤ 49) (quoted : Bool) (s t : Bz)
    (hs : s = if quoted then 34 :: (nestB name o (k + 1) ++ [34]) else nestB name o (k + 1)) (ht : t = if quoted then 34 :: nestB name o (k + 1) else 36 :: 123 :: (name ++ (o ++ nestB name o k))) :
    (40 ≤ k → wordsF s = .error 3) ∧ (k ≤ 39 → wordsF s = .ok (nestP name o quoted (k + 1)) ∧ wordsF t = .error 2) := by
  have hol : ∀ o ∈ brOps, o.length ≤ 2 := by decide
  have ho2 := hol o ho
  have hlen := nestB_len (name := name) (o := o) (k + 1)
  have hlen0 := nestB_len (name := name) (o := o) k
  have hb : (nestB name o (k + 1)).length ≤ 2250 := by
    rw [hlen]
    calc (k + 1) * (name.length + o.length + 3) ≤ 50 * 45 := Nat.mul_le_mul (by omega) (by omega)
      _ = 2250 := rfl
  have hb0 : (nestB name o k).length ≤ 2250 := by
    rw [hlen0]
    calc k * (name.length + o.length + 3) ≤ 50 * 45 := Nat.mul_le_mul (by omega) (by omega)
      _ = 2250 := rfl
  have hz := nestB_nz hn ho (k + 1)
  have hz0 := nestB_nz hn ho k
  have hoz : ∀ o ∈ brOps, ∀ x ∈ o, x ≠ 0 := by decide
  have hms : mayN s = 0 := by
    rw [hs]
    refine mayN_ok ?_ ?_
    · split
      · simp; omega
      · omega
    · split
      · intro x hx
        simp at hx
        rcases hx with rfl | hx | rfl
        · decide
        · exact hz x hx
        · decide
      · exact hz
  have hmt : mayN t = 0 := by
    rw [ht]
    refine mayN_ok ?_ ?_
    · split <;> simp <;> omega
    · split
      · intro x hx
        simp at hx
        rcases hx with rfl | hx
        · decide
        · exact hz x hx
      · intro x hx
        simp at hx
        rcases hx with rfl | rfl | hx | hx | hx
        · decide
        · decide
        · exact hn.nz x hx
        · exact hoz o ho x hx
        · exact hz0 x hx
  rw [wordsF_eq hms, wordsF_eq hmt, wordF_eq, wordF_eq]
  cases quoted with
  | true =>
    simp only [if_true] at hs ht
    subst hs; subst ht
    constructor
    · intro h40
      have hoe : o ≠ [] := fun e => by have := h0 e; omega
      rw [readC_two rfl rfl, nest_deep hn hne ho hoe true k 3 0 _ _ rfl (by omega) (by omega)]
      rfl
    · intro h39
      have k1 : readC 0 false 0 ps0 (34 :: (nestB name o (k + 1) ++ [34])) = .ok (ps0.mark.add (.mk 3 [] name o (nestP name o true k) true), []) := by
        rw [readC_two rfl rfl, nest_read hn hne ho true k h0 3 0 _ _ rfl (by omega), readC_end rfl]
        exact readC_nil
      have k2 : readC 0 false 0 ps0 (34 :: nestB name o (k + 1)) = .error 2 := by
        have := nest_read hn hne ho true k h0 3 0 ps0.mark [] rfl (by omega)
        rw [List.append_nil, readC_nil] at this
        rw [readC_two rfl rfl, this]
      rw [k1, k2]
      exact ⟨rfl, rfl⟩
  | false =>
    simp only [Bool.false_eq_true, if_false] at hs ht
    subst hs; subst ht
    constructor
    · intro h40
      have hoe : o ≠ [] := fun e => by have := h0 e; omega
      have := nest_deep hn hne ho hoe false k 0 0 ps0 [] rfl (by omega) (by omega)
      rw [List.append_nil] at this
      rw [this]
      rfl
    · intro h39
      have := nest_read hn hne ho false k h0 0 0 ps0 [] rfl (by omega)
      rw [List.append_nil, readC_nil] at this
      rw [this, nest_open hn hne ho false k h0 0 ps0 rfl h39]
      exact ⟨rfl, rfl⟩
end Go.Proofs.Ytafbheplaheohaa
