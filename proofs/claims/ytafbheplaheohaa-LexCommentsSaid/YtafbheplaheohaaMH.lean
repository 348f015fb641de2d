import Derived.Test.YtafbheplaheohaaMG
namespace Go.Proofs.Ytafbheplaheohaa
set_option linter.unusedVariables false
set_option autoImplicit false

/-! The document's own reader gathers parts one by one, and tidies them up. -/
def joinP (y : Prt) (t : Bz) : Prt := .mk y.kind (y.text ++ t) y.name y.op y.word y.quoted
def isVoid (x : Prt) : Bool := x.kind == 2 && x.text.isEmpty
def isTxt (x : Prt) : Bool := x.kind == 1 || x.kind == 2
def stepL (out : List Prt) (x : Prt) : List Prt := if isVoid x then out else match out.getLast? with
  | some y => if y.kind = x.kind ∧ isTxt x = true then out.dropLast ++ [joinP y x.text] else out ++ [x]
  | none => out ++ [x]
def tidyL (l : List Prt) : List Prt := if (l.foldl stepL []).isEmpty && l.any isVoid then [txt 2 []] else l.foldl stepL []
def stepT (p : PS) (x : Prt) : PS := if isVoid x then p.mark else if isTxt x then p.put x.kind x.text else p.add x
def tidyS (l : List Prt) : PS := l.foldl stepT ps0
theorem tidyS_app (l : List Prt) (x : Prt) : tidyS (l ++ [x]) = stepT (tidyS l) x := by unfold tidyS; rw [List.foldl_append]; rfl
/-- A part as it is put. -/
structure RawOk (x : Prt) : Prop where
  txt : isTxt x = true → x = txt x.kind x.text
  one : x.kind = 1 → x.text ≠ []
theorem rawok_txt {k : Nat} {t : Bz} (h : k = 1 → t ≠ []) : RawOk (txt k t) := ⟨fun _ => rfl, h⟩
theorem rawok_kind {x : Prt} (h : 3 ≤ x.kind) : RawOk x := ⟨fun h2 => by simp [isTxt] at h2; omega, fun h2 => by omega⟩
def Inv (p : PS) : Prop := p.bytes = [] → ∀ y, p.list.getLast? = some y → isTxt y = false
theorem flush_nil {p : PS} (h : p.bytes = []) : p.flush.list = p.list := by unfold PS.flush; rw [if_pos h]
theorem flush_ne {p : PS} (h : p.bytes ≠ []) : p.flush.list = p.list ++ [txt p.kind p.bytes] := by unfold PS.flush; rw [if_neg h]
theorem step_eq {p : PS} {x : Prt} (hi : Inv p) (hx : RawOk x) : stepL p.flush.list x = (stepT p x).flush.list ∧ Inv (stepT p x) := by
  unfold stepL stepT
  by_cases hv : isVoid x = true
  · rw [if_pos hv, if_pos hv]
    exact ⟨rfl, hi⟩
  rw [if_neg hv, if_neg hv]
  by_cases ht : isTxt x = true
  · rw [if_pos ht]
    have hxt := hx.txt ht
    have hne : x.text ≠ [] := by
      intro e
      have hk : x.kind = 1 ∨ x.kind = 2 := by simpa [isTxt] using ht
      rcases hk with hk | hk
      · exact hx.one hk e
      · exact hv (by simp [isVoid, hk, e])
    unfold PS.put
    rw [if_neg hne]
    by_cases hb : p.bytes = []
    · have hlast : ∀ y, p.flush.list.getLast? = some y → isTxt y = false := fun y hy => hi hb y (by rw [← flush_nil hb]; exact hy)
      have hL : (match p.flush.list.getLast? with
        | some y => if y.kind = x.kind ∧ isTxt x = true then p.flush.list.dropLast ++ [joinP y x.text] else p.flush.list ++ [x]
        | none => p.flush.list ++ [x]) = p.flush.list ++ [x] := by
        cases hg : p.flush.list.getLast? with
        | none => rfl
        | some y =>
          simp only
          rw [if_neg]
          rintro ⟨h1, h2⟩
          have := hlast y hg
          have hty : isTxt y = isTxt x := by unfold isTxt; rw [h1]
          rw [hty, ht] at this; cases this
      rw [hL, flush_nil hb]
      by_cases hk : x.kind = p.kind
      · rw [if_pos hk]
        refine ⟨?_, fun h => absurd h (by simp [hb, hne])⟩
        rw [flush_ne (p := ⟨p.list, x.kind, p.bytes ++ x.text, p.quotes⟩) (by simp [hne]), hb]
        simp only [List.nil_append]
        rw [← hxt]
      · rw [if_neg hk]
        refine ⟨?_, fun h => absurd h hne⟩
        rw [flush_ne (p := ⟨p.list, x.kind, x.text, p.quotes⟩) hne]
        simp only
        rw [← hxt]
    · rw [flush_ne hb, List.getLast?_concat, List.dropLast_concat]
      simp only
      by_cases hk : x.kind = p.kind
      · have hc : (txt p.kind p.bytes).kind = x.kind ∧ isTxt x = true := ⟨hk.symm, ht⟩
        rw [if_pos hc, if_pos hk]
        refine ⟨?_, fun h => absurd h (by simp [hb])⟩
        rw [flush_ne (p := ⟨p.list, x.kind, p.bytes ++ x.text, p.quotes⟩) (by simp [hne]), hk]; rfl
      · have hc : ¬ ((txt p.kind p.bytes).kind = x.kind ∧ isTxt x = true) := fun h => hk h.1.symm
        rw [if_neg hc, if_neg hk]
        refine ⟨?_, fun h => absurd h hne⟩
        rw [flush_ne (p := ⟨p.list ++ [txt p.kind p.bytes], x.kind, x.text, p.quotes⟩) hne]
        simp only
        rw [← hxt]
  · rw [if_neg ht]
    have hf : isTxt x = false := by simpa using ht
    have hL : (match p.flush.list.getLast? with
      | some y => if y.kind = x.kind ∧ isTxt x = true then p.flush.list.dropLast ++ [joinP y x.text] else p.flush.list ++ [x]
      | none => p.flush.list ++ [x]) = p.flush.list ++ [x] := by
      cases hg : p.flush.list.getLast? with
      | none => rfl
      | some y =>
        simp only
        rw [if_neg (fun h => ht h.2)]
    rw [hL]
    refine ⟨?_, fun _ y hy => ?_⟩
    · rw [flush_nil (p := p.add x) rfl]; rfl
    · have : (p.flush.list ++ [x]).getLast? = some y := hy
      rw [List.getLast?_concat] at this
      injection this with this
      rw [← this]; exact hf
theorem tidy_go : ∀ (l : List Prt) (p : PS), Inv p → (∀ x ∈ l, RawOk x) → l.foldl stepL p.flush.list = (l.foldl stepT p).flush.list ∧ (l.foldl stepT p).quotes = (p.quotes || l.any isVoid)
  | [], p, hi, _ => ⟨rfl, by simp⟩
  | x :: l, p, hi, h => by
    obtain ⟨h1, h2⟩ := step_eq hi (h x (by simp))
    have ih := tidy_go l (stepT p x) h2 (fun y hy => h y (List.mem_cons_of_mem _ hy))
    rw [List.foldl_cons, List.foldl_cons, h1]
    refine ⟨ih.1, ?_⟩
    rw [ih.2, List.any_cons]
    have hq : (stepT p x).quotes = (p.quotes || isVoid x) := by
      unfold stepT
      by_cases hv : isVoid x = true
      · rw [if_pos hv, hv]; simp [PS.mark]
      · rw [if_neg hv]
        have hv : isVoid x = false := by simpa using hv
        rw [hv, Bool.or_false]
        split
        · unfold PS.put; split
          · rfl
          · split <;> rfl
        · rfl
    rw [hq, Bool.or_assoc]
theorem tidy_all {l : List Prt} (h : ∀ x ∈ l, RawOk x) : tidyL l = (tidyS l).all := by
  have h1 := tidy_go l ps0 (fun _ y hy => by cases hy) h
  have e : ps0.flush.list = [] := rfl
  rw [e] at h1
  unfold tidyL PS.all tidyS
  rw [h1.1, h1.2]; rfl
/-- The two ways of gathering go together. -/
structure Eqv (p q : PS) : Prop where
  list : p.list = q.list
  kind : p.kind = q.kind
  bytes : p.bytes = q.bytes
  quotes : p.quotes = q.quotes ∨ p.flush.list ≠ []
theorem Eqv.refl (p : PS) : Eqv p p := ⟨rfl, rfl, rfl, .inl rfl⟩
theorem Eqv.flush {p q : PS} (h : Eqv p q) : p.flush.list = q.flush.list := by unfold PS.flush; rw [h.list, h.kind, h.bytes]
theorem Eqv.all {p q : PS} (h : Eqv p q) : p.all = q.all := by
  unfold PS.all
  rw [← h.flush]
  rcases h.quotes with e | e
  · rw [e]
  · have : p.flush.list.isEmpty = false := by simpa using e
    rw [this]; rfl
theorem put_ne {p : PS} {k : Nat} {t : Bz} (h : t ≠ []) : (p.put k t).flush.list ≠ [] := by
  unfold PS.put
  rw [if_neg h]
  split
  · rw [flush_ne (by simp [h])]; simp
  · rw [flush_ne h]; simp
theorem Eqv.put {p q : PS} (h : Eqv p q) {k : Nat} {t : Bz} (ht : t ≠ []) : Eqv (p.put k t) (q.put k t) := by
  have h1 := put_ne (p := p) (k := k) ht
  have hf := h.flush
  unfold PS.put at h1 ⊢
  rw [if_neg ht] at h1 ⊢
  rw [if_neg ht, ← h.kind, ← hf, ← h.list, ← h.bytes]
  by_cases hk : k = p.kind
  · rw [if_pos hk] at h1 ⊢; exact ⟨by rw [if_pos hk], by rw [if_pos hk], by rw [if_pos hk], .inr h1⟩
  · rw [if_neg hk] at h1 ⊢; exact ⟨by rw [if_neg hk], by rw [if_neg hk], by rw [if_neg hk], .inr h1⟩
theorem Eqv.mark {p q : PS} (h : Eqv p q) : Eqv p.mark q.mark := ⟨h.list, h.kind, h.bytes, .inl rfl⟩
theorem Eqv.add {p q : PS} (h : Eqv p q) (x : Prt) : Eqv (p.add x) (q.add x) := by
  have hf := h.flush
  refine ⟨?_, h.kind, rfl, .inr ?_⟩
  · show p.flush.list ++ [x] = q.flush.list ++ [x]; rw [hf]
  · rw [flush_nil (p := p.add x) rfl]
    show p.flush.list ++ [x] ≠ []
    simp
theorem Eqv.text {p q : PS} (h : Eqv p q) {k : Nat} (hk : k = 1 ∨ k = 2) {t : Bz} (ht : t ≠ []) : Eqv (p.put k t) (stepT q (txt k t)) := by
  have e : stepT q (txt k t) = q.put k t := by
    unfold stepT
    have hv : isVoid (txt k t) = false := by
      show (k == 2 && t.isEmpty) = false
      have : t.isEmpty = false := by simpa using ht
      rw [this, Bool.and_false]
    have htx : isTxt (txt k t) = true := by rcases hk with rfl | rfl <;> rfl
    rw [hv, htx]; rfl
  rw [e]; exact h.put ht
theorem Eqv.void {p q : PS} (h : Eqv p q) : Eqv p.mark (stepT q (txt 2 [])) := h.mark
theorem Eqv.single {p q : PS} (h : Eqv p q) (t : Bz) : Eqv (p.mark.put 2 t) (stepT q (txt 2 t)) := by
  by_cases ht : t = []
  · subst ht
    rw [put_nil]; exact h.void
  · have h1 := h.text (k := 2) (.inr rfl) ht
    have h2 : Eqv (p.mark.put 2 t) (p.put 2 t) := by
      have h3 := put_ne (p := p.mark) (k := 2) ht
      unfold PS.put at h3 ⊢
      rw [if_neg ht] at h3 ⊢
      rw [if_neg ht]
      by_cases hk : 2 = p.kind
      · have hk' : 2 = p.mark.kind := hk
        rw [if_pos hk'] at h3 ⊢
        rw [if_pos hk]
        exact ⟨rfl, rfl, rfl, .inr h3⟩
      · have hk' : ¬ 2 = p.mark.kind := hk
        rw [if_neg hk'] at h3 ⊢
        rw [if_neg hk]
        exact ⟨rfl, rfl, rfl, .inr h3⟩
    exact ⟨h2.list.trans h1.list, h2.kind.trans h1.kind, h2.bytes.trans h1.bytes, .inr (put_ne ht)⟩
theorem Eqv.addx {p q : PS} (h : Eqv p q) {x : Prt} (hx : 3 ≤ x.kind) : Eqv (p.add x) (stepT q x) := by
  have e : stepT q x = q.add x := by
    unfold stepT
    have hv : isVoid x = false := by
      show (x.kind == 2 && _) = false
      have : (x.kind == 2) = false := beq_eq_false_iff_ne.2 (by omega)
      rw [this, Bool.false_and]
    have htx : isTxt x = false := by
      unfold isTxt
      rw [beq_eq_false_iff_ne.2 (by omega), beq_eq_false_iff_ne.2 (by omega)]; rfl
    rw [hv, htx]; rfl
  rw [e]; exact h.add x
end Go.Proofs.Ytafbheplaheohaa
