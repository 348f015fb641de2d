import Derived.Lib.Bytealg
namespace Go.Proofs.Ytkdacdbmlgffgaa
open Go.Lib
set_option linter.unusedVariables false
/-! The mathematics of a set of variables: a list that rises by names. -/
abbrev Bs := List UInt8
theorem bs_trans {a b c : Bs} (h : a < b) (k : b < c) : a < c := List.lt_trans h k
theorem bs_irrefl (a : Bs) : ¬ a < a := List.lt_irrefl a
theorem bs_eq {a b : Bs} (h : ¬ a < b) (k : ¬ b < a) : a = b := List.le_antisymm (List.not_lt.1 k) (List.not_lt.1 h)

structure Pr where
  n : ByteArray
  v : ByteArray
deriving DecidableEq

def Pr.key (p : Pr) : Bs := p.n.data.toList
theorem Pr.key_inj {a b : ByteArray} (h : a.data.toList = b.data.toList) : a = b := by
  cases a with | mk x => cases b with | mk y => congr 1; exact Array.toList_inj.1 h

/-- Where a name stands, or would stand. -/
def pos (L : List Pr) (x : Bs) : Nat := (L.takeWhile fun p => decide (p.key < x)).length
def has (L : List Pr) (x : Bs) : Bool := match L[pos L x]? with | some p => decide (p.key = x) | none => false
def setL (L : List Pr) (n v : ByteArray) : List Pr := L.take (pos L n.data.toList) ++ [⟨n, v⟩] ++ L.drop (pos L n.data.toList + if has L n.data.toList then 1 else 0)
def unsetL (L : List Pr) (x : Bs) : List Pr := if has L x then L.eraseIdx (pos L x) else L
def getL (L : List Pr) (x : Bs) : ByteArray := if has L x then ((L[pos L x]?).map Pr.v).getD ⟨#[]⟩ else ⟨#[]⟩
abbrev Ris (L : List Pr) : Prop := L.Pairwise (fun a b => a.key < b.key)

theorem pos_le (L : List Pr) (x : Bs) : pos L x ≤ L.length := by
  unfold pos; exact (List.takeWhile_sublist _).length_le
theorem pos_lt : ∀ (L : List Pr) (x : Bs) (j : Nat) (h : j < L.length), j < pos L x → L[j].key < x
  | [], _, j, h, _ => absurd h (by simp)
  | a :: L, x, j, h, hj => by
    unfold pos at hj
    by_cases ha : a.key < x
    · cases j with
      | zero => exact ha
      | succ j =>
        rw [List.takeWhile_cons_of_pos (by simpa using ha)] at hj
        exact pos_lt L x j (by simpa using h) (by unfold pos; simpa using hj)
    · rw [List.takeWhile_cons_of_neg (by simpa using ha)] at hj
      simp at hj
theorem pos_at : ∀ (L : List Pr) (x : Bs) (h : pos L x < L.length), ¬ L[pos L x].key < x
  | [], _, h => absurd h (by simp)
  | a :: L, x, h => by
    by_cases ha : a.key < x
    · have e : pos (a :: L) x = pos L x + 1 := by
        unfold pos; rw [List.takeWhile_cons_of_pos (by simpa using ha)]; simp
      have h' : pos L x < L.length := by rw [e] at h; simpa using h
      have := pos_at L x h'
      simp only [e, List.getElem_cons_succ]
      exact this
    · have e : pos (a :: L) x = 0 := by
        unfold pos; rw [List.takeWhile_cons_of_neg (by simpa using ha)]; rfl
      simp only [e, List.getElem_cons_zero]
      exact ha
theorem ris_lt {L : List Pr} (h : Ris L) {i j : Nat} (hi : i < L.length) (hj : j < L.length) (hij : i < j) : L[i].key < L[j].key := by
  rw [Ris, List.pairwise_iff_getElem] at h; exact h i j hi hj hij
theorem pos_ge {L : List Pr} (hr : Ris L) {x : Bs} {j : Nat} (h : j < L.length) (hj : pos L x ≤ j) : ¬ L[j].key < x := by
  by_cases e : pos L x = j
  · subst e; exact pos_at L x h
  · intro hx
    exact pos_at L x (by omega) (bs_trans (ris_lt hr (by omega) h (by omega)) hx)
theorem pos_gt {L : List Pr} (hr : Ris L) {x : Bs} {j : Nat} (h : j < L.length) (hj : pos L x < j) : x < L[j].key := by
  by_cases e : x < L[j].key
  · exact e
  · have := bs_eq (pos_ge hr h (by omega)) e
    have h2 := ris_lt hr (show pos L x < L.length by omega) h hj
    rw [this] at h2
    exact absurd h2 (pos_at L x (by omega))
/-- What a binary search learns of a name at j. -/
theorem pos_of_lt {L : List Pr} (hr : Ris L) {x : Bs} {j : Nat} (h : j < L.length) (hx : L[j].key < x) : j + 1 ≤ pos L x := by
  by_cases e : pos L x ≤ j
  · exact absurd hx (pos_ge hr h e)
  · omega
theorem pos_of_gt {L : List Pr} {x : Bs} {j : Nat} (h : j < L.length) (hx : x < L[j].key) : pos L x ≤ j := by
  by_cases e : j < pos L x
  · exact absurd (bs_trans hx (pos_lt L x j h e)) (bs_irrefl _)
  · omega
theorem pos_of_eq {L : List Pr} (hr : Ris L) {x : Bs} {j : Nat} (h : j < L.length) (hx : L[j].key = x) : pos L x = j := by
  have h1 : ¬ j < pos L x := fun e => by have := pos_lt L x j h e; rw [hx] at this; exact bs_irrefl _ this
  have h2 : ¬ pos L x < j := fun e => by have := pos_gt hr h e; rw [hx] at this; exact bs_irrefl _ this
  omega
theorem has_iff {L : List Pr} {x : Bs} : has L x = true ↔ ∃ h : pos L x < L.length, L[pos L x].key = x := by
  unfold has
  by_cases h : pos L x < L.length
  · rw [List.getElem?_eq_getElem h]; simp [h]
  · rw [List.getElem?_eq_none (by omega)]; simp [h]
theorem has_of_mem {L : List Pr} (hr : Ris L) {j : Nat} (h : j < L.length) : has L L[j].key = true :=
  has_iff.2 ⟨by rw [pos_of_eq hr h rfl]; exact h, by simp only [pos_of_eq hr h rfl]⟩
theorem has_false {L : List Pr} (hr : Ris L) {x : Bs} (hx : has L x = false) {j : Nat} (h : j < L.length) : L[j].key ≠ x := fun e => by
  subst e; rw [has_of_mem hr h] at hx; cases hx
theorem setL_has {L : List Pr} {n v : ByteArray} (h : has L n.data.toList = true) : setL L n v = L.set (pos L n.data.toList) ⟨n, v⟩ := by
  unfold setL
  rw [if_pos h, List.set_eq_take_append_cons_drop]
  obtain ⟨hl, _⟩ := has_iff.1 h
  rw [if_pos hl]; simp
theorem setL_new {L : List Pr} {n v : ByteArray} (h : has L n.data.toList = false) : setL L n v = L.take (pos L n.data.toList) ++ [⟨n, v⟩] ++ L.drop (pos L n.data.toList) := by
  unfold setL; rw [h]; rfl
theorem setL_len {L : List Pr} {n v : ByteArray} : (setL L n v).length = L.length + if has L n.data.toList then 0 else 1 := by
  cases h : has L n.data.toList with
  | true => rw [setL_has h]; simp
  | false => rw [setL_new h]; have := pos_le L n.data.toList; simp; omega
theorem ris_set {L : List Pr} (hr : Ris L) (n v : ByteArray) : Ris (setL L n v) := by
  cases h : has L n.data.toList with
  | true =>
    obtain ⟨hl, hk⟩ := has_iff.1 h
    rw [setL_has h, Ris, List.pairwise_iff_getElem]
    intro i j hi hj hij
    simp only [List.length_set] at hi hj
    rw [List.getElem_set, List.getElem_set]
    have hlt := ris_lt hr hi hj hij
    split
    · next e => subst e; rw [if_neg (by omega)]; exact Eq.mp (congrArg (fun z => z < L[j].key) hk) hlt
    · split
      · next e => subst e; exact Eq.mp (congrArg (fun z => L[i].key < z) hk) hlt
      · exact hlt
  | false =>
    rw [setL_new h, Ris, List.append_assoc, List.pairwise_append]
    refine ⟨hr.sublist (List.take_sublist _ _), ?_, ?_⟩
    · rw [List.singleton_append, List.pairwise_cons]
      refine ⟨fun b hb => ?_, hr.sublist (List.drop_sublist _ _)⟩
      obtain ⟨j, hj, rfl⟩ := List.mem_iff_getElem.1 hb
      rw [List.getElem_drop]
      rw [List.length_drop] at hj
      by_cases e : n.data.toList < L[pos L n.data.toList + j].key
      · exact e
      · exact absurd (bs_eq (pos_ge hr (by omega) (by omega)) e) (has_false hr h (by omega))
    · intro a ha b hb
      obtain ⟨i, hi, rfl⟩ := List.mem_iff_getElem.1 ha
      rw [List.length_take] at hi
      rw [List.getElem_take]
      have hlt := pos_lt L n.data.toList i (by omega) (by omega)
      rcases List.mem_append.1 hb with hb | hb
      · rw [List.mem_singleton] at hb; subst hb; exact hlt
      · obtain ⟨j, hj, rfl⟩ := List.mem_iff_getElem.1 hb
        rw [List.length_drop] at hj
        rw [List.getElem_drop]
        exact ris_lt hr (by omega) (by omega) (by omega)
theorem ris_unset {L : List Pr} (hr : Ris L) (x : Bs) : Ris (unsetL L x) := by
  unfold unsetL
  split
  · exact hr.sublist (List.eraseIdx_sublist _ _)
  · exact hr
theorem filter_unset {L : List Pr} (hr : Ris L) (x : Bs) : (L.filter fun p => decide (p.key ≠ x)) = unsetL L x := by
  unfold unsetL
  cases h : has L x with
  | false =>
    rw [List.filter_eq_self.2]
    · rfl
    · intro a ha
      obtain ⟨j, hj, rfl⟩ := List.mem_iff_getElem.1 ha
      simpa using has_false hr h hj
  | true =>
    obtain ⟨hl, hk⟩ := has_iff.1 h
    rw [if_pos rfl, List.eraseIdx_eq_take_drop_succ]
    have e : L = L.take (pos L x) ++ L[pos L x] :: L.drop (pos L x + 1) := by
      rw [← List.drop_eq_getElem_cons hl, List.take_append_drop]
    conv => lhs; rw [e]
    rw [List.filter_append, List.filter_cons_of_neg (by simpa using hk)]
    congr 1
    · rw [List.filter_eq_self]
      intro a ha
      obtain ⟨i, hi, rfl⟩ := List.mem_iff_getElem.1 ha
      rw [List.length_take] at hi
      rw [List.getElem_take, decide_eq_true_iff]
      intro e2
      have := pos_lt L x i (by omega) (by omega)
      rw [e2] at this; exact bs_irrefl _ this
    · rw [List.filter_eq_self]
      intro a ha
      obtain ⟨i, hi, rfl⟩ := List.mem_iff_getElem.1 ha
      rw [List.length_drop] at hi
      rw [List.getElem_drop, decide_eq_true_iff]
      intro e2
      have := pos_gt hr (show pos L x + 1 + i < L.length by omega) (show pos L x < pos L x + 1 + i by omega)
      rw [e2] at this; exact bs_irrefl _ this
/-- Comparing as Go does. -/
theorem cmp_lt : ∀ (a b : Bs), (compareBytes a b = -1 ↔ a < b) ∧ (compareBytes a b = 1 ↔ b < a) ∧ (compareBytes a b = 0 ↔ a = b)
  | [], [] => by simp [compareBytes]
  | [], b :: bs => by simp [compareBytes]
  | a :: as, [] => by simp [compareBytes]
  | a :: as, b :: bs => by
    unfold compareBytes
    have ih := cmp_lt as bs
    rw [List.cons_lt_cons_iff, List.cons_lt_cons_iff]
    by_cases h1 : a < b
    · have h2 : ¬ b < a := by rw [UInt8.lt_iff_toNat_lt] at *; omega
      have h3 : a ≠ b := by rintro rfl; exact h2 h1
      simp [h1, h2, h3, h3.symm]
    · by_cases h2 : b < a
      · have h3 : a ≠ b := by rintro rfl; exact h1 h2
        simp [h1, h2, h3, h3.symm]
      · have h3 : a = b := by apply UInt8.toNat.inj; rw [UInt8.lt_iff_toNat_lt] at *; omega
        subst h3
        simp [h1, ih]
end Go.Proofs.Ytkdacdbmlgffgaa
