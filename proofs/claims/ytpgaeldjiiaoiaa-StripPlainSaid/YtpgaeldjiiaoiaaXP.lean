import Derived.Test.YtpgaeldjiiaoiaaAA
namespace Go.Proofs.Ytpgaeldjiiaoiaa
open Go.RowKit
set_option linter.unusedVariables false

section
variable (a b : ByteArray)
theorem gb_right (i : Nat) : gb (a ++ b) (a.size + i) = gb b i := by
  unfold gb; rw [data_app]
  have h : (a.data.toList ++ b.data.toList)[a.size + i]? = b.data.toList[i]? := by
    have hl : a.data.toList.length = a.size := by simp
    rw [List.getElem?_append_right (by omega), hl, Nat.add_sub_cancel_left]
  rw [List.getD_eq_getElem?_getD, List.getD_eq_getElem?_getD, h]
theorem gb_left (i : Nat) (h : i < a.size) : gb (a ++ b) i = gb a i := by
  unfold gb; rw [data_app]
  have h' : i < a.data.toList.length := by simpa using h
  simp only [List.getD_eq_getElem?_getD]
  rw [List.getElem?_append_left h']
theorem size_app : (a ++ b).size = a.size + b.size := ByteArray.size_append
theorem rb_right (i : Nat) : rb (a ++ b) (a.size + i) = rb b i := by
  unfold rb
  rw [gb_right, size_app, Nat.add_assoc, gb_right]
  simp only [Nat.add_lt_add_iff_left]
theorem rbn_right (i : Nat) : rbn (a ++ b) (a.size + i) = a.size + rbn b i := by
  unfold rbn
  rw [gb_right, size_app, Nat.add_assoc]
  simp only [Nat.add_lt_add_iff_left]
  split <;> omega
theorem nbOf_right (i : Nat) : nbOf (a ++ b) (a.size + i) = nbOf b i := by
  unfold nbOf
  rw [gb_right, size_app]
  simp only [Nat.add_lt_add_iff_left]
theorem iOf_right (nb : Bool) (n i : Nat) : iOf nb (n + i) = n + iOf nb i := by unfold iOf; split <;> omega

theorem rs_right : ∀ (n k : Nat) (fb : Bool) (f : Nat → Bool), rs (a ++ b) n (a.size + k) fb f = ((rs b n k fb f).1, if (rs b n k fb f).2 = 0 then 0 else a.size + (rs b n k fb f).2) := by
  intro n
  induction n with
  | zero => intro k fb f; rfl
  | succ n ih =>
    intro k fb f
    rw [rs, rs]
    simp only [gb_right, size_app, Nat.add_lt_add_iff_left, rbn_right, Nat.add_assoc, rb_right]
    by_cases hk : k < b.size
    · rw [if_pos hk, if_pos hk]
      by_cases h93 : gb b k = 93 ∧ fb = false
      · rw [if_pos h93, if_pos h93]; simp
      · rw [if_neg h93, if_neg h93]
        by_cases hs : rbn b k + 1 < b.size ∧ gb b (rbn b k) = 45 ∧ gb b (rbn b k + 1) ≠ 93
        · rw [if_pos hs, if_pos hs, ih]
        · rw [if_neg hs, if_neg hs, ih]
    · rw [if_neg hk, if_neg hk]; rfl

theorem rdSet_right (i : Nat) : rdSet (a ++ b) (a.size + i) = ((rdSet b i).1, if (rdSet b i).2 = 0 then 0 else a.size + (rdSet b i).2) := by
  unfold rdSet
  simp only [nbOf_right, iOf_right, size_app]
  rw [show a.size + b.size + 1 - (a.size + iOf (nbOf b i) i) = b.size + 1 - iOf (nbOf b i) i from by omega, rs_right]

theorem pcs_right : ∀ (n i : Nat) (cl : Bool), pcs (a ++ b) n (a.size + i) cl = pcs b n i cl := by
  intro n
  induction n with
  | zero => intro i cl; rfl
  | succ n ih =>
    intro i cl
    rw [pcs, pcs]
    simp only [gb_right, size_app, Nat.add_lt_add_iff_left, rbn_right, Nat.add_assoc, rb_right, rdSet_right, ih]
    by_cases h0 : (rdSet b (i + 1)).2 = 0
    · simp [h0]
    · simp only [h0, if_false, ih]
      rw [if_pos (show a.size + (rdSet b (i + 1)).2 ≠ 0 from by omega), if_pos h0]
end
theorem Mx_lits (s : ByteArray) : ∀ (l : List UInt8) (o e : Nat), Mx s (l.map itLit) o e ↔ e = o + l.length ∧ ∀ i (h : i < l.length), gb s (o + i) = l[i]
  | [], o, e => by simp [Mx]; omega
  | c :: l, o, e => by
    rw [List.map_cons, Mx, if_neg (by simp [itLit]), Mx_lits s l (o + 1) e]
    constructor
    · rintro ⟨h1, h2, h3, h4⟩
      refine ⟨by simp; omega, fun i hi => ?_⟩
      cases i with
      | zero =>
        simp only [itLit, beq_iff_eq] at h2
        exact (UInt8.toNat.inj h2).symm
      | succ i =>
        have := h4 i (by simpa using hi)
        rw [show o + (i + 1) = o + 1 + i by omega, this]; rfl
    · rintro ⟨h1, h2⟩
      refine ⟨by simp at h1; omega, ?_, by simp at h1; omega, fun i hi => ?_⟩
      · have := h2 0 (by simp)
        rw [Nat.add_zero] at this
        simp only [itLit, beq_iff_eq]
        rw [this]; rfl
      · have := h2 (i + 1) (by simpa using hi)
        rw [show o + 1 + i = o + (i + 1) by omega, this]; rfl
theorem gb_mk (l : List UInt8) (i : Nat) (h : i < l.length) : gb ⟨l.toArray⟩ i = l[i] := by
  unfold gb; simp [h]
theorem sz_mk (l : List UInt8) : (⟨l.toArray⟩ : ByteArray).size = l.length := by simp [ByteArray.size]
def Q (l : List UInt8) : ByteArray := ⟨(qt l).toArray⟩
theorem Q_cons (c : UInt8) (l : List UInt8) : Q (c :: l) = (⟨(if spc c then [92, c] else [c]).toArray⟩ : ByteArray) ++ Q l := by
  unfold Q
  apply ByteArray.ext
  rw [ByteArray.data_append]
  simp [qt]
theorem pcs_Q : ∀ (l : List UInt8), pcs (Q l) ((Q l).size + 1) 0 true = l.map itLit
  | [] => by
    rw [pcs, if_neg (by simp [Q, qt, ByteArray.size])]; rfl
  | c :: l => by
    have ih := pcs_Q l
    rw [Q_cons]
    cases hc : spc c
    · have hA : (⟨(if false = true then [92, c] else [c]).toArray⟩ : ByteArray).size = 1 := by simp [ByteArray.size]
      have g0 : gb ((⟨(if false = true then [92, c] else [c]).toArray⟩ : ByteArray) ++ Q l) 0 = c := by rw [gb_left _ _ 0 (by rw [hA]; omega)]; rfl
      have hne : c ≠ 42 ∧ c ≠ 63 ∧ c ≠ 91 ∧ c ≠ 92 := by
        unfold spc at hc
        simp only [Bool.or_eq_false_iff, beq_eq_false_iff_ne] at hc
        exact ⟨hc.1.1.1, hc.1.1.2, hc.1.2, hc.2⟩
      have r0 : rb ((⟨(if false = true then [92, c] else [c]).toArray⟩ : ByteArray) ++ Q l) 0 = c := by unfold rb; rw [g0, if_neg (fun h => hne.2.2.2 h.1)]
      have n0 : rbn ((⟨(if false = true then [92, c] else [c]).toArray⟩ : ByteArray) ++ Q l) 0 = 1 := by unfold rbn; rw [g0, if_neg (fun h => hne.2.2.2 h.1)]
      rw [pcs, if_pos (by rw [size_app, hA]; omega), g0, if_neg hne.1, if_neg hne.2.1, if_neg (fun h => hne.2.2.1 h.1), r0, n0, List.map_cons]
      congr 1
      have := pcs_right (⟨(if false = true then [92, c] else [c]).toArray⟩ : ByteArray) (Q l) (((⟨(if false = true then [92, c] else [c]).toArray⟩ : ByteArray) ++ Q l).size) 0 true
      rw [hA, Nat.add_zero] at this
      rw [this, ← ih]
      exact pcs_fuel _ _ _ _ _ (by rw [size_app, hA]; omega) (by omega)
    · have hA : (⟨(if true = true then [92, c] else [c]).toArray⟩ : ByteArray).size = 2 := by simp [ByteArray.size]
      have g0 : gb ((⟨(if true = true then [92, c] else [c]).toArray⟩ : ByteArray) ++ Q l) 0 = 92 := by rw [gb_left _ _ 0 (by rw [hA]; omega)]; rfl
      have g1 : gb ((⟨(if true = true then [92, c] else [c]).toArray⟩ : ByteArray) ++ Q l) (0 + 1) = c := by rw [gb_left _ _ (0 + 1) (by rw [hA]; omega)]; rfl
      have hz : 0 + 1 < ((⟨(if true = true then [92, c] else [c]).toArray⟩ : ByteArray) ++ Q l).size := by rw [size_app, hA]; omega
      have r0 : rb ((⟨(if true = true then [92, c] else [c]).toArray⟩ : ByteArray) ++ Q l) 0 = c := by unfold rb; rw [g0, if_pos ⟨rfl, hz⟩, g1]
      have n0 : rbn ((⟨(if true = true then [92, c] else [c]).toArray⟩ : ByteArray) ++ Q l) 0 = 2 := by unfold rbn; rw [g0, if_pos ⟨rfl, hz⟩]
      rw [pcs, if_pos (by rw [size_app, hA]; omega), g0, if_neg (by decide), if_neg (by decide), if_neg (fun h => absurd h.1 (by decide)), r0, n0, List.map_cons]
      congr 1
      have := pcs_right (⟨(if true = true then [92, c] else [c]).toArray⟩ : ByteArray) (Q l) (((⟨(if true = true then [92, c] else [c]).toArray⟩ : ByteArray) ++ Q l).size) 0 true
      rw [hA, Nat.add_zero] at this
      rw [this, ← ih]
      exact pcs_fuel _ _ _ _ _ (by rw [size_app, hA]; omega) (by omega)

theorem pat_Q (b : ByteArray) : pat (Q b.data.toList) = b.data.toList.map itLit := pcs_Q _
theorem pickE_in {l : List Nat} {most : Bool} (h : l ≠ []) : pickE l most ∈ l := by
  cases l with
  | nil => exact absurd rfl h
  | cons a t =>
    cases most with
    | false => exact List.mem_cons_self ..
    | true =>
      unfold pickE
      simp only [if_true]
      rw [List.getLastD_eq_getLast?, List.getLast?_eq_some_getLast (by simp : a :: t ≠ [])]
      exact List.getLast_mem _
theorem ends_lit (s : ByteArray) (l : List UInt8) (j : Nat) : j ∈ ends s (l.map itLit) (s.size + 1) ↔ j ≤ s.size ∧ j = l.length ∧ ∀ i (h : i < l.length), gb s i = l[i] := by
  unfold ends
  rw [List.mem_filter, List.mem_range, dp_iff, List.take_length, Mx_lits]
  simp only [Nat.zero_add]
  constructor
  · rintro ⟨h1, h2, h3⟩; exact ⟨by omega, h2, h3⟩
  · rintro ⟨h1, h2, h3⟩; exact ⟨by omega, h2, h3⟩
theorem lit_off {s : ByteArray} {l : List UInt8} (most : Bool) (hl : l.length ≤ s.size) (h : ∀ i (hi : i < l.length), gb s i = l[i]) : offK s (l.map itLit) most = l.length := by
  have hm : l.length ∈ ends s (l.map itLit) (s.size + 1) := (ends_lit s l _).2 ⟨hl, rfl, h⟩
  have := pickE_in (most := most) (List.ne_nil_of_mem hm)
  exact ((ends_lit s l _).1 this).2.1
theorem lit_none {s : ByteArray} {l : List UInt8} (most : Bool) (h : ¬ (l.length ≤ s.size ∧ ∀ i (hi : i < l.length), gb s i = l[i])) : offK s (l.map itLit) most = 0 := by
  have : ends s (l.map itLit) (s.size + 1) = [] := by
    apply List.eq_nil_iff_forall_not_mem.2
    intro j hj
    obtain ⟨h1, h2, h3⟩ := (ends_lit s l j).1 hj
    exact h ⟨by omega, h3⟩
  unfold offK
  rw [this]
  cases most <;> rfl
theorem gb_list (b : ByteArray) (i : Nat) (h : i < b.data.toList.length) : gb b i = b.data.toList[i] := by
  unfold gb
  rw [List.getD_eq_getElem?_getD, List.getElem?_eq_getElem h]; rfl
theorem dl (s : ByteArray) : s.data.toList.length = s.size := Array.length_toList
theorem ext_app_right (b a : ByteArray) : (b ++ a).extract b.size (b ++ a).size = a := by
  apply ByteArray.ext
  rw [ByteArray.data_extract, ByteArray.data_append, ByteArray.size_append]
  show (b.data ++ a.data).extract b.data.size (b.data.size + a.data.size) = a.data
  apply Array.toList_inj.1
  rw [Array.toList_extract, Array.toList_append, List.extract_eq_take_drop]
  have h1 : b.data.size = b.data.toList.length := Array.length_toList.symm
  have h2 : a.data.size = a.data.toList.length := Array.length_toList.symm
  rw [Nat.add_sub_cancel_left, h1, List.drop_left, h2, List.take_length]
theorem ext_app_left (a b : ByteArray) : (a ++ b).extract 0 a.size = a := by
  apply ByteArray.ext
  rw [ByteArray.data_extract, ByteArray.data_append]
  show (a.data ++ b.data).extract 0 a.data.size = a.data
  simp
/-- A quoted text ahead is taken off. -/
theorem plain_front (a b : ByteArray) : frontS (b ++ a) (Q b.data.toList) true = a := by
  unfold frontS
  rw [pat_Q, lit_off true (by rw [dl, ByteArray.size_append]; omega) (fun i hi => by rw [gb_left _ _ i (by rw [← dl]; exact hi)]; exact gb_list b i hi), dl]
  exact ext_app_right b a
theorem plain_back (a b : ByteArray) : backS (a ++ b) (Q b.data.toList) false = a := by
  unfold backS
  have hz : (a ++ b).size = a.size + b.size := ByteArray.size_append
  rw [pat_Q, ← List.map_reverse, lit_off false (by rw [List.length_reverse, dl, revB_size, hz]; omega) (fun i hi => by
    rw [List.length_reverse, dl] at hi
    rw [revB_gb _ i (by omega), hz, show a.size + b.size - 1 - i = a.size + (b.size - 1 - i) by omega, gb_right, gb_list b _ (by rw [dl]; omega)]
    rw [List.getElem_reverse]
    simp only [dl]), List.length_reverse, dl, hz, Nat.add_sub_cancel]
  exact ext_app_left a b
theorem begins_iff (c b : ByteArray) : (b.size ≤ c.size ∧ c.extract 0 b.size = b) ↔ (b.data.toList.length ≤ c.size ∧ ∀ i (hi : i < b.data.toList.length), gb c i = b.data.toList[i]) := by
  have hd := dl b
  constructor
  · rintro ⟨h1, h2⟩
    refine ⟨by omega, fun i hi => ?_⟩
    have := gb_ext c 0 b.size i (by omega) h1
    rw [h2, Nat.add_zero] at this
    rw [← this]
    exact gb_list b i hi
  · rintro ⟨h1', h2⟩
    have h1 : b.size ≤ c.size := by omega
    refine ⟨h1, ?_⟩
    have hz : (c.extract 0 b.size).size = b.size := by rw [ByteArray.size_extract]; omega
    apply ByteArray.ext
    apply Array.toList_inj.1
    apply List.ext_getElem
    · rw [dl, dl, hz]
    · intro i h3 h4
      rw [← gb_list _ i h3, gb_ext c 0 b.size i (by rw [dl] at h4; omega) h1, Nat.add_zero]
      exact h2 i h4
theorem plain_yes {c b : ByteArray} (h : b.size ≤ c.size ∧ c.extract 0 b.size = b) : frontS c (Q b.data.toList) false = c.extract b.size c.size := by
  obtain ⟨h1, h2⟩ := (begins_iff c b).1 h
  unfold frontS
  rw [pat_Q, lit_off false h1 h2, dl]
theorem plain_no {c b : ByteArray} (h : ¬ (b.size ≤ c.size ∧ c.extract 0 b.size = b)) : frontS c (Q b.data.toList) false = c := by
  unfold frontS
  rw [pat_Q, lit_none false (fun h2 => h ((begins_iff c b).2 h2)), extract_all]
end Go.Proofs.Ytpgaeldjiiaoiaa
