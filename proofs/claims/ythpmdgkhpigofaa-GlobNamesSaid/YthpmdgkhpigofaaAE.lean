import Derived.Test.YthpmdgkhpigofaaAD
import Derived.Test.YthpmdgkhpigofaaK
namespace Go.Proofs.Ythpmdgkhpigofaa
open Go.RowKit

theorem pcs_lits (s : ByteArray) : ∀ (n i : Nat) (cl : Bool), ∀ it ∈ pcs s n i cl, it.1 = 0 → it = itLit it.2.1 := by
  intro n
  induction n with
  | zero => intro i cl it h; simp [pcs] at h
  | succ n ih =>
    intro i cl it h h0
    rw [pcs] at h
    split at h
    · split at h
      · rcases List.mem_cons.1 h with rfl | h
        · simp [itStar] at h0
        · exact ih _ _ _ h h0
      · split at h
        · rcases List.mem_cons.1 h with rfl | h
          · simp [itOne] at h0
          · exact ih _ _ _ h h0
        · split at h
          · split at h
            · rcases List.mem_cons.1 h with rfl | h
              · simp [itSet] at h0
              · exact ih _ _ _ h h0
            · rcases List.mem_cons.1 h with rfl | h
              · rfl
              · exact ih _ _ _ h h0
          · rcases List.mem_cons.1 h with rfl | h
            · rfl
            · exact ih _ _ _ h h0
    · simp at h
theorem lits_of {P : List It} (h : ∀ it ∈ P, it.1 = 0 → it = itLit it.2.1) (ha : allLit P = true) : P = (chars P).map itLit := by
  unfold chars
  rw [List.map_map]
  conv => lhs; rw [← List.map_id P]
  apply List.map_congr_left
  intro it hit
  unfold allLit at ha
  exact h it hit (by simpa using List.all_eq_true.1 ha it hit)
theorem Mx_lits (s : ByteArray) : ∀ (l : List UInt8) (o e : Nat), Mx s (l.map itLit) o e ↔ e = o + l.length ∧ ∀ i (h : i < l.length), gb s (o + i) = l[i]
  | [], o, e => by simp [Mx]; omega
  | c :: l, o, e => by
    rw [List.map_cons, Mx, if_neg (by simp [itLit]), Mx_lits s l (o + 1) e]
    constructor
    · rintro ⟨h1, h2, h3, h4⟩
      refine ⟨by simp; omega, fun i hi => ?_⟩
      cases i with
      | zero =>
        simp only [itLit, beq_iff_eq] at h2
        exact (UInt8.toNat.inj h2).symm
      | succ i =>
        have := h4 i (by simpa using hi)
        rw [show o + (i + 1) = o + 1 + i by omega, this]; rfl
    · rintro ⟨h1, h2⟩
      refine ⟨by simp at h1; omega, ?_, by simp at h1; omega, fun i hi => ?_⟩
      · have := h2 0 (by simp)
        rw [Nat.add_zero] at this
        simp only [itLit, beq_iff_eq]
        rw [this]; rfl
      · have := h2 (i + 1) (by simpa using hi)
        rw [show o + 1 + i = o + (i + 1) by omega, this]; rfl
theorem gb_mk (l : List UInt8) (i : Nat) (h : i < l.length) : gb ⟨l.toArray⟩ i = l[i] := by
  unfold gb; simp [h]
theorem sz_mk (l : List UInt8) : (⟨l.toArray⟩ : ByteArray).size = l.length := by simp [ByteArray.size]
/-- A pattern of literals matches its text alone. -/
theorem lits_match {P : List It} (l : List UInt8) (h : P = l.map itLit) (t : ByteArray) : mxB t P 0 t.size = decide (t = ⟨l.toArray⟩) := by
  rw [Bool.eq_iff_iff, mxB_iff, decide_eq_true_iff, h, Mx_lits]
  constructor
  · rintro ⟨h1, h2⟩
    have hl : t.data.toList = l := by
      apply List.ext_getElem
      · simp; omega
      · intro i hi1 hi2
        have := h2 i hi2
        rw [Nat.zero_add] at this
        rw [← this]
        unfold gb
        rw [List.getD_eq_getElem?_getD, List.getElem?_eq_getElem hi1]; rfl
    cases t
    rw [← hl]
  · rintro rfl
    exact ⟨by rw [sz_mk]; omega, fun i hi => by rw [Nat.zero_add]; exact gb_mk l i hi⟩

def Q (l : List UInt8) : ByteArray := ⟨(qt l).toArray⟩
theorem Q_cons (c : UInt8) (l : List UInt8) : Q (c :: l) = (⟨(if spc c then [92, c] else [c]).toArray⟩ : ByteArray) ++ Q l := by
  unfold Q
  apply ByteArray.ext
  rw [ByteArray.data_append]
  simp [qt]
theorem pcs_Q : ∀ (l : List UInt8), pcs (Q l) ((Q l).size + 1) 0 true = l.map itLit
  | [] => by
    rw [pcs, if_neg (by simp [Q, qt, ByteArray.size])]; rfl
  | c :: l => by
    have ih := pcs_Q l
    rw [Q_cons]
    cases hc : spc c
    · have hA : (⟨(if false = true then [92, c] else [c]).toArray⟩ : ByteArray).size = 1 := by simp [ByteArray.size]
      have g0 : gb ((⟨(if false = true then [92, c] else [c]).toArray⟩ : ByteArray) ++ Q l) 0 = c := by rw [gb_left _ _ 0 (by rw [hA]; omega)]; rfl
      have hne : c ≠ 42 ∧ c ≠ 63 ∧ c ≠ 91 ∧ c ≠ 92 := by
        unfold spc at hc
        simp only [Bool.or_eq_false_iff, beq_eq_false_iff_ne] at hc
        exact ⟨hc.1.1.1, hc.1.1.2, hc.1.2, hc.2⟩
      have r0 : rb ((⟨(if false = true then [92, c] else [c]).toArray⟩ : ByteArray) ++ Q l) 0 = c := by unfold rb; rw [g0, if_neg (fun h => hne.2.2.2 h.1)]
      have n0 : rbn ((⟨(if false = true then [92, c] else [c]).toArray⟩ : ByteArray) ++ Q l) 0 = 1 := by unfold rbn; rw [g0, if_neg (fun h => hne.2.2.2 h.1)]
      rw [pcs, if_pos (by rw [size_app, hA]; omega), g0, if_neg hne.1, if_neg hne.2.1, if_neg (fun h => hne.2.2.1 h.1), r0, n0, List.map_cons]
      congr 1
      have := pcs_right (⟨(if false = true then [92, c] else [c]).toArray⟩ : ByteArray) (Q l) (((⟨(if false = true then [92, c] else [c]).toArray⟩ : ByteArray) ++ Q l).size) 0 true
      rw [hA, Nat.add_zero] at this
      rw [this, ← ih]
      exact pcs_fuel _ _ _ _ _ (by rw [size_app, hA]; omega) (by omega)
    · have hA : (⟨(if true = true then [92, c] else [c]).toArray⟩ : ByteArray).size = 2 := by simp [ByteArray.size]
      have g0 : gb ((⟨(if true = true then [92, c] else [c]).toArray⟩ : ByteArray) ++ Q l) 0 = 92 := by rw [gb_left _ _ 0 (by rw [hA]; omega)]; rfl
      have g1 : gb ((⟨(if true = true then [92, c] else [c]).toArray⟩ : ByteArray) ++ Q l) (0 + 1) = c := by rw [gb_left _ _ (0 + 1) (by rw [hA]; omega)]; rfl
      have hz : 0 + 1 < ((⟨(if true = true then [92, c] else [c]).toArray⟩ : ByteArray) ++ Q l).size := by rw [size_app, hA]; omega
      have r0 : rb ((⟨(if true = true then [92, c] else [c]).toArray⟩ : ByteArray) ++ Q l) 0 = c := by unfold rb; rw [g0, if_pos ⟨rfl, hz⟩, g1]
      have n0 : rbn ((⟨(if true = true then [92, c] else [c]).toArray⟩ : ByteArray) ++ Q l) 0 = 2 := by unfold rbn; rw [g0, if_pos ⟨rfl, hz⟩]
      rw [pcs, if_pos (by rw [size_app, hA]; omega), g0, if_neg (by decide), if_neg (by decide), if_neg (fun h => absurd h.1 (by decide)), r0, n0, List.map_cons]
      congr 1
      have := pcs_right (⟨(if true = true then [92, c] else [c]).toArray⟩ : ByteArray) (Q l) (((⟨(if true = true then [92, c] else [c]).toArray⟩ : ByteArray) ++ Q l).size) 0 true
      rw [hA, Nat.add_zero] at this
      rw [this, ← ih]
      exact pcs_fuel _ _ _ _ _ (by rw [size_app, hA]; omega) (by omega)
theorem chars_lits (l : List UInt8) : chars (l.map itLit) = l ∧ allLit (l.map itLit) = true := by
  constructor
  · unfold chars; rw [List.map_map]; exact List.map_id' l
  · unfold allLit; rw [List.all_eq_true]; intro it hit; obtain ⟨c, _, rfl⟩ := List.mem_map.1 hit; rfl
end Go.Proofs.Ythpmdgkhpigofaa
