import Derived.Test.YtpgaeldjiiaoiaaU
namespace Go.Proofs.Ytpgaeldjiiaoiaa
open Go.RowKit
set_option linter.unusedVariables false

/-! The ends that a pattern's beginnings have: the table of the pieces, byte by byte. -/
def star (P : List It) (i : Nat) : Bool := match P[i]? with | some it => decide (it.1 = 3) | none => false
def takesAt (P : List It) (i : Nat) (c : UInt8) : Bool := match P[i]? with | some it => it.2.2 c | none => false
theorem star_lt {P : List It} {i : Nat} (h : star P i = true) : i < P.length := by
  unfold star at h
  cases hp : P[i]? with
  | none => rw [hp] at h; simp at h
  | some it => exact (List.getElem?_eq_some_iff.1 hp).1
/-- Behind which pieces one can be after k bytes. -/
def Ct (s : ByteArray) (P : List It) (k i : Nat) : Bool := dp s P i k || (star P i && dp s P (i + 1) k)
def passF (P : List It) (f : Nat → Bool) : Nat → Bool
  | 0 => f 0
  | i + 1 => f (i + 1) || (passF P f i && star P i)
def stepF (P : List It) (f : Nat → Bool) (c : UInt8) (i : Nat) : Bool := (f i && star P i) || (decide (0 < i) && f (i - 1) && !star P (i - 1) && takesAt P (i - 1) c)
theorem dp_star' {s : ByteArray} {P : List It} {i : Nat} (h : star P i = true) (k : Nat) : dp s P (i + 1) k = (dp s P i k || (decide (0 < k) && dp s P (i + 1) (k - 1))) := by
  unfold star at h
  cases hp : P[i]? with
  | none => rw [hp] at h; simp at h
  | some it => rw [hp] at h; exact dp_star hp (by simpa using h) k
theorem dp_step' {s : ByteArray} {P : List It} {i : Nat} (hi : i < P.length) (h : star P i = false) (k : Nat) : dp s P (i + 1) k = (decide (0 < k) && dp s P i (k - 1) && takesAt P i (gb s (k - 1))) := by
  unfold star at h
  have hp : P[i]? = some P[i] := List.getElem?_eq_getElem hi
  rw [hp] at h
  rw [dp_step hp (by simpa using h) k]
  unfold takesAt
  rw [hp]
theorem pass_start {s : ByteArray} {P : List It} : ∀ i, i ≤ P.length → passF P (fun j => decide (j = 0)) i = Ct s P 0 i := by
  have h : ∀ i, i ≤ P.length → passF P (fun j => decide (j = 0)) i = dp s P i 0 := by
    intro i
    induction i with
    | zero => intro _; rw [dp_zero]; rfl
    | succ i ih =>
      intro hi
      rw [passF, ih (by omega)]
      cases hst : star P i with
      | true => rw [dp_star' hst]; simp
      | false => rw [dp_step' (by omega) hst]; simp
  intro i hi
  rw [h i hi]
  unfold Ct
  cases hst : star P i with
  | false => simp
  | true => rw [dp_star' hst]; simp
theorem bool_step : ∀ a b x0 x1 x2 y0 y1 y2 t : Bool, (a = false → y1 = (x0 && t)) → (a = true → y1 = (y0 || x1)) → (b = true → y2 = (y1 || x2)) → (b = true → x1 = true → x2 = true) → (a = true → x0 = true → x1 = true) →
    (((x1 || (b && x2)) && b || (true && (x0 || (a && x1)) && !a && t)) || (y0 || (a && y1)) && a) = (y1 || (b && y2)) := by decide
theorem bool_zero : ∀ a x0 x1 y0 y1 : Bool, y0 = false → (a = true → y1 = (y0 || x1)) → (a = true → x0 = true → x1 = true) → ((x0 || (a && x1)) && a) = (y0 || (a && y1)) := by decide
theorem dp_more {s : ByteArray} {P : List It} {i : Nat} (h : star P i = true) (k : Nat) (hk : dp s P i k = true) : dp s P (i + 1) k = true := by
  rw [dp_star' h, hk]; rfl
theorem pass_step {s : ByteArray} {P : List It} (k : Nat) (f : Nat → Bool) (hf : ∀ i, i ≤ P.length → f i = Ct s P k i) : ∀ i, i ≤ P.length → passF P (stepF P f (gb s k)) i = Ct s P (k + 1) i := by
  intro i
  induction i with
  | zero =>
    intro _
    have h := bool_zero (star P 0) (dp s P 0 k) (dp s P 1 k) (dp s P 0 (k + 1)) (dp s P 1 (k + 1)) (by rw [dp_zero]; simp) (fun h => by rw [dp_star' h (k + 1)]; simp) (fun h h0 => dp_more h k h0)
    rw [passF]
    unfold stepF
    rw [hf 0 (by omega)]
    unfold Ct
    rw [← h]
    simp
  | succ m ih =>
    intro hi
    have h := bool_step (star P m) (star P (m + 1)) (dp s P m k) (dp s P (m + 1) k) (dp s P (m + 1 + 1) k) (dp s P m (k + 1)) (dp s P (m + 1) (k + 1)) (dp s P (m + 1 + 1) (k + 1)) (takesAt P m (gb s k))
      (fun h => by rw [dp_step' (by omega) h (k + 1)]; simp) (fun h => by rw [dp_star' h (k + 1)]; simp) (fun h => by rw [dp_star' h (k + 1)]; simp) (fun h h0 => dp_more h k h0) (fun h h0 => dp_more h k h0)
    rw [passF, ih (by omega)]
    unfold stepF
    rw [hf (m + 1) hi, Nat.add_sub_cancel, hf m (by omega)]
    unfold Ct
    rw [← h]
    simp
theorem Ct_end (s : ByteArray) (P : List It) (k : Nat) : Ct s P k P.length = dp s P P.length k := by
  unfold Ct
  have : star P P.length = false := by unfold star; rw [List.getElem?_eq_none (Nat.le_refl _)]
  rw [this]; simp
/-- Where there is no way left there is none later. -/
theorem Ct_none {s : ByteArray} {P : List It} {k : Nat} (h : ∀ i, i ≤ P.length → Ct s P k i = false) : ∀ j, k ≤ j → ∀ i, i ≤ P.length → Ct s P j i = false := by
  intro j hj
  induction j with
  | zero => obtain rfl : k = 0 := by omega
            exact h
  | succ j ih =>
    by_cases hk : k = j + 1
    · subst hk; exact h
    · have ih' := ih (by omega)
      intro i hi
      rw [← pass_step j (Ct s P j) (fun _ _ => rfl) i hi]
      have hz : ∀ i, i ≤ P.length → stepF P (Ct s P j) (gb s j) i = false := fun i hi => by
        unfold stepF
        rw [ih' i hi, ih' (i - 1) (by omega)]; simp
      have key : ∀ i, i ≤ P.length → passF P (stepF P (Ct s P j) (gb s j)) i = false := by
        intro i
        induction i with
        | zero => intro _; exact hz 0 (by omega)
        | succ i ihi => intro hi; rw [passF, ihi (by omega), hz (i + 1) hi]; rfl
      exact key i hi
/-- The lengths of the beginnings that match. -/
def ends (s : ByteArray) (P : List It) (k : Nat) : List Nat := (List.range k).filter fun j => dp s P P.length j
theorem ends_snoc (s : ByteArray) (P : List It) (k : Nat) : ends s P (k + 1) = ends s P k ++ (if dp s P P.length k then [k] else []) := by
  unfold ends
  rw [List.range_succ, List.filter_append]
  congr 1
  by_cases h : dp s P P.length k = true
  · simp [h]
  · simp [h]
theorem ends_stop {s : ByteArray} {P : List It} {k n : Nat} (h : ∀ j, k ≤ j → dp s P P.length j = false) (hk : k ≤ n) : ends s P n = ends s P k := by
  induction n with
  | zero => obtain rfl : k = 0 := by omega
            rfl
  | succ n ih =>
    by_cases he : k = n + 1
    · rw [he]
    · rw [ends_snoc, h n (by omega), ih (by omega)]; simp
end Go.Proofs.Ytpgaeldjiiaoiaa
