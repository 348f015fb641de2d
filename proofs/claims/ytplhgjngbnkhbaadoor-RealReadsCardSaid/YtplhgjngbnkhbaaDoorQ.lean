import Derived.Test.YtplhgjngbnkhbaaDoorF
import Derived.Lib.ItoaNum
namespace Go.Proofs.YtplhgjngbnkhbaaDoor
open Ieee
set_option linter.unusedVariables false

/-! Whole parts. -/
theorem EE_pos : 0 < EE := Nat.two_pow_pos _
/-- The whole part of a number, its sign left out. -/
def tr (x : Nat) : Nat := un (rg x) / EE
theorem log2_shift_div (n drop : Nat) : n / (1 <<< min drop (n.log2 + 2)) = n / 2 ^ drop := by
  rw [Nat.shiftLeft_eq, Nat.one_mul]
  by_cases h : drop ≤ n.log2 + 2
  · rw [Nat.min_eq_left h]
  · rw [Nat.min_eq_right (by omega)]
    have h1 : n < 2 ^ (n.log2 + 1) := Nat.lt_log2_self
    have h2 : n < 2 ^ (n.log2 + 2) := Nat.lt_of_lt_of_le h1 (Nat.pow_le_pow_right (by omega) (by omega))
    have h3 : n < 2 ^ drop := Nat.lt_of_lt_of_le h1 (Nat.pow_le_pow_right (by omega) (by omega))
    rw [Nat.div_eq_of_lt h2, Nat.div_eq_of_lt h3]
theorem cut_floor (s : Bool) (n drop : Nat) : Toward.zero.cut s n drop = n / 2 ^ drop := by
  unfold Toward.cut
  simp only [Bool.toNat_false, Nat.add_zero]
  exact log2_shift_div n drop
theorem integral_num {x : Nat} (h : rg x < 9218868437227405312) : (D.read x).integral .zero = .number (sg x) (tr x) 0 := by
  obtain ⟨m, a, hn⟩ := num_of h
  obtain ⟨c, hc, he⟩ := EE_pow
  rw [hn.read]
  simp only [Datum.integral]
  rw [cut_floor, Nat.shiftLeft_eq]
  refine congrArg (fun t => Datum.number (sg x) t 0) ?_
  unfold tr
  rw [hn.un, he]
  by_cases hac : a ≤ c
  · rw [show (-1074 + (a : Int)).toNat = 0 by omega, show (-(-1074 + (a : Int))).toNat = c - a by omega, Nat.pow_zero, Nat.mul_one]
    obtain ⟨d, hd⟩ := Nat.exists_eq_add_of_le hac
    rw [hd, Nat.add_sub_cancel_left, Nat.pow_add, Nat.mul_comm (2 ^ a), Nat.mul_div_mul_right _ _ (Nat.two_pow_pos a)]
  · obtain ⟨d, hd⟩ := Nat.exists_eq_add_of_le (Nat.le_of_not_le hac)
    rw [show (-1074 + (a : Int)).toNat = d by omega, show (-(-1074 + (a : Int))).toNat = 0 by omega, Nat.pow_zero, Nat.div_one, hd, Nat.add_comm c d, Nat.pow_add, ← Nat.mul_assoc, Nat.mul_div_cancel _ (Nat.two_pow_pos c)]
theorem toInt_num {x : Nat} (h : rg x < 9218868437227405312) : (D.read x).toInt .zero = some (if sg x then -(tr x : Int) else (tr x : Int)) := by
  unfold Datum.toInt
  rw [integral_num h]
  simp only
  rw [signed_eq]
  simp
/-- The word of a whole number with a sign. -/
def wl (s : Bool) (t : Nat) : Nat := D.nearest s t 0
theorem fl_word {t : Nat} (s : Bool) : wl s t = D.word s (fl t % 9223372036854775808) ∧ fl t < 9223372036854775808 := by
  obtain ⟨r, hr, he, hs⟩ := nearest_word false t 0
  have h1 : fl t = r := by unfold fl; rw [he, word_val]; simp
  have h2 : wl s t = D.word s r := hs s
  have h3 : r < 9223372036854775808 := by omega
  rw [h1, h2, Nat.mod_eq_of_lt h3]
  exact ⟨rfl, h3⟩
theorem wl_rg (s : Bool) (t : Nat) : rg (wl s t) = fl t ∧ sg (wl s t) = s ∧ wl s t < 18446744073709551616 := by
  obtain ⟨h1, h2⟩ := fl_word (t := t) s
  rw [Nat.mod_eq_of_lt h2] at h1
  rw [h1]
  exact ⟨rg_word s h2, sg_word s h2, word_lt s h2⟩
theorem un_fl {t : Nat} (ht : t < 9007199254740992) : un (fl t) = t * EE ∧ fl t < 9218868437227405312 := by
  obtain ⟨m, a, hn, hv, hs, hl⟩ := fl_num ht
  have hr : rg (fl t) = fl t := by unfold rg; omega
  have h1 := hn.un
  have h2 := hn.fin
  rw [hr] at h1 h2
  exact ⟨h1.trans hv, h2⟩
theorem sv_wl {t : Nat} (ht : t < 9007199254740992) (s : Bool) : sv (wl s t) = if s then -((t * EE : Nat) : Int) else ((t * EE : Nat) : Int) := by
  obtain ⟨h1, h2, _⟩ := wl_rg s t
  unfold sv
  rw [h1, h2, (un_fl ht).1]
theorem nan_fin {x : Nat} (h : rg x < 9218868437227405312) : nanB x = false := by unfold nanB; rw [decide_eq_false_iff_not]; omega
theorem wl_fin {t : Nat} (ht : t < 9007199254740992) (s : Bool) : rg (wl s t) < 9218868437227405312 := by rw [(wl_rg s t).1]; exact (un_fl ht).2
/-- Is it whole? -/
def whole (x : Nat) : Bool := decide (un (rg x) = tr x * EE)
theorem cmp_eq_iff {a b : Int} : (some (compare a b) == some Ordering.eq) = decide (a = b) := by
  rcases Int.lt_trichotomy a b with h | h | h
  · rw [cmp_lt h, decide_eq_false (by omega)]; rfl
  · subst h; rw [cmp_eq, decide_eq_true rfl]; rfl
  · rw [cmp_gt h, decide_eq_false (by omega)]; rfl
theorem cmp_lt_iff {a b : Int} : (some (compare a b) == some Ordering.lt) = decide (a < b) := by
  rcases Int.lt_trichotomy a b with h | h | h
  · rw [cmp_lt h, decide_eq_true h]; rfl
  · subst h; rw [cmp_eq, decide_eq_false (by omega)]; rfl
  · rw [cmp_gt h, decide_eq_false (by omega)]; rfl
theorem cmp_gt_iff {a b : Int} : (some (compare a b) == some Ordering.gt) = decide (b < a) := by
  rcases Int.lt_trichotomy a b with h | h | h
  · rw [cmp_lt h, decide_eq_false (by omega)]; rfl
  · subst h; rw [cmp_eq, decide_eq_false (by omega)]; rfl
  · rw [cmp_gt h, decide_eq_true h]; rfl
theorem whole_eq {x : Nat} (h : rg x < 9218868437227405312) (ht : tr x < 9007199254740992) (s : Bool) (hs : s = sg x ∨ tr x = 0) : (D.order x (wl s (tr x)) == some .eq) = whole x := by
  rw [order_some (nan_fin h) (nan_fin (wl_fin ht s)), cmp_eq_iff, sv_wl ht]
  unfold whole sv
  rw [decide_eq_decide]
  rcases hs with rfl | h0
  · cases sg x
    · simp only [Bool.false_eq_true, if_false]; omega
    · simp only [if_true]; omega
  · rw [h0, Nat.zero_mul]
    cases sg x <;> cases s <;> simp
/-- Below ten to the fifteenth. -/
def small (x : Nat) : Bool := decide (un (rg x) < 1000000000000000 * EE)
theorem small_tr {x : Nat} (h : small x = true) : tr x < 1000000000000000 := by
  unfold small at h
  rw [decide_eq_true_iff] at h
  unfold tr
  exact (Nat.div_lt_iff_lt_mul EE_pos).2 h
theorem small_fin {x : Nat} (h0 : nanB x = false) (h : small x = true) : rg x < 9218868437227405312 := by
  unfold nanB at h0
  rw [decide_eq_false_iff_not] at h0
  rcases Nat.lt_or_ge (rg x) 9218868437227405312 with h1 | h1
  · exact h1
  · exfalso
    have h2 : rg x = 9218868437227405312 := by omega
    unfold small at h
    rw [decide_eq_true_iff, h2] at h
    have h3 := (un_fl (t := 1000000000000000) (by omega)).1
    have h4 := (un_fl (t := 1000000000000000) (by omega)).2
    rw [← h3] at h
    have := un_mono h4
    omega
theorem wl_ten (s : Bool) : wl s 1000000000000000 = if s then 14054727237768577024 else 4831355200913801216 := by cases s <;> decide +kernel
theorem small_cmp {x : Nat} (h : nanB x = false) : ((D.order 14054727237768577024 x == some .lt) && (D.order x 4831355200913801216 == some .lt)) = small x := by
  have e1 := wl_ten true
  have e2 := wl_ten false
  simp only [if_true, Bool.false_eq_true, if_false] at e1 e2
  have t1 : (1000000000000000 : Nat) < 9007199254740992 := by omega
  rw [← e1, ← e2, order_some (nan_fin (wl_fin t1 true)) h, order_some h (nan_fin (wl_fin t1 false)), cmp_lt_iff, cmp_lt_iff, sv_wl t1, sv_wl t1]
  unfold small sv
  rw [Bool.eq_iff_iff, Bool.and_eq_true, decide_eq_true_iff, decide_eq_true_iff, decide_eq_true_iff]
  simp only [if_true, Bool.false_eq_true, if_false]
  generalize 1000000000000000 * EE = N
  generalize un (rg x) = u
  cases sg x
  · simp only [Bool.false_eq_true, if_false]; omega
  · simp only [if_true]; omega

abbrev Bs := List UInt8
/-! Digits of base sixteen. -/
def hexDig (d : Nat) : UInt8 := if d < 10 then UInt8.ofNat (48 + d) else UInt8.ofNat (87 + d)
/-- The digits, as few as can be. -/
def hexN (u : Nat) : Bs := if h : u < 16 then [hexDig u] else hexN (u / 16) ++ [hexDig (u % 16)]
termination_by u
decreasing_by omega
/-- k digits. -/
def hx : Nat → Nat → Bs
  | 0, _ => []
  | k + 1, x => hx k (x / 16) ++ [hexDig (x % 16)]
theorem hx_len : ∀ k x, (hx k x).length = k
  | 0, _ => rfl
  | k + 1, x => by simp [hx, hx_len k]
theorem hexN_pos (u : Nat) : 1 ≤ (hexN u).length := by
  rw [hexN]; split <;> simp
theorem hx_zero : ∀ k, hx k 0 = List.replicate k 48
  | 0 => rfl
  | k + 1 => by
    rw [hx, Nat.zero_div, hx_zero k, List.replicate_succ']; rfl
theorem hexN_pad : ∀ (k u : Nat), u < 16 ^ (k + 1) → (hexN u).length ≤ k + 1 ∧ List.replicate (k + 1 - (hexN u).length) 48 ++ hexN u = hx (k + 1) u
  | k, u, hu => by
    by_cases h : u < 16
    · rw [hexN, dif_pos h]
      refine ⟨by simp, ?_⟩
      rw [hx, Nat.div_eq_of_lt h, Nat.mod_eq_of_lt h, hx_zero]
      simp
    · cases k with
      | zero => simp at hu; omega
      | succ k =>
        rw [Nat.pow_succ] at hu
        obtain ⟨h1, h2⟩ := hexN_pad k (u / 16) (by omega)
        rw [hexN, dif_neg h]
        refine ⟨by simp; omega, ?_⟩
        rw [hx, ← h2, List.length_append, List.length_singleton, ← List.append_assoc, show k + 1 + 1 - ((hexN (u / 16)).length + 1) = k + 1 - (hexN (u / 16)).length by omega]
theorem hx_get : ∀ (k x j : Nat) (h : j < k), (hx k x)[j]? = some (hexDig (x / 16 ^ (k - 1 - j) % 16))
  | k + 1, x, j, h => by
    rw [hx]
    by_cases hj : j < k
    · rw [List.getElem?_append_left (by rw [hx_len]; exact hj), hx_get k (x / 16) j hj, Nat.div_div_eq_div_mul, ← Nat.pow_succ', show (k - 1 - j).succ = k + 1 - 1 - j by omega]
    · obtain rfl : j = k := by omega
      rw [List.getElem?_append_right (by rw [hx_len]; exact Nat.le_refl _), hx_len, Nat.sub_self, show j + 1 - 1 - j = 0 by omega]
      simp
/-- The value of a digit; 16: none. -/
def hv (c : UInt8) : Nat := if 48 ≤ c.toNat ∧ c.toNat ≤ 57 then c.toNat - 48 else if 97 ≤ c.toNat ∧ c.toNat ≤ 102 then c.toNat - 87 else 16
def hval (l : Bs) : Nat := l.foldl (fun n c => n * 16 + hv c) 0
theorem hval_snoc (l : Bs) (c : UInt8) : hval (l ++ [c]) = hval l * 16 + hv c := by simp [hval]
theorem hv_dig : ∀ d : Fin 16, hv (hexDig d.val) = d.val := by decide
theorem hval_hx : ∀ (k x : Nat), x < 16 ^ k → hval (hx k x) = x
  | 0, x, h => by simp at h; subst h; rfl
  | k + 1, x, h => by
    rw [Nat.pow_succ] at h
    have h1 := hval_hx k (x / 16) (by omega)
    have h2 : hv (hexDig (x % 16)) = x % 16 := hv_dig ⟨x % 16, Nat.mod_lt _ (by omega)⟩
    rw [hx, hval_snoc, h1, h2]
    omega
theorem hval_lt : ∀ l : Bs, (∀ c ∈ l, hv c < 16) → hval l < 16 ^ l.length := by
  intro l
  obtain ⟨n, hn⟩ : ∃ n, l.length = n := ⟨_, rfl⟩
  induction n generalizing l with
  | zero => intro _; rw [List.length_eq_zero_iff.1 hn]; simp [hval]
  | succ n ih =>
    intro h
    have hne : l ≠ [] := by intro e; rw [e] at hn; simp at hn
    have hl := List.dropLast_concat_getLast hne
    have h1 := ih l.dropLast (by rw [List.length_dropLast, hn]; rfl) (fun d hd => h d (List.dropLast_subset l hd))
    have h2 := h _ (List.getLast_mem hne)
    rw [List.length_dropLast, hn, Nat.add_sub_cancel] at h1
    rw [hn, ← hl, hval_snoc, Nat.pow_succ]
    omega
theorem hexDig_hv (d : Nat) (h : d < 16) : hv (hexDig d) < 16 := by
  have := hv_dig ⟨d, h⟩
  simp at this
  omega
theorem hx_hv : ∀ (k x : Nat), ∀ c ∈ hx k x, hv c < 16
  | 0, _, c, h => by simp [hx] at h
  | k + 1, x, c, h => by
    rw [hx] at h
    rcases List.mem_append.1 h with h | h
    · exact hx_hv k _ c h
    · simp at h; rw [h]; exact hexDig_hv _ (Nat.mod_lt _ (by omega))
end Go.Proofs.YtplhgjngbnkhbaaDoor
