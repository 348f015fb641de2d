import Derived.Test.YtplhgjngbnkhbaaDoorV
namespace Go.Proofs.YtplhgjngbnkhbaaDoor
open Go.RowKit Ieee
set_option linter.unusedVariables false

/-- The word of a whole number. -/
def sw (n : Int) : Nat := wl (decide (n < 0)) n.natAbs
theorem sv_sw {n : Int} (h : n.natAbs < 9007199254740992) : sv (sw n) = n * (EE : Int) := by
  unfold sw
  rw [sv_wl h]
  generalize EE = E
  by_cases hn : n < 0
  · rw [decide_eq_true hn, if_pos rfl, Int.natCast_mul]
    have : ((n.natAbs : Nat) : Int) = -n := by omega
    rw [this, Int.neg_mul, Int.neg_neg]
  · rw [decide_eq_false hn, if_neg (by simp), Int.natCast_mul]
    have : ((n.natAbs : Nat) : Int) = n := by omega
    rw [this]
theorem wl_num {t : Nat} (ht : t < 9007199254740992) (s : Bool) : ∃ m a, Num (wl s t) m a ∧ m * 2 ^ a = t * EE := by
  obtain ⟨m, a, hn⟩ := num_of (wl_fin ht s)
  refine ⟨m, a, hn, ?_⟩
  rw [← hn.un, (wl_rg s t).1]
  exact (un_fl ht).1
theorem wl_nearest {t : Nat} (ht : t < 9007199254740992) (s : Bool) (M u : Nat) (P : Int) (c : Nat) (hc : EE = 2 ^ c) (hM : M * 2 ^ u = t * EE) (hP : P - (u : Int) = -1074) : D.nearest s M P = wl s t := by
  obtain ⟨m, a, hn, hv⟩ := wl_num ht s
  have h := nearest_val hn s M u a P (by rw [hM, hv]) (by omega)
  rw [h, (wl_rg s t).1]
  have := (fl_word (t := t) s)
  rw [this.1, Nat.mod_eq_of_lt this.2]
theorem sum_val (s t : Bool) (m n i j : Nat) (V : Int) (hV : V.natAbs < 9007199254740992) (h : signed s m i + signed t n j = V * (EE : Int)) (hz : V = 0 → (s && t) = false) :
    ((Datum.number s m (-1074 + (i : Int))).sum (.number t n (-1074 + (j : Int)))).map D.write = some (sw V) := by
  obtain ⟨c, hc, he⟩ := EE_pow
  simp only [Datum.sum, Option.map, Format.write]
  have e1 : (-1074 + (i : Int) - min (-1074 + (i : Int)) (-1074 + (j : Int))).toNat = i - min i j := by omega
  have e2 : (-1074 + (j : Int) - min (-1074 + (i : Int)) (-1074 + (j : Int))).toNat = j - min i j := by omega
  have e3 : min (-1074 + (i : Int)) (-1074 + (j : Int)) = -1074 + ((min i j : Nat) : Int) := by omega
  rw [e1, e2, e3]
  have f : ∀ (s : Bool) (k c : Nat), min i j ≤ c → signed s k (c - min i j) * ((2 ^ min i j : Nat) : Int) = signed s k c := by
    intro s k c hc
    have hp : k * 2 ^ (c - min i j) * 2 ^ min i j = k * 2 ^ c := by rw [Nat.mul_assoc, ← Nat.pow_add, Nat.sub_add_cancel hc]
    rw [signed_eq, signed_eq, ← hp]
    cases s <;> simp [Int.neg_mul]
  have g1 := f s m i (Nat.min_le_left _ _)
  have g2 := f t n j (Nat.min_le_right _ _)
  rw [← g1, ← g2, ← Int.add_mul] at h
  obtain ⟨T, hT⟩ : ∃ T, signed s m (i - min i j) + signed t n (j - min i j) = T := ⟨_, rfl⟩
  rw [hT] at h ⊢
  obtain ⟨q, hq⟩ : ∃ q, min i j = q := ⟨_, rfl⟩
  rw [hq] at h ⊢
  have hp : 0 < 2 ^ q := Nat.two_pow_pos q
  have hE := EE_pos
  have hEi : (0 : Int) < (EE : Int) := by exact_mod_cast hE
  have hpi : (0 : Int) < ((2 ^ q : Nat) : Int) := by exact_mod_cast hp
  have habs : T.natAbs * 2 ^ q = V.natAbs * EE := by
    have := congrArg Int.natAbs h
    rw [Int.natAbs_mul, Int.natAbs_mul, Int.natAbs_natCast, Int.natAbs_natCast] at this
    exact this
  have hlt : T < 0 ↔ V < 0 := by
    constructor
    · intro ht
      rcases (by omega : V < 0 ∨ 0 ≤ V) with hv | hv
      · exact hv
      · have h1 := Int.mul_neg_of_neg_of_pos ht hpi
        have h2 := Int.mul_nonneg hv (Int.le_of_lt hEi)
        omega
    · intro hv
      rcases (by omega : T < 0 ∨ 0 ≤ T) with ht | ht
      · exact ht
      · have h1 := Int.mul_neg_of_neg_of_pos hv hEi
        have h2 := Int.mul_nonneg ht (Int.le_of_lt hpi)
        omega
  have hzz : T = 0 ↔ V = 0 := by
    constructor
    · intro ht
      rw [ht, Int.zero_mul] at h
      rcases Int.mul_eq_zero.1 h.symm with h | h
      · exact h
      · omega
    · intro hv
      rw [hv, Int.zero_mul] at h
      rcases Int.mul_eq_zero.1 h with h | h
      · exact h
      · omega
  refine congrArg some ?_
  rw [wl_nearest hV _ _ q _ c he habs (by omega)]
  unfold sw
  refine congrArg (fun b => wl b V.natAbs) ?_
  by_cases h0 : T = 0
  · rw [if_pos h0, hz (hzz.1 h0), hzz.1 h0]; rfl
  · rw [if_neg h0, decide_eq_decide]; exact hlt
theorem add_sw {A B : Int} (hA : A.natAbs < 9007199254740992) (hB : B.natAbs < 9007199254740992) (h : (A + B).natAbs < 9007199254740992) : D.add (sw A) (sw B) = some (sw (A + B)) := by
  obtain ⟨m, i, h1⟩ := num_of (wl_fin hA (decide (A < 0)))
  obtain ⟨n, j, h2⟩ := num_of (wl_fin hB (decide (B < 0)))
  have v1 := sv_sw hA
  have v2 := sv_sw hB
  unfold sw at v1 v2
  rw [h1.val] at v1
  rw [h2.val] at v2
  unfold Format.add sw
  rw [h1.read, h2.read]
  refine sum_val _ _ m n i j (A + B) h (by rw [v1, v2, ← Int.add_mul]) (fun h0 => ?_)
  rw [(wl_rg _ _).2.1, (wl_rg _ _).2.1, Bool.and_eq_false_iff, decide_eq_false_iff_not, decide_eq_false_iff_not]
  omega
theorem sub_sw {A B : Int} (hA : A.natAbs < 9007199254740992) (hB : B.natAbs < 9007199254740992) (h : (A - B).natAbs < 9007199254740992) : D.sub (sw A) (sw B) = some (sw (A - B)) := by
  obtain ⟨m, i, h1⟩ := num_of (wl_fin hA (decide (A < 0)))
  obtain ⟨n, j, h2⟩ := num_of (wl_fin hB (decide (B < 0)))
  have v1 := sv_sw hA
  have v2 := sv_sw hB
  unfold sw at v1 v2
  rw [h1.val] at v1
  rw [h2.val] at v2
  have v3 : signed (!sg (wl (decide (B < 0)) B.natAbs)) n j = -(B * (EE : Int)) := by
    rw [← v2, signed_eq, signed_eq]
    cases sg (wl (decide (B < 0)) B.natAbs) <;> simp
  unfold Format.sub sw
  rw [h1.read, h2.read]
  refine sum_val _ _ m n i j (A - B) h (by rw [v1, v3, Int.sub_mul]; omega) (fun h0 => ?_)
  rw [(wl_rg _ _).2.1, (wl_rg _ _).2.1, Bool.and_eq_false_iff, Bool.not_eq_false', decide_eq_false_iff_not, decide_eq_true_iff]
  omega
theorem mul_wl {s t : Bool} {a b : Nat} (ha : a < 9007199254740992) (hb : b < 9007199254740992) (h : a * b < 9007199254740992) : D.mul (wl s a) (wl t b) = some (wl (s ^^ t) (a * b)) := by
  obtain ⟨m, i, h1, v1⟩ := wl_num ha s
  obtain ⟨n, j, h2, v2⟩ := wl_num hb t
  obtain ⟨c, hc, he⟩ := EE_pow
  unfold Format.mul
  rw [h1.read, h2.read]
  simp only [Datum.product, Option.map, Format.write]
  rw [(wl_rg _ _).2.1, (wl_rg _ _).2.1]
  obtain ⟨k, p, h3, v3⟩ := wl_num h (s ^^ t)
  have hv : m * n * 2 ^ (i + j) = k * 2 ^ (p + c) := by
    rw [Nat.pow_add, Nat.pow_add, ← he, ← Nat.mul_assoc k, v3, Nat.mul_mul_mul_comm, v1, v2, Nat.mul_mul_mul_comm, ← Nat.mul_assoc]
  have hh := nearest_val h3 (s ^^ t) (m * n) (i + j) (p + c) (-1074 + (i : Int) + (-1074 + (j : Int))) hv (by omega)
  rw [hh, (wl_rg _ _).1]
  have := (fl_word (t := a * b) (s ^^ t))
  rw [this.1, Nat.mod_eq_of_lt this.2]
theorem order_sw {A B : Int} (hA : A.natAbs < 9007199254740992) (hB : B.natAbs < 9007199254740992) : D.order (sw A) (sw B) = some (compare A B) := by
  have n1 : nanB (sw A) = false := nan_fin (wl_fin hA _)
  have n2 : nanB (sw B) = false := nan_fin (wl_fin hB _)
  rw [order_some n1 n2, sv_sw hA, sv_sw hB, compare_scale _ _ _ EE_pos]
end Go.Proofs.YtplhgjngbnkhbaaDoor
