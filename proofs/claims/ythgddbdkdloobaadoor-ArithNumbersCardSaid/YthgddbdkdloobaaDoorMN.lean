import Derived.Test.YthgddbdkdloobaaDoorMM
namespace Go.Proofs.YthgddbdkdloobaaDoor
open Go.RowKit
set_option linter.unusedVariables false

/-! What written expressions come to. -/
def opsL : List Bs := [[124, 124], [38, 38], [124], [94], [38], [61, 61], [33, 61], [60], [60, 61], [62], [62, 61], [60, 60], [62, 62], [43], [45], [42], [47], [37]]
theorem op_facts : ∀ op ∈ opsL, op ≠ [] ∧ opL op = op ∧ isBl (op.headD 0) = false ∧ 1 ≤ lv op ∧ isDig (op.headD 0) = false ∧ isLet (op.headD 0) = false := by decide
theorem head_app {a : Bs} (h : a ≠ []) (t : Bs) : (a ++ t).headD 0 = a.headD 0 := by
  cases a with
  | nil => exact absurd rfl h
  | cons c u => rfl
theorem skp_head {a : Bs} (h : a ≠ []) (hb : isBl (a.headD 0) = false) (t : Bs) : skp (a ++ t) = a ++ t := by
  cases a with
  | nil => exact absurd rfl h
  | cons c u =>
    simp only [List.headD_cons] at hb
    unfold skp
    rw [List.cons_append, List.dropWhile_cons, hb]
    rfl
theorem op_app {op t : Bs} (h : op ∈ opsL) (ht : tailT t) : opL (op ++ t) = op ∧ skp (op ++ t) = op ++ t := by
  obtain ⟨h1, h2, h3, _⟩ := op_facts op h
  exact ⟨(opL_app h1 ht).trans h2, skp_head h1 h3 t⟩
theorem op_sep {op : Bs} (h : op ∈ opsL) (t : Bs) : sepT (op ++ t) := by
  obtain ⟨h1, h2, h3, h4, h5, h6⟩ := op_facts op h
  intro c u e
  have := head_app h1 t
  rw [e, List.headD_cons] at this
  rw [this]
  exact ⟨h5, h6⟩
theorem skp_g {g : Bs} (hg : ∀ c ∈ g, isBl c = true) (r : Bs) : skp (g ++ r) = skp r := by
  induction g with
  | nil => rfl
  | cons c g ih =>
    have h := hg c (List.mem_cons_self ..)
    have ih' := ih (fun c hc => hg c (List.mem_cons_of_mem _ hc))
    unfold skp at ih' ⊢
    rw [List.cons_append, List.dropWhile_cons, h]
    exact ih'
section
variable {V : Bs → Option Int}
theorem E_pre_g {g : Bs} (hg : ∀ c ∈ g, isBl c = true) {r : Bs} {z : Bool} {d : Nat} : E false V .pre (g ++ r) z d = E false V .pre r z d := by
  rw [E_pre, E_pre (r := r), skp_g hg]
theorem E_bin_g {g : Bs} (hg : ∀ c ∈ g, isBl c = true) {l : Nat} (hl : 1 ≤ l) {r : Bs} {z : Bool} {d : Nat} : E false V (.bin l) (g ++ r) z d = E false V (.bin l) r z d := by
  rw [E_bin hl, E_bin hl, E_pre_g hg]
theorem E_loop_op {l : Nat} {v : Int} {g op t : Bs} {z : Bool} {d : Nat} (hl : 1 ≤ l) (hg : ∀ c ∈ g, isBl c = true) (hop : op ∈ opsL) (hlv : l ≤ lv op) (ht : tailT t) :
    E false V (.loop l v) (g ++ (op ++ t)) z d = match E false V (.bin (lv op + 1)) t z d with
      | .error e => .error e
      | .ok (b, r', z1) => E false V (.loop l (ap op v b).1) r' (z1 || (ap op v b).2) d := by
  obtain ⟨h1, h2⟩ := op_app hop ht
  rw [E_loop hl, skp_g hg, h2, h1, if_neg (by omega), List.drop_left]
  rfl
theorem E_loop_low {l : Nat} {v : Int} {op t : Bs} {z : Bool} {d : Nat} (hl : 1 ≤ l) (hop : op ∈ opsL) (hlv : lv op < l) (ht : tailT t) :
    E false V (.loop l v) (op ++ t) z d = .ok (v, op ++ t, z) := by
  obtain ⟨h1, h2⟩ := op_app hop ht
  rw [E_loop hl, h2, h1, if_pos hlv]
theorem E_loop_end {l : Nat} {v : Int} {t : Bs} {z : Bool} {d : Nat} (hl : 1 ≤ l) (ht : closes t) : E false V (.loop l v) t z d = .ok (v, t, z) := by
  rw [E_loop hl, ht.skp, if_pos (by rw [ht.op.1]; omega)]
/-- What is read whole, whatever stands behind. -/
def Atom (V : Bs → Option Int) (d : Nat) (P : Bs) (a : Int) (f : Bool) : Prop := ∀ t z, sepT t → E false V .pre (P ++ t) z d = .ok (a, t, z || f)
theorem dig_stuck {X : Bs} (h0 : X ≠ []) (hd : ∀ c ∈ X, isDig c = true) (t : Bs) : stuck (X ++ t) := by
  cases X with
  | nil => exact absurd rfl h0
  | cons c u => exact ⟨c, u ++ t, rfl, .inr (hd c (List.mem_cons_self ..))⟩
theorem tw_all {p : UInt8 → Bool} : ∀ {l : Bs}, (∀ c ∈ l, p c = true) → l.takeWhile p = l
  | [], _ => rfl
  | c :: l, h => by
    rw [List.takeWhile_cons, if_pos (h c (List.mem_cons_self ..)), tw_all (fun x hx => h x (List.mem_cons_of_mem _ hx))]
theorem digL_all {X : Bs} (hd : ∀ c ∈ X, isDig c = true) : digL X = X.length := by unfold digL; rw [tw_all hd]
theorem atom_dig {X : Bs} {d : Nat} (h0 : X ≠ []) (hd : ∀ c ∈ X, isDig c = true) : Atom V d X (num X) false := by
  intro t z ht
  obtain ⟨s1, s2, s3⟩ := stuck_ops (dig_stuck h0 hd t)
  rw [E_pre, s1, s2, if_neg (by decide), E_opd, digL_app ht, digL_all hd, if_pos (List.length_pos_iff.2 h0), List.take_left, List.drop_left, Bool.or_false]
theorem atom_name {N : Bs} {d : Nat} {v : Int} (h0 : 0 < nmL N) (h1 : nmL N = N.length) (h60 : N.length ≤ 60) (hv : V N = some v) : Atom V d N v false := by
  intro t z ht
  have hst : stuck (N ++ t) := by
    cases N with
    | nil => simp [nmL] at h0
    | cons c u =>
      refine ⟨c, u ++ t, rfl, .inl ?_⟩
      simp only [nmL] at h0
      by_cases hc : isLet c = true
      · exact hc
      · rw [if_neg hc] at h0; omega
  have hdg : digL (N ++ t) = 0 := by
    cases N with
    | nil => simp [nmL] at h0
    | cons c u =>
      simp only [nmL] at h0
      by_cases hc : isLet c = true
      · have : isDig c = false := by
          simp only [isLet, isDig, decide_eq_true_eq, decide_eq_false_iff_not] at hc ⊢
          omega
        simp [digL, this]
      · rw [if_neg hc] at h0; omega
  obtain ⟨s1, s2, s3⟩ := stuck_ops hst
  rw [E_pre, s1, s2, if_neg (by decide), E_opd, hdg, if_neg (by omega), nmL_app ht, if_pos h0, h1, show min N.length 60 = N.length by omega, List.take_left, List.drop_left, hv]
  simp
theorem atom_par {S : Bs} {d : Nat} {v : Int} {f : Bool} (hd : d < 40) (h : ∀ t z, E false V (.bin 1) (S ++ 41 :: t) z (d + 1) = .ok (v, 41 :: t, z || f)) : Atom V d (40 :: (S ++ [41])) v f := by
  intro t z _
  have e : 40 :: (S ++ [41]) ++ t = 40 :: (S ++ 41 :: t) := by simp
  have h1 : skp (40 :: (S ++ 41 :: t)) = 40 :: (S ++ 41 :: t) := rfl
  have h2 : opL (40 :: (S ++ 41 :: t)) = [40] := by
    unfold opL
    rw [if_neg (by rw [two_first (by decide)]; simp)]
    rfl
  have h3 : digL (40 :: (S ++ 41 :: t)) = 0 := by unfold digL; rw [List.takeWhile_cons, if_neg (by decide)]; rfl
  have h4 : nmL (40 :: (S ++ 41 :: t)) = 0 := by
    have hl : isLet 40 = false := by decide
    simp [nmL, hl]
  rw [e, E_pre, h1, h2, if_neg (by decide), E_opd, h3, h4, if_neg (by omega), if_neg (by omega), if_pos (List.headD_cons ..), if_neg (by omega), List.drop_succ_cons, List.drop_zero, h]
  simp only [show skp (41 :: t) = 41 :: t from rfl, opL_close, if_true]
  rfl
theorem bin_atom {P : Bs} {a : Int} {f : Bool} {l d : Nat} (h : Atom V d P a f) (hl : 1 ≤ l) {t : Bs} (ht : closes t) (z : Bool) : E false V (.bin l) (P ++ t) z d = .ok (a, t, z || f) := by
  rw [E_bin hl, h t z ht.sep]
  exact E_loop_end hl ht
theorem bin2 {P Q op g : Bs} {a b : Int} {f f2 : Bool} {l d : Nat} (hP : Atom V d P a f) (hQ : Atom V d Q b f2) (hop : op ∈ opsL) (hl : 1 ≤ l) (hlv : l ≤ lv op) (hg : ∀ c ∈ g, isBl c = true)
    (hsep : sepT (g ++ (op ++ (g ++ Q)))) (htl : ∀ t, tailT (g ++ (Q ++ t))) {t : Bs} (ht : closes t) (z : Bool) :
    E false V (.bin l) (P ++ (g ++ (op ++ (g ++ (Q ++ t))))) z d = .ok ((ap op a b).1, t, ((z || f) || f2) || (ap op a b).2) := by
  have hs2 : sepT (g ++ (op ++ (g ++ (Q ++ t)))) := by
    intro c u e
    have h1 := (op_facts op hop).1
    cases g with
    | nil =>
      exact op_sep hop _ c u e
    | cons x g =>
      cases e
      exact hsep c _ rfl
  rw [E_bin hl, hP _ z hs2]
  simp only []
  rw [E_loop_op hl hg hop hlv (htl t), E_bin_g hg (by omega), bin_atom hQ (by omega) ht]
  exact E_loop_end hl ht
/-- Three, and the operators between them. -/
theorem plain3 {P Q R p q : Bs} {a b c : Int} {d : Nat} (hP : Atom V d P a false) (hQ : Atom V d Q b false) (hR : Atom V d R c false) (hp : p ∈ opsL) (hq : q ∈ opsL) (tQ : ∀ t, tailT (Q ++ t)) (tR : ∀ t, tailT (R ++ t)) (z : Bool) :
    E false V (.bin 1) (P ++ (p ++ (Q ++ (q ++ (R ++ []))))) z d = .ok (if lv p < lv q then ((ap p a (ap q b c).1).1, [], (z || (ap q b c).2) || (ap p a (ap q b c).1).2) else ((ap q (ap p a b).1 c).1, [], (z || (ap p a b).2) || (ap q (ap p a b).1 c).2)) := by
  have l1 := (op_facts p hp).2.2.2.1
  have l2 := (op_facts q hq).2.2.2.1
  have hn : closes ([] : Bs) := .inl rfl
  have nog : ∀ c ∈ ([] : Bs), isBl c = true := by intro c hc; cases hc
  rw [E_bin (Nat.le_refl 1), hP _ z (op_sep hp _)]
  simp only []
  rw [← List.nil_append (p ++ _), E_loop_op (Nat.le_refl 1) nog hp l1 (tQ _), E_bin (by omega), hQ _ _ (op_sep hq _)]
  simp only []
  by_cases h : lv p < lv q
  · rw [if_pos h, ← List.nil_append (q ++ _), E_loop_op (by omega) nog hq (by omega) (tR _), bin_atom hR (by omega) hn]
    simp only []
    rw [E_loop_end (by omega) hn]
    simp only []
    rw [E_loop_end (by omega) hn]
    simp
  · rw [if_neg h, E_loop_low (by omega) hq (by omega) (tR _)]
    simp only []
    rw [← List.nil_append (q ++ _), E_loop_op (by omega) nog hq (by omega) (tR _), bin_atom hR (by omega) hn]
    simp only []
    rw [E_loop_end (by omega) hn]
    simp
/-! Parentheses, one within the other. -/
def nest (X : Bs) : Nat → Bs
  | 0 => X
  | n + 1 => 40 :: (nest X n ++ [41])
theorem atom_nest {X : Bs} {a : Int} (h : ∀ d, Atom V d X a false) : ∀ n d, d + n ≤ 40 → Atom V d (nest X n) a false
  | 0, d, _ => h d
  | n + 1, d, hd => by
    have ih := atom_nest h n (d + 1) (by omega)
    refine atom_par (by omega) (fun t z => ?_)
    exact bin_atom ih (Nat.le_refl 1) (.inr ⟨t, rfl⟩) z
theorem nest_deep {X : Bs} : ∀ n d t z, d ≤ 40 → 40 < d + n → E false V .pre (nest X n ++ t) z d = .error 3
  | 0, d, t, z, h1, h2 => by omega
  | n + 1, d, t, z, h1, h2 => by
    have e : nest X (n + 1) ++ t = 40 :: (nest X n ++ 41 :: t) := by simp [nest]
    have h1' : skp (40 :: (nest X n ++ 41 :: t)) = 40 :: (nest X n ++ 41 :: t) := rfl
    have h2' : opL (40 :: (nest X n ++ 41 :: t)) = [40] := by
      unfold opL
      rw [if_neg (by rw [two_first (by decide)]; simp)]
      rfl
    have h3 : digL (40 :: (nest X n ++ 41 :: t)) = 0 := by unfold digL; rw [List.takeWhile_cons, if_neg (by decide)]; rfl
    have h4 : nmL (40 :: (nest X n ++ 41 :: t)) = 0 := by
      have hl : isLet 40 = false := by decide
      simp [nmL, hl]
    rw [e, E_pre, h1', h2', if_neg (by decide), E_opd, h3, h4, if_neg (by omega), if_neg (by omega), if_pos (List.headD_cons ..)]
    by_cases hd : d = 40
    · rw [if_pos hd]
    · rw [if_neg hd, List.drop_succ_cons, List.drop_zero, E_bin (Nat.le_refl 1), nest_deep n (d + 1) _ z (by omega) (by omega)]
/-! Signs ahead. -/
def unAllM (os : Bs) (v : Int) : Int := os.foldr un v
theorem signs_pre {X : Bs} {a : Int} {d : Nat} (hX : Atom V d X a false) (tX : ∀ t, tailT (X ++ t)) : ∀ (os : Bs), (∀ o ∈ os, o = 43 ∨ o = 45 ∨ o = 33 ∨ o = 126) → ∀ z t, sepT t → E false V .pre (os ++ (X ++ t)) z d = .ok (unAllM os a, t, z)
  | [], _, z, t, ht => by rw [List.nil_append, hX t z ht, Bool.or_false]; rfl
  | o :: os, h, z, t, ht => by
    have ih := signs_pre hX tX os (fun x hx => h x (List.mem_cons_of_mem _ hx)) z t ht
    have ho := h o (List.mem_cons_self ..)
    have htl : tailT (os ++ (X ++ t)) := by
      cases os with
      | nil => exact tX t
      | cons x os =>
        intro c u e
        injection e with e1 e2
        subst e1
        rcases h x (by simp) with rfl | rfl | rfl | rfl <;> decide
    have h1 : opL (o :: (os ++ (X ++ t))) = [o] := by
      have := opL_app (r := [o]) (by simp) htl
      rw [List.singleton_append] at this
      rw [this]
      rcases ho with rfl | rfl | rfl | rfl <;> decide
    have h2 : skp (o :: (os ++ (X ++ t))) = o :: (os ++ (X ++ t)) := by
      unfold skp
      rw [List.dropWhile_cons]
      rcases ho with rfl | rfl | rfl | rfl <;> rfl
    have h3 : isUn [o] = true := by rcases ho with rfl | rfl | rfl | rfl <;> decide
    rw [List.cons_append, E_pre, h2, h1, if_pos h3, List.drop_succ_cons, List.drop_zero, ih]
    rfl
end
end Go.Proofs.YthgddbdkdloobaaDoor
