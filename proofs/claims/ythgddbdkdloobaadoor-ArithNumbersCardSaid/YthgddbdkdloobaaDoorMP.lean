import Derived.Test.YthgddbdkdloobaaDoorMN
namespace Go.Proofs.YthgddbdkdloobaaDoor
open Go.RowKit
set_option linter.unusedVariables false

/-! Numbers in ten digits. -/
def dcl (u : Nat) : Bs := if h : u < 10 then [UInt8.ofNat (48 + u)] else dcl (u / 10) ++ [UInt8.ofNat (48 + u % 10)]
termination_by u
decreasing_by omega
/-- A number, with its sign. -/
def itl (n : Int) : Bs := if n < 0 then 45 :: dcl n.natAbs else dcl n.natAbs
theorem dcl_small {n : Nat} (h : n < 10) : dcl n = [UInt8.ofNat (48 + n)] := by rw [dcl, dif_pos h]
theorem dcl_big {n : Nat} (h : ¬ n < 10) : dcl n = dcl (n / 10) ++ [UInt8.ofNat (48 + n % 10)] := by rw [dcl, dif_neg h]
theorem dcl_len : ∀ (k n : Nat), n < 10 ^ (k + 1) → (dcl n).length ≤ k + 1
  | k, n, h => by
    by_cases h9 : n < 10
    · rw [dcl_small h9]; simp
    · rw [dcl_big h9]
      cases k with
      | zero => simp at h; omega
      | succ k =>
        rw [Nat.pow_succ] at h
        have := dcl_len k (n / 10) (by omega)
        simp; omega
theorem dcl_dig (n : Nat) : ∀ c ∈ dcl n, isDig c = true := by
  induction n using Nat.strongRecOn with
  | _ n ih =>
    have hd : ∀ k : Fin 10, isDig (UInt8.ofNat (48 + k.val)) = true := by decide
    intro c hc
    by_cases h : n < 10
    · rw [dcl_small h, List.mem_singleton] at hc
      rw [hc]
      exact hd ⟨n, h⟩
    · rw [dcl_big h] at hc
      rcases List.mem_append.1 hc with hc | hc
      · exact ih (n / 10) (by omega) c hc
      · rw [List.mem_singleton] at hc
        rw [hc]
        exact hd ⟨n % 10, Nat.mod_lt _ (by omega)⟩
theorem dval_snoc (l : Bs) (c : UInt8) : dval (l ++ [c]) = dval l * 10 + (c.toNat - 48) := by unfold dval; rw [List.foldl_append]; rfl
theorem dval_dcl (n : Nat) : dval (dcl n) = n := by
  induction n using Nat.strongRecOn with
  | _ n ih =>
    have hd : ∀ k : Fin 10, (UInt8.ofNat (48 + k.val)).toNat - 48 = k.val := by decide
    by_cases h : n < 10
    · rw [dcl_small h]
      have := hd ⟨n, h⟩
      simp only at this
      show 0 * 10 + ((UInt8.ofNat (48 + n)).toNat - 48) = n
      omega
    · rw [dcl_big h, dval_snoc, ih (n / 10) (by omega)]
      have : (UInt8.ofNat (48 + n % 10)).toNat - 48 = n % 10 := hd ⟨n % 10, Nat.mod_lt _ (by omega)⟩
      omega
theorem dcl_ne (n : Nat) : dcl n ≠ [] := by
  by_cases h : n < 10
  · rw [dcl_small h]; simp
  · rw [dcl_big h]; simp
theorem wr_id {a : Int} (h1 : -9223372036854775808 ≤ a) (h2 : a < 9223372036854775808) : wr a = a := by unfold wr wrap64; omega
theorem wr_neg {m : Nat} (h : m ≤ 9223372036854775808) : wr (-(wr (m : Int))) = -(m : Int) := by
  by_cases h2 : m < 9223372036854775808
  · rw [wr_id (a := (m : Int)) (by omega) (by omega), wr_id (by omega) (by omega)]
  · obtain rfl : m = 9223372036854775808 := by omega
    decide +kernel
theorem num_dcl {n : Nat} (h : n < 9223372036854775808) : num (dcl n) = n := by
  unfold num
  rw [dval_dcl, wr_id (by omega) (by omega)]
theorem dval_zeros (z : Nat) (l : Bs) : dval (List.replicate z 48 ++ l) = dval l := by
  induction z with
  | zero => rfl
  | succ z ih =>
    rw [List.replicate_succ, List.cons_append]
    exact ih
theorem tail_dig {X : Bs} (h0 : X ≠ []) (hd : ∀ c ∈ X, isDig c = true) (t : Bs) : tailT (X ++ t) := by
  cases X with
  | nil => exact absurd rfl h0
  | cons c u =>
    intro c' u' e
    injection e with e1 e2
    subst e1
    obtain ⟨a, b, c1, c2, c3, c4, c5, c6⟩ := stuck_byte' (.inr (hd c (List.mem_cons_self ..)))
    exact ⟨c1, c2, c3, c5, c6⟩
section
variable {V : Bs → Option Int}
/-! The whole. -/
theorem evalL_ok {s : Bs} {v : Int} {z : Bool} (hl : s.length ≤ 4096) (h : E false V (.bin 1) s false 0 = .ok (v, [], z)) : evalL false s V = if z then (0, 15) else (v, 0) := by
  rw [evalL_E, if_neg (by omega), h]
  rfl
theorem evalL_bad {s : Bs} {e : Nat} (hl : s.length ≤ 4096) (h : E false V (.bin 1) s false 0 = .error e) : evalL false s V = (0, e) := by
  rw [evalL_E, if_neg (by omega), h]
theorem evalL_rest {s r : Bs} {v : Int} {z : Bool} (hl : s.length ≤ 4096) (h : E false V (.bin 1) s false 0 = .ok (v, r, z)) (hr : skp r ≠ []) : evalL false s V = (0, 2) := by
  rw [evalL_E, if_neg (by omega), h]
  simp [hr]
theorem evalL_inv {s : Bs} {v : Int} (h : evalL false s V = (v, 0)) : ∃ r, E false V (.bin 1) s false 0 = .ok (v, r, false) ∧ skp r = [] := by
  rw [evalL_E] at h
  split at h
  · cases h
  · split at h
    · rename_i e he
      injection h with h1 h2
      subst h2
      rcases ev_err _ _ _ _ _ _ _ _ (show okM (.bin 1) from Nat.le_refl 1) (Nat.le_refl _) he with h | h <;> omega
    · rename_i v1 r z hv
      split at h
      · cases h
      · rename_i hr
        split at h
        · cases h
        · rename_i hz
          injection h with h1 h2
          subst h1
          exact ⟨r, by rw [hv, Bool.eq_false_iff.2 hz], Classical.byContradiction hr⟩
/-! A number in parentheses. -/
theorem itl_len {a : Int} (h1 : -9223372036854775808 ≤ a) (h2 : a < 9223372036854775808) : (itl a).length ≤ 20 := by
  have := dcl_len 18 a.natAbs (by omega)
  unfold itl
  split
  · rw [List.length_cons]; omega
  · omega
theorem itl_neg {m : Nat} (h : m ≤ 9223372036854775808) : unAllM [45] (num (dcl m)) = -(m : Int) := by
  have e : ∀ x, unAllM [45] x = un 45 x := fun x => by unfold unAllM; rw [List.foldr_cons, List.foldr_nil]
  have e2 : ∀ x, un 45 x = wr (-x) := fun x => by unfold un; rw [if_pos rfl]
  have e3 : num (dcl m) = wr (m : Int) := by unfold num; rw [dval_dcl]
  rw [e, e2, e3, wr_neg h]
theorem itl_bin {a : Int} (h1 : -9223372036854775808 ≤ a) (h2 : a < 9223372036854775808) {d : Nat} (t : Bs) (ht : closes t) (z : Bool) : E false V (.bin 1) (itl a ++ t) z d = .ok (a, t, z || false) := by
  unfold itl
  have hX : ∀ d, Atom V d (dcl a.natAbs) (num (dcl a.natAbs)) false := fun d => atom_dig (dcl_ne _) (dcl_dig _)
  by_cases h : a < 0
  · rw [if_pos h]
    have hs := signs_pre (hX d) (tail_dig (dcl_ne _) (dcl_dig _)) [45] (by simp) z t ht.sep
    rw [itl_neg (m := a.natAbs) (by omega), show -((a.natAbs : Nat) : Int) = a by omega] at hs
    rw [E_bin (Nat.le_refl 1)]
    rw [show 45 :: dcl a.natAbs ++ t = [45] ++ (dcl a.natAbs ++ t) from rfl, hs]
    simp only []
    rw [E_loop_end (Nat.le_refl 1) ht, Bool.or_false]
  · rw [if_neg h]
    have hb := bin_atom (hX d) (Nat.le_refl 1) ht z
    have e : ((a.natAbs : Nat) : Int) = a := by omega
    rw [num_dcl (by omega), e] at hb
    exact hb
theorem atom_itl {a : Int} (h1 : -9223372036854775808 ≤ a) (h2 : a < 9223372036854775808) {d : Nat} (hd : d < 40) : Atom V d (40 :: (itl a ++ [41])) a false :=
  atom_par hd (fun t z => itl_bin h1 h2 _ (.inr ⟨t, rfl⟩) z)
theorem tail_par (S t : Bs) : tailT (40 :: S ++ t) := by
  intro c u e
  injection e with e1 e2
  subst e1
  decide
theorem sep_g {g op : Bs} (hop : op ∈ opsL) (hg : ∀ c ∈ g, isBl c = true) (Q : Bs) : sepT (g ++ (op ++ (g ++ Q))) := by
  cases g with
  | nil => exact op_sep hop _
  | cons x g =>
    intro c u e
    injection e with e1 e2
    subst e1
    have h := hg x (List.mem_cons_self ..)
    simp only [isBl, Bool.or_eq_true, beq_iff_eq] at h
    rcases h with (rfl | rfl) | rfl <;> exact ⟨by decide, by decide⟩
theorem tail_g {g Q : Bs} (hg : ∀ c ∈ g, isBl c = true) (hQ : ∀ t, tailT (Q ++ t)) (t : Bs) : tailT (g ++ (Q ++ t)) := by
  cases g with
  | nil => exact hQ t
  | cons x g =>
    intro c u e
    injection e with e1 e2
    subst e1
    have h := hg x (List.mem_cons_self ..)
    simp only [isBl, Bool.or_eq_true, beq_iff_eq] at h
    rcases h with (rfl | rfl) | rfl <;> decide
/-- Two, and an operator. -/
theorem two_val {P Q op g : Bs} {a b : Int} (hP : Atom V 0 P a false) (hQ : Atom V 0 Q b false) (hop : op ∈ opsL) (hg : ∀ c ∈ g, isBl c = true) (hQt : ∀ t, tailT (Q ++ t)) (hl : (P ++ (g ++ (op ++ (g ++ Q)))).length ≤ 4096) :
    evalL false (P ++ (g ++ (op ++ (g ++ Q)))) V = if (ap op a b).2 then (0, 15) else ((ap op a b).1, 0) := by
  have := bin2 hP hQ hop (Nat.le_refl 1) (op_facts op hop).2.2.2.1 hg (sep_g hop hg Q) (tail_g hg hQt) (t := []) (.inl rfl) false
  rw [List.append_nil] at this
  rw [evalL_ok hl this]
  simp
theorem op_len {op : Bs} (h : op ∈ opsL) : op.length ≤ 2 := by
  have : ∀ op ∈ opsL, op.length ≤ 2 := by decide
  exact this op h
theorem ap_zero {op : Bs} (h : op ∈ opsL) (a b : Int) : (ap op a b).2 = decide ((op = [47] ∨ op = [37]) ∧ b = 0) := by
  simp only [opsL, List.mem_cons, List.not_mem_nil, or_false] at h
  rcases h with rfl | rfl | rfl | rfl | rfl | rfl | rfl | rfl | rfl | rfl | rfl | rfl | rfl | rfl | rfl | rfl | rfl | rfl
  all_goals
    by_cases hb : b = 0 <;> simp [ap, hb]
/-! What a variable holds that was printed. -/
theorem dropWhile_head {c : UInt8} {l : Bs} (h : isBl c = false) : (c :: l).dropWhile isBl = c :: l := by rw [List.dropWhile_cons, h]; rfl
theorem dig_nobl {c : UInt8} (h : isDig c = true) : isBl c = false := (stuck_byte' (.inr h)).1
theorem trim_same {c : UInt8} {l : Bs} (h : ∀ x ∈ c :: l, isBl x = false) : trim (c :: l) = c :: l := by
  unfold trim
  rw [dropWhile_head (h c (List.mem_cons_self ..))]
  have e : ∀ m : Bs, (∀ x ∈ m, isBl x = false) → m.dropWhile isBl = m := by
    intro m hm
    cases m with
    | nil => rfl
    | cons x m => exact dropWhile_head (hm x (List.mem_cons_self ..))
  rw [e _ (fun x hx => h x (List.mem_reverse.1 hx)), List.reverse_reverse]
theorem valOf_itl {a : Int} (h1 : -9223372036854775808 ≤ a) (h2 : a < 9223372036854775808) : valOf (itl a) = some a := by
  have hd := dcl_dig a.natAbs
  have h0 := dcl_ne a.natAbs
  unfold itl
  obtain ⟨X, hX⟩ : ∃ X, dcl a.natAbs = X := ⟨_, rfl⟩
  have hn : dval X = a.natAbs := by rw [← hX]; exact dval_dcl _
  rw [hX] at hd h0 ⊢
  split
  · rename_i h
    have ht : trim (45 :: X) = 45 :: X := trim_same (fun x hx => by
      rcases List.mem_cons.1 hx with rfl | hx
      · rfl
      · exact dig_nobl (hd x hx))
    unfold valOf
    simp only [ht]
    rw [if_neg (by simp), List.headD_cons, if_pos rfl, List.drop_succ_cons, List.drop_zero, if_pos ⟨List.length_pos_iff.2 h0, List.all_eq_true.2 hd⟩]
    unfold num
    rw [hn, wr_neg (by omega)]
    congr 1
    omega
  · rename_i h
    cases X with
    | nil => exact absurd rfl h0
    | cons c X =>
      have hc := hd c (List.mem_cons_self ..)
      have ht : trim (c :: X) = c :: X := trim_same (fun x hx => dig_nobl (hd x hx))
      unfold valOf
      simp only [ht]
      rw [if_neg (by simp), List.headD_cons, if_neg (by rintro rfl; exact absurd hc (by decide)), if_pos (List.all_eq_true.2 hd)]
      unfold num
      rw [hn, wr_id (by omega) (by omega)]
      congr 1
      omega
/-! Three. -/
theorem lev_val {x y z p q : Bs} {a b c : Int} (hx : x ≠ [] ∧ ∀ c ∈ x, isDig c = true) (hy : y ≠ [] ∧ ∀ c ∈ y, isDig c = true) (hz : z ≠ [] ∧ ∀ c ∈ z, isDig c = true)
    (hp : p ∈ opsL) (hq : q ∈ opsL) (hl : x.length + y.length + z.length ≤ 100) :
    evalL false (x ++ (p ++ (y ++ (q ++ z)))) V = evalL false (if lv p < lv q then x ++ (p ++ (40 :: (y ++ (q ++ (z ++ [41]))))) else 40 :: (x ++ (p ++ (y ++ (41 :: (q ++ z)))))) V := by
  have lp := op_len hp
  have lq := op_len hq
  have nog : ∀ c ∈ ([] : Bs), isBl c = true := by intro c hc; cases hc
  have aP : ∀ d, Atom V d x (num x) false := fun d => atom_dig hx.1 hx.2
  have aQ : ∀ d, Atom V d y (num y) false := fun d => atom_dig hy.1 hy.2
  have aR : ∀ d, Atom V d z (num z) false := fun d => atom_dig hz.1 hz.2
  have l1 := (op_facts p hp).2.2.2.1
  have l2 := (op_facts q hq).2.2.2.1
  have h3 := plain3 (aP 0) (aQ 0) (aR 0) hp hq (tail_dig hy.1 hy.2) (tail_dig hz.1 hz.2) false
  rw [List.append_nil] at h3
  by_cases h : lv p < lv q
  · rw [if_pos h] at h3 ⊢
    have hin : Atom V 0 (40 :: ((y ++ (q ++ z)) ++ [41])) (ap q (num y) (num z)).1 (ap q (num y) (num z)).2 := by
      refine atom_par (by omega) (fun t zz => ?_)
      have := bin2 (aQ 1) (aR 1) hq (Nat.le_refl 1) l2 nog (sep_g hq nog z) (tail_g nog (tail_dig hz.1 hz.2)) (t := 41 :: t) (.inr ⟨t, rfl⟩) zz
      simp only [List.nil_append] at this
      rw [show (y ++ (q ++ z)) ++ 41 :: t = y ++ (q ++ (z ++ 41 :: t)) by simp, this]
      simp
    have h4 := bin2 (aP 0) hin hp (Nat.le_refl 1) l1 nog (sep_g hp nog _) (tail_g nog (tail_par _)) (t := []) (.inl rfl) false
    simp only [List.nil_append, List.append_nil] at h4
    rw [show 40 :: (y ++ (q ++ (z ++ [41]))) = 40 :: ((y ++ (q ++ z)) ++ [41]) by simp, evalL_ok (by simp; omega) h3, evalL_ok (by simp; omega) h4]
    simp
  · rw [if_neg h] at h3 ⊢
    have hin : Atom V 0 (40 :: ((x ++ (p ++ y)) ++ [41])) (ap p (num x) (num y)).1 (ap p (num x) (num y)).2 := by
      refine atom_par (by omega) (fun t zz => ?_)
      have := bin2 (aP 1) (aQ 1) hp (Nat.le_refl 1) l1 nog (sep_g hp nog y) (tail_g nog (tail_dig hy.1 hy.2)) (t := 41 :: t) (.inr ⟨t, rfl⟩) zz
      simp only [List.nil_append] at this
      rw [show (x ++ (p ++ y)) ++ 41 :: t = x ++ (p ++ (y ++ 41 :: t)) by simp, this]
      simp
    have h4 := bin2 hin (aR 0) hq (Nat.le_refl 1) l2 nog (sep_g hq nog _) (tail_g nog (tail_dig hz.1 hz.2)) (t := []) (.inl rfl) false
    simp only [List.nil_append, List.append_nil] at h4
    rw [show 40 :: (x ++ (p ++ (y ++ (41 :: (q ++ z))))) = 40 :: ((x ++ (p ++ y)) ++ [41]) ++ (q ++ z) by simp, evalL_ok (by simp; omega) h3, evalL_ok (by simp; omega) h4]
    simp
/-! Signs. -/
theorem signs_val {os : Bs} (h : ∀ o ∈ os, o = 43 ∨ o = 45 ∨ o = 33 ∨ o = 126) {a : Nat} (ha : a < 9223372036854775808) (hl : os.length ≤ 30) : evalL false (os ++ dcl a) V = (unAllM os a, 0) := by
  have h19 := dcl_len 18 a (by omega)
  have := signs_pre (V := V) (d := 0) (atom_dig (dcl_ne a) (dcl_dig a)) (tail_dig (dcl_ne a) (dcl_dig a)) os h false [] (by intro c u e; cases e)
  have h2 : E false V (.bin 1) (os ++ dcl a) false 0 = .ok (unAllM os a, [], false) := by
    rw [num_dcl ha, List.append_nil] at this
    rw [E_bin (Nat.le_refl 1), this]
    exact E_loop_end (Nat.le_refl 1) (.inl rfl)
  rw [evalL_ok (by simp; omega) h2]
  rfl
/-! Depth. -/
theorem nest_len (X : Bs) : ∀ n, (nest X n).length = X.length + 2 * n
  | 0 => by simp [nest]
  | n + 1 => by simp [nest, nest_len X n]; omega
theorem deep_val {a n : Nat} (ha : a < 9223372036854775808) (hn : n ≤ 60) : evalL false (nest (dcl a) n) V = (if 40 < n then (0, 3) else ((a : Int), 0)) ∧ (evalL false (nest (dcl a) n ++ [40]) V).2 = if 40 < n then 3 else 2 := by
  have h19 := dcl_len 18 a (by omega)
  have hl := nest_len (dcl a) n
  by_cases h : 40 < n
  · have h1 : ∀ t, E false V (.bin 1) (nest (dcl a) n ++ t) false 0 = .error 3 := fun t => by rw [E_bin (Nat.le_refl 1), nest_deep n 0 t false (by omega) (by omega)]
    have h2 := h1 []
    rw [List.append_nil] at h2
    rw [if_pos h, if_pos h, evalL_bad (by omega) h2, evalL_bad (by simp; omega) (h1 [40])]
    exact ⟨rfl, rfl⟩
  · have hA := atom_nest (V := V) (X := dcl a) (a := num (dcl a)) (fun d => atom_dig (dcl_ne a) (dcl_dig a)) n 0 (by omega)
    rw [num_dcl ha] at hA
    have h2 := bin_atom hA (Nat.le_refl 1) (t := []) (.inl rfl) false
    rw [List.append_nil] at h2
    have h3 : E false V (.bin 1) (nest (dcl a) n ++ [40]) false 0 = .ok ((a : Int), [40], false) := by
      rw [E_bin (Nat.le_refl 1), hA [40] false (by intro c u e; cases e; decide)]
      simp only []
      rw [E_loop (Nat.le_refl 1), if_pos (by decide)]
      rfl
    rw [if_neg h, if_neg h, evalL_ok (by omega) h2, evalL_rest (by simp; omega) h3 (by decide)]
    exact ⟨rfl, rfl⟩
/-! Digits. -/
theorem digits_val {n z : Nat} (hn : n < 9223372036854775808) (hz : z ≤ 50) : evalL false (List.replicate z 48 ++ dcl n) V = ((n : Int), 0) := by
  have h19 := dcl_len 18 n (by omega)
  have hd : ∀ c ∈ List.replicate z 48 ++ dcl n, isDig c = true := by
    intro c hc
    rcases List.mem_append.1 hc with hc | hc
    · rw [(List.mem_replicate.1 hc).2]; rfl
    · exact dcl_dig n c hc
  have h := bin_atom (V := V) (d := 0) (atom_dig (X := List.replicate z 48 ++ dcl n) (by simp [dcl_ne]) hd) (Nat.le_refl 1) (t := []) (.inl rfl) false
  rw [List.append_nil] at h
  rw [evalL_ok (by simp; omega) h]
  have : num (List.replicate z 48 ++ dcl n) = n := by
    unfold num
    rw [dval_zeros, dval_dcl, wr_id (by omega) (by omega)]
  rw [this]
  rfl
/-! Blanks around, and parentheses. -/
theorem whole_val {s : Bs} (hl : s.length ≤ 500) : evalL false (32 :: (s ++ [10])) V = evalL false s V := by
  have hg : ∀ c ∈ ([32] : Bs), isBl c = true := by decide
  have h1 := E_bin_g (V := V) (g := [32]) hg (l := 1) (Nat.le_refl 1) (r := s ++ [10]) (z := false) (d := 0)
  rw [List.singleton_append] at h1
  obtain ⟨N, hN⟩ : ∃ N, N = 4 * s.length + 100 := ⟨_, rfl⟩
  have h2 := ev_blank (lim := false) (V := V) N (.bin 1) s (s ++ [10]) false 0 (.inr rfl)
  have w1 : want (.bin 1) s ≤ N := by simp only [want]; omega
  have w2 : want (.bin 1) (s ++ [10]) ≤ N := by simp only [want, List.length_append, List.length_singleton]; omega
  rw [E_of (m := .bin 1) (Nat.le_refl 1) w1, E_of (m := .bin 1) (Nat.le_refl 1) w2] at h2
  have w3 : ¬ 4096 < (32 :: (s ++ [10])).length := by simp; omega
  rw [evalL_E, evalL_E, if_neg w3, if_neg (by omega), h1]
  rcases h2 with ⟨e, e1, e2⟩ | ⟨v, a, b, z, e1, e2, e3⟩
  · rw [e1, e2]
  · rw [e1, e2]
    simp only [ne_eq, blR_nil e3]
/-- A whole expression in parentheses is what it is, or too deep. -/
theorem par_any {s : Bs} {n : Int} (h : evalL false s V = (n, 0)) (u : Bs) (z : Bool) (d : Nat) (hd : d ≤ 40) :
    E false V .pre (40 :: (s ++ 41 :: u)) z d = .ok (n, u, z) ∨ E false V .pre (40 :: (s ++ 41 :: u)) z d = .error 3 := by
  obtain ⟨r, h1, hr⟩ := evalL_inv h
  have h1' : skp (40 :: (s ++ 41 :: u)) = 40 :: (s ++ 41 :: u) := rfl
  have h2' : opL (40 :: (s ++ 41 :: u)) = [40] := by
    unfold opL
    rw [if_neg (by rw [two_first (by decide)]; simp)]
    rfl
  have h3 : digL (40 :: (s ++ 41 :: u)) = 0 := by unfold digL; rw [List.takeWhile_cons, if_neg (by decide)]; rfl
  have h4 : nmL (40 :: (s ++ 41 :: u)) = 0 := by
    have hl : isLet 40 = false := by decide
    simp [nmL, hl]
  rw [E_pre, h1', h2', if_neg (by decide), E_opd, h3, h4, if_neg (by omega), if_neg (by omega), if_pos (List.headD_cons ..)]
  by_cases h40 : d = 40
  · rw [if_pos h40]; exact .inr rfl
  · rw [if_neg h40, List.drop_succ_cons, List.drop_zero]
    obtain ⟨N, hN⟩ : ∃ N, N = 4 * s.length + 4 * u.length + 100 := ⟨_, rfl⟩
    rw [← E_of (n := N) (m := .bin 1) (Nat.le_refl 1) (by simp only [want]; omega)] at h1
    have hc : closes (41 :: u) := .inr ⟨u, rfl⟩
    rw [← E_of (n := N) (m := .bin 1) (Nat.le_refl 1) (by simp only [want, List.length_append, List.length_cons]; omega), ev_zero]
    rcases ev_local hc N (.bin 1) s false 0 (d + 1) n r false (Nat.le_refl 1) (by omega) (by omega) h1 with h | h
    · rw [h]
      simp only [mapZ]
      rw [skp_app hc.skp, hr, List.nil_append, opL_close, if_pos rfl]
      simp
    · rw [h]; exact .inr rfl
theorem par_val {s : Bs} {n : Int} (h : evalL false s V = (n, 0)) (hl : s.length ≤ 2000) : evalL false (40 :: (s ++ [41])) V = (n, 0) ∨ evalL false (40 :: (s ++ [41])) V = (0, 3) := by
  rcases par_any h [] false 0 (by omega) with h1 | h1
  · have : E false V (.bin 1) (40 :: (s ++ [41])) false 0 = .ok (n, [], false) := by
      rw [E_bin (Nat.le_refl 1), h1]
      exact E_loop_end (Nat.le_refl 1) (.inl rfl)
    exact .inl (by rw [evalL_ok (by simp; omega) this]; rfl)
  · have : E false V (.bin 1) (40 :: (s ++ [41])) false 0 = .error 3 := by rw [E_bin (Nat.le_refl 1), h1]
    exact .inr (evalL_bad (by simp; omega) this)
theorem two_any {s t op : Bs} {n m : Int} (hs : evalL false s V = (n, 0)) (ht : evalL false t V = (m, 0)) (hop : op ∈ opsL) (u : Bs) (hu : closes u) (z : Bool) (d : Nat) (hd : d ≤ 40) :
    E false V (.bin 1) (40 :: (s ++ 41 :: (op ++ 40 :: (t ++ 41 :: u)))) z d = .ok ((ap op n m).1, u, z || (ap op n m).2) ∨ E false V (.bin 1) (40 :: (s ++ 41 :: (op ++ 40 :: (t ++ 41 :: u)))) z d = .error 3 := by
  have nog : ∀ c ∈ ([] : Bs), isBl c = true := by intro c hc; cases hc
  have l1 := (op_facts op hop).2.2.2.1
  rw [E_bin (Nat.le_refl 1)]
  rcases par_any hs (op ++ 40 :: (t ++ 41 :: u)) z d hd with h1 | h1
  · rw [h1]
    simp only []
    rw [← List.nil_append (op ++ _), E_loop_op (Nat.le_refl 1) nog hop l1 (by have := tail_par (t ++ 41 :: u) []; rw [List.append_nil] at this; exact this), E_bin (by omega)]
    rcases par_any ht u z d hd with h2 | h2
    · rw [h2]
      simp only []
      rw [E_loop_end (by omega) hu]
      simp only []
      rw [E_loop_end (by omega) hu]
      exact .inl rfl
    · rw [h2]; exact .inr rfl
  · rw [h1]; exact .inr rfl
theorem sums_val {s t op : Bs} {n m : Int} (hs : evalL false s V = (n, 0)) (ht : evalL false t V = (m, 0)) (hop : op ∈ opsL) (hz : (ap op n m).2 = false) (hl : s.length + t.length ≤ 2000) :
    (evalL false (40 :: (s ++ 41 :: (op ++ 40 :: (t ++ [41])))) V = ((ap op n m).1, 0) ∨ evalL false (40 :: (s ++ 41 :: (op ++ 40 :: (t ++ [41])))) V = (0, 3)) := by
  have hlo := op_len hop
  rcases two_any hs ht hop [] (.inl rfl) false 0 (by omega) with h | h
  · exact .inl (by rw [evalL_ok (by simp; omega) h, hz]; rfl)
  · exact .inr (evalL_bad (by simp; omega) h)
end
end Go.Proofs.YthgddbdkdloobaaDoor
