import Derived.Test.YthgddbdkdloobaaDoorA
namespace Go.Proofs.YthgddbdkdloobaaDoor
open Go.RowKit
set_option linter.unusedVariables false

/-! The reader's answer without the fuel. -/
def okM (m : Md) : Prop := match m with | .bin l => 1 ≤ l | .loop l _ => 1 ≤ l | _ => True
theorem okM_len {lim : Bool} {V : Bs → Option Int} {n : Nat} {m : Md} {r : Bs} {z : Bool} {d : Nat} {v : Int} {r' : Bs} {z' : Bool} (hm : okM m) (h : ev lim V n m r z d = .ok (v, r', z')) : r'.length + lessen m ≤ r.length :=
  ev_len lim V n m r z d v r' z' (by intro l v e; subst e; exact hm) (by intro l e; subst e; exact hm) h
theorem op_drop {r : Bs} (h : 1 ≤ (opL (skp r)).length) : ((skp r).drop (opL (skp r)).length).length + 1 ≤ r.length := by
  have h1 := opL_len (skp r)
  have h2 := skp_len r
  rw [List.length_drop]; omega
theorem un_len {o : Bs} (h : isUn o = true) : o.length = 1 := by
  simp only [isUn, Bool.or_eq_true, beq_iff_eq] at h
  rcases h with ((h | h) | h) | h <;> rw [h] <;> rfl
theorem pre_drop {r : Bs} (h : isUn (opL (skp r)) = true) : ((skp r).drop 1).length + 1 ≤ r.length := by
  have h0 := un_len h
  have h1 := opL_len (skp r)
  have h2 := skp_len r
  rw [List.length_drop]; omega
theorem head_len {r : Bs} (h : r.headD 0 = 40) : (r.drop 1).length + 1 ≤ r.length := by
  cases r with
  | nil => simp at h
  | cons a t => simp
theorem ev_bin {lim : Bool} {V : Bs → Option Int} {n l : Nat} {r : Bs} {z : Bool} {d : Nat} : ev lim V (n + 1) (.bin l) r z d = match ev lim V n .pre r z d with | .error e => .error e | .ok (v, r, z) => ev lim V n (.loop l v) r z d := rfl
theorem ev_loop {lim : Bool} {V : Bs → Option Int} {n l : Nat} {v : Int} {r : Bs} {z : Bool} {d : Nat} : ev lim V (n + 1) (.loop l v) r z d = if lv (opL (skp r)) < l then .ok (v, skp r, z) else
    match ev lim V n (.bin (lv (opL (skp r)) + 1)) ((skp r).drop (opL (skp r)).length) z d with
    | .error e => .error e
    | .ok (b, r', z) => ev lim V n (.loop l (ap (opL (skp r)) v b).1) r' (z || (ap (opL (skp r)) v b).2) d := rfl
theorem ev_pre {lim : Bool} {V : Bs → Option Int} {n : Nat} {r : Bs} {z : Bool} {d : Nat} : ev lim V (n + 1) .pre r z d = if isUn (opL (skp r)) then
      match ev lim V n .pre ((skp r).drop 1) z d with
      | .error e => .error e
      | .ok (v, r', z) => .ok (un ((opL (skp r)).headD 0) v, r', z)
    else ev lim V n .opd (skp r) z d := rfl
theorem ev_opd {lim : Bool} {V : Bs → Option Int} {n : Nat} {r : Bs} {z : Bool} {d : Nat} : ev lim V (n + 1) .opd r z d = if 0 < digL r then .ok (num (r.take (digL r)), r.drop (digL r), z)
    else if 0 < nmL r then
      if lim && decide (60 < nmL r) then .error 2 else
      match V (r.take (min (nmL r) 60)) with
      | none => .error 2
      | some v => .ok (v, r.drop (min (nmL r) 60), z)
    else if r.headD 0 = 40 then
      if d = 40 then .error 3 else
      match ev lim V n (.bin 1) (r.drop 1) z (d + 1) with
      | .error e => .error e
      | .ok (v, r', z) => if opL (skp r') = [41] then .ok (v, (skp r').drop 1, z) else .error 2
    else .error 2 := rfl
theorem ev_fuel (lim : Bool) (V : Bs → Option Int) : ∀ n k m r z d, okM m → want m r ≤ n → want m r ≤ k → ev lim V n m r z d = ev lim V k m r z d := by
  intro n
  induction n with
  | zero => intro k m r z d _ h; cases m <;> simp [want] at h
  | succ n ih =>
    intro k m r z d hm h1 h2
    cases k with
    | zero => cases m <;> simp [want] at h2
    | succ k =>
    cases m with
    | bin l =>
      simp only [want] at h1 h2
      simp only [ev]
      rw [ih k .pre r z d trivial (by simp only [want]; omega) (by simp only [want]; omega)]
      cases h : ev lim V k .pre r z d with
      | error e => rfl
      | ok x =>
        obtain ⟨v, r1, z1⟩ := x
        have hl := okM_len (m := .pre) trivial h
        simp only [lessen] at hl
        exact ih k (.loop l v) r1 z1 d hm (by simp only [want]; omega) (by simp only [want]; omega)
    | loop l v =>
      simp only [want] at h1 h2
      simp only [ev]
      split
      · rfl
      · rename_i hlv
        have h1l : 1 ≤ lv (opL (skp r)) := Nat.le_trans hm (by omega)
        have hd := op_drop (lv_pos h1l)
        rw [ih k (.bin _) _ z d (show 1 ≤ _ by omega) (by simp only [want]; omega) (by simp only [want]; omega)]
        cases h : ev lim V k (.bin (lv (opL (skp r)) + 1)) ((skp r).drop (opL (skp r)).length) z d with
        | error e => rfl
        | ok x =>
          obtain ⟨b, r1, z1⟩ := x
          have hl := okM_len (m := .bin _) (show 1 ≤ _ by omega) h
          simp only [lessen] at hl
          exact ih k (.loop l _) r1 _ d hm (by simp only [want]; omega) (by simp only [want]; omega)
    | pre =>
      simp only [want] at h1 h2
      simp only [ev]
      have hs := skp_len r
      split
      · rename_i hu
        have hd := pre_drop hu
        rw [ih k .pre _ z d trivial (by simp only [want]; omega) (by simp only [want]; omega)]
      · exact ih k .opd _ z d trivial (by simp only [want]; omega) (by simp only [want]; omega)
    | opd =>
      simp only [want] at h1 h2
      simp only [ev]
      split
      · rfl
      · split
        · rfl
        · split
          · rename_i h40
            have hd := head_len h40
            split
            · rfl
            · rw [ih k (.bin 1) _ z (d + 1) (Nat.le_refl 1) (by simp only [want]; omega) (by simp only [want]; omega)]
          · rfl
def E (lim : Bool) (V : Bs → Option Int) (m : Md) (r : Bs) (z : Bool) (d : Nat) : Rs := ev lim V (want m r) m r z d
theorem E_of {lim : Bool} {V : Bs → Option Int} {n : Nat} {m : Md} {r : Bs} {z : Bool} {d : Nat} (hm : okM m) (h : want m r ≤ n) : ev lim V n m r z d = E lim V m r z d := ev_fuel lim V _ _ m r z d hm h (Nat.le_refl _)
theorem E_len {lim : Bool} {V : Bs → Option Int} {m : Md} {r : Bs} {z : Bool} {d : Nat} {v : Int} {r' : Bs} {z' : Bool} (hm : okM m) (h : E lim V m r z d = .ok (v, r', z')) : r'.length + lessen m ≤ r.length := okM_len hm h
section
variable {lim : Bool} {V : Bs → Option Int}
theorem E_bin {l : Nat} {r : Bs} {z : Bool} {d : Nat} (hl : 1 ≤ l) : E lim V (.bin l) r z d = match E lim V .pre r z d with | .error e => .error e | .ok (v, r, z) => E lim V (.loop l v) r z d := by
  have h0 : E lim V (.bin l) r z d = ev lim V ((4 * r.length + 3) + 1) (.bin l) r z d := rfl
  rw [h0, ev_bin]
  rw [E_of (m := .pre) trivial (by simp only [want]; omega)]
  cases h : E lim V .pre r z d with
  | error e => rfl
  | ok x =>
    obtain ⟨v, r1, z1⟩ := x
    have hl2 := E_len (m := .pre) trivial h
    simp only [lessen] at hl2
    exact E_of (m := .loop l v) hl (by simp only [want]; omega)
theorem E_loop {l : Nat} {v : Int} {r : Bs} {z : Bool} {d : Nat} (hl : 1 ≤ l) : E lim V (.loop l v) r z d = if lv (opL (skp r)) < l then .ok (v, skp r, z) else
    match E lim V (.bin (lv (opL (skp r)) + 1)) ((skp r).drop (opL (skp r)).length) z d with
    | .error e => .error e
    | .ok (b, r', z) => E lim V (.loop l (ap (opL (skp r)) v b).1) r' (z || (ap (opL (skp r)) v b).2) d := by
  have h0 : E lim V (.loop l v) r z d = ev lim V ((4 * r.length + 1) + 1) (.loop l v) r z d := rfl
  rw [h0, ev_loop]
  split
  · rfl
  · rename_i hlv
    have h1l : 1 ≤ lv (opL (skp r)) := Nat.le_trans hl (by omega)
    have hd := op_drop (lv_pos h1l)
    rw [E_of (m := .bin _) (show 1 ≤ _ by omega) (by simp only [want]; omega)]
    cases h : E lim V (.bin (lv (opL (skp r)) + 1)) ((skp r).drop (opL (skp r)).length) z d with
    | error e => rfl
    | ok x =>
      obtain ⟨b, r1, z1⟩ := x
      have hl2 := E_len (m := .bin _) (show 1 ≤ _ by omega) h
      simp only [lessen] at hl2
      exact E_of (m := .loop l _) hl (by simp only [want]; omega)
theorem E_pre {r : Bs} {z : Bool} {d : Nat} : E lim V .pre r z d = if isUn (opL (skp r)) then
      match E lim V .pre ((skp r).drop 1) z d with
      | .error e => .error e
      | .ok (v, r', z) => .ok (un ((opL (skp r)).headD 0) v, r', z)
    else E lim V .opd (skp r) z d := by
  have h0 : E lim V .pre r z d = ev lim V ((4 * r.length + 2) + 1) .pre r z d := rfl
  rw [h0, ev_pre]
  have hs := skp_len r
  split
  · rename_i hu
    have hd := pre_drop hu
    rw [E_of (m := .pre) trivial (by simp only [want]; omega)]
  · exact E_of (m := .opd) trivial (by simp only [want]; omega)
theorem E_opd {r : Bs} {z : Bool} {d : Nat} : E lim V .opd r z d = if 0 < digL r then .ok (num (r.take (digL r)), r.drop (digL r), z)
    else if 0 < nmL r then
      if lim && decide (60 < nmL r) then .error 2 else
      match V (r.take (min (nmL r) 60)) with
      | none => .error 2
      | some v => .ok (v, r.drop (min (nmL r) 60), z)
    else if r.headD 0 = 40 then
      if d = 40 then .error 3 else
      match E lim V (.bin 1) (r.drop 1) z (d + 1) with
      | .error e => .error e
      | .ok (v, r', z) => if opL (skp r') = [41] then .ok (v, (skp r').drop 1, z) else .error 2
    else .error 2 := by
  have h0 : E lim V .opd r z d = ev lim V ((4 * r.length + 1) + 1) .opd r z d := rfl
  rw [h0, ev_opd]
  split
  · rfl
  · split
    · rfl
    · split
      · rename_i h40
        have hd := head_len h40
        split
        · rfl
        · rw [E_of (m := .bin 1) (Nat.le_refl 1) (by simp only [want]; omega)]
      · rfl
theorem evalL_E {s : Bs} : evalL lim s V = if 4096 < s.length then (0, 3) else
    match E lim V (.bin 1) s false 0 with
    | .error e => (0, e)
    | .ok (v, r, z) => if skp r ≠ [] then (0, 2) else if z then (0, 15) else (v, 0) := by
  unfold evalL
  rw [E_of (m := .bin 1) (Nat.le_refl 1) (by simp only [want, fuel]; omega)]
  rfl
end
/-- Errors are errors. -/
theorem ev_err (lim : Bool) (V : Bs → Option Int) : ∀ n m r z d e, okM m → want m r ≤ n → ev lim V n m r z d = .error e → e = 2 ∨ e = 3 := by
  intro n
  induction n with
  | zero => intro m r z d e _ h; cases m <;> simp [want] at h
  | succ n ih =>
    intro m r z d e hm hw h
    cases m with
    | bin l =>
      simp only [want] at hw
      simp only [ev] at h
      split at h
      · rename_i e1 h1
        cases h
        exact ih .pre _ _ _ _ trivial (by simp only [want]; omega) h1
      · rename_i v r1 z1 h1
        have hl := okM_len (m := .pre) trivial h1
        simp only [lessen] at hl
        exact ih (.loop l v) _ _ _ _ hm (by simp only [want]; omega) h
    | loop l v =>
      simp only [want] at hw
      simp only [ev] at h
      split at h
      · cases h
      · rename_i hlv
        have h1l : 1 ≤ lv (opL (skp r)) := Nat.le_trans hm (by omega)
        have hd := op_drop (lv_pos h1l)
        split at h
        · rename_i e1 h1
          cases h
          exact ih (.bin _) _ _ _ _ (show 1 ≤ _ by omega) (by simp only [want]; omega) h1
        · rename_i v2 r1 z1 h1
          have hl := okM_len (m := .bin _) (show 1 ≤ _ by omega) h1
          simp only [lessen] at hl
          exact ih (.loop l (ap (opL (skp r)) v v2).1) r1 _ _ _ hm (by simp only [want]; omega) h
    | pre =>
      simp only [want] at hw
      simp only [ev] at h
      have hs := skp_len r
      split at h
      · rename_i hu
        have hd := pre_drop hu
        split at h
        · rename_i e1 h1
          cases h
          exact ih .pre _ _ _ _ trivial (by simp only [want]; omega) h1
        · cases h
      · exact ih .opd _ _ _ _ trivial (by simp only [want]; omega) h
    | opd =>
      simp only [want] at hw
      simp only [ev] at h
      split at h
      · cases h
      · split at h
        · split at h
          · cases h; exact .inl rfl
          · split at h
            · cases h; exact .inl rfl
            · cases h
        · split at h
          · rename_i h40
            have hd := head_len h40
            split at h
            · cases h; exact .inr rfl
            · split at h
              · rename_i e1 h1
                cases h
                exact ih (.bin 1) _ _ _ _ (Nat.le_refl 1) (by simp only [want]; omega) h1
              · split at h
                · cases h
                · cases h; exact .inl rfl
          · cases h; exact .inl rfl
/-! Where a name is too long. -/
def stuck (r : Bs) : Prop := ∃ c t, r = c :: t ∧ (isLet c = true ∨ isDig c = true)
theorem stuck_byte : ∀ n : Fin 256, (isLet (UInt8.ofNat n.val) || isDig (UInt8.ofNat n.val)) = true → isBl (UInt8.ofNat n.val) = false ∧ ones.contains (UInt8.ofNat n.val) = false ∧ UInt8.ofNat n.val ≠ 124 ∧ UInt8.ofNat n.val ≠ 38 ∧ UInt8.ofNat n.val ≠ 61 ∧ UInt8.ofNat n.val ≠ 33 ∧ UInt8.ofNat n.val ≠ 60 ∧ UInt8.ofNat n.val ≠ 62 := by decide +kernel
theorem stuck_byte' {c : UInt8} (h : isLet c = true ∨ isDig c = true) : isBl c = false ∧ ones.contains c = false ∧ c ≠ 124 ∧ c ≠ 38 ∧ c ≠ 61 ∧ c ≠ 33 ∧ c ≠ 60 ∧ c ≠ 62 := by
  have := stuck_byte ⟨c.toNat, c.toNat_lt⟩
  simp only [UInt8.ofNat_toNat] at this
  exact this (by simpa using h)
theorem two_first {c : UInt8} {t : Bs} (h : c ≠ 124 ∧ c ≠ 38 ∧ c ≠ 61 ∧ c ≠ 33 ∧ c ≠ 60 ∧ c ≠ 62) : twos.contains ((c :: t).take 2) = false := by
  obtain ⟨h1, h2, h3, h4, h5, h6⟩ := h
  cases t with
  | nil => simp [twos]
  | cons a t => simp [twos, h1, h2, h3, h4, h5, h6]
theorem stuck_ops {r : Bs} (h : stuck r) : skp r = r ∧ opL r = [] ∧ r ≠ [] := by
  obtain ⟨c, t, rfl, hc⟩ := h
  obtain ⟨h1, h2, h3⟩ := stuck_byte' hc
  refine ⟨by simp [skp, h1], ?_, by simp⟩
  unfold opL
  rw [if_neg (by rw [two_first h3]; simp), if_neg (by simp only [List.headD_cons]; rw [h2]; simp)]
theorem stuck_nm {r : Bs} (h : 60 < nmL r) : stuck (r.drop 60) := by
  cases r with
  | nil => simp [nmL] at h
  | cons c t =>
    simp only [nmL] at h
    by_cases hc : isLet c = true
    · rw [if_pos hc] at h
      have h59 : 59 < (t.takeWhile fun c => isLet c || isDig c).length := by omega
      have hp := List.takeWhile_prefix (fun c => isLet c || isDig c) (l := t)
      have hlen := hp.length_le
      have hlt : 59 < t.length := by omega
      have he : (t.takeWhile fun c => isLet c || isDig c)[59] = t[59] := hp.getElem h59
      have hm : (t.takeWhile fun c => isLet c || isDig c)[59] ∈ t.takeWhile fun c => isLet c || isDig c := List.getElem_mem _
      have hb : ∀ {l : Bs} {x : UInt8}, x ∈ l.takeWhile (fun c => isLet c || isDig c) → (isLet x || isDig x) = true := by
        intro l
        induction l with
        | nil => intro x hx; simp at hx
        | cons a l ih =>
          intro x hx
          rw [List.takeWhile_cons] at hx
          split at hx
          · rcases List.mem_cons.1 hx with rfl | hx
            · assumption
            · exact ih hx
          · simp at hx
      have hx := hb hm
      rw [he] at hx
      refine ⟨t[59], t.drop 60, ?_, by simpa using hx⟩
      rw [List.drop_succ_cons]
      exact List.drop_eq_getElem_cons hlt
    · rw [if_neg hc] at h; omega
/-- Both readers, the one that bounds a name and the one that does not. -/
def limR (a b : Rs) : Prop := a = b ∨ (b = .error 2 ∧ (a = .error 2 ∨ ∃ v r z, a = .ok (v, r, z) ∧ stuck r))
theorem ev_lim (V : Bs → Option Int) : ∀ n m r z d, okM m → want m r ≤ n → limR (ev false V n m r z d) (ev true V n m r z d) := by
  intro n
  induction n with
  | zero => intro m r z d _ h; cases m <;> simp [want] at h
  | succ n ih =>
    intro m r z d hm hw
    cases m with
    | bin l =>
      simp only [want] at hw
      simp only [ev]
      rcases ih .pre r z d trivial (by simp only [want]; omega) with h | ⟨h1, h2⟩
      · rw [h]
        cases h3 : ev true V n .pre r z d with
        | error e => exact .inl rfl
        | ok x =>
          obtain ⟨v, r1, z1⟩ := x
          have hl := okM_len (m := .pre) trivial h3
          simp only [lessen] at hl
          exact ih (.loop l v) r1 z1 d hm (by simp only [want]; omega)
      · rw [h1]
        refine .inr ⟨rfl, ?_⟩
        rcases h2 with h2 | ⟨v, r1, z1, h2, hs⟩
        · rw [h2]; exact .inl rfl
        · rw [h2]
          have hl := okM_len (m := .pre) trivial h2
          simp only [lessen] at hl
          obtain ⟨k, rfl⟩ : ∃ k, n = k + 1 := ⟨n - 1, by omega⟩
          obtain ⟨s1, s2, s3⟩ := stuck_ops hs
          refine .inr ⟨v, r1, z1, ?_, hs⟩
          simp only [ev]
          rw [s1, s2, if_pos (show lv [] < l from hm)]
    | loop l v =>
      simp only [want] at hw
      simp only [ev]
      split
      · exact .inl rfl
      · rename_i hlv
        have h1l : 1 ≤ lv (opL (skp r)) := Nat.le_trans hm (by omega)
        have hd := op_drop (lv_pos h1l)
        rcases ih (.bin (lv (opL (skp r)) + 1)) ((skp r).drop (opL (skp r)).length) z d (show 1 ≤ _ by omega) (by simp only [want]; omega) with h | ⟨h1, h2⟩
        · rw [h]
          cases h3 : ev true V n (.bin (lv (opL (skp r)) + 1)) ((skp r).drop (opL (skp r)).length) z d with
          | error e => exact .inl rfl
          | ok x =>
            obtain ⟨b, r1, z1⟩ := x
            have hl := okM_len (m := .bin _) (show 1 ≤ _ by omega) h3
            simp only [lessen] at hl
            exact ih (.loop l _) r1 _ d hm (by simp only [want]; omega)
        · rw [h1]
          refine .inr ⟨rfl, ?_⟩
          rcases h2 with h2 | ⟨b, r1, z1, h2, hs⟩
          · rw [h2]; exact .inl rfl
          · rw [h2]
            have hl := okM_len (m := .bin _) (show 1 ≤ _ by omega) h2
            simp only [lessen] at hl
            obtain ⟨k, rfl⟩ : ∃ k, n = k + 1 := ⟨n - 1, by omega⟩
            obtain ⟨s1, s2, s3⟩ := stuck_ops hs
            refine .inr ⟨(ap (opL (skp r)) v b).1, r1, (z1 || (ap (opL (skp r)) v b).2), ?_, hs⟩
            simp only [ev]
            rw [s1, s2, if_pos (show lv [] < l from hm)]
    | pre =>
      simp only [want] at hw
      simp only [ev]
      have hs := skp_len r
      split
      · rename_i hu
        have hd := pre_drop hu
        rcases ih .pre ((skp r).drop 1) z d trivial (by simp only [want]; omega) with h | ⟨h1, h2⟩
        · rw [h]; exact .inl rfl
        · rw [h1]
          refine .inr ⟨rfl, ?_⟩
          rcases h2 with h2 | ⟨v, r1, z1, h2, hs⟩
          · rw [h2]; exact .inl rfl
          · rw [h2]; exact .inr ⟨_, r1, z1, rfl, hs⟩
      · exact ih .opd _ z d trivial (by simp only [want]; omega)
    | opd =>
      simp only [want] at hw
      simp only [ev]
      split
      · exact .inl rfl
      · split
        · by_cases h60 : 60 < nmL r
          · simp only [Bool.false_and, Bool.true_and, decide_eq_true h60, if_true, Bool.false_eq_true, if_false]
            refine .inr ⟨rfl, ?_⟩
            have hmin : min (nmL r) 60 = 60 := by omega
            rw [hmin]
            cases V (r.take 60) with
            | none => exact .inl rfl
            | some v => exact .inr ⟨v, _, z, rfl, stuck_nm h60⟩
          · simp only [Bool.false_and, Bool.true_and, decide_eq_false h60, Bool.false_eq_true, if_false]
            exact .inl rfl
        · split
          · rename_i h40
            have hd := head_len h40
            split
            · exact .inl rfl
            · rcases ih (.bin 1) (r.drop 1) z (d + 1) (Nat.le_refl 1) (by simp only [want]; omega) with h | ⟨h1, h2⟩
              · rw [h]; exact .inl rfl
              · rw [h1]
                rcases h2 with h2 | ⟨v, r1, z1, h2, hs⟩
                · rw [h2]; exact .inl rfl
                · rw [h2]
                  obtain ⟨s1, s2, s3⟩ := stuck_ops hs
                  simp only []
                  rw [s1, s2, if_neg (by simp)]
                  exact .inl rfl
          · exact .inl rfl
theorem evalL_lim (s : Bs) (V : Bs → Option Int) : evalL true s V = evalL false s V := by
  unfold evalL
  split
  · rfl
  · rcases ev_lim V (fuel s) (.bin 1) s false 0 (Nat.le_refl 1) (by simp only [want, fuel]; omega) with h | ⟨h1, h2⟩
    · rw [h]
    · rw [h1]
      rcases h2 with h2 | ⟨v, r1, z1, h2, hs⟩
      · rw [h2]
      · rw [h2]
        obtain ⟨s1, s2, s3⟩ := stuck_ops hs
        simp only []
        rw [s1, if_pos s3]
end Go.Proofs.YthgddbdkdloobaaDoor
