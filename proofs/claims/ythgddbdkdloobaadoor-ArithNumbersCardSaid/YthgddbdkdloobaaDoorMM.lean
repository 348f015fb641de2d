import Derived.Test.YthgddbdkdloobaaDoorM
namespace Go.Proofs.YthgddbdkdloobaaDoor
open Go.RowKit
set_option linter.unusedVariables false

/-! What stands behind. -/
def sepT (t : Bs) : Prop := ∀ c u, t = c :: u → isDig c = false ∧ isLet c = false
def tailT (t : Bs) : Prop := ∀ c u, t = c :: u → c ≠ 124 ∧ c ≠ 38 ∧ c ≠ 61 ∧ c ≠ 60 ∧ c ≠ 62
theorem skp_app {t : Bs} (ht : skp t = t) : ∀ r : Bs, skp (r ++ t) = skp r ++ t
  | [] => ht
  | c :: r => by
    have ih := skp_app ht r
    unfold skp at ih ⊢
    rw [List.cons_append, List.dropWhile_cons, List.dropWhile_cons]
    split
    · exact ih
    · rfl
theorem opL_app {r t : Bs} (hr : r ≠ []) (ht : tailT t) : opL (r ++ t) = opL r := by
  cases r with
  | nil => exact absurd rfl hr
  | cons a r =>
    cases r with
    | cons b r => unfold opL; simp
    | nil =>
      cases t with
      | nil => rfl
      | cons c u =>
        obtain ⟨h1, h2, h3, h4, h5⟩ := ht c u rfl
        have e1 : twos.contains (([a] ++ c :: u).take 2) = false := by simp [twos, h1, h2, h3, h4, h5]
        have e2 : twos.contains (([a] : Bs).take 2) = false := by simp [twos]
        have g1 : opL ([a] ++ c :: u) = if ones.contains a then [a] else [] := by unfold opL; rw [if_neg (by rw [e1]; simp)]; rfl
        have g2 : opL [a] = if ones.contains a then [a] else [] := by unfold opL; rw [if_neg (by rw [e2]; simp)]; rfl
        rw [g1, g2]
theorem tw_app {p : UInt8 → Bool} {t : Bs} (ht : ∀ c u, t = c :: u → p c = false) : ∀ r : Bs, ((r ++ t).takeWhile p).length = (r.takeWhile p).length
  | [] => by
    cases t with
    | nil => rfl
    | cons c u => simp [ht c u rfl]
  | c :: r => by
    have ih := tw_app ht r
    rw [List.cons_append, List.takeWhile_cons, List.takeWhile_cons]
    split
    · simp only [List.length_cons]; rw [ih]
    · rfl
theorem digL_app {r t : Bs} (ht : sepT t) : digL (r ++ t) = digL r := tw_app (fun c u e => (ht c u e).1) r
theorem nmL_app {r t : Bs} (ht : sepT t) : nmL (r ++ t) = nmL r := by
  cases r with
  | nil =>
    cases t with
    | nil => rfl
    | cons c u => simp [nmL, (ht c u rfl).2]
  | cons c r =>
    have := tw_app (p := fun c => isLet c || isDig c) (fun c u e => by rw [(ht c u e).1, (ht c u e).2]; rfl) r
    simp only [List.cons_append, nmL]
    rw [this]
def closes (t : Bs) : Prop := t = [] ∨ ∃ u, t = 41 :: u
theorem closes.skp {t : Bs} (h : closes t) : skp t = t := by
  rcases h with rfl | ⟨u, rfl⟩
  · rfl
  · rfl
theorem closes.sep {t : Bs} (h : closes t) : sepT t := by
  rcases h with rfl | ⟨u, rfl⟩
  · intro c u e; cases e
  · intro c u e; cases e; exact ⟨rfl, rfl⟩
theorem closes.tail {t : Bs} (h : closes t) : tailT t := by
  rcases h with rfl | ⟨u, rfl⟩
  · intro c u e; cases e
  · intro c u e; cases e; decide
theorem opL_close (u : Bs) : opL (41 :: u) = [41] := by
  unfold opL
  rw [if_neg (by rw [two_first (by decide)]; simp)]
  rfl
theorem closes.op {t : Bs} (h : closes t) : lv (opL t) = 0 ∧ isUn (opL t) = false ∧ opL t ≠ [40] := by
  rcases h with rfl | ⟨u, rfl⟩
  · decide
  · rw [opL_close]; decide
theorem closes.lv {r t : Bs} (h : closes t) : lv (opL (r ++ t)) = lv (opL r) := by
  by_cases hr : r = []
  · subst hr; exact h.op.1
  · rw [opL_app hr h.tail]
theorem closes.un {r t : Bs} (h : closes t) : isUn (opL (r ++ t)) = isUn (opL r) := by
  by_cases hr : r = []
  · subst hr; exact h.op.2.1
  · rw [opL_app hr h.tail]
theorem closes.head {r t : Bs} (h : closes t) : ((r ++ t).headD 0 = 40) = (r.headD 0 = 40) := by
  cases r with
  | nil =>
    rcases h with rfl | ⟨u, rfl⟩
    · rfl
    · simp
  | cons c r => rfl
theorem opL_ne {r : Bs} (h : 1 ≤ (opL r).length) : r ≠ [] := by
  rintro rfl
  exact absurd h (by decide)
section
variable {lim : Bool} {V : Bs → Option Int}
/-- What stands behind a whole expression, and how deep it stands, changes nothing; but it may then be too deep. -/
theorem ev_local {t : Bs} (ht : closes t) : ∀ n m r z d d' v r' z', okM m → d ≤ d' → d' ≤ 40 → ev lim V n m r z d = .ok (v, r', z') →
    ev lim V n m (r ++ t) z d' = .ok (v, r' ++ t, z') ∨ ev lim V n m (r ++ t) z d' = .error 3 := by
  intro n
  induction n with
  | zero => intro m r z d d' v r' z' _ _ _ h; cases h
  | succ n ih =>
    intro m r z d d' v r' z' hm hd hd' h
    cases m with
    | bin l =>
      rw [ev_bin] at h ⊢
      split at h
      · cases h
      · rename_i v1 r1 z1 h1
        rcases ih .pre _ _ _ d' _ _ _ trivial hd hd' h1 with e | e
        · rw [e]; exact ih (.loop l v1) _ _ _ d' _ _ _ hm hd hd' h
        · rw [e]; exact .inr rfl
    | loop l v0 =>
      rw [ev_loop] at h ⊢
      rw [skp_app ht.skp, ht.lv]
      split at h
      · rename_i hlv
        rw [if_pos hlv]
        cases h
        exact .inl rfl
      · rename_i hlv
        rw [if_neg hlv]
        have h1l : 1 ≤ lv (opL (skp r)) := Nat.le_trans hm (by omega)
        have hne := opL_ne (lv_pos h1l)
        have hol := opL_len (skp r)
        rw [opL_app hne ht.tail, List.drop_append_of_le_length hol.1]
        split at h
        · cases h
        · rename_i v1 r1 z1 h1
          rcases ih (.bin _) _ _ _ d' _ _ _ (show 1 ≤ _ by omega) hd hd' h1 with e | e
          · rw [e]; exact ih (.loop l _) _ _ _ d' _ _ _ hm hd hd' h
          · rw [e]; exact .inr rfl
    | pre =>
      rw [ev_pre] at h ⊢
      rw [skp_app ht.skp, ht.un]
      split at h
      · rename_i hu
        rw [if_pos hu]
        have hlen := un_len hu
        have hne := opL_ne (r := skp r) (by omega)
        have hol := opL_len (skp r)
        rw [opL_app hne ht.tail, List.drop_append_of_le_length (by omega)]
        split at h
        · cases h
        · rename_i v1 r1 z1 h1
          cases h
          rcases ih .pre _ _ _ d' _ _ _ trivial hd hd' h1 with e | e
          · rw [e]; exact .inl rfl
          · rw [e]; exact .inr rfl
      · rename_i hu
        rw [if_neg hu]
        exact ih .opd _ _ _ d' _ _ _ trivial hd hd' h
    | opd =>
      rw [ev_opd] at h ⊢
      have hdl := digL_le r
      have hnl := nmL_le r
      simp only [ht.head]
      rw [digL_app ht.sep, nmL_app ht.sep, List.take_append_of_le_length hdl, List.drop_append_of_le_length hdl, List.take_append_of_le_length (by omega), List.drop_append_of_le_length (by omega)]
      split at h
      · rename_i h0
        rw [if_pos h0]; cases h; exact .inl rfl
      · rename_i h0
        rw [if_neg h0]
        split at h
        · rename_i h1
          rw [if_pos h1]
          split at h
          · cases h
          · rename_i h2
            rw [if_neg h2]
            split at h
            · cases h
            · rename_i v1 h3
              cases h
              exact .inl rfl
        · rename_i h1
          rw [if_neg h1]
          split at h
          · rename_i h40
            rw [if_pos h40]
            have hl := head_len h40
            split at h
            · cases h
            · rename_i hd40
              by_cases hd2 : d' = 40
              · rw [if_pos hd2]; exact .inr rfl
              · rw [if_neg hd2, List.drop_append_of_le_length (by rw [List.length_drop] at hl; omega)]
                split at h
                · cases h
                · rename_i v1 r1 z1 h3
                  rcases ih (.bin 1) _ _ _ (d' + 1) _ _ _ (Nat.le_refl 1) (by omega) (by omega) h3 with e | e
                  · rw [e]
                    simp only []
                    split at h
                    · rename_i h41
                      cases h
                      have hne : skp r1 ≠ [] := opL_ne (by rw [h41]; decide)
                      have hol := (opL_len (skp r1)).1
                      rw [h41] at hol
                      rw [skp_app ht.skp, opL_app hne ht.tail, if_pos h41, List.drop_append_of_le_length (by simpa using hol)]
                      exact .inl rfl
                    · cases h
                  · rw [e]; exact .inr rfl
          · cases h
def mapZ (z : Bool) : Rs → Rs | .error e => .error e | .ok (v, r, y) => .ok (v, r, z || y)
theorem mapZ_mapZ (a b : Bool) (x : Rs) : mapZ a (mapZ b x) = mapZ (a || b) x := by
  rcases x with e | ⟨v, r, y⟩
  · rfl
  · simp only [mapZ, Bool.or_assoc]
/-- Whether something was divided by nought before is only carried on. -/
theorem ev_zero : ∀ n m r z d, ev lim V n m r z d = mapZ z (ev lim V n m r false d) := by
  intro n
  induction n with
  | zero => intro m r z d; rfl
  | succ n ih =>
    intro m r z d
    cases m with
    | bin l =>
      rw [ev_bin, ev_bin, ih .pre r z d]
      cases ev lim V n .pre r false d with
      | error e => rfl
      | ok x =>
        obtain ⟨v, r1, z1⟩ := x
        change ev lim V n (.loop l v) r1 (z || z1) d = mapZ z (ev lim V n (.loop l v) r1 z1 d)
        rw [ih (.loop l v) r1 (z || z1) d, ih (.loop l v) r1 z1 d, mapZ_mapZ]
    | loop l v =>
      rw [ev_loop, ev_loop]
      split
      · simp [mapZ]
      · rw [ih (.bin _) _ z d]
        cases ev lim V n (.bin (lv (opL (skp r)) + 1)) ((skp r).drop (opL (skp r)).length) false d with
        | error e => rfl
        | ok x =>
          obtain ⟨b, r1, z1⟩ := x
          change ev lim V n (.loop l (ap (opL (skp r)) v b).1) r1 ((z || z1) || (ap (opL (skp r)) v b).2) d = mapZ z (ev lim V n (.loop l (ap (opL (skp r)) v b).1) r1 (z1 || (ap (opL (skp r)) v b).2) d)
          rw [ih (.loop l _) r1 ((z || z1) || _) d, ih (.loop l _) r1 (z1 || _) d, mapZ_mapZ, Bool.or_assoc]
    | pre =>
      rw [ev_pre, ev_pre]
      split
      · rw [ih .pre _ z d]
        cases ev lim V n .pre ((skp r).drop 1) false d with
        | error e => rfl
        | ok x => rfl
      · exact ih .opd _ z d
    | opd =>
      rw [ev_opd, ev_opd]
      split
      · simp [mapZ]
      · split
        · split
          · rfl
          · cases V (r.take (min (nmL r) 60)) with
            | none => rfl
            | some v => simp [mapZ]
        · split
          · split
            · rfl
            · rw [ih (.bin 1) _ z (d + 1)]
              cases ev lim V n (.bin 1) (r.drop 1) false (d + 1) with
              | error e => rfl
              | ok x =>
                obtain ⟨v, r1, z1⟩ := x
                simp only [mapZ]
                split <;> rfl
          · rfl
/-! A blank at the end. -/
def blR (r r2 : Bs) : Prop := r2 = r ∨ r2 = r ++ [10]
theorem ten_sep : sepT [10] := by intro c u e; cases e; exact ⟨rfl, rfl⟩
theorem ten_tail : tailT [10] := by intro c u e; cases e; decide
theorem skp_ten : ∀ r : Bs, blR (skp r) (skp (r ++ [10]))
  | [] => .inl rfl
  | c :: r => by
    have ih := skp_ten r
    unfold skp at ih ⊢
    rw [List.cons_append, List.dropWhile_cons, List.dropWhile_cons]
    split
    · exact ih
    · exact .inr rfl
theorem blR.skp {r r2 : Bs} (h : blR r r2) : blR (skp r) (skp r2) := by
  rcases h with rfl | rfl
  · exact .inl rfl
  · exact skp_ten r
theorem opL_ten (r : Bs) : opL (r ++ [10]) = opL r := by
  cases r with
  | nil => rfl
  | cons c r => exact opL_app (by simp) ten_tail
theorem blR.op {r r2 : Bs} (h : blR r r2) : opL r2 = opL r := by
  rcases h with rfl | rfl
  · rfl
  · exact opL_ten r
theorem blR.drop {r r2 : Bs} {k : Nat} (h : blR r r2) (hk : k ≤ r.length) : blR (r.drop k) (r2.drop k) := by
  rcases h with rfl | rfl
  · exact .inl rfl
  · exact .inr (List.drop_append_of_le_length hk)
theorem blR.take {r r2 : Bs} {k : Nat} (h : blR r r2) (hk : k ≤ r.length) : r2.take k = r.take k := by
  rcases h with rfl | rfl
  · rfl
  · exact List.take_append_of_le_length hk
theorem blR.dig {r r2 : Bs} (h : blR r r2) : digL r2 = digL r := by
  rcases h with rfl | rfl
  · rfl
  · exact digL_app ten_sep
theorem blR.nm {r r2 : Bs} (h : blR r r2) : nmL r2 = nmL r := by
  rcases h with rfl | rfl
  · rfl
  · exact nmL_app ten_sep
theorem blR.head {r r2 : Bs} (h : blR r r2) : (r2.headD 0 = 40) = (r.headD 0 = 40) := by
  rcases h with rfl | rfl
  · rfl
  · cases r with
    | nil => simp
    | cons c r => rfl
theorem blR_nil {r r2 : Bs} (h : blR r r2) : (skp r2 = []) = (skp r = []) := by
  rcases h with rfl | rfl
  · rfl
  · have key : ∀ r : Bs, (skp (r ++ [10]) = []) = (skp r = []) := by
      intro r
      induction r with
      | nil => exact propext ⟨fun _ => rfl, fun _ => rfl⟩
      | cons c r ih =>
        unfold skp at ih ⊢
        rw [List.cons_append, List.dropWhile_cons, List.dropWhile_cons]
        split
        · exact ih
        · simp
    exact key r
def blRs (x y : Rs) : Prop := (∃ e, x = .error e ∧ y = .error e) ∨ ∃ v a b z, x = .ok (v, a, z) ∧ y = .ok (v, b, z) ∧ blR a b
theorem ev_blank : ∀ n m r r2 z d, blR r r2 → blRs (ev lim V n m r z d) (ev lim V n m r2 z d) := by
  intro n
  induction n with
  | zero => intro m r r2 z d h; exact .inl ⟨0, rfl, rfl⟩
  | succ n ih =>
    intro m r r2 z d h
    cases m with
    | bin l =>
      rw [ev_bin, ev_bin]
      rcases ih .pre r r2 z d h with ⟨e, e1, e2⟩ | ⟨v, a, b, z1, e1, e2, hab⟩
      · rw [e1, e2]; exact .inl ⟨e, rfl, rfl⟩
      · rw [e1, e2]; exact ih (.loop l v) a b z1 d hab
    | loop l v =>
      rw [ev_loop, ev_loop, h.skp.op]
      split
      · exact .inr ⟨v, _, _, z, rfl, rfl, h.skp⟩
      · rcases ih (.bin (lv (opL (skp r)) + 1)) _ _ z d (h.skp.drop (opL_len (skp r)).1) with ⟨e, e1, e2⟩ | ⟨v, a, b, z1, e1, e2, hab⟩
        · rw [e1, e2]; exact .inl ⟨e, rfl, rfl⟩
        · rw [e1, e2]; exact ih (.loop l _) a b _ d hab
    | pre =>
      rw [ev_pre, ev_pre, h.skp.op]
      split
      · rename_i hu
        have hlen := un_len hu
        have hol := (opL_len (skp r)).1
        rcases ih .pre _ _ z d (h.skp.drop (k := 1) (by omega)) with ⟨e, e1, e2⟩ | ⟨v, a, b, z1, e1, e2, hab⟩
        · rw [e1, e2]; exact .inl ⟨e, rfl, rfl⟩
        · rw [e1, e2]; exact .inr ⟨_, a, b, z1, rfl, rfl, hab⟩
      · exact ih .opd _ _ z d h.skp
    | opd =>
      have hdl := digL_le r
      have hnl := nmL_le r
      rw [ev_opd, ev_opd]
      simp only [h.head]
      rw [h.dig, h.nm, h.take hdl, h.take (by omega : min (nmL r) 60 ≤ r.length)]
      split
      · exact .inr ⟨_, _, _, z, rfl, rfl, h.drop hdl⟩
      · split
        · split
          · exact .inl ⟨2, rfl, rfl⟩
          · cases V (r.take (min (nmL r) 60)) with
            | none => exact .inl ⟨2, rfl, rfl⟩
            | some v => exact .inr ⟨v, _, _, z, rfl, rfl, h.drop (by omega)⟩
        · split
          · rename_i h40
            have hl := head_len h40
            split
            · exact .inl ⟨3, rfl, rfl⟩
            · rcases ih (.bin 1) _ _ z (d + 1) (h.drop (k := 1) (by rw [List.length_drop] at hl; omega)) with ⟨e, e1, e2⟩ | ⟨v, a, b, z1, e1, e2, hab⟩
              · rw [e1, e2]; exact .inl ⟨e, rfl, rfl⟩
              · rw [e1, e2]
                simp only []
                rw [hab.skp.op]
                split
                · rename_i h41
                  have hol := (opL_len (skp a)).1
                  rw [h41] at hol
                  exact .inr ⟨v, _, _, z1, rfl, rfl, hab.skp.drop (by simpa using hol)⟩
                · exact .inl ⟨2, rfl, rfl⟩
          · exact .inl ⟨2, rfl, rfl⟩
end
end Go.Proofs.YthgddbdkdloobaaDoor
