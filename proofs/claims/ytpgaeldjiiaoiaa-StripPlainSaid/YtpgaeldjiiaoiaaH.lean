import Derived.Test.YtpgaeldjiiaoiaaG
namespace Go.Proofs.Ytpgaeldjiiaoiaa
open Go.RowKit

/-- The items match the bytes of s from o up to e. -/
def Mx (s : ByteArray) : List It → Nat → Nat → Prop
  | [], o, e => o = e
  | it :: its, o, e => if it.1 = 3 then ∃ k, o ≤ k ∧ k ≤ e ∧ Mx s its k e else o < e ∧ it.2.2 (gb s o) = true ∧ Mx s its (o + 1) e

theorem Mx.le {s : ByteArray} : ∀ {its : List It} {o e : Nat}, Mx s its o e → o ≤ e
  | [], o, e, h => by unfold Mx at h; omega
  | it :: its, o, e, h => by
    unfold Mx at h
    split at h
    · obtain ⟨k, h1, h2, _⟩ := h; omega
    · omega

theorem Mx_append (s : ByteArray) : ∀ (a b : List It) (o e : Nat), Mx s (a ++ b) o e ↔ ∃ k, Mx s a o k ∧ Mx s b k e
  | [], b, o, e => by simp [Mx]
  | it :: a, b, o, e => by
    simp only [List.cons_append, Mx]
    split
    · constructor
      · rintro ⟨k, h1, h2, h3⟩
        obtain ⟨k', h4, h5⟩ := (Mx_append s a b k e).1 h3
        exact ⟨k', ⟨k, h1, h4.le, h4⟩, h5⟩
      · rintro ⟨k', ⟨k, h1, h2, h4⟩, h5⟩
        exact ⟨k, h1, Nat.le_trans h2 h5.le, (Mx_append s a b k e).2 ⟨k', h4, h5⟩⟩
    · constructor
      · rintro ⟨h1, h2, h3⟩
        obtain ⟨k', h4, h5⟩ := (Mx_append s a b (o + 1) e).1 h3
        exact ⟨k', ⟨by have := h4.le; omega, h2, h4⟩, h5⟩
      · rintro ⟨k', ⟨h1, h2, h4⟩, h5⟩
        exact ⟨by have := h5.le; omega, h2, (Mx_append s a b (o + 1) e).2 ⟨k', h4, h5⟩⟩

/-- The runs match, one behind the other, with whatever between them. -/
def MR (s : ByteArray) : List (List Pc) → Nat → Nat → Prop
  | [], _, _ => False
  | [r], o, e => fitsB s o r = true ∧ o + r.length = e
  | r :: r2 :: rs, o, e => fitsB s o r = true ∧ ∃ k, o + r.length ≤ k ∧ k ≤ e ∧ MR s (r2 :: rs) k e

theorem MR_cons {s : ByteArray} {r : List Pc} {rs : List (List Pc)} (h : rs ≠ []) (o e : Nat) : MR s (r :: rs) o e ↔ fitsB s o r = true ∧ ∃ k, o + r.length ≤ k ∧ k ≤ e ∧ MR s rs k e := by
  cases rs with
  | nil => exact absurd rfl h
  | cons r2 rs => rfl

theorem Mx_runs (s : ByteArray) : ∀ (ps : List Pc) (o e : Nat), Mx s (ps.map sem) o e ↔ MR s (runs ps) o e
  | [], o, e => by simp [Mx, runs, MR, fitsB]
  | p :: ps, o, e => by
    have ih := Mx_runs s ps
    simp only [List.map_cons, Mx]
    rw [show (sem p).1 = p.kind from rfl, show (sem p).2.2 (gb s o) = tk p (gb s o) from rfl]
    by_cases h3 : p.kind = 3
    · rw [if_pos h3, runs, if_pos h3, MR_cons (runs_ne ps)]
      simp only [fitsB, List.length_nil, Nat.add_zero, true_and]
      constructor
      · rintro ⟨k, h1, h2, h⟩; exact ⟨k, h1, h2, (ih k e).1 h⟩
      · rintro ⟨k, h1, h2, h⟩; exact ⟨k, h1, h2, (ih k e).2 h⟩
    · rw [if_neg h3, runs, if_neg h3, ih (o + 1) e]
      split
      · next hr => exact absurd hr (runs_ne ps)
      · next r rs hr =>
        rw [hr]
        cases rs with
        | nil =>
          simp only [MR, fitsB, List.length_cons, Bool.and_eq_true]
          constructor
          · rintro ⟨h1, h2, h4, h5⟩; exact ⟨⟨h2, h4⟩, by omega⟩
          · rintro ⟨⟨h2, h4⟩, h5⟩; exact ⟨by omega, h2, h4, by omega⟩
        | cons r2 rs =>
          simp only [MR, fitsB, List.length_cons, Bool.and_eq_true]
          constructor
          · rintro ⟨h1, h2, h4, k, h5, h6, h7⟩; exact ⟨⟨h2, h4⟩, k, by omega, h6, h7⟩
          · rintro ⟨⟨h2, h4⟩, k, h5, h6, h7⟩; exact ⟨by omega, h2, h4, k, by omega, h6, h7⟩

/-- The middle runs match somewhere from o on, before e. -/
def MM (s : ByteArray) (e : Nat) : List (List Pc) → Nat → Prop
  | [], o => o ≤ e
  | r :: rs, o => ∃ k, o ≤ k ∧ k + r.length ≤ e ∧ fitsB s k r = true ∧ MM s e rs (k + r.length)

theorem MM.mono {s : ByteArray} {e : Nat} : ∀ {rs : List (List Pc)} {o o' : Nat}, MM s e rs o → o' ≤ o → MM s e rs o'
  | [], o, o', h, hl => by unfold MM at h ⊢; omega
  | r :: rs, o, o', h, hl => by
    obtain ⟨k, h1, h2, h3, h4⟩ := h
    exact ⟨k, by omega, h2, h3, h4⟩

theorem MM.le {s : ByteArray} {e : Nat} : ∀ {rs : List (List Pc)} {o : Nat}, MM s e rs o → o ≤ e
  | [], o, h => h
  | r :: rs, o, h => by obtain ⟨k, h1, h2, h3, h4⟩ := h; omega

theorem MR_mid (s : ByteArray) (t : List Pc) (n : Nat) : ∀ (mid : List (List Pc)) (o : Nat), (∃ k, o ≤ k ∧ k ≤ n ∧ MR s (mid ++ [t]) k n) ↔ t.length ≤ n ∧ fitsB s (n - t.length) t = true ∧ MM s (n - t.length) mid o
  | [], o => by
    simp only [List.nil_append, MR, MM]
    constructor
    · rintro ⟨k, h1, h2, h3, h4⟩
      have : k = n - t.length := by omega
      subst this
      exact ⟨by omega, h3, by omega⟩
    · rintro ⟨h1, h2, h3⟩
      exact ⟨n - t.length, h3, by omega, h2, by omega⟩
  | r :: mid, o => by
    have ih := MR_mid s t n mid
    simp only [List.cons_append, MM]
    constructor
    · rintro ⟨k, h1, h2, h⟩
      rw [MR_cons (by simp)] at h
      obtain ⟨h3, k2, h4, h5, h6⟩ := h
      obtain ⟨h7, h8, h9⟩ := (ih (k + r.length)).1 ⟨k2, h4, h5, h6⟩
      exact ⟨h7, h8, k, h1, h9.le, h3, h9⟩
    · rintro ⟨h7, h8, k, h1, h2, h3, h9⟩
      obtain ⟨k2, h4, h5, h6⟩ := (ih (k + r.length)).2 ⟨h7, h8, h9⟩
      exact ⟨k, h1, by omega, (MR_cons (by simp) _ _).2 ⟨h3, k2, h4, h5, h6⟩⟩

theorem findRun_some (s : ByteArray) (e : Nat) (r : List Pc) : ∀ (n o : Nat), e < n + o → (∀ o', findRun s e r n o = some o' → ∃ k, o ≤ k ∧ o' = k + r.length ∧ o' ≤ e ∧ fitsB s k r = true ∧ ∀ j, o ≤ j → j + r.length ≤ e → fitsB s j r = true → k ≤ j) ∧
    (findRun s e r n o = none → ∀ j, o ≤ j → j + r.length ≤ e → fitsB s j r = false)
  | 0, o, h => ⟨fun o' h' => by simp [findRun] at h', fun _ j h1 h2 => by omega⟩
  | n + 1, o, h => by
    have ih := findRun_some s e r n (o + 1) (by omega)
    rw [findRun]
    by_cases hc : o + r.length ≤ e
    · rw [if_pos hc]
      by_cases hf : fitsB s o r = true
      · rw [if_pos hf]
        refine ⟨fun o' h' => ?_, fun h' => by simp at h'⟩
        have : o + r.length = o' := by simpa using h'
        exact ⟨o, Nat.le_refl _, this.symm, by omega, hf, fun j h1 _ _ => h1⟩
      · rw [if_neg hf]
        refine ⟨fun o' h' => ?_, fun h' j h1 h2 => ?_⟩
        · obtain ⟨k, h1, h2, h3, h4, h5⟩ := ih.1 o' h'
          refine ⟨k, by omega, h2, h3, h4, fun j hj hj2 hj3 => ?_⟩
          by_cases e' : j = o
          · subst e'; exact absurd hj3 hf
          · exact h5 j (by omega) hj2 hj3
        · by_cases e' : j = o
          · subst e'; simpa using hf
          · exact ih.2 h' j (by omega) h2
    · rw [if_neg hc]
      exact ⟨fun o' h' => by simp at h', fun _ j h1 h2 => by omega⟩

theorem mids_iff (s : ByteArray) (e : Nat) : ∀ (rs : List (List Pc)) (o : Nat), o ≤ e → (mids s e rs o = true ↔ MM s e rs o)
  | [], o, h => by simp [mids, MM, h]
  | r :: rs, o, h => by
    have hf := findRun_some s e r (e + 1 - o) o (by omega)
    rw [mids]
    cases hr : findRun s e r (e + 1 - o) o with
    | none =>
      simp only [MM]
      constructor
      · intro h'; simp at h'
      · rintro ⟨k, h1, h2, h3, _⟩
        have := hf.2 hr k h1 h2
        rw [h3] at this; simp at this
    | some o' =>
      obtain ⟨k, h1, h2, h3, h4, h5⟩ := hf.1 o' hr
      simp only [MM]
      rw [mids_iff s e rs o' h3]
      constructor
      · intro h'; exact ⟨k, h1, by omega, h4, by rw [← h2]; exact h'⟩
      · rintro ⟨j, j1, j2, j3, j4⟩
        exact j4.mono (by have := h5 j j1 j2 j3; omega)

theorem gm_iff (s : ByteArray) (ps : List Pc) : gm s ps = true ↔ Mx s (ps.map sem) 0 s.size := by
  rw [Mx_runs]
  unfold gm hd tl
  have hne := runs_ne ps
  generalize runs ps = rs at *
  match rs, hne with
  | [r], _ =>
    simp only [List.length_singleton, if_true, MR, List.getD_cons_zero, Bool.and_eq_true, decide_eq_true_eq]
    constructor
    · rintro ⟨h1, h2⟩; exact ⟨h2, by omega⟩
    · rintro ⟨h1, h2⟩; exact ⟨by omega, h1⟩
  | r :: r2 :: rest, _ =>
    obtain ⟨mid, t, hmt⟩ : ∃ mid t, r2 :: rest = mid ++ [t] := ⟨(r2 :: rest).dropLast, (r2 :: rest).getLast (by simp), (List.dropLast_concat_getLast (by simp)).symm⟩
    have hl : rest.length = mid.length := by have := congrArg List.length hmt; simp at this; exact this
    rw [if_neg (by simp)]
    have e1 : (r :: r2 :: rest).getD ((r :: r2 :: rest).length - 1) [] = t := by
      rw [hmt]
      simp
    have e2 : ((r :: r2 :: rest).drop 1).take ((r :: r2 :: rest).length - 2) = mid := by
      rw [List.drop_one, List.tail_cons, hmt]
      simp only [List.length_cons]
      rw [show (mid ++ [t]).length + 1 - 2 = mid.length from by simp]
      simp
    rw [e1, e2, List.getD_cons_zero, hmt, MR_cons (by simp)]
    by_cases hfit : r.length + t.length ≤ s.size
    · rw [if_pos hfit]
      simp only [Bool.and_eq_true]
      rw [mids_iff s _ mid _ (by omega), Nat.zero_add, MR_mid s t s.size mid r.length]
      constructor
      · rintro ⟨⟨h1, h2⟩, h3⟩; exact ⟨h1, by omega, h2, h3⟩
      · rintro ⟨h1, _, h2, h3⟩; exact ⟨⟨h1, h2⟩, h3⟩
    · rw [if_neg hfit, Nat.zero_add, MR_mid s t s.size mid r.length]
      constructor
      · intro h; simp at h
      · rintro ⟨h1, h2, h3, h4⟩; have := h4.le; omega

theorem sl_of_row {w : World} {base : Nat} {v : Value} {ps : List Pc} (h : w.ownsRow base 60 6 v ps.length (flat ps)) (hlt : ∀ p ∈ ps, ∀ q, p.v q < 18446744073709551616) : Sl w v ps := by
  rcases h.2 with ⟨rfl, h0⟩ | ⟨g, cap, cur, rfl, hg, hcur, hn, hm, hcs, htk⟩
  · exact ⟨none, 0, by rw [h0], by omega, by unfold maxLen; omega, .inl (List.length_eq_zero_iff.1 h0)⟩
  · refine ⟨_, cap, rfl, hn, hm, .inr ⟨g, 0, rfl, fun j hj => ?_⟩⟩
    have hc : ∀ i u, (flat ps)[i]? = some u → w.cell? ⟨g, i, none⟩ = some u := by
      intro i u hu
      have := World.ownsRow.cells h (g := g) rfl i u hu
      simpa [Addr.add_lit] using this
    have hfl : ∀ i, i < 6 → (flat ps)[j * 6 + i]? = ps[j].cs[i]? := by
      intro i hi
      have e : flat ps = flat (ps.take j) ++ (ps[j].cs ++ flat (ps.drop (j + 1))) := by
        have h2 : ps = ps.take j ++ ps[j] :: ps.drop (j + 1) := by rw [← List.drop_eq_getElem_cons hj, List.take_append_drop]
        rw [show flat ps = flat (ps.take j ++ ps[j] :: ps.drop (j + 1)) from congrArg flat h2]
        simp only [flat, List.flatMap_append, List.flatMap_cons]
      have hl : (flat (ps.take j)).length = j * 6 := by
        have : ∀ (l : List Pc), (flat l).length = l.length * 6 := by
          intro l
          induction l with
          | nil => rfl
          | cons p l ih => simp only [flat, List.flatMap_cons, List.length_append, List.length_cons] at ih ⊢; rw [ih]; simp [Pc.cs]; omega
        rw [this]; simp; omega
      rw [e, List.getElem?_append_right (by omega), hl, Nat.add_sub_cancel_left, List.getElem?_append_left (by simp [Pc.cs]; omega)]
    refine ⟨?_, ?_, ?_, hlt _ (List.getElem_mem hj)⟩
    · have := hc (j * 6 + 0) _ (hfl 0 (by omega)); simpa using this
    · have := hc (j * 6 + 1) _ (hfl 1 (by omega)); simpa using this
    · intro q hq
      match q, hq with
      | 0, _ => have := hc (j * 6 + 2) _ (hfl 2 (by omega)); simpa using this
      | 1, _ => have := hc (j * 6 + 3) _ (hfl 3 (by omega)); simpa using this
      | 2, _ => have := hc (j * 6 + 4) _ (hfl 4 (by omega)); simpa using this
      | 3, _ => have := hc (j * 6 + 5) _ (hfl 5 (by omega)); simpa using this

/-- What Match answers. -/
def Matches (p s : ByteArray) : Prop := Mx s (pcs p (p.size + 1) 0 true) 0 s.size

set_option maxHeartbeats 400000 in
theorem Match_any (p s : ByteArray) (w : World) (hp : p.size ≤ 100000) (hs : s.size ≤ 100000) (F : Bool) (HF : Hid (F = true ↔ Matches p s)) :
    Calls Try.prog 13 #[.string p, .string s] w fun e w' => e = .returned (.bool F) ∧ Below w.heap.size w w' := by
  go_enter Try.func13, Try.ntmps13
  go_wp2_with fail
  refine (pieces_core p _ hp _ rfl).mono ?_
  rintro e w1 ⟨v, ps, rfl, hown, hlt, hsem, hlen, hB⟩
  have HSL := Lib.hid (sl_of_row hown hlt)
  have HSEM := Lib.hid hsem
  clear hsem hown hlt
  go_wp2_with fail
  refine (match_core v ps s _ hs hlen HSL.out F ?_).mono ?_
  · show F = gm s ps
    rw [Bool.eq_iff_iff, gm_iff, HF.out, HSEM.out]; rfl
  · rintro e w2 ⟨rfl, hB2⟩
    have HBB := Lib.hid (hB.trans (hB2.mono hB.size))
    clear hB2
    go_wp2_with fail
    go_ret
    exact ⟨rfl, HBB.out⟩
end Go.Proofs.Ytpgaeldjiiaoiaa
