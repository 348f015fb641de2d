import Derived.Test.YthpmdgkhpigofaaJ
namespace Go.Proofs.Ythpmdgkhpigofaa
open Go.RowKit

section
variable (a b : ByteArray)
theorem gb_right (i : Nat) : gb (a ++ b) (a.size + i) = gb b i := by
  unfold gb; rw [data_app]
  have h : (a.data.toList ++ b.data.toList)[a.size + i]? = b.data.toList[i]? := by
    have hl : a.data.toList.length = a.size := by simp
    rw [List.getElem?_append_right (by omega), hl, Nat.add_sub_cancel_left]
  rw [List.getD_eq_getElem?_getD, List.getD_eq_getElem?_getD, h]
theorem gb_left (i : Nat) (h : i < a.size) : gb (a ++ b) i = gb a i := by
  unfold gb; rw [data_app]
  have h' : i < a.data.toList.length := by simpa using h
  simp only [List.getD_eq_getElem?_getD]
  rw [List.getElem?_append_left h']
theorem size_app : (a ++ b).size = a.size + b.size := ByteArray.size_append
theorem rb_right (i : Nat) : rb (a ++ b) (a.size + i) = rb b i := by
  unfold rb
  rw [gb_right, size_app, Nat.add_assoc, gb_right]
  simp only [Nat.add_lt_add_iff_left]
theorem rbn_right (i : Nat) : rbn (a ++ b) (a.size + i) = a.size + rbn b i := by
  unfold rbn
  rw [gb_right, size_app, Nat.add_assoc]
  simp only [Nat.add_lt_add_iff_left]
  split <;> omega
theorem nbOf_right (i : Nat) : nbOf (a ++ b) (a.size + i) = nbOf b i := by
  unfold nbOf
  rw [gb_right, size_app]
  simp only [Nat.add_lt_add_iff_left]
theorem iOf_right (nb : Bool) (n i : Nat) : iOf nb (n + i) = n + iOf nb i := by unfold iOf; split <;> omega

theorem rs_right : ∀ (n k : Nat) (fb : Bool) (f : Nat → Bool), rs (a ++ b) n (a.size + k) fb f = ((rs b n k fb f).1, if (rs b n k fb f).2 = 0 then 0 else a.size + (rs b n k fb f).2) := by
  intro n
  induction n with
  | zero => intro k fb f; rfl
  | succ n ih =>
    intro k fb f
    rw [rs, rs]
    simp only [gb_right, size_app, Nat.add_lt_add_iff_left, rbn_right, Nat.add_assoc, rb_right]
    by_cases hk : k < b.size
    · rw [if_pos hk, if_pos hk]
      by_cases h93 : gb b k = 93 ∧ fb = false
      · rw [if_pos h93, if_pos h93]; simp
      · rw [if_neg h93, if_neg h93]
        by_cases hs : rbn b k + 1 < b.size ∧ gb b (rbn b k) = 45 ∧ gb b (rbn b k + 1) ≠ 93
        · rw [if_pos hs, if_pos hs, ih]
        · rw [if_neg hs, if_neg hs, ih]
    · rw [if_neg hk, if_neg hk]; rfl

theorem rdSet_right (i : Nat) : rdSet (a ++ b) (a.size + i) = ((rdSet b i).1, if (rdSet b i).2 = 0 then 0 else a.size + (rdSet b i).2) := by
  unfold rdSet
  simp only [nbOf_right, iOf_right, size_app]
  rw [show a.size + b.size + 1 - (a.size + iOf (nbOf b i) i) = b.size + 1 - iOf (nbOf b i) i from by omega, rs_right]

theorem pcs_right : ∀ (n i : Nat) (cl : Bool), pcs (a ++ b) n (a.size + i) cl = pcs b n i cl := by
  intro n
  induction n with
  | zero => intro i cl; rfl
  | succ n ih =>
    intro i cl
    rw [pcs, pcs]
    simp only [gb_right, size_app, Nat.add_lt_add_iff_left, rbn_right, Nat.add_assoc, rb_right, rdSet_right, ih]
    by_cases h0 : (rdSet b (i + 1)).2 = 0
    · simp [h0]
    · simp only [h0, if_false, ih]
      rw [if_pos (show a.size + (rdSet b (i + 1)).2 ≠ 0 from by omega), if_pos h0]

theorem pcs_both : ∀ (m n i : Nat), a.size - i = m → i ≤ a.size → (a ++ b).size < n + i → (∀ c ∈ a.data.toList, c ≠ 91 ∧ c ≠ 92) → pcs (a ++ b) n i true = (a.data.toList.drop i).map cls ++ pcs b (b.size + 1) 0 true := by
  intro m
  induction m with
  | zero =>
    intro n i hm hi hn _
    have : i = a.size + 0 := by omega
    subst this
    rw [pcs_right, List.drop_eq_nil_of_le (by simp)]
    rw [size_app] at hn
    simpa using pcs_fuel b n (b.size + 1) 0 true (by omega) (by omega)
  | succ m ih =>
    intro n i hm hi hn hno
    have hl : i < a.data.toList.length := by simp; omega
    have hg : a.data.toList[i] = gb a i := by unfold gb; rw [List.getD_eq_getElem?_getD, List.getElem?_eq_getElem hl]; rfl
    have hgl := gb_left a b i (by omega)
    have hn2 := hno _ (gb_mem (p := a) (j := i) (by omega))
    rw [List.drop_eq_getElem_cons hl, List.map_cons, hg, List.cons_append]
    rw [size_app] at hn
    obtain ⟨n', rfl⟩ : ∃ n', n = n' + 1 := ⟨n - 1, by omega⟩
    have ih' := ih n' (i + 1) (by omega) (by omega) (by rw [size_app]; omega) hno
    have hrb : rb (a ++ b) i = gb a i := by rw [rb_plain (by rw [hgl]; exact hn2.2), hgl]
    have hrn : rbn (a ++ b) i = i + 1 := rbn_plain (by rw [hgl]; exact hn2.2)
    rw [pcs, if_pos (by rw [size_app]; omega), hgl]
    unfold cls
    by_cases h1 : gb a i = 42
    · rw [if_pos h1, if_pos h1, ih']; rfl
    · rw [if_neg h1, if_neg h1]
      by_cases h2 : gb a i = 63
      · rw [if_pos h2, if_pos h2, ih']; rfl
      · rw [if_neg h2, if_neg h2, if_neg (fun h => hn2.1 h.1), hrb, hrn, ih']; rfl

theorem Mx_left : ∀ (its : List It) (o e : Nat), e ≤ a.size → (Mx (a ++ b) its o e ↔ Mx a its o e)
  | [], o, e, _ => by simp [Mx]
  | it :: its, o, e, h => by
    simp only [Mx]
    split
    · constructor
      · rintro ⟨k, h1, h2, h3⟩; exact ⟨k, h1, h2, (Mx_left its k e h).1 h3⟩
      · rintro ⟨k, h1, h2, h3⟩; exact ⟨k, h1, h2, (Mx_left its k e h).2 h3⟩
    · rw [Mx_left its (o + 1) e h]
      constructor
      · rintro ⟨h1, h2, h3⟩; rw [gb_left a b o (by omega)] at h2; exact ⟨h1, h2, h3⟩
      · rintro ⟨h1, h2, h3⟩; rw [← gb_left a b o (by omega)] at h2; exact ⟨h1, h2, h3⟩

theorem Mx_right : ∀ (its : List It) (o e : Nat), Mx (a ++ b) its (a.size + o) (a.size + e) ↔ Mx b its o e
  | [], o, e => by simp [Mx]
  | it :: its, o, e => by
    simp only [Mx, gb_right]
    split
    · constructor
      · rintro ⟨k, h1, h2, h3⟩
        have := (Mx_right its (k - a.size) e).1 (by rw [show a.size + (k - a.size) = k from by omega]; exact h3)
        exact ⟨k - a.size, by omega, by omega, this⟩
      · rintro ⟨k, h1, h2, h3⟩; exact ⟨a.size + k, by omega, by omega, (Mx_right its k e).2 h3⟩
    · rw [Nat.add_assoc, Mx_right its (o + 1) e]
      simp only [Nat.add_lt_add_iff_left]
end

def NoSet (a : ByteArray) : Prop := ∀ c ∈ a.data.toList, c ≠ 91 ∧ c ≠ 92

theorem Matches_app {a b s t : ByteArray} (hno : NoSet a) (h1 : Matches a s) (h2 : Matches b t) : Matches (a ++ b) (s ++ t) := by
  unfold Matches
  rw [pcs_both a b a.size ((a ++ b).size + 1) 0 (by omega) (by omega) (by omega) hno, List.drop_zero, Mx_append]
  rw [Matches_plain hno] at h1
  refine ⟨s.size, (Mx_left s t _ 0 s.size (Nat.le_refl _)).2 h1, ?_⟩
  rw [size_app]
  have := (Mx_right s t (pcs b (b.size + 1) 0 true) 0 t.size).2 h2
  simpa using this

theorem NoSet_app {a b : ByteArray} (h : NoSet a) (hb : NoSet b) : NoSet (a ++ b) := by
  intro c hc
  rw [data_app] at hc
  rcases List.mem_append.1 hc with h' | h'
  · exact h c h'
  · exact hb c h'

theorem Matches_star (s : ByteArray) : Matches ⟨#[42]⟩ s := by
  rw [Matches_plain (by intro c hc; simp at hc; subst hc; decide)]
  show Mx s [itStar] 0 s.size
  rw [Mx, if_pos (by decide)]
  exact ⟨s.size, by omega, Nat.le_refl _, rfl⟩

theorem Matches_dots (a s : ByteArray) (x : ByteArray) (hno : NoSet a) (h : Matches a s) : Matches (a ++ ⟨#[42]⟩) (s ++ x) :=
  Matches_app hno h (Matches_star x)

theorem Matches_stars (s : ByteArray) : Matches ⟨#[42, 42]⟩ s := by
  rw [Matches_plain (by intro c hc; simp at hc; subst hc; decide)]
  show Mx s [itStar, itStar] 0 s.size
  rw [Mx, if_pos (by decide)]
  refine ⟨0, by omega, by omega, ?_⟩
  rw [Mx, if_pos (by decide)]
  exact ⟨s.size, by omega, Nat.le_refl _, rfl⟩

theorem app_nil (s : ByteArray) : s ++ (⟨#[]⟩ : ByteArray) = s := by
  apply ByteArray.ext
  simp

theorem Matches_two (a s : ByteArray) (hno : NoSet a) (h : Matches a s) : Matches (a ++ ⟨#[42, 42]⟩) s := by
  have := Matches_app hno h (Matches_stars ⟨#[]⟩)
  rwa [app_nil] at this
end Go.Proofs.Ythpmdgkhpigofaa
