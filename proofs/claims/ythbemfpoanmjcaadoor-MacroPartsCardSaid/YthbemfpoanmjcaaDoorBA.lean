import Derived.Test.YthbemfpoanmjcaaDoorE
namespace Go.Proofs.YthbemfpoanmjcaaDoor
set_option linter.unusedVariables false
open Go Go.Lib

/-! What texts one behind the other come to. -/
theorem idx_ge (c : UInt8) : ∀ t : Bs, -1 ≤ Lib.indexByte t c ∧ Lib.indexByte t c < t.length
  | [] => by
    have : Lib.indexByte [] c = -1 := rfl
    rw [this]; simp
  | b :: t => by
    have h := idx_ge c t
    rw [Lib.indexByte, List.length_cons]
    split
    · omega
    · split <;> omega
theorem idx_cons (b c : UInt8) (t : Bs) : Lib.indexByte (b :: t) c = if b = c then 0 else if Lib.indexByte t c < 0 then -1 else Lib.indexByte t c + 1 := by
  have hg := idx_ge c t
  rw [Lib.indexByte]
  by_cases h : b = c
  · subst h; simp
  · rw [if_neg (by simpa using h), if_neg h]
    by_cases h2 : Lib.indexByte t c < 0
    · rw [if_pos h2, if_pos (by rw [beq_iff_eq]; omega)]
    · rw [if_neg h2, if_neg (by rw [beq_iff_eq]; omega)]
theorem skip1 (rf : Bs → Nat → R) {b : UInt8} (hb : b ≠ 36) (f : Nat) (t out : Bs) (c : Nat) : piecesF rf (f + 1) (b :: t) out c = piecesF rf (f + 1) t (out ++ [b]) c := by
  have hg := idx_ge 36 t
  have e := idx_cons b 36 t
  rw [if_neg hb] at e
  by_cases hn : Lib.indexByte t 36 < 0
  · rw [if_pos hn] at e
    rw [piecesF_end (.inl (by omega)), piecesF_end (.inl hn), List.append_assoc]; rfl
  · rw [if_neg hn] at e
    obtain ⟨a, ha⟩ : ∃ a : Nat, Lib.indexByte t 36 = (a : Int) := ⟨(Lib.indexByte t 36).toNat, by omega⟩
    have e2 : Lib.indexByte (b :: t) 36 = ((a + 1 : Nat) : Int) := by omega
    by_cases hl : a + 1 = t.length
    · rw [piecesF_end (.inr (by rw [e2, List.length_cons]; omega)), piecesF_end (.inr (by rw [ha]; omega)), List.append_assoc]; rfl
    · have h1 : a + 1 < t.length := by omega
      have h1' : a + 1 + 1 < (b :: t).length := by rw [List.length_cons]; omega
      have hd : (b :: t).drop (a + 1) = t.drop a := rfl
      have ho : out ++ (b :: t).take (a + 1) = out ++ [b] ++ t.take a := by simp
      have hc1 : ¬ (((a + 1 : Nat) : Int) < 0 ∨ ((a + 1 : Nat) : Int) = ((b :: t).length : Int) - 1) := by rw [List.length_cons]; omega
      have hc2 : ¬ ((a : Int) < 0 ∨ (a : Int) = (t.length : Int) - 1) := by omega
      have eL : ∀ S : R, piecesF rf (f + 1) t (out ++ [b]) c = S → piecesF rf (f + 1) (b :: t) out c = S := fun S hS => by
        rw [piecesF, ha, if_neg hc2, Int.toNat_natCast] at hS
        rw [piecesF, e2, if_neg hc1, Int.toNat_natCast, hd, ho]
        exact hS
      exact eL _ rfl
theorem head_nil (rf : Bs → Nat → R) (f : Nat) (out : Bs) (c : Nat) : piecesF rf (f + 1) [] out c = fin3 out c := by
  rw [piecesF_end (.inl (by decide)), List.append_nil]
theorem head_one (rf : Bs → Nat → R) (f : Nat) (out : Bs) (c : Nat) : piecesF rf (f + 1) [36] out c = fin3 (out ++ [36]) c := piecesF_end (.inr (by decide))
theorem head_two (rf : Bs → Nat → R) (f : Nat) (t out : Bs) (c : Nat) : piecesF rf (f + 1) (36 :: 36 :: t) out c = piecesF rf f t (out ++ [36]) c := by
  have := piecesF_two (rf := rf) (f := f) (a := 0) (s := 36 :: 36 :: t) (out := out) (c := c) (by rw [idx_cons, if_pos rfl]; rfl) (by simp) rfl
  rw [this]; simp
theorem head_ref (rf : Bs → Nat → R) (f : Nat) {b : UInt8} (hb : b ≠ 36) (t out : Bs) (c : Nat) : piecesF rf (f + 1) (36 :: b :: t) out c =
    if 16384 < out.length then (([], 3), c) else if refN (36 :: b :: t) = 0 then (([], 2), c) else
      if (rf (((36 :: b :: t).take (refN (36 :: b :: t))).drop 1) c).1.2 ≠ 0 then (([], (rf (((36 :: b :: t).take (refN (36 :: b :: t))).drop 1) c).1.2), (rf (((36 :: b :: t).take (refN (36 :: b :: t))).drop 1) c).2)
      else piecesF rf f ((36 :: b :: t).drop (refN (36 :: b :: t))) (out ++ (rf (((36 :: b :: t).take (refN (36 :: b :: t))).drop 1) c).1.1) (rf (((36 :: b :: t).take (refN (36 :: b :: t))).drop 1) c).2 := by
  have h0 : Lib.indexByte (36 :: b :: t) 36 = ((0 : Nat) : Int) := by rw [idx_cons, if_pos rfl]; rfl
  have h2 : ((36 :: b :: t : Bs).drop 0)[1]? ≠ some 36 := by simp [hb]
  rw [piecesF, h0, if_neg (by simp only [List.length_cons]; omega), Int.toNat_natCast, if_neg h2]
  simp only [List.drop_zero, List.take_zero, List.append_nil]
/-- The four ways a text begins. -/
theorem ways (s : Bs) : s = [] ∨ (∃ b t, b ≠ 36 ∧ s = b :: t) ∨ s = [36] ∨ (∃ t, s = 36 :: 36 :: t) ∨ ∃ b t, b ≠ 36 ∧ s = 36 :: b :: t := by
  match s with
  | [] => exact .inl rfl
  | [b] =>
    by_cases h : b = 36
    · subst h; exact .inr (.inr (.inl rfl))
    · exact .inr (.inl ⟨b, [], h, rfl⟩)
  | b :: d :: t =>
    by_cases h : b = 36
    · subst h
      by_cases h2 : d = 36
      · subst h2; exact .inr (.inr (.inr (.inl ⟨t, rfl⟩)))
      · exact .inr (.inr (.inr (.inr ⟨d, t, h2, rfl⟩)))
    · exact .inr (.inl ⟨b, _, h, rfl⟩)
theorem scan_bd (o c : UInt8) : ∀ (t : Bs) (i : Nat) (k : Int), scanR o c t i k ≤ i + t.length ∧ (scanR o c t i k ≠ 0 → i + 1 ≤ scanR o c t i k)
  | [], i, k => ⟨by simp [scanR], fun h => absurd rfl h⟩
  | b :: t, i, k => by
    rw [scanR]
    split
    · have h := scan_bd o c t (i + 1) (k + 1)
      exact ⟨by rw [List.length_cons]; omega, fun h0 => by have := h.2 h0; omega⟩
    · split
      · split
        · exact ⟨by rw [List.length_cons]; omega, fun _ => Nat.le_refl _⟩
        · have h := scan_bd o c t (i + 1) (k - 1)
          exact ⟨by rw [List.length_cons]; omega, fun h0 => by have := h.2 h0; omega⟩
      · have h := scan_bd o c t (i + 1) k
        exact ⟨by rw [List.length_cons]; omega, fun h0 => by have := h.2 h0; omega⟩
theorem scan_app (o c : UInt8) (u : Bs) : ∀ (t : Bs) (i : Nat) (k : Int), scanR o c t i k ≠ 0 → scanR o c (t ++ u) i k = scanR o c t i k
  | [], i, k, h => absurd rfl h
  | b :: t, i, k, h => by
    rw [List.cons_append, scanR, scanR] at *
    by_cases h1 : b = o
    · rw [if_pos h1] at h ⊢; rw [if_pos h1]; exact scan_app o c u t _ _ h
    · rw [if_neg h1] at h ⊢; rw [if_neg h1]
      by_cases h2 : b = c
      · rw [if_pos h2] at h ⊢; rw [if_pos h2]
        by_cases h3 : k - 1 = 0
        · rw [if_pos h3, if_pos h3]
        · rw [if_neg h3] at h ⊢; rw [if_neg h3]; exact scan_app o c u t _ _ h
      · rw [if_neg h2] at h ⊢; rw [if_neg h2]; exact scan_app o c u t _ _ h
/-- What shuts a reference is its last byte. -/
theorem scan_end (o c : UInt8) : ∀ (t : Bs) (i : Nat) (k : Int), scanR o c t i k ≠ 0 → ∃ x y, t = x ++ c :: y ∧ scanR o c t i k = i + x.length + 1
  | [], i, k, h => absurd rfl h
  | b :: t, i, k, h => by
    have key : ∀ k', scanR o c t (i + 1) k' ≠ 0 → ∃ x y, b :: t = x ++ c :: y ∧ scanR o c t (i + 1) k' = i + x.length + 1 := fun k' h' => by
      obtain ⟨x, y, h1, h2⟩ := scan_end o c t (i + 1) k' h'
      exact ⟨b :: x, y, by rw [h1]; rfl, by rw [h2, List.length_cons]; omega⟩
    rw [scanR] at h ⊢
    by_cases h1 : b = o
    · rw [if_pos h1] at h ⊢; exact key _ h
    · rw [if_neg h1] at h ⊢
      by_cases h2 : b = c
      · rw [if_pos h2] at h ⊢
        by_cases h3 : k - 1 = 0
        · rw [if_pos h3]; exact ⟨[], t, by rw [h2]; rfl, rfl⟩
        · rw [if_neg h3] at h ⊢; exact key _ h
      · rw [if_neg h2] at h ⊢; exact key _ h
/-- A reference that is closed: its text, its last byte, and what is behind it. -/
theorem ref_parts {b : UInt8} {t : Bs} (hb : b ≠ 36) (h : refN (36 :: b :: t) ≠ 0) : ∃ x d y, 36 :: b :: t = x ++ d :: y ∧ d ≠ 36 ∧ refN (36 :: b :: t) = x.length + 1 ∧ 1 ≤ x.length ∧ ∀ u, refN (36 :: b :: (t ++ u)) = refN (36 :: b :: t) := by
  unfold refN at h ⊢
  have e1 : ∀ t : Bs, (36 :: b :: t : Bs)[1]? = some b := fun _ => rfl
  simp only [e1, List.drop_succ_cons, List.drop_zero] at h ⊢
  by_cases h1 : b = 40
  · subst h1
    simp only [if_true] at h ⊢
    obtain ⟨x, y, q1, q2⟩ := scan_end 40 41 _ 1 0 h
    have hx : 1 ≤ (36 :: x).length := by simp
    exact ⟨36 :: x, 41, y, by rw [q1]; rfl, by decide, by rw [q2, List.length_cons]; omega, hx, fun u => scan_app 40 41 u _ 1 0 h⟩
  · have n1 : ¬ (some b = some (40 : UInt8)) := fun e => h1 (Option.some.inj e)
    simp only [n1, if_false] at h ⊢
    by_cases h2 : b = 123
    · subst h2
      simp only [if_true] at h ⊢
      obtain ⟨x, y, q1, q2⟩ := scan_end 123 125 _ 1 0 h
      have hx : 1 ≤ (36 :: x).length := by simp
      exact ⟨36 :: x, 125, y, by rw [q1]; rfl, by decide, by rw [q2, List.length_cons]; omega, hx, fun u => scan_app 123 125 u _ 1 0 h⟩
    · have n2 : ¬ (some b = some (123 : UInt8)) := fun e => h2 (Option.some.inj e)
      simp only [n2, if_false] at h ⊢
      exact ⟨[36], b, t, rfl, hb, rfl, Nat.le_refl _, fun _ => trivial⟩
theorem fuel_any (rf : Bs → Nat → R) : ∀ (n : Nat) (s : Bs), s.length ≤ n → ∀ (f g : Nat) (out : Bs) (c : Nat), s.length < f → s.length < g → piecesF rf f s out c = piecesF rf g s out c
  | n, s, hn, 0, _, _, _, h, _ => by omega
  | n, s, hn, _ + 1, 0, _, _, _, h => by omega
  | n, s, hn, f + 1, g + 1, out, c, hf, hg => by
    rcases ways s with rfl | ⟨b, t, hb, rfl⟩ | rfl | ⟨t, rfl⟩ | ⟨b, t, hb, rfl⟩
    · rw [head_nil, head_nil]
    · rw [skip1 rf hb, skip1 rf hb]
      cases n with
      | zero => simp at hn
      | succ n => exact fuel_any rf n t (by simp at hn; omega) _ _ _ _ (by simp at hf; omega) (by simp at hg; omega)
    · rw [head_one, head_one]
    · rw [head_two, head_two]
      cases n with
      | zero => simp at hn
      | succ n => exact fuel_any rf n t (by simp at hn; omega) _ _ _ _ (by simp at hf; omega) (by simp at hg; omega)
    · rw [head_ref rf f hb, head_ref rf g hb]
      split
      · rfl
      · split
        · rfl
        · rename_i h0
          split
          · rfl
          · obtain ⟨x, d, y, q1, q2, q3, q4, q5⟩ := ref_parts hb h0
            have hl : ((36 :: b :: t).drop (refN (36 :: b :: t))).length ≤ t.length := by rw [List.length_drop, q3]; simp only [List.length_cons]; omega
            cases n with
            | zero => simp at hn
            | succ n => exact fuel_any rf n _ (by simp at hn; omega) _ _ _ _ (by simp at hf; omega) (by simp at hg; omega)
/-- Counts only rise. -/
def Mo (rf : Bs → Nat → R) : Prop := ∀ s c, c ≤ (rf s c).2
theorem fin3_cnt (out : Bs) (c : Nat) : (fin3 out c).2 = c := by unfold fin3; split <;> rfl
theorem pieces_mono {rf : Bs → Nat → R} (hm : Mo rf) : ∀ (f : Nat) (s out : Bs) (c : Nat), c ≤ (piecesF rf f s out c).2
  | 0, _, _, c => Nat.le_refl _
  | f + 1, s, out, c => by
    rw [piecesF]
    split
    · rw [fin3_cnt]; exact Nat.le_refl _
    · split
      · exact pieces_mono hm f _ _ _
      · split
        · exact Nat.le_refl _
        · split
          · exact Nat.le_refl _
          · split
            · exact hm _ _
            · exact Nat.le_trans (hm _ _) (pieces_mono hm f _ _ _)
theorem value_mono {l au : List Pr} {ex : List Bs → Bs → Nat → R} (hx : ∀ op, Mo (ex op)) (op : List Bs) (nm : Bs) (c : Nat) : c ≤ (valueF l au ex op nm c).2 := by
  unfold valueF
  split
  · exact Nat.le_refl _
  · split
    · exact Nat.le_refl _
    · split
      · exact Nat.le_refl _
      · exact hx _ _ _
theorem refer_mono {l au : List Pr} {ex : List Bs → Bs → Nat → R} (hx : ∀ op, Mo (ex op)) (op : List Bs) (s : Bs) (c : Nat) : c + 1 ≤ (referF l au ex op s c).2 := by
  unfold referF
  split
  · exact Nat.le_refl _
  · split
    · exact value_mono hx _ _ _
    · have h1 := hx op ((s.take (s.length - 1)).drop 1) (c + 1)
      generalize ex op ((s.take (s.length - 1)).drop 1) (c + 1) = r at h1
      obtain ⟨⟨i, e⟩, c1⟩ := r
      dsimp only at h1 ⊢
      split
      · exact h1
      · split
        · exact Nat.le_trans h1 (value_mono hx _ _ _)
        · exact Nat.le_trans h1 (value_mono hx _ _ _)
theorem expand_mono (l au : List Pr) : ∀ (d : Nat) (op : List Bs), Mo (expandF l au d op)
  | 0, op, s, c => by
    rw [expand_zero]
    split
    · exact Nat.le_refl _
    · exact pieces_mono (fun s c => Nat.le_succ c) _ _ _ _
  | d + 1, op, s, c => by
    rw [expand_succ]
    split
    · exact Nat.le_refl _
    · exact pieces_mono (fun s c => Nat.le_of_succ_le (refer_mono (expand_mono l au d) op s c)) _ _ _ _
/-- What is well is well from a later count on, or met too many. -/
def Sh (rf : Bs → Nat → R) : Prop := ∀ s c v c' k, c + k ≤ 10000 → rf s c = ((v, 0), c') → (c' + k ≤ 10000 ∧ rf s (c + k) = ((v, 0), c' + k)) ∨ (10000 < c' + k ∧ (rf s (c + k)).1.2 = 3)
theorem pieces_shift {rf : Bs → Nat → R} (hm : Mo rf) (hs : Sh rf) : ∀ (n : Nat) (s : Bs), s.length ≤ n → ∀ (f : Nat), s.length < f → ∀ (p o : Bs) (c : Nat) (z : Bs) (c' k : Nat), c + k ≤ 10000 → piecesF rf f s o c = ((z, 0), c') → (p ++ z).length ≤ 16384 →
    o.length ≤ z.length ∧ ((c' + k ≤ 10000 ∧ piecesF rf f s (p ++ o) (c + k) = ((p ++ z, 0), c' + k)) ∨ (10000 < c' + k ∧ (piecesF rf f s (p ++ o) (c + k)).1.2 = 3))
  | n, s, hn, 0, hf, _, _, _, _, _, _, _, _, _ => by omega
  | n, s, hn, f + 1, hf, p, o, c, z, c', k, hk, h, hp => by
    have hfin : ∀ o : Bs, fin3 o c = ((z, 0), c') → z = o ∧ c' = c ∧ fin3 (p ++ o) (c + k) = ((p ++ z, 0), c' + k) := fun o h => by
      unfold fin3 at h
      split at h
      · cases h
      · cases h
        exact ⟨rfl, rfl, by unfold fin3; rw [if_neg (by omega)]⟩
    rcases ways s with rfl | ⟨b, t, hb, rfl⟩ | rfl | ⟨t, rfl⟩ | ⟨b, t, hb, rfl⟩
    · rw [head_nil] at h ⊢
      obtain ⟨rfl, rfl, h2⟩ := hfin o h
      exact ⟨Nat.le_refl _, .inl ⟨hk, h2⟩⟩
    · rw [skip1 rf hb] at h ⊢
      cases n with
      | zero => simp at hn
      | succ n =>
        have := pieces_shift hm hs n t (by simp at hn; omega) (f + 1) (by simp at hf; omega) p (o ++ [b]) c z c' k hk h hp
        rw [List.append_assoc]
        exact ⟨by have := this.1; simp at this; omega, this.2⟩
    · rw [head_one] at h ⊢
      obtain ⟨rfl, rfl, h2⟩ := hfin _ h
      rw [List.append_assoc]
      exact ⟨by simp, .inl ⟨hk, h2⟩⟩
    · rw [head_two] at h ⊢
      cases n with
      | zero => simp at hn
      | succ n =>
        have := pieces_shift hm hs n t (by simp at hn; omega) f (by simp at hf; omega) p (o ++ [36]) c z c' k hk h hp
        rw [List.append_assoc]
        exact ⟨by have := this.1; simp at this; omega, this.2⟩
    · rw [head_ref rf f hb] at h ⊢
      obtain ⟨T, hT⟩ : ∃ T, ((36 :: b :: t).take (refN (36 :: b :: t))).drop 1 = T := ⟨_, rfl⟩
      rw [hT] at h ⊢
      by_cases h1 : 16384 < o.length
      · rw [if_pos h1] at h; cases h
      · rw [if_neg h1] at h
        by_cases h0 : refN (36 :: b :: t) = 0
        · rw [if_pos h0] at h; cases h
        · rw [if_neg h0] at h
          obtain ⟨⟨⟨v, e⟩, c2⟩, hr⟩ : ∃ r, rf T c = r := ⟨_, rfl⟩
          rw [hr] at h
          dsimp only at h
          by_cases he : e = 0
          · subst he
            rw [if_neg (by simp)] at h
            obtain ⟨x, d, y, q1, q2, q3, q4, q5⟩ := ref_parts hb h0
            have hl : ((36 :: b :: t).drop (refN (36 :: b :: t))).length ≤ t.length := by rw [List.length_drop, q3]; simp only [List.length_cons]; omega
            have hmc := hm T c
            rw [hr] at hmc
            dsimp only at hmc
            have hmc2 := pieces_mono hm f ((36 :: b :: t).drop (refN (36 :: b :: t))) (o ++ v) c2
            rw [h] at hmc2
            dsimp only at hmc2
            cases n with
            | zero => simp at hn
            | succ n =>
              have ih := fun k' hk' => pieces_shift hm hs n _ (by simp at hn; omega) f (by simp at hf; omega) p (o ++ v) c2 z c' k' hk' h hp
              rcases hs T c v c2 k hk hr with ⟨hA, hB⟩ | ⟨hA, hB⟩
              · obtain ⟨g1, g2⟩ := ih k hA
                have g3 : (p ++ o).length ≤ 16384 := by simp at g1 hp ⊢; omega
                rw [if_neg (by omega), if_neg h0, hB]
                dsimp only
                rw [if_neg (by simp), List.append_assoc]
                exact ⟨by simp at g1; omega, g2⟩
              · by_cases hc0 : c2 + 0 ≤ 10000
                · obtain ⟨g1, _⟩ := ih 0 hc0
                  have g3 : (p ++ o).length ≤ 16384 := by simp at g1 hp ⊢; omega
                  refine ⟨by simp at g1; omega, .inr ⟨by omega, ?_⟩⟩
                  rw [if_neg (by omega), if_neg h0]
                  generalize rf T (c + k) = r at hB ⊢
                  obtain ⟨⟨v', e'⟩, c3⟩ := r
                  dsimp only at hB ⊢
                  subst hB
                  rw [if_pos (by decide)]
                · exfalso
                  rcases hs T c v c2 0 (by omega) hr with ⟨q, _⟩ | ⟨_, q⟩
                  · omega
                  · rw [Nat.add_zero, hr] at q
                    exact absurd q (by simp)
          · rw [if_pos he] at h
            cases h
            exact absurd rfl he
theorem value_shift {l au : List Pr} {ex : List Bs → Bs → Nat → R} (hx : ∀ op, Sh (ex op)) (op : List Bs) : Sh (fun nm c => valueF l au ex op nm c) := by
  intro nm c v c' k hk h
  dsimp only at h ⊢
  unfold valueF at h ⊢
  split at h
  · cases h; exact .inl ⟨hk, rfl⟩
  · split at h
    · cases h; exact .inl ⟨hk, rfl⟩
    · split at h
      · cases h
      · rename_i h1
        rw [if_neg h1]
        exact hx _ _ _ _ _ _ hk h
theorem refer_shift {l au : List Pr} {ex : List Bs → Bs → Nat → R} (hm : ∀ op, Mo (ex op)) (hx : ∀ op, Sh (ex op)) (op : List Bs) : Sh (referF l au ex op) := by
  intro s c v c' k hk h
  have hmo := refer_mono (l := l) (au := au) hm op s c
  rw [h] at hmo
  dsimp only at hmo
  unfold referF at h ⊢
  by_cases h1 : 10000 < c + 1
  · rw [if_pos h1] at h; cases h
  rw [if_neg h1] at h
  by_cases h2 : 10000 < c + k + 1
  · rw [if_pos h2]
    exact .inr ⟨by omega, rfl⟩
  rw [if_neg h2]
  have ea : c + k + 1 = c + 1 + k := by omega
  rw [ea] at h2 ⊢
  by_cases h3 : s.length = 1
  · rw [if_pos h3] at h ⊢
    exact value_shift hx op s (c + 1) v c' k (by omega) h
  rw [if_neg h3] at h ⊢
  obtain ⟨⟨⟨i, e⟩, c1⟩, hr⟩ : ∃ r, ex op ((s.take (s.length - 1)).drop 1) (c + 1) = r := ⟨_, rfl⟩
  rw [hr] at h
  dsimp only at h
  by_cases he : e = 0
  · subst he
    rw [if_neg (by simp)] at h
    have hmv := fun nm => value_mono (l := l) (au := au) hm op nm c1
    rcases hx op _ _ _ _ k (by omega) hr with ⟨hA, hB⟩ | ⟨hA, hB⟩
    · rw [hB]
      dsimp only
      rw [if_neg (by simp)]
      split at h
      · rename_i h4
        rw [if_pos h4]
        exact value_shift hx op i c1 v c' k hA h
      · rename_i h4
        rw [if_neg h4]
        obtain ⟨⟨⟨v2, e2⟩, c2⟩, hv⟩ : ∃ r, valueF l au ex op (Lib.cut i [58]).1 c1 = r := ⟨_, rfl⟩
        rw [hv] at h
        dsimp only at h
        cases h
        rcases value_shift (l := l) (au := au) hx op _ _ _ _ k hA hv with ⟨hC, hD⟩ | ⟨hC, hD⟩
        · dsimp only at hD
          rw [hD]
          exact .inl ⟨hC, rfl⟩
        · dsimp only at hD
          refine .inr ⟨hC, ?_⟩
          generalize valueF l au ex op (Lib.cut i [58]).1 (c1 + k) = r at hD ⊢
          obtain ⟨⟨v', e'⟩, c3⟩ := r
          exact hD
    · have h10 : 10000 < c' + k := by
        split at h
        · have := hmv i; rw [h] at this; dsimp only at this; omega
        · have := hmv (Lib.cut i [58]).1
          generalize valueF l au ex op (Lib.cut i [58]).1 c1 = r at h this
          obtain ⟨⟨v', e'⟩, c3⟩ := r
          dsimp only at h this
          cases h
          omega
      refine .inr ⟨h10, ?_⟩
      generalize ex op ((s.take (s.length - 1)).drop 1) (c + 1 + k) = r at hB ⊢
      obtain ⟨⟨v', e'⟩, c3⟩ := r
      dsimp only at hB ⊢
      subst hB
      rw [if_pos (by decide)]
  · rw [if_pos he] at h
    cases h
    exact absurd rfl he
theorem expand_shift (l au : List Pr) : ∀ (d : Nat) (op : List Bs), Sh (expandF l au d op)
  | 0, op, s, c, v, c', k, hk, h => by
    rw [expand_zero] at h ⊢
    split at h
    · cases h
    · rename_i h1
      rw [if_neg h1]
      have hl := pieces_len (fun _ c => (([], 3), c + 1)) (s.length + 1) s [] c
      rw [h] at hl
      have := (pieces_shift (rf := fun _ c => (([], 3), c + 1)) (fun s c => Nat.le_succ c) (fun s c v c' k hk h => by cases h) s.length s (Nat.le_refl _) _ (Nat.lt_succ_self _) [] [] c v c' k hk h hl).2
      simpa using this
  | d + 1, op, s, c, v, c', k, hk, h => by
    rw [expand_succ] at h ⊢
    split at h
    · cases h
    · rename_i h1
      rw [if_neg h1]
      have hl := pieces_len (referF l au (expandF l au d) op) (s.length + 1) s [] c
      rw [h] at hl
      have := (pieces_shift (fun s c => Nat.le_of_succ_le (refer_mono (expand_mono l au d) op s c)) (refer_shift (expand_mono l au d) (expand_shift l au d) op) s.length s (Nat.le_refl _) _ (Nat.lt_succ_self _) [] [] c v c' k hk h hl).2
      simpa using this
/-- Is the row of dollar signs at the end even? -/
def evs : Bs → Bool → Bool
  | [], p => p
  | b :: t, p => if b = 36 then evs t (!p) else evs t true
theorem evs_cut {d : UInt8} (hd : d ≠ 36) (y : Bs) : ∀ (x : Bs) (p : Bool), evs (x ++ d :: y) p = evs y true
  | [], p => by rw [List.nil_append, evs, if_neg hd]
  | b :: x, p => by
    rw [List.cons_append, evs]
    split <;> exact evs_cut hd y x _
theorem cat_any (rf : Bs → Nat → R) (u : Bs) : ∀ (n : Nat) (s : Bs), s.length ≤ n → ∀ (f g h : Nat) (o : Bs) (c : Nat) (z : Bs) (c1 : Nat), s.length < f → (s ++ u).length < g → u.length < h → evs s true = true →
    piecesF rf f s o c = ((z, 0), c1) → piecesF rf g (s ++ u) o c = piecesF rf h u z c1
  | n, s, hn, 0, g, h, o, c, z, c1, hf, hg, hh, hv, hp => by omega
  | n, s, hn, f + 1, 0, h, o, c, z, c1, hf, hg, hh, hv, hp => by omega
  | n, s, hn, f + 1, g + 1, h, o, c, z, c1, hf, hg, hh, hv, hp => by
    rcases ways s with rfl | ⟨b, t, hb, rfl⟩ | rfl | ⟨t, rfl⟩ | ⟨b, t, hb, rfl⟩
    · rw [head_nil] at hp
      unfold fin3 at hp
      split at hp
      · cases hp
      · cases hp
        exact fuel_any rf u.length u (Nat.le_refl _) _ _ _ _ hg hh
    · rw [skip1 rf hb] at hp
      rw [List.cons_append, skip1 rf hb]
      cases n with
      | zero => simp at hn
      | succ n => exact cat_any rf u n t (by simp at hn; omega) (f + 1) (g + 1) h _ _ _ _ (by simp at hf; omega) (by simp at hg ⊢; omega) hh (by rw [evs, if_neg hb] at hv; exact hv) hp
    · exact absurd hv (by decide)
    · rw [head_two] at hp
      rw [List.cons_append, List.cons_append, head_two]
      cases n with
      | zero => simp at hn
      | succ n => exact cat_any rf u n t (by simp at hn; omega) f g h _ _ _ _ (by simp at hf; omega) (by simp at hg ⊢; omega) hh (by rw [evs, if_pos rfl, evs, if_pos rfl] at hv; exact hv) hp
    · rw [head_ref rf f hb] at hp
      rw [List.cons_append, List.cons_append, head_ref rf g hb]
      by_cases h1 : 16384 < o.length
      · rw [if_pos h1] at hp; cases hp
      rw [if_neg h1] at hp ⊢
      by_cases h0 : refN (36 :: b :: t) = 0
      · rw [if_pos h0] at hp; cases hp
      rw [if_neg h0] at hp
      obtain ⟨x, d, y, q1, q2, q3, q4, q5⟩ := ref_parts hb h0
      rw [q5 u, if_neg h0]
      have hle : refN (36 :: b :: t) ≤ (36 :: b :: t).length := by rw [q3, q1, List.length_append, List.length_cons]; omega
      have e1 : (36 :: b :: (t ++ u) : Bs) = (36 :: b :: t) ++ u := rfl
      rw [e1, List.take_append_of_le_length hle, List.drop_append_of_le_length hle]
      split at hp
      · rename_i he
        injection hp with hp1 hp2
        injection hp1 with hp3 hp4
        exact absurd hp4 he
      · rename_i he
        rw [if_neg he]
        have hdy : (36 :: b :: t).drop (refN (36 :: b :: t)) = y := by rw [q3, q1, show x ++ d :: y = (x ++ [d]) ++ y by simp, List.drop_left' (by simp)]
        have hly : y.length + 2 ≤ (36 :: b :: t).length := by rw [q1, List.length_append, List.length_cons]; omega
        rw [hdy] at hp ⊢
        cases n with
        | zero => simp at hn
        | succ n => exact cat_any rf u n y (by simp at hn hly; omega) f g h _ _ _ _ (by simp at hf hly; omega) (by simp at hg hly ⊢; omega) hh (by rw [q1, evs_cut q2] at hv; exact hv) hp
/-- THE LAW: texts one behind the other. -/
theorem parts_any (l au : List Pr) (a b : Bs) {x y : Bs} {c1 c2 : Nat} (ha : a.length ≤ 300) (hb : b.length ≤ 300) (hv : evs a true = true) (hc1 : c1 ≤ 10000) (h1 : expandF l au 40 [] a 0 = ((x, 0), c1)) (h2 : expandF l au 40 [] b 0 = ((y, 0), c2)) (hl : x.length + y.length ≤ 16384) :
    (expandF l au 40 [] (a ++ b) 0).1 = (x ++ y, 0) ∨ (expandF l au 40 [] (a ++ b) 0).1.2 = 3 := by
  rw [show (40 : Nat) = 39 + 1 from rfl, expand_succ] at h1 h2 ⊢
  rw [if_neg (by omega)] at h1 h2
  rw [if_neg (by rw [List.length_append]; omega)]
  rw [cat_any _ b a.length a (Nat.le_refl _) _ _ (b.length + 1) [] 0 x c1 (Nat.lt_succ_self _) (Nat.lt_succ_self _) (Nat.lt_succ_self _) hv h1]
  have := (pieces_shift (fun s c => Nat.le_of_succ_le (refer_mono (expand_mono l au 39) [] s c)) (refer_shift (expand_mono l au 39) (expand_shift l au 39) []) b.length b (Nat.le_refl _) _ (Nat.lt_succ_self _) x [] 0 y c2 c1 (by omega) h2 (by rw [List.length_append]; omega)).2
  rw [List.append_nil, Nat.zero_add] at this
  rcases this with ⟨_, h⟩ | ⟨_, h⟩
  · rw [h]; exact .inl rfl
  · exact .inr h
end Go.Proofs.YthbemfpoanmjcaaDoor
