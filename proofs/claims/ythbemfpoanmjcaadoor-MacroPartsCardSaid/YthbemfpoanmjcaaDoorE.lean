import Derived.Test.YthbemfpoanmjcaaDoorA
namespace Go.Proofs.YthbemfpoanmjcaaDoor
open Go Go.Lib
set_option linter.unusedVariables false

/-! How long results are, and how many references are counted. -/
def OKc (r : R) : Prop := r.2 ≤ 10001 ∧ (r.1.2 = 0 → r.2 ≤ 10000)
theorem fin3_ok (out : Bs) {c : Nat} (h : c ≤ 10000) : OKc (fin3 out c) := by
  unfold fin3 OKc; split <;> exact ⟨by simp only; omega, fun _ => h⟩
theorem fin3_len (out : Bs) (c : Nat) : (fin3 out c).1.1.length ≤ 16384 := by
  unfold fin3; split
  · exact Nat.zero_le _
  · simp only; omega
theorem pieces_ok {rf : Bs → Nat → R} (hr : ∀ s c, c ≤ 10000 → OKc (rf s c)) : ∀ (f : Nat) (s out : Bs) (c : Nat), c ≤ 10000 → OKc (piecesF rf f s out c)
  | 0, _, _, c, h => ⟨by show c ≤ 10001; omega, fun _ => h⟩
  | f + 1, s, out, c, h => by
    rw [piecesF]
    split
    · exact fin3_ok _ h
    · split
      · exact pieces_ok hr f _ _ c h
      · split
        · exact ⟨by show c ≤ 10001; omega, fun _ => h⟩
        · split
          · exact ⟨by show c ≤ 10001; omega, fun _ => h⟩
          · have h2 := hr (((s.drop (Lib.indexByte s 36).toNat).take (refN (s.drop (Lib.indexByte s 36).toNat))).drop 1) c h
            split
            · exact ⟨h2.1, h2.2⟩
            · rename_i h0
              exact pieces_ok hr f _ _ _ (h2.2 (Classical.not_not.1 h0))
theorem pieces_len (rf : Bs → Nat → R) : ∀ (f : Nat) (s out : Bs) (c : Nat), (piecesF rf f s out c).1.1.length ≤ 16384
  | 0, _, _, c => Nat.zero_le _
  | f + 1, s, out, c => by
    rw [piecesF]
    split
    · exact fin3_len _ _
    · split
      · exact pieces_len rf f _ _ c
      · split
        · exact Nat.zero_le _
        · split
          · exact Nat.zero_le _
          · split
            · exact Nat.zero_le _
            · exact pieces_len rf f _ _ _
theorem value_ok {l au : List Pr} {ex : List Bs → Bs → Nat → R} (hx : ∀ op s c, c ≤ 10000 → OKc (ex op s c)) (op : List Bs) (nm : Bs) (c : Nat) (h : c ≤ 10000) : OKc (valueF l au ex op nm c) := by
  unfold valueF
  split
  · exact ⟨by show c ≤ 10001; omega, fun _ => h⟩
  · split
    · exact ⟨by show c ≤ 10001; omega, fun _ => h⟩
    · split
      · exact ⟨by show c ≤ 10001; omega, fun _ => h⟩
      · exact hx _ _ _ h
theorem refer_ok {l au : List Pr} {ex : List Bs → Bs → Nat → R} (hx : ∀ op s c, c ≤ 10000 → OKc (ex op s c)) (op : List Bs) (s : Bs) (c : Nat) (h : c ≤ 10000) : OKc (referF l au ex op s c) := by
  unfold referF
  split
  · exact ⟨by show c + 1 ≤ 10001; omega, fun h0 => by cases h0⟩
  · have hc : c + 1 ≤ 10000 := by omega
    split
    · exact value_ok hx _ _ _ hc
    · have h2 := hx op ((s.take (s.length - 1)).drop 1) (c + 1) hc
      obtain ⟨⟨⟨inner, e⟩, c1⟩, hE⟩ : ∃ r, ex op ((s.take (s.length - 1)).drop 1) (c + 1) = r := ⟨_, rfl⟩
      rw [hE] at h2 ⊢
      dsimp only
      split
      · exact h2
      · rename_i h0
        have hc1 : c1 ≤ 10000 := h2.2 (Classical.not_not.1 h0)
        split
        · exact value_ok hx _ _ _ hc1
        · have h3 := value_ok (l := l) (au := au) hx op (Lib.cut inner [58]).1 c1 hc1
          exact h3
theorem expand_zero (l au : List Pr) (op : List Bs) (s : Bs) (c : Nat) : expandF l au 0 op s c = if 16384 < s.length then (([], 3), c) else piecesF (fun _ c => (([], 3), c + 1)) (s.length + 1) s [] c := rfl
theorem expand_succ (l au : List Pr) (d : Nat) (op : List Bs) (s : Bs) (c : Nat) : expandF l au (d + 1) op s c = if 16384 < s.length then (([], 3), c) else piecesF (referF l au (expandF l au d) op) (s.length + 1) s [] c := rfl
theorem expand_ok (l au : List Pr) : ∀ (d : Nat) (op : List Bs) (s : Bs) (c : Nat), c ≤ 10000 → OKc (expandF l au d op s c)
  | 0, op, s, c, h => by
    rw [expand_zero]
    split
    · exact ⟨by show c ≤ 10001; omega, fun _ => h⟩
    · exact pieces_ok (fun _ c hc => ⟨by show c + 1 ≤ 10001; omega, fun h0 => by cases h0⟩) _ _ _ _ h
  | d + 1, op, s, c, h => by
    rw [expand_succ]
    split
    · exact ⟨by show c ≤ 10001; omega, fun _ => h⟩
    · exact pieces_ok (fun s c hc => refer_ok (fun op s c hc => expand_ok l au d op s c hc) op s c hc) _ _ _ _ h
theorem expand_len (l au : List Pr) (d : Nat) (op : List Bs) (s : Bs) (c : Nat) : (expandF l au d op s c).1.1.length ≤ 16384 := by
  cases d with
  | zero => rw [expand_zero]; split <;> first | exact Nat.zero_le _ | exact pieces_len _ _ _ _ _
  | succ d => rw [expand_succ]; split <;> first | exact Nat.zero_le _ | exact pieces_len _ _ _ _ _
theorem index_no : ∀ {l : List UInt8}, (37 : UInt8) ∉ l → Lib.index l [37] = -1
  | [], _ => by rfl
  | c :: l, h => by
    have h1 : (37 : UInt8) ≠ c := fun e => h (by rw [e]; simp)
    have h2 : (37 : UInt8) ∉ l := fun e => h (List.mem_cons_of_mem _ e)
    unfold Lib.index
    rw [if_neg (by simp [List.isPrefixOf, h1]), index_no h2]
    rfl
theorem index_at : ∀ (a b : List UInt8), (37 : UInt8) ∉ a → Lib.index (a ++ 37 :: b) [37] = a.length
  | [], b, _ => by
    rw [List.nil_append]
    unfold Lib.index
    rw [if_pos (by simp [List.isPrefixOf])]; rfl
  | c :: a, b, h => by
    have h1 : (37 : UInt8) ≠ c := fun e => h (by rw [e]; simp)
    have h2 : (37 : UInt8) ∉ a := fun e => h (List.mem_cons_of_mem _ e)
    rw [List.cons_append]
    unfold Lib.index
    rw [if_neg (by simp [List.isPrefixOf, h1]), index_at a b h2]
    rw [if_neg (by simp), List.length_cons]; omega
theorem indexByte_no : ∀ {l : List UInt8}, (37 : UInt8) ∉ l → Lib.indexByte l 37 = -1
  | [], _ => by rfl
  | c :: l, h => by
    have h1 : c ≠ (37 : UInt8) := fun e => h (by rw [e]; simp)
    have h2 : (37 : UInt8) ∉ l := fun e => h (List.mem_cons_of_mem _ e)
    unfold Lib.indexByte
    rw [if_neg (by simpa using h1), indexByte_no h2]
    rfl
theorem indexByte_at : ∀ (a b : List UInt8), (37 : UInt8) ∉ a → Lib.indexByte (a ++ 37 :: b) 37 = a.length
  | [], b, _ => by
    rw [List.nil_append]
    unfold Lib.indexByte
    rw [if_pos (by simp)]; rfl
  | c :: a, b, h => by
    have h1 : c ≠ (37 : UInt8) := fun e => h (by rw [e]; simp)
    have h2 : (37 : UInt8) ∉ a := fun e => h (List.mem_cons_of_mem _ e)
    rw [List.cons_append]
    unfold Lib.indexByte
    rw [if_neg (by simpa using h1), indexByte_at a b h2]
    rw [if_neg (by simp), List.length_cons]; omega
theorem cut_no {l : List UInt8} (h : (37 : UInt8) ∉ l) : Lib.cut l [37] = (l, [], false) := by
  unfold Lib.cut; rw [index_no h, if_neg (by omega)]
theorem cut_at (a b : List UInt8) (h : (37 : UInt8) ∉ a) : Lib.cut (a ++ 37 :: b) [37] = (a, b, true) := by
  unfold Lib.cut
  rw [index_at a b h, if_pos (by omega)]
  simp
theorem count_no {l : List UInt8} (h : (37 : UInt8) ∉ l) : Lib.count l [37] = 0 := Lib.count_miss (index_no h)
theorem replace_no {l : List UInt8} (h : (37 : UInt8) ∉ l) (new : List UInt8) : Lib.replace l [37] new 1 = l := by
  unfold Lib.replace
  split
  · rfl
  · have : Lib.replaceNum l [37] 1 = 0 := by unfold Lib.replaceNum; rw [count_no h, if_pos (by right; decide)]
    rw [this]; rfl
theorem replace_at (a b : List UInt8) (h : (37 : UInt8) ∉ a) (new : List UInt8) : Lib.replace (a ++ 37 :: b) [37] new 1 = a ++ new ++ b := by
  unfold Lib.replace
  split
  · rename_i e
    have : new = [37] := (beq_iff_eq.1 e).symm
    rw [this]; simp
  · have hc : 1 ≤ Lib.count (a ++ 37 :: b) [37] := by
      unfold Lib.count Lib.countFrom
      rw [index_at a b h, if_neg (by simp)]
      omega
    have : Lib.replaceNum (a ++ 37 :: b) [37] 1 = 1 := by
      unfold Lib.replaceNum
      rw [if_neg (by omega)]; rfl
    rw [this, Lib.replaceK_hit [37] new 0 _ a.length (index_at a b h)]
    simp [Lib.replaceK]
theorem split_pc {l : List UInt8} (h : (37 : UInt8) ∈ l) : ∃ a b, l = a ++ 37 :: b ∧ (37 : UInt8) ∉ a := by
  obtain ⟨a, b, e, hn⟩ := List.eq_append_cons_of_mem h
  exact ⟨a, b, e, hn⟩

theorem replace_le (t x : Bs) : (Lib.replace t [37] x 1).length ≤ t.length + x.length := by
  by_cases h : (37 : UInt8) ∈ t
  · obtain ⟨a, b, rfl, ha⟩ := split_pc h
    rw [replace_at a b ha]; simp; omega
  · rw [replace_no h]; omega
theorem one_len (fr to w : Bs) : (oneF fr to w).length ≤ w.length + to.length := by
  unfold oneF
  split
  · split
    · have h1 := replace_le to (matchF fr w).1
      have h2 : (matchF fr w).1.length ≤ w.length := by
        unfold matchF
        split
        · exact Nat.zero_le _
        · split
          · exact Nat.zero_le _
          · simp only [List.length_drop, List.length_take]; omega
      omega
    · omega
  · split
    · rw [List.length_append]
      have : (Lib.trimSuffix w fr).length ≤ w.length := by
        unfold Lib.trimSuffix; split <;> first | exact Nat.le_refl _ | (rw [List.length_take]; omega)
      omega
    · omega
theorem lastV_mem {l : List Pr} {n v : Bs} (h : lastV l n = some v) : ∃ p ∈ l, p.2 = v := by
  unfold lastV at h
  obtain ⟨p, hp, rfl⟩ := Option.map_eq_some_iff.1 h
  exact ⟨p, List.mem_reverse.1 (List.mem_of_find?_eq_some hp), rfl⟩
end Go.Proofs.YthbemfpoanmjcaaDoor
