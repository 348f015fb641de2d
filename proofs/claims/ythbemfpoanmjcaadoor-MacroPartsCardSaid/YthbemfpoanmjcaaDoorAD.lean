import Derived.Test.YthbemfpoanmjcaaDoorAC
namespace Go.Proofs.YthbemfpoanmjcaaDoor
set_option linter.unusedVariables false

theorem idxB_at {x : UInt8} : ∀ {a : Bs} (b : Bs), x ∉ a → Lib.indexByte (a ++ x :: b) x = a.length
  | [], b, _ => by rw [List.nil_append, Lib.indexByte, if_pos (by simp)]; rfl
  | c :: a, b, h => by
    have h1 : c ≠ x := fun e => h (by rw [e]; simp)
    rw [List.cons_append, Lib.indexByte, if_neg (by simpa using h1), idxB_at b (fun hm => h (List.mem_cons_of_mem _ hm)), if_neg (by simp), List.length_cons]; omega
theorem cut_hit {x : UInt8} {a : Bs} (b : Bs) (h : x ∉ a) : Lib.cut (a ++ x :: b) [x] = (a, b, true) := by
  unfold Lib.cut
  rw [Lib.index_one, idxB_at b h, if_pos (by omega), Int.toNat_natCast, List.take_left]
  rw [show ([x] : Bs).length = 1 from rfl, ← List.drop_drop, List.drop_left]; rfl
theorem rep_head (t st : Bs) : Lib.replace (37 :: t) [37] st 1 = st ++ t := by
  have hi : Lib.index (37 :: t) [37] = ((0 : Nat) : Int) := by rw [Lib.index_one, Lib.indexByte, if_pos (by simp)]; rfl
  unfold Lib.replace
  by_cases h : (([37] : Bs) == st) = true
  · rw [if_pos h]
    rw [← beq_iff_eq.1 h]; rfl
  · rw [if_neg h]
    have hc : 1 ≤ Lib.count (37 :: t) [37] := by
      unfold Lib.count
      rw [Lib.countFrom, if_neg (by rw [hi]; decide)]
      omega
    have hn : Lib.replaceNum (37 :: t) [37] 1 = 0 + 1 := by
      unfold Lib.replaceNum
      rw [if_neg (by omega)]; rfl
    rw [hn, Lib.replaceK_hit _ _ _ _ 0 hi]
    rfl
/-- What a word comes to where a % stands ahead: nothing is left for it, or as without. -/
def swQ (fr tt x : ByteArray) : ByteArray := if x = fr then x else sw1 x fr tt
theorem one_pct {fr tt x : ByteArray} (hx : 0 < x.size) (hf : (37 : UInt8) ∉ fr.data.toList) : (swQ fr tt x).data.toList = oneF (37 :: fr.data.toList) (37 :: tt.data.toList) x.data.toList := by
  have hc : Lib.cut (37 :: fr.data.toList) [37] = ([], fr.data.toList, true) := cut_hit (a := []) fr.data.toList (by simp)
  have hi : (0 : Int) ≤ Lib.indexByte (37 :: fr.data.toList) 37 := by rw [Lib.indexByte, if_pos (by simp)]; decide
  unfold oneF
  rw [if_pos hi]
  unfold matchF
  rw [hc]
  dsimp only
  rw [if_neg (show ¬ (true = false) by decide)]
  by_cases hs : Lib.hasSuffix x.data.toList fr.data.toList = true
  · have hle := suf_le hs
    by_cases he : x = fr
    · subst he
      have hm : x.data.toList.length ≤ ([] : Bs).length + x.data.toList.length ∨ Lib.hasPrefix x.data.toList [] = false ∨ Lib.hasSuffix x.data.toList x.data.toList = false := .inl (by simp)
      rw [if_pos hm, if_neg (show ¬ (false = true) by decide)]
      unfold swQ; rw [if_pos rfl]
    · have hlt : fr.data.toList.length < x.data.toList.length := by
        refine Nat.lt_of_le_of_ne hle fun e => he (ba_ext ?_)
        exact (List.IsSuffix.eq_of_length (List.isSuffixOf_iff_suffix.1 hs) e).symm
      have hn : ¬ (x.data.toList.length ≤ ([] : Bs).length + fr.data.toList.length ∨ Lib.hasPrefix x.data.toList [] = false ∨ Lib.hasSuffix x.data.toList fr.data.toList = false) := by
        rintro (h | h | h)
        · simp only [List.length_nil] at h; omega
        · simp [Lib.hasPrefix] at h
        · rw [hs] at h; cases h
      rw [if_neg hn, if_pos rfl, rep_head]
      unfold swQ
      rw [if_neg he]
      unfold sw1 Lib.trimSuffix
      rw [if_pos hs, if_pos hs, ByteArray.data_append, Array.toList_append, mk_list]
      rfl
  · have hs' : Lib.hasSuffix x.data.toList fr.data.toList = false := by simpa using hs
    have hne : x ≠ fr := by
      rintro rfl
      exact hs (List.isSuffixOf_iff_suffix.2 (List.suffix_refl _))
    have hm : x.data.toList.length ≤ ([] : Bs).length + fr.data.toList.length ∨ Lib.hasPrefix x.data.toList [] = false ∨ Lib.hasSuffix x.data.toList fr.data.toList = false := .inr (.inr hs')
    rw [if_pos hm, if_neg (show ¬ (false = true) by decide)]
    unfold swQ
    rw [if_neg hne, sw1_no hs']
theorem one_dot {fr tt x : ByteArray} (hf : (37 : UInt8) ∉ fr.data.toList) : (sw1 x fr tt).data.toList = oneF fr.data.toList tt.data.toList x.data.toList :=
  sw1_one (by rw [idxB_no hf]; decide)
theorem swap_val {V a b : Bs} (hV : V.length ≤ 8192) (h36 : (36 : UInt8) ∉ V) (ha : a.length ≤ 100) (hb : b.length ≤ 100) (hc : ∀ c ∈ a ++ 61 :: b, c ≠ 36 ∧ c ≠ 40 ∧ c ≠ 41) (h61 : (61 : UInt8) ∉ a) (hz : (swapF V a b).length ≤ 16384) :
    ∃ c, expandF [([120], V)] [] 40 [] (36 :: (40 :: ((120 :: 58 :: (a ++ 61 :: b)) ++ [41]))) 0 = ((swapF V a b, 0), c) := by
  obtain ⟨body, hbd⟩ : ∃ body : Bs, (120 :: 58 :: (a ++ 61 :: b)) = body := ⟨_, rfl⟩
  have hno : ∀ d : UInt8, d ≠ 120 → d ≠ 58 → (d = 36 ∨ d = 40 ∨ d = 41) → d ∉ body := by
    intro d h1 h2 h3 hm
    rw [← hbd] at hm
    rcases List.mem_cons.1 hm with e | hm
    · exact h1 e
    rcases List.mem_cons.1 hm with e | hm
    · exact h2 e
    obtain ⟨g1, g2, g3⟩ := hc d hm
    rcases h3 with e | e | e
    · exact g1 e
    · exact g2 e
    · exact g3 e
  have hl : body.length ≤ 300 := by rw [← hbd]; simp; omega
  have lx : lastV [([120], V)] [120] = some V := lastV_some (k := 0) (by simp) (by simp) rfl
  have hb40 : Bal 40 41 body := Bal.plain (hno 40 (by decide) (by decide) (by decide)) (hno 41 (by decide) (by decide) (by decide))
  have e : ((40 :: (body ++ [41])).take ((40 :: (body ++ [41])).length - 1)).drop 1 = body := by
    have : (40 :: (body ++ [41])).length - 1 = body.length + 1 := by simp
    rw [this, List.take_succ_cons, List.drop_succ_cons, List.drop_zero, List.take_left]
  have hin : expandF [([120], V)] [] 39 [] body 1 = ((body, 0), 1) := expand_plain _ _ _ _ body _ (by omega) (hno 36 (by decide) (by decide) (by decide))
  have hr : referF [([120], V)] [] (expandF [([120], V)] [] 39) [] (40 :: (body ++ [41])) 0 = ((swapF V a b, 0), 1) :=
    ref_swap (by decide) (by simp) (by rw [e]; exact hin) rfl (a1 := [120]) (b1 := a ++ 61 :: b) (by rw [← hbd]; exact cut_hit (a := [120]) _ (by decide)) (cut_hit _ h61) (val_plain rfl lx (by simp) h36 hV)
  refine ⟨1, ?_⟩
  rw [hbd, expand_succ, if_neg (by simp; omega)]
  have h := pieces_ref (rf := referF [([120], V)] [] (expandF [([120], V)] [] 39) []) (f := (36 :: (40 :: (body ++ [41]))).length) (pre := []) (r := 40 :: (body ++ [41])) (rest := []) (out := []) (v := swapF V a b) (c := 0) (c2 := 1) (by simp) (by simp) (by simp) (refN_open (.inl ⟨rfl, rfl⟩) hb40 []) (by simp) hr
  rw [List.nil_append, List.append_nil] at h
  rw [h, show (36 :: (40 :: (body ++ [41]))).length = (body.length + 2) + 1 by simp, pieces_plain _ (by simp)]
  rw [fin3_ok' (by simpa using hz)]; simp
end Go.Proofs.YthbemfpoanmjcaaDoor
