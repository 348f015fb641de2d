import Derived.Test.YthbemfpoanmjcaaDoorBF
namespace Go.Proofs.YthbemfpoanmjcaaDoor
open Go.RowKit
set_option linter.unusedVariables false

/-! How the words of a value are changed. -/
def jn (fr tt : Bs) : Bool → List Bs → Bs
  | _, [] => []
  | first, x :: r => (if first then [] else [32]) ++ oneF fr tt x ++ jn fr tt false r
theorem swapL_jn (fr tt : Bs) : ∀ (ws : List Bs) (first : Bool) (out : Bs), (out ++ jn fr tt first ws).length ≤ 16384 → swapL fr tt ws first out = out ++ jn fr tt first ws
  | [], first, out, _ => by rw [swapL, jn, List.append_nil]
  | x :: r, first, out, h => by
    rw [jn] at h ⊢
    rw [swapL, if_neg (by simp only [List.length_append] at h; omega), swapL_jn fr tt r false _ (by simpa using h)]
    simp
theorem jn_flat (fr tt : Bs) : ∀ ws : List Bs, jn fr tt false ws = ws.flatMap fun x => 32 :: oneF fr tt x
  | [] => rfl
  | x :: r => by rw [jn, jn_flat fr tt r]; rfl
theorem listB_jn {fr tt : Bs} {f : ByteArray → ByteArray} : ∀ (l : List ByteArray), (∀ x ∈ l, (f x).data.toList = oneF fr tt x.data.toList) → listB (l.map f) = jn fr tt true (l.map (·.data.toList))
  | [], _ => rfl
  | x :: l, h => by
    rw [List.map_cons, listB_flat, List.map_cons, jn, h x (by simp), jn_flat]
    simp only [if_true, List.nil_append, List.flatMap_map]
    congr 1
    exact fm_congr l (fun y hy => by rw [h y (List.mem_cons_of_mem _ hy)])
theorem swapF_any {fr tt : Bs} {v : ByteArray} {f : ByteArray → ByteArray} (hf : ∀ x ∈ wordsB v, (f x).data.toList = oneF fr tt x.data.toList) (hl : (listB ((wordsB v).map f)).length ≤ 16384) : swapF v.data.toList fr tt = listB ((wordsB v).map f) := by
  unfold swapF
  rw [mk_data, listB_jn _ hf] at *
  rw [swapL_jn _ _ _ _ _ (by rw [List.nil_append]; exact hl), List.nil_append]
theorem rhp_pre (s p : ByteArray) : rhp s p = Lib.hasPrefix s.data.toList p.data.toList := by
  unfold rhp
  rw [Bool.eq_iff_iff, Bool.and_eq_true, decide_eq_true_iff, beq_iff_eq, Lib.extract_toList, Lib.toList_data, Lib.hasPrefix, List.isPrefixOf_iff_prefix]
  constructor
  · rintro ⟨h1, h2⟩
    rw [← h2, List.drop_zero, Nat.sub_zero]
    exact List.take_prefix _ _
  · intro h
    have h1 := h.length_le
    rw [dl, dl] at h1
    refine ⟨h1, ?_⟩
    rw [List.drop_zero, Nat.sub_zero, ← dl p]
    exact (List.prefix_iff_eq_take.1 h).symm
theorem rends_suf (s x : ByteArray) : rends s x = Lib.hasSuffix s.data.toList x.data.toList := endB_suf s x
theorem cut37_at (a b : Bs) (h : (37 : UInt8) ∉ a) : Lib.cut (a ++ 37 :: b) [37] = (a, b, true) := cut_at a b h
set_option maxRecDepth 100000 in
set_option maxHeartbeats 2000000 in
theorem StemP_any (fr x : ByteArray) (w : World) (h37 : (37 : UInt8) ∈ fr.data.toList) (h1 : fr.size ≤ 1000000) (h2 : x.size ≤ 1000000) :
    ∃ st : ByteArray, (Calls Tryd.prog 45 #[.string fr, .string x] w fun e w' => e = .returned (.tuple #[.string st, .bool (matchF fr.data.toList x.data.toList).2]) ∧ w' = w) ∧ ((matchF fr.data.toList x.data.toList).2 = true → st.data.toList = (matchF fr.data.toList x.data.toList).1) := by
  obtain ⟨a, b, hpl, ha⟩ := split_pc h37
  have hc := RefStem_at fr x (mk a) (mk b) a b w h1 h2 hpl ha rfl rfl
  have hsm : stemOk (mk a) (mk b) x = (matchF fr.data.toList x.data.toList).2 := by
    unfold matchF
    rw [hpl, cut_at a b ha, if_neg (by simp)]
    dsimp only
    unfold stemOk
    rw [rhp_pre, rends_suf, mk_list, mk_list, sz_mk, sz_mk, dl]
    by_cases c1 : a.length + b.length < x.size
    · rw [decide_eq_true c1, Bool.true_and]
      cases hq1 : Lib.hasPrefix x.data.toList a <;> cases hq2 : Lib.hasSuffix x.data.toList b
      · rw [if_pos (.inr (.inl rfl))]; rfl
      · rw [if_pos (.inr (.inl rfl))]; rfl
      · rw [if_pos (.inr (.inr rfl))]; rfl
      · rw [if_neg (by simp; omega)]; rfl
    · rw [decide_eq_false c1, if_pos (.inl (by omega))]; rfl
  refine ⟨_, hc.mono fun e w' ⟨q1, q2⟩ => ⟨by rw [← hsm]; exact q1, q2.symm⟩, fun hm => ?_⟩
  rw [hsm, if_pos hm]
  have hm' := hm
  unfold matchF at hm ⊢
  rw [hpl, cut_at a b ha] at hm ⊢
  simp only [Bool.true_eq_false, if_false] at hm ⊢
  split at hm
  · cases hm
  · rename_i hn
    rw [if_neg hn]
    dsimp only
    rw [dl] at hn
    have hlt : a.length + b.length < x.size := by
      rcases Nat.lt_or_ge (a.length + b.length) x.size with h | h
      · exact h
      · exact absurd (.inl h) hn
    refine Eq.trans (b := (x.data.toList.take (x.size - b.length)).drop a.length) ?_ (by rw [← dl x])
    have e := (ext_dt (t := x) (a := a.length) (b := x.size - b.length) (by omega) (by omega)).1
    rw [sz_mk, sz_mk]
    exact e
theorem FillP_any (tt st : ByteArray) (w : World) (h1 : tt.size ≤ 1000000) (h2 : st.size ≤ 1000000) :
    Calls Tryd.prog 46 #[.string tt, .string st] w fun e w' => e = .returned (.string (mk (Lib.replace tt.data.toList [37] st.data.toList 1))) ∧ ∃ n, w' = w.drewN n := by
  by_cases h37 : (37 : UInt8) ∈ tt.data.toList
  · obtain ⟨a, b, hpl, ha⟩ := split_pc h37
    refine (RefFill_at tt st (mk a) (mk b) a b w h1 h2 hpl ha rfl rfl).mono fun e w' ⟨q1, q2⟩ => ⟨?_, q2⟩
    rw [q1, hpl, replace_at a b ha]
    refine congrArg (fun z => Ending.returned (.string z)) (ba_ext ?_)
    rw [ByteArray.data_append, Array.toList_append, ByteArray.data_append, Array.toList_append]
  · refine (RefFill_no tt st w h1 h37).mono fun e w' ⟨q1, q2⟩ => ⟨?_, 0, by rw [← q2]; exact (World.drewN_zero _).symm⟩
    rw [q1, replace_no h37, show mk tt.data.toList = tt from mk_data tt]
/-- The word behind a change with a %. -/
def pq (fr tt x : ByteArray) : ByteArray := if (matchF fr.data.toList x.data.toList).2 = true then mk (Lib.replace tt.data.toList [37] (matchF fr.data.toList x.data.toList).1 1) else x
theorem idx_mem {c : UInt8} : ∀ {l : Bs}, c ∈ l → 0 ≤ Lib.indexByte l c
  | b :: t, h => by
    rw [idx_cons]
    split
    · omega
    · rename_i hb
      rcases List.mem_cons.1 h with rfl | h
      · exact absurd rfl hb
      · have := idx_mem h
        rw [if_neg (by omega)]; omega
theorem pq_one {fr tt x : ByteArray} (h37 : (37 : UInt8) ∈ fr.data.toList) : (pq fr tt x).data.toList = oneF fr.data.toList tt.data.toList x.data.toList := by
  unfold pq oneF
  rw [if_pos (idx_mem h37)]
  split <;> rfl
theorem match_len (fr x : Bs) : (matchF fr x).1.length ≤ x.length := by
  unfold matchF
  split
  · exact Nat.zero_le _
  · split
    · exact Nat.zero_le _
    · dsimp only; rw [List.length_drop, List.length_take]; omega
theorem pq_size {fr tt x : ByteArray} : (pq fr tt x).size ≤ tt.size + x.size := by
  unfold pq
  split
  · rw [sz_mk]
    have h1 := replace_le tt.data.toList (matchF fr.data.toList x.data.toList).1
    have h2 := match_len fr.data.toList x.data.toList
    rw [dl] at h1 h2; omega
  · omega
/-- Words under way. -/
def half (fr tt : ByteArray) (ws : List ByteArray) (k : Nat) : List ByteArray := (ws.take k).map (pq fr tt) ++ ws.drop k
theorem half_len (fr tt : ByteArray) (ws : List ByteArray) (k : Nat) : (half fr tt ws k).length = ws.length := by
  unfold half; rw [List.length_append, List.length_map, ← List.length_append, List.take_append_drop]
theorem half_zero (fr tt : ByteArray) (ws : List ByteArray) : half fr tt ws 0 = ws := by unfold half; simp
theorem half_all (fr tt : ByteArray) (ws : List ByteArray) : half fr tt ws ws.length = ws.map (pq fr tt) := by unfold half; simp
theorem half_at (fr tt : ByteArray) {ws : List ByteArray} {k : Nat} (h : k < ws.length) : (half fr tt ws k)[k]? = some ws[k] := by
  unfold half
  rw [List.getElem?_append_right (by rw [List.length_map, List.length_take]; omega), List.length_map, List.length_take, Nat.min_eq_left (by omega), Nat.sub_self, List.getElem?_drop, Nat.add_zero, List.getElem?_eq_getElem h]
theorem half_set (fr tt : ByteArray) {ws : List ByteArray} {k : Nat} (h : k < ws.length) : ((half fr tt ws k).map Value.string).set k (.string (pq fr tt ws[k])) = (half fr tt ws (k + 1)).map .string := by
  have e : half fr tt ws (k + 1) = (half fr tt ws k).set k (pq fr tt ws[k]) := by
    unfold half
    have hl : ((ws.take k).map (pq fr tt)).length = k := by rw [List.length_map, List.length_take]; omega
    rw [List.set_append_right _ _ (by omega), hl, Nat.sub_self, List.drop_eq_getElem_cons h, List.set_cons_zero, List.take_succ_eq_append_getElem h, List.map_append]
    simp
  rw [e, List.map_set]
theorem half_next (fr tt : ByteArray) {ws : List ByteArray} {k : Nat} (h : k < ws.length) (hq : pq fr tt ws[k] = ws[k]) : half fr tt ws (k + 1) = half fr tt ws k := by
  unfold half
  rw [List.take_succ_eq_append_getElem h, List.map_append, List.map_singleton, hq, List.append_assoc, List.singleton_append, ← List.drop_eq_getElem_cons h]
end Go.Proofs.YthbemfpoanmjcaaDoor
