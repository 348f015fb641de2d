import Derived.Test.YtjagnihkpgbjeaaDoorJ
namespace Go.Proofs.YtjagnihkpgbjeaaDoor
open Go.RowKit

/-! The laws of names, strokes and pushes. -/
def Good (L : List Bs) : Prop := ∀ x ∈ L, x ≠ [] ∧ x ≠ [46] ∧ x ≠ [46, 46] ∧ ∀ c ∈ x, c ≠ 47
theorem good_nil : Good [] := fun x h => by simp at h
theorem good_sub {L M : List Bs} (h : Good M) (hs : ∀ x ∈ L, x ∈ M) : Good L := fun x hx => h x (hs x hx)
theorem good_last {L : List Bs} (h : Good L) : Good L.dropLast := good_sub h fun _ hx => List.dropLast_subset _ hx
theorem sp_no : ∀ (a : Bs) (x : Bs), x ∈ sp a → ∀ c ∈ x, c ≠ 47
  | [], x, h => by simp [sp] at h; subst h; simp
  | d :: t, x, h => by
    have ih := sp_no t
    rw [sp] at h
    split at h
    · rcases List.mem_cons.1 h with rfl | h
      · simp
      · exact ih x h
    · rename_i hd
      split at h
      · simp at h; subst h; simpa using hd
      · rename_i a r e
        rw [e] at ih
        rcases List.mem_cons.1 h with rfl | h
        · intro c hc
          rcases List.mem_cons.1 hc with rfl | hc
          · exact hd
          · exact ih a (by simp) c hc
        · exact ih x (by simp [h])
theorem sp_app : ∀ (a t : Bs), sp (a ++ 47 :: t) = sp a ++ sp t
  | [], t => by simp [sp]
  | c :: a, t => by
    have ih := sp_app a t
    rw [List.cons_append, sp]
    by_cases hc : c = 47
    · rw [if_pos hc, ih, sp, if_pos hc]; rfl
    · rw [if_neg hc, ih, sp, if_neg hc]
      cases h : sp a with
      | nil => cases a with
        | nil => simp [sp] at h
        | cons d r =>
          rw [sp] at h
          split at h
          · simp at h
          · split at h <;> simp at h
      | cons b r => rfl
theorem push_good {l : List Bs} {s : Bs} (h : Good l) (hs : ∀ c ∈ s, c ≠ 47) : Good (push l s) := by
  unfold push
  split
  · exact h
  · rename_i h1
    split
    · exact good_last h
    · rename_i h2
      intro x hx
      rcases List.mem_append.1 hx with hx | hx
      · exact h x hx
      · simp at hx; subst hx
        exact ⟨fun e => h1 (.inl e), fun e => h1 (.inr e), h2, hs⟩
theorem fold_good : ∀ (P : List Bs) {l : List Bs}, Good l → (∀ x ∈ P, ∀ c ∈ x, c ≠ 47) → Good (P.foldl push l)
  | [], _, h, _ => h
  | a :: P, _, h, hp => fold_good P (push_good h (hp a (by simp))) fun x hx => hp x (by simp [hx])
theorem parts_good (cwd p : ByteArray) : Good (parts cwd p) := by
  unfold parts
  refine fold_good _ ?_ (sp_no _)
  split
  · exact good_nil
  · exact fold_good _ good_nil (sp_no _)
theorem push_of {l : List Bs} {s : Bs} (h : s ≠ [] ∧ s ≠ [46] ∧ s ≠ [46, 46] ∧ ∀ c ∈ s, c ≠ 47) : push l s = l ++ [s] := by
  unfold push
  rw [if_neg (by rintro (e | e); exact h.1 e; exact h.2.1 e), if_neg h.2.2.1]
theorem fold_id : ∀ (L l : List Bs), Good L → L.foldl push l = l ++ L
  | [], l, _ => by simp
  | a :: L, l, h => by
    rw [List.foldl_cons, push_of (h a (by simp)), fold_id L _ (fun x hx => h x (by simp [hx]))]
    simp
theorem sp_joined : ∀ (L : List Bs), Good L → sp (joined L) = [] :: L
  | [], _ => rfl
  | a :: L, h => by
    have ih := sp_joined L (fun x hx => h x (by simp [hx]))
    have ha := (h a (by simp)).2.2.2
    rw [show joined (a :: L) = [] ++ 47 :: (a ++ joined L) by simp [joined], sp_app]
    cases L with
    | nil => rw [show joined ([] : List Bs) = [] from rfl, List.append_nil, sp_all a ha]; rfl
    | cons b M =>
      rw [show joined (b :: M) = 47 :: (b ++ joined M) by simp [joined]] at ih ⊢
      rw [show sp (47 :: (b ++ joined M)) = [] :: sp (b ++ joined M) by simp [sp]] at ih
      injection ih with _ ih
      rw [sp_cut _ _ ha, ih]; rfl
theorem push_nil (l : List Bs) : push l [] = l := by simp [push]
theorem fold_written (L : List Bs) (h : Good L) : (sp (written L)).foldl push [] = L := by
  unfold written
  split
  · rename_i e; subst e; rfl
  · rw [sp_joined L h, List.foldl_cons, push_nil, fold_id L _ h, List.nil_append]

/-- A list's bytes as a string. -/
def bs (l : Bs) : ByteArray := ⟨l.toArray⟩
theorem bs_list (l : Bs) : (bs l).data.toList = l := rfl
theorem bs_size (l : Bs) : (bs l).size = l.length := rfl
theorem bs_of (s : ByteArray) : bs s.data.toList = s := rfl
/-- Does a path begin with a stroke. -/
def rooted (a : Bs) : Prop := a.head? = some 47
instance (a : Bs) : Decidable (rooted a) := by unfold rooted; infer_instance
theorem rooted_iff (p : ByteArray) : (0 < p.size ∧ gb p 0 = 47) ↔ rooted p.data.toList := by
  have hl : p.data.toList.length = p.size := Array.length_toList
  unfold rooted gb
  cases h : p.data.toList with
  | nil => rw [h] at hl; simp at hl; simp [← hl]
  | cons a t => rw [h] at hl; simp at hl; simp; omega
def partsL (c p : Bs) : List Bs := (sp p).foldl push (if rooted p then [] else (sp c).foldl push [])
theorem parts_eq (cwd p : ByteArray) : parts cwd p = partsL cwd.data.toList p.data.toList := by
  unfold parts partsL
  simp only [rooted_iff]
theorem partsL_good (c p : Bs) : Good (partsL c p) := by
  rw [← bs_list c, ← bs_list p, ← parts_eq]; exact parts_good _ _
theorem rooted_written (L : List Bs) : rooted (written L) := by
  unfold rooted written
  split
  · rfl
  · cases L with
    | nil => contradiction
    | cons a l => simp [joined]
theorem partsL_written (c : Bs) {L : List Bs} (h : Good L) : partsL c (written L) = L := by
  unfold partsL
  rw [if_pos (rooted_written L), fold_written L h]
theorem rooted_app {p : Bs} (hp : p ≠ []) (t : Bs) : rooted (p ++ t) ↔ rooted p := by
  cases p with
  | nil => exact absurd rfl hp
  | cons a l => simp [rooted]
/-- Further names behind a path. -/
theorem partsL_app {p : Bs} (hp : p ≠ []) (c t : Bs) : partsL c (p ++ 47 :: t) = (sp t).foldl push (partsL c p) := by
  unfold partsL
  rw [sp_app, List.foldl_append]
  simp only [rooted_app hp]
theorem partsL_one {q : Bs} (hq : ¬ rooted q) {L : List Bs} (h : Good L) : partsL (written L) q = (sp q).foldl push L := by
  unfold partsL
  rw [if_neg hq, fold_written L h]
theorem steps_law {c p q : Bs} (hp : p ≠ []) (hq : ¬ rooted q) : partsL (written (partsL c p)) q = partsL c (p ++ 47 :: q) := by
  rw [partsL_one hq (partsL_good c p), partsL_app hp]
theorem dots_more {c p n : Bs} (hp : p ≠ []) (hn : n ≠ [] ∧ n ≠ [46] ∧ n ≠ [46, 46] ∧ ∀ x ∈ n, x ≠ 47) : partsL c (p ++ 47 :: n) = partsL c p ++ [n] := by
  rw [partsL_app hp, sp_all n hn.2.2.2, List.foldl_cons, push_of hn]; rfl
theorem dots_one {c p : Bs} (hp : p ≠ []) : partsL c (p ++ [47, 46, 47]) = partsL c p := by
  rw [show p ++ [47, 46, 47] = p ++ 47 :: [46, 47] from rfl, partsL_app hp]
  rfl
theorem dots_two {c p n : Bs} (hp : p ≠ []) (hn : n ≠ [] ∧ n ≠ [46] ∧ n ≠ [46, 46] ∧ ∀ x ∈ n, x ≠ 47) : partsL c (p ++ [47, 47] ++ n ++ [47, 46, 46]) = partsL c p := by
  rw [show p ++ [47, 47] ++ n ++ [47, 46, 46] = p ++ 47 :: (47 :: (n ++ 47 :: [46, 46])) by simp, partsL_app hp]
  rw [show sp (47 :: (n ++ 47 :: [46, 46])) = [] :: sp (n ++ 47 :: [46, 46]) by simp [sp], sp_cut n _ hn.2.2.2, List.foldl_cons, push_nil, List.foldl_cons, push_of hn]
  simp [sp, push]

/-- Every byte of a path's names is one of the two texts'. -/
theorem push_mem {l : List Bs} {s x : Bs} (h : x ∈ push l s) : x ∈ l ∨ x = s := by
  unfold push at h
  split at h
  · exact .inl h
  · split at h
    · exact .inl (List.dropLast_subset _ h)
    · simpa using h
theorem fold_mem : ∀ (P l : List Bs) (x : Bs), x ∈ P.foldl push l → x ∈ l ∨ x ∈ P
  | [], _, _, h => .inl h
  | a :: P, l, x, h => by
    rcases fold_mem P _ x h with h | h
    · rcases push_mem h with h | h
      · exact .inl h
      · exact .inr (by simp [h])
    · exact .inr (by simp [h])
theorem sp_mem : ∀ (a x : Bs), x ∈ sp a → ∀ c ∈ x, c ∈ a
  | [], x, h => by simp [sp] at h; subst h; simp
  | d :: t, x, h => by
    have ih := sp_mem t
    rw [sp] at h
    split at h
    · rcases List.mem_cons.1 h with rfl | h
      · simp
      · intro c hc; exact List.mem_cons_of_mem _ (ih x h c hc)
    · split at h
      · simp at h; subst h; simp
      · rename_i a r e
        rw [e] at ih
        rcases List.mem_cons.1 h with rfl | h
        · intro c hc
          rcases List.mem_cons.1 hc with rfl | hc
          · simp
          · exact List.mem_cons_of_mem _ (ih a (by simp) c hc)
        · intro c hc; exact List.mem_cons_of_mem _ (ih x (by simp [h]) c hc)
theorem partsL_bytes {c p x : Bs} (h : x ∈ partsL c p) : ∀ b ∈ x, b ∈ c ∨ b ∈ p := by
  intro b hb
  unfold partsL at h
  rcases fold_mem _ _ _ h with h | h
  · split at h
    · simp at h
    · rcases fold_mem _ _ _ h with h | h
      · simp at h
      · exact .inl (sp_mem _ _ h b hb)
  · exact .inr (sp_mem _ _ h b hb)
theorem written_bytes {L : List Bs} {b : UInt8} (h : b ∈ written L) : b = 47 ∨ ∃ x ∈ L, b ∈ x := by
  unfold written at h
  split at h
  · simp at h; exact .inl h
  · unfold joined at h
    rw [List.mem_flatMap] at h
    obtain ⟨x, hx, hb⟩ := h
    rcases List.mem_cons.1 hb with h | h
    · exact .inl h
    · exact .inr ⟨x, hx, h⟩
end Go.Proofs.YtjagnihkpgbjeaaDoor
