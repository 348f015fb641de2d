import Derived.Test.YtmpnhjdadjfecaaDoorD
namespace Go.Proofs.YtmpnhjdadjfecaaDoor
open Go.RowKit

theorem joined_cons (a : Bs) (L : List Bs) : (joined (a :: L)).length = a.length + 1 + (joined L).length := by
  simp [joined]
  omega
theorem joined_app (L M : List Bs) : (joined (L ++ M)).length = (joined L).length + (joined M).length := by
  simp [joined]
theorem joined_sp : ∀ a : Bs, (joined (sp a)).length = a.length + 1
  | [] => by simp [sp, joined]
  | c :: t => by
    have h := joined_sp t
    rw [sp]
    split
    · rw [joined_cons, h]; simp; omega
    · split
      · rename_i e
        rw [e] at h
        simp [joined] at h
      · rename_i a r e
        rw [e, joined_cons] at h
        rw [joined_cons]
        simp only [List.length_cons]
        omega
theorem joined_drop (l : List Bs) : (joined l.dropLast).length ≤ (joined l).length := by
  rw [List.dropLast_eq_take]; exact joined_len l _
theorem joined_push (l : List Bs) (s : Bs) : (joined (push l s)).length ≤ (joined l).length + (s.length + 1) := by
  unfold push
  split
  · omega
  · split
    · have := joined_drop l; omega
    · rw [joined_app, joined_cons]; simp [joined]
theorem joined_fold (P : List Bs) : ∀ l : List Bs, (joined (P.foldl push l)).length ≤ (joined l).length + (joined P).length := by
  induction P with
  | nil => intro l; simp
  | cons a P ih =>
    intro l
    have h1 := ih (push l a)
    have h2 := joined_push l a
    rw [List.foldl_cons, joined_cons]
    omega
theorem parts_joined (cwd p : ByteArray) : (joined (parts cwd p)).length ≤ cwd.size + p.size + 2 := by
  have h1 := joined_fold (sp p.data.toList) (if 0 < p.size ∧ gb p 0 = 47 then [] else (sp cwd.data.toList).foldl push [])
  have h2 := joined_fold (sp cwd.data.toList) []
  have l1 : p.data.toList.length = p.size := Array.length_toList
  have l2 : cwd.data.toList.length = cwd.size := Array.length_toList
  rw [joined_sp] at h1 h2
  unfold parts
  split at h1 <;> rename_i hc
  · rw [if_pos hc]; simp [joined] at h1 h2 ⊢; omega
  · rw [if_neg hc]; simp [joined] at h1 h2 ⊢; omega
theorem parts_len (cwd p : ByteArray) : (parts cwd p).length ≤ cwd.size + p.size + 2 := by
  have h := parts_joined cwd p
  have : ∀ L : List Bs, L.length ≤ (joined L).length := fun L => by
    induction L with
    | nil => simp
    | cons a L ih => rw [joined_cons, List.length_cons]; omega
  have := this (parts cwd p)
  omega

set_option maxRecDepth 100000 in
set_option maxHeartbeats 2000000 in
theorem RefDir_any (p : ByteArray) (w : World) (hp : p.size ≤ 1100000) :
    Calls Tryd.prog 17 #[.string p] w fun e w' => e = .returned (.string ⟨(written (parts ⟨#[47]⟩ p).dropLast).toArray⟩) ∧ Below w.heap.size w w' := by
  have hj := parts_joined ⟨#[47]⟩ p
  have hl := parts_len ⟨#[47]⟩ p
  have h1 : (⟨#[47]⟩ : ByteArray).size = 1 := rfl
  rw [h1] at hj hl
  obtain ⟨M, hM⟩ : ∃ M, parts ⟨#[47]⟩ p = M := ⟨_, rfl⟩
  rw [hM] at hj hl
  rw [hM]
  have hd := joined_drop M
  have HM := Lib.hid hM
  clear hM h1
  go_enter Tryd.func17, Tryd.ntmps17
  go_wp2_with fail
  refine (RefParts_any ⟨#[47]⟩ p w (by decide) hp).mono ?_
  rintro e w1 ⟨v, rfl, hown, hB⟩
  rw [HM.out] at hown
  have HB := Lib.hid hB
  clear hB
  by_cases hn : 0 < M.length
  · have hnI : (0 : Int) < (M.length : Int) := by omega
    obtain ⟨g, c, rfl, _, _⟩ := hown.form hn
    have hst := slice_last g M.length c hn (own_cap hown hn)
    have hod := own_last hown hn
    have hwr : IntKind.i64.wrap ((M.length : Int) - 1) = (M.length : Int) - 1 := by rw [IntKind.wrap_i64]; omega
    have hwr2 : wrap64 ((M.length : Int) - 1) = (M.length : Int) - 1 := by unfold wrap64; omega
    have HOD : Hid (w1.ownsRow w.heap.size 9 1 (.slice (some ⟨g, 0, none⟩) (M.length - 1) c) M.dropLast.length (M.dropLast.map encStr)) := by rw [Hid, List.length_dropLast]; exact hod
    clear hod hown
    go_wp2_with fail
    refine (RefWrite_any w.heap.size _ M.dropLast w1 HOD.out (by omega) (by rw [List.length_dropLast]; omega)).mono ?_
    rintro e w2 ⟨rfl, hw2⟩
    obtain rfl := hw2.symm
    go_wp2_with fail
    go_ret
    exact ⟨rfl, HB.out⟩
  · have hnI : ¬ (0 : Int) < (M.length : Int) := by omega
    obtain rfl : M = [] := List.length_eq_zero_iff.1 (by omega)
    obtain ⟨A, c, rfl⟩ := own_form hown
    have HO := Lib.hid hown
    clear hown
    go_wp2_with fail
    refine (RefWrite_any w.heap.size _ [] w1 HO.out (by simp [joined]) (by simp)).mono ?_
    rintro e w2 ⟨rfl, hw2⟩
    obtain rfl := hw2.symm
    go_wp2_with fail
    go_ret
    exact ⟨rfl, HB.out⟩
end Go.Proofs.YtmpnhjdadjfecaaDoor
