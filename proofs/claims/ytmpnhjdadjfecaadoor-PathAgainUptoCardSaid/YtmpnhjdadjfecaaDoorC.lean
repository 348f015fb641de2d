import Derived.Test.YtmpnhjdadjfecaaDoorB
namespace Go.Proofs.YtmpnhjdadjfecaaDoor
open Go.RowKit

/-- The names of a path as it is seen from a directory. -/
def parts (cwd p : ByteArray) : List Bs :=
  (sp p.data.toList).foldl push (if 0 < p.size ∧ gb p 0 = 47 then [] else (sp cwd.data.toList).foldl push [])

theorem push_fold_len (P : List Bs) : ∀ l : List Bs, (P.foldl push l).length ≤ l.length + P.length := by
  induction P with
  | nil => intro l; simp
  | cons a P ih =>
    intro l
    have h1 := ih (push l a)
    have h2 := push_len l a
    simp only [List.foldl_cons, List.length_cons]
    omega
theorem sp_len : ∀ a : Bs, (sp a).length ≤ a.length + 1
  | [] => by simp [sp]
  | c :: t => by
    have h := sp_len t
    rw [sp]
    split
    · simp; omega
    · split
      · simp
      · rename_i a r e
        rw [e] at h
        simp at h ⊢
        omega

set_option maxRecDepth 100000 in
set_option maxHeartbeats 2000000 in
theorem Begins_stroke (p : ByteArray) (w : World) (v : Bool) (hv : Hid (v = true ↔ 0 < p.size ∧ gb p 0 = 47)) :
    Calls Tryd.prog 23 #[.string p, .string ⟨#[47]⟩] w fun e w' => e = .returned (.bool v) ∧ w' = w := by
  by_cases h1 : 0 < p.size
  · have hs : seg p 0 1 = [gb p 0] := by
      have hl : p.data.toList.length = p.size := Array.length_toList
      unfold seg gb
      cases h : p.data.toList with
      | nil => rw [h] at hl; simp at hl; omega
      | cons a t => simp
    have he := seg_ext p 0 1
    rw [hs] at he
    have HV : Hid ((([gb p 0] : Bs) == [47]) = v) := by
      rw [Hid, Bool.eq_iff_iff, hv.out, beq_iff_eq]
      constructor
      · intro h; injection h with h _; exact ⟨h1, h⟩
      · rintro ⟨_, h⟩; rw [h]
    have b1 : (1 : Int) ≤ (p.size : Int) := by omega
    obtain ⟨u, hu⟩ : ∃ u, (([gb p 0] : Bs) == [47]) = u := ⟨_, rfl⟩
    rw [hu] at HV
    have HU : Hid (((p.extract 0 1).toList == [47]) = u) := by rw [Hid, he]; exact hu
    clear he hs hu hv
    go_enter Tryd.func23, Tryd.ntmps23
    go_wp2_with fail
    go_ret
    exact ⟨by rw [← HV.out, ← HU.out]; rfl, rfl⟩
  · have HV : Hid (v = false) := by
      rw [Hid, Bool.eq_false_iff]
      intro h
      exact h1 (hv.out.1 h).1
    have b1 : ¬ (1 : Int) ≤ (p.size : Int) := by omega
    clear hv
    go_enter Tryd.func23, Tryd.ntmps23
    go_wp2_with fail
    go_ret
    exact ⟨by rw [HV.out]; rfl, rfl⟩

set_option maxRecDepth 100000 in
set_option maxHeartbeats 2000000 in
theorem RefParts_any (cwd p : ByteArray) (w : World) (hc : cwd.size ≤ 1100000) (hp : p.size ≤ 1100000) :
    Calls Tryd.prog 15 #[.string cwd, .string p] w fun e w' => ∃ v', e = .returned v' ∧ w'.ownsRow w.heap.size 9 1 v' (parts cwd p).length ((parts cwd p).map encStr) ∧ Below w.heap.size w w' := by
  obtain ⟨v, hv⟩ : ∃ v : Bool, (v = true ↔ 0 < p.size ∧ gb p 0 = 47) := ⟨decide (0 < p.size ∧ gb p 0 = 47), by simp⟩
  have HV := Lib.hid hv
  obtain ⟨R, hR⟩ : ∃ R, parts cwd p = R := ⟨_, rfl⟩
  rw [hR]
  have HR := Lib.hid hR
  clear hv hR
  go_enter Tryd.func15, Tryd.ntmps15
  go_wp2_with fail
  refine (Begins_stroke p w v HV.out).mono ?_
  rintro e w1 ⟨rfl, hw1⟩
  obtain rfl := hw1.symm
  cases v
  · have HE : Hid ((sp p.data.toList).foldl push ((sp cwd.data.toList).foldl push []) = R) := by
      rw [Hid, ← HR.out, parts, if_neg (fun h => by have := HV.out.2 h; simp at this)]
    have hb := push_fold_len (sp cwd.data.toList) []
    have hb2 := sp_len cwd.data.toList
    have hb3 : cwd.data.toList.length = cwd.size := Array.length_toList
    obtain ⟨M, hM⟩ : ∃ M, (sp cwd.data.toList).foldl push [] = M := ⟨_, rfl⟩
    have hml : M.length ≤ 1100001 := by rw [← hM]; simp at hb; omega
    rw [hM] at HE
    have HM := Lib.hid hM
    clear hb hb2 hb3 hM
    go_wp2_with fail
    refine (RefNames_any w.heap.size (.slice none 0 0) [] cwd w (Nat.le_refl _) (World.ownsRow_nil _ _ _ _) (by simp; omega)).mono ?_
    rintro e w2 ⟨v2, rfl, hown2, hB2⟩
    rw [HM.out] at hown2
    obtain ⟨A, c, rfl⟩ := own_form hown2
    have HO2 := Lib.hid hown2
    have HB2 := Lib.hid hB2
    clear hown2 hB2
    go_wp2_with fail
    refine (RefNames_any w.heap.size _ M p w2 HB2.out.size HO2.out (by omega)).mono ?_
    rintro e w3 ⟨v3, rfl, hown3, hB3⟩
    rw [HE.out] at hown3
    have HO3 := Lib.hid hown3
    have HB3 := Lib.hid (HB2.out.trans hB3)
    clear hown3 hB3
    obtain ⟨A3, c3, rfl⟩ := own_form HO3.out
    go_wp2_with fail
    go_ret
    exact ⟨_, rfl, HO3.out, HB3.out⟩
  · have HE : Hid ((sp p.data.toList).foldl push [] = R) := by
      rw [Hid, ← HR.out, parts, if_pos (HV.out.1 rfl)]
    go_wp2_with fail
    refine (RefNames_any w.heap.size (.slice none 0 0) [] p w (Nat.le_refl _) (World.ownsRow_nil _ _ _ _) (by simp; omega)).mono ?_
    rintro e w3 ⟨v3, rfl, hown3, hB3⟩
    rw [HE.out] at hown3
    have HO3 := Lib.hid hown3
    have HB3 := Lib.hid hB3
    clear hown3 hB3
    obtain ⟨A3, c3, rfl⟩ := own_form HO3.out
    go_wp2_with fail
    go_ret
    exact ⟨_, rfl, HO3.out, HB3.out⟩
end Go.Proofs.YtmpnhjdadjfecaaDoor
