import Derived.Test.YtjagnihkpgbjeaaDoorQ
namespace Go.Proofs.YtjagnihkpgbjeaaDoor
open Go.RowKit

theorem Has_stroke (p : ByteArray) (w : World) (v : Bool) (hv : Hid (v = true ↔ 0 < p.size ∧ gb p 0 = 47)) :
    Calls Tryd.prog 59 #[.string p, .string ⟨#[47]⟩] w fun e w' => e = .returned (.bool v) ∧ w' = w := by
  have h : Lib.hasPrefix p.data.toList [47] = v := by
    rw [Bool.eq_iff_iff, hv.out, rooted_iff, rooted]
    cases p.data.toList with
    | nil => simp [Lib.hasPrefix]
    | cons a t =>
      simp [Lib.hasPrefix]
      exact ⟨Eq.symm, Eq.symm⟩
  refine (Tryd.strings_HasPrefix p ⟨#[47]⟩ w).mono ?_
  rintro e w' ⟨rfl, rfl⟩
  exact ⟨by rw [← h], rfl⟩

set_option maxRecDepth 100000 in
set_option maxHeartbeats 2000000 in
theorem Parts_any (cwd p : ByteArray) (w : World) (hc : cwd.size ≤ 40000) (hp : p.size ≤ 40000) :
    Calls Tryd.prog 66 #[.string cwd, .string p] w fun e w' => ∃ v', e = .returned v' ∧ w'.ownsRow w.heap.size 9 1 v' (parts cwd p).length ((parts cwd p).map encStr) ∧ Below w.heap.size w w' := by
  obtain ⟨v, hv⟩ : ∃ v : Bool, (v = true ↔ 0 < p.size ∧ gb p 0 = 47) := ⟨decide (0 < p.size ∧ gb p 0 = 47), by simp⟩
  have HV := Lib.hid hv
  obtain ⟨R, hR⟩ : ∃ R, parts cwd p = R := ⟨_, rfl⟩
  rw [hR]
  have HR := Lib.hid hR
  clear hv hR
  go_enter Tryd.func66, Tryd.ntmps66
  go_wp2_with fail
  refine (Has_stroke p w v HV.out).mono ?_
  rintro e w1 ⟨rfl, hw1⟩
  obtain rfl := hw1.symm
  cases v
  · have HE : Hid ((sp p.data.toList).foldl push ((sp cwd.data.toList).foldl push []) = R) := by
      rw [Hid, ← HR.out, parts, if_neg (fun h => by have := HV.out.2 h; simp at this)]
    have hb := push_fold_len (sp cwd.data.toList) []
    have hb2 := sp_len cwd.data.toList
    have hb3 : cwd.data.toList.length = cwd.size := Array.length_toList
    obtain ⟨M, hM⟩ : ∃ M, (sp cwd.data.toList).foldl push [] = M := ⟨_, rfl⟩
    have hml : M.length ≤ 40001 := by rw [← hM]; simp at hb; omega
    rw [hM] at HE
    have HM := Lib.hid hM
    clear hb hb2 hb3 hM
    go_wp2_with fail
    refine (follow_any w.heap.size (.slice none 0 0) [] cwd w (Nat.le_refl _) (World.ownsRow_nil _ _ _ _) (by simp; omega)).mono ?_
    rintro e w2 ⟨v2, rfl, hown2, hB2⟩
    rw [HM.out] at hown2
    obtain ⟨A, c, rfl⟩ := own_form hown2
    have HO2 := Lib.hid hown2
    have HB2 := Lib.hid hB2
    clear hown2 hB2
    go_wp2_with fail
    refine (follow_any w.heap.size _ M p w2 HB2.out.size HO2.out (by omega)).mono ?_
    rintro e w3 ⟨v3, rfl, hown3, hB3⟩
    rw [HE.out] at hown3
    have HO3 := Lib.hid hown3
    have HB3 := Lib.hid (HB2.out.trans hB3)
    clear hown3 hB3
    obtain ⟨A3, c3, rfl⟩ := own_form HO3.out
    go_wp2_with fail
    go_ret
    exact ⟨_, rfl, HO3.out, HB3.out⟩
  · have HE : Hid ((sp p.data.toList).foldl push [] = R) := by
      rw [Hid, ← HR.out, parts, if_pos (HV.out.1 rfl)]
    go_wp2_with fail
    refine (follow_any w.heap.size (.slice none 0 0) [] p w (Nat.le_refl _) (World.ownsRow_nil _ _ _ _) (by simp; omega)).mono ?_
    rintro e w3 ⟨v3, rfl, hown3, hB3⟩
    rw [HE.out] at hown3
    have HO3 := Lib.hid hown3
    have HB3 := Lib.hid hB3
    clear hown3 hB3
    obtain ⟨A3, c3, rfl⟩ := own_form HO3.out
    go_wp2_with fail
    go_ret
    exact ⟨_, rfl, HO3.out, HB3.out⟩

theorem written_join : ∀ L : List Bs, 47 :: Lib.join L [47] = written L
  | [] => rfl
  | a :: r => by
    rw [Lib.join_cons, written, if_neg (by simp)]
    induction r generalizing a with
    | nil => simp [joined, Lib.joinTail]
    | cons b r ih =>
      simp [joined, Lib.joinTail]
      rw [List.flatMap_def]
theorem bs_map (L : List Bs) : (L.map bs).map (fun x : ByteArray => x.data.toList) = L := by
  rw [List.map_map]
  exact List.map_id L

set_option maxRecDepth 100000 in
set_option maxHeartbeats 2000000 in
theorem rooted_any (A : Option Addr) (c : Nat) (L : List Bs) (w : World) (hS : StrsL w A L) (hcap : L.length ≤ c) (hn : (joined L).length ≤ 1000000) :
    Calls Tryd.prog 89 #[.slice A L.length c] w fun e w' => e = .returned (.string ⟨(written L).toArray⟩) ∧ Below w.heap.size w w' := by
  have hll : L.length ≤ (joined L).length := by
    clear hS hcap hn
    induction L with
    | nil => simp
    | cons a L ih => rw [joined_cons, List.length_cons]; omega
  obtain ⟨R, hR⟩ : ∃ R : ByteArray, (⟨(Lib.join L [47]).toArray⟩ : ByteArray) = R := ⟨_, rfl⟩
  have hw : 47 :: R.data.toList = written L := by rw [← hR]; exact written_join L
  have hres : (⟨#[47]⟩ : ByteArray) ++ R = ⟨(written L).toArray⟩ := bytes_eq (by rw [← hw]; simp)
  have hRs : R.size ≤ 1000000 := by
    have h1 : R.data.toList.length = R.size := Array.length_toList
    have h2 : (written L).length ≤ (joined L).length + 1 := by
      unfold written; split <;> simp
    rw [← hw] at h2
    simp at h2
    omega
  have HJ : Calls Tryd.prog 113 #[.slice A L.length c, .string ⟨#[47]⟩] w fun e w' => e = .returned (.string R) ∧ Below w.heap.size w w' := by
    by_cases hl : 0 < L.length
    · obtain ⟨g, off, rfl, hg, hcell⟩ := hS hl
      have := Tryd.strings_Join g off c (L.map bs) ⟨#[47]⟩ w (fun j x hx => by
        rw [List.getElem?_map] at hx
        have hj : j < L.length := by
          by_cases h : j < L.length
          · exact h
          · rw [List.getElem?_eq_none (by omega)] at hx; cases hx
        rw [List.getElem?_eq_getElem hj] at hx
        injection hx with hx
        rw [hcell j hj, ← hx]; rfl) hg (by simp; omega) (by simpa using hcap) (by
          rw [bs_map]
          have h1 : (47 :: Lib.join L [47]).length = (written L).length := congrArg List.length (written_join L)
          have h2 : (written L).length ≤ (joined L).length + 1 := by
            unfold written; split <;> simp
          simp only [List.length_cons] at h1
          show (Lib.join L [47]).length ≤ _
          omega)
      rw [bs_map, List.length_map] at this
      refine this.mono ?_
      rintro e w' ⟨rfl, hB⟩
      exact ⟨by rw [← hR], hB⟩
    · obtain rfl : L = [] := List.length_eq_zero_iff.1 (by omega)
      refine (Tryd.strings_Join_none A c ⟨#[47]⟩ w).mono ?_
      rintro e w' ⟨rfl, rfl⟩
      exact ⟨by rw [← hR]; rfl, Below.refl _ _⟩
  have HJJ := Lib.hid HJ
  clear HJ hw hR hS hn hll
  go_enter Tryd.func89, Tryd.ntmps89
  go_wp2_with fail
  refine HJJ.out.mono ?_
  rintro e w1 ⟨rfl, hB⟩
  have HB := Lib.hid hB
  clear hB
  go_wp2_with fail
  go_ret
  exact ⟨rfl, HB.out⟩
end Go.Proofs.YtjagnihkpgbjeaaDoor
