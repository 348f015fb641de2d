import Derived.Test.YtmpnhjdadjfecaaDoorI
namespace Go.Proofs.YtmpnhjdadjfecaaDoor
open Go.RowKit

def abs_ (cwd p : ByteArray) : Bs × Int :=
  if p.size = 0 ∨ 0 ≤ at_ p 0 (p.size + 1) 0 ∨ 0 ≤ at_ cwd 0 (cwd.size + 1) 0 then ([], 1)
  else if ∃ x ∈ parts cwd p, 60 < x.length then ([], 3)
  else if 20 < (parts cwd p).length ∨ 200 < (written (parts cwd p)).length then ([], 3)
  else (written (parts cwd p), 0)

set_option maxRecDepth 100000 in
set_option maxHeartbeats 2000000 in
theorem RefAbs_any (cwd p : ByteArray) (w : World) (hc : cwd.size ≤ 1100000) (hp : p.size ≤ 1100000) (rs : Bs) (rn : Int) (hr : Hid (abs_ cwd p = (rs, rn))) :
    Calls Tryd.prog 11 #[.string cwd, .string p] w fun e w' => e = .returned (.tuple #[.string ⟨rs.toArray⟩, .int .i64 rn]) ∧ Below w.heap.size w w' := by
  by_cases h0 : p.size = 0
  · have hh := hr.out
    rw [abs_, if_pos (.inl h0)] at hh
    injection hh with e1 e2
    subst e1
    subst e2
    have he : p.toList.isEmpty = true := by
      have h2 : p.data.toList.length = p.size := Array.length_toList
      rw [Lib.toList_data, List.isEmpty_iff, ← List.length_eq_zero_iff]; omega
    clear hr
    go_enter Tryd.func11, Tryd.ntmps11
    go_wp2_with fail
    go_ret2
    exact ⟨rfl, Below.refl _ _⟩
  · have he : p.toList.isEmpty = false := by
      have h2 : p.data.toList.length = p.size := Array.length_toList
      rw [Lib.toList_data]
      cases h : p.data.toList with
      | nil => rw [h] at h2; simp at h2; omega
      | cons a t => rfl
    have h1 := At_any p 0 w (by omega)
    have h2 := At_any cwd 0 w (by omega)
    obtain ⟨x, hx⟩ : ∃ x, at_ p 0 (p.size + 1) 0 = x := ⟨_, rfl⟩
    obtain ⟨y, hy⟩ : ∃ y, at_ cwd 0 (cwd.size + 1) 0 = y := ⟨_, rfl⟩
    rw [hx] at h1
    rw [hy] at h2
    have H1 := Lib.hid h1
    have H2 := Lib.hid h2
    have hh := hr.out
    rw [abs_, hx, hy] at hh
    clear h1 h2 hx hy hr
    by_cases hx0 : 0 ≤ x
    · rw [if_pos (.inr (.inl hx0))] at hh
      injection hh with e1 e2
      subst e1
      subst e2
      go_enter Tryd.func11, Tryd.ntmps11
      go_wp2_with fail
      refine H1.out.mono ?_
      rintro e w1 ⟨rfl, hw1⟩
      obtain rfl := hw1.symm
      go_wp2_with fail
      go_ret2
      exact ⟨rfl, Below.refl _ _⟩
    · by_cases hy0 : 0 ≤ y
      · rw [if_pos (.inr (.inr hy0))] at hh
        injection hh with e1 e2
        subst e1
        subst e2
        go_enter Tryd.func11, Tryd.ntmps11
        go_wp2_with fail
        refine H1.out.mono ?_
        rintro e w1 ⟨rfl, hw1⟩
        obtain rfl := hw1.symm
        go_wp2_with fail
        refine H2.out.mono ?_
        rintro e w1 ⟨rfl, hw1⟩
        obtain rfl := hw1.symm
        go_wp2_with fail
        go_ret2
        exact ⟨rfl, Below.refl _ _⟩
      · rw [if_neg (by rintro (h | h | h); exact h0 h; exact hx0 h; exact hy0 h)] at hh
        have hl := parts_len cwd p
        have hj := parts_joined cwd p
        obtain ⟨L, hL⟩ : ∃ L, parts cwd p = L := ⟨_, rfl⟩
        rw [hL] at hh hl hj
        have HL := Lib.hid hL
        have HH := Lib.hid hh
        clear hL hh
        go_enter Tryd.func11, Tryd.ntmps11
        go_wp2_with fail
        refine H1.out.mono ?_
        rintro e w1 ⟨rfl, hw1⟩
        obtain rfl := hw1.symm
        go_wp2_with fail
        refine H2.out.mono ?_
        rintro e w1 ⟨rfl, hw1⟩
        obtain rfl := hw1.symm
        go_wp2_with fail
        refine (RefParts_any cwd p w hc hp).mono ?_
        rintro e w1 ⟨v, rfl, hown, hB⟩
        rw [HL.out] at hown
        obtain ⟨A, c, rfl⟩ := own_form hown
        have HO := Lib.hid hown
        have HB := Lib.hid hB
        clear hown hB
        go_wp2_with fail
        go_loop [7] (fun ia => ∃ k : Nat, ia = .int .i64 k ∧ k ≤ L.length ∧ Hid (∀ i (h : i < L.length), i < k → L[i].length ≤ 60)) (fun ia => L.length - (intOf ia).toNat)
        case atStart => exact ⟨0, rfl, by omega, fun i _ h => absurd h (Nat.not_lt_zero _)⟩
        case round =>
          obtain ⟨k, rfl, hk, HK⟩ := hrel
          have b0 : (0 : Int) ≤ (k : Int) := by omega
          by_cases hlt : k < L.length
          · have b1 : (k : Int) < (L.length : Int) := by omega
            obtain ⟨g, off, rfl, hg, hcell⟩ := strs_own HO.out (by omega)
            have hck := hcell k hlt
            have hadd : (⟨g, off, none⟩ : Addr).add k = ⟨g, off + k, none⟩ := by unfold Addr.add; by_cases h : k = 0 <;> simp [h]
            obtain ⟨s, hs⟩ : ∃ s : ByteArray, ⟨L[k].toArray⟩ = s := ⟨_, rfl⟩
            rw [show encStr L[k] = .string ⟨L[k].toArray⟩ from rfl, hs] at hck
            have HSZ : Hid (L[k].length = s.size) := by rw [← hs]; rfl
            clear hcell hs
            by_cases h3 : s.size ≤ 60
            · have b3 : ¬ (60 : Int) < (s.size : Int) := by omega
              go_wp2_with fail
              refine ⟨⟨k + 1, by go_num, by omega, fun i hi hik => ?_⟩, by simp [intOf]; omega⟩
              by_cases h : i < k
              · exact HK.out i hi h
              · obtain rfl : i = k := by omega
                have := HSZ.out
                omega
            · have b3 : (60 : Int) < (s.size : Int) := by omega
              have hh := HH.out
              rw [if_pos ⟨L[k], List.getElem_mem hlt, by have := HSZ.out; omega⟩] at hh
              injection hh with e1 e2
              subst e1
              subst e2
              go_wp2_with fail
              go_ret2
              exact ⟨rfl, HB.out⟩
          · have b1 : ¬ (k : Int) < (L.length : Int) := by omega
            have hh := HH.out
            rw [if_neg (by
              rintro ⟨x, hx, h⟩
              obtain ⟨i, hi, rfl⟩ := List.mem_iff_getElem.1 hx
              have := HK.out i hi (by omega)
              omega)] at hh
            obtain ⟨S, hS⟩ : ∃ S : ByteArray, ⟨(written L).toArray⟩ = S := ⟨_, rfl⟩
            have hSz : (written L).length = S.size := by rw [← hS]; rfl
            have hW := RefWrite_any w.heap.size _ L w1 HO.out (by omega) (by omega)
            rw [hS] at hW
            rw [hSz] at hh
            have HW := Lib.hid hW
            have HSS := Lib.hid hS
            clear hW hS hSz
            go_wp2_with fail
            refine HW.out.mono ?_
            rintro e w2 ⟨rfl, hw2⟩
            obtain rfl := hw2.symm
            by_cases c1 : 20 < L.length
            · have c1I : (20 : Int) < (L.length : Int) := by omega
              rw [if_pos (.inl c1)] at hh
              injection hh with e1 e2
              subst e1
              subst e2
              go_wp2_with fail
              go_ret2
              exact ⟨rfl, HB.out⟩
            · have c1I : ¬ (20 : Int) < (L.length : Int) := by omega
              by_cases c2 : 200 < S.size
              · have c2I : (200 : Int) < (S.size : Int) := by omega
                rw [if_pos (.inr c2)] at hh
                injection hh with e1 e2
                subst e1
                subst e2
                go_wp2_with fail
                go_ret2
                exact ⟨rfl, HB.out⟩
              · have c2I : ¬ (200 : Int) < (S.size : Int) := by omega
                rw [if_neg (by rintro (h | h); exact c1 h; exact c2 h)] at hh
                injection hh with e1 e2
                subst e1
                subst e2
                go_wp2_with fail
                go_ret2
                exact ⟨by rw [HSS.out]; rfl, HB.out⟩
end Go.Proofs.YtmpnhjdadjfecaaDoor
