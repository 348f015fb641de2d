import Derived.Test.YtjagnihkpgbjeaaDoorS
namespace Go.Proofs.YtjagnihkpgbjeaaDoor
open Go.RowKit

set_option maxRecDepth 100000 in
set_option maxHeartbeats 2000000 in
theorem Abs_any (cwd p : ByteArray) (w : World) (hc : cwd.size ≤ 40000) (hp : p.size ≤ 40000) (rs : Bs) (rn : Int) (hr : Hid (abs_ cwd p = (rs, rn))) :
    Calls Tryd.prog 64 #[.string cwd, .string p] w fun e w' => e = .returned (.tuple #[.string ⟨rs.toArray⟩, .int .i64 rn]) ∧ Below w.heap.size w w' := by
  by_cases h0 : p.size = 0
  · have hh := hr.out
    rw [abs_, if_pos (.inl h0)] at hh
    injection hh with e1 e2
    subst e1
    subst e2
    have he : p.toList.isEmpty = true := by
      have h2 : p.data.toList.length = p.size := Array.length_toList
      rw [Lib.toList_data, List.isEmpty_iff, ← List.length_eq_zero_iff]; omega
    clear hr
    go_enter Tryd.func64, Tryd.ntmps64
    go_wp2_with fail
    go_ret2
    exact ⟨rfl, Below.refl _ _⟩
  · have he : p.toList.isEmpty = false := by
      have h2 : p.data.toList.length = p.size := Array.length_toList
      rw [Lib.toList_data]
      cases h : p.data.toList with
      | nil => rw [h] at h2; simp at h2; omega
      | cons a t => rfl
    obtain ⟨x, hx⟩ : ∃ x, decide (0 ≤ Lib.indexByte p.data.toList 0) = x := ⟨_, rfl⟩
    obtain ⟨y, hy⟩ : ∃ y, decide (0 ≤ Lib.indexByte cwd.data.toList 0) = y := ⟨_, rfl⟩
    have h1 : Calls Tryd.prog 60 #[.string p, .string ⟨#[0]⟩] w fun e w' => e = .returned (.bool x) ∧ w' = w := by rw [← hx]; exact Tryd.strings_Contains_one p 0 w
    have h2 : Calls Tryd.prog 60 #[.string cwd, .string ⟨#[0]⟩] w fun e w' => e = .returned (.bool y) ∧ w' = w := by rw [← hy]; exact Tryd.strings_Contains_one cwd 0 w
    have HX : Hid (x = true ↔ 0 ≤ at_ p 0 (p.size + 1) 0) := by rw [Hid, ← hx, decide_eq_true_iff, idx_iff, at_mem]
    have HY : Hid (y = true ↔ 0 ≤ at_ cwd 0 (cwd.size + 1) 0) := by rw [Hid, ← hy, decide_eq_true_iff, idx_iff, at_mem]
    have H1 := Lib.hid h1
    have H2 := Lib.hid h2
    have hh := hr.out
    rw [abs_] at hh
    clear h1 h2 hx hy hr
    cases y with
    | true =>
      rw [if_pos (.inr (.inr (HY.out.1 rfl)))] at hh
      injection hh with e1 e2
      subst e1
      subst e2
      go_enter Tryd.func64, Tryd.ntmps64
      go_wp2_with fail
      refine H2.out.mono ?_
      rintro e w1 ⟨rfl, hw1⟩
      obtain rfl := hw1.symm
      go_wp2_with fail
      go_ret2
      exact ⟨rfl, Below.refl _ _⟩
    | false =>
      cases x with
      | true =>
        rw [if_pos (.inr (.inl (HX.out.1 rfl)))] at hh
        injection hh with e1 e2
        subst e1
        subst e2
        go_enter Tryd.func64, Tryd.ntmps64
        go_wp2_with fail
        refine H2.out.mono ?_
        rintro e w1 ⟨rfl, hw1⟩
        obtain rfl := hw1.symm
        go_wp2_with fail
        refine H1.out.mono ?_
        rintro e w1 ⟨rfl, hw1⟩
        obtain rfl := hw1.symm
        go_wp2_with fail
        go_ret2
        exact ⟨rfl, Below.refl _ _⟩
      | false =>
        rw [if_neg (by rintro (h | h | h); exact h0 h; exact absurd (HX.out.2 h) (by simp); exact absurd (HY.out.2 h) (by simp))] at hh
        have hl := parts_len cwd p
        have hj := parts_joined cwd p
        obtain ⟨L, hL⟩ : ∃ L, parts cwd p = L := ⟨_, rfl⟩
        rw [hL] at hh hl hj
        have HL := Lib.hid hL
        have HH := Lib.hid hh
        clear hL hh HX HY
        go_enter Tryd.func64, Tryd.ntmps64
        go_wp2_with fail
        refine H2.out.mono ?_
        rintro e w1 ⟨rfl, hw1⟩
        obtain rfl := hw1.symm
        go_wp2_with fail
        refine H1.out.mono ?_
        rintro e w1 ⟨rfl, hw1⟩
        obtain rfl := hw1.symm
        go_wp2_with fail
        refine (Parts_any cwd p w hc hp).mono ?_
        rintro e w1 ⟨v, rfl, hown, hB⟩
        rw [HL.out] at hown
        obtain ⟨A, c, rfl⟩ := own_form hown
        have HO := Lib.hid hown
        have HB := Lib.hid hB
        clear hown hB
        go_wp2_with fail
        go_loop [25] (fun ia => ∃ k : Nat, ia = .int .i64 k ∧ k ≤ L.length ∧ Hid (∀ i (h : i < L.length), i < k → L[i].length ≤ 60)) (fun ia => L.length - (intOf ia).toNat)
        case atStart => exact ⟨0, rfl, by omega, fun i _ h => absurd h (Nat.not_lt_zero _)⟩
        case round =>
          obtain ⟨k, rfl, hk, HK⟩ := hrel
          have b0 : (0 : Int) ≤ (k : Int) := by omega
          by_cases hlt : k < L.length
          · have b1 : (k : Int) < (L.length : Int) := by omega
            obtain ⟨g, off, rfl, hg, hcell⟩ := strs_own HO.out (by omega)
            have hck := hcell k hlt
            have hadd : (⟨g, off, none⟩ : Addr).add k = ⟨g, off + k, none⟩ := by unfold Addr.add; by_cases h : k = 0 <;> simp [h]
            obtain ⟨s, hs⟩ : ∃ s : ByteArray, ⟨L[k].toArray⟩ = s := ⟨_, rfl⟩
            rw [show encStr L[k] = .string ⟨L[k].toArray⟩ from rfl, hs] at hck
            have HSZ : Hid (L[k].length = s.size) := by rw [← hs]; rfl
            clear hcell hs
            by_cases h3 : s.size ≤ 60
            · have b3 : ¬ (60 : Int) < (s.size : Int) := by omega
              go_wp2_with fail
              refine ⟨⟨k + 1, by go_num, by omega, fun i hi hik => ?_⟩, by simp [intOf]; omega⟩
              by_cases h : i < k
              · exact HK.out i hi h
              · obtain rfl : i = k := by omega
                have := HSZ.out
                omega
            · have b3 : (60 : Int) < (s.size : Int) := by omega
              have hh := HH.out
              rw [if_pos ⟨L[k], List.getElem_mem hlt, by have := HSZ.out; omega⟩] at hh
              injection hh with e1 e2
              subst e1
              subst e2
              go_wp2_with fail
              go_ret2
              exact ⟨rfl, HB.out⟩
          · have b1 : ¬ (k : Int) < (L.length : Int) := by omega
            have hh := HH.out
            rw [if_neg (by
              rintro ⟨x, hx, h⟩
              obtain ⟨i, hi, rfl⟩ := List.mem_iff_getElem.1 hx
              have := HK.out i hi (by omega)
              omega)] at hh
            obtain ⟨S, hS⟩ : ∃ S : ByteArray, ⟨(written L).toArray⟩ = S := ⟨_, rfl⟩
            have hSz : (written L).length = S.size := by rw [← hS]; rfl
            have hW := rooted_any A c L w1 (strs_own HO.out) (own_cap2 HO.out) (by omega)
            rw [hS] at hW
            rw [hSz] at hh
            have HW := Lib.hid hW
            have HSS := Lib.hid hS
            clear hW hS hSz
            go_wp2_with fail
            refine HW.out.mono ?_
            rintro e w2 ⟨rfl, hB2⟩
            have HB2 : Hid (Below w.heap.size w w2) := HB.out.trans (hB2.mono HB.out.size)
            clear hB2
            by_cases c1 : 20 < L.length
            · have c1I : (20 : Int) < (L.length : Int) := by omega
              rw [if_pos (.inl c1)] at hh
              injection hh with e1 e2
              subst e1
              subst e2
              go_wp2_with fail
              go_ret2
              exact ⟨rfl, HB2.out⟩
            · have c1I : ¬ (20 : Int) < (L.length : Int) := by omega
              by_cases c2 : 200 < S.size
              · have c2I : (200 : Int) < (S.size : Int) := by omega
                rw [if_pos (.inr c2)] at hh
                injection hh with e1 e2
                subst e1
                subst e2
                go_wp2_with fail
                go_ret2
                exact ⟨rfl, HB2.out⟩
              · have c2I : ¬ (200 : Int) < (S.size : Int) := by omega
                rw [if_neg (by rintro (h | h); exact c1 h; exact c2 h)] at hh
                injection hh with e1 e2
                subst e1
                subst e2
                go_wp2_with fail
                go_ret2
                exact ⟨by rw [HSS.out]; rfl, HB2.out⟩

theorem alive_abs : abs_ ⟨#[47, 97]⟩ ⟨#[46, 46, 47, 98]⟩ = ([47, 98], 0) := by decide
end Go.Proofs.YtjagnihkpgbjeaaDoor
