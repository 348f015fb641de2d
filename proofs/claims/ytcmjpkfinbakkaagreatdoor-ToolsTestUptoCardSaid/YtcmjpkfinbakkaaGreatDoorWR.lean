import Derived.Test.YtcmjpkfinbakkaaGreatDoorZ
import Derived.Test.YtcmjpkfinbakkaaGreatDoorWZ
namespace Go.Proofs.YtcmjpkfinbakkaaGreatDoor.Vf
set_option maxRecDepth 100000
open Go.RowKit

theorem Has_stroke (p : ByteArray) (w : World) (v : Bool) (hv : Hid (v = true ↔ 0 < p.size ∧ gb p 0 = 47)) :
    Calls Tryz.prog 41 #[.string p, .string ⟨#[47]⟩] w fun e w' => e = .returned (.bool v) ∧ w' = w := by
  have h : Lib.hasPrefix p.data.toList [47] = v := by
    rw [Bool.eq_iff_iff, hv.out, rooted_iff, rooted]
    cases p.data.toList with
    | nil => simp [Lib.hasPrefix]
    | cons a t =>
      simp [Lib.hasPrefix]
      exact ⟨Eq.symm, Eq.symm⟩
  refine (Tryz.strings_HasPrefix p ⟨#[47]⟩ w).mono ?_
  rintro e w' ⟨rfl, rfl⟩
  exact ⟨by rw [← h], rfl⟩

set_option maxRecDepth 100000 in
set_option maxHeartbeats 2000000 in
theorem Parts_any (cwd p : ByteArray) (w : World) (hc : cwd.size ≤ 40000) (hp : p.size ≤ 40000) :
    Calls Tryz.prog 77 #[.string cwd, .string p] w fun e w' => ∃ v', e = .returned v' ∧ w'.ownsRow w.heap.size 9 1 v' (parts cwd p).length ((parts cwd p).map encStr) ∧ Below w.heap.size w w' := by
  obtain ⟨v, hv⟩ : ∃ v : Bool, (v = true ↔ 0 < p.size ∧ gb p 0 = 47) := ⟨decide (0 < p.size ∧ gb p 0 = 47), by simp⟩
  have HV := Lib.hid hv
  obtain ⟨R, hR⟩ : ∃ R, parts cwd p = R := ⟨_, rfl⟩
  rw [hR]
  have HR := Lib.hid hR
  clear hv hR
  go_enter Tryz.func77, Tryz.ntmps77
  go_wp2_with fail
  refine (Has_stroke p w v HV.out).mono ?_
  rintro e w1 ⟨rfl, hw1⟩
  obtain rfl := hw1.symm
  cases v
  · have HE : Hid ((sp p.data.toList).foldl push ((sp cwd.data.toList).foldl push []) = R) := by
      rw [Hid, ← HR.out, parts, if_neg (fun h => by have := HV.out.2 h; simp at this)]
    have hb := push_fold_len (sp cwd.data.toList) []
    have hb2 := sp_len cwd.data.toList
    have hb3 : cwd.data.toList.length = cwd.size := Array.length_toList
    obtain ⟨M, hM⟩ : ∃ M, (sp cwd.data.toList).foldl push [] = M := ⟨_, rfl⟩
    have hml : M.length ≤ 40001 := by rw [← hM]; simp at hb; omega
    rw [hM] at HE
    have HM := Lib.hid hM
    clear hb hb2 hb3 hM
    go_wp2_with fail
    refine (follow_any w.heap.size (.slice none 0 0) [] cwd w (Nat.le_refl _) (World.ownsRow_nil _ _ _ _) (by simp; omega)).mono ?_
    rintro e w2 ⟨v2, rfl, hown2, hB2⟩
    rw [HM.out] at hown2
    obtain ⟨A, c, rfl⟩ := own_form hown2
    have HO2 := Lib.hid hown2
    have HB2 := Lib.hid hB2
    clear hown2 hB2
    go_wp2_with fail
    refine (follow_any w.heap.size _ M p w2 HB2.out.size HO2.out (by omega)).mono ?_
    rintro e w3 ⟨v3, rfl, hown3, hB3⟩
    rw [HE.out] at hown3
    have HO3 := Lib.hid hown3
    have HB3 := Lib.hid (HB2.out.trans hB3)
    clear hown3 hB3
    obtain ⟨A3, c3, rfl⟩ := own_form HO3.out
    go_wp2_with fail
    go_ret
    exact ⟨_, rfl, HO3.out, HB3.out⟩
  · have HE : Hid ((sp p.data.toList).foldl push [] = R) := by
      rw [Hid, ← HR.out, parts, if_pos (HV.out.1 rfl)]
    go_wp2_with fail
    refine (follow_any w.heap.size (.slice none 0 0) [] p w (Nat.le_refl _) (World.ownsRow_nil _ _ _ _) (by simp; omega)).mono ?_
    rintro e w3 ⟨v3, rfl, hown3, hB3⟩
    rw [HE.out] at hown3
    have HO3 := Lib.hid hown3
    have HB3 := Lib.hid hB3
    clear hown3 hB3
    obtain ⟨A3, c3, rfl⟩ := own_form HO3.out
    go_wp2_with fail
    go_ret
    exact ⟨_, rfl, HO3.out, HB3.out⟩

theorem written_join : ∀ L : List Bs, 47 :: Lib.join L [47] = written L
  | [] => rfl
  | a :: r => by
    rw [Lib.join_cons, written, if_neg (by simp)]
    induction r generalizing a with
    | nil => simp [joined, Lib.joinTail]
    | cons b r ih =>
      simp [joined, Lib.joinTail]
      rw [List.flatMap_def]
theorem bs_map (L : List Bs) : (L.map bs).map (fun x : ByteArray => x.data.toList) = L := by
  rw [List.map_map]
  exact List.map_id L

set_option maxRecDepth 100000 in
set_option maxHeartbeats 2000000 in
theorem rooted_any (A : Option Addr) (c : Nat) (L : List Bs) (w : World) (hS : StrsL w A L) (hcap : L.length ≤ c) (hn : (joined L).length ≤ 1000000) :
    Calls Tryz.prog 88 #[.slice A L.length c] w fun e w' => e = .returned (.string ⟨(written L).toArray⟩) ∧ Below w.heap.size w w' := by
  have hll : L.length ≤ (joined L).length := by
    clear hS hcap hn
    induction L with
    | nil => simp
    | cons a L ih => rw [joined_cons, List.length_cons]; omega
  obtain ⟨R, hR⟩ : ∃ R : ByteArray, (⟨(Lib.join L [47]).toArray⟩ : ByteArray) = R := ⟨_, rfl⟩
  have hw : 47 :: R.data.toList = written L := by rw [← hR]; exact written_join L
  have hres : (⟨#[47]⟩ : ByteArray) ++ R = ⟨(written L).toArray⟩ := bytes_eq (by rw [← hw]; simp)
  have hRs : R.size ≤ 1000000 := by
    have h1 : R.data.toList.length = R.size := Array.length_toList
    have h2 : (written L).length ≤ (joined L).length + 1 := by
      unfold written; split <;> simp
    rw [← hw] at h2
    simp at h2
    omega
  have HJ : Calls Tryz.prog 98 #[.slice A L.length c, .string ⟨#[47]⟩] w fun e w' => e = .returned (.string R) ∧ Below w.heap.size w w' := by
    by_cases hl : 0 < L.length
    · obtain ⟨g, off, rfl, hg, hcell⟩ := hS hl
      have := Tryz.strings_Join g off c (L.map bs) ⟨#[47]⟩ w (fun j x hx => by
        rw [List.getElem?_map] at hx
        have hj : j < L.length := by
          by_cases h : j < L.length
          · exact h
          · rw [List.getElem?_eq_none (by omega)] at hx; cases hx
        rw [List.getElem?_eq_getElem hj] at hx
        injection hx with hx
        rw [hcell j hj, ← hx]; rfl) hg (by simp; omega) (by simpa using hcap) (by
          rw [bs_map]
          have h1 : (47 :: Lib.join L [47]).length = (written L).length := congrArg List.length (written_join L)
          have h2 : (written L).length ≤ (joined L).length + 1 := by
            unfold written; split <;> simp
          simp only [List.length_cons] at h1
          show (Lib.join L [47]).length ≤ _
          omega)
      rw [bs_map, List.length_map] at this
      refine this.mono ?_
      rintro e w' ⟨rfl, hB⟩
      exact ⟨by rw [← hR], hB⟩
    · obtain rfl : L = [] := List.length_eq_zero_iff.1 (by omega)
      refine (Tryz.strings_Join_none A c ⟨#[47]⟩ w).mono ?_
      rintro e w' ⟨rfl, rfl⟩
      exact ⟨by rw [← hR]; rfl, Below.refl _ _⟩
  have HJJ := Lib.hid HJ
  clear HJ hw hR hS hn hll
  go_enter Tryz.func88, Tryz.ntmps88
  go_wp2_with fail
  refine HJJ.out.mono ?_
  rintro e w1 ⟨rfl, hB⟩
  have HB := Lib.hid hB
  clear hB
  go_wp2_with fail
  go_ret
  exact ⟨rfl, HB.out⟩
end Go.Proofs.YtcmjpkfinbakkaaGreatDoor.Vf

namespace Go.Proofs.YtcmjpkfinbakkaaGreatDoor.Vf
set_option maxRecDepth 100000
open Go.RowKit

theorem own_cap2 {w : World} {B n c : Nat} {A : Option Addr} {xs : List Value} (h : w.ownsRow B 9 1 (.slice A n c) n xs) : n ≤ c := by
  rcases h.2 with ⟨h1, h0⟩ | ⟨g, c', cur, hv, _, _, h1, _⟩
  · omega
  · injection hv with _ _ e
    rw [e]; exact h1

theorem idx_iff (c : UInt8) : ∀ l : Bs, 0 ≤ Lib.indexByte l c ↔ c ∈ l
  | [] => by simp [Lib.indexByte]
  | b :: l => by
    have ih := idx_iff c l
    unfold Lib.indexByte
    by_cases h : b = c
    · simp [h]
    · have h1 : (b == c) = false := by rw [beq_eq_false_iff_ne]; exact h
      rw [h1]
      simp only [List.mem_cons]
      by_cases h2 : 0 ≤ Lib.indexByte l c
      · have h3 : (Lib.indexByte l c == -1) = false := by rw [beq_eq_false_iff_ne]; omega
        rw [h3]
        simp [ih.1 h2]
        omega
      · have hge : ∀ m : Bs, -1 ≤ Lib.indexByte m c := fun m => by
          induction m with
          | nil => simp [Lib.indexByte]
          | cons d m ihm =>
            unfold Lib.indexByte
            split
            · omega
            · split
              · omega
              · omega
        have h3 : (Lib.indexByte l c == -1) = true := by rw [beq_iff_eq]; have := hge l; omega
        rw [h3]
        simp [Ne.symm h]
        exact fun e => h2 (ih.2 e)
theorem at_iff (s : ByteArray) (c : UInt8) : ∀ n k : Nat, s.size + 1 ≤ n + k → (0 ≤ at_ s c n k ↔ c ∈ s.data.toList.drop k)
  | 0, k, h => by
    have hl : s.data.toList.length = s.size := Array.length_toList
    rw [at_, List.drop_eq_nil_of_le (by omega)]; simp
  | n + 1, k, h => by
    have hl : s.data.toList.length = s.size := Array.length_toList
    have ih := at_iff s c n (k + 1) (by omega)
    rw [at_]
    by_cases hk : k < s.size
    · have hd : s.data.toList.drop k = gb s k :: s.data.toList.drop (k + 1) := by
        rw [List.drop_eq_getElem_cons (by omega)]
        unfold gb
        rw [List.getD_eq_getElem?_getD, List.getElem?_eq_getElem (by omega)]; rfl
      rw [if_pos hk, hd, List.mem_cons]
      by_cases hc : gb s k = c
      · rw [if_pos hc]; simp [hc]
      · rw [if_neg hc, ih]
        simp [Ne.symm hc]
    · rw [if_neg hk, List.drop_eq_nil_of_le (by omega)]; simp
theorem at_mem (s : ByteArray) (c : UInt8) : 0 ≤ at_ s c (s.size + 1) 0 ↔ c ∈ s.data.toList := by
  have := at_iff s c (s.size + 1) 0 (by omega)
  simpa using this

end Go.Proofs.YtcmjpkfinbakkaaGreatDoor.Vf

namespace Go.Proofs.YtcmjpkfinbakkaaGreatDoor.Vf
set_option maxRecDepth 100000
open Go.RowKit

set_option maxRecDepth 100000 in
set_option maxHeartbeats 2000000 in
theorem Abs_any (cwd p : ByteArray) (w : World) (hc : cwd.size ≤ 40000) (hp : p.size ≤ 40000) (rs : Bs) (rn : Int) (hr : Hid (abs_ cwd p = (rs, rn))) :
    Calls Tryz.prog 42 #[.string cwd, .string p] w fun e w' => e = .returned (.tuple #[.string ⟨rs.toArray⟩, .int .i64 rn]) ∧ Below w.heap.size w w' := by
  by_cases h0 : p.size = 0
  · have hh := hr.out
    rw [abs_, if_pos (.inl h0)] at hh
    injection hh with e1 e2
    subst e1
    subst e2
    have he : p.toList.isEmpty = true := by
      have h2 : p.data.toList.length = p.size := Array.length_toList
      rw [Lib.toList_data, List.isEmpty_iff, ← List.length_eq_zero_iff]; omega
    clear hr
    go_enter Tryz.func42, Tryz.ntmps42
    go_wp2_with fail
    go_ret2
    exact ⟨rfl, Below.refl _ _⟩
  · have he : p.toList.isEmpty = false := by
      have h2 : p.data.toList.length = p.size := Array.length_toList
      rw [Lib.toList_data]
      cases h : p.data.toList with
      | nil => rw [h] at h2; simp at h2; omega
      | cons a t => rfl
    obtain ⟨x, hx⟩ : ∃ x, decide (0 ≤ Lib.indexByte p.data.toList 0) = x := ⟨_, rfl⟩
    obtain ⟨y, hy⟩ : ∃ y, decide (0 ≤ Lib.indexByte cwd.data.toList 0) = y := ⟨_, rfl⟩
    have h1 : Calls Tryz.prog 87 #[.string p, .string ⟨#[0]⟩] w fun e w' => e = .returned (.bool x) ∧ w' = w := by rw [← hx]; exact Tryz.strings_Contains_one p 0 w
    have h2 : Calls Tryz.prog 87 #[.string cwd, .string ⟨#[0]⟩] w fun e w' => e = .returned (.bool y) ∧ w' = w := by rw [← hy]; exact Tryz.strings_Contains_one cwd 0 w
    have HX : Hid (x = true ↔ 0 ≤ at_ p 0 (p.size + 1) 0) := by rw [Hid, ← hx, decide_eq_true_iff, idx_iff, at_mem]
    have HY : Hid (y = true ↔ 0 ≤ at_ cwd 0 (cwd.size + 1) 0) := by rw [Hid, ← hy, decide_eq_true_iff, idx_iff, at_mem]
    have H1 := Lib.hid h1
    have H2 := Lib.hid h2
    have hh := hr.out
    rw [abs_] at hh
    clear h1 h2 hx hy hr
    cases y with
    | true =>
      rw [if_pos (.inr (.inr (HY.out.1 rfl)))] at hh
      injection hh with e1 e2
      subst e1
      subst e2
      go_enter Tryz.func42, Tryz.ntmps42
      go_wp2_with fail
      refine H2.out.mono ?_
      rintro e w1 ⟨rfl, hw1⟩
      obtain rfl := hw1.symm
      go_wp2_with fail
      go_ret2
      exact ⟨rfl, Below.refl _ _⟩
    | false =>
      cases x with
      | true =>
        rw [if_pos (.inr (.inl (HX.out.1 rfl)))] at hh
        injection hh with e1 e2
        subst e1
        subst e2
        go_enter Tryz.func42, Tryz.ntmps42
        go_wp2_with fail
        refine H2.out.mono ?_
        rintro e w1 ⟨rfl, hw1⟩
        obtain rfl := hw1.symm
        go_wp2_with fail
        refine H1.out.mono ?_
        rintro e w1 ⟨rfl, hw1⟩
        obtain rfl := hw1.symm
        go_wp2_with fail
        go_ret2
        exact ⟨rfl, Below.refl _ _⟩
      | false =>
        rw [if_neg (by rintro (h | h | h); exact h0 h; exact absurd (HX.out.2 h) (by simp); exact absurd (HY.out.2 h) (by simp))] at hh
        have hl := parts_len cwd p
        have hj := parts_joined cwd p
        obtain ⟨L, hL⟩ : ∃ L, parts cwd p = L := ⟨_, rfl⟩
        rw [hL] at hh hl hj
        have HL := Lib.hid hL
        have HH := Lib.hid hh
        clear hL hh HX HY
        go_enter Tryz.func42, Tryz.ntmps42
        go_wp2_with fail
        refine H2.out.mono ?_
        rintro e w1 ⟨rfl, hw1⟩
        obtain rfl := hw1.symm
        go_wp2_with fail
        refine H1.out.mono ?_
        rintro e w1 ⟨rfl, hw1⟩
        obtain rfl := hw1.symm
        go_wp2_with fail
        refine (Parts_any cwd p w hc hp).mono ?_
        rintro e w1 ⟨v, rfl, hown, hB⟩
        rw [HL.out] at hown
        obtain ⟨A, c, rfl⟩ := own_form hown
        have HO := Lib.hid hown
        have HB := Lib.hid hB
        clear hown hB
        go_wp2_with fail
        go_loop [25] (fun ia => ∃ k : Nat, ia = .int .i64 k ∧ k ≤ L.length ∧ Hid (∀ i (h : i < L.length), i < k → L[i].length ≤ 60)) (fun ia => L.length - (intOf ia).toNat)
        case atStart => exact ⟨0, rfl, by omega, fun i _ h => absurd h (Nat.not_lt_zero _)⟩
        case round =>
          obtain ⟨k, rfl, hk, HK⟩ := hrel
          have b0 : (0 : Int) ≤ (k : Int) := by omega
          by_cases hlt : k < L.length
          · have b1 : (k : Int) < (L.length : Int) := by omega
            obtain ⟨g, off, rfl, hg, hcell⟩ := strs_own HO.out (by omega)
            have hck := hcell k hlt
            have hadd : (⟨g, off, none⟩ : Addr).add k = ⟨g, off + k, none⟩ := by unfold Addr.add; by_cases h : k = 0 <;> simp [h]
            obtain ⟨s, hs⟩ : ∃ s : ByteArray, ⟨L[k].toArray⟩ = s := ⟨_, rfl⟩
            rw [show encStr L[k] = .string ⟨L[k].toArray⟩ from rfl, hs] at hck
            have HSZ : Hid (L[k].length = s.size) := by rw [← hs]; rfl
            clear hcell hs
            by_cases h3 : s.size ≤ 60
            · have b3 : ¬ (60 : Int) < (s.size : Int) := by omega
              go_wp2_with fail
              refine ⟨⟨k + 1, by go_num, by omega, fun i hi hik => ?_⟩, by simp [intOf]; omega⟩
              by_cases h : i < k
              · exact HK.out i hi h
              · obtain rfl : i = k := by omega
                have := HSZ.out
                omega
            · have b3 : (60 : Int) < (s.size : Int) := by omega
              have hh := HH.out
              rw [if_pos ⟨L[k], List.getElem_mem hlt, by have := HSZ.out; omega⟩] at hh
              injection hh with e1 e2
              subst e1
              subst e2
              go_wp2_with fail
              go_ret2
              exact ⟨rfl, HB.out⟩
          · have b1 : ¬ (k : Int) < (L.length : Int) := by omega
            have hh := HH.out
            rw [if_neg (by
              rintro ⟨x, hx, h⟩
              obtain ⟨i, hi, rfl⟩ := List.mem_iff_getElem.1 hx
              have := HK.out i hi (by omega)
              omega)] at hh
            obtain ⟨S, hS⟩ : ∃ S : ByteArray, ⟨(written L).toArray⟩ = S := ⟨_, rfl⟩
            have hSz : (written L).length = S.size := by rw [← hS]; rfl
            have hW := rooted_any A c L w1 (strs_own HO.out) (own_cap2 HO.out) (by omega)
            rw [hS] at hW
            rw [hSz] at hh
            have HW := Lib.hid hW
            have HSS := Lib.hid hS
            clear hW hS hSz
            go_wp2_with fail
            refine HW.out.mono ?_
            rintro e w2 ⟨rfl, hB2⟩
            have HB2 : Hid (Below w.heap.size w w2) := HB.out.trans (hB2.mono HB.out.size)
            clear hB2
            by_cases c1 : 20 < L.length
            · have c1I : (20 : Int) < (L.length : Int) := by omega
              rw [if_pos (.inl c1)] at hh
              injection hh with e1 e2
              subst e1
              subst e2
              go_wp2_with fail
              go_ret2
              exact ⟨rfl, HB2.out⟩
            · have c1I : ¬ (20 : Int) < (L.length : Int) := by omega
              by_cases c2 : 200 < S.size
              · have c2I : (200 : Int) < (S.size : Int) := by omega
                rw [if_pos (.inr c2)] at hh
                injection hh with e1 e2
                subst e1
                subst e2
                go_wp2_with fail
                go_ret2
                exact ⟨rfl, HB2.out⟩
              · have c2I : ¬ (200 : Int) < (S.size : Int) := by omega
                rw [if_neg (by rintro (h | h); exact c1 h; exact c2 h)] at hh
                injection hh with e1 e2
                subst e1
                subst e2
                go_wp2_with fail
                go_ret2
                exact ⟨by rw [HSS.out]; rfl, HB2.out⟩

theorem alive_abs : abs_ ⟨#[47, 97]⟩ ⟨#[46, 46, 47, 98]⟩ = ([47, 98], 0) := by decide
end Go.Proofs.YtcmjpkfinbakkaaGreatDoor.Vf
