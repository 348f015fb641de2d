import Derived.Test.YtcmjpkfinbakkaaDoorT
import Derived.Shelf.SlGeneric
import Derived.Shelf.SlIter.Nil
import Derived.Shelf.SortM.Plain
import Derived.Shelf.SortM.SortNone
import Derived.Ground.GgzProg
import Derived.Ground.SlgmProg
import Derived.Test.YtcmjpkfinbakkaaDoorProg
import Derived.Test.YtcmjpkfinbakkaaDoorRows
import Derived.WalkKit
import Derived.Lib.Hide
import Derived.Lib.Strings
import Derived.Sort.EncStr
import Derived.Maps.OwnSet
import Derived.Maps.Views
import Derived.OwnWalk
import Derived.Laws.AppendOwn
import Derived.Laws.OwnMore
import Derived.StringKeys
import Derived.WalkSpells
import Derived.WalkLawsBesides
namespace Go.Proofs.YtcmjpkfinbakkaaDoor.Bg
open Go.RowKit

set_option maxRecDepth 100000 in
set_option maxHeartbeats 2000000 in
theorem Parts_any (cwd p : ByteArray) (w : World) (hc : cwd.size ≤ 1100000) (hp : p.size ≤ 1100000) :
    Calls Tryd.prog 34 #[.string cwd, .string p] w fun e w' => ∃ v', e = .returned v' ∧ w'.ownsRow w.heap.size 9 1 v' (parts cwd p).length ((parts cwd p).map encStr) ∧ Below w.heap.size w w' := by
  obtain ⟨v, hv⟩ : ∃ v : Bool, (v = true ↔ 0 < p.size ∧ gb p 0 = 47) := ⟨decide (0 < p.size ∧ gb p 0 = 47), by simp⟩
  have HV := Lib.hid hv
  obtain ⟨R, hR⟩ : ∃ R, parts cwd p = R := ⟨_, rfl⟩
  rw [hR]
  have HR := Lib.hid hR
  clear hv hR
  go_enter Tryd.func34, Tryd.ntmps34
  go_wp2_with fail
  refine (Has_stroke p w v HV.out).mono ?_
  rintro e w1 ⟨rfl, hw1⟩
  obtain rfl := hw1.symm
  cases v
  · have HE : Hid ((sp p.data.toList).foldl push ((sp cwd.data.toList).foldl push []) = R) := by
      rw [Hid, ← HR.out, parts, if_neg (fun h => by have := HV.out.2 h; simp at this)]
    have hb := push_fold_len (sp cwd.data.toList) []
    have hb2 := sp_len cwd.data.toList
    have hb3 : cwd.data.toList.length = cwd.size := Array.length_toList
    obtain ⟨M, hM⟩ : ∃ M, (sp cwd.data.toList).foldl push [] = M := ⟨_, rfl⟩
    have hml : M.length ≤ 1100001 := by rw [← hM]; simp at hb; omega
    rw [hM] at HE
    have HM := Lib.hid hM
    clear hb hb2 hb3 hM
    go_wp2_with fail
    refine (follow_any w.heap.size (.slice none 0 0) [] cwd w (Nat.le_refl _) (World.ownsRow_nil _ _ _ _) (by simp; omega)).mono ?_
    rintro e w2 ⟨v2, rfl, hown2, hB2⟩
    rw [HM.out] at hown2
    obtain ⟨A, c, rfl⟩ := own_form hown2
    have HO2 := Lib.hid hown2
    have HB2 := Lib.hid hB2
    clear hown2 hB2
    go_wp2_with fail
    refine (follow_any w.heap.size _ M p w2 HB2.out.size HO2.out (by omega)).mono ?_
    rintro e w3 ⟨v3, rfl, hown3, hB3⟩
    rw [HE.out] at hown3
    have HO3 := Lib.hid hown3
    have HB3 := Lib.hid (HB2.out.trans hB3)
    clear hown3 hB3
    obtain ⟨A3, c3, rfl⟩ := own_form HO3.out
    go_wp2_with fail
    go_ret
    exact ⟨_, rfl, HO3.out, HB3.out⟩
  · have HE : Hid ((sp p.data.toList).foldl push [] = R) := by
      rw [Hid, ← HR.out, parts, if_pos (HV.out.1 rfl)]
    go_wp2_with fail
    refine (follow_any w.heap.size (.slice none 0 0) [] p w (Nat.le_refl _) (World.ownsRow_nil _ _ _ _) (by simp; omega)).mono ?_
    rintro e w3 ⟨v3, rfl, hown3, hB3⟩
    rw [HE.out] at hown3
    have HO3 := Lib.hid hown3
    have HB3 := Lib.hid hB3
    clear hown3 hB3
    obtain ⟨A3, c3, rfl⟩ := own_form HO3.out
    go_wp2_with fail
    go_ret
    exact ⟨_, rfl, HO3.out, HB3.out⟩


set_option maxRecDepth 100000 in
set_option maxHeartbeats 2000000 in
theorem rooted_any (A : Option Addr) (c : Nat) (L : List Bs) (w : World) (hS : StrsL w A L) (hcap : L.length ≤ c) (hn : (joined L).length ≤ 4000000) :
    Calls Tryd.prog 44 #[.slice A L.length c] w fun e w' => e = .returned (.string ⟨(written L).toArray⟩) ∧ Below w.heap.size w w' := by
  have hll : L.length ≤ (joined L).length := by
    clear hS hcap hn
    induction L with
    | nil => simp
    | cons a L ih => rw [joined_cons, List.length_cons]; omega
  obtain ⟨R, hR⟩ : ∃ R : ByteArray, (⟨(Lib.join L [47]).toArray⟩ : ByteArray) = R := ⟨_, rfl⟩
  have hw : 47 :: R.data.toList = written L := by rw [← hR]; exact written_join L
  have hres : (⟨#[47]⟩ : ByteArray) ++ R = ⟨(written L).toArray⟩ := bytes_eq (by rw [← hw]; simp)
  have hRs : R.size ≤ 4000000 := by
    have h1 : R.data.toList.length = R.size := Array.length_toList
    have h2 : (written L).length ≤ (joined L).length + 1 := by
      unfold written; split <;> simp
    rw [← hw] at h2
    simp at h2
    omega
  have HJ : Calls Tryd.prog 55 #[.slice A L.length c, .string ⟨#[47]⟩] w fun e w' => e = .returned (.string R) ∧ Below w.heap.size w w' := by
    by_cases hl : 0 < L.length
    · obtain ⟨g, off, rfl, hg, hcell⟩ := hS hl
      have := Tryd.strings_Join g off c (L.map bs) ⟨#[47]⟩ w (fun j x hx => by
        rw [List.getElem?_map] at hx
        have hj : j < L.length := by
          by_cases h : j < L.length
          · exact h
          · rw [List.getElem?_eq_none (by omega)] at hx; cases hx
        rw [List.getElem?_eq_getElem hj] at hx
        injection hx with hx
        rw [hcell j hj, ← hx]; rfl) hg (by simp; omega) (by simpa using hcap) (by
          rw [bs_map]
          have h1 : (47 :: Lib.join L [47]).length = (written L).length := congrArg List.length (written_join L)
          have h2 : (written L).length ≤ (joined L).length + 1 := by
            unfold written; split <;> simp
          simp only [List.length_cons] at h1
          show (Lib.join L [47]).length ≤ _
          omega)
      rw [bs_map, List.length_map] at this
      refine this.mono ?_
      rintro e w' ⟨rfl, hB⟩
      exact ⟨by rw [← hR], hB⟩
    · obtain rfl : L = [] := List.length_eq_zero_iff.1 (by omega)
      refine (Tryd.strings_Join_none A c ⟨#[47]⟩ w).mono ?_
      rintro e w' ⟨rfl, rfl⟩
      exact ⟨by rw [← hR]; rfl, Below.refl _ _⟩
  have HJJ := Lib.hid HJ
  clear HJ hw hR hS hn hll
  go_enter Tryd.func44, Tryd.ntmps44
  go_wp2_with fail
  refine HJJ.out.mono ?_
  rintro e w1 ⟨rfl, hB⟩
  have HB := Lib.hid hB
  clear hB
  go_wp2_with fail
  go_ret
  exact ⟨rfl, HB.out⟩

set_option maxRecDepth 100000 in
set_option maxHeartbeats 2000000 in
theorem Abs_any (cwd p : ByteArray) (w : World) (hc : cwd.size ≤ 1100000) (hp : p.size ≤ 1100000) (rs : Bs) (rn : Int) (hr : Hid (abs_ cwd p = (rs, rn))) :
    Calls Tryd.prog 32 #[.string cwd, .string p] w fun e w' => e = .returned (.tuple #[.string ⟨rs.toArray⟩, .int .i64 rn]) ∧ Below w.heap.size w w' := by
  by_cases h0 : p.size = 0
  · have hh := hr.out
    rw [abs_, if_pos (.inl h0)] at hh
    injection hh with e1 e2
    subst e1
    subst e2
    have he : p.toList.isEmpty = true := by
      have h2 : p.data.toList.length = p.size := Array.length_toList
      rw [Lib.toList_data, List.isEmpty_iff, ← List.length_eq_zero_iff]; omega
    clear hr
    go_enter Tryd.func32, Tryd.ntmps32
    go_wp2_with fail
    go_ret2
    exact ⟨rfl, Below.refl _ _⟩
  · have he : p.toList.isEmpty = false := by
      have h2 : p.data.toList.length = p.size := Array.length_toList
      rw [Lib.toList_data]
      cases h : p.data.toList with
      | nil => rw [h] at h2; simp at h2; omega
      | cons a t => rfl
    obtain ⟨x, hx⟩ : ∃ x, decide (0 ≤ Lib.indexByte p.data.toList 0) = x := ⟨_, rfl⟩
    obtain ⟨y, hy⟩ : ∃ y, decide (0 ≤ Lib.indexByte cwd.data.toList 0) = y := ⟨_, rfl⟩
    have h1 : Calls Tryd.prog 43 #[.string p, .string ⟨#[0]⟩] w fun e w' => e = .returned (.bool x) ∧ w' = w := by rw [← hx]; exact Tryd.strings_Contains_one p 0 w
    have h2 : Calls Tryd.prog 43 #[.string cwd, .string ⟨#[0]⟩] w fun e w' => e = .returned (.bool y) ∧ w' = w := by rw [← hy]; exact Tryd.strings_Contains_one cwd 0 w
    have HX : Hid (x = true ↔ 0 ≤ at_ p 0 (p.size + 1) 0) := by rw [Hid, ← hx, decide_eq_true_iff, idx_iff, at_mem]
    have HY : Hid (y = true ↔ 0 ≤ at_ cwd 0 (cwd.size + 1) 0) := by rw [Hid, ← hy, decide_eq_true_iff, idx_iff, at_mem]
    have H1 := Lib.hid h1
    have H2 := Lib.hid h2
    have hh := hr.out
    rw [abs_] at hh
    clear h1 h2 hx hy hr
    cases y with
    | true =>
      rw [if_pos (.inr (.inr (HY.out.1 rfl)))] at hh
      injection hh with e1 e2
      subst e1
      subst e2
      go_enter Tryd.func32, Tryd.ntmps32
      go_wp2_with fail
      refine H2.out.mono ?_
      rintro e w1 ⟨rfl, hw1⟩
      obtain rfl := hw1.symm
      go_wp2_with fail
      go_ret2
      exact ⟨rfl, Below.refl _ _⟩
    | false =>
      cases x with
      | true =>
        rw [if_pos (.inr (.inl (HX.out.1 rfl)))] at hh
        injection hh with e1 e2
        subst e1
        subst e2
        go_enter Tryd.func32, Tryd.ntmps32
        go_wp2_with fail
        refine H2.out.mono ?_
        rintro e w1 ⟨rfl, hw1⟩
        obtain rfl := hw1.symm
        go_wp2_with fail
        refine H1.out.mono ?_
        rintro e w1 ⟨rfl, hw1⟩
        obtain rfl := hw1.symm
        go_wp2_with fail
        go_ret2
        exact ⟨rfl, Below.refl _ _⟩
      | false =>
        rw [if_neg (by rintro (h | h | h); exact h0 h; exact absurd (HX.out.2 h) (by simp); exact absurd (HY.out.2 h) (by simp))] at hh
        have hl := parts_len cwd p
        have hj := parts_joined cwd p
        obtain ⟨L, hL⟩ : ∃ L, parts cwd p = L := ⟨_, rfl⟩
        rw [hL] at hh hl hj
        have HL := Lib.hid hL
        have HH := Lib.hid hh
        clear hL hh HX HY
        go_enter Tryd.func32, Tryd.ntmps32
        go_wp2_with fail
        refine H2.out.mono ?_
        rintro e w1 ⟨rfl, hw1⟩
        obtain rfl := hw1.symm
        go_wp2_with fail
        refine H1.out.mono ?_
        rintro e w1 ⟨rfl, hw1⟩
        obtain rfl := hw1.symm
        go_wp2_with fail
        refine (Parts_any cwd p w hc hp).mono ?_
        rintro e w1 ⟨v, rfl, hown, hB⟩
        rw [HL.out] at hown
        obtain ⟨A, c, rfl⟩ := own_form hown
        have HO := Lib.hid hown
        have HB := Lib.hid hB
        clear hown hB
        go_wp2_with fail
        go_loop [25] (fun ia => ∃ k : Nat, ia = .int .i64 k ∧ k ≤ L.length ∧ Hid (∀ i (h : i < L.length), i < k → L[i].length ≤ 60)) (fun ia => L.length - (intOf ia).toNat)
        case atStart => exact ⟨0, rfl, by omega, fun i _ h => absurd h (Nat.not_lt_zero _)⟩
        case round =>
          obtain ⟨k, rfl, hk, HK⟩ := hrel
          have b0 : (0 : Int) ≤ (k : Int) := by omega
          by_cases hlt : k < L.length
          · have b1 : (k : Int) < (L.length : Int) := by omega
            obtain ⟨g, off, rfl, hg, hcell⟩ := strs_own HO.out (by omega)
            have hck := hcell k hlt
            have hadd : (⟨g, off, none⟩ : Addr).add k = ⟨g, off + k, none⟩ := by unfold Addr.add; by_cases h : k = 0 <;> simp [h]
            obtain ⟨s, hs⟩ : ∃ s : ByteArray, ⟨L[k].toArray⟩ = s := ⟨_, rfl⟩
            rw [show encStr L[k] = .string ⟨L[k].toArray⟩ from rfl, hs] at hck
            have HSZ : Hid (L[k].length = s.size) := by rw [← hs]; rfl
            clear hcell hs
            by_cases h3 : s.size ≤ 60
            · have b3 : ¬ (60 : Int) < (s.size : Int) := by omega
              go_wp2_with fail
              refine ⟨⟨k + 1, by go_num, by omega, fun i hi hik => ?_⟩, by simp [intOf]; omega⟩
              by_cases h : i < k
              · exact HK.out i hi h
              · obtain rfl : i = k := by omega
                have := HSZ.out
                omega
            · have b3 : (60 : Int) < (s.size : Int) := by omega
              have hh := HH.out
              rw [if_pos ⟨L[k], List.getElem_mem hlt, by have := HSZ.out; omega⟩] at hh
              injection hh with e1 e2
              subst e1
              subst e2
              go_wp2_with fail
              go_ret2
              exact ⟨rfl, HB.out⟩
          · have b1 : ¬ (k : Int) < (L.length : Int) := by omega
            have hh := HH.out
            rw [if_neg (by
              rintro ⟨x, hx, h⟩
              obtain ⟨i, hi, rfl⟩ := List.mem_iff_getElem.1 hx
              have := HK.out i hi (by omega)
              omega)] at hh
            obtain ⟨S, hS⟩ : ∃ S : ByteArray, ⟨(written L).toArray⟩ = S := ⟨_, rfl⟩
            have hSz : (written L).length = S.size := by rw [← hS]; rfl
            have hW := rooted_any A c L w1 (strs_own HO.out) (own_cap2 HO.out) (by omega)
            rw [hS] at hW
            rw [hSz] at hh
            have HW := Lib.hid hW
            have HSS := Lib.hid hS
            clear hW hS hSz
            go_wp2_with fail
            refine HW.out.mono ?_
            rintro e w2 ⟨rfl, hB2⟩
            have HB2 : Hid (Below w.heap.size w w2) := HB.out.trans (hB2.mono HB.out.size)
            clear hB2
            by_cases c1 : 20 < L.length
            · have c1I : (20 : Int) < (L.length : Int) := by omega
              rw [if_pos (.inl c1)] at hh
              injection hh with e1 e2
              subst e1
              subst e2
              go_wp2_with fail
              go_ret2
              exact ⟨rfl, HB2.out⟩
            · have c1I : ¬ (20 : Int) < (L.length : Int) := by omega
              by_cases c2 : 200 < S.size
              · have c2I : (200 : Int) < (S.size : Int) := by omega
                rw [if_pos (.inr c2)] at hh
                injection hh with e1 e2
                subst e1
                subst e2
                go_wp2_with fail
                go_ret2
                exact ⟨rfl, HB2.out⟩
              · have c2I : ¬ (200 : Int) < (S.size : Int) := by omega
                rw [if_neg (by rintro (h | h); exact c1 h; exact c2 h)] at hh
                injection hh with e1 e2
                subst e1
                subst e2
                go_wp2_with fail
                go_ret2
                exact ⟨by rw [HSS.out]; rfl, HB2.out⟩


end Go.Proofs.YtcmjpkfinbakkaaDoor.Bg

namespace Go.Proofs
open Go.Shelf
def Tryd.keys37_ren : Go.Shelf.Ren := ⟨fun | 7 => 37 | 10 => 49 | n => n, fun | 23 => 43 | 26 => 9 | 3 => 48 | 28 => 71 | 0 => 0 | 27 => 70 | 33 => 62 | 4 => 4 | n => n, fun | n => n⟩
theorem Tryd.keys37 : Go.Proofs.SlLaysZ.n7 Tryd.prog Tryd.keys37_ren := {
  mixed := by kernel_rfl
  f7 := ⟨Tryd.f37.name, by decide, Tryd.func37.trans (congrArg some (by kernel_rfl))⟩
  f10 := ⟨Tryd.f49.name, by decide, Tryd.func49.trans (congrArg some (by kernel_rfl))⟩
  t0 := Tryd.underlying0
  a0 := Tryd.isAgg0
  z0 := Tryd.sizeOf0
  v0 := Tryd.zeroValue0
  t4 := Tryd.underlying4
  a4 := Tryd.isAgg4
  z4 := Tryd.sizeOf4
  v4 := Tryd.zeroValue4
  t23 := Tryd.underlying43
  a23 := Tryd.isAgg43
  z23 := Tryd.sizeOf43
  v23 := Tryd.zeroValue43
  t26 := Tryd.underlying9
  a26 := Tryd.isAgg9
  z26 := Tryd.sizeOf9
  v26 := Tryd.zeroValue9
  t27 := Tryd.underlying70
  a27 := Tryd.isAgg70
  z27 := Tryd.sizeOf70
  v27 := Tryd.zeroValue70
  t28 := Tryd.underlying71
  a28 := Tryd.isAgg71
  z28 := Tryd.sizeOf71
  v28 := Tryd.zeroValue71
  t33 := Tryd.underlying62
  a33 := Tryd.isAgg62
  z33 := Tryd.sizeOf62
  v33 := Tryd.zeroValue62 }
def Tryd.sorted36_ren : Go.Shelf.Ren := ⟨fun | 6 => 36 | 8 => 47 | 9 => 48 | 11 => 58 | 13 => 60 | 12 => 59 | 23 => 77 | 24 => 78 | 14 => 68 | 15 => 69 | 16 => 70 | 17 => 71 | 18 => 72 | 19 => 73 | 20 => 74 | 21 => 75 | 22 => 76 | 25 => 88 | 26 => 89 | 27 => 90 | 28 => 91 | 29 => 92 | 30 => 93 | 31 => 99 | n => n, fun | 26 => 9 | 28 => 71 | 24 => 29 | 0 => 0 | 3 => 3 | 37 => 93 | 48 => 113 | 50 => 115 | 4 => 4 | 40 => 106 | 39 => 105 | 45 => 110 | 5 => 5 | 9 => 9 | 51 => 122 | 55 => 126 | 57 => 133 | 58 => 134 | 33 => 62 | n => n, fun | n => n⟩
theorem Tryd.sorted36 : Go.Proofs.SlLaysZ.n6 Tryd.prog Tryd.sorted36_ren := {
  mixed := by kernel_rfl
  f6 := ⟨Tryd.f36.name, by decide, Tryd.func36.trans (congrArg some (by kernel_rfl))⟩
  f8 := ⟨Tryd.f47.name, by decide, Tryd.func47.trans (congrArg some (by kernel_rfl))⟩
  f11 := ⟨Tryd.f58.name, by decide, Tryd.func58.trans (congrArg some (by kernel_rfl))⟩
  t0 := Tryd.underlying0
  a0 := Tryd.isAgg0
  z0 := Tryd.sizeOf0
  v0 := Tryd.zeroValue0
  t24 := Tryd.underlying29
  a24 := Tryd.isAgg29
  z24 := Tryd.sizeOf29
  v24 := Tryd.zeroValue29
  t26 := Tryd.underlying9
  a26 := Tryd.isAgg9
  z26 := Tryd.sizeOf9
  v26 := Tryd.zeroValue9
  t28 := Tryd.underlying71
  a28 := Tryd.isAgg71
  z28 := Tryd.sizeOf71
  v28 := Tryd.zeroValue71
  i26 := by kernel_rfl }
def Tryd.sort48_ren : Go.Shelf.Ren := ⟨fun | 6 => 48 | 8 => 60 | 9 => 59 | 19 => 77 | 20 => 78 | 21 => 68 | 22 => 69 | 23 => 70 | 24 => 71 | 25 => 72 | 26 => 73 | 27 => 74 | 28 => 75 | 29 => 76 | 36 => 88 | 31 => 89 | 32 => 90 | 37 => 91 | 38 => 92 | 39 => 93 | 41 => 99 | n => n, fun | 27 => 29 | 29 => 9 | 3 => 3 | 32 => 93 | 26 => 29 | 0 => 0 | 44 => 113 | 46 => 115 | 4 => 4 | 36 => 106 | 35 => 105 | 41 => 110 | 5 => 5 | 9 => 9 | 53 => 122 | 57 => 126 | 63 => 133 | 64 => 134 | n => n, fun | n => n⟩
theorem Tryd.sort48 : Go.Proofs.SlLaysM.n6 Tryd.prog Tryd.sort48_ren := {
  mixed := by kernel_rfl
  f6 := ⟨Tryd.f48.name, by decide, Tryd.func48.trans (congrArg some (by kernel_rfl))⟩
  f8 := Tryd.func60.trans (congrArg some (by kernel_rfl))
  f9 := ⟨Tryd.f59.name, by decide, Tryd.func59.trans (congrArg some (by kernel_rfl))⟩
  f19 := Tryd.func77.trans (congrArg some (by kernel_rfl))
  f20 := Tryd.func78.trans (congrArg some (by kernel_rfl))
  f21 := ⟨Tryd.f68.name, by decide, Tryd.func68.trans (congrArg some (by kernel_rfl))⟩
  f22 := ⟨Tryd.f69.name, by decide, Tryd.func69.trans (congrArg some (by kernel_rfl))⟩
  f23 := ⟨Tryd.f70.name, by decide, Tryd.func70.trans (congrArg some (by kernel_rfl))⟩
  f24 := ⟨Tryd.f71.name, by decide, Tryd.func71.trans (congrArg some (by kernel_rfl))⟩
  f25 := ⟨Tryd.f72.name, by decide, Tryd.func72.trans (congrArg some (by kernel_rfl))⟩
  f26 := ⟨Tryd.f73.name, by decide, Tryd.func73.trans (congrArg some (by kernel_rfl))⟩
  f27 := ⟨Tryd.f74.name, by decide, Tryd.func74.trans (congrArg some (by kernel_rfl))⟩
  f28 := ⟨Tryd.f75.name, by decide, Tryd.func75.trans (congrArg some (by kernel_rfl))⟩
  f29 := ⟨Tryd.f76.name, by decide, Tryd.func76.trans (congrArg some (by kernel_rfl))⟩
  f31 := Tryd.func89.trans (congrArg some (by kernel_rfl))
  f32 := Tryd.func90.trans (congrArg some (by kernel_rfl))
  f36 := ⟨Tryd.f88.name, by decide, Tryd.func88.trans (congrArg some (by kernel_rfl))⟩
  f37 := ⟨Tryd.f91.name, by decide, Tryd.func91.trans (congrArg some (by kernel_rfl))⟩
  f38 := ⟨Tryd.f92.name, by decide, Tryd.func92.trans (congrArg some (by kernel_rfl))⟩
  f39 := ⟨Tryd.f93.name, by decide, Tryd.func93.trans (congrArg some (by kernel_rfl))⟩
  f41 := ⟨Tryd.f99.name, by decide, Tryd.func99.trans (congrArg some (by kernel_rfl))⟩
  t0 := Tryd.underlying0
  a0 := Tryd.isAgg0
  z0 := Tryd.sizeOf0
  v0 := Tryd.zeroValue0
  t3 := Tryd.underlying3
  a3 := Tryd.isAgg3
  z3 := Tryd.sizeOf3
  v3 := Tryd.zeroValue3
  t4 := Tryd.underlying4
  a4 := Tryd.isAgg4
  z4 := Tryd.sizeOf4
  v4 := Tryd.zeroValue4
  t5 := Tryd.underlying5
  a5 := Tryd.isAgg5
  z5 := Tryd.sizeOf5
  v5 := Tryd.zeroValue5
  t9 := Tryd.underlying9
  a9 := Tryd.isAgg9
  z9 := Tryd.sizeOf9
  v9 := Tryd.zeroValue9
  t26 := Tryd.underlying29
  a26 := Tryd.isAgg29
  z26 := Tryd.sizeOf29
  v26 := Tryd.zeroValue29
  t27 := Tryd.underlying29
  a27 := Tryd.isAgg29
  z27 := Tryd.sizeOf29
  v27 := Tryd.zeroValue29
  t29 := Tryd.underlying9
  a29 := Tryd.isAgg9
  z29 := Tryd.sizeOf9
  v29 := Tryd.zeroValue9
  t32 := Tryd.underlying93
  a32 := Tryd.isAgg93
  z32 := Tryd.sizeOf93
  v32 := Tryd.zeroValue93
  t35 := Tryd.underlying105
  a35 := Tryd.isAgg105
  z35 := Tryd.sizeOf105
  v35 := Tryd.zeroValue105
  t36 := Tryd.underlying106
  a36 := Tryd.isAgg106
  z36 := Tryd.sizeOf106
  v36 := Tryd.zeroValue106
  t41 := Tryd.underlying110
  a41 := Tryd.isAgg110
  z41 := Tryd.sizeOf110
  v41 := Tryd.zeroValue110
  t44 := Tryd.underlying113
  a44 := Tryd.isAgg113
  z44 := Tryd.sizeOf113
  v44 := Tryd.zeroValue113
  t46 := Tryd.underlying115
  a46 := Tryd.isAgg115
  z46 := Tryd.sizeOf115
  v46 := Tryd.zeroValue115
  t53 := Tryd.underlying122
  a53 := Tryd.isAgg122
  z53 := Tryd.sizeOf122
  v53 := Tryd.zeroValue122
  t57 := Tryd.underlying126
  a57 := Tryd.isAgg126
  z57 := Tryd.sizeOf126
  v57 := Tryd.zeroValue126
  t63 := Tryd.underlying133
  a63 := Tryd.isAgg133
  z63 := Tryd.sizeOf133
  v63 := Tryd.zeroValue133
  t64 := Tryd.underlying134
  a64 := Tryd.isAgg134
  z64 := Tryd.sizeOf134
  v64 := Tryd.zeroValue134 }
end Go.Proofs

namespace Go.Proofs.YtcmjpkfinbakkaaDoor
open Go.RowKit Go.Maps Go.ChangeMaps
set_option linter.unusedVariables false

abbrev Bz := List UInt8
abbrev Pth := List Bz
/-- A node: a file with its bytes, or a directory; and its time. -/
structure Nd where
  file : Bool
  data : Bz
  time : Int
abbrev Tr := Pth → Option Nd
/-- How an element reads: where it points to. -/
def ptrR : Value → Option (DataW Unit × List MemPlace)
  | .pointer none => some (.nil, [])
  | .pointer (some ⟨b, 0, none⟩) => some (.lit (.int .i64 b), [])
  | _ => none
def ptrV : Option Nat → Value
  | none => .pointer none
  | some b => .pointer (some ⟨b, 0, none⟩)
def ptrD : Option Nat → DataW Unit
  | none => .nil
  | some b => .lit (.int .i64 b)
theorem ptrR_V (o : Option Nat) : ptrR (ptrV o) = some (ptrD o, []) := by cases o <;> rfl
theorem ptrR_inv {v : Value} {o : Option Nat} {ps : List MemPlace} (h : ptrR v = some (ptrD o, ps)) : v = ptrV o := by
  unfold ptrR at h
  split at h
  · cases o with
    | none => rfl
    | some b => simp [ptrD] at h
  · rename_i b
    cases o with
    | none => simp [ptrD] at h
    | some c =>
      simp [ptrD] at h
      have hb : b = c := by have := h.1; omega
      rw [hb]; rfl
  · cases h
theorem keyedS : Keyed Tryd.prog 9 := string_keyed Tryd.underlying9
/-- A directory's map: which block its names lead to. -/
structure Kids (w : World) (N : Nat) (m : Option Nat) (g : Bz → Option Nat) : Prop where
  no : m = none → ∀ k, g k = none
  yes : ∀ b, m = some b → ∃ nn D, nn ≤ N ∧ w.ownsMap Tryd.prog 9 ptrR b nn D ∧ ∀ k : Bz, D.atKey (.string k) .nil = ptrD (g k) ∧ Maps.has D (.string k) = (g k).isSome
theorem zero50 (w : World) : (zeroValue 48).run Tryd.prog w = .ok (.pointer none) w := by kernel_rfl
theorem Kids.look {w : World} {N : Nat} {m : Option Nat} {g : Bz → Option Nat} (h : Kids w N m g) (s : ByteArray) (hs : s.size ≤ maxLen) : (Instr.lookup 43 (.map m) (.string s) false).run Tryd.prog w = .ok (ptrV (g s.data.toList)) w := by
  have hk := Go.WideMaps.keyOf_string_mk Tryd.underlying9 hs
  cases m with
  | none =>
    rw [h.no rfl]
    have := Maps.look_nil (w := w) false keyedS Tryd.underlying43 (zero50 w) hk
    simpa [ptrV] using this
  | some b =>
    obtain ⟨nn, D, _, hown, hg⟩ := h.yes b rfl
    obtain ⟨v, ps, hrun, hv⟩ := hown.lookup keyedS Tryd.underlying43 (zero50 w) (zd := .nil) (zp := []) rfl hk
    rw [(hg _).1] at hv
    rw [hrun, ptrR_inv hv]
theorem Kids.only {w w' : World} {N : Nat} {m : Option Nat} {g : Bz → Option Nat} (h : Kids w N m g) (hb : ∀ b, m = some b → b < w.heap.size → w'.heap[b]? = w.heap[b]?) : Kids w' N m g := by
  refine ⟨h.no, fun b hm => ?_⟩
  obtain ⟨nn, D, h1, hown, hg⟩ := h.yes b hm
  have hlt := hown.lt
  obtain ⟨es, clock, h2, F, hs, hD⟩ := hown
  exact ⟨nn, D, h1, ⟨es, clock, (hb b hm hlt).trans h2, F, hs, hD⟩, hg⟩
theorem Kids.lt {w : World} {N : Nat} {m : Option Nat} {g : Bz → Option Nat} (h : Kids w N m g) {b : Nat} (hm : m = some b) : b < w.heap.size := by
  obtain ⟨nn, D, h1, hown, hg⟩ := h.yes b hm
  exact hown.lt
theorem Kids.mono {w : World} {N N' : Nat} {m : Option Nat} {g : Bz → Option Nat} (h : Kids w N m g) (hN : N ≤ N') : Kids w N' m g := by
  refine ⟨h.no, fun b hm => ?_⟩
  obtain ⟨nn, D, h1, r⟩ := h.yes b hm
  exact ⟨nn, D, by omega, r⟩
theorem Kids.congr {w : World} {N : Nat} {m : Option Nat} {g g' : Bz → Option Nat} (h : Kids w N m g) (hg : ∀ k, g' k = g k) : Kids w N m g' := by
  have : g' = g := funext hg
  rw [this]; exact h
theorem keyLit (k : Bz) : WideAt.IsKeyLit (.string k) := trivial
theorem Kids.of_put {w : World} {N nn b : Nat} {D : DataW Unit} {g g' : Bz → Option Nat} {k : Bz} {a : Nat} (h : w.ownsMap Tryd.prog 9 ptrR b nn (D.put (.string k) (.lit (.int .i64 a)))) (hn : nn ≤ N) (hD : IsMap D)
    (hg : ∀ x : Bz, D.atKey (.string x) .nil = ptrD (g x) ∧ Maps.has D (.string x) = (g x).isSome) (hg' : ∀ x, g' x = if x = k then some a else g x) : Kids w N (some b) g' := by
  refine ⟨fun e => by (cases e), fun b' e => ?_⟩
  cases e
  refine ⟨nn, _, hn, h, fun x => ?_⟩
  rw [hg']
  by_cases hx : x = k
  · subst hx
    rw [if_pos rfl]
    exact ⟨atKey_put_same hD (keyLit _) _ _, Maps.has_put_same hD (keyLit _) _⟩
  · rw [if_neg hx]
    have hne : (Lit.string x) ≠ .string k := fun e => hx (by injection e)
    exact ⟨(atKey_put_other hne _ _).trans (hg x).1, (Maps.has_put_other hne _).trans (hg x).2⟩
theorem Kids.of_del {w : World} {N nn b : Nat} {D : DataW Unit} {g g' : Bz → Option Nat} {k : Bz} (h : w.ownsMap Tryd.prog 9 ptrR b nn (D.del (.string k))) (hn : nn ≤ N)
    (hg : ∀ x : Bz, D.atKey (.string x) .nil = ptrD (g x) ∧ Maps.has D (.string x) = (g x).isSome) (hg' : ∀ x, g' x = if x = k then none else g x) : Kids w N (some b) g' := by
  refine ⟨fun e => by (cases e), fun b' e => ?_⟩
  cases e
  refine ⟨nn, _, hn, h, fun x => ?_⟩
  rw [hg']
  by_cases hx : x = k
  · subst hx
    rw [if_pos rfl]
    exact ⟨atKey_del_same _, Maps.has_del_same⟩
  · rw [if_neg hx]
    have hne : (Lit.string x) ≠ .string k := fun e => hx (by injection e)
    exact ⟨(atKey_del_other hne _).trans (hg x).1, (Maps.has_del_other hne).trans (hg x).2⟩
theorem kids_made (w : World) (N : Nat) (g : Bz → Option Nat) (hg : ∀ k, g k = none) : (w.alloc (.map #[] 0)).ownsMap Tryd.prog 9 ptrR w.heap.size 0 (.map []) ∧ ∀ x : Bz, (DataW.map (H := Unit) []).atKey (.string x) .nil = ptrD (g x) ∧ Maps.has (DataW.map (H := Unit) []) (.string x) = (g x).isSome :=
  ⟨World.ownsMap_made w _ _ _, fun x => by rw [hg x]; exact ⟨rfl, rfl⟩⟩
end Go.Proofs.YtcmjpkfinbakkaaDoor

namespace Go.Proofs.YtcmjpkfinbakkaaDoor
open Go.RowKit Go.Maps Go.ChangeMaps
set_option linter.unusedVariables false

/-- Of what was there nothing but the blocks of S has turned. -/
structure Only (S : Nat → Prop) (w w' : World) : Prop where
  os : w'.os = w.os
  tape : w'.tape = w.tape
  output : w'.output = w.output
  size : w.heap.size ≤ w'.heap.size
  block : ∀ k, k < w.heap.size → ¬ S k → w'.heap[k]? = w.heap[k]?
theorem Only.refl (S : Nat → Prop) (w : World) : Only S w w := ⟨rfl, rfl, rfl, Nat.le_refl _, fun _ _ _ => rfl⟩
theorem Only.trans {S S' T : Nat → Prop} {a b c : World} (h : Only S a b) (k : Only S' b c) (hS : ∀ i, S i → T i) (hS' : ∀ i, i < a.heap.size → S' i → T i) : Only T a c :=
  ⟨k.os.trans h.os, k.tape.trans h.tape, k.output.trans h.output, Nat.le_trans h.size k.size, fun i hi hn =>
    (k.block i (Nat.lt_of_lt_of_le hi h.size) (fun e => hn (hS' i hi e))).trans (h.block i hi (fun e => hn (hS i e)))⟩
theorem Only.mono {S T : Nat → Prop} {a b : World} (h : Only S a b) (hS : ∀ i, S i → T i) : Only T a b := ⟨h.os, h.tape, h.output, h.size, fun i hi hn => h.block i hi (fun e => hn (hS i e))⟩
theorem Only.of_below {S : Nat → Prop} {a b : World} (h : Below a.heap.size a b) : Only S a b := ⟨h.os, h.tape, h.output, h.size, fun i hi _ => h.block i hi⟩
theorem Only.of_grown {S : Nat → Prop} {a b : World} {row : Option Nat} (h : a.grownBy b row) (hr : ∀ k, row = some k → S k) : Only S a b :=
  ⟨h.os, h.tape, h.output, h.size, fun i hi hn => h.block i hi (fun e => hn (hr i e.symm))⟩
theorem Only.below {S : Nat → Prop} {a b : World} {B : Nat} (h : Only S a b) (hS : ∀ k, S k → B ≤ k) (hB : B ≤ a.heap.size) : Below B a b :=
  ⟨h.os, h.tape, h.output, h.size, fun i hi => h.block i (by omega) (fun e => by have := hS i e; omega)⟩
theorem Only.set {S : Nat → Prop} {a w : World} (h : Only S a w) {g : Nat} (hg : S g ∨ a.heap.size ≤ g) (i : Nat) (u : Value) : Only S a (w.setCell ⟨g, i, none⟩ u) :=
  ⟨h.os, h.tape, h.output, by simpa using h.size, fun k hk hn => (Below.heap_setCell _ _ _ _ (by intro e; have e : k = g := e; subst e; rcases hg with e | e; exact hn e; omega)).trans (h.block k hk hn)⟩

theorem row_only {w w' : World} {B n : Nat} {v : Value} {xs : List Value} (h : w.ownsRow B 5 1 v n xs) (hb : ∀ g, v.ownBlock = some g → g < w.heap.size → w'.heap[g]? = w.heap[g]?) : w'.ownsRow B 5 1 v n xs := by
  refine ⟨h.1, ?_⟩
  rcases h.2 with hn | ⟨g, cap, cur, rfl, h1, h2, r⟩
  · exact .inl hn
  · exact .inr ⟨g, cap, cur, rfl, h1, (hb g rfl (Array.getElem?_eq_some_iff.1 h2).1).trans h2, r⟩
theorem row_lt {w : World} {B n : Nat} {v : Value} {xs : List Value} (h : w.ownsRow B 5 1 v n xs) {g : Nat} (hg : v.ownBlock = some g) : g < w.heap.size := by
  rcases h.2 with ⟨rfl, _⟩ | ⟨g', cap, cur, rfl, h1, h2, r⟩
  · cases hg
  · cases hg
    exact (Array.getElem?_eq_some_iff.1 h2).1

def u8s (l : Bz) : List Value := l.map fun c => .int .u8 c.toNat
theorem u8s_len (l : Bz) : (u8s l).length = l.length := List.length_map ..
def ndC (n : Nd) (v : Value) (m : Option Nat) : List Value := [.bool n.file, v, .int .i64 n.time, .map m]
def tlOf (tl : List Value) : Pth → List Value
  | [] => tl
  | _ => []
def tyOf (ty : TypeId) : Pth → TypeId
  | [] => ty
  | _ => 45
def kidsOf (T : Tr) (A : Pth → Nat) (p : Pth) (k : Bz) : Option Nat := if (T (p ++ [k])).isSome then some (A (p ++ [k])) else none
/-- A tree of nodes lies at block f. -/
structure TreeAt (w : World) (B N f : Nat) (ty : TypeId) (tl : List Value) (T : Tr) (A : Pth → Nat) (M : Pth → Option Nat) (V : Pth → Value) : Prop where
  a0 : A [] = f
  root : ∃ n, T [] = some n
  up : ∀ p k, (T (p ++ [k])).isSome → ∃ n, T p = some n ∧ n.file = false
  blk : ∀ p n, T p = some n → w.heap[A p]? = some (.cells (ndC n (V p) (M p) ++ tlOf tl p).toArray (tyOf ty p) (0, 0))
  data : ∀ p n, T p = some n → w.ownsRow B 5 1 (V p) n.data.length (u8s n.data)
  kids : ∀ p n, T p = some n → Kids w N (M p) (kidsOf T A p)
  base : ∀ p n, T p = some n → B ≤ A p ∧ ∀ b, M p = some b → B ≤ b
  injA : ∀ p q, (T p).isSome → (T q).isSome → A p = A q → p = q
  injM : ∀ p q b, (T p).isSome → (T q).isSome → M p = some b → M q = some b → p = q
  injV : ∀ p q b, (T p).isSome → (T q).isSome → (V p).ownBlock = some b → (V q).ownBlock = some b → p = q
/-- The blocks of a tree. -/
def foot (T : Tr) (A : Pth → Nat) (M : Pth → Option Nat) (V : Pth → Value) (k : Nat) : Prop := ∃ p n, T p = some n ∧ (A p = k ∨ M p = some k ∨ (V p).ownBlock = some k)
section
variable {w w' : World} {B N f : Nat} {ty : TypeId} {tl : List Value} {T : Tr} {A : Pth → Nat} {M : Pth → Option Nat} {V : Pth → Value}
theorem TreeAt.lt (h : TreeAt w B N f ty tl T A M V) {k : Nat} (hk : foot T A M V k) : k < w.heap.size := by
  obtain ⟨p, n, hp, e | e | e⟩ := hk
  · have := h.blk p n hp
    rw [e] at this
    exact (Array.getElem?_eq_some_iff.1 this).1
  · exact (h.kids p n hp).lt e
  · exact row_lt (h.data p n hp) e
theorem TreeAt.ge (h : TreeAt w B N f ty tl T A M V) {k : Nat} (hk : foot T A M V k) : B ≤ k := by
  obtain ⟨p, n, hp, e | e | e⟩ := hk
  · rw [← e]; exact (h.base p n hp).1
  · exact (h.base p n hp).2 k e
  · rcases (h.data p n hp).2 with ⟨e1, _⟩ | ⟨g, cap, cur, e1, h1, h2, r⟩
    · rw [e1] at e; cases e
    · rw [e1] at e; cases e; exact h1
theorem TreeAt.only {X : Nat → Prop} (h : TreeAt w B N f ty tl T A M V) (ho : Only X w w') (hd : ∀ k, X k → ¬ foot T A M V k) : TreeAt w' B N f ty tl T A M V := by
  have hb : ∀ k, foot T A M V k → w'.heap[k]? = w.heap[k]? := fun k hk => ho.block k (h.lt hk) (fun e => hd k e hk)
  exact ⟨h.a0, h.root, h.up, fun p n hp => (hb _ ⟨p, n, hp, .inl rfl⟩).trans (h.blk p n hp), fun p n hp => row_only (h.data p n hp) (fun g hg _ => hb g ⟨p, n, hp, .inr (.inr hg)⟩),
    fun p n hp => (h.kids p n hp).only (fun b hm _ => hb b ⟨p, n, hp, .inr (.inl hm)⟩), h.base, h.injA, h.injM, h.injV⟩
theorem TreeAt.mono (h : TreeAt w B N f ty tl T A M V) {N' : Nat} (hN : N ≤ N') : TreeAt w B N' f ty tl T A M V :=
  ⟨h.a0, h.root, h.up, h.blk, h.data, fun p n hp => (h.kids p n hp).mono hN, h.base, h.injA, h.injM, h.injV⟩
/-- The blocks of the three sorts differ. -/
theorem TreeAt.neAM (h : TreeAt w B N f ty tl T A M V) {p q : Pth} {b : Nat} (hp : (T p).isSome) (hq : (T q).isSome) (hm : M q = some b) : A p ≠ b := by
  obtain ⟨n, hn⟩ := Option.isSome_iff_exists.1 hp
  obtain ⟨n', hn'⟩ := Option.isSome_iff_exists.1 hq
  intro e
  obtain ⟨nn, D, _, hown, _⟩ := (h.kids q n' hn').yes b hm
  obtain ⟨es, clock, h2, _⟩ := hown
  have := h.blk p n hn
  rw [e, h2] at this
  cases this
theorem tyOf_ne (hty : ty ≠ 5) (p : Pth) : tyOf ty p ≠ 5 := by
  cases p with
  | nil => exact hty
  | cons => exact show (45 : Nat) ≠ 5 by decide
theorem TreeAt.neAV (h : TreeAt w B N f ty tl T A M V) (hty : ty ≠ 5) {p q : Pth} {b : Nat} (hp : (T p).isSome) (hq : (T q).isSome) (hm : (V q).ownBlock = some b) : A p ≠ b := by
  obtain ⟨n, hn⟩ := Option.isSome_iff_exists.1 hp
  obtain ⟨n', hn'⟩ := Option.isSome_iff_exists.1 hq
  intro e
  rcases (h.data q n' hn').2 with ⟨e1, _⟩ | ⟨g, cap, cur, e1, h1, h2, r⟩
  · rw [e1] at hm; cases hm
  · rw [e1] at hm
    cases hm
    have := h.blk p n hn
    rw [e] at this
    have h3 := h2.symm.trans this
    injection h3 with h3
    injection h3 with _ h3 _
    exact tyOf_ne hty p h3.symm
theorem TreeAt.neMV (h : TreeAt w B N f ty tl T A M V) {p q : Pth} {b c : Nat} (hp : (T p).isSome) (hq : (T q).isSome) (hc : M p = some c) (hm : (V q).ownBlock = some b) : c ≠ b := by
  obtain ⟨n, hn⟩ := Option.isSome_iff_exists.1 hp
  obtain ⟨n', hn'⟩ := Option.isSome_iff_exists.1 hq
  intro e
  obtain ⟨nn, D, _, hown, _⟩ := (h.kids p n hn).yes c hc
  obtain ⟨es, clock, hx, _⟩ := hown
  rcases (h.data q n' hn').2 with ⟨e1, _⟩ | ⟨g, cap, cur, e1, h1, h2, r⟩
  · rw [e1] at hm; cases hm
  · rw [e1] at hm
    cases hm
    rw [e, h2] at hx
    cases hx
end
end Go.Proofs.YtcmjpkfinbakkaaDoor

namespace Go.Proofs.YtcmjpkfinbakkaaDoor
open Go.RowKit Go.Maps Go.ChangeMaps
set_option linter.unusedVariables false

def setF {α : Type} (F : Pth → α) (p : Pth) (x : α) (q : Pth) : α := if q = p then x else F q
theorem setF_same {α : Type} (F : Pth → α) (p : Pth) (x : α) : setF F p x p = x := if_pos rfl
theorem setF_other {α : Type} (F : Pth → α) {p q : Pth} (x : α) (h : q ≠ p) : setF F p x q = F q := if_neg h
def graftF {α : Type} (F : Pth → α) (p : Pth) (G : Pth → α) (q : Pth) : α := if p.isPrefixOf q = true then G (q.drop p.length) else F q
theorem graftF_in {α : Type} (F : Pth → α) (p : Pth) (G : Pth → α) (r : Pth) : graftF F p G (p ++ r) = G r := by
  have h : p.isPrefixOf (p ++ r) = true := List.isPrefixOf_iff_prefix.2 ⟨r, rfl⟩
  unfold graftF; rw [if_pos h]; simp
theorem graftF_out {α : Type} (F : Pth → α) (p : Pth) (G : Pth → α) {q : Pth} (h : ¬ p <+: q) : graftF F p G q = F q := by
  unfold graftF; rw [if_neg (fun e => h (List.isPrefixOf_iff_prefix.1 e))]
theorem graft_self {α : Type} (F : Pth → α) (p : Pth) (G : Pth → α) : graftF F p G p = G [] := by have := graftF_in F p G []; simpa using this
theorem not_pre_self (d : Pth) (k : Bz) : ¬ (d ++ [k]) <+: d := fun h => by have := h.length_le; simp at this; omega
section
variable {w w' : World} {B N f : Nat} {ty : TypeId} {tl : List Value} {T : Tr} {A : Pth → Nat} {M : Pth → Option Nat} {V : Pth → Value}
theorem TreeAt.setTl (h : TreeAt w B N f ty tl T A M V) {n0 : Nd} (h0 : T [] = some n0) (tl' : List Value) (ho : Only (fun k => k = f) w w') (hb : w'.heap[f]? = some (.cells (ndC n0 (V []) (M []) ++ tl').toArray ty (0, 0))) (hty : ty ≠ 5) :
    TreeAt w' B N f ty tl' T A M V := by
  have hs : (T []).isSome := by rw [h0]; rfl
  have hof : ∀ k, foot T A M V k → k ≠ f → w'.heap[k]? = w.heap[k]? := fun k hk hne => ho.block k (h.lt hk) hne
  refine ⟨h.a0, h.root, h.up, fun p n hp => ?_, fun p n hp => ?_, fun p n hp => ?_, h.base, h.injA, h.injM, h.injV⟩
  · cases p with
    | nil =>
      rw [h0] at hp; cases hp
      rw [h.a0]; exact hb
    | cons a p =>
      have hne : A (a :: p) ≠ f := fun e => by
        have := h.injA (a :: p) [] (by rw [hp]; rfl) hs (e.trans h.a0.symm)
        cases this
      exact (hof _ ⟨_, n, hp, .inl rfl⟩ hne).trans (h.blk _ n hp)
  · refine row_only (h.data p n hp) fun g hg _ => hof g ⟨p, n, hp, .inr (.inr hg)⟩ fun e => ?_
    exact h.neAV hty hs (by rw [hp]; rfl) hg (h.a0.trans e.symm)
  · refine (h.kids p n hp).only fun b hm _ => hof b ⟨p, n, hp, .inr (.inl hm)⟩ fun e => ?_
    exact h.neAM hs (by rw [hp]; rfl) hm (h.a0.trans e.symm)
theorem TreeAt.setNode (h : TreeAt w B N f ty tl T A M V) (hty : ty ≠ 5) {p : Pth} {n n' : Nd} (hp : T p = some n) (hf : n'.file = n.file) (v' : Value) {X : Nat → Prop} (ho : Only X w w') (hX : ∀ k, X k → k = A p ∨ (V p).ownBlock = some k)
    (hb : w'.heap[A p]? = some (.cells (ndC n' v' (M p) ++ tlOf tl p).toArray (tyOf ty p) (0, 0))) (hd : w'.ownsRow B 5 1 v' n'.data.length (u8s n'.data)) (hv : ∀ b, v'.ownBlock = some b → (V p).ownBlock = some b ∨ w.heap.size ≤ b) :
    TreeAt w' B N f ty tl (setF T p (some n')) A M (setF V p v') := by
  have hs : (T p).isSome := by rw [hp]; rfl
  have hT : ∀ q, (setF T p (some n') q).isSome = (T q).isSome := fun q => by
    by_cases e : q = p
    · rw [e, setF_same, hp]; rfl
    · rw [setF_other _ _ e]
  have hof : ∀ k, foot T A M V k → k ≠ A p → (V p).ownBlock ≠ some k → w'.heap[k]? = w.heap[k]? := fun k hk h1 h2 => ho.block k (h.lt hk) fun e => by
    rcases hX k e with e | e
    · exact h1 e
    · exact h2 e
  have hin : ∀ q m, setF T p (some n') q = some m → ∃ m0, T q = some m0 ∧ m0.file = m.file := fun q m e => by
    by_cases hq : q = p
    · subst hq; rw [setF_same] at e; cases e; exact ⟨n, hp, hf.symm⟩
    · rw [setF_other _ _ hq] at e; exact ⟨m, e, rfl⟩
  have hkk : ∀ q, kidsOf (setF T p (some n')) A q = kidsOf T A q := fun q => funext fun k => by unfold kidsOf; rw [hT]
  refine ⟨h.a0, ?_, fun q k hq => ?_, fun q m hq => ?_, fun q m hq => ?_, fun q m hq => ?_, fun q m hq => ?_, fun a b ha hb' => ?_, fun a b c ha hb' => ?_, fun a b c ha hb' h1 h2 => ?_⟩
  · obtain ⟨n0, h0⟩ := h.root
    exact Option.isSome_iff_exists.1 (by rw [hT, h0]; rfl)
  · rw [hT] at hq
    obtain ⟨m, h1, h2⟩ := h.up q k hq
    by_cases e : q = p
    · subst e; rw [hp] at h1; cases h1; exact ⟨n', setF_same _ _ _, hf.trans h2⟩
    · exact ⟨m, (setF_other _ _ e).trans h1, h2⟩
  · by_cases e : q = p
    · subst e; rw [setF_same] at hq; cases hq; rw [setF_same]; exact hb
    · rw [setF_other _ _ e] at hq
      rw [setF_other _ _ e]
      refine (hof _ ⟨q, m, hq, .inl rfl⟩ (fun e2 => e (h.injA q p (by rw [hq]; rfl) hs e2)) fun e2 => ?_).trans (h.blk q m hq)
      exact h.neAV hty (by rw [hq]; rfl) hs e2 rfl
  · by_cases e : q = p
    · subst e; rw [setF_same] at hq; cases hq; rw [setF_same]; exact hd
    · rw [setF_other _ _ e] at hq
      rw [setF_other _ _ e]
      refine row_only (h.data q m hq) fun g hg _ => hof g ⟨q, m, hq, .inr (.inr hg)⟩ (fun e2 => ?_) fun e2 => ?_
      · exact h.neAV hty hs (by rw [hq]; rfl) hg e2.symm
      · exact e (h.injV q p g (by rw [hq]; rfl) hs hg e2)
  · obtain ⟨m0, hq0, _⟩ := hin q m hq
    rw [hkk]
    refine (h.kids q m0 hq0).only fun b hm _ => hof b ⟨q, m0, hq0, .inr (.inl hm)⟩ (fun e2 => ?_) fun e2 => ?_
    · exact h.neAM hs (by rw [hq0]; rfl) hm e2.symm
    · exact h.neMV (by rw [hq0]; rfl) hs hm e2 rfl
  · obtain ⟨m0, hq0, _⟩ := hin q m hq
    exact h.base q m0 hq0
  · rw [hT] at ha hb'
    exact h.injA a b ha hb'
  · rw [hT] at ha hb'
    exact h.injM a b c ha hb'
  · rw [hT] at ha hb'
    have old : ∀ q, (T q).isSome → (V q).ownBlock = some c → c < w.heap.size := fun q hq hc => by
      obtain ⟨m, hm⟩ := Option.isSome_iff_exists.1 hq
      exact row_lt (h.data q m hm) hc
    by_cases ea : a = p
    · by_cases eb : b = p
      · rw [ea, eb]
      · rw [ea, setF_same] at h1
        rw [setF_other _ _ eb] at h2
        rcases hv c h1 with e | e
        · exact ea.trans (h.injV p b c hs hb' e h2)
        · have := old b hb' h2; omega
    · rw [setF_other _ _ ea] at h1
      by_cases eb : b = p
      · rw [eb, setF_same] at h2
        rcases hv c h2 with e | e
        · exact (h.injV a p c ha hs h1 e).trans eb.symm
        · have := old a ha h1; omega
      · rw [setF_other _ _ eb] at h2
        exact h.injV a b c ha hb' h1 h2
end
end Go.Proofs.YtcmjpkfinbakkaaDoor
