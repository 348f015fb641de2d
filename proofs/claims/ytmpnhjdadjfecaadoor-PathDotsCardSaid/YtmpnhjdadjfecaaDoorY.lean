import Derived.Test.YtmpnhjdadjfecaaDoorX
namespace Go.Proofs.YtmpnhjdadjfecaaDoor
open Go.RowKit
set_option linter.unusedVariables false

theorem own_drew {w w' : World} {B n m : Nat} {v : Value} {xs : List Value} (h : w.ownsRow B 9 1 v n xs) (e : w' = w.drewN m) : w'.ownsRow B 9 1 v n xs := by rw [e]; exact h
theorem list_eq_false {q : ByteArray} {l : Bs} (h : q.data.toList ≠ l) : (q.toList == l) = false := by rw [Lib.toList_data, beq_eq_false_iff_ne]; exact h
theorem list_eq_true {q : ByteArray} {l : Bs} (h : q.data.toList = l) : (q.toList == l) = true := by rw [Lib.toList_data, beq_iff_eq]; exact h

theorem wrap_nat {M K : Nat} (h : M + 1 = K) (hm : M ≤ 1000000) : IntKind.i64.wrap ((M : Int) + 1) = (K : Int) ∧ wrap64 ((M : Int) + 1) = (K : Int) ∧ (M : Int) < (K : Int) ∧ (0 : Int) ≤ (M : Int) := by
  refine ⟨by rw [IntKind.wrap_i64]; omega, by unfold wrap64; omega, by omega, by omega⟩
theorem cell_last {w : World} {B g c K : Nat} {M : List Bs} {n : ByteArray} (h : w.ownsRow B 9 1 (.slice (some ⟨g, 0, none⟩) K c) K ((M ++ [n.data.toList]).map encStr)) (hK : M.length + 1 = K) : w.cell? ⟨g, M.length, none⟩ = some (.string n) := by
  have h1 := World.ownsRow.cellAt h M.length (by omega)
  rw [h1, List.getElem?_map, List.getElem?_append_right (by omega), Nat.sub_self]
  rfl

set_option maxRecDepth 100000 in
set_option maxHeartbeats 8000000 in
theorem dots_walk (cwd p n : ByteArray) (w : World) : Calls Tryd.prog 8 #[.string cwd, .string p, .string n] w fun e w' => e = .returned (.bool true) ∧ Below w.heap.size w w' := by
  go_enter Tryd.func8, Tryd.ntmps8
  go_wp2_with fail
  refine (alive_any w).mono ?_
  rintro e w1 ⟨rfl, hB⟩
  have HB := Lib.hid hB
  clear hB
  by_cases c1 : cwd.size ≤ 100
  case neg =>
    have c1I : (100 : Int) < (cwd.size : Int) := by omega
    go_wp2_with fail
    go_ret
    exact ⟨rfl, HB.out⟩
  have c1I : ¬ (100 : Int) < (cwd.size : Int) := by omega
  by_cases c2 : p.size ≤ 100
  case neg =>
    have c2I : (100 : Int) < (p.size : Int) := by omega
    go_wp2_with fail
    go_ret
    exact ⟨rfl, HB.out⟩
  have c2I : ¬ (100 : Int) < (p.size : Int) := by omega
  by_cases c3 : p.size = 0
  case pos =>
    have he := empty_true c3
    go_wp2_with fail
    go_ret
    exact ⟨rfl, HB.out⟩
  have he3 := empty_false c3
  by_cases c4 : n.size = 0
  case pos =>
    have he := empty_true c4
    go_wp2_with fail
    go_ret
    exact ⟨rfl, HB.out⟩
  have he4 := empty_false c4
  by_cases c5 : n.data.toList = [46]
  case pos =>
    have he := list_eq_true c5
    clear c5
    go_wp2_with fail
    go_ret
    exact ⟨rfl, HB.out⟩
  have he5 := list_eq_false c5
  by_cases c6 : n.data.toList = [46, 46]
  case pos =>
    have he := list_eq_true c6
    clear c6 c5
    go_wp2_with fail
    go_ret
    exact ⟨rfl, HB.out⟩
  have he6 := list_eq_false c6
  by_cases c7 : n.size ≤ 60
  case neg =>
    have c7I : (60 : Int) < (n.size : Int) := by omega
    clear c5 c6
    go_wp2_with fail
    go_ret
    exact ⟨rfl, HB.out⟩
  have c7I : ¬ (60 : Int) < (n.size : Int) := by omega
  obtain ⟨x, hx⟩ : ∃ x, at_ n 47 (n.size + 1) 0 = x := ⟨_, rfl⟩
  have hAt := fun w => At_any n 47 w (by omega)
  rw [hx] at hAt
  have HAt := Lib.hid hAt
  have hmem := at_mem n 47
  rw [hx] at hmem
  have HMem := Lib.hid hmem
  have H5 := Lib.hid c5
  have H6 := Lib.hid c6
  clear hAt hx hmem c5 c6
  by_cases c8 : 0 ≤ x
  case pos =>
    go_wp2_with fail
    refine (HAt.out w1).mono ?_
    rintro e w2 ⟨rfl, h⟩
    obtain rfl := h.symm
    go_wp2_with fail
    go_ret
    exact ⟨rfl, HB.out⟩
  have hgood : Hid (n.data.toList ≠ [] ∧ n.data.toList ≠ [46] ∧ n.data.toList ≠ [46, 46] ∧ ∀ c ∈ n.data.toList, c ≠ 47) :=
    ⟨fun e => c4 (size_zero.1 e), H5.out, H6.out, fun c hc e => c8 (HMem.out.2 (by rw [← e]; exact hc))⟩
  have hpl : Hid (p.data.toList ≠ []) := fun e => c3 (size_zero.1 e)
  obtain ⟨M, hM⟩ : ∃ M, parts cwd p = M := ⟨_, rfl⟩
  have hMl : M.length ≤ 300 := by have := parts_len cwd p; rw [hM] at this; omega
  have lp : p.data.toList.length = p.size := Array.length_toList
  have ln : n.data.toList.length = n.size := Array.length_toList
  have HM := Lib.hid hM
  obtain ⟨Z1, hZ1⟩ : ∃ Z : ByteArray, p ++ ⟨#[47]⟩ ++ n = Z := ⟨_, rfl⟩
  have hz1 : Z1.data.toList = p.data.toList ++ 47 :: n.data.toList := by rw [← hZ1]; simp
  have hs1 : Z1.size ≤ 1000 := by
    have h1 : Z1.data.toList.length = Z1.size := Array.length_toList
    rw [hz1] at h1; simp at h1; omega
  have e1 : Hid (parts cwd Z1 = M ++ [n.data.toList]) := by
    rw [Hid, ← hM, parts_eq, parts_eq, hz1]
    exact dots_more hpl.out hgood.out
  obtain ⟨Z2, hZ2⟩ : ∃ Z : ByteArray, p ++ ⟨#[47, 46, 47]⟩ = Z := ⟨_, rfl⟩
  have hz2 : Z2.data.toList = p.data.toList ++ [47, 46, 47] := by rw [← hZ2]; simp
  have hs2 : Z2.size ≤ 1000 := by
    have h1 : Z2.data.toList.length = Z2.size := Array.length_toList
    rw [hz2] at h1; simp at h1; omega
  have e2 : Hid (parts cwd Z2 = M) := by
    rw [Hid, ← hM, parts_eq, parts_eq, hz2]
    exact dots_one hpl.out
  obtain ⟨Z3, hZ3⟩ : ∃ Z : ByteArray, p ++ ⟨#[47, 47]⟩ ++ n ++ ⟨#[47, 46, 46]⟩ = Z := ⟨_, rfl⟩
  have hz3 : Z3.data.toList = p.data.toList ++ [47, 47] ++ n.data.toList ++ [47, 46, 46] := by rw [← hZ3]; simp
  have hs3 : Z3.size ≤ 1000 := by
    have h1 : Z3.data.toList.length = Z3.size := Array.length_toList
    rw [hz3] at h1; simp at h1; omega
  have e3 : Hid (parts cwd Z3 = M) := by
    rw [Hid, ← hM, parts_eq, parts_eq, hz3]
    exact dots_two hpl.out hgood.out
  clear hM hz1 hz2 hz3 lp ln hpl hgood
  go_wp2_with fail
  refine (HAt.out w1).mono ?_
  rintro e w2 ⟨rfl, h⟩
  obtain rfl := h.symm
  go_wp2_with fail
  refine (Parts_any cwd p w1 (by omega) (by omega)).mono ?_
  rintro e w4 ⟨va, rfl, hown, hB⟩
  rw [HM.out] at hown
  obtain ⟨A4, c4', rfl⟩ := own_form hown
  have HO4 := Lib.hid hown
  have HB4 := Lib.hid (below_step HB.out hB)
  clear hown hB
  go_wp2_with fail
  refine (Parts_any cwd Z1 w4 (by omega) (by omega)).mono ?_
  rintro e w5 ⟨vb, rfl, hown, hB⟩
  rw [e1.out] at hown
  have hlen : (M ++ [n.data.toList]).length = M.length + 1 := by simp
  obtain ⟨g5, c5', rfl, _, hg5⟩ := hown.form (by omega)
  have HO4' := Lib.hid (HO4.out.kept (gb_below hB) (Classical.em _))
  have HB5 := Lib.hid (below_step HB4.out hB)
  have hadd : (⟨g5, 0, none⟩ : Addr).add M.length = ⟨g5, M.length, none⟩ := by unfold Addr.add; by_cases h : M.length = 0 <;> simp [h]
  obtain ⟨K, hK⟩ : ∃ K, M.length + 1 = K := ⟨_, rfl⟩
  obtain ⟨q1, q2, q4, q5⟩ := wrap_nat hK (Nat.le_trans hMl (by decide))
  rw [hK] at hlen
  rw [hlen] at hown
  have hck := cell_last hown hK
  have HO5 : Hid (w5.ownsRow w4.heap.size 9 1 (.slice (some ⟨g5, 0, none⟩) (M ++ [n.data.toList]).length c5') (M ++ [n.data.toList]).length ((M ++ [n.data.toList]).map encStr)) := by rw [hlen]; exact hown
  have HK := Lib.hid hK
  have HLEN := Lib.hid hlen
  rw [hlen]
  clear hown hB hK hlen
  go_wp2_with fail
  refine (Parts_any cwd Z2 w5 (by omega) (by omega)).mono ?_
  rintro e w6 ⟨vb, rfl, hown, hB⟩
  rw [e2.out] at hown
  obtain ⟨A6, c6', rfl⟩ := own_form hown
  have HO4 := Lib.hid (HO4'.out.kept (gb_below hB) (Classical.em _))
  have HO5 := Lib.hid (HO5.out.kept (gb_below hB) (Classical.em _))
  have HO6 := Lib.hid hown
  have HB6 := Lib.hid (below_step HB5.out hB)
  clear hown hB
  go_wp2_with fail
  refine (Same_any A6 A4 M M c6' c4' w6 (by omega) (strs_own HO6.out) (strs_own HO4.out) true (iff_self_true rfl)).mono ?_
  rintro e w7 ⟨rfl, m, hm⟩
  have HO4 := Lib.hid (own_drew HO4.out hm)
  have HO5 := Lib.hid (own_drew HO5.out hm)
  have HB7 := Lib.hid (below_drew HB6.out hm)
  clear hm
  go_wp2_with fail
  refine (Parts_any cwd Z3 w7 (by omega) (by omega)).mono ?_
  rintro e w8 ⟨vb, rfl, hown, hB⟩
  rw [e3.out] at hown
  obtain ⟨A8, c8', rfl⟩ := own_form hown
  have HO4 := Lib.hid (HO4.out.kept (gb_below hB) (Classical.em _))
  have HO5 := Lib.hid (HO5.out.kept (gb_below hB) (Classical.em _))
  have HO8 := Lib.hid hown
  have HB8 := Lib.hid (below_step HB7.out hB)
  clear hown hB
  go_wp2_with fail
  refine (Same_any A8 A4 M M c8' c4' w8 (by omega) (strs_own HO8.out) (strs_own HO4.out) true (iff_self_true rfl)).mono ?_
  rintro e w9 ⟨rfl, m, hm⟩
  have HO4 := Lib.hid (own_drew HO4.out hm)
  have HO5 := Lib.hid (own_drew HO5.out hm)
  have HB9 := Lib.hid (below_drew HB8.out hm)
  clear hm
  obtain ⟨hst, hss⟩ := own_cut HO5.out (k := M.length) (by simp)
  have htk : (M ++ [n.data.toList]).take M.length = M := by simp
  rw [htk] at hss
  rw [HLEN.out] at hst
  have HSS := Lib.hid hss
  clear hss htk
  go_wp2_with fail
  refine (Same_any (some ⟨g5, 0, none⟩) A4 M M c5' c4' w9 (by omega) HSS.out (strs_own HO4.out) true (iff_self_true rfl)).mono ?_
  rintro e w10 ⟨rfl, m, hm⟩
  have HB10 := Lib.hid (below_drew HB9.out hm)
  clear hm
  go_wp2_with fail
  go_ret
  exact ⟨rfl, HB10.out⟩
end Go.Proofs.YtmpnhjdadjfecaaDoor
