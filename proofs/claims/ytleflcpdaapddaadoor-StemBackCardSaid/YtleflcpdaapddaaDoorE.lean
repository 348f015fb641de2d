import Derived.Test.YtleflcpdaapddaaDoorD
namespace Go.Proofs.YtleflcpdaapddaaDoor
open Go.RowKit

theorem ext_eq {s t : ByteArray} (h : s.data.toList = t.data.toList) : s = t := ByteArray.ext (Array.toList_inj.1 h)
theorem data3 (F s G : ByteArray) : (F ++ s ++ G).data.toList = F.data.toList ++ s.data.toList ++ G.data.toList := by simp
theorem ext_list (t : ByteArray) (i j : Nat) : (t.extract i j).data.toList = (t.data.toList.take j).drop i := by
  rw [ByteArray.data_extract, Array.toList_extract, List.extract_eq_take_drop, List.take_drop]
  by_cases h : i ≤ j
  · rw [Nat.add_sub_cancel' h]
  · rw [List.drop_of_length_le (by simp; omega), List.drop_of_length_le (by simp; omega)]
theorem front3 (F s G : ByteArray) : (F ++ s ++ G).extract 0 F.size = F := by
  apply ext_eq
  rw [ext_list, data3, List.append_assoc, List.take_append_of_le_length (by simp), List.take_of_length_le (by simp)]
  rfl
theorem size3 (F s G : ByteArray) : (F ++ s ++ G).size = F.size + s.size + G.size := by rw [ByteArray.size_append, ByteArray.size_append]
theorem back3 (F s G : ByteArray) : (F ++ s ++ G).extract ((F ++ s ++ G).size - G.size) (F ++ s ++ G).size = G := by
  apply ext_eq
  rw [ext_list, data3, List.take_of_length_le (by rw [size3]; simp; omega), size3, List.drop_append_of_le_length (by first | (simp; done) | (simp; omega)), List.drop_of_length_le (by first | (simp; done) | (simp; omega))]
  rfl
theorem mid3 (F s G : ByteArray) : (F ++ s ++ G).extract F.size ((F ++ s ++ G).size - G.size) = s := by
  apply ext_eq
  rw [ext_list, data3, size3, List.take_append_of_le_length (by first | (simp; done) | (simp; omega)), List.take_of_length_le (by first | (simp; done) | (simp; omega)), List.drop_append_of_le_length (by simp), List.drop_of_length_le (by simp)]
  rfl
theorem stemOk3 (F s G : ByteArray) : stemOk F G (F ++ s ++ G) = decide (0 < s.size) := by
  unfold stemOk hp ends
  rw [front3, back3, size3]
  rw [Bool.eq_iff_iff]
  simp
  omega
theorem empty_beq (s : ByteArray) : s.toList.isEmpty = !decide (0 < s.size) := by
  rw [Lib.toList_data, Bool.eq_iff_iff, List.isEmpty_iff, ← List.length_eq_zero_iff]
  simp

set_option maxRecDepth 100000 in
set_option maxHeartbeats 4000000 in
theorem back_in (p s : ByteArray) (hp1 : p.size ≤ 100) (hs1 : s.size ≤ 100) (w : World) (hm : Hm w) :
    Calls Tryd.prog 4 #[.string p, .string s] w fun e w' => e = .returned (.bool true) ∧ Below w.heap.size w w' := by
  by_cases h : (37 : UInt8) ∈ p.data.toList
  · obtain ⟨a, b, hpl, hno⟩ := split_pc h
    have HT := indexByte_at a b hno
    have HR := replace_at a b hno s.data.toList
    rw [← hpl] at HT HR
    have HI : Hid (decide (0 ≤ Lib.indexByte p.data.toList 37) = true) := by unfold Hid; rw [HT]; simp
    obtain ⟨t, ht⟩ : ∃ t, mk a ++ s ++ mk b = t := ⟨_, rfl⟩
    have HRR : Hid (mk (Lib.replace p.data.toList [37] s.data.toList 1) = t) := by
      unfold Hid
      rw [HR, ← ht]
      symm
      apply eq_mk
      simp
    have hsz : a.length + b.length + 1 = p.size := by rw [← size_len, hpl]; simp; omega
    have htz : t.size ≤ 100000 := by rw [← ht, size3, mk_size a, mk_size b]; omega
    have HSO : Hid (stemOk (mk a) (mk b) t = decide (0 < s.size)) := by unfold Hid; rw [← ht]; exact stemOk3 _ _ _
    have HMID : Hid (t.extract (mk a).size (t.size - (mk b).size) = s) := by unfold Hid; rw [← ht]; exact mid3 _ _ _
    have HM := Lib.hid hm
    have HPL := Lib.hid hpl
    have HN := Lib.hid hno
    clear HT HR h hpl hno hm ht hsz
    by_cases hs0 : 0 < s.size
    · have HD : Hid (stemOk (mk a) (mk b) t = true) := by unfold Hid; rw [HSO.out]; simpa using hs0
      have hse : s.toList.isEmpty = false := by rw [empty_beq]; simpa using hs0
      have hsn : ¬ s.toList = [] := by rw [← List.isEmpty_iff]; rw [hse]; simp
      clear hs0
      go_enter Tryd.func4, Tryd.ntmps4
      go_wp2_with fail
      refine (alive_any _ HM.out).mono ?_
      rintro e w1 ⟨rfl, hB1⟩
      have HM1 := Lib.hid (HM.out.below hB1)
      have HB1 := Lib.hid hB1
      clear hB1
      go_wp2_with fail
      obtain ⟨m, hm1⟩ := HM1.out
      refine (Fill_any p s _ m hm1 (by omega) (by omega) _ HRR.out).mono ?_
      rintro e w2 ⟨rfl, hB2⟩
      have HB2 := Lib.hid (btrans HB1.out hB2)
      have HM2 := Lib.hid (HM1.out.below hB2)
      clear hB2 hm1
      go_wp2_with fail
      obtain ⟨m2, hm2⟩ := HM2.out
      refine (Match_at p t _ _ a b _ m2 hm2 (by omega) htz HPL.out HN.out rfl rfl).mono ?_
      rw [HD.out, if_pos rfl, HMID.out]
      rintro e w3 ⟨rfl, hd⟩
      have HB3 := Lib.hid (btrans HB2.out (below_drew hd))
      clear hd hm2
      go_wp2_with fail
      refine (Is_any p _ true HI.out).mono ?_
      rintro e w4 ⟨rfl, rfl⟩
      go_wp2_with fail
      go_ret
      exact ⟨by rfl, HB3.out⟩
    · have HD : Hid (stemOk (mk a) (mk b) t = false) := by unfold Hid; rw [HSO.out]; simpa using hs0
      have hse : s.toList.isEmpty = true := by rw [empty_beq]; simpa using hs0
      have hsn : s.toList = [] := by rw [← List.isEmpty_iff]; exact hse
      clear hs0
      go_enter Tryd.func4, Tryd.ntmps4
      go_wp2_with fail
      refine (alive_any _ HM.out).mono ?_
      rintro e w1 ⟨rfl, hB1⟩
      have HM1 := Lib.hid (HM.out.below hB1)
      have HB1 := Lib.hid hB1
      clear hB1
      go_wp2_with fail
      obtain ⟨m, hm1⟩ := HM1.out
      refine (Fill_any p s _ m hm1 (by omega) (by omega) _ HRR.out).mono ?_
      rintro e w2 ⟨rfl, hB2⟩
      have HB2 := Lib.hid (btrans HB1.out hB2)
      have HM2 := Lib.hid (HM1.out.below hB2)
      clear hB2 hm1
      go_wp2_with fail
      obtain ⟨m2, hm2⟩ := HM2.out
      refine (Match_at p t _ _ a b _ m2 hm2 (by omega) htz HPL.out HN.out rfl rfl).mono ?_
      rw [HD.out, if_neg (by decide)]
      rintro e w3 ⟨rfl, hd⟩
      have HB3 := Lib.hid (btrans HB2.out (below_drew hd))
      clear hd hm2
      go_wp2_with fail
      refine (Is_any p _ true HI.out).mono ?_
      rintro e w4 ⟨rfl, rfl⟩
      go_wp2_with fail
      go_ret
      exact ⟨by rfl, HB3.out⟩
  · have HI : Hid (decide (0 ≤ Lib.indexByte p.data.toList 37) = false) := by unfold Hid; rw [indexByte_no h]; rfl
    have HRR : Hid (mk (Lib.replace p.data.toList [37] s.data.toList 1) = p) := by
      unfold Hid
      rw [replace_no h]
    have HM := Lib.hid hm
    have HN := Lib.hid h
    have HSELF := Lib.hid (self_beq p)
    clear h hm
    go_enter Tryd.func4, Tryd.ntmps4
    go_wp2_with fail
    refine (alive_any _ HM.out).mono ?_
    rintro e w1 ⟨rfl, hB1⟩
    have HM1 := Lib.hid (HM.out.below hB1)
    have HB1 := Lib.hid hB1
    clear hB1
    go_wp2_with fail
    obtain ⟨m, hm1⟩ := HM1.out
    refine (Fill_any p s _ m hm1 (by omega) (by omega) _ HRR.out).mono ?_
    rintro e w2 ⟨rfl, hB2⟩
    have HB2 := Lib.hid (btrans HB1.out hB2)
    have HM2 := Lib.hid (HM1.out.below hB2)
    clear hB2 hm1
    go_wp2_with fail
    obtain ⟨m2, hm2⟩ := HM2.out
    refine (Match_no p p _ m2 hm2 (by omega) HN.out).mono ?_
    rw [HSELF.out]
    rintro e w3 ⟨rfl, hd⟩
    have HB3 := Lib.hid (btrans HB2.out (below_drew hd))
    clear hd hm2
    go_wp2_with fail
    refine (Is_any p _ false HI.out).mono ?_
    rintro e w4 ⟨rfl, rfl⟩
    go_wp2_with fail
    go_ret
    exact ⟨by rfl, HB3.out⟩
set_option maxRecDepth 100000 in
set_option maxHeartbeats 1000000 in
theorem back_walk (p s : ByteArray) (_hp : p.size ≤ maxLen) (_hs : s.size ≤ maxLen) (w : World) (hm : Hm w) :
    Calls Tryd.prog 4 #[.string p, .string s] w fun e w' => e = .returned (.bool true) ∧ Below w.heap.size w w' := by
  by_cases h1 : p.size ≤ 100
  · by_cases h2 : s.size ≤ 100
    · exact back_in p s h1 h2 w hm
    · have h2' : (100 : Int) < (s.size : Int) := by omega
      have HM := Lib.hid hm
      clear hm
      go_enter Tryd.func4, Tryd.ntmps4
      go_wp2_with (go_at_call 5; refine (alive_any _ HM.out).mono ?_; rintro e w1 ⟨rfl, hB1⟩)
      go_ret
      exact ⟨rfl, hB1⟩
  · have h1' : (100 : Int) < (p.size : Int) := by omega
    have HM := Lib.hid hm
    clear hm
    go_enter Tryd.func4, Tryd.ntmps4
    go_wp2_with (go_at_call 5; refine (alive_any _ HM.out).mono ?_; rintro e w1 ⟨rfl, hB1⟩)
    go_ret
    exact ⟨rfl, hB1⟩
end Go.Proofs.YtleflcpdaapddaaDoor
