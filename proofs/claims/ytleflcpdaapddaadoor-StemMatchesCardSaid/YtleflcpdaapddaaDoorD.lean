import Derived.Test.YtleflcpdaapddaaDoorC
namespace Go.Proofs.YtleflcpdaapddaaDoor
open Go.RowKit

/-- The library's variable holds some number. -/
def Hm (w : World) : Prop := ∃ m, w.cell? ⟨0, 0, none⟩ = some (.int .i64 m)
theorem Hm.below {w w' : World} (h : Hm w) (hb : Below w.heap.size w w') : Hm w' := by
  obtain ⟨m, hm⟩ := h
  have hlt := World.block_lt_of_cell? w _ hm
  exact ⟨m, by rw [hb.cell (p := ⟨0, 0, none⟩) hlt]; exact hm⟩

set_option maxRecDepth 100000 in
set_option maxHeartbeats 1000000 in
theorem alive_any (w : World) (hm : Hm w) : Calls Tryd.prog 5 #[] w fun e w' => e = .returned (.bool true) ∧ Below w.heap.size w w' := by
  obtain ⟨m, hm⟩ := hm
  go_enter Tryd.func5, Tryd.ntmps5
  go_wp2_with fail
  refine (Match_at (mk [37, 46, 111]) (mk [97, 46, 111]) (mk []) (mk [46, 111]) [] [46, 111] _ m hm (by decide) (by decide) rfl (by simp) rfl rfl).mono ?_
  rw [show stemOk (mk []) (mk [46, 111]) (mk [97, 46, 111]) = true by decide +kernel, if_pos rfl]
  rw [show (mk [97, 46, 111]).extract (mk []).size ((mk [97, 46, 111]).size - (mk [46, 111]).size) = mk [97] by rfl]
  rintro e w' ⟨rfl, hd⟩
  have HB := Lib.hid (below_drew hd)
  clear hd
  go_wp2_with fail
  go_ret
  exact ⟨by rfl, HB.out⟩

theorem self_beq (s : ByteArray) : (s.toList == s.toList) = true := by simp

set_option maxRecDepth 100000 in
set_option maxHeartbeats 4000000 in
theorem matches_in (p s : ByteArray) (hp1 : p.size ≤ 100) (hs1 : s.size ≤ 100) (w : World) (hm : Hm w) :
    Calls Tryd.prog 3 #[.string p, .string s] w fun e w' => e = .returned (.bool true) ∧ Below w.heap.size w w' := by
  by_cases h : (37 : UInt8) ∈ p.data.toList
  · obtain ⟨a, b, hpl, hno⟩ := split_pc h
    have HT := indexByte_at a b hno
    have HR := replace_at a b hno s.data.toList
    have HPC := pc_at a b hno
    rw [← hpl] at HT HR HPC
    have HI : Hid (decide (0 ≤ Lib.indexByte p.data.toList 37) = true) := by unfold Hid; rw [HT]; simp
    have HRR : Hid (mk (Lib.replace p.data.toList [37] s.data.toList 1) = mk a ++ s ++ mk b) := by
      unfold Hid
      rw [HR]
      symm
      apply eq_mk
      simp
    have HP := Lib.hid HPC
    have HM := Lib.hid hm
    have HPL := Lib.hid hpl
    have HN := Lib.hid hno
    obtain ⟨r, hr⟩ : ∃ r : ByteArray, (if stemOk (mk a) (mk b) s = true then s.extract (mk a).size (s.size - (mk b).size) else (⟨#[]⟩ : ByteArray)) = r := ⟨_, rfl⟩
    obtain ⟨o, ho⟩ : ∃ o, stemOk (mk a) (mk b) s = o := ⟨_, rfl⟩
    have HSR := Lib.hid hr
    have HSO := Lib.hid ho
    clear HT HR HPC h hpl hno hm hr ho
    go_enter Tryd.func3, Tryd.ntmps3
    go_wp2_with fail
    refine (alive_any _ HM.out).mono ?_
    rintro e w1 ⟨rfl, hB1⟩
    have HM1 := Lib.hid (HM.out.below hB1)
    have HB1 := Lib.hid hB1
    clear hB1
    go_wp2_with fail
    obtain ⟨m, hm1⟩ := HM1.out
    refine (Match_at p s _ _ a b _ m hm1 (by omega) (by omega) HPL.out HN.out rfl rfl).mono ?_
    rw [HSR.out, HSO.out]
    rintro e w2 ⟨rfl, hd⟩
    have HB2 := Lib.hid (btrans HB1.out (below_drew hd))
    have HM2 := Lib.hid (HM1.out.below (below_drew hd))
    clear hd hm1
    go_wp2_with fail
    refine (RefStem_at p s _ _ a b _ (by omega) (by omega) HPL.out HN.out rfl rfl).mono ?_
    rw [HSR.out, HSO.out]
    rintro e w3 ⟨rfl, rfl⟩
    go_wp2_with fail
    refine (Is_any p _ true HI.out).mono ?_
    rintro e w3 ⟨rfl, rfl⟩
    go_wp2_with fail
    refine (At_any p _ (by omega)).mono ?_
    rw [HP.out]
    rintro e w3 ⟨rfl, rfl⟩
    go_wp2_with fail
    obtain ⟨m, hm2⟩ := HM2.out
    refine (Fill_any p s _ m hm2 (by omega) (by omega) _ HRR.out).mono ?_
    rintro e w4 ⟨rfl, hB4⟩
    have HB4 := Lib.hid (btrans HB2.out hB4)
    clear hB4 hm2
    go_wp2_with fail
    refine (RefFill_at p s _ _ a b _ (by omega) (by omega) HPL.out HN.out rfl rfl).mono ?_
    rintro e w5 ⟨rfl, hd⟩
    have HB5 := Lib.hid (btrans HB4.out (below_drew hd))
    clear hd
    cases o <;> go_wp2_with fail
    all_goals
      go_ret
      exact ⟨by rfl, HB5.out⟩
  · have HI : Hid (decide (0 ≤ Lib.indexByte p.data.toList 37) = false) := by unfold Hid; rw [indexByte_no h]; rfl
    have HRR : Hid (mk (Lib.replace p.data.toList [37] s.data.toList 1) = p) := by
      unfold Hid
      rw [replace_no h]
    have HP := Lib.hid (pc_no h)
    have HM := Lib.hid hm
    have HN := Lib.hid h
    obtain ⟨o, ho⟩ : ∃ o, (p.toList == s.toList) = o := ⟨_, rfl⟩
    have HSO := Lib.hid ho
    clear h hm ho
    go_enter Tryd.func3, Tryd.ntmps3
    go_wp2_with fail
    refine (alive_any _ HM.out).mono ?_
    rintro e w1 ⟨rfl, hB1⟩
    have HM1 := Lib.hid (HM.out.below hB1)
    have HB1 := Lib.hid hB1
    clear hB1
    go_wp2_with fail
    obtain ⟨m, hm1⟩ := HM1.out
    refine (Match_no p s _ m hm1 (by omega) HN.out).mono ?_
    rw [HSO.out]
    rintro e w2 ⟨rfl, hd⟩
    have HB2 := Lib.hid (btrans HB1.out (below_drew hd))
    have HM2 := Lib.hid (HM1.out.below (below_drew hd))
    clear hd hm1
    go_wp2_with fail
    refine (RefStem_no p s _ (by omega) HN.out).mono ?_
    rw [HSO.out]
    rintro e w3 ⟨rfl, rfl⟩
    go_wp2_with fail
    refine (Is_any p _ false HI.out).mono ?_
    rintro e w3 ⟨rfl, rfl⟩
    go_wp2_with fail
    refine (At_any p _ (by omega)).mono ?_
    rw [HP.out]
    rintro e w3 ⟨rfl, rfl⟩
    go_wp2_with fail
    obtain ⟨m, hm2⟩ := HM2.out
    refine (Fill_any p s _ m hm2 (by omega) (by omega) _ HRR.out).mono ?_
    rintro e w4 ⟨rfl, hB4⟩
    have HB4 := Lib.hid (btrans HB2.out hB4)
    clear hB4 hm2
    go_wp2_with fail
    refine (RefFill_no p s _ (by omega) HN.out).mono ?_
    rintro e w5 ⟨rfl, rfl⟩
    cases o <;> go_wp2_with fail
    all_goals
      go_ret
      exact ⟨by rfl, HB4.out⟩
set_option maxRecDepth 100000 in
set_option maxHeartbeats 1000000 in
theorem matches_walk (p s : ByteArray) (_hp : p.size ≤ maxLen) (_hs : s.size ≤ maxLen) (w : World) (hm : Hm w) :
    Calls Tryd.prog 3 #[.string p, .string s] w fun e w' => e = .returned (.bool true) ∧ Below w.heap.size w w' := by
  by_cases h1 : p.size ≤ 100
  · by_cases h2 : s.size ≤ 100
    · exact matches_in p s h1 h2 w hm
    · have h2' : (100 : Int) < (s.size : Int) := by omega
      have HM := Lib.hid hm
      clear hm
      go_enter Tryd.func3, Tryd.ntmps3
      go_wp2_with (go_at_call 5; refine (alive_any _ HM.out).mono ?_; rintro e w1 ⟨rfl, hB1⟩)
      go_ret
      exact ⟨rfl, hB1⟩
  · have h1' : (100 : Int) < (p.size : Int) := by omega
    have HM := Lib.hid hm
    clear hm
    go_enter Tryd.func3, Tryd.ntmps3
    go_wp2_with (go_at_call 5; refine (alive_any _ HM.out).mono ?_; rintro e w1 ⟨rfl, hB1⟩)
    go_ret
    exact ⟨rfl, hB1⟩
end Go.Proofs.YtleflcpdaapddaaDoor
