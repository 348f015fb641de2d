import Derived.Test.YthgddbdkdloobaaDoorQC
namespace Go.Proofs.YthgddbdkdloobaaDoor
open Go.RowKit
set_option linter.unusedVariables false

theorem ap_minus (a b : Int) : ap [45] a b = (wr (a - b), false) := by simp [ap]
theorem ap_same (a b : Int) : ap [61, 61] a b = (tr (a == b), false) := by simp [ap]
set_option maxRecDepth 100000 in
set_option maxHeartbeats 8000000 in
theorem sums_walk (s t : ByteArray) (hs : s.size ≤ maxLen) (ht : t.size ≤ maxLen) (pv : Value) (l : Prs) (W : World) (hP : PV W.heap.size W pv l) :
    Calls Tryd.prog 10 #[.string s, .string t, pv] W fun e W' => e = .returned (.bool true) ∧ Below W.heap.size W W' := by
  have hs2 := size_max hs
  have ht2 := size_max ht
  obtain ⟨o, c, rfl⟩ := hP.form
  have HP := Lib.hid hP
  have hll : (l.length : Int) ≤ 9223372036854775807 := by have := hP.len; omega
  obtain ⟨X, hX⟩ : ∃ X, evalL false s.data.toList (Vl l) = X := ⟨_, rfl⟩
  obtain ⟨Y, hY⟩ : ∃ Y, evalL false t.data.toList (Vl l) = Y := ⟨_, rfl⟩
  have HRV := Lib.hid (fun (w : World) (h : PV w.heap.size w (.slice o l.length c) l) => RefEval_any s l _ w hs2 h)
  have HRW := Lib.hid (fun (w : World) (h : PV w.heap.size w (.slice o l.length c) l) => RefEval_any t l _ w ht2 h)
  rw [evalL_lim, hX] at HRV
  rw [evalL_lim, hY] at HRW
  obtain ⟨x1, x2⟩ := X
  obtain ⟨y1, y2⟩ := Y
  have hl := dlen s
  have hl2 := dlen t
  have HL := Lib.hid hl
  have HL2 := Lib.hid hl2
  have HX := Lib.hid hX
  have HY := Lib.hid hY
  clear hP hs ht hl hl2 hX hY
  by_cases c0 : (300 : Int) < (s.size : Int)
  case pos =>
    go_enter Tryd.func10, Tryd.ntmps10
    go_wp2_with fail
    refine (alive_any _).mono ?_
    rintro e w1 ⟨rfl, hB1⟩
    have HB1 := Lib.hid hB1
    clear hB1
    simp only []
    go_wp2_with fail
    refine (HRV.out _ (HP.out.below HB1.out)).mono ?_
    rintro e w2 ⟨rfl, hB2⟩
    have HB2 := Lib.hid (HB1.out.trans (hB2.mono HB1.out.size))
    clear hB2
    simp only []
    go_wp2_with fail
    refine (HRW.out _ (HP.out.below HB2.out)).mono ?_
    rintro e w3 ⟨rfl, hB3⟩
    have HB3 := Lib.hid (HB2.out.trans (hB3.mono HB2.out.size))
    clear hB3
    simp only []
    go_wp2_with fail
    go_ret
    exact ⟨rfl, HB3.out⟩
  by_cases c1 : (300 : Int) < (t.size : Int)
  case pos =>
    go_enter Tryd.func10, Tryd.ntmps10
    go_wp2_with fail
    refine (alive_any _).mono ?_
    rintro e w1 ⟨rfl, hB1⟩
    have HB1 := Lib.hid hB1
    clear hB1
    simp only []
    go_wp2_with fail
    refine (HRV.out _ (HP.out.below HB1.out)).mono ?_
    rintro e w2 ⟨rfl, hB2⟩
    have HB2 := Lib.hid (HB1.out.trans (hB2.mono HB1.out.size))
    clear hB2
    simp only []
    go_wp2_with fail
    refine (HRW.out _ (HP.out.below HB2.out)).mono ?_
    rintro e w3 ⟨rfl, hB3⟩
    have HB3 := Lib.hid (HB2.out.trans (hB3.mono HB2.out.size))
    clear hB3
    simp only []
    go_wp2_with fail
    go_ret
    exact ⟨rfl, HB3.out⟩
  by_cases c2 : (20 : Int) < (l.length : Int)
  case pos =>
    go_enter Tryd.func10, Tryd.ntmps10
    go_wp2_with fail
    refine (alive_any _).mono ?_
    rintro e w1 ⟨rfl, hB1⟩
    have HB1 := Lib.hid hB1
    clear hB1
    simp only []
    go_wp2_with fail
    refine (HRV.out _ (HP.out.below HB1.out)).mono ?_
    rintro e w2 ⟨rfl, hB2⟩
    have HB2 := Lib.hid (HB1.out.trans (hB2.mono HB1.out.size))
    clear hB2
    simp only []
    go_wp2_with fail
    refine (HRW.out _ (HP.out.below HB2.out)).mono ?_
    rintro e w3 ⟨rfl, hB3⟩
    have HB3 := Lib.hid (HB2.out.trans (hB3.mono HB2.out.size))
    clear hB3
    simp only []
    go_wp2_with fail
    go_ret
    exact ⟨rfl, HB3.out⟩
  by_cases c3 : x2 ≠ 0
  case pos =>
    have b1 : ((x2 : Int) != 0) = true := by rw [bne_iff_ne]; omega
    go_enter Tryd.func10, Tryd.ntmps10
    go_wp2_with fail
    refine (alive_any _).mono ?_
    rintro e w1 ⟨rfl, hB1⟩
    have HB1 := Lib.hid hB1
    clear hB1
    simp only []
    go_wp2_with fail
    refine (HRV.out _ (HP.out.below HB1.out)).mono ?_
    rintro e w2 ⟨rfl, hB2⟩
    have HB2 := Lib.hid (HB1.out.trans (hB2.mono HB1.out.size))
    clear hB2
    simp only []
    go_wp2_with fail
    refine (HRW.out _ (HP.out.below HB2.out)).mono ?_
    rintro e w3 ⟨rfl, hB3⟩
    have HB3 := Lib.hid (HB2.out.trans (hB3.mono HB2.out.size))
    clear hB3
    simp only []
    go_wp2_with fail
    go_ret
    exact ⟨rfl, HB3.out⟩
  obtain rfl : x2 = 0 := by omega
  by_cases c4 : y2 ≠ 0
  case pos =>
    have b1 : ((y2 : Int) != 0) = true := by rw [bne_iff_ne]; omega
    go_enter Tryd.func10, Tryd.ntmps10
    go_wp2_with fail
    refine (alive_any _).mono ?_
    rintro e w1 ⟨rfl, hB1⟩
    have HB1 := Lib.hid hB1
    clear hB1
    simp only []
    go_wp2_with fail
    refine (HRV.out _ (HP.out.below HB1.out)).mono ?_
    rintro e w2 ⟨rfl, hB2⟩
    have HB2 := Lib.hid (HB1.out.trans (hB2.mono HB1.out.size))
    clear hB2
    simp only []
    go_wp2_with fail
    refine (HRW.out _ (HP.out.below HB2.out)).mono ?_
    rintro e w3 ⟨rfl, hB3⟩
    have HB3 := Lib.hid (HB2.out.trans (hB3.mono HB2.out.size))
    clear hB3
    simp only []
    go_wp2_with fail
    go_ret
    exact ⟨rfl, HB3.out⟩
  obtain rfl : y2 = 0 := by omega
  have c0' : (s.size : Int) ≤ 300 := by omega
  have c1' : (t.size : Int) ≤ 300 := by omega
  have c2' : (l.length : Int) ≤ 20 := by omega
  clear c3 c4
  have hv := sums_val HX.out HY.out (op := [45]) (by decide) (by rw [ap_minus]) (by rw [HL.out, HL2.out]; omega)
  have hw := sums_par HX.out HY.out (op := [61, 61]) (by decide) (by rw [ap_same]) (by rw [HL.out, HL2.out]; omega)
  rw [ap_minus] at hv
  rw [ap_same] at hw
  obtain ⟨dif, hd⟩ : ∃ dif, wr (x1 - y1) = dif := ⟨_, rfl⟩
  have hd2 : IntKind.i64.wrap (x1 - y1) = dif := by rw [← hd]; unfold wr wrap64; rw [IntKind.wrap_i64]
  have hd3 : wrap64 (x1 - y1) = dif := hd
  rw [hd] at hv
  clear hd
  obtain ⟨b, hb⟩ : ∃ b, (x1 == y1) = b := ⟨_, rfl⟩
  rw [hb] at hw
  rcases hv with hv | hv <;> rcases hw with hw | hw <;> cases b
  · skip
    have E1 := Lib.hid (fun (Y : ByteArray) (hY : Y.data.toList = _) (w : World) (h : PV w.heap.size w (.slice o l.length c) l) => ev13l Y _ _ _ l _ w h hY (by simp [HL.out, HL2.out]; omega) hv)
    have E2 := Lib.hid (fun (Y : ByteArray) (hY : Y.data.toList = _) (w : World) (h : PV w.heap.size w (.slice o l.length c) l) => ev13l Y _ _ _ l _ w h hY (by simp [HL.out, HL2.out]; omega) hw)
    clear hv hw
    have ht1 : tr false = 0 := rfl
    rw [ht1] at E2
    go_enter Tryd.func10, Tryd.ntmps10
    go_wp2_with fail
    refine (alive_any _).mono ?_
    rintro e w1 ⟨rfl, hB1⟩
    have HB1 := Lib.hid hB1
    clear hB1
    simp only []
    go_wp2_with fail
    refine (HRV.out _ (HP.out.below HB1.out)).mono ?_
    rintro e w2 ⟨rfl, hB2⟩
    have HB2 := Lib.hid (HB1.out.trans (hB2.mono HB1.out.size))
    clear hB2
    simp only []
    go_wp2_with fail
    refine (HRW.out _ (HP.out.below HB2.out)).mono ?_
    rintro e w3 ⟨rfl, hB3⟩
    have HB3 := Lib.hid (HB2.out.trans (hB3.mono HB2.out.size))
    clear hB3
    simp only []
    go_wp2_with fail
    refine (E1.out _ (by simp) _ (HP.out.below HB3.out)).mono ?_
    rintro e w4 ⟨rfl, hB4⟩
    have HB4 := Lib.hid (HB3.out.trans (hB4.mono HB3.out.size))
    clear hB4
    simp only []
    go_wp2_with fail
    refine (E2.out _ (by simp) _ (HP.out.below HB4.out)).mono ?_
    rintro e w5 ⟨rfl, hB5⟩
    have HB5 := Lib.hid (HB4.out.trans (hB5.mono HB4.out.size))
    clear hB5
    simp only []
    go_wp2_with fail
    refine (num_any _ _).mono ?_
    rintro e y1 ⟨rfl, h⟩
    obtain rfl := h.symm
    simp only []
    go_wp2_with fail
    refine (num_any _ _).mono ?_
    rintro e y1 ⟨rfl, h⟩
    obtain rfl := h.symm
    simp only []
    go_wp2_with fail
    go_ret
    exact ⟨rfl, HB5.out⟩
  · skip
    have E1 := Lib.hid (fun (Y : ByteArray) (hY : Y.data.toList = _) (w : World) (h : PV w.heap.size w (.slice o l.length c) l) => ev13l Y _ _ _ l _ w h hY (by simp [HL.out, HL2.out]; omega) hv)
    have E2 := Lib.hid (fun (Y : ByteArray) (hY : Y.data.toList = _) (w : World) (h : PV w.heap.size w (.slice o l.length c) l) => ev13l Y _ _ _ l _ w h hY (by simp [HL.out, HL2.out]; omega) hw)
    clear hv hw
    have ht1 : tr true = 1 := rfl
    rw [ht1] at E2
    go_enter Tryd.func10, Tryd.ntmps10
    go_wp2_with fail
    refine (alive_any _).mono ?_
    rintro e w1 ⟨rfl, hB1⟩
    have HB1 := Lib.hid hB1
    clear hB1
    simp only []
    go_wp2_with fail
    refine (HRV.out _ (HP.out.below HB1.out)).mono ?_
    rintro e w2 ⟨rfl, hB2⟩
    have HB2 := Lib.hid (HB1.out.trans (hB2.mono HB1.out.size))
    clear hB2
    simp only []
    go_wp2_with fail
    refine (HRW.out _ (HP.out.below HB2.out)).mono ?_
    rintro e w3 ⟨rfl, hB3⟩
    have HB3 := Lib.hid (HB2.out.trans (hB3.mono HB2.out.size))
    clear hB3
    simp only []
    go_wp2_with fail
    refine (E1.out _ (by simp) _ (HP.out.below HB3.out)).mono ?_
    rintro e w4 ⟨rfl, hB4⟩
    have HB4 := Lib.hid (HB3.out.trans (hB4.mono HB3.out.size))
    clear hB4
    simp only []
    go_wp2_with fail
    refine (E2.out _ (by simp) _ (HP.out.below HB4.out)).mono ?_
    rintro e w5 ⟨rfl, hB5⟩
    have HB5 := Lib.hid (HB4.out.trans (hB5.mono HB4.out.size))
    clear hB5
    simp only []
    go_wp2_with fail
    refine (num_any _ _).mono ?_
    rintro e y1 ⟨rfl, h⟩
    obtain rfl := h.symm
    simp only []
    go_wp2_with fail
    refine (num_any _ _).mono ?_
    rintro e y1 ⟨rfl, h⟩
    obtain rfl := h.symm
    simp only []
    go_wp2_with fail
    go_ret
    exact ⟨rfl, HB5.out⟩
  · skip
    have E1 := Lib.hid (fun (Y : ByteArray) (hY : Y.data.toList = _) (w : World) (h : PV w.heap.size w (.slice o l.length c) l) => ev13l Y _ _ _ l _ w h hY (by simp [HL.out, HL2.out]; omega) hv)
    have E2 := Lib.hid (fun (Y : ByteArray) (hY : Y.data.toList = _) (w : World) (h : PV w.heap.size w (.slice o l.length c) l) => ev13l Y _ _ _ l _ w h hY (by simp [HL.out, HL2.out]; omega) hw)
    clear hv hw
    go_enter Tryd.func10, Tryd.ntmps10
    go_wp2_with fail
    refine (alive_any _).mono ?_
    rintro e w1 ⟨rfl, hB1⟩
    have HB1 := Lib.hid hB1
    clear hB1
    simp only []
    go_wp2_with fail
    refine (HRV.out _ (HP.out.below HB1.out)).mono ?_
    rintro e w2 ⟨rfl, hB2⟩
    have HB2 := Lib.hid (HB1.out.trans (hB2.mono HB1.out.size))
    clear hB2
    simp only []
    go_wp2_with fail
    refine (HRW.out _ (HP.out.below HB2.out)).mono ?_
    rintro e w3 ⟨rfl, hB3⟩
    have HB3 := Lib.hid (HB2.out.trans (hB3.mono HB2.out.size))
    clear hB3
    simp only []
    go_wp2_with fail
    refine (E1.out _ (by simp) _ (HP.out.below HB3.out)).mono ?_
    rintro e w4 ⟨rfl, hB4⟩
    have HB4 := Lib.hid (HB3.out.trans (hB4.mono HB3.out.size))
    clear hB4
    simp only []
    go_wp2_with fail
    refine (E2.out _ (by simp) _ (HP.out.below HB4.out)).mono ?_
    rintro e w5 ⟨rfl, hB5⟩
    have HB5 := Lib.hid (HB4.out.trans (hB5.mono HB4.out.size))
    clear hB5
    simp only []
    go_wp2_with fail
    refine (num_any _ _).mono ?_
    rintro e y1 ⟨rfl, h⟩
    obtain rfl := h.symm
    simp only []
    go_wp2_with fail
    refine (num_any _ _).mono ?_
    rintro e y1 ⟨rfl, h⟩
    obtain rfl := h.symm
    simp only []
    go_wp2_with fail
    refine (num_any _ _).mono ?_
    rintro e y1 ⟨rfl, h⟩
    obtain rfl := h.symm
    simp only []
    go_wp2_with fail
    go_ret
    exact ⟨rfl, HB5.out⟩
  · skip
    have E1 := Lib.hid (fun (Y : ByteArray) (hY : Y.data.toList = _) (w : World) (h : PV w.heap.size w (.slice o l.length c) l) => ev13l Y _ _ _ l _ w h hY (by simp [HL.out, HL2.out]; omega) hv)
    have E2 := Lib.hid (fun (Y : ByteArray) (hY : Y.data.toList = _) (w : World) (h : PV w.heap.size w (.slice o l.length c) l) => ev13l Y _ _ _ l _ w h hY (by simp [HL.out, HL2.out]; omega) hw)
    clear hv hw
    go_enter Tryd.func10, Tryd.ntmps10
    go_wp2_with fail
    refine (alive_any _).mono ?_
    rintro e w1 ⟨rfl, hB1⟩
    have HB1 := Lib.hid hB1
    clear hB1
    simp only []
    go_wp2_with fail
    refine (HRV.out _ (HP.out.below HB1.out)).mono ?_
    rintro e w2 ⟨rfl, hB2⟩
    have HB2 := Lib.hid (HB1.out.trans (hB2.mono HB1.out.size))
    clear hB2
    simp only []
    go_wp2_with fail
    refine (HRW.out _ (HP.out.below HB2.out)).mono ?_
    rintro e w3 ⟨rfl, hB3⟩
    have HB3 := Lib.hid (HB2.out.trans (hB3.mono HB2.out.size))
    clear hB3
    simp only []
    go_wp2_with fail
    refine (E1.out _ (by simp) _ (HP.out.below HB3.out)).mono ?_
    rintro e w4 ⟨rfl, hB4⟩
    have HB4 := Lib.hid (HB3.out.trans (hB4.mono HB3.out.size))
    clear hB4
    simp only []
    go_wp2_with fail
    refine (E2.out _ (by simp) _ (HP.out.below HB4.out)).mono ?_
    rintro e w5 ⟨rfl, hB5⟩
    have HB5 := Lib.hid (HB4.out.trans (hB5.mono HB4.out.size))
    clear hB5
    simp only []
    go_wp2_with fail
    refine (num_any _ _).mono ?_
    rintro e y1 ⟨rfl, h⟩
    obtain rfl := h.symm
    simp only []
    go_wp2_with fail
    refine (num_any _ _).mono ?_
    rintro e y1 ⟨rfl, h⟩
    obtain rfl := h.symm
    simp only []
    go_wp2_with fail
    refine (num_any _ _).mono ?_
    rintro e y1 ⟨rfl, h⟩
    obtain rfl := h.symm
    simp only []
    go_wp2_with fail
    go_ret
    exact ⟨rfl, HB5.out⟩
  · skip
    have E1 := Lib.hid (fun (Y : ByteArray) (hY : Y.data.toList = _) (w : World) (h : PV w.heap.size w (.slice o l.length c) l) => ev13l Y _ _ _ l _ w h hY (by simp [HL.out, HL2.out]; omega) hv)
    have E2 := Lib.hid (fun (Y : ByteArray) (hY : Y.data.toList = _) (w : World) (h : PV w.heap.size w (.slice o l.length c) l) => ev13l Y _ _ _ l _ w h hY (by simp [HL.out, HL2.out]; omega) hw)
    clear hv hw
    have ht1 : tr false = 0 := rfl
    rw [ht1] at E2
    go_enter Tryd.func10, Tryd.ntmps10
    go_wp2_with fail
    refine (alive_any _).mono ?_
    rintro e w1 ⟨rfl, hB1⟩
    have HB1 := Lib.hid hB1
    clear hB1
    simp only []
    go_wp2_with fail
    refine (HRV.out _ (HP.out.below HB1.out)).mono ?_
    rintro e w2 ⟨rfl, hB2⟩
    have HB2 := Lib.hid (HB1.out.trans (hB2.mono HB1.out.size))
    clear hB2
    simp only []
    go_wp2_with fail
    refine (HRW.out _ (HP.out.below HB2.out)).mono ?_
    rintro e w3 ⟨rfl, hB3⟩
    have HB3 := Lib.hid (HB2.out.trans (hB3.mono HB2.out.size))
    clear hB3
    simp only []
    go_wp2_with fail
    refine (E1.out _ (by simp) _ (HP.out.below HB3.out)).mono ?_
    rintro e w4 ⟨rfl, hB4⟩
    have HB4 := Lib.hid (HB3.out.trans (hB4.mono HB3.out.size))
    clear hB4
    simp only []
    go_wp2_with fail
    refine (E2.out _ (by simp) _ (HP.out.below HB4.out)).mono ?_
    rintro e w5 ⟨rfl, hB5⟩
    have HB5 := Lib.hid (HB4.out.trans (hB5.mono HB4.out.size))
    clear hB5
    simp only []
    go_wp2_with fail
    refine (num_any _ _).mono ?_
    rintro e y1 ⟨rfl, h⟩
    obtain rfl := h.symm
    simp only []
    go_wp2_with fail
    refine (num_any _ _).mono ?_
    rintro e y1 ⟨rfl, h⟩
    obtain rfl := h.symm
    simp only []
    go_wp2_with fail
    refine (num_any _ _).mono ?_
    rintro e y1 ⟨rfl, h⟩
    obtain rfl := h.symm
    simp only []
    go_wp2_with fail
    go_ret
    exact ⟨rfl, HB5.out⟩
  · skip
    have E1 := Lib.hid (fun (Y : ByteArray) (hY : Y.data.toList = _) (w : World) (h : PV w.heap.size w (.slice o l.length c) l) => ev13l Y _ _ _ l _ w h hY (by simp [HL.out, HL2.out]; omega) hv)
    have E2 := Lib.hid (fun (Y : ByteArray) (hY : Y.data.toList = _) (w : World) (h : PV w.heap.size w (.slice o l.length c) l) => ev13l Y _ _ _ l _ w h hY (by simp [HL.out, HL2.out]; omega) hw)
    clear hv hw
    have ht1 : tr true = 1 := rfl
    rw [ht1] at E2
    go_enter Tryd.func10, Tryd.ntmps10
    go_wp2_with fail
    refine (alive_any _).mono ?_
    rintro e w1 ⟨rfl, hB1⟩
    have HB1 := Lib.hid hB1
    clear hB1
    simp only []
    go_wp2_with fail
    refine (HRV.out _ (HP.out.below HB1.out)).mono ?_
    rintro e w2 ⟨rfl, hB2⟩
    have HB2 := Lib.hid (HB1.out.trans (hB2.mono HB1.out.size))
    clear hB2
    simp only []
    go_wp2_with fail
    refine (HRW.out _ (HP.out.below HB2.out)).mono ?_
    rintro e w3 ⟨rfl, hB3⟩
    have HB3 := Lib.hid (HB2.out.trans (hB3.mono HB2.out.size))
    clear hB3
    simp only []
    go_wp2_with fail
    refine (E1.out _ (by simp) _ (HP.out.below HB3.out)).mono ?_
    rintro e w4 ⟨rfl, hB4⟩
    have HB4 := Lib.hid (HB3.out.trans (hB4.mono HB3.out.size))
    clear hB4
    simp only []
    go_wp2_with fail
    refine (E2.out _ (by simp) _ (HP.out.below HB4.out)).mono ?_
    rintro e w5 ⟨rfl, hB5⟩
    have HB5 := Lib.hid (HB4.out.trans (hB5.mono HB4.out.size))
    clear hB5
    simp only []
    go_wp2_with fail
    refine (num_any _ _).mono ?_
    rintro e y1 ⟨rfl, h⟩
    obtain rfl := h.symm
    simp only []
    go_wp2_with fail
    refine (num_any _ _).mono ?_
    rintro e y1 ⟨rfl, h⟩
    obtain rfl := h.symm
    simp only []
    go_wp2_with fail
    refine (num_any _ _).mono ?_
    rintro e y1 ⟨rfl, h⟩
    obtain rfl := h.symm
    simp only []
    go_wp2_with fail
    go_ret
    exact ⟨rfl, HB5.out⟩
  · skip
    have E1 := Lib.hid (fun (Y : ByteArray) (hY : Y.data.toList = _) (w : World) (h : PV w.heap.size w (.slice o l.length c) l) => ev13l Y _ _ _ l _ w h hY (by simp [HL.out, HL2.out]; omega) hv)
    have E2 := Lib.hid (fun (Y : ByteArray) (hY : Y.data.toList = _) (w : World) (h : PV w.heap.size w (.slice o l.length c) l) => ev13l Y _ _ _ l _ w h hY (by simp [HL.out, HL2.out]; omega) hw)
    clear hv hw
    go_enter Tryd.func10, Tryd.ntmps10
    go_wp2_with fail
    refine (alive_any _).mono ?_
    rintro e w1 ⟨rfl, hB1⟩
    have HB1 := Lib.hid hB1
    clear hB1
    simp only []
    go_wp2_with fail
    refine (HRV.out _ (HP.out.below HB1.out)).mono ?_
    rintro e w2 ⟨rfl, hB2⟩
    have HB2 := Lib.hid (HB1.out.trans (hB2.mono HB1.out.size))
    clear hB2
    simp only []
    go_wp2_with fail
    refine (HRW.out _ (HP.out.below HB2.out)).mono ?_
    rintro e w3 ⟨rfl, hB3⟩
    have HB3 := Lib.hid (HB2.out.trans (hB3.mono HB2.out.size))
    clear hB3
    simp only []
    go_wp2_with fail
    refine (E1.out _ (by simp) _ (HP.out.below HB3.out)).mono ?_
    rintro e w4 ⟨rfl, hB4⟩
    have HB4 := Lib.hid (HB3.out.trans (hB4.mono HB3.out.size))
    clear hB4
    simp only []
    go_wp2_with fail
    refine (E2.out _ (by simp) _ (HP.out.below HB4.out)).mono ?_
    rintro e w5 ⟨rfl, hB5⟩
    have HB5 := Lib.hid (HB4.out.trans (hB5.mono HB4.out.size))
    clear hB5
    simp only []
    go_wp2_with fail
    refine (num_any _ _).mono ?_
    rintro e y1 ⟨rfl, h⟩
    obtain rfl := h.symm
    simp only []
    go_wp2_with fail
    refine (num_any _ _).mono ?_
    rintro e y1 ⟨rfl, h⟩
    obtain rfl := h.symm
    simp only []
    go_wp2_with fail
    refine (num_any _ _).mono ?_
    rintro e y1 ⟨rfl, h⟩
    obtain rfl := h.symm
    simp only []
    go_wp2_with fail
    refine (num_any _ _).mono ?_
    rintro e y1 ⟨rfl, h⟩
    obtain rfl := h.symm
    simp only []
    go_wp2_with fail
    go_ret
    exact ⟨rfl, HB5.out⟩
  · skip
    have E1 := Lib.hid (fun (Y : ByteArray) (hY : Y.data.toList = _) (w : World) (h : PV w.heap.size w (.slice o l.length c) l) => ev13l Y _ _ _ l _ w h hY (by simp [HL.out, HL2.out]; omega) hv)
    have E2 := Lib.hid (fun (Y : ByteArray) (hY : Y.data.toList = _) (w : World) (h : PV w.heap.size w (.slice o l.length c) l) => ev13l Y _ _ _ l _ w h hY (by simp [HL.out, HL2.out]; omega) hw)
    clear hv hw
    go_enter Tryd.func10, Tryd.ntmps10
    go_wp2_with fail
    refine (alive_any _).mono ?_
    rintro e w1 ⟨rfl, hB1⟩
    have HB1 := Lib.hid hB1
    clear hB1
    simp only []
    go_wp2_with fail
    refine (HRV.out _ (HP.out.below HB1.out)).mono ?_
    rintro e w2 ⟨rfl, hB2⟩
    have HB2 := Lib.hid (HB1.out.trans (hB2.mono HB1.out.size))
    clear hB2
    simp only []
    go_wp2_with fail
    refine (HRW.out _ (HP.out.below HB2.out)).mono ?_
    rintro e w3 ⟨rfl, hB3⟩
    have HB3 := Lib.hid (HB2.out.trans (hB3.mono HB2.out.size))
    clear hB3
    simp only []
    go_wp2_with fail
    refine (E1.out _ (by simp) _ (HP.out.below HB3.out)).mono ?_
    rintro e w4 ⟨rfl, hB4⟩
    have HB4 := Lib.hid (HB3.out.trans (hB4.mono HB3.out.size))
    clear hB4
    simp only []
    go_wp2_with fail
    refine (E2.out _ (by simp) _ (HP.out.below HB4.out)).mono ?_
    rintro e w5 ⟨rfl, hB5⟩
    have HB5 := Lib.hid (HB4.out.trans (hB5.mono HB4.out.size))
    clear hB5
    simp only []
    go_wp2_with fail
    refine (num_any _ _).mono ?_
    rintro e y1 ⟨rfl, h⟩
    obtain rfl := h.symm
    simp only []
    go_wp2_with fail
    refine (num_any _ _).mono ?_
    rintro e y1 ⟨rfl, h⟩
    obtain rfl := h.symm
    simp only []
    go_wp2_with fail
    refine (num_any _ _).mono ?_
    rintro e y1 ⟨rfl, h⟩
    obtain rfl := h.symm
    simp only []
    go_wp2_with fail
    refine (num_any _ _).mono ?_
    rintro e y1 ⟨rfl, h⟩
    obtain rfl := h.symm
    simp only []
    go_wp2_with fail
    go_ret
    exact ⟨rfl, HB5.out⟩
end Go.Proofs.YthgddbdkdloobaaDoor
