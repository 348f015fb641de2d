import Derived.Test.YthgddbdkdloobaaDoorQA
namespace Go.Proofs.YthgddbdkdloobaaDoor
open Go.RowKit
set_option linter.unusedVariables false

section
variable {V : Bs → Option Int}
theorem par_step (R : Bs) (z : Bool) (d : Nat) : E false V .pre (40 :: R) z d = if d = 40 then .error 3 else
    match E false V (.bin 1) R z (d + 1) with
    | .error e => .error e
    | .ok (v, r', z) => if opL (skp r') = [41] then .ok (v, (skp r').drop 1, z) else .error 2 := by
  have h1' : skp (40 :: R) = 40 :: R := rfl
  have h2' : opL (40 :: R) = [40] := by
    unfold opL
    rw [if_neg (by rw [two_first (by decide)]; simp)]
    rfl
  have h3 : digL (40 :: R) = 0 := by unfold digL; rw [List.takeWhile_cons, if_neg (by decide)]; rfl
  have h4 : nmL (40 :: R) = 0 := by
    have hl : isLet 40 = false := by decide
    simp [nmL, hl]
  rw [E_pre, h1', h2', if_neg (by decide), E_opd, h3, h4, if_neg (by omega), if_neg (by omega), if_pos (List.headD_cons ..), List.drop_succ_cons, List.drop_zero]
  rfl
theorem sums_par {s t op : Bs} {n m : Int} (hs : evalL false s V = (n, 0)) (ht : evalL false t V = (m, 0)) (hop : op ∈ opsL) (hz : (ap op n m).2 = false) (hl : s.length + t.length ≤ 2000) :
    (evalL false (40 :: 40 :: (s ++ 41 :: (op ++ 40 :: (t ++ [41, 41])))) V = ((ap op n m).1, 0) ∨ evalL false (40 :: 40 :: (s ++ 41 :: (op ++ 40 :: (t ++ [41, 41])))) V = (0, 3)) := by
  have hlo := op_len hop
  have hp := par_step (V := V) (40 :: (s ++ 41 :: (op ++ 40 :: (t ++ [41, 41])))) false 0
  rw [if_neg (by omega)] at hp
  rcases two_any hs ht hop [41] (.inr ⟨[], rfl⟩) false 1 (by omega) with h | h
  · have h2 : E false V (.bin 1) (40 :: 40 :: (s ++ 41 :: (op ++ 40 :: (t ++ [41, 41])))) false 0 = .ok ((ap op n m).1, [], false) := by
      rw [E_bin (Nat.le_refl 1), hp, h, hz]
      simp only [show skp [41] = [41] from rfl, opL_close, if_true]
      exact E_loop_end (Nat.le_refl 1) (.inl rfl)
    exact .inl (by rw [evalL_ok (by simp; omega) h2]; rfl)
  · have h2 : E false V (.bin 1) (40 :: 40 :: (s ++ 41 :: (op ++ 40 :: (t ++ [41, 41])))) false 0 = .error 3 := by
      rw [E_bin (Nat.le_refl 1), hp, h]
    exact .inr (evalL_bad (by simp; omega) h2)
end
set_option maxRecDepth 100000 in
set_option maxHeartbeats 4000000 in
theorem whole_walk (s : ByteArray) (hs : s.size ≤ maxLen) (pv : Value) (l : Prs) (W : World) (hP : PV W.heap.size W pv l) :
    Calls Tryd.prog 9 #[.string s, pv] W fun e W' => e = .returned (.bool true) ∧ Below W.heap.size W W' := by
  have hs2 := size_max hs
  obtain ⟨o, c, rfl⟩ := hP.form
  have HP := Lib.hid hP
  have hll : (l.length : Int) ≤ 9223372036854775807 := by have := hP.len; omega
  obtain ⟨X, hX⟩ : ∃ X, evalL false s.data.toList (Vl l) = X := ⟨_, rfl⟩
  have HRV := Lib.hid (fun (w : World) (h : PV w.heap.size w (.slice o l.length c) l) => RefEval_any s l _ w hs2 h)
  rw [evalL_lim, hX] at HRV
  obtain ⟨x1, x2⟩ := X
  have hl := dlen s
  have HL := Lib.hid hl
  have HX := Lib.hid hX
  clear hP hs hl hX
  by_cases c0 : (500 : Int) < (s.size : Int)
  case pos =>
    go_enter Tryd.func9, Tryd.ntmps9
    go_wp2_with fail
    refine (alive_any _).mono ?_
    rintro e w1 ⟨rfl, hB1⟩
    have HB1 := Lib.hid hB1
    clear hB1
    simp only []
    go_wp2_with fail
    refine (HRV.out _ (HP.out.below HB1.out)).mono ?_
    rintro e w2 ⟨rfl, hB2⟩
    have HB2 := Lib.hid (HB1.out.trans (hB2.mono HB1.out.size))
    clear hB2
    simp only []
    go_wp2_with fail
    go_ret
    exact ⟨rfl, HB2.out⟩
  by_cases c1 : (20 : Int) < (l.length : Int)
  case pos =>
    go_enter Tryd.func9, Tryd.ntmps9
    go_wp2_with fail
    refine (alive_any _).mono ?_
    rintro e w1 ⟨rfl, hB1⟩
    have HB1 := Lib.hid hB1
    clear hB1
    simp only []
    go_wp2_with fail
    refine (HRV.out _ (HP.out.below HB1.out)).mono ?_
    rintro e w2 ⟨rfl, hB2⟩
    have HB2 := Lib.hid (HB1.out.trans (hB2.mono HB1.out.size))
    clear hB2
    simp only []
    go_wp2_with fail
    go_ret
    exact ⟨rfl, HB2.out⟩
  have c0' : (s.size : Int) ≤ 500 := by omega
  have c1' : (l.length : Int) ≤ 20 := by omega
  have hv : evalL false (32 :: (s.data.toList ++ [10])) (Vl l) = (x1, x2) := by rw [whole_val (by rw [HL.out]; omega)]; exact HX.out
  have E1 := Lib.hid (fun (Y : ByteArray) (hY : Y.data.toList = 32 :: (s.data.toList ++ [10])) (w : World) (h : PV w.heap.size w (.slice o l.length c) l) => ev13l Y _ _ _ l _ w h hY (by simp [HL.out]; omega) hv)
  clear hv
  have hcase : (x2 ≠ 0 ∧ ∃ u1 u2, evalL false (40 :: (s.data.toList ++ [41])) (Vl l) = (u1, u2)) ∨ (x2 = 0 ∧ evalL false (40 :: (s.data.toList ++ [41])) (Vl l) = (x1, 0)) ∨ (x2 = 0 ∧ evalL false (40 :: (s.data.toList ++ [41])) (Vl l) = (0, 3)) := by
    by_cases h0 : x2 = 0
    · have := HX.out
      rw [h0] at this
      rcases par_val this (by rw [HL.out]; omega) with h | h
      · exact .inr (.inl ⟨h0, h⟩)
      · exact .inr (.inr ⟨h0, h⟩)
    · exact .inl ⟨h0, _, _, rfl⟩
  rcases hcase with ⟨h0, u1, u2, hv⟩ | ⟨rfl, hv⟩ | ⟨rfl, hv⟩
  · have b1 : ((x2 : Int) != 0) = true := by rw [bne_iff_ne]; omega
    have b2 : ((x2 : Int) == 0) = false := by rw [beq_eq_false_iff_ne]; omega
    clear h0
    have E2 := Lib.hid (fun (Y : ByteArray) (hY : Y.data.toList = 40 :: (s.data.toList ++ [41])) (w : World) (h : PV w.heap.size w (.slice o l.length c) l) => ev13l Y _ _ _ l _ w h hY (by simp [HL.out]; omega) hv)
    clear hv
    go_enter Tryd.func9, Tryd.ntmps9
    go_wp2_with fail
    refine (alive_any _).mono ?_
    rintro e w1 ⟨rfl, hB1⟩
    have HB1 := Lib.hid hB1
    clear hB1
    simp only []
    go_wp2_with fail
    refine (HRV.out _ (HP.out.below HB1.out)).mono ?_
    rintro e w2 ⟨rfl, hB2⟩
    have HB2 := Lib.hid (HB1.out.trans (hB2.mono HB1.out.size))
    clear hB2
    simp only []
    go_wp2_with fail
    refine (E1.out _ (by simp) _ (HP.out.below HB2.out)).mono ?_
    rintro e w3 ⟨rfl, hB3⟩
    have HB3 := Lib.hid (HB2.out.trans (hB3.mono HB2.out.size))
    clear hB3
    simp only []
    go_wp2_with fail
    refine (E2.out _ (by simp) _ (HP.out.below HB3.out)).mono ?_
    rintro e w4 ⟨rfl, hB4⟩
    have HB4 := Lib.hid (HB3.out.trans (hB4.mono HB3.out.size))
    clear hB4
    simp only []
    go_wp2_with fail
    refine (num_any _ _).mono ?_
    rintro e y1 ⟨rfl, h⟩
    obtain rfl := h.symm
    simp only []
    go_wp2_with fail
    go_ret
    exact ⟨rfl, HB4.out⟩
  · skip
    have E2 := Lib.hid (fun (Y : ByteArray) (hY : Y.data.toList = 40 :: (s.data.toList ++ [41])) (w : World) (h : PV w.heap.size w (.slice o l.length c) l) => ev13l Y _ _ _ l _ w h hY (by simp [HL.out]; omega) hv)
    clear hv
    go_enter Tryd.func9, Tryd.ntmps9
    go_wp2_with fail
    refine (alive_any _).mono ?_
    rintro e w1 ⟨rfl, hB1⟩
    have HB1 := Lib.hid hB1
    clear hB1
    simp only []
    go_wp2_with fail
    refine (HRV.out _ (HP.out.below HB1.out)).mono ?_
    rintro e w2 ⟨rfl, hB2⟩
    have HB2 := Lib.hid (HB1.out.trans (hB2.mono HB1.out.size))
    clear hB2
    simp only []
    go_wp2_with fail
    refine (E1.out _ (by simp) _ (HP.out.below HB2.out)).mono ?_
    rintro e w3 ⟨rfl, hB3⟩
    have HB3 := Lib.hid (HB2.out.trans (hB3.mono HB2.out.size))
    clear hB3
    simp only []
    go_wp2_with fail
    refine (E2.out _ (by simp) _ (HP.out.below HB3.out)).mono ?_
    rintro e w4 ⟨rfl, hB4⟩
    have HB4 := Lib.hid (HB3.out.trans (hB4.mono HB3.out.size))
    clear hB4
    simp only []
    go_wp2_with fail
    refine (num_any _ _).mono ?_
    rintro e y1 ⟨rfl, h⟩
    obtain rfl := h.symm
    simp only []
    go_wp2_with fail
    refine (num_any _ _).mono ?_
    rintro e y1 ⟨rfl, h⟩
    obtain rfl := h.symm
    simp only []
    go_wp2_with fail
    go_ret
    exact ⟨rfl, HB4.out⟩
  · skip
    have E2 := Lib.hid (fun (Y : ByteArray) (hY : Y.data.toList = 40 :: (s.data.toList ++ [41])) (w : World) (h : PV w.heap.size w (.slice o l.length c) l) => ev13l Y _ _ _ l _ w h hY (by simp [HL.out]; omega) hv)
    clear hv
    go_enter Tryd.func9, Tryd.ntmps9
    go_wp2_with fail
    refine (alive_any _).mono ?_
    rintro e w1 ⟨rfl, hB1⟩
    have HB1 := Lib.hid hB1
    clear hB1
    simp only []
    go_wp2_with fail
    refine (HRV.out _ (HP.out.below HB1.out)).mono ?_
    rintro e w2 ⟨rfl, hB2⟩
    have HB2 := Lib.hid (HB1.out.trans (hB2.mono HB1.out.size))
    clear hB2
    simp only []
    go_wp2_with fail
    refine (E1.out _ (by simp) _ (HP.out.below HB2.out)).mono ?_
    rintro e w3 ⟨rfl, hB3⟩
    have HB3 := Lib.hid (HB2.out.trans (hB3.mono HB2.out.size))
    clear hB3
    simp only []
    go_wp2_with fail
    refine (E2.out _ (by simp) _ (HP.out.below HB3.out)).mono ?_
    rintro e w4 ⟨rfl, hB4⟩
    have HB4 := Lib.hid (HB3.out.trans (hB4.mono HB3.out.size))
    clear hB4
    simp only []
    go_wp2_with fail
    refine (num_any _ _).mono ?_
    rintro e y1 ⟨rfl, h⟩
    obtain rfl := h.symm
    simp only []
    go_wp2_with fail
    refine (num_any _ _).mono ?_
    rintro e y1 ⟨rfl, h⟩
    obtain rfl := h.symm
    simp only []
    go_wp2_with fail
    refine (num_any _ _).mono ?_
    rintro e y1 ⟨rfl, h⟩
    obtain rfl := h.symm
    simp only []
    go_wp2_with fail
    go_ret
    exact ⟨rfl, HB4.out⟩
end Go.Proofs.YthgddbdkdloobaaDoor
