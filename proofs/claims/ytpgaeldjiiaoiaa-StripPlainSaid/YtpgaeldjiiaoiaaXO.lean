import Derived.Test.YtpgaeldjiiaoiaaXN
namespace Go.Proofs.Ytpgaeldjiiaoiaa
open Go.RowKit
set_option linter.unusedVariables false

theorem Ends_true (s x : ByteArray) (w : World) (hs : s.size ≤ 100000) (h1 : x.size ≤ s.size) (h2 : s.extract (s.size - x.size) s.size = x) :
    Calls Try.prog 11 #[.string s, .string x] w fun e w' => e = .returned (.bool true) ∧ w' = w := by
  obtain ⟨k, hk⟩ : ∃ k, s.size - x.size = k := ⟨_, rfl⟩
  rw [hk] at h2
  have e0 : (x.size : Int) ≤ (s.size : Int) := by omega
  have e1 : IntKind.i64.wrap ((s.size : Int) - (x.size : Int)) = (k : Int) := by rw [IntKind.wrap_i64]; omega
  have e2 : (s.size : Int) - (x.size : Int) = (k : Int) := by omega
  have e3 : (k : Int) ≤ (s.size : Int) := by omega
  have e4 : (0 : Int) ≤ (k : Int) := by omega
  clear hk
  go_enter Try.func11, Try.ntmps11
  go_wp2_with fail
  go_ret
  exact ⟨rfl, rfl⟩
theorem Begins_true (s x : ByteArray) (w : World) (hs : s.size ≤ 100000) (h1 : x.size ≤ s.size) (h2 : s.extract 0 x.size = x) :
    Calls Try.prog 12 #[.string s, .string x] w fun e w' => e = .returned (.bool true) ∧ w' = w := by
  have e0 : (x.size : Int) ≤ (s.size : Int) := by omega
  go_enter Try.func12, Try.ntmps12
  go_wp2_with fail
  go_ret
  exact ⟨rfl, rfl⟩
theorem front_all {s p : ByteArray} {most : Bool} (h : (frontS s p most).toList ≠ s.toList) : offK s (pat p) most ≠ 0 := fun e => h (by unfold frontS; rw [e, extract_all])
theorem back_all {s p : ByteArray} {most : Bool} (h : (backS s p most).toList ≠ s.toList) : offK (revB s) (pat p).reverse most ≠ 0 := fun e => h (by unfold backS; rw [e, Nat.sub_zero, extract_all])
theorem front_size (s p : ByteArray) (most : Bool) : (frontS s p most).size = s.size - offK s (pat p) most := by
  unfold frontS; rw [ByteArray.size_extract]; omega
theorem back_size (s p : ByteArray) (most : Bool) : (backS s p most).size = s.size - offK (revB s) (pat p).reverse most := by
  have := offK_le (revB s) (pat p).reverse most
  rw [revB_size] at this
  unfold backS; rw [ByteArray.size_extract]; omega
/-- What the law asks of a front. -/
theorem front_facts (s p : ByteArray) (most : Bool) (hs : s.size ≤ 100000) (hp : p.size ≤ 100000) :
    (∀ w, Calls Try.prog 11 #[.string s, .string (frontS s p most)] w fun e w' => e = .returned (.bool true) ∧ w' = w) ∧
    (((frontS s p most).toList == s.toList) = false → ∀ w, Calls Try.prog 13 #[.string p, .string (s.extract 0 (offK s (pat p) most))] w fun e w' => e = .returned (.bool true) ∧ Below w.heap.size w w') := by
  have hle := offK_le s (pat p) most
  have hz := front_size s p most
  refine ⟨fun w => Ends_true s _ w hs (by omega) (by rw [hz, show s.size - (s.size - offK s (pat p) most) = offK s (pat p) most by omega]; rfl), fun h w => ?_⟩
  have hm := front_match s p most (front_all (by simpa using h))
  have := Match_b p (s.extract 0 (offK s (pat p) most)) w hp (by rw [ByteArray.size_extract]; omega)
  rwa [hm] at this
theorem back_facts (s p : ByteArray) (most : Bool) (hs : s.size ≤ 100000) (hp : p.size ≤ 100000) :
    (∀ w, Calls Try.prog 12 #[.string s, .string (backS s p most)] w fun e w' => e = .returned (.bool true) ∧ w' = w) ∧
    (((backS s p most).toList == s.toList) = false → ∀ w, Calls Try.prog 13 #[.string p, .string (s.extract (backS s p most).size s.size)] w fun e w' => e = .returned (.bool true) ∧ Below w.heap.size w w') := by
  have hz := back_size s p most
  refine ⟨fun w => Begins_true s _ w hs (by omega) (by rw [hz]; rfl), fun h w => ?_⟩
  have hm := back_match s p most (back_all (by simpa using h))
  have := Match_b p (s.extract (backS s p most).size s.size) w hp (by rw [ByteArray.size_extract]; omega)
  rw [hz] at this ⊢
  rwa [hm] at this
set_option maxRecDepth 100000 in
set_option maxHeartbeats 8000000 in
theorem ends_walk (s p : ByteArray) (hs0 : s.size ≤ maxLen) (hp0 : p.size ≤ maxLen) (W : World) :
    Calls Try.prog 4 #[.string s, .string p] W fun e W' => e = .returned (.bool true) ∧ Below W.heap.size W W' := by
  by_cases c0 : (60 : Int) < (s.size : Int)
  case pos =>
    go_enter Try.func4, Try.ntmps4
    go_wp2_with fail
    refine (alive_any _).mono ?_
    rintro e w1 ⟨rfl, hB1⟩
    have HB1 := Lib.hid hB1
    clear hB1
    simp only []
    go_wp2_with fail
    go_ret
    exact ⟨rfl, HB1.out⟩
  by_cases c1 : (40 : Int) < (p.size : Int)
  case pos =>
    go_enter Try.func4, Try.ntmps4
    go_wp2_with fail
    refine (alive_any _).mono ?_
    rintro e w1 ⟨rfl, hB1⟩
    have HB1 := Lib.hid hB1
    clear hB1
    simp only []
    go_wp2_with fail
    go_ret
    exact ⟨rfl, HB1.out⟩
  have hs : s.size ≤ 100000 := by omega
  have hp : p.size ≤ 100000 := by omega
  have F1 := Lib.hid (fun most w => Front_any s p most w hp hs)
  have G1 := Lib.hid (fun most w => Back_any s p most w hp hs)
  obtain ⟨fa1, fa2⟩ := front_facts s p false hs hp
  have za := front_size s p false
  have la := offK_le s (pat p) false
  obtain ⟨fb1, fb2⟩ := front_facts s p true hs hp
  have zb := front_size s p true
  have lb := offK_le s (pat p) true
  obtain ⟨fc1, fc2⟩ := back_facts s p false hs hp
  have zc := back_size s p false
  obtain ⟨fd1, fd2⟩ := back_facts s p true hs hp
  have zd := back_size s p true
  have m1 := off_mono s (pat p)
  have m2 := off_mono (revB s) (pat p).reverse
  have eX : ∀ m, s.extract (offK s (pat p) m) s.size = frontS s p m := fun m => rfl
  have eY : ∀ m, s.extract 0 (s.size - offK (revB s) (pat p).reverse m) = backS s p m := fun m => rfl
  simp only [eX] at F1
  simp only [eY] at G1
  have A1 := Lib.hid (F1.out false)
  have A2 := Lib.hid (F1.out true)
  have A3 := Lib.hid (G1.out false)
  have A4 := Lib.hid (G1.out true)
  obtain ⟨A, hA⟩ : ∃ A, frontS s p false = A := ⟨_, rfl⟩
  obtain ⟨B, hB⟩ : ∃ B, frontS s p true = B := ⟨_, rfl⟩
  obtain ⟨C, hC⟩ : ∃ C, backS s p false = C := ⟨_, rfl⟩
  obtain ⟨D, hD⟩ : ∃ D, backS s p true = D := ⟨_, rfl⟩
  obtain ⟨ka, hka⟩ : ∃ k, offK s (pat p) false = k := ⟨_, rfl⟩
  obtain ⟨kb, hkb⟩ : ∃ k, offK s (pat p) true = k := ⟨_, rfl⟩
  rw [hA] at fa1 fa2 za A1
  rw [hB] at fb1 fb2 zb A2
  rw [hC] at fc1 fc2 zc A3
  rw [hD] at fd1 fd2 zd A4
  rw [hka] at fa2 za la m1
  rw [hkb] at fb2 zb lb m1
  have c0' : (s.size : Int) ≤ 60 := by omega
  have c1' : (p.size : Int) ≤ 40 := by omega
  have s1 : ¬ (A.size : Int) < (B.size : Int) := by omega
  have s2 : ¬ (C.size : Int) < (D.size : Int) := by omega
  have s1' : decide ((A.size : Int) < (B.size : Int)) = false := decide_eq_false s1
  have s2' : decide ((C.size : Int) < (D.size : Int)) = false := decide_eq_false s2
  have w1' : IntKind.i64.wrap ((s.size : Int) - (A.size : Int)) = (ka : Int) := by rw [IntKind.wrap_i64]; omega
  have w2' : IntKind.i64.wrap ((s.size : Int) - (B.size : Int)) = (kb : Int) := by rw [IntKind.wrap_i64]; omega
  have w3' : (s.size : Int) - (A.size : Int) = (ka : Int) := by omega
  have w4' : (s.size : Int) - (B.size : Int) = (kb : Int) := by omega
  have k1 : (ka : Int) ≤ (s.size : Int) := by omega
  have k2 : (kb : Int) ≤ (s.size : Int) := by omega
  have k3 : (0 : Int) ≤ (ka : Int) := by omega
  have k4 : (0 : Int) ≤ (kb : Int) := by omega
  have k5 : (C.size : Int) ≤ (s.size : Int) := by omega
  have k6 : (D.size : Int) ≤ (s.size : Int) := by omega
  have Fa := Lib.hid fa1
  have Fb := Lib.hid fb1
  have Fc := Lib.hid fc1
  have Fd := Lib.hid fd1
  obtain ⟨ea, hea⟩ : ∃ b, (A.toList == s.toList) = b := ⟨_, rfl⟩
  obtain ⟨eb, heb⟩ : ∃ b, (B.toList == s.toList) = b := ⟨_, rfl⟩
  obtain ⟨ec, hec⟩ : ∃ b, (C.toList == s.toList) = b := ⟨_, rfl⟩
  obtain ⟨ed, hed⟩ : ∃ b, (D.toList == s.toList) = b := ⟨_, rfl⟩
  rw [hea] at fa2
  rw [heb] at fb2
  rw [hec] at fc2
  rw [hed] at fd2
  have Ma := Lib.hid fa2
  have Mb := Lib.hid fb2
  have Mc := Lib.hid fc2
  have Md := Lib.hid fd2
  clear fa1 fa2 fb1 fb2 fc1 fc2 fd1 fd2 za zb zc zd la lb m1 m2 eX eY hA hB hC hD hka hkb F1 G1 hs hp hs0 hp0
  go_enter Try.func4, Try.ntmps4
  go_wp2_with fail
  refine (alive_any _).mono ?_
  rintro e w1 ⟨rfl, hB1⟩
  have HB1 := Lib.hid hB1
  clear hB1
  simp only []
  go_wp2_with fail
  refine (A1.out _).mono ?_
  rintro e w2 ⟨rfl, hB2⟩
  have HB2 := Lib.hid (HB1.out.trans (hB2.mono HB1.out.size))
  clear hB2
  simp only []
  go_wp2_with fail
  refine (A2.out _).mono ?_
  rintro e w3 ⟨rfl, hB3⟩
  have HB3 := Lib.hid (HB2.out.trans (hB3.mono HB2.out.size))
  clear hB3
  simp only []
  go_wp2_with fail
  refine (A3.out _).mono ?_
  rintro e w4 ⟨rfl, hB4⟩
  have HB4 := Lib.hid (HB3.out.trans (hB4.mono HB3.out.size))
  clear hB4
  simp only []
  go_wp2_with fail
  refine (A4.out _).mono ?_
  rintro e w5 ⟨rfl, hB5⟩
  have HB5 := Lib.hid (HB4.out.trans (hB5.mono HB4.out.size))
  clear hB5
  simp only []
  go_wp2_with fail
  refine (Fa.out _).mono ?_
  rintro e x1 ⟨rfl, h⟩
  obtain rfl := h.symm
  simp only []
  go_wp2_with fail
  refine (Fb.out _).mono ?_
  rintro e x1 ⟨rfl, h⟩
  obtain rfl := h.symm
  simp only []
  go_wp2_with fail
  refine (Fc.out _).mono ?_
  rintro e x1 ⟨rfl, h⟩
  obtain rfl := h.symm
  simp only []
  go_wp2_with fail
  refine (Fd.out _).mono ?_
  rintro e x1 ⟨rfl, h⟩
  obtain rfl := h.symm
  simp only []
  cases ea <;> cases eb <;> cases ec <;> cases ed
  · go_wp2_with fail
    refine (Ma.out (by simp) _).mono ?_
    rintro e w6 ⟨rfl, hB6⟩
    have HB6 := Lib.hid (HB5.out.trans (hB6.mono HB5.out.size))
    clear hB6
    simp only []
    go_wp2_with fail
    refine (Mb.out (by simp) _).mono ?_
    rintro e w7 ⟨rfl, hB7⟩
    have HB7 := Lib.hid (HB6.out.trans (hB7.mono HB6.out.size))
    clear hB7
    simp only []
    go_wp2_with fail
    refine (Mc.out (by simp) _).mono ?_
    rintro e w8 ⟨rfl, hB8⟩
    have HB8 := Lib.hid (HB7.out.trans (hB8.mono HB7.out.size))
    clear hB8
    simp only []
    go_wp2_with fail
    refine (Md.out (by simp) _).mono ?_
    rintro e w9 ⟨rfl, hB9⟩
    have HB9 := Lib.hid (HB8.out.trans (hB9.mono HB8.out.size))
    clear hB9
    simp only []
    go_wp2_with fail
    go_ret
    exact ⟨rfl, HB9.out⟩
  · go_wp2_with fail
    refine (Ma.out (by simp) _).mono ?_
    rintro e w6 ⟨rfl, hB6⟩
    have HB6 := Lib.hid (HB5.out.trans (hB6.mono HB5.out.size))
    clear hB6
    simp only []
    go_wp2_with fail
    refine (Mb.out (by simp) _).mono ?_
    rintro e w7 ⟨rfl, hB7⟩
    have HB7 := Lib.hid (HB6.out.trans (hB7.mono HB6.out.size))
    clear hB7
    simp only []
    go_wp2_with fail
    refine (Mc.out (by simp) _).mono ?_
    rintro e w8 ⟨rfl, hB8⟩
    have HB8 := Lib.hid (HB7.out.trans (hB8.mono HB7.out.size))
    clear hB8
    simp only []
    go_wp2_with fail
    go_ret
    exact ⟨rfl, HB8.out⟩
  · go_wp2_with fail
    refine (Ma.out (by simp) _).mono ?_
    rintro e w6 ⟨rfl, hB6⟩
    have HB6 := Lib.hid (HB5.out.trans (hB6.mono HB5.out.size))
    clear hB6
    simp only []
    go_wp2_with fail
    refine (Mb.out (by simp) _).mono ?_
    rintro e w7 ⟨rfl, hB7⟩
    have HB7 := Lib.hid (HB6.out.trans (hB7.mono HB6.out.size))
    clear hB7
    simp only []
    go_wp2_with fail
    refine (Md.out (by simp) _).mono ?_
    rintro e w8 ⟨rfl, hB8⟩
    have HB8 := Lib.hid (HB7.out.trans (hB8.mono HB7.out.size))
    clear hB8
    simp only []
    go_wp2_with fail
    go_ret
    exact ⟨rfl, HB8.out⟩
  · go_wp2_with fail
    refine (Ma.out (by simp) _).mono ?_
    rintro e w6 ⟨rfl, hB6⟩
    have HB6 := Lib.hid (HB5.out.trans (hB6.mono HB5.out.size))
    clear hB6
    simp only []
    go_wp2_with fail
    refine (Mb.out (by simp) _).mono ?_
    rintro e w7 ⟨rfl, hB7⟩
    have HB7 := Lib.hid (HB6.out.trans (hB7.mono HB6.out.size))
    clear hB7
    simp only []
    go_wp2_with fail
    go_ret
    exact ⟨rfl, HB7.out⟩
  · go_wp2_with fail
    refine (Ma.out (by simp) _).mono ?_
    rintro e w6 ⟨rfl, hB6⟩
    have HB6 := Lib.hid (HB5.out.trans (hB6.mono HB5.out.size))
    clear hB6
    simp only []
    go_wp2_with fail
    refine (Mc.out (by simp) _).mono ?_
    rintro e w7 ⟨rfl, hB7⟩
    have HB7 := Lib.hid (HB6.out.trans (hB7.mono HB6.out.size))
    clear hB7
    simp only []
    go_wp2_with fail
    refine (Md.out (by simp) _).mono ?_
    rintro e w8 ⟨rfl, hB8⟩
    have HB8 := Lib.hid (HB7.out.trans (hB8.mono HB7.out.size))
    clear hB8
    simp only []
    go_wp2_with fail
    go_ret
    exact ⟨rfl, HB8.out⟩
  · go_wp2_with fail
    refine (Ma.out (by simp) _).mono ?_
    rintro e w6 ⟨rfl, hB6⟩
    have HB6 := Lib.hid (HB5.out.trans (hB6.mono HB5.out.size))
    clear hB6
    simp only []
    go_wp2_with fail
    refine (Mc.out (by simp) _).mono ?_
    rintro e w7 ⟨rfl, hB7⟩
    have HB7 := Lib.hid (HB6.out.trans (hB7.mono HB6.out.size))
    clear hB7
    simp only []
    go_wp2_with fail
    go_ret
    exact ⟨rfl, HB7.out⟩
  · go_wp2_with fail
    refine (Ma.out (by simp) _).mono ?_
    rintro e w6 ⟨rfl, hB6⟩
    have HB6 := Lib.hid (HB5.out.trans (hB6.mono HB5.out.size))
    clear hB6
    simp only []
    go_wp2_with fail
    refine (Md.out (by simp) _).mono ?_
    rintro e w7 ⟨rfl, hB7⟩
    have HB7 := Lib.hid (HB6.out.trans (hB7.mono HB6.out.size))
    clear hB7
    simp only []
    go_wp2_with fail
    go_ret
    exact ⟨rfl, HB7.out⟩
  · go_wp2_with fail
    refine (Ma.out (by simp) _).mono ?_
    rintro e w6 ⟨rfl, hB6⟩
    have HB6 := Lib.hid (HB5.out.trans (hB6.mono HB5.out.size))
    clear hB6
    simp only []
    go_wp2_with fail
    go_ret
    exact ⟨rfl, HB6.out⟩
  · go_wp2_with fail
    refine (Mb.out (by simp) _).mono ?_
    rintro e w6 ⟨rfl, hB6⟩
    have HB6 := Lib.hid (HB5.out.trans (hB6.mono HB5.out.size))
    clear hB6
    simp only []
    go_wp2_with fail
    refine (Mc.out (by simp) _).mono ?_
    rintro e w7 ⟨rfl, hB7⟩
    have HB7 := Lib.hid (HB6.out.trans (hB7.mono HB6.out.size))
    clear hB7
    simp only []
    go_wp2_with fail
    refine (Md.out (by simp) _).mono ?_
    rintro e w8 ⟨rfl, hB8⟩
    have HB8 := Lib.hid (HB7.out.trans (hB8.mono HB7.out.size))
    clear hB8
    simp only []
    go_wp2_with fail
    go_ret
    exact ⟨rfl, HB8.out⟩
  · go_wp2_with fail
    refine (Mb.out (by simp) _).mono ?_
    rintro e w6 ⟨rfl, hB6⟩
    have HB6 := Lib.hid (HB5.out.trans (hB6.mono HB5.out.size))
    clear hB6
    simp only []
    go_wp2_with fail
    refine (Mc.out (by simp) _).mono ?_
    rintro e w7 ⟨rfl, hB7⟩
    have HB7 := Lib.hid (HB6.out.trans (hB7.mono HB6.out.size))
    clear hB7
    simp only []
    go_wp2_with fail
    go_ret
    exact ⟨rfl, HB7.out⟩
  · go_wp2_with fail
    refine (Mb.out (by simp) _).mono ?_
    rintro e w6 ⟨rfl, hB6⟩
    have HB6 := Lib.hid (HB5.out.trans (hB6.mono HB5.out.size))
    clear hB6
    simp only []
    go_wp2_with fail
    refine (Md.out (by simp) _).mono ?_
    rintro e w7 ⟨rfl, hB7⟩
    have HB7 := Lib.hid (HB6.out.trans (hB7.mono HB6.out.size))
    clear hB7
    simp only []
    go_wp2_with fail
    go_ret
    exact ⟨rfl, HB7.out⟩
  · go_wp2_with fail
    refine (Mb.out (by simp) _).mono ?_
    rintro e w6 ⟨rfl, hB6⟩
    have HB6 := Lib.hid (HB5.out.trans (hB6.mono HB5.out.size))
    clear hB6
    simp only []
    go_wp2_with fail
    go_ret
    exact ⟨rfl, HB6.out⟩
  · go_wp2_with fail
    refine (Mc.out (by simp) _).mono ?_
    rintro e w6 ⟨rfl, hB6⟩
    have HB6 := Lib.hid (HB5.out.trans (hB6.mono HB5.out.size))
    clear hB6
    simp only []
    go_wp2_with fail
    refine (Md.out (by simp) _).mono ?_
    rintro e w7 ⟨rfl, hB7⟩
    have HB7 := Lib.hid (HB6.out.trans (hB7.mono HB6.out.size))
    clear hB7
    simp only []
    go_wp2_with fail
    go_ret
    exact ⟨rfl, HB7.out⟩
  · go_wp2_with fail
    refine (Mc.out (by simp) _).mono ?_
    rintro e w6 ⟨rfl, hB6⟩
    have HB6 := Lib.hid (HB5.out.trans (hB6.mono HB5.out.size))
    clear hB6
    simp only []
    go_wp2_with fail
    go_ret
    exact ⟨rfl, HB6.out⟩
  · go_wp2_with fail
    refine (Md.out (by simp) _).mono ?_
    rintro e w6 ⟨rfl, hB6⟩
    have HB6 := Lib.hid (HB5.out.trans (hB6.mono HB5.out.size))
    clear hB6
    simp only []
    go_wp2_with fail
    go_ret
    exact ⟨rfl, HB6.out⟩
  · go_wp2_with fail
    go_ret
    exact ⟨rfl, HB5.out⟩
end Go.Proofs.Ytpgaeldjiiaoiaa
