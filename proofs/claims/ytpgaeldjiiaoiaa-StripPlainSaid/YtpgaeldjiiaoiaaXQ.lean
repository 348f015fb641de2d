import Derived.Test.YtpgaeldjiiaoiaaXP
namespace Go.Proofs.Ytpgaeldjiiaoiaa
open Go.RowKit
set_option linter.unusedVariables false

theorem Begins_false (s x : ByteArray) (w : World) (hs : s.size ≤ 100000) (hx : x.size ≤ 100000) (h : ¬ (x.size ≤ s.size ∧ s.extract 0 x.size = x)) :
    Calls Try.prog 12 #[.string s, .string x] w fun e w' => e = .returned (.bool false) ∧ w' = w := by
  by_cases h1 : x.size ≤ s.size
  · have e0 : (x.size : Int) ≤ (s.size : Int) := by omega
    have e1 : ((s.extract 0 x.size).toList == x.toList) = false := by
      rw [beq_eq_false_iff_ne, Lib.toList_data, Lib.toList_data]
      intro e
      exact h ⟨h1, ByteArray.ext (Array.toList_inj.1 e)⟩
    clear h h1
    go_enter Try.func12, Try.ntmps12
    go_wp2_with fail
    go_ret
    exact ⟨rfl, rfl⟩
  · have e0 : ¬ (x.size : Int) ≤ (s.size : Int) := by omega
    have e0' : decide ((x.size : Int) ≤ (s.size : Int)) = false := decide_eq_false e0
    clear h h1
    go_enter Try.func12, Try.ntmps12
    go_wp2_with fail
    go_ret
    exact ⟨rfl, rfl⟩
theorem qt_len (l : List UInt8) : (qt l).length ≤ 2 * l.length := by
  unfold qt
  induction l with
  | nil => simp
  | cons c l ih =>
    rw [List.flatMap_cons, List.length_append, List.length_cons]
    by_cases h : spc c = true
    · rw [if_pos h]; simp only [List.length_cons, List.length_nil]; omega
    · rw [if_neg h]; simp only [List.length_cons, List.length_nil]; omega
set_option maxRecDepth 100000 in
set_option maxHeartbeats 8000000 in
theorem plain_walk (a b c : ByteArray) (ha0 : a.size ≤ maxLen) (hb0 : b.size ≤ maxLen) (hc0 : c.size ≤ maxLen) (W : World) :
    Calls Try.prog 5 #[.string a, .string b, .string c] W fun e W' => e = .returned (.bool true) ∧ Below W.heap.size W W' := by
  by_cases c0 : (40 : Int) < (a.size : Int)
  case pos =>
    go_enter Try.func5, Try.ntmps5
    go_wp2_with fail
    refine (alive_any _).mono ?_
    rintro e w1 ⟨rfl, hB1⟩
    have HB1 := Lib.hid hB1
    clear hB1
    simp only []
    go_wp2_with fail
    go_ret
    exact ⟨rfl, HB1.out⟩
  by_cases c1 : (40 : Int) < (b.size : Int)
  case pos =>
    go_enter Try.func5, Try.ntmps5
    go_wp2_with fail
    refine (alive_any _).mono ?_
    rintro e w1 ⟨rfl, hB1⟩
    have HB1 := Lib.hid hB1
    clear hB1
    simp only []
    go_wp2_with fail
    go_ret
    exact ⟨rfl, HB1.out⟩
  by_cases c2 : (40 : Int) < (c.size : Int)
  case pos =>
    go_enter Try.func5, Try.ntmps5
    go_wp2_with fail
    refine (alive_any _).mono ?_
    rintro e w1 ⟨rfl, hB1⟩
    have HB1 := Lib.hid hB1
    clear hB1
    simp only []
    go_wp2_with fail
    go_ret
    exact ⟨rfl, HB1.out⟩
  have hq := qt_len b.data.toList
  rw [dl] at hq
  obtain ⟨P, hP⟩ : ∃ P, Q b.data.toList = P := ⟨_, rfl⟩
  have hPs : P.size ≤ 100000 := by rw [← hP]; show (qt b.data.toList).toArray.size ≤ 100000; simp; omega
  have HQ := Lib.hid (fun w => Quote_any b w (by omega))
  have e0 : (⟨(qt b.data.toList).toArray⟩ : ByteArray) = P := hP
  rw [e0] at HQ
  have F1 := Lib.hid (fun w => Front_any (b ++ a) P true w hPs (by rw [ByteArray.size_append]; omega))
  have F2 := Lib.hid (fun w => Back_any (a ++ b) P false w hPs (by rw [ByteArray.size_append]; omega))
  have F3 := Lib.hid (fun w => Front_any c P false w hPs (by omega))
  have x1 := plain_front a b
  have x2 := plain_back a b
  rw [hP] at x1 x2
  unfold frontS at x1
  unfold backS at x2
  rw [x1] at F1
  rw [x2] at F2
  have eX : c.extract (offK c (pat P) false) c.size = frontS c P false := rfl
  rw [eX] at F3
  have c0' : (a.size : Int) ≤ 40 := by omega
  have c1' : (b.size : Int) ≤ 40 := by omega
  have c2' : (c.size : Int) ≤ 40 := by omega
  have sa : a.size ≤ 40 := by omega
  have sb : b.size ≤ 40 := by omega
  by_cases hb : b.size ≤ c.size ∧ c.extract 0 b.size = b
  · have x3 := plain_yes hb
    rw [hP] at x3
    rw [x3] at F3
    have HBG := Lib.hid (fun w => Begins_true c b w (by omega) hb.1 hb.2)
    have k1 : (b.size : Int) ≤ (c.size : Int) := by have := hb.1; omega
    clear hb x1 x2 x3 eX e0 hP hq ha0 hb0 hc0
    go_enter Try.func5, Try.ntmps5
    go_wp2_with fail
    refine (alive_any _).mono ?_
    rintro e w1 ⟨rfl, hB1⟩
    have HB1 := Lib.hid hB1
    clear hB1
    simp only []
    go_wp2_with fail
    refine (HQ.out _).mono ?_
    rintro e w2 ⟨rfl, hB2⟩
    have HB2 := Lib.hid (HB1.out.trans (hB2.mono HB1.out.size))
    clear hB2
    simp only []
    go_wp2_with fail
    refine (F1.out _).mono ?_
    rintro e w3 ⟨rfl, hB3⟩
    have HB3 := Lib.hid (HB2.out.trans (hB3.mono HB2.out.size))
    clear hB3
    simp only []
    go_wp2_with fail
    refine (F2.out _).mono ?_
    rintro e w4 ⟨rfl, hB4⟩
    have HB4 := Lib.hid (HB3.out.trans (hB4.mono HB3.out.size))
    clear hB4
    simp only []
    go_wp2_with fail
    refine (F3.out _).mono ?_
    rintro e w5 ⟨rfl, hB5⟩
    have HB5 := Lib.hid (HB4.out.trans (hB5.mono HB4.out.size))
    clear hB5
    simp only []
    go_wp2_with fail
    refine (HBG.out _).mono ?_
    rintro e x1 ⟨rfl, h⟩
    obtain rfl := h.symm
    simp only []
    go_wp2_with fail
    go_ret
    exact ⟨rfl, HB5.out⟩
  · have x3 := plain_no hb
    rw [hP] at x3
    rw [x3] at F3
    have HBG := Lib.hid (fun w => Begins_false c b w (by omega) (by omega) hb)
    clear hb x1 x2 x3 eX e0 hP hq ha0 hb0 hc0
    go_enter Try.func5, Try.ntmps5
    go_wp2_with fail
    refine (alive_any _).mono ?_
    rintro e w1 ⟨rfl, hB1⟩
    have HB1 := Lib.hid hB1
    clear hB1
    simp only []
    go_wp2_with fail
    refine (HQ.out _).mono ?_
    rintro e w2 ⟨rfl, hB2⟩
    have HB2 := Lib.hid (HB1.out.trans (hB2.mono HB1.out.size))
    clear hB2
    simp only []
    go_wp2_with fail
    refine (F1.out _).mono ?_
    rintro e w3 ⟨rfl, hB3⟩
    have HB3 := Lib.hid (HB2.out.trans (hB3.mono HB2.out.size))
    clear hB3
    simp only []
    go_wp2_with fail
    refine (F2.out _).mono ?_
    rintro e w4 ⟨rfl, hB4⟩
    have HB4 := Lib.hid (HB3.out.trans (hB4.mono HB3.out.size))
    clear hB4
    simp only []
    go_wp2_with fail
    refine (F3.out _).mono ?_
    rintro e w5 ⟨rfl, hB5⟩
    have HB5 := Lib.hid (HB4.out.trans (hB5.mono HB4.out.size))
    clear hB5
    simp only []
    go_wp2_with fail
    refine (HBG.out _).mono ?_
    rintro e x1 ⟨rfl, h⟩
    obtain rfl := h.symm
    simp only []
    go_wp2_with fail
    go_ret
    exact ⟨rfl, HB5.out⟩
end Go.Proofs.Ytpgaeldjiiaoiaa
