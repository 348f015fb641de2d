import Derived.Test.YthgddbdkdloobaaDoorNN
namespace Go.Proofs.YthgddbdkdloobaaDoor
open Go.RowKit
set_option linter.unusedVariables false

theorem Rd_new (w : World) (s : ByteArray) (pv : Value) : Rd (w.alloc (.cells #[.string s, .int .i64 0, pv, .int .i64 0, .bool false] 46)) w.heap.size s pv 0 0 false := by
  have h := heap_alloc_new w (.cells #[.string s, .int .i64 0, pv, .int .i64 0, .bool false] 46)
  refine ⟨?_, ?_, ?_, ?_, ?_, ?_, ?_, ?_⟩
  all_goals first
    | (rw [cell_of_row _ _ _ _ _ _ h]; rfl)
    | (unfold World.frozen?; simp only [h]; rfl)
set_option maxRecDepth 100000 in
set_option maxHeartbeats 4000000 in
theorem Eval_any (s : ByteArray) (l : Prs) (pv : Value) (w : World) (hs : s.size ≤ 9223372036854775807) (hP : PV w.heap.size w pv l) :
    Calls Tryd.prog 13 #[.string s, pv] w fun e w' => e = .returned (.tuple #[.int .i64 (evalL false s.data.toList (Vl l)).1, .int .i64 ((evalL false s.data.toList (Vl l)).2 : Nat)]) ∧ Below w.heap.size w w' := by
  have hl := dlen s
  obtain ⟨X, hX⟩ : ∃ X, evalL false s.data.toList (Vl l) = X := ⟨_, rfl⟩
  have HX := Lib.hid hX
  rw [hX]
  clear hX
  by_cases h4 : 4096 < s.size
  · have h4I : (4096 : Int) < (s.size : Int) := by omega
    have HE : Hid (X = (0, 3)) := by rw [Hid, ← HX.out]; unfold evalL; rw [if_pos (by omega)]
    clear HX hl
    go_enter Tryd.func13, Tryd.ntmps13
    go_wp2_with fail
    go_ret2
    exact ⟨by rw [HE.out]; rfl, Below.refl _ _⟩
  · have h4I : ¬ (4096 : Int) < (s.size : Int) := by omega
    have h4J : (s.size : Int) ≤ 4096 := by omega
    have hpv : ∃ o n c, pv = .slice o n c := by
      rcases hP.at' with ⟨o, c, h1, _⟩ | ⟨b, off, cap, h1, _⟩
      · exact ⟨_, _, _, h1⟩
      · exact ⟨_, _, _, h1⟩
    obtain ⟨o, n, c, rfl⟩ := hpv
    have HP := Lib.hid hP
    clear hP
    go_enter Tryd.func13, Tryd.ntmps13
    go_wp2_with fail
    have hR0 := Rd_new w s (.slice o n c)
    have hB0 : Below w.heap.size w (w.alloc (.cells #[.string s, .int .i64 0, .slice o n c, .int .i64 0, .bool false] 46)) := (Below.refl _ _).alloc (Nat.le_refl _) _
    have hP0 : PV w.heap.size (w.alloc (.cells #[.string s, .int .i64 0, .slice o n c, .int .i64 0, .bool false] 46)) (.slice o n c) l := HP.out.kept (Kp.alloc (Kp.refl _ _) _)
    have hsz0 : w.heap.size ≤ (w.alloc (.cells #[.string s, .int .i64 0, .slice o n c, .int .i64 0, .bool false] 46)).heap.size := hB0.size
    have hat0 : At s s.data.toList 0 := ⟨Nat.zero_le _, rfl⟩
    have HC := Lib.hid (binary_any 1 (by omega) (by omega) w.heap.size s l (.slice o n c) s.data.toList 0 0 false _ (fuel s.data.toList) (by omega) hat0 (by omega) (by simp only [want, fuel]; omega) hR0 hP0)
    have HB0 := Lib.hid hB0
    obtain ⟨w0, hw0⟩ : ∃ w0, w.alloc (.cells #[.string s, .int .i64 0, .slice o n c, .int .i64 0, .bool false] 46) = w0 := ⟨_, rfl⟩
    rw [hw0] at HC HB0 hsz0 ⊢
    have hX2 : X = (match ev false (Vl l) (fuel s.data.toList) (.bin 1) s.data.toList false 0 with
      | .error e => (0, e)
      | .ok (v, r, z) => if skp r ≠ [] then (0, 2) else if z then (0, 15) else (v, 0)) := by
      rw [← HX.out]; unfold evalL; rw [if_neg (by omega)]; rfl
    obtain ⟨res, hres⟩ : ∃ res, ev false (Vl l) (fuel s.data.toList) (.bin 1) s.data.toList false 0 = res := ⟨_, rfl⟩
    rw [hres] at HC hX2
    have HX2 := Lib.hid hX2
    have HSZ := Lib.hid hsz0
    clear hX2 hres hR0 hB0 hP0 hat0 hw0 HX hl HP hsz0
    refine HC.out.mono ?_
    cases res with
    | error k =>
      rintro e w1 ⟨hK, hk0, ⟨v, rfl⟩, p1, z1, hp1, hR1⟩
      have HK := Lib.hid hK
      have HK0 := Lib.hid hk0
      have HR1 := Lib.hid hR1
      have b1 : ((k : Int) == 0) = false := by rw [beq_eq_false_iff_ne]; omega
      have b2 : ((k : Int) != 0) = true := by rw [bne_iff_ne]; omega
      clear hK hk0 hR1
      go_wp2_with fail
      refine (skip_any s _ p1 0 z1 _ _ (by omega) hp1 HR1.out).mono ?_
      rintro e w2 ⟨rfl, hK2, hR2⟩
      have HK2 := Lib.hid hK2
      clear hK2 hR2
      go_wp2_with fail
      go_ret2
      exact ⟨by rw [HX2.out]; rfl, (HK.out.trans HK2.out).below HB0.out HSZ.out (Nat.le_refl _)⟩
    | ok x =>
      obtain ⟨v, r, z⟩ := x
      rintro e w1 ⟨hK, rfl, p1, hat1, hR1⟩
      have HK := Lib.hid hK
      have HR1 := Lib.hid hR1
      have HAT := Lib.hid hat1
      clear hK hR1 hat1
      go_wp2_with fail
      refine (skip_any s _ p1 0 z _ _ (by omega) HAT.out.1 HR1.out).mono ?_
      rintro e w2 ⟨rfl, hK2, hR2⟩
      have HFIN := Lib.hid ((HK.out.trans hK2).below HB0.out HSZ.out (Nat.le_refl _))
      have hAT2 := HAT.out.skp
      have hq := hAT2.1
      have hlen := hAT2.len
      have c1 := hR2.c1
      have c4 := hR2.c4
      obtain ⟨q, hqq⟩ : ∃ q, spos s p1 = q := ⟨_, rfl⟩
      rw [hqq] at hq hlen c1
      clear hqq hAT2 hK2 hR2
      by_cases hlt : q < s.size
      · have hltI : (q : Int) < (s.size : Int) := by omega
        have HE : Hid (X = (0, 2)) := by
          have hne : skp r ≠ [] := by
            intro e
            rw [e] at hlen
            simp at hlen
            omega
          rw [Hid, HX2.out]
          simp [hne]
        clear hlen
        go_wp2_with fail
        go_ret2
        exact ⟨by rw [HE.out]; rfl, HFIN.out⟩
      · have hltI : ¬ (q : Int) < (s.size : Int) := by omega
        have hnil : skp r = [] := List.length_eq_zero_iff.1 (by omega)
        cases z with
        | true =>
          have HE : Hid (X = (0, 15)) := by
            rw [Hid, HX2.out]
            simp [hnil]
          clear hlen hnil
          go_wp2_with fail
          go_ret2
          exact ⟨by rw [HE.out]; rfl, HFIN.out⟩
        | false =>
          have HE : Hid (X = (v, 0)) := by
            rw [Hid, HX2.out]
            simp [hnil]
          clear hlen hnil
          go_wp2_with fail
          go_ret2
          exact ⟨by rw [HE.out]; rfl, HFIN.out⟩
end Go.Proofs.YthgddbdkdloobaaDoor
