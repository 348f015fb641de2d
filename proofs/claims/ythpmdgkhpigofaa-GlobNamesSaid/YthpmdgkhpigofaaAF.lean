import Derived.Test.YthpmdgkhpigofaaAE
namespace Go.Proofs.Ythpmdgkhpigofaa
open Go.RowKit

theorem btrans {a b c : World} (h1 : Below a.heap.size a b) (h2 : Below b.heap.size b c) : Below a.heap.size a c := h1.trans (h2.mono h1.size)

set_option maxRecDepth 100000 in
set_option maxHeartbeats 4000000 in
theorem plain_walk (p : ByteArray) (_hp : p.size ≤ maxLen) (w : World) :
    Calls Try.prog 5 #[.string p] w fun e w' => e = .returned (.bool true) ∧ Below w.heap.size w w' := by
  by_cases h1 : p.size ≤ 100
  · obtain ⟨P, hP⟩ : ∃ P, pcs p (p.size + 1) 0 true = P := ⟨_, rfl⟩
    have HP := Lib.hid hP
    cases ha : allLit P
    · have HA := Lib.hid ha
      clear ha hP
      go_enter Try.func5, Try.ntmps5
      go_wp2_with fail
      refine (alive_any _).mono ?_
      rintro e w1 ⟨rfl, hB1⟩
      go_wp2_with fail
      refine (Plain_any p _ (by omega) P HP).mono ?_
      rw [HA.out]
      rintro e w2 ⟨rfl, hB2⟩
      go_wp2_with fail
      refine (RefPlain_any p _ (by omega) P HP).mono ?_
      rw [HA.out]
      rintro e w3 ⟨rfl, hB3⟩
      have HB := Lib.hid (btrans (btrans hB1 hB2) hB3)
      clear hB1 hB2 hB3
      go_wp2_with fail
      go_ret
      exact ⟨rfl, HB.out⟩
    · have HA := Lib.hid ha
      have hc : (chars P).length ≤ 100000 := by
        have : P.length ≤ p.size := by
          rw [← hP]
          have key : ∀ n i cl, (pcs p n i cl).length ≤ p.size - i := by
            intro n
            induction n with
            | zero => intro i cl; simp [pcs]
            | succ n ih =>
              intro i cl
              rw [pcs]
              split
              · have hr : i < rbn p i := by unfold rbn; split <;> omega
                split
                · have := ih (i + 1) cl; simp only [List.length_cons]; omega
                · split
                  · have := ih (i + 1) cl; simp only [List.length_cons]; omega
                  · split
                    · split
                      · rename_i h0
                        have hb := (rdSet_bound p (i + 1)).2 h0
                        have := ih (rdSet p (i + 1)).2 cl; simp only [List.length_cons]; omega
                      · have := ih (rbn p i) false; simp only [List.length_cons]; omega
                    · have := ih (rbn p i) cl; simp only [List.length_cons]; omega
              · simp
          exact Nat.le_trans (key _ _ _) (by omega)
        unfold chars; rw [List.length_map]; omega
      have HM : Hid (matchB p ⟨(chars P).toArray⟩ = true) := by
        unfold Hid matchB
        rw [hP, lits_match (chars P) (lits_of (fun it hit => by rw [← hP] at hit; exact pcs_lits p _ _ _ it hit) ha)]
        simp
      clear ha hP
      obtain ⟨q, hq⟩ : ∃ q : ByteArray, ⟨(chars P).toArray⟩ = q := ⟨_, rfl⟩
      have hqs : q.size ≤ 100000 := by rw [← hq, sz_mk]; exact hc
      have HQ := Lib.hid hq
      clear hq
      go_enter Try.func5, Try.ntmps5
      go_wp2_with fail
      refine (alive_any _).mono ?_
      rintro e w1 ⟨rfl, hB1⟩
      go_wp2_with fail
      refine (Plain_any p _ (by omega) P HP).mono ?_
      rw [HA.out, if_pos rfl, HQ.out]
      rintro e w2 ⟨rfl, hB2⟩
      go_wp2_with fail
      refine (RefPlain_any p _ (by omega) P HP).mono ?_
      rw [HA.out, if_pos rfl, HQ.out]
      rintro e w3 ⟨rfl, hB3⟩
      have HB := Lib.hid (btrans (btrans hB1 hB2) hB3)
      clear hB1 hB2 hB3
      go_wp2_with fail
      refine (Match_b p q _ (by omega) hqs).mono ?_
      rw [← HQ.out, HM.out]
      rintro e w4 ⟨rfl, hB4⟩
      have HB4 := Lib.hid (btrans HB.out hB4)
      clear hB4
      go_wp2_with fail
      go_ret
      exact ⟨rfl, HB4.out⟩
  · have h1' : (100 : Int) < (p.size : Int) := by omega
    go_enter Try.func5, Try.ntmps5
    go_wp2_with (go_at_call 10; refine (alive_any _).mono ?_; rintro e w1 ⟨rfl, hB1⟩)
    go_ret
    exact ⟨rfl, hB1⟩

set_option maxRecDepth 100000 in
set_option maxHeartbeats 4000000 in
theorem quote_walk (s t : ByteArray) (_hs : s.size ≤ maxLen) (_ht : t.size ≤ maxLen) (w : World) :
    Calls Try.prog 6 #[.string s, .string t] w fun e w' => e = .returned (.bool true) ∧ Below w.heap.size w w' := by
  by_cases h1 : s.size ≤ 60
  · by_cases h2 : t.size ≤ 60
    · have hsl : s.data.toList.length = s.size := by simp
      have hq := qt_le s.data.toList
      rw [hsl] at hq
      obtain ⟨q, hqe⟩ : ∃ q, Q s.data.toList = q := ⟨_, rfl⟩
      have hqs : q.size ≤ 120 := by rw [← hqe]; unfold Q; rw [sz_mk]; omega
      have HP : Hid (pcs q (q.size + 1) 0 true = s.data.toList.map itLit) := by rw [← hqe]; exact pcs_Q _
      have HQ : Hid (⟨(qt s.data.toList).toArray⟩ = q) := hqe
      obtain ⟨hc, ha⟩ := chars_lits s.data.toList
      have hss : (⟨s.data.toList.toArray⟩ : ByteArray) = s := by cases s; simp
      have HPL : Hid (allLit (s.data.toList.map itLit) = true ∧ (⟨(chars (s.data.toList.map itLit)).toArray⟩ : ByteArray) = s) := ⟨ha, by rw [hc]⟩
      have HM : Hid (∀ u : ByteArray, matchB q u = decide (u = s)) := by
        intro u
        unfold matchB
        rw [HP.out, lits_match s.data.toList rfl u, hss]
      clear hc ha hss hq hqe hsl
      obtain ⟨E, hE⟩ : ∃ E : Bool, decide (t = s) = E := ⟨_, rfl⟩
      have HE := Lib.hid hE
      have HST : Hid ((s.toList == t.toList) = E) := by
        unfold Hid
        rw [← hE, Bool.eq_iff_iff, beq_iff_eq, decide_eq_true_iff, Lib.toList_data, Lib.toList_data]
        constructor
        · intro h; exact ByteArray.ext (Array.toList_inj.1 h.symm)
        · rintro rfl; rfl
      clear hE
      go_enter Try.func6, Try.ntmps6
      go_wp2_with fail
      refine (alive_any _).mono ?_
      rintro e w1 ⟨rfl, hB1⟩
      go_wp2_with fail
      refine (Quote_any s _ (by omega)).mono ?_
      rw [HQ.out]
      rintro e w2 ⟨rfl, hB2⟩
      go_wp2_with fail
      refine (Plain_any q _ (by omega) _ HP).mono ?_
      rw [HPL.out.1, if_pos rfl, HPL.out.2]
      rintro e w3 ⟨rfl, hB3⟩
      have HB := Lib.hid (btrans (btrans hB1 hB2) hB3)
      clear hB1 hB2 hB3
      go_wp2_with fail
      refine (RefQuote_any s _ (by omega)).mono ?_
      rw [HQ.out]
      rintro e w4 ⟨rfl, hB4⟩
      have HB4 := Lib.hid (btrans HB.out hB4)
      clear hB4
      go_wp2_with fail
      refine (Match_b q s _ (by omega) (by omega)).mono ?_
      rw [HM.out, decide_eq_true rfl]
      rintro e w5 ⟨rfl, hB5⟩
      have HB5 := Lib.hid (btrans HB4.out hB5)
      clear hB5
      go_wp2_with fail
      refine (Match_b q t _ (by omega) (by omega)).mono ?_
      rw [HM.out, HE.out]
      rintro e w6 ⟨rfl, hB6⟩
      have HB6 := Lib.hid (btrans HB5.out hB6)
      have hst := HST.out
      clear hB6
      cases E <;> go_wp2_with fail
      all_goals
        go_ret
        exact ⟨rfl, HB6.out⟩
    · have h2' : (60 : Int) < (t.size : Int) := by omega
      go_enter Try.func6, Try.ntmps6
      go_wp2_with (go_at_call 10; refine (alive_any _).mono ?_; rintro e w1 ⟨rfl, hB1⟩)
      go_ret
      exact ⟨rfl, hB1⟩
  · have h1' : (60 : Int) < (s.size : Int) := by omega
    go_enter Try.func6, Try.ntmps6
    go_wp2_with (go_at_call 10; refine (alive_any _).mono ?_; rintro e w1 ⟨rfl, hB1⟩)
    go_ret
    exact ⟨rfl, hB1⟩
end Go.Proofs.Ythpmdgkhpigofaa
