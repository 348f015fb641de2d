import Derived.Test.YtplhgjngbnkhbaaDoorAH
namespace Go.Proofs.YtplhgjngbnkhbaaDoor
open Go.RowKit Ieee
set_option linter.unusedVariables false

theorem u64_eq {a b : Nat} : ((a : Int) == (b : Int)) = decide (a = b) := by
  rw [Bool.eq_iff_iff, beq_iff_eq, decide_eq_true_iff]; omega
set_option maxRecDepth 100000 in
set_option maxHeartbeats 4000000 in
theorem texts_walk (x : Nat) (hX : x < 18446744073709551616) (w : World) (hT : Tabs w) :
    Calls Tryd.prog 4 #[.int .u64 x] w fun e w' => e = .returned (.bool true) ∧ Below w.heap.size w w' := by
  have e1 : bits .and .u64 (x : Int) 9218868437227405312 = ((x &&& 9218868437227405312 : Nat) : Int) := u64_and_nat x 9218868437227405312 hX (by omega)
  have e2 : bits .and .u64 (x : Int) 4503599627370495 = ((x &&& 4503599627370495 : Nat) : Int) := u64_and_nat x 4503599627370495 hX (by omega)
  have hn := nan_mask hX
  obtain ⟨S, hS⟩ : ∃ S : ByteArray, ⟨(textL x).toArray⟩ = S := ⟨_, rfl⟩
  have hsz : S.size ≤ 1000000 := by rw [← hS]; show (textL x).length ≤ _; have := textL_len hX; omega
  have hof : ∀ w, Calls Tryd.prog 14 #[.string S] w fun e w' => e = .returned (.tuple #[.int .u64 (cl x), .bool true]) ∧ Below w.heap.size w w' := by
    intro w
    have := Of_any S w hsz
    rw [show S.data.toList = textL x by rw [← hS], ofL_text hX] at this
    exact this
  have htx : ∀ w, Tabs w → Calls Tryd.prog 16 #[.int .u64 x] w fun e w' => e = .returned (.string S) ∧ Below w.heap.size w w' := by
    rw [← hS]; exact fun w h => Text_any x hX w h
  have href : ∀ w, Calls Tryd.prog 17 #[.int .u64 x] w fun e w' => e = .returned (.string S) ∧ w' = w := by
    rw [← hS]; exact fun w => RefText_any x hX w
  have HOF := Lib.hid hof
  have HTX := Lib.hid htx
  have HRF := Lib.hid href
  have HHT := Lib.hid hT
  have key : (nanB x = false ∧ ((cl x : Int) == (x : Int)) = true) ∨ (nanB x = true ∧ ((cl x : Int) == 9221120237041090560) = true) := by
    cases h : nanB x with
    | true => right; refine ⟨rfl, ?_⟩; unfold cl; rw [if_pos h]; decide
    | false => left; refine ⟨rfl, ?_⟩; unfold cl; rw [h]; simp
  obtain ⟨y, hy⟩ : ∃ y, cl x = y := ⟨_, rfl⟩
  rw [hy] at HOF key
  clear hof htx href hS hT hy
  have run : ∀ (b1 b2 : Bool), (bits .and .u64 (x : Int) 9218868437227405312 == 9218868437227405312) = b1 → (bits .and .u64 (x : Int) 4503599627370495 == 0) = b2 → (bits .and .u64 (x : Int) 4503599627370495 != 0) = !b2 → ((b1 && !b2) = true → ((y : Int) == 9221120237041090560) = true) → ((b1 && !b2) = false → ((y : Int) == (x : Int)) = true) → Calls Tryd.prog 4 #[.int .u64 x] w fun e w' => e = .returned (.bool true) ∧ Below w.heap.size w w' := by
    clear e1 e2 hn key
    intro b1 b2 q1 q2 q3 k1 k2
    obtain ⟨c, hc⟩ : ∃ c, ((y : Int) == (x : Int)) = c := ⟨_, rfl⟩
    cases b1 <;> cases b2
    all_goals first
      | (have k := k2 rfl; clear k1 k2; rw [hc] at k; subst k)
      | (have k := k1 rfl; clear k1 k2; cases c)
    all_goals
      go_enter Tryd.func4, Tryd.ntmps4
      go_wp2_with fail
      refine (alive_any w).mono ?_
      rintro e w1 ⟨rfl, hB⟩
      have HB1 := Lib.hid hB
      clear hB
      go_wp2_with fail
      refine (HTX.out w1 (HHT.out.below HB1.out)).mono ?_
      rintro e w2 ⟨rfl, hB⟩
      have HB2 := Lib.hid (below_trans HB1.out hB)
      clear hB
      go_wp2_with fail
      refine (HOF.out w2).mono ?_
      rintro e w3 ⟨rfl, hB⟩
      have HB3 := Lib.hid (below_trans HB2.out hB)
      clear hB
      go_wp2_with fail
      refine (HRF.out w3).mono ?_
      rintro e w' ⟨rfl, h⟩
      obtain rfl := h.symm
      go_wp2_with fail
      go_ret
      exact ⟨rfl, HB3.out⟩
  refine run (decide (x &&& 9218868437227405312 = 9218868437227405312)) (decide (x &&& 4503599627370495 = 0)) ?_ ?_ ?_ ?_ ?_
  · rw [e1]; exact u64_eq
  · rw [e2]; exact u64_eq
  · rw [e2, bne]; congr 1; exact u64_eq
  · intro h
    rw [Bool.and_eq_true, decide_eq_true_iff, Bool.not_eq_true', decide_eq_false_iff_not] at h
    have := hn.2 ⟨h.1, h.2⟩
    rcases key with ⟨a, b⟩ | ⟨a, b⟩
    · rw [this] at a; cases a
    · exact b
  · intro h
    rcases key with ⟨a, b⟩ | ⟨a, b⟩
    · exact b
    · exfalso
      have := hn.1 a
      rw [decide_eq_true this.1, decide_eq_false this.2] at h
      cases h
end Go.Proofs.YtplhgjngbnkhbaaDoor
