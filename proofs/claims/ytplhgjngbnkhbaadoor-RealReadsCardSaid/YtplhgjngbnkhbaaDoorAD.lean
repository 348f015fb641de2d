import Derived.Test.YtplhgjngbnkhbaaDoorAB
import Derived.Test.YtplhgjngbnkhbaaDoorAC
namespace Go.Proofs.YtplhgjngbnkhbaaDoor
open Go.RowKit
set_option linter.unusedVariables false

theorem Of_int15 (n : Int) (h : n.natAbs < 1000000000000000) (w : World) :
    Calls Tryd.prog 14 #[.string ⟨(Lib.itoa n).toArray⟩] w fun e w' => e = .returned (.tuple #[.int .u64 (sw n), .bool true]) ∧ Below w.heap.size w w' := by
  by_cases hn : n < 0
  · obtain ⟨m, rfl⟩ : ∃ m : Nat, n = -(m : Int) := ⟨n.natAbs, by omega⟩
    have hm : 0 < m := by omega
    have hl := dec_len 14 m (by omega)
    obtain ⟨c, t, e, _⟩ := dec_head m
    have hp1 : 1 ≤ (Lib.decDigits m).length := by rw [e]; simp
    rw [itoa_neg hm, sw_neg hm]
    have hdg := dec_isDig m
    have hno : ∀ c : UInt8, isDig c = false → c ≠ 45 → c ∉ (45 :: Lib.decDigits m) := by
      intro c h1 h2 h3
      rcases List.mem_cons.1 h3 with h | h
      · exact h2 h
      · rw [hdg c h] at h1; cases h1
    have hcut : (⟨(45 :: Lib.decDigits m).toArray⟩ : ByteArray).extract 1 (⟨(45 :: Lib.decDigits m).toArray⟩ : ByteArray).size = ⟨(Lib.decDigits m).toArray⟩ := by
      refine ByteArray.ext (Array.ext' ?_)
      rw [← Lib.toList_data, Lib.extract_toList]
      show List.drop 1 (List.take (45 :: Lib.decDigits m).length (45 :: Lib.decDigits m)) = _
      rw [List.take_length]; rfl
    have hh : hp ⟨(45 :: Lib.decDigits m).toArray⟩ ⟨#[45]⟩ = true := by
      unfold hp
      rw [Bool.and_eq_true, decide_eq_true_iff, beq_iff_eq, Lib.extract_toList, Lib.toList_data]
      refine ⟨?_, rfl⟩
      show 1 ≤ (45 :: Lib.decDigits m).length
      simp
    have h2 := Of_neg ⟨(45 :: Lib.decDigits m).toArray⟩ w (by show (45 :: Lib.decDigits m).length ≤ _; simp; omega) (hp_no 120 (by simp) (hno 120 (by decide) (by decide))) hh ⟨(Lib.decDigits m).toArray⟩ hcut
      (numB_of (by show 1 ≤ (Lib.decDigits m).length; exact hp1) (by show (Lib.decDigits m).length ≤ 15; omega) hdg)
    have e2 : dval (⟨(Lib.decDigits m).toArray⟩ : ByteArray).data.toList = m := dval_dec m
    rw [e2] at h2
    exact h2
  · obtain ⟨m, rfl⟩ : ∃ m : Nat, n = (m : Int) := ⟨n.toNat, by omega⟩
    have hl := dec_len 14 m (by omega)
    obtain ⟨c, t, e, _⟩ := dec_head m
    have hp1 : 1 ≤ (Lib.decDigits m).length := by rw [e]; simp
    rw [itoa_nat, sw_nat]
    have hdg := dec_isDig m
    have hno : ∀ c : UInt8, isDig c = false → c ∉ Lib.decDigits m := by
      intro c h1 h3
      rw [hdg c h3] at h1; cases h1
    have h2 := Of_num ⟨(Lib.decDigits m).toArray⟩ w (by show (Lib.decDigits m).length ≤ _; omega) (hp_no 120 (by simp) (hno 120 (by decide))) (hp_no 45 (by simp) (hno 45 (by decide))) (hp_no 43 (by simp) (hno 43 (by decide)))
      (numB_of (by show 1 ≤ (Lib.decDigits m).length; exact hp1) (by show (Lib.decDigits m).length ≤ 15; omega) hdg)
    have e2 : dval (⟨(Lib.decDigits m).toArray⟩ : ByteArray).data.toList = m := dval_dec m
    rw [e2] at h2
    exact h2
end Go.Proofs.YtplhgjngbnkhbaaDoor
