import Derived.Test.YtplhgjngbnkhbaaDoorE
namespace Go.Proofs.YtplhgjngbnkhbaaDoor
open Go.RowKit

set_option maxRecDepth 100000 in
set_option maxHeartbeats 4000000 in
theorem nought_walk (b : Bool) (w : World) : Calls Tryd.prog 8 #[.bool b] w fun e w' => e = .returned (.bool true) ∧ Below w.heap.size w w' := by
  cases b
  · go_enter Tryd.func8, Tryd.ntmps8
    go_wp2_with fail
    refine (alive_any _).mono ?_
    rintro e w1 ⟨rfl, hB1⟩
    have HB := Lib.hid hB1
    clear hB1
    go_wp2_with fail
    refine (Op_div 4607182418800017408 0 _).mono ?_
    rintro e w' ⟨rfl, n1, rfl⟩
    rw [show fo (D.div 4607182418800017408 0) = 9218868437227405312 by decide +kernel]
    go_wp2_with fail
    refine (Op_div 4607182418800017408 9218868437227405312 _).mono ?_
    rintro e w' ⟨rfl, n2, rfl⟩
    rw [show fo (D.div 4607182418800017408 9218868437227405312) = 0 by decide +kernel]
    go_wp2_with fail
    refine (Op_sub 9218868437227405312 9218868437227405312 _).mono ?_
    rintro e w' ⟨rfl, n3, rfl⟩
    rw [show fo (D.sub 9218868437227405312 9218868437227405312) = 9221120237041090560 by decide +kernel]
    go_wp2_with fail
    refine (Op_mul 0 9218868437227405312 _).mono ?_
    rintro e w' ⟨rfl, n4, rfl⟩
    rw [show fo (D.mul 0 9218868437227405312) = 9221120237041090560 by decide +kernel]
    go_wp2_with fail
    refine (Op_add 0 9223372036854775808 _).mono ?_
    rintro e w' ⟨rfl, n5, rfl⟩
    rw [show fo (D.add 0 9223372036854775808) = 0 by decide +kernel]
    go_wp2_with fail
    refine (Op_min 0 0 _).mono ?_
    rintro e w' ⟨rfl, n6, rfl⟩
    rw [show fo (fmin 0 0) = 0 by decide +kernel]
    go_wp2_with fail
    refine (Op_max 0 9223372036854775808 _).mono ?_
    rintro e w' ⟨rfl, n7, rfl⟩
    rw [show fo (fmax 0 9223372036854775808) = 0 by decide +kernel]
    go_wp2_with fail
    refine (Is_eq 0 0 _).mono ?_
    rintro e w' ⟨rfl, rfl⟩
    rw [show (D.order 0 0 == some .eq) = true by decide +kernel]
    go_wp2_with fail
    refine (Is_same 0 0 _).mono ?_
    rintro e w' ⟨rfl, rfl⟩
    rw [show (cl 0 == cl 0) = true by decide +kernel]
    go_wp2_with fail
    go_ret
    exact ⟨rfl, below_trans HB.out (below_drew ⟨_, rfl⟩)⟩
  · go_enter Tryd.func8, Tryd.ntmps8
    go_wp2_with fail
    refine (alive_any _).mono ?_
    rintro e w1 ⟨rfl, hB1⟩
    have HB := Lib.hid hB1
    clear hB1
    go_wp2_with fail
    refine (Op_div 4607182418800017408 9223372036854775808 _).mono ?_
    rintro e w' ⟨rfl, n1, rfl⟩
    rw [show fo (D.div 4607182418800017408 9223372036854775808) = 18442240474082181120 by decide +kernel]
    go_wp2_with fail
    refine (Op_div 4607182418800017408 18442240474082181120 _).mono ?_
    rintro e w' ⟨rfl, n2, rfl⟩
    rw [show fo (D.div 4607182418800017408 18442240474082181120) = 9223372036854775808 by decide +kernel]
    go_wp2_with fail
    refine (Op_sub 18442240474082181120 18442240474082181120 _).mono ?_
    rintro e w' ⟨rfl, n3, rfl⟩
    rw [show fo (D.sub 18442240474082181120 18442240474082181120) = 9221120237041090560 by decide +kernel]
    go_wp2_with fail
    refine (Op_mul 9223372036854775808 18442240474082181120 _).mono ?_
    rintro e w' ⟨rfl, n4, rfl⟩
    rw [show fo (D.mul 9223372036854775808 18442240474082181120) = 9221120237041090560 by decide +kernel]
    go_wp2_with fail
    refine (Op_add 9223372036854775808 9223372036854775808 _).mono ?_
    rintro e w' ⟨rfl, n5, rfl⟩
    rw [show fo (D.add 9223372036854775808 9223372036854775808) = 9223372036854775808 by decide +kernel]
    go_wp2_with fail
    refine (Op_min 9223372036854775808 0 _).mono ?_
    rintro e w' ⟨rfl, n6, rfl⟩
    rw [show fo (fmin 9223372036854775808 0) = 9223372036854775808 by decide +kernel]
    go_wp2_with fail
    refine (Op_max 9223372036854775808 9223372036854775808 _).mono ?_
    rintro e w' ⟨rfl, n7, rfl⟩
    rw [show fo (fmax 9223372036854775808 9223372036854775808) = 9223372036854775808 by decide +kernel]
    go_wp2_with fail
    refine (Is_eq 9223372036854775808 0 _).mono ?_
    rintro e w' ⟨rfl, rfl⟩
    rw [show (D.order 9223372036854775808 0 == some .eq) = true by decide +kernel]
    go_wp2_with fail
    refine (Is_same 9223372036854775808 0 _).mono ?_
    rintro e w' ⟨rfl, rfl⟩
    rw [show (cl 9223372036854775808 == cl 0) = false by decide +kernel]
    go_wp2_with fail
    go_ret
    exact ⟨rfl, below_trans HB.out (below_drew ⟨_, rfl⟩)⟩
end Go.Proofs.YtplhgjngbnkhbaaDoor
