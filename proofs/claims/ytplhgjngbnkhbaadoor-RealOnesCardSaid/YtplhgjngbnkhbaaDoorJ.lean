import Derived.Test.YtplhgjngbnkhbaaDoorI
namespace Go.Proofs.YtplhgjngbnkhbaaDoor
open Go.RowKit

set_option maxRecDepth 100000 in
set_option maxHeartbeats 4000000 in
theorem ones_go (x : Nat) (hx : x < 18446744073709551616) (w : World) (nn inf : Bool) (a e : Nat) (hn : nanB x = nn) (h1 : fo (D.mul x 4607182418800017408) = a) (h2 : fo (D.div x 4607182418800017408) = a) (h3 : fo (D.sub x 0) = a) (h4 : fo (D.add x 9223372036854775808) = a) (h5 : fo (D.sub x x) = e)
    (hsh : (IntKind.u64.wrap ((x : Int) * 2) == 18437736874454810624) = inf)
    (hcase : (nn = true ∧ a = 9221120237041090560 ∧ e = a) ∨ (nn = false ∧ a = x ∧ (inf = true ∧ e = 9221120237041090560 ∨ inf = false ∧ e = 0))) :
    Calls Tryd.prog 12 #[.int .u64 x] w fun e w' => e = .returned (.bool true) ∧ Below w.heap.size w w' := by
  have HN := Lib.hid hn
  have H1 := Lib.hid h1
  have H2 := Lib.hid h2
  have H3 := Lib.hid h3
  have H4 := Lib.hid h4
  have H5 := Lib.hid h5
  have HC := Lib.hid hcase
  have HSH := Lib.hid hsh
  clear hn h1 h2 h3 h4 h5 hcase hsh
  go_enter Tryd.func12, Tryd.ntmps12
  go_wp2_with fail
  refine (alive_any _).mono ?_
  rintro e w1 ⟨rfl, hB1⟩
  have HB := Lib.hid hB1
  clear hB1
  go_wp2_with fail
  refine (noNumber_any x hx _).mono ?_
  rw [HN.out]
  rintro e w' ⟨rfl, rfl⟩
  go_wp2_with fail
  refine (Op_mul x 4607182418800017408 _).mono ?_
  rw [H1.out]
  rintro e w' ⟨rfl, n1, rfl⟩
  go_wp2_with fail
  refine (Op_div x 4607182418800017408 _).mono ?_
  rw [H2.out]
  rintro e w' ⟨rfl, n2, rfl⟩
  go_wp2_with fail
  refine (Op_sub x 0 _).mono ?_
  rw [H3.out]
  rintro e w' ⟨rfl, n3, rfl⟩
  go_wp2_with fail
  refine (Op_add x 9223372036854775808 _).mono ?_
  rw [H4.out]
  rintro e w' ⟨rfl, n4, rfl⟩
  go_wp2_with fail
  refine (Op_sub x x _).mono ?_
  rw [H5.out]
  rintro e w' ⟨rfl, n5, rfl⟩
  rcases HC.out with ⟨rfl, rfl, rfl⟩ | ⟨rfl, rfl, ⟨rfl, rfl⟩ | ⟨rfl, rfl⟩⟩
  · go_wp2_with fail
    go_ret
    exact ⟨rfl, below_trans HB.out (below_drew ⟨_, rfl⟩)⟩
  · have hs := HSH.out
    go_wp2_with fail
    go_ret
    exact ⟨rfl, below_trans HB.out (below_drew ⟨_, rfl⟩)⟩
  · have hs := HSH.out
    go_wp2_with fail
    go_ret
    exact ⟨rfl, below_trans HB.out (below_drew ⟨_, rfl⟩)⟩

theorem shl_one {x : Nat} (_hx : x < 18446744073709551616) : (IntKind.u64.wrap ((x : Int) * 2) == 18437736874454810624) = infB x := by
  rw [Bool.eq_iff_iff, beq_iff_eq]
  unfold infB rg
  rw [beq_iff_eq]
  unfold IntKind.wrap
  simp only [IntKind.bits, IntKind.signed]
  simp
  omega
theorem ones_walk (x : Int) (wx : (Lit.int .u64 x).wf = true) (w : World) : Calls Tryd.prog 12 #[.int .u64 x] w fun e w' => e = .returned (.bool true) ∧ Below w.heap.size w w' := by
  obtain ⟨a, rfl, ha⟩ := u64_nat wx
  cases hn : nanB a
  · have h1 : fo (D.mul a 4607182418800017408) = a := by rw [mul_one' hn ha]; rfl
    have h2 : fo (D.div a 4607182418800017408) = a := by rw [div_one' hn ha]; rfl
    have h3 : fo (D.sub a 0) = a := by rw [sub_zero' hn ha]; rfl
    have h4 : fo (D.add a 9223372036854775808) = a := by rw [add_mzero hn ha]; rfl
    cases hi : infB a
    · refine ones_go a ha w false false a 0 hn h1 h2 h3 h4 ?_ (by rw [shl_one ha, hi]) (.inr ⟨rfl, rfl, .inr ⟨rfl, rfl⟩⟩)
      have : rg a < 9218868437227405312 := by
        simp only [nanB, decide_eq_false_iff_not, Nat.not_lt] at hn
        unfold infB at hi
        rw [beq_eq_false_iff_ne] at hi
        omega
      rw [sub_self' this]; rfl
    · refine ones_go a ha w false true a 9221120237041090560 hn h1 h2 h3 h4 ?_ (by rw [shl_one ha, hi]) (.inr ⟨rfl, rfl, .inl ⟨rfl, rfl⟩⟩)
      unfold infB at hi
      rw [beq_iff_eq] at hi
      rw [sub_self_inf hi]; rfl
  · have hm : ∀ y, (nanB a || nanB y) = true := fun y => by rw [hn]; rfl
    exact ones_go a ha w true _ _ _ hn (by rw [mul_nan (hm _)]; rfl) (by rw [div_nan (hm _)]; rfl) (by rw [sub_nan (hm _)]; rfl) (by rw [add_nan (hm _)]; rfl) (by rw [sub_nan (hm _)]; rfl) rfl (.inl ⟨rfl, rfl, rfl⟩)
end Go.Proofs.YtplhgjngbnkhbaaDoor
