import Derived.Test.YtplhgjngbnkhbaaDoorI
namespace Go.Proofs.YtplhgjngbnkhbaaDoor
open Go.RowKit

theorem nan_or (z : Nat) (hz : z < 18446744073709551616) : nanB (9221120237041090560 ||| z) = true ∧ 9221120237041090560 ||| z < 18446744073709551616 := by
  have hlt : 9221120237041090560 ||| z < 18446744073709551616 := Nat.or_lt_two_pow (n := 64) (by omega) hz
  refine ⟨(nan_mask hlt).2 ⟨?_, ?_⟩, hlt⟩
  · rw [Nat.and_or_distrib_right, show (9221120237041090560 &&& 9218868437227405312 : Nat) = 9218868437227405312 by decide]
    apply Nat.le_antisymm
    · have := Nat.and_le_right (n := z) (m := 9218868437227405312)
      have h2 : 9218868437227405312 ||| z &&& 9218868437227405312 = 9218868437227405312 := by
        apply Nat.eq_of_testBit_eq
        intro i
        rw [Nat.testBit_or, Nat.testBit_and]
        cases Nat.testBit 9218868437227405312 i <;> simp
      omega
    · exact Nat.left_le_or
  · rw [Nat.and_or_distrib_right, show (9221120237041090560 &&& 4503599627370495 : Nat) = 2251799813685248 by decide]
    have : 2251799813685248 ≤ 2251799813685248 ||| z &&& 4503599627370495 := Nat.left_le_or
    omega

def nop (k : Nat) : ByteArray := match k with | 0 => ⟨#[43]⟩ | 1 => ⟨#[45]⟩ | 2 => ⟨#[42]⟩ | 3 => ⟨#[47]⟩ | 4 => ⟨#[109, 105, 110]⟩ | _ => ⟨#[109, 97, 120]⟩
theorem Op_nan (k : Nat) (a b : Nat) (h : (nanB a || nanB b) = true) (w : World) :
    Calls Tryd.prog 18 #[.string (nop k), .int .u64 a, .int .u64 b] w fun e w' => e = .returned (.tuple #[.int .u64 9221120237041090560, .bool true]) ∧ ∃ n, w' = w.drewN n := by
  have hf : fmin a b = none ∧ fmax a b = none := by unfold fmin fmax; rw [order_none h]; exact ⟨rfl, rfl⟩
  unfold nop
  split
  · have := Op_add a b w; rw [add_nan h] at this; exact this
  · have := Op_sub a b w; rw [sub_nan h] at this; exact this
  · have := Op_mul a b w; rw [mul_nan h] at this; exact this
  · have := Op_div a b w; rw [div_nan h] at this; exact this
  · have := Op_min a b w; rw [hf.1] at this; exact this
  · have := Op_max a b w; rw [hf.2] at this; exact this
def tst (k : Nat) : ByteArray := match k with | 0 => ⟨#[108, 116]⟩ | 1 => ⟨#[108, 101]⟩ | 2 => ⟨#[103, 116]⟩ | 3 => ⟨#[103, 101]⟩ | _ => ⟨#[101, 113]⟩
theorem Is_nan (k : Nat) (a b : Nat) (h : (nanB a || nanB b) = true) (w : World) :
    Calls Tryd.prog 20 #[.string (tst k), .int .u64 a, .int .u64 b] w fun e w' => e = .returned (.tuple #[.bool false, .bool true]) ∧ w' = w := by
  unfold tst
  split
  · have := Is_lt a b w; rw [order_none h] at this; exact this
  · have := Is_le a b w; rw [order_none h] at this; exact this
  · have := Is_gt a b w; rw [order_none h] at this; exact this
  · have := Is_ge a b w; rw [order_none h] at this; exact this
  · have := Is_eq a b w; rw [order_none h] at this; exact this

set_option maxRecDepth 100000 in
set_option maxHeartbeats 4000000 in
theorem nan_nat (x y : Nat) (hy : y < 18446744073709551616) (w : World) : Calls Tryd.prog 7 #[.int .u64 x, .int .u64 y] w fun e w' => e = .returned (.bool true) ∧ Below w.heap.size w w' := by
  have e1 : bits .and .u64 (y : Int) 9223653511831486463 = ((y &&& 9223653511831486463 : Nat) : Int) := u64_and_nat y 9223653511831486463 hy (by omega)
  have hz : y &&& 9223653511831486463 < 18446744073709551616 := Nat.lt_of_le_of_lt Nat.and_le_left hy
  generalize y &&& 9223653511831486463 = z at *
  have e2 : bits .or .u64 9221120237041090560 (z : Int) = ((9221120237041090560 ||| z : Nat) : Int) := u64_or_nat 9221120237041090560 z (by omega) hz
  obtain ⟨hn, _⟩ := nan_or z hz
  generalize 9221120237041090560 ||| z = n at *
  have H1 : Hid ((nanB x || nanB n) = true) := by unfold Hid; rw [hn]; simp
  have H2 : Hid ((nanB n || nanB x) = true) := by unfold Hid; rw [hn]; simp
  have H3 : Hid ((nanB n || nanB n) = true) := by unfold Hid; rw [hn]; simp
  have H4 : Hid ((D.order n n != some .eq) = true) := by unfold Hid; rw [order_none H3.out]; rfl
  have H5 : Hid ((cl n == cl 9221120237041090560) = true) := by
    have : cl n = nanW := by unfold cl; rw [hn]; rfl
    unfold Hid; rw [this]; decide +kernel
  clear hn hz
  go_enter Tryd.func7, Tryd.ntmps7
  go_wp2_with fail
  refine (alive_any _).mono ?_
  rintro e w1 ⟨rfl, hB1⟩
  have HB := Lib.hid hB1
  clear hB1
  go_wp2_with fail
  have hWB : Below w1.heap.size w1 (w1.alloc (.cells #[.string ⟨#[43]⟩, .string ⟨#[45]⟩, .string ⟨#[42]⟩, .string ⟨#[47]⟩, .string ⟨#[109, 105, 110]⟩, .string ⟨#[109, 97, 120]⟩] 9)) := (Below.refl _ _).alloc (Nat.le_refl _) _
  have HBW := Lib.hid (below_trans HB.out hWB)
  have HC : Hid (∀ k, k < 6 → (w1.alloc (.cells #[.string ⟨#[43]⟩, .string ⟨#[45]⟩, .string ⟨#[42]⟩, .string ⟨#[47]⟩, .string ⟨#[109, 105, 110]⟩, .string ⟨#[109, 97, 120]⟩] 9)).cell? ⟨w1.heap.size, k, none⟩ = some (.string (nop k))) := by
    intro k hk
    match k, hk with
    | 0, _ => simp [nop]
    | 1, _ => simp [nop]
    | 2, _ => simp [nop]
    | 3, _ => simp [nop]
    | 4, _ => simp [nop]
    | 5, _ => simp [nop]
  clear hWB HB
  generalize (w1.alloc (.cells #[.string ⟨#[43]⟩, .string ⟨#[45]⟩, .string ⟨#[42]⟩, .string ⟨#[47]⟩, .string ⟨#[109, 105, 110]⟩, .string ⟨#[109, 97, 120]⟩] 9)) = W at *
  generalize w1.heap.size = g at *
  go_loopw [8] (fun i wr => ∃ k m : Nat, i = .int .i64 k ∧ k ≤ 6 ∧ wr = W.drewN m) (fun i _ => 6 - (intOf i).toNat)
  case atStart => exact ⟨0, 0, rfl, by omega, rfl⟩
  case round =>
    obtain ⟨k, m, rfl, hk, rfl⟩ := hrel
    by_cases hlt : k < 6
    · have hltI : (k : Int) < 6 := by omega
      have h0 : (0 : Int) ≤ (k : Int) := by omega
      have a1 := addn g k
      have c1 := HC.out k hlt
      go_wp2_with fail
      refine (Op_nan k x n H1.out _).mono ?_
      rintro e w' ⟨rfl, n1, rfl⟩
      go_wp2_with fail
      refine (Op_nan k n x H2.out _).mono ?_
      rintro e w' ⟨rfl, n2, rfl⟩
      go_wp2_with fail
      exact ⟨⟨k + 1, _, by go_num, by omega, rfl⟩, by simp [intOf]; omega⟩
    · have hge : ¬ ((k : Int) < 6) := by omega
      have HBX := Lib.hid (below_trans HBW.out (below_drew (b := W.drewN m) ⟨_, rfl⟩))
      clear HC
      generalize W.drewN m = w1 at *
      clear HBW
      go_wp2_with fail
      have hWB : Below w1.heap.size w1 (w1.alloc (.cells #[.string ⟨#[108, 116]⟩, .string ⟨#[108, 101]⟩, .string ⟨#[103, 116]⟩, .string ⟨#[103, 101]⟩, .string ⟨#[101, 113]⟩] 9)) := (Below.refl _ _).alloc (Nat.le_refl _) _
      have HBW := Lib.hid (below_trans HBX.out hWB)
      have HC : Hid (∀ k, k < 5 → (w1.alloc (.cells #[.string ⟨#[108, 116]⟩, .string ⟨#[108, 101]⟩, .string ⟨#[103, 116]⟩, .string ⟨#[103, 101]⟩, .string ⟨#[101, 113]⟩] 9)).cell? ⟨w1.heap.size, k, none⟩ = some (.string (tst k))) := by
        intro k hk
        match k, hk with
        | 0, _ => simp [tst]
        | 1, _ => simp [tst]
        | 2, _ => simp [tst]
        | 3, _ => simp [tst]
        | 4, _ => simp [tst]
      clear hWB HBX
      generalize (w1.alloc (.cells #[.string ⟨#[108, 116]⟩, .string ⟨#[108, 101]⟩, .string ⟨#[103, 116]⟩, .string ⟨#[103, 101]⟩, .string ⟨#[101, 113]⟩] 9)) = V at *
      generalize w1.heap.size = g2 at *
      go_loopw [14] (fun i wr => ∃ j m : Nat, i = .int .i64 j ∧ j ≤ 5 ∧ wr = V.drewN m) (fun i _ => 5 - (intOf i).toNat)
      case atStart => exact ⟨0, 0, rfl, by omega, rfl⟩
      case round =>
        obtain ⟨j, m, rfl, hj, rfl⟩ := hrel
        by_cases hltj : j < 5
        · have hltI : (j : Int) < 5 := by omega
          have h0 : (0 : Int) ≤ (j : Int) := by omega
          have a1 := addn g2 j
          have c1 := HC.out j hltj
          go_wp2_with fail
          refine (Is_nan j x n H1.out _).mono ?_
          rintro e w' ⟨rfl, rfl⟩
          go_wp2_with fail
          refine (Is_nan j n n H3.out _).mono ?_
          rintro e w' ⟨rfl, rfl⟩
          go_wp2_with fail
          exact ⟨⟨j + 1, _, by go_num, by omega, rfl⟩, by simp [intOf]; omega⟩
        · have hgej : ¬ ((j : Int) < 5) := by omega
          go_wp2_with fail
          refine (Is_ne n n _).mono ?_
          rw [H4.out]
          rintro e w' ⟨rfl, rfl⟩
          go_wp2_with fail
          refine (Is_same n 9221120237041090560 _).mono ?_
          rw [H5.out]
          rintro e w' ⟨rfl, rfl⟩
          go_wp2_with fail
          go_ret
          exact ⟨rfl, below_trans HBW.out (below_drew ⟨_, rfl⟩)⟩
theorem nan_walk (x y : Int) (wx : (Lit.int .u64 x).wf = true) (wy : (Lit.int .u64 y).wf = true) (w : World) : Calls Tryd.prog 7 #[.int .u64 x, .int .u64 y] w fun e w' => e = .returned (.bool true) ∧ Below w.heap.size w w' := by
  obtain ⟨a, rfl, _⟩ := u64_nat wx
  obtain ⟨b, rfl, hb⟩ := u64_nat wy
  exact nan_nat a b hb w
end Go.Proofs.YtplhgjngbnkhbaaDoor
