import Derived.Test.YtplhgjngbnkhbaaDoorH
namespace Go.Proofs.YtplhgjngbnkhbaaDoor
open Go.RowKit

theorem fmin_swap {x y : Nat} (hx : x < 18446744073709551616) (hy : y < 18446744073709551616) : fmin x y = fmin y x ∧ fmax x y = fmax y x := by
  unfold fmin fmax
  by_cases hn : (nanB x || nanB y) = true
  · rw [order_none hn, order_none (by rw [Bool.or_comm]; exact hn)]; exact ⟨rfl, rfl⟩
  · have h1 : nanB x = false ∧ nanB y = false := by simpa using hn
    rw [order_some h1.1 h1.2, order_some h1.2 h1.1]
    rcases Int.lt_trichotomy (sv x) (sv y) with h | h | h
    · rw [cmp_lt h, cmp_gt h]; exact ⟨rfl, rfl⟩
    · rw [h, cmp_eq]
      cases hs : sg x <;> cases ht : sg y
      · have := word_inj hx hy (by rw [hs, ht]) h; subst this; exact ⟨rfl, rfl⟩
      · exact ⟨rfl, rfl⟩
      · exact ⟨rfl, rfl⟩
      · have := word_inj hx hy (by rw [hs, ht]) h; subst this; exact ⟨rfl, rfl⟩
    · rw [cmp_gt h, cmp_lt h]; exact ⟨rfl, rfl⟩
theorem order_turn (x y : Nat) : (D.order x y == some .lt) = (D.order y x == some .gt) ∧ (D.order x y == some .eq) = (D.order y x == some .eq) := by
  by_cases hn : (nanB x || nanB y) = true
  · rw [order_none hn, order_none (by rw [Bool.or_comm]; exact hn)]; exact ⟨rfl, rfl⟩
  · have h1 : nanB x = false ∧ nanB y = false := by simpa using hn
    rw [order_some h1.1 h1.2, order_some h1.2 h1.1]
    rcases Int.lt_trichotomy (sv x) (sv y) with h | h | h
    · rw [cmp_lt h, cmp_gt h]; exact ⟨rfl, rfl⟩
    · rw [h, cmp_eq]; exact ⟨rfl, rfl⟩
    · rw [cmp_gt h, cmp_lt h]; exact ⟨rfl, rfl⟩

def sop (k : Nat) : ByteArray := match k with | 0 => ⟨#[43]⟩ | 1 => ⟨#[42]⟩ | 2 => ⟨#[109, 105, 110]⟩ | _ => ⟨#[109, 97, 120]⟩
def sval (k a b : Nat) : Nat := match k with | 0 => fo (D.add a b) | 1 => fo (D.mul a b) | 2 => fo (fmin a b) | _ => fo (fmax a b)
theorem sval_swap (k : Nat) {a b : Nat} (ha : a < 18446744073709551616) (hb : b < 18446744073709551616) : sval k b a = sval k a b := by
  unfold sval
  split
  · rw [add_swap]
  · rw [mul_swap]
  · rw [(fmin_swap ha hb).1]
  · rw [(fmin_swap ha hb).2]
theorem Op_sw (k : Nat) (a b : Nat) (w : World) :
    Calls Tryd.prog 18 #[.string (sop k), .int .u64 a, .int .u64 b] w fun e w' => e = .returned (.tuple #[.int .u64 (sval k a b), .bool true]) ∧ ∃ n, w' = w.drewN n := by
  unfold sop sval
  split
  · exact Op_add a b w
  · exact Op_mul a b w
  · exact Op_min a b w
  · exact Op_max a b w
theorem addn (g i : Nat) : (⟨g, 0, none⟩ : Addr).add i = ⟨g, i, none⟩ := by unfold Addr.add; by_cases h : i = 0 <;> simp [h]

set_option maxRecDepth 100000 in
set_option maxHeartbeats 4000000 in
theorem swaps_nat (x y : Nat) (hx : x < 18446744073709551616) (hy : y < 18446744073709551616) (w : World) : Calls Tryd.prog 10 #[.int .u64 x, .int .u64 y] w fun e w' => e = .returned (.bool true) ∧ Below w.heap.size w w' := by
  have HT := Lib.hid (order_turn x y)
  have HSW : Hid (∀ k, sval k y x = sval k x y) := fun k => sval_swap k hx hy
  go_enter Tryd.func10, Tryd.ntmps10
  go_wp2_with fail
  refine (alive_any _).mono ?_
  rintro e w1 ⟨rfl, hB1⟩
  have HB := Lib.hid hB1
  clear hB1
  go_wp2_with fail
  have hWB : Below w1.heap.size w1 (w1.alloc (.cells #[.string ⟨#[43]⟩, .string ⟨#[42]⟩, .string ⟨#[109, 105, 110]⟩, .string ⟨#[109, 97, 120]⟩] 9)) := (Below.refl _ _).alloc (Nat.le_refl _) _
  have HBW := Lib.hid (below_trans HB.out hWB)
  have HC : Hid (∀ k, k < 4 → (w1.alloc (.cells #[.string ⟨#[43]⟩, .string ⟨#[42]⟩, .string ⟨#[109, 105, 110]⟩, .string ⟨#[109, 97, 120]⟩] 9)).cell? ⟨w1.heap.size, k, none⟩ = some (.string (sop k))) := by
    intro k hk
    match k, hk with
    | 0, _ => simp [sop]
    | 1, _ => simp [sop]
    | 2, _ => simp [sop]
    | 3, _ => simp [sop]
  clear hWB HB
  generalize (w1.alloc (.cells #[.string ⟨#[43]⟩, .string ⟨#[42]⟩, .string ⟨#[109, 105, 110]⟩, .string ⟨#[109, 97, 120]⟩] 9)) = W at *
  generalize w1.heap.size = g at *
  go_loopw [7] (fun i wr => ∃ k m : Nat, i = .int .i64 k ∧ k ≤ 4 ∧ wr = W.drewN m) (fun i _ => 4 - (intOf i).toNat)
  case atStart => exact ⟨0, 0, rfl, by omega, rfl⟩
  case round =>
    obtain ⟨k, m, rfl, hk, rfl⟩ := hrel
    by_cases hlt : k < 4
    · have hltI : (k : Int) < 4 := by omega
      have h0 : (0 : Int) ≤ (k : Int) := by omega
      have a1 := addn g k
      have c1 := HC.out k hlt
      go_wp2_with fail
      refine (Op_sw k x y _).mono ?_
      rintro e w' ⟨rfl, n1, rfl⟩
      go_wp2_with fail
      refine (Op_sw k y x _).mono ?_
      rintro e w' ⟨rfl, n2, rfl⟩
      rw [HSW.out k]
      go_wp2_with fail
      exact ⟨⟨k + 1, _, by go_num, by omega, rfl⟩, by simp [intOf]; omega⟩
    · have hge : ¬ ((k : Int) < 4) := by omega
      go_wp2_with fail
      refine (Is_lt x y _).mono ?_
      rintro e w' ⟨rfl, rfl⟩
      rw [HT.out.1]
      go_wp2_with fail
      refine (Is_gt y x _).mono ?_
      rintro e w' ⟨rfl, rfl⟩
      go_wp2_with fail
      refine (Is_le x y _).mono ?_
      rintro e w' ⟨rfl, rfl⟩
      rw [HT.out.1, HT.out.2]
      go_wp2_with fail
      refine (Is_ge y x _).mono ?_
      rintro e w' ⟨rfl, rfl⟩
      go_wp2_with fail
      go_ret
      refine ⟨?_, below_trans HBW.out (below_drew ⟨_, rfl⟩)⟩
      simp

theorem u64_nat {x : Int} (wx : (Lit.int .u64 x).wf = true) : ∃ a : Nat, x = a ∧ a < 18446744073709551616 := by
  have bx : 0 ≤ x ∧ x ≤ 18446744073709551615 := by simpa [Lit.wf, IntKind.min, IntKind.max, IntKind.signed, IntKind.bits] using wx
  obtain ⟨a, rfl⟩ := Int.eq_ofNat_of_zero_le bx.1
  exact ⟨a, rfl, by omega⟩
theorem swaps_walk (x y : Int) (wx : (Lit.int .u64 x).wf = true) (wy : (Lit.int .u64 y).wf = true) (w : World) : Calls Tryd.prog 10 #[.int .u64 x, .int .u64 y] w fun e w' => e = .returned (.bool true) ∧ Below w.heap.size w w' := by
  obtain ⟨a, rfl, ha⟩ := u64_nat wx
  obtain ⟨b, rfl, hb⟩ := u64_nat wy
  exact swaps_nat a b ha hb w
end Go.Proofs.YtplhgjngbnkhbaaDoor
