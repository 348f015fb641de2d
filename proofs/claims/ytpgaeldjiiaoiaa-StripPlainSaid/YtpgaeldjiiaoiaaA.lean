import Derived.Test.YtpgaeldjiiaoiaaRows
import Derived.WalkKit
import Derived.WalkSpells
import Derived.WalkLawsBesides
import Derived.RegionTactic
import Derived.ChangeAlike
import Derived.BigRegion
import Derived.Lib.Hide
import Derived.Deep.CutBlock
import Derived.Deep.DeepCutAuto
import Derived.Deep.LoopGhost
import Derived.Deep.QuietTactic
import Derived.BigQuiet
import Derived.Laws.BitsAllLaws
namespace Go.Proofs.Ytpgaeldjiiaoiaa
open Go.RowKit

theorem gb_trans {a w w' : World} {row : Option Nat} (h : a.grownBy w row) (k : w.grownBy w' row) : a.grownBy w' row :=
  ⟨k.os.trans h.os, k.tape.trans h.tape, k.output.trans h.output, Nat.le_trans h.size k.size, fun i hi hr => (k.block i (Nat.lt_of_lt_of_le hi h.size) hr).trans (h.block i hi hr)⟩

theorem gb_set {a w : World} {b : Nat} (h : a.grownBy w (some b)) (i : Nat) (v : Value) : a.grownBy (w.setCell ⟨b, i, none⟩ v) (some b) :=
  gb_trans h ⟨rfl, rfl, rfl, by simp, fun k _ hr => heap_setCell_other _ _ _ _ (fun e => hr (by rw [e]))⟩

theorem gb_drew {a w : World} {row : Option Nat} (h : a.grownBy w row) : a.grownBy w.drew row := ⟨h.os, h.tape, h.output, h.size, h.block⟩

theorem gb_refl (w : World) (row : Option Nat) : w.grownBy w row := ⟨rfl, rfl, rfl, Nat.le_refl _, fun _ _ _ => rfl⟩

/-- The four words of a set lie in block b. -/
def SetAt (w : World) (b : Nat) (v : Nat → Nat) : Prop :=
  w.heap[b]? = some (.cells #[.int .u64 (v 0), .int .u64 (v 1), .int .u64 (v 2), .int .u64 (v 3)] 58 (0, 0)) ∧ ∀ j, v j < 18446744073709551616

theorem SetAt.cell {w : World} {b : Nat} {v : Nat → Nat} (h : SetAt w b v) {q : Nat} (hq : q < 4) : w.cell? ⟨b, q, none⟩ = some (.int .u64 (v q)) := by
  simp only [World.cell?, h.1]
  match q, hq with
  | 0, _ => rfl
  | 1, _ => rfl
  | 2, _ => rfl
  | 3, _ => rfl

theorem SetAt.free {w : World} {b : Nat} {v : Nat → Nat} (h : SetAt w b v) (q : Nat) : w.frozen? ⟨b, q, none⟩ = false := by
  simp [World.frozen?, h.1]

def upd (v : Nat → Nat) (q x : Nat) : Nat → Nat := fun j => if j = q then x else v j

theorem SetAt.set {w : World} {b : Nat} {v : Nat → Nat} (h : SetAt w b v) {q : Nat} (hq : q < 4) {x : Nat} (hx : x < 18446744073709551616) :
    SetAt (w.setCell ⟨b, q, none⟩ (.int .u64 x)) b (upd v q x) := by
  refine ⟨?_, fun j => by unfold upd; split; exact hx; exact h.2 j⟩
  have h1 := h.1
  simp only [World.setCell, Array.getElem?_modify, h1]
  match q, hq with
  | 0, _ => simp [upd]
  | 1, _ => simp [upd]
  | 2, _ => simp [upd]
  | 3, _ => simp [upd]

theorem SetAt.drew {w : World} {b : Nat} {v : Nat → Nat} (h : SetAt w b v) : SetAt w.drew b v := h

/-- Is byte c in the set? -/
def sbit (v : Nat → Nat) (c : Nat) : Bool := (v (c / 64)).testBit (c % 64)

theorem and63 (n : Nat) : bits .and .i64 (n : Int) 63 = ((n % 64 : Nat) : Int) := by
  have h127 : (BitVec.ofInt 64 63).toNat = 2 ^ 6 - 1 := by decide
  have key : (BitVec.ofInt 64 n &&& BitVec.ofInt 64 63).toNat = ((n : Int) % ((2 ^ 64 : Nat) : Int)).toNat % 2 ^ 6 := by
    rw [BitVec.toNat_and, BitVec.toNat_ofInt, h127, Nat.and_two_pow_sub_one_eq_mod]
  show IntKind.i64.wrap ((BitVec.ofInt 64 n &&& BitVec.ofInt 64 63).toNat : Nat) = ((n % 64 : Nat) : Int)
  rw [key, IntKind.wrap_i64]
  omega

theorem pow_lt64 {r : Nat} (hr : r < 64) : (2 : Nat) ^ r < 18446744073709551616 := by
  have := Nat.pow_lt_pow_right (a := 2) (by decide) hr
  omega

theorem or_pow (a r : Nat) (ha : a < 18446744073709551616) (hr : r < 64) :
    bits .or .u64 (a : Int) (IntKind.u64.wrap (2 ^ r)) = ((a ||| 2 ^ r : Nat) : Int) := by
  have h2 := pow_lt64 hr
  have hw : IntKind.u64.wrap ((2 : Int) ^ r) = ((2 ^ r : Nat) : Int) := by
    rw [show ((2 : Int) ^ r) = ((2 ^ r : Nat) : Int) from by simp]
    exact IntWalk.u64_in _ ⟨Int.natCast_nonneg _, by have := Int.ofNat_lt.2 h2; omega⟩
  rw [hw]
  exact u64_or_nat a (2 ^ r) ha h2

theorem or_lt (a r : Nat) (ha : a < 18446744073709551616) (hr : r < 64) : a ||| 2 ^ r < 18446744073709551616 :=
  Nat.or_lt_two_pow (n := 64) ha (pow_lt64 hr)

theorem sbit_upd (v : Nat → Nat) (k c : Nat) : sbit (upd v (k / 64) (v (k / 64) ||| 2 ^ (k % 64))) c = (sbit v c || decide (c = k)) := by
  unfold sbit upd
  by_cases h : c / 64 = k / 64
  · rw [if_pos h, Nat.testBit_or, Nat.testBit_two_pow, ← h]
    congr 1
    rw [Bool.eq_iff_iff]; simp
    omega
  · rw [if_neg h]
    have : c ≠ k := by intro e; exact h (by rw [e])
    simp [this]

set_option maxHeartbeats 400000 in
theorem add_any (b : Nat) (v : Nat → Nat) (lo hi : Nat) (w : World) (hlo : lo < 256) (hhi : hi < 256) (hs : SetAt w b v) :
    Calls Try.prog 41 #[.pointer (some ⟨b, 0, none⟩), .int .u8 lo, .int .u8 hi] w fun e w' => e = .returned (.tuple #[]) ∧
      w.grownBy w' (some b) ∧ ∃ v', SetAt w' b v' ∧ ∀ c, sbit v' c = (sbit v c || (decide (lo ≤ c) && decide (c ≤ hi))) := by
  go_enter Try.func41, Try.ntmps41
  go_wp2
  go_loopw [6] (fun x wr => ∃ k : Nat, x = .int .i64 k ∧ lo ≤ k ∧ k ≤ 256 ∧ w.grownBy wr (some b) ∧ ∃ v', SetAt wr b v' ∧ ∀ c, sbit v' c = (sbit v c || (decide (lo ≤ c) && decide (c < k) && decide (c ≤ hi)))) (fun i _ => hi + 1 - (intOf i).toNat)
  case atStart => exact ⟨lo, rfl, Nat.le_refl _, by omega, gb_refl _ _, v, hs, fun c => by
    have : (decide (lo ≤ c) && decide (c < lo)) = false := by rw [Bool.eq_false_iff]; simp
    rw [this]; simp⟩
  case round =>
    obtain ⟨k, rfl, hlk, hk6, hg, v', hs', hb⟩ := hrel
    have HB := Lib.hid hb
    clear hb
    by_cases hk : k ≤ hi
    · obtain ⟨q, hq⟩ : ∃ q, q = k / 64 := ⟨_, rfl⟩
      obtain ⟨r, hr⟩ : ∃ r, r = k % 64 := ⟨_, rfl⟩
      have hq4 : q < 4 := by omega
      have hcell := hs'.cell hq4
      have hfree := hs'.free q
      have hdiv : (k : Int) / 64 = (q : Int) := by omega
      have hand : bits .and .i64 (k:Int) 63 = (r:Int) := by rw [and63, hr]
      have hr64 : r < 64 := by omega
      have hor := or_pow (v' q) r (hs'.2 q) hr64
      have HQ := Lib.hid hq
      have HR := Lib.hid hr
      clear hq hr
      go_wp2
      go_region
      go_wp2
      go_roundw
      case rel => 
        refine ⟨k + 1, by go_num, by omega, by omega, gb_drew (gb_set hg _ _), _, (hs'.set hq4 (or_lt _ _ (hs'.2 q) hr64)).drew, fun c => ?_⟩
        have h1 := sbit_upd v' k c
        rw [← HQ.out, ← HR.out] at h1
        rw [h1, HB.out c]
        cases sbit v c with
        | true => simp
        | false => rw [Bool.eq_iff_iff]; simp; omega
      case measure => simp [intOf]; omega
    · go_wp2
      go_end0
      refine ⟨rfl, hg, v', hs', fun c => ?_⟩
      rw [HB.out c]
      cases sbit v c with
      | true => simp
      | false => rw [Bool.eq_iff_iff]; simp; omega
end Go.Proofs.Ytpgaeldjiiaoiaa
