import Derived.Test.YtleflcpdaapddaaA
import Derived.OwnWalk
namespace Go.Proofs.Ytleflcpdaapddaa
open Go.RowKit

def gb (s : ByteArray) (i : Nat) : UInt8 := s.data.toList.getD i 0
theorem gb_eq (s : ByteArray) (i : Nat) (h : i < s.size) : s[i] = gb s i := by
  have : i < s.data.toList.length := by simpa using h
  unfold gb
  rw [List.getD_eq_getElem?_getD, List.getElem?_eq_getElem this]; rfl
def ends (s x : ByteArray) : Bool := decide (x.size ≤ s.size) && ((s.extract (s.size - x.size) s.size).toList == x.toList)
def step (s b x : ByteArray) : ByteArray := if b.size < x.size ∧ x.size < s.size ∧ ends s x = true then x else b
def bst (s : ByteArray) (ss : Nat → ByteArray) : Nat → ByteArray
  | 0 => ⟨#[]⟩
  | k + 1 => step s (bst s ss k) (ss k)
def some_ (b : ByteArray) : Bool := !b.toList.isEmpty
theorem step_le {s b x : ByteArray} (h : b.size ≤ s.size) : (step s b x).size ≤ s.size := by unfold step; split <;> omega
theorem bst_le (s : ByteArray) (ss : Nat → ByteArray) : ∀ k, (bst s ss k).size ≤ s.size
  | 0 => Nat.zero_le _
  | k + 1 => step_le (bst_le s ss k)

/-- The strings ss lie in w behind A. -/
def Strs (w : World) (A : Option Addr) (n : Nat) (ss : Nat → ByteArray) : Prop := 0 < n → ∃ ad, A = some ad ∧ ∀ i, i < n → w.cell? (ad.add i) = some (.string (ss i))
theorem Strs.drewN {w : World} {A : Option Addr} {n : Nat} {ss : Nat → ByteArray} (h : Strs w A n ss) (k : Nat) : Strs (w.drewN k) A n ss := h

set_option maxHeartbeats 1000000 in
theorem Ends_any (s x : ByteArray) (w : World) (hs : s.size ≤ 9223372036854775807) :
    Calls Try.prog 8 #[.string s, .string x] w fun e w' => e = .returned (.bool (ends s x)) ∧ w' = w := by
  have hlo : x.size ≤ s.size → ((s.size : Int) - (x.size : Int) + 9223372036854775808) % 18446744073709551616 - 9223372036854775808 = ((s.size - x.size : Nat) : Int) := fun _ => by omega
  by_cases h : x.size ≤ s.size
  · have HE : Hid (ends s x = ((s.extract (s.size - x.size) s.size).toList == x.toList)) := by unfold Hid ends; simp [h]
    go_enter Try.func8, Try.ntmps8
    go_wp2
    go_ret
    refine ⟨?_, rfl⟩
    rw [HE.out]; rfl
  · have HE : Hid (ends s x = false) := by unfold Hid ends; simp [h]
    go_enter Try.func8, Try.ntmps8
    go_wp2
    go_ret
    refine ⟨?_, rfl⟩
    rw [HE.out]; rfl

set_option maxRecDepth 100000 in
set_option maxHeartbeats 1000000 in
theorem RefSuffix_any (s : ByteArray) (A : Option Addr) (n c : Nat) (ss : Nat → ByteArray) (w : World) (hs : s.size ≤ 100000) (hn : n ≤ 100000) (hx : ∀ k, (ss k).size ≤ 9223372036854775807) (hS : Strs w A n ss) :
    Calls Try.prog 7 #[.string s, .slice A n c] w fun e w' => e = .returned (.tuple #[.string (bst s ss n), .bool (some_ (bst s ss n))]) ∧ w' = w := by
  go_enter Try.func7, Try.ntmps7
  go_wp2_with fail
  go_loopw [6, 7] (fun a i wr => ∃ k : Nat, i = .int .i64 k ∧ k ≤ n ∧ a = .string (bst s ss k) ∧ wr = w) (fun _ i _ => n - (intOf i).toNat)
  case atStart => exact ⟨0, rfl, by omega, rfl, rfl⟩
  case round =>
    obtain ⟨k, rfl, hk, hb, hw⟩ := hrel
    subst hw
    by_cases hlt : k < n
    · obtain ⟨ad, rfl, hc⟩ := hS (by omega)
      have hck := hc k hlt
      have hsx := hx k
      have HB : Hid (bst s ss (k + 1) = step s (bst s ss k) (ss k)) := rfl
      clear hc hx
      generalize hbe : bst s ss k = b at *
      generalize hxe : ss k = x at *
      subst hb
      have HXE := Lib.hid hxe
      have HBE := Lib.hid hbe
      clear hxe hbe
      by_cases c1 : b.size < x.size
      · by_cases c2 : x.size < s.size
        · go_wp2_with (go_at_call 8; refine (Ends_any s x _ (by omega)).mono ?_; rintro e w' ⟨rfl, rfl⟩)
          · have c3 : ends s x = true := by assumption
            exact ⟨⟨k + 1, rfl, by omega, by rw [HB.out]; unfold step; rw [if_pos ⟨c1, c2, c3⟩], trivial⟩, by simp [intOf]; omega⟩
          · have c3 : ends s x = false := by assumption
            exact ⟨⟨k + 1, rfl, by omega, by rw [HB.out]; unfold step; rw [if_neg (fun h => by rw [c3] at h; simp at h)], trivial⟩, by simp [intOf]; omega⟩
        · go_wp2_with fail
          exact ⟨⟨k + 1, rfl, by omega, by rw [HB.out]; unfold step; rw [if_neg (fun h => c2 h.2.1)], trivial⟩, by simp [intOf]; omega⟩
      · go_wp2_with fail
        exact ⟨⟨k + 1, rfl, by omega, by rw [HB.out]; unfold step; rw [if_neg (fun h => c1 h.1)], trivial⟩, by simp [intOf]; omega⟩
    · have hkn : k = n := by omega
      go_wp2_with fail
      go_ret2
      refine ⟨?_, rfl⟩
      rw [hb, hkn]; rfl

/-- The last bytes of x are those of s, but for those from i on. -/
def tl (s x : ByteArray) (i : Nat) : Prop := ∀ j, j < i → gb x (x.size - 1 - j) = gb s (s.size - 1 - j)

theorem tl_ends {s x : ByteArray} (h : x.size ≤ s.size) : tl s x x.size ↔ ends s x = true := by
  unfold ends
  simp only [h, decide_true, Bool.true_and, beq_iff_eq]
  rw [Lib.extract_toList, Lib.toList_data]
  have hl : s.data.toList.length = s.size := by simp
  have hm : x.data.toList.length = x.size := by simp
  constructor
  · intro ht
    apply List.ext_getElem
    · simp; omega
    · intro i h1 h2
      have := ht (x.size - 1 - i) (by omega)
      unfold gb at this
      rw [show x.size - 1 - (x.size - 1 - i) = i by omega, show s.size - 1 - (x.size - 1 - i) = s.size - x.size + i by omega] at this
      rw [List.getD_eq_getElem?_getD, List.getD_eq_getElem?_getD, List.getElem?_eq_getElem h2, List.getElem?_eq_getElem (by omega)] at this
      simpa using this.symm
  · intro he j hj
    unfold gb
    rw [← he, List.getD_eq_getElem?_getD, List.getD_eq_getElem?_getD, List.getElem?_take_of_lt (by omega), List.getElem?_drop]
    congr 2
    omega
end Go.Proofs.Ytleflcpdaapddaa
