import Derived.Test.YtleflcpdaapddaaD
import Derived.Deep.AppendLies
namespace Go.Proofs.Ytleflcpdaapddaa
open Go.RowKit

theorem info9 : (Try.prog.info? 9).map (fun i => (i.zero, i.size, i.bytes)) = some (some (.string ⟨#[]⟩), 1, 16) := by kernel_rfl

theorem Strs.below {w w' : World} {A : Option Addr} {n : Nat} {ss : Nat → ByteArray} (h : Strs w A n ss) {B : Nat} (hb : Below B w w') (hB : w.heap.size ≤ B) : Strs w' A n ss := by
  intro hn
  obtain ⟨ad, e, hc⟩ := h hn
  refine ⟨ad, e, fun i hi => ?_⟩
  have := World.block_lt_of_cell? w _ (hc i hi)
  rw [hb.cell (by omega)]
  exact hc i hi

/-- The strings of a row, as values. -/
def row (n : Nat) (f : Nat → ByteArray) : List Value := (List.range n).map fun k => .string (f k)
theorem row_at {n k : Nat} (f : Nat → ByteArray) (h : k < n) : (row n f)[k]? = some (.string (f k)) := by simp [row, h]
theorem row_snoc (n : Nat) (f : Nat → ByteArray) : row n f ++ [.string (f n)] = row (n + 1) f := by simp [row, List.range_succ]

theorem own_strs {w : World} {B : Nat} {v : Value} {n : Nat} {f : Nat → ByteArray} (h : w.ownsRow B 9 1 v n (row n f)) : ∃ A c, v = .slice A n c ∧ Strs w A n f := by
  by_cases hn : 0 < n
  · obtain ⟨g, cap, rfl, _, _⟩ := h.form hn
    refine ⟨_, cap, rfl, fun _ => ⟨_, rfl, fun i hi => ?_⟩⟩
    have := h.cellAt i (by omega)
    rw [row_at f hi] at this
    rw [← this]
    unfold Addr.add
    by_cases h0 : i = 0 <;> simp [h0]
  · obtain rfl : n = 0 := by omega
    rcases h.2 with ⟨h1, _⟩ | ⟨g, cap, cur, h1, _⟩
    · exact ⟨none, 0, h1, fun h => absurd h (by omega)⟩
    · exact ⟨_, cap, h1, fun h => absurd h (by omega)⟩

/-- The text s, with t for its end x if it has it. -/
def swp (s x t : ByteArray) : ByteArray := if ends s x = true then s.extract 0 (s.size - x.size) ++ t else s

set_option maxHeartbeats 1000000 in
theorem HasSuffix_any (s x : ByteArray) (w : World) (hs : s.size ≤ 9223372036854775807) :
    Calls Try.prog 20 #[.string s, .string x] w fun e w' => e = .returned (.bool (ends s x)) ∧ w' = w := by
  have hlo : x.size ≤ s.size → ((s.size : Int) - (x.size : Int) + 9223372036854775808) % 18446744073709551616 - 9223372036854775808 = ((s.size - x.size : Nat) : Int) := fun _ => by omega
  by_cases h : x.size ≤ s.size
  · have HE : Hid (ends s x = ((s.extract (s.size - x.size) s.size).toList == x.toList)) := by unfold Hid ends; simp [h]
    go_enter Try.func20, Try.ntmps20
    go_wp2
    go_ret
    refine ⟨?_, rfl⟩
    rw [HE.out]; rfl
  · have HE : Hid (ends s x = false) := by unfold Hid ends; simp [h]
    go_enter Try.func20, Try.ntmps20
    go_wp2
    go_ret
    refine ⟨?_, rfl⟩
    rw [HE.out]; rfl

theorem ends_le {s x : ByteArray} (h : ends s x = true) : x.size ≤ s.size := by
  unfold ends at h; simp at h; exact h.1

set_option maxHeartbeats 1000000 in
theorem CutSuffix_lite (s x : ByteArray) (w : World) (hs : s.size ≤ 9223372036854775807) :
    Calls Try.prog 17 #[.string s, .string x] w fun e w' => e = .returned (.tuple #[.string (if ends s x = true then s.extract 0 (s.size - x.size) else s), .bool (ends s x)]) ∧ w' = w := by
  go_enter Try.func17, Try.ntmps17
  cases h : ends s x
  · go_wp2_with (go_at_call 20; refine (HasSuffix_any s x _ hs).mono ?_; rintro e w' ⟨rfl, rfl⟩)
    go_ret2
    exact ⟨by simp, rfl⟩
  · have hle := ends_le h
    have hlo : IntKind.i64.wrap ((s.size : Int) - (x.size : Int)) = ((s.size - x.size : Nat) : Int) := by rw [IntWalk.i64_in _ (by omega)]; omega
    obtain ⟨m, hm⟩ : ∃ m, s.size - x.size = m := ⟨_, rfl⟩
    rw [hm] at hlo
    have hms : (m : Int) ≤ (s.size : Int) := by omega
    have hm0 : (0 : Int) ≤ (m : Int) := by omega
    have HM := Lib.hid hm
    clear hm
    go_wp2_with (go_at_call 20; refine (HasSuffix_any s x _ hs).mono ?_; rintro e w' ⟨rfl, rfl⟩)
    go_ret2
    refine ⟨?_, rfl⟩
    simp [HM.out]

set_option maxHeartbeats 1000000 in
theorem CutSuffix_any (s x : ByteArray) (w : World) (hs : s.size ≤ 9223372036854775807) :
    Calls Try.prog 13 #[.string s, .string x] w fun e w' => e = .returned (.tuple #[.string (if ends s x = true then s.extract 0 (s.size - x.size) else s), .bool (ends s x)]) ∧ w' = w := by
  obtain ⟨r, hr⟩ : ∃ r, (if ends s x = true then s.extract 0 (s.size - x.size) else s) = r := ⟨_, rfl⟩
  have HR := Lib.hid hr
  rw [hr]
  clear hr
  go_enter Try.func13, Try.ntmps13
  go_wp2_with (go_at_call 17; refine (CutSuffix_lite s x _ hs).mono ?_; rw [HR.out]; rintro e w' ⟨rfl, rfl⟩)
  go_ret2
  exact ⟨rfl, rfl⟩

set_option maxRecDepth 100000 in
set_option maxHeartbeats 2000000 in
theorem Same_any (A A' : Option Addr) (n c c' : Nat) (ss : Nat → ByteArray) (w : World) (hn : n ≤ 100000) (hS : Strs w A n ss) (hS' : Strs w A' n ss) :
    Calls Try.prog 10 #[.slice A n c, .slice A' n c'] w fun e w' => e = .returned (.bool true) ∧ ∃ m, w' = w.drewN m := by
  go_enter Try.func10, Try.ntmps10
  go_wp2_with fail
  go_loopw [5] (fun i wr => ∃ (k m : Nat), i = .int .i64 k ∧ k ≤ n ∧ wr = w.drewN m) (fun i _ => n - (intOf i).toNat)
  case atStart => exact ⟨0, 0, rfl, by omega, rfl⟩
  case round =>
    obtain ⟨k, m, rfl, hk, rfl⟩ := hrel
    by_cases hlt : k < n
    · obtain ⟨ad, rfl, hc⟩ := hS (by omega)
      obtain ⟨ad', rfl, hc'⟩ := hS' (by omega)
      have hck := hc k hlt
      have hck' := hc' k hlt
      clear hc hc'
      generalize ss k = x at *
      have b1 : (k : Int) < (n : Int) := by omega
      have b2 : (0 : Int) ≤ (k : Int) := by omega
      go_wp2_with fail
      go_quiet (fail)
      go_wp2_with fail
      exact ⟨⟨k + 1, _, rfl, by omega, rfl⟩, by simp [intOf]; omega⟩
    · go_wp2_with fail
      go_ret
      exact ⟨rfl, _, rfl⟩
end Go.Proofs.Ytleflcpdaapddaa
