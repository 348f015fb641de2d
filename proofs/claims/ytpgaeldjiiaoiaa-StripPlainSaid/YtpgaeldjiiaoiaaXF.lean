import Derived.Test.YtpgaeldjiiaoiaaXE
import Derived.Deep.RegionHeld3
namespace Go.Proofs.Ytpgaeldjiiaoiaa
open Go.RowKit
set_option linter.unusedVariables false

theorem Heads1_any (bx k : Nat) (s : ByteArray) (w : World) (hk : k < s.size) (hs : s.size ≤ 100000) (hc : w.cell? ⟨bx, 0, none⟩ = some (.string s)) :
    Calls Try.prog 26 #[.int .i64 k, .pointer (some ⟨bx, 0, none⟩)] w fun e w' => e = .returned (.int .u8 (gb s k).toNat) ∧ w' = w := by
  have hb := gb_eq s k hk
  have hkI : (k : Int) < (s.size : Int) := by omega
  have h0 : (0 : Int) ≤ (k : Int) := by omega
  go_enter Try.func26, Try.ntmps26
  go_wp2_with fail
  go_ret
  exact ⟨rfl, rfl⟩
/-- The bytes of a text, the last one ahead. -/
def revB (s : ByteArray) : ByteArray := ⟨s.data.reverse⟩
theorem revB_size (s : ByteArray) : (revB s).size = s.size := by show s.data.reverse.size = s.data.size; simp
theorem revB_gb (s : ByteArray) (k : Nat) (h : k < s.size) : gb (revB s) k = gb s (s.size - 1 - k) := by
  have hl : s.data.toList.length = s.size := Array.length_toList
  unfold gb revB
  simp only [Array.toList_reverse, List.getD_eq_getElem?_getD]
  rw [List.getElem?_reverse (by omega), hl]
theorem Tails1_any (bx k : Nat) (s : ByteArray) (w : World) (hk : k < s.size) (hs : s.size ≤ 100000) (hc : w.cell? ⟨bx, 0, none⟩ = some (.string s)) :
    Calls Try.prog 31 #[.int .i64 k, .pointer (some ⟨bx, 0, none⟩)] w fun e w' => e = .returned (.int .u8 (gb (revB s) k).toNat) ∧ w' = w := by
  rw [revB_gb s k hk]
  obtain ⟨j, hj⟩ : ∃ j, s.size - 1 - k = j := ⟨_, rfl⟩
  rw [hj]
  have hb := gb_eq s j (by omega)
  have hkI : (j : Int) < (s.size : Int) := by omega
  have h0 : (0 : Int) ≤ (j : Int) := by omega
  have e1 : IntKind.i64.wrap ((s.size : Int) - 1) = (s.size : Int) - 1 := by rw [IntKind.wrap_i64]; omega
  have e2 : IntKind.i64.wrap ((s.size : Int) - 1 - (k : Int)) = (j : Int) := by rw [IntKind.wrap_i64]; omega
  have e3 : (s.size : Int) - 1 - (k : Int) = (j : Int) := by omega
  have HJ := Lib.hid hj
  go_enter Try.func31, Try.ntmps31
  go_wp2_with fail
  go_ret
  exact ⟨rfl, rfl⟩
/-- The one that is taken off: the first of the ends or the last. -/
def pickE (l : List Nat) (most : Bool) : Nat := if most then l.getLastD 0 else l.headD 0
set_option maxRecDepth 100000 in
set_option maxHeartbeats 2000000 in
theorem choose_any (B : Nat) (r : Value) (l : List Nat) (most : Bool) (w : World) (hl : l.length ≤ 200000) (h : w.ownsRow B 3 1 r l.length (l.map encI)) :
    Calls Try.prog 15 #[r, .bool most] w fun e w' => e = .returned (.int .i64 (pickE l most : Nat)) ∧ w' = w := by
  obtain ⟨X, hX⟩ : ∃ X, pickE l most = X := ⟨_, rfl⟩
  rw [hX]
  have HX := Lib.hid hX
  clear hX
  have hcell := fun g hg => World.ownsRow.cells h (g := g) hg
  rcases h.2 with ⟨rfl, h0⟩ | ⟨g, cap, cur, rfl, hg, hcur, hn, hm, hcs, htk⟩
  · have hnil : l = [] := List.length_eq_zero_iff.1 h0
    subst hnil
    have HE : Hid (X = 0) := by rw [Hid, ← HX.out]; cases most <;> rfl
    clear hcell
    go_enter Try.func15, Try.ntmps15
    go_wp2_with fail
    go_ret
    exact ⟨by rw [HE.out]; rfl, rfl⟩
  · by_cases hl0 : l.length = 0
    · have hnil : l = [] := List.length_eq_zero_iff.1 hl0
      subst hnil
      have HE : Hid (X = 0) := by rw [Hid, ← HX.out]; cases most <;> rfl
      clear hcell hcur htk
      go_enter Try.func15, Try.ntmps15
      go_wp2_with fail
      go_ret
      exact ⟨by rw [HE.out]; rfl, rfl⟩
    · have c0 := hcell g rfl 0 (encI (l.headD 0)) (by rw [List.getElem?_map]; cases l with | nil => simp at hl0 | cons a t => rfl)
      have cN := hcell g rfl (l.length - 1) (encI (l.getLastD 0)) (by
        rw [List.getElem?_map]
        cases l with
        | nil => simp at hl0
        | cons a t => rw [List.getLastD_eq_getLast?, List.getLast?_eq_getElem?, List.getElem?_eq_getElem (by simp)]; rfl)
      rw [addn] at c0 cN
      obtain ⟨n, hnn⟩ : ∃ n, l.length = n := ⟨_, rfl⟩
      rw [hnn] at cN hl hl0 hn ⊢
      have b0 : ((n : Int) == 0) = false := by rw [beq_eq_false_iff_ne]; omega
      have b1 : (0 : Int) < (n : Int) := by omega
      have b2 : (n : Int) - 1 < (n : Int) := by omega
      have b3 : (0 : Int) ≤ (n : Int) - 1 := by omega
      have b4 : ((n : Int) - 1).toNat = n - 1 := by omega
      have b5 : IntKind.i64.wrap ((n : Int) - 1) = ((n - 1 : Nat) : Int) := by rw [IntKind.wrap_i64]; omega
      have b6 : ((n - 1 : Nat) : Int) < (n : Int) := by omega
      have b7 : (n : Int) - 1 = ((n - 1 : Nat) : Int) := by omega
      have b8 : (0 : Int) ≤ ((n - 1 : Nat) : Int) := by omega
      unfold encI at c0 cN
      clear hcell hcur htk hnn
      cases most with
      | true =>
        have HE : Hid (X = l.getLastD 0) := HX.out.symm
        obtain ⟨z, hz⟩ : ∃ z, l.getLastD 0 = z := ⟨_, rfl⟩
        rw [hz] at cN HE
        obtain ⟨m, hm1⟩ : ∃ m, n - 1 = m := ⟨_, rfl⟩
        rw [hm1] at cN b4 b5 b6 b7 b8
        clear hz c0 hm1 b2 b3
        go_enter Try.func15, Try.ntmps15
        go_wp2_with fail
        go_ret
        exact ⟨by rw [HE.out]; rfl, rfl⟩
      | false =>
        have HE : Hid (X = l.headD 0) := HX.out.symm
        obtain ⟨z, hz⟩ : ∃ z, l.headD 0 = z := ⟨_, rfl⟩
        rw [hz] at c0 HE
        clear hz cN
        go_enter Try.func15, Try.ntmps15
        go_wp2_with fail
        go_ret
        exact ⟨by rw [HE.out]; rfl, rfl⟩
end Go.Proofs.Ytpgaeldjiiaoiaa
