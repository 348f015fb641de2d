import Derived.Test.YtleflcpdaapddaaE
namespace Go.Proofs.Ytleflcpdaapddaa
open Go.RowKit

/-- The first k strings of a row of n are there. -/
def rowK (n : Nat) (f : Nat → ByteArray) (k : Nat) : List Value := (List.range n).map fun j => .string (if j < k then f j else ⟨#[]⟩)
theorem rowK_zero (n : Nat) (f : Nat → ByteArray) : rowK n f 0 = List.replicate n (.string ⟨#[]⟩) := by
  simp [rowK, List.map_const']
theorem rowK_full (n : Nat) (f : Nat → ByteArray) : rowK n f n = row n f := by
  unfold rowK row
  apply List.map_congr_left
  intro j hj
  rw [if_pos (List.mem_range.1 hj)]
theorem rowK_set (n : Nat) (f : Nat → ByteArray) (k : Nat) : (rowK n f k).set k (.string (f k)) = rowK n f (k + 1) := by
  apply List.ext_getElem
  · simp [rowK]
  · intro i h1 h2
    simp only [rowK, List.length_map, List.length_range, List.length_set] at h1 h2
    rw [List.getElem_set]
    by_cases hik : k = i
    · subst hik; simp [rowK]
    · rw [if_neg hik]
      simp only [rowK, List.getElem_map, List.getElem_range]
      congr 2
      exact propext ⟨fun _ => by omega, fun _ => by omega⟩

def own (w wr : World) (n : Nat) (xs : List Value) : Prop := wr.ownsRow w.heap.size 9 1 (.slice (some ⟨w.heap.size, 0, none⟩) n n) n xs ∧ Below w.heap.size w wr
theorem own.store {w wr : World} {n : Nat} {xs : List Value} (h : own w wr n xs) (k : Nat) (u : Value) : own w (wr.setCell ⟨w.heap.size, k, none⟩ u) n (xs.set k u) :=
  ⟨(h.1.stored k u).1, h.2.setCell (Nat.le_refl _) u⟩
theorem add_at (b k : Nat) : (⟨b, 0, none⟩ : Addr).add k = ⟨b, k, none⟩ := by unfold Addr.add; by_cases h : k = 0 <;> simp [h]

set_option maxRecDepth 100000 in
set_option maxHeartbeats 4000000 in
theorem Swap_any (A : Option Addr) (n c : Nat) (ss : Nat → ByteArray) (x t : ByteArray) (w : World) (hn : n ≤ 100000) (hs : ∀ k, (ss k).size ≤ 1000000000000000) (ht : t.size ≤ 100000) (hS : Strs w A n ss) :
    Calls Try.prog 9 #[.slice A n c, .string x, .string t] w fun e w' => ∃ A' c', e = .returned (.slice A' n c') ∧ Strs w' A' n (fun k => swp (ss k) x t) ∧ Below w.heap.size w w' := by
  obtain ⟨i9, hi9, hz9, hs9, hb9⟩ := info_parts info9
  go_enter Try.func9, Try.ntmps9
  go_wp2_with (refine wpList_make_full _ rfl _ _ 22 rfl w.heap.size 9 i9 (.string ⟨#[]⟩) 1 Try.underlying22 hi9 hz9 hs9 .i64 .i64 _ _ n rfl rfl rfl rfl (by rw [hb9]; omega) (by unfold maxLen; omega) (Nat.le_refl _) ?_)
  intro w1 hown hg
  have HO : Hid (own w w1 n (rowK n (fun k => swp (ss k) x t) 0)) := by
    refine ⟨?_, (Below.refl _ w).grown hg (Nat.le_refl _) (fun k h => by cases h)⟩
    rw [rowK_zero, ← toList_madeCells_one]
    simpa using hown
  have HSX := Lib.hid hS
  clear hown hg hi9 hz9 hs9 hb9
  go_wp2_with fail
  go_loopw [17] (fun i wr => ∃ (k : Nat), i = .int .i64 k ∧ k ≤ n ∧ Hid (own w wr n (rowK n (fun k => swp (ss k) x t) k))) (fun i _ => n - (intOf i).toNat)
  case atStart => exact ⟨0, rfl, by omega, HO.out⟩
  case round =>
    obtain ⟨k, rfl, hk, HK⟩ := hrel
    by_cases hlt : k < n
    · obtain ⟨ad, rfl, hc⟩ := (hS.below HK.out.2 (Nat.le_refl _)) (by omega)
      have hck := hc k hlt
      have hsx := hs k
      have hf := HK.out.1.frozenAt k
      have hcc := HK.out.1.cellAt k (by omega)
      have hadd := add_at w.heap.size k
      have HC := Lib.hid hc
      clear hc
      rw [List.getElem?_eq_getElem (by simp [rowK]; omega)] at hcc
      have HS1 := Lib.hid (HK.out.store k (.string (ss k)))
      have hf2 := HS1.out.1.frozenAt k
      have hcc2 := HS1.out.1.cellAt k (by omega)
      rw [List.getElem?_set_self (by simp [rowK]; omega)] at hcc2
      cases he : ends (ss k) x
      · have HF : Hid (swp (ss k) x t = ss k) := by unfold Hid swp; rw [he]; simp
        have HE := Lib.hid he
        clear he
        go_wp2_with fail
        refine (CutSuffix_any (ss k) x _ (by omega)).mono ?_
        rw [HE.out]
        rintro e w' ⟨rfl, rfl⟩
        go_wp2_with fail
        go_roundw
        case rel =>
          refine ⟨k + 1, by go_num, by omega, ?_⟩
          have := HS1.out
          rw [← HF.out, rowK_set n (fun k => swp (ss k) x t) k] at this
          rw [HF.out] at this
          exact this
        case measure => simp [intOf]; omega
      · have HF : Hid (swp (ss k) x t = (ss k).extract 0 ((ss k).size - x.size) ++ t) := by unfold Hid swp; rw [if_pos he]
        have HE := Lib.hid he
        clear he
        have hrs : ((ss k).extract 0 ((ss k).size - x.size)).size ≤ (ss k).size := by simp
        obtain ⟨r, hr⟩ : ∃ r, (ss k).extract 0 ((ss k).size - x.size) = r := ⟨_, rfl⟩
        rw [hr] at hrs
        have HR := Lib.hid hr
        clear hr
        have hsum : ¬ (r.size + t.size > 9223372036854775807) := by omega
        go_wp2_with fail
        refine (CutSuffix_any (ss k) x _ (by omega)).mono ?_
        rw [HE.out, if_pos rfl, HR.out]
        rintro e w' ⟨rfl, rfl⟩
        go_wp2_with fail
        go_roundw
        case rel =>
          refine ⟨k + 1, by go_num, by omega, ?_⟩
          have := HS1.out.store k (.string (r ++ t))
          rw [List.set_set, ← HR.out, ← HF.out, rowK_set n (fun k => swp (ss k) x t) k] at this
          rw [HF.out, HR.out] at this
          exact this
        case measure => simp [intOf]; omega
    · have hkn : k = n := by omega
      have hend := HK.out
      rw [hkn, rowK_full] at hend
      obtain ⟨A', c', he, hs'⟩ := own_strs hend.1
      have HEND := Lib.hid (And.intro hs' hend.2)
      clear hend hs'
      have HEQ := Lib.hid he
      clear he
      go_wp2_with fail
      go_ret
      refine ⟨A', c', ?_, HEND.out.1, HEND.out.2⟩
      rw [HEQ.out]
      rfl
end Go.Proofs.Ytleflcpdaapddaa
