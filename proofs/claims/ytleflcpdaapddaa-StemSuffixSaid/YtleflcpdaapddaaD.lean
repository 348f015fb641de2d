import Derived.Test.YtleflcpdaapddaaC
namespace Go.Proofs.Ytleflcpdaapddaa
open Go.RowKit

theorem isEmpty_iff (b : ByteArray) : b.toList.isEmpty = true ↔ b.size = 0 := by
  rw [Lib.toList_data, List.isEmpty_iff, ← List.length_eq_zero_iff]; simp
theorem some_iff (b : ByteArray) : some_ b = true ↔ 0 < b.size := by
  unfold some_
  rw [Bool.not_eq_true', ← Bool.not_eq_true, isEmpty_iff]
  omega

theorem step_mono (s b x : ByteArray) : b.size ≤ (step s b x).size := by unfold step; split <;> omega
theorem step_fit {s b x : ByteArray} (h1 : x.size < s.size) (h2 : ends s x = true) : x.size ≤ (step s b x).size := by
  unfold step
  by_cases h : b.size < x.size
  · rw [if_pos ⟨h, h1, h2⟩]; exact Nat.le_refl _
  · rw [if_neg (fun e => h e.1)]; omega
theorem bst_mono (s : ByteArray) (ss : Nat → ByteArray) (k : Nat) : ∀ m, (bst s ss k).size ≤ (bst s ss (k + m)).size
  | 0 => Nat.le_refl _
  | m + 1 => Nat.le_trans (bst_mono s ss k m) (step_mono s _ _)
theorem bst_fit {s : ByteArray} {ss : Nat → ByteArray} {k n : Nat} (hk : k < n) (h1 : (ss k).size < s.size) (h2 : ends s (ss k) = true) : (ss k).size ≤ (bst s ss n).size := by
  have h := step_fit (b := bst s ss k) h1 h2
  have h' := bst_mono s ss (k + 1) (n - (k + 1))
  rw [show k + 1 + (n - (k + 1)) = n by omega] at h'
  exact Nat.le_trans h h'
theorem bst_is (s : ByteArray) (ss : Nat → ByteArray) : ∀ n, 0 < (bst s ss n).size → (bst s ss n).size < s.size ∧ ends s (bst s ss n) = true
  | 0, h => absurd h (Nat.lt_irrefl 0)
  | n + 1, h => by
    rw [bst] at h ⊢
    unfold step at h ⊢
    split at h
    · rename_i hc; rw [if_pos hc]; exact hc.2
    · rename_i hc; rw [if_neg hc]; exact bst_is s ss n h

set_option maxRecDepth 100000 in
set_option maxHeartbeats 4000000 in
theorem suffix_walk (s : ByteArray) (A : Option Addr) (n c : Nat) (ss : Nat → ByteArray) (w : World) (hsm : s.size ≤ maxLen) (hnm : n ≤ maxLen) (hx : ∀ k, (ss k).size ≤ 9223372036854775807) (hS : Strs w A n ss) :
    Calls Try.prog 3 #[.string s, .slice A n c] w fun e w' => e = .returned (.bool true) ∧ ∃ m, w' = w.drewN m := by
  unfold maxLen at hsm hnm
  go_enter Try.func3, Try.ntmps3
  go_wp2_with fail
  refine (alive_any _).mono ?_
  rintro e w1 ⟨rfl, m1, rfl⟩
  by_cases hs : s.size ≤ 100
  · by_cases hn : n ≤ 30
    · go_wp2_with fail
      refine (Suffix_any s A n c ss _ (by omega) (by omega) hx (hS.drewN _)).mono ?_
      rintro e w1 ⟨rfl, m2, rfl⟩
      go_wp2_with fail
      refine (RefSuffix_any s A n c ss _ (by omega) (by omega) hx (hS.drewN _)).mono ?_
      rintro e w1 ⟨rfl, rfl⟩
      have HFIT : Hid (∀ k, k < n → (ss k).size < s.size → ends s (ss k) = true → (ss k).size ≤ (bst s ss n).size) := fun k hk h1 h2 => bst_fit hk h1 h2
      have HIS := Lib.hid (bst_is s ss n)
      have hble := bst_le s ss n
      generalize bst s ss n = B at *
      obtain ⟨O, hO⟩ : ∃ O, some_ B = O := ⟨_, rfl⟩
      rw [hO]
      have HO := Lib.hid hO
      clear hO
      go_wp2_with fail
      go_loopw [10] (fun i wr => ∃ (k m : Nat), i = .int .i64 k ∧ k ≤ n ∧ wr = w.drewN m) (fun i _ => n - (intOf i).toNat)
      case atStart => exact ⟨0, _, rfl, by omega, rfl⟩
      case round =>
        obtain ⟨k, m, rfl, hk, rfl⟩ := hrel
        by_cases hlt : k < n
        · obtain ⟨ad, rfl, hc⟩ := hS (by omega)
          have hck : (w.drewN m).cell? (ad.add k) = some (.string (ss k)) := hc k hlt
          have hsx := hx k
          have hfk := HFIT.out k hlt
          clear hc hx
          generalize ss k = x at *
          have HFK := Lib.hid hfk
          clear hfk
          have hm : n - (k + 1) < n - k := by omega
          by_cases c0 : x.toList.isEmpty = true
          · go_wp2_with fail
            exact ⟨⟨k + 1, m, rfl, by omega, rfl⟩, by simp [intOf]; omega⟩
          · have hxz : 0 < x.size := Nat.pos_of_ne_zero (fun h => c0 ((isEmpty_iff x).2 h))
            by_cases c1 : x.size < s.size
            · cases c2 : ends s x
              · go_wp2_with (go_at_call 8; refine (Ends_any s x _ (by omega)).mono ?_; rintro e w' ⟨rfl, rfl⟩)
                exact ⟨⟨k + 1, m, rfl, by omega, rfl⟩, by simp [intOf]; omega⟩
              · have hle : x.size ≤ B.size := HFK.out c1 c2
                have hok : O = true := by rw [← HO.out]; exact (some_iff B).2 (by omega)
                subst hok
                go_wp2_with (go_at_call 8; refine (Ends_any s x _ (by omega)).mono ?_; rintro e w' ⟨rfl, rfl⟩)
                exact ⟨⟨k + 1, m, rfl, by omega, rfl⟩, by simp [intOf]; omega⟩
            · go_wp2_with fail
              exact ⟨⟨k + 1, m, rfl, by omega, rfl⟩, by simp [intOf]; omega⟩
        · cases O
          · go_wp2_with fail
            go_ret
            exact ⟨rfl, _, rfl⟩
          · obtain ⟨h1, h2⟩ := HIS.out ((some_iff B).1 HO.out)
            go_wp2_with (go_at_call 8; refine (Ends_any s B _ (by omega)).mono ?_; rintro e w' ⟨rfl, rfl⟩)
            go_ret
            refine ⟨?_, _, rfl⟩
            simp
    · go_wp2_with fail
      go_ret
      exact ⟨rfl, _, rfl⟩
  · go_wp2_with fail
    go_ret
    exact ⟨rfl, _, rfl⟩
end Go.Proofs.Ytleflcpdaapddaa
