import Derived.Test.YtleflcpdaapddaaG
namespace Go.Proofs.Ytleflcpdaapddaa
open Go.RowKit

theorem swp_back {s x t : ByteArray} (h : ends s x = true) : swp (swp s x t) t x = s := by
  have hle := ends_le h
  have h1 : swp s x t = s.extract 0 (s.size - x.size) ++ t := by unfold swp; rw [if_pos h]
  have hx : (s.extract (s.size - x.size) s.size).toList = x.toList := by
    unfold ends at h; simp at h; exact h.2
  rw [Lib.extract_toList, Lib.toList_data] at hx
  rw [h1]
  generalize hp : s.extract 0 (s.size - x.size) = p
  have hpd : p.data.toList = s.data.toList.take (s.size - x.size) := by
    rw [← hp, ← Lib.toList_data, Lib.extract_toList]; simp
  have hends : ends (p ++ t) t = true := by
    unfold ends
    simp only [Bool.and_eq_true, decide_eq_true_eq, beq_iff_eq]
    refine ⟨by simp, ?_⟩
    rw [Lib.extract_toList, Lib.toList_data]
    simp
    exact List.take_of_length_le (by simp)
  unfold swp
  rw [if_pos hends]
  have : (p ++ t).extract 0 ((p ++ t).size - t.size) = p := by
    apply ByteArray.ext
    apply Array.toList_inj.1
    rw [← Lib.toList_data, Lib.extract_toList]
    simp
  rw [this]
  apply ByteArray.ext
  apply Array.toList_inj.1
  simp only [ByteArray.data_append, Array.toList_append]
  have hl : s.data.toList.length = s.size := by simp
  rw [hpd, ← hx, List.take_of_length_le (l := List.drop _ _) (by rw [List.length_drop, hl]; omega), List.take_append_drop]

theorem swp_le (s x t : ByteArray) : (swp s x t).size ≤ s.size + t.size := by
  unfold swp; split
  · simp
  · omega

theorem Strs.congr {w : World} {A : Option Addr} {n : Nat} {f g : Nat → ByteArray} (h : Strs w A n f) (e : ∀ i, i < n → f i = g i) : Strs w A n g := by
  intro hn
  obtain ⟨ad, ea, hc⟩ := h hn
  exact ⟨ad, ea, fun i hi => by rw [← e i hi]; exact hc i hi⟩

set_option maxRecDepth 100000 in
set_option maxHeartbeats 4000000 in
theorem swap_walk (ad : Addr) (n c : Nat) (ss : Nat → ByteArray) (x t : ByteArray) (w : World) (hnm : n ≤ maxLen) (hxm : x.size ≤ maxLen) (htm : t.size ≤ maxLen) (hs : ∀ k, (ss k).size ≤ 140737488355328) (hS : Strs w (some ad) n ss) :
    Calls Try.prog 4 #[.slice (some ad) n c, .string x, .string t] w fun e w' => e = .returned (.bool true) ∧ Below w.heap.size w w' := by
  unfold maxLen at hnm hxm htm
  obtain ⟨i9, hi9, hz9, hs9, hb9⟩ := info_parts info9
  go_enter Try.func4, Try.ntmps4
  go_wp2_with fail
  refine (alive_any _).mono ?_
  rintro e w1 ⟨rfl, m1, rfl⟩
  by_cases hn : n ≤ 40
  · by_cases hx : x.size ≤ 40
    · by_cases ht : t.size ≤ 40
      · have HSX := Lib.hid hS
        have hbn : w.heap.size ≤ (w.drewN m1).heap.size := Nat.le_refl _
        go_wp2_with (at_builtin; refine wpList_append_own _ rfl _ _ 22 rfl w.heap.size 9 i9 (.string ⟨#[]⟩) 1 16 Try.underlying22 hi9 hz9 hs9 hb9 rfl (by decide) _ 0 [] rfl (World.ownsRow_nil _ _ _ _) ad n c (row n ss) rfl ?c1 ?c2 ?c3 ?c4 ?c5 ?c6 ?_)
        case c1 => simp [row]
        case c2 =>
          intro j u hj
          by_cases hjn : j < n
          · rw [row_at ss hjn] at hj
            injection hj with hj
            subst hj
            obtain ⟨ad', e, hc⟩ := HSX.out (by omega)
            injection e with e
            subst e
            exact hc j hjn
          · rw [List.getElem?_eq_none (by simp [row]; omega)] at hj
            cases hj
        case c3 =>
          intro u hu
          simp only [row, List.mem_map] at hu
          obtain ⟨j, _, rfl⟩ := hu
          rfl
        case c4 => unfold maxLen; omega
        case c5 => omega
        case c6 => exact hbn
        intro v' w1 hown hg _
        have hB1 : Below w.heap.size w w1 := (below_drewN (Below.refl _ w) m1).grown hg hbn (fun k h => by cases h)
        obtain ⟨A1, c1, rfl, hS1⟩ := own_strs hown
        clear hown hg
        go_wp2_with fail
        refine (Swap_any A1 n c1 ss x t _ (by omega) (fun k => Nat.le_trans (hs k) (by omega)) (by omega) hS1).mono ?_
        rintro e w2 ⟨A2, c2, rfl, hS2, hB2⟩
        have hBw2 : Below w.heap.size w w2 := hB1.trans (hB2.mono hB1.size)
        have hSl2 := hS.below hBw2 (Nat.le_refl _)
        go_wp2_with fail
        refine (RefSwap_any (some ad) n c ss x t _ (by omega) (fun k => Nat.le_trans (hs k) (by omega)) (by omega) hSl2).mono ?_
        rintro e w3 ⟨A3, c3, rfl, hS3, hB3⟩
        have hBw3 : Below w.heap.size w w3 := hBw2.trans (hB3.mono hBw2.size)
        have hSl3 := hS.below hBw3 (Nat.le_refl _)
        have hS23 := hS2.below hB3 (Nat.le_refl _)
        clear hS1 hS2 hSl2 hB1 hB2 hB3 hBw2
        go_wp2_with fail
        refine (Same_any A2 A3 n c2 c3 _ _ (by omega) hS23 hS3).mono ?_
        rintro e w4 ⟨rfl, m4, rfl⟩
        have HSL := Lib.hid hSl3
        have HSA := Lib.hid hS23
        have HB := Lib.hid hBw3
        clear hS3 hSl3 hS23 hBw3
        go_wp2_with fail
        go_loopw [9] (fun i wr => ∃ (k m : Nat), i = .int .i64 k ∧ k ≤ n ∧ wr = w3.drewN m ∧ Hid (∀ j, j < k → ends (ss j) x = true)) (fun i _ => n - (intOf i).toNat)
        case atStart => exact ⟨0, _, rfl, by omega, rfl, fun j hj => absurd hj (by omega)⟩
        case round =>
          obtain ⟨k, m, rfl, hk, rfl, HE⟩ := hrel
          by_cases hlt : k < n
          · obtain ⟨ad', e, hc⟩ := HSL.out (by omega)
            injection e with e
            subst e
            have hck : (w3.drewN m).cell? (ad.add k) = some (.string (ss k)) := hc k hlt
            have hsk := hs k
            clear hc
            cases he : ends (ss k) x
            · go_wp2_with (go_at_call 8; refine (Ends_any (ss k) x _ (by omega)).mono ?_; rintro e w' ⟨rfl, rfl⟩)
              go_ret
              exact ⟨rfl, below_drewN HB.out _⟩
            · have HE' : Hid (∀ j, j < k + 1 → ends (ss j) x = true) := by
                intro j hj
                by_cases hjk : j < k
                · exact HE.out j hjk
                · rw [show j = k by omega]; exact he
              go_wp2_with (go_at_call 8; refine (Ends_any (ss k) x _ (by omega)).mono ?_; rintro e w' ⟨rfl, rfl⟩)
              exact ⟨⟨k + 1, m, rfl, by omega, rfl, HE'⟩, by simp [intOf]; omega⟩
          · go_wp2_with fail
            refine (Swap_any A2 n c2 _ t x _ (by omega) (fun k => Nat.le_trans (swp_le (ss k) x t) (by have := hs k; omega)) (by omega) (HSA.out.drewN m)).mono ?_
            rintro e w5 ⟨A5, c5, rfl, hS5, hB5⟩
            have hB' : Below w.heap.size w (w3.drewN m) := below_drewN HB.out m
            have hBw5 : Below w.heap.size w w5 := hB'.trans (hB5.mono hB'.size)
            have hkn : k = n := by omega
            have hS5' : Strs w5 A5 n ss := hS5.congr fun i hi => swp_back (HE.out i (by omega))
            have hSl5 := hS.below hBw5 (Nat.le_refl _)
            clear hS5 hB5 hB'
            go_wp2_with fail
            refine (Same_any A5 (some ad) n c5 c ss _ (by omega) hS5' hSl5).mono ?_
            rintro e w6 ⟨rfl, m6, rfl⟩
            go_wp2_with fail
            go_ret
            exact ⟨rfl, below_drewN hBw5 _⟩
      · go_wp2_with fail
        go_ret
        exact ⟨rfl, below_drewN (Below.refl _ _) _⟩
    · go_wp2_with fail
      go_ret
      exact ⟨rfl, below_drewN (Below.refl _ _) _⟩
  · go_wp2_with fail
    go_ret
    exact ⟨rfl, below_drewN (Below.refl _ _) _⟩
end Go.Proofs.Ytleflcpdaapddaa
