import Derived.Test.YthpmdgkhpigofaaK
namespace Go.Proofs.Ythpmdgkhpigofaa
open Go.RowKit

theorem mB {p s : ByteArray} (h : Matches p s) : matchB p s = true := (matchB_iff p s).2 h
theorem sz3 {a b c : ByteArray} (ha : a.size ≤ 30) (hb : b.size ≤ 30) (hc : c.size ≤ 30) : (a ++ b ++ c).size ≤ 100000 := by rw [size_app, size_app]; omega
theorem sz2 {a b : ByteArray} (ha : a.size ≤ 30) (hb : b.size ≤ 30) : (a ++ b).size ≤ 100000 := by rw [size_app]; omega
theorem NoSet_star : NoSet ⟨#[42]⟩ := by intro c hc; simp at hc; subst hc; decide

set_option maxRecDepth 100000 in
set_option maxHeartbeats 4000000 in
theorem parts_in (a b s t : ByteArray) (ha : a.size ≤ 30) (hb : b.size ≤ 30) (hs : s.size ≤ 30) (ht : t.size ≤ 30) (w : World) :
    Calls Try.prog 7 #[.string a, .string b, .string s, .string t] w fun e w' => e = .returned (.bool true) ∧ Below w.heap.size w w' := by
  go_enter Try.func7, Try.ntmps7
  go_wp2_with fail
  refine (alive_any _).mono ?_
  rintro e w1 ⟨rfl, hB1⟩
  go_wp2_with fail
  go_loop [10] (fun i => ∃ k : Nat, i = .int .i64 k ∧ k ≤ a.size ∧ Hid (∀ j, j < k → gb a j ≠ 91 ∧ gb a j ≠ 92)) (fun i => a.size - (intOf i).toNat)
  case atStart => exact ⟨0, rfl, Nat.zero_le _, fun j h => by omega⟩
  case round =>
    obtain ⟨k, rfl, hk, HN⟩ := hrel
    by_cases hlt : k < a.size
    · have hbk := gb_eq a k hlt
      by_cases h91 : gb a k = 91
      · go_wp2_with fail
        go_ret
        exact ⟨rfl, hB1⟩
      · have h91' : (((gb a k).toNat : Int) == 91) = false := sz_ne (n := 91) (by decide) h91
        by_cases h92 : gb a k = 92
        · have h92' : (((gb a k).toNat : Int) == 92) = true := by rw [h92]; rfl
          clear h91 h92
          go_wp2_with fail
          go_ret
          exact ⟨rfl, hB1⟩
        · have h92' : (((gb a k).toNat : Int) == 92) = false := sz_ne (n := 92) (by decide) h92
          have HH : Hid (gb a k ≠ 91 ∧ gb a k ≠ 92) := ⟨h91, h92⟩
          clear h91 h92
          go_wp2_with fail
          go_round
          case rel =>
            refine ⟨k + 1, by go_num, hlt, fun j hj => ?_⟩
            by_cases e : j = k
            · rw [e]; exact HH.out
            · exact HN.out j (by omega)
          case measure => simp [intOf]; omega
    · have HS : Hid (NoSet a) := by
        intro c hc
        obtain ⟨j, hj, rfl⟩ := List.mem_iff_getElem.1 hc
        have hj' : j < a.size := by simpa using hj
        have hg : a.data.toList[j] = gb a j := by unfold gb; rw [List.getD_eq_getElem?_getD, List.getElem?_eq_getElem hj]; rfl
        rw [hg]
        exact HN.out j (by omega)
      clear HN
      go_wp2_with fail
      refine (Match_b _ _ _ (by omega) (by omega)).mono ?_
      rintro e w2 ⟨rfl, hB2⟩
      have hBa := hB1.trans (hB2.mono hB1.size)
      clear hB2
      cases hx : matchB a s
      · go_wp2_with fail
        refine (Match_b _ _ _ (by omega) (by omega)).mono ?_
        rintro e w3 ⟨rfl, hB3⟩
        have hBb := Lib.hid (hBa.trans (hB3.mono hBa.size))
        clear hB3 hBa
        cases hy : matchB b t
        · go_wp2_with fail
          go_ret
          exact ⟨rfl, hBb.out⟩
        · go_wp2_with fail
          go_ret
          exact ⟨rfl, hBb.out⟩
      · have HX := Lib.hid ((matchB_iff a s).1 hx)
        go_wp2_with fail
        refine (Match_b _ _ _ (by omega) (by omega)).mono ?_
        rintro e w3 ⟨rfl, hB3⟩
        have hBb := hBa.trans (hB3.mono hBa.size)
        clear hB3 hBa
        cases hy : matchB b t
        · have HB := Lib.hid hBb
          go_wp2_with fail
          go_ret
          exact ⟨rfl, HB.out⟩
        · have HY := Lib.hid ((matchB_iff b t).1 hy)
          clear hx hy
          go_wp2_with fail
          refine (Match_b _ _ _ (sz2 ha hb) (sz2 hs ht)).mono ?_
          rintro e w4 ⟨rfl, hB4⟩
          have hBc := hBb.trans (hB4.mono hBb.size)
          clear hB4 hBb
          rw [mB (Matches_app HS.out HX.out HY.out)]
          go_wp2_with fail
          refine (Match_b _ _ _ (by rw [size_app, size_app, show (⟨#[42]⟩ : ByteArray).size = 1 from rfl]; omega) (by rw [size_app, size_app, show (⟨#[46, 46, 46]⟩ : ByteArray).size = 3 from rfl]; omega)).mono ?_
          rintro e w5 ⟨rfl, hB5⟩
          have hBd := hBc.trans (hB5.mono hBc.size)
          clear hB5 hBc
          rw [mB (Matches_app (NoSet_app HS.out NoSet_star) (Matches_dots a s ⟨#[46, 46, 46]⟩ HS.out HX.out) HY.out)]
          go_wp2_with fail
          refine (Match_b _ _ _ (by decide) (by omega)).mono ?_
          rintro e w6 ⟨rfl, hB6⟩
          have hBe := hBd.trans (hB6.mono hBd.size)
          clear hB6 hBd
          rw [mB (Matches_star s)]
          go_wp2_with fail
          refine (Match_b _ _ _ (by rw [size_app, show (⟨#[42, 42]⟩ : ByteArray).size = 2 from rfl]; omega) (by omega)).mono ?_
          rintro e w7 ⟨rfl, hB7⟩
          have hBf := Lib.hid (hBe.trans (hB7.mono hBe.size))
          clear hB7 hBe
          rw [mB (Matches_two a s HS.out HX.out)]
          go_wp2_with fail
          go_ret
          exact ⟨rfl, hBf.out⟩

set_option maxRecDepth 100000 in
set_option maxHeartbeats 1000000 in
theorem parts_walk (a b s t : ByteArray) (_ha : a.size ≤ maxLen) (_hb : b.size ≤ maxLen) (_hs : s.size ≤ maxLen) (_ht : t.size ≤ maxLen) (w : World) :
    Calls Try.prog 7 #[.string a, .string b, .string s, .string t] w fun e w' => e = .returned (.bool true) ∧ Below w.heap.size w w' := by
  by_cases h1 : a.size ≤ 30
  · by_cases h2 : b.size ≤ 30
    · by_cases h3 : s.size ≤ 30
      · by_cases h4 : t.size ≤ 30
        · exact parts_in a b s t h1 h2 h3 h4 w
        · have h4' : (30 : Int) < (t.size : Int) := by omega
          go_enter Try.func7, Try.ntmps7
          go_wp2_with (go_at_call 10; refine (alive_any _).mono ?_; rintro e w1 ⟨rfl, hB1⟩)
          go_ret
          exact ⟨rfl, hB1⟩
      · have h3' : (30 : Int) < (s.size : Int) := by omega
        go_enter Try.func7, Try.ntmps7
        go_wp2_with (go_at_call 10; refine (alive_any _).mono ?_; rintro e w1 ⟨rfl, hB1⟩)
        go_ret
        exact ⟨rfl, hB1⟩
    · have h2' : (30 : Int) < (b.size : Int) := by omega
      go_enter Try.func7, Try.ntmps7
      go_wp2_with (go_at_call 10; refine (alive_any _).mono ?_; rintro e w1 ⟨rfl, hB1⟩)
      go_ret
      exact ⟨rfl, hB1⟩
  · have h1' : (30 : Int) < (a.size : Int) := by omega
    go_enter Try.func7, Try.ntmps7
    go_wp2_with (go_at_call 10; refine (alive_any _).mono ?_; rintro e w1 ⟨rfl, hB1⟩)
    go_ret
    exact ⟨rfl, hB1⟩
end Go.Proofs.Ythpmdgkhpigofaa
