import Derived.Test.YtpgaeldjiiaoiaaXL
namespace Go.Proofs.Ytpgaeldjiiaoiaa
open Go.RowKit
set_option linter.unusedVariables false

def frontS (s p : ByteArray) (most : Bool) : ByteArray := s.extract (offK s (pat p) most) s.size
def backS (s p : ByteArray) (most : Bool) : ByteArray := s.extract 0 (s.size - offK (revB s) (pat p).reverse most)
theorem ex_back : backS ⟨#[97, 46, 98, 46, 99]⟩ ⟨#[46, 42]⟩ false = ⟨#[97, 46, 98]⟩ := by decide +kernel
theorem ex_front : frontS ⟨#[97, 46, 98]⟩ ⟨#[42, 46]⟩ false = ⟨#[98]⟩ := by decide +kernel
set_option maxRecDepth 100000 in
theorem alive_any (w : World) : Calls Try.prog 6 #[] w fun e w' => e = .returned (.bool true) ∧ Below w.heap.size w w' := by
  have h1 := fun w => Back_any ⟨#[97, 46, 98, 46, 99]⟩ ⟨#[46, 42]⟩ false w (by decide) (by decide)
  have h2 := fun w => Front_any ⟨#[97, 46, 98]⟩ ⟨#[42, 46]⟩ false w (by decide) (by decide)
  have e1 := ex_back
  have e2 := ex_front
  unfold backS at e1
  unfold frontS at e2
  rw [e1] at h1
  rw [e2] at h2
  have H1 := Lib.hid h1
  have H2 := Lib.hid h2
  clear h1 h2 e1 e2
  go_enter Try.func6, Try.ntmps6
  go_wp2_with fail
  refine (H1.out _).mono ?_
  rintro e w1 ⟨rfl, hB1⟩
  have HB1 := Lib.hid hB1
  clear hB1
  simp only []
  go_wp2_with fail
  refine (H2.out _).mono ?_
  rintro e w2 ⟨rfl, hB2⟩
  have HB2 := Lib.hid (HB1.out.trans (hB2.mono HB1.out.size))
  clear hB2
  simp only []
  go_wp2_with fail
  go_ret
  exact ⟨rfl, HB2.out⟩
set_option maxRecDepth 100000 in
set_option maxHeartbeats 4000000 in
theorem takes_walk (s p : ByteArray) (hs0 : s.size ≤ maxLen) (hp0 : p.size ≤ maxLen) (W : World) :
    Calls Try.prog 3 #[.string s, .string p] W fun e W' => e = .returned (.bool true) ∧ Below W.heap.size W W' := by
  by_cases c0 : (60 : Int) < (s.size : Int)
  case pos =>
    go_enter Try.func3, Try.ntmps3
    go_wp2_with fail
    refine (alive_any _).mono ?_
    rintro e w1 ⟨rfl, hB1⟩
    have HB1 := Lib.hid hB1
    clear hB1
    simp only []
    go_wp2_with fail
    go_ret
    exact ⟨rfl, HB1.out⟩
  by_cases c1 : (40 : Int) < (p.size : Int)
  case pos =>
    go_enter Try.func3, Try.ntmps3
    go_wp2_with fail
    refine (alive_any _).mono ?_
    rintro e w1 ⟨rfl, hB1⟩
    have HB1 := Lib.hid hB1
    clear hB1
    simp only []
    go_wp2_with fail
    go_ret
    exact ⟨rfl, HB1.out⟩
  have hs : s.size ≤ 100000 := by omega
  have hp : p.size ≤ 100000 := by omega
  have F1 := Lib.hid (fun most w => Front_any s p most w hp hs)
  have F2 := Lib.hid (fun most w => RefFront_any s p most w hp hs)
  have G1 := Lib.hid (fun most w => Back_any s p most w hp hs)
  have G2 := Lib.hid (fun most w => RefBack_any s p most w hp hs)
  obtain ⟨X, hX⟩ : ∃ X : Bool → ByteArray, X = frontS s p := ⟨_, rfl⟩
  obtain ⟨Y, hY⟩ : ∃ Y : Bool → ByteArray, Y = backS s p := ⟨_, rfl⟩
  have eX : ∀ m, s.extract (offK s (pat p) m) s.size = X m := fun m => by rw [hX]; rfl
  have eY : ∀ m, s.extract 0 (s.size - offK (revB s) (pat p).reverse m) = Y m := fun m => by rw [hY]; rfl
  simp only [eX] at F1 F2
  simp only [eY] at G1 G2
  have c0' : (s.size : Int) ≤ 60 := by omega
  have c1' : (p.size : Int) ≤ 40 := by omega
  clear hX hY eX eY hs hp hs0 hp0
  go_enter Try.func3, Try.ntmps3
  go_wp2_with fail
  refine (alive_any _).mono ?_
  rintro e w1 ⟨rfl, hB1⟩
  have HB1 := Lib.hid hB1
  clear hB1
  simp only []
  go_wp2_with fail
  go_loopw [6] (fun i wr => ∃ k : Nat, k ≤ 2 ∧ i = .int .i64 k ∧ Hid (Below W.heap.size W wr)) (fun i _ => 2 - (intOf i).toNat)
  case atStart => exact ⟨0, by omega, rfl, HB1.out⟩
  case round =>
    obtain ⟨k, hk, rfl, HB⟩ := hrel
    have hk3 : k = 0 ∨ k = 1 ∨ k = 2 := by omega
    rcases hk3 with rfl | rfl | rfl
    · go_wp2_with fail
      refine (F1.out _ _).mono ?_
      rintro e w2 ⟨rfl, hB2⟩
      have HB2 := Lib.hid (HB.out.trans (hB2.mono HB.out.size))
      clear hB2
      simp only []
      go_wp2_with fail
      refine (F2.out _ _).mono ?_
      rintro e w3 ⟨rfl, hB3⟩
      have HB3 := Lib.hid (HB2.out.trans (hB3.mono HB2.out.size))
      clear hB3
      simp only []
      go_wp2_with fail
      refine (G1.out _ _).mono ?_
      rintro e w4 ⟨rfl, hB4⟩
      have HB4 := Lib.hid (HB3.out.trans (hB4.mono HB3.out.size))
      clear hB4
      simp only []
      go_wp2_with fail
      refine (G2.out _ _).mono ?_
      rintro e w5 ⟨rfl, hB5⟩
      have HB5 := Lib.hid (HB4.out.trans (hB5.mono HB4.out.size))
      clear hB5
      simp only []
      go_wp2_with fail
      exact ⟨⟨1, by omega, rfl, HB5.out⟩, by simp [intOf]⟩
    · go_wp2_with fail
      refine (F1.out _ _).mono ?_
      rintro e w2 ⟨rfl, hB2⟩
      have HB2 := Lib.hid (HB.out.trans (hB2.mono HB.out.size))
      clear hB2
      simp only []
      go_wp2_with fail
      refine (F2.out _ _).mono ?_
      rintro e w3 ⟨rfl, hB3⟩
      have HB3 := Lib.hid (HB2.out.trans (hB3.mono HB2.out.size))
      clear hB3
      simp only []
      go_wp2_with fail
      refine (G1.out _ _).mono ?_
      rintro e w4 ⟨rfl, hB4⟩
      have HB4 := Lib.hid (HB3.out.trans (hB4.mono HB3.out.size))
      clear hB4
      simp only []
      go_wp2_with fail
      refine (G2.out _ _).mono ?_
      rintro e w5 ⟨rfl, hB5⟩
      have HB5 := Lib.hid (HB4.out.trans (hB5.mono HB4.out.size))
      clear hB5
      simp only []
      go_wp2_with fail
      exact ⟨⟨2, by omega, rfl, HB5.out⟩, by simp [intOf]⟩
    · go_wp2_with fail
      go_ret
      exact ⟨rfl, HB.out⟩
end Go.Proofs.Ytpgaeldjiiaoiaa
