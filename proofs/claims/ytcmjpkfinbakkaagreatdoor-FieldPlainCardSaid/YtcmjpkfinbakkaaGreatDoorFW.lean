import Derived.Test.YtcmjpkfinbakkaaGreatDoorWVM
import Derived.Test.YtcmjpkfinbakkaaGreatDoorFG
namespace Go.Proofs.YtcmjpkfinbakkaaGreatDoor
open Go.RowKit Go.ChangeShapes Go.WideShapes
set_option linter.unusedVariables false
set_option maxRecDepth 100000

theorem new_write (w : World) : Calls Tryz.prog 14 #[.int .i64 3, .int .i64 3] w fun e w1 => ∃ f, e = .returned (.pointer (some ⟨f, 0, none⟩)) ∧ Below w.heap.size w w1 ∧
    Calls Tryz.prog 17 #[.pointer (some ⟨f, 0, none⟩), .string ⟨#[47, 97]⟩, .slice none 0 0, .bool false] w1 fun e w2 => (∃ x, e = .returned x) ∧ Below w.heap.size w w2 := by
  refine (Vf.New_sx 3 3 (by omega) (by omega) (by omega) (by omega) w).mono ?_
  rintro e w1 ⟨f, rfl, hS, hB⟩
  refine ⟨f, rfl, hB, ?_⟩
  have hp := Vf.path_a
  refine (Vf.Write_sx hS ⟨#[47, 97]⟩ hp.2.2 ?_ ?_ ?_ (by decide) [] none 0 ⟨none, 0, rfl, fun i h => absurd h (by simp)⟩ (fun a h => by cases h) (by simp) (by simp) (by simp)).mono ?_
  · rw [hp.2.1]; decide
  · rw [hp.1]; rfl
  · constructor <;> simp
  · rintro e w2 ⟨rfl, -, h⟩
    exact ⟨⟨_, rfl⟩, hB.trans h⟩
theorem one_str (w w' : World) (g : Nat) (s : ByteArray) (hg : g < w'.heap.size) (h : w'.cell? ⟨g, 0, none⟩ = some (.string s)) : Vf.StrsL w' (some ⟨g, 0, none⟩) [s.data.toList] := by
  intro _
  refine ⟨g, 0, rfl, hg, fun i hi => ?_⟩
  obtain rfl : i = 0 := by simp at hi; omega
  rw [h]; rfl
theorem all_gb (s : ByteArray) (h : ∀ j, j < s.size → Gb.spc (Gb.gb s j) = false) : ∀ c ∈ s.data.toList, Gb.spc c = false := by
  intro c hc
  obtain ⟨j, hj⟩ := List.mem_iff_getElem?.1 hc
  have hjl : j < s.size := by
    have := (List.getElem?_eq_some_iff.1 hj).1
    simpa using this
  have e : Gb.gb s j = c := by unfold Gb.gb; rw [List.getD_eq_getElem?_getD, hj]; rfl
  rw [← e]; exact h j hjl
theorem same1 (s : ByteArray) (g : Nat) (w : World) (hg : g < w.heap.size) (hc : w.cell? ⟨g, 0, none⟩ = some (.string s)) :
    Calls Tryz.prog 19 #[.slice (some ⟨g, 0, none⟩) 1 1, .slice (some ⟨w.heap.size, 0, none⟩) 1 1] (w.alloc (.cells #[.string s] 9)) fun e w' => e = .returned (.bool true) ∧ Below w.heap.size w w' := by
  have hb : Below w.heap.size w (w.alloc (.cells #[.string s] 9)) := (Below.refl _ _).alloc (Nat.le_refl _) _
  have hsz : w.heap.size < (w.alloc (.cells #[.string s] 9)).heap.size := by show w.heap.size < (w.heap.push _).size; rw [Array.size_push]; omega
  have h1 := one_str w (w.alloc (.cells #[.string s] 9)) g s (by omega) ((hb.cell (p := ⟨g, 0, none⟩) hg).trans hc)
  have h2 := one_str w (w.alloc (.cells #[.string s] 9)) w.heap.size s hsz (new_cell9 w _ _)
  refine (Vf.Same_any _ _ [s.data.toList] [s.data.toList] 1 1 _ (by simp) h1 h2 true (by unfold Hid; simp)).mono ?_
  rintro e w' ⟨rfl, m, rfl⟩
  exact ⟨rfl, below_drewN hb m⟩
def PpC (s : ByteArray) (k : Int) : Prop := ∀ (kf : Option Addr) (w : World),
    Calls Tryz.prog 20 #[.pointer kf, .string ⟨#[47]⟩, .slice (some ⟨w.heap.size, 0, none⟩) 1 1] (w.alloc (.cells #[.int .i64 k, .string s, .string ⟨#[]⟩, .string ⟨#[]⟩, .slice none 0 0, .bool false] 36)) fun e w' => ∃ g, e = .returned (.slice (some ⟨g, 0, none⟩) 1 1) ∧ g < w'.heap.size ∧ w'.cell? ⟨g, 0, none⟩ = some (.string s) ∧ Below w.heap.size w w'
theorem pp (s : ByteArray) (k : Int) (hs : s.size ≤ 100) (hk : -9223372036854775808 ≤ k ∧ k ≤ 9223372036854775807) (h : k ≠ 1 ∨ ∀ c ∈ s.data.toList, Gb.spc c = false) : PpC s k := by
  intro kf w
  have HB : Below w.heap.size w (w.alloc (.cells #[.int .i64 k, .string s, .string ⟨#[]⟩, .string ⟨#[]⟩, .slice none 0 0, .bool false] 36)) := (Below.refl _ _).alloc (Nat.le_refl _) _
  refine (paths_plain kf k s hs hk h _ 1 _ (Fd.lit_sl w k s)).mono ?_
  rintro e w' ⟨g, rfl, h1, h2, h3, h4⟩
  exact ⟨g, rfl, h2, h3, HB.trans (h4.mono HB.size)⟩
set_option maxHeartbeats 8000000 in
theorem fieldplain_walk (s : ByteArray) (q : Bool) (w : World) : Calls Tryz.prog 5 #[.string s, .bool q] w fun e w' => e = .returned (.bool true) ∧ Below w.heap.size w w' := by
  have HA := Lib.hid (Fd.alive_any w)
  by_cases hs : s.size ≤ 100
  · have hsI : ¬ (s.size : Int) > 100 := by omega
    have hNW : Hid (∀ w, Calls Tryz.prog 14 #[.int .i64 3, .int .i64 3] w fun e w1 => ∃ f, e = .returned (.pointer (some ⟨f, 0, none⟩)) ∧ Below w.heap.size w w1 ∧
      Calls Tryz.prog 17 #[.pointer (some ⟨f, 0, none⟩), .string ⟨#[47, 97]⟩, .slice none 0 0, .bool false] w1 fun e w2 => (∃ x, e = .returned x) ∧ Below w.heap.size w w2) := new_write
    cases q
    · go_enter Tryz.func5, Tryz.ntmps5
      go_wp2_with (go_at_call 13; refine HA.out.mono ?_; rintro e w1 ⟨rfl, h1⟩; have H1 := Lib.hid h1; clear h1; simp only [])
      go_loopw [6] (fun i wr => ∃ k : Nat, i = .int .i64 k ∧ k ≤ s.size ∧ wr = w1 ∧ Hid (∀ j, j < k → Gb.spc (Gb.gb s j) = false)) (fun i _ => s.size - (intOf i).toNat)
      case atStart => exact ⟨0, rfl, by omega, rfl, fun j h => by omega⟩
      case round =>
        obtain ⟨k, rfl, hk, rfl, HK⟩ := hrel
        by_cases hlt : k < s.size
        · have hltI : (k : Int) < (s.size : Int) := by omega
          have hgb := Gb.gb_eq s k hlt
          have HC : Hid (Gb.gb s k = Gb.gb s k) := rfl
          generalize hcc : Gb.gb s k = c at *
          have HCC := Lib.hid hcc
          clear HC hcc
          cases hc : Gb.spc c
          · have HS : Hid (∀ j, j < k + 1 → Gb.spc (Gb.gb s j) = false) := fun j hj => by
              by_cases e : j = k
              · rw [e, HCC.out, hc]
              · exact HK.out j (by omega)
            have hne : c.toNat ≠ 42 ∧ c.toNat ≠ 63 ∧ c.toNat ≠ 91 ∧ c.toNat ≠ 92 := by
              unfold Gb.spc at hc
              simp only [Bool.or_eq_false_iff, beq_eq_false_iff_ne] at hc
              exact ⟨fun h => hc.1.1.1 (UInt8.toNat.inj h), fun h => hc.1.1.2 (UInt8.toNat.inj h), fun h => hc.1.2 (UInt8.toNat.inj h), fun h => hc.2 (UInt8.toNat.inj h)⟩
            have c1 : ((c.toNat : Int) == 42) = false := by rw [beq_eq_false_iff_ne]; omega
            have c2 : ((c.toNat : Int) == 63) = false := by rw [beq_eq_false_iff_ne]; omega
            have c3 : ((c.toNat : Int) == 91) = false := by rw [beq_eq_false_iff_ne]; omega
            have c4 : ((c.toNat : Int) == 92) = false := by rw [beq_eq_false_iff_ne]; omega
            clear hc hne
            go_wp2_with fail
            exact ⟨⟨k + 1, by go_num, by omega, trivial, HS⟩, by simp [intOf]; omega⟩
          · have hcs : c = 42 ∨ c = 63 ∨ c = 91 ∨ c = 92 := by
              unfold Gb.spc at hc
              simpa [Bool.or_eq_true, or_assoc] using hc
            clear hc HCC
            rcases hcs with rfl | rfl | rfl | rfl
            all_goals
              go_wp2_with fail
              go_ret
              exact ⟨rfl, H1.out⟩
        · have hge : ¬ (k : Int) < (s.size : Int) := by omega
          obtain rfl : k = s.size := by omega
          have HP := Lib.hid (pp s 1 hs (by omega) (.inr (all_gb s HK.out)))
          clear HK
          go_wp2_with (first
            | (go_at_call 14; refine (hNW.out _).mono ?_; rintro e w2 ⟨f, rfl, h2, hw⟩; have H2 := Lib.hid (H1.out.trans (h2.mono H1.out.size)); have HW := Lib.hid (And.intro h2.size hw); clear h2 hw; simp only [])
            | (go_at_call 17; refine HW.out.2.mono ?_; rintro e w3 ⟨⟨x, rfl⟩, h3⟩; have H3 := Lib.hid (H1.out.trans (h3.mono H1.out.size)); clear h3; simp only [])
            | (go_at_call 20; refine (HP.out _ _).mono ?_; rintro e w4 ⟨g, rfl, g2, g3, h4⟩; have HG := Lib.hid (And.intro g2 g3); have H4 := Lib.hid (H3.out.trans (h4.mono H3.out.size)); clear g2 g3 h4; simp only [])
            | (go_at_call 19; refine (same1 s g w4 HG.out.1 HG.out.2).mono ?_; rintro e w5 ⟨rfl, h5⟩; have H5 := Lib.hid (H4.out.trans (h5.mono H4.out.size)); clear h5; simp only []))
          go_ret
          exact ⟨rfl, H5.out⟩
    · have HP := Lib.hid (pp s 2 hs (by omega) (.inl (by omega)))
      go_enter Tryz.func5, Tryz.ntmps5
      go_wp2_with (go_at_call 13; refine HA.out.mono ?_; rintro e w1 ⟨rfl, h1⟩; have H1 := Lib.hid h1; clear h1; simp only [])
      go_loopw [6] (fun i wr => i = .int .i64 0 ∧ wr = w1) (fun _ _ => 0)
      case atStart => exact ⟨rfl, rfl⟩
      case round =>
        obtain ⟨rfl, rfl⟩ := hrel
        by_cases hz : (0 : Int) < (s.size : Int)
        all_goals
          go_wp2_with (first
            | (go_at_call 14; refine (hNW.out _).mono ?_; rintro e w2 ⟨f, rfl, h2, hw⟩; have H2 := Lib.hid (H1.out.trans (h2.mono H1.out.size)); have HW := Lib.hid (And.intro h2.size hw); clear h2 hw; simp only [])
            | (go_at_call 17; refine HW.out.2.mono ?_; rintro e w3 ⟨⟨x, rfl⟩, h3⟩; have H3 := Lib.hid (H1.out.trans (h3.mono H1.out.size)); clear h3; simp only [])
            | (go_at_call 20; refine (HP.out _ _).mono ?_; rintro e w4 ⟨g, rfl, g2, g3, h4⟩; have HG := Lib.hid (And.intro g2 g3); have H4 := Lib.hid (H3.out.trans (h4.mono H3.out.size)); clear g2 g3 h4; simp only [])
            | (go_at_call 19; refine (same1 s g w4 HG.out.1 HG.out.2).mono ?_; rintro e w5 ⟨rfl, h5⟩; have H5 := Lib.hid (H4.out.trans (h5.mono H4.out.size)); clear h5; simp only []))
          go_ret
          exact ⟨rfl, H5.out⟩
  · have hsI : (s.size : Int) > 100 := by omega
    go_enter Tryz.func5, Tryz.ntmps5
    go_wp2_with (go_at_call 13; refine HA.out.mono ?_; rintro e w1 ⟨rfl, h1⟩; have H1 := Lib.hid h1; clear h1; simp only [])
    go_ret
    exact ⟨rfl, H1.out⟩
end Go.Proofs.YtcmjpkfinbakkaaGreatDoor
