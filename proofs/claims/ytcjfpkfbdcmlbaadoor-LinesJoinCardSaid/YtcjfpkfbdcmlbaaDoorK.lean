import Derived.Test.YtcjfpkfbdcmlbaaDoorJ
namespace Go.Proofs.YtcjfpkfbdcmlbaaDoor
open Go.RowKit
set_option linter.unusedVariables false

/-- What both readers answer, as one. -/
def readX (s : Bs) : Int × List LN := if 16384 < s.length then (3, []) else if (0 : UInt8) ∈ s then (2, []) else (0, readL (phys s))
def ReadS (w0 : World) (s : Bs) (e : Ending) (w' : World) : Prop :=
  ∃ v L c, e = .returned (.tuple #[v, .int .i64 c]) ∧ Ls w0 w' v L ∧ (c, L.map LB.ln) = readX s ∧ L.length ≤ 17000
theorem ReadR.same {w0 w' : World} {s : Bs} {e : Ending} (h : ReadR w0 s e w') : ReadS w0 s e w' := by
  obtain ⟨h1, hb⟩ := h
  rcases h1 with ⟨h2, rfl⟩ | ⟨⟨h2, h3⟩, rfl⟩ | ⟨⟨h2, h3⟩, v, L, rfl, hL, he, hl⟩
  · refine ⟨_, [], 3, rfl, ⟨World.ownsRow_nil _ _ _ _, hb⟩, ?_, by simp⟩
    unfold readX; rw [if_pos h2]; rfl
  · refine ⟨_, [], 2, rfl, ⟨World.ownsRow_nil _ _ _ _, hb⟩, ?_, by simp⟩
    unfold readX; rw [if_neg (by omega), if_pos h3]; rfl
  · refine ⟨v, L, 0, rfl, hL, ?_, hl⟩
    unfold readX; rw [if_neg (by omega), if_neg h3, he]
theorem readX_ok {s : Bs} (h1 : s.length ≤ 16384) (h2 : (0 : UInt8) ∉ s) : readX s = (0, readL (phys s)) := by
  unfold readX; rw [if_neg (by omega), if_neg h2]
theorem read_s (s : ByteArray) (m : Int) (w : World) (hs : s.size ≤ 9223372036854775807) (hm : w.cell? ⟨0, 0, none⟩ = some (.int .i64 m)) : Calls Tryd.prog 7 #[.string s] w (ReadS w s.data.toList) :=
  Calls.mono (Read_any s m w hs hm) fun _ _ h => h.same
theorem lines_s (s : ByteArray) (w : World) (hs : s.size ≤ 9223372036854775807) : Calls Tryd.prog 8 #[.string s] w (ReadS w s.data.toList) :=
  Calls.mono (Lines_any s w hs) fun _ _ h => h.same
theorem alive_val : readX [97, 32, 92, 10, 98, 32, 35, 32, 99] = (0, [(false, [97, 32, 98])]) := by
  rw [readX_ok (by decide) (by decide)]
  rw [show phys [97, 32, 92, 10, 98, 32, 35, 32, 99] = [[97, 32, 92], [98, 32, 35, 32, 99]] by decide, readL_not (by decide)]
  rw [show goN [97, 32, 92] [[98, 32, 35, 32, 99]] = ([97, 32, 98, 32, 35, 32, 99], []) by decide]
  have e : cmt [97, 32, 98, 32, 35, 32, 99] = [97, 32, 98, 32] := by simp [cmt]
  simp only [fin, e]
  decide
set_option maxRecDepth 100000 in
set_option maxHeartbeats 4000000 in
theorem alive_any (m : Int) (w : World) (hm : w.cell? ⟨0, 0, none⟩ = some (.int .i64 m)) : Calls Tryd.prog 6 #[] w fun e w' => e = .returned (.bool true) ∧ Below w.heap.size w w' := by
  have HR : Hid (Calls Tryd.prog 7 #[.string ⟨#[97, 32, 92, 10, 98, 32, 35, 32, 99]⟩] w (ReadS w [97, 32, 92, 10, 98, 32, 35, 32, 99])) := read_s _ m w (by decide) hm
  clear hm
  go_enter Tryd.func6, Tryd.ntmps6
  go_wp2_with (go_at_call 7; refine HR.out.mono ?_)
  rintro e w5 ⟨v, L, c, rfl, hL, he, _⟩
  rw [alive_val] at he
  injection he with hc hl
  subst hc
  have hLL : L = [(⟨false, ⟨#[97, 32, 98]⟩⟩ : LB)] := ln_inj hl
  subst hLL
  obtain ⟨a, c, rfl, hcells⟩ := hL.sl.form
  obtain ⟨b, off, rfl, _, q0, q1⟩ := hcells 0 (by simp)
  have HB := Lib.hid hL.old
  have HN := Lib.hid (fun w => num_any 0 w)
  simp only [List.getElem_cons_zero, Nat.zero_mul, Nat.add_zero] at q0 q1
  clear hL hcells hl
  simp only [List.length_singleton]
  go_wp2_with (go_at_call 9; refine (HN.out _).mono ?_; rintro e w7 ⟨rfl, h7⟩; obtain rfl := h7.symm; simp only [])
  go_ret
  exact ⟨rfl, HB.out⟩
set_option maxRecDepth 100000 in
set_option maxHeartbeats 8000000 in
theorem read_walk (s : ByteArray) (W : World) (hs : s.size ≤ maxLen) (hmm : ∃ m, W.cell? ⟨0, 0, none⟩ = some (.int .i64 m)) : Calls Tryd.prog 3 #[.string s] W fun e w' => e = .returned (.bool true) ∧ Below W.heap.size W w' := by
  obtain ⟨m, hm⟩ := hmm
  have hs : s.size ≤ 9223372036854775807 := by unfold maxLen at hs; omega
  have hkeep : ∀ w', Below W.heap.size W w' → w'.cell? ⟨0, 0, none⟩ = some (.int .i64 m) := fun w' hb => (hb.cell (p := ⟨0, 0, none⟩) (World.block_lt_of_cell? W _ hm)).trans hm
  have HA := Lib.hid (alive_any m W hm)
  by_cases hstop : (2000 < s.size ∧ s.size ≤ 16384) ∨ 16393 < s.size
  · have d1 : decide ((2000 : Int) < (s.size : Int)) = true := decide_eq_true (by omega)
    clear hm hkeep
    by_cases h2 : s.size ≤ 16384
    · have d2 : decide ((s.size : Int) ≤ 16384) = true := decide_eq_true (by omega)
      clear hstop
      go_enter Tryd.func3, Tryd.ntmps3
      go_wp2_with (go_at_call 6; refine HA.out.mono ?_; rintro e w5 ⟨rfl, h5⟩; have HB := Lib.hid h5; clear h5; simp only [])
      go_ret
      exact ⟨rfl, HB.out⟩
    · have d2 : decide ((s.size : Int) ≤ 16384) = false := decide_eq_false (by omega)
      have d3 : decide ((16393 : Int) < (s.size : Int)) = true := decide_eq_true (by omega)
      clear hstop h2
      go_enter Tryd.func3, Tryd.ntmps3
      go_wp2_with (go_at_call 6; refine HA.out.mono ?_; rintro e w5 ⟨rfl, h5⟩; have HB := Lib.hid h5; clear h5; simp only [])
      go_ret
      exact ⟨rfl, HB.out⟩
  have hs2 : s.size ≤ 16393 := by omega
  have d3 : decide ((16393 : Int) < (s.size : Int)) = false := decide_eq_false (by omega)
  have HR : Hid (∀ w', Below W.heap.size W w' → Calls Tryd.prog 7 #[.string s] w' (ReadS w' s.data.toList)) := fun w' hb => read_s s m w' hs (hkeep w' hb)
  have HL : Hid (∀ w', Calls Tryd.prog 8 #[.string s] w' (ReadS w' s.data.toList)) := fun w' => lines_s s w' hs
  have HW1 : Hid (∀ w', Calls Tryd.prog 12 #[.string s] w' (WordsP w' s)) := fun w' => Words_any s w' (by omega)
  have HW2 : Hid (∀ w', Calls Tryd.prog 13 #[.string s] w' (WordsP w' s)) := fun w' => RefWords_any s w' (by omega)
  have hwl : (wordsB s).length ≤ 100000 := by
    have : ∀ (f pos : Nat) (st : Option Nat) (acc : List (Nat × Nat)), (stepB s f pos st acc).1.length ≤ acc.length + f := by
      intro f
      induction f with
      | zero => intro pos st acc; exact Nat.le_refl _
      | succ f ih =>
        intro pos st acc
        rw [stepB_succ]
        split
        · have := ih (pos + 1) none (clS st pos acc)
          have h2 : (clS st pos acc).length ≤ acc.length + 1 := by unfold clS; cases st <;> simp
          omega
        · have := ih (pos + 1) (some (st.getD pos)) acc
          omega
    have h1 := this s.size 0 none []
    unfold wordsB Lib.closeSpans
    rw [List.length_map]
    simp only [List.length_nil] at h1
    cases (stepB s s.size 0 none []).2 with
    | none => simp only; omega
    | some a => simp only [List.length_append, List.length_singleton]; omega
  have HWL := Lib.hid hwl
  have key : Calls Tryd.prog 3 #[.string s] W fun e w' => e = .returned (.bool true) ∧ Below W.heap.size W w' := by
    have d12 : (decide ((2000 : Int) < (s.size : Int)) = false) ∨ (decide ((2000 : Int) < (s.size : Int)) = true ∧ decide ((s.size : Int) ≤ 16384) = false) := by
      by_cases h : s.size ≤ 2000
      · exact .inl (decide_eq_false (by omega))
      · exact .inr ⟨decide_eq_true (by omega), decide_eq_false (by omega)⟩
    clear hm hkeep hstop hwl hs
    rcases d12 with d1 | ⟨d1, d2⟩
    all_goals
      go_enter Tryd.func3, Tryd.ntmps3
      go_wp2_with (first
        | (go_at_call 6; refine HA.out.mono ?_; rintro e w5 ⟨rfl, h5⟩; have HB := Lib.hid h5; clear h5; simp only [])
        | (go_at_call 7; refine (HR.out _ HB.out).mono ?_))
      rintro e w6 ⟨v, L, c, rfl, hL, he, hll⟩
      have HB6 := Lib.hid (HB.out.trans (hL.old.mono HB.out.size))
      have HS := Lib.hid hL.sl
      have HE := Lib.hid he
      clear hL he
      simp only []
      go_wp2_with (go_at_call 8; refine (HL.out _).mono ?_)
      rintro e w7 ⟨v2, L2, c2, rfl, hL2, he2, _⟩
      rw [← HE.out] at he2
      injection he2 with hc hl
      subst hc
      have hLL := ln_inj hl
      subst hLL
      have HB7 := Lib.hid (HB6.out.trans (hL2.old.mono HB6.out.size))
      have HSL : Hid (Calls Tryd.prog 10 #[v, v2] w7 fun e w' => e = .returned (.bool true) ∧ ∃ n, w' = w7.drewN n) := SameLines_any v v2 L2 w7 (by omega) (HS.out.below hL2.old) hL2.sl
      have HN := Lib.hid (fun w => num_any c2 w)
      clear hL2 hl HE HS
      simp only []
      go_wp2_with (first
        | (go_at_call 9; refine (HN.out _).mono ?_; rintro e w8 ⟨rfl, h8⟩; obtain rfl := h8.symm; simp only [])
        | (go_at_call 10; refine HSL.out.mono ?_; rintro e w9 ⟨rfl, n9, hn9⟩; have HB9 : Hid (Below W.heap.size W w9) := (by rw [hn9]; exact HB7.out.trans ((drew_below _ _).mono HB7.out.size)); clear hn9; simp only [])
        | (go_at_call 12; refine (HW1.out _).mono ?_))
      rintro e w10 ⟨v3, rfl, h3⟩
      have HB10 := Lib.hid (HB9.out.trans (h3.old.mono HB9.out.size))
      have HT3 := Lib.hid h3.txt
      clear h3
      simp only []
      go_wp2_with (go_at_call 13; refine (HW2.out _).mono ?_)
      rintro e w11 ⟨v4, rfl, h4⟩
      have HB11 := Lib.hid (HB10.out.trans (h4.old.mono HB10.out.size))
      have HSS : Hid (Calls Tryd.prog 11 #[v3, v4] w11 fun e w' => e = .returned (.bool true) ∧ ∃ n, w' = w11.drewN n) := SameStrings_any v3 v4 (wordsB s) w11 HWL.out (HT3.out.below h4.old) h4.txt
      clear h4
      simp only []
      go_wp2_with (go_at_call 11; refine HSS.out.mono ?_; rintro e w12 ⟨rfl, n12, hn12⟩; have HB12 : Hid (Below W.heap.size W w12) := (by rw [hn12]; exact HB11.out.trans ((drew_below _ _).mono HB11.out.size)); clear hn12; simp only [])
      go_ret
      exact ⟨rfl, HB12.out⟩
  exact key
end Go.Proofs.YtcjfpkfbdcmlbaaDoor
