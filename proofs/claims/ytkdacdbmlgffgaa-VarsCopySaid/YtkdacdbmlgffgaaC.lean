import Derived.Test.YtkdacdbmlgffgaaB
import Derived.WalkMore
namespace Go.Proofs.Ytkdacdbmlgffgaa
open Go.RowKit
set_option linter.unusedVariables false

theorem below_drewN {a w : World} (h : Below a.heap.size a w) (n : Nat) : Below a.heap.size a (w.drewN n) := ⟨h.os, h.tape, h.output, h.size, h.block⟩
theorem ret2_ib {a b : Int} {c d : Bool} (h1 : a = b) (h2 : c = d) : Ending.returned (.tuple #[.int .i64 a, .bool c]) = .returned (.tuple #[.int .i64 b, .bool d]) := by rw [h1, h2]
/-- What a comparison at j tells. -/
theorem cmp3 {L : List Pr} (hr : Ris L) (x : ByteArray) (j : Nat) (h : j < L.length) :
    (Lib.compareBytes L[j].n.data.toList x.data.toList = -1 ∧ j + 1 ≤ pos L x.data.toList) ∨ (Lib.compareBytes L[j].n.data.toList x.data.toList = 1 ∧ pos L x.data.toList ≤ j) ∨ (Lib.compareBytes L[j].n.data.toList x.data.toList = 0 ∧ pos L x.data.toList = j) := by
  have h3 := cmp_lt L[j].n.data.toList x.data.toList
  by_cases h1 : L[j].n.data.toList < x.data.toList
  · exact .inl ⟨h3.1.2 h1, pos_of_lt hr h h1⟩
  · by_cases h2 : x.data.toList < L[j].n.data.toList
    · exact .inr (.inl ⟨h3.2.1.2 h2, pos_of_gt h h2⟩)
    · have e := bs_eq h1 h2
      exact .inr (.inr ⟨h3.2.2.2 e, pos_of_eq hr h e⟩)
theorem mul2 (g a : Nat) : ((⟨g, 0, none⟩ : Addr).add (a * 2)) = ⟨g, a * 2, none⟩ := add2 g a
theorem has_eq {L : List Pr} {x : ByteArray} {P : Nat} (hP : pos L x.data.toList = P) (h : P < L.length) : has L x.data.toList = (L[P].n.toList == x.toList) := by
  subst hP
  unfold has
  rw [List.getElem?_eq_getElem h, Lib.toList_data, Lib.toList_data]
  show decide (Pr.key _ = _) = _
  rw [Bool.eq_iff_iff, decide_eq_true_iff, beq_iff_eq]; rfl
theorem has_none {L : List Pr} {x : Bs} {P : Nat} (hP : pos L x = P) (h : ¬ P < L.length) : has L x = false := by
  subst hP
  unfold has
  rw [List.getElem?_eq_none (by omega)]
set_option maxRecDepth 100000 in
set_option maxHeartbeats 4000000 in
theorem find_any (g : Nat) (v : Value) (L : List Pr) (x : ByteArray) (B : Nat) (w : World) (hL : L.length ≤ 100000) (hr : Ris L) (hV : VAt w 26 B g v L) :
    Calls Try.prog 22 #[.pointer (some ⟨g, 0, none⟩), .string x] w fun e w' => e = .returned (.tuple #[.int .i64 (pos L x.data.toList : Nat), .bool (has L x.data.toList)]) ∧ Below w.heap.size w w' := by
  have hc := hV.cell
  have hple := pos_le L x.data.toList
  rcases hV.row.form with ⟨rfl, rfl⟩ | ⟨b, cap, rfl, hb1, hb2, hcap, hcm, hcells, hfz⟩
  · have hp : pos [] x.data.toList = 0 := rfl
    have hh : has [] x.data.toList = false := rfl
    rw [hp, hh]
    clear hp hh hple hr hV
    go_enter Try.func22, Try.ntmps22
    go_wp2_with fail
    refine wp_scope_straight ?_
    go_wp2_with fail
    go_quiet (fail)
    go_wp2_with fail
    refine wp_label ?_
    go_wp2_with fail
    go_loop [6, 7] (fun a b => a = .int .i64 0 ∧ b = .int .i64 0) (fun _ _ => 0)
    case atStart => exact ⟨rfl, rfl⟩
    case round =>
      obtain ⟨rfl, rfl⟩ := hrel
      go_wp2_with fail
      go_quiet (fail)
      go_wp2_with fail
      simp only [Exit.noGoto_ret]
      go_ret2
      exact ⟨ret2_ib (by simp) rfl, below_drewN (below_drewN (Below.refl _ _) _) _⟩
  · obtain ⟨P, hP⟩ : ∃ P, pos L x.data.toList = P := ⟨_, rfl⟩
    obtain ⟨H, hH⟩ : ∃ H, has L x.data.toList = H := ⟨_, rfl⟩
    rw [hP] at hple
    have H3 := Lib.hid (fun j h => cmp3 hr x j h)
    have HI := Lib.hid (fun (h : P < L.length) => (hH.symm.trans (has_eq hP h)))
    have HI2 := Lib.hid (fun (h : ¬ P < L.length) => (hH.symm.trans (has_none hP h)))
    rw [hP] at H3 ⊢
    rw [hH]
    have HP := Lib.hid hP
    have HC := Lib.hid hcells
    have hl1 : (L.length : Int) ≤ 100000 := by omega
    have hp1 : (P : Int) ≤ (L.length : Int) := by omega
    have hp0 : (0 : Int) ≤ (P : Int) := by omega
    clear hP hH hcells hr hV hL hb1 hb2 hfz
    go_enter Try.func22, Try.ntmps22
    go_wp2_with fail
    refine wp_scope_straight ?_
    go_wp2_with fail
    go_quiet (fail)
    go_wp2_with fail
    refine wp_label ?_
    go_wp2_with fail
    go_loop [6, 7] (fun a b => ∃ i j : Nat, a = .int .i64 i ∧ b = .int .i64 j ∧ i ≤ P ∧ P ≤ j ∧ j ≤ L.length) (fun a b => (intOf b - intOf a).toNat)
    case atStart => exact ⟨0, L.length, rfl, rfl, by omega, by omega, by omega⟩
    case round =>
      obtain ⟨i, j, rfl, rfl, h1, h2, h3⟩ := hrel
      by_cases hij : i < j
      · obtain ⟨m, hm⟩ : ∃ m : Nat, m = (i + j) / 2 := ⟨_, rfl⟩
        have hmI : ((i : Int) + (j : Int)) / 2 = (m : Int) := by omega
        have hm1 : (m : Int) < (L.length : Int) := by omega
        have hm0 : (0 : Int) ≤ (m : Int) := by omega
        have hijI : (i : Int) < (j : Int) := by omega
        have hsum : (i : Int) + (j : Int) ≤ 200000 := by omega
        have him : i ≤ m := by omega
        have hmj : m < j := by omega
        have hml : m < L.length := by omega
        have hcm := (HC.out m hml).1
        have hcmp := H3.out m hml
        have hadd := add2 b m
        have hcall := fun w => Try.strings_Compare L[m].n x w
        obtain ⟨nm, hnm⟩ : ∃ nm, L[m].n = nm := ⟨_, rfl⟩
        rw [hnm] at hcm hcmp hcall
        have HN := Lib.hid hnm
        clear hnm hm
        rcases hcmp with ⟨hq, hr1⟩ | ⟨hq, hr1⟩ | ⟨hq, hr1⟩
        · rw [hq] at hcall
          have HK := Lib.hid hcall
          clear hq hcall
          go_wp2_with (go_at_call 31; refine (HK.out _).mono ?_; rintro e w' ⟨rfl, rfl⟩)
          exact ⟨⟨m + 1, j, by go_num, rfl, hr1, h2, h3⟩, by simp [intOf]; omega⟩
        · rw [hq] at hcall
          have HK := Lib.hid hcall
          clear hq hcall
          go_wp2_with (go_at_call 31; refine (HK.out _).mono ?_; rintro e w' ⟨rfl, rfl⟩)
          exact ⟨⟨i, m, rfl, rfl, h1, hr1, by omega⟩, by simp [intOf]; omega⟩
        · rw [hq] at hcall
          have HK := Lib.hid hcall
          have HR := Lib.hid hr1
          have hPl : P < L.length := by omega
          clear hq hcall hr1
          go_wp2_with (go_at_call 31; refine (HK.out _).mono ?_; rintro e w' ⟨rfl, rfl⟩)
          go_quiet (fail)
          go_wp2_with fail
          simp only [Exit.noGoto_ret]
          go_ret2
          refine ⟨ret2_ib (by rw [HR.out]) ?_, below_drewN (below_drewN (Below.refl _ _) _) _⟩
          rw [HI.out hPl]
          have h5 : L[P].n = nm := by have := HN.out; simp only [HR.out]; exact this
          rw [h5]
      · obtain rfl : i = P := by omega
        obtain rfl : j = i := by omega
        clear h1 h2 hij
        by_cases hPl : j < L.length
        · have hji : (j : Int) < (L.length : Int) := by omega
          have hj0 : (0 : Int) ≤ (j : Int) := by omega
          have hcm := (HC.out j hPl).1
          have hadd := add2 b j
          go_wp2_with fail
          go_quiet (fail)
          go_wp2_with fail
          simp only [Exit.noGoto_ret]
          go_ret2
          exact ⟨ret2_ib rfl (HI.out hPl).symm, below_drewN (below_drewN (Below.refl _ _) _) _⟩
        · have hji : ¬ (j : Int) < (L.length : Int) := by omega
          go_wp2_with fail
          go_quiet (fail)
          go_wp2_with fail
          simp only [Exit.noGoto_ret]
          go_ret2
          exact ⟨ret2_ib rfl (HI2.out hPl).symm, below_drewN (below_drewN (Below.refl _ _) _) _⟩
end Go.Proofs.Ytkdacdbmlgffgaa
