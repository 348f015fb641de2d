import Derived.Test.YtdkkfcpnfhfjdaaM
import Derived.Deep.RegionHeld3
namespace Go.Proofs.Ytdkkfcpnfhfjdaa
open Go.RowKit
set_option linter.unusedVariables false

theorem isE_of {t : ByteArray} (h : t.data.toList = []) : t.toList = [] := by rw [Lib.toList_data]; exact h
theorem isE_ne {t : ByteArray} (h : t.data.toList ≠ []) : t.toList.isEmpty = false := by
  rw [Lib.toList_data]
  cases h' : t.data.toList with
  | nil => exact absurd h' h
  | cons a t => rfl
/-- One part under the walk: its six cells. -/
theorem Rw.at {w : World} {a : Option Addr} {c : Nat} {L : List RP} (h : Rw w (.slice a L.length c) L) {k : Nat} (hk : k < L.length) :
    ∃ b off, a = some ⟨b, off, none⟩ ∧ b < w.heap.size ∧ w.cell? ⟨b, off + k * 6, none⟩ = some (.int .i64 L[k].k) ∧ w.cell? ⟨b, off + k * 6 + 1, none⟩ = some (.string L[k].t) ∧ w.cell? ⟨b, off + k * 6 + 2, none⟩ = some (.string L[k].n) ∧
      w.cell? ⟨b, off + k * 6 + 3, none⟩ = some (.string L[k].o) ∧ w.cell? ⟨b, off + k * 6 + 4, none⟩ = some (.slice L[k].wa L[k].wl L[k].wc) ∧ w.cell? ⟨b, off + k * 6 + 5, none⟩ = some (.bool L[k].q) := by
  obtain ⟨a', c', e1, e2⟩ := h.form
  obtain ⟨b, off, e3, hb, hc⟩ := e2 k hk
  injection e1 with e4 _ e6
  subst e4
  subst e3
  exact ⟨b, off, rfl, hb, hc 0 _ rfl, hc 1 _ rfl, hc 2 _ rfl, hc 3 _ rfl, hc 4 _ rfl, hc 5 _ rfl⟩
theorem bigL_of {L : List RP} {k : Nat} (hk : k < L.length) (h : bigP L[k] = true) : bigL L = true := by
  unfold bigL
  rw [Bool.or_eq_true]
  exact .inl (List.any_eq_true.2 ⟨_, List.getElem_mem hk, h⟩)
theorem bigL_all {L : List RP} (h : ∀ p ∈ L, bigP p = false) : bigL L = decide (40 < L.length) := by
  unfold bigL
  have : L.any bigP = false := List.any_eq_false.2 (fun p hp => by simp [h p hp])
  rw [this, Bool.false_or]
set_option maxRecDepth 100000 in
set_option maxHeartbeats 8000000 in
theorem Big_any (v : Value) (L : List RP) (w : World) (hR : Rw w v L) : Calls Try.prog 7 #[v] w fun e w' => e = .returned (.bool (bigL L)) ∧ w' = w := by
  obtain ⟨a0, c0, hv, _⟩ := hR.form
  subst hv
  have HR := Lib.hid hR
  have hlm := hR.len
  have HF := Lib.hid hR.fit
  unfold maxLen at hlm
  have hlI : (L.length : Int) ≤ 9223372036854775807 := by omega
  obtain ⟨R, hRR⟩ : ∃ R, bigL L = R := ⟨_, rfl⟩
  rw [hRR]
  have HRR := Lib.hid hRR
  clear hR hRR
  go_enter Try.func7, Try.ntmps7
  go_wp2_with fail
  go_loopw [3] (fun i wx => ∃ k : Nat, k ≤ L.length ∧ i = .int .i64 k ∧ wx = w ∧ Hid (∀ p ∈ L.take k, bigP p = false)) (fun i _ => L.length - (intOf i).toNat)
  case atStart => exact ⟨0, by omega, rfl, rfl, fun p hp => by cases hp⟩
  case round =>
    obtain ⟨k, hk, rfl, rfl, HA⟩ := hrel
    by_cases hlt : k < L.length
    · have hltI : (k : Int) < (L.length : Int) := by omega
      have hltd : decide ((k : Int) < (L.length : Int)) = true := decide_eq_true hltI
      have hk0 : (0 : Int) ≤ (k : Int) := by omega
      obtain ⟨b, off, e1, hb, q0, q1, q2, q3, q4, q5⟩ := HR.out.at hlt
      subst e1
      have ad := add6 b off k
      have HT : Hid (bigP L[k] = true → R = true) := fun h => by rw [← HRR.out]; exact bigL_of hlt h
      have HN : Hid (bigP L[k] = false → ∀ p ∈ L.take (k + 1), bigP p = false) := fun h p hp => by
        rw [List.take_add_one, List.getElem?_eq_getElem hlt] at hp
        rcases List.mem_append.1 hp with hp | hp
        · exact HA.out p hp
        · simp at hp; subst hp; exact h
      have hfit := HF.out _ (List.getElem_mem hlt)
      obtain ⟨p, hp⟩ : ∃ p, L[k] = p := ⟨_, rfl⟩
      rw [hp] at q0 q1 q2 q3 q4 q5 HT HN hfit
      obtain ⟨kd, t, n, o, wa, wl, wc, q⟩ := p
      simp only at q0 q1 q2 q3 q4 q5
      obtain ⟨_, f1, f2, f3, f4⟩ := hfit
      simp only at f1 f2 f3 f4
      unfold maxLen at f1 f2 f3 f4
      have f1I : (t.size : Int) ≤ 9223372036854775807 := by omega
      have f4I : (wl : Int) ≤ 9223372036854775807 := by omega
      clear hp f2 f3
      by_cases c1 : 300 < t.size
      · have d1 : decide ((300 : Int) < (t.size : Int)) = true := decide_eq_true (by omega)
        have HX := Lib.hid (HT.out (by simp [bigP, c1]))
        clear HT HN
        go_wp2_with fail
        go_ret
        exact ⟨congrArg (fun b => Ending.returned (.bool b)) HX.out.symm, rfl⟩
      have d1 : decide ((300 : Int) < (t.size : Int)) = false := decide_eq_false (by omega)
      by_cases c2 : kd = 1 ∨ kd = 2
      · skip
        have hkd : (kd != 1 && kd != 2) = false := by rcases c2 with rfl | rfl <;> rfl
        have HK : Hid (bigP ⟨kd, t, n, o, wa, wl, wc, q⟩ = (!n.data.toList.isEmpty || !o.data.toList.isEmpty || decide (0 < wl) || q)) := by
          unfold Hid bigP; simp only; rw [hkd]; simp [c1]
        rw [HK.out] at HT HN
        clear hkd HK
        by_cases c3 : n.data.toList = []
        · have n1 := isE_of c3
          have n2 : (!n.toList.isEmpty) = false := by rw [n1]; rfl
          by_cases c4 : o.data.toList = []
          · have o1 := isE_of c4
            have o2 : (!o.toList.isEmpty) = false := by rw [o1]; rfl
            by_cases c5 : 0 < wl
            · have d5 : decide ((0 : Int) < (wl : Int)) = true := decide_eq_true (by omega)
              have HX := Lib.hid (HT.out (by simp [c5]))
              clear HT HN c3 c4
              rcases c2 with rfl | rfl
              · go_wp2_with fail
                go_ret
                exact ⟨congrArg (fun b => Ending.returned (.bool b)) HX.out.symm, rfl⟩
              · go_wp2_with fail
                go_ret
                exact ⟨congrArg (fun b => Ending.returned (.bool b)) HX.out.symm, rfl⟩
            · have d5 : decide ((0 : Int) < (wl : Int)) = false := decide_eq_false (by omega)
              cases q with
              | true =>
                have HX := Lib.hid (HT.out (by simp))
                clear HT HN c3 c4
                rcases c2 with rfl | rfl
                · go_wp2_with fail
                  go_ret
                  exact ⟨congrArg (fun b => Ending.returned (.bool b)) HX.out.symm, rfl⟩
                · go_wp2_with fail
                  go_ret
                  exact ⟨congrArg (fun b => Ending.returned (.bool b)) HX.out.symm, rfl⟩
              | false =>
                have HX := Lib.hid (HN.out (by simp [c3, c4, c5]))
                clear HT HN c3 c4
                rcases c2 with rfl | rfl
                · go_wp2_with fail
                  go_roundw
                  case measure => simp [intOf]; omega
                  case rel => exact ⟨k + 1, by omega, by go_num, by simp, HX.out⟩
                · go_wp2_with fail
                  go_roundw
                  case measure => simp [intOf]; omega
                  case rel => exact ⟨k + 1, by omega, by go_num, by simp, HX.out⟩
          · have o1 := isE_ne c4
            have o2 : (!o.toList.isEmpty) = true := by rw [o1]; rfl
            have HX := Lib.hid (HT.out (by rw [show o.data.toList.isEmpty = false by rw [← Lib.toList_data]; exact o1]; simp))
            clear HT HN c3 c4
            rcases c2 with rfl | rfl
            · go_wp2_with fail
              go_ret
              exact ⟨congrArg (fun b => Ending.returned (.bool b)) HX.out.symm, rfl⟩
            · go_wp2_with fail
              go_ret
              exact ⟨congrArg (fun b => Ending.returned (.bool b)) HX.out.symm, rfl⟩
        · have n1 := isE_ne c3
          have n2 : (!n.toList.isEmpty) = true := by rw [n1]; rfl
          have HX := Lib.hid (HT.out (by rw [show n.data.toList.isEmpty = false by rw [← Lib.toList_data]; exact n1]; simp))
          clear HT HN c3
          rcases c2 with rfl | rfl
          · go_wp2_with fail
            go_ret
            exact ⟨congrArg (fun b => Ending.returned (.bool b)) HX.out.symm, rfl⟩
          · go_wp2_with fail
            go_ret
            exact ⟨congrArg (fun b => Ending.returned (.bool b)) HX.out.symm, rfl⟩
      · have hg1 : (kd == 1) = false := by simp; omega
        have hg2 : (kd == 2) = false := by simp; omega
        have HX := Lib.hid (HT.out (by simp [bigP]; omega))
        have hg3 : ¬ kd = 1 := by omega
        have hg4 : ¬ kd = 2 := by omega
        have hg5 : (kd != 1) = true := by simp; omega
        have hg6 : (kd != 2) = true := by simp; omega
        clear HT HN c2
        go_wp2_with fail
        go_ret
        exact ⟨congrArg (fun b => Ending.returned (.bool b)) HX.out.symm, rfl⟩
    · obtain rfl : k = L.length := by omega
      have hltd : decide ((L.length : Int) < (L.length : Int)) = false := decide_eq_false (by omega)
      rw [List.take_length] at HA
      have HX : Hid (decide ((40 : Int) < (L.length : Int)) = R) := by
        rw [Hid, ← HRR.out, bigL_all HA.out]; exact decide_eq_decide.2 (by omega)
      go_wp2_with fail
      go_ret
      exact ⟨congrArg (fun b => Ending.returned (.bool b)) HX.out, rfl⟩
end Go.Proofs.Ytdkkfcpnfhfjdaa
