import Derived.Test.YtpgaeldjiiaoiaaXC
namespace Go.Proofs.Ytpgaeldjiiaoiaa
open Go.RowKit
set_option linter.unusedVariables false

def anyF (f : Nat → Bool) (n : Nat) : Bool := (List.range n).any f
set_option maxRecDepth 100000 in
set_option maxHeartbeats 2000000 in
theorem Index_any (g n C : Nat) (f : Nat → Bool) (w : World) (hn : n ≤ 200000) (hR : BR w g n f) :
    Calls Try.prog 45 #[.slice (some ⟨g, 0, none⟩) n C, .bool true] w fun e w' => (∃ z : Int, e = .returned (.int .i64 z) ∧ decide (0 ≤ z) = anyF f n) ∧ w' = w := by
  have HR := Lib.hid hR
  have hl1 : (n : Int) ≤ 200000 := by omega
  clear hR
  go_enter Try.func45, Try.ntmps45
  go_wp2_with fail
  go_loop [8] (fun i => ∃ k : Nat, k ≤ n ∧ i = .int .i64 k ∧ Hid (∀ j, j < k → f j = false)) (fun i => n - (intOf i).toNat)
  case atStart => exact ⟨0, by omega, rfl, fun j hj => by omega⟩
  case round =>
    obtain ⟨k, hk, rfl, HN⟩ := hrel
    by_cases hlt : k < n
    · have hltI : (k : Int) < (n : Int) := by omega
      have h0 : (0 : Int) ≤ (k : Int) := by omega
      have hc := HR.out.cell hlt
      obtain ⟨b, hb⟩ : ∃ b, f k = b := ⟨_, rfl⟩
      rw [hb] at hc
      have HB := Lib.hid hb
      clear hb
      cases b with
      | false =>
        have HN2 : Hid (∀ j, j < k + 1 → f j = false) := fun j hj => by
          by_cases h : j = k
          · subst h; exact HB.out
          · exact HN.out j (by omega)
        go_wp2_with fail
        exact ⟨⟨k + 1, by omega, by go_num, HN2.out⟩, by simp [intOf]; omega⟩
      | true =>
        go_wp2_with fail
        go_ret
        refine ⟨⟨_, rfl, ?_⟩, rfl⟩
        rw [decide_eq_true h0]
        exact (List.any_eq_true.2 ⟨k, List.mem_range.2 hlt, HB.out⟩).symm
    · have hltI : ¬ (k : Int) < (n : Int) := by omega
      go_wp2_with fail
      go_ret
      refine ⟨⟨_, rfl, ?_⟩, rfl⟩
      have : anyF f n = false := by
        unfold anyF
        rw [List.any_eq_false]
        intro j hj
        rw [HN.out j (by have := List.mem_range.1 hj; omega)]
        simp
      rw [this]
      decide
set_option maxRecDepth 100000 in
theorem Contains_any (g n C : Nat) (f : Nat → Bool) (w : World) (hn : n ≤ 200000) (hR : BR w g n f) :
    Calls Try.prog 43 #[.slice (some ⟨g, 0, none⟩) n C, .bool true] w fun e w' => e = .returned (.bool (anyF f n)) ∧ w' = w := by
  have hI := Index_any g n C f w hn hR
  obtain ⟨b, hb⟩ : ∃ b, anyF f n = b := ⟨_, rfl⟩
  rw [hb] at hI ⊢
  have HI := Lib.hid hI
  clear hR hI hb
  go_enter Try.func43, Try.ntmps43
  go_wp2_with fail
  refine HI.out.mono ?_
  rintro e w' ⟨⟨z, rfl, hz⟩, h⟩
  obtain rfl := h.symm
  simp only []
  cases b
  · have hz1 : ¬ (0 : Int) ≤ z := by simpa using hz
    go_wp2_with fail
    go_ret
    exact ⟨rfl, rfl⟩
  · have hz1 : (0 : Int) ≤ z := by simpa using hz
    go_wp2_with fail
    go_ret
    exact ⟨rfl, rfl⟩
/-- The row while step goes down. -/
def mid (P : List It) (f : Nat → Bool) (c : UInt8) (k : Nat) : Nat → Bool := fun j => if k ≤ j then stepF P f c j else f j
theorem mid_next {w : World} {g n m : Nat} {P : List It} {f : Nat → Bool} {c : UInt8} (h : BR w g n (mid P f c (m + 1))) (hm : m < n) (b : Bool) (hb : stepF P f c m = b) : BR (w.setCell ⟨g, m, none⟩ (.bool b)) g n (mid P f c m) :=
  h.set hm b (fun j _ => by
    unfold mid
    by_cases hj : j = m
    · subst hj; rw [if_pos (Nat.le_refl _), if_pos rfl]; exact hb
    · rw [if_neg hj]
      by_cases h1 : m ≤ j
      · rw [if_pos h1, if_pos (by omega)]
      · rw [if_neg h1, if_neg (by omega)])
set_option maxRecDepth 100000 in
set_option maxHeartbeats 8000000 in
theorem step_any (v : Value) (ps : List Pc) (P : List It) (hP : ps.map sem = P) (g C : Nat) (f : Nat → Bool) (c : UInt8) (w : World) (hlen : ps.length ≤ 100000) (hS : Pcs w v ps g) (hR : BR w g (ps.length + 1) f) :
    Calls Try.prog 38 #[v, .slice (some ⟨g, 0, none⟩) (ps.length + 1) C, .int .u8 c.toNat] w fun e w' => e = .returned (.bool (anyF (passF P (stepF P f c)) (ps.length + 1))) ∧ BR w' g (ps.length + 1) (passF P (stepF P f c)) ∧ w.grownBy w' (some g) := by
  have HS := Lib.hid hS
  obtain ⟨a, cap, rfl, _⟩ := hS
  have HP := Lib.hid hP
  have HR := Lib.hid hR
  have hl0 : (0 : Int) ≤ (ps.length : Int) := by omega
  have hl1 : (ps.length : Int) ≤ 100000 := by omega
  clear hP hR
  go_enter Try.func38, Try.ntmps38
  go_wp2_with fail
  go_loopw [7] (fun i wr => ∃ k : Nat, k ≤ ps.length + 1 ∧ i = .int .i64 ((k : Int) - 1) ∧ Hid (BR wr g (ps.length + 1) (mid P f c k)) ∧ Hid (w.grownBy wr (some g))) (fun i _ => (intOf i + 1).toNat)
  case atStart => exact ⟨ps.length + 1, by omega, by rw [show (((ps.length + 1 : Nat) : Int) - 1) = (ps.length : Int) by omega], HR.out.congr (fun j hj => by unfold mid; rw [if_neg (by omega)]), gb_refl _ _⟩
  case round =>
    obtain ⟨k, hk, rfl, HB, HG⟩ := hrel
    by_cases hk0 : k = 0
    · subst hk0
      have HN : Hid (BR wr g (ps.length + 1) (stepF P f c)) := HB.out.congr (fun j hj => by unfold mid; rw [if_pos (by omega)])
      rw [show (((0 : Nat) : Int) - 1) = -1 from rfl]
      go_wp2_with fail
      refine (pass_any _ ps P HP.out g C (stepF P f c) _ hlen (HS.out.kept HG.out) HN.out).mono ?_
      rintro e w2 ⟨rfl, hR2, hG2⟩
      have HR2 := Lib.hid hR2
      have HG2 := Lib.hid (gb_trans HG.out hG2)
      clear hR2 hG2
      simp only []
      go_wp2_with fail
      refine (Contains_any g (ps.length + 1) C _ _ (by omega) HR2.out).mono ?_
      rintro e w3 ⟨rfl, h⟩
      obtain rfl := h.symm
      simp only []
      go_wp2_with fail
      go_ret
      exact ⟨rfl, HR2.out, HG2.out⟩
    · obtain ⟨m, rfl⟩ : ∃ m, k = m + 1 := ⟨k - 1, by omega⟩
      have e0 : (((m + 1 : Nat) : Int) - 1) = (m : Int) := by omega
      rw [e0]
      have h0 : (0 : Int) ≤ (m : Int) := by omega
      have h1 : (m : Int) < (ps.length : Int) + 1 := by omega
      have hmI : (m : Int) ≤ (ps.length : Int) := by omega
      have hcm := HB.out.cell (k := m) (by omega)
      have hfr := HB.out.free m
      rw [show mid P f c (m + 1) m = f m by unfold mid; rw [if_neg (by omega)]] at hcm
      have HNX := Lib.hid (fun b hb => mid_next (m := m) HB.out (by omega) b hb)
      have HG2 := Lib.hid (fun b => gb_set HG.out m (.bool b))
      have HPC := Lib.hid (HS.out.kept HG.out)
      have HC1 : Hid (0 < m → wr.cell? ⟨g, m - 1, none⟩ = some (.bool (f (m - 1)))) := fun h => by
        have := HB.out.cell (k := m - 1) (by omega)
        rw [show mid P f c (m + 1) (m - 1) = f (m - 1) by unfold mid; rw [if_neg (by omega)]] at this
        exact this
      have hsf : stepF P f c m = ((f m && star P m) || (decide (0 < m) && f (m - 1) && !star P (m - 1) && takesAt P (m - 1) c)) := rfl
      have HSF := Lib.hid hsf
      have em : ((m : Int) + 1).toNat = m + 1 := by omega
      clear hsf hk hk0 e0
      by_cases hmn : m < ps.length
      · have hmnI : (m : Int) < (ps.length : Int) := by omega
        obtain ⟨b1, hb1⟩ : ∃ b, f m = b := ⟨_, rfl⟩
        rw [hb1] at hcm
        have HB1 := Lib.hid hb1
        clear hb1
        cases b1
        · have HST : Hid ((f m && star P m) = false) := by rw [Hid, HB1.out]; rfl
          by_cases hm0 : m = 0
          · have q0 : ¬ (0 : Int) < (m : Int) := by omega
            have q1 : decide ((0 : Int) < (m : Int)) = false := decide_eq_false q0
            have HV : Hid (stepF P f c m = false) := by rw [Hid, HSF.out, HST.out, decide_eq_false (by omega)]; rfl
            clear hm0
            go_wp2_with fail
            exact ⟨⟨m, by omega, rfl, HNX.out _ (HV.out), HG2.out _⟩, by simp [intOf]⟩
          · obtain ⟨r, hmr⟩ : ∃ r, m = r + 1 := ⟨m - 1, by omega⟩
            have q0 : (0 : Int) < (m : Int) := by omega
            have q2 : IntKind.i64.wrap ((m : Int) - 1) = (r : Int) := by rw [IntKind.wrap_i64]; omega
            have q3 : wrap64 ((m : Int) - 1) = (r : Int) := by unfold wrap64; omega
            have q4 : (r : Int) < (ps.length : Int) + 1 := by omega
            have q5 : (0 : Int) ≤ (r : Int) := by omega
            have q6 : (r : Int) < (ps.length : Int) := by omega
            have hr : r < ps.length := by omega
            have hc1 := HC1.out (by omega)
            rw [show m - 1 = r by omega] at hc1
            have HV0 : Hid (stepF P f c m = (false || (f r && !star P r && takesAt P r c))) := by rw [Hid, HSF.out, HST.out, decide_eq_true (by omega), show m - 1 = r by omega]; simp
            have HMR : Hid ((m : Int) - 1 = (r : Int)) := by rw [Hid]; omega
            clear hm0 hmr
            obtain ⟨b3, hb3⟩ : ∃ b, f r = b := ⟨_, rfl⟩
            rw [hb3] at hc1 HV0
            clear hb3
            cases b3
            · have HV : Hid (stepF P f c m = false) := HV0.out.trans (by simp)
              clear HV0
              go_wp2_with fail
              exact ⟨⟨m, by omega, by rw [HMR.out], HNX.out _ (HV.out), HG2.out _⟩, by have := HMR.out; simp [intOf]; omega⟩
            · obtain ⟨a4, cap4, f1, hp4⟩ := HPC.out
              obtain ⟨b4, o4, f2, hne4, hpc4⟩ := hp4 r hr
              injection f1 with f3 f4 f5
              subst f3
              first | subst f2 | (injection f2 with f2; injection f2 with f6 f7; subst f6; subst f7)
              have p4 := hpc4.c0
              have hst4 := star_sem HP.out hr
              have htk := takes_sem HP.out hr c
              have HTK := Lib.hid (takes_any _ _ ps[r] c wr hpc4)
              obtain ⟨s4, hs4⟩ : ∃ s, star P r = s := ⟨_, rfl⟩
              obtain ⟨t4, ht4⟩ : ∃ t, takesAt P r c = t := ⟨_, rfl⟩
              rw [hs4] at hst4
              rw [ht4] at htk
              rw [← htk] at HTK
              rw [hs4, ht4] at HV0
              obtain ⟨kd4, hk4⟩ : ∃ kd, ps[r].kind = kd := ⟨_, rfl⟩
              rw [hk4] at p4 hst4
              have hst4b := hst4.symm
              clear hs4 ht4 htk hk4 hpc4 hp4 f4 f5 hst4
              cases s4
              · have hst4c : ((kd4 : Int) != 3) = true := by rw [bne, hst4b]; rfl
                have HV : Hid (stepF P f c m = (false || t4)) := HV0.out.trans (by simp)
                clear HV0
                go_wp2_with fail
                refine HTK.out.mono ?_
                rintro e w2 ⟨rfl, h⟩
                obtain rfl := h
                simp only []
                go_wp2_with fail
                exact ⟨⟨m, by omega, by rw [HMR.out], HNX.out _ (HV.out), HG2.out _⟩, by have := HMR.out; simp [intOf]; omega⟩
              · have hst4c : ((kd4 : Int) != 3) = false := by rw [bne, hst4b]; rfl
                have HV : Hid (stepF P f c m = false) := HV0.out.trans (by simp)
                clear HV0
                go_wp2_with fail
                exact ⟨⟨m, by omega, by rw [HMR.out], HNX.out _ (HV.out), HG2.out _⟩, by have := HMR.out; simp [intOf]; omega⟩
        · obtain ⟨a', cap', e1, hp⟩ := HPC.out
          obtain ⟨bb, oo, e2, hne, hpc⟩ := hp m hmn
          injection e1 with e3 e4 e5
          subst e3
          subst e2
          have p0 := hpc.c0
          have hst := star_sem HP.out hmn
          obtain ⟨st, hs⟩ : ∃ st, star P m = st := ⟨_, rfl⟩
          have HST0 : Hid ((f m && star P m) = st) := by rw [Hid, HB1.out, hs]; rfl
          rw [hs] at hst
          obtain ⟨kd, hkd⟩ : ∃ kd, ps[m].kind = kd := ⟨_, rfl⟩
          rw [hkd] at p0 hst
          have hst' := hst.symm
          clear hpc hp hs hkd e4 e5 hst
          cases st
          · have HST := HST0
            by_cases hm0 : m = 0
            · have q0 : ¬ (0 : Int) < (m : Int) := by omega
              have q1 : decide ((0 : Int) < (m : Int)) = false := decide_eq_false q0
              have HV : Hid (stepF P f c m = false) := by rw [Hid, HSF.out, HST.out, decide_eq_false (by omega)]; rfl
              clear hm0
              go_wp2_with fail
              exact ⟨⟨m, by omega, rfl, HNX.out _ (HV.out), HG2.out _⟩, by simp [intOf]⟩
            · obtain ⟨r, hmr⟩ : ∃ r, m = r + 1 := ⟨m - 1, by omega⟩
              have q0 : (0 : Int) < (m : Int) := by omega
              have q2 : IntKind.i64.wrap ((m : Int) - 1) = (r : Int) := by rw [IntKind.wrap_i64]; omega
              have q3 : wrap64 ((m : Int) - 1) = (r : Int) := by unfold wrap64; omega
              have q4 : (r : Int) < (ps.length : Int) + 1 := by omega
              have q5 : (0 : Int) ≤ (r : Int) := by omega
              have q6 : (r : Int) < (ps.length : Int) := by omega
              have hr : r < ps.length := by omega
              have hc1 := HC1.out (by omega)
              rw [show m - 1 = r by omega] at hc1
              have HV0 : Hid (stepF P f c m = (false || (f r && !star P r && takesAt P r c))) := by rw [Hid, HSF.out, HST.out, decide_eq_true (by omega), show m - 1 = r by omega]; simp
              have HMR : Hid ((m : Int) - 1 = (r : Int)) := by rw [Hid]; omega
              clear hm0 hmr
              obtain ⟨b3, hb3⟩ : ∃ b, f r = b := ⟨_, rfl⟩
              rw [hb3] at hc1 HV0
              clear hb3
              cases b3
              · have HV : Hid (stepF P f c m = false) := HV0.out.trans (by simp)
                clear HV0
                go_wp2_with fail
                exact ⟨⟨m, by omega, by rw [HMR.out], HNX.out _ (HV.out), HG2.out _⟩, by have := HMR.out; simp [intOf]; omega⟩
              · obtain ⟨a4, cap4, f1, hp4⟩ := HPC.out
                obtain ⟨b4, o4, f2, hne4, hpc4⟩ := hp4 r hr
                injection f1 with f3 f4 f5
                subst f3
                first | subst f2 | (injection f2 with f2; injection f2 with f6 f7; subst f6; subst f7)
                have p4 := hpc4.c0
                have hst4 := star_sem HP.out hr
                have htk := takes_sem HP.out hr c
                have HTK := Lib.hid (takes_any _ _ ps[r] c wr hpc4)
                obtain ⟨s4, hs4⟩ : ∃ s, star P r = s := ⟨_, rfl⟩
                obtain ⟨t4, ht4⟩ : ∃ t, takesAt P r c = t := ⟨_, rfl⟩
                rw [hs4] at hst4
                rw [ht4] at htk
                rw [← htk] at HTK
                rw [hs4, ht4] at HV0
                obtain ⟨kd4, hk4⟩ : ∃ kd, ps[r].kind = kd := ⟨_, rfl⟩
                rw [hk4] at p4 hst4
                have hst4b := hst4.symm
                clear hs4 ht4 htk hk4 hpc4 hp4 f4 f5 hst4
                cases s4
                · have hst4c : ((kd4 : Int) != 3) = true := by rw [bne, hst4b]; rfl
                  have HV : Hid (stepF P f c m = (false || t4)) := HV0.out.trans (by simp)
                  clear HV0
                  go_wp2_with fail
                  refine HTK.out.mono ?_
                  rintro e w2 ⟨rfl, h⟩
                  obtain rfl := h
                  simp only []
                  go_wp2_with fail
                  exact ⟨⟨m, by omega, by rw [HMR.out], HNX.out _ (HV.out), HG2.out _⟩, by have := HMR.out; simp [intOf]; omega⟩
                · have hst4c : ((kd4 : Int) != 3) = false := by rw [bne, hst4b]; rfl
                  have HV : Hid (stepF P f c m = false) := HV0.out.trans (by simp)
                  clear HV0
                  go_wp2_with fail
                  exact ⟨⟨m, by omega, by rw [HMR.out], HNX.out _ (HV.out), HG2.out _⟩, by have := HMR.out; simp [intOf]; omega⟩
          · have HST := HST0
            by_cases hm0 : m = 0
            · have q0 : ¬ (0 : Int) < (m : Int) := by omega
              have q1 : decide ((0 : Int) < (m : Int)) = false := decide_eq_false q0
              have HV : Hid (stepF P f c m = true) := by rw [Hid, HSF.out, HST.out, decide_eq_false (by omega)]; rfl
              clear hm0
              go_wp2_with fail
              exact ⟨⟨m, by omega, rfl, HNX.out _ (HV.out), HG2.out _⟩, by simp [intOf]⟩
            · obtain ⟨r, hmr⟩ : ∃ r, m = r + 1 := ⟨m - 1, by omega⟩
              have q0 : (0 : Int) < (m : Int) := by omega
              have q2 : IntKind.i64.wrap ((m : Int) - 1) = (r : Int) := by rw [IntKind.wrap_i64]; omega
              have q3 : wrap64 ((m : Int) - 1) = (r : Int) := by unfold wrap64; omega
              have q4 : (r : Int) < (ps.length : Int) + 1 := by omega
              have q5 : (0 : Int) ≤ (r : Int) := by omega
              have q6 : (r : Int) < (ps.length : Int) := by omega
              have hr : r < ps.length := by omega
              have hc1 := HC1.out (by omega)
              rw [show m - 1 = r by omega] at hc1
              have HV0 : Hid (stepF P f c m = (true || (f r && !star P r && takesAt P r c))) := by rw [Hid, HSF.out, HST.out, decide_eq_true (by omega), show m - 1 = r by omega]; simp
              have HMR : Hid ((m : Int) - 1 = (r : Int)) := by rw [Hid]; omega
              clear hm0 hmr
              obtain ⟨b3, hb3⟩ : ∃ b, f r = b := ⟨_, rfl⟩
              rw [hb3] at hc1 HV0
              clear hb3
              cases b3
              · have HV : Hid (stepF P f c m = true) := HV0.out.trans (by simp)
                clear HV0
                go_wp2_with fail
                exact ⟨⟨m, by omega, by rw [HMR.out], HNX.out _ (HV.out), HG2.out _⟩, by have := HMR.out; simp [intOf]; omega⟩
              · obtain ⟨a4, cap4, f1, hp4⟩ := HPC.out
                obtain ⟨b4, o4, f2, hne4, hpc4⟩ := hp4 r hr
                injection f1 with f3 f4 f5
                subst f3
                first | subst f2 | (injection f2 with f2; injection f2 with f6 f7; subst f6; subst f7)
                have p4 := hpc4.c0
                have hst4 := star_sem HP.out hr
                have htk := takes_sem HP.out hr c
                have HTK := Lib.hid (takes_any _ _ ps[r] c wr hpc4)
                obtain ⟨s4, hs4⟩ : ∃ s, star P r = s := ⟨_, rfl⟩
                obtain ⟨t4, ht4⟩ : ∃ t, takesAt P r c = t := ⟨_, rfl⟩
                rw [hs4] at hst4
                rw [ht4] at htk
                rw [← htk] at HTK
                rw [hs4, ht4] at HV0
                obtain ⟨kd4, hk4⟩ : ∃ kd, ps[r].kind = kd := ⟨_, rfl⟩
                rw [hk4] at p4 hst4
                have hst4b := hst4.symm
                clear hs4 ht4 htk hk4 hpc4 hp4 f4 f5 hst4
                cases s4
                · have hst4c : ((kd4 : Int) != 3) = true := by rw [bne, hst4b]; rfl
                  have HV : Hid (stepF P f c m = (true || t4)) := HV0.out.trans (by simp)
                  clear HV0
                  go_wp2_with fail
                  refine HTK.out.mono ?_
                  rintro e w2 ⟨rfl, h⟩
                  obtain rfl := h
                  simp only []
                  go_wp2_with fail
                  exact ⟨⟨m, by omega, by rw [HMR.out], HNX.out _ (HV.out), HG2.out _⟩, by have := HMR.out; simp [intOf]; omega⟩
                · have hst4c : ((kd4 : Int) != 3) = false := by rw [bne, hst4b]; rfl
                  have HV : Hid (stepF P f c m = true) := HV0.out.trans (by simp)
                  clear HV0
                  go_wp2_with fail
                  exact ⟨⟨m, by omega, by rw [HMR.out], HNX.out _ (HV.out), HG2.out _⟩, by have := HMR.out; simp [intOf]; omega⟩
      · have hmnI : ¬ (m : Int) < (ps.length : Int) := by omega
        have HST : Hid ((f m && star P m) = false) := by
          rw [Hid]
          cases hs : star P m with
          | false => simp
          | true => exact absurd (star_lt hs) (by rw [← HP.out, List.length_map]; exact hmn)
        by_cases hm0 : m = 0
        · have q0 : ¬ (0 : Int) < (m : Int) := by omega
          have q1 : decide ((0 : Int) < (m : Int)) = false := decide_eq_false q0
          have HV : Hid (stepF P f c m = false) := by rw [Hid, HSF.out, HST.out, decide_eq_false (by omega)]; rfl
          clear hm0
          go_wp2_with fail
          exact ⟨⟨m, by omega, rfl, HNX.out _ (HV.out), HG2.out _⟩, by simp [intOf]⟩
        · obtain ⟨r, hmr⟩ : ∃ r, m = r + 1 := ⟨m - 1, by omega⟩
          have q0 : (0 : Int) < (m : Int) := by omega
          have q2 : IntKind.i64.wrap ((m : Int) - 1) = (r : Int) := by rw [IntKind.wrap_i64]; omega
          have q3 : wrap64 ((m : Int) - 1) = (r : Int) := by unfold wrap64; omega
          have q4 : (r : Int) < (ps.length : Int) + 1 := by omega
          have q5 : (0 : Int) ≤ (r : Int) := by omega
          have q6 : (r : Int) < (ps.length : Int) := by omega
          have hr : r < ps.length := by omega
          have hc1 := HC1.out (by omega)
          rw [show m - 1 = r by omega] at hc1
          have HV0 : Hid (stepF P f c m = (false || (f r && !star P r && takesAt P r c))) := by rw [Hid, HSF.out, HST.out, decide_eq_true (by omega), show m - 1 = r by omega]; simp
          have HMR : Hid ((m : Int) - 1 = (r : Int)) := by rw [Hid]; omega
          clear hm0 hmr
          obtain ⟨b3, hb3⟩ : ∃ b, f r = b := ⟨_, rfl⟩
          rw [hb3] at hc1 HV0
          clear hb3
          cases b3
          · have HV : Hid (stepF P f c m = false) := HV0.out.trans (by simp)
            clear HV0
            go_wp2_with fail
            exact ⟨⟨m, by omega, by rw [HMR.out], HNX.out _ (HV.out), HG2.out _⟩, by have := HMR.out; simp [intOf]; omega⟩
          · obtain ⟨a4, cap4, f1, hp4⟩ := HPC.out
            obtain ⟨b4, o4, f2, hne4, hpc4⟩ := hp4 r hr
            injection f1 with f3 f4 f5
            subst f3
            first | subst f2 | (injection f2 with f2; injection f2 with f6 f7; subst f6; subst f7)
            have p4 := hpc4.c0
            have hst4 := star_sem HP.out hr
            have htk := takes_sem HP.out hr c
            have HTK := Lib.hid (takes_any _ _ ps[r] c wr hpc4)
            obtain ⟨s4, hs4⟩ : ∃ s, star P r = s := ⟨_, rfl⟩
            obtain ⟨t4, ht4⟩ : ∃ t, takesAt P r c = t := ⟨_, rfl⟩
            rw [hs4] at hst4
            rw [ht4] at htk
            rw [← htk] at HTK
            rw [hs4, ht4] at HV0
            obtain ⟨kd4, hk4⟩ : ∃ kd, ps[r].kind = kd := ⟨_, rfl⟩
            rw [hk4] at p4 hst4
            have hst4b := hst4.symm
            clear hs4 ht4 htk hk4 hpc4 hp4 f4 f5 hst4
            cases s4
            · have hst4c : ((kd4 : Int) != 3) = true := by rw [bne, hst4b]; rfl
              have HV : Hid (stepF P f c m = (false || t4)) := HV0.out.trans (by simp)
              clear HV0
              go_wp2_with fail
              refine HTK.out.mono ?_
              rintro e w2 ⟨rfl, h⟩
              obtain rfl := h
              simp only []
              go_wp2_with fail
              exact ⟨⟨m, by omega, by rw [HMR.out], HNX.out _ (HV.out), HG2.out _⟩, by have := HMR.out; simp [intOf]; omega⟩
            · have hst4c : ((kd4 : Int) != 3) = false := by rw [bne, hst4b]; rfl
              have HV : Hid (stepF P f c m = false) := HV0.out.trans (by simp)
              clear HV0
              go_wp2_with fail
              exact ⟨⟨m, by omega, by rw [HMR.out], HNX.out _ (HV.out), HG2.out _⟩, by have := HMR.out; simp [intOf]; omega⟩
end Go.Proofs.Ytpgaeldjiiaoiaa
