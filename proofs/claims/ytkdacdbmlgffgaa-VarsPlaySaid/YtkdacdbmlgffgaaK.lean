import Derived.Test.YtkdacdbmlgffgaaJ
namespace Go.Proofs.Ytkdacdbmlgffgaa
open Go.RowKit
set_option linter.unusedVariables false

theorem pcells_set : ∀ (L : List Pr) (i : Nat) (h : i < L.length) (v : ByteArray), (pcells L).set (i * 2 + 1) (.string v) = pcells (L.set i ⟨L[i].n, v⟩)
  | [], _, h, _ => absurd h (by simp)
  | p :: L, 0, _, v => rfl
  | p :: L, i + 1, h, v => by
    show ([Value.string p.n, .string p.v] ++ pcells L).set ((i + 1) * 2 + 1) (.string v) = [Value.string p.n, .string p.v] ++ pcells (L.set i ⟨L[i]'(by simpa using h) |>.n, v⟩)
    rw [show (i + 1) * 2 + 1 = i * 2 + 1 + 1 + 1 by omega, ← pcells_set L i (by simpa using h) v]; rfl
/-- A value that is written over. -/
theorem Row.setv {w : World} {B b cap : Nat} {L : List Pr} (h : Row w B (.slice (some ⟨b, 0, none⟩) L.length cap) L) (i : Nat) (hi : i < L.length) (v : ByteArray) :
    Row (w.setCell ⟨b, i * 2 + 1, none⟩ (.string v)) B (.slice (some ⟨b, 0, none⟩) L.length cap) (L.set i ⟨L[i].n, v⟩) := by
  have := (World.ownsRow.stored h (i * 2 + 1) (.string v)).1
  unfold Row
  rw [← pcells_set, List.length_set]; exact this
theorem has_at {L : List Pr} {x : ByteArray} {P : Nat} (hP : pos L x.data.toList = P) (h : has L x.data.toList = true) : ∃ h : P < L.length, L[P].n = x := by
  subst hP
  obtain ⟨a, b⟩ := has_iff.1 h
  exact ⟨a, Pr.key_inj b⟩
theorem One.new (w : World) (p : Pr) : One (w.alloc (.cells #[.string p.n, .string p.v] 54)) w.heap.size p := ⟨heap_alloc_new w _⟩
set_option maxRecDepth 100000 in
set_option maxHeartbeats 4000000 in
theorem Set_any (g : Nat) (v : Value) (L : List Pr) (x y : ByteArray) (B : Nat) (w : World) (hL : L.length ≤ 50000) (hx : x.size ≤ 9223372036854775807) (hB : B ≤ w.heap.size) (hr : Ris L) (hV : VAt w 26 B g v L) :
    Calls Try.prog 7 #[.pointer (some ⟨g, 0, none⟩), .string x, .string y] w fun e w' => e = .returned (.int .i64 (setE L x y)) ∧ Moved 26 B g v (setR L x y) w w' := by
  have HN := Lib.hid (fun w => VName_any x w hx)
  have HC := Lib.hid (fun w => contains0 y w)
  have HF := Lib.hid (fun w h => find_any g v L x B w (by omega) hr h)
  obtain ⟨P, hP⟩ : ∃ P, pos L x.data.toList = P := ⟨_, rfl⟩
  obtain ⟨H, hH⟩ : ∃ H, has L x.data.toList = H := ⟨_, rfl⟩
  obtain ⟨N, hN⟩ : ∃ N, okName x = N := ⟨_, rfl⟩
  obtain ⟨C, hC⟩ : ∃ C, decide (0 ≤ Lib.indexByte y.data.toList 0) = C := ⟨_, rfl⟩
  have HE : Hid (setE L x y = if N = true ∧ C = false then if 4096 < y.size ∨ (H = false ∧ 500 ≤ L.length) then 3 else 0 else 1) := by rw [Hid, setE, hN, hC, hH]
  have HR : Hid (setR L x y = if setE L x y = 0 then setL L x y else L) := rfl
  have HSL : Hid (setL L x y = L.take P ++ [⟨x, y⟩] ++ L.drop (P + if H then 1 else 0)) := by rw [Hid, setL, hP, hH]
  rw [hP, hH] at HF
  rw [hN] at HN
  rw [hC] at HC
  have HLT := Lib.hid (fun (h : H = true) => has_at hP (hH.trans h))
  obtain ⟨E, hE⟩ : ∃ E, setE L x y = E := ⟨_, rfl⟩
  obtain ⟨R, hRR⟩ : ∃ R, setR L x y = R := ⟨_, rfl⟩
  rw [hE] at HE HR ⊢
  rw [hRR] at HR ⊢
  have HV := Lib.hid hV
  have hple := pos_le L x.data.toList
  rw [hP] at hple
  have HPL := Lib.hid hple
  have hpI : (P : Int) ≤ (L.length : Int) := by omega
  have hp0 : (0 : Int) ≤ (P : Int) := by omega
  have hlI : (L.length : Int) ≤ 50000 := by omega
  clear hN hC hH hP hV hr hE hRR hx hple
  cases N with
  | false =>
    have hE1 : Hid (E = 1) := by rw [Hid, HE.out]; rfl
    have hR1 : Hid (R = L) := by rw [Hid, HR.out, hE1.out]; rfl
    go_enter Try.func7, Try.ntmps7
    go_wp2_with (go_at_call 14; refine (HN.out _).mono ?_; rintro e w' ⟨rfl, h⟩; obtain rfl := h.symm)
    go_ret
    exact ⟨by rw [hE1.out]; rfl, by rw [hR1.out]; exact Moved.refl HV.out (Below.refl _ _)⟩
  | true =>
    cases C with
    | true =>
      have hE1 : Hid (E = 1) := by rw [Hid, HE.out]; rfl
      have hR1 : Hid (R = L) := by rw [Hid, HR.out, hE1.out]; rfl
      go_enter Try.func7, Try.ntmps7
      go_wp2_with (first | (go_at_call 14; refine (HN.out _).mono ?_; rintro e w' ⟨rfl, h⟩; obtain rfl := h.symm) | (go_at_call 21; refine (HC.out _).mono ?_; rintro e w' ⟨rfl, h⟩; obtain rfl := h.symm))
      go_ret
      exact ⟨by rw [hE1.out]; rfl, by rw [hR1.out]; exact Moved.refl HV.out (Below.refl _ _)⟩
    | false =>
      have HE2 : Hid (E = if 4096 < y.size ∨ (H = false ∧ 500 ≤ L.length) then 3 else 0) := by rw [Hid, HE.out]; rfl
      clear HE
      go_enter Try.func7, Try.ntmps7
      go_wp2_with (first | (go_at_call 14; refine (HN.out _).mono ?_; rintro e w' ⟨rfl, h⟩; obtain rfl := h.symm) | (go_at_call 21; refine (HC.out _).mono ?_; rintro e w' ⟨rfl, h⟩; obtain rfl := h.symm))
      refine (HF.out _ HV.out).mono ?_
      rintro e w1 ⟨rfl, hb1⟩
      have HV1 := Lib.hid (HV.out.below hb1)
      have HB1 := Lib.hid hb1
      have HBB := Lib.hid (Nat.le_trans hB hb1.size)
      clear hb1
      simp only []
      have hc1 := HV1.out.cell
      have hf1 := HV1.out.free
      have hgl := HV1.out.lt
      by_cases h4 : 4096 < y.size
      · have h4I : (4096 : Int) < (y.size : Int) := by omega
        have hE1 : Hid (E = 3) := by rw [Hid, HE2.out, if_pos (.inl h4)]
        have hR1 : Hid (R = L) := by rw [Hid, HR.out, hE1.out]; rfl
        go_wp2_with fail
        go_ret
        exact ⟨by rw [hE1.out]; rfl, by rw [hR1.out]; exact Moved.refl HV.out HB1.out⟩
      · have h4I : decide ((4096 : Int) < (y.size : Int)) = false := decide_eq_false (by omega)
        cases H with
        | true =>
          have hE1 : Hid (E = 0) := by rw [Hid, HE2.out, if_neg (by rintro (h | ⟨h, _⟩); exact h4 h; cases h)]
          obtain ⟨hPl, hkey⟩ := HLT.out rfl
          have hR1 : Hid (R = L.set P ⟨L[P].n, y⟩) := by
            rw [Hid, HR.out, hE1.out, if_pos rfl, HSL.out, List.set_eq_take_append_cons_drop, if_pos hPl]
            rw [hkey]; simp
          have hPlI : (P : Int) < (L.length : Int) := by omega
          rcases HV1.out.row.form with ⟨h, h2⟩ | ⟨b, cap, rfl, hb1, hb2, hcap, hcm, hcells, hfz⟩
          · exact absurd hPl (by rw [h2]; simp)
          have hcv := (hcells P hPl).2
          have hfv := hfz (P * 2 + 1)
          have hadd := add2 b P
          have hbg : b ≠ g := fun e => HV1.out.ne (by rw [e]; rfl)
          have HRW := Lib.hid (HV1.out.row.setv P hPl y)
          have HM : Hid (Moved 26 B g (.slice (some ⟨b, 0, none⟩) L.length cap) R w (w1.setCell ⟨b, P * 2 + 1, none⟩ (.string y))) := by
            rw [Hid, hR1.out]
            refine Moved.of_below HB1.out ⟨_, ⟨?_, HRW.out, HV1.out.le, HV1.out.ne⟩, (Only.refl _ w1).set (.inl (.inr rfl)) _ _, .inl rfl⟩
            exact (Below.heap_setCell w1 ⟨b, P * 2 + 1, none⟩ _ g (fun e => hbg e.symm)).trans HV1.out.blk
          clear hcells hfz hkey h4
          go_wp2_with fail
          go_ret
          exact ⟨by rw [hE1.out]; rfl, HM.out⟩
        | false =>
          by_cases h5 : 500 ≤ L.length
          · have h5I : (500 : Int) ≤ (L.length : Int) := by omega
            have hE1 : Hid (E = 3) := by rw [Hid, HE2.out, if_pos (.inr ⟨rfl, h5⟩)]
            have hR1 : Hid (R = L) := by rw [Hid, HR.out, hE1.out]; rfl
            have HRL := Lib.hid HV1.out.row.form
            rcases HRL.out with ⟨h, h2⟩ | ⟨b, cap, rfl, hb1, hb2, hcap, hcm, hcells, hfz⟩
            · exact absurd h5 (by rw [h2]; simp)
            clear hcells hfz h4 h5 HRL
            go_wp2_with fail
            go_ret
            exact ⟨by rw [hE1.out]; rfl, by rw [hR1.out]; exact Moved.refl HV.out HB1.out⟩
          · have h5I : decide ((500 : Int) ≤ (L.length : Int)) = false := decide_eq_false (by omega)
            have hE1 : Hid (E = 0) := by rw [Hid, HE2.out, if_neg (by rintro (h | ⟨_, h⟩); exact h4 h; exact h5 h)]
            have hR1 : Hid (R = L.take P ++ [⟨x, y⟩] ++ L.drop P) := by rw [Hid, HR.out, hE1.out, if_pos rfl, HSL.out]; rfl
            have HBA := Lib.hid ((Below.refl w1.heap.size w1).alloc (Nat.le_refl _) (.cells #[.string x, .string y] 54))
            have HVA := Lib.hid (HV1.out.below HBA.out)
            have HON := Lib.hid (One.new w1 ⟨x, y⟩)
            have HIN := Lib.hid (Insert_any (w1.alloc (.cells #[.string x, .string y] 54)) B v L (by omega) HVA.out.row (by have := HBB.out; have := HBA.out.size; omega) P HPL.out w1.heap.size 1 ⟨x, y⟩ HON.out (fun e => by have := (HV1.out.row.lt _ e).2; omega))
            have hlv : (L.length : Int) < 500 := by omega
            have HEND : Hid (∀ v' w2, Row w2 B v' (L.take P ++ [⟨x, y⟩] ++ L.drop P) → Only (fun i => v.ownBlock = some i) (w1.alloc (.cells #[.string x, .string y] 54)) w2 → (v'.ownBlock = v.ownBlock ∨ ∀ j, v'.ownBlock = some j → (w1.alloc (.cells #[.string x, .string y] 54)).heap.size ≤ j) → Moved 26 B g v R w (w2.setCell ⟨g, 0, none⟩ v')) := by
              intro v' w2 h1 h2 h3
              obtain ⟨p1, p2⟩ := HVA.out.put h1 h2 h3
              rw [hR1.out]
              exact Moved.of_below HB1.out (Moved.of_below HBA.out ⟨_, p1, p2, h3⟩)
            rcases HV1.out.row.form with ⟨rfl, h2⟩ | ⟨b, cap, rfl, hb1, hb2, hcap, hcm, hcells, hfz⟩
            · clear h4 h5
              have hl0 : L.length = 0 := by rw [h2]; rfl
              clear h2
              go_wp2_with fail
              refine HIN.out.mono ?_
              rintro e w2 ⟨v', rfl, hR2, hO2, hw2⟩
              obtain ⟨hc2, hf2⟩ := put_cell HVA.out hO2
              have HM := Lib.hid (HEND.out v' w2 hR2 hO2 hw2)
              rcases hR2.form with ⟨rfl, _⟩ | ⟨b2, cap2, rfl, _⟩
              all_goals
                clear hR2 hO2 hw2
                try (obtain ⟨n2, hn2⟩ : ∃ n2, (L.take P ++ [(⟨x, y⟩ : Pr)] ++ L.drop P).length = n2 := ⟨_, rfl⟩; rw [hn2] at HM ⊢; clear hn2)
                simp only []
                go_wp2_with fail
                go_ret
                exact ⟨by rw [hE1.out]; rfl, HM.out⟩
            · clear hcells hfz h4 h5
              go_wp2_with fail
              refine HIN.out.mono ?_
              rintro e w2 ⟨v', rfl, hR2, hO2, hw2⟩
              obtain ⟨hc2, hf2⟩ := put_cell HVA.out hO2
              have HM := Lib.hid (HEND.out v' w2 hR2 hO2 hw2)
              rcases hR2.form with ⟨rfl, _⟩ | ⟨b2, cap2, rfl, _⟩
              all_goals
                clear hR2 hO2 hw2
                try (obtain ⟨n2, hn2⟩ : ∃ n2, (L.take P ++ [(⟨x, y⟩ : Pr)] ++ L.drop P).length = n2 := ⟨_, rfl⟩; rw [hn2] at HM ⊢; clear hn2)
                simp only []
                go_wp2_with fail
                go_ret
                exact ⟨by rw [hE1.out]; rfl, HM.out⟩
end Go.Proofs.Ytkdacdbmlgffgaa
