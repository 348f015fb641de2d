import Derived.Test.YtkdacdbmlgffgaaV
namespace Go.Proofs.Ytkdacdbmlgffgaa
open Go.RowKit
set_option linter.unusedVariables false

theorem run_append_none (W : World) (B : Nat) (v : Value) (L : List Pr) (hR : Row W B v L) (ty : TypeId) : (Builtin.append_ #[24, 24] ty #[v, .slice none 0 0]).run Try.prog W = .ok v W := by
  obtain ⟨i0, hi, hz0, hz1, hz2⟩ := info_parts info54
  exact run_append_owned_none (P := Try.prog) (w := W) B 24 ty 54 i0 2 Try.underlying24 hi v L.length (pcells L) hR
set_option maxRecDepth 100000 in
set_option maxHeartbeats 8000000 in
theorem PutPair_none (x y : ByteArray) (w : World) :
    Calls Try.prog 26 #[.slice none 0 0, .agg #[.string x, .string y]] w fun e w' => (∃ v', e = .returned v' ∧ Row w' w.heap.size v' (setL [] x y)) ∧ Below w.heap.size w w' := by
  have HSET : Hid (setL [] x y = [⟨x, y⟩]) := rfl
  have HBW := Lib.hid ((Below.refl w.heap.size w).alloc (Nat.le_refl _) (.cells #[.string x, .string y] 54))
  have HX0 : Hid ((w.alloc (.cells #[.string x, .string y] 54)).cell? ⟨w.heap.size, 0, none⟩ = some (.string x) ∧ (w.alloc (.cells #[.string x, .string y] 54)).cell? ⟨w.heap.size, 1, none⟩ = some (.string y)) := ⟨by simp only [World.cell?, heap_alloc_new w]; rfl, by simp only [World.cell?, heap_alloc_new w]; rfl⟩
  have hz1 : (w.alloc (.cells #[.string x, .string y] 54)).heap.size = w.heap.size + 1 := by simp
  obtain ⟨w1, hw1⟩ : ∃ w1, w.alloc (.cells #[.string x, .string y] 54) = w1 := ⟨_, rfl⟩
  rw [hw1] at HBW HX0 hz1
  have HW1 := Lib.hid hw1
  have HZ1 := Lib.hid hz1
  clear hw1 hz1
  go_enter Try.func26, Try.ntmps26
  go_wp2_with fail
  rw [HW1.out]
  go_loopw [5] (fun i wr => i = .int .i64 0 ∧ Hid (Below w1.heap.size w1 wr)) (fun i _ => 0)
  case atStart => exact ⟨rfl, Below.refl _ _⟩
  case round =>
    obtain ⟨rfl, HB⟩ := hrel
    go_wp2_with fail
    go_quiet (fail)
    go_wp2_with fail
    go_quiet (fail)
    go_wp2_with fail
    refine wp_gen (fun w5 => Below w1.heap.size w1 w5) (by first | exact below_drewN (below_drewN HB.out _) _ | exact below_drewN HB.out _) ?_
    intro w5 hB5
    have HB5 := Lib.hid hB5
    have hx0 := (HB5.out.cell (p := ⟨w.heap.size, 0, none⟩) (by show w.heap.size < _; have := HZ1.out; omega)).trans HX0.out.1
    have hx1 := (HB5.out.cell (p := ⟨w.heap.size, 1, none⟩) (by show w.heap.size < _; have := HZ1.out; omega)).trans HX0.out.2
    have hz5 : w.heap.size < w5.heap.size := by have := HZ1.out; have := HB5.out.size; omega
    have HWD : Hid (Below w.heap.size w w5.drew) := HBW.out.trans ((HB5.out.drew).mono (by have := HZ1.out; omega))
    clear hB5
    have mixed : Try.prog.follows Departure.mixedOrders = true := by kernel_rfl
    go_region_law_o (first
      | (refine step_run_append rfl (.const (.slice none 0 0)) (.tmp 43) 24 24 rfl (.slice none 0 0) (.slice none 0 0) rfl (by simp [Act.eval, Act.put]) (run_append_none _ 0 _ [] (Row.nil _ _) _) ?_)
      | (refine step_append_row rfl (.tmp 44) (.tmp 46) rfl w.heap.size (.slice none 0 0) [] (by simp [Act.eval, Act.put]) (Row.nil _ _) w5.heap.size 1 1 [⟨x, y⟩] (by simp [Act.eval, Act.put]) rfl (oneC_new w5.drew x y) (by simp) (by simp; omega) ?_; intro vb wb hRb hgb; have hBb : Below w.heap.size w wb := (HWD.out.alloc HWD.out.size _).grown hgb (by simp; omega) (fun j hj => by cases hj)))
    all_goals
      have HRb : Hid (Row wb w.heap.size vb [⟨x, y⟩]) := hRb
      have HBb := Lib.hid hBb
      clear hRb hgb hBb
      go_wp2_with (at_builtin; refine wpList_run_append _ rfl _ _ 24 24 rfl _ _ rfl rfl (run_append_none _ _ _ _ HRb.out _) ?_)
      go_ret
      exact ⟨⟨vb, rfl, by rw [HSET.out]; exact HRb.out⟩, HBb.out⟩
theorem PutPair_any (v : Value) (L : List Pr) (x y : ByteArray) (B : Nat) (w : World) (hL : L.length ≤ 50000) (hr : Ris L) (hR : Row w B v L) :
    Calls Try.prog 26 #[v, .agg #[.string x, .string y]] w fun e w' => (∃ v', e = .returned v' ∧ Row w' w.heap.size v' (setL L x y)) ∧ Below w.heap.size w w' := by
  rcases hR.form with ⟨rfl, rfl⟩ | ⟨b, cap, rfl, hb1, hb2, hcap, hcm, hcells, hfz⟩
  · exact PutPair_none x y w
  · unfold maxLen at hcm
    exact PutPair_some b cap L x y w hL hr hb2 hcap (by omega) hcells
/-! The reference's Set. -/
set_option maxRecDepth 100000 in
set_option maxHeartbeats 4000000 in
theorem RefSet_any (g : Nat) (v : Value) (L : List Pr) (x y : ByteArray) (B : Nat) (w : World) (hL : L.length ≤ 40000) (hx : x.size ≤ 4611686018427387903) (hy : y.size ≤ 9223372036854775807) (hB : B ≤ w.heap.size) (hr : Ris L) (hV : VAt w 29 B g v L) :
    Calls Try.prog 11 #[.pointer (some ⟨g, 0, none⟩), .string x, .string y] w fun e w' => e = .returned (.int .i64 (setE L x y)) ∧ Moved 29 B g v (setR L x y) w w' := by
  have HN := Lib.hid (fun w => RName_any x w hx)
  have HA := Lib.hid (fun w => RefAt_any y w hy)
  have HG := Lib.hid (RefGet_any g v L x B w (by omega) hr hV)
  have HP := Lib.hid (PutPair_any v L x y B w (by omega) hr hV.row)
  obtain ⟨H, hH⟩ : ∃ H, has L x.data.toList = H := ⟨_, rfl⟩
  obtain ⟨G, hG⟩ : ∃ G, getL L x.data.toList = G := ⟨_, rfl⟩
  obtain ⟨N, hN⟩ : ∃ N, okName x = N := ⟨_, rfl⟩
  obtain ⟨I, hI⟩ : ∃ I, Lib.indexByte y.data.toList 0 = I := ⟨_, rfl⟩
  obtain ⟨C, hC⟩ : ∃ C, decide ((0 : Int) ≤ I) = C := ⟨_, rfl⟩
  have HE : Hid (setE L x y = if N = true ∧ C = false then if 4096 < y.size ∨ (H = false ∧ 500 ≤ L.length) then 3 else 0 else 1) := by rw [Hid, setE, hN, hI, hC, hH]
  have HR : Hid (setR L x y = if setE L x y = 0 then setL L x y else L) := rfl
  rw [hH, hG] at HG
  rw [hN] at HN
  rw [hI] at HA
  obtain ⟨E, hE⟩ : ∃ E, setE L x y = E := ⟨_, rfl⟩
  obtain ⟨R, hRR⟩ : ∃ R, setR L x y = R := ⟨_, rfl⟩
  obtain ⟨S, hS⟩ : ∃ S, setL L x y = S := ⟨_, rfl⟩
  rw [hE] at HE HR ⊢
  rw [hRR] at HR ⊢
  rw [hS] at HR HP
  have HV := Lib.hid hV
  have hc := hV.cell
  have hlI : (L.length : Int) ≤ 40000 := by omega
  obtain ⟨s0, c0, hf0⟩ : ∃ s c, v = .slice s L.length c := by
    rcases hV.row.form with ⟨rfl, rfl⟩ | ⟨b, cap, rfl, _⟩ <;> exact ⟨_, _, rfl⟩
  subst hf0
  have hMR := Moved.refl hV (Below.refl _ _)
  have HMR := Lib.hid hMR
  clear hN hH hG hI hV hr hE hRR hx hy hS hMR
  cases N with
  | false =>
    have hE1 : Hid (E = 1) := by rw [Hid, HE.out]; rfl
    have hR1 : Hid (R = L) := by rw [Hid, HR.out, hE1.out]; rfl
    go_enter Try.func11, Try.ntmps11
    go_wp2_with (go_at_call 15; refine (HN.out _).mono ?_; rintro e w' ⟨rfl, h⟩; obtain rfl := h.symm)
    go_ret
    exact ⟨by rw [hE1.out]; rfl, by rw [hR1.out]; exact HMR.out⟩
  | true =>
    cases C with
    | true =>
      have hE1 : Hid (E = 1) := by rw [Hid, HE.out]; rfl
      have hR1 : Hid (R = L) := by rw [Hid, HR.out, hE1.out]; rfl
      go_enter Try.func11, Try.ntmps11
      go_wp2_with (first | (go_at_call 15; refine (HN.out _).mono ?_; rintro e w' ⟨rfl, h⟩; obtain rfl := h.symm) | (go_at_call 25; refine (HA.out _).mono ?_; rintro e w' ⟨rfl, h⟩; obtain rfl := h.symm))
      go_ret
      exact ⟨by rw [hE1.out]; rfl, by rw [hR1.out]; exact HMR.out⟩
    | false =>
      have HE2 : Hid (E = if 4096 < y.size ∨ (H = false ∧ 500 ≤ L.length) then 3 else 0) := by rw [Hid, HE.out]; rfl
      clear HE
      by_cases h3 : 4096 < y.size ∨ (H = false ∧ 500 ≤ L.length)
      · have hE1 : Hid (E = 3) := by rw [Hid, HE2.out, if_pos h3]
        have hR1 : Hid (R = L) := by rw [Hid, HR.out, hE1.out]; rfl
        obtain ⟨b4, hb4⟩ : ∃ b, decide ((4096 : Int) < (y.size : Int)) = b := ⟨_, rfl⟩
        obtain ⟨b5, hb5⟩ : ∃ b, decide ((500 : Int) ≤ (L.length : Int)) = b := ⟨_, rfl⟩
        have HNO : Hid (b4 = false → (H = true ∨ b5 = false) → False) := by
          intro e1 e2
          rw [e1] at hb4
          have h4 := of_decide_eq_false hb4
          rcases h3 with h | ⟨h, h'⟩
          · omega
          · rcases e2 with e2 | e2
            · rw [e2] at h; cases h
            · rw [e2] at hb5; have := of_decide_eq_false hb5; omega
        clear h3
        cases b4 <;> cases b5 <;> cases H
        all_goals first
          | exact (HNO.out rfl (.inl rfl)).elim
          | exact (HNO.out rfl (.inr rfl)).elim
          | (go_enter Try.func11, Try.ntmps11
             go_wp2_with (first | (go_at_call 15; refine (HN.out _).mono ?_; rintro e w' ⟨rfl, h⟩; obtain rfl := h.symm) | (go_at_call 25; refine (HA.out _).mono ?_; rintro e w' ⟨rfl, h⟩; obtain rfl := h.symm) | (go_at_call 13; refine HG.out.mono ?_; rintro e w' ⟨rfl, h⟩; obtain rfl := h.symm))
             go_ret
             exact ⟨by rw [hE1.out]; rfl, by rw [hR1.out]; exact HMR.out⟩)
      · have hE1 : Hid (E = 0) := by rw [Hid, HE2.out, if_neg h3]
        have hR1 : Hid (R = S) := by rw [Hid, HR.out, hE1.out]; rfl
        obtain ⟨b5, hb5⟩ : ∃ b, decide ((500 : Int) ≤ (L.length : Int)) = b := ⟨_, rfl⟩
        have hb4 : decide ((4096 : Int) < (y.size : Int)) = false := decide_eq_false (fun h => h3 (.inl (by omega)))
        have HNO : Hid (H = false → b5 = true → False) := by
          intro e1 e2
          rw [e2] at hb5
          have := of_decide_eq_true hb5
          exact h3 (.inr ⟨e1, by omega⟩)
        clear h3
        cases b5 <;> cases H
        all_goals first
          | exact (HNO.out rfl rfl).elim
          | (go_enter Try.func11, Try.ntmps11
             go_wp2_with (first | (go_at_call 15; refine (HN.out _).mono ?_; rintro e w' ⟨rfl, h⟩; obtain rfl := h.symm) | (go_at_call 25; refine (HA.out _).mono ?_; rintro e w' ⟨rfl, h⟩; obtain rfl := h.symm) | (go_at_call 13; refine HG.out.mono ?_; rintro e w' ⟨rfl, h⟩; obtain rfl := h.symm))
             refine HP.out.mono ?_
             rintro e w2 ⟨⟨v2, rfl, hR2⟩, hB2⟩
             have hO : Only (fun i => (Value.slice s0 L.length c0).ownBlock = some i) w w2 := Only.of_below hB2
             obtain ⟨hc2, hf2⟩ := put_cell HV.out hO
             have hW : v2.ownBlock = (Value.slice s0 L.length c0).ownBlock ∨ ∀ j, v2.ownBlock = some j → w.heap.size ≤ j := .inr fun j hj => (hR2.lt j hj).1
             obtain ⟨p1, p2⟩ := HV.out.put (World.ownsRow.mono hR2 hB) hO hW
             have HM : Hid (Moved 29 B g (.slice s0 L.length c0) R w (w2.setCell ⟨g, 0, none⟩ v2)) := by rw [hR1.out]; exact ⟨v2, p1, p2, hW⟩
             have hfm : ∃ s n c, v2 = .slice s n c := by
               rcases hR2.form with ⟨h, _⟩ | ⟨_, _, h, _⟩
               · exact ⟨_, _, _, h⟩
               · exact ⟨_, _, _, h⟩
             obtain ⟨s2, n2, c2, rfl⟩ := hfm
             clear hR2 hB2 hO hW p1 p2
             simp only []
             go_wp2_with fail
             go_ret
             exact ⟨by rw [hE1.out]; rfl, HM.out⟩)
end Go.Proofs.Ytkdacdbmlgffgaa
