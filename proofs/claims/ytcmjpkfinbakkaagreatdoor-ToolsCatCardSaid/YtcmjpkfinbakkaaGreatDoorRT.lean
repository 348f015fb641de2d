import Derived.Test.YtcmjpkfinbakkaaGreatDoorRR
namespace Go.Proofs.YtcmjpkfinbakkaaGreatDoor.Fl
set_option maxRecDepth 100000
open Go.RowKit Go.Sort
set_option linter.unusedVariables false

def textL (x : Nat) : Bs :=
  if nanB x then [110, 97, 110] else if infB x then (if sg x then [45, 105, 110, 102] else [105, 110, 102]) else if x = 9223372036854775808 then [45, 48]
  else if small x && whole x then Lib.itoa (if sg x then -(tr x : Int) else (tr x : Int)) else [48, 120] ++ hx 16 x
theorem zero_eq {x : Nat} (h : nanB x = false) : (FloatKind.f64.format.order x 0 == some .eq) = decide (rg x = 0) := by
  show (D.order x 0 == some .eq) = _
  rw [order_some h (by decide), cmp_eq_iff, decide_eq_decide]
  have h0 : sv 0 = 0 := by decide +kernel
  rw [h0]
  unfold sv
  constructor
  · intro e
    apply un_zero
    split at e <;> omega
  · intro e
    rw [e]
    have : un 0 = 0 := rfl
    rw [this]; simp
theorem fin_of {x : Nat} (h : nanB x = false) (h2 : infB x = false) : rg x < 9218868437227405312 := by
  unfold nanB at h
  unfold infB at h2
  rw [decide_eq_false_iff_not] at h
  rw [beq_eq_false_iff_ne] at h2
  omega
theorem run_conv (x : Nat) (n : Int) (h : (D.read x).toInt .zero = some n) (h1 : -9223372036854775808 ≤ n) (h2 : n ≤ 9223372036854775807) (w : World) :
    (convert 110 2 (.float .f64 x)).run Tryz.prog w = .ok (.int .i64 n) w := by
  have hf : Conv.floatToInt .f64 x .i64 = pure (.int .i64 n) := by
    delta Conv.floatToInt
    show (match (FloatKind.f64.decode x).toInt .zero with
      | some n => _
      | none => _) = _
    rw [show FloatKind.f64.decode x = D.read x from rfl, h]
    show (if IntKind.i64.min ≤ n ∧ n ≤ IntKind.i64.max then _ else _) = _
    rw [if_pos ⟨h1, h2⟩]
  simp [convert, run_underlying Tryz.underlying110, run_underlying Tryz.underlying2, hf, Sem.run_bind, Result.andThen]

theorem below_grow (w : World) (k : Nat) (os : Array Obj) : Below w.heap.size w (grow (w.drewN k) os) :=
  ⟨rfl, rfl, rfl, by simp [grow, World.drewN], fun j hj => by
    show (w.heap ++ os)[j]? = _
    rw [Array.getElem?_append_left hj]⟩
theorem repeat_nought (c : Nat) : Lib.repeatL [48] c = List.replicate c 48 := by
  induction c with
  | zero => rfl
  | succ c ih => rw [Lib.repeatL, ih]; rfl
theorem sub16 {a c : Nat} (h : a + c = 16) : IntKind.i64.wrap ((16 : Int) - (a : Int)) = (c : Int) ∧ wrap64 ((16 : Int) - (a : Int)) = (c : Int) ∧ (0 : Int) ≤ (c : Int) ∧ (16 : Int) - (a : Int) = (c : Int) := by
  refine ⟨by rw [IntKind.wrap_i64]; omega, by unfold wrap64; omega, by omega, by omega⟩
theorem bs_eq {s : ByteArray} {l : Bs} (h : s.data.toList = l) : s = ⟨l.toArray⟩ := by rw [← h]

set_option maxRecDepth 100000 in
set_option maxHeartbeats 4000000 in
/-- The end of Text: sixteen digits. -/
theorem hexText (x : Nat) (hb : x < 18446744073709551616) : ∃ c : Nat, (hexN x).length = 16 - c ∧ c ≤ 16 ∧ (hexN x).length ≤ 16 ∧ ((16 : Int) - ((hexN x).length : Int) = (c : Int)) ∧ List.replicate c 48 ++ hexN x = hx 16 x := by
  obtain ⟨h1, h2⟩ := hexN_pad 15 x (by simpa using hb)
  exact ⟨16 - (hexN x).length, by omega, by omega, h1, by omega, h2⟩

set_option maxRecDepth 100000 in
set_option maxHeartbeats 8000000 in
theorem Text_any (x : Nat) (hx : x < 18446744073709551616) (w : World) (hT : Tabs w) :
    Calls Tryz.prog 117 #[.int .u64 x] w fun e w' => e = .returned (.string ⟨(textL x).toArray⟩) ∧ Below w.heap.size w w' := by
  have hf := run_from
  obtain ⟨R, hR⟩ : ∃ R, textL x = R := ⟨_, rfl⟩
  rw [hR]
  have HR := Lib.hid hR
  have HX := Lib.hid hx
  clear hR hx
  cases hn : nanB x with
  | true =>
    have HE : Hid (R = [110, 97, 110]) := by rw [Hid, ← HR.out, textL, if_pos hn]
    go_enter Tryz.func117, Tryz.ntmps117
    go_wp2_with (go_at_call 161; refine (isNaN_any _ _).mono ?_; rw [hn]; rintro e w' ⟨rfl, rfl⟩; clear hn)
    go_ret
    exact ⟨by rw [HE.out]; rfl, Below.refl _ _⟩
  | false =>
    have HN := Lib.hid hn
    have hp := fun w => IsInf_pos x w hn
    have hm := fun w => IsInf_neg x w hn HX.out
    have hNaN := fun w => isNaN_any x w
    rw [hn] at hNaN
    cases hi : infB x with
    | true =>
      cases hs : sg x with
      | true =>
        have HE : Hid (R = [45, 105, 110, 102]) := by rw [Hid, ← HR.out, textL, hn, hi, hs]; rfl
        rw [hi, hs] at hp hm
        have HP := Lib.hid hp
        have HM := Lib.hid hm
        have HA := Lib.hid hNaN
        clear hp hm hNaN hn hi hs
        go_enter Tryz.func117, Tryz.ntmps117
        go_wp2_with fail
        refine (HA.out w).mono ?_
        rintro e w1 ⟨rfl, h⟩
        obtain rfl := h.symm
        go_wp2_with fail
        refine (HP.out w).mono ?_
        rintro e w1 ⟨rfl, h⟩
        obtain rfl := h.symm
        go_wp2_with fail
        refine (HM.out w).mono ?_
        rintro e w1 ⟨rfl, h⟩
        obtain rfl := h.symm
        go_wp2_with fail
        go_ret
        exact ⟨by rw [HE.out]; rfl, Below.refl _ _⟩
      | false =>
        have HE : Hid (R = [105, 110, 102]) := by rw [Hid, ← HR.out, textL, hn, hi, hs]; rfl
        rw [hi, hs] at hp hm
        have HP := Lib.hid hp
        have HA := Lib.hid hNaN
        clear hp hm hNaN hn hi hs
        go_enter Tryz.func117, Tryz.ntmps117
        go_wp2_with fail
        refine (HA.out w).mono ?_
        rintro e w1 ⟨rfl, h⟩
        obtain rfl := h.symm
        go_wp2_with fail
        refine (HP.out w).mono ?_
        rintro e w1 ⟨rfl, h⟩
        obtain rfl := h.symm
        go_wp2_with fail
        go_ret
        exact ⟨by rw [HE.out]; rfl, Below.refl _ _⟩
    | false =>
      rw [hi] at hp hm
      have hfin := fin_of hn hi
      have HP := Lib.hid hp
      have HM := Lib.hid hm
      have HA := Lib.hid hNaN
      have hz := zero_eq hn
      have HSG := Lib.hid (fun w => Signbit_any x HX.out w)
      have hsm := small_cmp hn
      obtain ⟨b1, hb1⟩ : ∃ b, (FloatKind.f64.format.order 14054727237768577024 x == some .lt) = b := ⟨_, rfl⟩
      obtain ⟨b2, hb2⟩ : ∃ b, (FloatKind.f64.format.order x 4831355200913801216 == some .lt) = b := ⟨_, rfl⟩
      have HSM : Hid ((b1 && b2) = small x) := by rw [Hid, ← hsm, ← hb1, ← hb2]; rfl
      have HI := Lib.hid hi
      have HF := Lib.hid hfin
      clear hp hm hNaN hsm hn hi hfin
      by_cases hz0 : x = 9223372036854775808
      · have HE : Hid (R = [45, 48]) := by rw [Hid, ← HR.out, textL, HN.out, HI.out, if_pos hz0]; rfl
        subst hz0
        have hz2 : rg 9223372036854775808 = 0 := by decide +kernel
        rw [hz2] at hz
        have hsg : sg 9223372036854775808 = true := by decide +kernel
        have HS2 := HSG.out
        rw [hsg] at HS2
        have HS3 := Lib.hid HS2
        clear HS2 hsg hz2 HSG
        go_enter Tryz.func117, Tryz.ntmps117
        go_wp2_with fail
        refine (HA.out w).mono ?_
        rintro e w1 ⟨rfl, h⟩
        obtain rfl := h.symm
        go_wp2_with fail
        refine (HP.out w).mono ?_
        rintro e w1 ⟨rfl, h⟩
        obtain rfl := h.symm
        go_wp2_with fail
        refine (HM.out w).mono ?_
        rintro e w1 ⟨rfl, h⟩
        obtain rfl := h.symm
        go_wp2_with fail
        refine (HS3.out w).mono ?_
        rintro e w1 ⟨rfl, h⟩
        obtain rfl := h.symm
        go_wp2_with fail
        go_ret
        exact ⟨by rw [HE.out]; rfl, Below.refl _ _⟩
      · by_cases hr0 : rg x = 0
        case pos =>
          rw [hr0] at hz
          have hsg : sg x = false := by
            cases h : sg x with
            | false => rfl
            | true =>
              exfalso
              apply hz0
              have h1 := word_self HX.out
              rw [h, hr0, word_val] at h1
              exact h1.symm
          have HS2 := HSG.out
          rw [hsg] at HS2
          have HS3 := Lib.hid HS2
          clear HS2 hsg HSG
          cases b1 with
          | false =>
            have hsm : small x = false := HSM.out.symm
            have HTX : Hid (textL x = [48, 120] ++ hx 16 x) := by rw [Hid, textL, HN.out, HI.out, if_neg hz0, hsm]; rfl
            clear hsm
            obtain ⟨c, k1, k2, k3, k4, k5⟩ := hexText x HX.out
            have hU := FormatUint_any x HX.out w hT
            obtain ⟨S, hS⟩ : ∃ S : ByteArray, ⟨(hexN x).toArray⟩ = S := ⟨_, rfl⟩
            have hSs : S.size + c = 16 := by rw [← hS]; show (hexN x).length + c = 16; omega
            rw [hS] at hU
            have hRp := fun w => Tryz.strings_Repeat ⟨#[48]⟩ c w (by omega) (by show 1 * c ≤ _; omega)
            obtain ⟨Z, hZ⟩ : ∃ Z : ByteArray, ⟨(Lib.repeatL [48] c).toArray⟩ = Z := ⟨_, rfl⟩
            have hZs : Z.size = c := by rw [← hZ, repeat_nought]; show (List.replicate c (48 : UInt8)).length = c; simp
            have hRp2 : ∀ w, Calls Tryz.prog 167 #[.string ⟨#[48]⟩, .int .i64 c] w fun e w' => e = .returned (.string Z) ∧ Below w.heap.size w w' := by rw [← hZ]; exact hRp
            have HU := Lib.hid hU
            have HRP := Lib.hid hRp2
            obtain ⟨q1, q2, q3, q4⟩ := sub16 hSs
            have HE : Hid ((⟨#[48, 120]⟩ : ByteArray) ++ Z ++ S = ⟨R.toArray⟩) := by
              rw [Hid, ← HR.out, HTX.out]
              refine bs_eq ?_
              rw [← hZ, ← hS, repeat_nought, ← k5]
              simp
            clear hU hRp hRp2 hS hZ k1 k2 k3 k4 k5
            go_enter Tryz.func117, Tryz.ntmps117
            go_wp2_with fail
            refine (HA.out w).mono ?_
            rintro e w1 ⟨rfl, h⟩
            obtain rfl := h.symm
            go_wp2_with fail
            refine (HP.out w).mono ?_
            rintro e w1 ⟨rfl, h⟩
            obtain rfl := h.symm
            go_wp2_with fail
            refine (HM.out w).mono ?_
            rintro e w1 ⟨rfl, h⟩
            obtain rfl := h.symm
            go_wp2_with fail
            refine (HS3.out w).mono ?_
            rintro e w1 ⟨rfl, h⟩
            obtain rfl := h.symm
            go_wp2_with fail
            refine HU.out.mono ?_
            rintro e w2 ⟨rfl, hB⟩
            have HB := Lib.hid hB
            clear hB
            go_wp2_with fail
            refine (HRP.out w2).mono ?_
            rintro e w3 ⟨rfl, hB⟩
            have HB3 := Lib.hid (HB.out.trans (hB.mono HB.out.size))
            clear hB
            go_wp2_with fail
            go_ret
            exact ⟨by rw [← HE.out]; rfl, HB3.out⟩
          | true =>
            cases b2 with
            | false =>
              have hsm : small x = false := HSM.out.symm
              have HTX : Hid (textL x = [48, 120] ++ hx 16 x) := by rw [Hid, textL, HN.out, HI.out, if_neg hz0, hsm]; rfl
              clear hsm
              obtain ⟨c, k1, k2, k3, k4, k5⟩ := hexText x HX.out
              have hU := FormatUint_any x HX.out w hT
              obtain ⟨S, hS⟩ : ∃ S : ByteArray, ⟨(hexN x).toArray⟩ = S := ⟨_, rfl⟩
              have hSs : S.size + c = 16 := by rw [← hS]; show (hexN x).length + c = 16; omega
              rw [hS] at hU
              have hRp := fun w => Tryz.strings_Repeat ⟨#[48]⟩ c w (by omega) (by show 1 * c ≤ _; omega)
              obtain ⟨Z, hZ⟩ : ∃ Z : ByteArray, ⟨(Lib.repeatL [48] c).toArray⟩ = Z := ⟨_, rfl⟩
              have hZs : Z.size = c := by rw [← hZ, repeat_nought]; show (List.replicate c (48 : UInt8)).length = c; simp
              have hRp2 : ∀ w, Calls Tryz.prog 167 #[.string ⟨#[48]⟩, .int .i64 c] w fun e w' => e = .returned (.string Z) ∧ Below w.heap.size w w' := by rw [← hZ]; exact hRp
              have HU := Lib.hid hU
              have HRP := Lib.hid hRp2
              obtain ⟨q1, q2, q3, q4⟩ := sub16 hSs
              have HE : Hid ((⟨#[48, 120]⟩ : ByteArray) ++ Z ++ S = ⟨R.toArray⟩) := by
                rw [Hid, ← HR.out, HTX.out]
                refine bs_eq ?_
                rw [← hZ, ← hS, repeat_nought, ← k5]
                simp
              clear hU hRp hRp2 hS hZ k1 k2 k3 k4 k5
              go_enter Tryz.func117, Tryz.ntmps117
              go_wp2_with fail
              refine (HA.out w).mono ?_
              rintro e w1 ⟨rfl, h⟩
              obtain rfl := h.symm
              go_wp2_with fail
              refine (HP.out w).mono ?_
              rintro e w1 ⟨rfl, h⟩
              obtain rfl := h.symm
              go_wp2_with fail
              refine (HM.out w).mono ?_
              rintro e w1 ⟨rfl, h⟩
              obtain rfl := h.symm
              go_wp2_with fail
              refine (HS3.out w).mono ?_
              rintro e w1 ⟨rfl, h⟩
              obtain rfl := h.symm
              go_wp2_with fail
              refine HU.out.mono ?_
              rintro e w2 ⟨rfl, hB⟩
              have HB := Lib.hid hB
              clear hB
              go_wp2_with fail
              refine (HRP.out w2).mono ?_
              rintro e w3 ⟨rfl, hB⟩
              have HB3 := Lib.hid (HB.out.trans (hB.mono HB.out.size))
              clear hB
              go_wp2_with fail
              go_ret
              exact ⟨by rw [← HE.out]; rfl, HB3.out⟩
            | true =>
              have hsm : small x = true := HSM.out.symm
              have htr := small_tr hsm
              have hTr := fun w => Trunc_any x HF.out w
              have hwe := whole_eq HF.out (Nat.lt_trans htr (by decide)) (sg x) (.inl rfl)
              obtain ⟨y, hy⟩ : ∃ y, wl (sg x) (tr x) = y := ⟨_, rfl⟩
              rw [hy] at hTr hwe
              obtain ⟨b3, hb3⟩ : ∃ b, (FloatKind.f64.format.order x y == some .eq) = b := ⟨_, rfl⟩
              have HW : Hid (whole x = b3) := by rw [Hid, ← hb3]; exact hwe.symm
              have HTR := Lib.hid hTr
              have HSM2 := Lib.hid hsm
              have HTR2 := Lib.hid htr
              clear hTr hwe hy hsm htr
              cases b3 with
              | false =>
                have HTX : Hid (textL x = [48, 120] ++ hx 16 x) := by rw [Hid, textL, HN.out, HI.out, if_neg hz0, HSM2.out, HW.out]; rfl
                obtain ⟨c, k1, k2, k3, k4, k5⟩ := hexText x HX.out
                have hU := FormatUint_any x HX.out w hT
                obtain ⟨S, hS⟩ : ∃ S : ByteArray, ⟨(hexN x).toArray⟩ = S := ⟨_, rfl⟩
                have hSs : S.size + c = 16 := by rw [← hS]; show (hexN x).length + c = 16; omega
                rw [hS] at hU
                have hRp := fun w => Tryz.strings_Repeat ⟨#[48]⟩ c w (by omega) (by show 1 * c ≤ _; omega)
                obtain ⟨Z, hZ⟩ : ∃ Z : ByteArray, ⟨(Lib.repeatL [48] c).toArray⟩ = Z := ⟨_, rfl⟩
                have hZs : Z.size = c := by rw [← hZ, repeat_nought]; show (List.replicate c (48 : UInt8)).length = c; simp
                have hRp2 : ∀ w, Calls Tryz.prog 167 #[.string ⟨#[48]⟩, .int .i64 c] w fun e w' => e = .returned (.string Z) ∧ Below w.heap.size w w' := by rw [← hZ]; exact hRp
                have HU := Lib.hid hU
                have HRP := Lib.hid hRp2
                obtain ⟨q1, q2, q3, q4⟩ := sub16 hSs
                have HE : Hid ((⟨#[48, 120]⟩ : ByteArray) ++ Z ++ S = ⟨R.toArray⟩) := by
                  rw [Hid, ← HR.out, HTX.out]
                  refine bs_eq ?_
                  rw [← hZ, ← hS, repeat_nought, ← k5]
                  simp
                clear hU hRp hRp2 hS hZ k1 k2 k3 k4 k5
                go_enter Tryz.func117, Tryz.ntmps117
                go_wp2_with fail
                refine (HA.out w).mono ?_
                rintro e w1 ⟨rfl, h⟩
                obtain rfl := h.symm
                go_wp2_with fail
                refine (HP.out w).mono ?_
                rintro e w1 ⟨rfl, h⟩
                obtain rfl := h.symm
                go_wp2_with fail
                refine (HM.out w).mono ?_
                rintro e w1 ⟨rfl, h⟩
                obtain rfl := h.symm
                go_wp2_with fail
                refine (HS3.out w).mono ?_
                rintro e w1 ⟨rfl, h⟩
                obtain rfl := h.symm
                go_wp2_with fail
                refine (HTR.out w).mono ?_
                rintro e w1 ⟨rfl, h⟩
                obtain rfl := h.symm
                go_wp2_with fail
                refine HU.out.mono ?_
                rintro e w2 ⟨rfl, hB⟩
                have HB := Lib.hid hB
                clear hB
                go_wp2_with fail
                refine (HRP.out w2).mono ?_
                rintro e w3 ⟨rfl, hB⟩
                have HB3 := Lib.hid (HB.out.trans (hB.mono HB.out.size))
                clear hB
                go_wp2_with fail
                go_ret
                exact ⟨by rw [← HE.out]; rfl, HB3.out⟩
              | true =>
                have htx : R = Lib.itoa (if sg x then -(tr x : Int) else (tr x : Int)) := by rw [← HR.out, textL, HN.out, HI.out, if_neg hz0, HSM2.out, HW.out]; rfl
                obtain ⟨n, hn2⟩ : ∃ n : Int, (if sg x then -(tr x : Int) else (tr x : Int)) = n := ⟨_, rfl⟩
                have hnb : -9223372036854775808 ≤ n ∧ n ≤ 9223372036854775807 := by
                  have := HTR2.out
                  rw [← hn2]; split <;> omega
                have hti := toInt_num HF.out
                rw [hn2] at hti htx
                have hcv := run_conv x n hti hnb.1 hnb.2
                have HFI := Lib.hid (Tryz.strconv_FormatInt_10 n hnb.1 hnb.2 w hT.pow)
                have HTX := Lib.hid htx
                clear hti htx hn2 hnb
                go_enter Tryz.func117, Tryz.ntmps117
                go_wp2_with fail
                refine (HA.out w).mono ?_
                rintro e w1 ⟨rfl, h⟩
                obtain rfl := h.symm
                go_wp2_with fail
                refine (HP.out w).mono ?_
                rintro e w1 ⟨rfl, h⟩
                obtain rfl := h.symm
                go_wp2_with fail
                refine (HM.out w).mono ?_
                rintro e w1 ⟨rfl, h⟩
                obtain rfl := h.symm
                go_wp2_with fail
                refine (HS3.out w).mono ?_
                rintro e w1 ⟨rfl, h⟩
                obtain rfl := h.symm
                go_wp2_with fail
                refine (HTR.out w).mono ?_
                rintro e w1 ⟨rfl, h⟩
                obtain rfl := h.symm
                go_wp2_with fail
                refine HFI.out.mono ?_
                rintro e w1 ⟨rfl, k, os, h⟩
                have HB : Hid (Below w.heap.size w w1) := by rw [h]; exact below_grow w k os
                clear h
                go_wp2_with fail
                go_ret
                exact ⟨by rw [HTX.out]; rfl, HB.out⟩
        case neg =>
          have hzf : (FloatKind.f64.format.order x 0 == some .eq) = false := by rw [hz, decide_eq_false hr0]
          clear hz HSG
          cases b1 with
          | false =>
            have hsm : small x = false := HSM.out.symm
            have HTX : Hid (textL x = [48, 120] ++ hx 16 x) := by rw [Hid, textL, HN.out, HI.out, if_neg hz0, hsm]; rfl
            clear hsm
            obtain ⟨c, k1, k2, k3, k4, k5⟩ := hexText x HX.out
            have hU := FormatUint_any x HX.out w hT
            obtain ⟨S, hS⟩ : ∃ S : ByteArray, ⟨(hexN x).toArray⟩ = S := ⟨_, rfl⟩
            have hSs : S.size + c = 16 := by rw [← hS]; show (hexN x).length + c = 16; omega
            rw [hS] at hU
            have hRp := fun w => Tryz.strings_Repeat ⟨#[48]⟩ c w (by omega) (by show 1 * c ≤ _; omega)
            obtain ⟨Z, hZ⟩ : ∃ Z : ByteArray, ⟨(Lib.repeatL [48] c).toArray⟩ = Z := ⟨_, rfl⟩
            have hZs : Z.size = c := by rw [← hZ, repeat_nought]; show (List.replicate c (48 : UInt8)).length = c; simp
            have hRp2 : ∀ w, Calls Tryz.prog 167 #[.string ⟨#[48]⟩, .int .i64 c] w fun e w' => e = .returned (.string Z) ∧ Below w.heap.size w w' := by rw [← hZ]; exact hRp
            have HU := Lib.hid hU
            have HRP := Lib.hid hRp2
            obtain ⟨q1, q2, q3, q4⟩ := sub16 hSs
            have HE : Hid ((⟨#[48, 120]⟩ : ByteArray) ++ Z ++ S = ⟨R.toArray⟩) := by
              rw [Hid, ← HR.out, HTX.out]
              refine bs_eq ?_
              rw [← hZ, ← hS, repeat_nought, ← k5]
              simp
            clear hU hRp hRp2 hS hZ k1 k2 k3 k4 k5
            go_enter Tryz.func117, Tryz.ntmps117
            go_wp2_with fail
            refine (HA.out w).mono ?_
            rintro e w1 ⟨rfl, h⟩
            obtain rfl := h.symm
            go_wp2_with fail
            refine (HP.out w).mono ?_
            rintro e w1 ⟨rfl, h⟩
            obtain rfl := h.symm
            go_wp2_with fail
            refine (HM.out w).mono ?_
            rintro e w1 ⟨rfl, h⟩
            obtain rfl := h.symm
            go_wp2_with fail
            refine HU.out.mono ?_
            rintro e w2 ⟨rfl, hB⟩
            have HB := Lib.hid hB
            clear hB
            go_wp2_with fail
            refine (HRP.out w2).mono ?_
            rintro e w3 ⟨rfl, hB⟩
            have HB3 := Lib.hid (HB.out.trans (hB.mono HB.out.size))
            clear hB
            go_wp2_with fail
            go_ret
            exact ⟨by rw [← HE.out]; rfl, HB3.out⟩
          | true =>
            cases b2 with
            | false =>
              have hsm : small x = false := HSM.out.symm
              have HTX : Hid (textL x = [48, 120] ++ hx 16 x) := by rw [Hid, textL, HN.out, HI.out, if_neg hz0, hsm]; rfl
              clear hsm
              obtain ⟨c, k1, k2, k3, k4, k5⟩ := hexText x HX.out
              have hU := FormatUint_any x HX.out w hT
              obtain ⟨S, hS⟩ : ∃ S : ByteArray, ⟨(hexN x).toArray⟩ = S := ⟨_, rfl⟩
              have hSs : S.size + c = 16 := by rw [← hS]; show (hexN x).length + c = 16; omega
              rw [hS] at hU
              have hRp := fun w => Tryz.strings_Repeat ⟨#[48]⟩ c w (by omega) (by show 1 * c ≤ _; omega)
              obtain ⟨Z, hZ⟩ : ∃ Z : ByteArray, ⟨(Lib.repeatL [48] c).toArray⟩ = Z := ⟨_, rfl⟩
              have hZs : Z.size = c := by rw [← hZ, repeat_nought]; show (List.replicate c (48 : UInt8)).length = c; simp
              have hRp2 : ∀ w, Calls Tryz.prog 167 #[.string ⟨#[48]⟩, .int .i64 c] w fun e w' => e = .returned (.string Z) ∧ Below w.heap.size w w' := by rw [← hZ]; exact hRp
              have HU := Lib.hid hU
              have HRP := Lib.hid hRp2
              obtain ⟨q1, q2, q3, q4⟩ := sub16 hSs
              have HE : Hid ((⟨#[48, 120]⟩ : ByteArray) ++ Z ++ S = ⟨R.toArray⟩) := by
                rw [Hid, ← HR.out, HTX.out]
                refine bs_eq ?_
                rw [← hZ, ← hS, repeat_nought, ← k5]
                simp
              clear hU hRp hRp2 hS hZ k1 k2 k3 k4 k5
              go_enter Tryz.func117, Tryz.ntmps117
              go_wp2_with fail
              refine (HA.out w).mono ?_
              rintro e w1 ⟨rfl, h⟩
              obtain rfl := h.symm
              go_wp2_with fail
              refine (HP.out w).mono ?_
              rintro e w1 ⟨rfl, h⟩
              obtain rfl := h.symm
              go_wp2_with fail
              refine (HM.out w).mono ?_
              rintro e w1 ⟨rfl, h⟩
              obtain rfl := h.symm
              go_wp2_with fail
              refine HU.out.mono ?_
              rintro e w2 ⟨rfl, hB⟩
              have HB := Lib.hid hB
              clear hB
              go_wp2_with fail
              refine (HRP.out w2).mono ?_
              rintro e w3 ⟨rfl, hB⟩
              have HB3 := Lib.hid (HB.out.trans (hB.mono HB.out.size))
              clear hB
              go_wp2_with fail
              go_ret
              exact ⟨by rw [← HE.out]; rfl, HB3.out⟩
            | true =>
              have hsm : small x = true := HSM.out.symm
              have htr := small_tr hsm
              have hTr := fun w => Trunc_any x HF.out w
              have hwe := whole_eq HF.out (Nat.lt_trans htr (by decide)) (sg x) (.inl rfl)
              obtain ⟨y, hy⟩ : ∃ y, wl (sg x) (tr x) = y := ⟨_, rfl⟩
              rw [hy] at hTr hwe
              obtain ⟨b3, hb3⟩ : ∃ b, (FloatKind.f64.format.order x y == some .eq) = b := ⟨_, rfl⟩
              have HW : Hid (whole x = b3) := by rw [Hid, ← hb3]; exact hwe.symm
              have HTR := Lib.hid hTr
              have HSM2 := Lib.hid hsm
              have HTR2 := Lib.hid htr
              clear hTr hwe hy hsm htr
              cases b3 with
              | false =>
                have HTX : Hid (textL x = [48, 120] ++ hx 16 x) := by rw [Hid, textL, HN.out, HI.out, if_neg hz0, HSM2.out, HW.out]; rfl
                obtain ⟨c, k1, k2, k3, k4, k5⟩ := hexText x HX.out
                have hU := FormatUint_any x HX.out w hT
                obtain ⟨S, hS⟩ : ∃ S : ByteArray, ⟨(hexN x).toArray⟩ = S := ⟨_, rfl⟩
                have hSs : S.size + c = 16 := by rw [← hS]; show (hexN x).length + c = 16; omega
                rw [hS] at hU
                have hRp := fun w => Tryz.strings_Repeat ⟨#[48]⟩ c w (by omega) (by show 1 * c ≤ _; omega)
                obtain ⟨Z, hZ⟩ : ∃ Z : ByteArray, ⟨(Lib.repeatL [48] c).toArray⟩ = Z := ⟨_, rfl⟩
                have hZs : Z.size = c := by rw [← hZ, repeat_nought]; show (List.replicate c (48 : UInt8)).length = c; simp
                have hRp2 : ∀ w, Calls Tryz.prog 167 #[.string ⟨#[48]⟩, .int .i64 c] w fun e w' => e = .returned (.string Z) ∧ Below w.heap.size w w' := by rw [← hZ]; exact hRp
                have HU := Lib.hid hU
                have HRP := Lib.hid hRp2
                obtain ⟨q1, q2, q3, q4⟩ := sub16 hSs
                have HE : Hid ((⟨#[48, 120]⟩ : ByteArray) ++ Z ++ S = ⟨R.toArray⟩) := by
                  rw [Hid, ← HR.out, HTX.out]
                  refine bs_eq ?_
                  rw [← hZ, ← hS, repeat_nought, ← k5]
                  simp
                clear hU hRp hRp2 hS hZ k1 k2 k3 k4 k5
                go_enter Tryz.func117, Tryz.ntmps117
                go_wp2_with fail
                refine (HA.out w).mono ?_
                rintro e w1 ⟨rfl, h⟩
                obtain rfl := h.symm
                go_wp2_with fail
                refine (HP.out w).mono ?_
                rintro e w1 ⟨rfl, h⟩
                obtain rfl := h.symm
                go_wp2_with fail
                refine (HM.out w).mono ?_
                rintro e w1 ⟨rfl, h⟩
                obtain rfl := h.symm
                go_wp2_with fail
                refine (HTR.out w).mono ?_
                rintro e w1 ⟨rfl, h⟩
                obtain rfl := h.symm
                go_wp2_with fail
                refine HU.out.mono ?_
                rintro e w2 ⟨rfl, hB⟩
                have HB := Lib.hid hB
                clear hB
                go_wp2_with fail
                refine (HRP.out w2).mono ?_
                rintro e w3 ⟨rfl, hB⟩
                have HB3 := Lib.hid (HB.out.trans (hB.mono HB.out.size))
                clear hB
                go_wp2_with fail
                go_ret
                exact ⟨by rw [← HE.out]; rfl, HB3.out⟩
              | true =>
                have htx : R = Lib.itoa (if sg x then -(tr x : Int) else (tr x : Int)) := by rw [← HR.out, textL, HN.out, HI.out, if_neg hz0, HSM2.out, HW.out]; rfl
                obtain ⟨n, hn2⟩ : ∃ n : Int, (if sg x then -(tr x : Int) else (tr x : Int)) = n := ⟨_, rfl⟩
                have hnb : -9223372036854775808 ≤ n ∧ n ≤ 9223372036854775807 := by
                  have := HTR2.out
                  rw [← hn2]; split <;> omega
                have hti := toInt_num HF.out
                rw [hn2] at hti htx
                have hcv := run_conv x n hti hnb.1 hnb.2
                have HFI := Lib.hid (Tryz.strconv_FormatInt_10 n hnb.1 hnb.2 w hT.pow)
                have HTX := Lib.hid htx
                clear hti htx hn2 hnb
                go_enter Tryz.func117, Tryz.ntmps117
                go_wp2_with fail
                refine (HA.out w).mono ?_
                rintro e w1 ⟨rfl, h⟩
                obtain rfl := h.symm
                go_wp2_with fail
                refine (HP.out w).mono ?_
                rintro e w1 ⟨rfl, h⟩
                obtain rfl := h.symm
                go_wp2_with fail
                refine (HM.out w).mono ?_
                rintro e w1 ⟨rfl, h⟩
                obtain rfl := h.symm
                go_wp2_with fail
                refine (HTR.out w).mono ?_
                rintro e w1 ⟨rfl, h⟩
                obtain rfl := h.symm
                go_wp2_with fail
                refine HFI.out.mono ?_
                rintro e w1 ⟨rfl, k, os, h⟩
                have HB : Hid (Below w.heap.size w w1) := by rw [h]; exact below_grow w k os
                clear h
                go_wp2_with fail
                go_ret
                exact ⟨by rw [HTX.out]; rfl, HB.out⟩
end Go.Proofs.YtcmjpkfinbakkaaGreatDoor.Fl

namespace Go.Proofs.YtcmjpkfinbakkaaGreatDoor.Fl
set_option maxRecDepth 100000
open Go.RowKit
set_option linter.unusedVariables false

theorem small_cmp2 {x : Nat} (h : nanB x = false) : ((FloatKind.f64.format.order x 14054727237768577024 == some .gt) && (FloatKind.f64.format.order x 4831355200913801216 == some .lt)) = small x := by
  show ((D.order x 14054727237768577024 == some .gt) && (D.order x 4831355200913801216 == some .lt)) = small x
  rw [← (order_turn 14054727237768577024 x).1]
  exact small_cmp h
theorem floatOfInt_int (s : Bool) (t : Nat) : ∃ b : Bool, (b = s ∨ t = 0) ∧ floatOfInt .f64 (if s then -(t : Int) else (t : Int)) = wl b t := by
  refine ⟨decide ((if s then -(t : Int) else (t : Int)) < 0), ?_, ?_⟩
  · cases s
    · left; simp
    · by_cases h : t = 0
      · right; exact h
      · left; simp; omega
  · unfold floatOfInt FloatKind.nearest FloatKind.encode wl
    show D.nearest _ _ _ = _
    congr 1
    cases s <;> simp
theorem word_of {x : Nat} (hx : x < 18446744073709551616) (s : Bool) (r : Nat) (h1 : sg x = s) (h2 : rg x = r) : x = (if s then 9223372036854775808 else 0) + r := by
  have h := word_self hx
  rw [h1, h2, word_val] at h
  exact h.symm
theorem hex_slice : ∀ k : Fin 16, (⟨#[48, 49, 50, 51, 52, 53, 54, 55, 56, 57, 97, 98, 99, 100, 101, 102]⟩ : ByteArray).extract k.val (k.val + 1) = ⟨#[hexDig k.val]⟩ := by decide
theorem and15 (y : Nat) (hy : y < 18446744073709551616) : bits .and .u64 (y : Int) 15 = ((y % 16 : Nat) : Int) := by
  have := u64_and_nat y 15 hy (by omega)
  rw [Nat.and_two_pow_sub_one_eq_mod y 4] at this
  exact this
theorem sixteen {j : Nat} (h : j < 16) : j = 0 ∨ j = 1 ∨ j = 2 ∨ j = 3 ∨ j = 4 ∨ j = 5 ∨ j = 6 ∨ j = 7 ∨ j = 8 ∨ j = 9 ∨ j = 10 ∨ j = 11 ∨ j = 12 ∨ j = 13 ∨ j = 14 ∨ j = 15 := by omega
theorem dig_facts {x j : Nat} (hb : x < 18446744073709551616) (hj : j < 16) : ∃ (y k : Nat), (x : Int) / ((16 ^ (15 - j) : Nat) : Int) = (y : Int) ∧ bits .and .u64 (y : Int) 15 = (k : Int) ∧ k < 16 ∧ (hx 16 x).take (j + 1) = (hx 16 x).take j ++ [hexDig k] := by
  refine ⟨x / 16 ^ (15 - j), x / 16 ^ (15 - j) % 16, by rw [Int.natCast_ediv], ?_, Nat.mod_lt _ (by omega), ?_⟩
  · exact and15 _ (Nat.lt_of_le_of_lt (Nat.div_le_self _ _) hb)
  · rw [List.take_add_one, hx_get 16 x j hj]; rfl

theorem run_conv3 (x : Nat) (n : Int) (h : (D.read x).toInt .zero = some n) (h1 : -9223372036854775808 ≤ n) (h2 : n ≤ 9223372036854775807) (w : World) :
    (convert 110 3 (.float .f64 x)).run Tryz.prog w = .ok (.int .i64 n) w := by
  have hf : Conv.floatToInt .f64 x .i64 = pure (.int .i64 n) := by
    delta Conv.floatToInt
    show (match (FloatKind.f64.decode x).toInt .zero with
      | some n => _
      | none => _) = _
    rw [show FloatKind.f64.decode x = D.read x from rfl, h]
    show (if IntKind.i64.min ≤ n ∧ n ≤ IntKind.i64.max then _ else _) = _
    rw [if_pos ⟨h1, h2⟩]
  simp [convert, run_underlying Tryz.underlying110, run_underlying Tryz.underlying3, hf, Sem.run_bind, Result.andThen]

set_option maxRecDepth 100000 in
set_option maxHeartbeats 4000000 in
theorem RefText_any (x : Nat) (hb : x < 18446744073709551616) (w : World) :
    Calls Tryz.prog 30 #[.int .u64 x] w fun e w' => e = .returned (.string ⟨(textL x).toArray⟩) ∧ w' = w := by
  have hf := run_from
  obtain ⟨R, hR⟩ : ∃ R, textL x = R := ⟨_, rfl⟩
  rw [hR]
  have HR := Lib.hid hR
  have HX := Lib.hid hb
  clear hR hb
  have hnn := nan_neq x
  cases hn : nanB x with
  | true =>
    rw [hn] at hnn
    have HE : Hid (R = [110, 97, 110]) := by rw [Hid, ← HR.out, textL, if_pos hn]
    clear hn
    go_enter Tryz.func30, Tryz.ntmps30
    go_wp2_with fail
    go_ret
    exact ⟨by rw [HE.out]; rfl, rfl⟩
  | false =>
    rw [hn] at hnn
    have HN := Lib.hid hn
    clear hn
    cases hi : infB x with
    | true =>
      have hr : rg x = 9218868437227405312 := by simpa [infB] using hi
      cases hs : sg x with
      | true =>
        have HE : Hid (R = [45, 105, 110, 102]) := by rw [Hid, ← HR.out, textL, HN.out, hi, hs]; rfl
        have hx := word_of HX.out true _ hs hr
        simp only [if_true, Nat.reduceAdd] at hx
        subst hx
        clear hi hr hs
        go_enter Tryz.func30, Tryz.ntmps30
        go_wp2_with fail
        go_ret
        exact ⟨by rw [HE.out]; rfl, rfl⟩
      | false =>
        have HE : Hid (R = [105, 110, 102]) := by rw [Hid, ← HR.out, textL, HN.out, hi, hs]; rfl
        have hx := word_of HX.out false _ hs hr
        simp only [Bool.false_eq_true, if_false, Nat.zero_add] at hx
        subst hx
        clear hi hr hs
        go_enter Tryz.func30, Tryz.ntmps30
        go_wp2_with fail
        go_ret
        exact ⟨by rw [HE.out]; rfl, rfl⟩
    | false =>
      have hfin := fin_of HN.out hi
      have HI := Lib.hid hi
      have HF := Lib.hid hfin
      have n1 : ((x : Int) == 9218868437227405312) = false := by
        rw [beq_eq_false_iff_ne]
        intro e
        have e2 : x = 9218868437227405312 := by omega
        subst e2
        exact absurd hi (by decide)
      have n2 : ((x : Int) == 18442240474082181120) = false := by
        rw [beq_eq_false_iff_ne]
        intro e
        have e2 : x = 18442240474082181120 := by omega
        subst e2
        exact absurd hi (by decide)
      clear hi hfin
      by_cases hz0 : x = 9223372036854775808
      · have HE : Hid (R = [45, 48]) := by rw [Hid, ← HR.out, textL, HN.out, HI.out, if_pos hz0]; rfl
        subst hz0
        clear n1 n2
        go_enter Tryz.func30, Tryz.ntmps30
        go_wp2_with fail
        go_ret
        exact ⟨by rw [HE.out]; rfl, rfl⟩
      · have n3 : ((x : Int) == 9223372036854775808) = false := by
          rw [beq_eq_false_iff_ne]
          intro e
          exact hz0 (by omega)
        have hsm := small_cmp2 HN.out
        obtain ⟨b1, hb1⟩ : ∃ b, (FloatKind.f64.format.order x 14054727237768577024 == some .gt) = b := ⟨_, rfl⟩
        obtain ⟨b2, hb2⟩ : ∃ b, (FloatKind.f64.format.order x 4831355200913801216 == some .lt) = b := ⟨_, rfl⟩
        have HSM : Hid ((b1 && b2) = small x) := by rw [Hid, ← hsm, ← hb1, ← hb2]
        have HZ0 := Lib.hid hz0
        clear hsm hz0
        cases b1 with
        | false =>
          have hsm : small x = false := HSM.out.symm
          have HTX : Hid (textL x = [48, 120] ++ hx 16 x) := by rw [Hid, textL, HN.out, HI.out, if_neg HZ0.out, hsm]; rfl
          clear hsm
          go_enter Tryz.func30, Tryz.ntmps30
          go_wp2_with fail
          go_loop [5, 6, 7] (fun sa ia _ => ∃ (j : Nat) (z : ByteArray), sa = .string z ∧ ia = .int .i64 (15 - (j : Int)) ∧ j ≤ 16 ∧ Hid (z.data.toList = [48, 120] ++ (hx 16 x).take j)) (fun _ ia _ => (intOf ia + 1).toNat)
          case atStart => exact ⟨0, _, rfl, rfl, by omega, rfl⟩
          case round =>
            obtain ⟨j, z, rfl, rfl, hj, HZ⟩ := hrel
            have hzs : z.size ≤ 18 := by
              have h1 : z.data.toList.length = z.size := Array.length_toList
              rw [HZ.out] at h1
              simp at h1
              omega
            by_cases hlt : j < 16
            · obtain ⟨y, k, f1, f2, f3, f4⟩ := dig_facts HX.out hlt
              have hsl := hex_slice ⟨k, f3⟩
              simp only at hsl
              obtain ⟨m, hm⟩ : ∃ m, j + 1 = m := ⟨_, rfl⟩
              rw [hm] at f4
              have HN4 := Lib.hid f4
              have HM := Lib.hid hm
              have g1 : (0 : Int) ≤ (k : Int) := by omega
              have g2 : (k : Int) + 1 ≤ 16 := by omega
              have g3 : IntKind.u64.wrap ((k : Int) + 1) = (k : Int) + 1 := by rw [IntKind.wrap_u64]; omega
              obtain ⟨c, hc⟩ : ∃ c : ByteArray, ⟨#[hexDig k]⟩ = c := ⟨_, rfl⟩
              rw [hc] at hsl
              have hcs : c.size = 1 := by rw [← hc]; rfl
              have HC := Lib.hid hc
              clear hc f3 f4 hm
              rcases sixteen hlt with rfl | rfl | rfl | rfl | rfl | rfl | rfl | rfl | rfl | rfl | rfl | rfl | rfl | rfl | rfl | rfl
              all_goals
                simp only [Nat.reduceSub, Nat.reducePow, Int.cast_ofNat_Int] at f1
                go_wp2_with fail
                exact ⟨⟨m, _, rfl, by rw [← HM.out]; rfl, by have := HM.out; omega, by rw [Hid, HN4.out, ← HC.out]; simp [HZ.out]⟩, by simp [intOf]⟩
            · obtain rfl : j = 16 := by omega
              have HE : Hid (z = ⟨R.toArray⟩) := by
                rw [Hid, ← HR.out, HTX.out]
                refine bs_eq ?_
                rw [HZ.out, List.take_of_length_le (by rw [hx_len]; exact Nat.le_refl _)]
              go_wp2_with fail
              go_ret
              exact ⟨by rw [← HE.out]; rfl, rfl⟩
        | true =>
          cases b2 with
          | false =>
            have hsm : small x = false := HSM.out.symm
            have HTX : Hid (textL x = [48, 120] ++ hx 16 x) := by rw [Hid, textL, HN.out, HI.out, if_neg HZ0.out, hsm]; rfl
            clear hsm
            go_enter Tryz.func30, Tryz.ntmps30
            go_wp2_with fail
            go_loop [5, 6, 7] (fun sa ia _ => ∃ (j : Nat) (z : ByteArray), sa = .string z ∧ ia = .int .i64 (15 - (j : Int)) ∧ j ≤ 16 ∧ Hid (z.data.toList = [48, 120] ++ (hx 16 x).take j)) (fun _ ia _ => (intOf ia + 1).toNat)
            case atStart => exact ⟨0, _, rfl, rfl, by omega, rfl⟩
            case round =>
              obtain ⟨j, z, rfl, rfl, hj, HZ⟩ := hrel
              have hzs : z.size ≤ 18 := by
                have h1 : z.data.toList.length = z.size := Array.length_toList
                rw [HZ.out] at h1
                simp at h1
                omega
              by_cases hlt : j < 16
              · obtain ⟨y, k, f1, f2, f3, f4⟩ := dig_facts HX.out hlt
                have hsl := hex_slice ⟨k, f3⟩
                simp only at hsl
                obtain ⟨m, hm⟩ : ∃ m, j + 1 = m := ⟨_, rfl⟩
                rw [hm] at f4
                have HN4 := Lib.hid f4
                have HM := Lib.hid hm
                have g1 : (0 : Int) ≤ (k : Int) := by omega
                have g2 : (k : Int) + 1 ≤ 16 := by omega
                have g3 : IntKind.u64.wrap ((k : Int) + 1) = (k : Int) + 1 := by rw [IntKind.wrap_u64]; omega
                obtain ⟨c, hc⟩ : ∃ c : ByteArray, ⟨#[hexDig k]⟩ = c := ⟨_, rfl⟩
                rw [hc] at hsl
                have hcs : c.size = 1 := by rw [← hc]; rfl
                have HC := Lib.hid hc
                clear hc f3 f4 hm
                rcases sixteen hlt with rfl | rfl | rfl | rfl | rfl | rfl | rfl | rfl | rfl | rfl | rfl | rfl | rfl | rfl | rfl | rfl
                all_goals
                  simp only [Nat.reduceSub, Nat.reducePow, Int.cast_ofNat_Int] at f1
                  go_wp2_with fail
                  exact ⟨⟨m, _, rfl, by rw [← HM.out]; rfl, by have := HM.out; omega, by rw [Hid, HN4.out, ← HC.out]; simp [HZ.out]⟩, by simp [intOf]⟩
              · obtain rfl : j = 16 := by omega
                have HE : Hid (z = ⟨R.toArray⟩) := by
                  rw [Hid, ← HR.out, HTX.out]
                  refine bs_eq ?_
                  rw [HZ.out, List.take_of_length_le (by rw [hx_len]; exact Nat.le_refl _)]
                go_wp2_with fail
                go_ret
                exact ⟨by rw [← HE.out]; rfl, rfl⟩
          | true =>
            have hsm : small x = true := HSM.out.symm
            have htr := small_tr hsm
            obtain ⟨s, hs, hfl⟩ := floatOfInt_int (sg x) (tr x)
            have hwe := whole_eq HF.out (Nat.lt_trans htr (by decide)) s hs
            rw [(order_turn x (wl s (tr x))).2] at hwe
            obtain ⟨y, hy⟩ : ∃ y, wl s (tr x) = y := ⟨_, rfl⟩
            rw [hy] at hfl hwe
            obtain ⟨b3, hb3⟩ : ∃ b, (FloatKind.f64.format.order y x == some .eq) = b := ⟨_, rfl⟩
            have HW : Hid (whole x = b3) := by rw [Hid, ← hb3]; exact hwe.symm
            obtain ⟨n, hn2⟩ : ∃ n : Int, (if sg x then -(tr x : Int) else (tr x : Int)) = n := ⟨_, rfl⟩
            have hnb : -9223372036854775808 < n ∧ n < 9223372036854775808 := by
              rw [← hn2]; split <;> omega
            have hti := toInt_num HF.out
            rw [hn2] at hti hfl
            have hcv := run_conv3 x n hti (Int.le_of_lt hnb.1) (Int.le_of_lt_add_one hnb.2)
            have HRI := Lib.hid (fun w => RefInt_any n hnb.1 hnb.2 w)
            have HSM2 := Lib.hid hsm
            have HN2 := Lib.hid hn2
            clear hwe hy hsm htr hti hn2 hnb hs
            cases b3 with
            | false =>
              have HTX : Hid (textL x = [48, 120] ++ hx 16 x) := by rw [Hid, textL, HN.out, HI.out, if_neg HZ0.out, HSM2.out, HW.out]; rfl
              go_enter Tryz.func30, Tryz.ntmps30
              go_wp2_with fail
              go_loop [5, 6, 7] (fun sa ia _ => ∃ (j : Nat) (z : ByteArray), sa = .string z ∧ ia = .int .i64 (15 - (j : Int)) ∧ j ≤ 16 ∧ Hid (z.data.toList = [48, 120] ++ (hx 16 x).take j)) (fun _ ia _ => (intOf ia + 1).toNat)
              case atStart => exact ⟨0, _, rfl, rfl, by omega, rfl⟩
              case round =>
                obtain ⟨j, z, rfl, rfl, hj, HZ⟩ := hrel
                have hzs : z.size ≤ 18 := by
                  have h1 : z.data.toList.length = z.size := Array.length_toList
                  rw [HZ.out] at h1
                  simp at h1
                  omega
                by_cases hlt : j < 16
                · obtain ⟨y, k, f1, f2, f3, f4⟩ := dig_facts HX.out hlt
                  have hsl := hex_slice ⟨k, f3⟩
                  simp only at hsl
                  obtain ⟨m, hm⟩ : ∃ m, j + 1 = m := ⟨_, rfl⟩
                  rw [hm] at f4
                  have HN4 := Lib.hid f4
                  have HM := Lib.hid hm
                  have g1 : (0 : Int) ≤ (k : Int) := by omega
                  have g2 : (k : Int) + 1 ≤ 16 := by omega
                  have g3 : IntKind.u64.wrap ((k : Int) + 1) = (k : Int) + 1 := by rw [IntKind.wrap_u64]; omega
                  obtain ⟨c, hc⟩ : ∃ c : ByteArray, ⟨#[hexDig k]⟩ = c := ⟨_, rfl⟩
                  rw [hc] at hsl
                  have hcs : c.size = 1 := by rw [← hc]; rfl
                  have HC := Lib.hid hc
                  clear hc f3 f4 hm
                  rcases sixteen hlt with rfl | rfl | rfl | rfl | rfl | rfl | rfl | rfl | rfl | rfl | rfl | rfl | rfl | rfl | rfl | rfl
                  all_goals
                    simp only [Nat.reduceSub, Nat.reducePow, Int.cast_ofNat_Int] at f1
                    go_wp2_with fail
                    exact ⟨⟨m, _, rfl, by rw [← HM.out]; rfl, by have := HM.out; omega, by rw [Hid, HN4.out, ← HC.out]; simp [HZ.out]⟩, by simp [intOf]⟩
                · obtain rfl : j = 16 := by omega
                  have HE : Hid (z = ⟨R.toArray⟩) := by
                    rw [Hid, ← HR.out, HTX.out]
                    refine bs_eq ?_
                    rw [HZ.out, List.take_of_length_le (by rw [hx_len]; exact Nat.le_refl _)]
                  go_wp2_with fail
                  go_ret
                  exact ⟨by rw [← HE.out]; rfl, rfl⟩
            | true =>
              have HTX : Hid (R = Lib.itoa n) := by rw [Hid, ← HR.out, textL, HN.out, HI.out, if_neg HZ0.out, HSM2.out, HW.out, HN2.out]; rfl
              go_enter Tryz.func30, Tryz.ntmps30
              go_wp2_with fail
              refine (HRI.out w).mono ?_
              rintro e w1 ⟨rfl, h⟩
              obtain rfl := h.symm
              go_wp2_with fail
              go_ret
              exact ⟨by rw [HTX.out]; rfl, rfl⟩
end Go.Proofs.YtcmjpkfinbakkaaGreatDoor.Fl
