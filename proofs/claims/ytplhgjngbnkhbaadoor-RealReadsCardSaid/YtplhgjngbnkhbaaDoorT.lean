import Derived.Test.YtplhgjngbnkhbaaDoorS
namespace Go.Proofs.YtplhgjngbnkhbaaDoor
open Go.RowKit Go.Sort
set_option linter.unusedVariables false

def textL (x : Nat) : Bs :=
  if nanB x then [110, 97, 110] else if infB x then (if sg x then [45, 105, 110, 102] else [105, 110, 102]) else if x = 9223372036854775808 then [45, 48]
  else if small x && whole x then Lib.itoa (if sg x then -(tr x : Int) else (tr x : Int)) else [48, 120] ++ hx 16 x
theorem zero_eq {x : Nat} (h : nanB x = false) : (FloatKind.f64.format.order x 0 == some .eq) = decide (rg x = 0) := by
  show (D.order x 0 == some .eq) = _
  rw [order_some h (by decide), cmp_eq_iff, decide_eq_decide]
  have h0 : sv 0 = 0 := by decide +kernel
  rw [h0]
  unfold sv
  constructor
  · intro e
    apply un_zero
    split at e <;> omega
  · intro e
    rw [e]
    have : un 0 = 0 := rfl
    rw [this]; simp
theorem fin_of {x : Nat} (h : nanB x = false) (h2 : infB x = false) : rg x < 9218868437227405312 := by
  unfold nanB at h
  unfold infB at h2
  rw [decide_eq_false_iff_not] at h
  rw [beq_eq_false_iff_ne] at h2
  omega
theorem run_conv (x : Nat) (n : Int) (h : (D.read x).toInt .zero = some n) (h1 : -9223372036854775808 ≤ n) (h2 : n ≤ 9223372036854775807) (w : World) :
    (convert 42 2 (.float .f64 x)).run Tryd.prog w = .ok (.int .i64 n) w := by
  have hf : Conv.floatToInt .f64 x .i64 = pure (.int .i64 n) := by
    delta Conv.floatToInt
    show (match (FloatKind.f64.decode x).toInt .zero with
      | some n => _
      | none => _) = _
    rw [show FloatKind.f64.decode x = D.read x from rfl, h]
    show (if IntKind.i64.min ≤ n ∧ n ≤ IntKind.i64.max then _ else _) = _
    rw [if_pos ⟨h1, h2⟩]
  simp [convert, run_underlying Tryd.underlying42, run_underlying Tryd.underlying2, hf, Sem.run_bind, Result.andThen]

theorem below_grow (w : World) (k : Nat) (os : Array Obj) : Below w.heap.size w (grow (w.drewN k) os) :=
  ⟨rfl, rfl, rfl, by simp [grow, World.drewN], fun j hj => by
    show (w.heap ++ os)[j]? = _
    rw [Array.getElem?_append_left hj]⟩
theorem repeat_nought (c : Nat) : Lib.repeatL [48] c = List.replicate c 48 := by
  induction c with
  | zero => rfl
  | succ c ih => rw [Lib.repeatL, ih]; rfl
theorem sub16 {a c : Nat} (h : a + c = 16) : IntKind.i64.wrap ((16 : Int) - (a : Int)) = (c : Int) ∧ wrap64 ((16 : Int) - (a : Int)) = (c : Int) ∧ (0 : Int) ≤ (c : Int) ∧ (16 : Int) - (a : Int) = (c : Int) := by
  refine ⟨by rw [IntKind.wrap_i64]; omega, by unfold wrap64; omega, by omega, by omega⟩
theorem bs_eq {s : ByteArray} {l : Bs} (h : s.data.toList = l) : s = ⟨l.toArray⟩ := by rw [← h]

set_option maxRecDepth 100000 in
set_option maxHeartbeats 4000000 in
/-- The end of Text: sixteen digits. -/
theorem hexText (x : Nat) (hb : x < 18446744073709551616) : ∃ c : Nat, (hexN x).length = 16 - c ∧ c ≤ 16 ∧ (hexN x).length ≤ 16 ∧ ((16 : Int) - ((hexN x).length : Int) = (c : Int)) ∧ List.replicate c 48 ++ hexN x = hx 16 x := by
  obtain ⟨h1, h2⟩ := hexN_pad 15 x (by simpa using hb)
  exact ⟨16 - (hexN x).length, by omega, by omega, h1, by omega, h2⟩

set_option maxRecDepth 100000 in
set_option maxHeartbeats 8000000 in
theorem Text_any (x : Nat) (hx : x < 18446744073709551616) (w : World) (hT : Tabs w) :
    Calls Tryd.prog 16 #[.int .u64 x] w fun e w' => e = .returned (.string ⟨(textL x).toArray⟩) ∧ Below w.heap.size w w' := by
  have hf := run_from
  obtain ⟨R, hR⟩ : ∃ R, textL x = R := ⟨_, rfl⟩
  rw [hR]
  have HR := Lib.hid hR
  have HX := Lib.hid hx
  clear hR hx
  cases hn : nanB x with
  | true =>
    have HE : Hid (R = [110, 97, 110]) := by rw [Hid, ← HR.out, textL, if_pos hn]
    go_enter Tryd.func16, Tryd.ntmps16
    go_wp2_with (go_at_call 35; refine (isNaN_any _ _).mono ?_; rw [hn]; rintro e w' ⟨rfl, rfl⟩; clear hn)
    go_ret
    exact ⟨by rw [HE.out]; rfl, Below.refl _ _⟩
  | false =>
    have HN := Lib.hid hn
    have hp := fun w => IsInf_pos x w hn
    have hm := fun w => IsInf_neg x w hn HX.out
    have hNaN := fun w => isNaN_any x w
    rw [hn] at hNaN
    cases hi : infB x with
    | true =>
      cases hs : sg x with
      | true =>
        have HE : Hid (R = [45, 105, 110, 102]) := by rw [Hid, ← HR.out, textL, hn, hi, hs]; rfl
        rw [hi, hs] at hp hm
        have HP := Lib.hid hp
        have HM := Lib.hid hm
        have HA := Lib.hid hNaN
        clear hp hm hNaN hn hi hs
        go_enter Tryd.func16, Tryd.ntmps16
        go_wp2_with fail
        refine (HA.out w).mono ?_
        rintro e w1 ⟨rfl, h⟩
        obtain rfl := h.symm
        go_wp2_with fail
        refine (HP.out w).mono ?_
        rintro e w1 ⟨rfl, h⟩
        obtain rfl := h.symm
        go_wp2_with fail
        refine (HM.out w).mono ?_
        rintro e w1 ⟨rfl, h⟩
        obtain rfl := h.symm
        go_wp2_with fail
        go_ret
        exact ⟨by rw [HE.out]; rfl, Below.refl _ _⟩
      | false =>
        have HE : Hid (R = [105, 110, 102]) := by rw [Hid, ← HR.out, textL, hn, hi, hs]; rfl
        rw [hi, hs] at hp hm
        have HP := Lib.hid hp
        have HA := Lib.hid hNaN
        clear hp hm hNaN hn hi hs
        go_enter Tryd.func16, Tryd.ntmps16
        go_wp2_with fail
        refine (HA.out w).mono ?_
        rintro e w1 ⟨rfl, h⟩
        obtain rfl := h.symm
        go_wp2_with fail
        refine (HP.out w).mono ?_
        rintro e w1 ⟨rfl, h⟩
        obtain rfl := h.symm
        go_wp2_with fail
        go_ret
        exact ⟨by rw [HE.out]; rfl, Below.refl _ _⟩
    | false =>
      rw [hi] at hp hm
      have hfin := fin_of hn hi
      have HP := Lib.hid hp
      have HM := Lib.hid hm
      have HA := Lib.hid hNaN
      have hz := zero_eq hn
      have HSG := Lib.hid (fun w => Signbit_any x HX.out w)
      have hsm := small_cmp hn
      obtain ⟨b1, hb1⟩ : ∃ b, (FloatKind.f64.format.order 14054727237768577024 x == some .lt) = b := ⟨_, rfl⟩
      obtain ⟨b2, hb2⟩ : ∃ b, (FloatKind.f64.format.order x 4831355200913801216 == some .lt) = b := ⟨_, rfl⟩
      have HSM : Hid ((b1 && b2) = small x) := by rw [Hid, ← hsm, ← hb1, ← hb2]; rfl
      have HI := Lib.hid hi
      have HF := Lib.hid hfin
      clear hp hm hNaN hsm hn hi hfin
      by_cases hz0 : x = 9223372036854775808
      · have HE : Hid (R = [45, 48]) := by rw [Hid, ← HR.out, textL, HN.out, HI.out, if_pos hz0]; rfl
        subst hz0
        have hz2 : rg 9223372036854775808 = 0 := by decide +kernel
        rw [hz2] at hz
        have hsg : sg 9223372036854775808 = true := by decide +kernel
        have HS2 := HSG.out
        rw [hsg] at HS2
        have HS3 := Lib.hid HS2
        clear HS2 hsg hz2 HSG
        go_enter Tryd.func16, Tryd.ntmps16
        go_wp2_with fail
        refine (HA.out w).mono ?_
        rintro e w1 ⟨rfl, h⟩
        obtain rfl := h.symm
        go_wp2_with fail
        refine (HP.out w).mono ?_
        rintro e w1 ⟨rfl, h⟩
        obtain rfl := h.symm
        go_wp2_with fail
        refine (HM.out w).mono ?_
        rintro e w1 ⟨rfl, h⟩
        obtain rfl := h.symm
        go_wp2_with fail
        refine (HS3.out w).mono ?_
        rintro e w1 ⟨rfl, h⟩
        obtain rfl := h.symm
        go_wp2_with fail
        go_ret
        exact ⟨by rw [HE.out]; rfl, Below.refl _ _⟩
      · by_cases hr0 : rg x = 0
        case pos =>
          rw [hr0] at hz
          have hsg : sg x = false := by
            cases h : sg x with
            | false => rfl
            | true =>
              exfalso
              apply hz0
              have h1 := word_self HX.out
              rw [h, hr0, word_val] at h1
              exact h1.symm
          have HS2 := HSG.out
          rw [hsg] at HS2
          have HS3 := Lib.hid HS2
          clear HS2 hsg HSG
          cases b1 with
          | false =>
            have hsm : small x = false := HSM.out.symm
            have HTX : Hid (textL x = [48, 120] ++ hx 16 x) := by rw [Hid, textL, HN.out, HI.out, if_neg hz0, hsm]; rfl
            clear hsm
            obtain ⟨c, k1, k2, k3, k4, k5⟩ := hexText x HX.out
            have hU := FormatUint_any x HX.out w hT
            obtain ⟨S, hS⟩ : ∃ S : ByteArray, ⟨(hexN x).toArray⟩ = S := ⟨_, rfl⟩
            have hSs : S.size + c = 16 := by rw [← hS]; show (hexN x).length + c = 16; omega
            rw [hS] at hU
            have hRp := fun w => Tryd.strings_Repeat ⟨#[48]⟩ c w (by omega) (by show 1 * c ≤ _; omega)
            obtain ⟨Z, hZ⟩ : ∃ Z : ByteArray, ⟨(Lib.repeatL [48] c).toArray⟩ = Z := ⟨_, rfl⟩
            have hZs : Z.size = c := by rw [← hZ, repeat_nought]; show (List.replicate c (48 : UInt8)).length = c; simp
            have hRp2 : ∀ w, Calls Tryd.prog 41 #[.string ⟨#[48]⟩, .int .i64 c] w fun e w' => e = .returned (.string Z) ∧ Below w.heap.size w w' := by rw [← hZ]; exact hRp
            have HU := Lib.hid hU
            have HRP := Lib.hid hRp2
            obtain ⟨q1, q2, q3, q4⟩ := sub16 hSs
            have HE : Hid ((⟨#[48, 120]⟩ : ByteArray) ++ Z ++ S = ⟨R.toArray⟩) := by
              rw [Hid, ← HR.out, HTX.out]
              refine bs_eq ?_
              rw [← hZ, ← hS, repeat_nought, ← k5]
              simp
            clear hU hRp hRp2 hS hZ k1 k2 k3 k4 k5
            go_enter Tryd.func16, Tryd.ntmps16
            go_wp2_with fail
            refine (HA.out w).mono ?_
            rintro e w1 ⟨rfl, h⟩
            obtain rfl := h.symm
            go_wp2_with fail
            refine (HP.out w).mono ?_
            rintro e w1 ⟨rfl, h⟩
            obtain rfl := h.symm
            go_wp2_with fail
            refine (HM.out w).mono ?_
            rintro e w1 ⟨rfl, h⟩
            obtain rfl := h.symm
            go_wp2_with fail
            refine (HS3.out w).mono ?_
            rintro e w1 ⟨rfl, h⟩
            obtain rfl := h.symm
            go_wp2_with fail
            refine HU.out.mono ?_
            rintro e w2 ⟨rfl, hB⟩
            have HB := Lib.hid hB
            clear hB
            go_wp2_with fail
            refine (HRP.out w2).mono ?_
            rintro e w3 ⟨rfl, hB⟩
            have HB3 := Lib.hid (HB.out.trans (hB.mono HB.out.size))
            clear hB
            go_wp2_with fail
            go_ret
            exact ⟨by rw [← HE.out]; rfl, HB3.out⟩
          | true =>
            cases b2 with
            | false =>
              have hsm : small x = false := HSM.out.symm
              have HTX : Hid (textL x = [48, 120] ++ hx 16 x) := by rw [Hid, textL, HN.out, HI.out, if_neg hz0, hsm]; rfl
              clear hsm
              obtain ⟨c, k1, k2, k3, k4, k5⟩ := hexText x HX.out
              have hU := FormatUint_any x HX.out w hT
              obtain ⟨S, hS⟩ : ∃ S : ByteArray, ⟨(hexN x).toArray⟩ = S := ⟨_, rfl⟩
              have hSs : S.size + c = 16 := by rw [← hS]; show (hexN x).length + c = 16; omega
              rw [hS] at hU
              have hRp := fun w => Tryd.strings_Repeat ⟨#[48]⟩ c w (by omega) (by show 1 * c ≤ _; omega)
              obtain ⟨Z, hZ⟩ : ∃ Z : ByteArray, ⟨(Lib.repeatL [48] c).toArray⟩ = Z := ⟨_, rfl⟩
              have hZs : Z.size = c := by rw [← hZ, repeat_nought]; show (List.replicate c (48 : UInt8)).length = c; simp
              have hRp2 : ∀ w, Calls Tryd.prog 41 #[.string ⟨#[48]⟩, .int .i64 c] w fun e w' => e = .returned (.string Z) ∧ Below w.heap.size w w' := by rw [← hZ]; exact hRp
              have HU := Lib.hid hU
              have HRP := Lib.hid hRp2
              obtain ⟨q1, q2, q3, q4⟩ := sub16 hSs
              have HE : Hid ((⟨#[48, 120]⟩ : ByteArray) ++ Z ++ S = ⟨R.toArray⟩) := by
                rw [Hid, ← HR.out, HTX.out]
                refine bs_eq ?_
                rw [← hZ, ← hS, repeat_nought, ← k5]
                simp
              clear hU hRp hRp2 hS hZ k1 k2 k3 k4 k5
              go_enter Tryd.func16, Tryd.ntmps16
              go_wp2_with fail
              refine (HA.out w).mono ?_
              rintro e w1 ⟨rfl, h⟩
              obtain rfl := h.symm
              go_wp2_with fail
              refine (HP.out w).mono ?_
              rintro e w1 ⟨rfl, h⟩
              obtain rfl := h.symm
              go_wp2_with fail
              refine (HM.out w).mono ?_
              rintro e w1 ⟨rfl, h⟩
              obtain rfl := h.symm
              go_wp2_with fail
              refine (HS3.out w).mono ?_
              rintro e w1 ⟨rfl, h⟩
              obtain rfl := h.symm
              go_wp2_with fail
              refine HU.out.mono ?_
              rintro e w2 ⟨rfl, hB⟩
              have HB := Lib.hid hB
              clear hB
              go_wp2_with fail
              refine (HRP.out w2).mono ?_
              rintro e w3 ⟨rfl, hB⟩
              have HB3 := Lib.hid (HB.out.trans (hB.mono HB.out.size))
              clear hB
              go_wp2_with fail
              go_ret
              exact ⟨by rw [← HE.out]; rfl, HB3.out⟩
            | true =>
              have hsm : small x = true := HSM.out.symm
              have htr := small_tr hsm
              have hTr := fun w => Trunc_any x HF.out w
              have hwe := whole_eq HF.out (Nat.lt_trans htr (by decide)) (sg x) (.inl rfl)
              obtain ⟨y, hy⟩ : ∃ y, wl (sg x) (tr x) = y := ⟨_, rfl⟩
              rw [hy] at hTr hwe
              obtain ⟨b3, hb3⟩ : ∃ b, (FloatKind.f64.format.order x y == some .eq) = b := ⟨_, rfl⟩
              have HW : Hid (whole x = b3) := by rw [Hid, ← hb3]; exact hwe.symm
              have HTR := Lib.hid hTr
              have HSM2 := Lib.hid hsm
              have HTR2 := Lib.hid htr
              clear hTr hwe hy hsm htr
              cases b3 with
              | false =>
                have HTX : Hid (textL x = [48, 120] ++ hx 16 x) := by rw [Hid, textL, HN.out, HI.out, if_neg hz0, HSM2.out, HW.out]; rfl
                obtain ⟨c, k1, k2, k3, k4, k5⟩ := hexText x HX.out
                have hU := FormatUint_any x HX.out w hT
                obtain ⟨S, hS⟩ : ∃ S : ByteArray, ⟨(hexN x).toArray⟩ = S := ⟨_, rfl⟩
                have hSs : S.size + c = 16 := by rw [← hS]; show (hexN x).length + c = 16; omega
                rw [hS] at hU
                have hRp := fun w => Tryd.strings_Repeat ⟨#[48]⟩ c w (by omega) (by show 1 * c ≤ _; omega)
                obtain ⟨Z, hZ⟩ : ∃ Z : ByteArray, ⟨(Lib.repeatL [48] c).toArray⟩ = Z := ⟨_, rfl⟩
                have hZs : Z.size = c := by rw [← hZ, repeat_nought]; show (List.replicate c (48 : UInt8)).length = c; simp
                have hRp2 : ∀ w, Calls Tryd.prog 41 #[.string ⟨#[48]⟩, .int .i64 c] w fun e w' => e = .returned (.string Z) ∧ Below w.heap.size w w' := by rw [← hZ]; exact hRp
                have HU := Lib.hid hU
                have HRP := Lib.hid hRp2
                obtain ⟨q1, q2, q3, q4⟩ := sub16 hSs
                have HE : Hid ((⟨#[48, 120]⟩ : ByteArray) ++ Z ++ S = ⟨R.toArray⟩) := by
                  rw [Hid, ← HR.out, HTX.out]
                  refine bs_eq ?_
                  rw [← hZ, ← hS, repeat_nought, ← k5]
                  simp
                clear hU hRp hRp2 hS hZ k1 k2 k3 k4 k5
                go_enter Tryd.func16, Tryd.ntmps16
                go_wp2_with fail
                refine (HA.out w).mono ?_
                rintro e w1 ⟨rfl, h⟩
                obtain rfl := h.symm
                go_wp2_with fail
                refine (HP.out w).mono ?_
                rintro e w1 ⟨rfl, h⟩
                obtain rfl := h.symm
                go_wp2_with fail
                refine (HM.out w).mono ?_
                rintro e w1 ⟨rfl, h⟩
                obtain rfl := h.symm
                go_wp2_with fail
                refine (HS3.out w).mono ?_
                rintro e w1 ⟨rfl, h⟩
                obtain rfl := h.symm
                go_wp2_with fail
                refine (HTR.out w).mono ?_
                rintro e w1 ⟨rfl, h⟩
                obtain rfl := h.symm
                go_wp2_with fail
                refine HU.out.mono ?_
                rintro e w2 ⟨rfl, hB⟩
                have HB := Lib.hid hB
                clear hB
                go_wp2_with fail
                refine (HRP.out w2).mono ?_
                rintro e w3 ⟨rfl, hB⟩
                have HB3 := Lib.hid (HB.out.trans (hB.mono HB.out.size))
                clear hB
                go_wp2_with fail
                go_ret
                exact ⟨by rw [← HE.out]; rfl, HB3.out⟩
              | true =>
                have htx : R = Lib.itoa (if sg x then -(tr x : Int) else (tr x : Int)) := by rw [← HR.out, textL, HN.out, HI.out, if_neg hz0, HSM2.out, HW.out]; rfl
                obtain ⟨n, hn2⟩ : ∃ n : Int, (if sg x then -(tr x : Int) else (tr x : Int)) = n := ⟨_, rfl⟩
                have hnb : -9223372036854775808 ≤ n ∧ n ≤ 9223372036854775807 := by
                  have := HTR2.out
                  rw [← hn2]; split <;> omega
                have hti := toInt_num HF.out
                rw [hn2] at hti htx
                have hcv := run_conv x n hti hnb.1 hnb.2
                have HFI := Lib.hid (Tryd.strconv_FormatInt_10 n hnb.1 hnb.2 w hT.pow)
                have HTX := Lib.hid htx
                clear hti htx hn2 hnb
                go_enter Tryd.func16, Tryd.ntmps16
                go_wp2_with fail
                refine (HA.out w).mono ?_
                rintro e w1 ⟨rfl, h⟩
                obtain rfl := h.symm
                go_wp2_with fail
                refine (HP.out w).mono ?_
                rintro e w1 ⟨rfl, h⟩
                obtain rfl := h.symm
                go_wp2_with fail
                refine (HM.out w).mono ?_
                rintro e w1 ⟨rfl, h⟩
                obtain rfl := h.symm
                go_wp2_with fail
                refine (HS3.out w).mono ?_
                rintro e w1 ⟨rfl, h⟩
                obtain rfl := h.symm
                go_wp2_with fail
                refine (HTR.out w).mono ?_
                rintro e w1 ⟨rfl, h⟩
                obtain rfl := h.symm
                go_wp2_with fail
                refine HFI.out.mono ?_
                rintro e w1 ⟨rfl, k, os, h⟩
                have HB : Hid (Below w.heap.size w w1) := by rw [h]; exact below_grow w k os
                clear h
                go_wp2_with fail
                go_ret
                exact ⟨by rw [HTX.out]; rfl, HB.out⟩
        case neg =>
          have hzf : (FloatKind.f64.format.order x 0 == some .eq) = false := by rw [hz, decide_eq_false hr0]
          clear hz HSG
          cases b1 with
          | false =>
            have hsm : small x = false := HSM.out.symm
            have HTX : Hid (textL x = [48, 120] ++ hx 16 x) := by rw [Hid, textL, HN.out, HI.out, if_neg hz0, hsm]; rfl
            clear hsm
            obtain ⟨c, k1, k2, k3, k4, k5⟩ := hexText x HX.out
            have hU := FormatUint_any x HX.out w hT
            obtain ⟨S, hS⟩ : ∃ S : ByteArray, ⟨(hexN x).toArray⟩ = S := ⟨_, rfl⟩
            have hSs : S.size + c = 16 := by rw [← hS]; show (hexN x).length + c = 16; omega
            rw [hS] at hU
            have hRp := fun w => Tryd.strings_Repeat ⟨#[48]⟩ c w (by omega) (by show 1 * c ≤ _; omega)
            obtain ⟨Z, hZ⟩ : ∃ Z : ByteArray, ⟨(Lib.repeatL [48] c).toArray⟩ = Z := ⟨_, rfl⟩
            have hZs : Z.size = c := by rw [← hZ, repeat_nought]; show (List.replicate c (48 : UInt8)).length = c; simp
            have hRp2 : ∀ w, Calls Tryd.prog 41 #[.string ⟨#[48]⟩, .int .i64 c] w fun e w' => e = .returned (.string Z) ∧ Below w.heap.size w w' := by rw [← hZ]; exact hRp
            have HU := Lib.hid hU
            have HRP := Lib.hid hRp2
            obtain ⟨q1, q2, q3, q4⟩ := sub16 hSs
            have HE : Hid ((⟨#[48, 120]⟩ : ByteArray) ++ Z ++ S = ⟨R.toArray⟩) := by
              rw [Hid, ← HR.out, HTX.out]
              refine bs_eq ?_
              rw [← hZ, ← hS, repeat_nought, ← k5]
              simp
            clear hU hRp hRp2 hS hZ k1 k2 k3 k4 k5
            go_enter Tryd.func16, Tryd.ntmps16
            go_wp2_with fail
            refine (HA.out w).mono ?_
            rintro e w1 ⟨rfl, h⟩
            obtain rfl := h.symm
            go_wp2_with fail
            refine (HP.out w).mono ?_
            rintro e w1 ⟨rfl, h⟩
            obtain rfl := h.symm
            go_wp2_with fail
            refine (HM.out w).mono ?_
            rintro e w1 ⟨rfl, h⟩
            obtain rfl := h.symm
            go_wp2_with fail
            refine HU.out.mono ?_
            rintro e w2 ⟨rfl, hB⟩
            have HB := Lib.hid hB
            clear hB
            go_wp2_with fail
            refine (HRP.out w2).mono ?_
            rintro e w3 ⟨rfl, hB⟩
            have HB3 := Lib.hid (HB.out.trans (hB.mono HB.out.size))
            clear hB
            go_wp2_with fail
            go_ret
            exact ⟨by rw [← HE.out]; rfl, HB3.out⟩
          | true =>
            cases b2 with
            | false =>
              have hsm : small x = false := HSM.out.symm
              have HTX : Hid (textL x = [48, 120] ++ hx 16 x) := by rw [Hid, textL, HN.out, HI.out, if_neg hz0, hsm]; rfl
              clear hsm
              obtain ⟨c, k1, k2, k3, k4, k5⟩ := hexText x HX.out
              have hU := FormatUint_any x HX.out w hT
              obtain ⟨S, hS⟩ : ∃ S : ByteArray, ⟨(hexN x).toArray⟩ = S := ⟨_, rfl⟩
              have hSs : S.size + c = 16 := by rw [← hS]; show (hexN x).length + c = 16; omega
              rw [hS] at hU
              have hRp := fun w => Tryd.strings_Repeat ⟨#[48]⟩ c w (by omega) (by show 1 * c ≤ _; omega)
              obtain ⟨Z, hZ⟩ : ∃ Z : ByteArray, ⟨(Lib.repeatL [48] c).toArray⟩ = Z := ⟨_, rfl⟩
              have hZs : Z.size = c := by rw [← hZ, repeat_nought]; show (List.replicate c (48 : UInt8)).length = c; simp
              have hRp2 : ∀ w, Calls Tryd.prog 41 #[.string ⟨#[48]⟩, .int .i64 c] w fun e w' => e = .returned (.string Z) ∧ Below w.heap.size w w' := by rw [← hZ]; exact hRp
              have HU := Lib.hid hU
              have HRP := Lib.hid hRp2
              obtain ⟨q1, q2, q3, q4⟩ := sub16 hSs
              have HE : Hid ((⟨#[48, 120]⟩ : ByteArray) ++ Z ++ S = ⟨R.toArray⟩) := by
                rw [Hid, ← HR.out, HTX.out]
                refine bs_eq ?_
                rw [← hZ, ← hS, repeat_nought, ← k5]
                simp
              clear hU hRp hRp2 hS hZ k1 k2 k3 k4 k5
              go_enter Tryd.func16, Tryd.ntmps16
              go_wp2_with fail
              refine (HA.out w).mono ?_
              rintro e w1 ⟨rfl, h⟩
              obtain rfl := h.symm
              go_wp2_with fail
              refine (HP.out w).mono ?_
              rintro e w1 ⟨rfl, h⟩
              obtain rfl := h.symm
              go_wp2_with fail
              refine (HM.out w).mono ?_
              rintro e w1 ⟨rfl, h⟩
              obtain rfl := h.symm
              go_wp2_with fail
              refine HU.out.mono ?_
              rintro e w2 ⟨rfl, hB⟩
              have HB := Lib.hid hB
              clear hB
              go_wp2_with fail
              refine (HRP.out w2).mono ?_
              rintro e w3 ⟨rfl, hB⟩
              have HB3 := Lib.hid (HB.out.trans (hB.mono HB.out.size))
              clear hB
              go_wp2_with fail
              go_ret
              exact ⟨by rw [← HE.out]; rfl, HB3.out⟩
            | true =>
              have hsm : small x = true := HSM.out.symm
              have htr := small_tr hsm
              have hTr := fun w => Trunc_any x HF.out w
              have hwe := whole_eq HF.out (Nat.lt_trans htr (by decide)) (sg x) (.inl rfl)
              obtain ⟨y, hy⟩ : ∃ y, wl (sg x) (tr x) = y := ⟨_, rfl⟩
              rw [hy] at hTr hwe
              obtain ⟨b3, hb3⟩ : ∃ b, (FloatKind.f64.format.order x y == some .eq) = b := ⟨_, rfl⟩
              have HW : Hid (whole x = b3) := by rw [Hid, ← hb3]; exact hwe.symm
              have HTR := Lib.hid hTr
              have HSM2 := Lib.hid hsm
              have HTR2 := Lib.hid htr
              clear hTr hwe hy hsm htr
              cases b3 with
              | false =>
                have HTX : Hid (textL x = [48, 120] ++ hx 16 x) := by rw [Hid, textL, HN.out, HI.out, if_neg hz0, HSM2.out, HW.out]; rfl
                obtain ⟨c, k1, k2, k3, k4, k5⟩ := hexText x HX.out
                have hU := FormatUint_any x HX.out w hT
                obtain ⟨S, hS⟩ : ∃ S : ByteArray, ⟨(hexN x).toArray⟩ = S := ⟨_, rfl⟩
                have hSs : S.size + c = 16 := by rw [← hS]; show (hexN x).length + c = 16; omega
                rw [hS] at hU
                have hRp := fun w => Tryd.strings_Repeat ⟨#[48]⟩ c w (by omega) (by show 1 * c ≤ _; omega)
                obtain ⟨Z, hZ⟩ : ∃ Z : ByteArray, ⟨(Lib.repeatL [48] c).toArray⟩ = Z := ⟨_, rfl⟩
                have hZs : Z.size = c := by rw [← hZ, repeat_nought]; show (List.replicate c (48 : UInt8)).length = c; simp
                have hRp2 : ∀ w, Calls Tryd.prog 41 #[.string ⟨#[48]⟩, .int .i64 c] w fun e w' => e = .returned (.string Z) ∧ Below w.heap.size w w' := by rw [← hZ]; exact hRp
                have HU := Lib.hid hU
                have HRP := Lib.hid hRp2
                obtain ⟨q1, q2, q3, q4⟩ := sub16 hSs
                have HE : Hid ((⟨#[48, 120]⟩ : ByteArray) ++ Z ++ S = ⟨R.toArray⟩) := by
                  rw [Hid, ← HR.out, HTX.out]
                  refine bs_eq ?_
                  rw [← hZ, ← hS, repeat_nought, ← k5]
                  simp
                clear hU hRp hRp2 hS hZ k1 k2 k3 k4 k5
                go_enter Tryd.func16, Tryd.ntmps16
                go_wp2_with fail
                refine (HA.out w).mono ?_
                rintro e w1 ⟨rfl, h⟩
                obtain rfl := h.symm
                go_wp2_with fail
                refine (HP.out w).mono ?_
                rintro e w1 ⟨rfl, h⟩
                obtain rfl := h.symm
                go_wp2_with fail
                refine (HM.out w).mono ?_
                rintro e w1 ⟨rfl, h⟩
                obtain rfl := h.symm
                go_wp2_with fail
                refine (HTR.out w).mono ?_
                rintro e w1 ⟨rfl, h⟩
                obtain rfl := h.symm
                go_wp2_with fail
                refine HU.out.mono ?_
                rintro e w2 ⟨rfl, hB⟩
                have HB := Lib.hid hB
                clear hB
                go_wp2_with fail
                refine (HRP.out w2).mono ?_
                rintro e w3 ⟨rfl, hB⟩
                have HB3 := Lib.hid (HB.out.trans (hB.mono HB.out.size))
                clear hB
                go_wp2_with fail
                go_ret
                exact ⟨by rw [← HE.out]; rfl, HB3.out⟩
              | true =>
                have htx : R = Lib.itoa (if sg x then -(tr x : Int) else (tr x : Int)) := by rw [← HR.out, textL, HN.out, HI.out, if_neg hz0, HSM2.out, HW.out]; rfl
                obtain ⟨n, hn2⟩ : ∃ n : Int, (if sg x then -(tr x : Int) else (tr x : Int)) = n := ⟨_, rfl⟩
                have hnb : -9223372036854775808 ≤ n ∧ n ≤ 9223372036854775807 := by
                  have := HTR2.out
                  rw [← hn2]; split <;> omega
                have hti := toInt_num HF.out
                rw [hn2] at hti htx
                have hcv := run_conv x n hti hnb.1 hnb.2
                have HFI := Lib.hid (Tryd.strconv_FormatInt_10 n hnb.1 hnb.2 w hT.pow)
                have HTX := Lib.hid htx
                clear hti htx hn2 hnb
                go_enter Tryd.func16, Tryd.ntmps16
                go_wp2_with fail
                refine (HA.out w).mono ?_
                rintro e w1 ⟨rfl, h⟩
                obtain rfl := h.symm
                go_wp2_with fail
                refine (HP.out w).mono ?_
                rintro e w1 ⟨rfl, h⟩
                obtain rfl := h.symm
                go_wp2_with fail
                refine (HM.out w).mono ?_
                rintro e w1 ⟨rfl, h⟩
                obtain rfl := h.symm
                go_wp2_with fail
                refine (HTR.out w).mono ?_
                rintro e w1 ⟨rfl, h⟩
                obtain rfl := h.symm
                go_wp2_with fail
                refine HFI.out.mono ?_
                rintro e w1 ⟨rfl, k, os, h⟩
                have HB : Hid (Below w.heap.size w w1) := by rw [h]; exact below_grow w k os
                clear h
                go_wp2_with fail
                go_ret
                exact ⟨by rw [HTX.out]; rfl, HB.out⟩
end Go.Proofs.YtplhgjngbnkhbaaDoor
