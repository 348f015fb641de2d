import Derived.Test.YthgddbdkdloobaaDoorPA
namespace Go.Proofs.YthgddbdkdloobaaDoor
open Go.RowKit
set_option linter.unusedVariables false

set_option maxRecDepth 100000 in
set_option maxHeartbeats 2000000 in
theorem fail_0 {w : World} {B : Nat} {s : ByteArray} {pv : Value} {p d : Nat} {z : Bool} (h : Rf w B s pv p d 0 z) (c : Nat) : Calls Tryd.prog 53 #[.pointer (some ⟨B, 0, none⟩), .int .i64 c] w fun e w' => e = .returned (.int .i64 0) ∧ Kp B w w' ∧ Rf w' B s pv p d c z := by
  have c4 := h.c4
  have f4 := h.f4
  have HH := Lib.hid h
  clear h
  go_enter Tryd.func53, Tryd.ntmps53
  go_wp2_with fail
  go_ret
  exact ⟨rfl, Kp.setCell _ _ _ _, HH.out.set4 c⟩
set_option maxRecDepth 100000 in
set_option maxHeartbeats 2000000 in
theorem fail_1 {w : World} {B : Nat} {s : ByteArray} {pv : Value} {p d k : Nat} {z : Bool} (h : Rf w B s pv p d k z) (hk : k ≠ 0) (c : Nat) : Calls Tryd.prog 53 #[.pointer (some ⟨B, 0, none⟩), .int .i64 c] w fun e w' => e = .returned (.int .i64 0) ∧ w' = w := by
  have c4 := h.c4
  have b1 : ((k : Int) == 0) = false := by rw [beq_eq_false_iff_ne]; omega
  clear h hk
  go_enter Tryd.func53, Tryd.ntmps53
  go_wp2_with fail
  go_ret
  exact ⟨rfl, rfl⟩
/-! Blanks at the end. -/
def rt (l : Bs) : Bs := (l.reverse.dropWhile isBl).reverse
theorem trim_rt (l : Bs) : trim l = rt (skp l) := rfl
theorem rt_snoc (l : Bs) (c : UInt8) : rt (l ++ [c]) = if isBl c then rt l else l ++ [c] := by
  unfold rt
  rw [List.reverse_append, List.reverse_singleton, List.singleton_append, List.dropWhile_cons]
  split
  · rfl
  · simp
theorem skp_cons (c : UInt8) (l : Bs) : skp (c :: l) = if isBl c then skp l else c :: l := by unfold skp; rw [List.dropWhile_cons]
theorem look_step {l : List (Bs × Bs)} {k : Nat} {a b : Bs} (n : Bs) (h : l[k]? = some (a, b)) : look (l.take (k + 1)) n = if a = n then b else look (l.take k) n := by
  have hk : k < l.length := by
    rcases Nat.lt_or_ge k l.length with h1 | h1
    · exact h1
    · rw [List.getElem?_eq_none h1] at h; cases h
  rw [List.getElem?_eq_getElem hk] at h
  rw [List.take_succ_eq_append_getElem hk, look_snoc, Option.some.inj h]
theorem drop1_data (s : ByteArray) : (s.extract 1 s.size).data.toList = s.data.toList.drop 1 := drop_data s 1
def tailV (v : Bs) : Option Int := if v = [] then some 0
  else if v.headD 0 = 45 then (if 1 ≤ (v.drop 1).length ∧ (v.drop 1).all isDig = true then some (wr (-(num (v.drop 1)))) else none)
  else if v.all isDig = true then some (num v) else none
theorem valOf_tail (x : Bs) : valOf x = tailV (trim x) := rfl
theorem tailV_neg {v : Bs} (h : v.headD 0 = 45) : tailV v = if 1 ≤ (v.drop 1).length ∧ (v.drop 1).all isDig = true then some (wr (-(num (v.drop 1)))) else none := by
  unfold tailV
  rw [if_neg (by rintro rfl; simp at h), if_pos h]
theorem tailV_pos {v : Bs} (h0 : v ≠ []) (h : v.headD 0 ≠ 45) : tailV v = if 1 ≤ v.length ∧ v.all isDig = true then some (num v) else none := by
  unfold tailV
  rw [if_neg h0, if_neg h]
  have h1 : 1 ≤ v.length := List.length_pos_iff.2 h0
  by_cases ha : v.all isDig = true
  · rw [if_pos ha, if_pos ⟨h1, ha⟩]
  · rw [if_neg ha, if_neg (fun e => ha e.2)]
def strL : Value → Nat | .string s => s.size | _ => 0
def nmPost (s : ByteArray) (pv : Value) (p d : Nat) (z : Bool) (B : Nat) (w : World) (X : Option Int) (e : Ending) (w' : World) : Prop :=
  ∃ v : Int, e = .returned (.int .i64 v) ∧ Kp B w w' ∧ match X with | some x => v = x ∧ Rf w' B s pv p d 0 z | none => Rf w' B s pv p d 2 z
set_option maxRecDepth 100000 in
set_option maxHeartbeats 8000000 in
theorem RefName_any (name : ByteArray) (l : Prs) (s : ByteArray) (pv : Value) (p d : Nat) (z : Bool) (B : Nat) (w : World) (hn : name.size ≤ 1000000) (h : Rf w B s pv p d 0 z) (hp : PV B w pv l) :
    Calls Tryd.prog 55 #[.pointer (some ⟨B, 0, none⟩), .string name] w (nmPost s pv p d z B w (valOf (look (bsl l) name.data.toList))) := by
  have hlen := hp.len
  have hsz := hp.sz
  have hrow : ∃ o cap, pv = .slice o l.length cap ∧ (∀ k (h : k < l.length), ∃ b off, o = some ⟨b, off, none⟩ ∧ w.cell? ⟨b, off + k * 2, none⟩ = some (.string l[k].1) ∧ w.cell? ⟨b, off + k * 2 + 1, none⟩ = some (.string l[k].2)) := by
    rcases hp.at' with ⟨o, c, rfl, rfl⟩ | ⟨b, off, cap, rfl, hb, hbB, hcell⟩
    · exact ⟨o, c, rfl, fun k h => absurd h (by simp)⟩
    · exact ⟨_, cap, rfl, fun k h => ⟨b, off, rfl, (hcell k h).1, (hcell k h).2⟩⟩
  obtain ⟨o, cap, rfl, hrow⟩ := hrow
  have c1 := h.c1
  obtain ⟨N, hN⟩ : ∃ N, name.data.toList = N := ⟨_, rfl⟩
  obtain ⟨R, hR⟩ : ∃ R, valOf (look (bsl l) N) = R := ⟨_, rfl⟩
  rw [hN, hR]
  have hRE := valOf_tail (look (bsl l) N)
  rw [hR] at hRE
  have HRE := Lib.hid hRE
  have HNM := Lib.hid hN
  have HSZ := Lib.hid hsz
  have HROW := Lib.hid hrow
  have HH := Lib.hid h
  have hl1 : (l.length : Int) ≤ 9223372036854775807 := by omega
  have hl0 : (0 : Int) ≤ (l.length : Int) := by omega
  have hbl : (bsl l).length = l.length := by unfold bsl; rw [List.length_map]
  have HBL := Lib.hid hbl
  clear hR hN hsz hrow h hp hbl hRE hlen hn
  go_enter Tryd.func55, Tryd.ntmps55
  go_wp2_with fail
  go_loop [5, 6] (fun v i => ∃ (k : Nat) (U : ByteArray), k ≤ l.length ∧ U.size ≤ 9223372036854775807 ∧ v = .string U ∧ i = .int .i64 k ∧ Hid (U.data.toList = look ((bsl l).take k) N)) (fun _ i => l.length - (intOf i).toNat)
  case atStart => exact ⟨0, ⟨#[]⟩, by omega, by decide, rfl, rfl, rfl⟩
  case round =>
    obtain ⟨k, U, hk, hU, rfl, rfl, HU⟩ := hrel
    by_cases hlt : k < l.length
    · have hltI : (k : Int) < (l.length : Int) := by omega
      obtain ⟨b, off, rfl, x1, x2⟩ := HROW.out k hlt
      have hmem := HSZ.out _ (List.getElem_mem hlt)
      have hb1 : (bsl l)[k]? = some (l[k].1.data.toList, l[k].2.data.toList) := by unfold bsl; rw [List.getElem?_map, List.getElem?_eq_getElem hlt]; rfl
      have hlk := look_step N hb1
      obtain ⟨nm, hnm⟩ : ∃ nm, l[k].1 = nm := ⟨_, rfl⟩
      obtain ⟨vl, hvl⟩ : ∃ vl, l[k].2 = vl := ⟨_, rfl⟩
      rw [hnm] at x1 hlk
      rw [hvl] at x2 hlk hmem
      have HLK := Lib.hid hlk
      clear hnm hvl hb1 hlk
      cases heq : (nm.toList == name.toList) with
      | false =>
        have HF : Hid (U.data.toList = look ((bsl l).take (k + 1)) N) := by
          rw [Hid, HLK.out, if_neg, HU.out]
          rw [beq_eq_false_iff_ne, Lib.toList_data, Lib.toList_data, HNM.out] at heq
          exact heq
        go_wp2_with fail
        exact ⟨⟨k + 1, U, by omega, hU, rfl, rfl, HF.out⟩, by simp [intOf]; omega⟩
      | true =>
        have HF : Hid (vl.data.toList = look ((bsl l).take (k + 1)) N) := by
          rw [Hid, HLK.out, if_pos]
          rw [beq_iff_eq, Lib.toList_data, Lib.toList_data, HNM.out] at heq
          exact heq
        go_wp2_with fail
        exact ⟨⟨k + 1, vl, by omega, hmem, rfl, rfl, HF.out⟩, by simp [intOf]; omega⟩
    · have hltI : ¬ (k : Int) < (l.length : Int) := by omega
      have hltD : decide ((k : Int) < (l.length : Int)) = false := by simpa using hltI
      have HV : Hid (U.data.toList = look (bsl l) N) := by
        rw [Hid, HU.out, List.take_of_length_le (by rw [HBL.out]; omega)]
      rw [← HV.out] at HRE
      clear HU HV
      obtain ⟨TR, hTR⟩ : ∃ TR, trim U.data.toList = TR := ⟨_, rfl⟩
      rw [hTR] at HRE
      rw [trim_rt] at hTR
      have HTR := Lib.hid hTR
      clear hTR
      go_wp2_with fail
      go_loop [5] (fun v => ∃ (X : ByteArray), X.size ≤ 9223372036854775807 ∧ v = .string X ∧ Hid (rt (skp X.data.toList) = TR)) (fun v => strL v)
      case atStart => exact ⟨U, hU, rfl, HTR.out⟩
      case round =>
        obtain ⟨X, hX, rfl, HX⟩ := hrel
        have hl := dlen X
        by_cases h0 : X.size = 0
        · have hnil : X.data.toList = [] := List.length_eq_zero_iff.1 (by omega)
          have hemp : (X.toList == []) = true := by rw [str_eq, decide_eq_true hnil]
          have HX3 : Hid (rt X.data.toList = TR) := by rw [Hid, ← HX.out, hnil]; rfl
          clear HX HTR hnil hl
          go_wp2_with fail
          go_loop [5] (fun v => ∃ (Y : ByteArray), Y.size ≤ 9223372036854775807 ∧ v = .string Y ∧ Hid (rt Y.data.toList = TR)) (fun v => strL v)
          case atStart => exact ⟨X, hX, rfl, HX3.out⟩
          case round =>
            obtain ⟨Y, hY, rfl, HY⟩ := hrel
            have hly := dlen Y
            by_cases h0y : Y.size = 0
            · have hnily : Y.data.toList = [] := List.length_eq_zero_iff.1 (by omega)
              have hempy : (Y.toList == []) = true := by rw [str_eq, decide_eq_true hnily]
              have HE : Hid (R = some 0) := by
                have : TR = [] := by rw [← HY.out, hnily]; rfl
                rw [Hid, HRE.out, this]; rfl
              clear hnily hly HY
              go_wp2_with fail
              go_ret
              exact ⟨0, rfl, Kp.refl _ _, by rw [HE.out]; exact ⟨rfl, HH.out⟩⟩
            · have h0lt : 0 < Y.size := by omega
              obtain ⟨m, hm⟩ : ∃ m, Y.size = m + 1 := ⟨Y.size - 1, by omega⟩
              have hmlt : m < Y.size := by omega
              have hempy : (Y.toList == []) = false := by rw [str_eq, decide_eq_false (fun e => by rw [e] at hly; simp at hly; omega)]
              have hsnoc := take_gb hmlt
              rw [List.take_of_length_le (by rw [hly]; omega)] at hsnoc
              have hgby := gb_eq Y m hmlt
              have hsub : (Y.size : Int) - 1 = (m : Int) := by omega
              have hmI : (m : Int) ≤ (Y.size : Int) := by omega
              have hmJ : (m : Int) < (Y.size : Int) := by omega
              have hYI : (Y.size : Int) ≤ 9223372036854775807 := by omega
              have htd := take_data Y m
              have hcons0 := drop_gb (s := Y) (k := 0) h0lt
              rw [List.drop_zero] at hcons0
              have hgb0 := gb_eq Y 0 h0lt
              have hd1y := drop1_data Y
              have h1y : (1 : Int) ≤ (Y.size : Int) := by omega
              have HSIZE : Hid (Y.size = m + 1) := hm
              obtain ⟨c, hc⟩ : ∃ c, gb Y m = c := ⟨_, rfl⟩
              rw [hc] at hgby hsnoc
              have HSN := Lib.hid hsnoc
              have HTD := Lib.hid htd
              have HCO := Lib.hid hcons0
              have HD1Y := Lib.hid hd1y
              have HGB0 := Lib.hid hgb0
              have hsp := fun w => RefBlank_any c w
              obtain ⟨b, hb⟩ : ∃ b, isBl c = b := ⟨_, rfl⟩
              have HBY := Lib.hid hb
              rw [hb] at hsp
              have HSY := Lib.hid hsp
              obtain ⟨T, hT⟩ : ∃ T, Y.extract 0 m = T := ⟨_, rfl⟩
              rw [hT] at HTD
              have hTs : T.size = m := by rw [← hT, ByteArray.size_extract]; omega
              have HTS := Lib.hid hTs
              clear hc hb hsp hsnoc htd hTs hly hcons0 hd1y hm hgb0
              cases b with
              | true =>
                go_wp2_with fail
                refine (HSY.out _).mono ?_
                rintro e w1 ⟨rfl, h⟩
                obtain rfl := h.symm
                go_wp2_with fail
                refine ⟨⟨T, by have := HTS.out; omega, rfl, ?_⟩, by simp only [strL]; have := HTS.out; have := HSIZE.out; omega⟩
                rw [← HY.out, HTD.out, HSN.out, rt_snoc, HBY.out, if_pos rfl]
                congr 1
                have hlt2 : (Y.data.toList.take m).length = m := by rw [List.length_take, dlen]; have := HSIZE.out; omega
                rw [List.take_append_of_le_length (by omega), List.take_of_length_le (by omega)]
              | false =>
                have HX4 : Hid (Y.data.toList = TR) := by
                  have := HY.out
                  rw [HSN.out, rt_snoc, HBY.out, if_neg (by simp), ← HSN.out] at this
                  exact this
                rw [← HX4.out] at HRE
                clear HX4 HY HTD HSN HTS hT
                go_wp2_with fail
                refine (HSY.out _).mono ?_
                rintro e w1 ⟨rfl, h⟩
                obtain rfl := h.symm
                clear hgby hsub hmI hmJ
                have hgb0 := HGB0.out
                have hcons0 := HCO.out
                obtain ⟨c0, hc0⟩ : ∃ c0, gb Y 0 = c0 := ⟨_, rfl⟩
                rw [hc0] at hgb0 hcons0
                have h45 := u8_eq c0 45 (by omega)
                obtain ⟨neg, hneg⟩ : ∃ neg, (c0 == (45 : UInt8)) = neg := ⟨_, rfl⟩
                obtain ⟨i0, hi0⟩ : ∃ i0 : Int, (c0.toNat : Int) = i0 := ⟨_, rfl⟩
                have h45' : (i0 == 45) = neg := by rw [← hi0, ← hneg]; exact h45
                cases neg with
                | true =>
                  have HRE4 : Hid (R = tailV Y.data.toList) := HRE.out
                  have hhead : Y.data.toList.headD 0 = 45 := by rw [hcons0]; simpa using hneg
                  have hDd := HD1Y.out
                  have hDs : (Y.extract 1 Y.size).size ≤ 9223372036854775807 := by rw [ByteArray.size_extract]; omega
                  have hRD := HRE4.out
                  rw [tailV_neg hhead, ← hDd] at hRD
                  obtain ⟨D, hD⟩ : ∃ D, Y.extract 1 Y.size = D := ⟨_, rfl⟩
                  rw [hD] at hDs hRD
                  have HRD := Lib.hid hRD
                  clear hDd hRD HRE4 HRE HGB0 HCO hcons0 h45 hneg hhead HD1Y hc0
                  go_wp2_with fail
                  go_loop [8] (fun i => ∃ k : Nat, k ≤ D.size ∧ i = .int .i64 k ∧ Hid (∀ c ∈ D.data.toList.take k, isDig c = true)) (fun i => D.size - (intOf i).toNat)
                  case atStart => exact ⟨0, by omega, rfl, by intro c hc; simp at hc⟩
                  case round =>
                    obtain ⟨k, hk4, rfl, HALL⟩ := hrel
                    by_cases hlt4 : k < D.size
                    · have hlt4I : (k : Int) < (D.size : Int) := by omega
                      have hgb4 := gb_eq D k hlt4
                      have HTK := Lib.hid (take_gb hlt4)
                      have HAT4 := Lib.hid (gb_at hlt4)
                      obtain ⟨c4, hc4⟩ : ∃ c, gb D k = c := ⟨_, rfl⟩
                      rw [hc4] at hgb4 HTK HAT4
                      clear hc4
                      have hsp4 := fun w => RefDigit_any c4 w
                      obtain ⟨b4, hb4⟩ : ∃ b, isDig c4 = b := ⟨_, rfl⟩
                      have HB4 := Lib.hid hb4
                      rw [hb4] at hsp4
                      have HS4 := Lib.hid hsp4
                      clear hb4 hsp4
                      cases b4 with
                      | true =>
                        go_wp2_with fail
                        refine (HS4.out _).mono ?_
                        rintro e w1 ⟨rfl, h⟩
                        obtain rfl := h.symm
                        go_wp2_with fail
                        refine ⟨⟨k + 1, by omega, rfl, ?_⟩, by simp [intOf]; omega⟩
                        intro x hx
                        rw [HTK.out, List.mem_append] at hx
                        rcases hx with hx | hx
                        · exact HALL.out x hx
                        · rw [List.mem_singleton.1 hx]; exact HB4.out
                      | false =>
                        have HE : Hid (R = none) := by
                          rw [Hid, HRD.out, if_neg]
                          rintro ⟨_, ha⟩
                          have hmem : c4 ∈ D.data.toList := List.mem_of_getElem? HAT4.out
                          have := List.all_eq_true.1 ha c4 hmem
                          rw [HB4.out] at this
                          cases this
                        go_wp2_with fail
                        refine (HS4.out _).mono ?_
                        rintro e w1 ⟨rfl, h⟩
                        obtain rfl := h.symm
                        go_wp2_with fail
                        refine (fail_0 HH.out 2).mono ?_
                        rintro e w1 ⟨rfl, hK, hR⟩
                        have HK := Lib.hid hK
                        have HR2 := Lib.hid hR
                        clear hK hR
                        go_wp2_with fail
                        go_ret
                        exact ⟨0, rfl, HK.out, by rw [HE.out]; exact HR2.out⟩
                    · have hlt4I : ¬ (k : Int) < (D.size : Int) := by omega
                      have hlt4D : decide ((k : Int) < (D.size : Int)) = false := by simpa using hlt4I
                      have hall : ∀ c ∈ D.data.toList, isDig c = true := by
                        have := HALL.out
                        rwa [List.take_of_length_le (by rw [dlen]; omega)] at this
                      have hld := dlen D
                      by_cases hz4 : D.size = 0
                      · have hnil4 : D.data.toList = [] := List.length_eq_zero_iff.1 (by omega)
                        have hemp4 : (D.toList == []) = true := by rw [str_eq, decide_eq_true hnil4]
                        have HE : Hid (R = none) := by rw [Hid, HRD.out, if_neg]; rintro ⟨h1, _⟩; omega
                        clear hnil4 hld hall
                        go_wp2_with fail
                        refine (fail_0 HH.out 2).mono ?_
                        rintro e w1 ⟨rfl, hK, hR⟩
                        have HK := Lib.hid hK
                        have HR2 := Lib.hid hR
                        clear hK hR
                        go_wp2_with fail
                        go_ret
                        exact ⟨0, rfl, HK.out, by rw [HE.out]; exact HR2.out⟩
                      · have hemp4 : (D.toList == []) = false := by rw [str_eq, decide_eq_false (fun e => by rw [e] at hld; simp at hld; omega)]
                        have HE : Hid (R = some (wr (-(num D.data.toList)))) := by
                          rw [Hid, HRD.out, if_pos ⟨by omega, List.all_eq_true.2 hall⟩]
                        have HNB := Lib.hid (fun w => Refnumber_any D w (by omega) hall)
                        obtain ⟨nv, hnv⟩ : ∃ nv, num D.data.toList = nv := ⟨_, rfl⟩
                        rw [hnv] at HNB HE
                        clear hld hall hnv
                        go_wp2_with fail
                        refine (HNB.out _).mono ?_
                        rintro e w1 ⟨rfl, h⟩
                        obtain rfl := h.symm
                        go_wp2_with fail
                        go_ret
                        exact ⟨wr (-nv), by unfold wr; rfl, Kp.refl _ _, by rw [HE.out]; exact ⟨rfl, HH.out⟩⟩
                | false =>
                  have HRE4 : Hid (R = tailV Y.data.toList) := HRE.out
                  have hne : Y.data.toList ≠ [] := by rw [hcons0]; simp
                  have hhead : Y.data.toList.headD 0 ≠ 45 := by rw [hcons0]; simpa using hneg
                  have hRD := HRE4.out
                  rw [tailV_pos hne hhead] at hRD
                  have hDs := hY
                  have HRD := Lib.hid hRD
                  clear hRD HRE4 HRE HGB0 HCO hcons0 h45 hneg hhead HD1Y hc0 hne
                  go_wp2_with fail
                  obtain ⟨D, hD⟩ : ∃ D, Y = D := ⟨_, rfl⟩
                  subst hD
                  clear hempy hgb0 h0lt h1y
                  go_loop [8] (fun i => ∃ k : Nat, k ≤ Y.size ∧ i = .int .i64 k ∧ Hid (∀ c ∈ Y.data.toList.take k, isDig c = true)) (fun i => Y.size - (intOf i).toNat)
                  case atStart => exact ⟨0, by omega, rfl, by intro c hc; simp at hc⟩
                  case round =>
                    obtain ⟨k, hk4, rfl, HALL⟩ := hrel
                    by_cases hlt4 : k < Y.size
                    · have hlt4I : (k : Int) < (Y.size : Int) := by omega
                      have hgb4 := gb_eq Y k hlt4
                      have HTK := Lib.hid (take_gb hlt4)
                      have HAT4 := Lib.hid (gb_at hlt4)
                      obtain ⟨c4, hc4⟩ : ∃ c, gb Y k = c := ⟨_, rfl⟩
                      rw [hc4] at hgb4 HTK HAT4
                      clear hc4
                      have hsp4 := fun w => RefDigit_any c4 w
                      obtain ⟨b4, hb4⟩ : ∃ b, isDig c4 = b := ⟨_, rfl⟩
                      have HB4 := Lib.hid hb4
                      rw [hb4] at hsp4
                      have HS4 := Lib.hid hsp4
                      clear hb4 hsp4
                      cases b4 with
                      | true =>
                        go_wp2_with fail
                        refine (HS4.out _).mono ?_
                        rintro e w1 ⟨rfl, h⟩
                        obtain rfl := h.symm
                        go_wp2_with fail
                        refine ⟨⟨k + 1, by omega, rfl, ?_⟩, by simp [intOf]; omega⟩
                        intro x hx
                        rw [HTK.out, List.mem_append] at hx
                        rcases hx with hx | hx
                        · exact HALL.out x hx
                        · rw [List.mem_singleton.1 hx]; exact HB4.out
                      | false =>
                        have HE : Hid (R = none) := by
                          rw [Hid, HRD.out, if_neg]
                          rintro ⟨_, ha⟩
                          have hmem : c4 ∈ Y.data.toList := List.mem_of_getElem? HAT4.out
                          have := List.all_eq_true.1 ha c4 hmem
                          rw [HB4.out] at this
                          cases this
                        go_wp2_with fail
                        refine (HS4.out _).mono ?_
                        rintro e w1 ⟨rfl, h⟩
                        obtain rfl := h.symm
                        go_wp2_with fail
                        refine (fail_0 HH.out 2).mono ?_
                        rintro e w1 ⟨rfl, hK, hR⟩
                        have HK := Lib.hid hK
                        have HR2 := Lib.hid hR
                        clear hK hR
                        go_wp2_with fail
                        go_ret
                        exact ⟨0, rfl, HK.out, by rw [HE.out]; exact HR2.out⟩
                    · have hlt4I : ¬ (k : Int) < (Y.size : Int) := by omega
                      have hlt4D : decide ((k : Int) < (Y.size : Int)) = false := by simpa using hlt4I
                      have hall : ∀ c ∈ Y.data.toList, isDig c = true := by
                        have := HALL.out
                        rwa [List.take_of_length_le (by rw [dlen]; omega)] at this
                      have hld := dlen Y
                      by_cases hz4 : Y.size = 0
                      · exact absurd hz4 h0y
                      · have hemp4 : (Y.toList == []) = false := by rw [str_eq, decide_eq_false (fun e => by rw [e] at hld; simp at hld; omega)]
                        have HE : Hid (R = some (num Y.data.toList)) := by
                          rw [Hid, HRD.out, if_pos ⟨by omega, List.all_eq_true.2 hall⟩]
                        have HNB := Lib.hid (fun w => Refnumber_any Y w (by omega) hall)
                        obtain ⟨nv, hnv⟩ : ∃ nv, num Y.data.toList = nv := ⟨_, rfl⟩
                        rw [hnv] at HNB HE
                        clear hld hall hnv
                        go_wp2_with fail
                        refine (HNB.out _).mono ?_
                        rintro e w1 ⟨rfl, h⟩
                        obtain rfl := h.symm
                        go_wp2_with fail
                        go_ret
                        exact ⟨nv, rfl, Kp.refl _ _, by rw [HE.out]; exact ⟨rfl, HH.out⟩⟩
        · have hlt : 0 < X.size := by omega
          have hemp : (X.toList == []) = false := by rw [str_eq, decide_eq_false (fun e => by rw [e] at hl; simp at hl; omega)]
          have hcons := drop_gb (s := X) (k := 0) hlt
          rw [List.drop_zero] at hcons
          have hgb := gb_eq X 0 hlt
          have h1I : (1 : Int) ≤ (X.size : Int) := by omega
          have hd1 := drop1_data X
          obtain ⟨c, hc⟩ : ∃ c, gb X 0 = c := ⟨_, rfl⟩
          rw [hc] at hgb hcons
          have HC := Lib.hid hcons
          have hsp := fun w => RefBlank_any c w
          obtain ⟨b, hb⟩ : ∃ b, isBl c = b := ⟨_, rfl⟩
          have HBB := Lib.hid hb
          rw [hb] at hsp
          have HSP := Lib.hid hsp
          have hTs : (X.extract 1 X.size).size = X.size - 1 := by rw [ByteArray.size_extract]; omega
          obtain ⟨T, hT⟩ : ∃ T, X.extract 1 X.size = T := ⟨_, rfl⟩
          rw [hT] at hd1 hTs
          have HD1 := Lib.hid hd1
          have HTS := Lib.hid hTs
          clear hc hb hsp hcons hd1 hTs hl
          cases b with
          | true =>
            go_wp2_with fail
            refine (HSP.out _).mono ?_
            rintro e w1 ⟨rfl, h⟩
            obtain rfl := h.symm
            go_wp2_with fail
            refine ⟨⟨T, by have := HTS.out; omega, rfl, ?_⟩, by simp only [strL]; have := HTS.out; omega⟩
            rw [← HX.out, HD1.out, HC.out, skp_cons, HBB.out, if_pos rfl]
            rfl
          | false =>
            have HX3 : Hid (rt X.data.toList = TR) := by rw [Hid, ← HX.out, HC.out, skp_cons, HBB.out, if_neg (by simp)]
            clear HX HTR HC HD1 HTS
            go_wp2_with fail
            refine (HSP.out _).mono ?_
            rintro e w1 ⟨rfl, h⟩
            obtain rfl := h.symm
            clear hemp h1I hgb hlt
            go_wp2_with fail
            go_loop [5] (fun v => ∃ (Y : ByteArray), Y.size ≤ 9223372036854775807 ∧ v = .string Y ∧ Hid (rt Y.data.toList = TR)) (fun v => strL v)
            case atStart => exact ⟨X, hX, rfl, HX3.out⟩
            case round =>
              obtain ⟨Y, hY, rfl, HY⟩ := hrel
              have hly := dlen Y
              by_cases h0y : Y.size = 0
              · have hnily : Y.data.toList = [] := List.length_eq_zero_iff.1 (by omega)
                have hempy : (Y.toList == []) = true := by rw [str_eq, decide_eq_true hnily]
                have HE : Hid (R = some 0) := by
                  have : TR = [] := by rw [← HY.out, hnily]; rfl
                  rw [Hid, HRE.out, this]; rfl
                clear hnily hly HY
                go_wp2_with fail
                go_ret
                exact ⟨0, rfl, Kp.refl _ _, by rw [HE.out]; exact ⟨rfl, HH.out⟩⟩
              · have h0lt : 0 < Y.size := by omega
                obtain ⟨m, hm⟩ : ∃ m, Y.size = m + 1 := ⟨Y.size - 1, by omega⟩
                have hmlt : m < Y.size := by omega
                have hempy : (Y.toList == []) = false := by rw [str_eq, decide_eq_false (fun e => by rw [e] at hly; simp at hly; omega)]
                have hsnoc := take_gb hmlt
                rw [List.take_of_length_le (by rw [hly]; omega)] at hsnoc
                have hgby := gb_eq Y m hmlt
                have hsub : (Y.size : Int) - 1 = (m : Int) := by omega
                have hmI : (m : Int) ≤ (Y.size : Int) := by omega
                have hmJ : (m : Int) < (Y.size : Int) := by omega
                have hYI : (Y.size : Int) ≤ 9223372036854775807 := by omega
                have htd := take_data Y m
                have hcons0 := drop_gb (s := Y) (k := 0) h0lt
                rw [List.drop_zero] at hcons0
                have hgb0 := gb_eq Y 0 h0lt
                have hd1y := drop1_data Y
                have h1y : (1 : Int) ≤ (Y.size : Int) := by omega
                have HSIZE : Hid (Y.size = m + 1) := hm
                obtain ⟨c, hc⟩ : ∃ c, gb Y m = c := ⟨_, rfl⟩
                rw [hc] at hgby hsnoc
                have HSN := Lib.hid hsnoc
                have HTD := Lib.hid htd
                have HCO := Lib.hid hcons0
                have HD1Y := Lib.hid hd1y
                have HGB0 := Lib.hid hgb0
                have hsp := fun w => RefBlank_any c w
                obtain ⟨b, hb⟩ : ∃ b, isBl c = b := ⟨_, rfl⟩
                have HBY := Lib.hid hb
                rw [hb] at hsp
                have HSY := Lib.hid hsp
                obtain ⟨T, hT⟩ : ∃ T, Y.extract 0 m = T := ⟨_, rfl⟩
                rw [hT] at HTD
                have hTs : T.size = m := by rw [← hT, ByteArray.size_extract]; omega
                have HTS := Lib.hid hTs
                clear hc hb hsp hsnoc htd hTs hly hcons0 hd1y hm hgb0
                cases b with
                | true =>
                  go_wp2_with fail
                  refine (HSY.out _).mono ?_
                  rintro e w1 ⟨rfl, h⟩
                  obtain rfl := h.symm
                  go_wp2_with fail
                  refine ⟨⟨T, by have := HTS.out; omega, rfl, ?_⟩, by simp only [strL]; have := HTS.out; have := HSIZE.out; omega⟩
                  rw [← HY.out, HTD.out, HSN.out, rt_snoc, HBY.out, if_pos rfl]
                  congr 1
                  have hlt2 : (Y.data.toList.take m).length = m := by rw [List.length_take, dlen]; have := HSIZE.out; omega
                  rw [List.take_append_of_le_length (by omega), List.take_of_length_le (by omega)]
                | false =>
                  have HX4 : Hid (Y.data.toList = TR) := by
                    have := HY.out
                    rw [HSN.out, rt_snoc, HBY.out, if_neg (by simp), ← HSN.out] at this
                    exact this
                  rw [← HX4.out] at HRE
                  clear HX4 HY HTD HSN HTS hT
                  go_wp2_with fail
                  refine (HSY.out _).mono ?_
                  rintro e w1 ⟨rfl, h⟩
                  obtain rfl := h.symm
                  clear hgby hsub hmI hmJ
                  have hgb0 := HGB0.out
                  have hcons0 := HCO.out
                  obtain ⟨c0, hc0⟩ : ∃ c0, gb Y 0 = c0 := ⟨_, rfl⟩
                  rw [hc0] at hgb0 hcons0
                  have h45 := u8_eq c0 45 (by omega)
                  obtain ⟨neg, hneg⟩ : ∃ neg, (c0 == (45 : UInt8)) = neg := ⟨_, rfl⟩
                  obtain ⟨i0, hi0⟩ : ∃ i0 : Int, (c0.toNat : Int) = i0 := ⟨_, rfl⟩
                  have h45' : (i0 == 45) = neg := by rw [← hi0, ← hneg]; exact h45
                  cases neg with
                  | true =>
                    have HRE4 : Hid (R = tailV Y.data.toList) := HRE.out
                    have hhead : Y.data.toList.headD 0 = 45 := by rw [hcons0]; simpa using hneg
                    have hDd := HD1Y.out
                    have hDs : (Y.extract 1 Y.size).size ≤ 9223372036854775807 := by rw [ByteArray.size_extract]; omega
                    have hRD := HRE4.out
                    rw [tailV_neg hhead, ← hDd] at hRD
                    obtain ⟨D, hD⟩ : ∃ D, Y.extract 1 Y.size = D := ⟨_, rfl⟩
                    rw [hD] at hDs hRD
                    have HRD := Lib.hid hRD
                    clear hDd hRD HRE4 HRE HGB0 HCO hcons0 h45 hneg hhead HD1Y hc0
                    go_wp2_with fail
                    go_loop [8] (fun i => ∃ k : Nat, k ≤ D.size ∧ i = .int .i64 k ∧ Hid (∀ c ∈ D.data.toList.take k, isDig c = true)) (fun i => D.size - (intOf i).toNat)
                    case atStart => exact ⟨0, by omega, rfl, by intro c hc; simp at hc⟩
                    case round =>
                      obtain ⟨k, hk4, rfl, HALL⟩ := hrel
                      by_cases hlt4 : k < D.size
                      · have hlt4I : (k : Int) < (D.size : Int) := by omega
                        have hgb4 := gb_eq D k hlt4
                        have HTK := Lib.hid (take_gb hlt4)
                        have HAT4 := Lib.hid (gb_at hlt4)
                        obtain ⟨c4, hc4⟩ : ∃ c, gb D k = c := ⟨_, rfl⟩
                        rw [hc4] at hgb4 HTK HAT4
                        clear hc4
                        have hsp4 := fun w => RefDigit_any c4 w
                        obtain ⟨b4, hb4⟩ : ∃ b, isDig c4 = b := ⟨_, rfl⟩
                        have HB4 := Lib.hid hb4
                        rw [hb4] at hsp4
                        have HS4 := Lib.hid hsp4
                        clear hb4 hsp4
                        cases b4 with
                        | true =>
                          go_wp2_with fail
                          refine (HS4.out _).mono ?_
                          rintro e w1 ⟨rfl, h⟩
                          obtain rfl := h.symm
                          go_wp2_with fail
                          refine ⟨⟨k + 1, by omega, rfl, ?_⟩, by simp [intOf]; omega⟩
                          intro x hx
                          rw [HTK.out, List.mem_append] at hx
                          rcases hx with hx | hx
                          · exact HALL.out x hx
                          · rw [List.mem_singleton.1 hx]; exact HB4.out
                        | false =>
                          have HE : Hid (R = none) := by
                            rw [Hid, HRD.out, if_neg]
                            rintro ⟨_, ha⟩
                            have hmem : c4 ∈ D.data.toList := List.mem_of_getElem? HAT4.out
                            have := List.all_eq_true.1 ha c4 hmem
                            rw [HB4.out] at this
                            cases this
                          go_wp2_with fail
                          refine (HS4.out _).mono ?_
                          rintro e w1 ⟨rfl, h⟩
                          obtain rfl := h.symm
                          go_wp2_with fail
                          refine (fail_0 HH.out 2).mono ?_
                          rintro e w1 ⟨rfl, hK, hR⟩
                          have HK := Lib.hid hK
                          have HR2 := Lib.hid hR
                          clear hK hR
                          go_wp2_with fail
                          go_ret
                          exact ⟨0, rfl, HK.out, by rw [HE.out]; exact HR2.out⟩
                      · have hlt4I : ¬ (k : Int) < (D.size : Int) := by omega
                        have hlt4D : decide ((k : Int) < (D.size : Int)) = false := by simpa using hlt4I
                        have hall : ∀ c ∈ D.data.toList, isDig c = true := by
                          have := HALL.out
                          rwa [List.take_of_length_le (by rw [dlen]; omega)] at this
                        have hld := dlen D
                        by_cases hz4 : D.size = 0
                        · have hnil4 : D.data.toList = [] := List.length_eq_zero_iff.1 (by omega)
                          have hemp4 : (D.toList == []) = true := by rw [str_eq, decide_eq_true hnil4]
                          have HE : Hid (R = none) := by rw [Hid, HRD.out, if_neg]; rintro ⟨h1, _⟩; omega
                          clear hnil4 hld hall
                          go_wp2_with fail
                          refine (fail_0 HH.out 2).mono ?_
                          rintro e w1 ⟨rfl, hK, hR⟩
                          have HK := Lib.hid hK
                          have HR2 := Lib.hid hR
                          clear hK hR
                          go_wp2_with fail
                          go_ret
                          exact ⟨0, rfl, HK.out, by rw [HE.out]; exact HR2.out⟩
                        · have hemp4 : (D.toList == []) = false := by rw [str_eq, decide_eq_false (fun e => by rw [e] at hld; simp at hld; omega)]
                          have HE : Hid (R = some (wr (-(num D.data.toList)))) := by
                            rw [Hid, HRD.out, if_pos ⟨by omega, List.all_eq_true.2 hall⟩]
                          have HNB := Lib.hid (fun w => Refnumber_any D w (by omega) hall)
                          obtain ⟨nv, hnv⟩ : ∃ nv, num D.data.toList = nv := ⟨_, rfl⟩
                          rw [hnv] at HNB HE
                          clear hld hall hnv
                          go_wp2_with fail
                          refine (HNB.out _).mono ?_
                          rintro e w1 ⟨rfl, h⟩
                          obtain rfl := h.symm
                          go_wp2_with fail
                          go_ret
                          exact ⟨wr (-nv), by unfold wr; rfl, Kp.refl _ _, by rw [HE.out]; exact ⟨rfl, HH.out⟩⟩
                  | false =>
                    have HRE4 : Hid (R = tailV Y.data.toList) := HRE.out
                    have hne : Y.data.toList ≠ [] := by rw [hcons0]; simp
                    have hhead : Y.data.toList.headD 0 ≠ 45 := by rw [hcons0]; simpa using hneg
                    have hRD := HRE4.out
                    rw [tailV_pos hne hhead] at hRD
                    have hDs := hY
                    have HRD := Lib.hid hRD
                    clear hRD HRE4 HRE HGB0 HCO hcons0 h45 hneg hhead HD1Y hc0 hne
                    go_wp2_with fail
                    obtain ⟨D, hD⟩ : ∃ D, Y = D := ⟨_, rfl⟩
                    subst hD
                    clear hempy hgb0 h0lt h1y
                    go_loop [8] (fun i => ∃ k : Nat, k ≤ Y.size ∧ i = .int .i64 k ∧ Hid (∀ c ∈ Y.data.toList.take k, isDig c = true)) (fun i => Y.size - (intOf i).toNat)
                    case atStart => exact ⟨0, by omega, rfl, by intro c hc; simp at hc⟩
                    case round =>
                      obtain ⟨k, hk4, rfl, HALL⟩ := hrel
                      by_cases hlt4 : k < Y.size
                      · have hlt4I : (k : Int) < (Y.size : Int) := by omega
                        have hgb4 := gb_eq Y k hlt4
                        have HTK := Lib.hid (take_gb hlt4)
                        have HAT4 := Lib.hid (gb_at hlt4)
                        obtain ⟨c4, hc4⟩ : ∃ c, gb Y k = c := ⟨_, rfl⟩
                        rw [hc4] at hgb4 HTK HAT4
                        clear hc4
                        have hsp4 := fun w => RefDigit_any c4 w
                        obtain ⟨b4, hb4⟩ : ∃ b, isDig c4 = b := ⟨_, rfl⟩
                        have HB4 := Lib.hid hb4
                        rw [hb4] at hsp4
                        have HS4 := Lib.hid hsp4
                        clear hb4 hsp4
                        cases b4 with
                        | true =>
                          go_wp2_with fail
                          refine (HS4.out _).mono ?_
                          rintro e w1 ⟨rfl, h⟩
                          obtain rfl := h.symm
                          go_wp2_with fail
                          refine ⟨⟨k + 1, by omega, rfl, ?_⟩, by simp [intOf]; omega⟩
                          intro x hx
                          rw [HTK.out, List.mem_append] at hx
                          rcases hx with hx | hx
                          · exact HALL.out x hx
                          · rw [List.mem_singleton.1 hx]; exact HB4.out
                        | false =>
                          have HE : Hid (R = none) := by
                            rw [Hid, HRD.out, if_neg]
                            rintro ⟨_, ha⟩
                            have hmem : c4 ∈ Y.data.toList := List.mem_of_getElem? HAT4.out
                            have := List.all_eq_true.1 ha c4 hmem
                            rw [HB4.out] at this
                            cases this
                          go_wp2_with fail
                          refine (HS4.out _).mono ?_
                          rintro e w1 ⟨rfl, h⟩
                          obtain rfl := h.symm
                          go_wp2_with fail
                          refine (fail_0 HH.out 2).mono ?_
                          rintro e w1 ⟨rfl, hK, hR⟩
                          have HK := Lib.hid hK
                          have HR2 := Lib.hid hR
                          clear hK hR
                          go_wp2_with fail
                          go_ret
                          exact ⟨0, rfl, HK.out, by rw [HE.out]; exact HR2.out⟩
                      · have hlt4I : ¬ (k : Int) < (Y.size : Int) := by omega
                        have hlt4D : decide ((k : Int) < (Y.size : Int)) = false := by simpa using hlt4I
                        have hall : ∀ c ∈ Y.data.toList, isDig c = true := by
                          have := HALL.out
                          rwa [List.take_of_length_le (by rw [dlen]; omega)] at this
                        have hld := dlen Y
                        by_cases hz4 : Y.size = 0
                        · exact absurd hz4 h0y
                        · have hemp4 : (Y.toList == []) = false := by rw [str_eq, decide_eq_false (fun e => by rw [e] at hld; simp at hld; omega)]
                          have HE : Hid (R = some (num Y.data.toList)) := by
                            rw [Hid, HRD.out, if_pos ⟨by omega, List.all_eq_true.2 hall⟩]
                          have HNB := Lib.hid (fun w => Refnumber_any Y w (by omega) hall)
                          obtain ⟨nv, hnv⟩ : ∃ nv, num Y.data.toList = nv := ⟨_, rfl⟩
                          rw [hnv] at HNB HE
                          clear hld hall hnv
                          go_wp2_with fail
                          refine (HNB.out _).mono ?_
                          rintro e w1 ⟨rfl, h⟩
                          obtain rfl := h.symm
                          go_wp2_with fail
                          go_ret
                          exact ⟨nv, rfl, Kp.refl _ _, by rw [HE.out]; exact ⟨rfl, HH.out⟩⟩
end Go.Proofs.YthgddbdkdloobaaDoor
