import Derived.Test.YtdkkfcpnfhfjdaaN
import Derived.Test.YtdkkfcpnfhfjdaaK
namespace Go.Proofs.Ytdkkfcpnfhfjdaa
open Go.RowKit
set_option linter.unusedVariables false

def partW (k : Int) (s : Bs) : Bs := if k = 1 then noBl s else s
theorem wantL_snoc (l : List P2) (p : P2) : wantL (l ++ [p]) = wantL l ++ partW p.1 p.2 := by
  simp [wantL, partW]
theorem partW_snoc (k : Int) (s : Bs) (c : UInt8) : partW k (s ++ [c]) = partW k s ++ (if k = 1 ∧ isBl c = true then [] else [c]) := by
  unfold partW noBl
  by_cases hk : k = 1
  · rw [if_pos hk, if_pos hk, List.filter_append]
    by_cases hc : isBl c = true
    · rw [if_pos ⟨hk, hc⟩]; simp [hc]
    · rw [if_neg (fun h => hc h.2)]; simp [hc]
  · rw [if_neg hk, if_neg hk, if_neg (fun h => hk h.1)]
theorem partW_nil (k : Int) : partW k [] = [] := by unfold partW noBl; split <;> rfl
theorem allText_take {FS : List (List P2)} {i : Nat} (h : i < FS.length) : allText (FS.take (i + 1)) = allText (FS.take i) ++ textL FS[i] := by
  unfold allText
  rw [List.take_add_one, List.getElem?_eq_getElem h, List.flatMap_append]; simp
theorem allText_le (FS : List (List P2)) (i : Nat) : (allText (FS.take i)).length ≤ (allText FS).length := by
  conv => rhs; rw [← List.take_append_drop i FS]
  unfold allText
  rw [List.flatMap_append, List.length_append]; omega
theorem wantL_size {L : List RP} (h : ∀ p ∈ L, p.t.size ≤ 300) : (wantL (p2s (L.map RP.pt))).length ≤ L.length * 300 := by
  induction L with
  | nil => simp [wantL, p2s]
  | cons p L ih =>
    have h1 := ih (fun q hq => h q (by simp [hq]))
    have h2 := h p (by simp)
    have h3 : (partW p.k p.t.data.toList).length ≤ p.t.size := by
      have e : p.t.data.toList.length = p.t.size := Array.length_toList
      unfold partW noBl
      split
      · have := List.length_filter_le (fun c => !isBl c) p.t.data.toList
        omega
      · omega
    have e : wantL (p2s ((p :: L).map RP.pt)) = partW p.k p.t.data.toList ++ wantL (p2s (L.map RP.pt)) := by
      simp [wantL, p2s, partW, Pt.p2, RP.pt]
    rw [e, List.length_append, List.length_cons]
    omega
theorem take_want {L : List RP} {i : Nat} (h : i < L.length) : wantL (p2s ((L.take (i + 1)).map RP.pt)) = wantL (p2s ((L.take i).map RP.pt)) ++ partW L[i].k L[i].t.data.toList := by
  rw [List.take_add_one, List.getElem?_eq_getElem h]
  simp only [List.map_append, p2s]
  rw [show (Option.toList (some L[i])).map RP.pt = [L[i].pt] from rfl]
  exact wantL_snoc _ _
theorem one_byte {t : ByteArray} {k : Nat} (h : k < t.size) : (t.extract k (k + 1)).data.toList = [t[k]'h] ∧ (t.extract k (k + 1)).size = 1 := by
  have e : (t.extract k (k + 1)).size = 1 := by simp; omega
  refine ⟨?_, e⟩
  apply List.ext_getElem
  · simp; omega
  · intro i h1 h2
    simp at h2
    subst h2
    simp [ByteArray.data_extract]
    rfl
/-- What stands behind Split: the fields, one by one. -/
theorem got_field {w5 : World} {B : Nat} {v : Value} {vals : List Value} {FS : List (List Pt)} (hF : Flds w5 B v vals FS) (hn : ∀ F ∈ FS, F.length ≤ 90000) (hz : ∀ F ∈ FS, (textL (p2s F)).length ≤ 1000000) :
    ∃ a c, v = .slice a FS.length c ∧ ∀ i (hi : i < FS.length), ∃ b s cs, a = some ⟨b, 0, none⟩ ∧ (∀ w', Below w5.heap.size w5 w' → w'.cell? ⟨b, i, none⟩ = some (.slice s FS[i].length cs)) ∧
      ∀ w', Below w5.heap.size w5 w' → Calls Try.prog 11 #[.slice s FS[i].length cs] w' fun e w2 => e = .returned (.string ⟨(textL (p2s FS[i])).toArray⟩) ∧ Below w'.heap.size w' w2 := by
  obtain ⟨a, c, h3, h4⟩ := hF.form
  refine ⟨a, c, h3, fun i hi => ?_⟩
  obtain ⟨b, h5, h6⟩ := h4 i hi
  have hr := hF.rows i hi
  obtain ⟨s, cs, hs⟩ := hr.form
  rw [hs] at h6 hr
  refine ⟨b, s, cs, h5, fun w' hB => (hB.cell (p := ⟨b, i, none⟩) (World.block_lt_of_cell? w5 _ h6)).trans h6, fun w' hB => ?_⟩
  have hS := (hr.below hB).sl
  exact Text_any _ FS[i] w' (by have := hn _ (List.getElem_mem hi); omega) (hz _ (List.getElem_mem hi)) hS
set_option maxRecDepth 100000 in
set_option maxHeartbeats 8000000 in
theorem whole_walk (v : Value) (L : List RP) (w : World) (hR : Rw w v L) : Calls Try.prog 4 #[v] w fun e w' => e = .returned (.bool true) ∧ Below w.heap.size w w' := by
  obtain ⟨a0, c0, hv, _⟩ := hR.form
  subst hv
  have HR := Lib.hid hR
  have HBG : Hid (∀ w', Below w.heap.size w w' → Calls Try.prog 7 #[.slice a0 L.length c0] w' fun e w2 => e = .returned (.bool (bigL L)) ∧ w2 = w') := fun w' hb => Big_any _ L w' (hR.below hb)
  clear hR
  cases hbig : bigL L with
  | true =>
    rw [hbig] at HBG
    clear hbig
    go_enter Try.func4, Try.ntmps4
    go_wp2_with (go_at_call 6; refine (alive_any _).mono ?_; rintro e w1 ⟨rfl, hb1⟩; have HB1 := Lib.hid hb1; clear hb1; simp only [])
    go_wp2_with (go_at_call 7; refine (HBG.out _ HB1.out).mono ?_; rintro e w2 ⟨rfl, hw2⟩; obtain rfl := hw2.symm; simp only [])
    go_ret
    exact ⟨rfl, HB1.out⟩
  | false =>
    obtain ⟨h40, hsm⟩ := small_of hbig
    have HSM := Lib.hid hsm
    have HSL : Hid (∀ w', Below w.heap.size w w' → Sl w' (.slice a0 L.length c0) (L.map RP.pt)) := fun w' hb => (HR.out.below hb).sl hbig
    have h40I : (L.length : Int) ≤ 40 := by omega
    have HWS := Lib.hid (wantL_size (fun p hp => (hsm p hp).1))
    rw [hbig] at HBG
    clear hbig hsm
    go_enter Try.func4, Try.ntmps4
    go_wp2_with (go_at_call 6; refine (alive_any _).mono ?_; rintro e w1 ⟨rfl, hb1⟩; have HB1 := Lib.hid hb1; clear hb1; simp only [])
    go_wp2_with (go_at_call 7; refine (HBG.out _ HB1.out).mono ?_; rintro e w2 ⟨rfl, hw2⟩; obtain rfl := hw2.symm; simp only [])
    go_loopw [5, 6] (fun x i wx => ∃ (k : Nat) (wd : ByteArray), k ≤ L.length ∧ x = .string wd ∧ i = .int .i64 k ∧ wd.size ≤ k * 300 ∧ Hid (wd.data.toList = wantL (p2s ((L.take k).map RP.pt))) ∧ Hid (Below w.heap.size w wx)) (fun _ i _ => L.length - (intOf i).toNat)
    case atStart => exact ⟨0, _, by omega, rfl, rfl, by decide, rfl, HB1.out⟩
    case round =>
      obtain ⟨k, wd, hk, rfl, rfl, hwz, HWD, HB⟩ := hrel
      by_cases hlt : k < L.length
      · have hltI : (k : Int) < (L.length : Int) := by omega
        have hltd : decide ((k : Int) < (L.length : Int)) = true := decide_eq_true hltI
        have hk0 : (0 : Int) ≤ (k : Int) := by omega
        obtain ⟨b, off, e1, hb, q0, q1, q2, q3, q4, q5⟩ := (HR.out.below HB.out).at hlt
        subst e1
        have ad := add6 b off k
        have HTK := Lib.hid (take_want hlt)
        obtain ⟨hsz, hkk, _, _⟩ := HSM.out _ (List.getElem_mem hlt)
        obtain ⟨kd, hkd⟩ : ∃ kd, L[k].k = kd := ⟨_, rfl⟩
        obtain ⟨t, ht⟩ : ∃ t, L[k].t = t := ⟨_, rfl⟩
        rw [hkd] at q0 HTK hkk
        rw [ht] at q1 HTK hsz
        clear hkd ht q2 q3 q4 q5
        have htI : (t.size : Int) ≤ 300 := by omega
        go_wp2_with fail
        go_loopw [5, 7] (fun x i wx => ∃ (p : Nat) (wd2 : ByteArray), p ≤ t.size ∧ x = .string wd2 ∧ i = .int .i64 p ∧ wx = wr ∧ wd2.size ≤ k * 300 + p ∧ Hid (wd2.data.toList = wd.data.toList ++ partW kd (t.data.toList.take p))) (fun _ i _ => t.size - (intOf i).toNat)
        case atStart => exact ⟨0, wd, by omega, rfl, rfl, rfl, by omega, by rw [Hid, List.take_zero, partW_nil, List.append_nil]⟩
        case round =>
          obtain ⟨p, wd2, hp, rfl, rfl, rfl, hz2, HW2⟩ := hrel
          by_cases hpl : p < t.size
          · have hplI : (p : Int) < (t.size : Int) := by omega
            have hpld : decide ((p : Int) < (t.size : Int)) = true := decide_eq_true hplI
            have hp0 : (0 : Int) ≤ (p : Int) := by omega
            have hp1 : ((p : Int) + 1) ≤ (t.size : Int) := by omega
            have hp01 : (0 : Int) ≤ (p : Int) + 1 := by omega
            have hpp : (p : Int) ≤ (p : Int) + 1 := by omega
            have hb64 : IntKind.i64.wrap ((p : Int) + 1) = (p : Int) + 1 := IntWalk.i64_in _ (by omega)
            obtain ⟨hE1, hE2⟩ := one_byte hpl
            obtain ⟨E, hE⟩ : ∃ E, t.extract p (p + 1) = E := ⟨_, rfl⟩
            rw [hE] at hE1 hE2
            obtain ⟨c, hc⟩ : ∃ c, t[p]'hpl = c := ⟨_, rfl⟩
            rw [hc] at hE1
            have HCT : Hid (t.data.toList.take (p + 1) = t.data.toList.take p ++ [c]) := by
              rw [Hid, List.take_add_one, ← hc, List.getElem?_eq_getElem (by rw [show t.data.toList.length = t.size from Array.length_toList]; exact hpl)]; rfl
            have HPS := Lib.hid (partW_snoc kd (t.data.toList.take p) c)
            rw [← HCT.out] at HPS
            by_cases hskip : kd = 1 ∧ isBl c = true
            · obtain ⟨rfl, hib⟩ := hskip
              have HN : Hid (wd2.data.toList = wd.data.toList ++ partW 1 (t.data.toList.take (p + 1))) := by
                rw [Hid, HPS.out, if_pos ⟨rfl, hib⟩, List.append_nil]; exact HW2.out
              clear HCT HPS hE1 hE2 hE
              rcases of_blank hib with h | h | h
              · have h1 : ((c.toNat : Int) == 32) = true := by rw [h]; rfl
                clear h hib
                go_wp2_with fail
                go_roundw
                case measure => simp [intOf]; omega
                case rel => exact ⟨p + 1, wd2, by omega, rfl, by go_num, by simp, by omega, HN.out⟩
              · have h1 : ((c.toNat : Int) == 32) = false := by rw [h]; rfl
                have h2 : ((c.toNat : Int) == 9) = true := by rw [h]; rfl
                clear h hib
                go_wp2_with fail
                go_roundw
                case measure => simp [intOf]; omega
                case rel => exact ⟨p + 1, wd2, by omega, rfl, by go_num, by simp, by omega, HN.out⟩
              · have h1 : ((c.toNat : Int) == 32) = false := by rw [h]; rfl
                have h2 : ((c.toNat : Int) == 9) = false := by rw [h]; rfl
                have h3 : ((c.toNat : Int) == 10) = true := by rw [h]; rfl
                clear h hib
                go_wp2_with fail
                go_roundw
                case measure => simp [intOf]; omega
                case rel => exact ⟨p + 1, wd2, by omega, rfl, by go_num, by simp, by omega, HN.out⟩
            · have HN : Hid ((wd2 ++ E).data.toList = wd.data.toList ++ partW kd (t.data.toList.take (p + 1))) := by
                rw [Hid, HPS.out, if_neg hskip, ← List.append_assoc, ← HW2.out, ← hE1]; simp
              have hsz3 : (wd2 ++ E).size = wd2.size + 1 := by rw [ByteArray.size_append, hE2]
              have hs1 : ¬ (9223372036854775807 < wd2.size + 1) := by omega
              clear HCT HPS hE1
              rcases hkk with rfl | rfl
              · have hib : isBl c = false := by
                  cases h : isBl c with
                  | true => exact absurd ⟨rfl, h⟩ hskip
                  | false => rfl
                obtain ⟨h1, h2, h3⟩ := blank_of hib
                clear hib hskip
                go_wp2_with fail
                go_roundw
                case measure => simp [intOf]; omega
                case rel => exact ⟨p + 1, wd2 ++ E, by omega, rfl, by go_num, by simp, by omega, HN.out⟩
              · clear hskip
                go_wp2_with fail
                go_roundw
                case measure => simp [intOf]; omega
                case rel => exact ⟨p + 1, wd2 ++ E, by omega, rfl, by go_num, by simp, by omega, HN.out⟩
          · obtain rfl : p = t.size := by omega
            have hpld : decide ((t.size : Int) < (t.size : Int)) = false := decide_eq_false (by omega)
            have HN : Hid (wd2.data.toList = wantL (p2s ((L.take (k + 1)).map RP.pt))) := by
              rw [Hid, HTK.out, ← HWD.out, HW2.out, List.take_of_length_le (by rw [show t.data.toList.length = t.size from Array.length_toList]; exact Nat.le_refl _)]
            go_wp2_with fail
            go_roundw
            case measure => simp [intOf]; omega
            case rel => exact ⟨k + 1, wd2, by omega, rfl, by go_num, by omega, HN.out, HB.out⟩
      · obtain rfl : k = L.length := by omega
        have hltd : decide ((L.length : Int) < (L.length : Int)) = false := decide_eq_false (by omega)
        rw [List.take_length] at HWD
        have hlm : (L.map RP.pt).length = L.length := List.length_map _
        have hsp := Split_any (.slice a0 L.length c0) (L.map RP.pt) wr (by omega) (by
          intro q hq
          obtain ⟨r, hr, rfl⟩ := List.mem_map.1 hq
          obtain ⟨h1, h2, _⟩ := HSM.out r hr
          exact ⟨by show r.t.size ≤ 2000; omega, by show -9223372036854775808 ≤ r.k ∧ r.k ≤ 9223372036854775807; omega⟩) (HSL.out wr HB.out)
        have HSP := Lib.hid hsp
        clear hsp
        go_wp2_with (go_at_call 9; refine HSP.out.mono ?_)
        rintro e w5 ⟨v, vals, FS, rfl, hF, hp, hfl, hn, hb⟩
        have hall : allText (p3s FS) = wd.data.toList := by rw [hp, splitL_text, ← HWD.out]
        have hws := HWS.out
        rw [← HWD.out] at hws
        have hfull : ∀ i (hi : i < FS.length), FS[i].length ≠ 0 := by
          intro i hi h0
          have h1 : (p3s FS)[i]'(by rw [p3s_len]; exact hi) = p2s FS[i] := by simp [p3s]
          have h2 : p2s FS[i] = [] := by unfold p2s; rw [List.length_eq_zero_iff.1 h0]; rfl
          have h3 := full_splitL (p2s (L.map RP.pt))
          rw [← hp] at h3
          exact h3 _ (List.getElem_mem (by rw [p3s_len]; exact hi)) (h1.trans h2)
        have htk : ∀ i (hi : i < FS.length), allText ((p3s FS).take (i + 1)) = allText ((p3s FS).take i) ++ textL (p2s FS[i]) := by
          intro i hi
          rw [allText_take (by rw [p3s_len]; exact hi)]; simp [p3s]
        have hle : ∀ i, (allText ((p3s FS).take i)).length ≤ 12000 := by
          intro i
          have := allText_le (p3s FS) i
          rw [hall] at this
          have h4 : L.length * 300 ≤ 12000 := by omega
          omega
        obtain ⟨ag, cg, rfl, hG⟩ := got_field hF hn (by
          intro F hF'
          obtain ⟨i, hi, rfl⟩ := List.mem_iff_getElem.1 hF'
          have := hle (i + 1)
          rw [htk i hi, List.length_append] at this
          omega)
        have HG := Lib.hid hG
        have HFULL := Lib.hid hfull
        have HTK2 := Lib.hid htk
        have HLE := Lib.hid hle
        have HALL := Lib.hid hall
        have HB5 := Lib.hid (HB.out.trans (hb.mono HB.out.size))
        clear hG hfull htk hle hall hF hp hn hb hws
        have hfI : (FS.length : Int) ≤ 90000 := by omega
        simp only []
        go_wp2_with fail
        go_loopw [10, 11] (fun x i wx => ∃ (k : Nat) (gd : ByteArray), k ≤ FS.length ∧ x = .string gd ∧ i = .int .i64 k ∧ gd.size ≤ 12000 ∧ Hid (gd.data.toList = allText ((p3s FS).take k)) ∧ Hid (Below w5.heap.size w5 wx)) (fun _ i _ => FS.length - (intOf i).toNat)
        case atStart => exact ⟨0, _, by omega, rfl, rfl, by decide, rfl, Below.refl _ _⟩
        case round =>
          obtain ⟨k, gd, hk, rfl, rfl, hgz, HGD, HB⟩ := hrel
          by_cases hlt : k < FS.length
          · have hltI : (k : Int) < (FS.length : Int) := by omega
            have hltd2 : decide ((k : Int) < (FS.length : Int)) = true := decide_eq_true hltI
            have hk0 : (0 : Int) ≤ (k : Int) := by omega
            obtain ⟨bg, s, cs, e1, e2, e3⟩ := HG.out k hlt
            subst e1
            have hlen0 := HFULL.out k hlt
            have hle1 := HLE.out (k + 1)
            have HTT := Lib.hid (HTK2.out k hlt)
            rw [HTT.out, List.length_append, ← HGD.out] at hle1
            obtain ⟨T, hT⟩ : ∃ T : ByteArray, (⟨(textL (p2s FS[k])).toArray⟩ : ByteArray) = T := ⟨_, rfl⟩
            have hTl : textL (p2s FS[k]) = T.data.toList := by rw [← hT]
            have hgl : gd.data.toList.length = gd.size := Array.length_toList
            have hTs : T.data.toList.length = T.size := Array.length_toList
            rw [hTl, hgl, hTs] at hle1
            rw [hT] at e3
            rw [hTl] at HTT
            obtain ⟨n, hn⟩ : ∃ n, FS[k].length = n := ⟨_, rfl⟩
            rw [hn] at hlen0 e2 e3
            have hn0 : ((n : Int) == 0) = false := by simp; omega
            have hs1 : ¬ (9223372036854775807 < gd.size + T.size) := by omega
            have hsz : (gd ++ T).size ≤ 12000 := by rw [ByteArray.size_append]; omega
            have HN : Hid ((gd ++ T).data.toList = allText ((p3s FS).take (k + 1))) := by
              rw [Hid, HTT.out, ← HGD.out]; simp
            have HC1 := Lib.hid e2
            have HC2 := Lib.hid e3
            have ad := addn bg 0 k
            rw [Nat.zero_add] at ad
            have hc1 := HC1.out _ HB.out
            clear e2 e3 hT hTl hn HTT
            go_wp2_with fail
            refine (HC2.out _ HB.out).mono ?_
            rintro e wz ⟨rfl, hbz⟩
            have HBZ := Lib.hid (HB.out.trans (hbz.mono HB.out.size))
            clear hbz
            simp only []
            go_wp2_with fail
            go_roundw
            case measure => simp [intOf]; omega
            case rel => exact ⟨k + 1, gd ++ T, by omega, rfl, by go_num, hsz, HN.out, HBZ.out⟩
          · obtain rfl : k = FS.length := by omega
            have hltd2 : decide ((FS.length : Int) < (FS.length : Int)) = false := decide_eq_false (by omega)
            have HEQ : gd = wd := by
              apply ByteArray.ext
              apply Array.toList_inj.1
              rw [HGD.out, List.take_of_length_le (by rw [p3s_len]; exact Nat.le_refl _), HALL.out]
            subst HEQ
            have hself : (gd.toList == gd.toList) = true := by simp
            go_wp2_with fail
            go_ret
            exact ⟨rfl, HB5.out.trans (HB.out.mono HB5.out.size)⟩
end Go.Proofs.Ytdkkfcpnfhfjdaa
