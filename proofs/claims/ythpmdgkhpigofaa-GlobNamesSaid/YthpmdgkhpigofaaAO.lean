import Derived.Test.YthpmdgkhpigofaaAN
import Derived.Test.YthpmdgkhpigofaaW
namespace Go.Proofs.Ythpmdgkhpigofaa
open Go.RowKit Go.Sort Go.Lib

theorem gb_list (s : ByteArray) (i : Nat) : gb s i = s.data.toList.getD i 0 := rfl
theorem sz_list (s : ByteArray) : s.size = s.data.toList.length := rfl
theorem bc (a b : UInt8) : (a == b) = (b == a) := by rw [Bool.eq_iff_iff, beq_iff_eq, beq_iff_eq]; exact eq_comm
theorem pre1 (s : ByteArray) : hasPrefix s.data.toList [46] = (decide (0 < s.size) && gb s 0 == 46) := by
  rw [gb_list, sz_list]
  cases s.data.toList with
  | nil => rfl
  | cons a l =>
    rw [hasPrefix, List.isPrefixOf, bc 46 a]; simp
theorem pre2 (s : ByteArray) : hasPrefix s.data.toList [92, 46] = (decide (1 < s.size) && gb s 0 == 92 && gb s 1 == 46) := by
  rw [gb_list, gb_list, sz_list]
  match s.data.toList with
  | [] => rfl
  | [a] => simp [hasPrefix, List.isPrefixOf]
  | a :: b :: l =>
    rw [hasPrefix, List.isPrefixOf, List.isPrefixOf, bc 92 a, bc 46 b]; simp
theorem foldS_len' (M : List Bs) : ∀ l : List Bs, (M.foldl putS l).length ≤ l.length + M.length := by
  induction M with
  | nil => intro l; simp
  | cons a M ih =>
    intro l
    have h1 := ih (putS l a)
    have h2 := putS_len l a
    simp only [List.foldl_cons, List.length_cons]
    omega
theorem foldS_len (M : List Bs) : (M.foldl putS []).length ≤ M.length := by have := foldS_len' M []; simpa using this
theorem u8b {x : UInt8} {n : Nat} (hn : n < 256) (h : ¬ x = UInt8.ofNat n) : ((x.toNat : Int) == (n : Int)) = false := by
  rw [beq_eq_false_iff_ne]
  exact fun e => h ((u8_eq hn).1 e)

set_option maxRecDepth 100000 in
set_option maxHeartbeats 16000000 in
theorem RefNames_some (p : ByteArray) (g off c : Nat) (L : List Bs) (w : World) (hp : p.size ≤ 100000) (hL : L.length ≤ 100000) (hS : Hid (∀ x ∈ L, x.length ≤ 100000)) (hg : g < w.heap.size)
    (hcell : Hid (∀ i (h : i < L.length), w.cell? ⟨g, off + i, none⟩ = some (encStr L[i]))) :
    Calls Try.prog 15 #[.string p, .slice (some ⟨g, off, none⟩) L.length c] w fun e w' => ∃ v', e = .returned v' ∧ SlS w' v' ((L.filter (pick p)).foldl putS []) ∧ Below w.heap.size w w' := by
  go_enter Try.func15, Try.ntmps15
  have e0 : True := trivial
  have e1 : True := trivial
  have e2 : True := trivial
  by_cases hp0 : 0 < p.size
  · have hp0I : (0 : Int) < (p.size : Int) := by omega
    have hg0 := gb_eq p 0 hp0
    by_cases hc0 : gb p 0 = 46
    · have hb0 : (((gb p 0).toNat : Int) == 46) = true := by rw [hc0]; rfl
      have HD : Hid (dots p = true) := by unfold Hid dots; rw [pre1]; simp [hp0, hc0]
      clear hc0
      generalize gb p 0 = z at *
      go_wp2_with fail
      go_loopw [6, 7] (fun va a wr => ∃ (k : Nat) (vn : Value), a = .int .i64 k ∧ vn = va ∧ k ≤ L.length ∧ SlS wr vn (((L.take k).filter (pick p)).foldl putS []) ∧ Below w.heap.size w wr) (fun _ a _ => L.length - (intOf a).toNat)
      case atStart => exact ⟨0, _, rfl, rfl, by omega, .inl ⟨rfl, rfl⟩, Below.refl _ _⟩
      case round =>
        obtain ⟨k, vn, rfl, rfl, hk, hsl, hBw⟩ := hrel
        have HBw := Lib.hid hBw
        clear hBw
        by_cases hlt : k < L.length
        · have hltI : (k : Int) < (L.length : Int) := by omega
          have h0 : (0 : Int) ≤ (k : Int) := by omega
          have hck : wr.cell? ⟨g, off + k, none⟩ = some (encStr L[k]) := by
            rw [HBw.out.cell (p := ⟨g, off + k, none⟩) hg]
            exact hcell.out k hlt
          have hadd : (⟨g, off, none⟩ : Addr).add k = ⟨g, off + k, none⟩ := by unfold Addr.add; by_cases h : k = 0 <;> simp [h]
          have HX0 : Hid (L[k].length ≤ 100000) := hS.out _ (List.getElem_mem hlt)
          obtain ⟨x, hx⟩ : ∃ x, L[k] = x := ⟨_, rfl⟩
          rw [hx] at hck HX0
          obtain ⟨s, hs⟩ : ∃ s : ByteArray, ⟨x.toArray⟩ = s := ⟨_, rfl⟩
          rw [enc_bs, hs] at hck
          have HSZ : Hid (s.size ≤ 100000) := by rw [← hs]; exact HX0.out
          have HXL := Lib.hid hx
          have HSX := Lib.hid hs
          have HXS : Hid (x = s.data.toList) := by rw [← hs]; rfl
          obtain ⟨F, hF⟩ : ∃ F, matchB p s = F := ⟨_, rfl⟩
          have HF := Lib.hid hF
          have HN : Hid ((((L.take k).filter (pick p)).foldl putS []).length ≤ L.length) := Nat.le_trans (foldS_len _) (filt_len p L k)
          obtain ⟨M, hM⟩ : ∃ M, ((L.take k).filter (pick p)).foldl putS [] = M := ⟨_, rfl⟩
          rw [hM] at hsl HN
          have HM := Lib.hid hM
          obtain ⟨a', c', rfl⟩ := hsl.len
          have HS := Lib.hid hsl
          clear hx hs hF HX0 hM hsl
          by_cases hs0 : 0 < s.size
          · have hs0I : (0 : Int) < (s.size : Int) := by omega
            have hg0 := gb_eq s 0 hs0
            by_cases hc0 : gb s 0 = 46
            · have hb0 : (((gb s 0).toNat : Int) == 46) = true := by rw [hc0]; rfl
              have HQ : Hid (hasPrefix x [46] = true) := by unfold Hid; rw [HXS.out, pre1]; simp [hs0, hc0]
              clear hc0
              generalize gb s 0 = y at *
              go_wp2_with fail
              refine (RefMatch_any p s wr hp HSZ.out).mono ?_
              rintro e w2 ⟨rfl, hB2⟩
              rw [HF.out]
              have HB2 := Lib.hid (HBw.out.trans (hB2.mono HBw.out.size))
              have HS2 := Lib.hid (HS.out.below hB2)
              clear hB2
              have hck2 : w2.cell? ⟨g, off + k, none⟩ = some (.string s) := by
                rw [HB2.out.cell (p := ⟨g, off + k, none⟩) hg, ← HBw.out.cell (p := ⟨g, off + k, none⟩) hg]
                exact hck
              cases F
              · have HR : Hid (SlS w2 (.slice a' M.length c') (((L.take (k + 1)).filter (pick p)).foldl putS [])) := by
                  rw [take_filter_no hlt HXL.out (by unfold pick; rw [HSX.out, HF.out, Bool.and_false]), HM.out]
                  exact HS2.out
                go_wp2_with fail
                exact ⟨⟨k + 1, _, by go_num, rfl, by omega, HR.out, HB2.out⟩, by simp [intOf]; omega⟩
              · have hP := PutString_any (.slice a' M.length c') M x w2 HS2.out (Nat.le_trans HN.out hL)
                rw [enc_bs, HSX.out] at hP
                have HPK : Hid ((L.take (k + 1)).filter (pick p) = (L.take k).filter (pick p) ++ [x]) := take_filter_yes hlt HXL.out (by unfold pick; rw [HSX.out, HF.out]; rw [HD.out]; rfl)
                go_wp2_with fail
                refine hP.mono ?_
                rintro e w3 ⟨v3, rfl, hs3, hB3⟩
                have HR : Hid (SlS w3 v3 (((L.take (k + 1)).filter (pick p)).foldl putS [])) := by
                  rw [Hid, HPK.out, List.foldl_append, HM.out]
                  exact hs3
                have HB3 := Lib.hid (HB2.out.trans (hB3.mono HB2.out.size))
                clear hs3 hB3 hP
                obtain ⟨a3, c3, rfl⟩ := HR.out.len
                go_wp2_with fail
                exact ⟨⟨k + 1, _, by go_num, rfl, by omega, HR.out, HB3.out⟩, by simp [intOf]; omega⟩
            · have hb0 : (((gb s 0).toNat : Int) == 46) = false := u8b (n := 46) (by decide) hc0
              have HQ : Hid (hasPrefix x [46] = false) := by unfold Hid; rw [HXS.out, pre1]; simp [hc0]
              clear hc0
              generalize gb s 0 = y at *
              go_wp2_with fail
              refine (RefMatch_any p s wr hp HSZ.out).mono ?_
              rintro e w2 ⟨rfl, hB2⟩
              rw [HF.out]
              have HB2 := Lib.hid (HBw.out.trans (hB2.mono HBw.out.size))
              have HS2 := Lib.hid (HS.out.below hB2)
              clear hB2
              have hck2 : w2.cell? ⟨g, off + k, none⟩ = some (.string s) := by
                rw [HB2.out.cell (p := ⟨g, off + k, none⟩) hg, ← HBw.out.cell (p := ⟨g, off + k, none⟩) hg]
                exact hck
              cases F
              · have HR : Hid (SlS w2 (.slice a' M.length c') (((L.take (k + 1)).filter (pick p)).foldl putS [])) := by
                  rw [take_filter_no hlt HXL.out (by unfold pick; rw [HSX.out, HF.out, Bool.and_false]), HM.out]
                  exact HS2.out
                go_wp2_with fail
                exact ⟨⟨k + 1, _, by go_num, rfl, by omega, HR.out, HB2.out⟩, by simp [intOf]; omega⟩
              · have hP := PutString_any (.slice a' M.length c') M x w2 HS2.out (Nat.le_trans HN.out hL)
                rw [enc_bs, HSX.out] at hP
                have HPK : Hid ((L.take (k + 1)).filter (pick p) = (L.take k).filter (pick p) ++ [x]) := take_filter_yes hlt HXL.out (by unfold pick; rw [HSX.out, HF.out]; rw [HD.out]; rfl)
                go_wp2_with fail
                refine hP.mono ?_
                rintro e w3 ⟨v3, rfl, hs3, hB3⟩
                have HR : Hid (SlS w3 v3 (((L.take (k + 1)).filter (pick p)).foldl putS [])) := by
                  rw [Hid, HPK.out, List.foldl_append, HM.out]
                  exact hs3
                have HB3 := Lib.hid (HB2.out.trans (hB3.mono HB2.out.size))
                clear hs3 hB3 hP
                obtain ⟨a3, c3, rfl⟩ := HR.out.len
                go_wp2_with fail
                exact ⟨⟨k + 1, _, by go_num, rfl, by omega, HR.out, HB3.out⟩, by simp [intOf]; omega⟩
          · have hs0I : ¬ (0 : Int) < (s.size : Int) := by omega
            have HQ : Hid (hasPrefix x [46] = false) := by unfold Hid; rw [HXS.out, pre1]; simp [hs0]
            go_wp2_with fail
            refine (RefMatch_any p s wr hp HSZ.out).mono ?_
            rintro e w2 ⟨rfl, hB2⟩
            rw [HF.out]
            have HB2 := Lib.hid (HBw.out.trans (hB2.mono HBw.out.size))
            have HS2 := Lib.hid (HS.out.below hB2)
            clear hB2
            have hck2 : w2.cell? ⟨g, off + k, none⟩ = some (.string s) := by
              rw [HB2.out.cell (p := ⟨g, off + k, none⟩) hg, ← HBw.out.cell (p := ⟨g, off + k, none⟩) hg]
              exact hck
            cases F
            · have HR : Hid (SlS w2 (.slice a' M.length c') (((L.take (k + 1)).filter (pick p)).foldl putS [])) := by
                rw [take_filter_no hlt HXL.out (by unfold pick; rw [HSX.out, HF.out, Bool.and_false]), HM.out]
                exact HS2.out
              go_wp2_with fail
              exact ⟨⟨k + 1, _, by go_num, rfl, by omega, HR.out, HB2.out⟩, by simp [intOf]; omega⟩
            · have hP := PutString_any (.slice a' M.length c') M x w2 HS2.out (Nat.le_trans HN.out hL)
              rw [enc_bs, HSX.out] at hP
              have HPK : Hid ((L.take (k + 1)).filter (pick p) = (L.take k).filter (pick p) ++ [x]) := take_filter_yes hlt HXL.out (by unfold pick; rw [HSX.out, HF.out]; rw [HD.out]; rfl)
              go_wp2_with fail
              refine hP.mono ?_
              rintro e w3 ⟨v3, rfl, hs3, hB3⟩
              have HR : Hid (SlS w3 v3 (((L.take (k + 1)).filter (pick p)).foldl putS [])) := by
                rw [Hid, HPK.out, List.foldl_append, HM.out]
                exact hs3
              have HB3 := Lib.hid (HB2.out.trans (hB3.mono HB2.out.size))
              clear hs3 hB3 hP
              obtain ⟨a3, c3, rfl⟩ := HR.out.len
              go_wp2_with fail
              exact ⟨⟨k + 1, _, by go_num, rfl, by omega, HR.out, HB3.out⟩, by simp [intOf]; omega⟩
        · have hge : ¬ (k : Int) < (L.length : Int) := by omega
          rw [List.take_of_length_le (by omega)] at hsl
          obtain ⟨a', c', rfl⟩ := hsl.len
          have HS := Lib.hid hsl
          clear hsl
          go_wp2_with fail
          go_ret
          exact ⟨_, rfl, HS.out, HBw.out⟩
    · have hb0 : (((gb p 0).toNat : Int) == 46) = false := u8b (n := 46) (by decide) hc0
      by_cases hp1 : 1 < p.size
      · have hp1I : (1 : Int) < (p.size : Int) := by omega
        have hg1 := gb_eq p 1 hp1
        by_cases hc1 : gb p 0 = 92
        · have hb1 : (((gb p 0).toNat : Int) == 92) = true := by rw [hc1]; rfl
          by_cases hc2 : gb p 1 = 46
          · have hb2 : (((gb p 1).toNat : Int) == 46) = true := by rw [hc2]; rfl
            have HD : Hid (dots p = true) := by unfold Hid dots; rw [pre1, pre2]; simp [hp1, hc1, hc2]
            clear hc0 hc1 hc2
            generalize gb p 0 = z at *
            generalize gb p 1 = z1 at *
            go_wp2_with fail
            go_loopw [6, 7] (fun va a wr => ∃ (k : Nat) (vn : Value), a = .int .i64 k ∧ vn = va ∧ k ≤ L.length ∧ SlS wr vn (((L.take k).filter (pick p)).foldl putS []) ∧ Below w.heap.size w wr) (fun _ a _ => L.length - (intOf a).toNat)
            case atStart => exact ⟨0, _, rfl, rfl, by omega, .inl ⟨rfl, rfl⟩, Below.refl _ _⟩
            case round =>
              obtain ⟨k, vn, rfl, rfl, hk, hsl, hBw⟩ := hrel
              have HBw := Lib.hid hBw
              clear hBw
              by_cases hlt : k < L.length
              · have hltI : (k : Int) < (L.length : Int) := by omega
                have h0 : (0 : Int) ≤ (k : Int) := by omega
                have hck : wr.cell? ⟨g, off + k, none⟩ = some (encStr L[k]) := by
                  rw [HBw.out.cell (p := ⟨g, off + k, none⟩) hg]
                  exact hcell.out k hlt
                have hadd : (⟨g, off, none⟩ : Addr).add k = ⟨g, off + k, none⟩ := by unfold Addr.add; by_cases h : k = 0 <;> simp [h]
                have HX0 : Hid (L[k].length ≤ 100000) := hS.out _ (List.getElem_mem hlt)
                obtain ⟨x, hx⟩ : ∃ x, L[k] = x := ⟨_, rfl⟩
                rw [hx] at hck HX0
                obtain ⟨s, hs⟩ : ∃ s : ByteArray, ⟨x.toArray⟩ = s := ⟨_, rfl⟩
                rw [enc_bs, hs] at hck
                have HSZ : Hid (s.size ≤ 100000) := by rw [← hs]; exact HX0.out
                have HXL := Lib.hid hx
                have HSX := Lib.hid hs
                have HXS : Hid (x = s.data.toList) := by rw [← hs]; rfl
                obtain ⟨F, hF⟩ : ∃ F, matchB p s = F := ⟨_, rfl⟩
                have HF := Lib.hid hF
                have HN : Hid ((((L.take k).filter (pick p)).foldl putS []).length ≤ L.length) := Nat.le_trans (foldS_len _) (filt_len p L k)
                obtain ⟨M, hM⟩ : ∃ M, ((L.take k).filter (pick p)).foldl putS [] = M := ⟨_, rfl⟩
                rw [hM] at hsl HN
                have HM := Lib.hid hM
                obtain ⟨a', c', rfl⟩ := hsl.len
                have HS := Lib.hid hsl
                clear hx hs hF HX0 hM hsl
                by_cases hs0 : 0 < s.size
                · have hs0I : (0 : Int) < (s.size : Int) := by omega
                  have hg0 := gb_eq s 0 hs0
                  by_cases hc0 : gb s 0 = 46
                  · have hb0 : (((gb s 0).toNat : Int) == 46) = true := by rw [hc0]; rfl
                    have HQ : Hid (hasPrefix x [46] = true) := by unfold Hid; rw [HXS.out, pre1]; simp [hs0, hc0]
                    clear hc0
                    generalize gb s 0 = y at *
                    go_wp2_with fail
                    refine (RefMatch_any p s wr hp HSZ.out).mono ?_
                    rintro e w2 ⟨rfl, hB2⟩
                    rw [HF.out]
                    have HB2 := Lib.hid (HBw.out.trans (hB2.mono HBw.out.size))
                    have HS2 := Lib.hid (HS.out.below hB2)
                    clear hB2
                    have hck2 : w2.cell? ⟨g, off + k, none⟩ = some (.string s) := by
                      rw [HB2.out.cell (p := ⟨g, off + k, none⟩) hg, ← HBw.out.cell (p := ⟨g, off + k, none⟩) hg]
                      exact hck
                    cases F
                    · have HR : Hid (SlS w2 (.slice a' M.length c') (((L.take (k + 1)).filter (pick p)).foldl putS [])) := by
                        rw [take_filter_no hlt HXL.out (by unfold pick; rw [HSX.out, HF.out, Bool.and_false]), HM.out]
                        exact HS2.out
                      go_wp2_with fail
                      exact ⟨⟨k + 1, _, by go_num, rfl, by omega, HR.out, HB2.out⟩, by simp [intOf]; omega⟩
                    · have hP := PutString_any (.slice a' M.length c') M x w2 HS2.out (Nat.le_trans HN.out hL)
                      rw [enc_bs, HSX.out] at hP
                      have HPK : Hid ((L.take (k + 1)).filter (pick p) = (L.take k).filter (pick p) ++ [x]) := take_filter_yes hlt HXL.out (by unfold pick; rw [HSX.out, HF.out]; rw [HD.out]; rfl)
                      go_wp2_with fail
                      refine hP.mono ?_
                      rintro e w3 ⟨v3, rfl, hs3, hB3⟩
                      have HR : Hid (SlS w3 v3 (((L.take (k + 1)).filter (pick p)).foldl putS [])) := by
                        rw [Hid, HPK.out, List.foldl_append, HM.out]
                        exact hs3
                      have HB3 := Lib.hid (HB2.out.trans (hB3.mono HB2.out.size))
                      clear hs3 hB3 hP
                      obtain ⟨a3, c3, rfl⟩ := HR.out.len
                      go_wp2_with fail
                      exact ⟨⟨k + 1, _, by go_num, rfl, by omega, HR.out, HB3.out⟩, by simp [intOf]; omega⟩
                  · have hb0 : (((gb s 0).toNat : Int) == 46) = false := u8b (n := 46) (by decide) hc0
                    have HQ : Hid (hasPrefix x [46] = false) := by unfold Hid; rw [HXS.out, pre1]; simp [hc0]
                    clear hc0
                    generalize gb s 0 = y at *
                    go_wp2_with fail
                    refine (RefMatch_any p s wr hp HSZ.out).mono ?_
                    rintro e w2 ⟨rfl, hB2⟩
                    rw [HF.out]
                    have HB2 := Lib.hid (HBw.out.trans (hB2.mono HBw.out.size))
                    have HS2 := Lib.hid (HS.out.below hB2)
                    clear hB2
                    have hck2 : w2.cell? ⟨g, off + k, none⟩ = some (.string s) := by
                      rw [HB2.out.cell (p := ⟨g, off + k, none⟩) hg, ← HBw.out.cell (p := ⟨g, off + k, none⟩) hg]
                      exact hck
                    cases F
                    · have HR : Hid (SlS w2 (.slice a' M.length c') (((L.take (k + 1)).filter (pick p)).foldl putS [])) := by
                        rw [take_filter_no hlt HXL.out (by unfold pick; rw [HSX.out, HF.out, Bool.and_false]), HM.out]
                        exact HS2.out
                      go_wp2_with fail
                      exact ⟨⟨k + 1, _, by go_num, rfl, by omega, HR.out, HB2.out⟩, by simp [intOf]; omega⟩
                    · have hP := PutString_any (.slice a' M.length c') M x w2 HS2.out (Nat.le_trans HN.out hL)
                      rw [enc_bs, HSX.out] at hP
                      have HPK : Hid ((L.take (k + 1)).filter (pick p) = (L.take k).filter (pick p) ++ [x]) := take_filter_yes hlt HXL.out (by unfold pick; rw [HSX.out, HF.out]; rw [HD.out]; rfl)
                      go_wp2_with fail
                      refine hP.mono ?_
                      rintro e w3 ⟨v3, rfl, hs3, hB3⟩
                      have HR : Hid (SlS w3 v3 (((L.take (k + 1)).filter (pick p)).foldl putS [])) := by
                        rw [Hid, HPK.out, List.foldl_append, HM.out]
                        exact hs3
                      have HB3 := Lib.hid (HB2.out.trans (hB3.mono HB2.out.size))
                      clear hs3 hB3 hP
                      obtain ⟨a3, c3, rfl⟩ := HR.out.len
                      go_wp2_with fail
                      exact ⟨⟨k + 1, _, by go_num, rfl, by omega, HR.out, HB3.out⟩, by simp [intOf]; omega⟩
                · have hs0I : ¬ (0 : Int) < (s.size : Int) := by omega
                  have HQ : Hid (hasPrefix x [46] = false) := by unfold Hid; rw [HXS.out, pre1]; simp [hs0]
                  go_wp2_with fail
                  refine (RefMatch_any p s wr hp HSZ.out).mono ?_
                  rintro e w2 ⟨rfl, hB2⟩
                  rw [HF.out]
                  have HB2 := Lib.hid (HBw.out.trans (hB2.mono HBw.out.size))
                  have HS2 := Lib.hid (HS.out.below hB2)
                  clear hB2
                  have hck2 : w2.cell? ⟨g, off + k, none⟩ = some (.string s) := by
                    rw [HB2.out.cell (p := ⟨g, off + k, none⟩) hg, ← HBw.out.cell (p := ⟨g, off + k, none⟩) hg]
                    exact hck
                  cases F
                  · have HR : Hid (SlS w2 (.slice a' M.length c') (((L.take (k + 1)).filter (pick p)).foldl putS [])) := by
                      rw [take_filter_no hlt HXL.out (by unfold pick; rw [HSX.out, HF.out, Bool.and_false]), HM.out]
                      exact HS2.out
                    go_wp2_with fail
                    exact ⟨⟨k + 1, _, by go_num, rfl, by omega, HR.out, HB2.out⟩, by simp [intOf]; omega⟩
                  · have hP := PutString_any (.slice a' M.length c') M x w2 HS2.out (Nat.le_trans HN.out hL)
                    rw [enc_bs, HSX.out] at hP
                    have HPK : Hid ((L.take (k + 1)).filter (pick p) = (L.take k).filter (pick p) ++ [x]) := take_filter_yes hlt HXL.out (by unfold pick; rw [HSX.out, HF.out]; rw [HD.out]; rfl)
                    go_wp2_with fail
                    refine hP.mono ?_
                    rintro e w3 ⟨v3, rfl, hs3, hB3⟩
                    have HR : Hid (SlS w3 v3 (((L.take (k + 1)).filter (pick p)).foldl putS [])) := by
                      rw [Hid, HPK.out, List.foldl_append, HM.out]
                      exact hs3
                    have HB3 := Lib.hid (HB2.out.trans (hB3.mono HB2.out.size))
                    clear hs3 hB3 hP
                    obtain ⟨a3, c3, rfl⟩ := HR.out.len
                    go_wp2_with fail
                    exact ⟨⟨k + 1, _, by go_num, rfl, by omega, HR.out, HB3.out⟩, by simp [intOf]; omega⟩
              · have hge : ¬ (k : Int) < (L.length : Int) := by omega
                rw [List.take_of_length_le (by omega)] at hsl
                obtain ⟨a', c', rfl⟩ := hsl.len
                have HS := Lib.hid hsl
                clear hsl
                go_wp2_with fail
                go_ret
                exact ⟨_, rfl, HS.out, HBw.out⟩
          · have hb2 : (((gb p 1).toNat : Int) == 46) = false := u8b (n := 46) (by decide) hc2
            have HD : Hid (dots p = false) := by unfold Hid dots; rw [pre1, pre2]; simp [hc0, hc2]
            clear hc0 hc1 hc2
            generalize gb p 0 = z at *
            generalize gb p 1 = z1 at *
            go_wp2_with fail
            go_loopw [6, 7] (fun va a wr => ∃ (k : Nat) (vn : Value), a = .int .i64 k ∧ vn = va ∧ k ≤ L.length ∧ SlS wr vn (((L.take k).filter (pick p)).foldl putS []) ∧ Below w.heap.size w wr) (fun _ a _ => L.length - (intOf a).toNat)
            case atStart => exact ⟨0, _, rfl, rfl, by omega, .inl ⟨rfl, rfl⟩, Below.refl _ _⟩
            case round =>
              obtain ⟨k, vn, rfl, rfl, hk, hsl, hBw⟩ := hrel
              have HBw := Lib.hid hBw
              clear hBw
              by_cases hlt : k < L.length
              · have hltI : (k : Int) < (L.length : Int) := by omega
                have h0 : (0 : Int) ≤ (k : Int) := by omega
                have hck : wr.cell? ⟨g, off + k, none⟩ = some (encStr L[k]) := by
                  rw [HBw.out.cell (p := ⟨g, off + k, none⟩) hg]
                  exact hcell.out k hlt
                have hadd : (⟨g, off, none⟩ : Addr).add k = ⟨g, off + k, none⟩ := by unfold Addr.add; by_cases h : k = 0 <;> simp [h]
                have HX0 : Hid (L[k].length ≤ 100000) := hS.out _ (List.getElem_mem hlt)
                obtain ⟨x, hx⟩ : ∃ x, L[k] = x := ⟨_, rfl⟩
                rw [hx] at hck HX0
                obtain ⟨s, hs⟩ : ∃ s : ByteArray, ⟨x.toArray⟩ = s := ⟨_, rfl⟩
                rw [enc_bs, hs] at hck
                have HSZ : Hid (s.size ≤ 100000) := by rw [← hs]; exact HX0.out
                have HXL := Lib.hid hx
                have HSX := Lib.hid hs
                have HXS : Hid (x = s.data.toList) := by rw [← hs]; rfl
                obtain ⟨F, hF⟩ : ∃ F, matchB p s = F := ⟨_, rfl⟩
                have HF := Lib.hid hF
                have HN : Hid ((((L.take k).filter (pick p)).foldl putS []).length ≤ L.length) := Nat.le_trans (foldS_len _) (filt_len p L k)
                obtain ⟨M, hM⟩ : ∃ M, ((L.take k).filter (pick p)).foldl putS [] = M := ⟨_, rfl⟩
                rw [hM] at hsl HN
                have HM := Lib.hid hM
                obtain ⟨a', c', rfl⟩ := hsl.len
                have HS := Lib.hid hsl
                clear hx hs hF HX0 hM hsl
                by_cases hs0 : 0 < s.size
                · have hs0I : (0 : Int) < (s.size : Int) := by omega
                  have hg0 := gb_eq s 0 hs0
                  by_cases hc0 : gb s 0 = 46
                  · have hb0 : (((gb s 0).toNat : Int) == 46) = true := by rw [hc0]; rfl
                    have HQ : Hid (hasPrefix x [46] = true) := by unfold Hid; rw [HXS.out, pre1]; simp [hs0, hc0]
                    clear hc0
                    generalize gb s 0 = y at *
                    have HR : Hid (SlS wr (.slice a' M.length c') (((L.take (k + 1)).filter (pick p)).foldl putS [])) := by
                      rw [take_filter_no hlt HXL.out (by unfold pick; rw [HD.out, HQ.out]; rfl), HM.out]
                      exact HS.out
                    go_wp2_with fail
                    exact ⟨⟨k + 1, _, by go_num, rfl, by omega, HR.out, HBw.out⟩, by simp [intOf]; omega⟩
                  · have hb0 : (((gb s 0).toNat : Int) == 46) = false := u8b (n := 46) (by decide) hc0
                    have HQ : Hid (hasPrefix x [46] = false) := by unfold Hid; rw [HXS.out, pre1]; simp [hc0]
                    clear hc0
                    generalize gb s 0 = y at *
                    go_wp2_with fail
                    refine (RefMatch_any p s wr hp HSZ.out).mono ?_
                    rintro e w2 ⟨rfl, hB2⟩
                    rw [HF.out]
                    have HB2 := Lib.hid (HBw.out.trans (hB2.mono HBw.out.size))
                    have HS2 := Lib.hid (HS.out.below hB2)
                    clear hB2
                    have hck2 : w2.cell? ⟨g, off + k, none⟩ = some (.string s) := by
                      rw [HB2.out.cell (p := ⟨g, off + k, none⟩) hg, ← HBw.out.cell (p := ⟨g, off + k, none⟩) hg]
                      exact hck
                    cases F
                    · have HR : Hid (SlS w2 (.slice a' M.length c') (((L.take (k + 1)).filter (pick p)).foldl putS [])) := by
                        rw [take_filter_no hlt HXL.out (by unfold pick; rw [HSX.out, HF.out, Bool.and_false]), HM.out]
                        exact HS2.out
                      go_wp2_with fail
                      exact ⟨⟨k + 1, _, by go_num, rfl, by omega, HR.out, HB2.out⟩, by simp [intOf]; omega⟩
                    · have hP := PutString_any (.slice a' M.length c') M x w2 HS2.out (Nat.le_trans HN.out hL)
                      rw [enc_bs, HSX.out] at hP
                      have HPK : Hid ((L.take (k + 1)).filter (pick p) = (L.take k).filter (pick p) ++ [x]) := take_filter_yes hlt HXL.out (by unfold pick; rw [HSX.out, HF.out]; rw [HD.out, HQ.out]; rfl)
                      go_wp2_with fail
                      refine hP.mono ?_
                      rintro e w3 ⟨v3, rfl, hs3, hB3⟩
                      have HR : Hid (SlS w3 v3 (((L.take (k + 1)).filter (pick p)).foldl putS [])) := by
                        rw [Hid, HPK.out, List.foldl_append, HM.out]
                        exact hs3
                      have HB3 := Lib.hid (HB2.out.trans (hB3.mono HB2.out.size))
                      clear hs3 hB3 hP
                      obtain ⟨a3, c3, rfl⟩ := HR.out.len
                      go_wp2_with fail
                      exact ⟨⟨k + 1, _, by go_num, rfl, by omega, HR.out, HB3.out⟩, by simp [intOf]; omega⟩
                · have hs0I : ¬ (0 : Int) < (s.size : Int) := by omega
                  have HQ : Hid (hasPrefix x [46] = false) := by unfold Hid; rw [HXS.out, pre1]; simp [hs0]
                  go_wp2_with fail
                  refine (RefMatch_any p s wr hp HSZ.out).mono ?_
                  rintro e w2 ⟨rfl, hB2⟩
                  rw [HF.out]
                  have HB2 := Lib.hid (HBw.out.trans (hB2.mono HBw.out.size))
                  have HS2 := Lib.hid (HS.out.below hB2)
                  clear hB2
                  have hck2 : w2.cell? ⟨g, off + k, none⟩ = some (.string s) := by
                    rw [HB2.out.cell (p := ⟨g, off + k, none⟩) hg, ← HBw.out.cell (p := ⟨g, off + k, none⟩) hg]
                    exact hck
                  cases F
                  · have HR : Hid (SlS w2 (.slice a' M.length c') (((L.take (k + 1)).filter (pick p)).foldl putS [])) := by
                      rw [take_filter_no hlt HXL.out (by unfold pick; rw [HSX.out, HF.out, Bool.and_false]), HM.out]
                      exact HS2.out
                    go_wp2_with fail
                    exact ⟨⟨k + 1, _, by go_num, rfl, by omega, HR.out, HB2.out⟩, by simp [intOf]; omega⟩
                  · have hP := PutString_any (.slice a' M.length c') M x w2 HS2.out (Nat.le_trans HN.out hL)
                    rw [enc_bs, HSX.out] at hP
                    have HPK : Hid ((L.take (k + 1)).filter (pick p) = (L.take k).filter (pick p) ++ [x]) := take_filter_yes hlt HXL.out (by unfold pick; rw [HSX.out, HF.out]; rw [HD.out, HQ.out]; rfl)
                    go_wp2_with fail
                    refine hP.mono ?_
                    rintro e w3 ⟨v3, rfl, hs3, hB3⟩
                    have HR : Hid (SlS w3 v3 (((L.take (k + 1)).filter (pick p)).foldl putS [])) := by
                      rw [Hid, HPK.out, List.foldl_append, HM.out]
                      exact hs3
                    have HB3 := Lib.hid (HB2.out.trans (hB3.mono HB2.out.size))
                    clear hs3 hB3 hP
                    obtain ⟨a3, c3, rfl⟩ := HR.out.len
                    go_wp2_with fail
                    exact ⟨⟨k + 1, _, by go_num, rfl, by omega, HR.out, HB3.out⟩, by simp [intOf]; omega⟩
              · have hge : ¬ (k : Int) < (L.length : Int) := by omega
                rw [List.take_of_length_le (by omega)] at hsl
                obtain ⟨a', c', rfl⟩ := hsl.len
                have HS := Lib.hid hsl
                clear hsl
                go_wp2_with fail
                go_ret
                exact ⟨_, rfl, HS.out, HBw.out⟩
        · have hb1 : (((gb p 0).toNat : Int) == 92) = false := u8b (n := 92) (by decide) hc1
          have HD : Hid (dots p = false) := by unfold Hid dots; rw [pre1, pre2]; simp [hc0, hc1]
          clear hc0 hc1
          generalize gb p 0 = z at *
          go_wp2_with fail
          go_loopw [6, 7] (fun va a wr => ∃ (k : Nat) (vn : Value), a = .int .i64 k ∧ vn = va ∧ k ≤ L.length ∧ SlS wr vn (((L.take k).filter (pick p)).foldl putS []) ∧ Below w.heap.size w wr) (fun _ a _ => L.length - (intOf a).toNat)
          case atStart => exact ⟨0, _, rfl, rfl, by omega, .inl ⟨rfl, rfl⟩, Below.refl _ _⟩
          case round =>
            obtain ⟨k, vn, rfl, rfl, hk, hsl, hBw⟩ := hrel
            have HBw := Lib.hid hBw
            clear hBw
            by_cases hlt : k < L.length
            · have hltI : (k : Int) < (L.length : Int) := by omega
              have h0 : (0 : Int) ≤ (k : Int) := by omega
              have hck : wr.cell? ⟨g, off + k, none⟩ = some (encStr L[k]) := by
                rw [HBw.out.cell (p := ⟨g, off + k, none⟩) hg]
                exact hcell.out k hlt
              have hadd : (⟨g, off, none⟩ : Addr).add k = ⟨g, off + k, none⟩ := by unfold Addr.add; by_cases h : k = 0 <;> simp [h]
              have HX0 : Hid (L[k].length ≤ 100000) := hS.out _ (List.getElem_mem hlt)
              obtain ⟨x, hx⟩ : ∃ x, L[k] = x := ⟨_, rfl⟩
              rw [hx] at hck HX0
              obtain ⟨s, hs⟩ : ∃ s : ByteArray, ⟨x.toArray⟩ = s := ⟨_, rfl⟩
              rw [enc_bs, hs] at hck
              have HSZ : Hid (s.size ≤ 100000) := by rw [← hs]; exact HX0.out
              have HXL := Lib.hid hx
              have HSX := Lib.hid hs
              have HXS : Hid (x = s.data.toList) := by rw [← hs]; rfl
              obtain ⟨F, hF⟩ : ∃ F, matchB p s = F := ⟨_, rfl⟩
              have HF := Lib.hid hF
              have HN : Hid ((((L.take k).filter (pick p)).foldl putS []).length ≤ L.length) := Nat.le_trans (foldS_len _) (filt_len p L k)
              obtain ⟨M, hM⟩ : ∃ M, ((L.take k).filter (pick p)).foldl putS [] = M := ⟨_, rfl⟩
              rw [hM] at hsl HN
              have HM := Lib.hid hM
              obtain ⟨a', c', rfl⟩ := hsl.len
              have HS := Lib.hid hsl
              clear hx hs hF HX0 hM hsl
              by_cases hs0 : 0 < s.size
              · have hs0I : (0 : Int) < (s.size : Int) := by omega
                have hg0 := gb_eq s 0 hs0
                by_cases hc0 : gb s 0 = 46
                · have hb0 : (((gb s 0).toNat : Int) == 46) = true := by rw [hc0]; rfl
                  have HQ : Hid (hasPrefix x [46] = true) := by unfold Hid; rw [HXS.out, pre1]; simp [hs0, hc0]
                  clear hc0
                  generalize gb s 0 = y at *
                  have HR : Hid (SlS wr (.slice a' M.length c') (((L.take (k + 1)).filter (pick p)).foldl putS [])) := by
                    rw [take_filter_no hlt HXL.out (by unfold pick; rw [HD.out, HQ.out]; rfl), HM.out]
                    exact HS.out
                  go_wp2_with fail
                  exact ⟨⟨k + 1, _, by go_num, rfl, by omega, HR.out, HBw.out⟩, by simp [intOf]; omega⟩
                · have hb0 : (((gb s 0).toNat : Int) == 46) = false := u8b (n := 46) (by decide) hc0
                  have HQ : Hid (hasPrefix x [46] = false) := by unfold Hid; rw [HXS.out, pre1]; simp [hc0]
                  clear hc0
                  generalize gb s 0 = y at *
                  go_wp2_with fail
                  refine (RefMatch_any p s wr hp HSZ.out).mono ?_
                  rintro e w2 ⟨rfl, hB2⟩
                  rw [HF.out]
                  have HB2 := Lib.hid (HBw.out.trans (hB2.mono HBw.out.size))
                  have HS2 := Lib.hid (HS.out.below hB2)
                  clear hB2
                  have hck2 : w2.cell? ⟨g, off + k, none⟩ = some (.string s) := by
                    rw [HB2.out.cell (p := ⟨g, off + k, none⟩) hg, ← HBw.out.cell (p := ⟨g, off + k, none⟩) hg]
                    exact hck
                  cases F
                  · have HR : Hid (SlS w2 (.slice a' M.length c') (((L.take (k + 1)).filter (pick p)).foldl putS [])) := by
                      rw [take_filter_no hlt HXL.out (by unfold pick; rw [HSX.out, HF.out, Bool.and_false]), HM.out]
                      exact HS2.out
                    go_wp2_with fail
                    exact ⟨⟨k + 1, _, by go_num, rfl, by omega, HR.out, HB2.out⟩, by simp [intOf]; omega⟩
                  · have hP := PutString_any (.slice a' M.length c') M x w2 HS2.out (Nat.le_trans HN.out hL)
                    rw [enc_bs, HSX.out] at hP
                    have HPK : Hid ((L.take (k + 1)).filter (pick p) = (L.take k).filter (pick p) ++ [x]) := take_filter_yes hlt HXL.out (by unfold pick; rw [HSX.out, HF.out]; rw [HD.out, HQ.out]; rfl)
                    go_wp2_with fail
                    refine hP.mono ?_
                    rintro e w3 ⟨v3, rfl, hs3, hB3⟩
                    have HR : Hid (SlS w3 v3 (((L.take (k + 1)).filter (pick p)).foldl putS [])) := by
                      rw [Hid, HPK.out, List.foldl_append, HM.out]
                      exact hs3
                    have HB3 := Lib.hid (HB2.out.trans (hB3.mono HB2.out.size))
                    clear hs3 hB3 hP
                    obtain ⟨a3, c3, rfl⟩ := HR.out.len
                    go_wp2_with fail
                    exact ⟨⟨k + 1, _, by go_num, rfl, by omega, HR.out, HB3.out⟩, by simp [intOf]; omega⟩
              · have hs0I : ¬ (0 : Int) < (s.size : Int) := by omega
                have HQ : Hid (hasPrefix x [46] = false) := by unfold Hid; rw [HXS.out, pre1]; simp [hs0]
                go_wp2_with fail
                refine (RefMatch_any p s wr hp HSZ.out).mono ?_
                rintro e w2 ⟨rfl, hB2⟩
                rw [HF.out]
                have HB2 := Lib.hid (HBw.out.trans (hB2.mono HBw.out.size))
                have HS2 := Lib.hid (HS.out.below hB2)
                clear hB2
                have hck2 : w2.cell? ⟨g, off + k, none⟩ = some (.string s) := by
                  rw [HB2.out.cell (p := ⟨g, off + k, none⟩) hg, ← HBw.out.cell (p := ⟨g, off + k, none⟩) hg]
                  exact hck
                cases F
                · have HR : Hid (SlS w2 (.slice a' M.length c') (((L.take (k + 1)).filter (pick p)).foldl putS [])) := by
                    rw [take_filter_no hlt HXL.out (by unfold pick; rw [HSX.out, HF.out, Bool.and_false]), HM.out]
                    exact HS2.out
                  go_wp2_with fail
                  exact ⟨⟨k + 1, _, by go_num, rfl, by omega, HR.out, HB2.out⟩, by simp [intOf]; omega⟩
                · have hP := PutString_any (.slice a' M.length c') M x w2 HS2.out (Nat.le_trans HN.out hL)
                  rw [enc_bs, HSX.out] at hP
                  have HPK : Hid ((L.take (k + 1)).filter (pick p) = (L.take k).filter (pick p) ++ [x]) := take_filter_yes hlt HXL.out (by unfold pick; rw [HSX.out, HF.out]; rw [HD.out, HQ.out]; rfl)
                  go_wp2_with fail
                  refine hP.mono ?_
                  rintro e w3 ⟨v3, rfl, hs3, hB3⟩
                  have HR : Hid (SlS w3 v3 (((L.take (k + 1)).filter (pick p)).foldl putS [])) := by
                    rw [Hid, HPK.out, List.foldl_append, HM.out]
                    exact hs3
                  have HB3 := Lib.hid (HB2.out.trans (hB3.mono HB2.out.size))
                  clear hs3 hB3 hP
                  obtain ⟨a3, c3, rfl⟩ := HR.out.len
                  go_wp2_with fail
                  exact ⟨⟨k + 1, _, by go_num, rfl, by omega, HR.out, HB3.out⟩, by simp [intOf]; omega⟩
            · have hge : ¬ (k : Int) < (L.length : Int) := by omega
              rw [List.take_of_length_le (by omega)] at hsl
              obtain ⟨a', c', rfl⟩ := hsl.len
              have HS := Lib.hid hsl
              clear hsl
              go_wp2_with fail
              go_ret
              exact ⟨_, rfl, HS.out, HBw.out⟩
      · have hp1I : ¬ (1 : Int) < (p.size : Int) := by omega
        have HD : Hid (dots p = false) := by unfold Hid dots; rw [pre1, pre2]; simp [hc0, hp1]
        clear hc0
        generalize gb p 0 = z at *
        go_wp2_with fail
        go_loopw [6, 7] (fun va a wr => ∃ (k : Nat) (vn : Value), a = .int .i64 k ∧ vn = va ∧ k ≤ L.length ∧ SlS wr vn (((L.take k).filter (pick p)).foldl putS []) ∧ Below w.heap.size w wr) (fun _ a _ => L.length - (intOf a).toNat)
        case atStart => exact ⟨0, _, rfl, rfl, by omega, .inl ⟨rfl, rfl⟩, Below.refl _ _⟩
        case round =>
          obtain ⟨k, vn, rfl, rfl, hk, hsl, hBw⟩ := hrel
          have HBw := Lib.hid hBw
          clear hBw
          by_cases hlt : k < L.length
          · have hltI : (k : Int) < (L.length : Int) := by omega
            have h0 : (0 : Int) ≤ (k : Int) := by omega
            have hck : wr.cell? ⟨g, off + k, none⟩ = some (encStr L[k]) := by
              rw [HBw.out.cell (p := ⟨g, off + k, none⟩) hg]
              exact hcell.out k hlt
            have hadd : (⟨g, off, none⟩ : Addr).add k = ⟨g, off + k, none⟩ := by unfold Addr.add; by_cases h : k = 0 <;> simp [h]
            have HX0 : Hid (L[k].length ≤ 100000) := hS.out _ (List.getElem_mem hlt)
            obtain ⟨x, hx⟩ : ∃ x, L[k] = x := ⟨_, rfl⟩
            rw [hx] at hck HX0
            obtain ⟨s, hs⟩ : ∃ s : ByteArray, ⟨x.toArray⟩ = s := ⟨_, rfl⟩
            rw [enc_bs, hs] at hck
            have HSZ : Hid (s.size ≤ 100000) := by rw [← hs]; exact HX0.out
            have HXL := Lib.hid hx
            have HSX := Lib.hid hs
            have HXS : Hid (x = s.data.toList) := by rw [← hs]; rfl
            obtain ⟨F, hF⟩ : ∃ F, matchB p s = F := ⟨_, rfl⟩
            have HF := Lib.hid hF
            have HN : Hid ((((L.take k).filter (pick p)).foldl putS []).length ≤ L.length) := Nat.le_trans (foldS_len _) (filt_len p L k)
            obtain ⟨M, hM⟩ : ∃ M, ((L.take k).filter (pick p)).foldl putS [] = M := ⟨_, rfl⟩
            rw [hM] at hsl HN
            have HM := Lib.hid hM
            obtain ⟨a', c', rfl⟩ := hsl.len
            have HS := Lib.hid hsl
            clear hx hs hF HX0 hM hsl
            by_cases hs0 : 0 < s.size
            · have hs0I : (0 : Int) < (s.size : Int) := by omega
              have hg0 := gb_eq s 0 hs0
              by_cases hc0 : gb s 0 = 46
              · have hb0 : (((gb s 0).toNat : Int) == 46) = true := by rw [hc0]; rfl
                have HQ : Hid (hasPrefix x [46] = true) := by unfold Hid; rw [HXS.out, pre1]; simp [hs0, hc0]
                clear hc0
                generalize gb s 0 = y at *
                have HR : Hid (SlS wr (.slice a' M.length c') (((L.take (k + 1)).filter (pick p)).foldl putS [])) := by
                  rw [take_filter_no hlt HXL.out (by unfold pick; rw [HD.out, HQ.out]; rfl), HM.out]
                  exact HS.out
                go_wp2_with fail
                exact ⟨⟨k + 1, _, by go_num, rfl, by omega, HR.out, HBw.out⟩, by simp [intOf]; omega⟩
              · have hb0 : (((gb s 0).toNat : Int) == 46) = false := u8b (n := 46) (by decide) hc0
                have HQ : Hid (hasPrefix x [46] = false) := by unfold Hid; rw [HXS.out, pre1]; simp [hc0]
                clear hc0
                generalize gb s 0 = y at *
                go_wp2_with fail
                refine (RefMatch_any p s wr hp HSZ.out).mono ?_
                rintro e w2 ⟨rfl, hB2⟩
                rw [HF.out]
                have HB2 := Lib.hid (HBw.out.trans (hB2.mono HBw.out.size))
                have HS2 := Lib.hid (HS.out.below hB2)
                clear hB2
                have hck2 : w2.cell? ⟨g, off + k, none⟩ = some (.string s) := by
                  rw [HB2.out.cell (p := ⟨g, off + k, none⟩) hg, ← HBw.out.cell (p := ⟨g, off + k, none⟩) hg]
                  exact hck
                cases F
                · have HR : Hid (SlS w2 (.slice a' M.length c') (((L.take (k + 1)).filter (pick p)).foldl putS [])) := by
                    rw [take_filter_no hlt HXL.out (by unfold pick; rw [HSX.out, HF.out, Bool.and_false]), HM.out]
                    exact HS2.out
                  go_wp2_with fail
                  exact ⟨⟨k + 1, _, by go_num, rfl, by omega, HR.out, HB2.out⟩, by simp [intOf]; omega⟩
                · have hP := PutString_any (.slice a' M.length c') M x w2 HS2.out (Nat.le_trans HN.out hL)
                  rw [enc_bs, HSX.out] at hP
                  have HPK : Hid ((L.take (k + 1)).filter (pick p) = (L.take k).filter (pick p) ++ [x]) := take_filter_yes hlt HXL.out (by unfold pick; rw [HSX.out, HF.out]; rw [HD.out, HQ.out]; rfl)
                  go_wp2_with fail
                  refine hP.mono ?_
                  rintro e w3 ⟨v3, rfl, hs3, hB3⟩
                  have HR : Hid (SlS w3 v3 (((L.take (k + 1)).filter (pick p)).foldl putS [])) := by
                    rw [Hid, HPK.out, List.foldl_append, HM.out]
                    exact hs3
                  have HB3 := Lib.hid (HB2.out.trans (hB3.mono HB2.out.size))
                  clear hs3 hB3 hP
                  obtain ⟨a3, c3, rfl⟩ := HR.out.len
                  go_wp2_with fail
                  exact ⟨⟨k + 1, _, by go_num, rfl, by omega, HR.out, HB3.out⟩, by simp [intOf]; omega⟩
            · have hs0I : ¬ (0 : Int) < (s.size : Int) := by omega
              have HQ : Hid (hasPrefix x [46] = false) := by unfold Hid; rw [HXS.out, pre1]; simp [hs0]
              go_wp2_with fail
              refine (RefMatch_any p s wr hp HSZ.out).mono ?_
              rintro e w2 ⟨rfl, hB2⟩
              rw [HF.out]
              have HB2 := Lib.hid (HBw.out.trans (hB2.mono HBw.out.size))
              have HS2 := Lib.hid (HS.out.below hB2)
              clear hB2
              have hck2 : w2.cell? ⟨g, off + k, none⟩ = some (.string s) := by
                rw [HB2.out.cell (p := ⟨g, off + k, none⟩) hg, ← HBw.out.cell (p := ⟨g, off + k, none⟩) hg]
                exact hck
              cases F
              · have HR : Hid (SlS w2 (.slice a' M.length c') (((L.take (k + 1)).filter (pick p)).foldl putS [])) := by
                  rw [take_filter_no hlt HXL.out (by unfold pick; rw [HSX.out, HF.out, Bool.and_false]), HM.out]
                  exact HS2.out
                go_wp2_with fail
                exact ⟨⟨k + 1, _, by go_num, rfl, by omega, HR.out, HB2.out⟩, by simp [intOf]; omega⟩
              · have hP := PutString_any (.slice a' M.length c') M x w2 HS2.out (Nat.le_trans HN.out hL)
                rw [enc_bs, HSX.out] at hP
                have HPK : Hid ((L.take (k + 1)).filter (pick p) = (L.take k).filter (pick p) ++ [x]) := take_filter_yes hlt HXL.out (by unfold pick; rw [HSX.out, HF.out]; rw [HD.out, HQ.out]; rfl)
                go_wp2_with fail
                refine hP.mono ?_
                rintro e w3 ⟨v3, rfl, hs3, hB3⟩
                have HR : Hid (SlS w3 v3 (((L.take (k + 1)).filter (pick p)).foldl putS [])) := by
                  rw [Hid, HPK.out, List.foldl_append, HM.out]
                  exact hs3
                have HB3 := Lib.hid (HB2.out.trans (hB3.mono HB2.out.size))
                clear hs3 hB3 hP
                obtain ⟨a3, c3, rfl⟩ := HR.out.len
                go_wp2_with fail
                exact ⟨⟨k + 1, _, by go_num, rfl, by omega, HR.out, HB3.out⟩, by simp [intOf]; omega⟩
          · have hge : ¬ (k : Int) < (L.length : Int) := by omega
            rw [List.take_of_length_le (by omega)] at hsl
            obtain ⟨a', c', rfl⟩ := hsl.len
            have HS := Lib.hid hsl
            clear hsl
            go_wp2_with fail
            go_ret
            exact ⟨_, rfl, HS.out, HBw.out⟩
  · have hp0I : ¬ (0 : Int) < (p.size : Int) := by omega
    have hp1I : ¬ (1 : Int) < (p.size : Int) := by omega
    have HD : Hid (dots p = false) := by unfold Hid dots; rw [pre1, pre2]; simp [hp0, show ¬ 1 < p.size by omega]
    go_wp2_with fail
    go_loopw [6, 7] (fun va a wr => ∃ (k : Nat) (vn : Value), a = .int .i64 k ∧ vn = va ∧ k ≤ L.length ∧ SlS wr vn (((L.take k).filter (pick p)).foldl putS []) ∧ Below w.heap.size w wr) (fun _ a _ => L.length - (intOf a).toNat)
    case atStart => exact ⟨0, _, rfl, rfl, by omega, .inl ⟨rfl, rfl⟩, Below.refl _ _⟩
    case round =>
      obtain ⟨k, vn, rfl, rfl, hk, hsl, hBw⟩ := hrel
      have HBw := Lib.hid hBw
      clear hBw
      by_cases hlt : k < L.length
      · have hltI : (k : Int) < (L.length : Int) := by omega
        have h0 : (0 : Int) ≤ (k : Int) := by omega
        have hck : wr.cell? ⟨g, off + k, none⟩ = some (encStr L[k]) := by
          rw [HBw.out.cell (p := ⟨g, off + k, none⟩) hg]
          exact hcell.out k hlt
        have hadd : (⟨g, off, none⟩ : Addr).add k = ⟨g, off + k, none⟩ := by unfold Addr.add; by_cases h : k = 0 <;> simp [h]
        have HX0 : Hid (L[k].length ≤ 100000) := hS.out _ (List.getElem_mem hlt)
        obtain ⟨x, hx⟩ : ∃ x, L[k] = x := ⟨_, rfl⟩
        rw [hx] at hck HX0
        obtain ⟨s, hs⟩ : ∃ s : ByteArray, ⟨x.toArray⟩ = s := ⟨_, rfl⟩
        rw [enc_bs, hs] at hck
        have HSZ : Hid (s.size ≤ 100000) := by rw [← hs]; exact HX0.out
        have HXL := Lib.hid hx
        have HSX := Lib.hid hs
        have HXS : Hid (x = s.data.toList) := by rw [← hs]; rfl
        obtain ⟨F, hF⟩ : ∃ F, matchB p s = F := ⟨_, rfl⟩
        have HF := Lib.hid hF
        have HN : Hid ((((L.take k).filter (pick p)).foldl putS []).length ≤ L.length) := Nat.le_trans (foldS_len _) (filt_len p L k)
        obtain ⟨M, hM⟩ : ∃ M, ((L.take k).filter (pick p)).foldl putS [] = M := ⟨_, rfl⟩
        rw [hM] at hsl HN
        have HM := Lib.hid hM
        obtain ⟨a', c', rfl⟩ := hsl.len
        have HS := Lib.hid hsl
        clear hx hs hF HX0 hM hsl
        by_cases hs0 : 0 < s.size
        · have hs0I : (0 : Int) < (s.size : Int) := by omega
          have hg0 := gb_eq s 0 hs0
          by_cases hc0 : gb s 0 = 46
          · have hb0 : (((gb s 0).toNat : Int) == 46) = true := by rw [hc0]; rfl
            have HQ : Hid (hasPrefix x [46] = true) := by unfold Hid; rw [HXS.out, pre1]; simp [hs0, hc0]
            clear hc0
            generalize gb s 0 = y at *
            have HR : Hid (SlS wr (.slice a' M.length c') (((L.take (k + 1)).filter (pick p)).foldl putS [])) := by
              rw [take_filter_no hlt HXL.out (by unfold pick; rw [HD.out, HQ.out]; rfl), HM.out]
              exact HS.out
            go_wp2_with fail
            exact ⟨⟨k + 1, _, by go_num, rfl, by omega, HR.out, HBw.out⟩, by simp [intOf]; omega⟩
          · have hb0 : (((gb s 0).toNat : Int) == 46) = false := u8b (n := 46) (by decide) hc0
            have HQ : Hid (hasPrefix x [46] = false) := by unfold Hid; rw [HXS.out, pre1]; simp [hc0]
            clear hc0
            generalize gb s 0 = y at *
            go_wp2_with fail
            refine (RefMatch_any p s wr hp HSZ.out).mono ?_
            rintro e w2 ⟨rfl, hB2⟩
            rw [HF.out]
            have HB2 := Lib.hid (HBw.out.trans (hB2.mono HBw.out.size))
            have HS2 := Lib.hid (HS.out.below hB2)
            clear hB2
            have hck2 : w2.cell? ⟨g, off + k, none⟩ = some (.string s) := by
              rw [HB2.out.cell (p := ⟨g, off + k, none⟩) hg, ← HBw.out.cell (p := ⟨g, off + k, none⟩) hg]
              exact hck
            cases F
            · have HR : Hid (SlS w2 (.slice a' M.length c') (((L.take (k + 1)).filter (pick p)).foldl putS [])) := by
                rw [take_filter_no hlt HXL.out (by unfold pick; rw [HSX.out, HF.out, Bool.and_false]), HM.out]
                exact HS2.out
              go_wp2_with fail
              exact ⟨⟨k + 1, _, by go_num, rfl, by omega, HR.out, HB2.out⟩, by simp [intOf]; omega⟩
            · have hP := PutString_any (.slice a' M.length c') M x w2 HS2.out (Nat.le_trans HN.out hL)
              rw [enc_bs, HSX.out] at hP
              have HPK : Hid ((L.take (k + 1)).filter (pick p) = (L.take k).filter (pick p) ++ [x]) := take_filter_yes hlt HXL.out (by unfold pick; rw [HSX.out, HF.out]; rw [HD.out, HQ.out]; rfl)
              go_wp2_with fail
              refine hP.mono ?_
              rintro e w3 ⟨v3, rfl, hs3, hB3⟩
              have HR : Hid (SlS w3 v3 (((L.take (k + 1)).filter (pick p)).foldl putS [])) := by
                rw [Hid, HPK.out, List.foldl_append, HM.out]
                exact hs3
              have HB3 := Lib.hid (HB2.out.trans (hB3.mono HB2.out.size))
              clear hs3 hB3 hP
              obtain ⟨a3, c3, rfl⟩ := HR.out.len
              go_wp2_with fail
              exact ⟨⟨k + 1, _, by go_num, rfl, by omega, HR.out, HB3.out⟩, by simp [intOf]; omega⟩
        · have hs0I : ¬ (0 : Int) < (s.size : Int) := by omega
          have HQ : Hid (hasPrefix x [46] = false) := by unfold Hid; rw [HXS.out, pre1]; simp [hs0]
          go_wp2_with fail
          refine (RefMatch_any p s wr hp HSZ.out).mono ?_
          rintro e w2 ⟨rfl, hB2⟩
          rw [HF.out]
          have HB2 := Lib.hid (HBw.out.trans (hB2.mono HBw.out.size))
          have HS2 := Lib.hid (HS.out.below hB2)
          clear hB2
          have hck2 : w2.cell? ⟨g, off + k, none⟩ = some (.string s) := by
            rw [HB2.out.cell (p := ⟨g, off + k, none⟩) hg, ← HBw.out.cell (p := ⟨g, off + k, none⟩) hg]
            exact hck
          cases F
          · have HR : Hid (SlS w2 (.slice a' M.length c') (((L.take (k + 1)).filter (pick p)).foldl putS [])) := by
              rw [take_filter_no hlt HXL.out (by unfold pick; rw [HSX.out, HF.out, Bool.and_false]), HM.out]
              exact HS2.out
            go_wp2_with fail
            exact ⟨⟨k + 1, _, by go_num, rfl, by omega, HR.out, HB2.out⟩, by simp [intOf]; omega⟩
          · have hP := PutString_any (.slice a' M.length c') M x w2 HS2.out (Nat.le_trans HN.out hL)
            rw [enc_bs, HSX.out] at hP
            have HPK : Hid ((L.take (k + 1)).filter (pick p) = (L.take k).filter (pick p) ++ [x]) := take_filter_yes hlt HXL.out (by unfold pick; rw [HSX.out, HF.out]; rw [HD.out, HQ.out]; rfl)
            go_wp2_with fail
            refine hP.mono ?_
            rintro e w3 ⟨v3, rfl, hs3, hB3⟩
            have HR : Hid (SlS w3 v3 (((L.take (k + 1)).filter (pick p)).foldl putS [])) := by
              rw [Hid, HPK.out, List.foldl_append, HM.out]
              exact hs3
            have HB3 := Lib.hid (HB2.out.trans (hB3.mono HB2.out.size))
            clear hs3 hB3 hP
            obtain ⟨a3, c3, rfl⟩ := HR.out.len
            go_wp2_with fail
            exact ⟨⟨k + 1, _, by go_num, rfl, by omega, HR.out, HB3.out⟩, by simp [intOf]; omega⟩
      · have hge : ¬ (k : Int) < (L.length : Int) := by omega
        rw [List.take_of_length_le (by omega)] at hsl
        obtain ⟨a', c', rfl⟩ := hsl.len
        have HS := Lib.hid hsl
        clear hsl
        go_wp2_with fail
        go_ret
        exact ⟨_, rfl, HS.out, HBw.out⟩
end Go.Proofs.Ythpmdgkhpigofaa
