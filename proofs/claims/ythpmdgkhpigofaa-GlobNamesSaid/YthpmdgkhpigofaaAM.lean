import Derived.Test.YthpmdgkhpigofaaAL
namespace Go.Proofs.Ythpmdgkhpigofaa
open Go.RowKit Go.Sort Go.Lib

/-- What Names picks. -/
def dots (p : ByteArray) : Bool := hasPrefix p.data.toList [46] || hasPrefix p.data.toList [92, 46]
def pick (p : ByteArray) (x : Bs) : Bool := (dots p || !hasPrefix x [46]) && matchB p ⟨x.toArray⟩

theorem enc_bs (x : Bs) : encStr x = .string ⟨x.toArray⟩ := rfl

theorem take_filter_yes {p : ByteArray} {L : List Bs} {k : Nat} (hk : k < L.length) {x : Bs} (hx : L[k] = x) (h : pick p x = true) : (L.take (k + 1)).filter (pick p) = (L.take k).filter (pick p) ++ [x] := by
  rw [List.take_add_one, List.getElem?_eq_getElem hk, hx, List.filter_append]
  simp [h]
theorem take_filter_no {p : ByteArray} {L : List Bs} {k : Nat} (hk : k < L.length) {x : Bs} (hx : L[k] = x) (h : pick p x = false) : (L.take (k + 1)).filter (pick p) = (L.take k).filter (pick p) := by
  rw [List.take_add_one, List.getElem?_eq_getElem hk, hx, List.filter_append]
  simp [h]
theorem filt_len (p : ByteArray) (L : List Bs) (k : Nat) : ((L.take k).filter (pick p)).length ≤ L.length :=
  Nat.le_trans (List.length_filter_le _ _) (by simp; omega)

set_option maxRecDepth 100000 in
set_option maxHeartbeats 8000000 in
theorem Names_some (p : ByteArray) (g off c : Nat) (L : List Bs) (w : World) (hp : p.size ≤ 100000) (hL : L.length ≤ 100000) (hS : Hid (∀ x ∈ L, x.length ≤ 100000)) (hg : g < w.heap.size)
    (hcell : Hid (∀ i (h : i < L.length), w.cell? ⟨g, off + i, none⟩ = some (encStr L[i]))) :
    Calls Try.prog 14 #[.string p, .slice (some ⟨g, off, none⟩) L.length c] w fun e w' => ∃ v', e = .returned v' ∧ SlS w' v' (compact ((L.filter (pick p)).mergeSort fun x y => decide (x ≤ y))) ∧ Below w.heap.size w w' := by
  obtain ⟨i0, hi, hz0, hz1, hz2⟩ := info_parts info9
  obtain ⟨a, ha⟩ : ∃ a, hasPrefix p.data.toList [46] = a := ⟨_, rfl⟩
  obtain ⟨b, hb⟩ : ∃ b, hasPrefix p.data.toList [92, 46] = b := ⟨_, rfl⟩
  have HD0 : Hid (dots p = (a || b)) := by unfold Hid dots; rw [ha, hb]
  have HA := Lib.hid ha
  obtain ⟨M, hM⟩ : ∃ M, L.filter (pick p) = M := ⟨_, rfl⟩
  rw [hM]
  have HM := Lib.hid hM
  clear hM
  have HBB := Lib.hid hb
  clear ha hb
  go_enter Try.func14, Try.ntmps14
  go_wp2_with fail
  refine (pieces_core p _ hp _ rfl).mono ?_
  rintro e w1 ⟨v, ps, rfl, hown, hlt, hsem, hlen, hB⟩
  have HOWN := Lib.hid hown
  have HLT := Lib.hid hlt
  have HSEM := Lib.hid hsem
  have HB1 := Lib.hid hB
  clear hsem hown hlt hB
  go_wp2_with fail
  refine (Try.strings_HasPrefix _ _ _).mono ?_
  rintro e w1' ⟨rfl, hw1⟩
  obtain rfl := hw1.symm
  rw [show hasPrefix p.data.toList (⟨#[46]⟩ : ByteArray).data.toList = a from HA.out]
  cases a
  · go_wp2_with fail
    refine (Try.strings_HasPrefix _ _ _).mono ?_
    rintro e w1' ⟨rfl, hw1⟩
    obtain rfl := hw1.symm
    rw [show hasPrefix p.data.toList (⟨#[92, 46]⟩ : ByteArray).data.toList = b from HBB.out]
    cases b
    · have HD : Hid (dots p = false) := HD0.out
      go_wp2_with fail
      go_loopw [7, 20] (fun va a wr => ∃ (k n : Nat) (vn : Value), a = .int .i64 k ∧ vn = va ∧ k ≤ L.length ∧ wr.ownsRow w1.heap.size 9 1 vn n (((L.take k).filter (pick p)).map encStr) ∧ Below w1.heap.size w1 wr) (fun _ a _ => L.length - (intOf a).toNat)
      case atStart => exact ⟨0, 0, _, rfl, rfl, by omega, World.ownsRow_nil _ _ _ _, Below.refl _ _⟩
      case round =>
        obtain ⟨k, n, vn, rfl, rfl, hk, hrow, hBw⟩ := hrel
        have HN : Hid (n ≤ L.length) := by
          have h1 := hrow.1
          rw [List.length_map, Nat.mul_one] at h1
          rw [Hid, ← h1]; exact filt_len p L k
        have HBw := Lib.hid hBw
        clear hBw
        by_cases hlt : k < L.length
        · have hltI : (k : Int) < (L.length : Int) := by omega
          have h0 : (0 : Int) ≤ (k : Int) := by omega
          have hck : wr.cell? ⟨g, off + k, none⟩ = some (encStr L[k]) := by
            rw [HBw.out.cell (p := ⟨g, off + k, none⟩) (Nat.lt_of_lt_of_le hg HB1.out.size), HB1.out.cell (p := ⟨g, off + k, none⟩) hg]
            exact hcell.out k hlt
          have hadd : (⟨g, off, none⟩ : Addr).add k = ⟨g, off + k, none⟩ := by unfold Addr.add; by_cases h : k = 0 <;> simp [h]
          have HX0 : Hid (L[k].length ≤ 100000) := hS.out _ (List.getElem_mem hlt)
          obtain ⟨x, hx⟩ : ∃ x, L[k] = x := ⟨_, rfl⟩
          rw [hx] at hck HX0
          rw [enc_bs] at hck
          have HX : Hid ((⟨x.toArray⟩ : ByteArray).size ≤ 100000) := HX0.out
          have HXL := Lib.hid hx
          obtain ⟨F, hF⟩ : ∃ F, matchB p ⟨x.toArray⟩ = F := ⟨_, rfl⟩
          have HF := Lib.hid hF
          clear hx hF HX0
          have HQ := Lib.hid (rfl : hasPrefix x [46] = hasPrefix x [46])
          go_wp2_with fail
          refine (Try.strings_HasPrefix _ _ _).mono ?_
          rintro e w1' ⟨rfl, hw1⟩
          obtain rfl := hw1.symm
          obtain ⟨q, hq⟩ : ∃ q, hasPrefix x [46] = q := ⟨_, rfl⟩
          rw [show hasPrefix (⟨x.toArray⟩ : ByteArray).data.toList (⟨#[46]⟩ : ByteArray).data.toList = q from hq]
          have HQ := Lib.hid hq
          clear hq
          cases q
          · go_wp2_with fail
            refine (match_core v ps ⟨x.toArray⟩ _ HX.out hlen (sl_of_row (HOWN.out.kept (gb_below (HBw.out)) (own_em _)) HLT.out) F ?_).mono ?_
            · show F = gm _ ps
              rw [← HF.out, Bool.eq_iff_iff, gm_iff, matchB_iff, HSEM.out]; rfl
            · rintro e w2 ⟨rfl, hB2⟩
              have hrow2 := hrow.kept (gb_below hB2) (own_em _)
              have HB2 : Hid (Below w1.heap.size w1 w2) := HBw.out.trans (hB2.mono HBw.out.size)
              have hz2s := HB2.out.size
              clear hB2
              cases F
              · have HR : Hid (w2.ownsRow w1.heap.size 9 1 vn n (((L.take (k + 1)).filter (pick p)).map encStr)) := by
                  rw [take_filter_no hlt HXL.out (by unfold pick; rw [HF.out, Bool.and_false])]
                  exact hrow2
                clear hrow2 hrow
                go_wp2_with fail
                exact ⟨⟨k + 1, _, _, by go_num, rfl, by omega, HR.out, HB2.out⟩, by simp [intOf]; omega⟩
              · have HP : Hid ((L.take (k + 1)).filter (pick p) = (L.take k).filter (pick p) ++ [x]) := take_filter_yes hlt HXL.out (by unfold pick; rw [HF.out]; rw [HD.out, HQ.out]; rfl)
                have HNL := HN.out
                clear hrow
                go_wp2_with (at_builtin; refine wpList_append_own _ rfl _ _ 24 rfl w1.heap.size 9 i0 (.string ⟨#[]⟩) 1 16 Try.underlying24 hi hz0 hz1 hz2 rfl (by decide) _ _ _ rfl (hrow2.alloc _) ⟨w2.heap.size, 0, none⟩ 1 1 [encStr x] rfl rfl (fun j u hj => by match j, hj with | 0, hj => simp at hj; subst hj; simp [Addr.add]) (fun u hu => by simp at hu; subst hu; rfl) (by unfold maxLen; omega) (by omega) (by simp; omega) ?_)
                intro vm w3 hown3 hg3 _
                have hB3 : Below w1.heap.size w1 w3 := (HB2.out.alloc hz2s _).grown hg3 (by simp; omega) (fun j hj => (hrow2.lt j hj).1)
                have HR : Hid (w3.ownsRow w1.heap.size 9 1 vm (n + 1) (((L.take (k + 1)).filter (pick p)).map encStr)) := by
                  rw [Hid, HP.out]
                  simpa using hown3
                have HB3 := Lib.hid hB3
                clear hown3 hg3 hB3 hrow2
                go_wp2_with fail
                exact ⟨⟨k + 1, _, _, by go_num, rfl, by omega, HR.out, HB3.out⟩, by simp [intOf]; omega⟩
          · have HR : Hid (wr.ownsRow w1.heap.size 9 1 vn n (((L.take (k + 1)).filter (pick p)).map encStr)) := by
              rw [take_filter_no hlt HXL.out (by unfold pick; rw [HD.out, HQ.out]; rfl)]
              exact hrow
            clear hrow
            go_wp2_with fail
            exact ⟨⟨k + 1, _, _, by go_num, rfl, by omega, HR.out, HBw.out⟩, by simp [intOf]; omega⟩
        · have hge : ¬ (k : Int) < (L.length : Int) := by omega
          rw [List.take_of_length_le (by omega), HM.out] at hrow
          have hnl : n = M.length := by have h1 := hrow.1; rw [List.length_map, Nat.mul_one] at h1; exact h1.symm
          subst hnl
          have hML := HN.out
          have HROW := Lib.hid hrow
          clear hrow HN
          go_wp2_with fail
          refine (Sort_own vn _ M wr HROW.out HBw.out.size (by omega)).mono ?_
          rintro e w2 ⟨rfl, hrow2, hB2⟩
          have HROW2 := Lib.hid hrow2
          have HB2 := Lib.hid (HBw.out.trans hB2)
          clear hrow2 hB2
          go_wp2_with fail
          refine (Compact_own vn _ (M.mergeSort fun x y => decide (x ≤ y)) w2 (by rw [List.length_mergeSort]; exact HROW2.out) HB2.out.size (by rw [List.length_mergeSort]; omega)).mono ?_
          rintro e w3 ⟨v', rfl, hs, hB3⟩
          have HS3 := Lib.hid hs
          have HB3 := Lib.hid (btrans HB1.out (HB2.out.trans hB3))
          clear hs hB3
          obtain ⟨a', c', rfl⟩ := HS3.out.len
          go_wp2_with fail
          go_ret
          exact ⟨_, rfl, HS3.out, HB3.out⟩
    · have HD : Hid (dots p = true) := HD0.out
      go_wp2_with fail
      go_loopw [7, 20] (fun va a wr => ∃ (k n : Nat) (vn : Value), a = .int .i64 k ∧ vn = va ∧ k ≤ L.length ∧ wr.ownsRow w1.heap.size 9 1 vn n (((L.take k).filter (pick p)).map encStr) ∧ Below w1.heap.size w1 wr) (fun _ a _ => L.length - (intOf a).toNat)
      case atStart => exact ⟨0, 0, _, rfl, rfl, by omega, World.ownsRow_nil _ _ _ _, Below.refl _ _⟩
      case round =>
        obtain ⟨k, n, vn, rfl, rfl, hk, hrow, hBw⟩ := hrel
        have HN : Hid (n ≤ L.length) := by
          have h1 := hrow.1
          rw [List.length_map, Nat.mul_one] at h1
          rw [Hid, ← h1]; exact filt_len p L k
        have HBw := Lib.hid hBw
        clear hBw
        by_cases hlt : k < L.length
        · have hltI : (k : Int) < (L.length : Int) := by omega
          have h0 : (0 : Int) ≤ (k : Int) := by omega
          have hck : wr.cell? ⟨g, off + k, none⟩ = some (encStr L[k]) := by
            rw [HBw.out.cell (p := ⟨g, off + k, none⟩) (Nat.lt_of_lt_of_le hg HB1.out.size), HB1.out.cell (p := ⟨g, off + k, none⟩) hg]
            exact hcell.out k hlt
          have hadd : (⟨g, off, none⟩ : Addr).add k = ⟨g, off + k, none⟩ := by unfold Addr.add; by_cases h : k = 0 <;> simp [h]
          have HX0 : Hid (L[k].length ≤ 100000) := hS.out _ (List.getElem_mem hlt)
          obtain ⟨x, hx⟩ : ∃ x, L[k] = x := ⟨_, rfl⟩
          rw [hx] at hck HX0
          rw [enc_bs] at hck
          have HX : Hid ((⟨x.toArray⟩ : ByteArray).size ≤ 100000) := HX0.out
          have HXL := Lib.hid hx
          obtain ⟨F, hF⟩ : ∃ F, matchB p ⟨x.toArray⟩ = F := ⟨_, rfl⟩
          have HF := Lib.hid hF
          clear hx hF HX0
          go_wp2_with fail
          refine (match_core v ps ⟨x.toArray⟩ _ HX.out hlen (sl_of_row (HOWN.out.kept (gb_below (HBw.out)) (own_em _)) HLT.out) F ?_).mono ?_
          · show F = gm _ ps
            rw [← HF.out, Bool.eq_iff_iff, gm_iff, matchB_iff, HSEM.out]; rfl
          · rintro e w2 ⟨rfl, hB2⟩
            have hrow2 := hrow.kept (gb_below hB2) (own_em _)
            have HB2 : Hid (Below w1.heap.size w1 w2) := HBw.out.trans (hB2.mono HBw.out.size)
            have hz2s := HB2.out.size
            clear hB2
            cases F
            · have HR : Hid (w2.ownsRow w1.heap.size 9 1 vn n (((L.take (k + 1)).filter (pick p)).map encStr)) := by
                rw [take_filter_no hlt HXL.out (by unfold pick; rw [HF.out, Bool.and_false])]
                exact hrow2
              clear hrow2 hrow
              go_wp2_with fail
              exact ⟨⟨k + 1, _, _, by go_num, rfl, by omega, HR.out, HB2.out⟩, by simp [intOf]; omega⟩
            · have HP : Hid ((L.take (k + 1)).filter (pick p) = (L.take k).filter (pick p) ++ [x]) := take_filter_yes hlt HXL.out (by unfold pick; rw [HF.out]; rw [HD.out]; rfl)
              have HNL := HN.out
              clear hrow
              go_wp2_with (at_builtin; refine wpList_append_own _ rfl _ _ 24 rfl w1.heap.size 9 i0 (.string ⟨#[]⟩) 1 16 Try.underlying24 hi hz0 hz1 hz2 rfl (by decide) _ _ _ rfl (hrow2.alloc _) ⟨w2.heap.size, 0, none⟩ 1 1 [encStr x] rfl rfl (fun j u hj => by match j, hj with | 0, hj => simp at hj; subst hj; simp [Addr.add]) (fun u hu => by simp at hu; subst hu; rfl) (by unfold maxLen; omega) (by omega) (by simp; omega) ?_)
              intro vm w3 hown3 hg3 _
              have hB3 : Below w1.heap.size w1 w3 := (HB2.out.alloc hz2s _).grown hg3 (by simp; omega) (fun j hj => (hrow2.lt j hj).1)
              have HR : Hid (w3.ownsRow w1.heap.size 9 1 vm (n + 1) (((L.take (k + 1)).filter (pick p)).map encStr)) := by
                rw [Hid, HP.out]
                simpa using hown3
              have HB3 := Lib.hid hB3
              clear hown3 hg3 hB3 hrow2
              go_wp2_with fail
              exact ⟨⟨k + 1, _, _, by go_num, rfl, by omega, HR.out, HB3.out⟩, by simp [intOf]; omega⟩
        · have hge : ¬ (k : Int) < (L.length : Int) := by omega
          rw [List.take_of_length_le (by omega), HM.out] at hrow
          have hnl : n = M.length := by have h1 := hrow.1; rw [List.length_map, Nat.mul_one] at h1; exact h1.symm
          subst hnl
          have hML := HN.out
          have HROW := Lib.hid hrow
          clear hrow HN
          go_wp2_with fail
          refine (Sort_own vn _ M wr HROW.out HBw.out.size (by omega)).mono ?_
          rintro e w2 ⟨rfl, hrow2, hB2⟩
          have HROW2 := Lib.hid hrow2
          have HB2 := Lib.hid (HBw.out.trans hB2)
          clear hrow2 hB2
          go_wp2_with fail
          refine (Compact_own vn _ (M.mergeSort fun x y => decide (x ≤ y)) w2 (by rw [List.length_mergeSort]; exact HROW2.out) HB2.out.size (by rw [List.length_mergeSort]; omega)).mono ?_
          rintro e w3 ⟨v', rfl, hs, hB3⟩
          have HS3 := Lib.hid hs
          have HB3 := Lib.hid (btrans HB1.out (HB2.out.trans hB3))
          clear hs hB3
          obtain ⟨a', c', rfl⟩ := HS3.out.len
          go_wp2_with fail
          go_ret
          exact ⟨_, rfl, HS3.out, HB3.out⟩
  · have HD : Hid (dots p = true) := HD0.out
    go_wp2_with fail
    go_loopw [7, 20] (fun va a wr => ∃ (k n : Nat) (vn : Value), a = .int .i64 k ∧ vn = va ∧ k ≤ L.length ∧ wr.ownsRow w1.heap.size 9 1 vn n (((L.take k).filter (pick p)).map encStr) ∧ Below w1.heap.size w1 wr) (fun _ a _ => L.length - (intOf a).toNat)
    case atStart => exact ⟨0, 0, _, rfl, rfl, by omega, World.ownsRow_nil _ _ _ _, Below.refl _ _⟩
    case round =>
      obtain ⟨k, n, vn, rfl, rfl, hk, hrow, hBw⟩ := hrel
      have HN : Hid (n ≤ L.length) := by
        have h1 := hrow.1
        rw [List.length_map, Nat.mul_one] at h1
        rw [Hid, ← h1]; exact filt_len p L k
      have HBw := Lib.hid hBw
      clear hBw
      by_cases hlt : k < L.length
      · have hltI : (k : Int) < (L.length : Int) := by omega
        have h0 : (0 : Int) ≤ (k : Int) := by omega
        have hck : wr.cell? ⟨g, off + k, none⟩ = some (encStr L[k]) := by
          rw [HBw.out.cell (p := ⟨g, off + k, none⟩) (Nat.lt_of_lt_of_le hg HB1.out.size), HB1.out.cell (p := ⟨g, off + k, none⟩) hg]
          exact hcell.out k hlt
        have hadd : (⟨g, off, none⟩ : Addr).add k = ⟨g, off + k, none⟩ := by unfold Addr.add; by_cases h : k = 0 <;> simp [h]
        have HX0 : Hid (L[k].length ≤ 100000) := hS.out _ (List.getElem_mem hlt)
        obtain ⟨x, hx⟩ : ∃ x, L[k] = x := ⟨_, rfl⟩
        rw [hx] at hck HX0
        rw [enc_bs] at hck
        have HX : Hid ((⟨x.toArray⟩ : ByteArray).size ≤ 100000) := HX0.out
        have HXL := Lib.hid hx
        obtain ⟨F, hF⟩ : ∃ F, matchB p ⟨x.toArray⟩ = F := ⟨_, rfl⟩
        have HF := Lib.hid hF
        clear hx hF HX0
        go_wp2_with fail
        refine (match_core v ps ⟨x.toArray⟩ _ HX.out hlen (sl_of_row (HOWN.out.kept (gb_below (HBw.out)) (own_em _)) HLT.out) F ?_).mono ?_
        · show F = gm _ ps
          rw [← HF.out, Bool.eq_iff_iff, gm_iff, matchB_iff, HSEM.out]; rfl
        · rintro e w2 ⟨rfl, hB2⟩
          have hrow2 := hrow.kept (gb_below hB2) (own_em _)
          have HB2 : Hid (Below w1.heap.size w1 w2) := HBw.out.trans (hB2.mono HBw.out.size)
          have hz2s := HB2.out.size
          clear hB2
          cases F
          · have HR : Hid (w2.ownsRow w1.heap.size 9 1 vn n (((L.take (k + 1)).filter (pick p)).map encStr)) := by
              rw [take_filter_no hlt HXL.out (by unfold pick; rw [HF.out, Bool.and_false])]
              exact hrow2
            clear hrow2 hrow
            go_wp2_with fail
            exact ⟨⟨k + 1, _, _, by go_num, rfl, by omega, HR.out, HB2.out⟩, by simp [intOf]; omega⟩
          · have HP : Hid ((L.take (k + 1)).filter (pick p) = (L.take k).filter (pick p) ++ [x]) := take_filter_yes hlt HXL.out (by unfold pick; rw [HF.out]; rw [HD.out]; rfl)
            have HNL := HN.out
            clear hrow
            go_wp2_with (at_builtin; refine wpList_append_own _ rfl _ _ 24 rfl w1.heap.size 9 i0 (.string ⟨#[]⟩) 1 16 Try.underlying24 hi hz0 hz1 hz2 rfl (by decide) _ _ _ rfl (hrow2.alloc _) ⟨w2.heap.size, 0, none⟩ 1 1 [encStr x] rfl rfl (fun j u hj => by match j, hj with | 0, hj => simp at hj; subst hj; simp [Addr.add]) (fun u hu => by simp at hu; subst hu; rfl) (by unfold maxLen; omega) (by omega) (by simp; omega) ?_)
            intro vm w3 hown3 hg3 _
            have hB3 : Below w1.heap.size w1 w3 := (HB2.out.alloc hz2s _).grown hg3 (by simp; omega) (fun j hj => (hrow2.lt j hj).1)
            have HR : Hid (w3.ownsRow w1.heap.size 9 1 vm (n + 1) (((L.take (k + 1)).filter (pick p)).map encStr)) := by
              rw [Hid, HP.out]
              simpa using hown3
            have HB3 := Lib.hid hB3
            clear hown3 hg3 hB3 hrow2
            go_wp2_with fail
            exact ⟨⟨k + 1, _, _, by go_num, rfl, by omega, HR.out, HB3.out⟩, by simp [intOf]; omega⟩
      · have hge : ¬ (k : Int) < (L.length : Int) := by omega
        rw [List.take_of_length_le (by omega), HM.out] at hrow
        have hnl : n = M.length := by have h1 := hrow.1; rw [List.length_map, Nat.mul_one] at h1; exact h1.symm
        subst hnl
        have hML := HN.out
        have HROW := Lib.hid hrow
        clear hrow HN
        go_wp2_with fail
        refine (Sort_own vn _ M wr HROW.out HBw.out.size (by omega)).mono ?_
        rintro e w2 ⟨rfl, hrow2, hB2⟩
        have HROW2 := Lib.hid hrow2
        have HB2 := Lib.hid (HBw.out.trans hB2)
        clear hrow2 hB2
        go_wp2_with fail
        refine (Compact_own vn _ (M.mergeSort fun x y => decide (x ≤ y)) w2 (by rw [List.length_mergeSort]; exact HROW2.out) HB2.out.size (by rw [List.length_mergeSort]; omega)).mono ?_
        rintro e w3 ⟨v', rfl, hs, hB3⟩
        have HS3 := Lib.hid hs
        have HB3 := Lib.hid (btrans HB1.out (HB2.out.trans hB3))
        clear hs hB3
        obtain ⟨a', c', rfl⟩ := HS3.out.len
        go_wp2_with fail
        go_ret
        exact ⟨_, rfl, HS3.out, HB3.out⟩
end Go.Proofs.Ythpmdgkhpigofaa
