import Derived.Test.YthpmdgkhpigofaaAC
namespace Go.Proofs.Ythpmdgkhpigofaa
open Go.RowKit

theorem semR_lit {x : RI} (h : x.k = 0) : (semR x).1 = 0 ∧ (semR x).2.1 = x.c := by
  unfold semR
  rw [if_neg (by omega), if_neg (by omega), if_neg (by omega)]
  exact ⟨rfl, rfl⟩
theorem semR_nolit {x : RI} (h : x.k ≠ 0) (h3 : x.k ≤ 3) : (semR x).1 ≠ 0 := by
  unfold semR
  by_cases h1 : x.k = 1
  · rw [if_pos h1]; simp [itStar]
  · rw [if_neg h1]
    by_cases h2 : x.k = 2
    · rw [if_pos h2]; simp [itOne]
    · rw [if_neg h2, if_pos (by omega)]; simp [itSet]

set_option maxRecDepth 100000 in
set_option maxHeartbeats 4000000 in
theorem RefPlain_any (p : ByteArray) (w : World) (hp : p.size ≤ 100000) (P : List It) (HP : Hid (pcs p (p.size + 1) 0 true = P)) :
    Calls Try.prog 17 #[.string p] w fun e w' => e = .returned (.tuple #[.string (if allLit P then ⟨(chars P).toArray⟩ else ⟨#[]⟩), .bool (allLit P)]) ∧ Below w.heap.size w w' := by
  obtain ⟨fl, hfl⟩ : ∃ fl, allLit P = fl := ⟨_, rfl⟩
  obtain ⟨rs, hrs⟩ : ∃ rs : ByteArray, (if allLit P then ⟨(chars P).toArray⟩ else ⟨#[]⟩) = rs := ⟨_, rfl⟩
  rw [hrs, hfl]
  have HFL := Lib.hid hfl
  have HRS : Hid ((if fl then ⟨(chars P).toArray⟩ else ⟨#[]⟩) = rs) := by unfold Hid; rw [← hfl]; exact hrs
  clear hfl hrs
  obtain ⟨i0, hi, hz0, hz1, hz2⟩ := info_parts bd_byte
  go_enter Try.func17, Try.ntmps17
  go_wp2_with fail
  refine (items_core p _ hp P HP).mono ?_
  rintro e w1 ⟨v, xs, rfl, hown, hok, hsem, hlen, hB⟩
  obtain ⟨A, C, rfl, hI⟩ := its_of hown hok
  have HSEM := Lib.hid hsem
  have HB1 := Lib.hid hB
  have HI := Lib.hid hI
  clear hown hok hsem hB hI
  go_wp2_with fail
  go_loopw [5, 6] (fun a i wr => ∃ k : Nat, i = .int .i64 k ∧ k ≤ xs.length ∧ Hid (ByR w1 wr a ((chars P).take k) ∧ ∀ j (h : j < xs.length), j < k → xs[j].k = 0)) (fun _ i _ => xs.length - (intOf i).toNat)
  case atStart => exact ⟨0, rfl, by omega, Lib.hid ⟨by simpa using ByR.nil w1, fun j _ h => absurd h (Nat.not_lt_zero _)⟩⟩
  case round =>
    obtain ⟨k, rfl, hk, HK⟩ := hrel
    by_cases hlt : k < xs.length
    · have hltI : (k : Int) < (xs.length : Int) := by omega
      obtain ⟨g, rfl, hgw, hit⟩ := HI.out (by omega)
      obtain ⟨hcs, hokx⟩ := hit k hlt
      have hcell : ∀ q v, q < 5 → xs[k].cs[q]? = some v → wr.cell? ⟨g, k * 5 + q, none⟩ = some v := fun q v hq hv => by
        rw [HK.out.1.2.cell (p := ⟨g, k * 5 + q, none⟩) hgw, hcs q hq, hv]
      have l0 := hcell 0 _ (by omega) rfl
      have l1 := hcell 1 _ (by omega) rfl
      rw [Nat.add_zero] at l0
      have hadd := add5 g k
      have HPK : Hid (P[k]? = some (semR xs[k])) := by unfold Hid; rw [← HSEM.out]; simp [hlt]
      have HLK : Hid (∀ h : k < xs.length, (semR xs[k]) = semR xs[k]) := fun _ => rfl
      have hzw := HK.out.1.2.size
      have h3 := hokx.k3
      have HXK : Hid (xs[k]? = some xs[k]) := by unfold Hid; simp [hlt]
      clear hcell hcs hokx hit HLK
      generalize xs[k] = x at *
      by_cases hx0 : x.k = 0
      · have hb : ((x.k : Int) != 0) = false := by simp [hx0]
        have HX0 := Lib.hid hx0
        have hown := HK.out.1.1
        have hnl : ((chars P).take k).length ≤ 100000 := by rw [List.length_take]; omega
        have HTK : Hid ((chars P).take (k + 1) = (chars P).take k ++ [x.c]) := by
          have hc : (chars P)[k]? = some x.c := by
            unfold chars
            rw [List.getElem?_map, HPK.out]
            exact congrArg some (semR_lit hx0).2
          unfold Hid
          rw [List.take_add_one, hc]; rfl
        clear hx0
        generalize (chars P).take k = l at *
        go_wp2_with (at_builtin; refine wpList_append_own _ rfl _ _ 33 rfl w1.heap.size 5 i0 (.int .u8 0) 1 1 Try.underlying33 hi hz0 hz1 hz2 rfl (by decide) _ _ _ rfl (hown.alloc _) ⟨wr.heap.size, 0, none⟩ 1 1 [.int .u8 x.c.toNat] rfl rfl ?c1 ?c2 ?c3 ?c4 ?c5 ?_)
        case c1 =>
          intro j u hj
          match j, hj with
          | 0, hj => simp at hj; subst hj; simp [Addr.add]
        case c2 => intro u hu; simp at hu; subst hu; rfl
        case c3 => unfold maxLen; omega
        case c4 => omega
        case c5 => simp; omega
        intro v' w2 hown' hgrow _
        have HX : Hid (ByR w1 w2 v' (l ++ [x.c])) := ⟨by rw [← bc_snoc, List.length_append]; simpa using hown', (HK.out.1.2.alloc hzw _).grown hgrow (by simp; omega) (fun j hj => (hown.lt j hj).1)⟩
        have HL : Hid (∀ j (h : j < xs.length), j < k + 1 → xs[j].k = 0) := by
          intro j hj hjk
          by_cases h : j < k
          · exact HK.out.2 j hj h
          · obtain rfl : j = k := by omega
            have := HXK.out
            rw [List.getElem?_eq_getElem hj] at this
            rw [Option.some.inj this]; exact HX0.out
        clear hown hown' hgrow
        go_wp2_with fail
        exact ⟨⟨k + 1, by go_num, by omega, by rw [HTK.out]; exact ⟨HX.out, HL.out⟩⟩, by simp [intOf]; omega⟩
      · have hb : ((x.k : Int) != 0) = true := by rw [bne_iff_ne]; omega
        have HA : Hid (fl = false) := by
          unfold Hid
          rw [← HFL.out]
          unfold allLit
          rw [List.all_eq_false]
          refine ⟨semR x, List.mem_of_getElem? HPK.out, ?_⟩
          have := semR_nolit hx0 h3
          simpa using this
        have HE : Hid (rs = ⟨#[]⟩) := by unfold Hid; rw [← HRS.out, HA.out]; rfl
        clear hx0
        go_wp2_with fail
        go_ret2
        refine ⟨by rw [HA.out, HE.out]; rfl, HB1.out.trans (HK.out.1.2.mono HB1.out.size)⟩
    · have hge : ¬ (k : Int) < (xs.length : Int) := by omega
      have HA : Hid (fl = true) := by
        unfold Hid
        rw [← HFL.out, ← HSEM.out]
        unfold allLit
        rw [List.all_eq_true]
        intro it hit
        obtain ⟨x, hx, rfl⟩ := List.mem_map.1 hit
        obtain ⟨j, hj, rfl⟩ := List.mem_iff_getElem.1 hx
        have := (semR_lit (HK.out.2 j hj (by omega))).1
        rw [this]; rfl
      have HE : Hid (rs = ⟨(chars P).toArray⟩) := by unfold Hid; rw [← HRS.out, HA.out]; rfl
      have hbd := HK.out.1
      rw [List.take_of_length_le (by unfold chars; rw [← HSEM.out]; simp; omega)] at hbd
      have hcv := own_conv hbd.1
      have HBD := Lib.hid hbd
      clear hbd
      go_wp2_with fail
      go_ret2
      exact ⟨by rw [HA.out, HE.out]; rfl, HB1.out.trans (HBD.out.2.mono HB1.out.size)⟩
end Go.Proofs.Ythpmdgkhpigofaa
