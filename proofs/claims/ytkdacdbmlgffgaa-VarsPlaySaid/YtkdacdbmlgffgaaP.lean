import Derived.Test.YtkdacdbmlgffgaaO
namespace Go.Proofs.Ytkdacdbmlgffgaa
open Go.RowKit
set_option linter.unusedVariables false

theorem setR_len {L : List Pr} {x y : ByteArray} : (setR L x y).length ≤ L.length + 1 := by
  unfold setR
  split
  · rw [setL_len]; split <;> omega
  · omega
theorem ris_setR {L : List Pr} (h : Ris L) (x y : ByteArray) : Ris (setR L x y) := by
  unfold setR
  split
  · exact ris_set h x y
  · exact h
theorem unsetL_len {L : List Pr} {x : Bs} : (unsetL L x).length ≤ L.length := by
  unfold unsetL
  split
  · exact (List.eraseIdx_sublist _ _).length_le
  · omega
theorem Acts.form {w : World} {v : Value} {l : List Act3} (h : Acts w v l) : ∃ a c, v = .slice a l.length c := by
  obtain ⟨a, c, h1, _⟩ := h.at'
  exact ⟨a, c, h1⟩
theorem Acts.get {w : World} {a : Option Addr} {n c : Nat} {l : List Act3} (h : Acts w (.slice a n c) l) (k : Nat) (hk : k < l.length) :
    ∃ b off x y, a = some ⟨b, off, none⟩ ∧ b < w.heap.size ∧ w.cell? ⟨b, off + k * 3, none⟩ = some (.bool l[k].o) ∧ w.cell? ⟨b, off + k * 3 + 1, none⟩ = some (.string x) ∧ w.cell? ⟨b, off + k * 3 + 2, none⟩ = some (.string y) ∧ x.size ≤ 9223372036854775807 ∧ y.size ≤ 9223372036854775807 ∧ l[k].n = x ∧ l[k].v = y := by
  obtain ⟨⟨aa, cc, e1, e2⟩, _⟩ := h
  obtain ⟨b, off, e3, h1, h2, h3, h4, h5, h6⟩ := e2 k hk
  injection e1 with e4 e6 e5
  unfold maxLen at h5 h6
  exact ⟨b, off, _, _, e4.trans e3, h1, h2, h3, h4, by omega, by omega, rfl, rfl⟩
theorem add3 (b off k : Nat) : (⟨b, off, none⟩ : Addr).add (k * 3) = ⟨b, off + k * 3, none⟩ := add_flat _ _ _
set_option maxRecDepth 100000 in
set_option maxHeartbeats 4000000 in
theorem copy_walk (v m : Value) (l more : List Act3) (W : World) (hA : Acts W v l) (hM : Acts W m more) :
    Calls Try.prog 4 #[v, m] W fun e W' => e = .returned (.bool true) ∧ Below W.heap.size W W' := by
  obtain ⟨a1, c1, rfl⟩ := hA.form
  obtain ⟨a2, c2, rfl⟩ := hM.form
  have HA := Lib.hid hA
  have HM := Lib.hid hM
  have hl0 : (0 : Int) ≤ (l.length : Int) := by omega
  have hm0 : (0 : Int) ≤ (more.length : Int) := by omega
  clear hA hM
  obtain ⟨b1, hb1⟩ : ∃ b, decide ((60 : Int) < (l.length : Int)) = b := ⟨_, rfl⟩
  obtain ⟨b2, hb2⟩ : ∃ b, decide ((60 : Int) < (more.length : Int)) = b := ⟨_, rfl⟩
  have HL := Lib.hid (fun h : b1 = false => (by have := of_decide_eq_false (hb1.trans h); omega : l.length ≤ 60))
  have HL2 := Lib.hid (fun h : b2 = false => (by have := of_decide_eq_false (hb2.trans h); omega : more.length ≤ 60))
  cases b1 with
  | true =>
    go_enter Try.func4, Try.ntmps4
    go_wp2_with fail
    refine (alive_any _).mono ?_
    rintro e w1 ⟨rfl, hB1⟩
    have HB1 := Lib.hid hB1
    clear hB1
    simp only []
    go_wp2_with fail
    go_ret
    exact ⟨rfl, HB1.out⟩
  | false =>
    cases b2 with
    | true =>
      go_enter Try.func4, Try.ntmps4
      go_wp2_with fail
      refine (alive_any _).mono ?_
      rintro e w1 ⟨rfl, hB1⟩
      have HB1 := Lib.hid hB1
      clear hB1
      simp only []
      go_wp2_with fail
      go_ret
      exact ⟨rfl, HB1.out⟩
    | false =>
      have hln := HL.out rfl
      have hmn := HL2.out rfl
      have hlI : (l.length : Int) ≤ 60 := by omega
      have hmI : (more.length : Int) ≤ 60 := by omega
      obtain ⟨n, hn⟩ : ∃ n, l.length = n := ⟨_, rfl⟩
      obtain ⟨mm, hmm⟩ : ∃ mm, more.length = mm := ⟨_, rfl⟩
      have HN := Lib.hid hn
      have HMM := Lib.hid hmm
      rw [hn] at hb1 hl0 hlI hln HA ⊢
      rw [hmm] at hb2 hm0 hmI hmn HM ⊢
      clear hn hmm HL HL2
      go_enter Try.func4, Try.ntmps4
      go_wp2_with fail
      refine (alive_any _).mono ?_
      rintro e w1 ⟨rfl, hB1⟩
      have HB1 := Lib.hid hB1
      clear hB1
      simp only []
      go_wp2_with fail
      have HB2 : Hid (Below W.heap.size W (w1.alloc (.cells #[.slice none 0 0] 26))) := HB1.out.alloc HB1.out.size _
      have HV0 := Lib.hid (VAt.new w1 26 W.heap.size HB1.out.size)
      obtain ⟨g, hg⟩ : ∃ g, w1.heap.size = g := ⟨_, rfl⟩
      rw [hg] at HV0 ⊢
      clear hg
      go_loopw [7] (fun i wr => ∃ (k : Nat) (L : List Pr) (v1 : Value), k ≤ n ∧ i = .int .i64 k ∧ Hid (VAt wr 26 W.heap.size g v1 L) ∧ Hid (Ris L) ∧ Hid (L.length ≤ k) ∧ Hid (Below W.heap.size W wr)) (fun i _ => n - (intOf i).toNat)
      case atStart => exact ⟨0, [], _, by omega, rfl, HV0.out, by simp [Hid, Ris], by simp [Hid], HB2.out⟩
      case round =>
        obtain ⟨k, L, v1, hk, rfl, HV, HR, HLn, HB⟩ := hrel
        by_cases hlt : k < n
        · have hltI : (k : Int) < (n : Int) := by omega
          have hk0 : (0 : Int) ≤ (k : Int) := by omega
          have hkl : k < l.length := by have := HN.out; omega
          obtain ⟨b, off, x, y, rfl, hbl, p0, p1, p2, z1, z2, hx, hy⟩ := (HA.out.below HB.out).get k hkl
          have ad := add3 b off k
          have HS := Lib.hid (fun w' (h : Below wr.heap.size wr w') => Set_any g v1 L x y W.heap.size w' (by have := HLn.out; omega) z1 (Nat.le_trans HB.out.size h.size) HR.out (HV.out.below h))
          have HD := Lib.hid ((Below.refl wr.heap.size wr).drew)
          clear z1 z2 hx hy p0
          go_wp2_with fail
          go_still_tail 10, (by kernel_rfl)
          change wpList _ _ _ _ _ wr.drew
          generalize wr.drew = w2 at HD ⊢
          go_wp2_with fail
          refine (HS.out _ HD.out).mono ?_
          rintro e w3 ⟨rfl, hm⟩
          have HB3 := Lib.hid ((HB.out.trans (HD.out.mono HB.out.size)).trans (hm.bel (HV.out.below HD.out) (HB.out.trans (HD.out.mono HB.out.size)).size))
          obtain ⟨v3, hV3, _⟩ := hm
          have HV3 := Lib.hid hV3
          have HR3 := Lib.hid (ris_setR HR.out x y)
          have HL3 : Hid ((setR L x y).length ≤ k + 1) := Nat.le_trans setR_len (by have := HLn.out; omega)
          clear hV3
          simp only []
          go_wp2_with fail
          exact ⟨⟨k + 1, _, v3, by omega, by go_num, HV3.out, HR3.out, HL3.out, HB3.out⟩, by simp [intOf]; omega⟩
        · have hge : ¬ (k : Int) < (n : Int) := by omega
          have HLL : Hid (L.length ≤ 50000) := by have := HLn.out; unfold Hid; omega
          have HL60 : Hid (L.length ≤ 60) := by have := HLn.out; unfold Hid; omega
          have HAL := Lib.hid (fun w' (h : VAt w' 26 W.heap.size g v1 L) => All_any g v1 L W.heap.size w' HLL.out h)
          have HCO := Lib.hid (fun w' (h : VAt w' 26 W.heap.size g v1 L) => Copy_any g v1 L W.heap.size w' HLL.out h)
          clear HLn
          go_wp2_with fail
          refine (HAL.out _ HV.out).mono ?_
          rintro e w2 ⟨⟨vw, rfl, hw⟩, hb2⟩
          have HW2 := Lib.hid hw
          have HB2 := Lib.hid (HB.out.trans (hb2.mono HB.out.size))
          have HV2 := Lib.hid (HV.out.below hb2)
          clear hw hb2
          simp only []
          go_wp2_with fail
          refine (HCO.out _ HV2.out).mono ?_
          rintro e w3 ⟨⟨g3, v3, rfl, hv3, ho3⟩, hb3⟩
          have HB3 := Lib.hid (HB2.out.trans (hb3.mono HB2.out.size))
          have HV3 := Lib.hid (HV2.out.below hb3)
          have HW3 := Lib.hid (HW2.out.only (S := fun _ => False) (Only.of_below hb3) (fun _ _ h => h))
          have HC3 := Lib.hid hv3
          have HAL3 := Lib.hid (All_any g3 v3 L w2.heap.size w3 HLL.out hv3)
          have HOO := Lib.hid ho3
          have HZ := Lib.hid hb3.size
          clear hv3 hb3 ho3
          simp only []
          go_wp2_with fail
          refine HAL3.out.mono ?_
          rintro e w4 ⟨⟨v4, rfl, hw4⟩, hb4⟩
          have HW4 := Lib.hid hw4
          have HB4 := Lib.hid (HB3.out.trans (hb4.mono HB3.out.size))
          have HV4 := Lib.hid (HV3.out.below hb4)
          have HC4 := Lib.hid (HC3.out.below hb4)
          have HX4 := Lib.hid (HW3.out.only (S := fun _ => False) (Only.of_below hb4) (fun _ _ h => h))
          have HSP := Lib.hid (SamePairs_any v4 vw L L _ _ w4 (by have := HLL.out; omega) (by have := HLL.out; omega) hw4 HX4.out)
          rw [show decide (L = L) = true from decide_eq_true rfl] at HSP
          have HZ4 := Lib.hid (Nat.le_trans HZ.out hb4.size)
          clear hw4 hb4
          simp only []
          go_wp2_with fail
          refine HSP.out.mono ?_
          rintro e w5 ⟨rfl, hb5⟩
          have HB5 := Lib.hid (HB4.out.trans (hb5.mono HB4.out.size))
          have HV5 := Lib.hid (HV4.out.below hb5)
          have HC5 := Lib.hid (HC4.out.below hb5)
          have HX5 := Lib.hid (HX4.out.only (S := fun _ => False) (Only.of_below hb5) (fun _ _ h => h))
          have HZ5 := Lib.hid (Nat.le_trans HZ4.out hb5.size)
          clear hb5
          simp only []
          go_wp2_with fail
          obtain ⟨B2, hB2⟩ : ∃ B2, w2.heap.size = B2 := ⟨_, rfl⟩
          have HB2W : Hid (W.heap.size ≤ B2) := by unfold Hid; rw [← hB2]; exact HB2.out.size
          have HVB : Hid (g < B2 ∧ (∀ i, v1.ownBlock = some i → i < B2) ∧ (∀ i, vw.ownBlock = some i → i < B2)) := by
            rw [← hB2]
            exact ⟨HV2.out.lt, fun i hi => (HV2.out.row.lt i hi).2, fun i hi => (HW2.out.lt i hi).2⟩
          rw [hB2] at HC5 HZ5
          clear hB2 HAL3 HSP HC3 HC4 HZ HZ4 HOO
          go_loopw [10] (fun i wr => ∃ (j : Nat) (M : List Pr) (vc : Value), j ≤ mm ∧ i = .int .i64 j ∧ Hid (VAt wr 26 B2 g3 vc M) ∧ Hid (Ris M) ∧ Hid (M.length ≤ L.length + j) ∧ Hid (Below B2 w5 wr)) (fun i _ => mm - (intOf i).toNat)
          case atStart => exact ⟨0, L, _, by omega, rfl, HC5.out, HR.out, by simp [Hid], Below.refl _ _⟩
          case round =>
            obtain ⟨j, M, vc, hj, rfl, HVc, HRc, HLc, HBc⟩ := hrel
            have HBW := Lib.hid (HB5.out.trans (HBc.out.mono HB2W.out))
            by_cases hlt : j < mm
            · have hltI : (j : Int) < (mm : Int) := by omega
              have hj0 : (0 : Int) ≤ (j : Int) := by omega
              have hjl : j < more.length := by have := HMM.out; omega
              obtain ⟨b, off, x, y, rfl, hbl, q0, q1, q2, z1, z2, hx, hy⟩ := HM.out.get j hjl
              have HQ2 := Lib.hid q2
              have HBL := Lib.hid hbl
              have p1 := (HBW.out.cell (p := ⟨b, off + j * 3 + 1, none⟩) hbl).trans q1
              have p2 := (HBW.out.cell (p := ⟨b, off + j * 3 + 2, none⟩) hbl).trans q2
              have ad := add3 b off j
              have HS := Lib.hid (fun w' (h : Below wr.heap.size wr w') => Set_any g3 vc M x y B2 w' (by have := HLc.out; have := HL60.out; omega) z1 (Nat.le_trans HZ5.out (Nat.le_trans HBc.out.size h.size)) HRc.out (HVc.out.below h))
              have HD := Lib.hid ((Below.refl wr.heap.size wr).drew)
              clear z1 z2 hx hy q0 q1 q2 hbl
              go_wp2_with fail
              go_still_tail 11, (by kernel_rfl)
              change wpList _ _ _ _ _ wr.drew
              generalize wr.drew = w6 at HD ⊢
              go_wp2_with fail
              refine (HS.out _ HD.out).mono ?_
              rintro e w7 ⟨rfl, hm⟩
              have HB6 := Lib.hid (HBc.out.trans (HD.out.mono (Nat.le_trans HZ5.out HBc.out.size)))
              have HB7 := Lib.hid (HB6.out.trans (hm.bel (HVc.out.below HD.out) (Nat.le_trans HZ5.out HB6.out.size)))
              obtain ⟨v7, hV7, _⟩ := hm
              have HV7 := Lib.hid hV7
              have HR7 := Lib.hid (ris_setR HRc.out x y)
              have HL7 : Hid ((setR M x y).length ≤ L.length + (j + 1)) := Nat.le_trans setR_len (by have := HLc.out; omega)
              have HU := Lib.hid (Unset_any g3 v7 (setR M x y) y B2 w7 (by have := HL7.out; have := HL60.out; omega) HR7.out HV7.out)
              have p2 := ((HB5.out.trans (HB7.out.mono HB2W.out)).cell (p := ⟨b, off + j * 3 + 2, none⟩) HBL.out).trans HQ2.out
              clear hV7
              simp only []
              go_wp2_with fail
              refine HU.out.mono ?_
              rintro e w8 ⟨rfl, hm⟩
              have HB8 := Lib.hid (HB7.out.trans (hm.bel HV7.out (Nat.le_trans HZ5.out HB7.out.size)))
              obtain ⟨v8, hV8, _⟩ := hm
              have HV8 := Lib.hid hV8
              have HR8 := Lib.hid (ris_unset HR7.out y.data.toList)
              have HL8 : Hid ((unsetL (setR M x y) y.data.toList).length ≤ L.length + (j + 1)) := Nat.le_trans unsetL_len HL7.out
              clear hV8 p2
              simp only []
              go_wp2_with fail
              exact ⟨⟨j + 1, _, v8, by omega, by go_num, HV8.out, HR8.out, HL8.out, HB8.out⟩, by simp [intOf]; omega⟩
            · have hge : ¬ (j : Int) < (mm : Int) := by omega
              have HVE : Hid (VAt wr 26 W.heap.size g v1 L) := HV5.out.only (S := fun i => ¬ i < B2) ⟨HBc.out.os, HBc.out.tape, HBc.out.output, HBc.out.size, fun i hi hn => HBc.out.block i (by simpa using hn)⟩ (fun h => h HVB.out.1) (fun i hi h => h (HVB.out.2.1 i hi))
              have HXE := Lib.hid (HX5.out.only (S := fun i => ¬ i < B2) ⟨HBc.out.os, HBc.out.tape, HBc.out.output, HBc.out.size, fun i hi hn => HBc.out.block i (by simpa using hn)⟩ (fun i hi h => h (HVB.out.2.2 i hi)))
              have HAE := Lib.hid (All_any g v1 L W.heap.size wr HLL.out HVE.out)
              go_wp2_with fail
              refine HAE.out.mono ?_
              rintro e w9 ⟨⟨v9, rfl, hw9⟩, hb9⟩
              have HB9 := Lib.hid (HBW.out.trans (hb9.mono HBW.out.size))
              have HX9 := Lib.hid (HXE.out.only (S := fun _ => False) (Only.of_below hb9) (fun _ _ h => h))
              have HSP := Lib.hid (SamePairs_any v9 vw L L _ _ w9 (by have := HLL.out; omega) (by have := HLL.out; omega) hw9 HX9.out)
              rw [show decide (L = L) = true from decide_eq_true rfl] at HSP
              clear hw9 hb9
              simp only []
              go_wp2_with fail
              refine HSP.out.mono ?_
              rintro e w10 ⟨rfl, hb⟩
              have HB10 := Lib.hid (HB9.out.trans (hb.mono HB9.out.size))
              clear hb
              simp only []
              go_wp2_with fail
              go_ret
              exact ⟨rfl, HB10.out⟩
end Go.Proofs.Ytkdacdbmlgffgaa
