import Derived.Test.YthgddbdkdloobaaDoorOO
namespace Go.Proofs.YthgddbdkdloobaaDoor
open Go.RowKit
set_option linter.unusedVariables false

theorem Rf.grown {w w' : World} {B : Nat} {s : ByteArray} {pv : Value} {p d e : Nat} {z : Bool} {row : Option Nat} (h : Rf w B s pv p d e z) (hg : w.grownBy w' row) (hne : row ≠ some B) : Rf w' B s pv p d e z :=
  ⟨(grown_cell hg h.lt (fun e => hne e.symm)).trans h.c0, (grown_cell hg h.lt (fun e => hne e.symm)).trans h.c1, (grown_cell hg h.lt (fun e => hne e.symm)).trans h.c2, (grown_cell hg h.lt (fun e => hne e.symm)).trans h.c3, (grown_cell hg h.lt (fun e => hne e.symm)).trans h.c4, (grown_cell hg h.lt (fun e => hne e.symm)).trans h.c5,
    (World.frozen?_of_block (hg.block B h.lt (fun e => hne e.symm))).trans h.f2, (World.frozen?_of_block (hg.block B h.lt (fun e => hne e.symm))).trans h.f3, (World.frozen?_of_block (hg.block B h.lt (fun e => hne e.symm))).trans h.f4, (World.frozen?_of_block (hg.block B h.lt (fun e => hne e.symm))).trans h.f5⟩
theorem Rf.alloc {w : World} {B : Nat} {s : ByteArray} {pv : Value} {p d e : Nat} {z : Bool} (h : Rf w B s pv p d e z) (o : Obj) : Rf (w.alloc o) B s pv p d e z := h.grown (World.grownBy_alloc w o none) (by intro e; cases e)
/-! Begins. -/
set_option maxRecDepth 100000 in
set_option maxHeartbeats 2000000 in
theorem Begins_any (s x : ByteArray) (w : World) (hs : s.size ≤ 9223372036854775807) (hx : x.size ≤ 9223372036854775807) : Calls Tryd.prog 34 #[.string s, .string x] w fun e w' => e = .returned (.bool (decide (x.data.toList <+: s.data.toList))) ∧ w' = w := by
  have hl1 := dlen s
  have hl2 := dlen x
  obtain ⟨b, hb⟩ : ∃ b, decide (x.data.toList <+: s.data.toList) = b := ⟨_, rfl⟩
  rw [hb]
  by_cases h : x.size ≤ s.size
  · have hI : (x.size : Int) ≤ (s.size : Int) := by omega
    have hT := take_data s x.size
    obtain ⟨T, hTT⟩ : ∃ T, s.extract 0 x.size = T := ⟨_, rfl⟩
    rw [hTT] at hT
    have hq : (T.toList == x.toList) = b := by
      rw [← hb, str_eq, hT]
      rw [decide_eq_decide, List.prefix_iff_eq_take, hl2, Lib.toList_data]
      exact ⟨fun e => e.symm, fun e => e.symm⟩
    clear hT
    go_enter Tryd.func34, Tryd.ntmps34
    go_wp2_with fail
    go_ret
    exact ⟨rfl, rfl⟩
  · have hI : ¬ (x.size : Int) ≤ (s.size : Int) := by omega
    have hq : Hid (b = false) := by
      rw [Hid, ← hb, decide_eq_false_iff_not]
      intro e
      have := e.length_le
      omega
    clear hb
    have hJ : decide ((x.size : Int) ≤ (s.size : Int)) = false := by simpa using hI
    go_enter Tryd.func34, Tryd.ntmps34
    go_wp2_with fail
    go_ret
    exact ⟨by rw [hq.out]; rfl, rfl⟩
/-! The signs. -/
def SGb : List Bs := twos ++ ones.map fun c => [c]
def sgA (k : Nat) : ByteArray := ⟨(SGb.getD k []).toArray⟩
def sgV : Array Value := #[.string ⟨#[124, 124]⟩, .string ⟨#[38, 38]⟩, .string ⟨#[61, 61]⟩, .string ⟨#[33, 61]⟩, .string ⟨#[60, 61]⟩, .string ⟨#[62, 61]⟩, .string ⟨#[60, 60]⟩, .string ⟨#[62, 62]⟩, .string ⟨#[124]⟩, .string ⟨#[94]⟩, .string ⟨#[38]⟩, .string ⟨#[60]⟩, .string ⟨#[62]⟩, .string ⟨#[43]⟩, .string ⟨#[45]⟩, .string ⟨#[42]⟩, .string ⟨#[47]⟩, .string ⟨#[37]⟩, .string ⟨#[33]⟩, .string ⟨#[126]⟩, .string ⟨#[40]⟩, .string ⟨#[41]⟩]
theorem sgV_eq : sgV = ((List.range 22).map fun k => Value.string (sgA k)).toArray := rfl
theorem sgV_at {k : Nat} (hk : k < 22) : sgV[k]? = some (.string (sgA k)) := by rw [sgV_eq]; simp [hk]
theorem sg_len : ∀ k : Fin 22, (SGb.getD k.val []).length ≤ 2 := by decide
theorem sg_cells (w : World) : ∀ k, k < 22 → (w.alloc (.cells sgV 9)).cell? ⟨w.heap.size, k, none⟩ = some (.string (sgA k)) := by
  intro k hk
  rw [cell_of_row _ _ _ _ _ _ (heap_alloc_new w (.cells sgV 9))]
  exact sgV_at hk
theorem sg_two : ∀ k : Fin 22, k.val < 8 → SGb.getD k.val [] ∈ twos ∧ (SGb.getD k.val []).length = 2 := by decide
theorem sg_one : ∀ k : Fin 22, 8 ≤ k.val → ∃ c, SGb.getD k.val [] = [c] ∧ ones.contains c = true := by
  intro k hk
  refine ⟨(SGb.getD k.val []).headD 0, ?_⟩
  revert k
  decide
theorem two_sg {u : Bs} (h : u ∈ twos) : ∃ j, j < 8 ∧ SGb.getD j [] = u := by
  simp only [twos, List.mem_cons, List.not_mem_nil, or_false] at h
  rcases h with rfl | rfl | rfl | rfl | rfl | rfl | rfl | rfl
  · exact ⟨0, by omega, rfl⟩
  · exact ⟨1, by omega, rfl⟩
  · exact ⟨2, by omega, rfl⟩
  · exact ⟨3, by omega, rfl⟩
  · exact ⟨4, by omega, rfl⟩
  · exact ⟨5, by omega, rfl⟩
  · exact ⟨6, by omega, rfl⟩
  · exact ⟨7, by omega, rfl⟩
theorem one_sg : ∀ n : Fin 256, ones.contains (UInt8.ofNat n.val) = true → ∃ j : Fin 22, 8 ≤ j.val ∧ SGb.getD j.val [] = [UInt8.ofNat n.val] := by decide +kernel
theorem one_sg' {c : UInt8} (h : ones.contains c = true) : ∃ j, 8 ≤ j ∧ j < 22 ∧ SGb.getD j [] = [c] := by
  have := one_sg ⟨c.toNat, c.toNat_lt⟩
  simp only [UInt8.ofNat_toNat] at this
  obtain ⟨j, h1, h2⟩ := this h
  exact ⟨j.val, h1, j.isLt, h2⟩
theorem first_sg {X : Bs} {k : Nat} (hk : k < 22) (hno : ∀ j, j < k → ¬ SGb.getD j [] <+: X) (hyes : SGb.getD k [] <+: X) : SGb.getD k [] = opL X := by
  by_cases h8 : k < 8
  · obtain ⟨h1, h2⟩ := sg_two ⟨k, hk⟩ h8
    simp only at h1 h2
    have e := List.prefix_iff_eq_take.1 hyes
    rw [h2] at e
    rw [e] at h1
    rw [opL_two h1, e]
  · obtain ⟨c, h1, h2⟩ := sg_one ⟨k, hk⟩ (by simp only; omega)
    simp only at h1
    rw [h1] at hyes ⊢
    obtain ⟨t, rfl⟩ := hyes
    rw [opL_one (c := c) ?_ rfl h2]
    · rfl
    · intro hm
      obtain ⟨j, hj, he⟩ := two_sg hm
      exact hno j (by omega) (by rw [he]; exact List.take_prefix _ _)
theorem no_sg {X : Bs} (hno : ∀ j, j < 22 → ¬ SGb.getD j [] <+: X) : [] = opL X := by
  rw [opL_no (c := X.headD 0) ?_ rfl ?_]
  · intro hm
    obtain ⟨j, hj, he⟩ := two_sg hm
    exact hno j (by omega) (by rw [he]; exact List.take_prefix _ _)
  · cases hc : ones.contains (X.headD 0) with
    | false => rfl
    | true =>
      obtain ⟨j, h1, h2, h3⟩ := one_sg' hc
      cases X with
      | nil => simp [ones] at hc
      | cons a t => exact absurd (by rw [h3]; exact ⟨t, rfl⟩) (hno j h2)
set_option maxRecDepth 100000 in
set_option maxHeartbeats 4000000 in
theorem sign_any (s : ByteArray) (pv : Value) (p d bd : Nat) (z : Bool) (B : Nat) (w : World) (hs : s.size ≤ 1000000) (hp : p ≤ s.size) (h : Rf w B s pv p d bd z) :
    Calls Tryd.prog 23 #[.pointer (some ⟨B, 0, none⟩)] w fun e w' => e = .returned (.string (opS s (spos s p))) ∧ Kp B w w' ∧ Rf w' B s pv (spos s p) d bd z := by
  obtain ⟨Q, hQ⟩ : ∃ Q, spos s p = Q := ⟨_, rfl⟩
  have hQs : Q ≤ s.size := by rw [← hQ]; exact (spos_le s p hp).2
  rw [hQ]
  have HQ := Lib.hid hQ
  have HH := Lib.hid h
  have hX := drop_data s Q
  have hTs : (s.extract Q s.size).size ≤ 1000000 := by rw [ByteArray.size_extract]; omega
  obtain ⟨T, hT⟩ : ∃ T, s.extract Q s.size = T := ⟨_, rfl⟩
  rw [hT] at hX hTs
  have HX := Lib.hid hX
  have HT := Lib.hid hT
  have HBG := Lib.hid (fun (x : ByteArray) (hx : x.size ≤ 1000) (w : World) => Begins_any T x w (by omega) (by omega))
  rw [hX] at HBG
  clear hQ h hX hT
  go_enter Tryd.func23, Tryd.ntmps23
  go_wp2_with fail
  go_loopw [] (fun wr => ∃ k : Nat, p ≤ k ∧ k ≤ s.size ∧ Hid (Kp B w wr) ∧ Hid (Rf wr B s pv k d bd z) ∧ Hid (∀ j, p ≤ j → j < k → isBl (gb s j) = true)) (fun wr => s.size - atW B 2 wr)
  case atStart => exact ⟨p, Nat.le_refl _, hp, Kp.refl _ _, HH.out, fun j h1 h2 => by omega⟩
  case round =>
    obtain ⟨k, hpk, hk, HK, HR, HB⟩ := hrel
    have c0 := HR.out.c0
    have c2 := HR.out.c2
    have f2 := HR.out.f2
    by_cases hlt : k < s.size
    · have hltI : (k : Int) < (s.size : Int) := by omega
      have hgb := gb_eq s k hlt
      obtain ⟨c, hc⟩ : ∃ c, gb s k = c := ⟨_, rfl⟩
      have HC := Lib.hid hc
      rw [hc] at hgb
      clear hc
      have hsp := fun w => RefBlank_any c w
      obtain ⟨b, hb⟩ : ∃ b, isBl c = b := ⟨_, rfl⟩
      have HBB := Lib.hid hb
      rw [hb] at hsp
      have HSP := Lib.hid hsp
      clear hb hsp
      cases b
      · have HE : Hid (Q = k) := by rw [Hid, ← HQ.out]; exact spos_of hpk hk HB.out (.inr (by rw [HC.out]; exact HBB.out))
        go_wp2_with fail
        go_quiet ((go_at_call 33; exact Calls.quiet_of_same (HSP.out _)))
        obtain rfl : k = Q := HE.out.symm
        clear hltI c0 c2 f2
        go_wp2_with fail
        have HC0 := Lib.hid (sg_cells (wr.drewN nq))
        have HR0 := Lib.hid ((HR.out.drewN nq).alloc (.cells sgV 9))
        have HK0 := Lib.hid ((HK.out.trans (Kp.drewN _ _ nq)).alloc (.cells sgV 9))
        obtain ⟨G, hG⟩ : ∃ G, wr.heap.size = G := ⟨_, rfl⟩
        change Hid (∀ k, k < 22 → ((wr.drewN nq).alloc (.cells sgV 9)).cell? ⟨wr.heap.size, k, none⟩ = some (.string (sgA k))) at HC0
        rw [hG] at HC0 ⊢
        clear hG
        go_loopw [4] (fun i wq => ∃ m : Nat, m ≤ 22 ∧ i = .int .i64 m ∧ Hid (Kp B w wq) ∧ Hid (Rf wq B s pv k d bd z) ∧ Hid (∀ k, k < 22 → wq.cell? ⟨G, k, none⟩ = some (.string (sgA k))) ∧ Hid (∀ j, j < m → ¬ SGb.getD j [] <+: s.data.toList.drop k)) (fun i _ => 22 - (intOf i).toNat)
        case atStart => exact ⟨0, by omega, rfl, HK0.out, HR0.out, HC0.out, fun j hj => by omega⟩
        case round =>
          obtain ⟨k2, hk2, rfl, HK2, HR2, HCELL, HNO⟩ := hrel
          by_cases hlt2 : k2 < 22
          · have hlt2I : (k2 : Int) < 22 := by omega
            have hcell := HCELL.out k2 hlt2
            have r0 := HR2.out.c0
            have hT := HT.out
            have hkI : (k : Int) ≤ (s.size : Int) := by omega
            have r2 := HR2.out.c2
            have hPd : (sgA k2).data.toList = SGb.getD k2 [] := rfl
            have hPs : (sgA k2).size ≤ 1000 := by
              have := sg_len ⟨k2, hlt2⟩
              rw [← dlen, hPd]; simp only at this; omega
            obtain ⟨P, hP⟩ : ∃ P, sgA k2 = P := ⟨_, rfl⟩
            rw [hP] at hcell hPd hPs
            have hbg := HBG.out P hPs
            obtain ⟨b2, hb2⟩ : ∃ b2, decide (P.data.toList <+: s.data.toList.drop k) = b2 := ⟨_, rfl⟩
            rw [hb2] at hbg
            have HBB2 := Lib.hid hb2
            have HBG2 := Lib.hid hbg
            have HPD := Lib.hid hPd
            clear hP hPd hPs hb2 hbg
            cases b2 with
            | true =>
              have HE2 : Hid (P = opS s k) := by
                apply bs_ext
                rw [opS_data, HPD.out]
                exact first_sg hlt2 HNO.out (by rw [← HPD.out]; exact of_decide_eq_true HBB2.out)
              go_wp2_with fail
              go_quiet ((go_at_call 34; exact Calls.quiet_of_same (HBG2.out _)))
              go_wp2_with fail
              go_ret
              exact ⟨by rw [← HE2.out]; rfl, HK2.out.trans (Kp.drewN _ _ _), HR2.out.drewN _⟩
            | false =>
              go_wp2_with fail
              go_quiet ((go_at_call 34; exact Calls.quiet_of_same (HBG2.out _)))
              go_wp2_with fail
              refine ⟨⟨k2 + 1, by omega, rfl, HK2.out.trans (Kp.drewN _ _ _), HR2.out.drewN _, HCELL.out, ?_⟩, by simp [intOf]; omega⟩
              intro j hj
              by_cases hjk : j = k2
              · rw [hjk, ← HPD.out]; exact of_decide_eq_false HBB2.out
              · exact HNO.out j (by omega)
          · have hlt2I : ¬ (k2 : Int) < 22 := by omega
            have hdec2 : decide ((k2 : Int) < 22) = false := by simpa using hlt2I
            obtain rfl : k2 = 22 := by omega
            have HE2 : Hid ((⟨#[]⟩ : ByteArray) = opS s k) := by
              apply bs_ext
              rw [opS_data]
              exact no_sg HNO.out
            go_wp2_with fail
            go_ret
            exact ⟨by rw [← HE2.out]; rfl, HK2.out, HR2.out⟩
      · go_wp2_with fail
        go_quiet ((go_at_call 33; exact Calls.quiet_of_same (HSP.out _)))
        go_wp2_with fail
        have HR2 := (HR.out.drewN nq).set2 (k + 1)
        rw [cast1 k]
        refine ⟨⟨k + 1, by omega, by omega, (HK.out.trans (Kp.drewN _ _ _)).trans (Kp.setCell _ _ _ _), HR2, ?_⟩, ?_⟩
        · intro j h1 h2
          by_cases hj : j = k
          · rw [hj, HC.out]; exact HBB.out
          · exact HB.out j h1 (by omega)
        · rw [atW_of HR2.c2, atW_of c2]; omega
    · have hltI : ¬ (k : Int) < (s.size : Int) := by omega
      have HE : Hid (Q = k) := by rw [Hid, ← HQ.out]; exact spos_of hpk hk HB.out (.inl (by omega))
      go_wp2_with fail
      go_quiet (fail)
      obtain rfl : k = Q := HE.out.symm
      clear hltI c0 c2 f2
      go_wp2_with fail
      have HC0 := Lib.hid (sg_cells (wr.drewN nq))
      have HR0 := Lib.hid ((HR.out.drewN nq).alloc (.cells sgV 9))
      have HK0 := Lib.hid ((HK.out.trans (Kp.drewN _ _ nq)).alloc (.cells sgV 9))
      obtain ⟨G, hG⟩ : ∃ G, wr.heap.size = G := ⟨_, rfl⟩
      change Hid (∀ k, k < 22 → ((wr.drewN nq).alloc (.cells sgV 9)).cell? ⟨wr.heap.size, k, none⟩ = some (.string (sgA k))) at HC0
      rw [hG] at HC0 ⊢
      clear hG
      go_loopw [4] (fun i wq => ∃ m : Nat, m ≤ 22 ∧ i = .int .i64 m ∧ Hid (Kp B w wq) ∧ Hid (Rf wq B s pv k d bd z) ∧ Hid (∀ k, k < 22 → wq.cell? ⟨G, k, none⟩ = some (.string (sgA k))) ∧ Hid (∀ j, j < m → ¬ SGb.getD j [] <+: s.data.toList.drop k)) (fun i _ => 22 - (intOf i).toNat)
      case atStart => exact ⟨0, by omega, rfl, HK0.out, HR0.out, HC0.out, fun j hj => by omega⟩
      case round =>
        obtain ⟨k2, hk2, rfl, HK2, HR2, HCELL, HNO⟩ := hrel
        by_cases hlt2 : k2 < 22
        · have hlt2I : (k2 : Int) < 22 := by omega
          have hcell := HCELL.out k2 hlt2
          have r0 := HR2.out.c0
          have hT := HT.out
          have hkI : (k : Int) ≤ (s.size : Int) := by omega
          have r2 := HR2.out.c2
          have hPd : (sgA k2).data.toList = SGb.getD k2 [] := rfl
          have hPs : (sgA k2).size ≤ 1000 := by
            have := sg_len ⟨k2, hlt2⟩
            rw [← dlen, hPd]; simp only at this; omega
          obtain ⟨P, hP⟩ : ∃ P, sgA k2 = P := ⟨_, rfl⟩
          rw [hP] at hcell hPd hPs
          have hbg := HBG.out P hPs
          obtain ⟨b2, hb2⟩ : ∃ b2, decide (P.data.toList <+: s.data.toList.drop k) = b2 := ⟨_, rfl⟩
          rw [hb2] at hbg
          have HBB2 := Lib.hid hb2
          have HBG2 := Lib.hid hbg
          have HPD := Lib.hid hPd
          clear hP hPd hPs hb2 hbg
          cases b2 with
          | true =>
            have HE2 : Hid (P = opS s k) := by
              apply bs_ext
              rw [opS_data, HPD.out]
              exact first_sg hlt2 HNO.out (by rw [← HPD.out]; exact of_decide_eq_true HBB2.out)
            go_wp2_with fail
            go_quiet ((go_at_call 34; exact Calls.quiet_of_same (HBG2.out _)))
            go_wp2_with fail
            go_ret
            exact ⟨by rw [← HE2.out]; rfl, HK2.out.trans (Kp.drewN _ _ _), HR2.out.drewN _⟩
          | false =>
            go_wp2_with fail
            go_quiet ((go_at_call 34; exact Calls.quiet_of_same (HBG2.out _)))
            go_wp2_with fail
            refine ⟨⟨k2 + 1, by omega, rfl, HK2.out.trans (Kp.drewN _ _ _), HR2.out.drewN _, HCELL.out, ?_⟩, by simp [intOf]; omega⟩
            intro j hj
            by_cases hjk : j = k2
            · rw [hjk, ← HPD.out]; exact of_decide_eq_false HBB2.out
            · exact HNO.out j (by omega)
        · have hlt2I : ¬ (k2 : Int) < 22 := by omega
          have hdec2 : decide ((k2 : Int) < 22) = false := by simpa using hlt2I
          obtain rfl : k2 = 22 := by omega
          have HE2 : Hid ((⟨#[]⟩ : ByteArray) = opS s k) := by
            apply bs_ext
            rw [opS_data]
            exact no_sg HNO.out
          go_wp2_with fail
          go_ret
          exact ⟨by rw [← HE2.out]; rfl, HK2.out, HR2.out⟩
end Go.Proofs.YthgddbdkdloobaaDoor
