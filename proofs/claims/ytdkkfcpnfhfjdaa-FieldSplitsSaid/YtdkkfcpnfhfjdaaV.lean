import Derived.Test.YtdkkfcpnfhfjdaaU
namespace Go.Proofs.Ytdkkfcpnfhfjdaa
open Go.RowKit
set_option linter.unusedVariables false

/-- What stands behind a row of fields: each field's parts, to be read. -/
theorem fld_at {w5 : World} {B : Nat} {v : Value} {vals : List Value} {FS : List (List Pt)} (hF : Flds w5 B v vals FS) :
    ∃ a c, v = .slice a FS.length c ∧ ∀ i (hi : i < FS.length), ∃ b s cs, a = some ⟨b, 0, none⟩ ∧ (∀ w', Below w5.heap.size w5 w' → w'.cell? ⟨b, i, none⟩ = some (.slice s FS[i].length cs)) ∧
      ∀ w', Below w5.heap.size w5 w' → Sl w' (.slice s FS[i].length cs) FS[i] := by
  obtain ⟨a, c, h3, h4⟩ := hF.form
  refine ⟨a, c, h3, fun i hi => ?_⟩
  obtain ⟨b, h5, h6⟩ := h4 i hi
  have hr := hF.rows i hi
  obtain ⟨s, cs, hs⟩ := hr.form
  rw [hs] at h6 hr
  exact ⟨b, s, cs, h5, fun w' hB => (hB.cell (p := ⟨b, i, none⟩) (World.block_lt_of_cell? w5 _ h6)).trans h6, fun w' hB => (hr.below hB).sl⟩
theorem p3_at {FS GS : List (List Pt)} (h : p3s FS = p3s GS) {k : Nat} (hl : k < FS.length) (hm : k < GS.length) : p2s FS[k] = p2s GS[k] := by
  have e : (p3s FS)[k]'(by simpa [p3s] using hl) = (p3s GS)[k]'(by simpa [p3s] using hm) := by simp [h]
  simpa [p3s] using e
set_option maxRecDepth 100000 in
set_option maxHeartbeats 8000000 in
theorem SameWords_any (u v : Value) (FS GS : List (List Pt)) (w : World) (B B' : Nat) (us vs : List Value) (hL : FS.length ≤ 100000) (hn : ∀ F ∈ FS, F.length ≤ 90000) (h1 : Flds w B u us FS) (h2 : Flds w B' v vs GS) (he : p3s FS = p3s GS) :
    Calls Try.prog 8 #[u, v] w fun e w' => e = .returned (.bool true) ∧ ∃ n, w' = w.drewN n := by
  obtain ⟨a1, c1, hu, f1⟩ := fld_at h1
  obtain ⟨a2, c2, hv, f2⟩ := fld_at h2
  subst hu
  subst hv
  have H1 := Lib.hid f1
  have H2 := Lib.hid f2
  have HE := Lib.hid he
  have HN := Lib.hid hn
  have hlen : FS.length = GS.length := by have := congrArg List.length he; simpa [p3s] using this
  have hlI : (FS.length : Int) ≤ 100000 := by omega
  rw [← hlen]
  have HL := Lib.hid hlen
  clear h1 h2 he hlen f1 f2 hn
  go_enter Try.func8, Try.ntmps8
  go_wp2_with fail
  go_loopw [5] (fun i wx => ∃ k : Nat, k ≤ FS.length ∧ i = .int .i64 k ∧ Hid (∃ n, wx = w.drewN n)) (fun i _ => FS.length - (intOf i).toNat)
  case atStart => exact ⟨0, by omega, rfl, 0, (World.drewN_zero _).symm⟩
  case round =>
    obtain ⟨k, hk, rfl, HD⟩ := hrel
    by_cases hlt : k < FS.length
    · have hltI : (k : Int) < (FS.length : Int) := by omega
      have hltd : decide ((k : Int) < (FS.length : Int)) = true := decide_eq_true hltI
      have hk0 : (0 : Int) ≤ (k : Int) := by omega
      have hB : Below w.heap.size w wr := by obtain ⟨n, hn⟩ := HD.out; rw [hn]; exact drew_below _ _
      obtain ⟨b, s, cs, e1, q1, r1⟩ := H1.out k hlt
      obtain ⟨b', s', cs', e2, q2, r2⟩ := H2.out k (HL.out ▸ hlt)
      have g1 := p3_at HE.out hlt (HL.out ▸ hlt)
      have hFl := HN.out _ (List.getElem_mem hlt)
      have HC : Hid (∀ n, Calls Try.prog 15 #[.slice s FS[k].length cs, .slice s' (GS[k]'(HL.out ▸ hlt)).length cs'] (wr.drewN n) fun e w' => e = .returned (.bool true) ∧ ∃ m, w' = (wr.drewN n).drewN m) := fun n =>
        SameParts_any _ _ FS[k] (GS[k]'(HL.out ▸ hlt)) (wr.drewN n) (by omega) (r1 _ (hB.trans ((drew_below wr n).mono hB.size))) (r2 _ (hB.trans ((drew_below wr n).mono hB.size))) g1
      have c1' := q1 _ hB
      have c2' := q2 _ hB
      obtain ⟨n1, hn1⟩ : ∃ n, FS[k].length = n := ⟨_, rfl⟩
      obtain ⟨n2, hn2⟩ : ∃ n, (GS[k]'(HL.out ▸ hlt)).length = n := ⟨_, rfl⟩
      rw [hn1] at c1'
      rw [hn2] at c2'
      simp only [hn1, hn2] at HC
      subst e1
      subst e2
      have ad := addn b 0 k
      have ad' := addn b' 0 k
      rw [Nat.zero_add] at ad ad'
      have HD2 : ∀ n, Hid (∃ m, wr.drewN n = w.drewN m) := fun n => by
        obtain ⟨m, hm⟩ := HD.out
        exact ⟨m + n, by rw [hm, World.drewN_drewN]⟩
      have HDD := Lib.hid HD2
      clear HD2 hB q1 q2 r1 r2 g1 hFl hn1 hn2
      go_wp2_with fail
      go_quiet ((go_at_call 15; exact Calls.quiet_of (HC.out _)))
      go_wp2_with fail
      go_roundw
      case measure => simp [intOf]; omega
      case rel => exact ⟨k + 1, by omega, by go_num, (HDD.out _).out⟩
    · obtain rfl : k = FS.length := by omega
      have hltd : decide ((FS.length : Int) < (FS.length : Int)) = false := decide_eq_false (by omega)
      go_wp2_with fail
      go_ret
      exact ⟨rfl, HD.out⟩
theorem pcs_back : ∀ (L : List Pt) (j : Nat) (u : Value), (pcs L)[j]? = some u → ∃ i q, ∃ h : i < L.length, j = i * 6 + q ∧ L[i].cs[q]? = some u
  | [], j, u, h => by simp [pcs] at h
  | p :: L, j, u, h => by
    have e : pcs (p :: L) = p.cs ++ pcs L := rfl
    rw [e] at h
    have hl : p.cs.length = 6 := rfl
    by_cases hj : j < 6
    · rw [List.getElem?_append_left (by omega)] at h
      exact ⟨0, j, by simp, by omega, h⟩
    · rw [List.getElem?_append_right (by omega), hl] at h
      obtain ⟨i, q, h1, h2, h3⟩ := pcs_back L (j - 6) u h
      exact ⟨i + 1, q, by simpa using h1, by omega, h3⟩
/-- append(nil, l...): the parts in a row of the call's own. -/
theorem own_copy {w : World} {v : Value} {L : List RP} (h : Rw w v L) (hb : bigL L = false) :
    ∃ v' w', (Builtin.append_ #[22, 22] 22 #[.slice none 0 0, v]).run Try.prog w = .ok v' w' ∧ Row w' w.heap.size v' (L.map RP.pt) ∧ Below w.heap.size w w' := by
  obtain ⟨i0, hi, hz0, hz1, hz2⟩ := info_parts info31
  have hS := h.sl hb
  obtain ⟨h40, _⟩ := small_of hb
  obtain ⟨a, c, e1, h2⟩ := hS.form
  have hl2 : (L.map RP.pt).length = L.length := List.length_map _
  cases a with
  | none =>
    have hc := h.nilc _ _ e1
    have hL0 : (L.map RP.pt).length = 0 := by
      rcases Nat.eq_zero_or_pos (L.map RP.pt).length with h0 | h0
      · exact h0
      · obtain ⟨b, off, e, _⟩ := h2 0 h0; cases e
    have hnil : L.map RP.pt = [] := List.length_eq_zero_iff.1 hL0
    rw [hL0, hc] at e1
    subst e1
    refine ⟨_, _, run_append_owned_none (P := Try.prog) (w := w) w.heap.size 22 22 31 i0 6 Try.underlying22 hi (.slice none 0 0) 0 [] (World.ownsRow_nil _ _ _ _), ?_, Below.refl _ _⟩
    rw [hnil]; exact Row.nil _ _
  | some a =>
    obtain ⟨v', w', r1, r2, r3, r4⟩ := run_append_own (P := Try.prog) w w.heap.size 22 22 31 i0 _ 6 88 Try.underlying22 hi hz0 hz1 hz2 rfl (by decide) (.slice none 0 0) 0 [] (World.ownsRow_nil _ _ _ _) a (L.map RP.pt).length c (pcs (L.map RP.pt)) (pcs_len _)
      (fun j u hj => by
        obtain ⟨i, q, h3, rfl, h4⟩ := pcs_back _ j u hj
        obtain ⟨b, off, e5, e6, e7⟩ := h2 i h3
        injection e5 with e5
        subst e5
        rw [addn, ← Nat.add_assoc]; exact e7 q u h4)
      (pcs_one hS.ok) (by unfold maxLen; omega) (by omega) (Nat.le_refl _)
    subst e1
    refine ⟨v', w', r1, ⟨?_, hS.ok⟩, ?_⟩
    · simpa using r2
    · exact (Only.of_grown (S := fun i => (Value.slice none 0 0).ownBlock = some i) r3 (fun k hk => hk)).below (fun k hk => by simp [Value.ownBlock] at hk) (Nat.le_refl _)
set_option maxRecDepth 100000 in
set_option maxHeartbeats 8000000 in
theorem splits_walk (v : Value) (L : List RP) (w : World) (hR : Rw w v L) : Calls Try.prog 3 #[v] w fun e w' => e = .returned (.bool true) ∧ Below w.heap.size w w' := by
  obtain ⟨a0, c0, hv, _⟩ := hR.form
  subst hv
  have HR := Lib.hid hR
  have HBG : Hid (∀ w', Below w.heap.size w w' → Calls Try.prog 7 #[.slice a0 L.length c0] w' fun e w2 => e = .returned (.bool (bigL L)) ∧ w2 = w') := fun w' hb => Big_any _ L w' (hR.below hb)
  clear hR
  cases hbig : bigL L with
  | true =>
    rw [hbig] at HBG
    clear hbig
    go_enter Try.func3, Try.ntmps3
    go_wp2_with (go_at_call 6; refine (alive_any _).mono ?_; rintro e w1 ⟨rfl, hb1⟩; have HB1 := Lib.hid hb1; clear hb1; simp only [])
    go_wp2_with (go_at_call 7; refine (HBG.out _ HB1.out).mono ?_; rintro e w2 ⟨rfl, hw2⟩; obtain rfl := hw2.symm; simp only [])
    go_ret
    exact ⟨rfl, HB1.out⟩
  | false =>
    obtain ⟨h40, hsm⟩ := small_of hbig
    have hlm : (L.map RP.pt).length = L.length := List.length_map _
    have hsz : ∀ p ∈ L.map RP.pt, p.t.size ≤ 300 ∧ (-9223372036854775808 ≤ p.k ∧ p.k ≤ 9223372036854775807) := by
      intro q hq
      obtain ⟨r, hr, rfl⟩ := List.mem_map.1 hq
      obtain ⟨h1, h2, _⟩ := hsm r hr
      exact ⟨h1, by show -9223372036854775808 ≤ r.k ∧ r.k ≤ 9223372036854775807; omega⟩
    have hbg : Hid (bigL L = false) := hbig
    have htx : (textL (p2s (L.map RP.pt))).length ≤ 1000000 ∧ (patL (p2s (L.map RP.pt))).length ≤ 1000000 := by
      have key : ∀ M : List Pt, (∀ p ∈ M, p.t.size ≤ 300) → (textL (p2s M)).length ≤ M.length * 300 ∧ (patL (p2s M)).length ≤ M.length * 600 := by
        intro M
        induction M with
        | nil => intro _; simp [textL, patL, p2s]
        | cons p M ih =>
          intro h
          obtain ⟨i1, i2⟩ := ih (fun q hq => h q (by simp [hq]))
          have h3 := h p (by simp)
          have e : p.t.data.toList.length = p.t.size := Array.length_toList
          have e2 := qt_le p.t.data.toList
          have e3 : textL (p2s (p :: M)) = p.t.data.toList ++ textL (p2s M) := by simp [textL, p2s, Pt.p2]
          have e4 : patL (p2s (p :: M)) = (if p.k = 1 then p.t.data.toList else qt p.t.data.toList) ++ patL (p2s M) := by simp [patL, p2s, Pt.p2]
          rw [e3, e4, List.length_append, List.length_append, List.length_cons]
          constructor
          · omega
          · split <;> omega
      have := key _ (fun p hp => (hsz p hp).1)
      omega
    obtain ⟨htx1, htx2⟩ := htx
    have HSL : Hid (∀ w', Below w.heap.size w w' → Sl w' (.slice a0 L.length c0) (L.map RP.pt)) := fun w' hb => (HR.out.below hb).sl hbig
    have HOC : Hid (∀ w', Below w.heap.size w w' → ∃ v' w2, (Builtin.append_ #[22, 22] 22 #[.slice none 0 0, .slice a0 L.length c0]).run Try.prog w' = .ok v' w2 ∧ Row w2 w'.heap.size v' (L.map RP.pt) ∧ Below w'.heap.size w' w2) := fun w' hb => own_copy (HR.out.below hb) hbig
    obtain ⟨M, hM⟩ : ∃ M, L.map RP.pt = M := ⟨_, rfl⟩
    rw [hM] at HSL HOC hsz htx1 htx2 hlm
    rw [← hlm] at h40
    have HSZ := Lib.hid hsz
    have HP1 : Hid (∀ p ∈ M, p.t.size ≤ 2000 ∧ -9223372036854775808 ≤ p.k ∧ p.k ≤ 9223372036854775807) := fun p hp => by have := hsz p hp; omega
    have HP2 : Hid (∀ p ∈ M, p.t.size ≤ 100000) := fun p hp => by have := hsz p hp; omega
    have h40I : (L.length : Int) ≤ 40 := by omega
    have HLM := Lib.hid hlm
    rw [hbig] at HBG
    clear hbig hsm hsz hM hlm
    go_enter Try.func3, Try.ntmps3
    go_wp2_with (go_at_call 6; refine (alive_any _).mono ?_; rintro e w1 ⟨rfl, hb1⟩; have HB1 := Lib.hid hb1; clear hb1; simp only [])
    obtain ⟨vo, w2, r2, hrow, hbo⟩ := HOC.out _ HB1.out
    have HB2 := Lib.hid (HB1.out.trans (hbo.mono HB1.out.size))
    have HROW := Lib.hid hrow
    clear hbo hrow
    go_wp2_with (first
      | (go_at_call 7; refine (HBG.out _ HB1.out).mono ?_; rintro e w3 ⟨rfl, hw3⟩; obtain rfl := hw3.symm; simp only [])
      | (at_builtin; refine wpList_run_append _ rfl _ _ 22 22 rfl _ _ rfl rfl r2 ?_)
      | (go_at_call 9; refine (Split_any vo M w2 h40 HP1.out HROW.out.sl).mono ?_))
    rintro e w5 ⟨vf, vals, FS, rfl, hF, hp, hfl, hn, hb5⟩
    have HB5 := Lib.hid (HB2.out.trans (hb5.mono HB2.out.size))
    have HROW5 := Lib.hid (HROW.out.below hb5)
    have HF := Lib.hid hF
    have HFP := Lib.hid hp
    have HFN := Lib.hid hn
    clear hF hp hn hb5 HROW
    simp only []
    go_wp2_with (go_at_call 10; refine (RefSplit_any (.slice a0 L.length c0) M w5 h40 HSZ.out (HSL.out _ HB5.out)).mono ?_)
    rintro e w6 ⟨vg, vals2, GS, rfl, hG, hp, _, _, hb6⟩
    have HB6 := Lib.hid (HB5.out.trans (hb6.mono HB5.out.size))
    have HROW6 := Lib.hid (HROW5.out.below hb6)
    have HSW : Hid (Calls Try.prog 8 #[vf, vg] w6 fun e w' => e = .returned (.bool true) ∧ ∃ n, w' = w6.drewN n) := SameWords_any vf vg FS GS w6 _ _ vals vals2 (by omega) HFN.out (HF.out.below hb6) hG (HFP.out.trans hp.symm)
    clear hG hp hb6 HROW5
    simp only []
    have HT1 : Hid (∀ w', Below w.heap.size w w' → Calls Try.prog 11 #[.slice a0 L.length c0] w' fun e w2 => e = .returned (.string ⟨(textL (p2s M)).toArray⟩) ∧ Below w'.heap.size w' w2) := fun w' hb => Text_any _ M w' (by omega) htx1 (HSL.out _ hb)
    have HT2 : Hid (∀ w', Below w.heap.size w w' → Calls Try.prog 12 #[.slice a0 L.length c0] w' fun e w2 => e = .returned (.string ⟨(textL (p2s M)).toArray⟩) ∧ Below w'.heap.size w' w2) := fun w' hb => RefText_any _ M w' (by omega) htx1 (HSL.out _ hb)
    have HP3 : Hid (∀ w', Below w.heap.size w w' → Calls Try.prog 13 #[.slice a0 L.length c0] w' fun e w2 => e = .returned (.string ⟨(patL (p2s M)).toArray⟩) ∧ Below w'.heap.size w' w2) := fun w' hb => Pattern_any _ M w' (by omega) htx2 HP2.out (HSL.out _ hb)
    have HP4 : Hid (∀ w', Below w.heap.size w w' → Calls Try.prog 14 #[.slice a0 L.length c0] w' fun e w2 => e = .returned (.string ⟨(patL (p2s M)).toArray⟩) ∧ Below w'.heap.size w' w2) := fun w' hb => RefPattern_any _ M w' (by omega) htx2 HP2.out (HSL.out _ hb)
    obtain ⟨T, hT⟩ : ∃ T : ByteArray, (⟨(textL (p2s M)).toArray⟩ : ByteArray) = T := ⟨_, rfl⟩
    obtain ⟨Q, hQ⟩ : ∃ Q : ByteArray, (⟨(patL (p2s M)).toArray⟩ : ByteArray) = Q := ⟨_, rfl⟩
    rw [hT] at HT1 HT2
    rw [hQ] at HP3 HP4
    have hs1 : (T.toList == T.toList) = true := by simp
    have hs2 : (Q.toList == Q.toList) = true := by simp
    clear hT hQ htx1 htx2
    go_wp2_with (go_at_call 8; refine HSW.out.mono ?_; rintro e w7 ⟨rfl, n7, hn7⟩; have HB7 : Hid (Below w6.heap.size w6 w7) := (by rw [hn7]; exact drew_below _ _); clear hn7; simp only [])
    have HW7 := Lib.hid (HB6.out.trans (HB7.out.mono HB6.out.size))
    go_wp2_with (go_at_call 11; refine (HT1.out _ HW7.out).mono ?_; rintro e w8 ⟨rfl, hb8⟩; have HB8 := Lib.hid (HB7.out.trans (hb8.mono HB7.out.size)); clear hb8; simp only [])
    have HW8 := Lib.hid (HB6.out.trans (HB8.out.mono HB6.out.size))
    go_wp2_with (go_at_call 12; refine (HT2.out _ HW8.out).mono ?_; rintro e w9 ⟨rfl, hb9⟩; have HB9 := Lib.hid (HB8.out.trans (hb9.mono HB8.out.size)); clear hb9; simp only [])
    have HW9 := Lib.hid (HB6.out.trans (HB9.out.mono HB6.out.size))
    go_wp2_with (go_at_call 13; refine (HP3.out _ HW9.out).mono ?_; rintro e w10 ⟨rfl, hb10⟩; have HB10 := Lib.hid (HB9.out.trans (hb10.mono HB9.out.size)); clear hb10; simp only [])
    have HW10 := Lib.hid (HB6.out.trans (HB10.out.mono HB6.out.size))
    go_wp2_with (go_at_call 14; refine (HP4.out _ HW10.out).mono ?_; rintro e w11 ⟨rfl, hb11⟩; have HB11 := Lib.hid (HB10.out.trans (hb11.mono HB10.out.size)); clear hb11; simp only [])
    have HW11 := Lib.hid (HB6.out.trans (HB11.out.mono HB6.out.size))
    have HSP : Hid (Calls Try.prog 15 #[vo, .slice a0 L.length c0] w11 fun e w' => e = .returned (.bool true) ∧ ∃ n, w' = w11.drewN n) := SameParts_any _ _ M M w11 (by omega) ((HROW6.out.below HB11.out).sl) (HSL.out _ HW11.out) rfl
    go_wp2_with (go_at_call 15; refine HSP.out.mono ?_; rintro e w12 ⟨rfl, n12, hn12⟩; have HW12 : Hid (Below w.heap.size w w12) := (by rw [hn12]; exact HW11.out.trans ((drew_below _ _).mono HW11.out.size)); clear hn12; simp only [])
    go_ret
    exact ⟨rfl, HW12.out⟩
end Go.Proofs.Ytdkkfcpnfhfjdaa
