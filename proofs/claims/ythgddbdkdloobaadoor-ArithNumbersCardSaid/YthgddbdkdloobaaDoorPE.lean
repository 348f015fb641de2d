import Derived.Test.YthgddbdkdloobaaDoorPD
namespace Go.Proofs.YthgddbdkdloobaaDoor
open Go.RowKit
set_option linter.unusedVariables false

structure BinF (s : ByteArray) (pv : Value) (d B : Nat) (w : World) (V : Bs → Option Int) (lvl n : Nat) (RES : Rs) (k : Nat) (v : Int) (r' : Bs) (z' : Bool) (q : Nat) (wr : World) : Prop where
  kp : Kp B w wr
  rf : Rf wr B s pv q d 0 z'
  at' : At s r' q
  eqn : RES = ev true V k (.loop lvl v) r' z' d
  wnt : 4 * r'.length + 2 ≤ k
  kle : k ≤ n
def binSf (s : ByteArray) (pv : Value) (d B : Nat) (w : World) (V : Bs → Option Int) (lvl n : Nat) (RES : Rs) (left : Value) (wr : World) : Prop :=
  (∃ (c : Nat) (v : Int) (p' d' : Nat) (z' : Bool), c ≠ 0 ∧ left = .int .i64 v ∧ Hid (Rf wr B s pv p' d' c z') ∧ Hid (∀ v : Int, PostF s pv d B w RES (.returned (.int .i64 v)) wr)) ∨
  (∃ (k : Nat) (v : Int) (r' : Bs) (z' : Bool) (q : Nat), left = .int .i64 v ∧ Hid (BinF s pv d B w V lvl n RES k v r' z' q wr))
def binMf (s : ByteArray) (B : Nat) (wr : World) : Nat := if atW B 4 wr = 0 then s.size - atW B 2 wr + 1 else 0
set_option maxRecDepth 100000 in
set_option maxHeartbeats 4000000 in
theorem from_step (n : Nat) (ih25 : F30 n) (ih20 : ∀ m, m ≤ n → F22 m) : F22 (n + 1) := by
  intro lvl hl1 hl2 B s l pv r p d z w hs hat hd hw hR hP
  obtain ⟨V, hV⟩ : ∃ V, Vl l = V := ⟨_, rfl⟩
  have HIH := Lib.hid ih20
  have HV := Lib.hid hV
  rw [hV]
  have HP := Lib.hid hP
  obtain ⟨RES, hRES⟩ : ∃ RES, ev true V (n + 1) (.bin lvl) r z d = RES := ⟨_, rfl⟩
  have HRES := Lib.hid hRES
  rw [hRES]
  simp only [want] at hw
  have hcall := ih25 B s l pv r p d z w hs hat hd (by simp only [want]; omega) hR hP
  rw [hV] at hcall
  obtain ⟨res, hres⟩ : ∃ res, ev true V n .pre r z d = res := ⟨_, rfl⟩
  rw [hres] at hcall
  have hform : Calls Tryd.prog 30 #[.pointer (some ⟨B, 0, none⟩)] w fun e w' => ∃ (v : Int), e = .returned (.int .i64 v) ∧ Hid (binSf s pv d B w V lvl n RES (.int .i64 v) w') := by
    refine hcall.mono ?_
    rintro e w' ⟨hK, v, rfl, hpost⟩
    refine ⟨v, rfl, ?_⟩
    rw [Hid, ← hRES, ev_bin, hres]
    cases res with
    | error c =>
      obtain ⟨h3, p', d', z', h5, h6⟩ := hpost
      exact .inl ⟨c, v, p', d', z', h3, rfl, h6, fun v => ⟨hK, v, rfl, h3, p', d', z', h5, h6⟩⟩
    | ok x =>
      obtain ⟨v', r1, z1⟩ := x
      obtain ⟨rfl, p1, h5, h6⟩ := hpost
      have hl := okM_len (m := .pre) trivial hres
      simp only [lessen] at hl
      exact .inr ⟨n, v, r1, z1, p1, rfl, hK, h6, h5, rfl, by omega, Nat.le_refl _⟩
  have HFORM := Lib.hid hform
  have HL1 : Hid (1 ≤ lvl) := hl1
  clear hV hP ih20 ih25 hRES hcall hres hform hR hat hw
  go_enter Tryd.func22, Tryd.ntmps22
  go_wp2_with fail
  refine HFORM.out.mono ?_
  rintro e w1 ⟨v1, rfl, HS⟩
  go_wp2_with fail
  go_loopw [5] (fun left wr => Hid (binSf s pv d B w V lvl n RES left wr)) (fun _ wr => binMf s B wr)
  case atStart => exact HS
  case round =>
    rcases hrel with ⟨c, v, p', d', z', hc, rfl, HRf, HF⟩ | ⟨k, v, r', z', q, rfl, HI⟩
    · have b1 : ((c : Int) == 0) = false := by rw [beq_eq_false_iff_ne]; omega
      have c4 := HRf.out.c4
      go_wp2_with fail
      go_ret
      exact HF.out v
    · have hq := HI.out.at'.1
      have hMS : binMf s B wr = s.size - q + 1 := by
        unfold binMf
        rw [if_pos (atW_of HI.out.rf.c4), atW_of HI.out.rf.c2]
      have HMS := Lib.hid hMS
      have c4 := HI.out.rf.c4
      clear hMS
      go_wp2_with fail
      refine (sign_any s pv q d 0 z' B _ hs hq HI.out.rf).mono ?_
      rintro e w2 ⟨rfl, hK2, hR2⟩
      have hsp := spos_le s q hq
      have ho := opS_data s (spos s q)
      have hAT2 := HI.out.at'.skp
      rw [hAT2.2] at ho
      have HK2 := Lib.hid (HI.out.kp.trans hK2)
      have HR2 := Lib.hid hR2
      clear c4
      have c2 := hR2.c2
      have f2 := hR2.f2
      have HAT2 := Lib.hid hAT2
      obtain ⟨q2, hq2⟩ : ∃ q2, spos s q = q2 := ⟨_, rfl⟩
      rw [hq2] at HR2 c2 hsp ho HAT2 ⊢
      obtain ⟨O, hO⟩ : ∃ O, opS s q2 = O := ⟨_, rfl⟩
      rw [hO] at ho ⊢
      have HO := Lib.hid ho
      have HLV := Lib.hid (fun w => level_any O w)
      rw [ho] at HLV
      obtain ⟨L, hL⟩ : ∃ L, lv (opL (skp r')) = L := ⟨_, rfl⟩
      rw [hL] at HLV
      have HL := Lib.hid hL
      have hL10 : L ≤ 10 := by rw [← hL]; exact lv_le _
      have hLI : (L : Int) + 1 ≤ 11 := by omega
      have hos : O.size = (opL (skp r')).length := by rw [← dlen, ho]
      have hlen2 := HAT2.out.len
      have hol := opL_len (skp r')
      have hosz : q2 + O.size ≤ s.size := by omega
      have HOS := Lib.hid hos
      have hqI : (q2 : Int) + (O.size : Int) ≤ 1000000 := by omega
      clear hq2 hO ho hK2 hR2 hAT2 hL hos hlen2 hol
      go_wp2_with fail
      refine (HLV.out _).mono ?_
      rintro e w3 ⟨rfl, h⟩
      obtain rfl := h.symm
      by_cases hlt : L < lvl
      · have hltI : (L : Int) < (lvl : Int) := by omega
        have HFIN : Hid (PostF s pv d B w RES (.returned (.int .i64 v)) w2) := by
          have hk := HI.out.wnt
          obtain ⟨k', rfl⟩ : ∃ k', k = k' + 1 := ⟨k - 1, by omega⟩
          rw [HI.out.eqn, ev_loop, HL.out, if_pos hlt]
          exact ⟨HK2.out, v, rfl, rfl, q2, HAT2.out, HR2.out⟩
        go_wp2_with fail
        go_ret
        exact HFIN.out
      · have hltI : ¬ (L : Int) < (lvl : Int) := by omega
        have hltD : decide ((L : Int) < (lvl : Int)) = false := by simpa using hltI
        have hL1 : 1 ≤ L := by omega
        have hL0 : ((L : Int) == 0) = false := by rw [beq_eq_false_iff_ne]; omega
        obtain ⟨k', hk'⟩ : ∃ k', k = k' + 1 := ⟨k - 1, by have := HI.out.wnt; omega⟩
        subst hk'
        have hopp : 1 ≤ (opL (skp r')).length := lv_pos (by rw [HL.out]; exact hL1)
        have hdl := op_drop hopp
        have hat3 := HAT2.out.drop (k := O.size) (by rw [HOS.out]; exact (opL_len _).1)
        have HE : Hid (RES = match ev true V k' (.bin (L + 1)) ((skp r').drop O.size) z' d with
            | .error e => .error e
            | .ok (b, r1, z1) => ev true V k' (.loop lvl (ap O.data.toList v b).1) r1 (z1 || (ap O.data.toList v b).2) d) := by
          rw [Hid, HI.out.eqn, ev_loop, HL.out, if_neg hlt, HOS.out, HO.out]
          rfl
        have hcall : ∀ w3, Rf w3 B s pv (q2 + O.size) d 0 z' → PV B w3 pv l → Calls Tryd.prog 22 #[.pointer (some ⟨B, 0, none⟩), .int .i64 ((L + 1 : Nat) : Int)] w3 (PostF s pv d B w3 (ev true V k' (.bin (L + 1)) ((skp r').drop O.size) z' d)) := by
          intro w3 h3 h4
          have := HIH.out k' (by have := HI.out.kle; omega) (L + 1) (by omega) (by omega) B s l pv ((skp r').drop O.size) (q2 + O.size) d z' w3 hs hat3 hd (by
            have h5 := HI.out.wnt
            simp only [want]
            rw [HOS.out]; omega) h3 h4
          rw [HV.out] at this
          exact this
        obtain ⟨res, hres⟩ : ∃ res, ev true V k' (.bin (L + 1)) ((skp r').drop O.size) z' d = res := ⟨_, rfl⟩
        rw [hres] at hcall HE
        have HCALL := Lib.hid hcall
        have HAP := Lib.hid (fun (b : Int) (w : World) (zz : Bool) (h1 : w.cell? ⟨B, 5, none⟩ = some (.bool zz)) (h2 : w.frozen? ⟨B, 5, none⟩ = false) => do_any O v b B w zz (by rw [HO.out, HL.out]; exact hL1) h1 h2)
        have HLEN : Hid (∀ b r1 z1, res = .ok (b, r1, z1) → r1.length + 2 ≤ r'.length) := by
          intro b r1 z1 e
          rw [e] at hres
          have h := okM_len (m := .bin _) (show 1 ≤ _ by omega) hres
          simp only [lessen] at h
          rw [HOS.out] at h
          omega
        clear hcall hres hat3 hdl hopp
        have hR3 := Lib.hid (HR2.out.set2 (q2 + O.size))
        have hK3 := Lib.hid (HK2.out.trans (Kp.setCell B 2 w2 (.int .i64 ((q2 + O.size : Nat) : Int))))
        cases res with
        | error c =>
          go_wp2_with fail
          refine (HCALL.out _ hR3.out (HP.out.kept hK3.out)).mono ?_
          rintro e w4 ⟨hK4, v4, rfl, hc0, p4, d4, z4, hp4, hR4⟩
          have HK4 := Lib.hid (hK3.out.trans hK4)
          have HR4 := Lib.hid hR4
          have HC0 := Lib.hid hc0
          have d5 := hR4.c5
          have g5 := hR4.f5
          clear hK4 hR4 hc0 c2 f2
          go_wp2_with fail
          refine (HAP.out v4 _ z4 d5 g5).mono ?_
          rintro e w5 ⟨rfl, rfl⟩
          have HFIN : Hid (∃ z5, Rf (if (ap O.data.toList v v4).2 = true then w4.setCell ⟨B, 5, none⟩ (.bool true) else w4) B s pv p4 d4 c z5 ∧ Kp B w (if (ap O.data.toList v v4).2 = true then w4.setCell ⟨B, 5, none⟩ (.bool true) else w4)) := by
            split
            · exact ⟨true, HR4.out.set5 true, HK4.out.trans (Kp.setCell _ _ _ _)⟩
            · exact ⟨z4, HR4.out, HK4.out⟩
          obtain ⟨w6, hw6⟩ : ∃ w6, (if (ap O.data.toList v v4).2 = true then w4.setCell ⟨B, 5, none⟩ (.bool true) else w4) = w6 := ⟨_, rfl⟩
          rw [hw6] at HFIN ⊢
          obtain ⟨x, hx⟩ : ∃ x, (ap O.data.toList v v4).1 = x := ⟨_, rfl⟩
          rw [hx]
          obtain ⟨z5, hR6, hK6⟩ := HFIN.out
          have HMS2 : Hid (binMf s B w6 = 0) := by
            have := HC0.out
            unfold Hid binMf
            rw [if_neg (by rw [atW_of hR6.c4]; exact this)]
          have HR6 := Lib.hid hR6
          have HK6 := Lib.hid hK6
          clear hx hw6 d5 g5 hR6 hK6 HFIN
          go_wp2_with fail
          exact ⟨.inl ⟨c, x, p4, d4, z5, HC0.out, rfl, HR6.out, fun v => by rw [HE.out]; exact ⟨HK6.out, v, rfl, HC0.out, p4, d4, z5, hp4, HR6.out⟩⟩, by rw [HMS.out, HMS2.out]; omega⟩
        | ok y =>
          obtain ⟨b, r3, z3⟩ := y
          go_wp2_with fail
          refine (HCALL.out _ hR3.out (HP.out.kept hK3.out)).mono ?_
          rintro e w4 ⟨hK4, b', rfl, rfl, p4, hat4, hR4⟩
          have HK4 := Lib.hid (hK3.out.trans hK4)
          have HR4 := Lib.hid hR4
          have HAT4 := Lib.hid hat4
          have d5 := hR4.c5
          have g5 := hR4.f5
          clear hK4 hR4 hat4 c2 f2
          go_wp2_with fail
          refine (HAP.out b' _ z3 d5 g5).mono ?_
          rintro e w5 ⟨rfl, rfl⟩
          have HFIN : Hid (BinF s pv d B w V lvl n RES k' (ap O.data.toList v b').1 r3 (z3 || (ap O.data.toList v b').2) p4 (if (ap O.data.toList v b').2 = true then w4.setCell ⟨B, 5, none⟩ (.bool true) else w4)) := by
            have hll := HLEN.out b' r3 z3 rfl
            have h5 := HI.out.wnt
            have h6 := HI.out.kle
            refine ⟨?_, ?_, HAT4.out, HE.out, by omega, by omega⟩
            · split
              · exact HK4.out.trans (Kp.setCell _ _ _ _)
              · exact HK4.out
            · cases hz : (ap O.data.toList v b').2 with
              | true => simp only [if_true, Bool.or_true]; exact HR4.out.set5 true
              | false => simp only [Bool.false_eq_true, if_false, Bool.or_false]; exact HR4.out
          obtain ⟨w6, hw6⟩ : ∃ w6, (if (ap O.data.toList v b').2 = true then w4.setCell ⟨B, 5, none⟩ (.bool true) else w4) = w6 := ⟨_, rfl⟩
          rw [hw6] at HFIN ⊢
          obtain ⟨x, hx⟩ : ∃ x, (ap O.data.toList v b').1 = x := ⟨_, rfl⟩
          rw [hx] at HFIN ⊢
          have HMS2 : Hid (binMf s B w6 < s.size - q + 1) := by
            have hll := HLEN.out b' r3 z3 rfl
            have h7 := HFIN.out.at'.len
            have h8 := HI.out.at'.len
            unfold Hid binMf
            rw [if_pos (atW_of HFIN.out.rf.c4), atW_of HFIN.out.rf.c2]
            omega
          clear hx hw6 d5 g5
          go_wp2_with fail
          exact ⟨.inr ⟨k', x, r3, _, p4, rfl, HFIN.out⟩, by rw [HMS.out]; exact HMS2.out⟩
theorem all_ref : ∀ n, F22 n ∧ F30 n ∧ F44 n := by
  intro n
  induction n using Nat.strongRecOn with
  | _ n ih =>
    have h37 : F44 n := by
      cases n with
      | zero =>
        intro B s l pv r p d z w O _ _ _ _ hw
        simp [want] at hw
      | succ n => exact plain_step n (ih n (by omega)).1
    have h25 : F30 n := one_step n (fun m hm => (ih m hm).2.2)
    refine ⟨?_, h25, h37⟩
    cases n with
    | zero =>
      intro lvl _ _ B s l pv r p d z w _ _ _ hw
      simp [want] at hw
    | succ n => exact from_step n (ih n (by omega)).2.1 (fun m hm => (ih m (by omega)).1)
theorem from_any (lvl : Nat) (hl1 : 1 ≤ lvl) (hl2 : lvl ≤ 11) (B : Nat) (s : ByteArray) (l : Prs) (pv : Value) (r : Bs) (p d : Nat) (z : Bool) (w : World) (n : Nat) (hs : s.size ≤ 1000000) (hat : At s r p) (hd : d ≤ 40) (hn : want (.bin lvl) r ≤ n) (hR : Rf w B s pv p d 0 z) (hP : PV B w pv l) :
    Calls Tryd.prog 22 #[.pointer (some ⟨B, 0, none⟩), .int .i64 lvl] w (PostF s pv d B w (ev true (Vl l) n (.bin lvl) r z d)) :=
  (all_ref n).1 lvl hl1 hl2 B s l pv r p d z w hs hat hd hn hR hP
theorem Rf_new (w : World) (s : ByteArray) (pv : Value) : Rf (w.alloc (.cells #[.string s, pv, .int .i64 0, .int .i64 0, .int .i64 0, .bool false] 51)) w.heap.size s pv 0 0 0 false := by
  have h := heap_alloc_new w (.cells #[.string s, pv, .int .i64 0, .int .i64 0, .int .i64 0, .bool false] 51)
  refine ⟨?_, ?_, ?_, ?_, ?_, ?_, ?_, ?_, ?_, ?_⟩
  all_goals first
    | (rw [cell_of_row _ _ _ _ _ _ h]; rfl)
    | (unfold World.frozen?; simp only [h]; rfl)
set_option maxRecDepth 100000 in
set_option maxHeartbeats 4000000 in
theorem RefEval_any (s : ByteArray) (l : Prs) (pv : Value) (w : World) (hs : s.size ≤ 9223372036854775807) (hP : PV w.heap.size w pv l) :
    Calls Tryd.prog 14 #[.string s, pv] w fun e w' => e = .returned (.tuple #[.int .i64 (evalL true s.data.toList (Vl l)).1, .int .i64 ((evalL true s.data.toList (Vl l)).2 : Nat)]) ∧ Below w.heap.size w w' := by
  have hl := dlen s
  obtain ⟨X, hX⟩ : ∃ X, evalL true s.data.toList (Vl l) = X := ⟨_, rfl⟩
  have HX := Lib.hid hX
  rw [hX]
  clear hX
  by_cases h4 : 4096 < s.size
  · have h4I : (4096 : Int) < (s.size : Int) := by omega
    have HE : Hid (X = (0, 3)) := by rw [Hid, ← HX.out]; unfold evalL; rw [if_pos (by omega)]
    clear HX hl
    go_enter Tryd.func14, Tryd.ntmps14
    go_wp2_with fail
    go_ret2
    exact ⟨by rw [HE.out]; rfl, Below.refl _ _⟩
  · have h4I : ¬ (4096 : Int) < (s.size : Int) := by omega
    have h4J : (s.size : Int) ≤ 4096 := by omega
    have hpv : ∃ o n c, pv = .slice o n c := by
      rcases hP.at' with ⟨o, c, h1, _⟩ | ⟨b, off, cap, h1, _⟩
      · exact ⟨_, _, _, h1⟩
      · exact ⟨_, _, _, h1⟩
    obtain ⟨o, n, c, rfl⟩ := hpv
    have HP := Lib.hid hP
    clear hP
    go_enter Tryd.func14, Tryd.ntmps14
    go_wp2_with fail
    have hR0 := Rf_new w s (.slice o n c)
    have hB0 : Below w.heap.size w (w.alloc (.cells #[.string s, .slice o n c, .int .i64 0, .int .i64 0, .int .i64 0, .bool false] 51)) := (Below.refl _ _).alloc (Nat.le_refl _) _
    have hP0 : PV w.heap.size (w.alloc (.cells #[.string s, .slice o n c, .int .i64 0, .int .i64 0, .int .i64 0, .bool false] 51)) (.slice o n c) l := HP.out.kept (Kp.alloc (Kp.refl _ _) _)
    have hsz0 : w.heap.size ≤ (w.alloc (.cells #[.string s, .slice o n c, .int .i64 0, .int .i64 0, .int .i64 0, .bool false] 51)).heap.size := hB0.size
    have hat0 : At s s.data.toList 0 := ⟨Nat.zero_le _, rfl⟩
    have HC := Lib.hid (from_any 1 (by omega) (by omega) w.heap.size s l (.slice o n c) s.data.toList 0 0 false _ (fuel s.data.toList) (by omega) hat0 (by omega) (by simp only [want, fuel]; omega) hR0 hP0)
    have HB0 := Lib.hid hB0
    obtain ⟨w0, hw0⟩ : ∃ w0, w.alloc (.cells #[.string s, .slice o n c, .int .i64 0, .int .i64 0, .int .i64 0, .bool false] 51) = w0 := ⟨_, rfl⟩
    rw [hw0] at HC HB0 hsz0 ⊢
    have hX2 : X = (match ev true (Vl l) (fuel s.data.toList) (.bin 1) s.data.toList false 0 with
      | .error e => (0, e)
      | .ok (v, r, z) => if skp r ≠ [] then (0, 2) else if z then (0, 15) else (v, 0)) := by
      rw [← HX.out]; unfold evalL; rw [if_neg (by omega)]; rfl
    obtain ⟨res, hres⟩ : ∃ res, ev true (Vl l) (fuel s.data.toList) (.bin 1) s.data.toList false 0 = res := ⟨_, rfl⟩
    rw [hres] at HC hX2
    have HX2 := Lib.hid hX2
    have HSZ := Lib.hid hsz0
    clear hX2 hres hR0 hB0 hP0 hat0 hw0 HX hl HP hsz0
    refine HC.out.mono ?_
    cases res with
    | error k =>
      rintro e w1 ⟨hK, v, rfl, hk0, p1, d1, z1, hp1, hR1⟩
      have HK := Lib.hid hK
      have HK0 := Lib.hid hk0
      have HR1 := Lib.hid hR1
      have b1 : ((k : Int) == 0) = false := by rw [beq_eq_false_iff_ne]; omega
      have b2 : ((k : Int) != 0) = true := by rw [bne_iff_ne]; omega
      clear hK hk0 hR1
      go_wp2_with fail
      refine (sign_any s _ p1 d1 k z1 _ _ (by omega) hp1 HR1.out).mono ?_
      rintro e w2 ⟨rfl, hK2, hR2⟩
      have HK2 := Lib.hid hK2
      have c4 := hR2.c4
      clear hK2 hR2
      go_wp2_with fail
      go_quiet (fail)
      go_wp2_with fail
      go_ret2
      exact ⟨by rw [HX2.out]; rfl, below_drewN ((HK.out.trans HK2.out).below HB0.out HSZ.out (Nat.le_refl _)) _⟩
    | ok x =>
      obtain ⟨v, r, z⟩ := x
      rintro e w1 ⟨hK, v', rfl, rfl, p1, hat1, hR1⟩
      have HK := Lib.hid hK
      have HR1 := Lib.hid hR1
      have HAT := Lib.hid hat1
      clear hK hR1 hat1
      go_wp2_with fail
      refine (sign_any s _ p1 0 0 z _ _ (by omega) HAT.out.1 HR1.out).mono ?_
      rintro e w2 ⟨rfl, hK2, hR2⟩
      have HFIN := Lib.hid (HK.out.trans hK2)
      have hAT2 := HAT.out.skp
      have hq := hAT2.1
      have hlen := hAT2.len
      have c2 := hR2.c2
      have c4 := hR2.c4
      have c5 := hR2.c5
      have f4 := hR2.f4
      have HR2 := Lib.hid hR2
      obtain ⟨q, hqq⟩ : ∃ q, spos s p1 = q := ⟨_, rfl⟩
      rw [hqq] at hq hlen c2 HR2
      clear hqq hAT2 hK2 hR2
      by_cases hlt : q < s.size
      · have hltI : ((q : Int) == (s.size : Int)) = false := by rw [beq_eq_false_iff_ne]; omega
        have hltJ : ((q : Int) != (s.size : Int)) = true := by rw [bne_iff_ne]; omega
        have HE : Hid (X = (0, 2)) := by
          have hne : skp r ≠ [] := by
            intro e
            rw [e] at hlen
            simp at hlen
            omega
          rw [Hid, HX2.out]
          simp [hne]
        clear hlen c5
        go_wp2_with fail
        go_quiet (fail)
        go_wp2_with fail
        go_ret2
        exact ⟨by rw [HE.out]; rfl, below_drewN ((HFIN.out.trans (Kp.setCell _ _ _ _)).below HB0.out HSZ.out (Nat.le_refl _)) _⟩
      · have hltI : ((q : Int) == (s.size : Int)) = true := by rw [beq_iff_eq]; omega
        have hltJ : ((q : Int) != (s.size : Int)) = false := by rw [bne, hltI]; rfl
        have hnil : skp r = [] := List.length_eq_zero_iff.1 (by omega)
        cases z with
        | true =>
          have HE : Hid (X = (0, 15)) := by
            rw [Hid, HX2.out]
            simp [hnil]
          clear hlen hnil
          go_wp2_with fail
          go_ret2
          exact ⟨by rw [HE.out]; rfl, HFIN.out.below HB0.out HSZ.out (Nat.le_refl _)⟩
        | false =>
          have HE : Hid (X = (v', 0)) := by
            rw [Hid, HX2.out]
            simp [hnil]
          clear hlen hnil
          go_wp2_with fail
          go_ret2
          exact ⟨by rw [HE.out]; rfl, HFIN.out.below HB0.out HSZ.out (Nat.le_refl _)⟩
end Go.Proofs.YthgddbdkdloobaaDoor
