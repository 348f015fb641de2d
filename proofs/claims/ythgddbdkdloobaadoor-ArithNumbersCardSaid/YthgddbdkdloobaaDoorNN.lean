import Derived.Test.YthgddbdkdloobaaDoorLL
import Derived.Test.YthgddbdkdloobaaDoorM
namespace Go.Proofs.YthgddbdkdloobaaDoor
open Go.RowKit
set_option linter.unusedVariables false

theorem lv_le (op : Bs) : lv op ≤ 10 := by unfold lv; (repeat' split) <;> omega
/-- What holds while operators are read. -/
structure BinI (s : ByteArray) (pv : Value) (d B : Nat) (w : World) (V : Bs → Option Int) (lvl n : Nat) (RES : Rs) (k : Nat) (v : Int) (r' : Bs) (z' : Bool) (q : Nat) (wr : World) : Prop where
  kp : Kp B w wr
  rd : Rd wr B s pv q d z'
  at' : At s r' q
  eqn : RES = ev false V k (.loop lvl v) r' z' d
  wnt : 4 * r'.length + 2 ≤ k
  kle : k ≤ n
def binSt (s : ByteArray) (pv : Value) (d B : Nat) (w : World) (V : Bs → Option Int) (lvl n : Nat) (RES : Rs) (left err : Value) (wr : World) : Prop :=
  (∃ (c : Nat) (v : Int), c ≠ 0 ∧ err = .int .i64 c ∧ left = .int .i64 v ∧ Hid (PostR s pv d B w RES (.returned (.tuple #[.int .i64 v, .int .i64 c])) wr)) ∨
  (∃ (k : Nat) (v : Int) (r' : Bs) (z' : Bool) (q : Nat), err = .int .i64 0 ∧ left = .int .i64 v ∧ Hid (BinI s pv d B w V lvl n RES k v r' z' q wr))
def binMs (s : ByteArray) (B : Nat) (err : Value) (wr : World) : Nat := if intOf err = 0 then s.size - atW B 1 wr + 1 else 0
set_option maxRecDepth 100000 in
set_option maxHeartbeats 4000000 in
theorem binary_step (n : Nat) (ih25 : C25 n) (ih20 : ∀ m, m ≤ n → C20 m) : C20 (n + 1) := by
  intro lvl hl1 hl2 B s l pv r p d z w hs hat hd hw hR hP
  obtain ⟨V, hV⟩ : ∃ V, Vl l = V := ⟨_, rfl⟩
  have HIH := Lib.hid ih20
  have HV := Lib.hid hV
  rw [hV]
  have HP := Lib.hid hP
  obtain ⟨RES, hRES⟩ : ∃ RES, ev false V (n + 1) (.bin lvl) r z d = RES := ⟨_, rfl⟩
  have HRES := Lib.hid hRES
  rw [hRES]
  simp only [want] at hw
  have hcall := ih25 B s l pv r p d z w hs hat hd (by simp only [want]; omega) hR hP
  rw [hV] at hcall
  obtain ⟨res, hres⟩ : ∃ res, ev false V n .pre r z d = res := ⟨_, rfl⟩
  rw [hres] at hcall
  have HCALL := Lib.hid hcall
  have HSTART : Hid (∀ (v : Int) (err : Nat) (w1 : World), PostR s pv d B w res (.returned (.tuple #[.int .i64 v, .int .i64 err])) w1 → binSt s pv d B w V lvl n RES (.int .i64 v) (.int .i64 err) w1) := by
    intro v err w1 h1
    rw [← hRES, ev_bin, hres]
    cases res with
    | error c =>
      obtain ⟨h2, h3, ⟨v', h4⟩, h5⟩ := h1
      injection h4 with h4
      have h6 : v = v' ∧ (err : Int) = (c : Int) := by simpa using h4
      obtain ⟨rfl, h7⟩ := h6
      obtain rfl : err = c := by omega
      exact .inl ⟨err, v, h3, rfl, rfl, h2, h3, ⟨v, rfl⟩, h5⟩
    | ok x =>
      obtain ⟨v', r1, z1⟩ := x
      obtain ⟨h2, h4, p1, h5, h6⟩ := h1
      injection h4 with h4
      have h7 : v = v' ∧ err = 0 := by simpa using h4
      obtain ⟨rfl, rfl⟩ := h7
      have hl := okM_len (m := .pre) trivial hres
      simp only [lessen] at hl
      exact .inr ⟨n, v, r1, z1, p1, rfl, rfl, h2, h6, h5, rfl, by omega, Nat.le_refl _⟩
  have HRET : Hid (∃ (v : Int) (err : Nat), True) := ⟨0, 0, trivial⟩
  have hform : Calls Tryd.prog 25 #[.pointer (some ⟨B, 0, none⟩)] w fun e w' => ∃ (v : Int) (err : Nat), e = .returned (.tuple #[.int .i64 v, .int .i64 err]) ∧ Hid (binSt s pv d B w V lvl n RES (.int .i64 v) (.int .i64 err) w') := by
    refine HCALL.out.mono ?_
    intro e w' h
    have h0 := h
    cases res with
    | error c =>
      obtain ⟨h2, h3, ⟨v', rfl⟩, h5⟩ := h
      exact ⟨v', c, rfl, HSTART.out v' c w' h0⟩
    | ok x =>
      obtain ⟨v', r1, z1⟩ := x
      obtain ⟨h2, rfl, p1, h5, h6⟩ := h
      exact ⟨v', 0, rfl, HSTART.out v' 0 w' h0⟩
  have HFORM := Lib.hid hform
  have HL1 : Hid (1 ≤ lvl) := hl1
  clear hV hP ih20 ih25 hRES hcall hres HCALL HSTART hform hR hat hw HRET
  go_enter Tryd.func20, Tryd.ntmps20
  go_wp2_with fail
  refine HFORM.out.mono ?_
  rintro e w1 ⟨v1, err1, rfl, HS⟩
  go_wp2_with fail
  go_loopw [6, 7] (fun left err wr => Hid (binSt s pv d B w V lvl n RES left err wr)) (fun _ err wr => binMs s B err wr)
  case atStart => exact HS
  case round =>
    rcases hrel with ⟨c, v, hc, rfl, rfl, HF⟩ | ⟨k, v, r', z', q, rfl, rfl, HI⟩
    · have b1 : ((c : Int) == 0) = false := by rw [beq_eq_false_iff_ne]; omega
      go_wp2_with fail
      go_ret2
      exact HF.out
    · have hq := HI.out.at'.1
      have hMS : binMs s B (.int .i64 0) wr = s.size - q + 1 := by unfold binMs; rw [if_pos (show intOf (.int .i64 0) = 0 from rfl), atW_of HI.out.rd.c1]
      have HMS := Lib.hid hMS
      clear hMS
      go_wp2_with fail
      refine (operator_any s pv q d z' B _ hs hq HI.out.rd).mono ?_
      rintro e w2 ⟨rfl, hK2, hR2⟩
      have hsp := spos_le s q hq
      have ho := opS_data s (spos s q)
      have hAT2 := HI.out.at'.skp
      rw [hAT2.2] at ho
      have HK2 := Lib.hid (HI.out.kp.trans hK2)
      have HR2 := Lib.hid hR2
      have c1 := hR2.c1
      have f1 := hR2.f1
      have HAT2 := Lib.hid hAT2
      obtain ⟨q2, hq2⟩ : ∃ q2, spos s q = q2 := ⟨_, rfl⟩
      rw [hq2] at HR2 c1 hsp ho HAT2 ⊢
      obtain ⟨O, hO⟩ : ∃ O, opS s q2 = O := ⟨_, rfl⟩
      rw [hO] at ho ⊢
      have HO := Lib.hid ho
      have HLV := Lib.hid (fun w => levelOf_any O w)
      rw [ho] at HLV
      obtain ⟨L, hL⟩ : ∃ L, lv (opL (skp r')) = L := ⟨_, rfl⟩
      rw [hL] at HLV
      have HL := Lib.hid hL
      have hL10 : L ≤ 10 := by rw [← hL]; exact lv_le _
      have hLI : (L : Int) + 1 ≤ 11 := by omega
      have hos : O.size = (opL (skp r')).length := by rw [← dlen, ho]
      have hlen2 := HAT2.out.len
      have hol := opL_len (skp r')
      have hosz : q2 + O.size ≤ s.size := by omega
      have HOS := Lib.hid hos
      have hqI : (q2 : Int) + (O.size : Int) ≤ 1000000 := by omega
      clear hq2 hO ho hK2 hR2 hAT2 hL hos hlen2 hol
      go_wp2_with fail
      refine (HLV.out _).mono ?_
      rintro e w3 ⟨rfl, h⟩
      obtain rfl := h.symm
      by_cases hlt : L < lvl
      · have hltI : (L : Int) < (lvl : Int) := by omega
        have HFIN : Hid (PostR s pv d B w RES (.returned (.tuple #[.int .i64 v, .int .i64 0])) w2) := by
          have hk := HI.out.wnt
          obtain ⟨k', rfl⟩ : ∃ k', k = k' + 1 := ⟨k - 1, by omega⟩
          rw [HI.out.eqn, ev_loop, HL.out, if_pos hlt]
          exact ⟨HK2.out, rfl, q2, HAT2.out, HR2.out⟩
        go_wp2_with fail
        go_ret2
        exact HFIN.out
      · have hltI : ¬ (L : Int) < (lvl : Int) := by omega
        have hltD : decide ((L : Int) < (lvl : Int)) = false := by simpa using hltI
        have hL1 : 1 ≤ L := by omega
        obtain ⟨k', hk'⟩ : ∃ k', k = k' + 1 := ⟨k - 1, by have := HI.out.wnt; omega⟩
        subst hk'
        have hopp : 1 ≤ (opL (skp r')).length := lv_pos (by rw [HL.out]; exact hL1)
        have hdl := op_drop hopp
        have hat3 := HAT2.out.drop (k := O.size) (by rw [HOS.out]; exact (opL_len _).1)
        have HE : Hid (RES = match ev false V k' (.bin (L + 1)) ((skp r').drop O.size) z' d with
            | .error e => .error e
            | .ok (b, r1, z1) => ev false V k' (.loop lvl (ap O.data.toList v b).1) r1 (z1 || (ap O.data.toList v b).2) d) := by
          rw [Hid, HI.out.eqn, ev_loop, HL.out, if_neg hlt, HOS.out, HO.out]
          rfl
        have hcall : ∀ w3, Rd w3 B s pv (q2 + O.size) d z' → PV B w3 pv l → Calls Tryd.prog 20 #[.pointer (some ⟨B, 0, none⟩), .int .i64 ((L + 1 : Nat) : Int)] w3 (PostR s pv d B w3 (ev false V k' (.bin (L + 1)) ((skp r').drop O.size) z' d)) := by
          intro w3 h3 h4
          have := HIH.out k' (by have := HI.out.kle; omega) (L + 1) (by omega) (by omega) B s l pv ((skp r').drop O.size) (q2 + O.size) d z' w3 hs hat3 hd (by
            have h5 := HI.out.wnt
            simp only [want]
            rw [HOS.out]; omega) h3 h4
          rw [HV.out] at this
          exact this
        obtain ⟨res, hres⟩ : ∃ res, ev false V k' (.bin (L + 1)) ((skp r').drop O.size) z' d = res := ⟨_, rfl⟩
        rw [hres] at hcall HE
        have HCALL := Lib.hid hcall
        have HAP := Lib.hid (fun (b : Int) (w : World) (zz : Bool) (h1 : w.cell? ⟨B, 4, none⟩ = some (.bool zz)) (h2 : w.frozen? ⟨B, 4, none⟩ = false) => apply_any O v b B w zz (by rw [HO.out, HL.out]; exact hL1) h1 h2)
        have HLEN : Hid (∀ b r1 z1, res = .ok (b, r1, z1) → r1.length + 2 ≤ r'.length) := by
          intro b r1 z1 e
          rw [e] at hres
          have h := okM_len (m := .bin _) (show 1 ≤ _ by omega) hres
          simp only [lessen] at h
          rw [HOS.out] at h
          omega
        clear hcall hres hat3 hdl hopp
        have hR3 := Lib.hid (HR2.out.set1 (q2 + O.size))
        have hK3 := Lib.hid (HK2.out.trans (Kp.setCell B 1 w2 (.int .i64 ((q2 + O.size : Nat) : Int))))
        cases res with
        | error c =>
          go_wp2_with fail
          refine (HLV.out _).mono ?_
          rintro e w3 ⟨rfl, h⟩
          obtain rfl := h.symm
          go_wp2_with fail
          refine (HCALL.out _ hR3.out (HP.out.kept hK3.out)).mono ?_
          rintro e w4 ⟨hK4, hc0, ⟨v4, rfl⟩, p4, z4, hp4, hR4⟩
          have HK4 := Lib.hid (hK3.out.trans hK4)
          have HR4 := Lib.hid hR4
          have HC0 := Lib.hid hc0
          have d4 := hR4.c4
          have g4 := hR4.f4
          clear hK4 hR4 hc0 c1 f1
          go_wp2_with fail
          refine (HAP.out v4 _ z4 d4 g4).mono ?_
          rintro e w5 ⟨rfl, rfl⟩
          have HFIN : Hid (∀ x : Int, PostR s pv d B w RES (.returned (.tuple #[.int .i64 x, .int .i64 c])) (if (ap O.data.toList v v4).2 = true then w4.setCell ⟨B, 4, none⟩ (.bool true) else w4)) := by
            intro x
            rw [HE.out]
            split
            · exact ⟨HK4.out.trans (Kp.setCell _ _ _ _), HC0.out, ⟨x, rfl⟩, p4, true, hp4, HR4.out.set4 true⟩
            · exact ⟨HK4.out, HC0.out, ⟨x, rfl⟩, p4, z4, hp4, HR4.out⟩
          obtain ⟨w6, hw6⟩ : ∃ w6, (if (ap O.data.toList v v4).2 = true then w4.setCell ⟨B, 4, none⟩ (.bool true) else w4) = w6 := ⟨_, rfl⟩
          rw [hw6] at HFIN ⊢
          obtain ⟨x, hx⟩ : ∃ x, (ap O.data.toList v v4).1 = x := ⟨_, rfl⟩
          rw [hx]
          have HMS2 : Hid (binMs s B (.int .i64 c) w6 = 0) := by
            have := HC0.out
            unfold Hid binMs
            rw [if_neg (by simp only [intOf]; omega)]
          clear hx hw6 d4 g4
          go_wp2_with fail
          exact ⟨.inl ⟨c, x, HC0.out, rfl, rfl, HFIN.out x⟩, by rw [HMS.out, HMS2.out]; omega⟩
        | ok y =>
          obtain ⟨b, r3, z3⟩ := y
          go_wp2_with fail
          refine (HLV.out _).mono ?_
          rintro e w3 ⟨rfl, h⟩
          obtain rfl := h.symm
          go_wp2_with fail
          refine (HCALL.out _ hR3.out (HP.out.kept hK3.out)).mono ?_
          rintro e w4 ⟨hK4, rfl, p4, hat4, hR4⟩
          have HK4 := Lib.hid (hK3.out.trans hK4)
          have HR4 := Lib.hid hR4
          have HAT4 := Lib.hid hat4
          have d4 := hR4.c4
          have g4 := hR4.f4
          clear hK4 hR4 hat4 c1 f1
          go_wp2_with fail
          refine (HAP.out b _ z3 d4 g4).mono ?_
          rintro e w5 ⟨rfl, rfl⟩
          have HFIN : Hid (BinI s pv d B w V lvl n RES k' (ap O.data.toList v b).1 r3 (z3 || (ap O.data.toList v b).2) p4 (if (ap O.data.toList v b).2 = true then w4.setCell ⟨B, 4, none⟩ (.bool true) else w4)) := by
            have hll := HLEN.out b r3 z3 rfl
            have h5 := HI.out.wnt
            have h6 := HI.out.kle
            refine ⟨?_, ?_, HAT4.out, HE.out, by omega, by omega⟩
            · split
              · exact HK4.out.trans (Kp.setCell _ _ _ _)
              · exact HK4.out
            · cases hz : (ap O.data.toList v b).2 with
              | true => simp only [if_true, Bool.or_true]; exact HR4.out.set4 true
              | false => simp only [Bool.false_eq_true, if_false, Bool.or_false]; exact HR4.out
          obtain ⟨w6, hw6⟩ : ∃ w6, (if (ap O.data.toList v b).2 = true then w4.setCell ⟨B, 4, none⟩ (.bool true) else w4) = w6 := ⟨_, rfl⟩
          rw [hw6] at HFIN ⊢
          obtain ⟨x, hx⟩ : ∃ x, (ap O.data.toList v b).1 = x := ⟨_, rfl⟩
          rw [hx] at HFIN ⊢
          have HMS2 : Hid (binMs s B (.int .i64 0) w6 < s.size - q + 1) := by
            have hll := HLEN.out b r3 z3 rfl
            have h7 := HFIN.out.at'.len
            have h8 := HI.out.at'.len
            unfold Hid binMs
            rw [if_pos (show intOf (.int .i64 0) = 0 from rfl), atW_of HFIN.out.rd.c1]
            omega
          clear hx hw6 d4 g4
          go_wp2_with fail
          exact ⟨.inr ⟨k', x, r3, _, p4, rfl, rfl, HFIN.out⟩, by rw [HMS.out]; exact HMS2.out⟩
theorem all_steps : ∀ n, C20 n ∧ C25 n ∧ C37 n := by
  intro n
  induction n using Nat.strongRecOn with
  | _ n ih =>
    have h37 : C37 n := by
      cases n with
      | zero =>
        intro B s l pv r p d z w _ _ _ hw
        simp [want] at hw
      | succ n => exact operand_step n (ih n (by omega)).1
    have h25 : C25 n := prefixed_step n (fun m hm => (ih m hm).2.2)
    refine ⟨?_, h25, h37⟩
    cases n with
    | zero =>
      intro lvl _ _ B s l pv r p d z w _ _ _ hw
      simp [want] at hw
    | succ n => exact binary_step n (ih n (by omega)).2.1 (fun m hm => (ih m (by omega)).1)
theorem binary_any (lvl : Nat) (hl1 : 1 ≤ lvl) (hl2 : lvl ≤ 11) (B : Nat) (s : ByteArray) (l : Prs) (pv : Value) (r : Bs) (p d : Nat) (z : Bool) (w : World) (n : Nat) (hs : s.size ≤ 1000000) (hat : At s r p) (hd : d ≤ 40) (hn : want (.bin lvl) r ≤ n) (hR : Rd w B s pv p d z) (hP : PV B w pv l) :
    Calls Tryd.prog 20 #[.pointer (some ⟨B, 0, none⟩), .int .i64 lvl] w (PostR s pv d B w (ev false (Vl l) n (.bin lvl) r z d)) :=
  (all_steps n).1 lvl hl1 hl2 B s l pv r p d z w hs hat hd hn hR hP
end Go.Proofs.YthgddbdkdloobaaDoor
