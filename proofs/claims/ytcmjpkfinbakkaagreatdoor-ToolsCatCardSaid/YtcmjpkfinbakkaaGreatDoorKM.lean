import Derived.Test.YtcmjpkfinbakkaaGreatDoorKL
namespace Go.Proofs.YtcmjpkfinbakkaaGreatDoor
open Go.RowKit Go.ChangeShapes Go.WideShapes
set_option linter.unusedVariables false
set_option maxRecDepth 100000

theorem sz_list (l : Bz) : (⟨l.toArray⟩ : ByteArray).size = l.length := by rw [← dl]
set_option maxHeartbeats 16000000 in
theorem cat_main (a0 a1 a2 : Option Addr) (n c0 c1 c2 : Nat) (ls : Nat → Bz) (gl : List Bool) (inb : Bz) (W : World) (h0 : Bss W (.slice a0 n c0) n ls) (h1 : Bls W (.slice a1 gl.length c1) gl)
    (h2 : InB W (.slice a2 inb.length c2) inb) (h3 : Vf.Bin W (.slice a2 inb.length c2) inb) (hn : n ≤ 10) (hg : ¬ gl.length < n) (hi : inb.length ≤ 200) :
    Calls Tryz.prog 11 #[.slice a0 n c0, .slice a1 gl.length c1, .slice a2 inb.length c2] W fun e w' => e = .returned (.bool true) ∧ Below W.heap.size W w' := by
  have HA := Lib.hid (alive_any W)
  have HNEW := Lib.hid (fun w => Vf.New_sx 20 5000 (by decide) (by decide) (by decide) (by decide) w)
  have d1 : decide ((10 : Int) < (n : Int)) = false := decide_eq_false (by omega)
  have d2 : decide ((gl.length : Int) < (n : Int)) = false := decide_eq_false (by omega)
  have d3 : decide ((200 : Int) < (inb.length : Int)) = false := decide_eq_false (by omega)
  have H0 := Lib.hid h0
  have H1 := Lib.hid h1
  have H2 := Lib.hid (fun wx (hb : Below W.heap.size W wx) => Bin.inb_below h3 h2 hb)
  have HI := Lib.hid hi
  clear h0 h1 h2 h3
  go_enter Tryz.func11, Tryz.ntmps11
  go_wp2_with (first
    | (go_at_call 22; refine HA.out.mono ?_; rintro e w5 ⟨rfl, h5⟩; have HB := Lib.hid h5; clear h5; simp only [])
    | (go_at_call 14; refine (HNEW.out _).mono ?_; rintro e w6 ⟨f, rfl, h6, h6b⟩; have HS6 := Lib.hid h6; have HB6 := Lib.hid (HB.out.trans (h6b.mono HB.out.size)); clear h6 h6b; simp only []))
  have HBW := Lib.hid HB.out.size
  obtain ⟨B, hB⟩ : ∃ B, w5.heap.size = B := ⟨_, rfl⟩
  rw [hB] at HBW HS6
  clear hB
  go_loopw [9, 10, 11, 12] (fun v s g i wx => ∃ (k : Nat) (a : Option Addr) (c' : Nat) (S G : ByteArray) (N : Nat) (c : Vf.Cn) (T : Vf.Tr), v = .slice a k c' ∧ s = .string S ∧ g = .string G ∧ i = .int .i64 k ∧ k ≤ n ∧ Hid (Below W.heap.size W wx) ∧ Hid (CatW B wx N f c T (.slice a k c') (catL k)) ∧ Hid (CatT ls gl k T ∧ CnP c N k ∧ ∀ j < k, (ls j).length ≤ 200) ∧ Hid (S.data.toList = (catA ls gl inb n k).2.1 ∧ G.data.toList = (catA ls gl inb n k).2.2)) (fun _ _ _ i _ => n - (intOf i).toNat)
  case atStart => exact ⟨0, none, 0, _, _, 0, _, _, rfl, rfl, rfl, rfl, Nat.zero_le _, HB6.out, CatW.new HS6.out, ⟨CatT.new _ _, ⟨Nat.le_refl _, rfl, rfl, by decide, by decide, by decide, by decide, by decide, by decide⟩, fun j h => absurd h (by omega)⟩, rfl, rfl⟩
  case round =>
    obtain ⟨k, a, c', S, G, N, c, T, rfl, rfl, rfl, rfl, hk, HBx, HW, HT, HSG⟩ := hrel
    have hWB : W.heap.size ≤ B := HBW.out
    by_cases hlt : k < n
    case neg =>
      have hkn : k = n := by omega
      subst hkn
      have hlen := catA_len (ls := ls) (gone := gl) (inb := inb) (n := k) (k := k) (fun j _ hj => HT.out.2.2 j hj) HI.out (by omega)
      obtain ⟨a3, n3, c3, w7, hrun, hn3, hW7, hb7⟩ := HW.out.push (by rw [catL_len]; omega) dash
      rw [catL_len] at hn3
      subst hn3
      have HRUN : Hid ((Builtin.append_ #[22, 22] 22 #[.slice a k c', .slice (some ⟨wr.heap.size, 0, none⟩) 1 1]).run Tryz.prog (wr.alloc (.cells #[.string ⟨#[45]⟩] 9)) = .ok (.slice a3 (k + 1) c3) w7) := hrun
      have hB7 : Below W.heap.size W w7 := HBx.out.trans (hb7.mono hWB)
      have HB7 := Lib.hid hB7
      have cv := conv_bin (H2.out w7 hB7)
      have hR := run_last (gl := gl) hW7 HT.out.1 hn HT.out.2.2 HI.out (fun wx hx => H2.out wx (hB7.trans (hx.mono hB7.size)))
      have hst : (catA ls gl inb k (k + 1)).1 = if (catA ls gl inb k (k + 1)).2.2 = [] then 0 else 1 := catS_st _ _ _
      rw [(catA_end (ls := ls) (gone := gl) (inb := inb) (n := k)).2] at hst
      rw [(catA_end (ls := ls) (gone := gl) (inb := inb) (n := k)).1, (catA_end (ls := ls) (gone := gl) (inb := inb) (n := k)).2, ← HSG.out.1] at hR
      rw [← HSG.out.2] at hst hR
      rw [← HSG.out.1, ← HSG.out.2, dl, dl] at hlen
      obtain ⟨X, hX⟩ : ∃ X, (⟨inb.toArray⟩ : ByteArray) = X := ⟨_, rfl⟩
      have hXd : X.data.toList = inb := by rw [← hX]
      have hXs : X.size ≤ 200 := by rw [← dl, hXd]; exact HI.out
      rw [hX] at cv
      rw [show S.data.toList ++ inb = (S ++ X).data.toList by rw [ba_app, hXd]] at hR
      generalize (catA ls gl inb k (k + 1)).1 = st at hst hR
      have hz1 : ¬ (9223372036854775807 < S.size + X.size) := by omega
      clear hrun hW7 hb7 hB7 hX hXd HW HT HSG hlen
      generalize hMM : S ++ X = MM at hR
      have HR := Lib.hid hR
      clear hR
      by_cases hG : G = ⟨#[]⟩
      · subst hG
        have hst0 : st = 0 := by rw [hst]; rfl
        subst hst0
        clear hst
        go_wp2_with (first
          | (at_builtin; refine wpList_run_append _ rfl _ _ 22 22 rfl _ _ rfl rfl HRUN.out ?_)
          | (go_at_call 23; refine HR.out.mono ?_; rintro e w8 ⟨o', l', rfl, r1, r2, h7⟩; obtain ⟨oa, oc, rfl, _⟩ := own_slice r1; obtain ⟨la, lc, rfl, _⟩ := own_slice r2; obtain ⟨q0, q1, q2, cv1, cv2⟩ : TellP 0 MM ⟨#[]⟩ w8.heap.size oa la oc lc (w8.alloc (.cells #[.int .i64 0, .slice oa MM.size oc, .slice la 0 lc] 43)) := tell_of rfl rfl r1 r2 (Below.refl _ _); replace q2 : (w8.alloc (.cells #[.int .i64 0, .slice oa MM.size oc, .slice la 0 lc] 43)).cell? ⟨w8.heap.size, 2, none⟩ = some (.slice la 0 lc) := q2; replace cv2 : (convert 41 9 (.slice la 0 lc)).run Tryz.prog (w8.alloc (.cells #[.int .i64 0, .slice oa MM.size oc, .slice la 0 lc] 43)) = .ok (.string ⟨#[]⟩) _ := cv2; have HB8 := Lib.hid (HB7.out.trans (h7.mono HB7.out.size)); clear h7 r1 r2; simp only [dl]))
        go_ret
        exact ⟨by first | rfl | simp, HB8.out.alloc HB8.out.size _⟩
      · have hst1 : st = 1 := by
          rw [hst, if_neg]
          intro e
          exact hG (ba_ext e)
        subst hst1
        have g1 : ¬ G.toList = [] := by
          rw [Lib.toList_data]
          intro e
          exact hG (ba_ext e)
        have g2 : (G.toList == []) = false := by rw [beq_eq_false_iff_ne]; exact g1
        clear hst
        go_wp2_with (first
          | (at_builtin; refine wpList_run_append _ rfl _ _ 22 22 rfl _ _ rfl rfl HRUN.out ?_)
          | (go_at_call 23; refine HR.out.mono ?_; rintro e w8 ⟨o', l', rfl, r1, r2, h7⟩; obtain ⟨oa, oc, rfl, _⟩ := own_slice r1; obtain ⟨la, lc, rfl, _⟩ := own_slice r2; obtain ⟨q0, q1, q2, cv1, cv2⟩ := tell_of (st := 1) rfl rfl r1 r2 (Below.refl _ _); have HB8 := Lib.hid (HB7.out.trans (h7.mono HB7.out.size)); clear h7 r1 r2; simp only [dl]))
        go_ret
        exact ⟨by first | rfl | simp, HB8.out.alloc HB8.out.size _⟩
    case pos =>
      have hlen := catA_len (ls := ls) (gone := gl) (inb := inb) (n := n) (k := k) (fun j _ hj => HT.out.2.2 j hj) HI.out (by omega)
      have hltd : decide ((k : Int) < (n : Int)) = true := decide_eq_true (by omega)
      have hltI : (k : Int) < (n : Int) := by omega
      have hk0 : (0 : Int) ≤ (k : Int) := by omega
      have hb64 : IntKind.i64.wrap ((k : Int) + 1) = (k : Int) + 1 := IntWalk.i64_in _ (by omega)
      obtain ⟨b, off, ua, uc, rfl, hC, hown⟩ := H0.out.at hlt
      obtain ⟨b', off', rfl, hC'⟩ := H1.out.at (i := k) (by omega)
      have hcx := (hC wr HBx.out).1
      have hadd := addn b off k
      have hadd' := addn b' off' k
      have HC := Lib.hid hC
      have HC' := Lib.hid hC'
      have HOWN := Lib.hid hown
      have hkg : (k : Int) < (gl.length : Int) := by omega
      clear hC hC' hown
      obtain ⟨m, hm⟩ : ∃ m, (ls k).length = m := ⟨_, rfl⟩
      rw [hm] at hcx HC HOWN
      by_cases hbig : 200 < m
      · have d5 : decide ((200 : Int) < (m : Int)) = true := decide_eq_true (by omega)
        clear hlen
        go_wp2_with fail
        go_ret
        exact ⟨rfl, HBx.out⟩
      have d5 : decide ((200 : Int) < (m : Int)) = false := decide_eq_false (by omega)
      obtain ⟨hP, hDs⟩ := dec_one k (by omega)
      have hDG := fun w => Fl.RefDigits_any k (by omega) w
      generalize (⟨(Lib.decDigits k).toArray⟩ : ByteArray) = D at hP hDs hDG
      have HDG := Lib.hid hDG
      have hz1 : ¬ (9223372036854775807 < 1 + D.size) := by omega
      have HP := Lib.hid hP
      rw [← HSG.out.1, ← HSG.out.2, dl, dl] at hlen
      obtain ⟨hS1, hG1⟩ := hlen
      have HCN := Lib.hid HT.out.2.1
      have HTT := Lib.hid HT.out.1
      have HLS : Hid (∀ j < k + 1, (ls j).length ≤ 200) := fun j hj => by
        by_cases e : j = k
        · rw [e, hm]; omega
        · exact HT.out.2.2 j (by omega)
      clear hDG hP HT
      go_upto_region 14 with (go_at_call 21; refine (HDG.out _).mono ?_; rintro e w6 ⟨rfl, h6⟩; obtain rfl := h6.symm; simp only [])
      rw [HP.out]
      obtain ⟨P, hPk⟩ : ∃ P, fN k = P := ⟨_, rfl⟩
      have hPs : P.size = 2 := by rw [← hPk]; rfl
      obtain ⟨a3, n3, c3, w7, hrun, hn3, hW7, hb7⟩ := HW.out.push (by rw [catL_len]; omega) P
      rw [catL_len] at hn3
      subst hn3
      have HRUN := Lib.hid hrun
      have hB7 : Below W.heap.size W w7 := HBx.out.trans (hb7.mono hWB)
      have HB7 := Lib.hid hB7
      have HW7 : Hid (CatW B w7 N f c T (.slice a3 (k + 1) c3) (catL (k + 1))) := by rw [catL_next, hPk]; exact hW7
      have hgx := HC'.out w7 hB7
      have hc7 := (HC.out w7 hB7).1
      have hgl : gl.getD k false = gl[k]'(by omega) := by rw [List.getD_eq_getElem?_getD, List.getElem?_eq_getElem (by omega)]; rfl
      have HPK := Lib.hid hPk
      rw [hPk]
      clear hrun hW7 hb7 hB7 HW hcx hPk
      cases hgk : gl[k]'(by omega)
      · rw [hgk] at hgx hgl
        have HGL := Lib.hid hgl
        have hNE := catA_there (ls := ls) (gone := gl) (inb := inb) hlt hgl
        have HWR : Hid (Calls Tryz.prog 17 #[.pointer (some ⟨f, 0, none⟩), .string (⟨#[47]⟩ ++ P), .slice ua m uc, .bool false] w7 fun e w' => e = .returned (.int .i64 0) ∧ CatW B w' (N + 1) f { c with count := c.count + 1, size := c.size + m, clock := c.clock + 1 } (Vf.setF T [[102, UInt8.ofNat (48 + k)]] (some ⟨true, ls k, c.clock + 1⟩)) (.slice a3 (k + 1) c3) (catL (k + 1)) ∧ Below B w7 w') := by
          rw [← HPK.out, fP_eq]
          obtain ⟨e1, e2, e3, e4, e5, e6, e7, e8, e9⟩ := HCN.out
          have hw := HW7.out.write (fP k) (fP_path k (by omega)).2.2 (fP_E T (by omega)) (by rw [(fP_path k (by omega)).1]; exact HTT.out.free k (Nat.le_refl k) (by omega)) (HCN.out.ok (by omega)) (by unfold maxLen; omega) (ls k) (.slice ua m uc) (HC.out w7 HB7.out).2.1 (fun g h0 hg => Nat.lt_of_lt_of_le (HOWN.out g (by rw [← hm]; exact h0) hg) hWB) (by rw [hm]; omega) (by rw [e2]; omega) (by rw [hm, e3]; omega)
          rw [(fP_path k (by omega)).1, hm] at hw
          exact hw
        obtain ⟨X, hX⟩ : ∃ X, (⟨(ls k).toArray⟩ : ByteArray) = X := ⟨_, rfl⟩
        have hXd : X.data.toList = ls k := by rw [← hX]
        have hXs : X.size ≤ 200 := by rw [← dl, hXd, hm]; omega
        have HN2 : Hid ((S ++ X).data.toList = (catA ls gl inb n (k + 1)).2.1 ∧ G.data.toList = (catA ls gl inb n (k + 1)).2.2) := by
          rw [hNE.1, hNE.2, ba_app, hXd]
          exact ⟨by rw [HSG.out.1], HSG.out.2⟩
        have HCV : Hid (∀ wx, Below W.heap.size W wx → (convert 41 9 (.slice ua m uc)).run Tryz.prog wx = .ok (.string X) wx) := fun wx hb => by
          rw [← hX]; exact conv_bin (HC.out wx hb).2.2
        have hz2 : ¬ (9223372036854775807 < 1 + P.size) := by omega
        have hz3 : ¬ (9223372036854775807 < S.size + X.size) := by omega
        have HM := Lib.hid hm
        clear hgl hNE hX hXd hm hgk
        go_wp2_with (first
          | (at_builtin; refine wpList_run_append _ rfl _ _ 22 22 rfl _ _ rfl rfl HRUN.out ?_)
          | (go_at_call 17; refine HWR.out.mono ?_; rintro e w8 ⟨rfl, h8, hb8⟩; have HW8 := Lib.hid h8; have hB8 := HB7.out.trans (hb8.mono hWB); have HB8 := Lib.hid hB8; have hc8 := (HC.out w8 hB8).1; have cv8 := HCV.out w8 hB8; clear h8 hb8 hB8 hc7; simp only []))
        go_roundw
        case measure => simp [intOf]; omega
        case rel =>
          refine ⟨k + 1, a3, c3, _, G, N + 1, _, _, rfl, rfl, rfl, by go_num, by omega, HB8.out, HW8.out, ⟨HTT.out.put (by omega) HGL.out _, ?_, HLS.out⟩, HN2.out⟩
          obtain ⟨e1, e2, e3, e4, e5, e6, e7, e8, e9⟩ := HCN.out
          refine ⟨by omega, e2, e3, ?_, ?_, ?_, ?_, ?_, ?_⟩ <;> simp only <;> omega
      · rw [hgk] at hgx hgl
        have HGL := Lib.hid hgl
        have hNE := catA_gone (ls := ls) (gone := gl) (inb := inb) hlt (by omega) hgl
        rw [HPK.out] at hNE
        have HN2 : Hid (S.data.toList = (catA ls gl inb n (k + 1)).2.1 ∧ (G ++ ⟨#[99, 97, 116, 58, 32]⟩ ++ P ++ ⟨#[58, 32, 101, 114, 114, 111, 114, 32, 54, 10]⟩).data.toList = (catA ls gl inb n (k + 1)).2.2) := by
          rw [hNE.1, hNE.2, ba_app, ba_app, ba_app]
          refine ⟨HSG.out.1, ?_⟩
          rw [HSG.out.2]
          simp only [List.append_assoc]
        have hz2 : ¬ (9223372036854775807 < G.size + 5) := by omega
        have hz3 : ¬ (9223372036854775807 < G.size + 5 + P.size) := by omega
        have hz4 : ¬ (9223372036854775807 < G.size + 5 + P.size + 10) := by omega
        clear hgl hNE hm hgk
        go_wp2_with (at_builtin; refine wpList_run_append _ rfl _ _ 22 22 rfl _ _ rfl rfl HRUN.out ?_)
        go_roundw
        case measure => simp [intOf]; omega
        case rel =>
          refine ⟨k + 1, a3, c3, S, _, N, c, T, rfl, rfl, rfl, by go_num, by omega, HB7.out, HW7.out, ⟨HTT.out.skip HGL.out, ?_, HLS.out⟩, HN2.out⟩
          obtain ⟨e1, e2, e3, e4, e5, e6, e7, e8, e9⟩ := HCN.out
          exact ⟨by omega, e2, e3, e4, by omega, e6, by omega, e8, by omega⟩
theorem toolscat_walk (v0 v1 v2 : Value) (n : Nat) (ls : Nat → Bz) (gl : List Bool) (inb : Bz) (W : World) (h0 : Bss W v0 n ls) (h1 : Bls W v1 gl) (h3 : Vf.Bin W v2 inb) (h2 : InB W v2 inb) :
    Calls Tryz.prog 11 #[v0, v1, v2] W fun e w' => e = .returned (.bool true) ∧ Below W.heap.size W w' := by
  obtain ⟨a0, c0, rfl, _⟩ := h0.form
  obtain ⟨a1, c1, rfl, _⟩ := h1.form
  have h3' := h3
  obtain ⟨a2, c2, rfl, _⟩ := h3
  by_cases hb : 10 < n ∨ gl.length < n ∨ 200 < inb.length
  · exact cat_no a0 a1 a2 n c0 gl.length c1 inb.length c2 W hb
  · exact cat_main a0 a1 a2 n c0 c1 c2 ls gl inb W h0 h1 h2 h3' (by omega) (by omega) (by omega)
end Go.Proofs.YtcmjpkfinbakkaaGreatDoor
