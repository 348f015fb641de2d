import Derived.Test.YtcjfpkfbdcmlbaaDoorF
namespace Go.Proofs.YtcjfpkfbdcmlbaaDoor
open Go.RowKit
set_option linter.unusedVariables false

theorem tot_drop : ∀ (P : List ByteArray) (k : Nat), tot (P.drop k) ≤ tot P
  | [], k => by simp
  | x :: P, 0 => Nat.le_refl _
  | x :: P, k + 1 => by rw [List.drop_succ_cons, tot_cons]; have := tot_drop P k; omega
theorem tl9_no {s : Bs} (h : s.head? ≠ some 9) : tl9 s = s := by unfold tl9; rw [if_neg h]
theorem tl9_yes (s : Bs) : tl9 (9 :: s) = s := by unfold tl9; rfl
theorem Txt.lie {w : World} {a : Option Addr} {c : Nat} {L : List ByteArray} (h : Txt w (.slice a L.length c) L) {k : Nat} (hk : k < L.length) :
    ∃ b off, a = some ⟨b, off, none⟩ ∧ ∀ i (hi : i < L.length), w.cell? ⟨b, off + i, none⟩ = some (.string L[i]) := by
  obtain ⟨a', c', e1, h2⟩ := h.form
  injection e1 with e2 _ e3
  subst e2
  obtain ⟨b, off, ea, _, _⟩ := h2 k hk
  refine ⟨b, off, ea, fun i hi => ?_⟩
  obtain ⟨b', off', eb, _, hc⟩ := h2 i hi
  rw [ea] at eb
  injection eb with eb
  injection eb with e4 e5 _
  rw [e4, e5]; exact hc
theorem trim29 (t : ByteArray) (w : World) (ht : t.size ≤ 1000000) : Calls Tryd.prog 28 #[.string (cmtB t)] w fun e w' => e = .returned (.string (finB t)) ∧ w' = w := by
  have := trim_any (cmtB t) w (by have := cmtB_size t; omega)
  rw [show (cmtB t).data.toList = cmt t.data.toList from rfl, ← trim_comm] at this
  exact this
def CutP (w : World) (s : Bs) (n : Nat) (e : Ending) (w' : World) : Prop := ∃ v L, e = .returned v ∧ Wn w w' v L ∧ L.map (·.data.toList) = phys s ∧ L.length ≤ n + 1
set_option maxRecDepth 100000 in
set_option maxHeartbeats 8000000 in
theorem Lines_any (s : ByteArray) (w : World) (hs : s.size ≤ 9223372036854775807) : Calls Tryd.prog 8 #[.string s] w (ReadR w s.data.toList) := by
  by_cases hbig : 16384 < s.size
  · have hd : decide ((16384 : Int) < (s.size : Int)) = true := decide_eq_true (by omega)
    have HE : Hid (ReadR w s.data.toList (.returned (.tuple #[.slice none 0 0, .int .i64 3])) w) := ⟨.inl ⟨by rw [dl]; exact hbig, rfl⟩, Below.refl _ _⟩
    go_enter Tryd.func8, Tryd.ntmps8
    go_wp2_with fail
    go_ret2
    exact HE.out
  have hd : decide ((16384 : Int) < (s.size : Int)) = false := decide_eq_false (by omega)
  have hat : Calls Tryd.prog 24 #[.string s, .int .u8 0] w fun e w' => e = .returned (.int .i64 (Lib.indexByte s.data.toList 0)) ∧ w' = w := At_any s 0 w (by unfold maxLen; omega)
  have hmem := index_mem (c := 0) (s := s.data.toList)
  obtain ⟨r, hr⟩ : ∃ r, Lib.indexByte s.data.toList 0 = r := ⟨_, rfl⟩
  rw [hr] at hat hmem
  have HAT := Lib.hid hat
  clear hat hr
  by_cases hz : (0 : UInt8) ∈ s.data.toList
  · rw [decide_eq_true hz] at hmem
    have HE : Hid (ReadR w s.data.toList (.returned (.tuple #[.slice none 0 0, .int .i64 2])) w) := ⟨.inr (.inl ⟨⟨by rw [dl]; omega, hz⟩, rfl⟩), Below.refl _ _⟩
    clear hz
    go_enter Tryd.func8, Tryd.ntmps8
    go_wp2_with (go_at_call 24; refine HAT.out.mono ?_; rintro e w5 ⟨rfl, h5⟩; obtain rfl := h5.symm; simp only [])
    go_ret2
    exact HE.out
  rw [decide_eq_false hz] at hmem
  have HCUT : Hid (Calls Tryd.prog 25 #[.string s] w (CutP w s.data.toList s.size)) := cut_any s w (by omega)
  have HZ := Lib.hid hz
  obtain ⟨G, hG⟩ : ∃ G, readL (phys s.data.toList) = G := ⟨_, rfl⟩
  have HG := Lib.hid hG
  have hs2 : s.size ≤ 16384 := by omega
  clear hz hG hbig hs
  go_enter Tryd.func8, Tryd.ntmps8
  go_wp2_with (first
    | (go_at_call 24; refine HAT.out.mono ?_; rintro e w5 ⟨rfl, h5⟩; obtain rfl := h5.symm; simp only [])
    | (go_at_call 25; refine HCUT.out.mono ?_))
  rintro e w5 ⟨lv, P, rfl, hW, hP, hPl⟩
  have HB5 := Lib.hid hW.old
  have hT := hW.txt
  obtain ⟨a, c, e0, _⟩ := hT.form
  subst e0
  have HT := Lib.hid hT
  have HEQ : Hid (([] : List LB).map LB.ln ++ readL ((P.drop 0).map (·.data.toList)) = G) := by rw [Hid, List.drop_zero, hP, HG.out]; rfl
  have HTOT := Lib.hid (tot_phys hP)
  have HLS : Hid (Ls w5 w5 (.slice none 0 0) []) := Ls.nil w5
  have hR1 : P.length ≤ 16385 := by omega
  clear hW hP hPl hT
  simp only []
  go_wp2_with fail
  go_loopw [5, 6] (fun x y wx => ∃ (k : Nat) (v : Value) (L : List LB), v = x ∧ y = .int .i64 k ∧ k ≤ P.length ∧ L.length ≤ k ∧ Hid (Ls w5 wx v L) ∧ Hid (L.map LB.ln ++ readL ((P.drop k).map (·.data.toList)) = G)) (fun _ y _ => P.length - (intOf y).toNat)
  case atStart => exact ⟨0, _, [], rfl, rfl, by omega, Nat.le_refl _, HLS.out, HEQ.out⟩
  case round =>
    obtain ⟨k, v, L, rfl, rfl, hk, hlen, HLS, HEQ⟩ := hrel
    by_cases hlt : k < P.length
    case neg =>
      obtain rfl : k = P.length := by omega
      have hltd : decide ((P.length : Int) < (P.length : Int)) = false := decide_eq_false (by omega)
      have HE : Hid (ReadR w s.data.toList (.returned (.tuple #[v, .int .i64 0])) wr) := by
        refine ⟨.inr (.inr ⟨⟨by rw [dl]; exact hs2, HZ.out⟩, v, L, rfl, ⟨World.ownsRow.mono HLS.out.own HB5.out.size, HB5.out.trans (HLS.out.old.mono HB5.out.size)⟩, ?_, by omega⟩), HB5.out.trans (HLS.out.old.mono HB5.out.size)⟩
        have := HEQ.out
        rw [List.drop_length, List.map_nil, readL_nil, List.append_nil] at this
        rw [this, HG.out]
      go_wp2_with fail
      go_ret2
      exact HE.out
    case pos =>
    have hltd : decide ((k : Int) < (P.length : Int)) = true := decide_eq_true (by omega)
    have hltI : (k : Int) < (P.length : Int) := by omega
    have hk0 : (0 : Int) ≤ (k : Int) := by omega
    obtain ⟨b, off, rfl, hcl⟩ := Txt.lie (HT.out.below HLS.out.old) hlt
    have HCL := Lib.hid hcl
    have hcx := hcl k hlt
    have hadd := addn b off k
    have HDR : Hid (P.drop k = P[k] :: P.drop (k + 1)) := List.drop_eq_getElem_cons hlt
    have HTK := Lib.hid (Nat.le_trans (tot_drop P k) HTOT.out)
    obtain ⟨x, hx⟩ : ∃ x, P[k] = x := ⟨_, rfl⟩
    rw [hx] at hcx HDR
    have htk := HTK.out
    rw [HDR.out, tot_cons] at htk
    rw [HDR.out, List.map_cons] at HEQ
    clear hcl hx HDR HTK

    by_cases hx0 : x.size = 0
    · have hnil : x.data.toList = [] := List.length_eq_zero_iff.1 (by rw [dl]; exact hx0)
      have g0 := isE_of hnil
      have h9 : x.data.toList.head? ≠ some 9 := by rw [hnil]; simp
      clear hnil
      have HGO : Hid (L.map LB.ln ++ (fin (goN x.data.toList ((P.drop (k + 1)).map (·.data.toList))).1 ++ readL (goN x.data.toList ((P.drop (k + 1)).map (·.data.toList))).2) = G) := by
        have := HEQ.out
        rw [readL_not h9] at this
        exact this
      obtain ⟨Y, hY⟩ : ∃ Y, goN x.data.toList ((P.drop (k + 1)).map (·.data.toList)) = Y := ⟨_, rfl⟩
      rw [hY] at HGO
      have HY0 := Lib.hid hY
      clear h9 hY HEQ
      go_wp2_with fail
      go_loopw [6, 7] (fun y t wx => ∃ (k2 : Nat) (t2 : ByteArray), y = .int .i64 k2 ∧ t = .string t2 ∧ wx = wr ∧ k ≤ k2 ∧ k2 < P.length ∧ t2.size + tot (P.drop (k2 + 1)) ≤ s.size + 1 ∧ Hid (goN t2.data.toList ((P.drop (k2 + 1)).map (·.data.toList)) = Y)) (fun y _ _ => P.length - (intOf y).toNat)
      case atStart => exact ⟨k, x, rfl, rfl, rfl, Nat.le_refl _, hlt, by omega, HY0.out⟩
      case round =>
        obtain ⟨k2, t2, rfl, rfl, rfl, hkk, hk2, ht2, HY2⟩ := hrel
        have HCO := Lib.hid (odd_any t2 wr (by omega))
        have hb64 : IntKind.i64.wrap ((k2 : Int) + 1) = (k2 : Int) + 1 := IntWalk.i64_in _ (by omega)
        cases ho : odd t2.data.toList with
        | false =>
          rw [ho] at HCO
          have HGE : Hid (L.map LB.ln ++ (fin t2.data.toList ++ readL ((P.drop (k2 + 1)).map (·.data.toList))) = G) := by
            have hYY : (t2.data.toList, (P.drop (k2 + 1)).map (·.data.toList)) = Y := by
              have := HY2.out
              cases hR : (P.drop (k2 + 1)).map (·.data.toList) with
              | nil => rw [hR, goN, if_neg (by simp [ho])] at this; exact this
              | cons a r => rw [hR, goN, if_neg (by simp [ho])] at this; exact this
            have := HGO.out
            rw [← hYY] at this
            exact this
          clear ho
          have HCM : Hid (∀ wx, Calls Tryd.prog 29 #[.string t2] wx fun e w' => e = .returned (.string (cmtB t2)) ∧ w' = wx) := fun wx => comment_any t2 wx (by omega)
          have HTM := Lib.hid (fun wx => trim29 t2 wx (by omega))
          obtain ⟨C, hC⟩ : ∃ C, cmtB t2 = C := ⟨_, rfl⟩
          obtain ⟨F, hF⟩ : ∃ F, finB t2 = F := ⟨_, rfl⟩
          rw [hC] at HCM HTM
          rw [hF] at HTM
          have HFIN := Lib.hid hF
          clear hC hF
          by_cases hf0 : F.data.toList = []
          · have f1 := isE_of hf0
            have HQ : Hid (L.map LB.ln ++ readL ((P.drop (k2 + 1)).map (·.data.toList)) = G) := by
              have := HGE.out
              rw [fin_none (t := t2) (by rw [HFIN.out]; exact hf0), List.nil_append] at this
              exact this
            clear hf0
            go_wp2_with (first
              | (go_at_call 26; refine HCO.out.mono ?_; rintro e wy ⟨rfl, hy⟩; obtain rfl := hy.symm; simp only [])
              | (go_at_call 29; refine (HCM.out _).mono ?_; rintro e wy ⟨rfl, hy⟩; obtain rfl := hy.symm; simp only [])
              | (go_at_call 28; refine (HTM.out _).mono ?_; rintro e wy ⟨rfl, hy⟩; obtain rfl := hy.symm; simp only []))
            go_roundw
            case measure => simp [intOf]; omega
            case rel => exact ⟨k2 + 1, v, L, rfl, by go_num, by omega, by omega, HLS.out, HQ.out⟩
          · have f1 := isE_ne hf0
            have HQ : Hid ((L ++ [(⟨false, F⟩ : LB)]).map LB.ln ++ readL ((P.drop (k2 + 1)).map (·.data.toList)) = G) := by
              have := HGE.out
              rw [fin_some (t := t2) (by rw [HFIN.out]; exact hf0), HFIN.out] at this
              rw [Hid, ← this, List.map_append, List.append_assoc]; rfl
            obtain ⟨v8, w8, r8, h8⟩ := HLS.out.push (by omega) (⟨false, F⟩ : LB)
            have HL8 := Lib.hid h8
            clear h8 hf0
            go_wp2_with (first
              | (go_at_call 26; refine HCO.out.mono ?_; rintro e wy ⟨rfl, hy⟩; obtain rfl := hy.symm; simp only [])
              | (go_at_call 29; refine (HCM.out _).mono ?_; rintro e wy ⟨rfl, hy⟩; obtain rfl := hy.symm; simp only [])
              | (go_at_call 28; refine (HTM.out _).mono ?_; rintro e wy ⟨rfl, hy⟩; obtain rfl := hy.symm; simp only [])
              | (at_builtin; refine wpList_run_append _ rfl _ _ 23 23 rfl _ _ rfl rfl r8 ?_))
            go_roundw
            case measure => simp [intOf]; omega
            case rel => exact ⟨k2 + 1, v8, L ++ [(⟨false, F⟩ : LB)], rfl, by go_num, by omega, by rw [List.length_append, List.length_singleton]; omega, HL8.out, HQ.out⟩
        | true =>
          rw [ho] at HCO
          have hne := odd_ne ho
          have h0p : 0 < t2.size := by
            rcases Nat.eq_zero_or_pos t2.size with h | h
            · exact absurd (List.length_eq_zero_iff.1 (by rw [dl]; exact h)) hne
            · exact h
          obtain ⟨mm, hml, hmm, hlb, hEs⟩ := last_at h0p
          have hb1 : IntKind.i64.wrap ((t2.size : Int) - 1) = (mm : Int) := by rw [IntWalk.i64_in _ (by omega)]; omega
          obtain ⟨E, hE⟩ : ∃ E, t2.extract 0 mm = E := ⟨_, rfl⟩
          rw [hE] at hEs hlb
          have hdl : t2.data.toList.dropLast = E.data.toList := by rw [hlb]; simp
          have hm0 : (0 : Int) ≤ (mm : Int) := by omega
          have hmI : (mm : Int) ≤ (t2.size : Int) := by omega
          have HYR : Hid (∀ u : ByteArray, u.data.toList = trR E.data.toList → ((P.drop (k2 + 1)).map (·.data.toList) = [] → Y = (u.data.toList ++ [32], [])) ∧ ∀ (n : ByteArray) (r : List Bs), (P.drop (k2 + 1)).map (·.data.toList) = n.data.toList :: r → goN (u.data.toList ++ [32] ++ trL n.data.toList) r = Y) := fun u hu => by
            have := HY2.out
            refine ⟨fun h => ?_, fun n r h => ?_⟩
            · rw [h, goN, if_pos ho, hdl, ← hu] at this
              exact this.symm
            · rw [h, goN, if_pos ho, hdl, ← hu] at this
              exact this
          clear ho hne hlb hdl HY2
          go_wp2_with (go_at_call 26; refine HCO.out.mono ?_; rintro e wy ⟨rfl, hy⟩; obtain rfl := hy.symm; simp only [])
          go_loopw [7] (fun y wx => ∃ u : ByteArray, u.size ≤ mm ∧ y = .string u ∧ wx = wr ∧ Hid (trR u.data.toList = trR E.data.toList)) (fun y _ => szOf y)
          case atStart => exact ⟨E, by omega, rfl, rfl, rfl⟩
          case round =>
            obtain ⟨u, hus, rfl, rfl, HUR⟩ := hrel
            by_cases hu0 : u.size = 0
            · have hnil : u.data.toList = [] := List.length_eq_zero_iff.1 (by rw [dl]; exact hu0)
              have g3 := isE_of hnil
              have HU : Hid (u.data.toList = trR E.data.toList) := by rw [Hid, ← HUR.out, hnil]; rfl
              clear hnil
              have hs1 : ¬ (9223372036854775807 < u.size + 1) := by omega
              by_cases hl2 : k2 + 1 < P.length
              case neg =>
                have hl2e : ((k2 : Int) + 1 == (P.length : Int)) = true := by simp; omega
                obtain ⟨U, hU⟩ : ∃ U, u ++ (⟨#[32]⟩ : ByteArray) = U := ⟨_, rfl⟩
                have hUs : U.size = u.size + 1 := by rw [← hU, ByteArray.size_append]; rfl
                have HGE : Hid (L.map LB.ln ++ (fin U.data.toList ++ readL ((P.drop (k2 + 1)).map (·.data.toList))) = G) := by
                  have hYY : (U.data.toList, (P.drop (k2 + 1)).map (·.data.toList)) = Y := by
                    have := HYR.out u HU.out
                    rw [List.drop_eq_nil_of_le (by omega)] at this ⊢
                    rw [this.1 rfl, ← hU]
                    simp
                  have := HGO.out
                  rw [← hYY] at this
                  exact this
                clear HYR
                have HCM : Hid (∀ wx, Calls Tryd.prog 29 #[.string U] wx fun e w' => e = .returned (.string (cmtB U)) ∧ w' = wx) := fun wx => comment_any U wx (by omega)
                have HTM := Lib.hid (fun wx => trim29 U wx (by omega))
                obtain ⟨C, hC⟩ : ∃ C, cmtB U = C := ⟨_, rfl⟩
                obtain ⟨F, hF⟩ : ∃ F, finB U = F := ⟨_, rfl⟩
                rw [hC] at HCM HTM
                rw [hF] at HTM
                have HFIN := Lib.hid hF
                clear hC hF
                by_cases hf0 : F.data.toList = []
                · have f1 := isE_of hf0
                  have HQ : Hid (L.map LB.ln ++ readL ((P.drop (k2 + 1)).map (·.data.toList)) = G) := by
                    have := HGE.out
                    rw [fin_none (t := U) (by rw [HFIN.out]; exact hf0), List.nil_append] at this
                    exact this
                  clear hf0
                  go_wp2_with (first
                    | fail
                    | (go_at_call 29; refine (HCM.out _).mono ?_; rintro e wy ⟨rfl, hy⟩; obtain rfl := hy.symm; simp only [])
                    | (go_at_call 28; refine (HTM.out _).mono ?_; rintro e wy ⟨rfl, hy⟩; obtain rfl := hy.symm; simp only []))
                  go_roundw
                  case measure => simp [intOf]; omega
                  case rel => exact ⟨k2 + 1, v, L, rfl, by go_num, by omega, by omega, HLS.out, HQ.out⟩
                · have f1 := isE_ne hf0
                  have HQ : Hid ((L ++ [(⟨false, F⟩ : LB)]).map LB.ln ++ readL ((P.drop (k2 + 1)).map (·.data.toList)) = G) := by
                    have := HGE.out
                    rw [fin_some (t := U) (by rw [HFIN.out]; exact hf0), HFIN.out] at this
                    rw [Hid, ← this, List.map_append, List.append_assoc]; rfl
                  obtain ⟨v8, w8, r8, h8⟩ := HLS.out.push (by omega) (⟨false, F⟩ : LB)
                  have HL8 := Lib.hid h8
                  clear h8 hf0
                  go_wp2_with (first
                    | fail
                    | (go_at_call 29; refine (HCM.out _).mono ?_; rintro e wy ⟨rfl, hy⟩; obtain rfl := hy.symm; simp only [])
                    | (go_at_call 28; refine (HTM.out _).mono ?_; rintro e wy ⟨rfl, hy⟩; obtain rfl := hy.symm; simp only [])
                    | (at_builtin; refine wpList_run_append _ rfl _ _ 23 23 rfl _ _ rfl rfl r8 ?_))
                  go_roundw
                  case measure => simp [intOf]; omega
                  case rel => exact ⟨k2 + 1, v8, L ++ [(⟨false, F⟩ : LB)], rfl, by go_num, by omega, by rw [List.length_append, List.length_singleton]; omega, HL8.out, HQ.out⟩
              case pos =>
                have hl2e : ((k2 : Int) + 1 == (P.length : Int)) = false := by simp; omega
                have hl2I : (k2 : Int) + 1 < (P.length : Int) := by omega
                have hk20 : (0 : Int) ≤ (k2 : Int) + 1 := by omega
                have hcn := HCL.out (k2 + 1) hl2
                have hadd2 := addn b off (k2 + 1)
                have HDN : Hid (P.drop (k2 + 1) = P[k2 + 1] :: P.drop (k2 + 1 + 1)) := List.drop_eq_getElem_cons hl2
                obtain ⟨n, hn⟩ : ∃ n, P[k2 + 1] = n := ⟨_, rfl⟩
                rw [hn] at hcn HDN
                rw [HDN.out, tot_cons] at ht2
                have HYN : Hid (goN (u.data.toList ++ [32] ++ trL n.data.toList) ((P.drop (k2 + 1 + 1)).map (·.data.toList)) = Y) := (HYR.out u HU.out).2 n _ (by rw [HDN.out, List.map_cons])
                have hsz : ∀ D : ByteArray, (u ++ (⟨#[32]⟩ : ByteArray) ++ D).size = u.size + 1 + D.size := fun D => by rw [ByteArray.size_append, ByteArray.size_append]; rfl
                have HSZ := Lib.hid hsz
                clear hsz hn HDN HYR
                go_wp2_with fail
                go_loopw [9] (fun y wx => ∃ d : ByteArray, d.size ≤ n.size ∧ y = .string d ∧ wx = wr ∧ Hid (trL d.data.toList = trL n.data.toList)) (fun y _ => szOf y)
                case atStart => exact ⟨n, Nat.le_refl _, rfl, rfl, rfl⟩
                case round =>
                  obtain ⟨d, hds, rfl, rfl, HD⟩ := hrel
                  have hs3 : ¬ (9223372036854775807 < u.size + 1 + d.size) := by omega
                  by_cases hd0 : d.size = 0
                  · have hnil : d.data.toList = [] := List.length_eq_zero_iff.1 (by rw [dl]; exact hd0)
                    have g4 := isE_of hnil
                    have HYD : Hid (goN (u ++ (⟨#[32]⟩ : ByteArray) ++ d).data.toList ((P.drop (k2 + 1 + 1)).map (·.data.toList)) = Y) := by
                      rw [Hid, ← HYN.out, ← HD.out, hnil]; simp [hnil, show trL [] = [] from rfl]
                    clear hnil HYN
                    go_wp2_with fail
                    go_roundw
                    case measure => simp [intOf]; omega
                    case rel => exact ⟨k2 + 1, _, by go_num, rfl, by simp, by omega, hl2, by rw [HSZ.out]; omega, HYD.out⟩
                  · have h0p4 : 0 < d.size := by omega
                    have hfb4 := first_byte h0p4
                    have g04 := isE_ne (t := d) (fun e => by rw [e] at hfb4; cases hfb4)
                    obtain ⟨e4, hc4⟩ : ∃ e4, d[0]'h0p4 = e4 := ⟨_, rfl⟩
                    rw [hc4] at hfb4
                    have h0I4 : (0 : Int) < (d.size : Int) := by omega
                    have h1I4 : (1 : Int) ≤ (d.size : Int) := by omega
                    have HBL := Lib.hid (fun wx => blank_any e4 wx)
                    cases hb4 : isB e4 with
                    | true =>
                      rw [hb4] at HBL
                      obtain ⟨E4, hE4⟩ : ∃ E4, d.extract 1 d.size = E4 := ⟨_, rfl⟩
                      have hEs4 : E4.size = d.size - 1 := by rw [← hE4]; simp
                      have HD2 : Hid (trL E4.data.toList = trL n.data.toList) := by
                        have := HD.out
                        rw [hfb4, hE4, trL_cons, if_pos hb4] at this
                        exact this
                      clear hfb4 hb4
                      go_wp2_with (go_at_call 27; refine (HBL.out _).mono ?_; rintro e w7 ⟨rfl, h7⟩; obtain rfl := h7.symm; simp only [])
                      go_roundw
                      case measure => simp [szOf]; omega
                      case rel => exact ⟨E4, by omega, rfl, by simp, HD2.out⟩
                    | false =>
                      rw [hb4] at HBL
                      have HYD : Hid (goN (u ++ (⟨#[32]⟩ : ByteArray) ++ d).data.toList ((P.drop (k2 + 1 + 1)).map (·.data.toList)) = Y) := by
                        have := HD.out
                        rw [hfb4, trL_cons, if_neg (by simp [hb4]), ← hfb4] at this
                        rw [Hid, ← HYN.out, ← this]; simp
                      clear hfb4 hb4 HYN
                      go_wp2_with (go_at_call 27; refine (HBL.out _).mono ?_; rintro e w7 ⟨rfl, h7⟩; obtain rfl := h7.symm; simp only [])
                      go_roundw
                      case measure => simp [intOf]; omega
                      case rel => exact ⟨k2 + 1, _, by go_num, rfl, by simp, by omega, hl2, by rw [HSZ.out]; omega, HYD.out⟩
            · have h0pu : 0 < u.size := by omega
              obtain ⟨mu, hul, hum, hlbu, hEu⟩ := last_at h0pu
              have g3 := isE_ne (t := u) (fun e => by rw [e] at hlbu; simp at hlbu)
              have hbu : IntKind.i64.wrap ((u.size : Int) - 1) = (mu : Int) := by rw [IntWalk.i64_in _ (by omega)]; omega
              obtain ⟨cu, hcu⟩ : ∃ cu, u[mu]'hul = cu := ⟨_, rfl⟩
              obtain ⟨Eu, hEu2⟩ : ∃ Eu, u.extract 0 mu = Eu := ⟨_, rfl⟩
              rw [hcu, hEu2] at hlbu
              rw [hEu2] at hEu
              have HUM := Lib.hid hum
              have hmu0 : (0 : Int) ≤ (mu : Int) := by omega
              have hmuI : (mu : Int) < (u.size : Int) := by omega
              have hmuI2 : (mu : Int) ≤ (u.size : Int) := by omega
              have HBL := Lib.hid (fun wx => blank_any cu wx)
              clear hum
              cases hb3 : isB cu with
              | true =>
                rw [hb3] at HBL
                have HUN : Hid (trR Eu.data.toList = trR E.data.toList) := by
                  have := HUR.out
                  rw [hlbu, trR_snoc, if_pos hb3] at this
                  exact this
                clear hlbu hb3 HYR
                go_wp2_with (go_at_call 27; refine (HBL.out _).mono ?_; rintro e w7 ⟨rfl, h7⟩; obtain rfl := h7.symm; simp only [])
                go_roundw
                case measure => have := HUM.out; simp [szOf]; omega
                case rel => exact ⟨Eu, by have := HUM.out; omega, rfl, by simp, HUN.out⟩
              | false =>
                rw [hb3] at HBL
                have HU : Hid (u.data.toList = trR E.data.toList) := by
                  have := HUR.out
                  rw [hlbu, trR_snoc, if_neg (by simp [hb3]), ← hlbu] at this
                  exact this
                clear hlbu hb3
                have hs1 : ¬ (9223372036854775807 < u.size + 1) := by omega
                by_cases hl2 : k2 + 1 < P.length
                case neg =>
                  have hl2e : ((k2 : Int) + 1 == (P.length : Int)) = true := by simp; omega
                  obtain ⟨U, hU⟩ : ∃ U, u ++ (⟨#[32]⟩ : ByteArray) = U := ⟨_, rfl⟩
                  have hUs : U.size = u.size + 1 := by rw [← hU, ByteArray.size_append]; rfl
                  have HGE : Hid (L.map LB.ln ++ (fin U.data.toList ++ readL ((P.drop (k2 + 1)).map (·.data.toList))) = G) := by
                    have hYY : (U.data.toList, (P.drop (k2 + 1)).map (·.data.toList)) = Y := by
                      have := HYR.out u HU.out
                      rw [List.drop_eq_nil_of_le (by omega)] at this ⊢
                      rw [this.1 rfl, ← hU]
                      simp
                    have := HGO.out
                    rw [← hYY] at this
                    exact this
                  clear HYR
                  have HCM : Hid (∀ wx, Calls Tryd.prog 29 #[.string U] wx fun e w' => e = .returned (.string (cmtB U)) ∧ w' = wx) := fun wx => comment_any U wx (by omega)
                  have HTM := Lib.hid (fun wx => trim29 U wx (by omega))
                  obtain ⟨C, hC⟩ : ∃ C, cmtB U = C := ⟨_, rfl⟩
                  obtain ⟨F, hF⟩ : ∃ F, finB U = F := ⟨_, rfl⟩
                  rw [hC] at HCM HTM
                  rw [hF] at HTM
                  have HFIN := Lib.hid hF
                  clear hC hF
                  by_cases hf0 : F.data.toList = []
                  · have f1 := isE_of hf0
                    have HQ : Hid (L.map LB.ln ++ readL ((P.drop (k2 + 1)).map (·.data.toList)) = G) := by
                      have := HGE.out
                      rw [fin_none (t := U) (by rw [HFIN.out]; exact hf0), List.nil_append] at this
                      exact this
                    clear hf0
                    go_wp2_with (first
                      | (go_at_call 27; refine (HBL.out _).mono ?_; rintro e w7 ⟨rfl, h7⟩; obtain rfl := h7.symm; simp only [])
                      | (go_at_call 29; refine (HCM.out _).mono ?_; rintro e wy ⟨rfl, hy⟩; obtain rfl := hy.symm; simp only [])
                      | (go_at_call 28; refine (HTM.out _).mono ?_; rintro e wy ⟨rfl, hy⟩; obtain rfl := hy.symm; simp only []))
                    go_roundw
                    case measure => simp [intOf]; omega
                    case rel => exact ⟨k2 + 1, v, L, rfl, by go_num, by omega, by omega, HLS.out, HQ.out⟩
                  · have f1 := isE_ne hf0
                    have HQ : Hid ((L ++ [(⟨false, F⟩ : LB)]).map LB.ln ++ readL ((P.drop (k2 + 1)).map (·.data.toList)) = G) := by
                      have := HGE.out
                      rw [fin_some (t := U) (by rw [HFIN.out]; exact hf0), HFIN.out] at this
                      rw [Hid, ← this, List.map_append, List.append_assoc]; rfl
                    obtain ⟨v8, w8, r8, h8⟩ := HLS.out.push (by omega) (⟨false, F⟩ : LB)
                    have HL8 := Lib.hid h8
                    clear h8 hf0
                    go_wp2_with (first
                      | (go_at_call 27; refine (HBL.out _).mono ?_; rintro e w7 ⟨rfl, h7⟩; obtain rfl := h7.symm; simp only [])
                      | (go_at_call 29; refine (HCM.out _).mono ?_; rintro e wy ⟨rfl, hy⟩; obtain rfl := hy.symm; simp only [])
                      | (go_at_call 28; refine (HTM.out _).mono ?_; rintro e wy ⟨rfl, hy⟩; obtain rfl := hy.symm; simp only [])
                      | (at_builtin; refine wpList_run_append _ rfl _ _ 23 23 rfl _ _ rfl rfl r8 ?_))
                    go_roundw
                    case measure => simp [intOf]; omega
                    case rel => exact ⟨k2 + 1, v8, L ++ [(⟨false, F⟩ : LB)], rfl, by go_num, by omega, by rw [List.length_append, List.length_singleton]; omega, HL8.out, HQ.out⟩
                case pos =>
                  have hl2e : ((k2 : Int) + 1 == (P.length : Int)) = false := by simp; omega
                  have hl2I : (k2 : Int) + 1 < (P.length : Int) := by omega
                  have hk20 : (0 : Int) ≤ (k2 : Int) + 1 := by omega
                  have hcn := HCL.out (k2 + 1) hl2
                  have hadd2 := addn b off (k2 + 1)
                  have HDN : Hid (P.drop (k2 + 1) = P[k2 + 1] :: P.drop (k2 + 1 + 1)) := List.drop_eq_getElem_cons hl2
                  obtain ⟨n, hn⟩ : ∃ n, P[k2 + 1] = n := ⟨_, rfl⟩
                  rw [hn] at hcn HDN
                  rw [HDN.out, tot_cons] at ht2
                  have HYN : Hid (goN (u.data.toList ++ [32] ++ trL n.data.toList) ((P.drop (k2 + 1 + 1)).map (·.data.toList)) = Y) := (HYR.out u HU.out).2 n _ (by rw [HDN.out, List.map_cons])
                  have hsz : ∀ D : ByteArray, (u ++ (⟨#[32]⟩ : ByteArray) ++ D).size = u.size + 1 + D.size := fun D => by rw [ByteArray.size_append, ByteArray.size_append]; rfl
                  have HSZ := Lib.hid hsz
                  clear hsz hn HDN HYR
                  go_wp2_with (go_at_call 27; refine (HBL.out _).mono ?_; rintro e w7 ⟨rfl, h7⟩; obtain rfl := h7.symm; simp only [])
                  go_loopw [9] (fun y wx => ∃ d : ByteArray, d.size ≤ n.size ∧ y = .string d ∧ wx = wr ∧ Hid (trL d.data.toList = trL n.data.toList)) (fun y _ => szOf y)
                  case atStart => exact ⟨n, Nat.le_refl _, rfl, rfl, rfl⟩
                  case round =>
                    obtain ⟨d, hds, rfl, rfl, HD⟩ := hrel
                    have hs3 : ¬ (9223372036854775807 < u.size + 1 + d.size) := by omega
                    by_cases hd0 : d.size = 0
                    · have hnil : d.data.toList = [] := List.length_eq_zero_iff.1 (by rw [dl]; exact hd0)
                      have g4 := isE_of hnil
                      have HYD : Hid (goN (u ++ (⟨#[32]⟩ : ByteArray) ++ d).data.toList ((P.drop (k2 + 1 + 1)).map (·.data.toList)) = Y) := by
                        rw [Hid, ← HYN.out, ← HD.out, hnil]; simp [hnil, show trL [] = [] from rfl]
                      clear hnil HYN
                      go_wp2_with fail
                      go_roundw
                      case measure => simp [intOf]; omega
                      case rel => exact ⟨k2 + 1, _, by go_num, rfl, by simp, by omega, hl2, by rw [HSZ.out]; omega, HYD.out⟩
                    · have h0p4 : 0 < d.size := by omega
                      have hfb4 := first_byte h0p4
                      have g04 := isE_ne (t := d) (fun e => by rw [e] at hfb4; cases hfb4)
                      obtain ⟨e4, hc4⟩ : ∃ e4, d[0]'h0p4 = e4 := ⟨_, rfl⟩
                      rw [hc4] at hfb4
                      have h0I4 : (0 : Int) < (d.size : Int) := by omega
                      have h1I4 : (1 : Int) ≤ (d.size : Int) := by omega
                      have HBL := Lib.hid (fun wx => blank_any e4 wx)
                      cases hb4 : isB e4 with
                      | true =>
                        rw [hb4] at HBL
                        obtain ⟨E4, hE4⟩ : ∃ E4, d.extract 1 d.size = E4 := ⟨_, rfl⟩
                        have hEs4 : E4.size = d.size - 1 := by rw [← hE4]; simp
                        have HD2 : Hid (trL E4.data.toList = trL n.data.toList) := by
                          have := HD.out
                          rw [hfb4, hE4, trL_cons, if_pos hb4] at this
                          exact this
                        clear hfb4 hb4
                        go_wp2_with (go_at_call 27; refine (HBL.out _).mono ?_; rintro e w7 ⟨rfl, h7⟩; obtain rfl := h7.symm; simp only [])
                        go_roundw
                        case measure => simp [szOf]; omega
                        case rel => exact ⟨E4, by omega, rfl, by simp, HD2.out⟩
                      | false =>
                        rw [hb4] at HBL
                        have HYD : Hid (goN (u ++ (⟨#[32]⟩ : ByteArray) ++ d).data.toList ((P.drop (k2 + 1 + 1)).map (·.data.toList)) = Y) := by
                          have := HD.out
                          rw [hfb4, trL_cons, if_neg (by simp [hb4]), ← hfb4] at this
                          rw [Hid, ← HYN.out, ← this]; simp
                        clear hfb4 hb4 HYN
                        go_wp2_with (go_at_call 27; refine (HBL.out _).mono ?_; rintro e w7 ⟨rfl, h7⟩; obtain rfl := h7.symm; simp only [])
                        go_roundw
                        case measure => simp [intOf]; omega
                        case rel => exact ⟨k2 + 1, _, by go_num, rfl, by simp, by omega, hl2, by rw [HSZ.out]; omega, HYD.out⟩
    · have h0p : 0 < x.size := by omega
      have hfb := first_byte h0p
      have g0 := isE_ne (t := x) (fun e => by rw [e] at hfb; cases hfb)
      obtain ⟨c9, hc⟩ : ∃ c9, x[0]'h0p = c9 := ⟨_, rfl⟩
      rw [hc] at hfb
      have h0I : (0 : Int) < (x.size : Int) := by omega
      have h1I : (1 : Int) ≤ (x.size : Int) := by omega
      have h9b := byte_eq c9 9
      rw [show ((9 : UInt8).toNat : Int) = 9 from rfl] at h9b
      by_cases hc9 : c9 = 9
      · have g9 : ((c9.toNat : Int) == 9) = true := by rw [h9b, hc9]; rfl
        clear h9b
        have HGO : Hid (L.map LB.ln ++ ((true, (goR (x.extract 1 x.size).data.toList ((P.drop (k + 1)).map (·.data.toList))).1) :: readL (goR (x.extract 1 x.size).data.toList ((P.drop (k + 1)).map (·.data.toList))).2) = G) := by
          have := HEQ.out
          rw [hfb, hc9, readL_rec rfl] at this
          exact this
        have hTs : (x.extract 1 x.size).size = x.size - 1 := by simp
        obtain ⟨T, hT⟩ : ∃ T, x.extract 1 x.size = T := ⟨_, rfl⟩
        rw [hT] at HGO hTs
        obtain ⟨Y, hY⟩ : ∃ Y, goR T.data.toList ((P.drop (k + 1)).map (·.data.toList)) = Y := ⟨_, rfl⟩
        rw [hY] at HGO
        have HY0 := Lib.hid hY
        clear hfb hY HEQ
        go_wp2_with fail
        go_loopw [6, 7] (fun y t wx => ∃ (k2 : Nat) (t2 : ByteArray), y = .int .i64 k2 ∧ t = .string t2 ∧ wx = wr ∧ k ≤ k2 ∧ k2 < P.length ∧ t2.size + tot (P.drop (k2 + 1)) ≤ s.size + 1 ∧ Hid (goR t2.data.toList ((P.drop (k2 + 1)).map (·.data.toList)) = Y)) (fun y _ _ => P.length - (intOf y).toNat)
        case atStart => exact ⟨k, T, rfl, rfl, rfl, Nat.le_refl _, hlt, by omega, HY0.out⟩
        case round =>
          obtain ⟨k2, t2, rfl, rfl, rfl, hkk, hk2, ht2, HY2⟩ := hrel
          have HCO := Lib.hid (odd_any t2 wr (by omega))
          have hb64 : IntKind.i64.wrap ((k2 : Int) + 1) = (k2 : Int) + 1 := IntWalk.i64_in _ (by omega)
          -- what stands behind the loop: the line is whole
          have HEND : Hid ((t2.data.toList, (P.drop (k2 + 1)).map (·.data.toList)) = Y → (L ++ [(⟨true, t2⟩ : LB)]).map LB.ln ++ readL ((P.drop (k2 + 1)).map (·.data.toList)) = G) := fun h => by
            have := HGO.out
            rw [← h] at this
            rw [← this, List.map_append, List.append_assoc]; rfl
          by_cases hl2 : k2 + 1 < P.length
          case neg =>
            have hl2d : decide ((k2 : Int) + 1 < (P.length : Int)) = false := decide_eq_false (by omega)
            have HQ8 := Lib.hid (HEND.out (by
              have := HY2.out
              rw [List.drop_eq_nil_of_le (by omega), List.map_nil, goR] at this
              rw [List.drop_eq_nil_of_le (by omega), List.map_nil]; exact this))
            clear HEND
            cases ho : odd t2.data.toList with
            | false =>
              rw [ho] at HCO
              clear ho
              obtain ⟨v8, w8, r8, h8⟩ := HLS.out.push (by omega) (⟨true, t2⟩ : LB)
              have HL8 := Lib.hid h8
              clear h8
              go_wp2_with (first
                | (go_at_call 26; refine HCO.out.mono ?_; rintro e wy ⟨rfl, hy⟩; obtain rfl := hy.symm; simp only [])
                | (at_builtin; refine wpList_run_append _ rfl _ _ 23 23 rfl _ _ rfl rfl r8 ?_))
              go_roundw
              case measure => simp [intOf]; omega
              case rel => exact ⟨k2 + 1, v8, L ++ [(⟨true, t2⟩ : LB)], rfl, by go_num, by omega, by rw [List.length_append, List.length_singleton]; omega, HL8.out, HQ8.out⟩
            | true =>
              rw [ho] at HCO
              clear ho
              obtain ⟨v8, w8, r8, h8⟩ := HLS.out.push (by omega) (⟨true, t2⟩ : LB)
              have HL8 := Lib.hid h8
              clear h8
              go_wp2_with (first
                | (go_at_call 26; refine HCO.out.mono ?_; rintro e wy ⟨rfl, hy⟩; obtain rfl := hy.symm; simp only [])
                | (at_builtin; refine wpList_run_append _ rfl _ _ 23 23 rfl _ _ rfl rfl r8 ?_))
              go_roundw
              case measure => simp [intOf]; omega
              case rel => exact ⟨k2 + 1, v8, L ++ [(⟨true, t2⟩ : LB)], rfl, by go_num, by omega, by rw [List.length_append, List.length_singleton]; omega, HL8.out, HQ8.out⟩
          case pos =>
            have hl2d : decide ((k2 : Int) + 1 < (P.length : Int)) = true := decide_eq_true (by omega)
            have HDN : Hid (P.drop (k2 + 1) = P[k2 + 1] :: P.drop (k2 + 1 + 1)) := List.drop_eq_getElem_cons hl2
            cases ho : odd t2.data.toList with
            | false =>
              rw [ho] at HCO
              have HQ8 := Lib.hid (HEND.out (by
                have := HY2.out
                rw [HDN.out, List.map_cons, goR, if_neg (by simp [ho])] at this
                rw [HDN.out, List.map_cons]; exact this))
              clear HEND ho
              obtain ⟨v8, w8, r8, h8⟩ := HLS.out.push (by omega) (⟨true, t2⟩ : LB)
              have HL8 := Lib.hid h8
              clear h8
              go_wp2_with (first
                | (go_at_call 26; refine HCO.out.mono ?_; rintro e wy ⟨rfl, hy⟩; obtain rfl := hy.symm; simp only [])
                | (at_builtin; refine wpList_run_append _ rfl _ _ 23 23 rfl _ _ rfl rfl r8 ?_))
              go_roundw
              case measure => simp [intOf]; omega
              case rel => exact ⟨k2 + 1, v8, L ++ [(⟨true, t2⟩ : LB)], rfl, by go_num, by omega, by rw [List.length_append, List.length_singleton]; omega, HL8.out, HQ8.out⟩
            | true =>
              rw [ho] at HCO
              have hl2I : (k2 : Int) + 1 < (P.length : Int) := by omega
              have hk20 : (0 : Int) ≤ (k2 : Int) + 1 := by omega
              have hcn := HCL.out (k2 + 1) hl2
              have hadd2 := addn b off (k2 + 1)
              obtain ⟨n, hn⟩ : ∃ n, P[k2 + 1] = n := ⟨_, rfl⟩
              rw [hn] at hcn HDN
              rw [HDN.out, tot_cons] at ht2
              have HYR : Hid (∀ D : ByteArray, D.data.toList = tl9 n.data.toList → goR (t2 ++ ⟨#[10]⟩ ++ D : ByteArray).data.toList ((P.drop (k2 + 1 + 1)).map (·.data.toList)) = Y) := fun D hD => by
                have := HY2.out
                rw [HDN.out, List.map_cons, goR, if_pos ho, ← hD] at this
                rw [← this]
                congr 1
                simp
              have hsz : ∀ D : ByteArray, (t2 ++ (⟨#[10]⟩ : ByteArray) ++ D).size = t2.size + 1 + D.size := fun D => by rw [ByteArray.size_append, ByteArray.size_append]; rfl
              have HSZ := Lib.hid hsz
              have hs1 : ¬ (9223372036854775807 < t2.size + 1) := by omega
              clear hsz ho hn HDN HEND
              by_cases hn0 : n.size = 0
              · have hnil : n.data.toList = [] := List.length_eq_zero_iff.1 (by rw [dl]; exact hn0)
                have g2 := isE_of hnil
                have hs2 : ¬ (9223372036854775807 < t2.size + 1 + n.size) := by omega
                have HYN := Lib.hid (HYR.out n (by rw [tl9_no (by rw [hnil]; simp)]))
                clear hnil HYR
                go_wp2_with (go_at_call 26; refine HCO.out.mono ?_; rintro e wy ⟨rfl, hy⟩; obtain rfl := hy.symm; simp only [])
                go_roundw
                case measure => simp [intOf]; omega
                case rel => exact ⟨k2 + 1, _, by go_num, rfl, by simp, by omega, hl2, by rw [HSZ.out]; omega, HYN.out⟩
              · have h0p2 : 0 < n.size := by omega
                have hfb2 := first_byte h0p2
                have g02 := isE_ne (t := n) (fun e => by rw [e] at hfb2; cases hfb2)
                obtain ⟨d, hc2⟩ : ∃ d, n[0]'h0p2 = d := ⟨_, rfl⟩
                rw [hc2] at hfb2
                have h0I2 : (0 : Int) < (n.size : Int) := by omega
                have h1I2 : (1 : Int) ≤ (n.size : Int) := by omega
                have h9b := byte_eq d 9
                rw [show ((9 : UInt8).toNat : Int) = 9 from rfl] at h9b
                by_cases hd9 : d = 9
                · have g9 : ((d.toNat : Int) == 9) = true := by rw [h9b, hd9]; rfl
                  obtain ⟨E, hE⟩ : ∃ E, n.extract 1 n.size = E := ⟨_, rfl⟩
                  have hEs : E.size = n.size - 1 := by rw [← hE]; simp
                  have hs2 : ¬ (9223372036854775807 < t2.size + 1 + E.size) := by omega
                  have HYN := Lib.hid (HYR.out E (by rw [hfb2, hd9, tl9_yes, hE]))
                  clear hfb2 h9b hd9 HYR
                  go_wp2_with (go_at_call 26; refine HCO.out.mono ?_; rintro e wy ⟨rfl, hy⟩; obtain rfl := hy.symm; simp only [])
                  go_roundw
                  case measure => simp [intOf]; omega
                  case rel => exact ⟨k2 + 1, _, by go_num, rfl, by simp, by omega, hl2, by rw [HSZ.out]; omega, HYN.out⟩
                · have g9 : ((d.toNat : Int) == 9) = false := by rw [h9b]; simpa using hd9
                  have hs2 : ¬ (9223372036854775807 < t2.size + 1 + n.size) := by omega
                  have HYN := Lib.hid (HYR.out n (by rw [tl9_no (by rw [hfb2]; simpa using hd9)]))
                  clear hfb2 h9b hd9 HYR
                  go_wp2_with (go_at_call 26; refine HCO.out.mono ?_; rintro e wy ⟨rfl, hy⟩; obtain rfl := hy.symm; simp only [])
                  go_roundw
                  case measure => simp [intOf]; omega
                  case rel => exact ⟨k2 + 1, _, by go_num, rfl, by simp, by omega, hl2, by rw [HSZ.out]; omega, HYN.out⟩
      · have g9 : ((c9.toNat : Int) == 9) = false := by rw [h9b]; simpa using hc9
        have h9 : x.data.toList.head? ≠ some 9 := by rw [hfb]; simpa using hc9
        clear h9b hfb hc9
        have HGO : Hid (L.map LB.ln ++ (fin (goN x.data.toList ((P.drop (k + 1)).map (·.data.toList))).1 ++ readL (goN x.data.toList ((P.drop (k + 1)).map (·.data.toList))).2) = G) := by
          have := HEQ.out
          rw [readL_not h9] at this
          exact this
        obtain ⟨Y, hY⟩ : ∃ Y, goN x.data.toList ((P.drop (k + 1)).map (·.data.toList)) = Y := ⟨_, rfl⟩
        rw [hY] at HGO
        have HY0 := Lib.hid hY
        clear h9 hY HEQ
        go_wp2_with fail
        go_loopw [6, 7] (fun y t wx => ∃ (k2 : Nat) (t2 : ByteArray), y = .int .i64 k2 ∧ t = .string t2 ∧ wx = wr ∧ k ≤ k2 ∧ k2 < P.length ∧ t2.size + tot (P.drop (k2 + 1)) ≤ s.size + 1 ∧ Hid (goN t2.data.toList ((P.drop (k2 + 1)).map (·.data.toList)) = Y)) (fun y _ _ => P.length - (intOf y).toNat)
        case atStart => exact ⟨k, x, rfl, rfl, rfl, Nat.le_refl _, hlt, by omega, HY0.out⟩
        case round =>
          obtain ⟨k2, t2, rfl, rfl, rfl, hkk, hk2, ht2, HY2⟩ := hrel
          have HCO := Lib.hid (odd_any t2 wr (by omega))
          have hb64 : IntKind.i64.wrap ((k2 : Int) + 1) = (k2 : Int) + 1 := IntWalk.i64_in _ (by omega)
          cases ho : odd t2.data.toList with
          | false =>
            rw [ho] at HCO
            have HGE : Hid (L.map LB.ln ++ (fin t2.data.toList ++ readL ((P.drop (k2 + 1)).map (·.data.toList))) = G) := by
              have hYY : (t2.data.toList, (P.drop (k2 + 1)).map (·.data.toList)) = Y := by
                have := HY2.out
                cases hR : (P.drop (k2 + 1)).map (·.data.toList) with
                | nil => rw [hR, goN, if_neg (by simp [ho])] at this; exact this
                | cons a r => rw [hR, goN, if_neg (by simp [ho])] at this; exact this
              have := HGO.out
              rw [← hYY] at this
              exact this
            clear ho
            have HCM : Hid (∀ wx, Calls Tryd.prog 29 #[.string t2] wx fun e w' => e = .returned (.string (cmtB t2)) ∧ w' = wx) := fun wx => comment_any t2 wx (by omega)
            have HTM := Lib.hid (fun wx => trim29 t2 wx (by omega))
            obtain ⟨C, hC⟩ : ∃ C, cmtB t2 = C := ⟨_, rfl⟩
            obtain ⟨F, hF⟩ : ∃ F, finB t2 = F := ⟨_, rfl⟩
            rw [hC] at HCM HTM
            rw [hF] at HTM
            have HFIN := Lib.hid hF
            clear hC hF
            by_cases hf0 : F.data.toList = []
            · have f1 := isE_of hf0
              have HQ : Hid (L.map LB.ln ++ readL ((P.drop (k2 + 1)).map (·.data.toList)) = G) := by
                have := HGE.out
                rw [fin_none (t := t2) (by rw [HFIN.out]; exact hf0), List.nil_append] at this
                exact this
              clear hf0
              go_wp2_with (first
                | (go_at_call 26; refine HCO.out.mono ?_; rintro e wy ⟨rfl, hy⟩; obtain rfl := hy.symm; simp only [])
                | (go_at_call 29; refine (HCM.out _).mono ?_; rintro e wy ⟨rfl, hy⟩; obtain rfl := hy.symm; simp only [])
                | (go_at_call 28; refine (HTM.out _).mono ?_; rintro e wy ⟨rfl, hy⟩; obtain rfl := hy.symm; simp only []))
              go_roundw
              case measure => simp [intOf]; omega
              case rel => exact ⟨k2 + 1, v, L, rfl, by go_num, by omega, by omega, HLS.out, HQ.out⟩
            · have f1 := isE_ne hf0
              have HQ : Hid ((L ++ [(⟨false, F⟩ : LB)]).map LB.ln ++ readL ((P.drop (k2 + 1)).map (·.data.toList)) = G) := by
                have := HGE.out
                rw [fin_some (t := t2) (by rw [HFIN.out]; exact hf0), HFIN.out] at this
                rw [Hid, ← this, List.map_append, List.append_assoc]; rfl
              obtain ⟨v8, w8, r8, h8⟩ := HLS.out.push (by omega) (⟨false, F⟩ : LB)
              have HL8 := Lib.hid h8
              clear h8 hf0
              go_wp2_with (first
                | (go_at_call 26; refine HCO.out.mono ?_; rintro e wy ⟨rfl, hy⟩; obtain rfl := hy.symm; simp only [])
                | (go_at_call 29; refine (HCM.out _).mono ?_; rintro e wy ⟨rfl, hy⟩; obtain rfl := hy.symm; simp only [])
                | (go_at_call 28; refine (HTM.out _).mono ?_; rintro e wy ⟨rfl, hy⟩; obtain rfl := hy.symm; simp only [])
                | (at_builtin; refine wpList_run_append _ rfl _ _ 23 23 rfl _ _ rfl rfl r8 ?_))
              go_roundw
              case measure => simp [intOf]; omega
              case rel => exact ⟨k2 + 1, v8, L ++ [(⟨false, F⟩ : LB)], rfl, by go_num, by omega, by rw [List.length_append, List.length_singleton]; omega, HL8.out, HQ.out⟩
          | true =>
            rw [ho] at HCO
            have hne := odd_ne ho
            have h0p : 0 < t2.size := by
              rcases Nat.eq_zero_or_pos t2.size with h | h
              · exact absurd (List.length_eq_zero_iff.1 (by rw [dl]; exact h)) hne
              · exact h
            obtain ⟨mm, hml, hmm, hlb, hEs⟩ := last_at h0p
            have hb1 : IntKind.i64.wrap ((t2.size : Int) - 1) = (mm : Int) := by rw [IntWalk.i64_in _ (by omega)]; omega
            obtain ⟨E, hE⟩ : ∃ E, t2.extract 0 mm = E := ⟨_, rfl⟩
            rw [hE] at hEs hlb
            have hdl : t2.data.toList.dropLast = E.data.toList := by rw [hlb]; simp
            have hm0 : (0 : Int) ≤ (mm : Int) := by omega
            have hmI : (mm : Int) ≤ (t2.size : Int) := by omega
            have HYR : Hid (∀ u : ByteArray, u.data.toList = trR E.data.toList → ((P.drop (k2 + 1)).map (·.data.toList) = [] → Y = (u.data.toList ++ [32], [])) ∧ ∀ (n : ByteArray) (r : List Bs), (P.drop (k2 + 1)).map (·.data.toList) = n.data.toList :: r → goN (u.data.toList ++ [32] ++ trL n.data.toList) r = Y) := fun u hu => by
              have := HY2.out
              refine ⟨fun h => ?_, fun n r h => ?_⟩
              · rw [h, goN, if_pos ho, hdl, ← hu] at this
                exact this.symm
              · rw [h, goN, if_pos ho, hdl, ← hu] at this
                exact this
            clear ho hne hlb hdl HY2
            go_wp2_with (go_at_call 26; refine HCO.out.mono ?_; rintro e wy ⟨rfl, hy⟩; obtain rfl := hy.symm; simp only [])
            go_loopw [7] (fun y wx => ∃ u : ByteArray, u.size ≤ mm ∧ y = .string u ∧ wx = wr ∧ Hid (trR u.data.toList = trR E.data.toList)) (fun y _ => szOf y)
            case atStart => exact ⟨E, by omega, rfl, rfl, rfl⟩
            case round =>
              obtain ⟨u, hus, rfl, rfl, HUR⟩ := hrel
              by_cases hu0 : u.size = 0
              · have hnil : u.data.toList = [] := List.length_eq_zero_iff.1 (by rw [dl]; exact hu0)
                have g3 := isE_of hnil
                have HU : Hid (u.data.toList = trR E.data.toList) := by rw [Hid, ← HUR.out, hnil]; rfl
                clear hnil
                have hs1 : ¬ (9223372036854775807 < u.size + 1) := by omega
                by_cases hl2 : k2 + 1 < P.length
                case neg =>
                  have hl2e : ((k2 : Int) + 1 == (P.length : Int)) = true := by simp; omega
                  obtain ⟨U, hU⟩ : ∃ U, u ++ (⟨#[32]⟩ : ByteArray) = U := ⟨_, rfl⟩
                  have hUs : U.size = u.size + 1 := by rw [← hU, ByteArray.size_append]; rfl
                  have HGE : Hid (L.map LB.ln ++ (fin U.data.toList ++ readL ((P.drop (k2 + 1)).map (·.data.toList))) = G) := by
                    have hYY : (U.data.toList, (P.drop (k2 + 1)).map (·.data.toList)) = Y := by
                      have := HYR.out u HU.out
                      rw [List.drop_eq_nil_of_le (by omega)] at this ⊢
                      rw [this.1 rfl, ← hU]
                      simp
                    have := HGO.out
                    rw [← hYY] at this
                    exact this
                  clear HYR
                  have HCM : Hid (∀ wx, Calls Tryd.prog 29 #[.string U] wx fun e w' => e = .returned (.string (cmtB U)) ∧ w' = wx) := fun wx => comment_any U wx (by omega)
                  have HTM := Lib.hid (fun wx => trim29 U wx (by omega))
                  obtain ⟨C, hC⟩ : ∃ C, cmtB U = C := ⟨_, rfl⟩
                  obtain ⟨F, hF⟩ : ∃ F, finB U = F := ⟨_, rfl⟩
                  rw [hC] at HCM HTM
                  rw [hF] at HTM
                  have HFIN := Lib.hid hF
                  clear hC hF
                  by_cases hf0 : F.data.toList = []
                  · have f1 := isE_of hf0
                    have HQ : Hid (L.map LB.ln ++ readL ((P.drop (k2 + 1)).map (·.data.toList)) = G) := by
                      have := HGE.out
                      rw [fin_none (t := U) (by rw [HFIN.out]; exact hf0), List.nil_append] at this
                      exact this
                    clear hf0
                    go_wp2_with (first
                      | fail
                      | (go_at_call 29; refine (HCM.out _).mono ?_; rintro e wy ⟨rfl, hy⟩; obtain rfl := hy.symm; simp only [])
                      | (go_at_call 28; refine (HTM.out _).mono ?_; rintro e wy ⟨rfl, hy⟩; obtain rfl := hy.symm; simp only []))
                    go_roundw
                    case measure => simp [intOf]; omega
                    case rel => exact ⟨k2 + 1, v, L, rfl, by go_num, by omega, by omega, HLS.out, HQ.out⟩
                  · have f1 := isE_ne hf0
                    have HQ : Hid ((L ++ [(⟨false, F⟩ : LB)]).map LB.ln ++ readL ((P.drop (k2 + 1)).map (·.data.toList)) = G) := by
                      have := HGE.out
                      rw [fin_some (t := U) (by rw [HFIN.out]; exact hf0), HFIN.out] at this
                      rw [Hid, ← this, List.map_append, List.append_assoc]; rfl
                    obtain ⟨v8, w8, r8, h8⟩ := HLS.out.push (by omega) (⟨false, F⟩ : LB)
                    have HL8 := Lib.hid h8
                    clear h8 hf0
                    go_wp2_with (first
                      | fail
                      | (go_at_call 29; refine (HCM.out _).mono ?_; rintro e wy ⟨rfl, hy⟩; obtain rfl := hy.symm; simp only [])
                      | (go_at_call 28; refine (HTM.out _).mono ?_; rintro e wy ⟨rfl, hy⟩; obtain rfl := hy.symm; simp only [])
                      | (at_builtin; refine wpList_run_append _ rfl _ _ 23 23 rfl _ _ rfl rfl r8 ?_))
                    go_roundw
                    case measure => simp [intOf]; omega
                    case rel => exact ⟨k2 + 1, v8, L ++ [(⟨false, F⟩ : LB)], rfl, by go_num, by omega, by rw [List.length_append, List.length_singleton]; omega, HL8.out, HQ.out⟩
                case pos =>
                  have hl2e : ((k2 : Int) + 1 == (P.length : Int)) = false := by simp; omega
                  have hl2I : (k2 : Int) + 1 < (P.length : Int) := by omega
                  have hk20 : (0 : Int) ≤ (k2 : Int) + 1 := by omega
                  have hcn := HCL.out (k2 + 1) hl2
                  have hadd2 := addn b off (k2 + 1)
                  have HDN : Hid (P.drop (k2 + 1) = P[k2 + 1] :: P.drop (k2 + 1 + 1)) := List.drop_eq_getElem_cons hl2
                  obtain ⟨n, hn⟩ : ∃ n, P[k2 + 1] = n := ⟨_, rfl⟩
                  rw [hn] at hcn HDN
                  rw [HDN.out, tot_cons] at ht2
                  have HYN : Hid (goN (u.data.toList ++ [32] ++ trL n.data.toList) ((P.drop (k2 + 1 + 1)).map (·.data.toList)) = Y) := (HYR.out u HU.out).2 n _ (by rw [HDN.out, List.map_cons])
                  have hsz : ∀ D : ByteArray, (u ++ (⟨#[32]⟩ : ByteArray) ++ D).size = u.size + 1 + D.size := fun D => by rw [ByteArray.size_append, ByteArray.size_append]; rfl
                  have HSZ := Lib.hid hsz
                  clear hsz hn HDN HYR
                  go_wp2_with fail
                  go_loopw [9] (fun y wx => ∃ d : ByteArray, d.size ≤ n.size ∧ y = .string d ∧ wx = wr ∧ Hid (trL d.data.toList = trL n.data.toList)) (fun y _ => szOf y)
                  case atStart => exact ⟨n, Nat.le_refl _, rfl, rfl, rfl⟩
                  case round =>
                    obtain ⟨d, hds, rfl, rfl, HD⟩ := hrel
                    have hs3 : ¬ (9223372036854775807 < u.size + 1 + d.size) := by omega
                    by_cases hd0 : d.size = 0
                    · have hnil : d.data.toList = [] := List.length_eq_zero_iff.1 (by rw [dl]; exact hd0)
                      have g4 := isE_of hnil
                      have HYD : Hid (goN (u ++ (⟨#[32]⟩ : ByteArray) ++ d).data.toList ((P.drop (k2 + 1 + 1)).map (·.data.toList)) = Y) := by
                        rw [Hid, ← HYN.out, ← HD.out, hnil]; simp [hnil, show trL [] = [] from rfl]
                      clear hnil HYN
                      go_wp2_with fail
                      go_roundw
                      case measure => simp [intOf]; omega
                      case rel => exact ⟨k2 + 1, _, by go_num, rfl, by simp, by omega, hl2, by rw [HSZ.out]; omega, HYD.out⟩
                    · have h0p4 : 0 < d.size := by omega
                      have hfb4 := first_byte h0p4
                      have g04 := isE_ne (t := d) (fun e => by rw [e] at hfb4; cases hfb4)
                      obtain ⟨e4, hc4⟩ : ∃ e4, d[0]'h0p4 = e4 := ⟨_, rfl⟩
                      rw [hc4] at hfb4
                      have h0I4 : (0 : Int) < (d.size : Int) := by omega
                      have h1I4 : (1 : Int) ≤ (d.size : Int) := by omega
                      have HBL := Lib.hid (fun wx => blank_any e4 wx)
                      cases hb4 : isB e4 with
                      | true =>
                        rw [hb4] at HBL
                        obtain ⟨E4, hE4⟩ : ∃ E4, d.extract 1 d.size = E4 := ⟨_, rfl⟩
                        have hEs4 : E4.size = d.size - 1 := by rw [← hE4]; simp
                        have HD2 : Hid (trL E4.data.toList = trL n.data.toList) := by
                          have := HD.out
                          rw [hfb4, hE4, trL_cons, if_pos hb4] at this
                          exact this
                        clear hfb4 hb4
                        go_wp2_with (go_at_call 27; refine (HBL.out _).mono ?_; rintro e w7 ⟨rfl, h7⟩; obtain rfl := h7.symm; simp only [])
                        go_roundw
                        case measure => simp [szOf]; omega
                        case rel => exact ⟨E4, by omega, rfl, by simp, HD2.out⟩
                      | false =>
                        rw [hb4] at HBL
                        have HYD : Hid (goN (u ++ (⟨#[32]⟩ : ByteArray) ++ d).data.toList ((P.drop (k2 + 1 + 1)).map (·.data.toList)) = Y) := by
                          have := HD.out
                          rw [hfb4, trL_cons, if_neg (by simp [hb4]), ← hfb4] at this
                          rw [Hid, ← HYN.out, ← this]; simp
                        clear hfb4 hb4 HYN
                        go_wp2_with (go_at_call 27; refine (HBL.out _).mono ?_; rintro e w7 ⟨rfl, h7⟩; obtain rfl := h7.symm; simp only [])
                        go_roundw
                        case measure => simp [intOf]; omega
                        case rel => exact ⟨k2 + 1, _, by go_num, rfl, by simp, by omega, hl2, by rw [HSZ.out]; omega, HYD.out⟩
              · have h0pu : 0 < u.size := by omega
                obtain ⟨mu, hul, hum, hlbu, hEu⟩ := last_at h0pu
                have g3 := isE_ne (t := u) (fun e => by rw [e] at hlbu; simp at hlbu)
                have hbu : IntKind.i64.wrap ((u.size : Int) - 1) = (mu : Int) := by rw [IntWalk.i64_in _ (by omega)]; omega
                obtain ⟨cu, hcu⟩ : ∃ cu, u[mu]'hul = cu := ⟨_, rfl⟩
                obtain ⟨Eu, hEu2⟩ : ∃ Eu, u.extract 0 mu = Eu := ⟨_, rfl⟩
                rw [hcu, hEu2] at hlbu
                rw [hEu2] at hEu
                have HUM := Lib.hid hum
                have hmu0 : (0 : Int) ≤ (mu : Int) := by omega
                have hmuI : (mu : Int) < (u.size : Int) := by omega
                have hmuI2 : (mu : Int) ≤ (u.size : Int) := by omega
                have HBL := Lib.hid (fun wx => blank_any cu wx)
                clear hum
                cases hb3 : isB cu with
                | true =>
                  rw [hb3] at HBL
                  have HUN : Hid (trR Eu.data.toList = trR E.data.toList) := by
                    have := HUR.out
                    rw [hlbu, trR_snoc, if_pos hb3] at this
                    exact this
                  clear hlbu hb3 HYR
                  go_wp2_with (go_at_call 27; refine (HBL.out _).mono ?_; rintro e w7 ⟨rfl, h7⟩; obtain rfl := h7.symm; simp only [])
                  go_roundw
                  case measure => have := HUM.out; simp [szOf]; omega
                  case rel => exact ⟨Eu, by have := HUM.out; omega, rfl, by simp, HUN.out⟩
                | false =>
                  rw [hb3] at HBL
                  have HU : Hid (u.data.toList = trR E.data.toList) := by
                    have := HUR.out
                    rw [hlbu, trR_snoc, if_neg (by simp [hb3]), ← hlbu] at this
                    exact this
                  clear hlbu hb3
                  have hs1 : ¬ (9223372036854775807 < u.size + 1) := by omega
                  by_cases hl2 : k2 + 1 < P.length
                  case neg =>
                    have hl2e : ((k2 : Int) + 1 == (P.length : Int)) = true := by simp; omega
                    obtain ⟨U, hU⟩ : ∃ U, u ++ (⟨#[32]⟩ : ByteArray) = U := ⟨_, rfl⟩
                    have hUs : U.size = u.size + 1 := by rw [← hU, ByteArray.size_append]; rfl
                    have HGE : Hid (L.map LB.ln ++ (fin U.data.toList ++ readL ((P.drop (k2 + 1)).map (·.data.toList))) = G) := by
                      have hYY : (U.data.toList, (P.drop (k2 + 1)).map (·.data.toList)) = Y := by
                        have := HYR.out u HU.out
                        rw [List.drop_eq_nil_of_le (by omega)] at this ⊢
                        rw [this.1 rfl, ← hU]
                        simp
                      have := HGO.out
                      rw [← hYY] at this
                      exact this
                    clear HYR
                    have HCM : Hid (∀ wx, Calls Tryd.prog 29 #[.string U] wx fun e w' => e = .returned (.string (cmtB U)) ∧ w' = wx) := fun wx => comment_any U wx (by omega)
                    have HTM := Lib.hid (fun wx => trim29 U wx (by omega))
                    obtain ⟨C, hC⟩ : ∃ C, cmtB U = C := ⟨_, rfl⟩
                    obtain ⟨F, hF⟩ : ∃ F, finB U = F := ⟨_, rfl⟩
                    rw [hC] at HCM HTM
                    rw [hF] at HTM
                    have HFIN := Lib.hid hF
                    clear hC hF
                    by_cases hf0 : F.data.toList = []
                    · have f1 := isE_of hf0
                      have HQ : Hid (L.map LB.ln ++ readL ((P.drop (k2 + 1)).map (·.data.toList)) = G) := by
                        have := HGE.out
                        rw [fin_none (t := U) (by rw [HFIN.out]; exact hf0), List.nil_append] at this
                        exact this
                      clear hf0
                      go_wp2_with (first
                        | (go_at_call 27; refine (HBL.out _).mono ?_; rintro e w7 ⟨rfl, h7⟩; obtain rfl := h7.symm; simp only [])
                        | (go_at_call 29; refine (HCM.out _).mono ?_; rintro e wy ⟨rfl, hy⟩; obtain rfl := hy.symm; simp only [])
                        | (go_at_call 28; refine (HTM.out _).mono ?_; rintro e wy ⟨rfl, hy⟩; obtain rfl := hy.symm; simp only []))
                      go_roundw
                      case measure => simp [intOf]; omega
                      case rel => exact ⟨k2 + 1, v, L, rfl, by go_num, by omega, by omega, HLS.out, HQ.out⟩
                    · have f1 := isE_ne hf0
                      have HQ : Hid ((L ++ [(⟨false, F⟩ : LB)]).map LB.ln ++ readL ((P.drop (k2 + 1)).map (·.data.toList)) = G) := by
                        have := HGE.out
                        rw [fin_some (t := U) (by rw [HFIN.out]; exact hf0), HFIN.out] at this
                        rw [Hid, ← this, List.map_append, List.append_assoc]; rfl
                      obtain ⟨v8, w8, r8, h8⟩ := HLS.out.push (by omega) (⟨false, F⟩ : LB)
                      have HL8 := Lib.hid h8
                      clear h8 hf0
                      go_wp2_with (first
                        | (go_at_call 27; refine (HBL.out _).mono ?_; rintro e w7 ⟨rfl, h7⟩; obtain rfl := h7.symm; simp only [])
                        | (go_at_call 29; refine (HCM.out _).mono ?_; rintro e wy ⟨rfl, hy⟩; obtain rfl := hy.symm; simp only [])
                        | (go_at_call 28; refine (HTM.out _).mono ?_; rintro e wy ⟨rfl, hy⟩; obtain rfl := hy.symm; simp only [])
                        | (at_builtin; refine wpList_run_append _ rfl _ _ 23 23 rfl _ _ rfl rfl r8 ?_))
                      go_roundw
                      case measure => simp [intOf]; omega
                      case rel => exact ⟨k2 + 1, v8, L ++ [(⟨false, F⟩ : LB)], rfl, by go_num, by omega, by rw [List.length_append, List.length_singleton]; omega, HL8.out, HQ.out⟩
                  case pos =>
                    have hl2e : ((k2 : Int) + 1 == (P.length : Int)) = false := by simp; omega
                    have hl2I : (k2 : Int) + 1 < (P.length : Int) := by omega
                    have hk20 : (0 : Int) ≤ (k2 : Int) + 1 := by omega
                    have hcn := HCL.out (k2 + 1) hl2
                    have hadd2 := addn b off (k2 + 1)
                    have HDN : Hid (P.drop (k2 + 1) = P[k2 + 1] :: P.drop (k2 + 1 + 1)) := List.drop_eq_getElem_cons hl2
                    obtain ⟨n, hn⟩ : ∃ n, P[k2 + 1] = n := ⟨_, rfl⟩
                    rw [hn] at hcn HDN
                    rw [HDN.out, tot_cons] at ht2
                    have HYN : Hid (goN (u.data.toList ++ [32] ++ trL n.data.toList) ((P.drop (k2 + 1 + 1)).map (·.data.toList)) = Y) := (HYR.out u HU.out).2 n _ (by rw [HDN.out, List.map_cons])
                    have hsz : ∀ D : ByteArray, (u ++ (⟨#[32]⟩ : ByteArray) ++ D).size = u.size + 1 + D.size := fun D => by rw [ByteArray.size_append, ByteArray.size_append]; rfl
                    have HSZ := Lib.hid hsz
                    clear hsz hn HDN HYR
                    go_wp2_with (go_at_call 27; refine (HBL.out _).mono ?_; rintro e w7 ⟨rfl, h7⟩; obtain rfl := h7.symm; simp only [])
                    go_loopw [9] (fun y wx => ∃ d : ByteArray, d.size ≤ n.size ∧ y = .string d ∧ wx = wr ∧ Hid (trL d.data.toList = trL n.data.toList)) (fun y _ => szOf y)
                    case atStart => exact ⟨n, Nat.le_refl _, rfl, rfl, rfl⟩
                    case round =>
                      obtain ⟨d, hds, rfl, rfl, HD⟩ := hrel
                      have hs3 : ¬ (9223372036854775807 < u.size + 1 + d.size) := by omega
                      by_cases hd0 : d.size = 0
                      · have hnil : d.data.toList = [] := List.length_eq_zero_iff.1 (by rw [dl]; exact hd0)
                        have g4 := isE_of hnil
                        have HYD : Hid (goN (u ++ (⟨#[32]⟩ : ByteArray) ++ d).data.toList ((P.drop (k2 + 1 + 1)).map (·.data.toList)) = Y) := by
                          rw [Hid, ← HYN.out, ← HD.out, hnil]; simp [hnil, show trL [] = [] from rfl]
                        clear hnil HYN
                        go_wp2_with fail
                        go_roundw
                        case measure => simp [intOf]; omega
                        case rel => exact ⟨k2 + 1, _, by go_num, rfl, by simp, by omega, hl2, by rw [HSZ.out]; omega, HYD.out⟩
                      · have h0p4 : 0 < d.size := by omega
                        have hfb4 := first_byte h0p4
                        have g04 := isE_ne (t := d) (fun e => by rw [e] at hfb4; cases hfb4)
                        obtain ⟨e4, hc4⟩ : ∃ e4, d[0]'h0p4 = e4 := ⟨_, rfl⟩
                        rw [hc4] at hfb4
                        have h0I4 : (0 : Int) < (d.size : Int) := by omega
                        have h1I4 : (1 : Int) ≤ (d.size : Int) := by omega
                        have HBL := Lib.hid (fun wx => blank_any e4 wx)
                        cases hb4 : isB e4 with
                        | true =>
                          rw [hb4] at HBL
                          obtain ⟨E4, hE4⟩ : ∃ E4, d.extract 1 d.size = E4 := ⟨_, rfl⟩
                          have hEs4 : E4.size = d.size - 1 := by rw [← hE4]; simp
                          have HD2 : Hid (trL E4.data.toList = trL n.data.toList) := by
                            have := HD.out
                            rw [hfb4, hE4, trL_cons, if_pos hb4] at this
                            exact this
                          clear hfb4 hb4
                          go_wp2_with (go_at_call 27; refine (HBL.out _).mono ?_; rintro e w7 ⟨rfl, h7⟩; obtain rfl := h7.symm; simp only [])
                          go_roundw
                          case measure => simp [szOf]; omega
                          case rel => exact ⟨E4, by omega, rfl, by simp, HD2.out⟩
                        | false =>
                          rw [hb4] at HBL
                          have HYD : Hid (goN (u ++ (⟨#[32]⟩ : ByteArray) ++ d).data.toList ((P.drop (k2 + 1 + 1)).map (·.data.toList)) = Y) := by
                            have := HD.out
                            rw [hfb4, trL_cons, if_neg (by simp [hb4]), ← hfb4] at this
                            rw [Hid, ← HYN.out, ← this]; simp
                          clear hfb4 hb4 HYN
                          go_wp2_with (go_at_call 27; refine (HBL.out _).mono ?_; rintro e w7 ⟨rfl, h7⟩; obtain rfl := h7.symm; simp only [])
                          go_roundw
                          case measure => simp [intOf]; omega
                          case rel => exact ⟨k2 + 1, _, by go_num, rfl, by simp, by omega, hl2, by rw [HSZ.out]; omega, HYD.out⟩
end Go.Proofs.YtcjfpkfbdcmlbaaDoor
