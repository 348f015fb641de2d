import Derived.Test.YtjagnihkpgbjeaaDoorJI
import Derived.Test.YtjagnihkpgbjeaaDoorJF
import Derived.Deep.CutRange
namespace Go.Proofs.YtjagnihkpgbjeaaDoor
open Go.RowKit Go.Maps Go.ChangeMaps
set_option linter.unusedVariables false
/-! FindChains: the walk (under way: the set-up loop and the end are left). -/
def wantV (o : Option Nat) : Value := match o with
  | some k => .int .i64 k
  | none => .int .i64 (-1)
structure Lch (w0 wr : World) (b9 : Nat) (v : Value) (st : Bs) (th : Nat → Bool) (kn : Bool) (f i : Nat) : Prop where
  gr : Gr w0 wr b9 v (chR st th kn i)
  sx : Sx w0.heap.size wr (chN th kn i) f ⟨20, 100, chN th kn i, 0, chN th kn i⟩ (chT st th kn i)
theorem chN_le (th : Nat → Bool) (kn : Bool) : ∀ n, chN th kn n ≤ n
  | 0 => Nat.le_refl _
  | n + 1 => by
    have ih := chN_le th kn n
    unfold chN
    split <;> omega
theorem gbs_eq (s : ByteArray) (i : Nat) (h : i < s.size) : s[i] = s.data.toList.getD i 0 := by
  rw [List.getD_eq_getElem?_getD, List.getElem?_eq_getElem (by simpa using h)]
  rfl
theorem firstT_lt {th : Nat → Bool} : ∀ {n k : Nat}, firstT th n = some k → k < n
  | 0, _, h => by cases h
  | n + 1, k, h => by
    unfold firstT at h
    cases h1 : firstT th n with
    | some j =>
      rw [h1] at h
      have := firstT_lt h1
      have : j = k := by simpa using h
      omega
    | none =>
      rw [h1] at h
      simp only at h
      split at h
      · have : n = k := by simpa using h
        omega
      · cases h
set_option maxRecDepth 100000 in
set_option maxHeartbeats 16000000 in
theorem chains_walk (a0 : ByteArray) (A : Option Addr) (n c : Nat) (th : Nat → Bool) (kn : Bool) (W : World) (hm : Hm W) (hT : ∀ k, k < n → ∃ ad, A = some ad ∧ W.cell? (ad.add k) = some (.bool (th k))) (ha0 : a0.size ≤ maxLen) :
    Calls Tryd.prog 5 #[.string a0, .slice A n c, .bool kn] W fun e w' => e = .returned (.bool true) ∧ Below W.heap.size W w' := by
  have HAL := Lib.hid (alive25 W hm)
  have HM := Lib.hid hm
  have HT := Lib.hid hT
  unfold maxLen at ha0
  clear hm hT
  by_cases h1 : 30 < a0.size
  · have h1I : (30 : Int) < (a0.size : Int) := by omega
    go_enter Tryd.func5, Tryd.ntmps5
    go_wp2_with (go_at_call 25; refine HAL.out.mono ?_; rintro e w1 ⟨rfl, h0⟩; have H0 := Lib.hid h0; clear h0; simp only [])
    go_ret
    exact ⟨rfl, H0.out⟩
  have h1I : ¬ (30 : Int) < (a0.size : Int) := by omega
  by_cases h2 : a0.size = 0
  · have h2I : (a0.size : Int) = 0 := by omega
    have hE : a0.toList.isEmpty = true := by
      have : a0.data.toList = [] := List.eq_nil_of_length_eq_zero (by simpa using h2)
      rw [Lib.toList_data, this]; rfl
    go_enter Tryd.func5, Tryd.ntmps5
    go_wp2_with (go_at_call 25; refine HAL.out.mono ?_; rintro e w1 ⟨rfl, h0⟩; have H0 := Lib.hid h0; clear h0; simp only [])
    go_ret
    exact ⟨rfl, H0.out⟩
  have hE : a0.toList.isEmpty = false := by
    rw [Lib.toList_data]
    cases h : a0.data.toList with
    | nil => exact absurd (by have := congrArg List.length h; simpa using this) h2
    | cons => rfl
  by_cases h3 : 8 < n
  · have h3I : (8 : Int) < (n : Int) := by omega
    go_enter Tryd.func5, Tryd.ntmps5
    go_wp2_with (go_at_call 25; refine HAL.out.mono ?_; rintro e w1 ⟨rfl, h0⟩; have H0 := Lib.hid h0; clear h0; simp only [])
    go_ret
    exact ⟨rfl, H0.out⟩
  have h3I : ¬ (8 : Int) < (n : Int) := by omega
  go_enter Tryd.func5, Tryd.ntmps5
  go_wp2_with (go_at_call 25; refine HAL.out.mono ?_; rintro e w1 ⟨rfl, h0⟩; have H0 := Lib.hid h0; clear h0; simp only [])
  go_loopw [8] (fun i wr => ∃ k : Nat, k ≤ a0.size ∧ i = .int .i64 k ∧ wr = w1 ∧ Hid (∀ x ∈ a0.data.toList.take k, (97 : UInt8) ≤ x ∧ x ≤ 122)) (fun i _ => a0.size - (intOf i).toNat)
  case atStart => exact ⟨0, Nat.zero_le _, rfl, rfl, fun x hx => by simp at hx⟩
  case round =>
    obtain ⟨k, hk, rfl, hwr, HA⟩ := hrel
    subst hwr
    by_cases hlt : k < a0.size
    · have hltI : (k : Int) < (a0.size : Int) := by omega
      have hk0 : (0 : Int) ≤ (k : Int) := by omega
      have hgb := gbs_eq a0 k hlt
      have htk : a0.data.toList.take (k + 1) = a0.data.toList.take k ++ [a0.data.toList.getD k 0] := by
        have hl : k < a0.data.toList.length := by simpa using hlt
        rw [List.take_succ_eq_append_getElem hl, List.getD_eq_getElem?_getD, List.getElem?_eq_getElem hl]; rfl
      obtain ⟨x, hx⟩ : ∃ x, a0.data.toList.getD k 0 = x := ⟨_, rfl⟩
      rw [hx] at hgb htk
      have HTK := Lib.hid htk
      clear hx htk
      by_cases hlo : 97 ≤ x.toNat
      · have hloI : (97 : Int) ≤ (x.toNat : Int) := by omega
        by_cases hhi : x.toNat ≤ 122
        · have hhiI : (x.toNat : Int) ≤ 122 := by omega
          have HNX : Hid (∀ y ∈ a0.data.toList.take (k + 1), (97 : UInt8) ≤ y ∧ y ≤ 122) := by
            rw [Hid, HTK.out]
            intro y hy
            rcases List.mem_append.1 hy with h | h
            · exact HA.out y h
            · rw [List.mem_singleton.1 h]
              exact ⟨UInt8.le_iff_toNat_le.2 hlo, UInt8.le_iff_toNat_le.2 hhi⟩
          go_wp2_with fail
          exact ⟨⟨k + 1, by omega, by go_num, by trivial, HNX.out⟩, by simp [intOf]; omega⟩
        · have hhiI : ¬ (x.toNat : Int) ≤ 122 := by omega
          go_wp2_with fail
          go_ret
          exact ⟨rfl, H0.out⟩
      · have hloI : ¬ (97 : Int) ≤ (x.toNat : Int) := by omega
        go_wp2_with fail
        go_ret
        exact ⟨rfl, H0.out⟩
    · have hltI : ¬ (k : Int) < (a0.size : Int) := by omega
      have HNE : Hid (a0.data.toList ≠ []) := fun e => h2 (by have := congrArg List.length e; simpa using this)
      have HLE : Hid (a0.data.toList.length ≤ 30) := by rw [Hid]; simp; omega
      have HST : Hid (∀ x ∈ a0.data.toList, (97 : UInt8) ≤ x ∧ x ≤ 122) := by
        have := HA.out
        rw [List.take_of_length_le (by simp; omega)] at this
        exact this
      have HNEW := Lib.hid (fun w => New_sx 20 100 (by omega) (by omega) (by omega) (by omega) w)
      obtain ⟨w0, hw0⟩ : ∃ w0, wr.alloc (.cells #[.slice none 0 0, .slice none 0 0] 45) = w0 := ⟨_, rfl⟩
      have hs0 : w0.heap.size = wr.heap.size + 1 := by rw [← hw0, size_alloc]
      have hb0 : Below wr.heap.size wr w0 := hw0 ▸ below_alloc _ _
      have hz4 : w0.heap[wr.heap.size]? = some (.cells [.slice none 0 0, .slice none 0 0].toArray 45 (0, 0)) := by rw [← hw0]; exact heap_alloc_new _ _
      have HZ4 := Lib.hid hz4
      have HB0 := Lib.hid hb0
      have HS0 := Lib.hid hs0
      have HW0 := Lib.hid hw0
      clear hz4 hb0 hs0 hw0
      go_wp2_with fail
      rw [HW0.out]
      obtain ⟨b9, hb9⟩ : ∃ b9, wr.heap.size = b9 := ⟨_, rfl⟩
      have HB9 := Lib.hid hb9
      rw [hb9] at HZ4 HS0
      simp only [hb9]
      clear hb9
      go_wp2_with (go_at_call 13; refine (HNEW.out _).mono ?_; rintro e w2 ⟨f, rfl, hf, h2⟩; have HF := Lib.hid hf; have H2 := Lib.hid h2; clear hf h2; simp only [])
      have hlt9 : b9 < w0.heap.size := by have := HS0.out; omega
      have HST0 : Hid (Lch w0 w2 b9 (.slice none 0 0) a0.data.toList th kn f 0) := ⟨⟨(H2.out.block _ hlt9).trans HZ4.out, ⟨[], rfl, World.ownsRow_nil _ _ _ _, fun i h => absurd h (by simp [chR])⟩, Only.of_below H2.out, hlt9⟩, HF.out⟩
      go_loopw [11, 12] (fun v11 i wr2 => ∃ k : Nat, k ≤ n ∧ i = .int .i64 k ∧ v11 = wantV (firstT th k) ∧ Hid (∃ v, Lch w0 wr2 b9 v a0.data.toList th kn f k)) (fun _ i _ => n - (intOf i).toNat)
      case atStart => exact ⟨0, Nat.zero_le _, rfl, rfl, ⟨_, HST0.out⟩⟩
      case round =>
        obtain ⟨k, hk, rfl, rfl, HL0⟩ := hrel
        obtain ⟨v, hL⟩ := HL0.out
        have HL := Lib.hid hL
        have q1 : wr.cell? ⟨b9, 1, none⟩ = some v := cell_of hL.gr.blk 1
        clear HST0 HL0 hL
        by_cases hlt : k < n
        · have hltI : (k : Int) < (n : Int) := by omega
          have hk0 : (0 : Int) ≤ (k : Int) := by omega
          have hkb : k ≤ 7 := by omega
          obtain ⟨ad, rfl, hck⟩ := HT.out k hlt
          have HD := Lib.hid (fun w => Digits_any k (by omega) w)
          have e1 : (⟨#[46, 115]⟩ : ByteArray) ++ nameB (dg k) = nameB (sj k) := nameB_app [46, 115] (dg k)
          have e2 : (⟨#[37]⟩ : ByteArray) ++ nameB (sj k) = nameB (37 :: sj k) := nameB_app [37] (sj k)
          have e3 : (⟨#[114]⟩ : ByteArray) ++ nameB (sj k) = nameB (114 :: sj k) := nameB_app [114] (sj k)
          have s1 : (nameB (dg k)).size ≤ 2 := by rw [nameB_size]; exact dg_len _
          have s2 : (nameB (sj k)).size ≤ 4 := by rw [nameB_size]; exact sj_len _
          obtain ⟨D, hD⟩ : ∃ D, nameB (dg k) = D := ⟨_, rfl⟩
          obtain ⟨SJ, hSJ⟩ : ∃ D, nameB (sj k) = D := ⟨_, rfl⟩
          obtain ⟨PS, hPS⟩ : ∃ D, nameB (37 :: sj k) = D := ⟨_, rfl⟩
          obtain ⟨RS, hRS⟩ : ∃ D, nameB (114 :: sj k) = D := ⟨_, rfl⟩
          rw [hD] at HD e1 s1
          rw [hSJ] at e1 e2 e3 s2
          rw [hPS] at e2
          rw [hRS] at e3
          have HSJ := Lib.hid hSJ
          have HPS := Lib.hid hPS
          have HRS := Lib.hid hRS
          have g1 : ¬ (9223372036854775807 < 2 + D.size) := by omega
          have g2 : ¬ (9223372036854775807 < 1 + SJ.size) := by omega
          clear hD hSJ hPS hRS s1
          obtain ⟨m, hmm⟩ : ∃ m, (chR a0.data.toList th kn k).length = m := ⟨_, rfl⟩
          have hm20 : m ≤ 20 := by have := ch_len (st := a0.data.toList) th kn k; omega
          obtain ⟨wz, hwz⟩ : ∃ wz, ((wr.alloc (.cells #[.string ⟨#[37, 46, 111]⟩] 9)).alloc (.cells #[.string PS] 9)).alloc (.cells #[.string RS] 9) = wz := ⟨_, rfl⟩
          have hbz : Below wr.heap.size wr wz := hwz ▸ below_trans (below_alloc _ _) (below_trans (below_alloc _ _) (below_alloc _ _))
          have hszz : wz.heap.size = wr.heap.size + 1 + 1 + 1 := by rw [← hwz]; simp only [size_alloc]
          have hr3 : R3 wz (.slice (some ⟨wr.heap.size, 0, none⟩) 1 1, .slice (some ⟨wr.heap.size + 1, 0, none⟩) 1 1, .slice (some ⟨wr.heap.size + 1 + 1, 0, none⟩) 1 1) (patR k) := by
            rw [← hwz, ← HPS.out, ← HRS.out]
            have u2 := SB.one (wr.alloc (.cells #[.string ⟨#[37, 46, 111]⟩] 9)) (37 :: sj k)
            have u3 := SB.one ((wr.alloc (.cells #[.string ⟨#[37, 46, 111]⟩] 9)).alloc (.cells #[.string (nameB (37 :: sj k))] 9)) (114 :: sj k)
            simp only [size_alloc] at u2 u3
            exact ⟨(SB.one wr [37, 46, 111]).below (below_trans (below_alloc _ _) (below_alloc _ _)), u2.below (below_alloc _ _), u3⟩
          obtain ⟨v', w3, hrun, hb3, hf3, ⟨gv, cv, rfl⟩, hgr, hon⟩ := (HL.out.gr.below hbz).push2 m hmm (by omega) _ _ _ _ hr3
          have hsx := (HL.out.sx.below hbz).push (HL.out.gr.below hbz) hon
          have hbA : Below W.heap.size W (w3.setCell ⟨b9, 1, none⟩ (.slice (some ⟨gv, 0, none⟩) (m + 1) cv)) := by
            have e3 := HB9.out
            have e1 := H0.out.size
            exact below_trans H0.out ((HB0.out.trans (hgr.old.below (fun i hi => by rw [hi]; omega) HB0.out.size)))
          have hckA : (w3.setCell ⟨b9, 1, none⟩ (.slice (some ⟨gv, 0, none⟩) (m + 1) cv)).cell? (ad.add k) = some (.bool (th k)) := (hbA.cell (p := ad.add k) (World.block_lt_of_cell? _ _ hck)).trans hck
          rw [← hwz] at hrun
          rw [hwz, hszz, ← hwz] at hrun
          have HRUN := Lib.hid hrun
          have HGR := Lib.hid hgr
          have HSX := Lib.hid hsx
          have HBA := Lib.hid hbA
          obtain ⟨W4, hW4⟩ : ∃ W4, w3.setCell ⟨b9, 1, none⟩ (.slice (some ⟨gv, 0, none⟩) (m + 1) cv) = W4 := ⟨_, rfl⟩
          rw [hW4] at hckA HGR HSX HBA
          have HW4 := Lib.hid hW4
          have hs4 : W4.heap.size = w3.heap.size := by rw [← hW4]; exact szset _ _ _
          obtain ⟨t, ht⟩ : ∃ t, th k = t := ⟨_, rfl⟩
          rw [ht] at hckA
          have HTH := Lib.hid ht
          have HMM := Lib.hid hmm
          clear hrun hgr hsx hbA hon hr3 hszz hbz hwz ht hmm hW4 hs4
          go_upto_region 17 with (first
            | (go_at_call 26; ((with_reducible refine (HD.out _).mono ?_)); rintro e w5 ⟨rfl, h5⟩; obtain rfl := h5.symm; simp only [])
            | (at_builtin; refine wpList_run_append _ rfl _ _ 43 43 rfl _ _ rfl rfl HRUN.out ?_))
          rw [HW4.out]
          have q4 : W4.cell? ⟨b9, 1, none⟩ = some (.slice (some ⟨gv, 0, none⟩) (m + 1) cv) := cell_of HGR.out.blk 1
          have f4 : W4.frozen? ⟨b9, 1, none⟩ = false := free_of HGR.out.blk 1
          clear q1 g2 e2 e3
          cases t with
          | false =>
            as_aux_lemma =>
              have HNX : Hid (firstT th (k + 1) = firstT th k) := by
                rw [Hid, firstT, HTH.out]
                cases firstT th k <;> rfl
              have HL2 : Hid (Lch w0 W4 b9 (.slice (some ⟨gv, 0, none⟩) (m + 1) cv) a0.data.toList th kn f (k + 1)) := by
                refine ⟨?_, ?_⟩
                · rw [show chR a0.data.toList th kn (k + 1) = chR a0.data.toList th kn k ++ [patR k] by rw [chR, HTH.out]; rfl]
                  exact HGR.out
                · rw [show chN th kn (k + 1) = chN th kn k by rw [chN, HTH.out]; rfl, show chT a0.data.toList th kn (k + 1) = chT a0.data.toList th kn k by rw [chT, HTH.out]; rfl]
                  exact HSX.out
              clear q4 f4
              go_wp2_with fail
              go_roundw
              case measure => simp [intOf]; omega
              case rel => exact ⟨k + 1, by omega, by go_num, by rw [HNX.out], ⟨_, HL2.out⟩⟩
          | true =>
            obtain ⟨fo, hfo⟩ : ∃ fo, firstT th k = fo := ⟨_, rfl⟩
            have HFO := Lib.hid hfo
            rw [hfo]
            clear hfo
            obtain ⟨vw, hvw⟩ : ∃ vw, wantV fo = vw := ⟨_, rfl⟩
            rw [hvw]
            cases kn with
            | true =>
              obtain ⟨PL, hPL⟩ : ∃ D, nameB (a0.data.toList ++ sj k) = D := ⟨_, rfl⟩
              have e4 : a0 ++ SJ = PL := by rw [← hPL, ← HSJ.out, ← nameB_app]; rfl
              have g4 : ¬ (9223372036854775807 < a0.size + SJ.size) := by omega
              obtain ⟨wy, hwy⟩ : ∃ wy, W4.alloc (.cells #[.string PL] 9) = wy := ⟨_, rfl⟩
              have hby : Below W4.heap.size W4 wy := hwy ▸ below_alloc _ _
              have hszy : wy.heap.size = W4.heap.size + 1 := by rw [← hwy, size_alloc]
              have hry : R3 wy (.slice (some ⟨W4.heap.size, 0, none⟩) 1 1, .slice none 0 0, .slice none 0 0) (plR a0.data.toList k) := by
                rw [← hwy, ← hPL]
                exact ⟨SB.one W4 (a0.data.toList ++ sj k), SB.nil _, SB.nil _⟩
              obtain ⟨v2, w7, hrun2, hb7, hf7, ⟨g7, c7, rfl⟩, hgr2, hon2⟩ := (HGR.out.below hby).push2 (m + 1) (by rw [List.length_append, HMM.out]; rfl) (by omega) _ _ _ _ hry
              have hsx2 := (HSX.out.below hby).push (HGR.out.below hby) hon2
              rw [← hwy] at hrun2
              rw [hwy, hszy, ← hwy] at hrun2
              have HRUN2 := Lib.hid hrun2
              have HGR2 := Lib.hid hgr2
              have HSX2 := Lib.hid hsx2
              clear hrun2 hgr2 hsx2 hon2 hry hszy hby hwy hPL
              have HL2 : Hid (Lch w0 (w7.setCell ⟨b9, 1, none⟩ (.slice (some ⟨g7, 0, none⟩) (m + 1 + 1) c7)) b9 (.slice (some ⟨g7, 0, none⟩) (m + 1 + 1) c7) a0.data.toList th true f (k + 1)) := by
                refine ⟨?_, ?_⟩
                · rw [show chR a0.data.toList th true (k + 1) = (chR a0.data.toList th true k ++ [patR k]) ++ [plR a0.data.toList k] by rw [chR, HTH.out]; simp [addR]]
                  exact HGR2.out
                · rw [show chN th true (k + 1) = chN th true k by rw [chN, HTH.out]; rfl, show chT a0.data.toList th true (k + 1) = chT a0.data.toList th true k by rw [chT, HTH.out]; rfl]
                  exact HSX2.out
              cases fo with
              | none =>
                as_aux_lemma =>
                  have HNX : Hid (firstT th (k + 1) = some k) := by
                    rw [Hid, firstT, HFO.out]; rw [HTH.out]; rfl
                  have hvw2 : Value.int .i64 (-1) = vw := hvw
                  subst hvw2
                  clear hvw
                  go_wp2_with (at_builtin; refine wpList_run_append _ rfl _ _ 43 43 rfl _ _ rfl rfl HRUN2.out ?_)
                  go_roundw
                  case measure => simp [intOf]; omega
                  case rel => exact ⟨k + 1, by omega, by go_num, by rw [HNX.out]; rfl, ⟨_, HL2.out⟩⟩
              | some fi =>
                as_aux_lemma =>
                  have HNX : Hid (firstT th (k + 1) = some fi) := by
                    rw [Hid, firstT, HFO.out]
                  have hvw2 : Value.int .i64 (fi : Int) = vw := hvw
                  subst hvw2
                  have hfiI : ¬ (fi : Int) < 0 := by omega
                  clear hvw
                  go_wp2_with (at_builtin; refine wpList_run_append _ rfl _ _ 43 43 rfl _ _ rfl rfl HRUN2.out ?_)
                  go_roundw
                  case measure => simp [intOf]; omega
                  case rel => exact ⟨k + 1, by omega, by go_num, by rw [HNX.out]; rfl, ⟨_, HL2.out⟩⟩
            | false =>
              obtain ⟨P1, hP1⟩ : ∃ D, (⟨#[47]⟩ : ByteArray) ++ a0 = D := ⟨_, rfl⟩
              obtain ⟨PB, hPB⟩ : ∃ D, pathB (a0.data.toList ++ sj k) = D := ⟨_, rfl⟩
              have e5 : P1 ++ SJ = PB := by
                rw [← hPB, ← hP1, ← HSJ.out]
                have u1 : (⟨#[47]⟩ : ByteArray) ++ a0 = nameB (47 :: a0.data.toList) := nameB_app [47] a0.data.toList
                rw [u1, nameB_app]; rfl
              have hs1 : P1.size = 1 + a0.size := by rw [← hP1, ByteArray.size_append]; rfl
              have g5 : ¬ (9223372036854775807 < 1 + a0.size) := by omega
              have g6 : ¬ (9223372036854775807 < P1.size + SJ.size) := by omega
              have hnn : chN th false k ≤ 8 := by have := chN_le th false k; omega
              have hcz : chT a0.data.toList th false k [a0.data.toList ++ sj k] = none := by
                have := chT_at a0.data.toList th false k (by omega) k (by omega)
                rw [decide_eq_false (Nat.lt_irrefl k)] at this
                unfold kdF at this
                cases h : chT a0.data.toList th false k [a0.data.toList ++ sj k] with
                | none => rfl
                | some nd => rw [h] at this; simp at this; split at this <;> simp at this
              have HWR := Lib.hid (Write_sxk HSX.out (nm_ch HNE.out HST.out (by simpa using HLE.out) k (by omega)) hcz ⟨by simp, by simp, by simp; omega, by simp, by simp; omega⟩ (by unfold maxLen; omega) (by simp; omega) (by simp))
              rw [hPB] at HWR
              clear hPB hcz hs1
              have HL2 : Hid (∀ w7, Sx w0.heap.size w7 (chN th false k + 1) f ⟨20, 100, chN th false k + 1, 0, chN th false k + 1⟩ (setF (chT a0.data.toList th false k) [a0.data.toList ++ sj k] (some ⟨true, [], (chN th false k : Int) + 1⟩)) → Below w0.heap.size W4 w7 → Kept W4 w7 → Lch w0 w7 b9 (.slice (some ⟨gv, 0, none⟩) (m + 1) cv) a0.data.toList th false f (k + 1)) := fun w7 h7 h7b h7k => by
                refine ⟨?_, ?_⟩
                · rw [show chR a0.data.toList th false (k + 1) = chR a0.data.toList th false k ++ [patR k] by rw [chR, HTH.out]; rfl]
                  exact HGR.out.write h7b (Nat.le_refl _) h7k
                · rw [show chN th false (k + 1) = chN th false k + 1 by rw [chN, HTH.out]; rfl, show chT a0.data.toList th false (k + 1) = setF (chT a0.data.toList th false k) [a0.data.toList ++ sj k] (some ⟨true, [], (chN th false k : Int) + 1⟩) by rw [chT, HTH.out]; rfl]
                  exact h7
              clear q4 f4
              cases fo with
              | none =>
                as_aux_lemma =>
                  have HNX : Hid (firstT th (k + 1) = some k) := by
                    rw [Hid, firstT, HFO.out]; rw [HTH.out]; rfl
                  have hvw2 : Value.int .i64 (-1) = vw := hvw
                  subst hvw2
                  clear hvw
                  go_wp2_with (go_at_call 15; refine HWR.out.mono ?_; rintro e w7 ⟨⟨rfl, h7, h7b⟩, h7k⟩; have H7 := Lib.hid (HL2.out _ h7 h7b h7k); clear h7 h7b h7k; simp only [])
                  go_roundw
                  case measure => simp [intOf]; omega
                  case rel => exact ⟨k + 1, by omega, by go_num, by rw [HNX.out]; rfl, ⟨_, H7.out⟩⟩
              | some fi =>
                as_aux_lemma =>
                  have HNX : Hid (firstT th (k + 1) = some fi) := by
                    rw [Hid, firstT, HFO.out]
                  have hvw2 : Value.int .i64 (fi : Int) = vw := hvw
                  subst hvw2
                  have hfiI : ¬ (fi : Int) < 0 := by omega
                  clear hvw
                  go_wp2_with (go_at_call 15; refine HWR.out.mono ?_; rintro e w7 ⟨⟨rfl, h7, h7b⟩, h7k⟩; have H7 := Lib.hid (HL2.out _ h7 h7b h7k); clear h7 h7b h7k; simp only [])
                  go_roundw
                  case measure => simp [intOf]; omega
                  case rel => exact ⟨k + 1, by omega, by go_num, by rw [HNX.out]; rfl, ⟨_, H7.out⟩⟩
        · have hltI : ¬ (k : Int) < (n : Int) := by omega
          have hkn : n = k := by omega
          subst hkn
          have hrv := HL.out.gr.rsv
          obtain ⟨ra, rc, hvf⟩ := hrv.len
          obtain ⟨N, hN⟩ : ∃ N, (chR a0.data.toList th kn n).length = N := ⟨_, rfl⟩
          have hN16 : N ≤ 16 := by have := ch_len (st := a0.data.toList) th kn n; omega
          rw [hN] at hvf
          subst hvf
          have q0 : wr.cell? ⟨b9, 0, none⟩ = some (.slice none 0 0) := cell_of HL.out.gr.blk 0
          have HOLD : Hid (Below W.heap.size W wr) := by
            have e3 := HB9.out
            have e1 := H0.out.size
            exact below_trans H0.out (HB0.out.trans (HL.out.gr.old.below (fun i hi => by rw [hi]; omega) HB0.out.size))
          obtain ⟨F, hF, _⟩ := HL.out.sx.fs
          have hm := HM.out.below HOLD.out
          have htg : (a0.data.toList ++ [46, 111]).head? ≠ some 46 := by
            cases h : a0.data.toList with
            | nil => exact absurd h HNE.out
            | cons x xs =>
              intro e
              have hx : x = 46 := by simpa using e
              have := (HST.out x (by rw [h]; simp)).1
              rw [hx] at this
              exact absurd this (by decide)
          have hl30 : a0.data.toList.length ≤ 30 := HLE.out
          have hpt := ch_pats HNE.out HST.out hl30 th kn n (by omega)
          have hfd := find_ch HST.out th kn n (by omega) n (Nat.le_refl _)
          obtain ⟨TG, hTG⟩ : ∃ D, nameB (a0.data.toList ++ [46, 111]) = D := ⟨_, rfl⟩
          have e7 : a0 ++ (⟨#[46, 111]⟩ : ByteArray) = TG := by rw [← hTG, ← nameB_app]; rfl
          have g7 : ¬ (9223372036854775807 < a0.size + 2) := by omega
          obtain ⟨vw, hvw⟩ : ∃ vw, wantV (firstT th n) = vw := ⟨_, rfl⟩
          rw [hvw]
          cases hfo : firstT th n with
          | none =>
            as_aux_lemma =>
              rw [hfo] at hvw hfd
              have hvw2 : Value.int .i64 (-1) = vw := hvw
              subst hvw2
              have HP : Hid (Calls Tryd.prog 27 #[.agg #[.slice none 0 0, .slice ra N rc], .pointer (some ⟨f, 0, none⟩), .string ⟨#[47]⟩, .string TG] wr fun e w' => ∃ na nc xa xc, e = .returned (.agg #[.slice na 0 nc, .slice xa 0 xc, .string ⟨#[]⟩, .bool false]) ∧ Below wr.heap.size wr w') := by
                have h := Plan_miss hF hm (.slice none 0 0) (.slice ra N rc) (chR a0.data.toList th kn n) a0.data.toList [46, 111] hrv (by omega) (ch_few th kn n) hpt HNE.out (by simp; omega) ⟨_, _, _, rfl⟩ htg hfd
                rw [ch_plain HST.out, hTG] at h
                refine h.mono ?_
                rintro e w' ⟨nv, rv, rfl, h1, h2, h3, _⟩
                obtain ⟨na, nc, h4⟩ := h1.len
                obtain ⟨xa, xc, h5⟩ := h2.len
                exact ⟨na, nc, xa, xc, by rw [h4, h5]; rfl, h3⟩
              clear hvw hfd hrv hF hm htg hpt hN hTG hfo
              go_wp2_with (go_at_call 27; refine HP.out.mono ?_; rintro e w3 ⟨na, nc, xa, xc, rfl, h3⟩; have H3 := Lib.hid h3; clear h3; simp only [])
              go_ret
              exact ⟨rfl, below_trans HOLD.out (below_trans H3.out (below_alloc _ _))⟩
          | some kk =>
            as_aux_lemma =>
              rw [hfo] at hvw hfd
              have hvw2 : Value.int .i64 (kk : Int) = vw := hvw
              subst hvw2
              have hkk : kk < n := firstT_lt hfo
              have hkI : ¬ (kk : Int) < 0 := by omega
              have HP : Hid (Calls Tryd.prog 27 #[.agg #[.slice none 0 0, .slice ra N rc], .pointer (some ⟨f, 0, none⟩), .string ⟨#[47]⟩, .string TG] wr fun e w' => ∃ na nc xa xc, e = .returned (.agg #[.slice na 1 nc, .slice xa 1 xc, .string a0, .bool true]) ∧ SlS w' (.slice na 1 nc) [a0.data.toList ++ sj kk] ∧ SlS w' (.slice xa 1 xc) [114 :: sj kk] ∧ Below wr.heap.size wr w') := by
                have h := Plan_hit hF hm (.slice none 0 0) (.slice ra N rc) (chR a0.data.toList th kn n) a0.data.toList [46, 111] hrv (by omega) hpt HNE.out (by simp; omega) ⟨_, _, _, rfl⟩ htg (ch_plain HST.out th kn n) (patR kk) hfd (by simp [patR])
                rw [hTG] at h
                refine h.mono ?_
                rintro e w' ⟨nv, rv, rfl, h1, h2, h3⟩
                obtain ⟨na, nc, h4⟩ := h1.len
                obtain ⟨xa, xc, h5⟩ := h2.len
                subst h4
                subst h5
                exact ⟨na, nc, xa, xc, rfl, h1, h2, h3⟩
              have HD := Lib.hid (fun w => Digits_any kk (by omega) w)
              have e1 : (⟨#[46, 115]⟩ : ByteArray) ++ nameB (dg kk) = nameB (sj kk) := nameB_app [46, 115] (dg kk)
              have e3 : (⟨#[114]⟩ : ByteArray) ++ nameB (sj kk) = nameB (114 :: sj kk) := nameB_app [114] (sj kk)
              have e4 : a0 ++ nameB (sj kk) = nameB (a0.data.toList ++ sj kk) := (nameB_app a0.data.toList (sj kk)).symm ▸ rfl
              have s1 : (nameB (dg kk)).size ≤ 2 := by rw [nameB_size]; exact dg_len _
              have s2 : (nameB (sj kk)).size ≤ 4 := by rw [nameB_size]; exact sj_len _
              obtain ⟨D, hD⟩ : ∃ D, nameB (dg kk) = D := ⟨_, rfl⟩
              obtain ⟨SJ, hSJ⟩ : ∃ D, nameB (sj kk) = D := ⟨_, rfl⟩
              obtain ⟨PS, hPS⟩ : ∃ D, nameB (a0.data.toList ++ sj kk) = D := ⟨_, rfl⟩
              obtain ⟨RS, hRS⟩ : ∃ D, nameB (114 :: sj kk) = D := ⟨_, rfl⟩
              rw [hD] at HD e1 s1
              rw [hSJ] at e1 e3 e4 s2
              rw [hPS] at e4
              rw [hRS] at e3
              have HPS := Lib.hid hPS
              have HRS := Lib.hid hRS
              have g1 : ¬ (9223372036854775807 < 2 + D.size) := by omega
              have g2 : ¬ (9223372036854775807 < 1 + SJ.size) := by omega
              have g3 : ¬ (9223372036854775807 < a0.size + SJ.size) := by omega
              clear hD hSJ hPS hRS s1 s2 hvw hfd hrv hF hm htg hpt hN hTG hfo
              go_upto_region 26 with (go_at_call 27; refine HP.out.mono ?_; rintro e w3 ⟨na, nc, xa, xc, rfl, hn3, hx3, h3⟩; have HN3 := Lib.hid hn3; have HX3 := Lib.hid hx3; have H3 := Lib.hid h3; clear hn3 hx3 h3; simp only [])
              obtain ⟨b5, hb5⟩ : ∃ b5, w3.heap.size = b5 := ⟨_, rfl⟩
              obtain ⟨W5, hW5⟩ : ∃ W5, w3.alloc (.cells #[.slice na 1 nc, .slice xa 1 xc, .string a0, .bool true] 50) = W5 := ⟨_, rfl⟩
              rw [hW5]
              have H5 : Hid (Below w3.heap.size w3 W5) := hW5 ▸ below_alloc _ _
              have p0 : W5.cell? ⟨b5, 0, none⟩ = some (.slice na 1 nc) := by rw [← hW5, ← hb5]; exact cell_new _ _ _ _
              have p1 : W5.cell? ⟨b5, 1, none⟩ = some (.slice xa 1 xc) := by rw [← hW5, ← hb5]; exact cell_new _ _ _ _
              have p2 : W5.cell? ⟨b5, 2, none⟩ = some (.string a0) := by rw [← hW5, ← hb5]; exact cell_new _ _ _ _
              have p3 : W5.cell? ⟨b5, 3, none⟩ = some (.bool true) := by rw [← hW5, ← hb5]; exact cell_new _ _ _ _
              have hl5 : b5 < W5.heap.size := by rw [← hW5, ← hb5, size_alloc]; omega
              have HL5 := Lib.hid hl5
              have HP1 := Lib.hid p1
              simp only [hb5]
              have HSA : Hid (∀ w8, Below W5.heap.size W5 w8 → Calls Tryd.prog 28 #[.slice na 1 nc, .slice (some ⟨w8.heap.size, 0, none⟩) 1 1] (w8.alloc (.cells #[.string PS] 9)) fun e w' => e = .returned (.bool true) ∧ Below w8.heap.size w8 w') := fun w8 h8 => by
                have u1 : SlS (w8.alloc (.cells #[.string PS] 9)) (.slice (some ⟨w8.heap.size, 0, none⟩) 1 1) [a0.data.toList ++ sj kk] := by rw [← HPS.out]; exact sl_new w8 _
                refine (Same_any na (some ⟨w8.heap.size, 0, none⟩) [a0.data.toList ++ sj kk] [a0.data.toList ++ sj kk] nc 1 _ (by simp) (strs_sl ((HN3.out.below (below_trans H5.out h8)).below (below_alloc _ _))) (strs_sl u1) true (by simp [Hid])).mono ?_
                rintro e w' ⟨rfl, m, rfl⟩
                exact ⟨rfl, below_drewN (below_alloc _ _) _⟩
              have HSB : Hid (∀ w8, Below W5.heap.size W5 w8 → Calls Tryd.prog 28 #[.slice xa 1 xc, .slice (some ⟨w8.heap.size, 0, none⟩) 1 1] (w8.alloc (.cells #[.string RS] 9)) fun e w' => e = .returned (.bool true) ∧ Below w8.heap.size w8 w') := fun w8 h8 => by
                have u1 : SlS (w8.alloc (.cells #[.string RS] 9)) (.slice (some ⟨w8.heap.size, 0, none⟩) 1 1) [114 :: sj kk] := by rw [← HRS.out]; exact sl_new w8 _
                refine (Same_any xa (some ⟨w8.heap.size, 0, none⟩) [114 :: sj kk] [114 :: sj kk] xc 1 _ (by simp) (strs_sl ((HX3.out.below (below_trans H5.out h8)).below (below_alloc _ _))) (strs_sl u1) true (by simp [Hid])).mono ?_
                rintro e w' ⟨rfl, m, rfl⟩
                exact ⟨rfl, below_drewN (below_alloc _ _) _⟩
              have HSA0 := Lib.hid (HSA.out W5 (Below.refl _ _))
              clear hW5 hb5 hl5
              go_upto_region 27 with (go_at_call 26; ((with_reducible refine (HD.out _).mono ?_)); rintro e w5 ⟨rfl, h5⟩; obtain rfl := h5.symm; simp only [])
              go_wp2_with (go_at_call 28; first
                    | ((with_reducible refine (HSA0.out).mono ?_); rintro e w6 ⟨rfl, h6⟩; have H6 := Lib.hid h6; have q6 : w6.cell? ⟨b5, 1, none⟩ = some (.slice xa 1 xc) := (h6.cell (p := ⟨b5, 1, none⟩) HL5.out).trans HP1.out; clear h6; simp only [])
                    | ((with_reducible refine (HSB.out w6 H6.out).mono ?_); rintro e w7 ⟨rfl, h7⟩; have H7 := Lib.hid h7; clear h7; simp only []))
              go_ret
              exact ⟨rfl, below_trans HOLD.out (below_trans H3.out (below_trans H5.out (below_trans H6.out H7.out)))⟩
end Go.Proofs.YtjagnihkpgbjeaaDoor
