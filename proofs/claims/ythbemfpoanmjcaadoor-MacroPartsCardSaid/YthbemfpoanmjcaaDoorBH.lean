import Derived.Test.YthbemfpoanmjcaaDoorBG
namespace Go.Proofs.YthbemfpoanmjcaaDoor
open Go.RowKit
set_option linter.unusedVariables false

theorem refr_plain {l au : List Pr} {EX : List Bs → Bs → Nat → R} {op : List Bs} {T s t : Bs} {c0 c1 : Nat} (h2 : 2 ≤ T.length) (hT : (T.take (T.length - 1)).drop 1 = s) (hc : c0 + 1 ≤ 10000) (hE : EX op s (c0 + 1) = ((t, 0), c1))
    (h : (58 : UInt8) ∉ t ∨ ∃ A B, t = A ++ 58 :: B ∧ (58 : UInt8) ∉ A ∧ (61 : UInt8) ∉ B) : referF l au EX op T c0 = valueF l au EX op t c1 := by
  unfold referF
  rw [if_neg (by omega), if_neg (by omega), hT, hE]
  dsimp only
  rw [if_neg (by simp)]
  rcases h with h | ⟨A, B, rfl, hA, hB⟩
  · rw [cut_none h]
    dsimp only
    rw [cut_none (by simp)]
    dsimp only
    rw [if_pos rfl]
  · rw [cut_hit _ hA]
    dsimp only
    rw [cut_none hB]
    dsimp only
    rw [if_pos rfl]
theorem refr_swap {l au : List Pr} {EX : List Bs → Bs → Nat → R} {op : List Bs} {T s A C D v : Bs} {c0 c1 c2 : Nat} (h2 : 2 ≤ T.length) (hT : (T.take (T.length - 1)).drop 1 = s) (hc : c0 + 1 ≤ 10000) (hE : EX op s (c0 + 1) = ((A ++ 58 :: (C ++ 61 :: D), 0), c1))
    (hA : (58 : UInt8) ∉ A) (hC : (61 : UInt8) ∉ C) (hv : valueF l au EX op A c1 = ((v, 0), c2)) : referF l au EX op T c0 = ((swapF v C D, 0), c2) := by
  unfold referF
  rw [if_neg (by omega), if_neg (by omega), hT, hE]
  dsimp only
  rw [if_neg (by simp), cut_hit _ hA]
  dsimp only
  rw [cut_hit _ hC]
  dsimp only
  rw [if_neg (by simp), hv]
theorem split_at {x : UInt8} {l : Bs} (h : x ∈ l) : ∃ a b, l = a ++ x :: b ∧ x ∉ a := by
  obtain ⟨a, b, e, hn⟩ := List.eq_append_cons_of_mem h
  exact ⟨a, b, e, hn⟩
theorem At_58 (s : ByteArray) (w : World) (hs : s.size ≤ 1000000) : Calls Tryd.prog 43 #[.string s, .int .u8 58] w fun e w' => e = .returned (.int .i64 (Lib.indexByte s.data.toList 58)) ∧ w' = w := At_any s 58 w hs
theorem At_61 (s : ByteArray) (w : World) (hs : s.size ≤ 1000000) : Calls Tryd.prog 43 #[.string s, .int .u8 61] w fun e w' => e = .returned (.int .i64 (Lib.indexByte s.data.toList 61)) ∧ w' = w := At_any s 61 w hs
theorem At_37 (s : ByteArray) (w : World) (hs : s.size ≤ 1000000) : Calls Tryd.prog 43 #[.string s, .int .u8 37] w fun e w' => e = .returned (.int .i64 (Lib.indexByte s.data.toList 37)) ∧ w' = w := At_any s 37 w hs
theorem listB_len {M : Nat} : ∀ (l : List ByteArray), (∀ x ∈ l, x.size ≤ M) → (listB l).length ≤ (M + 1) * l.length
  | [], _ => by simp [listB]
  | x :: l, h => by
    have h1 := h x (by simp)
    have h2 := listB_len l (fun y hy => h y (List.mem_cons_of_mem _ hy))
    have e : (listB (x :: l)).length ≤ x.size + 1 + (listB l).length := by
      cases l with
      | nil => rw [listB_one, dl]; omega
      | cons y r =>
        show (x.data.toList ++ 32 :: listB (y :: r)).length ≤ _
        rw [List.length_append, List.length_cons, dl]; omega
    rw [List.length_cons, Nat.mul_add, Nat.mul_one]; omega
/-- What a change's loop leaves. -/
def HalfW (w wx : World) (v : Value) (fr tt : ByteArray) (ws : List ByteArray) (k : Nat) : Prop := Wn w wx v (half fr tt ws k)
set_option maxRecDepth 100000 in
set_option maxHeartbeats 16000000 in
theorem reference_r (eb : Nat) (lv av : Value) (l au : Prs) (EX : List Bs → Bs → Nat → R) (ne : Nat) (hne : ne < 40) (HX : NextX eb lv av l au EX ne) (hau : ∀ p ∈ au, p.2.size ≤ 20000)
    (w : World) (cnt c0 : Nat) (wv : Value) (op : List ByteArray) (s : ByteArray) (T : Bs) (hE : ExR eb w lv av l au cnt) (hc : cnt ≤ 10000) (hT : Txt w wv op) (hop : op.length ≤ ne)
    (h2 : 2 ≤ T.length) (hTs : (T.take (T.length - 1)).drop 1 = s.data.toList) (hcc : cnt = c0 + 1) :
    Calls Tryd.prog 36 #[.pointer (some ⟨eb, 0, none⟩), .string s, wv, .int .i64 ne] w (XP eb w lv av l au (fun t c => referF (bsl l) (bsl au) EX (dd op) T c0 = ((t, 0), c) ∨ 16384 < t.length)) := by
  have hx := HX w cnt wv op s hE hc hT (by omega)
  have HC1 := Lib.hid hx
  have HVAL : Hid (∀ (w1 : World) (cnt1 : Nat) (nm : ByteArray), ExR eb w1 lv av l au cnt1 → cnt1 ≤ 10000 → Txt w1 wv op → Calls Tryd.prog 37 #[.pointer (some ⟨eb, 0, none⟩), .string nm, wv, .int .i64 ne] w1 (XP eb w1 lv av l au (fun t c => t.length ≤ 20000 ∧ valueF (bsl l) (bsl au) EX (dd op) nm.data.toList cnt1 = ((t, 0), c)))) :=
    fun w1 cnt1 nm h1 h2 h3 => value_r eb lv av l au EX ne hne HX hau w1 cnt1 wv op nm h1 h2 h3 hop
  have HT := Lib.hid hT
  have HE := Lib.hid hE
  have HTS := Lib.hid hTs
  have H2 := Lib.hid h2
  have HCC := Lib.hid hcc
  have hcc2 : c0 + 1 ≤ 10000 := by omega
  have hb1 : IntKind.i64.wrap ((ne : Int) + 1) = (ne : Int) + 1 := IntWalk.i64_in _ (by omega)
  obtain ⟨P, hP⟩ : ∃ P : Bs → Nat → Prop, (fun t c => referF (bsl l) (bsl au) EX (dd op) T c0 = ((t, 0), c) ∨ 16384 < t.length) = P := ⟨_, rfl⟩
  rw [hP]
  have HP := Lib.hid hP
  have HA58 := Lib.hid (fun (t : ByteArray) w h => At_58 t w h)
  have HA61 := Lib.hid (fun (t : ByteArray) w h => At_61 t w h)
  have HA37 := Lib.hid (fun (t : ByteArray) w h => At_37 t w h)
  clear hx HX hau hE hT h2 hTs hcc hP
  go_enter Tryd.func36, Tryd.ntmps36
  go_wp2_with (go_at_call 24; refine HC1.out.mono ?_)
  rintro e w1 ⟨t, er, cnt1, rfl, q1, q2, q3⟩
  by_cases her : er = 0
  case neg =>
    have g1 : (er == 0) = false := by rw [beq_eq_false_iff_ne]; exact her
    have g2 : (er != 0) = true := by rw [bne_iff_ne]; exact her
    have HEND : Hid (XP eb w lv av l au P (.returned (.tuple #[.string ⟨#[]⟩, .int .i64 er])) w1) := XP.bad q1 q2 her
    clear q1 q2 q3 her
    simp only []
    go_wp2_with fail
    go_ret2
    exact HEND.out
  subst her
  obtain ⟨hc1, hts, hlen, hEX⟩ := q3 rfl
  rw [dl] at hlen
  rw [HCC.out] at hEX
  have hT1 := HT.out.only HE.out q2
  have HT1 := Lib.hid hT1
  have HE1 := Lib.hid q1
  have HO1 := Lib.hid q2
  have HEX := Lib.hid hEX
  clear q1 q2 q3 hT1 hEX hts
  by_cases h58 : (58 : UInt8) ∈ t.data.toList ∧ (61 : UInt8) ∈ (t.data.toList.drop (Lib.indexByte t.data.toList 58).toNat)
  case neg =>
    have HPL : Hid (∀ v c, valueF (bsl l) (bsl au) EX (dd op) t.data.toList cnt1 = ((v, 0), c) → P v c) := fun v c hv => by
      rw [← HP.out]
      refine .inl ?_
      rw [refr_plain H2.out HTS.out hcc2 HEX.out ?_]
      · exact hv
      · by_cases hm : (58 : UInt8) ∈ t.data.toList
        · obtain ⟨A, B, e, hn⟩ := split_at hm
          refine .inr ⟨A, B, e, hn, fun h61 => h58 ⟨hm, ?_⟩⟩
          rw [e, idxB_at _ hn, Int.toNat_natCast, List.drop_left]
          exact List.mem_cons_of_mem _ h61
        · exact .inl hm
    have HV := Lib.hid (HVAL.out w1 cnt1 t HE1.out hc1 HT1.out)
    have HEND : Hid (∀ e w', XP eb w1 lv av l au (fun t_1 c => t_1.length ≤ 20000 ∧ valueF (bsl l) (bsl au) EX (dd op) t.data.toList cnt1 = ((t_1, 0), c)) e w' → XP eb w lv av l au P e w') := fun e w' h => h.mono HO1.out (fun v c hv => HPL.out v c hv.2)
    have h58a := HA58.out t w1 (by omega)
    by_cases hm : (58 : UInt8) ∈ t.data.toList
    · obtain ⟨A, B, e, hn⟩ := split_at hm
      have hix : Lib.indexByte t.data.toList 58 = (A.length : Int) := by rw [e, idxB_at _ hn]
      have h61 : (61 : UInt8) ∉ (58 : UInt8) :: B := fun h => h58 ⟨hm, by rw [hix, Int.toNat_natCast, e, List.drop_left]; exact h⟩
      have hal : A.length < t.size := by rw [← dl, e]; simp
      have hdr : (t.extract A.length t.size).data.toList = 58 :: B := by rw [(drop_ext (Nat.le_of_lt hal)).1, e, List.drop_left]
      have hds := (drop_ext (Nat.le_of_lt hal)).2
      obtain ⟨t2, ht2⟩ : ∃ t2, t.extract A.length t.size = t2 := ⟨_, rfl⟩
      rw [ht2] at hdr hds
      have h61a := HA61.out t2 w1 (by omega)
      rw [hdr, idxB_no h61] at h61a
      rw [hix] at h58a
      obtain ⟨a, ha⟩ : ∃ a, A.length = a := ⟨_, rfl⟩
      rw [ha] at h58a ht2 hal
      have k1 : (0 : Int) ≤ (a : Int) := by omega
      have k2 : (a : Int) ≤ (t.size : Int) := by omega
      have HA1 := Lib.hid h58a
      have HA2 := Lib.hid h61a
      clear h58a h61a e hn hix h61 hdr hds h58 hm ha hlen
      simp only []
      go_wp2_with (first
        | (go_at_call 43; (first | ((with_reducible refine HA1.out.mono ?_); rintro e w5 ⟨rfl, h5⟩; obtain rfl := h5.symm; simp only []) | ((with_reducible refine HA2.out.mono ?_); rintro e w5 ⟨rfl, h5⟩; obtain rfl := h5.symm; simp only [])))
        | (go_at_call 37; refine HV.out.mono ?_))
      rintro e w6 hx6
      have hx7 := HEND.out e w6 hx6
      clear hx6
      obtain ⟨v, g, cn, rfl, q1, q2, q3⟩ := hx7
      have HF : Hid (XP eb w lv av l au P (.returned (.tuple #[.string v, .int .i64 g])) w6) := ⟨v, g, cn, rfl, q1, q2, q3⟩
      clear q1 q2 q3
      by_cases hg : g = 0
      · subst hg
        simp only []
        go_wp2_with fail
        go_ret2
        exact HF.out
      · have g1 : (g == 0) = false := by rw [beq_eq_false_iff_ne]; exact hg
        have g2 : (g != 0) = true := by rw [bne_iff_ne]; exact hg
        simp only []
        go_wp2_with fail
        go_ret2
        exact HF.out
    · rw [idxB_no hm] at h58a
      have HA1 := Lib.hid h58a
      clear h58a h58 hm hlen
      simp only []
      go_wp2_with (first
        | (go_at_call 43; ((with_reducible refine HA1.out.mono ?_); rintro e w5 ⟨rfl, h5⟩; obtain rfl := h5.symm; simp only []))
        | (go_at_call 37; refine HV.out.mono ?_))
      rintro e w6 hx6
      have hx7 := HEND.out e w6 hx6
      clear hx6
      obtain ⟨v, g, cn, rfl, q1, q2, q3⟩ := hx7
      have HF : Hid (XP eb w lv av l au P (.returned (.tuple #[.string v, .int .i64 g])) w6) := ⟨v, g, cn, rfl, q1, q2, q3⟩
      clear q1 q2 q3
      by_cases hg : g = 0
      · subst hg
        simp only []
        go_wp2_with fail
        go_ret2
        exact HF.out
      · have g1 : (g == 0) = false := by rw [beq_eq_false_iff_ne]; exact hg
        have g2 : (g != 0) = true := by rw [bne_iff_ne]; exact hg
        simp only []
        go_wp2_with fail
        go_ret2
        exact HF.out
  case pos =>
  obtain ⟨h58m, h61m⟩ := h58
  obtain ⟨A, B, e, hA⟩ := split_at h58m
  have hix : Lib.indexByte t.data.toList 58 = (A.length : Int) := by rw [e, idxB_at _ hA]
  rw [hix, Int.toNat_natCast, e, List.drop_left] at h61m
  have h61B : (61 : UInt8) ∈ B := by
    rcases List.mem_cons.1 h61m with h | h
    · exact absurd h (by decide)
    · exact h
  obtain ⟨C, D, rfl, hC⟩ := split_at h61B
  have hEX2 := HEX.out
  rw [e] at hEX2
  have htsz : t.size = A.length + 1 + C.length + 1 + D.length := by rw [← dl, e]; simp; omega
  have hdr : (t.extract A.length t.size).data.toList = 58 :: (C ++ 61 :: D) := by rw [(drop_ext (by omega)).1, e, List.drop_left]
  have hds := (drop_ext (s := t) (a := A.length) (by omega)).2
  obtain ⟨t2, ht2⟩ : ∃ t2, t.extract A.length t.size = t2 := ⟨_, rfl⟩
  rw [ht2] at hdr hds
  have h58a := At_58 t w1 (by omega)
  have h61a := At_61 t2 w1 (by omega)
  have hc61 : (61 : UInt8) ∉ (58 : UInt8) :: C := fun h => by
    rcases List.mem_cons.1 h with h | h
    · exact absurd h (by decide)
    · exact hC h
  rw [hdr, show (58 : UInt8) :: (C ++ 61 :: D) = (58 :: C) ++ 61 :: D from rfl, idxB_at _ hc61] at h61a
  rw [hix] at h58a
  have hna : (t.extract 0 A.length).data.toList = A := by rw [(take_ext (by omega)).1, e, List.take_left]
  have hfr : (t.extract (A.length + 1) (A.length + (58 :: C).length)).data.toList = C := by
    rw [(ext_dt (by simp) (by simp; omega)).1, e, show A ++ 58 :: (C ++ 61 :: D) = (A ++ [58] ++ C) ++ (61 :: D) by simp, show A.length + (58 :: C : Bs).length = (A ++ [58] ++ C).length by simp <;> omega, List.take_left, show A.length + 1 = (A ++ [58]).length by simp, List.drop_left]
  have htt : (t.extract (A.length + (58 :: C).length + 1) t.size).data.toList = D := by
    rw [(drop_ext (by simp; omega)).1, e, show A ++ 58 :: (C ++ 61 :: D) = (A ++ [58] ++ C ++ [61]) ++ D by simp, show A.length + (58 :: C : Bs).length + 1 = (A ++ [58] ++ C ++ [61]).length by simp <;> omega, List.drop_left]
  obtain ⟨NA, hNA⟩ : ∃ x, t.extract 0 A.length = x := ⟨_, rfl⟩
  obtain ⟨FR, hFR⟩ : ∃ x, t.extract (A.length + 1) (A.length + (58 :: C).length) = x := ⟨_, rfl⟩
  obtain ⟨TT, hTT⟩ : ∃ x, t.extract (A.length + (58 :: C).length + 1) t.size = x := ⟨_, rfl⟩
  rw [hNA] at hna
  rw [hFR] at hfr
  rw [hTT] at htt
  have hNAs : NA.size ≤ 16384 := by rw [← dl, hna]; omega
  have hFRs : FR.size ≤ 16384 := by rw [← dl, hfr]; omega
  have hTTs : TT.size ≤ 16384 := by rw [← dl, htt]; omega
  have HSW : Hid (∀ (v : ByteArray) c, valueF (bsl l) (bsl au) EX (dd op) NA.data.toList cnt1 = ((v.data.toList, 0), c) → ∀ z : Bs, (z = swapF v.data.toList FR.data.toList TT.data.toList ∨ 16384 < z.length) → P z c) := fun v c hv z hz => by
    rw [← HP.out]
    rcases hz with rfl | hz
    · refine .inl ?_
      rw [hna] at hv
      rw [refr_swap H2.out HTS.out hcc2 hEX2 hA hC hv, hfr, htt]
    · exact .inr hz
  have HV := Lib.hid (HVAL.out w1 cnt1 NA HE1.out hc1 HT1.out)
  obtain ⟨a, ha⟩ : ∃ a, A.length = a := ⟨_, rfl⟩
  obtain ⟨m, hm⟩ : ∃ m, (58 :: C : Bs).length = m := ⟨_, rfl⟩
  have hm1 : m = C.length + 1 := by rw [← hm]; simp
  rw [ha] at h58a ht2 hNA
  rw [ha, hm] at hFR hTT
  rw [hm] at h61a
  have k1 : (0 : Int) ≤ (a : Int) := by omega
  have k2 : (a : Int) ≤ (t.size : Int) := by omega
  have k3 : (0 : Int) < (m : Int) := by omega
  have k4 : IntKind.i64.wrap ((a : Int) + 1) = (a : Int) + 1 := wr_in _ (by omega)
  have k5 : IntKind.i64.wrap ((a : Int) + (m : Int)) = (a : Int) + (m : Int) := wr_in _ (by omega)
  have k6 : IntKind.i64.wrap ((a : Int) + (m : Int) + 1) = (a : Int) + (m : Int) + 1 := wr_in _ (by omega)
  have k7 : ((a : Int) + 1).toNat = a + 1 := by omega
  have k8 : ((a : Int) + (m : Int)).toNat = a + m := by omega
  have k9 : ((a : Int) + (m : Int) + 1).toNat = a + m + 1 := by omega
  have k10 : (a : Int) + 1 ≤ (a : Int) + (m : Int) := by omega
  have k11 : (a : Int) + (m : Int) ≤ (t.size : Int) := by omega
  have k12 : (a : Int) + (m : Int) + 1 ≤ (t.size : Int) := by omega
  have k13 : (0 : Int) ≤ (a : Int) + 1 := by omega
  have k14 : (0 : Int) ≤ (a : Int) + (m : Int) + 1 := by omega
  have HA1 := Lib.hid h58a
  have HA2 := Lib.hid h61a
  have h37 := HA37.out FR
  have HFR := Lib.hid hfr
  clear h58a h61a e hA hix h58m h61m h61B hC hEX2 htsz hdr hds hc61 hna hfr htt ha hm hm1 hlen
  simp only []
  go_wp2_with (first
    | (go_at_call 43; (first | ((with_reducible refine HA1.out.mono ?_); rintro e w5 ⟨rfl, h5⟩; obtain rfl := h5.symm; simp only []) | ((with_reducible refine HA2.out.mono ?_); rintro e w5 ⟨rfl, h5⟩; obtain rfl := h5.symm; simp only [])))
    | (go_at_call 37; refine HV.out.mono ?_))
  rintro e w6 ⟨v, g, cn, rfl, q1, q2, q3⟩
  by_cases hg : g = 0
  case neg =>
    have g1 : (g == 0) = false := by rw [beq_eq_false_iff_ne]; exact hg
    have g2 : (g != 0) = true := by rw [bne_iff_ne]; exact hg
    have HEND : Hid (XP eb w lv av l au P (.returned (.tuple #[.string v, .int .i64 g])) w6) := XP.bad q1 (HO1.out.trans q2) hg
    clear q1 q2 q3 hg
    simp only []
    go_wp2_with fail
    go_ret2
    exact HEND.out
  subst hg
  obtain ⟨hcn, _, hvl, hval⟩ := q3 rfl
  rw [dl] at hvl
  have HE6 := Lib.hid q1
  have HO6 := Lib.hid (HO1.out.trans q2)
  have HPV := Lib.hid (HSW.out v cn hval)
  have HW := Lib.hid (RefWords_any v w6 (by omega))
  clear q1 q2 q3 hval HSW
  obtain ⟨ws, hws⟩ : ∃ ws, wordsB v = ws := ⟨_, rfl⟩
  have hwl := words_len v
  have hwz := words_le v
  rw [hws] at hwl hwz
  have HWZ := Lib.hid hwz
  have HWS := Lib.hid hws
  have hw3 : ws.length ≤ 20001 := by omega
  have HWZ2 : Hid (∀ x ∈ ws, x.size ≤ 20000) := fun x hx => Nat.le_trans (HWZ.out x hx) hvl
  clear hwz hws hwl
  simp only []
  go_wp2_with (go_at_call 44; refine HW.out.mono ?_)
  rintro e w7 ⟨vv, rfl, hW7⟩
  rw [HWS.out] at hW7
  have HW7 := Lib.hid hW7
  clear hW7
  simp only []
  by_cases h37m : (37 : UInt8) ∈ FR.data.toList
  case neg =>
    have h37a := h37 w7 (by omega)
    rw [idxB_no h37m] at h37a
    have HA3 := Lib.hid h37a
    have HS8 := Lib.hid (RefSwap_big vv ws FR TT w7 (by omega) (fun x hx => Nat.le_trans (HWZ2.out x hx) (by omega)) (by omega) HW7.out.txt)
    have HF37 := Lib.hid h37m
    clear h37a h37 h37m
    go_wp2_with (first
      | (go_at_call 43; ((with_reducible refine HA3.out.mono ?_); rintro e w5 ⟨rfl, h5⟩; obtain rfl := h5.symm; simp only []))
      | (go_at_call 19; refine HS8.out.mono ?_))
    rintro e w8 ⟨v8, rfl, hW8⟩
    have hsz8 : ∀ x ∈ ws.map (fun x => sw1 x FR TT), x.size ≤ 40000 := fun x hx => by
      obtain ⟨y, hy, rfl⟩ := List.mem_map.1 hx
      have h1 := HWZ2.out y hy
      have h2 : (sw1 y FR TT).size ≤ y.size + TT.size := by
        cases hq : Lib.hasSuffix y.data.toList FR.data.toList with
        | true =>
          rw [sw1_yes hq, ByteArray.size_append, ByteArray.size_extract]; omega
        | false => rw [sw1_no hq]; omega
      omega
    have hlst := List_big v8 _ w8 (by rw [List.length_map]; omega) (fun x hx => Nat.le_trans (hsz8 x hx) (by omega)) hW8.txt
    have HL8 := Lib.hid hlst
    have HSZ8 := Lib.hid hsz8
    have HE8 := Lib.hid ((HE6.out.below HW7.out.old).below hW8.old)
    have HO8 := Lib.hid (HO6.out.trans (Oe.trans (Only.of_below HW7.out.old) (Only.of_below hW8.old)))
    clear hW8 hlst hsz8
    simp only []
    go_wp2_with (go_at_call 20; refine HL8.out.mono ?_)
    rintro e w9 ⟨t9, rfl, ht9, hw9⟩
    obtain rfl := hw9.symm
    have HEND : Hid (XP eb w lv av l au P (.returned (.tuple #[.string t9, .int .i64 0])) w8) := by
      have hb := listB_len (M := 40000) _ HSZ8.out
      rw [List.length_map] at hb
      refine XP.good HE8.out HO8.out hcn (by rw [← dl, ht9]; have : 40001 * ws.length ≤ 40001 * 20001 := Nat.mul_le_mul_left _ hw3; omega) (HPV.out _ ?_)
      rw [ht9]
      by_cases hl : (listB (ws.map (fun x => sw1 x FR TT))).length ≤ 16384
      · left
        have := swapF_any (v := v) (f := fun x => sw1 x FR TT) (fr := FR.data.toList) (tt := TT.data.toList) (fun x _ => one_dot HF37.out) (by rw [HWS.out]; exact hl)
        rw [this, HWS.out]
      · exact .inr (by omega)
    clear ht9
    simp only []
    go_wp2_with fail
    go_ret2
    exact HEND.out
  case pos =>
  have h37a := h37 w7 (by omega)
  obtain ⟨z37, hz37⟩ : ∃ z, Lib.indexByte FR.data.toList 37 = z := ⟨_, rfl⟩
  have hzge := idx_mem h37m
  rw [hz37] at h37a hzge
  have hzd : decide (z37 < 0) = false := decide_eq_false (by omega)
  have HA3 := Lib.hid h37a
  have HF37 := Lib.hid h37m
  obtain ⟨vo, vc, hvv, _⟩ := HW7.out.txt.form
  subst hvv
  have HE7 := Lib.hid (HE6.out.below HW7.out.old)
  have HO7 := Lib.hid (HO6.out.trans (Only.of_below HW7.out.old))
  clear h37a h37 h37m hz37 hzge
  go_wp2_with (go_at_call 43; ((with_reducible refine HA3.out.mono ?_); rintro e w5 ⟨rfl, h5⟩; obtain rfl := h5.symm; simp only []))
  go_loopw [21] (fun i wx => ∃ k : Nat, k ≤ ws.length ∧ i = .int .i64 k ∧ Hid (HalfW w6 wx (.slice vo ws.length vc) FR TT ws k)) (fun i _ => ws.length - (intOf i).toNat)
  case atStart => exact ⟨0, Nat.zero_le _, rfl, by unfold Hid HalfW; rw [half_zero]; exact HW7.out⟩
  case round =>
    obtain ⟨k, hk, rfl, HH⟩ := hrel
    have hH : Wn w6 wr (.slice vo ws.length vc) (half FR TT ws k) := HH.out
    by_cases hlt : k < ws.length
    · have hld : decide ((k : Int) < (ws.length : Int)) = true := decide_eq_true (by omega)
      have hltI : (k : Int) < (ws.length : Int) := by omega
      have hk0 : (0 : Int) ≤ (k : Int) := by omega
      have b2 : IntKind.i64.wrap ((k : Int) + 1) = (k : Int) + 1 := IntWalk.i64_in _ (by omega)
      have hown := hH.own
      rw [half_len] at hown
      obtain ⟨gg, cap, ef, hg1, hg2⟩ := hown.form (by omega)
      injection ef with ef1 _ ef3
      subst ef1 ef3
      have hcell := hown.cellAt k (by omega)
      rw [List.getElem?_map, half_at FR TT hlt, Option.map_some] at hcell
      have hfz := hown.frozenAt k
      have hXs := HWZ2.out ws[k] (List.getElem_mem hlt)
      have ad := addn gg 0 k
      rw [Nat.zero_add] at ad
      obtain ⟨X, hX⟩ : ∃ X, ws[k] = X := ⟨_, rfl⟩
      rw [hX] at hcell hXs
      obtain ⟨st, hst, hstm⟩ := StemP_any FR X wr HF37.out (by omega) (by omega)
      have hml := match_len FR.data.toList X.data.toList
      cases hb : (matchF FR.data.toList X.data.toList).2 with
      | false =>
        rw [hb] at hst
        have HS := Lib.hid hst
        have HN : Hid (HalfW w6 wr (.slice (some ⟨gg, 0, none⟩) ws.length vc) FR TT ws (k + 1)) := by
          unfold Hid HalfW
          rw [half_next FR TT hlt (by rw [hX]; unfold pq; rw [hb]; rfl)]
          exact hH
        clear hst hstm hb hX hml hH hown HH
        go_wp2_with (go_at_call 45; ((with_reducible refine HS.out.mono ?_); rintro e w8 ⟨rfl, h8⟩; obtain rfl := h8.symm; simp only []))
        go_roundw
        case measure => simp [intOf]; omega
        case rel => exact ⟨k + 1, hlt, by go_num, HN.out⟩
      | true =>
        rw [hb] at hst
        have hse := hstm hb
        have hsts : st.size ≤ 20000 := by rw [← dl, hse]; rw [dl] at hml; omega
        have hfl := fun w => FillP_any TT st w (by omega) (by omega)
        rw [hse] at hfl
        obtain ⟨NW, hNW⟩ : ∃ x, mk (Lib.replace TT.data.toList [37] (matchF FR.data.toList X.data.toList).1 1) = x := ⟨_, rfl⟩
        rw [hNW] at hfl
        have hpq : pq FR TT ws[k] = NW := by rw [hX]; unfold pq; rw [hb, if_pos rfl, hNW]
        have HS := Lib.hid hst
        have HFL := Lib.hid hfl
        have HN : Hid (∀ n, HalfW w6 ((wr.drewN n).setCell ⟨gg, k, none⟩ (.string NW)) (.slice (some ⟨gg, 0, none⟩) ws.length vc) FR TT ws (k + 1)) := fun n => by
          have h9 := hH.below (drew_below wr n)
          have ho9 := h9.own
          rw [half_len] at ho9
          refine ⟨?_, h9.old.setCell (p := ⟨gg, k, none⟩) hg1 _⟩
          rw [half_len, ← half_set FR TT hlt, hpq]
          exact (ho9.stored k (.string NW)).1
        clear hst hstm hb hX hml hH hown HH hse hfl hNW hpq
        go_wp2_with (first
          | (go_at_call 45; ((with_reducible refine HS.out.mono ?_); rintro e w8 ⟨rfl, h8⟩; obtain rfl := h8.symm; simp only []))
          | (go_at_call 46; refine (HFL.out _).mono ?_; rintro e w8 ⟨rfl, n8, rfl⟩; simp only []))
        go_roundw
        case measure => simp [intOf]; omega
        case rel => exact ⟨k + 1, hlt, by go_num, HN.out _⟩
    · have HKK : Hid (k = ws.length) := (show k = ws.length by omega)
      have hld : decide ((k : Int) < (ws.length : Int)) = false := decide_eq_false (by omega)
      rw [HKK.out, half_all] at hH
      have hszq : ∀ x ∈ ws.map (pq FR TT), x.size ≤ 40000 := fun x hx => by
        obtain ⟨y, hy, rfl⟩ := List.mem_map.1 hx
        have h1 := HWZ2.out y hy
        have h2 := pq_size (fr := FR) (tt := TT) (x := y)
        omega
      have hlst := List_big (.slice vo ws.length vc) _ wr (by rw [List.length_map]; omega) (fun x hx => Nat.le_trans (hszq x hx) (by omega)) hH.txt
      have HL8 := Lib.hid hlst
      have HSZ8 := Lib.hid hszq
      have HE8 := Lib.hid (HE6.out.below hH.old)
      have HO8 := Lib.hid (HO6.out.trans (Only.of_below hH.old))
      clear hH hlst hszq HH
      go_wp2_with (go_at_call 20; refine HL8.out.mono ?_)
      rintro e w9 ⟨t9, rfl, ht9, hw9⟩
      obtain rfl := hw9.symm
      have HEND : Hid (XP eb w lv av l au P (.returned (.tuple #[.string t9, .int .i64 0])) wr) := by
        have hb := listB_len (M := 40000) _ HSZ8.out
        rw [List.length_map] at hb
        refine XP.good HE8.out HO8.out hcn (by rw [← dl, ht9]; have : 40001 * ws.length ≤ 40001 * 20001 := Nat.mul_le_mul_left _ hw3; omega) (HPV.out _ ?_)
        rw [ht9]
        by_cases hl : (listB (ws.map (pq FR TT))).length ≤ 16384
        · left
          have := swapF_any (v := v) (f := pq FR TT) (fr := FR.data.toList) (tt := TT.data.toList) (fun x _ => pq_one HF37.out) (by rw [HWS.out]; exact hl)
          rw [this, HWS.out]
        · exact .inr (by omega)
      clear ht9
      simp only []
      go_wp2_with fail
      go_ret2
      exact HEND.out
end Go.Proofs.YthbemfpoanmjcaaDoor
