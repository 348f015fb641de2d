import Derived.Test.YtafbheplaheohaaS
import Derived.StillTailTactics
namespace Go.Proofs.Ytafbheplaheohaa
open Go.RowKit
set_option linter.unusedVariables false
set_option maxRecDepth 100000 in
set_option maxHeartbeats 8000000 in
theorem brace_any {w : World} {rb a : Nat} {S : ByteArray} (q : Bool) (d : Nat) (hd40 : d ≤ 100000) (hr : Rd w rb S a) (ha : a ≤ S.size) (hs : S.size ≤ 20000)
    (HW : ∀ w1 a1, Rd w1 rb S a1 → a ≤ a1 → a1 ≤ S.size → Calls Try.prog 23 #[.pointer (some ⟨rb, 0, none⟩), .int .i64 2, .bool q, .int .i64 ((d : Int) + 1)] w1 (WordP w1 rb S (wordC q (d + 1) (S.data.toList.drop a1)))) :
    Calls Try.prog 59 #[.pointer (some ⟨rb, 0, none⟩), .bool q, .int .i64 d] w (PartP w rb S (braceF (wordC q (d + 1)) false d (S.data.toList.drop a))) := by
  obtain ⟨Q, hQ⟩ : ∃ Q, PartP w rb S (braceF (wordC q (d + 1)) false d (S.data.toList.drop a)) = Q := ⟨_, rfl⟩
  rw [hQ]
  have HQ := Lib.hid hQ
  have hx := ext_end (t := S) (a := a) ha
  obtain ⟨X, hX⟩ : ∃ X, S.extract a S.size = X := ⟨_, rfl⟩
  rw [hX] at hx
  have HRD := Lib.hid hr
  have HREST := Lib.hid (fun w1 (hb : Below w.heap.size w w1) => rest_any rb S a w1 (hr.under hb) ha hs)
  rw [hX] at HREST
  have HRESTA := Lib.hid (fun (a1 : Nat) (w1 : World) (h : Rd w1 rb S a1) (h1 : a1 ≤ S.size) => rest_any rb S a1 w1 h h1 hs)
  have hXs : X.size ≤ 20000 := by omega
  have hXa : a + X.size = S.size := by omega
  have HXD : Hid (X.data.toList = S.data.toList.drop a) := hx.1
  have hrl := blk_lt hr
  have HHP := Lib.hid (fun s w => Try.strings_HasPrefix s ⟨#[125]⟩ w)
  have HCP := Lib.hid (fun w => Try.strings_CutPrefix X ⟨#[35]⟩ w)
  have HLP := Lib.hid (fun (s : ByteArray) (h : s.size ≤ 1000000) w => longParam_any s h w)
  have HOP := Lib.hid (fun (s : ByteArray) (h : s.size ≤ 1000000) w => opOf_any s w h)
  have HWW := Lib.hid HW
  have HERR : Hid (∀ (x : Nat) (w2 : World) (e : Ending), braceF (wordC q (d + 1)) false d X.data.toList = .error x → x ≠ 0 → Only (fun k => k = rb) w w2 → (∃ a', Rd w2 rb S a' ∧ a' ≤ 20000) → e = .returned (.tuple #[zeroV, .int .i64 x]) → Q e w2) := by
    intro x w2 e h1 h2 h3 h4 h5
    rw [← HQ.out, ← HXD.out, h1, h5]
    exact ⟨rfl, h2, h3, h4⟩
  have HWIN : Hid (∀ (w2 w3 : World) (e : Ending) (a1 : Nat) (N O : ByteArray) (V : Value) (l : List Prt), Bx w w2 rb S a1 N O V → w3 = put6 w2 w.heap.size 0 ⟨3, ⟨#[]⟩, N, O, V, false⟩ → a1 ≤ S.size → Wd (put6 w2 w.heap.size 0 ⟨3, ⟨#[]⟩, N, O, V, false⟩) (fun k => w.heap.size ≤ k) V l → braceF (wordC q (d + 1)) false d X.data.toList = .ok (.mk 3 [] N.data.toList O.data.toList l false, S.data.toList.drop a1) → e = .returned (.tuple #[.agg #[.int .i64 3, .string ⟨#[]⟩, .string N, .string O, V, .bool false], .int .i64 0]) → Q e w3) := by
    intro w2 w3 e a1 N O V l h1 h2 h3 h4' h5 h6
    rw [← HQ.out, ← HXD.out, h5, h6]
    subst h2
    exact ⟨put6_only h1.only (Nat.le_refl _) _, ⟨3, ⟨#[]⟩, N, O, V, false⟩, a1, rfl, ⟨rfl, rfl, rfl, rfl, rfl⟩, h4', h1.rd.put6 (by omega) _, h3, rfl⟩
  have hrl0 : rb ≠ w.heap.size := by omega
  have hrl1 : rb ≠ w.heap.size + 1 := by omega
  have hrl2 : w.heap.size + 1 ≠ rb := by omega
  have hrl3 : w.heap.size ≠ rb := by omega
  have hrl4 : w.heap.size ≠ w.heap.size + 1 := by omega
  have hrl5 : w.heap.size + 1 ≠ w.heap.size := by omega
  clear hQ hx hr hX HW
  go_enter Try.func59, Try.ntmps59
  go_wp2_with (first
      | (go_at_call 21; (refine (HREST.out _ (((Below.refl _ _).alloc (Nat.le_refl _) _).alloc (by simp) _)).mono ?_); rintro e w1 ⟨rfl, h1⟩; have hb0 := (h1.block w.heap.size (by simp; omega)).trans (heap_two w _ _).1; have hb1 := (h1.block (w.heap.size + 1) (by simp)).trans (heap_two w _ _).2; have H1 : Hid (Below w.heap.size w w1) := (((Below.refl _ w).alloc (Nat.le_refl _) _).alloc (by simp) _).trans (h1.mono (by simp; omega)); have hrd1 := HRD.out.under H1.out; have q1 : w1.cell? ⟨rb, 1, none⟩ = some (.int .i64 a) := cell_of hrd1 1; have f1 := free_of hrd1 1; obtain ⟨c0, c1, c2, c3, c4, c5, u0, u1, u2, u3, u4, u5⟩ := box_facts hb1; have HB : Hid (Bx w w1 rb S a ⟨#[]⟩ ⟨#[]⟩ (.slice none 0 0)) := ⟨hb0, hb1, hrd1, Only.of_below H1.out⟩; clear h1 hb0 hb1 hrd1; simp only []))
  rename_i K2 hK2 K1 hK1 K0 hK0
  have TAIL : Hid (∀ (N O : ByteArray) (a2 : Nat) (AI : Int) (wx : World) (v9 v10 v11 v12 v13 v14 v15 v16 v17 v18 v19 v20 v21 v22 v23 v24 v25 v26 v27 v28 v29 v30 v31 v32 v33 v34 v35 v36 v37 v38 v39 v40 v41 v42 v43 v44 v45 v46 v47 v48 v49 v50 v51 v52 v53 v54 v55 v56 v57 v58 v59 v60 v61 v62 v63 v64 v65 v66 v67 v68 v69 v70 v71 v72 v73 v74 v75 v76 v77 : Value), AI = (a2 : Int) → a ≤ a2 → a2 ≤ S.size → Bx w wx rb S a2 N O (.slice none 0 0) → headF X.data.toList = (O.data.toList, N.data.toList, S.data.toList.drop a2) → K2 { tmps := #[.pointer (some ⟨rb, 0, none⟩), .bool q, .int .i64 d, undef, undef, undef, .pointer (some ⟨w.heap.size, 0, none⟩), .int .i64 0, .pointer (some ⟨w.heap.size + 1, 0, none⟩), v9, v10, v11, v12, v13, v14, v15, v16, v17, v18, v19, v20, v21, v22, v23, v24, v25, v26, v27, v28, v29, v30, v31, v32, v33, v34, v35, v36, v37, v38, v39, v40, v41, v42, v43, v44, v45, v46, v47, v48, v49, v50, v51, v52, v53, v54, v55, v56, v57, v58, v59, v60, v61, v62, v63, v64, v65, v66, v67, v68, v69, v70, v71, v72, v73, v74, v75, v76, v77, undef, undef, undef, undef, undef, undef, undef, undef, undef, undef, undef, undef, undef, undef, undef, undef, undef, undef, undef, undef, undef, undef, undef, undef, undef, undef, undef, undef, undef, undef, undef, undef, undef, undef, undef, undef, undef, undef, undef, undef, undef], defers := [] } wx) := by
    intro N O a2 AI wx v9 v10 v11 v12 v13 v14 v15 v16 v17 v18 v19 v20 v21 v22 v23 v24 v25 v26 v27 v28 v29 v30 v31 v32 v33 v34 v35 v36 v37 v38 v39 v40 v41 v42 v43 v44 v45 v46 v47 v48 v49 v50 v51 v52 v53 v54 v55 v56 v57 v58 v59 v60 v61 v62 v63 v64 v65 v66 v67 v68 v69 v70 v71 v72 v73 v74 v75 v76 v77 hAI haa haS hBX hHX
    have HB8 := Lib.hid hBX
    have HHX := Lib.hid hHX
    subst hAI
    clear hBX hHX hK1 hK0 HREST HCP HLP HOP
    clear q1 f1 c0 c1 c2 c3 c4 c5 u0 u1 u2 u3 u4 u5
    refine hK2 _ _ ?_
    clear hK2
    have q1 : wx.cell? ⟨rb, 1, none⟩ = some (.int .i64 (a2 : Int)) := cell_of HB8.out.rd 1
    have f1 := free_of HB8.out.rd 1
    obtain ⟨c0, c1, c2, c3, c4, c5, u0, u1, u2, u3, u4, u5⟩ := box_facts HB8.out.x
    obtain ⟨z0, z1, z2, z3, z4, z5, y0, y1, y2, y3, y4, y5⟩ := box_facts HB8.out.z
    have haS : a2 ≤ S.size := by omega
    have HR3 : Hid (∀ w1, Rd w1 rb S (a2) → Calls Try.prog 21 #[.pointer (some ⟨rb, 0, none⟩)] w1 fun e w' => e = .returned (.string (S.extract (a2) S.size)) ∧ Below w1.heap.size w1 w') := fun w1 h => HRESTA.out (a2) w1 h haS
    have hX3 := ext_end (t := S) (a := a2) haS
    obtain ⟨X3, hXX3⟩ : ∃ X3, S.extract (a2) S.size = X3 := ⟨_, rfl⟩
    rw [hXX3] at HR3 hX3
    have HP3 := Lib.hid (fun w1 => HHP.out X3 w1)
    rw [show Lib.hasPrefix X3.data.toList (⟨#[125]⟩ : ByteArray).data.toList = decide ((S.data.toList.drop (a2)).head? = some 125) by rw [← hX3.1]; exact brace_head X3] at HP3
    clear hXX3 hX3
    by_cases hN0 : N.data.toList = []
    · have hNE := isE_of hN0
      go_wp2_with fail
      try simp +zetaDelta only [Exit.noGoto_ret]
      refine bodyPost_ret (v := .tuple #[zeroV, .int .i64 2]) ?_ rfl ?_
      · simp [results, Try.results59, go_sem, z0, z1, z2, z3, z4, z5]
        rfl
      · exact HERR.out 2 _ _ (brace_1 HHX.out hN0) (by decide) (put6_only HB8.out.only (Nat.le_refl _) pt0) ⟨a2, HB8.out.rd.put6 (by omega) pt0, by omega⟩ rfl
    have hNE := isE_ne hN0
    by_cases hO7 : O.data.toList = [76]
    · have hO0 : O.data.toList ≠ [] := by rw [hO7]; decide
      have hOE := isE_ne hO0
      have hLL : (O.toList == [76]) = true := by rw [Lib.toList_data]; simpa using hO7
      obtain ⟨z, hzz⟩ : ∃ z, decide ((S.data.toList.drop (a2)).head? = some 125) = z := ⟨_, rfl⟩
      rw [hzz] at HP3
      have HZ : Hid (z = decide ((S.data.toList.drop (a2)).head? = some 125)) := hzz.symm
      clear hzz
      cases z with
      | false =>
        have hz : (S.data.toList.drop (a2)).head? ≠ some 125 := by simpa using HZ.out.symm
        clear HZ
        go_wp2_with (first | (go_at_call 21; refine (HR3.out _ HB8.out.rd).mono ?_; rintro e w9 ⟨rfl, h1⟩; have HB9 : Hid (Bx w w9 rb S (a2) N O (.slice none 0 0)) := HB8.out.under h1; have HU9 := Lib.hid h1; clear h1 q1 f1 c0 c1 c2 c3 c4 c5 u0 u1 u2 u3 u4 u5 z0 z1 z2 z3 z4 z5 y0 y1 y2 y3 y4 y5; have q1 : w9.cell? ⟨rb, 1, none⟩ = some (.int .i64 (a2 : Int)) := cell_of HB9.out.rd 1; have f1 := free_of HB9.out.rd 1; obtain ⟨c0, c1, c2, c3, c4, c5, u0, u1, u2, u3, u4, u5⟩ := box_facts HB9.out.x; obtain ⟨z0, z1, z2, z3, z4, z5, y0, y1, y2, y3, y4, y5⟩ := box_facts HB9.out.z; simp only []) | (go_at_call 31; refine (HP3.out _).mono ?_; rintro e w2 ⟨rfl, h2⟩; obtain rfl := h2.symm; simp only []))
        try simp +zetaDelta only [Exit.noGoto_ret]
        refine bodyPost_ret (v := .tuple #[zeroV, .int .i64 2]) ?_ rfl ?_
        · simp [results, Try.results59, go_sem, z0, z1, z2, z3, z4, z5]
          rfl
        · exact HERR.out 2 _ _ (brace_2 HHX.out hN0 (.inr hO7) hz) (by decide) (put6_only HB9.out.only (Nat.le_refl _) pt0) ⟨a2, HB9.out.rd.put6 (by omega) pt0, by omega⟩ rfl
      | true =>
        have hz : (S.data.toList.drop (a2)).head? = some 125 := by simpa using HZ.out.symm
        have hlt : a2 < S.size := by
          by_cases h : a2 < S.size
          · exact h
          · rw [List.drop_of_length_le (by rw [dl]; omega)] at hz; cases hz
        have hw3 : IntKind.i64.wrap ((a2 : Int) + 1) = (a2 : Int) + 1 := IntWalk.i64_in _ (by omega)
        clear HZ
        go_wp2_with (first | (go_at_call 21; refine (HR3.out _ HB8.out.rd).mono ?_; rintro e w9 ⟨rfl, h1⟩; have HB9 : Hid (Bx w w9 rb S (a2) N O (.slice none 0 0)) := HB8.out.under h1; have HU9 := Lib.hid h1; clear h1 q1 f1 c0 c1 c2 c3 c4 c5 u0 u1 u2 u3 u4 u5 z0 z1 z2 z3 z4 z5 y0 y1 y2 y3 y4 y5; have q1 : w9.cell? ⟨rb, 1, none⟩ = some (.int .i64 (a2 : Int)) := cell_of HB9.out.rd 1; have f1 := free_of HB9.out.rd 1; obtain ⟨c0, c1, c2, c3, c4, c5, u0, u1, u2, u3, u4, u5⟩ := box_facts HB9.out.x; obtain ⟨z0, z1, z2, z3, z4, z5, y0, y1, y2, y3, y4, y5⟩ := box_facts HB9.out.z; simp only []) | (go_at_call 31; refine (HP3.out _).mono ?_; rintro e w2 ⟨rfl, h2⟩; obtain rfl := h2.symm; simp only []))
        try simp +zetaDelta only [Exit.noGoto_ret]
        have HB10 : Hid (Bx w (w9.setCell ⟨rb, 1, none⟩ (.int .i64 ((a2 : Int) + 1))) rb S (a2 + 1) N O (.slice none 0 0)) := HB9.out.at hrl (a2 + 1) (by omega)
        refine bodyPost_ret (v := .tuple #[.agg #[.int .i64 3, .string ⟨#[]⟩, .string N, .string O, (.slice none 0 0), .bool false], .int .i64 0]) ?_ rfl ?_
        · simp [results, Try.results59, go_sem, z0, z1, z2, z3, z4, z5]
        · refine HWIN.out _ _ _ (a2 + 1) N O (.slice none 0 0) [] HB10.out rfl (by omega) ?_ ?_ rfl
          · exact .nil 0
          · rw [brace_3 HHX.out hN0 (.inr hO7) hz, List.drop_drop]
    have hOL := hO7
    by_cases hO0 : O.data.toList = []
    · have hOE := isE_of hO0
      obtain ⟨z, hzz⟩ : ∃ z, decide ((S.data.toList.drop (a2)).head? = some 125) = z := ⟨_, rfl⟩
      rw [hzz] at HP3
      have HZ : Hid (z = decide ((S.data.toList.drop (a2)).head? = some 125)) := hzz.symm
      clear hzz
      cases z with
      | false =>
        have hz : (S.data.toList.drop (a2)).head? ≠ some 125 := by simpa using HZ.out.symm
        clear HZ
        go_wp2_with (first | (go_at_call 21; refine (HR3.out _ HB8.out.rd).mono ?_; rintro e w9 ⟨rfl, h1⟩; have HB9 : Hid (Bx w w9 rb S (a2) N O (.slice none 0 0)) := HB8.out.under h1; have HU9 := Lib.hid h1; clear h1 q1 f1 c0 c1 c2 c3 c4 c5 u0 u1 u2 u3 u4 u5 z0 z1 z2 z3 z4 z5 y0 y1 y2 y3 y4 y5; have q1 : w9.cell? ⟨rb, 1, none⟩ = some (.int .i64 (a2 : Int)) := cell_of HB9.out.rd 1; have f1 := free_of HB9.out.rd 1; obtain ⟨c0, c1, c2, c3, c4, c5, u0, u1, u2, u3, u4, u5⟩ := box_facts HB9.out.x; obtain ⟨z0, z1, z2, z3, z4, z5, y0, y1, y2, y3, y4, y5⟩ := box_facts HB9.out.z; simp only []) | (go_at_call 31; refine (HP3.out _).mono ?_; rintro e w2 ⟨rfl, h2⟩; obtain rfl := h2.symm; simp only []))
        try simp +zetaDelta only [Exit.noGoto_ret]
        refine bodyPost_ret (v := .tuple #[zeroV, .int .i64 2]) ?_ rfl ?_
        · simp [results, Try.results59, go_sem, z0, z1, z2, z3, z4, z5]
          rfl
        · exact HERR.out 2 _ _ (brace_2 HHX.out hN0 (.inl hO0) hz) (by decide) (put6_only HB9.out.only (Nat.le_refl _) pt0) ⟨a2, HB9.out.rd.put6 (by omega) pt0, by omega⟩ rfl
      | true =>
        have hz : (S.data.toList.drop (a2)).head? = some 125 := by simpa using HZ.out.symm
        have hlt : a2 < S.size := by
          by_cases h : a2 < S.size
          · exact h
          · rw [List.drop_of_length_le (by rw [dl]; omega)] at hz; cases hz
        have hw3 : IntKind.i64.wrap ((a2 : Int) + 1) = (a2 : Int) + 1 := IntWalk.i64_in _ (by omega)
        clear HZ
        go_wp2_with (first | (go_at_call 21; refine (HR3.out _ HB8.out.rd).mono ?_; rintro e w9 ⟨rfl, h1⟩; have HB9 : Hid (Bx w w9 rb S (a2) N O (.slice none 0 0)) := HB8.out.under h1; have HU9 := Lib.hid h1; clear h1 q1 f1 c0 c1 c2 c3 c4 c5 u0 u1 u2 u3 u4 u5 z0 z1 z2 z3 z4 z5 y0 y1 y2 y3 y4 y5; have q1 : w9.cell? ⟨rb, 1, none⟩ = some (.int .i64 (a2 : Int)) := cell_of HB9.out.rd 1; have f1 := free_of HB9.out.rd 1; obtain ⟨c0, c1, c2, c3, c4, c5, u0, u1, u2, u3, u4, u5⟩ := box_facts HB9.out.x; obtain ⟨z0, z1, z2, z3, z4, z5, y0, y1, y2, y3, y4, y5⟩ := box_facts HB9.out.z; simp only []) | (go_at_call 31; refine (HP3.out _).mono ?_; rintro e w2 ⟨rfl, h2⟩; obtain rfl := h2.symm; simp only []))
        try simp +zetaDelta only [Exit.noGoto_ret]
        have HB10 : Hid (Bx w (w9.setCell ⟨rb, 1, none⟩ (.int .i64 ((a2 : Int) + 1))) rb S (a2 + 1) N O (.slice none 0 0)) := HB9.out.at hrl (a2 + 1) (by omega)
        refine bodyPost_ret (v := .tuple #[.agg #[.int .i64 3, .string ⟨#[]⟩, .string N, .string O, (.slice none 0 0), .bool false], .int .i64 0]) ?_ rfl ?_
        · simp [results, Try.results59, go_sem, z0, z1, z2, z3, z4, z5]
        · refine HWIN.out _ _ _ (a2 + 1) N O (.slice none 0 0) [] HB10.out rfl (by omega) ?_ ?_ rfl
          · exact .nil 0
          · rw [brace_3 HHX.out hN0 (.inl hO0) hz, List.drop_drop]
    have hOE := isE_ne hO0
    have hoo : ¬ (O.data.toList = [] ∨ O.data.toList = [76]) := fun h => h.elim hO0 hOL
    have hLL : (O.toList == [76]) = false := by
      rw [Lib.toList_data]; simpa using hOL
    by_cases hd4 : d = 40
    · have hdI : ((d : Int) == 40) = true := by rw [hd4]; rfl
      go_wp2_with fail
      try simp +zetaDelta only [Exit.noGoto_ret]
      refine bodyPost_ret (v := .tuple #[zeroV, .int .i64 3]) ?_ rfl ?_
      · simp [results, Try.results59, go_sem, z0, z1, z2, z3, z4, z5]
        rfl
      · exact HERR.out 3 _ _ (brace_4 HHX.out hN0 hoo hd4) (by decide) (put6_only HB8.out.only (Nat.le_refl _) pt0) ⟨a2, HB8.out.rd.put6 (by omega) pt0, by omega⟩ rfl
    have hdI : ((d : Int) == 40) = false := by simp; omega
    have hdw : IntKind.i64.wrap ((d : Int) + 1) = (d : Int) + 1 := IntWalk.i64_in _ (by omega)
    have HWC := Lib.hid (HWW.out _ (a2) HB8.out.rd (by omega) haS)
    cases hW : wordC q (d + 1) (S.data.toList.drop (a2)) with
    | error x =>
      rw [hW] at HWC
      unfold WordP at HWC
      simp only at HWC
      have HBF : Hid (braceF (wordC q (d + 1)) false d X.data.toList = .error x) := brace_5 HHX.out hN0 hoo hd4 hW
      clear hW
      go_wp2_with (go_at_call 23; refine HWC.out.mono ?_; rintro e w9 ⟨rfl, hx0, ho, a3, hrd, hle⟩; have hxI : ((x : Int) == 0) = false := beq_eq_false_iff_ne.2 (by omega); have HX0 := Lib.hid hx0; have HB9 : Hid (Bx w w9 rb S a3 N O (.slice none 0 0)) := HB8.out.only' hrl ho hrd; clear ho hrd hx0 q1 f1 c0 c1 c2 c3 c4 c5 u0 u1 u2 u3 u4 u5 z0 z1 z2 z3 z4 z5 y0 y1 y2 y3 y4 y5; obtain ⟨c0, c1, c2, c3, c4, c5, u0, u1, u2, u3, u4, u5⟩ := box_facts HB9.out.x; obtain ⟨z0, z1, z2, z3, z4, z5, y0, y1, y2, y3, y4, y5⟩ := box_facts HB9.out.z; simp only [])
      have HB10 : Hid (Bx w (w9.setCell ⟨w.heap.size + 1, 4, none⟩ (.slice none 0 0)) rb S a3 N O (.slice none 0 0)) := HB9.out.word hrl _
      try simp +zetaDelta only [Exit.noGoto_ret]
      refine bodyPost_ret (v := .tuple #[zeroV, .int .i64 x]) ?_ rfl ?_
      · simp [results, Try.results59, go_sem, z0, z1, z2, z3, z4, z5]
        rfl
      · exact HERR.out x _ _ (HBF.out) (HX0.out) (put6_only HB10.out.only (Nat.le_refl _) pt0) ⟨a3, HB10.out.rd.put6 (by omega) pt0, by omega⟩ rfl
    | ok lt =>
      obtain ⟨l, t⟩ := lt
      rw [hW] at HWC
      unfold WordP at HWC
      simp only at HWC
      have HN8 := Lib.hid (blk_lt HB8.out.x)
      go_wp2_with (go_at_call 23; refine HWC.out.mono ?_; rintro e w9 ⟨ho, v, a3, rfl, hwd, hrd, ha3, hdr⟩; obtain ⟨va, vc, rfl⟩ := hwd.form; have HWD9 := Lib.hid hwd; have HDR := Lib.hid hdr; have HB9 : Hid (Bx w w9 rb S a3 N O (.slice none 0 0)) := HB8.out.only' hrl ho hrd; clear ho hrd hwd hdr q1 f1 c0 c1 c2 c3 c4 c5 u0 u1 u2 u3 u4 u5 z0 z1 z2 z3 z4 z5 y0 y1 y2 y3 y4 y5; have q1 : w9.cell? ⟨rb, 1, none⟩ = some (.int .i64 a3) := cell_of HB9.out.rd 1; have f1 := free_of HB9.out.rd 1; obtain ⟨c0, c1, c2, c3, c4, c5, u0, u1, u2, u3, u4, u5⟩ := box_facts HB9.out.x; obtain ⟨z0, z1, z2, z3, z4, z5, y0, y1, y2, y3, y4, y5⟩ := box_facts HB9.out.z; simp only [])
      have HB10 : Hid (Bx w (w9.setCell ⟨w.heap.size + 1, 4, none⟩ (.slice va l.length vc)) rb S a3 N O (.slice va l.length vc)) := HB9.out.word hrl _
      have HR3 : Hid (∀ w1, Rd w1 rb S a3 → Calls Try.prog 21 #[.pointer (some ⟨rb, 0, none⟩)] w1 fun e w' => e = .returned (.string (S.extract a3 S.size)) ∧ Below w1.heap.size w1 w') := fun w1 h => HRESTA.out a3 w1 h ha3
      have hX3 := ext_end (t := S) (a := a3) ha3
      obtain ⟨X3, hXX3⟩ : ∃ X3, S.extract a3 S.size = X3 := ⟨_, rfl⟩
      rw [hXX3] at HR3 hX3
      have HP3 := Lib.hid (fun w1 => HHP.out X3 w1)
      rw [show Lib.hasPrefix X3.data.toList (⟨#[125]⟩ : ByteArray).data.toList = decide ((S.data.toList.drop a3).head? = some 125) by rw [← hX3.1]; exact brace_head X3] at HP3
      clear hXX3 hX3
      obtain ⟨z, hzz⟩ : ∃ z, decide ((S.data.toList.drop a3).head? = some 125) = z := ⟨_, rfl⟩
      rw [hzz] at HP3
      have HZ : Hid (z = decide ((S.data.toList.drop a3).head? = some 125)) := hzz.symm
      have HW := Lib.hid hW
      rw [← HDR.out] at HW
      clear hzz hW
      cases z with
      | false =>
        have hz : (S.data.toList.drop (a3)).head? ≠ some 125 := by simpa using HZ.out.symm
        clear HZ
        go_wp2_with (first | (go_at_call 21; refine (HR3.out _ HB10.out.rd).mono ?_; rintro e w11 ⟨rfl, h1⟩; have HB9 : Hid (Bx w w11 rb S (a3) N O (.slice va l.length vc)) := HB10.out.under h1; have HU9 := Lib.hid h1; clear h1 q1 f1 c0 c1 c2 c3 c4 c5 u0 u1 u2 u3 u4 u5 z0 z1 z2 z3 z4 z5 y0 y1 y2 y3 y4 y5; have q1 : w11.cell? ⟨rb, 1, none⟩ = some (.int .i64 (a3 : Int)) := cell_of HB9.out.rd 1; have f1 := free_of HB9.out.rd 1; obtain ⟨c0, c1, c2, c3, c4, c5, u0, u1, u2, u3, u4, u5⟩ := box_facts HB9.out.x; obtain ⟨z0, z1, z2, z3, z4, z5, y0, y1, y2, y3, y4, y5⟩ := box_facts HB9.out.z; simp only []) | (go_at_call 31; refine (HP3.out _).mono ?_; rintro e w2 ⟨rfl, h2⟩; obtain rfl := h2.symm; simp only []))
        try simp +zetaDelta only [Exit.noGoto_ret]
        refine bodyPost_ret (v := .tuple #[zeroV, .int .i64 2]) ?_ rfl ?_
        · simp [results, Try.results59, go_sem, z0, z1, z2, z3, z4, z5]
          rfl
        · exact HERR.out 2 _ _ (brace_6 HHX.out hN0 hoo hd4 HW.out hz) (by decide) (put6_only HB9.out.only (Nat.le_refl _) pt0) ⟨a3, HB9.out.rd.put6 (by omega) pt0, by omega⟩ rfl
      | true =>
        have hz : (S.data.toList.drop (a3)).head? = some 125 := by simpa using HZ.out.symm
        have hlt : a3 < S.size := by
          by_cases h : a3 < S.size
          · exact h
          · rw [List.drop_of_length_le (by rw [dl]; omega)] at hz; cases hz
        have hw3 : IntKind.i64.wrap ((a3 : Int) + 1) = (a3 : Int) + 1 := IntWalk.i64_in _ (by omega)
        clear HZ
        go_wp2_with (first | (go_at_call 21; refine (HR3.out _ HB10.out.rd).mono ?_; rintro e w11 ⟨rfl, h1⟩; have HB9 : Hid (Bx w w11 rb S (a3) N O (.slice va l.length vc)) := HB10.out.under h1; have HU9 := Lib.hid h1; clear h1 q1 f1 c0 c1 c2 c3 c4 c5 u0 u1 u2 u3 u4 u5 z0 z1 z2 z3 z4 z5 y0 y1 y2 y3 y4 y5; have q1 : w11.cell? ⟨rb, 1, none⟩ = some (.int .i64 (a3 : Int)) := cell_of HB9.out.rd 1; have f1 := free_of HB9.out.rd 1; obtain ⟨c0, c1, c2, c3, c4, c5, u0, u1, u2, u3, u4, u5⟩ := box_facts HB9.out.x; obtain ⟨z0, z1, z2, z3, z4, z5, y0, y1, y2, y3, y4, y5⟩ := box_facts HB9.out.z; simp only []) | (go_at_call 31; refine (HP3.out _).mono ?_; rintro e w2 ⟨rfl, h2⟩; obtain rfl := h2.symm; simp only []))
        try simp +zetaDelta only [Exit.noGoto_ret]
        have HB10 : Hid (Bx w (w11.setCell ⟨rb, 1, none⟩ (.int .i64 ((a3 : Int) + 1))) rb S (a3 + 1) N O (.slice va l.length vc)) := HB9.out.at hrl (a3 + 1) (by omega)
        refine bodyPost_ret (v := .tuple #[.agg #[.int .i64 3, .string ⟨#[]⟩, .string N, .string O, (.slice va l.length vc), .bool false], .int .i64 0]) ?_ rfl ?_
        · simp [results, Try.results59, go_sem, z0, z1, z2, z3, z4, z5]
        · refine HWIN.out _ _ _ (a3 + 1) N O (.slice va l.length vc) l HB10.out rfl (by omega) ?_ ?_ rfl
          · exact wd_close HWD9.out HN8.out hrl HU9.out
          · rw [brace_7 HHX.out hN0 hoo hd4 HW.out hz, List.drop_drop]
  clear hK2
  rcases trim_hash X with ⟨m, hm1, hm2, hm3⟩ | ⟨hm1, hm3⟩
  · by_cases hc : m.data.toList.head? = some 125
    · have hway : ∃ r, S.data.toList.drop a = 35 :: r ∧ r.head? = some 125 := ⟨m.data.toList, by rw [← HXD.out, hm1], hc⟩
      clear hc
      have hhp : Lib.hasPrefix X.data.toList (⟨#[35]⟩ : ByteArray).data.toList = true := hm3
      rw [hhp] at HCP
      rw [show (⟨(Lib.trimPrefix X.data.toList (⟨#[35]⟩ : ByteArray).data.toList).toArray⟩ : ByteArray) = m from hm2] at HCP
      have hmd : m.data.toList = (S.data.toList.drop a).tail := by rw [← HXD.out, hm1]; rfl
      have hms : m.size ≤ 20000 := by have := congrArg List.length hm1; rw [dl] at this; simp at this; omega
      obtain ⟨r, hr1, hr2⟩ := hway
      have hmr : m.data.toList = r := by rw [hmd, hr1]; rfl
      have HPM0 := Lib.hid (fun w1 => HHP.out m w1)
      rw [show Lib.hasPrefix m.data.toList (⟨#[125]⟩ : ByteArray).data.toList = decide (m.data.toList.head? = some 125) from brace_head m, hmr] at HPM0
      rw [show decide (r.head? = some 125) = true from decide_eq_true hr2] at HPM0
      have HHB : Hid (headF X.data.toList = (opOf (X.data.toList.drop (longParam X.data.toList)), X.data.toList.take (longParam X.data.toList), (X.data.toList.drop (longParam X.data.toList)).drop (opOf (X.data.toList.drop (longParam X.data.toList))).length)) := headF_b (by rw [HXD.out, hr1]; rintro ⟨_, h1, h2⟩; exact h1 hr2)
      clear hm1 hm2 hm3 hhp hmd hmr hr1 hr2
      have HLX := Lib.hid (fun w => HLP.out X (by omega) w)
      have hln := longParam_le X.data.toList
      obtain ⟨ln, hlnn⟩ : ∃ ln, longParam X.data.toList = ln := ⟨_, rfl⟩
      rw [hlnn] at HLX HHB hln
      rw [dl] at hln
      have hlI : (ln : Int) ≤ (X.size : Int) := by omega
      have hl0 : (0 : Int) ≤ (ln : Int) := by omega
      have hN := ext_dt (t := X) (a := 0) (b := ln) (Nat.zero_le _) hln
      rw [List.drop_zero, Nat.sub_zero] at hN
      obtain ⟨N, hNN⟩ : ∃ N, X.extract 0 ln = N := ⟨_, rfl⟩
      rw [hNN] at hN
      have hw1 : IntKind.i64.wrap ((a : Int) + (ln : Int)) = (a : Int) + (ln : Int) := IntWalk.i64_in _ (by omega)
      have hNs := hN.2
      have hNsI : (N.size : Int) = (ln : Int) := by omega
      have hX2 := ext_end (t := S) (a := a + ln) (by omega)
      obtain ⟨X2, hXX2⟩ : ∃ X2, S.extract (a + ln) S.size = X2 := ⟨_, rfl⟩
      rw [hXX2] at hX2
      have HR2 : Hid (∀ w1, Rd w1 rb S (a + ln) → Calls Try.prog 21 #[.pointer (some ⟨rb, 0, none⟩)] w1 fun e w' => e = .returned (.string X2) ∧ Below w1.heap.size w1 w') := fun w1 h => by
        have := HRESTA.out (a + ln) w1 h (by omega)
        rwa [hXX2] at this
      have hXd2 : X.data.toList.drop ln = X2.data.toList := by rw [hX2.1, HXD.out, List.drop_drop]
      rw [hXd2, ← hN.1] at HHB
      obtain ⟨O, hO⟩ : ∃ O : ByteArray, O.data.toList = opOf X2.data.toList := ⟨⟨(opOf X2.data.toList).toArray⟩, rfl⟩
      have hX2s := hX2.2
      have HO2 : Hid (∀ w1, Calls Try.prog 75 #[.string X2] w1 fun e w' => e = .returned (.string O) ∧ w' = w1) := fun w1 => (HOP.out X2 (by omega) w1).mono (by
        rintro e w' ⟨⟨t, h1, rfl⟩, h2⟩
        rw [ba_ext (h1.trans hO.symm)]
        exact ⟨rfl, h2⟩)
      rw [← hO] at HHB
      have hOs : O.data.toList.length ≤ X2.data.toList.length := by
        rw [hO]; unfold opOf; split
        · rw [List.length_take]; omega
        · split
          · rw [List.length_take]; omega
          · simp
      rw [dl, dl] at hOs
      rw [dl] at HHB
      have hOL : O.data.toList ≠ [76] := by rw [hO]; exact opOf_L _
      have HRR : Hid (X2.data.toList.drop O.size = S.data.toList.drop (a + ln + O.size)) := by rw [Hid, hX2.1, List.drop_drop]
      have hw2 : IntKind.i64.wrap ((a : Int) + (ln : Int) + (O.size : Int)) = (a : Int) + (ln : Int) + (O.size : Int) := IntWalk.i64_in _ (by omega)
      have haO : a + ln + O.size ≤ S.size := by omega
      clear hN hlnn hO hX2 hXX2 hXd2
      go_wp2_with (first
        | (go_at_call 31; refine (HPM0.out _).mono ?_; rintro e w2 ⟨rfl, h2⟩; obtain rfl := h2.symm; simp only [])
        | (go_at_call 74; refine (HCP.out _).mono ?_; rintro e w2 ⟨rfl, h2⟩; obtain rfl := h2.symm; simp only [])
        | (go_at_call 76; refine (HLX.out _).mono ?_; rintro e w2 ⟨rfl, h2⟩; obtain rfl := h2.symm; simp only []))
      have HB2 : Hid (Bx w (w1.setCell ⟨w.heap.size + 1, 2, none⟩ (.string N)) rb S a N ⟨#[]⟩ (.slice none 0 0)) := HB.out.name hrl N
      generalize hw3 : w1.setCell ⟨w.heap.size + 1, 2, none⟩ (.string N) = w3 at HB2 ⊢
      clear hw3
      clear q1 f1 c0 c1 c2 c3 c4 c5 u0 u1 u2 u3 u4 u5
      have q1 : w3.cell? ⟨rb, 1, none⟩ = some (.int .i64 a) := cell_of HB2.out.rd 1
      have f1 := free_of HB2.out.rd 1
      obtain ⟨c0, c1, c2, c3, c4, c5, u0, u1, u2, u3, u4, u5⟩ := box_facts HB2.out.x
      go_still_tail 10, (by kernel_rfl)
      change wpList _ _ _ _ _ w3.drew
      have HB3 := Lib.hid HB2.out.drew
      generalize hw4 : w3.drew = w4 at HB3 ⊢
      clear hw4
      clear q1 f1 c0 c1 c2 c3 c4 c5 u0 u1 u2 u3 u4 u5
      have q1 : w4.cell? ⟨rb, 1, none⟩ = some (.int .i64 a) := cell_of HB3.out.rd 1
      have f1 := free_of HB3.out.rd 1
      obtain ⟨c0, c1, c2, c3, c4, c5, u0, u1, u2, u3, u4, u5⟩ := box_facts HB3.out.x
      have HB4 : Hid (Bx w (w4.setCell ⟨rb, 1, none⟩ (.int .i64 ((a : Int) + (ln : Int)))) rb S (a + ln) N ⟨#[]⟩ (.slice none 0 0)) := HB3.out.at hrl (a + ln) (by omega)
      go_wp2_with (first
        | (go_at_call 21; refine (HR2.out _ HB4.out.rd).mono ?_; rintro e w5 ⟨rfl, h1⟩; have HB5 : Hid (Bx w w5 rb S (a + ln) N ⟨#[]⟩ (.slice none 0 0)) := HB4.out.under h1; clear h1; have q1 : w5.cell? ⟨rb, 1, none⟩ = some (.int .i64 ((a : Int) + (ln : Int))) := cell_of HB5.out.rd 1; have f1 := free_of HB5.out.rd 1; obtain ⟨c0, c1, c2, c3, c4, c5, u0, u1, u2, u3, u4, u5⟩ := box_facts HB5.out.x; simp only [])
        | (go_at_call 75; refine (HO2.out _).mono ?_; rintro e w2 ⟨rfl, h2⟩; obtain rfl := h2.symm; simp only []))
      have HB6 : Hid (Bx w (w5.setCell ⟨w.heap.size + 1, 3, none⟩ (.string O)) rb S (a + ln) N O (.slice none 0 0)) := HB5.out.op hrl O
      generalize hw6 : w5.setCell ⟨w.heap.size + 1, 3, none⟩ (.string O) = w6 at HB6 ⊢
      clear hw6
      clear q1 f1 c0 c1 c2 c3 c4 c5 u0 u1 u2 u3 u4 u5
      have q1 : w6.cell? ⟨rb, 1, none⟩ = some (.int .i64 ((a : Int) + (ln : Int))) := cell_of HB6.out.rd 1
      have f1 := free_of HB6.out.rd 1
      obtain ⟨c0, c1, c2, c3, c4, c5, u0, u1, u2, u3, u4, u5⟩ := box_facts HB6.out.x
      go_still_tail 10, (by kernel_rfl)
      change wpList _ _ _ _ _ w6.drew
      have HB7 := Lib.hid HB6.out.drew
      generalize hw7 : w6.drew = w7 at HB7 ⊢
      clear hw7
      clear q1 f1 c0 c1 c2 c3 c4 c5 u0 u1 u2 u3 u4 u5
      have q1 : w7.cell? ⟨rb, 1, none⟩ = some (.int .i64 ((a : Int) + (ln : Int))) := cell_of HB7.out.rd 1
      have f1 := free_of HB7.out.rd 1
      obtain ⟨c0, c1, c2, c3, c4, c5, u0, u1, u2, u3, u4, u5⟩ := box_facts HB7.out.x
      have HB8 : Hid (Bx w (w7.setCell ⟨rb, 1, none⟩ (.int .i64 ((a : Int) + (ln : Int) + (O.size : Int)))) rb S (a + ln + O.size) N O (.slice none 0 0)) := HB7.out.at hrl (a + ln + O.size) (by omega)
      have HHX : Hid (headF X.data.toList = (O.data.toList, N.data.toList, S.data.toList.drop (a + ln + O.size))) := by rw [Hid, HHB.out, HRR.out]
      go_wp2_with fail
      exact TAIL.out N O (a + ln + O.size) _ _ _ _ _ _ _ _ _ _ _ _ _ _ _ _ _ _ _ _ _ _ _ _ _ _ _ _ _ _ _ _ _ _ _ _ _ _ _ _ _ _ _ _ _ _ _ _ _ _ _ _ _ _ _ _ _ _ _ _ _ _ _ _ _ _ _ _ _ _ _ rfl (by omega) (by omega) HB8.out HHX.out
    · by_cases ho : opOf m.data.toList = []
      · have hway : ∃ r, S.data.toList.drop a = 35 :: r ∧ r.head? ≠ some 125 ∧ opOf r = [] := ⟨m.data.toList, by rw [← HXD.out, hm1], hc, ho⟩
        clear hc ho
        have hhp : Lib.hasPrefix X.data.toList (⟨#[35]⟩ : ByteArray).data.toList = true := hm3
        rw [hhp] at HCP
        rw [show (⟨(Lib.trimPrefix X.data.toList (⟨#[35]⟩ : ByteArray).data.toList).toArray⟩ : ByteArray) = m from hm2] at HCP
        have hms : X.size = m.size + 1 := by have := congrArg List.length hm1; rw [dl] at this; simp at this; exact this
        have hmd : m.data.toList = S.data.toList.drop (a + 1) := by
          rw [← List.drop_drop, ← HXD.out, hm1]; rfl
        obtain ⟨r, hr1, hr2, hr3⟩ := hway
        have hmr : m.data.toList = r := by
          rw [← HXD.out, hm1] at hr1; injection hr1
        have HPM0 := Lib.hid (fun w1 => HHP.out m w1)
        rw [show Lib.hasPrefix m.data.toList (⟨#[125]⟩ : ByteArray).data.toList = decide (m.data.toList.head? = some 125) from brace_head m, hmr, show decide (r.head? = some 125) = false from decide_eq_false hr2] at HPM0
        have HO1 : Hid (∀ w1, Calls Try.prog 75 #[.string m] w1 fun e w' => e = .returned (.string ⟨#[]⟩) ∧ w' = w1) := fun w1 => (HOP.out m (by omega) w1).mono (by
          rintro e w' ⟨⟨t, h1, rfl⟩, h2⟩
          rw [hmr, hr3] at h1
          rw [show t = ⟨#[]⟩ from ba_ext h1]
          exact ⟨rfl, h2⟩)
        have HHB : Hid (headF X.data.toList = ([76], m.data.toList.take (longParam m.data.toList), m.data.toList.drop (longParam m.data.toList))) := by
          rw [Hid, hm1]; exact headF_a (by rw [hmr]; exact hr2) (by rw [hmr]; exact hr3)
        have HMD := Lib.hid hmd
        clear hm1 hm2 hm3 hhp hmd hmr hr1 hr2 hr3
        have HLX := Lib.hid (fun w => HLP.out m (by omega) w)
        have hln := longParam_le m.data.toList
        obtain ⟨ln, hlnn⟩ : ∃ ln, longParam m.data.toList = ln := ⟨_, rfl⟩
        rw [hlnn] at HLX HHB hln
        rw [dl] at hln
        have hlI : (ln : Int) ≤ (m.size : Int) := by omega
        have hl0 : (0 : Int) ≤ (ln : Int) := by omega
        have hN := ext_dt (t := m) (a := 0) (b := ln) (Nat.zero_le _) hln
        rw [List.drop_zero, Nat.sub_zero] at hN
        obtain ⟨N, hNN⟩ : ∃ N, m.extract 0 ln = N := ⟨_, rfl⟩
        rw [hNN] at hN
        rw [← hN.1] at HHB
        have hNs := hN.2
        have hNsI : (N.size : Int) = (ln : Int) := by omega
        have hw0 : IntKind.i64.wrap (1 + (ln : Int)) = 1 + (ln : Int) := IntWalk.i64_in _ (by omega)
        have hw1 : IntKind.i64.wrap ((a : Int) + (1 + (ln : Int))) = (a : Int) + (1 + (ln : Int)) := IntWalk.i64_in _ (by omega)
        clear hN hlnn
        go_wp2_with (first
          | (go_at_call 74; refine (HCP.out _).mono ?_; rintro e w2 ⟨rfl, h2⟩; obtain rfl := h2.symm; simp only [])
          | (go_at_call 31; refine (HPM0.out _).mono ?_; rintro e w2 ⟨rfl, h2⟩; obtain rfl := h2.symm; simp only [])
          | (go_at_call 75; refine (HO1.out _).mono ?_; rintro e w2 ⟨rfl, h2⟩; obtain rfl := h2.symm; simp only [])
          | (go_at_call 76; refine (HLX.out _).mono ?_; rintro e w2 ⟨rfl, h2⟩; obtain rfl := h2.symm; simp only []))
        have HB2 : Hid (Bx w ((w1.setCell ⟨w.heap.size + 1, 3, none⟩ (.string ⟨#[76]⟩)).setCell ⟨w.heap.size + 1, 2, none⟩ (.string N)) rb S a N ⟨#[76]⟩ (.slice none 0 0)) := (HB.out.op hrl ⟨#[76]⟩).name hrl N
        generalize hw3 : (w1.setCell ⟨w.heap.size + 1, 3, none⟩ (.string ⟨#[76]⟩)).setCell ⟨w.heap.size + 1, 2, none⟩ (.string N) = w3 at HB2 ⊢
        clear hw3
        clear q1 f1 c0 c1 c2 c3 c4 c5 u0 u1 u2 u3 u4 u5
        have q1 : w3.cell? ⟨rb, 1, none⟩ = some (.int .i64 a) := cell_of HB2.out.rd 1
        have f1 := free_of HB2.out.rd 1
        obtain ⟨c0, c1, c2, c3, c4, c5, u0, u1, u2, u3, u4, u5⟩ := box_facts HB2.out.x
        go_still_tail 11, (by kernel_rfl)
        change wpList _ _ _ _ _ w3.drew
        have HB3 := Lib.hid HB2.out.drew
        generalize hw4 : w3.drew = w4 at HB3 ⊢
        clear hw4
        clear q1 f1 c0 c1 c2 c3 c4 c5 u0 u1 u2 u3 u4 u5
        have q1 : w4.cell? ⟨rb, 1, none⟩ = some (.int .i64 a) := cell_of HB3.out.rd 1
        have f1 := free_of HB3.out.rd 1
        obtain ⟨c0, c1, c2, c3, c4, c5, u0, u1, u2, u3, u4, u5⟩ := box_facts HB3.out.x
        have HB8 : Hid (Bx w (w4.setCell ⟨rb, 1, none⟩ (.int .i64 ((a : Int) + (1 + (ln : Int))))) rb S (a + (1 + ln)) N ⟨#[76]⟩ (.slice none 0 0)) := HB3.out.at hrl (a + (1 + ln)) (by omega)
        have HHX : Hid (headF X.data.toList = ((⟨#[76]⟩ : ByteArray).data.toList, N.data.toList, S.data.toList.drop (a + (1 + ln)))) := by
          rw [Hid, HHB.out, HMD.out, List.drop_drop, Nat.add_assoc]
        go_wp2_with fail
        exact TAIL.out N ⟨#[76]⟩ (a + (1 + ln)) _ _ _ _ _ _ _ _ _ _ _ _ _ _ _ _ _ _ _ _ _ _ _ _ _ _ _ _ _ _ _ _ _ _ _ _ _ _ _ _ _ _ _ _ _ _ _ _ _ _ _ _ _ _ _ _ _ _ _ _ _ _ _ _ _ _ _ _ _ _ _ rfl (by omega) (by omega) HB8.out HHX.out
      · have hway : ∃ r, S.data.toList.drop a = 35 :: r ∧ r.head? ≠ some 125 ∧ opOf r ≠ [] := ⟨m.data.toList, by rw [← HXD.out, hm1], hc, ho⟩
        clear hc ho
        have hhp : Lib.hasPrefix X.data.toList (⟨#[35]⟩ : ByteArray).data.toList = true := hm3
        rw [hhp] at HCP
        rw [show (⟨(Lib.trimPrefix X.data.toList (⟨#[35]⟩ : ByteArray).data.toList).toArray⟩ : ByteArray) = m from hm2] at HCP
        have hmd : m.data.toList = (S.data.toList.drop a).tail := by rw [← HXD.out, hm1]; rfl
        have hms : m.size ≤ 20000 := by have := congrArg List.length hm1; rw [dl] at this; simp at this; omega
        obtain ⟨r, hr1, hr2, hr3⟩ := hway
        have hmr : m.data.toList = r := by rw [hmd, hr1]; rfl
        have HPM0 := Lib.hid (fun w1 => HHP.out m w1)
        rw [show Lib.hasPrefix m.data.toList (⟨#[125]⟩ : ByteArray).data.toList = decide (m.data.toList.head? = some 125) from brace_head m, hmr] at HPM0
        rw [show decide (r.head? = some 125) = false from decide_eq_false hr2] at HPM0
        obtain ⟨O1, hO1⟩ : ∃ O1 : ByteArray, O1.data.toList = opOf m.data.toList := ⟨⟨(opOf m.data.toList).toArray⟩, rfl⟩
        have HO1 : Hid (∀ w1, Calls Try.prog 75 #[.string m] w1 fun e w' => e = .returned (.string O1) ∧ w' = w1) := fun w1 => (HOP.out m (by omega) w1).mono (by
          rintro e w' ⟨⟨t, h1, rfl⟩, h2⟩
          rw [ba_ext (h1.trans hO1.symm)]
          exact ⟨rfl, h2⟩)
        have hO1E := isE_ne (t := O1) (by rw [hO1, hmr]; exact hr3)
        have HHB : Hid (headF X.data.toList = (opOf (X.data.toList.drop (longParam X.data.toList)), X.data.toList.take (longParam X.data.toList), (X.data.toList.drop (longParam X.data.toList)).drop (opOf (X.data.toList.drop (longParam X.data.toList))).length)) := headF_b (by rw [HXD.out, hr1]; rintro ⟨_, h1, h2⟩; exact hr3 h2)
        clear hm1 hm2 hm3 hhp hmd hmr hr1 hr2 hr3 hO1
        have HLX := Lib.hid (fun w => HLP.out X (by omega) w)
        have hln := longParam_le X.data.toList
        obtain ⟨ln, hlnn⟩ : ∃ ln, longParam X.data.toList = ln := ⟨_, rfl⟩
        rw [hlnn] at HLX HHB hln
        rw [dl] at hln
        have hlI : (ln : Int) ≤ (X.size : Int) := by omega
        have hl0 : (0 : Int) ≤ (ln : Int) := by omega
        have hN := ext_dt (t := X) (a := 0) (b := ln) (Nat.zero_le _) hln
        rw [List.drop_zero, Nat.sub_zero] at hN
        obtain ⟨N, hNN⟩ : ∃ N, X.extract 0 ln = N := ⟨_, rfl⟩
        rw [hNN] at hN
        have hw1 : IntKind.i64.wrap ((a : Int) + (ln : Int)) = (a : Int) + (ln : Int) := IntWalk.i64_in _ (by omega)
        have hNs := hN.2
        have hNsI : (N.size : Int) = (ln : Int) := by omega
        have hX2 := ext_end (t := S) (a := a + ln) (by omega)
        obtain ⟨X2, hXX2⟩ : ∃ X2, S.extract (a + ln) S.size = X2 := ⟨_, rfl⟩
        rw [hXX2] at hX2
        have HR2 : Hid (∀ w1, Rd w1 rb S (a + ln) → Calls Try.prog 21 #[.pointer (some ⟨rb, 0, none⟩)] w1 fun e w' => e = .returned (.string X2) ∧ Below w1.heap.size w1 w') := fun w1 h => by
          have := HRESTA.out (a + ln) w1 h (by omega)
          rwa [hXX2] at this
        have hXd2 : X.data.toList.drop ln = X2.data.toList := by rw [hX2.1, HXD.out, List.drop_drop]
        rw [hXd2, ← hN.1] at HHB
        obtain ⟨O, hO⟩ : ∃ O : ByteArray, O.data.toList = opOf X2.data.toList := ⟨⟨(opOf X2.data.toList).toArray⟩, rfl⟩
        have hX2s := hX2.2
        have HO2 : Hid (∀ w1, Calls Try.prog 75 #[.string X2] w1 fun e w' => e = .returned (.string O) ∧ w' = w1) := fun w1 => (HOP.out X2 (by omega) w1).mono (by
          rintro e w' ⟨⟨t, h1, rfl⟩, h2⟩
          rw [ba_ext (h1.trans hO.symm)]
          exact ⟨rfl, h2⟩)
        rw [← hO] at HHB
        have hOs : O.data.toList.length ≤ X2.data.toList.length := by
          rw [hO]; unfold opOf; split
          · rw [List.length_take]; omega
          · split
            · rw [List.length_take]; omega
            · simp
        rw [dl, dl] at hOs
        rw [dl] at HHB
        have hOL : O.data.toList ≠ [76] := by rw [hO]; exact opOf_L _
        have HRR : Hid (X2.data.toList.drop O.size = S.data.toList.drop (a + ln + O.size)) := by rw [Hid, hX2.1, List.drop_drop]
        have hw2 : IntKind.i64.wrap ((a : Int) + (ln : Int) + (O.size : Int)) = (a : Int) + (ln : Int) + (O.size : Int) := IntWalk.i64_in _ (by omega)
        have haO : a + ln + O.size ≤ S.size := by omega
        clear hN hlnn hO hX2 hXX2 hXd2
        go_wp2_with (first
          | (go_at_call 31; refine (HPM0.out _).mono ?_; rintro e w2 ⟨rfl, h2⟩; obtain rfl := h2.symm; simp only [])
          | (go_at_call 75; refine (HO1.out _).mono ?_; rintro e w2 ⟨rfl, h2⟩; obtain rfl := h2.symm; simp only [])
          | (go_at_call 74; refine (HCP.out _).mono ?_; rintro e w2 ⟨rfl, h2⟩; obtain rfl := h2.symm; simp only [])
          | (go_at_call 76; refine (HLX.out _).mono ?_; rintro e w2 ⟨rfl, h2⟩; obtain rfl := h2.symm; simp only []))
        have HB2 : Hid (Bx w (w1.setCell ⟨w.heap.size + 1, 2, none⟩ (.string N)) rb S a N ⟨#[]⟩ (.slice none 0 0)) := HB.out.name hrl N
        generalize hw3 : w1.setCell ⟨w.heap.size + 1, 2, none⟩ (.string N) = w3 at HB2 ⊢
        clear hw3
        clear q1 f1 c0 c1 c2 c3 c4 c5 u0 u1 u2 u3 u4 u5
        have q1 : w3.cell? ⟨rb, 1, none⟩ = some (.int .i64 a) := cell_of HB2.out.rd 1
        have f1 := free_of HB2.out.rd 1
        obtain ⟨c0, c1, c2, c3, c4, c5, u0, u1, u2, u3, u4, u5⟩ := box_facts HB2.out.x
        go_still_tail 10, (by kernel_rfl)
        change wpList _ _ _ _ _ w3.drew
        have HB3 := Lib.hid HB2.out.drew
        generalize hw4 : w3.drew = w4 at HB3 ⊢
        clear hw4
        clear q1 f1 c0 c1 c2 c3 c4 c5 u0 u1 u2 u3 u4 u5
        have q1 : w4.cell? ⟨rb, 1, none⟩ = some (.int .i64 a) := cell_of HB3.out.rd 1
        have f1 := free_of HB3.out.rd 1
        obtain ⟨c0, c1, c2, c3, c4, c5, u0, u1, u2, u3, u4, u5⟩ := box_facts HB3.out.x
        have HB4 : Hid (Bx w (w4.setCell ⟨rb, 1, none⟩ (.int .i64 ((a : Int) + (ln : Int)))) rb S (a + ln) N ⟨#[]⟩ (.slice none 0 0)) := HB3.out.at hrl (a + ln) (by omega)
        go_wp2_with (first
          | (go_at_call 21; refine (HR2.out _ HB4.out.rd).mono ?_; rintro e w5 ⟨rfl, h1⟩; have HB5 : Hid (Bx w w5 rb S (a + ln) N ⟨#[]⟩ (.slice none 0 0)) := HB4.out.under h1; clear h1; have q1 : w5.cell? ⟨rb, 1, none⟩ = some (.int .i64 ((a : Int) + (ln : Int))) := cell_of HB5.out.rd 1; have f1 := free_of HB5.out.rd 1; obtain ⟨c0, c1, c2, c3, c4, c5, u0, u1, u2, u3, u4, u5⟩ := box_facts HB5.out.x; simp only [])
          | (go_at_call 75; refine (HO2.out _).mono ?_; rintro e w2 ⟨rfl, h2⟩; obtain rfl := h2.symm; simp only []))
        have HB6 : Hid (Bx w (w5.setCell ⟨w.heap.size + 1, 3, none⟩ (.string O)) rb S (a + ln) N O (.slice none 0 0)) := HB5.out.op hrl O
        generalize hw6 : w5.setCell ⟨w.heap.size + 1, 3, none⟩ (.string O) = w6 at HB6 ⊢
        clear hw6
        clear q1 f1 c0 c1 c2 c3 c4 c5 u0 u1 u2 u3 u4 u5
        have q1 : w6.cell? ⟨rb, 1, none⟩ = some (.int .i64 ((a : Int) + (ln : Int))) := cell_of HB6.out.rd 1
        have f1 := free_of HB6.out.rd 1
        obtain ⟨c0, c1, c2, c3, c4, c5, u0, u1, u2, u3, u4, u5⟩ := box_facts HB6.out.x
        go_still_tail 10, (by kernel_rfl)
        change wpList _ _ _ _ _ w6.drew
        have HB7 := Lib.hid HB6.out.drew
        generalize hw7 : w6.drew = w7 at HB7 ⊢
        clear hw7
        clear q1 f1 c0 c1 c2 c3 c4 c5 u0 u1 u2 u3 u4 u5
        have q1 : w7.cell? ⟨rb, 1, none⟩ = some (.int .i64 ((a : Int) + (ln : Int))) := cell_of HB7.out.rd 1
        have f1 := free_of HB7.out.rd 1
        obtain ⟨c0, c1, c2, c3, c4, c5, u0, u1, u2, u3, u4, u5⟩ := box_facts HB7.out.x
        have HB8 : Hid (Bx w (w7.setCell ⟨rb, 1, none⟩ (.int .i64 ((a : Int) + (ln : Int) + (O.size : Int)))) rb S (a + ln + O.size) N O (.slice none 0 0)) := HB7.out.at hrl (a + ln + O.size) (by omega)
        have HHX : Hid (headF X.data.toList = (O.data.toList, N.data.toList, S.data.toList.drop (a + ln + O.size))) := by rw [Hid, HHB.out, HRR.out]
        go_wp2_with fail
        exact TAIL.out N O (a + ln + O.size) _ _ _ _ _ _ _ _ _ _ _ _ _ _ _ _ _ _ _ _ _ _ _ _ _ _ _ _ _ _ _ _ _ _ _ _ _ _ _ _ _ _ _ _ _ _ _ _ _ _ _ _ _ _ _ _ _ _ _ _ _ _ _ _ _ _ _ _ _ _ _ rfl (by omega) (by omega) HB8.out HHX.out
  · have hhp : Lib.hasPrefix X.data.toList (⟨#[35]⟩ : ByteArray).data.toList = false := hm3
    rw [hhp] at HCP
    obtain ⟨M, hM⟩ : ∃ M : ByteArray, (⟨(Lib.trimPrefix X.data.toList (⟨#[35]⟩ : ByteArray).data.toList).toArray⟩ : ByteArray) = M := ⟨_, rfl⟩
    rw [hM] at HCP
    have HHB : Hid (headF X.data.toList = (opOf (X.data.toList.drop (longParam X.data.toList)), X.data.toList.take (longParam X.data.toList), (X.data.toList.drop (longParam X.data.toList)).drop (opOf (X.data.toList.drop (longParam X.data.toList))).length)) := headF_b fun h => hm1 h.1
    clear hm1 hm3 hhp hM
    have HLX := Lib.hid (fun w => HLP.out X (by omega) w)
    have hln := longParam_le X.data.toList
    obtain ⟨ln, hlnn⟩ : ∃ ln, longParam X.data.toList = ln := ⟨_, rfl⟩
    rw [hlnn] at HLX HHB hln
    rw [dl] at hln
    have hlI : (ln : Int) ≤ (X.size : Int) := by omega
    have hl0 : (0 : Int) ≤ (ln : Int) := by omega
    have hN := ext_dt (t := X) (a := 0) (b := ln) (Nat.zero_le _) hln
    rw [List.drop_zero, Nat.sub_zero] at hN
    obtain ⟨N, hNN⟩ : ∃ N, X.extract 0 ln = N := ⟨_, rfl⟩
    rw [hNN] at hN
    have hw1 : IntKind.i64.wrap ((a : Int) + (ln : Int)) = (a : Int) + (ln : Int) := IntWalk.i64_in _ (by omega)
    have hNs := hN.2
    have hNsI : (N.size : Int) = (ln : Int) := by omega
    have hX2 := ext_end (t := S) (a := a + ln) (by omega)
    obtain ⟨X2, hXX2⟩ : ∃ X2, S.extract (a + ln) S.size = X2 := ⟨_, rfl⟩
    rw [hXX2] at hX2
    have HR2 : Hid (∀ w1, Rd w1 rb S (a + ln) → Calls Try.prog 21 #[.pointer (some ⟨rb, 0, none⟩)] w1 fun e w' => e = .returned (.string X2) ∧ Below w1.heap.size w1 w') := fun w1 h => by
      have := HRESTA.out (a + ln) w1 h (by omega)
      rwa [hXX2] at this
    have hXd2 : X.data.toList.drop ln = X2.data.toList := by rw [hX2.1, HXD.out, List.drop_drop]
    rw [hXd2, ← hN.1] at HHB
    obtain ⟨O, hO⟩ : ∃ O : ByteArray, O.data.toList = opOf X2.data.toList := ⟨⟨(opOf X2.data.toList).toArray⟩, rfl⟩
    have hX2s := hX2.2
    have HO2 : Hid (∀ w1, Calls Try.prog 75 #[.string X2] w1 fun e w' => e = .returned (.string O) ∧ w' = w1) := fun w1 => (HOP.out X2 (by omega) w1).mono (by
      rintro e w' ⟨⟨t, h1, rfl⟩, h2⟩
      rw [ba_ext (h1.trans hO.symm)]
      exact ⟨rfl, h2⟩)
    rw [← hO] at HHB
    have hOs : O.data.toList.length ≤ X2.data.toList.length := by
      rw [hO]; unfold opOf; split
      · rw [List.length_take]; omega
      · split
        · rw [List.length_take]; omega
        · simp
    rw [dl, dl] at hOs
    rw [dl] at HHB
    have hOL : O.data.toList ≠ [76] := by rw [hO]; exact opOf_L _
    have HRR : Hid (X2.data.toList.drop O.size = S.data.toList.drop (a + ln + O.size)) := by rw [Hid, hX2.1, List.drop_drop]
    have hw2 : IntKind.i64.wrap ((a : Int) + (ln : Int) + (O.size : Int)) = (a : Int) + (ln : Int) + (O.size : Int) := IntWalk.i64_in _ (by omega)
    have haO : a + ln + O.size ≤ S.size := by omega
    clear hN hlnn hO hX2 hXX2 hXd2
    go_wp2_with (first
      | (go_at_call 74; refine (HCP.out _).mono ?_; rintro e w2 ⟨rfl, h2⟩; obtain rfl := h2.symm; simp only [])
      | (go_at_call 76; refine (HLX.out _).mono ?_; rintro e w2 ⟨rfl, h2⟩; obtain rfl := h2.symm; simp only []))
    have HB2 : Hid (Bx w (w1.setCell ⟨w.heap.size + 1, 2, none⟩ (.string N)) rb S a N ⟨#[]⟩ (.slice none 0 0)) := HB.out.name hrl N
    generalize hw3 : w1.setCell ⟨w.heap.size + 1, 2, none⟩ (.string N) = w3 at HB2 ⊢
    clear hw3
    clear q1 f1 c0 c1 c2 c3 c4 c5 u0 u1 u2 u3 u4 u5
    have q1 : w3.cell? ⟨rb, 1, none⟩ = some (.int .i64 a) := cell_of HB2.out.rd 1
    have f1 := free_of HB2.out.rd 1
    obtain ⟨c0, c1, c2, c3, c4, c5, u0, u1, u2, u3, u4, u5⟩ := box_facts HB2.out.x
    go_still_tail 10, (by kernel_rfl)
    change wpList _ _ _ _ _ w3.drew
    have HB3 := Lib.hid HB2.out.drew
    generalize hw4 : w3.drew = w4 at HB3 ⊢
    clear hw4
    clear q1 f1 c0 c1 c2 c3 c4 c5 u0 u1 u2 u3 u4 u5
    have q1 : w4.cell? ⟨rb, 1, none⟩ = some (.int .i64 a) := cell_of HB3.out.rd 1
    have f1 := free_of HB3.out.rd 1
    obtain ⟨c0, c1, c2, c3, c4, c5, u0, u1, u2, u3, u4, u5⟩ := box_facts HB3.out.x
    have HB4 : Hid (Bx w (w4.setCell ⟨rb, 1, none⟩ (.int .i64 ((a : Int) + (ln : Int)))) rb S (a + ln) N ⟨#[]⟩ (.slice none 0 0)) := HB3.out.at hrl (a + ln) (by omega)
    go_wp2_with (first
      | (go_at_call 21; refine (HR2.out _ HB4.out.rd).mono ?_; rintro e w5 ⟨rfl, h1⟩; have HB5 : Hid (Bx w w5 rb S (a + ln) N ⟨#[]⟩ (.slice none 0 0)) := HB4.out.under h1; clear h1; have q1 : w5.cell? ⟨rb, 1, none⟩ = some (.int .i64 ((a : Int) + (ln : Int))) := cell_of HB5.out.rd 1; have f1 := free_of HB5.out.rd 1; obtain ⟨c0, c1, c2, c3, c4, c5, u0, u1, u2, u3, u4, u5⟩ := box_facts HB5.out.x; simp only [])
      | (go_at_call 75; refine (HO2.out _).mono ?_; rintro e w2 ⟨rfl, h2⟩; obtain rfl := h2.symm; simp only []))
    have HB6 : Hid (Bx w (w5.setCell ⟨w.heap.size + 1, 3, none⟩ (.string O)) rb S (a + ln) N O (.slice none 0 0)) := HB5.out.op hrl O
    generalize hw6 : w5.setCell ⟨w.heap.size + 1, 3, none⟩ (.string O) = w6 at HB6 ⊢
    clear hw6
    clear q1 f1 c0 c1 c2 c3 c4 c5 u0 u1 u2 u3 u4 u5
    have q1 : w6.cell? ⟨rb, 1, none⟩ = some (.int .i64 ((a : Int) + (ln : Int))) := cell_of HB6.out.rd 1
    have f1 := free_of HB6.out.rd 1
    obtain ⟨c0, c1, c2, c3, c4, c5, u0, u1, u2, u3, u4, u5⟩ := box_facts HB6.out.x
    go_still_tail 10, (by kernel_rfl)
    change wpList _ _ _ _ _ w6.drew
    have HB7 := Lib.hid HB6.out.drew
    generalize hw7 : w6.drew = w7 at HB7 ⊢
    clear hw7
    clear q1 f1 c0 c1 c2 c3 c4 c5 u0 u1 u2 u3 u4 u5
    have q1 : w7.cell? ⟨rb, 1, none⟩ = some (.int .i64 ((a : Int) + (ln : Int))) := cell_of HB7.out.rd 1
    have f1 := free_of HB7.out.rd 1
    obtain ⟨c0, c1, c2, c3, c4, c5, u0, u1, u2, u3, u4, u5⟩ := box_facts HB7.out.x
    have HB8 : Hid (Bx w (w7.setCell ⟨rb, 1, none⟩ (.int .i64 ((a : Int) + (ln : Int) + (O.size : Int)))) rb S (a + ln + O.size) N O (.slice none 0 0)) := HB7.out.at hrl (a + ln + O.size) (by omega)
    have HHX : Hid (headF X.data.toList = (O.data.toList, N.data.toList, S.data.toList.drop (a + ln + O.size))) := by rw [Hid, HHB.out, HRR.out]
    go_wp2_with fail
    exact TAIL.out N O (a + ln + O.size) _ _ _ _ _ _ _ _ _ _ _ _ _ _ _ _ _ _ _ _ _ _ _ _ _ _ _ _ _ _ _ _ _ _ _ _ _ _ _ _ _ _ _ _ _ _ _ _ _ _ _ _ _ _ _ _ _ _ _ _ _ _ _ _ _ _ _ _ _ _ _ rfl (by omega) (by omega) HB8.out HHX.out
end Go.Proofs.Ytafbheplaheohaa
