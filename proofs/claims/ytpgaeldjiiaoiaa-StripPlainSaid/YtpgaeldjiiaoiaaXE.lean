import Derived.Test.YtpgaeldjiiaoiaaXD
namespace Go.Proofs.Ytpgaeldjiiaoiaa
open Go.RowKit
set_option linter.unusedVariables false

theorem info3 : (Try.prog.info? 3).map (fun i => (i.zero, i.size, i.bytes)) = some (some (.int .i64 0), 1, 8) := by kernel_rfl
def encI (k : Nat) : Value := .int .i64 k
theorem BR.of_row {w : World} {B g n cap : Nat} {f : Nat → Bool} (h : w.ownsRow B 4 1 (.slice (some ⟨g, 0, none⟩) n cap) n (rowB n f)) : BR w g n f := by
  have hc := fun k hk => World.ownsRow.cellAt h k hk
  rcases h.2 with ⟨h1, _⟩ | ⟨g', cap', cur, e, hb, hcur, hn, hm, hcs, htk⟩
  · cases h1
  · injection e with e1 e2 e3
    injection e1 with e1
    injection e1 with e1 _ _
    subst e1
    refine ⟨cur, hcur, by omega, fun k hk => ?_⟩
    have := hc k (by omega)
    rw [cell_of_row _ _ _ _ _ _ hcur, rowB_at f hk] at this
    exact this
theorem BR.alloc {w : World} {g n : Nat} {f : Nat → Bool} (h : BR w g n f) (o : Obj) : BR (w.alloc o) g n f := by
  have hl := h.lt
  obtain ⟨cur, h1, h2, h3⟩ := h
  exact ⟨cur, by rw [Below.heap_alloc _ _ _ hl]; exact h1, h2, h3⟩
theorem Pcs.of {w w' : World} {v : Value} {ps : List Pc} (h : Sl w v ps) (hB : Below w.heap.size w w') : Pcs w' v ps w.heap.size := by
  obtain ⟨a, cap, rfl, h1, h2, h3⟩ := h
  refine ⟨a, cap, rfl, fun j hj => ?_⟩
  rcases h3 with h3 | ⟨g, off, rfl, hp⟩
  · subst h3; exact absurd hj (by simp)
  · have hpj := hp j hj
    have hgl : g < w.heap.size := World.block_lt_of_cell? w _ hpj.c0
    exact ⟨g, off, rfl, by omega, hpj.below hB⟩
structure LR (w wr : World) (s : ByteArray) (P : List It) (n k : Nat) (r : Value) (l : List Nat) : Prop where
  row : BR wr w.heap.size (n + 1) (Ct s P k)
  own : wr.ownsRow (w.heap.size + 1) 3 1 r l.length (l.map encI)
  old : Below w.heap.size w wr
theorem LR.ne {w wr : World} {s : ByteArray} {P : List It} {n k : Nat} {r : Value} {l : List Nat} (h : LR w wr s P n k r l) : r.ownBlock ≠ some w.heap.size := fun e => ne_own h.own (Nat.lt_succ_self _) e.symm
set_option maxRecDepth 100000 in
set_option maxHeartbeats 8000000 in
theorem lengths_26 (pv v : Value) (ps : List Pc) (P : List It) (hP : ps.map sem = P) (s : ByteArray) (w : World) (hs : s.size ≤ 100000) (hlen : ps.length ≤ 100000) (hS : Sl w v ps)
    (hat : ∀ k, k < s.size → ∀ w', Below w.heap.size w w' → Calls Try.prog 26 #[.int .i64 k, pv] w' fun e w'' => e = .returned (.int .u8 (gb s k).toNat) ∧ w'' = w') :
    Calls Try.prog 25 #[v, .int .i64 s.size, .func (.func 26) #[] #[pv]] w fun e w' => ∃ r, e = .returned r ∧ w'.ownsRow (w.heap.size + 1) 3 1 r (ends s P (s.size + 1)).length ((ends s P (s.size + 1)).map encI) ∧ Below w.heap.size w w' := by
  obtain ⟨i4, hi4, hz4, hs4, hb4⟩ := info_parts info4
  obtain ⟨i3, hi3, hz3, hs3, hb3⟩ := info_parts info3
  have HS := Lib.hid hS
  obtain ⟨a, cap, rfl, _⟩ := hS
  have HP := Lib.hid hP
  have HAT := Lib.hid hat
  have hPl : P.length = ps.length := by rw [← hP, List.length_map]
  have HPL := Lib.hid hPl
  have hl0 : (0 : Int) ≤ (ps.length : Int) := by omega
  have hl1 : (ps.length : Int) ≤ 100000 := by omega
  clear hP hat hPl
  go_enter Try.func25, Try.ntmps25
  go_wp2_with fail
  go_step3
  go_wp2_with (refine wpList_make_full _ rfl _ _ 31 rfl w.heap.size 4 i4 (.bool false) 1 Try.underlying31 hi4 hz4 hs4 .i64 .i64 _ _ (ps.length + 1) rfl rfl (by simp) (by simp) (by rw [hb4]; omega) (by unfold maxLen; omega) (Nat.le_refl _) ?_)
  intro w1 hown hg
  have hF0 : Fr w w1 w.heap.size (ps.length + 1) (fun _ => false) := by
    unfold Fr; rw [rowB_zero, ← toList_madeCells_one]; simpa using hown
  have hB1 : Below w.heap.size w w1 := (Below.refl _ w).grown hg (Nat.le_refl _) (fun k h => by cases h)
  have c0 := hF0.cell (k := 0) (by omega)
  have y0 := hF0.free 0
  have hF1 := hF0.set (f' := fun j => decide (j = 0)) 0 true (fun j _ => by by_cases h : j = 0 <;> simp [h])
  have HR1 := Lib.hid (BR.of_row hF1)
  have HB1 := Lib.hid (hB1.setCell (p := ⟨w.heap.size, 0, none⟩) (Nat.le_refl _) (.bool true))
  clear hown hg hF0 hB1 hF1
  go_wp2_with fail
  obtain ⟨w2, hw2⟩ : ∃ w2, w1.setCell ⟨w.heap.size, 0, none⟩ (.bool true) = w2 := ⟨_, rfl⟩
  rw [hw2] at HR1 HB1 ⊢
  clear hw2 c0 y0
  refine (pass_any _ ps P HP.out w.heap.size _ _ _ hlen (Pcs.of HS.out HB1.out) HR1.out).mono ?_
  rintro e w3 ⟨rfl, hR3, hG3⟩
  have HL0 : Hid (LR w w3 s P ps.length 0 (.slice none 0 0) []) :=
    ⟨hR3.congr (fun j hj => pass_start j (by rw [HPL.out]; omega)), World.ownsRow_nil _ _ _ _, HB1.out.grown hG3 HB1.out.size (fun k h => by cases h; exact Nat.le_refl _)⟩
  clear hR3 hG3 HR1 HB1
  simp only []
  have hc5 := HL0.out.row.cell (k := ps.length) (by omega)
  have hce := Ct_end s P 0
  rw [HPL.out] at hce
  rw [hce] at hc5
  obtain ⟨b0, hb0⟩ : ∃ b, dp s P ps.length 0 = b := ⟨_, rfl⟩
  rw [hb0] at hc5
  have HE0 : Hid (ends s P 1 = if b0 then [0] else []) := by rw [Hid, ends_snoc, HPL.out, hb0]; simp [ends]
  clear hce hb0
  cases b0
  · have HL1 : Hid (LR w w3 s P ps.length 0 (.slice none 0 0) (ends s P 1)) := by rw [HE0.out]; exact HL0.out
    go_wp2_with fail
    go_step3
    go_wp2_with fail
    go_loopw [8, 28] (fun r i wr => ∃ k : Nat, k ≤ s.size ∧ i = .int .i64 k ∧ Hid (LR w wr s P ps.length k r (ends s P (k + 1)))) (fun _ i _ => s.size - (intOf i).toNat)
    case atStart => exact ⟨0, by omega, rfl, HL1.out⟩
    case round =>
      obtain ⟨k, hk, rfl, HL⟩ := hrel
      by_cases hlt : k < s.size
      · have hltI : (k : Int) < (s.size : Int) := by omega
        have h0 : (0 : Int) ≤ (k : Int) := by omega
        go_wp2_with fail
        refine (HAT.out k hlt _ HL.out.old).mono ?_
        rintro e w4 ⟨rfl, h⟩
        obtain rfl := h.symm
        simp only []
        go_wp2_with fail
        refine (step_any _ ps P HP.out w.heap.size _ (Ct s P k) (gb s k) _ hlen (Pcs.of HS.out HL.out.old) HL.out.row).mono ?_
        rintro e w5 ⟨rfl, hR5, hG5⟩
        have HL5 : Hid (LR w w5 s P ps.length (k + 1) _ (ends s P (k + 1))) :=
          ⟨hR5.congr (fun j hj => pass_step k _ (fun _ _ => rfl) j (by rw [HPL.out]; omega)), World.ownsRow.kept HL.out.own hG5 (.inr HL.out.ne), HL.out.old.grown hG5 HL.out.old.size (fun k h => by cases h; exact Nat.le_refl _)⟩
        have HNO : Hid (anyF (passF P (stepF P (Ct s P k) (gb s k))) (ps.length + 1) = false → ends s P (s.size + 1) = ends s P (k + 1)) := fun h => by
          refine ends_stop (fun j hj => ?_) (by omega)
          rw [← Ct_end]
          refine Ct_none (k := k + 1) (fun i hi => ?_) j hj _ (Nat.le_refl _)
          rw [← pass_step k _ (fun _ _ => rfl) i hi]
          unfold anyF at h
          rw [List.any_eq_false] at h
          simpa using h i (List.mem_range.2 (by rw [HPL.out] at hi; omega))
        obtain ⟨bb, hbb⟩ : ∃ b, anyF (passF P (stepF P (Ct s P k) (gb s k))) (ps.length + 1) = b := ⟨_, rfl⟩
        rw [hbb] at HNO ⊢
        clear hR5 hG5 hbb
        simp only []
        cases bb
        · have HE : Hid (ends s P (s.size + 1) = ends s P (k + 1)) := HNO.out rfl
          go_wp2_with fail
          go_ret
          exact ⟨_, rfl, by rw [HE.out]; exact HL5.out.own, HL5.out.old⟩
        · have hc6 := HL5.out.row.cell (k := ps.length) (by omega)
          have hce := Ct_end s P (k + 1)
          rw [HPL.out] at hce
          rw [hce] at hc6
          obtain ⟨b1, hb1⟩ : ∃ b, dp s P ps.length (k + 1) = b := ⟨_, rfl⟩
          rw [hb1] at hc6
          have HE1 : Hid (ends s P (k + 1 + 1) = ends s P (k + 1) ++ (if b1 then [k + 1] else [])) := by rw [Hid, ends_snoc, HPL.out, hb1]
          clear hce hb1 HNO
          cases b1
          · have h6 := HL5.out
            have e6 : ends s P (k + 1 + 1) = ends s P (k + 1) := by rw [HE1.out]; simp
            rw [← e6] at h6
            have HL6 := Lib.hid h6
            clear h6 e6
            go_wp2_with fail
            exact ⟨⟨k + 1, by omega, by go_num, HL6.out⟩, by simp [intOf]; omega⟩
          · have hle : (ends s P (k + 1)).length ≤ k + 1 := by unfold ends; exact Nat.le_trans (List.length_filter_le _ _) (by simp)
            go_wp2_with (at_builtin; refine wpList_append_own _ rfl _ _ 28 rfl (w.heap.size + 1) 3 i3 (.int .i64 0) 1 8 Try.underlying28 hi3 hz3 hs3 hb3 rfl (by decide) _ _ _ rfl (HL5.out.own.alloc _) ⟨w5.heap.size, 0, none⟩ 1 1 [.int .i64 ((k : Int) + 1)] rfl rfl (fun j u hj => by match j, hj with | 0, hj => simp at hj; subst hj; simp [Addr.add]) (fun u hu => by simp at hu; subst hu; rfl) (by unfold maxLen; omega) (by omega) (by have h1 := HL5.out.old.size; have h2 := HL5.out.row.lt; simp; omega) ?_)
            intro v' w6 hown' hgrow _
            have HL6 : Hid (LR w w6 s P ps.length (k + 1) v' (ends s P (k + 1 + 1))) :=
              ⟨(HL5.out.row.alloc _).kept hgrow HL5.out.ne, by rw [HE1.out]; simpa [encI] using hown', (HL5.out.old.alloc HL5.out.old.size _).grown hgrow (by have := HL5.out.old.size; simp; omega) (fun k h => by have := (HL5.out.own.lt k h).1; omega)⟩
            clear hown' hgrow
            go_wp2_with fail
            exact ⟨⟨k + 1, by omega, by go_num, HL6.out⟩, by simp [intOf]; omega⟩
      · have hltI : ¬ (k : Int) < (s.size : Int) := by omega
        obtain rfl : k = s.size := by omega
        go_wp2_with fail
        go_ret
        exact ⟨_, rfl, HL.out.own, HL.out.old⟩
  · skip
    go_wp2_with (at_builtin; refine wpList_append_own _ rfl _ _ 28 rfl (w.heap.size + 1) 3 i3 (.int .i64 0) 1 8 Try.underlying28 hi3 hz3 hs3 hb3 rfl (by decide) _ _ _ rfl (World.ownsRow_nil _ _ _ _) ⟨w3.heap.size, 0, none⟩ 1 1 [.int .i64 0] rfl rfl (fun j u hj => by match j, hj with | 0, hj => simp at hj; subst hj; simp [Addr.add]) (fun u hu => by simp at hu; subst hu; rfl) (by unfold maxLen; omega) (by omega) (by have h1 := HL0.out.old.size; have h2 := HL0.out.row.lt; simp; omega) ?_)
    intro v' w4 hown' hgrow _
    have HL1 : Hid (LR w w4 s P ps.length 0 v' (ends s P 1)) :=
      ⟨(HL0.out.row.alloc _).kept hgrow HL0.out.ne, by rw [HE0.out]; simpa [encI] using hown', (HL0.out.old.alloc HL0.out.old.size _).grown hgrow (by have := HL0.out.old.size; simp; omega) (fun k h => by have := (HL0.out.own.lt k h).1; omega)⟩
    clear hown' hgrow
    go_wp2_with fail
    go_step3
    go_wp2_with fail
    go_loopw [8, 28] (fun r i wr => ∃ k : Nat, k ≤ s.size ∧ i = .int .i64 k ∧ Hid (LR w wr s P ps.length k r (ends s P (k + 1)))) (fun _ i _ => s.size - (intOf i).toNat)
    case atStart => exact ⟨0, by omega, rfl, HL1.out⟩
    case round =>
      obtain ⟨k, hk, rfl, HL⟩ := hrel
      by_cases hlt : k < s.size
      · have hltI : (k : Int) < (s.size : Int) := by omega
        have h0 : (0 : Int) ≤ (k : Int) := by omega
        go_wp2_with fail
        refine (HAT.out k hlt _ HL.out.old).mono ?_
        rintro e w4 ⟨rfl, h⟩
        obtain rfl := h.symm
        simp only []
        go_wp2_with fail
        refine (step_any _ ps P HP.out w.heap.size _ (Ct s P k) (gb s k) _ hlen (Pcs.of HS.out HL.out.old) HL.out.row).mono ?_
        rintro e w5 ⟨rfl, hR5, hG5⟩
        have HL5 : Hid (LR w w5 s P ps.length (k + 1) _ (ends s P (k + 1))) :=
          ⟨hR5.congr (fun j hj => pass_step k _ (fun _ _ => rfl) j (by rw [HPL.out]; omega)), World.ownsRow.kept HL.out.own hG5 (.inr HL.out.ne), HL.out.old.grown hG5 HL.out.old.size (fun k h => by cases h; exact Nat.le_refl _)⟩
        have HNO : Hid (anyF (passF P (stepF P (Ct s P k) (gb s k))) (ps.length + 1) = false → ends s P (s.size + 1) = ends s P (k + 1)) := fun h => by
          refine ends_stop (fun j hj => ?_) (by omega)
          rw [← Ct_end]
          refine Ct_none (k := k + 1) (fun i hi => ?_) j hj _ (Nat.le_refl _)
          rw [← pass_step k _ (fun _ _ => rfl) i hi]
          unfold anyF at h
          rw [List.any_eq_false] at h
          simpa using h i (List.mem_range.2 (by rw [HPL.out] at hi; omega))
        obtain ⟨bb, hbb⟩ : ∃ b, anyF (passF P (stepF P (Ct s P k) (gb s k))) (ps.length + 1) = b := ⟨_, rfl⟩
        rw [hbb] at HNO ⊢
        clear hR5 hG5 hbb
        simp only []
        cases bb
        · have HE : Hid (ends s P (s.size + 1) = ends s P (k + 1)) := HNO.out rfl
          go_wp2_with fail
          go_ret
          exact ⟨_, rfl, by rw [HE.out]; exact HL5.out.own, HL5.out.old⟩
        · have hc6 := HL5.out.row.cell (k := ps.length) (by omega)
          have hce := Ct_end s P (k + 1)
          rw [HPL.out] at hce
          rw [hce] at hc6
          obtain ⟨b1, hb1⟩ : ∃ b, dp s P ps.length (k + 1) = b := ⟨_, rfl⟩
          rw [hb1] at hc6
          have HE1 : Hid (ends s P (k + 1 + 1) = ends s P (k + 1) ++ (if b1 then [k + 1] else [])) := by rw [Hid, ends_snoc, HPL.out, hb1]
          clear hce hb1 HNO
          cases b1
          · have h6 := HL5.out
            have e6 : ends s P (k + 1 + 1) = ends s P (k + 1) := by rw [HE1.out]; simp
            rw [← e6] at h6
            have HL6 := Lib.hid h6
            clear h6 e6
            go_wp2_with fail
            exact ⟨⟨k + 1, by omega, by go_num, HL6.out⟩, by simp [intOf]; omega⟩
          · have hle : (ends s P (k + 1)).length ≤ k + 1 := by unfold ends; exact Nat.le_trans (List.length_filter_le _ _) (by simp)
            go_wp2_with (at_builtin; refine wpList_append_own _ rfl _ _ 28 rfl (w.heap.size + 1) 3 i3 (.int .i64 0) 1 8 Try.underlying28 hi3 hz3 hs3 hb3 rfl (by decide) _ _ _ rfl (HL5.out.own.alloc _) ⟨w5.heap.size, 0, none⟩ 1 1 [.int .i64 ((k : Int) + 1)] rfl rfl (fun j u hj => by match j, hj with | 0, hj => simp at hj; subst hj; simp [Addr.add]) (fun u hu => by simp at hu; subst hu; rfl) (by unfold maxLen; omega) (by omega) (by have h1 := HL5.out.old.size; have h2 := HL5.out.row.lt; simp; omega) ?_)
            intro v' w6 hown' hgrow _
            have HL6 : Hid (LR w w6 s P ps.length (k + 1) v' (ends s P (k + 1 + 1))) :=
              ⟨(HL5.out.row.alloc _).kept hgrow HL5.out.ne, by rw [HE1.out]; simpa [encI] using hown', (HL5.out.old.alloc HL5.out.old.size _).grown hgrow (by have := HL5.out.old.size; simp; omega) (fun k h => by have := (HL5.out.own.lt k h).1; omega)⟩
            clear hown' hgrow
            go_wp2_with fail
            exact ⟨⟨k + 1, by omega, by go_num, HL6.out⟩, by simp [intOf]; omega⟩
      · have hltI : ¬ (k : Int) < (s.size : Int) := by omega
        obtain rfl : k = s.size := by omega
        go_wp2_with fail
        go_ret
        exact ⟨_, rfl, HL.out.own, HL.out.old⟩
set_option maxRecDepth 100000 in
set_option maxHeartbeats 8000000 in
theorem lengths_31 (pv v : Value) (ps : List Pc) (P : List It) (hP : ps.map sem = P) (s : ByteArray) (w : World) (hs : s.size ≤ 100000) (hlen : ps.length ≤ 100000) (hS : Sl w v ps)
    (hat : ∀ k, k < s.size → ∀ w', Below w.heap.size w w' → Calls Try.prog 31 #[.int .i64 k, pv] w' fun e w'' => e = .returned (.int .u8 (gb s k).toNat) ∧ w'' = w') :
    Calls Try.prog 25 #[v, .int .i64 s.size, .func (.func 31) #[] #[pv]] w fun e w' => ∃ r, e = .returned r ∧ w'.ownsRow (w.heap.size + 1) 3 1 r (ends s P (s.size + 1)).length ((ends s P (s.size + 1)).map encI) ∧ Below w.heap.size w w' := by
  obtain ⟨i4, hi4, hz4, hs4, hb4⟩ := info_parts info4
  obtain ⟨i3, hi3, hz3, hs3, hb3⟩ := info_parts info3
  have HS := Lib.hid hS
  obtain ⟨a, cap, rfl, _⟩ := hS
  have HP := Lib.hid hP
  have HAT := Lib.hid hat
  have hPl : P.length = ps.length := by rw [← hP, List.length_map]
  have HPL := Lib.hid hPl
  have hl0 : (0 : Int) ≤ (ps.length : Int) := by omega
  have hl1 : (ps.length : Int) ≤ 100000 := by omega
  clear hP hat hPl
  go_enter Try.func25, Try.ntmps25
  go_wp2_with fail
  go_step3
  go_wp2_with (refine wpList_make_full _ rfl _ _ 31 rfl w.heap.size 4 i4 (.bool false) 1 Try.underlying31 hi4 hz4 hs4 .i64 .i64 _ _ (ps.length + 1) rfl rfl (by simp) (by simp) (by rw [hb4]; omega) (by unfold maxLen; omega) (Nat.le_refl _) ?_)
  intro w1 hown hg
  have hF0 : Fr w w1 w.heap.size (ps.length + 1) (fun _ => false) := by
    unfold Fr; rw [rowB_zero, ← toList_madeCells_one]; simpa using hown
  have hB1 : Below w.heap.size w w1 := (Below.refl _ w).grown hg (Nat.le_refl _) (fun k h => by cases h)
  have c0 := hF0.cell (k := 0) (by omega)
  have y0 := hF0.free 0
  have hF1 := hF0.set (f' := fun j => decide (j = 0)) 0 true (fun j _ => by by_cases h : j = 0 <;> simp [h])
  have HR1 := Lib.hid (BR.of_row hF1)
  have HB1 := Lib.hid (hB1.setCell (p := ⟨w.heap.size, 0, none⟩) (Nat.le_refl _) (.bool true))
  clear hown hg hF0 hB1 hF1
  go_wp2_with fail
  obtain ⟨w2, hw2⟩ : ∃ w2, w1.setCell ⟨w.heap.size, 0, none⟩ (.bool true) = w2 := ⟨_, rfl⟩
  rw [hw2] at HR1 HB1 ⊢
  clear hw2 c0 y0
  refine (pass_any _ ps P HP.out w.heap.size _ _ _ hlen (Pcs.of HS.out HB1.out) HR1.out).mono ?_
  rintro e w3 ⟨rfl, hR3, hG3⟩
  have HL0 : Hid (LR w w3 s P ps.length 0 (.slice none 0 0) []) :=
    ⟨hR3.congr (fun j hj => pass_start j (by rw [HPL.out]; omega)), World.ownsRow_nil _ _ _ _, HB1.out.grown hG3 HB1.out.size (fun k h => by cases h; exact Nat.le_refl _)⟩
  clear hR3 hG3 HR1 HB1
  simp only []
  have hc5 := HL0.out.row.cell (k := ps.length) (by omega)
  have hce := Ct_end s P 0
  rw [HPL.out] at hce
  rw [hce] at hc5
  obtain ⟨b0, hb0⟩ : ∃ b, dp s P ps.length 0 = b := ⟨_, rfl⟩
  rw [hb0] at hc5
  have HE0 : Hid (ends s P 1 = if b0 then [0] else []) := by rw [Hid, ends_snoc, HPL.out, hb0]; simp [ends]
  clear hce hb0
  cases b0
  · have HL1 : Hid (LR w w3 s P ps.length 0 (.slice none 0 0) (ends s P 1)) := by rw [HE0.out]; exact HL0.out
    go_wp2_with fail
    go_step3
    go_wp2_with fail
    go_loopw [8, 28] (fun r i wr => ∃ k : Nat, k ≤ s.size ∧ i = .int .i64 k ∧ Hid (LR w wr s P ps.length k r (ends s P (k + 1)))) (fun _ i _ => s.size - (intOf i).toNat)
    case atStart => exact ⟨0, by omega, rfl, HL1.out⟩
    case round =>
      obtain ⟨k, hk, rfl, HL⟩ := hrel
      by_cases hlt : k < s.size
      · have hltI : (k : Int) < (s.size : Int) := by omega
        have h0 : (0 : Int) ≤ (k : Int) := by omega
        go_wp2_with fail
        refine (HAT.out k hlt _ HL.out.old).mono ?_
        rintro e w4 ⟨rfl, h⟩
        obtain rfl := h.symm
        simp only []
        go_wp2_with fail
        refine (step_any _ ps P HP.out w.heap.size _ (Ct s P k) (gb s k) _ hlen (Pcs.of HS.out HL.out.old) HL.out.row).mono ?_
        rintro e w5 ⟨rfl, hR5, hG5⟩
        have HL5 : Hid (LR w w5 s P ps.length (k + 1) _ (ends s P (k + 1))) :=
          ⟨hR5.congr (fun j hj => pass_step k _ (fun _ _ => rfl) j (by rw [HPL.out]; omega)), World.ownsRow.kept HL.out.own hG5 (.inr HL.out.ne), HL.out.old.grown hG5 HL.out.old.size (fun k h => by cases h; exact Nat.le_refl _)⟩
        have HNO : Hid (anyF (passF P (stepF P (Ct s P k) (gb s k))) (ps.length + 1) = false → ends s P (s.size + 1) = ends s P (k + 1)) := fun h => by
          refine ends_stop (fun j hj => ?_) (by omega)
          rw [← Ct_end]
          refine Ct_none (k := k + 1) (fun i hi => ?_) j hj _ (Nat.le_refl _)
          rw [← pass_step k _ (fun _ _ => rfl) i hi]
          unfold anyF at h
          rw [List.any_eq_false] at h
          simpa using h i (List.mem_range.2 (by rw [HPL.out] at hi; omega))
        obtain ⟨bb, hbb⟩ : ∃ b, anyF (passF P (stepF P (Ct s P k) (gb s k))) (ps.length + 1) = b := ⟨_, rfl⟩
        rw [hbb] at HNO ⊢
        clear hR5 hG5 hbb
        simp only []
        cases bb
        · have HE : Hid (ends s P (s.size + 1) = ends s P (k + 1)) := HNO.out rfl
          go_wp2_with fail
          go_ret
          exact ⟨_, rfl, by rw [HE.out]; exact HL5.out.own, HL5.out.old⟩
        · have hc6 := HL5.out.row.cell (k := ps.length) (by omega)
          have hce := Ct_end s P (k + 1)
          rw [HPL.out] at hce
          rw [hce] at hc6
          obtain ⟨b1, hb1⟩ : ∃ b, dp s P ps.length (k + 1) = b := ⟨_, rfl⟩
          rw [hb1] at hc6
          have HE1 : Hid (ends s P (k + 1 + 1) = ends s P (k + 1) ++ (if b1 then [k + 1] else [])) := by rw [Hid, ends_snoc, HPL.out, hb1]
          clear hce hb1 HNO
          cases b1
          · have h6 := HL5.out
            have e6 : ends s P (k + 1 + 1) = ends s P (k + 1) := by rw [HE1.out]; simp
            rw [← e6] at h6
            have HL6 := Lib.hid h6
            clear h6 e6
            go_wp2_with fail
            exact ⟨⟨k + 1, by omega, by go_num, HL6.out⟩, by simp [intOf]; omega⟩
          · have hle : (ends s P (k + 1)).length ≤ k + 1 := by unfold ends; exact Nat.le_trans (List.length_filter_le _ _) (by simp)
            go_wp2_with (at_builtin; refine wpList_append_own _ rfl _ _ 28 rfl (w.heap.size + 1) 3 i3 (.int .i64 0) 1 8 Try.underlying28 hi3 hz3 hs3 hb3 rfl (by decide) _ _ _ rfl (HL5.out.own.alloc _) ⟨w5.heap.size, 0, none⟩ 1 1 [.int .i64 ((k : Int) + 1)] rfl rfl (fun j u hj => by match j, hj with | 0, hj => simp at hj; subst hj; simp [Addr.add]) (fun u hu => by simp at hu; subst hu; rfl) (by unfold maxLen; omega) (by omega) (by have h1 := HL5.out.old.size; have h2 := HL5.out.row.lt; simp; omega) ?_)
            intro v' w6 hown' hgrow _
            have HL6 : Hid (LR w w6 s P ps.length (k + 1) v' (ends s P (k + 1 + 1))) :=
              ⟨(HL5.out.row.alloc _).kept hgrow HL5.out.ne, by rw [HE1.out]; simpa [encI] using hown', (HL5.out.old.alloc HL5.out.old.size _).grown hgrow (by have := HL5.out.old.size; simp; omega) (fun k h => by have := (HL5.out.own.lt k h).1; omega)⟩
            clear hown' hgrow
            go_wp2_with fail
            exact ⟨⟨k + 1, by omega, by go_num, HL6.out⟩, by simp [intOf]; omega⟩
      · have hltI : ¬ (k : Int) < (s.size : Int) := by omega
        obtain rfl : k = s.size := by omega
        go_wp2_with fail
        go_ret
        exact ⟨_, rfl, HL.out.own, HL.out.old⟩
  · skip
    go_wp2_with (at_builtin; refine wpList_append_own _ rfl _ _ 28 rfl (w.heap.size + 1) 3 i3 (.int .i64 0) 1 8 Try.underlying28 hi3 hz3 hs3 hb3 rfl (by decide) _ _ _ rfl (World.ownsRow_nil _ _ _ _) ⟨w3.heap.size, 0, none⟩ 1 1 [.int .i64 0] rfl rfl (fun j u hj => by match j, hj with | 0, hj => simp at hj; subst hj; simp [Addr.add]) (fun u hu => by simp at hu; subst hu; rfl) (by unfold maxLen; omega) (by omega) (by have h1 := HL0.out.old.size; have h2 := HL0.out.row.lt; simp; omega) ?_)
    intro v' w4 hown' hgrow _
    have HL1 : Hid (LR w w4 s P ps.length 0 v' (ends s P 1)) :=
      ⟨(HL0.out.row.alloc _).kept hgrow HL0.out.ne, by rw [HE0.out]; simpa [encI] using hown', (HL0.out.old.alloc HL0.out.old.size _).grown hgrow (by have := HL0.out.old.size; simp; omega) (fun k h => by have := (HL0.out.own.lt k h).1; omega)⟩
    clear hown' hgrow
    go_wp2_with fail
    go_step3
    go_wp2_with fail
    go_loopw [8, 28] (fun r i wr => ∃ k : Nat, k ≤ s.size ∧ i = .int .i64 k ∧ Hid (LR w wr s P ps.length k r (ends s P (k + 1)))) (fun _ i _ => s.size - (intOf i).toNat)
    case atStart => exact ⟨0, by omega, rfl, HL1.out⟩
    case round =>
      obtain ⟨k, hk, rfl, HL⟩ := hrel
      by_cases hlt : k < s.size
      · have hltI : (k : Int) < (s.size : Int) := by omega
        have h0 : (0 : Int) ≤ (k : Int) := by omega
        go_wp2_with fail
        refine (HAT.out k hlt _ HL.out.old).mono ?_
        rintro e w4 ⟨rfl, h⟩
        obtain rfl := h.symm
        simp only []
        go_wp2_with fail
        refine (step_any _ ps P HP.out w.heap.size _ (Ct s P k) (gb s k) _ hlen (Pcs.of HS.out HL.out.old) HL.out.row).mono ?_
        rintro e w5 ⟨rfl, hR5, hG5⟩
        have HL5 : Hid (LR w w5 s P ps.length (k + 1) _ (ends s P (k + 1))) :=
          ⟨hR5.congr (fun j hj => pass_step k _ (fun _ _ => rfl) j (by rw [HPL.out]; omega)), World.ownsRow.kept HL.out.own hG5 (.inr HL.out.ne), HL.out.old.grown hG5 HL.out.old.size (fun k h => by cases h; exact Nat.le_refl _)⟩
        have HNO : Hid (anyF (passF P (stepF P (Ct s P k) (gb s k))) (ps.length + 1) = false → ends s P (s.size + 1) = ends s P (k + 1)) := fun h => by
          refine ends_stop (fun j hj => ?_) (by omega)
          rw [← Ct_end]
          refine Ct_none (k := k + 1) (fun i hi => ?_) j hj _ (Nat.le_refl _)
          rw [← pass_step k _ (fun _ _ => rfl) i hi]
          unfold anyF at h
          rw [List.any_eq_false] at h
          simpa using h i (List.mem_range.2 (by rw [HPL.out] at hi; omega))
        obtain ⟨bb, hbb⟩ : ∃ b, anyF (passF P (stepF P (Ct s P k) (gb s k))) (ps.length + 1) = b := ⟨_, rfl⟩
        rw [hbb] at HNO ⊢
        clear hR5 hG5 hbb
        simp only []
        cases bb
        · have HE : Hid (ends s P (s.size + 1) = ends s P (k + 1)) := HNO.out rfl
          go_wp2_with fail
          go_ret
          exact ⟨_, rfl, by rw [HE.out]; exact HL5.out.own, HL5.out.old⟩
        · have hc6 := HL5.out.row.cell (k := ps.length) (by omega)
          have hce := Ct_end s P (k + 1)
          rw [HPL.out] at hce
          rw [hce] at hc6
          obtain ⟨b1, hb1⟩ : ∃ b, dp s P ps.length (k + 1) = b := ⟨_, rfl⟩
          rw [hb1] at hc6
          have HE1 : Hid (ends s P (k + 1 + 1) = ends s P (k + 1) ++ (if b1 then [k + 1] else [])) := by rw [Hid, ends_snoc, HPL.out, hb1]
          clear hce hb1 HNO
          cases b1
          · have h6 := HL5.out
            have e6 : ends s P (k + 1 + 1) = ends s P (k + 1) := by rw [HE1.out]; simp
            rw [← e6] at h6
            have HL6 := Lib.hid h6
            clear h6 e6
            go_wp2_with fail
            exact ⟨⟨k + 1, by omega, by go_num, HL6.out⟩, by simp [intOf]; omega⟩
          · have hle : (ends s P (k + 1)).length ≤ k + 1 := by unfold ends; exact Nat.le_trans (List.length_filter_le _ _) (by simp)
            go_wp2_with (at_builtin; refine wpList_append_own _ rfl _ _ 28 rfl (w.heap.size + 1) 3 i3 (.int .i64 0) 1 8 Try.underlying28 hi3 hz3 hs3 hb3 rfl (by decide) _ _ _ rfl (HL5.out.own.alloc _) ⟨w5.heap.size, 0, none⟩ 1 1 [.int .i64 ((k : Int) + 1)] rfl rfl (fun j u hj => by match j, hj with | 0, hj => simp at hj; subst hj; simp [Addr.add]) (fun u hu => by simp at hu; subst hu; rfl) (by unfold maxLen; omega) (by omega) (by have h1 := HL5.out.old.size; have h2 := HL5.out.row.lt; simp; omega) ?_)
            intro v' w6 hown' hgrow _
            have HL6 : Hid (LR w w6 s P ps.length (k + 1) v' (ends s P (k + 1 + 1))) :=
              ⟨(HL5.out.row.alloc _).kept hgrow HL5.out.ne, by rw [HE1.out]; simpa [encI] using hown', (HL5.out.old.alloc HL5.out.old.size _).grown hgrow (by have := HL5.out.old.size; simp; omega) (fun k h => by have := (HL5.out.own.lt k h).1; omega)⟩
            clear hown' hgrow
            go_wp2_with fail
            exact ⟨⟨k + 1, by omega, by go_num, HL6.out⟩, by simp [intOf]; omega⟩
      · have hltI : ¬ (k : Int) < (s.size : Int) := by omega
        obtain rfl : k = s.size := by omega
        go_wp2_with fail
        go_ret
        exact ⟨_, rfl, HL.out.own, HL.out.old⟩
end Go.Proofs.Ytpgaeldjiiaoiaa
