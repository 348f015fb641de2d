import Derived.Test.YtafbheplaheohaaCF
import Derived.Test.YtafbheplaheohaaMF
namespace Go.Proofs.Ytafbheplaheohaa
open Go.RowKit
set_option linter.unusedVariables false

theorem cells_three (w : World) (A B C : Array Value) (ta tb tc : TypeId) (i : Nat) :
    (((w.alloc (.cells A ta)).alloc (.cells B tb)).alloc (.cells C tc)).cell? ⟨w.heap.size, i, none⟩ = A[i]? ∧ (((w.alloc (.cells A ta)).alloc (.cells B tb)).alloc (.cells C tc)).cell? ⟨w.heap.size + 1, i, none⟩ = B[i]? ∧ (((w.alloc (.cells A ta)).alloc (.cells B tb)).alloc (.cells C tc)).cell? ⟨w.heap.size + 2, i, none⟩ = C[i]? := by
  have s1 := size_alloc w (.cells A ta)
  have s2 := size_alloc (w.alloc (.cells A ta)) (.cells B tb)
  have b1 := (Below.refl _ (w.alloc (.cells A ta))).alloc (Nat.le_refl _) (.cells B tb)
  have b2 := (Below.refl _ ((w.alloc (.cells A ta)).alloc (.cells B tb))).alloc (Nat.le_refl _) (.cells C tc)
  have h1 := heap_alloc_new w (.cells A ta)
  have h2 := heap_alloc_new (w.alloc (.cells A ta)) (.cells B tb)
  have h3 := heap_alloc_new ((w.alloc (.cells A ta)).alloc (.cells B tb)) (.cells C tc)
  rw [s1] at h2
  rw [s2, s1] at h3
  have e1 := (b2.block w.heap.size (by omega)).trans ((b1.block w.heap.size (by omega)).trans h1)
  have e2 := (b2.block (w.heap.size + 1) (by omega)).trans h2
  exact ⟨Lib.cell_of_heap e1 i, Lib.cell_of_heap e2 i, Lib.cell_of_heap h3 i⟩
theorem below_drewN' {B : Nat} {a w : World} (h : Below B a w) (n : Nat) : Below B a (w.drewN n) := ⟨h.os, h.tape, h.output, h.size, h.block⟩
theorem Twos_tok (S : ByteArray) (k : Nat) (o : Bz) (w : World) (hs : S.size ≤ 100) (h : isOk (tokensF S.data.toList) k o = true) :
    Calls Try.prog 13 #[.string S] w fun e w' => ∃ b off c t, e = .returned (.tuple #[.slice (some ⟨b, off, none⟩) (k + 2) c, .int .i64 0]) ∧ b < w'.heap.size ∧ w'.cell? ⟨b, off + k * 3, none⟩ = some (.int .i64 2) ∧ w'.cell? ⟨b, off + k * 3 + 1, none⟩ = some (.string t) ∧ t.data.toList = o ∧ Below w.heap.size w w' := by
  obtain ⟨l, hl⟩ : ∃ l, tokensF S.data.toList = .ok l := by
    cases hr : tokensF S.data.toList with
    | error x => rw [hr] at h; cases h
    | ok l => exact ⟨l, rfl⟩
  rw [hl] at h
  simp only [isOk, Bool.and_eq_true, beq_iff_eq] at h
  obtain ⟨h1, h2⟩ := h
  have hk : k < l.length := by omega
  rw [List.getElem?_eq_getElem hk] at h2
  refine (Tokens_ok S w (by omega) hl).mono ?_
  rintro e w' ⟨a, c, rfl, g1, g2⟩
  obtain ⟨-, b, off, kk, t, wa, wc, F, rfl, hb, q0, q1, q2, i1, i2, hw⟩ := g1.cells hk
  cases hx : l[k] with
  | word m => rw [hx] at h2; cases h2
  | op t' =>
    rw [hx] at h2 i1 i2
    simp only [beq_iff_eq] at h2
    rw [h1]
    exact ⟨b, off, c, t, rfl, hb, by rw [q0, i1]; rfl, q1, by rw [i2, ← h2]; rfl, g2⟩
set_option maxRecDepth 100000 in
set_option maxHeartbeats 8000000 in
theorem twos_0 (w : World) : Calls Try.prog 10 #[.int .i64 0] w (fun e w' => e = .returned (.bool true) ∧ Below w.heap.size w w') := by
  obtain ⟨Q, hQ⟩ : ∃ Q : Ending → World → Prop, (fun e w' => e = .returned (.bool true) ∧ Below w.heap.size w w') = Q := ⟨_, rfl⟩
  rw [hQ]
  have HQ := Lib.hid hQ
  have HA := Lib.hid (alive_any w)
  have HT := Lib.hid (fun w' => Twos_tok ⟨#[50, 62, 102]⟩ 0 [50, 62] w' (by decide) (twos_all 0 (by decide)))
  clear hQ
  go_enter Try.func10, Try.ntmps10
  go_wp2_with (first
    | (go_at_call 12; refine HA.out.mono ?_; rintro e w1 ⟨rfl, h1⟩; have H1 := Lib.hid h1; clear h1; simp only [])
    | (go_at_call 13
       refine (HT.out _).mono ?_
       rintro e w5 ⟨b, off, c, t, rfl, hb, q0, q1, ht, h2⟩
       have H2 := Lib.hid h2
       have g0 := cell_under h2 (by simp) ((cells_three _ _ _ _ _ _ _ 0).2.1.trans rfl)
       have g1 := cell_under h2 (by simp) ((cells_three _ _ _ _ _ _ _ 0).2.2.trans rfl)
       have ad := addn b off 0
       have ad1 := addn (w1.heap.size + 1) 0 0
       have ad2 := addn (w1.heap.size + 2) 0 0
       rw [Nat.zero_add] at ad1 ad2
       have hteq : (t.toList == [50, 62]) = true := by rw [Lib.toList_data, ht]; rfl
       simp only [Nat.zero_mul, Nat.one_mul, Nat.add_zero] at q0 q1 ad
       clear ht h2
       simp only []))
  go_quiet ((go_at_call 15; exact Calls.quiet_of_same (num_any _ _)))
  have HB : Hid (Below w.heap.size w (w5.drewN nq)) := by
    have h3 := ((((Below.refl w1.heap.size w1).alloc (Nat.le_refl _) _).alloc (by rw [size_alloc]; omega) _).alloc (by rw [size_alloc, size_alloc]; omega) _).trans (H2.out.mono (by rw [size_alloc, size_alloc, size_alloc]; omega))
    exact below_drewN' (H1.out.trans (h3.mono H1.out.size)) nq
  go_wp2_with fail
  rw [← HQ.out]
  exact ⟨rfl, HB.out⟩
set_option maxRecDepth 100000 in
set_option maxHeartbeats 8000000 in
theorem twos_1 (w : World) : Calls Try.prog 10 #[.int .i64 1] w (fun e w' => e = .returned (.bool true) ∧ Below w.heap.size w w') := by
  obtain ⟨Q, hQ⟩ : ∃ Q : Ending → World → Prop, (fun e w' => e = .returned (.bool true) ∧ Below w.heap.size w w') = Q := ⟨_, rfl⟩
  rw [hQ]
  have HQ := Lib.hid hQ
  have HA := Lib.hid (alive_any w)
  have HT := Lib.hid (fun w' => Twos_tok ⟨#[97, 32, 50, 62, 102]⟩ 1 [50, 62] w' (by decide) (twos_all 1 (by decide)))
  clear hQ
  go_enter Try.func10, Try.ntmps10
  go_wp2_with (first
    | (go_at_call 12; refine HA.out.mono ?_; rintro e w1 ⟨rfl, h1⟩; have H1 := Lib.hid h1; clear h1; simp only [])
    | (go_at_call 13
       refine (HT.out _).mono ?_
       rintro e w5 ⟨b, off, c, t, rfl, hb, q0, q1, ht, h2⟩
       have H2 := Lib.hid h2
       have g0 := cell_under h2 (by simp) ((cells_three _ _ _ _ _ _ _ 1).2.1.trans rfl)
       have g1 := cell_under h2 (by simp) ((cells_three _ _ _ _ _ _ _ 1).2.2.trans rfl)
       have ad := addn b off 3
       have ad1 := addn (w1.heap.size + 1) 0 1
       have ad2 := addn (w1.heap.size + 2) 0 1
       rw [Nat.zero_add] at ad1 ad2
       have hteq : (t.toList == [50, 62]) = true := by rw [Lib.toList_data, ht]; rfl
       simp only [Nat.zero_mul, Nat.one_mul, Nat.add_zero] at q0 q1 ad
       clear ht h2
       simp only []))
  go_quiet ((go_at_call 15; exact Calls.quiet_of_same (num_any _ _)))
  have HB : Hid (Below w.heap.size w (w5.drewN nq)) := by
    have h3 := ((((Below.refl w1.heap.size w1).alloc (Nat.le_refl _) _).alloc (by rw [size_alloc]; omega) _).alloc (by rw [size_alloc, size_alloc]; omega) _).trans (H2.out.mono (by rw [size_alloc, size_alloc, size_alloc]; omega))
    exact below_drewN' (H1.out.trans (h3.mono H1.out.size)) nq
  go_wp2_with fail
  rw [← HQ.out]
  exact ⟨rfl, HB.out⟩
set_option maxRecDepth 100000 in
set_option maxHeartbeats 8000000 in
theorem twos_2 (w : World) : Calls Try.prog 10 #[.int .i64 2] w (fun e w' => e = .returned (.bool true) ∧ Below w.heap.size w w') := by
  obtain ⟨Q, hQ⟩ : ∃ Q : Ending → World → Prop, (fun e w' => e = .returned (.bool true) ∧ Below w.heap.size w w') = Q := ⟨_, rfl⟩
  rw [hQ]
  have HQ := Lib.hid hQ
  have HA := Lib.hid (alive_any w)
  have HT := Lib.hid (fun w' => Twos_tok ⟨#[97, 50, 62, 102]⟩ 1 [62] w' (by decide) (twos_all 2 (by decide)))
  clear hQ
  go_enter Try.func10, Try.ntmps10
  go_wp2_with (first
    | (go_at_call 12; refine HA.out.mono ?_; rintro e w1 ⟨rfl, h1⟩; have H1 := Lib.hid h1; clear h1; simp only [])
    | (go_at_call 13
       refine (HT.out _).mono ?_
       rintro e w5 ⟨b, off, c, t, rfl, hb, q0, q1, ht, h2⟩
       have H2 := Lib.hid h2
       have g0 := cell_under h2 (by simp) ((cells_three _ _ _ _ _ _ _ 2).2.1.trans rfl)
       have g1 := cell_under h2 (by simp) ((cells_three _ _ _ _ _ _ _ 2).2.2.trans rfl)
       have ad := addn b off 3
       have ad1 := addn (w1.heap.size + 1) 0 2
       have ad2 := addn (w1.heap.size + 2) 0 2
       rw [Nat.zero_add] at ad1 ad2
       have hteq : (t.toList == [62]) = true := by rw [Lib.toList_data, ht]; rfl
       simp only [Nat.zero_mul, Nat.one_mul, Nat.add_zero] at q0 q1 ad
       clear ht h2
       simp only []))
  go_quiet ((go_at_call 15; exact Calls.quiet_of_same (num_any _ _)))
  have HB : Hid (Below w.heap.size w (w5.drewN nq)) := by
    have h3 := ((((Below.refl w1.heap.size w1).alloc (Nat.le_refl _) _).alloc (by rw [size_alloc]; omega) _).alloc (by rw [size_alloc, size_alloc]; omega) _).trans (H2.out.mono (by rw [size_alloc, size_alloc, size_alloc]; omega))
    exact below_drewN' (H1.out.trans (h3.mono H1.out.size)) nq
  go_wp2_with fail
  rw [← HQ.out]
  exact ⟨rfl, HB.out⟩
set_option maxRecDepth 100000 in
set_option maxHeartbeats 8000000 in
theorem twos_3 (w : World) : Calls Try.prog 10 #[.int .i64 3] w (fun e w' => e = .returned (.bool true) ∧ Below w.heap.size w w') := by
  obtain ⟨Q, hQ⟩ : ∃ Q : Ending → World → Prop, (fun e w' => e = .returned (.bool true) ∧ Below w.heap.size w w') = Q := ⟨_, rfl⟩
  rw [hQ]
  have HQ := Lib.hid hQ
  have HA := Lib.hid (alive_any w)
  have HT := Lib.hid (fun w' => Twos_tok ⟨#[50, 32, 62, 102]⟩ 1 [62] w' (by decide) (twos_all 3 (by decide)))
  clear hQ
  go_enter Try.func10, Try.ntmps10
  go_wp2_with (first
    | (go_at_call 12; refine HA.out.mono ?_; rintro e w1 ⟨rfl, h1⟩; have H1 := Lib.hid h1; clear h1; simp only [])
    | (go_at_call 13
       refine (HT.out _).mono ?_
       rintro e w5 ⟨b, off, c, t, rfl, hb, q0, q1, ht, h2⟩
       have H2 := Lib.hid h2
       have g0 := cell_under h2 (by simp) ((cells_three _ _ _ _ _ _ _ 3).2.1.trans rfl)
       have g1 := cell_under h2 (by simp) ((cells_three _ _ _ _ _ _ _ 3).2.2.trans rfl)
       have ad := addn b off 3
       have ad1 := addn (w1.heap.size + 1) 0 3
       have ad2 := addn (w1.heap.size + 2) 0 3
       rw [Nat.zero_add] at ad1 ad2
       have hteq : (t.toList == [62]) = true := by rw [Lib.toList_data, ht]; rfl
       simp only [Nat.zero_mul, Nat.one_mul, Nat.add_zero] at q0 q1 ad
       clear ht h2
       simp only []))
  go_quiet ((go_at_call 15; exact Calls.quiet_of_same (num_any _ _)))
  have HB : Hid (Below w.heap.size w (w5.drewN nq)) := by
    have h3 := ((((Below.refl w1.heap.size w1).alloc (Nat.le_refl _) _).alloc (by rw [size_alloc]; omega) _).alloc (by rw [size_alloc, size_alloc]; omega) _).trans (H2.out.mono (by rw [size_alloc, size_alloc, size_alloc]; omega))
    exact below_drewN' (H1.out.trans (h3.mono H1.out.size)) nq
  go_wp2_with fail
  rw [← HQ.out]
  exact ⟨rfl, HB.out⟩
set_option maxRecDepth 100000 in
set_option maxHeartbeats 8000000 in
theorem twos_4 (w : World) : Calls Try.prog 10 #[.int .i64 4] w (fun e w' => e = .returned (.bool true) ∧ Below w.heap.size w w') := by
  obtain ⟨Q, hQ⟩ : ∃ Q : Ending → World → Prop, (fun e w' => e = .returned (.bool true) ∧ Below w.heap.size w w') = Q := ⟨_, rfl⟩
  rw [hQ]
  have HQ := Lib.hid hQ
  have HA := Lib.hid (alive_any w)
  have HT := Lib.hid (fun w' => Twos_tok ⟨#[50, 62, 62, 102]⟩ 0 [50, 62, 62] w' (by decide) (twos_all 4 (by decide)))
  clear hQ
  go_enter Try.func10, Try.ntmps10
  go_wp2_with (first
    | (go_at_call 12; refine HA.out.mono ?_; rintro e w1 ⟨rfl, h1⟩; have H1 := Lib.hid h1; clear h1; simp only [])
    | (go_at_call 13
       refine (HT.out _).mono ?_
       rintro e w5 ⟨b, off, c, t, rfl, hb, q0, q1, ht, h2⟩
       have H2 := Lib.hid h2
       have g0 := cell_under h2 (by simp) ((cells_three _ _ _ _ _ _ _ 4).2.1.trans rfl)
       have g1 := cell_under h2 (by simp) ((cells_three _ _ _ _ _ _ _ 4).2.2.trans rfl)
       have ad := addn b off 0
       have ad1 := addn (w1.heap.size + 1) 0 4
       have ad2 := addn (w1.heap.size + 2) 0 4
       rw [Nat.zero_add] at ad1 ad2
       have hteq : (t.toList == [50, 62, 62]) = true := by rw [Lib.toList_data, ht]; rfl
       simp only [Nat.zero_mul, Nat.one_mul, Nat.add_zero] at q0 q1 ad
       clear ht h2
       simp only []))
  go_quiet ((go_at_call 15; exact Calls.quiet_of_same (num_any _ _)))
  have HB : Hid (Below w.heap.size w (w5.drewN nq)) := by
    have h3 := ((((Below.refl w1.heap.size w1).alloc (Nat.le_refl _) _).alloc (by rw [size_alloc]; omega) _).alloc (by rw [size_alloc, size_alloc]; omega) _).trans (H2.out.mono (by rw [size_alloc, size_alloc, size_alloc]; omega))
    exact below_drewN' (H1.out.trans (h3.mono H1.out.size)) nq
  go_wp2_with fail
  rw [← HQ.out]
  exact ⟨rfl, HB.out⟩
set_option maxRecDepth 100000 in
set_option maxHeartbeats 8000000 in
theorem twos_5 (w : World) : Calls Try.prog 10 #[.int .i64 5] w (fun e w' => e = .returned (.bool true) ∧ Below w.heap.size w w') := by
  obtain ⟨Q, hQ⟩ : ∃ Q : Ending → World → Prop, (fun e w' => e = .returned (.bool true) ∧ Below w.heap.size w w') = Q := ⟨_, rfl⟩
  rw [hQ]
  have HQ := Lib.hid hQ
  have HA := Lib.hid (alive_any w)
  have HT := Lib.hid (fun w' => Twos_tok ⟨#[97, 32, 50, 62, 62, 102]⟩ 1 [50, 62, 62] w' (by decide) (twos_all 5 (by decide)))
  clear hQ
  go_enter Try.func10, Try.ntmps10
  go_wp2_with (first
    | (go_at_call 12; refine HA.out.mono ?_; rintro e w1 ⟨rfl, h1⟩; have H1 := Lib.hid h1; clear h1; simp only [])
    | (go_at_call 13
       refine (HT.out _).mono ?_
       rintro e w5 ⟨b, off, c, t, rfl, hb, q0, q1, ht, h2⟩
       have H2 := Lib.hid h2
       have g0 := cell_under h2 (by simp) ((cells_three _ _ _ _ _ _ _ 5).2.1.trans rfl)
       have g1 := cell_under h2 (by simp) ((cells_three _ _ _ _ _ _ _ 5).2.2.trans rfl)
       have ad := addn b off 3
       have ad1 := addn (w1.heap.size + 1) 0 5
       have ad2 := addn (w1.heap.size + 2) 0 5
       rw [Nat.zero_add] at ad1 ad2
       have hteq : (t.toList == [50, 62, 62]) = true := by rw [Lib.toList_data, ht]; rfl
       simp only [Nat.zero_mul, Nat.one_mul, Nat.add_zero] at q0 q1 ad
       clear ht h2
       simp only []))
  go_quiet ((go_at_call 15; exact Calls.quiet_of_same (num_any _ _)))
  have HB : Hid (Below w.heap.size w (w5.drewN nq)) := by
    have h3 := ((((Below.refl w1.heap.size w1).alloc (Nat.le_refl _) _).alloc (by rw [size_alloc]; omega) _).alloc (by rw [size_alloc, size_alloc]; omega) _).trans (H2.out.mono (by rw [size_alloc, size_alloc, size_alloc]; omega))
    exact below_drewN' (H1.out.trans (h3.mono H1.out.size)) nq
  go_wp2_with fail
  rw [← HQ.out]
  exact ⟨rfl, HB.out⟩
set_option maxRecDepth 100000 in
set_option maxHeartbeats 8000000 in
theorem twos_6 (w : World) : Calls Try.prog 10 #[.int .i64 6] w (fun e w' => e = .returned (.bool true) ∧ Below w.heap.size w w') := by
  obtain ⟨Q, hQ⟩ : ∃ Q : Ending → World → Prop, (fun e w' => e = .returned (.bool true) ∧ Below w.heap.size w w') = Q := ⟨_, rfl⟩
  rw [hQ]
  have HQ := Lib.hid hQ
  have HA := Lib.hid (alive_any w)
  have HT := Lib.hid (fun w' => Twos_tok ⟨#[34, 50, 34, 62, 102]⟩ 1 [62] w' (by decide) (twos_all 6 (by decide)))
  clear hQ
  go_enter Try.func10, Try.ntmps10
  go_wp2_with (first
    | (go_at_call 12; refine HA.out.mono ?_; rintro e w1 ⟨rfl, h1⟩; have H1 := Lib.hid h1; clear h1; simp only [])
    | (go_at_call 13
       refine (HT.out _).mono ?_
       rintro e w5 ⟨b, off, c, t, rfl, hb, q0, q1, ht, h2⟩
       have H2 := Lib.hid h2
       have g0 := cell_under h2 (by simp) ((cells_three _ _ _ _ _ _ _ 6).2.1.trans rfl)
       have g1 := cell_under h2 (by simp) ((cells_three _ _ _ _ _ _ _ 6).2.2.trans rfl)
       have ad := addn b off 3
       have ad1 := addn (w1.heap.size + 1) 0 6
       have ad2 := addn (w1.heap.size + 2) 0 6
       rw [Nat.zero_add] at ad1 ad2
       have hteq : (t.toList == [62]) = true := by rw [Lib.toList_data, ht]; rfl
       simp only [Nat.zero_mul, Nat.one_mul, Nat.add_zero] at q0 q1 ad
       clear ht h2
       simp only []))
  go_quiet ((go_at_call 15; exact Calls.quiet_of_same (num_any _ _)))
  have HB : Hid (Below w.heap.size w (w5.drewN nq)) := by
    have h3 := ((((Below.refl w1.heap.size w1).alloc (Nat.le_refl _) _).alloc (by rw [size_alloc]; omega) _).alloc (by rw [size_alloc, size_alloc]; omega) _).trans (H2.out.mono (by rw [size_alloc, size_alloc, size_alloc]; omega))
    exact below_drewN' (H1.out.trans (h3.mono H1.out.size)) nq
  go_wp2_with fail
  rw [← HQ.out]
  exact ⟨rfl, HB.out⟩
set_option maxRecDepth 100000 in
set_option maxHeartbeats 8000000 in
theorem twos_7 (w : World) : Calls Try.prog 10 #[.int .i64 7] w (fun e w' => e = .returned (.bool true) ∧ Below w.heap.size w w') := by
  obtain ⟨Q, hQ⟩ : ∃ Q : Ending → World → Prop, (fun e w' => e = .returned (.bool true) ∧ Below w.heap.size w w') = Q := ⟨_, rfl⟩
  rw [hQ]
  have HQ := Lib.hid hQ
  have HA := Lib.hid (alive_any w)
  have HT := Lib.hid (fun w' => Twos_tok ⟨#[49, 50, 62, 102]⟩ 1 [62] w' (by decide) (twos_all 7 (by decide)))
  clear hQ
  go_enter Try.func10, Try.ntmps10
  go_wp2_with (first
    | (go_at_call 12; refine HA.out.mono ?_; rintro e w1 ⟨rfl, h1⟩; have H1 := Lib.hid h1; clear h1; simp only [])
    | (go_at_call 13
       refine (HT.out _).mono ?_
       rintro e w5 ⟨b, off, c, t, rfl, hb, q0, q1, ht, h2⟩
       have H2 := Lib.hid h2
       have g0 := cell_under h2 (by simp) ((cells_three _ _ _ _ _ _ _ 7).2.1.trans rfl)
       have g1 := cell_under h2 (by simp) ((cells_three _ _ _ _ _ _ _ 7).2.2.trans rfl)
       have ad := addn b off 3
       have ad1 := addn (w1.heap.size + 1) 0 7
       have ad2 := addn (w1.heap.size + 2) 0 7
       rw [Nat.zero_add] at ad1 ad2
       have hteq : (t.toList == [62]) = true := by rw [Lib.toList_data, ht]; rfl
       simp only [Nat.zero_mul, Nat.one_mul, Nat.add_zero] at q0 q1 ad
       clear ht h2
       simp only []))
  go_quiet ((go_at_call 15; exact Calls.quiet_of_same (num_any _ _)))
  have HB : Hid (Below w.heap.size w (w5.drewN nq)) := by
    have h3 := ((((Below.refl w1.heap.size w1).alloc (Nat.le_refl _) _).alloc (by rw [size_alloc]; omega) _).alloc (by rw [size_alloc, size_alloc]; omega) _).trans (H2.out.mono (by rw [size_alloc, size_alloc, size_alloc]; omega))
    exact below_drewN' (H1.out.trans (h3.mono H1.out.size)) nq
  go_wp2_with fail
  rw [← HQ.out]
  exact ⟨rfl, HB.out⟩
set_option maxRecDepth 100000 in
set_option maxHeartbeats 8000000 in
theorem twos_8 (w : World) : Calls Try.prog 10 #[.int .i64 8] w (fun e w' => e = .returned (.bool true) ∧ Below w.heap.size w w') := by
  obtain ⟨Q, hQ⟩ : ∃ Q : Ending → World → Prop, (fun e w' => e = .returned (.bool true) ∧ Below w.heap.size w w') = Q := ⟨_, rfl⟩
  rw [hQ]
  have HQ := Lib.hid hQ
  have HA := Lib.hid (alive_any w)
  have HT := Lib.hid (fun w' => Twos_tok ⟨#[51, 62, 102]⟩ 1 [62] w' (by decide) (twos_all 8 (by decide)))
  clear hQ
  go_enter Try.func10, Try.ntmps10
  go_wp2_with (first
    | (go_at_call 12; refine HA.out.mono ?_; rintro e w1 ⟨rfl, h1⟩; have H1 := Lib.hid h1; clear h1; simp only [])
    | (go_at_call 13
       refine (HT.out _).mono ?_
       rintro e w5 ⟨b, off, c, t, rfl, hb, q0, q1, ht, h2⟩
       have H2 := Lib.hid h2
       have g0 := cell_under h2 (by simp) ((cells_three _ _ _ _ _ _ _ 8).2.1.trans rfl)
       have g1 := cell_under h2 (by simp) ((cells_three _ _ _ _ _ _ _ 8).2.2.trans rfl)
       have ad := addn b off 3
       have ad1 := addn (w1.heap.size + 1) 0 8
       have ad2 := addn (w1.heap.size + 2) 0 8
       rw [Nat.zero_add] at ad1 ad2
       have hteq : (t.toList == [62]) = true := by rw [Lib.toList_data, ht]; rfl
       simp only [Nat.zero_mul, Nat.one_mul, Nat.add_zero] at q0 q1 ad
       clear ht h2
       simp only []))
  go_quiet ((go_at_call 15; exact Calls.quiet_of_same (num_any _ _)))
  have HB : Hid (Below w.heap.size w (w5.drewN nq)) := by
    have h3 := ((((Below.refl w1.heap.size w1).alloc (Nat.le_refl _) _).alloc (by rw [size_alloc]; omega) _).alloc (by rw [size_alloc, size_alloc]; omega) _).trans (H2.out.mono (by rw [size_alloc, size_alloc, size_alloc]; omega))
    exact below_drewN' (H1.out.trans (h3.mono H1.out.size)) nq
  go_wp2_with fail
  rw [← HQ.out]
  exact ⟨rfl, HB.out⟩
set_option maxRecDepth 100000 in
set_option maxHeartbeats 8000000 in
theorem twos_9 (w : World) : Calls Try.prog 10 #[.int .i64 9] w (fun e w' => e = .returned (.bool true) ∧ Below w.heap.size w w') := by
  obtain ⟨Q, hQ⟩ : ∃ Q : Ending → World → Prop, (fun e w' => e = .returned (.bool true) ∧ Below w.heap.size w w') = Q := ⟨_, rfl⟩
  rw [hQ]
  have HQ := Lib.hid hQ
  have HA := Lib.hid (alive_any w)
  have HT := Lib.hid (fun w' => Twos_tok ⟨#[50, 60, 102]⟩ 1 [60] w' (by decide) (twos_all 9 (by decide)))
  clear hQ
  go_enter Try.func10, Try.ntmps10
  go_wp2_with (first
    | (go_at_call 12; refine HA.out.mono ?_; rintro e w1 ⟨rfl, h1⟩; have H1 := Lib.hid h1; clear h1; simp only [])
    | (go_at_call 13
       refine (HT.out _).mono ?_
       rintro e w5 ⟨b, off, c, t, rfl, hb, q0, q1, ht, h2⟩
       have H2 := Lib.hid h2
       have g0 := cell_under h2 (by simp) ((cells_three _ _ _ _ _ _ _ 9).2.1.trans rfl)
       have g1 := cell_under h2 (by simp) ((cells_three _ _ _ _ _ _ _ 9).2.2.trans rfl)
       have ad := addn b off 3
       have ad1 := addn (w1.heap.size + 1) 0 9
       have ad2 := addn (w1.heap.size + 2) 0 9
       rw [Nat.zero_add] at ad1 ad2
       have hteq : (t.toList == [60]) = true := by rw [Lib.toList_data, ht]; rfl
       simp only [Nat.zero_mul, Nat.one_mul, Nat.add_zero] at q0 q1 ad
       clear ht h2
       simp only []))
  go_quiet ((go_at_call 15; exact Calls.quiet_of_same (num_any _ _)))
  have HB : Hid (Below w.heap.size w (w5.drewN nq)) := by
    have h3 := ((((Below.refl w1.heap.size w1).alloc (Nat.le_refl _) _).alloc (by rw [size_alloc]; omega) _).alloc (by rw [size_alloc, size_alloc]; omega) _).trans (H2.out.mono (by rw [size_alloc, size_alloc, size_alloc]; omega))
    exact below_drewN' (H1.out.trans (h3.mono H1.out.size)) nq
  go_wp2_with fail
  rw [← HQ.out]
  exact ⟨rfl, HB.out⟩
set_option maxRecDepth 100000 in
set_option maxHeartbeats 8000000 in
theorem twos_10 (w : World) : Calls Try.prog 10 #[.int .i64 10] w (fun e w' => e = .returned (.bool true) ∧ Below w.heap.size w w') := by
  obtain ⟨Q, hQ⟩ : ∃ Q : Ending → World → Prop, (fun e w' => e = .returned (.bool true) ∧ Below w.heap.size w w') = Q := ⟨_, rfl⟩
  rw [hQ]
  have HQ := Lib.hid hQ
  have HA := Lib.hid (alive_any w)
  have HT := Lib.hid (fun w' => Twos_tok ⟨#[36, 120, 50, 62, 102]⟩ 1 [62] w' (by decide) (twos_all 10 (by decide)))
  clear hQ
  go_enter Try.func10, Try.ntmps10
  go_wp2_with (first
    | (go_at_call 12; refine HA.out.mono ?_; rintro e w1 ⟨rfl, h1⟩; have H1 := Lib.hid h1; clear h1; simp only [])
    | (go_at_call 13
       refine (HT.out _).mono ?_
       rintro e w5 ⟨b, off, c, t, rfl, hb, q0, q1, ht, h2⟩
       have H2 := Lib.hid h2
       have g0 := cell_under h2 (by simp) ((cells_three _ _ _ _ _ _ _ 10).2.1.trans rfl)
       have g1 := cell_under h2 (by simp) ((cells_three _ _ _ _ _ _ _ 10).2.2.trans rfl)
       have ad := addn b off 3
       have ad1 := addn (w1.heap.size + 1) 0 10
       have ad2 := addn (w1.heap.size + 2) 0 10
       rw [Nat.zero_add] at ad1 ad2
       have hteq : (t.toList == [62]) = true := by rw [Lib.toList_data, ht]; rfl
       simp only [Nat.zero_mul, Nat.one_mul, Nat.add_zero] at q0 q1 ad
       clear ht h2
       simp only []))
  go_quiet ((go_at_call 15; exact Calls.quiet_of_same (num_any _ _)))
  have HB : Hid (Below w.heap.size w (w5.drewN nq)) := by
    have h3 := ((((Below.refl w1.heap.size w1).alloc (Nat.le_refl _) _).alloc (by rw [size_alloc]; omega) _).alloc (by rw [size_alloc, size_alloc]; omega) _).trans (H2.out.mono (by rw [size_alloc, size_alloc, size_alloc]; omega))
    exact below_drewN' (H1.out.trans (h3.mono H1.out.size)) nq
  go_wp2_with fail
  rw [← HQ.out]
  exact ⟨rfl, HB.out⟩
set_option maxRecDepth 100000 in
set_option maxHeartbeats 8000000 in
theorem twos_walk (z : Int) (w : World) : Calls Try.prog 10 #[.int .i64 z] w (fun e w' => e = .returned (.bool true) ∧ Below w.heap.size w w') := by
  by_cases hin : 0 ≤ z ∧ z < 11
  · have hc : z = 0 ∨ z = 1 ∨ z = 2 ∨ z = 3 ∨ z = 4 ∨ z = 5 ∨ z = 6 ∨ z = 7 ∨ z = 8 ∨ z = 9 ∨ z = 10 := by omega
    rcases hc with rfl | rfl | rfl | rfl | rfl | rfl | rfl | rfl | rfl | rfl | rfl
    · exact twos_0 w
    · exact twos_1 w
    · exact twos_2 w
    · exact twos_3 w
    · exact twos_4 w
    · exact twos_5 w
    · exact twos_6 w
    · exact twos_7 w
    · exact twos_8 w
    · exact twos_9 w
    · exact twos_10 w
  obtain ⟨Q, hQ⟩ : ∃ Q : Ending → World → Prop, (fun e w' => e = .returned (.bool true) ∧ Below w.heap.size w w') = Q := ⟨_, rfl⟩
  rw [hQ]
  have HQ := Lib.hid hQ
  have HA := Lib.hid (alive_any w)
  clear hQ
  have HEND : Hid (∀ w1 A B C ta tb tc, Below w.heap.size w w1 → Below w.heap.size w (((w1.alloc (.cells A ta)).alloc (.cells B tb)).alloc (.cells C tc))) := fun w1 A B C ta tb tc h =>
    h.trans (((((Below.refl w1.heap.size w1).alloc (Nat.le_refl _) _).alloc (by rw [size_alloc]; omega) _).alloc (by rw [size_alloc, size_alloc]; omega) _).mono h.size)
  by_cases h0 : z < 0
  · have hd : decide (z < 0) = true := decide_eq_true h0
    clear hin
    go_enter Try.func10, Try.ntmps10
    go_wp2_with (go_at_call 12; refine HA.out.mono ?_; rintro e w1 ⟨rfl, h1⟩; have H1 := Lib.hid h1; clear h1; simp only [])
    rw [← HQ.out]
    exact ⟨rfl, HEND.out _ _ _ _ _ _ _ H1.out⟩
  · have hd : decide (z < 0) = false := decide_eq_false h0
    have h2 : (11 : Int) ≤ z := by omega
    have hd2 : decide ((11 : Int) ≤ z) = true := decide_eq_true h2
    clear hin
    go_enter Try.func10, Try.ntmps10
    go_wp2_with (go_at_call 12; refine HA.out.mono ?_; rintro e w1 ⟨rfl, h1⟩; have H1 := Lib.hid h1; clear h1; simp only [])
    rw [← HQ.out]
    exact ⟨rfl, HEND.out _ _ _ _ _ _ _ H1.out⟩
end Go.Proofs.Ytafbheplaheohaa
