import Derived.Test.YthgddbdkdloobaaDoorQA
import Derived.Test.YthgddbdkdloobaaDoorQV
import Derived.Deep.QuietTactic
namespace Go.Proofs.YthgddbdkdloobaaDoor
open Go.RowKit
set_option linter.unusedVariables false

theorem itl_size {a : Int} (h1 : -9223372036854775808 ≤ a) (h2 : a < 9223372036854775808) : (⟨(itl a).toArray⟩ : ByteArray).size ≤ 20 := by
  have := itl_len h1 h2
  show (itl a).toArray.size ≤ 20
  simpa using this
theorem PV_new2 (w : World) (a b c d : ByteArray) (e : TypeId) (hb : b.size ≤ 9223372036854775807) (hd : d.size ≤ 9223372036854775807) :
    PV (w.alloc (.cells #[.string a, .string b, .string c, .string d] e)).heap.size (w.alloc (.cells #[.string a, .string b, .string c, .string d] e)) (.slice (some ⟨w.heap.size, 0, none⟩) 2 2) [(a, b), (c, d)] := by
  have h := heap_alloc_new w (.cells #[.string a, .string b, .string c, .string d] e)
  have hz : w.heap.size < (w.alloc (.cells #[.string a, .string b, .string c, .string d] e)).heap.size := by rw [World.size_alloc]; omega
  refine ⟨by simp, ?_, .inr ⟨w.heap.size, 0, 2, rfl, hz, by omega, fun k hk => ?_⟩⟩
  · intro p hp
    simp at hp
    rcases hp with rfl | rfl
    · exact hb
    · exact hd
  · rw [cell_of_row _ _ _ _ _ _ h, cell_of_row _ _ _ _ _ _ h]
    match k, hk with
    | 0, _ => exact ⟨rfl, rfl⟩
    | 1, _ => exact ⟨rfl, rfl⟩
theorem PV_new1 (w : World) (a b : ByteArray) (e : TypeId) (hb : b.size ≤ 9223372036854775807) :
    PV (w.alloc (.cells #[.string a, .string b] e)).heap.size (w.alloc (.cells #[.string a, .string b] e)) (.slice (some ⟨w.heap.size, 0, none⟩) 1 1) [(a, b)] := by
  have h := heap_alloc_new w (.cells #[.string a, .string b] e)
  have hz : w.heap.size < (w.alloc (.cells #[.string a, .string b] e)).heap.size := by rw [World.size_alloc]; omega
  refine ⟨by simp, ?_, .inr ⟨w.heap.size, 0, 1, rfl, hz, by omega, fun k hk => ?_⟩⟩
  · intro p hp
    simp at hp
    subst hp
    exact hb
  · rw [cell_of_row _ _ _ _ _ _ h, cell_of_row _ _ _ _ _ _ h]
    match k, hk with
    | 0, _ => exact ⟨rfl, rfl⟩
theorem Vl_xy {A B : ByteArray} {a b : Int} (hA : A.data.toList = itl a) (hB : B.data.toList = itl b) (ha : -9223372036854775808 ≤ a ∧ a ≤ 9223372036854775807) (hb : -9223372036854775808 ≤ b ∧ b ≤ 9223372036854775807) :
    Vl [(⟨#[120]⟩, A), (⟨#[121]⟩, B)] [120] = some a ∧ Vl [(⟨#[120]⟩, A), (⟨#[121]⟩, B)] [121] = some b := by
  constructor
  · show valOf A.data.toList = some a
    rw [hA]; exact valOf_itl (by omega) (by omega)
  · show valOf B.data.toList = some b
    rw [hB]; exact valOf_itl (by omega) (by omega)
/-- Both readings of two numbers and an operator. -/
theorem numbers_val {a b : Int} (ha : -9223372036854775808 ≤ a ∧ a ≤ 9223372036854775807) (hb : -9223372036854775808 ≤ b ∧ b ≤ 9223372036854775807) {op g : Bs} (hop : op ∈ opsL) (hg : ∀ c ∈ g, isBl c = true) (hgl : g.length ≤ 3) (l : Prs)
    (h1 : Vl l [120] = some a) (h2 : Vl l [121] = some b) :
    evalL false (40 :: (itl a ++ 41 :: (g ++ (op ++ (g ++ 40 :: (itl b ++ [41])))))) (Vl []) = (if (ap op a b).2 then (0, 15) else ((ap op a b).1, 0)) ∧
    evalL false (120 :: (g ++ (op ++ (g ++ [121])))) (Vl l) = (if (ap op a b).2 then (0, 15) else ((ap op a b).1, 0)) ∧ ((ap op a b).2 = true → True) := by
  have l1 := itl_len (a := a) (by omega) (by omega)
  have l2 := itl_len (a := b) (by omega) (by omega)
  have lo := op_len hop
  refine ⟨?_, ?_, fun _ => trivial⟩
  · have h := two_val (V := Vl []) (atom_itl (a := a) (by omega) (by omega) (by omega)) (atom_itl (a := b) (by omega) (by omega) (by omega)) hop hg (tail_par _) (by simp; omega)
    rw [← h]
    congr 1
    simp
  · have hx : Atom (Vl l) 0 [120] a false := atom_name (by decide) (by decide) (by decide) h1
    have hy : Atom (Vl l) 0 [121] b false := atom_name (by decide) (by decide) (by decide) h2
    exact two_val (P := [120]) (Q := [121]) hx hy hop hg (by intro t c u e; cases e; decide) (by simp; omega)
set_option maxRecDepth 100000 in
set_option maxHeartbeats 8000000 in
theorem numbers_walk (a b op : Int) (blank : Bool) (ha : -9223372036854775808 ≤ a ∧ a ≤ 9223372036854775807) (hb : -9223372036854775808 ≤ b ∧ b ≤ 9223372036854775807) (ho : -9223372036854775808 ≤ op ∧ op ≤ 9223372036854775807) (W : World) :
    Calls Tryd.prog 4 #[.int .i64 a, .int .i64 b, .int .i64 op, .bool blank] W fun e W' => e = .returned (.bool true) ∧ Below W.heap.size W W' := by
  by_cases c0 : op < 0
  case pos =>
    go_enter Tryd.func4, Tryd.ntmps4
    go_wp2_with fail
    refine (alive_any _).mono ?_
    rintro e w1 ⟨rfl, hB1⟩
    have HB1 := Lib.hid hB1
    clear hB1
    simp only []
    go_wp2_with fail
    refine (ops_any _).mono ?_
    rintro e w2 ⟨⟨B, rfl, hO⟩, hB2⟩
    have HB2 := Lib.hid (HB1.out.trans (hB2.mono HB1.out.size))
    have HO := Lib.hid hO
    clear hB2 hO
    simp only []
    go_wp2_with fail
    go_ret
    exact ⟨rfl, HB2.out⟩
  by_cases c1 : 18 ≤ op
  case pos =>
    go_enter Tryd.func4, Tryd.ntmps4
    go_wp2_with fail
    refine (alive_any _).mono ?_
    rintro e w1 ⟨rfl, hB1⟩
    have HB1 := Lib.hid hB1
    clear hB1
    simp only []
    go_wp2_with fail
    refine (ops_any _).mono ?_
    rintro e w2 ⟨⟨B, rfl, hO⟩, hB2⟩
    have HB2 := Lib.hid (HB1.out.trans (hB2.mono HB1.out.size))
    have HO := Lib.hid hO
    clear hB2 hO
    simp only []
    go_wp2_with fail
    go_ret
    exact ⟨rfl, HB2.out⟩
  obtain ⟨k, rfl⟩ : ∃ k : Nat, op = (k : Int) := ⟨op.toNat, by omega⟩
  have hk : k < 18 := by omega
  have c0' : (0 : Int) ≤ (k : Int) := by omega
  have c1' : (k : Int) < 18 := by omega
  obtain ⟨O, hO⟩ : ∃ O, opsB[k]'(hk) = O := ⟨_, rfl⟩
  have hop := opsB_ops ⟨k, hk⟩
  simp only at hop
  rw [hO] at hop
  have hOl := op_len hop
  have HOC := Lib.hid (fun (w : World) (B : Nat) (h : Ops w B) => hO ▸ h.2 k hk)
  have hOs : O.size ≤ 2 := by rw [dlen] at hOl; exact hOl
  obtain ⟨A, hA⟩ : ∃ A : ByteArray, ⟨(itl a).toArray⟩ = A := ⟨_, rfl⟩
  obtain ⟨C, hC⟩ : ∃ C : ByteArray, ⟨(itl b).toArray⟩ = C := ⟨_, rfl⟩
  have hAs : A.size ≤ 20 := by rw [← hA]; exact itl_size (by omega) (by omega)
  have hCs : C.size ≤ 20 := by rw [← hC]; exact itl_size (by omega) (by omega)
  have hAd : A.data.toList = itl a := by rw [← hA]
  have hCd : C.data.toList = itl b := by rw [← hC]
  have HIA := Lib.hid (fun w => RefInt_any a (by omega) (by omega) w)
  have HIC := Lib.hid (fun w => RefInt_any b (by omega) (by omega) w)
  rw [hA] at HIA
  rw [hC] at HIC
  obtain ⟨Z, hZ⟩ : ∃ Z : ByteArray, Z = if blank then ⟨#[32, 9, 10]⟩ else ⟨#[]⟩ := ⟨_, rfl⟩
  have hgl : Z.data.toList.length ≤ 3 := by rw [hZ]; cases blank <;> decide
  have hg : ∀ c ∈ Z.data.toList, isBl c = true := by rw [hZ]; cases blank <;> decide
  obtain ⟨v1, v2, _⟩ := numbers_val ha hb hop hg hgl [(⟨#[120]⟩, A), (⟨#[121]⟩, C)] (Vl_xy hAd hCd ha hb).1 (Vl_xy hAd hCd ha hb).2
  have hz := ap_zero hop a b
  obtain ⟨b1, h1⟩ : ∃ b, (O.toList == [47]) = b := ⟨_, rfl⟩
  obtain ⟨b2, h2⟩ : ∃ b, (O.toList == [37]) = b := ⟨_, rfl⟩
  obtain ⟨b3, h3⟩ : ∃ b3, (b == 0) = b3 := ⟨_, rfl⟩
  have hzz : (ap O.data.toList a b).2 = ((b1 || b2) && b3) := by
    rw [hz, ← h1, ← h2, ← h3, Lib.toList_data, Bool.eq_iff_iff, decide_eq_true_iff, Bool.and_eq_true, Bool.or_eq_true, beq_iff_eq, beq_iff_eq, beq_iff_eq]
  rw [hzz] at v1 v2
  obtain ⟨r, hr⟩ : ∃ r, (ap O.data.toList a b).1 = r := ⟨_, rfl⟩
  rw [hr] at v1 v2
  have hAl : A.data.toList.length ≤ 20 := by rw [dlen]; exact hAs
  have hCl : C.data.toList.length ≤ 20 := by rw [dlen]; exact hCs
  rw [← hAd, ← hCd] at v1
  have HAL := Lib.hid hAl
  have HCL := Lib.hid hCl
  have HGL := Lib.hid hgl
  have HOL := Lib.hid hOl
  have HV1 := Lib.hid v1
  have HV2 := Lib.hid v2
  clear hz hzz hr hAl hCl hgl hOl v1 v2 hg hop hA hC hAd hCd ha hb ho
  obtain ⟨v, hv⟩ : ∃ v, (if ((b1 || b2) && b3) = true then ((0 : Int), 15) else (r, 0)) = v := ⟨_, rfl⟩
  obtain ⟨v, q⟩ := v
  have HVE := Lib.hid hv
  have v1 := HV1.out
  have v2 := HV2.out
  rw [hv] at v1 v2
  clear hv HV1 HV2
  cases blank
  all_goals
    simp only [if_true, Bool.false_eq_true, if_false] at hZ
    subst hZ
    have E1 := Lib.hid (fun (Y : ByteArray) (hY : Y.data.toList = _) (w : World) => ev13 Y _ _ _ w hY (by have := HAL.out; have := HCL.out; have := HOL.out; simp at *; omega) v1)
    have E1r := Lib.hid (fun (Y : ByteArray) (hY : Y.data.toList = _) (w : World) => ev14l Y _ _ _ [] _ w (PV.nil w) hY (by have := HAL.out; have := HCL.out; have := HOL.out; simp at *; omega) v1)
    have E2 := Lib.hid (fun (Y : ByteArray) (hY : Y.data.toList = _) (pv : Value) (w : World) (hP : PV w.heap.size w pv [(⟨#[120]⟩, A), (⟨#[121]⟩, C)]) => ev13l Y _ _ _ _ pv w hP hY (by have := HOL.out; simp at *; omega) v2)
    clear v1 v2
    go_enter Tryd.func4, Tryd.ntmps4
    go_wp2_with fail
    refine (alive_any _).mono ?_
    rintro e w1 ⟨rfl, hB1⟩
    have HB1 := Lib.hid hB1
    clear hB1
    simp only []
    go_wp2_with fail
    refine (ops_any _).mono ?_
    rintro e w2 ⟨⟨B, rfl, hO⟩, hB2⟩
    have HB2 := Lib.hid (HB1.out.trans (hB2.mono HB1.out.size))
    have HO := Lib.hid hO
    clear hB2 hO
    simp only []
    go_wp2_with fail
    have c8 : ∀ b : Bw w2, b.v.cell? ⟨B, k, none⟩ = some (.string O) := fun b => HOC.out _ _ (HO.out.below b.h)
    have HC1 : Hid (∀ b : Bw w2, Calls Tryd.prog 17 #[.int .i64 a] b.v fun e w' => e = .returned (.string A) ∧ ∃ b' : Bw w2, w' = b'.v) := fun b => (HIA.out b.v).mono fun e w' ⟨he, hw⟩ => ⟨he, b, hw⟩
    have HC2 : Hid (∀ b' : Bw w2, Calls Tryd.prog 17 #[.int .i64 b] b'.v fun e w' => e = .returned (.string C) ∧ ∃ b' : Bw w2, w' = b'.v) := fun b => (HIC.out b.v).mono fun e w' ⟨he, hw⟩ => ⟨he, b, hw⟩
    refine wp_region_quiet_tail 18 (fun w' => ∃ b : Bw w2, w' = b.v) (by kernel_rfl) (by kernel_rfl) (bwC_drawn _) ?_
    simp only [List.take_succ_cons, List.take_zero, List.drop_succ_cons, List.drop_zero]
    repeat (go_big_quiet_step (first | with_reducible exact HC1.out _ | with_reducible exact HC2.out _))
    refine wpQuiet_nil ?_
    rintro _ ⟨bq, rfl⟩
    have HB2q := Lib.hid (HB2.out.trans (bq.h.mono HB2.out.size))
    have HOq := Lib.hid (HO.out.below bq.h)
    clear c8 HC1 HC2
    generalize bq.v = w2q at HB2q HOq ⊢
    go_wp2_with fail
    refine (E1.out _ (by simp) _).mono ?_
    rintro e w3 ⟨rfl, hB3⟩
    have HO3 := Lib.hid (HOq.out.below hB3)
    have HB3 := Lib.hid (HB2q.out.trans (hB3.mono HB2q.out.size))
    clear hB3
    simp only []
    go_wp2_with fail
    refine (E1r.out _ (by simp) _).mono ?_
    rintro e w4 ⟨rfl, hB4⟩
    have HO4 := Lib.hid (HO3.out.below hB4)
    have HB4 := Lib.hid (HB3.out.trans (hB4.mono HB3.out.size))
    clear hB4
    simp only []
    go_wp2_with fail
    refine wp_region_made 16 2 137 _ (by kernel_rfl) (by kernel_rfl) (by kernel_rfl) (Nat.le_refl 137) rfl ?_
    have HB4b : Hid (Below W.heap.size W w4.drew) := below_drewN HB4.out 1
    have HO4b : Hid (Ops w4.drew B) := HO4.out.below (below_drewN (Below.refl w4.heap.size w4) 1)
    generalize w4.drew = wz at HB4b HO4b ⊢
    have hcz := HOC.out _ _ HO4b.out
    have c11 : ∀ b : One wz, b.v.cell? ⟨B, k, none⟩ = some (.string O) := fun b => by rw [b.h]; exact hcz
    have HC1 : Hid (∀ b : One wz, Calls Tryd.prog 17 #[.int .i64 a] b.v fun e w' => e = .returned (.string A) ∧ ∃ b' : One wz, w' = b'.v) := fun b => (HIA.out b.v).mono fun e w' ⟨he, hw⟩ => ⟨he, b, hw⟩
    have HC2 : Hid (∀ b' : One wz, Calls Tryd.prog 17 #[.int .i64 b] b'.v fun e w' => e = .returned (.string C) ∧ ∃ b' : One wz, w' = b'.v) := fun b => (HIC.out b.v).mono fun e w' ⟨he, hw⟩ => ⟨he, b, hw⟩
    clear hcz
    unfold isOne
    simp only [List.take_succ_cons, List.take_zero, List.drop_succ_cons, List.drop_zero]
    repeat (go_big_quiet_step (first | with_reducible exact HC1.out _ | with_reducible exact HC2.out _))
    refine wpQuiet_nil ?_
    refine ⟨by kernel_rfl, .slice (some ⟨wz.heap.size, 0, none⟩) 2 2, wz.alloc (.cells #[.string ⟨#[120]⟩, .string A, .string ⟨#[121]⟩, .string C] 35), ?_, ?_, ?_⟩
    · go_simp
    · have e1 := HOC.out _ _ (HO4b.out.below ((Below.refl _ _).alloc (Nat.le_refl _) (.cells #[.string ⟨#[120]⟩, .string A, .string ⟨#[121]⟩, .string C] 35)))
      generalize wz.alloc (.cells #[.string ⟨#[120]⟩, .string A, .string ⟨#[121]⟩, .string C] 35) = wy at e1 ⊢
      have c12 : ∀ b : One wy, b.v.cell? ⟨B, k, none⟩ = some (.string O) := fun b => by rw [b.h]; exact e1
      have HD1 : Hid (∀ b : One wy, Calls Tryd.prog 17 #[.int .i64 a] b.v fun e w' => e = .returned (.string A) ∧ ∃ b' : One wy, w' = b'.v) := fun b => (HIA.out b.v).mono fun e w' ⟨he, hw⟩ => ⟨he, b, hw⟩
      have HD2 : Hid (∀ b' : One wy, Calls Tryd.prog 17 #[.int .i64 b] b'.v fun e w' => e = .returned (.string C) ∧ ∃ b' : One wy, w' = b'.v) := fun b => (HIC.out b.v).mono fun e w' ⟨he, hw⟩ => ⟨he, b, hw⟩
      clear e1 c11 HC1 HC2
      repeat (go_big_quiet_step (first | with_reducible exact HD1.out _ | with_reducible exact HD2.out _))
      exact wpQuiet_nil rfl
    clear c11 HC1 HC2
    go_wp2_with fail
    refine (E2.out _ (by simp) _ _ (PV_new2 _ _ _ _ _ _ (by omega) (by omega))).mono ?_
    rintro e w5 ⟨rfl, hB5⟩
    simp only []
    go_wp2_with fail
    have HO5 := Lib.hid ((HO4b.out.below ((Below.refl _ _).alloc (Nat.le_refl _) _)).below hB5)
    have HB5 := Lib.hid ((HB4b.out.alloc HB4b.out.size _).trans (hB5.mono (by have := HB4b.out.size; simp; omega)))
    clear hB5
    show wpQuiet _ _ _ _ _ _
    repeat (go_big_quiet_step (fail))
    refine wpQuiet_nil ?_
    have hcell := HOC.out _ _ HO5.out
    have HVV := HVE.out
    clear HVE
    cases b1 <;> cases b2 <;> cases b3
    all_goals
      simp only [Bool.or_true, Bool.true_or, Bool.or_false, Bool.false_or, Bool.and_true, Bool.and_false, Bool.false_and, Bool.true_and, if_true, Bool.false_eq_true, if_false, Prod.mk.injEq] at HVV
      obtain ⟨rfl, rfl⟩ := HVV
      go_wp2_with fail
      clear hcell
      iterate 5
        refine (num_any _ _).mono ?_
        rintro e y1 ⟨rfl, h⟩
        obtain rfl := h.symm
        simp only []
        go_wp2_with fail
      go_ret
      exact ⟨rfl, HB5.out⟩
end Go.Proofs.YthgddbdkdloobaaDoor
