import Derived.Test.YthgddbdkdloobaaDoorQA
import Derived.Test.YthgddbdkdloobaaDoorQU
import Derived.Deep.QuietTactic
namespace Go.Proofs.YthgddbdkdloobaaDoor
open Go.RowKit
set_option linter.unusedVariables false

/-- How strong the operators are, as the law lists it. -/
def lvsB : List Int := [1, 2, 3, 4, 5, 6, 6, 7, 7, 7, 7, 8, 8, 9, 9, 10, 10, 10]
theorem lvs_ops : ∀ k : Fin 18, lvsB[k.val]'(k.isLt) = (lv (opsB[k.val]'(k.isLt)).data.toList : Int) := by decide
def Lvs (w : World) (b : Nat) : Prop := b < w.heap.size ∧ ∀ k (h : k < 18), w.cell? ⟨b, k, none⟩ = some (.int .i64 (lvsB[k]'(h)))
theorem Lvs.below {w w' : World} {b : Nat} (h : Lvs w b) (hB : Below w.heap.size w w') : Lvs w' b := by
  have hs := hB.size
  exact ⟨by have := h.1; omega, fun k hk => by rw [hB.cell (p := ⟨b, k, none⟩) h.1]; exact h.2 k hk⟩
theorem Lvs_new (w : World) (e : TypeId) : Lvs (w.alloc (.cells #[.int .i64 1, .int .i64 2, .int .i64 3, .int .i64 4, .int .i64 5, .int .i64 6, .int .i64 6, .int .i64 7, .int .i64 7, .int .i64 7, .int .i64 7, .int .i64 8, .int .i64 8, .int .i64 9, .int .i64 9, .int .i64 10, .int .i64 10, .int .i64 10] e)) w.heap.size := by
  refine ⟨by rw [World.size_alloc]; omega, fun k hk => ?_⟩
  have h := heap_alloc_new w (.cells (lvsB.map (Value.int .i64)).toArray e)
  show World.cell? (w.alloc (.cells (lvsB.map (Value.int .i64)).toArray e)) ⟨w.heap.size, k, none⟩ = _
  rw [cell_of_row _ _ _ _ _ _ h]
  have hl : lvsB.length = 18 := rfl
  simp [hl, hk]
  rfl
set_option maxRecDepth 100000 in
set_option maxHeartbeats 8000000 in
theorem levels_walk (a b c p q : Int) (ha : -9223372036854775808 ≤ a ∧ a ≤ 9223372036854775807) (hb : -9223372036854775808 ≤ b ∧ b ≤ 9223372036854775807) (hc : -9223372036854775808 ≤ c ∧ c ≤ 9223372036854775807) (hp : -9223372036854775808 ≤ p ∧ p ≤ 9223372036854775807) (hq : -9223372036854775808 ≤ q ∧ q ≤ 9223372036854775807) (W : World) :
    Calls Tryd.prog 5 #[.int .i64 a, .int .i64 b, .int .i64 c, .int .i64 p, .int .i64 q] W fun e W' => e = .returned (.bool true) ∧ Below W.heap.size W W' := by
  by_cases c0 : p < 0
  case pos =>
    go_enter Tryd.func5, Tryd.ntmps5
    go_wp2_with fail
    refine (alive_any _).mono ?_
    rintro e w1 ⟨rfl, hB1⟩
    have HB1 := Lib.hid hB1
    clear hB1
    simp only []
    go_wp2_with fail
    refine (ops_any _).mono ?_
    rintro e w2 ⟨⟨B, rfl, hO⟩, hB2⟩
    have HB2 := Lib.hid (HB1.out.trans (hB2.mono HB1.out.size))
    have HO := Lib.hid hO
    clear hB2 hO
    simp only []
    go_wp2_with fail
    go_ret
    exact ⟨rfl, HB2.out.alloc HB2.out.size _⟩
  by_cases c1 : 18 ≤ p
  case pos =>
    go_enter Tryd.func5, Tryd.ntmps5
    go_wp2_with fail
    refine (alive_any _).mono ?_
    rintro e w1 ⟨rfl, hB1⟩
    have HB1 := Lib.hid hB1
    clear hB1
    simp only []
    go_wp2_with fail
    refine (ops_any _).mono ?_
    rintro e w2 ⟨⟨B, rfl, hO⟩, hB2⟩
    have HB2 := Lib.hid (HB1.out.trans (hB2.mono HB1.out.size))
    have HO := Lib.hid hO
    clear hB2 hO
    simp only []
    go_wp2_with fail
    go_ret
    exact ⟨rfl, HB2.out.alloc HB2.out.size _⟩
  by_cases c2 : q < 0
  case pos =>
    go_enter Tryd.func5, Tryd.ntmps5
    go_wp2_with fail
    refine (alive_any _).mono ?_
    rintro e w1 ⟨rfl, hB1⟩
    have HB1 := Lib.hid hB1
    clear hB1
    simp only []
    go_wp2_with fail
    refine (ops_any _).mono ?_
    rintro e w2 ⟨⟨B, rfl, hO⟩, hB2⟩
    have HB2 := Lib.hid (HB1.out.trans (hB2.mono HB1.out.size))
    have HO := Lib.hid hO
    clear hB2 hO
    simp only []
    go_wp2_with fail
    go_ret
    exact ⟨rfl, HB2.out.alloc HB2.out.size _⟩
  by_cases c3 : 18 ≤ q
  case pos =>
    go_enter Tryd.func5, Tryd.ntmps5
    go_wp2_with fail
    refine (alive_any _).mono ?_
    rintro e w1 ⟨rfl, hB1⟩
    have HB1 := Lib.hid hB1
    clear hB1
    simp only []
    go_wp2_with fail
    refine (ops_any _).mono ?_
    rintro e w2 ⟨⟨B, rfl, hO⟩, hB2⟩
    have HB2 := Lib.hid (HB1.out.trans (hB2.mono HB1.out.size))
    have HO := Lib.hid hO
    clear hB2 hO
    simp only []
    go_wp2_with fail
    go_ret
    exact ⟨rfl, HB2.out.alloc HB2.out.size _⟩
  by_cases c4 : a < 0
  case pos =>
    go_enter Tryd.func5, Tryd.ntmps5
    go_wp2_with fail
    refine (alive_any _).mono ?_
    rintro e w1 ⟨rfl, hB1⟩
    have HB1 := Lib.hid hB1
    clear hB1
    simp only []
    go_wp2_with fail
    refine (ops_any _).mono ?_
    rintro e w2 ⟨⟨B, rfl, hO⟩, hB2⟩
    have HB2 := Lib.hid (HB1.out.trans (hB2.mono HB1.out.size))
    have HO := Lib.hid hO
    clear hB2 hO
    simp only []
    go_wp2_with fail
    go_ret
    exact ⟨rfl, HB2.out.alloc HB2.out.size _⟩
  by_cases c5 : b < 0
  case pos =>
    go_enter Tryd.func5, Tryd.ntmps5
    go_wp2_with fail
    refine (alive_any _).mono ?_
    rintro e w1 ⟨rfl, hB1⟩
    have HB1 := Lib.hid hB1
    clear hB1
    simp only []
    go_wp2_with fail
    refine (ops_any _).mono ?_
    rintro e w2 ⟨⟨B, rfl, hO⟩, hB2⟩
    have HB2 := Lib.hid (HB1.out.trans (hB2.mono HB1.out.size))
    have HO := Lib.hid hO
    clear hB2 hO
    simp only []
    go_wp2_with fail
    go_ret
    exact ⟨rfl, HB2.out.alloc HB2.out.size _⟩
  by_cases c6 : c < 0
  case pos =>
    go_enter Tryd.func5, Tryd.ntmps5
    go_wp2_with fail
    refine (alive_any _).mono ?_
    rintro e w1 ⟨rfl, hB1⟩
    have HB1 := Lib.hid hB1
    clear hB1
    simp only []
    go_wp2_with fail
    refine (ops_any _).mono ?_
    rintro e w2 ⟨⟨B, rfl, hO⟩, hB2⟩
    have HB2 := Lib.hid (HB1.out.trans (hB2.mono HB1.out.size))
    have HO := Lib.hid hO
    clear hB2 hO
    simp only []
    go_wp2_with fail
    go_ret
    exact ⟨rfl, HB2.out.alloc HB2.out.size _⟩
  obtain ⟨i, rfl⟩ : ∃ i : Nat, p = (i : Int) := ⟨p.toNat, by omega⟩
  obtain ⟨j, rfl⟩ : ∃ j : Nat, q = (j : Int) := ⟨q.toNat, by omega⟩
  obtain ⟨x, rfl⟩ : ∃ x : Nat, a = (x : Int) := ⟨a.toNat, by omega⟩
  obtain ⟨y, rfl⟩ : ∃ y : Nat, b = (y : Int) := ⟨b.toNat, by omega⟩
  obtain ⟨z, rfl⟩ : ∃ z : Nat, c = (z : Int) := ⟨c.toNat, by omega⟩
  have hi : i < 18 := by omega
  have hj : j < 18 := by omega
  have hx : x < 9223372036854775808 := by omega
  have hy : y < 9223372036854775808 := by omega
  have hz : z < 9223372036854775808 := by omega
  have c0' : (0 : Int) ≤ (i : Int) := by omega
  have c1' : (i : Int) < 18 := by omega
  have c2' : (0 : Int) ≤ (j : Int) := by omega
  have c3' : (j : Int) < 18 := by omega
  have c4' : (0 : Int) ≤ (x : Int) := by omega
  have c5' : (0 : Int) ≤ (y : Int) := by omega
  have c6' : (0 : Int) ≤ (z : Int) := by omega
  obtain ⟨O, hO⟩ : ∃ O, opsB[i]'(hi) = O := ⟨_, rfl⟩
  obtain ⟨R, hR⟩ : ∃ R, opsB[j]'(hj) = R := ⟨_, rfl⟩
  have hop := opsB_ops ⟨i, hi⟩
  have hrp := opsB_ops ⟨j, hj⟩
  have hol := lvs_ops ⟨i, hi⟩
  have hrl := lvs_ops ⟨j, hj⟩
  simp only at hop hrp hol hrl
  rw [hO] at hop hol
  rw [hR] at hrp hrl
  obtain ⟨lo, hlo⟩ : ∃ lo, lv O.data.toList = lo := ⟨_, rfl⟩
  obtain ⟨lr, hlr⟩ : ∃ lr, lv R.data.toList = lr := ⟨_, rfl⟩
  have hOs : O.size ≤ 2 := by have := op_len hop; rw [dlen] at this; exact this
  have hRs : R.size ≤ 2 := by have := op_len hrp; rw [dlen] at this; exact this
  have HOC := Lib.hid (fun (w : World) (B : Nat) (h : Ops w B) => hO ▸ h.2 i hi)
  have HRC := Lib.hid (fun (w : World) (B : Nat) (h : Ops w B) => hR ▸ h.2 j hj)
  have HOL : Hid (∀ (w : World) (B : Nat), Lvs w B → w.cell? ⟨B, i, none⟩ = some (.int .i64 (lo : Nat))) := fun w B h => by rw [h.2 i hi, hol, hlo]
  have HRL : Hid (∀ (w : World) (B : Nat), Lvs w B → w.cell? ⟨B, j, none⟩ = some (.int .i64 (lr : Nat))) := fun w B h => by rw [h.2 j hj, hrl, hlr]
  have hv := lev_val (V := Vl []) (a := 0) (b := 0) (c := 0) ⟨dcl_ne x, dcl_dig x⟩ ⟨dcl_ne y, dcl_dig y⟩ ⟨dcl_ne z, dcl_dig z⟩ hop hrp (by have := dcl_len 18 x (by omega); have := dcl_len 18 y (by omega); have := dcl_len 18 z (by omega); omega)
  rw [hlo, hlr] at hv
  obtain ⟨v, hvv⟩ : ∃ v, evalL false (dcl x ++ (O.data.toList ++ (dcl y ++ (R.data.toList ++ dcl z)))) (Vl []) = v := ⟨_, rfl⟩
  rw [hvv] at hv
  obtain ⟨v, k⟩ := v
  obtain ⟨X, hX⟩ : ∃ S : ByteArray, ⟨(dcl x).toArray⟩ = S := ⟨_, rfl⟩
  have hXs : X.size ≤ 19 := by rw [← hX]; exact dcl_size hx
  have hXd : X.data.toList = dcl x := by rw [← hX]
  have HX := Lib.hid (fun w => RefDigits_any x hx w)
  rw [hX] at HX
  obtain ⟨Y, hY⟩ : ∃ S : ByteArray, ⟨(dcl y).toArray⟩ = S := ⟨_, rfl⟩
  have hYs : Y.size ≤ 19 := by rw [← hY]; exact dcl_size hy
  have hYd : Y.data.toList = dcl y := by rw [← hY]
  have HY := Lib.hid (fun w => RefDigits_any y hy w)
  rw [hY] at HY
  obtain ⟨Z, hZ⟩ : ∃ S : ByteArray, ⟨(dcl z).toArray⟩ = S := ⟨_, rfl⟩
  have hZs : Z.size ≤ 19 := by rw [← hZ]; exact dcl_size hz
  have hZd : Z.data.toList = dcl z := by rw [← hZ]
  have HZ := Lib.hid (fun w => RefDigits_any z hz w)
  rw [hZ] at HZ
  rw [← hXd, ← hYd, ← hZd] at hv hvv
  have lX : X.data.toList.length ≤ 19 := by rw [dlen]; exact hXs
  have lY : Y.data.toList.length ≤ 19 := by rw [dlen]; exact hYs
  have lZ : Z.data.toList.length ≤ 19 := by rw [dlen]; exact hZs
  have lO : O.data.toList.length ≤ 2 := by rw [dlen]; exact hOs
  have lR : R.data.toList.length ≤ 2 := by rw [dlen]; exact hRs
  have E1 := Lib.hid (fun (S : ByteArray) (hS : S.data.toList = _) (w : World) => ev13 S _ _ _ w hS (by simp at *; omega) hvv)
  have HL := Lib.hid (And.intro lX (And.intro lY (And.intro lZ (And.intro lO lR))))
  clear hvv hXd hYd hZd lX lY lZ lO lR hX hY hZ hlo hlr hol hrl hop hrp hO hR ha hb hc hp hq hx hy hz
  by_cases hll : lo < lr
  case pos =>
    rw [if_pos hll] at hv
    have hllI : (lo : Int) < (lr : Int) := by omega
    have E2 := Lib.hid (fun (S : ByteArray) (hS : S.data.toList = _) (w : World) => ev13 S _ _ _ w hS (by have h5 := HL.out; simp at *; omega) hv.symm)
    clear hv hll
    go_enter Tryd.func5, Tryd.ntmps5
    go_wp2_with fail
    refine (alive_any _).mono ?_
    rintro e w1 ⟨rfl, hB1⟩
    have HB1 := Lib.hid hB1
    clear hB1
    simp only []
    go_wp2_with fail
    refine (ops_any _).mono ?_
    rintro e w2 ⟨⟨B, rfl, hO⟩, hB2⟩
    have HB2 := Lib.hid (HB1.out.trans (hB2.mono HB1.out.size))
    have HO := Lib.hid hO
    clear hB2 hO
    simp only []
    go_wp2_with fail
    have HLV := Lib.hid (Lvs_new w2 3)
    have HB2' := Lib.hid (HB2.out.alloc HB2.out.size (.cells #[.int .i64 1, .int .i64 2, .int .i64 3, .int .i64 4, .int .i64 5, .int .i64 6, .int .i64 6, .int .i64 7, .int .i64 7, .int .i64 7, .int .i64 7, .int .i64 8, .int .i64 8, .int .i64 9, .int .i64 9, .int .i64 10, .int .i64 10, .int .i64 10] 3))
    have HO' := Lib.hid (HO.out.below ((Below.refl _ _).alloc (Nat.le_refl _) (.cells #[.int .i64 1, .int .i64 2, .int .i64 3, .int .i64 4, .int .i64 5, .int .i64 6, .int .i64 6, .int .i64 7, .int .i64 7, .int .i64 7, .int .i64 7, .int .i64 8, .int .i64 8, .int .i64 9, .int .i64 9, .int .i64 10, .int .i64 10, .int .i64 10] 3)))
    obtain ⟨w3, hw3⟩ : ∃ w3, w2.alloc (.cells #[.int .i64 1, .int .i64 2, .int .i64 3, .int .i64 4, .int .i64 5, .int .i64 6, .int .i64 6, .int .i64 7, .int .i64 7, .int .i64 7, .int .i64 7, .int .i64 8, .int .i64 8, .int .i64 9, .int .i64 9, .int .i64 10, .int .i64 10, .int .i64 10] 3) = w3 := ⟨_, rfl⟩
    obtain ⟨B2, hB2⟩ : ∃ B2, w2.heap.size = B2 := ⟨_, rfl⟩
    rw [hw3] at HLV HB2' HO' ⊢
    rw [hB2] at HLV ⊢
    clear hw3 hB2 HB2 HO
    refine (HX.out _).mono ?_
    rintro e x1 ⟨rfl, h⟩
    obtain rfl := h.symm
    simp only []
    go_wp2_with fail
    refine (HY.out _).mono ?_
    rintro e x1 ⟨rfl, h⟩
    obtain rfl := h.symm
    simp only []
    go_wp2_with fail
    refine (HZ.out _).mono ?_
    rintro e x1 ⟨rfl, h⟩
    obtain rfl := h.symm
    simp only []
    go_wp2_with fail
    have c9 : ∀ b : Bw w3, b.v.cell? ⟨B, i, none⟩ = some (.string O) := fun b => HOC.out _ _ (HO'.out.below b.h)
    have d9 : ∀ b : Bw w3, b.v.cell? ⟨B, j, none⟩ = some (.string R) := fun b => HRC.out _ _ (HO'.out.below b.h)
    refine wp_region_quiet_mid 15 2 (fun w' => ∃ b : Bw w3, w' = b.v) (by kernel_rfl) (by kernel_rfl) (bwC_drawn _) ?_
    simp only [List.take_succ_cons, List.take_zero, List.drop_succ_cons, List.drop_zero]
    repeat (go_big_quiet_step (fail))
    refine wpQuiet_nil ?_
    rintro _ ⟨b3, rfl⟩
    have HB3 := Lib.hid (HB2'.out.trans (b3.h.mono HB2'.out.size))
    have HO3 := Lib.hid (HO'.out.below b3.h)
    have HLV3 := Lib.hid (HLV.out.below b3.h)
    clear c9 d9 HB2' HO' HLV
    generalize b3.v = w4 at HB3 HO3 HLV3 ⊢
    go_wp2_with fail
    refine (E1.out _ (by simp) _).mono ?_
    rintro e w5 ⟨rfl, hB5⟩
    have HO5 := Lib.hid (HO3.out.below hB5)
    have HLV5 := Lib.hid (HLV3.out.below hB5)
    have HB5 := Lib.hid (HB3.out.trans (hB5.mono HB3.out.size))
    clear hB5 HO3 HLV3 HB3
    simp only []
    go_wp2_with fail
    show wpQuiet _ _ _ _ _ _
    repeat (go_big_quiet_step (fail))
    refine wpQuiet_nil ?_
    go_wp2_with fail
    have c10 := HOC.out _ _ HO5.out
    have d10 := HRC.out _ _ HO5.out
    have e10 := HOL.out _ _ HLV5.out
    have f10 := HRL.out _ _ HLV5.out
    go_quiet (fail)
    have c11 := HOC.out _ _ (HO5.out.below (below_drewN (Below.refl _ _) nq))
    have d11 := HRC.out _ _ (HO5.out.below (below_drewN (Below.refl _ _) nq))
    have e11 := HOL.out _ _ (HLV5.out.below (below_drewN (Below.refl _ _) nq))
    have f11 := HRL.out _ _ (HLV5.out.below (below_drewN (Below.refl _ _) nq))
    have HB6 := Lib.hid (HB5.out.trans ((below_drewN (Below.refl w5.heap.size w5) nq).mono HB5.out.size))
    have HO6 := Lib.hid (HO5.out.below (below_drewN (Below.refl _ _) nq))
    clear c10 d10 e10 f10 HO5 HLV5 HB5
    generalize w5.drewN nq = w6 at c11 d11 e11 f11 HB6 HO6 ⊢
    clear nq
    go_wp2_with fail
    go_quiet (fail)
    have c12 := HOC.out _ _ (HO6.out.below (below_drewN (Below.refl _ _) nq))
    have d12 := HRC.out _ _ (HO6.out.below (below_drewN (Below.refl _ _) nq))
    have HB7 := Lib.hid (HB6.out.trans ((below_drewN (Below.refl w6.heap.size w6) nq).mono HB6.out.size))
    clear c11 d11 e11 f11 HO6 HB6
    generalize w6.drewN nq = w7 at c12 d12 HB7 ⊢
    clear nq
    go_wp2_with fail
    go_quiet (fail)
    have HB8 := Lib.hid (HB7.out.trans ((below_drewN (Below.refl w7.heap.size w7) nq).mono HB7.out.size))
    clear HB7 c12 d12
    generalize w7.drewN nq = w8 at HB8 ⊢
    clear nq
    go_wp2_with fail
    refine (E2.out _ (by simp) _).mono ?_
    rintro e w9 ⟨rfl, hB9⟩
    have HB9 := Lib.hid (HB8.out.trans (hB9.mono HB8.out.size))
    clear hB9
    simp only []
    go_wp2_with fail
    iterate 2
      refine (num_any _ _).mono ?_
      rintro e y1 ⟨rfl, h⟩
      obtain rfl := h.symm
      simp only []
      go_wp2_with fail
    go_ret
    exact ⟨rfl, HB9.out⟩
  case neg =>
    rw [if_neg hll] at hv
    have hllI : ¬ (lo : Int) < (lr : Int) := by omega
    have E2 := Lib.hid (fun (S : ByteArray) (hS : S.data.toList = _) (w : World) => ev13 S _ _ _ w hS (by have h5 := HL.out; simp at *; omega) hv.symm)
    clear hv hll
    go_enter Tryd.func5, Tryd.ntmps5
    go_wp2_with fail
    refine (alive_any _).mono ?_
    rintro e w1 ⟨rfl, hB1⟩
    have HB1 := Lib.hid hB1
    clear hB1
    simp only []
    go_wp2_with fail
    refine (ops_any _).mono ?_
    rintro e w2 ⟨⟨B, rfl, hO⟩, hB2⟩
    have HB2 := Lib.hid (HB1.out.trans (hB2.mono HB1.out.size))
    have HO := Lib.hid hO
    clear hB2 hO
    simp only []
    go_wp2_with fail
    have HLV := Lib.hid (Lvs_new w2 3)
    have HB2' := Lib.hid (HB2.out.alloc HB2.out.size (.cells #[.int .i64 1, .int .i64 2, .int .i64 3, .int .i64 4, .int .i64 5, .int .i64 6, .int .i64 6, .int .i64 7, .int .i64 7, .int .i64 7, .int .i64 7, .int .i64 8, .int .i64 8, .int .i64 9, .int .i64 9, .int .i64 10, .int .i64 10, .int .i64 10] 3))
    have HO' := Lib.hid (HO.out.below ((Below.refl _ _).alloc (Nat.le_refl _) (.cells #[.int .i64 1, .int .i64 2, .int .i64 3, .int .i64 4, .int .i64 5, .int .i64 6, .int .i64 6, .int .i64 7, .int .i64 7, .int .i64 7, .int .i64 7, .int .i64 8, .int .i64 8, .int .i64 9, .int .i64 9, .int .i64 10, .int .i64 10, .int .i64 10] 3)))
    obtain ⟨w3, hw3⟩ : ∃ w3, w2.alloc (.cells #[.int .i64 1, .int .i64 2, .int .i64 3, .int .i64 4, .int .i64 5, .int .i64 6, .int .i64 6, .int .i64 7, .int .i64 7, .int .i64 7, .int .i64 7, .int .i64 8, .int .i64 8, .int .i64 9, .int .i64 9, .int .i64 10, .int .i64 10, .int .i64 10] 3) = w3 := ⟨_, rfl⟩
    obtain ⟨B2, hB2⟩ : ∃ B2, w2.heap.size = B2 := ⟨_, rfl⟩
    rw [hw3] at HLV HB2' HO' ⊢
    rw [hB2] at HLV ⊢
    clear hw3 hB2 HB2 HO
    refine (HX.out _).mono ?_
    rintro e x1 ⟨rfl, h⟩
    obtain rfl := h.symm
    simp only []
    go_wp2_with fail
    refine (HY.out _).mono ?_
    rintro e x1 ⟨rfl, h⟩
    obtain rfl := h.symm
    simp only []
    go_wp2_with fail
    refine (HZ.out _).mono ?_
    rintro e x1 ⟨rfl, h⟩
    obtain rfl := h.symm
    simp only []
    go_wp2_with fail
    have c9 : ∀ b : Bw w3, b.v.cell? ⟨B, i, none⟩ = some (.string O) := fun b => HOC.out _ _ (HO'.out.below b.h)
    have d9 : ∀ b : Bw w3, b.v.cell? ⟨B, j, none⟩ = some (.string R) := fun b => HRC.out _ _ (HO'.out.below b.h)
    refine wp_region_quiet_mid 15 2 (fun w' => ∃ b : Bw w3, w' = b.v) (by kernel_rfl) (by kernel_rfl) (bwC_drawn _) ?_
    simp only [List.take_succ_cons, List.take_zero, List.drop_succ_cons, List.drop_zero]
    repeat (go_big_quiet_step (fail))
    refine wpQuiet_nil ?_
    rintro _ ⟨b3, rfl⟩
    have HB3 := Lib.hid (HB2'.out.trans (b3.h.mono HB2'.out.size))
    have HO3 := Lib.hid (HO'.out.below b3.h)
    have HLV3 := Lib.hid (HLV.out.below b3.h)
    clear c9 d9 HB2' HO' HLV
    generalize b3.v = w4 at HB3 HO3 HLV3 ⊢
    go_wp2_with fail
    refine (E1.out _ (by simp) _).mono ?_
    rintro e w5 ⟨rfl, hB5⟩
    have HO5 := Lib.hid (HO3.out.below hB5)
    have HLV5 := Lib.hid (HLV3.out.below hB5)
    have HB5 := Lib.hid (HB3.out.trans (hB5.mono HB3.out.size))
    clear hB5 HO3 HLV3 HB3
    simp only []
    go_wp2_with fail
    show wpQuiet _ _ _ _ _ _
    repeat (go_big_quiet_step (fail))
    refine wpQuiet_nil ?_
    go_wp2_with fail
    have c10 := HOC.out _ _ HO5.out
    have d10 := HRC.out _ _ HO5.out
    have e10 := HOL.out _ _ HLV5.out
    have f10 := HRL.out _ _ HLV5.out
    go_quiet (fail)
    have c11 := HOC.out _ _ (HO5.out.below (below_drewN (Below.refl _ _) nq))
    have d11 := HRC.out _ _ (HO5.out.below (below_drewN (Below.refl _ _) nq))
    have e11 := HOL.out _ _ (HLV5.out.below (below_drewN (Below.refl _ _) nq))
    have f11 := HRL.out _ _ (HLV5.out.below (below_drewN (Below.refl _ _) nq))
    have HB6 := Lib.hid (HB5.out.trans ((below_drewN (Below.refl w5.heap.size w5) nq).mono HB5.out.size))
    have HO6 := Lib.hid (HO5.out.below (below_drewN (Below.refl _ _) nq))
    clear c10 d10 e10 f10 HO5 HLV5 HB5
    generalize w5.drewN nq = w6 at c11 d11 e11 f11 HB6 HO6 ⊢
    clear nq
    go_wp2_with fail
    go_quiet (fail)
    have HB8 := Lib.hid (HB6.out.trans ((below_drewN (Below.refl w6.heap.size w6) nq).mono HB6.out.size))
    clear c11 d11 e11 f11 HO6 HB6
    generalize w6.drewN nq = w8 at HB8 ⊢
    clear nq
    go_wp2_with fail
    refine (E2.out _ (by simp) _).mono ?_
    rintro e w9 ⟨rfl, hB9⟩
    have HB9 := Lib.hid (HB8.out.trans (hB9.mono HB8.out.size))
    clear hB9
    simp only []
    go_wp2_with fail
    iterate 2
      refine (num_any _ _).mono ?_
      rintro e y1 ⟨rfl, h⟩
      obtain rfl := h.symm
      simp only []
      go_wp2_with fail
    go_ret
    exact ⟨rfl, HB9.out⟩
end Go.Proofs.YthgddbdkdloobaaDoor
