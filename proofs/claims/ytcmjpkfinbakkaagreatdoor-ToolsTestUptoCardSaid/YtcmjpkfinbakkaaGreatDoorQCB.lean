import Derived.Test.YtcmjpkfinbakkaaGreatDoorQCA
import Derived.Test.YtcmjpkfinbakkaaGreatDoorRows
import Derived.WalkKit
import Derived.WalkSpells
import Derived.WalkLawsBesides
import Derived.Laws.FloatArith
import Derived.Lib.Hide
import Derived.RegionTactic
import Derived.BigRegion
import Derived.BigQuiet
import Derived.IntWalk
import Derived.Deep.QuietTactic
import Derived.Deep.LoopGhost
import Derived.StillTail
import Derived.Below
import Derived.WalkSmall
import Derived.Deep.Quiet
namespace Go.Proofs.YtcmjpkfinbakkaaGreatDoor.Vf.Ck
set_option maxRecDepth 100000
open Go.RowKit
set_option linter.unusedVariables false

/-- Does s begin with p? -/
def hp (s p : ByteArray) : Bool := decide (p.size ≤ s.size) && ((s.extract 0 p.size).toList == p.toList)


set_option maxHeartbeats 1000000 in
theorem HasPrefix_lite (s p : ByteArray) (w : World) :
    Calls Tryz.prog 86 #[.string s, .string p] w fun e w' => e = .returned (.bool (hp s p)) ∧ w' = w := by
  by_cases h : p.size ≤ s.size
  · have HE : Hid (hp s p = ((s.extract 0 p.size).toList == p.toList)) := by unfold Hid hp; simp [h]
    go_enter Tryz.func86, Tryz.ntmps86
    go_wp2
    go_ret
    refine ⟨?_, rfl⟩
    rw [HE.out]; rfl
  · have HE : Hid (hp s p = false) := by unfold Hid hp; simp [h]
    go_enter Tryz.func86, Tryz.ntmps86
    go_wp2
    go_ret
    refine ⟨?_, rfl⟩
    rw [HE.out]; rfl

theorem CutPrefix_lite (s p : ByteArray) (w : World) :
    Calls Tryz.prog 207 #[.string s, .string p] w fun e w' => e = .returned (.tuple #[.string (if hp s p = true then s.extract p.size s.size else s), .bool (hp s p)]) ∧ w' = w := by
  cases h : hp s p
  · have H := Lib.hid h
    clear h
    go_enter Tryz.func207, Tryz.ntmps207
    go_wp2_with (go_at_call 86; refine (HasPrefix_lite _ _ _).mono ?_; rw [H.out]; rintro e w' ⟨rfl, rfl⟩)
    go_ret2
    exact ⟨rfl, rfl⟩
  · have hle : p.size ≤ s.size := by unfold hp at h; simp at h; exact h.1
    have H := Lib.hid h
    clear h
    go_enter Tryz.func207, Tryz.ntmps207
    go_wp2_with (go_at_call 86; refine (HasPrefix_lite _ _ _).mono ?_; rw [H.out]; rintro e w' ⟨rfl, rfl⟩)
    go_ret2
    exact ⟨rfl, rfl⟩

theorem CutPrefix_any (s p : ByteArray) (w : World) :
    Calls Tryz.prog 156 #[.string s, .string p] w fun e w' => e = .returned (.tuple #[.string (if hp s p = true then s.extract p.size s.size else s), .bool (hp s p)]) ∧ w' = w := by
  obtain ⟨r, hr⟩ : ∃ r, (if hp s p = true then s.extract p.size s.size else s) = r := ⟨_, rfl⟩
  have HR := Lib.hid hr
  rw [hr]
  clear hr
  go_enter Tryz.func156, Tryz.ntmps156
  go_wp2_with (go_at_call 207; refine (CutPrefix_lite s p _).mono ?_; rw [HR.out]; rintro e w' ⟨rfl, rfl⟩)
  go_ret2
  exact ⟨rfl, rfl⟩


theorem Digit_any (c : UInt8) (w : World) : Calls Tryz.prog 252 #[.int .u8 c.toNat] w fun e w' => e = .returned (.bool (isDig c)) ∧ w' = w := by
  by_cases h1 : 48 ≤ c.toNat
  · by_cases h2 : c.toNat ≤ 57
    · have d2 : decide ((c.toNat : Int) ≤ 57) = true := by simp; omega
      have H : Hid (isDig c = true) := by unfold Hid isDig; simp [h1, h2]
      go_enter Tryz.func252, Tryz.ntmps252
      go_wp2
      go_ret
      exact ⟨by rw [H.out]; rfl, rfl⟩
    · have d2 : decide ((c.toNat : Int) ≤ 57) = false := by simp; omega
      have H : Hid (isDig c = false) := by unfold Hid isDig; simp; omega
      go_enter Tryz.func252, Tryz.ntmps252
      go_wp2
      go_ret
      exact ⟨by rw [H.out]; rfl, rfl⟩
  · have H : Hid (isDig c = false) := by unfold Hid isDig; simp; omega
    go_enter Tryz.func252, Tryz.ntmps252
    go_wp2
    go_ret
    exact ⟨by rw [H.out]; rfl, rfl⟩


set_option maxRecDepth 100000 in
set_option maxHeartbeats 1000000 in
theorem Digits_any (s : ByteArray) (w : World) (hs : s.size ≤ 100000) : Calls Tryz.prog 210 #[.string s] w fun e w' => e = .returned (.int .i64 (lead s)) ∧ w' = w := by
  go_enter Tryz.func210, Tryz.ntmps210
  go_wp2_with fail
  go_loop [3] (fun n => ∃ k : Nat, k ≤ s.size ∧ n = .int .i64 k ∧ Hid (∀ i, i < k → isDig (gb s i) = true)) (fun n => s.size - (intOf n).toNat)
  case atStart => exact ⟨0, by omega, rfl, Lib.hid (fun i h => absurd h (by omega))⟩
  case round =>
    obtain ⟨k, hk, rfl, HA⟩ := hrel
    by_cases hlt : k < s.size
    · have hgb := gb_eq s k hlt
      have hltI : (k : Int) < (s.size : Int) := by omega
      cases hd : isDig (gb s k)
      · have HD := Lib.hid hd
        clear hd
        go_wp2_with (go_at_call 252; refine (Digit_any _ _).mono ?_; rw [HD.out]; rintro e w' ⟨rfl, rfl⟩)
        go_ret
        exact ⟨by rw [lead_iff s k hk HA.out (.inr HD.out)]; rfl, rfl⟩
      · have HD := Lib.hid hd
        clear hd
        go_wp2_with (go_at_call 252; refine (Digit_any _ _).mono ?_; rw [HD.out]; rintro e w' ⟨rfl, rfl⟩)
        go_round
        case rel =>
          refine ⟨k + 1, by omega, by go_num, Lib.hid (fun i hi => ?_)⟩
          by_cases h : i < k
          · exact HA.out i h
          · rw [show i = k by omega]; exact HD.out
        case measure => simp [intOf]; omega
    · have hdf : decide ((k : Int) < (s.size : Int)) = false := by simp; omega
      have HE : Hid (lead s = k) := lead_iff s k hk HA.out (.inl (by omega))
      go_wp2_with fail
      go_ret
      exact ⟨by rw [HE.out]; rfl, rfl⟩

/-- One to eighteen digits? -/
def numB (s : ByteArray) : Bool := decide (1 ≤ s.size) && (decide (s.size ≤ 18) && (lead s == s.size))

set_option maxRecDepth 100000 in
set_option maxHeartbeats 1000000 in
theorem Number_any (s : ByteArray) (w : World) (hs : s.size ≤ 9223372036854775807) : Calls Tryz.prog 160 #[.string s, .int .i64 1, .int .i64 18] w fun e w' => e = .returned (.bool (numB s)) ∧ w' = w := by
  by_cases h1 : 1 ≤ s.size
  · by_cases h2 : s.size ≤ 18
    · have h1' : (1 : Int) ≤ (s.size : Int) := by omega
      have h2' : (s.size : Int) ≤ 18 := by omega
      have H : Hid (numB s = ((lead s : Int) == (s.size : Int))) := by
        unfold Hid numB; simp [h1, h2]; rw [Bool.eq_iff_iff]; simp; omega
      go_enter Tryz.func160, Tryz.ntmps160
      go_wp2_with (go_at_call 210; refine (Digits_any _ _ (by omega)).mono ?_; rintro e w' ⟨rfl, rfl⟩)
      go_ret
      exact ⟨by rw [H.out]; rfl, rfl⟩
    · have h2' : ¬ (s.size : Int) ≤ 18 := by omega
      have d2 : decide ((s.size : Int) ≤ 18) = false := by simp; omega
      have h1' : (1 : Int) ≤ (s.size : Int) := by omega
      have H : Hid (numB s = false) := by unfold Hid numB; simp [h2]
      go_enter Tryz.func160, Tryz.ntmps160
      go_wp2_with fail
      go_ret
      exact ⟨by rw [H.out]; rfl, rfl⟩
  · have h1' : ¬ (1 : Int) ≤ (s.size : Int) := by omega
    have d1 : decide ((1 : Int) ≤ (s.size : Int)) = false := by simp; omega
    have H : Hid (numB s = false) := by unfold Hid numB; simp [h1]
    go_enter Tryz.func160, Tryz.ntmps160
    go_wp2_with fail
    go_ret
    exact ⟨by rw [H.out]; rfl, rfl⟩


theorem run_mul (x y r : Nat) (h : D.mul x y = some r) (w : World) : (binOp .mul 110 (.float .f64 x) (.float .f64 y)).run Tryz.prog w = .ok (.float .f64 r) w := run_float_arith w .mul 45 .f64 x y r h

theorem run_add (x y r : Nat) (h : D.add x y = some r) (w : World) : (binOp .add 110 (.float .f64 x) (.float .f64 y)).run Tryz.prog w = .ok (.float .f64 r) w := run_float_arith w .add 45 .f64 x y r h


set_option maxRecDepth 100000 in
set_option maxHeartbeats 1000000 in
theorem value_any (s : ByteArray) (w : World) (hs : s.size ≤ 9) (hd : ∀ c ∈ s.data.toList, isDig c = true) :
    Calls Tryz.prog 243 #[.string s] w fun e w' => e = .returned (.float .f64 (fl (dval s.data.toList))) ∧ w' = w := by
  have HDG := Lib.hid hd
  clear hd
  go_enter Tryz.func243, Tryz.ntmps243
  go_wp2_with fail
  go_loop [3, 7] (fun a b => ∃ k : Nat, k ≤ s.size ∧ b = .int .i64 k ∧ a = .float .f64 (fl (dval (s.data.toList.take k)))) (fun _ b => s.size - (intOf b).toNat)
  case atStart => exact ⟨0, by omega, rfl, by rw [List.take_zero]; simp [dval, fl_zero]⟩
  case round =>
    obtain ⟨k, hk, rfl, rfl⟩ := hrel
    have hlen : (s.data.toList.take k).length = k := by simp; omega
    have hdv := dval_lt (s.data.toList.take k) (fun c hc => HDG.out c (List.mem_of_mem_take hc))
    rw [hlen] at hdv
    by_cases hlt : k < s.size
    · have hp : 10 ^ k ≤ 10 ^ 8 := Nat.pow_le_pow_right (by omega) (by omega)
      have hltI : (k : Int) < (s.size : Int) := by omega
      have hgb := gb_eq s k hlt
      have hdig := HDG.out (gb s k) (by
        unfold gb
        rw [List.getD_eq_getElem?_getD, List.getElem?_eq_getElem (by simpa using hlt)]
        exact List.getElem_mem _)
      have hsn : s.data.toList.take (k + 1) = s.data.toList.take k ++ [gb s k] := by
        unfold gb
        rw [List.take_succ_eq_append_getElem (by simpa using hlt), List.getD_eq_getElem?_getD, List.getElem?_eq_getElem (by simpa using hlt)]; rfl
      have HN : Hid (dval (s.data.toList.take (k + 1)) = dval (s.data.toList.take k) * 10 + ((gb s k).toNat - 48)) := by unfold Hid; rw [hsn, dval_snoc]
      unfold isDig at hdig
      simp only [decide_eq_true_eq] at hdig
      generalize gb s k = c at *
      generalize dval (s.data.toList.take k) = t at *
      have ht : t < 100000000 := Nat.lt_of_lt_of_le hdv hp
      have hm := run_mul (fl t) (fl 10) _ (mul_fl (by omega) (by omega) (by omega))
      have hd := run_add (fl (t * 10)) (fl (c.toNat - 48)) _ (add_fl (by omega) (by omega) (by omega))
      rw [fl_ten] at hm
      have hcv := floatOfInt_nat (c.toNat - 48)
      have hw : IntKind.u8.wrap ((c.toNat : Int) - 48) = ((c.toNat - 48 : Nat) : Int) := by unfold IntKind.wrap; simp [IntKind.bits, IntKind.signed]; omega
      clear hsn hdv hp hlen ht hdig
      generalize c.toNat - 48 = d at *
      go_wp2_with fail
      go_round
      case rel => exact ⟨k + 1, by omega, by go_num, by rw [HN.out]⟩
      case measure => simp [intOf]; omega
    · have hge : ¬ ((k : Int) < (s.size : Int)) := by omega
      have HT : Hid (dval (s.data.toList.take k) = dval s.data.toList) := by unfold Hid; rw [List.take_of_length_le (by simp; omega)]
      rw [HT.out]
      clear hdv hlen
      go_wp2_with fail
      go_ret
      exact ⟨rfl, rfl⟩
end Go.Proofs.YtcmjpkfinbakkaaGreatDoor.Vf.Ck
namespace Go.Proofs.YtcmjpkfinbakkaaGreatDoor.Vf.Ck
set_option maxRecDepth 100000
open Go.RowKit
set_option linter.unusedVariables false

set_option maxRecDepth 100000 in
set_option maxHeartbeats 2000000 in
theorem holds_eq (x1 x2 y1 y2 : Nat) (b1 e1 b2 e2 : Bool) (h1 : (FloatKind.f64.format.order x1 y1 == some .lt) = b1) (h2 : (FloatKind.f64.format.order x1 y1 == some .eq) = e1) (h3 : (FloatKind.f64.format.order x2 y2 == some .lt) = b2) (h4 : (FloatKind.f64.format.order x2 y2 == some .eq) = e2) (h5 : b1 = true → e1 = false) (w : World) :
    Calls Tryz.prog 206 #[.agg #[.float .f64 x1, .float .f64 x2], .string ⟨#[45, 101, 113]⟩, .agg #[.float .f64 y1, .float .f64 y2]] w fun e w' => e = .returned (.bool (e1 && e2)) ∧ Below w.heap.size w w' := by
  cases b1
  · clear h5
    cases e1
    · go_enter Tryz.func206, Tryz.ntmps206
      go_wp2_with fail
      go_ret
      exact ⟨rfl, ((Below.refl _ _).alloc (Nat.le_refl _) _).alloc (by simp) _⟩
    · cases b2 <;> cases e2 <;>
      · go_enter Tryz.func206, Tryz.ntmps206
        go_wp2_with fail
        go_ret
        exact ⟨rfl, ((Below.refl _ _).alloc (Nat.le_refl _) _).alloc (by simp) _⟩
  · have h6 := h5 rfl
    subst h6
    clear h5
    go_enter Tryz.func206, Tryz.ntmps206
    go_wp2_with fail
    go_ret
    exact ⟨rfl, ((Below.refl _ _).alloc (Nat.le_refl _) _).alloc (by simp) _⟩

set_option maxRecDepth 100000 in
set_option maxHeartbeats 2000000 in
theorem holds_ne (x1 x2 y1 y2 : Nat) (b1 e1 b2 e2 : Bool) (h1 : (FloatKind.f64.format.order x1 y1 == some .lt) = b1) (h2 : (FloatKind.f64.format.order x1 y1 == some .eq) = e1) (h3 : (FloatKind.f64.format.order x2 y2 == some .lt) = b2) (h4 : (FloatKind.f64.format.order x2 y2 == some .eq) = e2) (h5 : b1 = true → e1 = false) (w : World) :
    Calls Tryz.prog 206 #[.agg #[.float .f64 x1, .float .f64 x2], .string ⟨#[45, 110, 101]⟩, .agg #[.float .f64 y1, .float .f64 y2]] w fun e w' => e = .returned (.bool (!(e1 && e2))) ∧ Below w.heap.size w w' := by
  cases b1
  · clear h5
    cases e1
    · go_enter Tryz.func206, Tryz.ntmps206
      go_wp2_with fail
      go_ret
      exact ⟨rfl, ((Below.refl _ _).alloc (Nat.le_refl _) _).alloc (by simp) _⟩
    · cases b2 <;> cases e2 <;>
      · go_enter Tryz.func206, Tryz.ntmps206
        go_wp2_with fail
        go_ret
        exact ⟨rfl, ((Below.refl _ _).alloc (Nat.le_refl _) _).alloc (by simp) _⟩
  · have h6 := h5 rfl
    subst h6
    clear h5
    go_enter Tryz.func206, Tryz.ntmps206
    go_wp2_with fail
    go_ret
    exact ⟨rfl, ((Below.refl _ _).alloc (Nat.le_refl _) _).alloc (by simp) _⟩

set_option maxRecDepth 100000 in
set_option maxHeartbeats 2000000 in
theorem holds_lt (x1 x2 y1 y2 : Nat) (b1 e1 b2 e2 : Bool) (h1 : (FloatKind.f64.format.order x1 y1 == some .lt) = b1) (h2 : (FloatKind.f64.format.order x1 y1 == some .eq) = e1) (h3 : (FloatKind.f64.format.order x2 y2 == some .lt) = b2) (h4 : (FloatKind.f64.format.order x2 y2 == some .eq) = e2) (h5 : b1 = true → e1 = false) (w : World) :
    Calls Tryz.prog 206 #[.agg #[.float .f64 x1, .float .f64 x2], .string ⟨#[45, 108, 116]⟩, .agg #[.float .f64 y1, .float .f64 y2]] w fun e w' => e = .returned (.bool (b1 || (e1 && b2))) ∧ Below w.heap.size w w' := by
  cases b1
  · clear h5
    cases e1
    · go_enter Tryz.func206, Tryz.ntmps206
      go_wp2_with fail
      go_ret
      exact ⟨rfl, ((Below.refl _ _).alloc (Nat.le_refl _) _).alloc (by simp) _⟩
    · cases b2 <;> cases e2 <;>
      · go_enter Tryz.func206, Tryz.ntmps206
        go_wp2_with fail
        go_ret
        exact ⟨rfl, ((Below.refl _ _).alloc (Nat.le_refl _) _).alloc (by simp) _⟩
  · have h6 := h5 rfl
    subst h6
    clear h5
    go_enter Tryz.func206, Tryz.ntmps206
    go_wp2_with fail
    go_ret
    exact ⟨rfl, ((Below.refl _ _).alloc (Nat.le_refl _) _).alloc (by simp) _⟩

set_option maxRecDepth 100000 in
set_option maxHeartbeats 2000000 in
theorem holds_le (x1 x2 y1 y2 : Nat) (b1 e1 b2 e2 : Bool) (h1 : (FloatKind.f64.format.order x1 y1 == some .lt) = b1) (h2 : (FloatKind.f64.format.order x1 y1 == some .eq) = e1) (h3 : (FloatKind.f64.format.order x2 y2 == some .lt) = b2) (h4 : (FloatKind.f64.format.order x2 y2 == some .eq) = e2) (h5 : b1 = true → e1 = false) (w : World) :
    Calls Tryz.prog 206 #[.agg #[.float .f64 x1, .float .f64 x2], .string ⟨#[45, 108, 101]⟩, .agg #[.float .f64 y1, .float .f64 y2]] w fun e w' => e = .returned (.bool ((b1 || (e1 && b2)) || (e1 && e2))) ∧ Below w.heap.size w w' := by
  cases b1
  · clear h5
    cases e1
    · go_enter Tryz.func206, Tryz.ntmps206
      go_wp2_with fail
      go_ret
      exact ⟨rfl, ((Below.refl _ _).alloc (Nat.le_refl _) _).alloc (by simp) _⟩
    · cases b2 <;> cases e2 <;>
      · go_enter Tryz.func206, Tryz.ntmps206
        go_wp2_with fail
        go_ret
        exact ⟨rfl, ((Below.refl _ _).alloc (Nat.le_refl _) _).alloc (by simp) _⟩
  · have h6 := h5 rfl
    subst h6
    clear h5
    go_enter Tryz.func206, Tryz.ntmps206
    go_wp2_with fail
    go_ret
    exact ⟨rfl, ((Below.refl _ _).alloc (Nat.le_refl _) _).alloc (by simp) _⟩

set_option maxRecDepth 100000 in
set_option maxHeartbeats 2000000 in
theorem holds_gt (x1 x2 y1 y2 : Nat) (b1 e1 b2 e2 : Bool) (h1 : (FloatKind.f64.format.order x1 y1 == some .lt) = b1) (h2 : (FloatKind.f64.format.order x1 y1 == some .eq) = e1) (h3 : (FloatKind.f64.format.order x2 y2 == some .lt) = b2) (h4 : (FloatKind.f64.format.order x2 y2 == some .eq) = e2) (h5 : b1 = true → e1 = false) (w : World) :
    Calls Tryz.prog 206 #[.agg #[.float .f64 x1, .float .f64 x2], .string ⟨#[45, 103, 116]⟩, .agg #[.float .f64 y1, .float .f64 y2]] w fun e w' => e = .returned (.bool (!(b1 || (e1 && b2)) && !(e1 && e2))) ∧ Below w.heap.size w w' := by
  cases b1
  · clear h5
    cases e1
    · go_enter Tryz.func206, Tryz.ntmps206
      go_wp2_with fail
      go_ret
      exact ⟨rfl, ((Below.refl _ _).alloc (Nat.le_refl _) _).alloc (by simp) _⟩
    · cases b2 <;> cases e2 <;>
      · go_enter Tryz.func206, Tryz.ntmps206
        go_wp2_with fail
        go_ret
        exact ⟨rfl, ((Below.refl _ _).alloc (Nat.le_refl _) _).alloc (by simp) _⟩
  · have h6 := h5 rfl
    subst h6
    clear h5
    go_enter Tryz.func206, Tryz.ntmps206
    go_wp2_with fail
    go_ret
    exact ⟨rfl, ((Below.refl _ _).alloc (Nat.le_refl _) _).alloc (by simp) _⟩

set_option maxRecDepth 100000 in
set_option maxHeartbeats 2000000 in
theorem holds_ge (x1 x2 y1 y2 : Nat) (b1 e1 b2 e2 : Bool) (h1 : (FloatKind.f64.format.order x1 y1 == some .lt) = b1) (h2 : (FloatKind.f64.format.order x1 y1 == some .eq) = e1) (h3 : (FloatKind.f64.format.order x2 y2 == some .lt) = b2) (h4 : (FloatKind.f64.format.order x2 y2 == some .eq) = e2) (h5 : b1 = true → e1 = false) (w : World) :
    Calls Tryz.prog 206 #[.agg #[.float .f64 x1, .float .f64 x2], .string ⟨#[45, 103, 101]⟩, .agg #[.float .f64 y1, .float .f64 y2]] w fun e w' => e = .returned (.bool (!(b1 || (e1 && b2)))) ∧ Below w.heap.size w w' := by
  cases b1
  · clear h5
    cases e1
    · go_enter Tryz.func206, Tryz.ntmps206
      go_wp2_with fail
      go_ret
      exact ⟨rfl, ((Below.refl _ _).alloc (Nat.le_refl _) _).alloc (by simp) _⟩
    · cases b2 <;> cases e2 <;>
      · go_enter Tryz.func206, Tryz.ntmps206
        go_wp2_with fail
        go_ret
        exact ⟨rfl, ((Below.refl _ _).alloc (Nat.le_refl _) _).alloc (by simp) _⟩
  · have h6 := h5 rfl
    subst h6
    clear h5
    go_enter Tryz.func206, Tryz.ntmps206
    go_wp2_with fail
    go_ret
    exact ⟨rfl, ((Below.refl _ _).alloc (Nat.le_refl _) _).alloc (by simp) _⟩

end Go.Proofs.YtcmjpkfinbakkaaGreatDoor.Vf.Ck
namespace Go.Proofs.YtcmjpkfinbakkaaGreatDoor.Vf.Ck
set_option maxRecDepth 100000
open Go Go.RowKit

section
variable {P : Program} {ops : Array Oper} {md : Region.Mode} {C : World → Prop}

/-- The first operations, in whatever order, each quiet in the class; then what L says. -/
def headQ (P : Program) (md : Region.Mode) (ops : Array Oper) (C : World → Prop) (n : Nat) (L : Array Bool → Act → Prop) : Nat → Array Bool → Act → Prop
  | 0, listed, a => L listed a
  | f + 1, listed, a =>
    Region.ready md ops listed ≠ [] ∧ ∀ i ∈ Region.ready md ops listed, i < n ∧ qOp P ops C i (headQ P md ops C n L f (listed.setIfInBounds i true)) a

theorem wpAny_of_headQ {n g : Nat} {L : Array Bool → Act → Prop} {Q' : Exit → Act → World → Prop} (hL : ∀ listed a w, C w → L listed a → wpAny P md ops Q' g listed a w) :
    ∀ (f : Nat) (listed : Array Bool) (a : Act) (w : World), C w → headQ P md ops C n L f listed a → wpAny P md ops Q' (f + g) listed a w
  | 0, listed, a, w, hw, h => by rw [Nat.zero_add]; exact hL _ _ _ hw h
  | f + 1, listed, a, w, hw, h => by
    rw [show f + 1 + g = (f + g) + 1 by omega]
    exact ⟨fun h0 => absurd h0 h.1, fun i hi => wpOp_of_qOp hw (fun a' w' hw' h' => wpAny_of_headQ hL f _ a' w' hw' h') (h.2 i hi).2⟩

theorem headQ_first {n i : Nat} {oi : Oper} {v : Value} {L : Array Bool → Act → Prop} (hi : ops[i]? = some oi) (hsel : ∀ (j : Nat) (o : Oper) cs b, ops[j]? = some o → o.op ≠ .select cs b)
    (hs : Region.sinkB md ops n = true) (hc : Region.chainB md ops n = true) (hn : n < ops.size) (hin : i < n)
    (hdone : ∀ listed a, L listed a → ∀ j ∈ Region.ready md ops listed, n ≤ j) :
    ∀ (f : Nat) (listed : Array Bool) (a : Act), HeadInv md ops n listed →
      (∀ j oj, ops[j]? = some oj → j ≠ i → listed.getD j true = false → (∀ e ∈ oj.after, Region.binds md e = true → e.on ≠ i) → oi.apart ops oj = true) →
      i ∈ Region.ready md ops listed → YieldsIn P ops C oi v a →
      headQ P md ops C n L f (listed.setIfInBounds i true) (a.put oi.dst v) → headQ P md ops C n L (f + 1) listed a := by
  intro f
  induction f with
  | zero =>
    intro listed a inv _ hr hy H
    have hun := (mem_ready.1 hr).1
    refine ⟨fun h => (by rw [h] at hr; cases hr), fun j hj => ?_⟩
    have hjn : j < n := Nat.lt_of_not_le fun h => tail_waits hs hc hn inv _ i rfl hin hun j h hj
    refine ⟨hjn, ?_⟩
    by_cases hji : j = i
    · subst hji; exact hy.qOp hi H
    · have := hdone _ _ H j (ready_mono hj hji)
      omega
  | succ f ih =>
    intro listed a inv hfree hr hy H
    have hun := (mem_ready.1 hr).1
    refine ⟨fun h => (by rw [h] at hr; cases hr), fun j hj => ?_⟩
    have hjn : j < n := Nat.lt_of_not_le fun h => tail_waits hs hc hn inv _ i rfl hin hun j h hj
    refine ⟨hjn, ?_⟩
    by_cases hji : j = i
    · subst hji; exact hy.qOp hi H
    · have h1 := (H.2 j (ready_mono hj hji)).2
      obtain ⟨hjun, oj, hoj, hall⟩ := mem_ready.1 hj
      have hnot : ∀ e ∈ oj.after, Region.binds md e = true → e.on ≠ i := fun e he hb heq => by
        have h5 := hall e he hb
        rw [heq, getD_both hun] at h5
        cases h5
      have h2 := qOp_put hoj (hfree j oj hoj hji hjun hnot) (fun cs b => hsel i oi cs b hi) (fun cs b => hsel j oj cs b hoj) hy h1
      refine qOp_mono (fun a' h3 => ih (listed.setIfInBounds j true) a' (inv.set hj hjn) (fun k ok hk hki hun' hno => ?_) (ready_mono hr (Ne.symm hji)) h3.1 ?_) h2
      · refine hfree k ok hk hki ?_ hno
        by_cases hjk : j = k
        · subst hjk; exact hjun
        · rwa [getD_set_ne true hjk] at hun'
      · rw [Array.setIfInBounds_comm _ _ hji]
        exact h3.2

theorem headQ_lex {n g : Nat} {Lq : Act → Prop} (hsel : Region.noSelect ops = true) (hs : Region.sinkB md ops n = true) (hc : Region.chainB md ops n = true) (hn : n < ops.size) :
    ∀ (l : List Oper) (k : Nat) (listed : Array Bool) (a : Act), (∀ j, j < l.length → l[j]? = ops[k + j]?) → k + l.length = n → HeadInv md ops n listed →
    Region.lexHead md ops g l.length k listed = true → wpQuiet P ops C Lq l a →
    headQ P md ops C n (fun listed' a' => Region.seqB md ops g n listed' = true ∧ Lq a') l.length listed a
  | [], k, listed, a, _, hk, _, hB, h => by
    obtain rfl : k = n := by simpa using hk
    exact ⟨by simpa [Region.lexHead] using hB, h⟩
  | o :: l, k, listed, a, hl, hk, inv, hB, h => by
    have h0 : ops[k]? = some o := by simpa using (hl 0 (by simp)).symm
    simp only [List.length_cons, Region.lexHead, Bool.and_eq_true] at hB
    obtain ⟨⟨hr, hf⟩, hB'⟩ := hB
    have hkn : k < n := by simp only [List.length_cons] at hk; omega
    have hr' : k ∈ Region.ready md ops listed := by simpa using hr
    have hst : qOp P ops C k (wpQuiet P ops C Lq l) a := by unfold qOp; simp only [h0]; exact h
    obtain ⟨v, hy, hK⟩ := yieldsIn_of_qOp h0 hst
    exact headQ_first h0 (Region.noSelect_spec hsel) hs hc hn hkn (fun listed' a' hL => seqB_ready hL.1) l.length listed a inv (Region.free_spec h0 hf) hr' hy
      (headQ_lex hsel hs hc hn l (k + 1) _ _ (fun j hj => by have := hl (j + 1) (by simp; omega); simpa [Nat.add_assoc, Nat.add_comm 1 j] using this) (by simp only [List.length_cons] at hk; omega) (inv.set hr' hkn) hB' hK)

/-- A region whose first n operations are quiet in the class C, and whose others come behind all of these, one by one. -/
theorem wp_region_quiet_tail {id : Nat} {Q : Exit → Act → World → Prop} {a : Act} {w : World} {l : List Oper} (n : Nat) (C : World → Prop) (hm : P.follows .mixedOrders = true) (hB : Region.lexTailB .any l.toArray n = true)
    (hC : C { w with drawn := w.drawn + 1 })
    (h : wpQuiet P l.toArray C (fun a' => ∀ w', C w' → wpList P l.toArray Q (l.drop n) a' w') (l.take n) a) : (Code.region id l.toArray true).wp P Q a w := by
  simp only [Region.lexTailB, Bool.and_eq_true, decide_eq_true_eq] at hB
  obtain ⟨⟨⟨⟨hsel, hn⟩, hs⟩, hc⟩, hlex⟩ := hB
  have hn' : n < l.length := by simpa using hn
  have htl : (l.take n).length = n := by simp; omega
  have hdl : (l.drop n).length = l.toArray.size - n := by simp
  have inv0 : HeadInv .any l.toArray n (Array.replicate l.toArray.size false) :=
    ⟨by simp, fun j oj _ hl => (by rw [getD_replicate_false] at hl; cases hl), fun t _ ht => getD_in (by simpa using ht) (getD_replicate_false _ _)⟩
  have H := headQ_lex (md := .any) (C := C) (g := l.toArray.size - n) hsel hs hc hn (l.take n) 0 _ a (fun j hj => by
    have hj' : j < n := by rw [htl] at hj; exact hj
    simp [hj']) (by simpa using htl) inv0 (by rw [htl]; exact hlex) h
  refine wp_region_any hm ?_
  have := wpAny_of_headQ (C := C) (Q' := Q) (g := l.toArray.size - n) (fun listed a' w' hw' hL => by
    have := wpAny_of_seq (md := .any) (Q' := Q) (l.drop n) n listed a' w' (fun j => by simp [List.getElem?_drop]) (by rw [hdl]; exact hL.1) (hL.2 w' hw')
    rwa [hdl] at this) _ _ _ _ hC H
  rw [htl, show n + (l.toArray.size - n) = l.toArray.size by omega] at this
  exact this
end

/-- The worlds that are as W below W's heap. -/
structure Bw (W : World) where
  v : World
  h : Below W.heap.size W v
instance (W : World) : Nonempty (Bw W) := ⟨⟨W, Below.refl _ _⟩⟩
def bwC (W w' : World) : Prop := ∃ b : Bw W, w' = b.v
theorem bwC_drawn (W : World) : (fun w' => ∃ b : Bw W, w' = b.v) { W with drawn := W.drawn + 1 } := ⟨⟨W.drewN 1, below_drewN (Below.refl _ _) 1⟩, rfl⟩
end Go.Proofs.YtcmjpkfinbakkaaGreatDoor.Vf.Ck

namespace Go.Proofs.YtcmjpkfinbakkaaGreatDoor.Vf.Ck
set_option maxRecDepth 100000
open Go Go.RowKit

section
variable {P : Program} {ops : Array Oper} {md : Region.Mode} {C : World → Prop}
theorem op_then {o : Oper} {a : Act} {w : World} {K : Act → World → Prop} {R : Act → World → Prop} {Q : Exit → Act → World → Prop} (hh : o.wp P a w K (Exit.then R Q)) : o.wp P a w K Q := by
  unfold Oper.wp at *
  generalize (execOp a.eval o).run P w = r at *
  cases r with
  | ok n w' =>
    cases n <;> simp only [Oper.upon] at hh ⊢ <;>
      first
        | exact hh
        | exact Calls.mono hh (fun e w'' he => by cases e <;> exact he)
  | halt x w' => cases x <;> simp only [Oper.upon] at hh ⊢ <;> exact hh
theorem wpOp_then {i : Nat} {a : Act} {w : World} {K : Act → World → Prop} {R : Act → World → Prop} {Q : Exit → Act → World → Prop} (hh : wpOp P ops (Exit.then R Q) i K a w) : wpOp P ops Q i K a w := by
  unfold wpOp at *
  split
  · simpa [*] using hh
  · rename_i o ho
    simp only [ho] at hh
    split
    · rename_i hw; simp only [hw, if_true] at hh; exact hh.imp op_then (fun h => ⟨h.1, h.2⟩)
    · rename_i hw; simp only [hw] at hh; exact hh
/-- All behind n wait for one that is not ahead of n. -/
def waitB (md : Region.Mode) (ops : Array Oper) (n : Nat) : Bool :=
  (List.range ops.size).all fun t => decide (t ≤ n) || (List.range t).any fun j => decide (n ≤ j) && Region.waitsFor md ops t j
def midB (md : Region.Mode) (ops : Array Oper) (g : Nat) : Nat → Nat → Array Bool → Bool
  | 0, k, listed => Region.lexFrom md ops g k listed
  | f + 1, k, listed => decide (Region.ready md ops listed = [k]) && midB md ops g f (k + 1) (listed.setIfInBounds k true)
def lexHead2 (md : Region.Mode) (ops : Array Oper) (m g : Nat) : Nat → Nat → Array Bool → Bool
  | 0, k, listed => midB md ops g m k listed
  | f + 1, k, listed => (Region.ready md ops listed).contains k && Region.free md ops listed k && lexHead2 md ops m g f (k + 1) (listed.setIfInBounds k true)
/-- First n operations in any order, m behind them one by one, then the others in any order. -/
def lexMidB (md : Region.Mode) (ops : Array Oper) (n m : Nat) : Bool :=
  Region.noSelect ops && decide (n + m ≤ ops.size) && decide (1 ≤ m) && Region.sinkB md ops n && waitB md ops n && lexHead2 md ops m (ops.size - n - m) n 0 (Array.replicate ops.size false)
theorem tail_waits2 {n : Nat} {listed : Array Bool} (hs : Region.sinkB md ops n = true) (hc : waitB md ops n = true) (hn : n < ops.size) (inv : HeadInv md ops n listed) :
    ∀ (d i : Nat), n - i = d → i < n → listed.getD i true = false → ∀ t, n ≤ t → t ∉ Region.ready md ops listed := by
  intro d
  induction d using Nat.strongRecOn with
  | _ d ih =>
    intro i hd hi hun t ht hr
    obtain ⟨_, ot, hot, hall⟩ := mem_ready.1 hr
    have htlt : t < ops.size := (Array.getElem?_eq_some_iff.1 hot).1
    by_cases htn : t = n
    · subst htn
      have h1 := List.all_eq_true.1 hs i (List.mem_range.2 hi)
      obtain ⟨j, hj, hj2⟩ := List.any_eq_true.1 h1
      simp only [Bool.and_eq_true, decide_eq_true_eq] at hj2
      obtain ⟨oj, hoj, e, he, hb, hon⟩ := Region.waitsFor_spec hj2.2
      have hjle : j ≤ t := by have := List.mem_range.1 hj; omega
      by_cases hjt : j = t
      · subst hjt
        have : oj = ot := Option.some.inj (hoj.symm.trans hot)
        subst this
        have h2 := hall e he hb
        rw [hon, getD_both hun] at h2
        cases h2
      · cases hl : listed.getD j false with
        | true =>
          have h2 := inv.closed j oj hoj hl e he hb
          rw [hon, getD_both hun] at h2
          cases h2
        | false =>
          have hjs : j < listed.size := by rw [inv.size]; omega
          exact ih (t - j) (by omega) j rfl (by omega) (getD_in hjs hl) t (Nat.le_refl _) hr
    · have h1 := List.all_eq_true.1 hc t (List.mem_range.2 htlt)
      simp only [Bool.or_eq_true, decide_eq_true_eq] at h1
      rcases h1 with h1 | h1
      · omega
      · obtain ⟨j, hj, hj2⟩ := List.any_eq_true.1 h1
        simp only [Bool.and_eq_true, decide_eq_true_eq] at hj2
        obtain ⟨o', ho', e, he, hb, hon⟩ := Region.waitsFor_spec hj2.2
        have : o' = ot := Option.some.inj (ho'.symm.trans hot)
        subst this
        have h2 := hall e he hb
        rw [hon, getD_both (inv.tail j hj2.1 (by have := List.mem_range.1 hj; omega))] at h2
        cases h2
theorem headQ_first2 {n i : Nat} {oi : Oper} {v : Value} {L : Array Bool → Act → Prop} (hi : ops[i]? = some oi) (hsel : ∀ (j : Nat) (o : Oper) cs b, ops[j]? = some o → o.op ≠ .select cs b)
    (hs : Region.sinkB md ops n = true) (hc : waitB md ops n = true) (hn : n < ops.size) (hin : i < n)
    (hdone : ∀ listed a, L listed a → ∀ j ∈ Region.ready md ops listed, n ≤ j) :
    ∀ (f : Nat) (listed : Array Bool) (a : Act), HeadInv md ops n listed →
      (∀ j oj, ops[j]? = some oj → j ≠ i → listed.getD j true = false → (∀ e ∈ oj.after, Region.binds md e = true → e.on ≠ i) → oi.apart ops oj = true) →
      i ∈ Region.ready md ops listed → YieldsIn P ops C oi v a →
      headQ P md ops C n L f (listed.setIfInBounds i true) (a.put oi.dst v) → headQ P md ops C n L (f + 1) listed a := by
  intro f
  induction f with
  | zero =>
    intro listed a inv _ hr hy H
    have hun := (mem_ready.1 hr).1
    refine ⟨fun h => (by rw [h] at hr; cases hr), fun j hj => ?_⟩
    have hjn : j < n := Nat.lt_of_not_le fun h => tail_waits2 hs hc hn inv _ i rfl hin hun j h hj
    refine ⟨hjn, ?_⟩
    by_cases hji : j = i
    · subst hji; exact hy.qOp hi H
    · have := hdone _ _ H j (ready_mono hj hji)
      omega
  | succ f ih =>
    intro listed a inv hfree hr hy H
    have hun := (mem_ready.1 hr).1
    refine ⟨fun h => (by rw [h] at hr; cases hr), fun j hj => ?_⟩
    have hjn : j < n := Nat.lt_of_not_le fun h => tail_waits2 hs hc hn inv _ i rfl hin hun j h hj
    refine ⟨hjn, ?_⟩
    by_cases hji : j = i
    · subst hji; exact hy.qOp hi H
    · have h1 := (H.2 j (ready_mono hj hji)).2
      obtain ⟨hjun, oj, hoj, hall⟩ := mem_ready.1 hj
      have hnot : ∀ e ∈ oj.after, Region.binds md e = true → e.on ≠ i := fun e he hb heq => by
        have h5 := hall e he hb
        rw [heq, getD_both hun] at h5
        cases h5
      have h2 := qOp_put hoj (hfree j oj hoj hji hjun hnot) (fun cs b => hsel i oi cs b hi) (fun cs b => hsel j oj cs b hoj) hy h1
      refine qOp_mono (fun a' h3 => ih (listed.setIfInBounds j true) a' (inv.set hj hjn) (fun k ok hk hki hun' hno => ?_) (ready_mono hr (Ne.symm hji)) h3.1 ?_) h2
      · refine hfree k ok hk hki ?_ hno
        by_cases hjk : j = k
        · subst hjk; exact hjun
        · rwa [getD_set_ne true hjk] at hun'
      · rw [Array.setIfInBounds_comm _ _ hji]
        exact h3.2
theorem midB_ready {m g k : Nat} {listed : Array Bool} (hm : 1 ≤ m) (h : midB md ops g m k listed = true) : ∀ j ∈ Region.ready md ops listed, k ≤ j := by
  cases m with
  | zero => omega
  | succ m =>
    intro j hj
    simp only [midB, Bool.and_eq_true, decide_eq_true_eq] at h
    rw [h.1] at hj
    have : j = k := by simpa using hj
    omega
theorem headQ_lex2 {n m g : Nat} {Lq : Act → Prop} (hm : 1 ≤ m) (hsel : Region.noSelect ops = true) (hs : Region.sinkB md ops n = true) (hc : waitB md ops n = true) (hn : n < ops.size) :
    ∀ (l : List Oper) (k : Nat) (listed : Array Bool) (a : Act), (∀ j, j < l.length → l[j]? = ops[k + j]?) → k + l.length = n → HeadInv md ops n listed →
    lexHead2 md ops m g l.length k listed = true → wpQuiet P ops C Lq l a →
    headQ P md ops C n (fun listed' a' => midB md ops g m n listed' = true ∧ Lq a') l.length listed a
  | [], k, listed, a, _, hk, _, hB, h => by
    obtain rfl : k = n := by simpa using hk
    exact ⟨by simpa [lexHead2] using hB, h⟩
  | o :: l, k, listed, a, hl, hk, inv, hB, h => by
    have h0 : ops[k]? = some o := by simpa using (hl 0 (by simp)).symm
    simp only [List.length_cons, lexHead2, Bool.and_eq_true] at hB
    obtain ⟨⟨hr, hf⟩, hB'⟩ := hB
    have hkn : k < n := by simp only [List.length_cons] at hk; omega
    have hr' : k ∈ Region.ready md ops listed := by simpa using hr
    have hst : qOp P ops C k (wpQuiet P ops C Lq l) a := by unfold qOp; simp only [h0]; exact h
    obtain ⟨v, hy, hK⟩ := yieldsIn_of_qOp h0 hst
    exact headQ_first2 h0 (Region.noSelect_spec hsel) hs hc hn hkn (fun listed' a' hL => midB_ready hm hL.1) l.length listed a inv (Region.free_spec h0 hf) hr' hy
      (headQ_lex2 hm hsel hs hc hn l (k + 1) _ _ (fun j hj => by have := hl (j + 1) (by simp; omega); simpa [Nat.add_assoc, Nat.add_comm 1 j] using this) (by simp only [List.length_cons] at hk; omega) (inv.set hr' hkn) hB' hK)
theorem wpAny_of_mid {Q : Exit → Act → World → Prop} {R : Act → World → Prop} {g e : Nat} (hend : ∀ listed a w, Region.lexFrom md ops g e listed = true → R a w → wpAny P md ops Q g listed a w) :
    ∀ (l : List Oper) (k : Nat) (listed : Array Bool) (a : Act) (w : World), (∀ j, j < l.length → l[j]? = ops[k + j]?) → k + l.length = e →
    midB md ops g l.length k listed = true → wpList P ops (Exit.then R Q) l a w → wpAny P md ops Q (l.length + g) listed a w
  | [], k, listed, a, w, _, hk, hB, h => by
    obtain rfl : k = e := by simpa using hk
    rw [List.length_nil, Nat.zero_add]
    exact hend _ _ _ (by simpa [midB] using hB) h
  | o :: l, k, listed, a, w, hl, hk, hB, h => by
    have h0 : ops[k]? = some o := by simpa using (hl 0 (by simp)).symm
    simp only [List.length_cons, midB, Bool.and_eq_true, decide_eq_true_eq] at hB
    rw [List.length_cons, show l.length + 1 + g = (l.length + g) + 1 by omega]
    refine ⟨fun h1 => (by rw [hB.1] at h1; cases h1), fun i hi => ?_⟩
    rw [hB.1] at hi
    have hik : i = k := by simpa using hi
    subst hik
    have hw : wpOp P ops (Exit.then R Q) i (wpList P ops (Exit.then R Q) l) a w := by unfold wpOp; simp only [h0]; exact h
    exact wpOp_mono (fun a' w' h' => wpAny_of_mid hend l (i + 1) _ a' w' (fun j hj => by have := hl (j + 1) (by simp; omega); simpa [Nat.add_assoc, Nat.add_comm 1 j] using this) (by simp only [List.length_cons] at hk; omega) hB.2 h') (wpOp_then hw)
/-- A region whose first n operations are quiet in the class C, m behind them one by one, and the others quiet again. -/
theorem wp_region_quiet_mid {id : Nat} {Q : Exit → Act → World → Prop} {a : Act} {w : World} {l : List Oper} (n m : Nat) (C : World → Prop) (hm : P.follows .mixedOrders = true) (hB : lexMidB .any l.toArray n m = true)
    (hC : C { w with drawn := w.drawn + 1 })
    (h : wpQuiet P l.toArray C (fun a' => ∀ w', C w' → wpList P l.toArray (Exit.then (fun b w'' => wpQuiet P l.toArray (fun x => x = w'') (fun b' => Q .normal b' w'') (l.drop (n + m)) b) Q) ((l.drop n).take m) a' w') (l.take n) a) : (Code.region id l.toArray true).wp P Q a w := by
  simp only [lexMidB, Bool.and_eq_true, decide_eq_true_eq] at hB
  obtain ⟨⟨⟨⟨⟨hsel, hnm⟩, hm1⟩, hs⟩, hc⟩, hlex⟩ := hB
  have hnm' : n + m ≤ l.length := by simpa using hnm
  have hn : n < l.toArray.size := by simp; omega
  have htl : (l.take n).length = n := by simp; omega
  have hml : ((l.drop n).take m).length = m := by simp; omega
  have hrl : (l.drop (n + m)).length = l.toArray.size - n - m := by simp; omega
  have inv0 : HeadInv .any l.toArray n (Array.replicate l.toArray.size false) :=
    ⟨by simp, fun j oj _ hl => (by rw [getD_replicate_false] at hl; cases hl), fun t _ ht => getD_in (by simpa using ht) (getD_replicate_false _ _)⟩
  have H := headQ_lex2 (md := .any) (C := C) (m := m) (g := l.toArray.size - n - m) hm1 hsel hs hc hn (l.take n) 0 _ a (fun j hj => by
    have hj' : j < n := by rw [htl] at hj; exact hj
    simp [hj']) (by simpa using htl) inv0 (by rw [htl]; exact hlex) h
  refine wp_region_any hm ?_
  have := wpAny_of_headQ (C := C) (Q' := Q) (g := m + (l.toArray.size - n - m)) (fun listed a' w' hw' hL => by
    have := wpAny_of_mid (md := .any) (Q := Q) (g := l.toArray.size - n - m) (e := n + m) (fun listed b w'' hlf hR => by
      refine wpAny_of_quiet (C := fun x => x = w'') (Q := fun b' => Q .normal b' w'') (fun b' x hx hq => by subst hx; exact hq) _ _ _ _ rfl ?_
      have := wpAnyQ_lex (C := fun x => x = w'') (md := .any) hsel (l.drop (n + m)) (n + m) listed b (fun j => by simp [List.getElem?_drop]) (by rw [hrl]; exact hlf) hR
      rwa [hrl] at this) ((l.drop n).take m) n listed a' w' (fun j hj => by
        have hj' : j < m := by rw [hml] at hj; exact hj
        simp [List.getElem?_take, List.getElem?_drop, hj']) (by rw [hml]) (by rw [hml]; exact hL.1) (hL.2 w' hw')
    rwa [hml] at this) _ _ _ _ hC H
  rw [htl, show n + (m + (l.toArray.size - n - m)) = l.toArray.size by omega] at this
  exact this
end
end Go.Proofs.YtcmjpkfinbakkaaGreatDoor.Vf.Ck
