import Derived.Test.YthgddbdkdloobaaDoorMP
import Derived.Test.YthgddbdkdloobaaDoorD
import Derived.WalkSpells
namespace Go.Proofs.YthgddbdkdloobaaDoor
open Go.RowKit
set_option linter.unusedVariables false

theorem digit_slice : ∀ k : Fin 10, (⟨#[48, 49, 50, 51, 52, 53, 54, 55, 56, 57]⟩ : ByteArray).extract k.val (k.val + 1) = ⟨#[UInt8.ofNat (48 + k.val)]⟩ := by decide
theorem itl_pos {n : Nat} (h : 0 < n) : itl (-(n : Int)) = 45 :: dcl n := by
  unfold itl
  rw [if_pos (by omega), Int.natAbs_neg, Int.natAbs_natCast]
theorem itl_nat (n : Nat) : itl (n : Int) = dcl n := by
  unfold itl
  rw [if_neg (by omega), Int.natAbs_natCast]
theorem itl_min : itl (-9223372036854775808) = [45, 57, 50, 50, 51, 51, 55, 50, 48, 51, 54, 56, 53, 52, 55, 55, 53, 56, 48, 56] := by
  have h := itl_pos (n := 9223372036854775808) (by omega)
  have e : -((9223372036854775808 : Nat) : Int) = -9223372036854775808 := rfl
  rw [e] at h
  rw [h]
  repeat rw [dcl_big (by omega)]
  rw [dcl_small (by omega)]
  rfl
set_option maxRecDepth 100000 in
set_option maxHeartbeats 2000000 in
theorem RefDigits_any (n : Nat) (hn : n < 9223372036854775808) (w : World) :
    Calls Tryd.prog 18 #[.int .i64 n] w fun e w' => e = .returned (.string ⟨(dcl n).toArray⟩) ∧ w' = w := by
  induction n using Nat.strongRecOn generalizing w with
  | _ n ih =>
    obtain ⟨R, hR⟩ : ∃ R, dcl n = R := ⟨_, rfl⟩
    rw [hR]
    obtain ⟨k, hk⟩ : ∃ k, n % 10 = k := ⟨_, rfl⟩
    have hk10 : k < 10 := by omega
    have hm : (n : Int) % 10 = (k : Int) := by omega
    have hm2 : (n : Int).tmod 10 = (k : Int) := by rw [Int.tmod_eq_emod_of_nonneg (by omega)]; omega
    have hsl := digit_slice ⟨k, hk10⟩
    simp only at hsl
    obtain ⟨z, hz⟩ : ∃ z : ByteArray, ⟨#[UInt8.ofNat (48 + k)]⟩ = z := ⟨_, rfl⟩
    rw [hz] at hsl
    have HZ := Lib.hid hz
    have HR := Lib.hid hR
    have q1 : (k : Int) ≤ 10 := by omega
    have q2 : (k : Int) + 1 ≤ 10 := by omega
    have q3 : (0 : Int) ≤ (k : Int) := by omega
    have w1 : IntKind.i64.wrap ((k : Int) + 1) = (k : Int) + 1 := by rw [IntKind.wrap_i64]; omega
    have w2 : wrap64 ((k : Int) + 1) = (k : Int) + 1 := by unfold wrap64; omega
    have HK := Lib.hid hk
    by_cases h9 : n < 10
    · have b1 : ¬ (9 : Int) < (n : Int) := by omega
      have HD : Hid (R = [UInt8.ofNat (48 + k)]) := by rw [Hid, ← hR, dcl_small h9, show k = n by omega]
      clear hk hR hz ih
      go_enter Tryd.func18, Tryd.ntmps18
      go_wp2_with fail
      go_ret
      exact ⟨by rw [HD.out, ← HZ.out]; rfl, rfl⟩
    · have b1 : (9 : Int) < (n : Int) := by omega
      have HD : Hid (R = dcl (n / 10) ++ [UInt8.ofNat (48 + k)]) := by rw [Hid, ← hR, dcl_big h9, hk]
      obtain ⟨m, hmm⟩ : ∃ m, n / 10 = m := ⟨_, rfl⟩
      rw [hmm] at HD
      have hd2 : (n : Int).tdiv 10 = (m : Int) := by rw [Int.tdiv_eq_ediv_of_nonneg (by omega)]; omega
      have hd3 : (n : Int) / 10 = (m : Int) := by omega
      have hi := ih m (by omega) (by omega) w
      obtain ⟨S, hS⟩ : ∃ S : ByteArray, ⟨(dcl m).toArray⟩ = S := ⟨_, rfl⟩
      have hSs : S.size ≤ 19 := by
        rw [← hS]
        exact dcl_len 18 m (by omega)
      have hzs : z.size = 1 := by rw [← HZ.out]; rfl
      rw [hS] at hi
      have HS := Lib.hid hS
      have w3 : IntKind.i64.wrap (m : Int) = (m : Int) := by rw [IntKind.wrap_i64]; omega
      have w4 : wrap64 (m : Int) = (m : Int) := by unfold wrap64; omega
      have HI := Lib.hid hi
      clear hk hR hz ih hi hmm hS
      go_enter Tryd.func18, Tryd.ntmps18
      go_wp2_with fail
      refine HI.out.mono ?_
      rintro e w' ⟨rfl, hw⟩
      obtain rfl := hw.symm
      go_wp2_with fail
      go_ret
      refine ⟨?_, rfl⟩
      rw [HD.out, ← HZ.out, ← HS.out]
      congr 2

set_option maxRecDepth 100000 in
set_option maxHeartbeats 2000000 in
theorem RefInt_any (n : Int) (h1 : -9223372036854775808 ≤ n) (h2 : n < 9223372036854775808) (w : World) :
    Calls Tryd.prog 17 #[.int .i64 n] w fun e w' => e = .returned (.string ⟨(itl n).toArray⟩) ∧ w' = w := by
  by_cases h0 : n = -9223372036854775808
  · subst h0
    go_enter Tryd.func17, Tryd.ntmps17
    go_wp2_with fail
    go_ret
    exact ⟨congrArg (fun l : Bs => Ending.returned (.string ⟨l.toArray⟩)) itl_min.symm, rfl⟩
  by_cases h : n < 0
  · obtain ⟨m, hm⟩ : ∃ m : Nat, n = -(m : Int) := ⟨n.natAbs, by omega⟩
    subst hm
    have hI := Lib.hid (itl_pos (n := m) (by omega))
    obtain ⟨S, hS⟩ : ∃ S : ByteArray, ⟨(dcl m).toArray⟩ = S := ⟨_, rfl⟩
    have hSs : S.size ≤ 19 := by
      rw [← hS]
      exact dcl_len 18 m (by omega)
    have hd := RefDigits_any m (by omega) w
    rw [hS] at hd
    have HD := Lib.hid hd
    have HS := Lib.hid hS
    have b1 : (-(m : Int) == -9223372036854775808) = false := by rw [beq_eq_false_iff_ne]; omega
    have b2 : -(m : Int) < 0 := h
    have b3 : IntKind.i64.wrap (- -(m : Int)) = (m : Int) := by rw [IntKind.wrap_i64]; omega
    have b4 : wrap64 (- -(m : Int)) = (m : Int) := by unfold wrap64; omega
    have b5 : IntKind.i64.wrap (m : Int) = (m : Int) := by rw [IntKind.wrap_i64]; omega
    have b6 : wrap64 (m : Int) = (m : Int) := by unfold wrap64; omega
    clear hS hd h
    go_enter Tryd.func17, Tryd.ntmps17
    go_wp2_with fail
    refine HD.out.mono ?_
    rintro e w' ⟨rfl, hw⟩
    obtain rfl := hw.symm
    go_wp2_with fail
    go_ret
    exact ⟨by rw [hI.out, ← HS.out]; congr 2, rfl⟩
  · obtain ⟨m, hm⟩ : ∃ m : Nat, n = (m : Int) := ⟨n.toNat, by omega⟩
    subst hm
    have hI := Lib.hid (itl_nat m)
    obtain ⟨S, hS⟩ : ∃ S : ByteArray, ⟨(dcl m).toArray⟩ = S := ⟨_, rfl⟩
    have hd := RefDigits_any m (by omega) w
    rw [hS] at hd
    have HD := Lib.hid hd
    have HS := Lib.hid hS
    have b1 : ((m : Int) == -9223372036854775808) = false := by rw [beq_eq_false_iff_ne]; omega
    clear hS hd
    go_enter Tryd.func17, Tryd.ntmps17
    go_wp2_with fail
    refine HD.out.mono ?_
    rintro e w' ⟨rfl, hw⟩
    obtain rfl := hw.symm
    go_wp2_with fail
    go_ret
    exact ⟨by rw [hI.out, ← HS.out]; rfl, rfl⟩


/-- The operators, as the law lists them. -/
def opsB : List ByteArray := [⟨#[124, 124]⟩, ⟨#[38, 38]⟩, ⟨#[124]⟩, ⟨#[94]⟩, ⟨#[38]⟩, ⟨#[61, 61]⟩, ⟨#[33, 61]⟩, ⟨#[60]⟩, ⟨#[60, 61]⟩, ⟨#[62]⟩, ⟨#[62, 61]⟩, ⟨#[60, 60]⟩, ⟨#[62, 62]⟩, ⟨#[43]⟩, ⟨#[45]⟩, ⟨#[42]⟩, ⟨#[47]⟩, ⟨#[37]⟩]
theorem opsB_len : opsB.length = 18 := rfl
theorem opsB_ops : ∀ k : Fin 18, (opsB[k.val]'(k.isLt)).data.toList ∈ opsL := by decide
/-- Where the operators stand. -/
def Ops (w : World) (b : Nat) : Prop := b < w.heap.size ∧ ∀ k (h : k < 18), w.cell? ⟨b, k, none⟩ = some (.string (opsB[k]'(h)))
theorem Ops.below {w w' : World} {b : Nat} (h : Ops w b) (hB : Below w.heap.size w w') : Ops w' b := by
  have hs := hB.size
  exact ⟨by have := h.1; omega, fun k hk => by rw [hB.cell (p := ⟨b, k, none⟩) h.1]; exact h.2 k hk⟩
set_option maxRecDepth 100000 in
theorem ops_any (w : World) : Calls Tryd.prog 16 #[] w fun e w' => (∃ b, e = .returned (.slice (some ⟨b, 0, none⟩) 18 18) ∧ Ops w' b) ∧ Below w.heap.size w w' := by
  go_enter Tryd.func16, Tryd.ntmps16
  go_wp2_with fail
  go_ret
  refine ⟨⟨w.heap.size, rfl, ?_, fun k hk => ?_⟩, (Below.refl _ _).alloc (Nat.le_refl _) _⟩
  · rw [World.size_alloc]; omega
  · have h := heap_alloc_new w (.cells (opsB.map Value.string).toArray 9)
    show World.cell? (w.alloc (.cells (opsB.map Value.string).toArray 9)) ⟨w.heap.size, k, none⟩ = _
    rw [cell_of_row _ _ _ _ _ _ h]
    simp [opsB_len, hk]
    rfl
/-- Is a text a name? -/
def nmOk (s : Bs) : Bool := decide (s ≠ [] ∧ s.length ≤ 60 ∧ nmL s = s.length)
set_option maxHeartbeats 2000000 in
theorem Name_ref (s : ByteArray) (w : World) (hs : s.size ≤ 4611686018427387903) : Calls Tryd.prog 19 #[.string s] w fun e w' => e = .returned (.bool (nmOk s.data.toList)) ∧ w' = w := by
  have hl := dlen s
  have hn := RefNameLen_any s 0 w hs (Nat.zero_le _)
  rw [List.drop_zero] at hn
  have HN : Hid (Calls Tryd.prog 24 #[.string s, .int .i64 0] w fun e w' => e = .returned (.int .i64 (nmL s.data.toList : Nat)) ∧ w' = w) := hn
  have hE : nmOk s.data.toList = ((!(s.toList == [])) && (decide ((s.size : Int) ≤ 60) && (((nmL s.data.toList : Nat) : Int) == (s.size : Int)))) := by
    unfold nmOk
    rw [Bool.eq_iff_iff, decide_eq_true_iff, Bool.and_eq_true, Bool.and_eq_true, decide_eq_true_iff, beq_iff_eq, Lib.toList_data, Bool.not_eq_true', beq_eq_false_iff_ne, hl]
    constructor
    · rintro ⟨a, b, c⟩; exact ⟨a, by omega, by omega⟩
    · rintro ⟨a, b, c⟩; exact ⟨a, by omega, by omega⟩
  rw [hE]
  clear hE hn
  obtain ⟨b1, h1⟩ : ∃ b, (s.toList == []) = b := ⟨_, rfl⟩
  obtain ⟨b2, h2⟩ : ∃ b, decide ((s.size : Int) ≤ 60) = b := ⟨_, rfl⟩
  obtain ⟨b3, h3⟩ : ∃ b, (((nmL s.data.toList : Nat) : Int) == (s.size : Int)) = b := ⟨_, rfl⟩
  rw [h1, h2, h3]
  cases b1 <;> cases b2
  all_goals
    go_enter Tryd.func19, Tryd.ntmps19
    go_wp2_with fail
    first
    | (go_ret; exact ⟨rfl, rfl⟩)
    | (refine HN.out.mono ?_
       rintro e w' ⟨rfl, h⟩
       obtain rfl := h.symm
       simp only []
       go_wp2_with fail
       go_ret
       exact ⟨rfl, rfl⟩)
end Go.Proofs.YthgddbdkdloobaaDoor
