import Derived.Test.YtmpnhjdadjfecaaDoorE
namespace Go.Proofs.YtmpnhjdadjfecaaDoor
open Go.RowKit

/-- Where a byte is first. -/
def at_ (s : ByteArray) (c : UInt8) : Nat → Nat → Int
  | 0, _ => -1
  | n + 1, k => if k < s.size then (if gb s k = c then (k : Int) else at_ s c n (k + 1)) else -1

set_option maxRecDepth 100000 in
set_option maxHeartbeats 2000000 in
theorem At_any (s : ByteArray) (c : UInt8) (w : World) (hs : s.size ≤ 4000000) :
    Calls Tryd.prog 22 #[.string s, .int .u8 c.toNat] w fun e w' => e = .returned (.int .i64 (at_ s c (s.size + 1) 0)) ∧ w' = w := by
  obtain ⟨R, hR⟩ : ∃ R, at_ s c (s.size + 1) 0 = R := ⟨_, rfl⟩
  rw [hR]
  have HR := Lib.hid hR
  clear hR
  go_enter Tryd.func22, Tryd.ntmps22
  go_wp2_with fail
  go_loop [5] (fun ia => ∃ k : Nat, ia = .int .i64 k ∧ k ≤ s.size ∧ Hid (at_ s c (s.size + 1 - k) k = R)) (fun ia => s.size - (intOf ia).toNat)
  case atStart => exact ⟨0, rfl, by omega, HR.out⟩
  case round =>
    obtain ⟨k, rfl, hk, HK⟩ := hrel
    have h0 : (0 : Int) ≤ (k : Int) := by omega
    have hK := HK.out
    rw [show s.size + 1 - k = (s.size - k) + 1 by omega, at_] at hK
    by_cases hlt : k < s.size
    · have b1 : (k : Int) < (s.size : Int) := by omega
      have hg := gb_eq s k hlt
      rw [if_pos hlt] at hK
      by_cases hc : gb s k = c
      · rw [if_pos hc] at hK
        have hb : (((gb s k).toNat : Int) == (c.toNat : Int)) = true := by rw [hc]; simp
        have HK2 := Lib.hid hK
        clear hK hc
        go_wp2_with fail
        go_ret
        exact ⟨by rw [← HK2.out]; rfl, rfl⟩
      · rw [if_neg hc] at hK
        have hb : (((gb s k).toNat : Int) == (c.toNat : Int)) = false := by
          rw [beq_eq_false_iff_ne]
          intro e
          exact hc (UInt8.toNat.inj (Int.ofNat.inj e))
        have HK2 : Hid (at_ s c (s.size + 1 - (k + 1)) (k + 1) = R) := by rw [Hid, show s.size + 1 - (k + 1) = s.size - k by omega]; exact hK
        clear hK hc
        go_wp2_with fail
        exact ⟨⟨k + 1, by go_num, by omega, HK2.out⟩, by simp [intOf]; omega⟩
    · have b1 : ¬ (k : Int) < (s.size : Int) := by omega
      rw [if_neg hlt] at hK
      have HK2 := Lib.hid hK
      clear hK
      go_wp2_with fail
      go_ret
      exact ⟨by rw [← HK2.out]; rfl, rfl⟩

set_option maxRecDepth 100000 in
set_option maxHeartbeats 2000000 in
theorem RefBase_any (p : ByteArray) (w : World) (hp : p.size ≤ 1100000) :
    Calls Tryd.prog 19 #[.string p] w fun e w' => e = .returned (.string ⟨((parts ⟨#[47]⟩ p).getLast?.getD []).toArray⟩) ∧ Below w.heap.size w w' := by
  have hl := parts_len ⟨#[47]⟩ p
  have h1 : (⟨#[47]⟩ : ByteArray).size = 1 := rfl
  rw [h1] at hl
  obtain ⟨M, hM⟩ : ∃ M, parts ⟨#[47]⟩ p = M := ⟨_, rfl⟩
  rw [hM] at hl
  rw [hM]
  have HM := Lib.hid hM
  clear hM h1
  go_enter Tryd.func19, Tryd.ntmps19
  go_wp2_with fail
  refine (RefParts_any ⟨#[47]⟩ p w (by decide) hp).mono ?_
  rintro e w1 ⟨v, rfl, hown, hB⟩
  rw [HM.out] at hown
  have HB := Lib.hid hB
  clear hB
  by_cases hn : 0 < M.length
  · have hnI : ((M.length : Int) == 0) = false := by rw [beq_eq_false_iff_ne]; omega
    obtain ⟨g, c, rfl, _, _⟩ := hown.form hn
    have hck : w1.cell? ⟨g, M.length - 1, none⟩ = some (encStr M[M.length - 1]) := by
      rw [World.ownsRow.cellAt hown (M.length - 1) (by omega)]
      simp
    have hadd : (⟨g, 0, none⟩ : Addr).add (M.length - 1) = ⟨g, M.length - 1, none⟩ := by unfold Addr.add; by_cases h : M.length - 1 = 0 <;> simp [h]
    have hgl : M.getLast?.getD [] = M[M.length - 1] := by rw [List.getLast?_eq_getElem?, List.getElem?_eq_getElem (by omega)]; rfl
    have HG := Lib.hid hgl
    obtain ⟨k, hk⟩ : ∃ k, M.length - 1 = k := ⟨_, rfl⟩
    have hkI : (M.length : Int) - 1 = (k : Int) := by omega
    have hwr : IntKind.i64.wrap ((M.length : Int) - 1) = (k : Int) := by rw [IntKind.wrap_i64]; omega
    have hwr2 : wrap64 ((M.length : Int) - 1) = (k : Int) := by unfold wrap64; omega
    have hkl : (k : Int) < (M.length : Int) := by omega
    have hk0 : (0 : Int) ≤ (k : Int) := by omega
    obtain ⟨z, hz⟩ : ∃ z : ByteArray, ⟨(M[M.length - 1]).toArray⟩ = z := ⟨_, rfl⟩
    rw [show encStr M[M.length - 1] = .string ⟨(M[M.length - 1]).toArray⟩ from rfl, hz] at hck
    have HZ : Hid ((⟨(M.getLast?.getD []).toArray⟩ : ByteArray) = z) := by rw [Hid, HG.out]; exact hz
    rw [hk] at hck hadd
    obtain ⟨Q, hQ⟩ : ∃ Q : ByteArray, (⟨(M.getLast?.getD []).toArray⟩ : ByteArray) = Q := ⟨_, rfl⟩
    have hQz : Q = z := hQ.symm.trans HZ.out
    clear hgl hown hz hk hkI
    go_wp2_with fail
    go_ret
    exact ⟨by rw [HZ.out]; rfl, HB.out⟩
  · obtain rfl : M = [] := List.length_eq_zero_iff.1 (by omega)
    obtain ⟨A, c, rfl⟩ := own_form hown
    clear hown
    go_wp2_with fail
    go_ret
    exact ⟨rfl, HB.out⟩
end Go.Proofs.YtmpnhjdadjfecaaDoor
