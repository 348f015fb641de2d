import Derived.Test.YtpgaeldjiiaoiaaA
namespace Go.Proofs.Ytpgaeldjiiaoiaa
open Go.RowKit

def allOnes : Nat := 18446744073709551615
theorem testBit_allOnes (i : Nat) : allOnes.testBit i = decide (i < 64) := Nat.testBit_two_pow_sub_one 64 i
theorem xor_not (x : Nat) (hx : x < 18446744073709551616) :
    bits BinOp.xor IntKind.u64 (if IntKind.u64.signed = true then -1 else IntKind.u64.max) (x : Int) = ((allOnes ^^^ x : Nat) : Int) := by
  have : (if IntKind.u64.signed = true then -1 else IntKind.u64.max) = ((18446744073709551615 : Nat) : Int) := by decide
  rw [this, u64_xor_nat _ _ (by decide) hx]; rfl
theorem xor_lt (x : Nat) (hx : x < 18446744073709551616) : allOnes ^^^ x < 18446744073709551616 :=
  Nat.xor_lt_two_pow (n := 64) (by decide) hx

set_option maxHeartbeats 400000 in
theorem invert_any (b : Nat) (v : Nat → Nat) (w : World) (hs : SetAt w b v) :
    Calls Try.prog 40 #[.pointer (some ⟨b, 0, none⟩)] w fun e w' => e = .returned (.tuple #[]) ∧
      w.grownBy w' (some b) ∧ ∃ v', SetAt w' b v' ∧ ∀ c, c < 256 → sbit v' c = !(sbit v c) := by
  go_enter Try.func40, Try.ntmps40
  go_wp2
  go_loopw [3] (fun x wr => ∃ k : Nat, x = .int .i64 k ∧ k ≤ 4 ∧ w.grownBy wr (some b) ∧ ∃ v', SetAt wr b v' ∧ (∀ j, j < k → v' j = allOnes ^^^ v j) ∧ (∀ j, k ≤ j → v' j = v j)) (fun i _ => 4 - (intOf i).toNat)
  case atStart => exact ⟨0, rfl, by omega, gb_refl _ _, v, hs, fun j h => by omega, fun j _ => rfl⟩
  case round =>
    obtain ⟨k, rfl, hk6, hg, v', hs', h1, h2⟩ := hrel
    have H1 := Lib.hid h1
    have H2 := Lib.hid h2
    clear h1 h2
    by_cases hk : k < 4
    · have hcell := hs'.cell hk
      have hfree := hs'.free k
      have hx := xor_not (v' k) (hs'.2 k)
      go_wp2
      go_region
      go_wp2
      go_roundw
      case rel => 
        refine ⟨k + 1, by go_num, by omega, gb_drew (gb_set hg _ _), _, (hs'.set hk (xor_lt _ (hs'.2 k))).drew, fun j hj => ?_, fun j hj => ?_⟩
        · unfold upd
          split
          · next h => subst h; rw [H2.out _ (Nat.le_refl _)]
          · exact H1.out j (by omega)
        · unfold upd
          rw [if_neg (by omega)]
          exact H2.out j (by omega)
      case measure => simp [intOf]; omega
    · go_wp2
      go_end0
      refine ⟨rfl, hg, v', hs', fun c hc => ?_⟩
      unfold sbit
      rw [H1.out _ (by omega), Nat.testBit_xor, testBit_allOnes]
      have : c % 64 < 64 := by omega
      simp [this]

theorem shr_bit (x r : Nat) (hx : x < 18446744073709551616) : bits BinOp.and IntKind.u64 ((x : Int) / 2 ^ r) 1 = (if x.testBit r = true then 1 else 0) := by
  have h : ((x : Int) / 2 ^ r) = ((x / 2 ^ r : Nat) : Int) := by simp
  rw [h]
  have := u64_and_nat (x / 2 ^ r) 1 (Nat.lt_of_le_of_lt (Nat.div_le_self _ _) hx) (by decide)
  rw [show ((1 : Nat) : Int) = 1 from rfl] at this
  rw [this, Nat.and_one_is_mod, Nat.testBit_eq_decide_div_mod_eq]
  have := Nat.mod_lt (x / 2 ^ r) (show 2 > 0 by decide)
  split
  · next h => simp at h; rw [h]; rfl
  · next h => simp at h; rw [h]; rfl

set_option maxHeartbeats 400000 in
theorem has_any (b : Nat) (v : Nat → Nat) (c : Nat) (o : Nat) (w : World) (hc : c < 256) (hv : ∀ q, v q < 18446744073709551616) (hs : ∀ q, q < 4 → w.cell? ⟨b, o + q, none⟩ = some (.int .u64 (v q))) :
    Calls Try.prog 44 #[.pointer (some ⟨b, o, none⟩), .int .u8 c] w fun e w' => e = .returned (.bool (sbit v c)) ∧ w = w' := by
  obtain ⟨q, hq⟩ : ∃ q, q = c / 64 := ⟨_, rfl⟩
  have hq4 : q < 4 := by omega
  have hcell := hs q hq4
  have HS := Lib.hid hs
  clear hs
  have hdiv : (c : Int) / 64 = (q : Int) := by omega
  have hand : bits .and .u8 (c : Int) 63 = ((c % 64 : Nat) : Int) := by rw [u8_and63 _ (by omega) (by omega)]; omega
  have hbit := shr_bit (v q) (c % 64) (hv q)
  have hsb : sbit v c = (v q).testBit (c % 64) := by unfold sbit; rw [hq]
  clear hq hv
  cases hx : (v q).testBit (c % 64)
  all_goals
    rw [hx] at hbit hsb
    have HX := Lib.hid hx
    have HSB := Lib.hid hsb
    clear hx hsb
    simp only [reduceIte, Bool.false_eq_true] at hbit
    go_enter Try.func44, Try.ntmps44
    go_wp2
    go_ret
    refine ⟨?_, rfl⟩
    rw [HSB.out]; rfl

def gb (s : ByteArray) (i : Nat) : UInt8 := s.data.toList.getD i 0
theorem gb_eq (s : ByteArray) (i : Nat) (h : i < s.size) : s[i] = gb s i := by
  have : i < s.data.toList.length := by simpa using h
  unfold gb
  rw [List.getD_eq_getElem?_getD, List.getElem?_eq_getElem this]; rfl

/-- The byte that stands at i, behind a backslash or not; and the place behind it. -/
def rb (s : ByteArray) (i : Nat) : UInt8 := if gb s i = 92 ∧ i + 1 < s.size then gb s (i + 1) else gb s i
def rbn (s : ByteArray) (i : Nat) : Nat := if gb s i = 92 ∧ i + 1 < s.size then i + 2 else i + 1

theorem ret2_ints {k k' : IntKind} {a b a' b' : Int} (h1 : a = a') (h2 : b = b') : Ending.returned (.tuple #[.int k a, .int k' b]) = .returned (.tuple #[.int k a', .int k' b']) := by rw [h1, h2]

theorem u8_eq {x : UInt8} {n : Nat} (hn : n < 256) : ((x.toNat : Int) = n) ↔ x = UInt8.ofNat n := by
  constructor
  · intro h
    apply UInt8.toNat.inj
    simp
    omega
  · intro h; subst h; simp; omega

set_option maxHeartbeats 400000 in
theorem readByte_any (s : ByteArray) (i : Nat) (w : World) (hs : s.size ≤ 100000) (hi : i < s.size) :
    Calls Try.prog 35 #[.string s, .int .i64 i] w fun e w' => e = .returned (.tuple #[.int .u8 (rb s i).toNat, .int .i64 (rbn s i)]) ∧ w = w' := by
  have hb0 := gb_eq s i hi
  by_cases h1 : gb s i = 92
  · by_cases h2 : i + 1 < s.size
    · have hb1 := gb_eq s (i+1) h2
      have HR1 : Hid (rb s i = gb s (i+1)) := by unfold Hid rb; rw [if_pos ⟨h1, h2⟩]
      have HR2 : Hid (rbn s i = i + 2) := by unfold Hid rbn; rw [if_pos ⟨h1, h2⟩]
      go_enter Try.func35, Try.ntmps35
      go_wp2
      go_ret2
      exact ⟨ret2_ints (by rw [HR1.out]) (by rw [HR2.out]; omega), rfl⟩
    · have HR1 : Hid (rb s i = gb s i) := by unfold Hid rb; rw [if_neg (fun h => h2 h.2)]
      have HR2 : Hid (rbn s i = i + 1) := by unfold Hid rbn; rw [if_neg (fun h => h2 h.2)]
      go_enter Try.func35, Try.ntmps35
      go_wp2
      go_ret2
      exact ⟨ret2_ints (by rw [HR1.out, h1]; rfl) (by rw [HR2.out]; omega), rfl⟩
  · have HR1 : Hid (rb s i = gb s i) := by unfold Hid rb; rw [if_neg (fun h => h1 h.1)]
    have HR2 : Hid (rbn s i = i + 1) := by unfold Hid rbn; rw [if_neg (fun h => h1 h.1)]
    have h1' : (((gb s i).toNat : Int) == 92) = false := by
      rw [beq_eq_false_iff_ne]; intro h; exact h1 ((u8_eq (n := 92) (by decide)).1 h)
    clear h1
    go_enter Try.func35, Try.ntmps35
    go_wp2
    go_ret2
    exact ⟨ret2_ints (by rw [HR1.out]) (by rw [HR2.out]; omega), rfl⟩
end Go.Proofs.Ytpgaeldjiiaoiaa
