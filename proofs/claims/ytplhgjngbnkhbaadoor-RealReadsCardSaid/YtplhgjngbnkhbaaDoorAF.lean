import Derived.Test.YtplhgjngbnkhbaaDoorAD
import Derived.Test.YtplhgjngbnkhbaaDoorAE
namespace Go.Proofs.YtplhgjngbnkhbaaDoor
open Go.RowKit
set_option linter.unusedVariables false

/-- The cutset. -/
def hxs : Bs := [48, 49, 50, 51, 52, 53, 54, 55, 56, 57, 97, 98, 99, 100, 101, 102]
theorem hxs_all : ∀ n : Fin 256, (hxs.contains (UInt8.ofNat n.val)) = decide (hv (UInt8.ofNat n.val) < 16) := by decide +kernel
theorem hxs_iff (c : UInt8) : hxs.contains c = decide (hv c < 16) := by
  have h := hxs_all ⟨c.toNat, c.toNat_lt⟩
  simpa using h
/-- All of it digits of base sixteen? -/
def allHx (l : Bs) : Bool := l.all fun c => decide (hv c < 16)
theorem dropWhile_nil_iff {p : UInt8 → Bool} : ∀ l : Bs, l.dropWhile p = [] ↔ l.all p = true
  | [] => by simp
  | c :: l => by
    rw [List.dropWhile_cons, List.all_cons]
    cases h : p c
    · simp
    · simp [dropWhile_nil_iff l]
theorem hxs_fun : (fun c => hxs.contains c) = fun c => decide (hv c < 16) := funext hxs_iff
theorem trim_nil (l : Bs) : (Lib.trimS l hxs = []) ↔ allHx l = true := by
  unfold Lib.trimS Lib.trimLeftS Lib.trimRightS allHx
  rw [hxs_fun, dropWhile_nil_iff]
  constructor
  · intro h
    rw [List.all_eq_true] at h ⊢
    intro c hc
    have : (l.reverse.dropWhile fun c => decide (hv c < 16)) = [] := by
      cases hd : l.reverse.dropWhile fun c => decide (hv c < 16) with
      | nil => rfl
      | cons a t =>
        have h1 := h a (by rw [hd]; simp)
        have h2 := List.head_dropWhile_not (fun c => decide (hv c < 16)) (l := l.reverse) (by rw [hd]; simp)
        simp only [hd, List.head_cons] at h2
        rw [h1] at h2; cases h2
    rw [dropWhile_nil_iff, List.all_eq_true] at this
    exact this c (by simpa using hc)
  · intro h
    have : (l.reverse.dropWhile fun c => decide (hv c < 16)) = [] := by
      rw [dropWhile_nil_iff, List.all_eq_true]
      rw [List.all_eq_true] at h
      intro c hc
      exact h c (by simpa using hc)
    rw [this]; rfl
/-- What the digits behind 0x say. -/
def bitsL (l : Bs) : Nat × Bool := if l.length = 16 ∧ allHx l = true then (cl (hval l), true) else (0, false)
theorem Trim_hx (s : ByteArray) (w : World) (hs : s.size ≤ 9223372036854775807) :
    Calls Tryd.prog 44 #[.string s, .string ⟨#[48, 49, 50, 51, 52, 53, 54, 55, 56, 57, 97, 98, 99, 100, 101, 102]⟩] w fun e w' => e = .returned (.string ⟨(Lib.trimS s.data.toList hxs).toArray⟩) ∧ Below w.heap.size w w' :=
  Tryd.strings_Trim_laid s _ w hs (by decide) (ascii_of_all (by decide))

set_option maxRecDepth 100000 in
set_option maxHeartbeats 1000000 in
theorem ofBits_yes (s : ByteArray) (w : World) (h1 : s.size = 16) (h2 : allHx s.data.toList = true) :
    Calls Tryd.prog 26 #[.string s] w fun e w' => e = .returned (.tuple #[.int .u64 (cl (hval s.data.toList)), .bool true]) ∧ Below w.heap.size w w' := by
  have hT := Trim_hx s w (by omega)
  have hn := (trim_nil s.data.toList).2 h2
  rw [hn] at hT
  have HT := Lib.hid hT
  have HP := Lib.hid (fun w => ParseUint_any s w (by omega) (by
    intro c hc
    have := List.all_eq_true.1 h2 c hc
    simpa using this))
  have g1 : ((s.size : Int) == 16) = true := by rw [beq_iff_eq]; omega
  have g2 : ((s.size : Int) != 16) = false := by rw [bne_eq_false_iff_eq]; omega
  have hf := run_from
  obtain ⟨R, hR⟩ : ∃ R, hval s.data.toList = R := ⟨_, rfl⟩
  rw [hR] at HP ⊢
  clear hR h1 h2 hT hn
  go_enter Tryd.func26, Tryd.ntmps26
  go_wp2_with fail
  refine HT.out.mono ?_
  rintro e w1 ⟨rfl, hB⟩
  have HB := Lib.hid hB
  clear hB
  go_wp2_with fail
  refine (HP.out w1).mono ?_
  rintro e w2 ⟨rfl, hB⟩
  have HB2 := Lib.hid (below_trans HB.out hB)
  clear hB
  go_wp2_with fail
  refine (bits_any _ _).mono ?_
  rintro e w3 ⟨rfl, h⟩
  obtain rfl := h.symm
  go_wp2_with fail
  go_ret2
  exact ⟨rfl, HB2.out⟩
set_option maxRecDepth 100000 in
set_option maxHeartbeats 1000000 in
theorem ofBits_no (s : ByteArray) (w : World) (hs : s.size ≤ 1000000) (h : ¬ (s.size = 16 ∧ allHx s.data.toList = true)) :
    Calls Tryd.prog 26 #[.string s] w fun e w' => e = .returned (.tuple #[.int .u64 0, .bool false]) ∧ Below w.heap.size w w' := by
  by_cases h1 : s.size = 16
  · have hT := Trim_hx s w (by omega)
    have hn : Lib.trimS s.data.toList hxs ≠ [] := fun e => h ⟨h1, (trim_nil _).1 e⟩
    obtain ⟨Z, hZ⟩ : ∃ Z : ByteArray, ⟨(Lib.trimS s.data.toList hxs).toArray⟩ = Z := ⟨_, rfl⟩
    rw [hZ] at hT
    have HT := Lib.hid hT
    have g1 : ((s.size : Int) == 16) = true := by rw [beq_iff_eq]; omega
    have g2 : ((s.size : Int) != 16) = false := by rw [bne_eq_false_iff_eq]; omega
    have g3 : (Z.toList == []) = false := by
      rw [beq_eq_false_iff_ne, ← hZ, Lib.toList_data]; simpa using hn
    have g4 : Z.toList.isEmpty = false := by
      rw [← hZ, Lib.toList_data]; simpa using hn
    clear h h1 hT hn hZ
    go_enter Tryd.func26, Tryd.ntmps26
    go_wp2_with fail
    refine HT.out.mono ?_
    rintro e w1 ⟨rfl, hB⟩
    have HB := Lib.hid hB
    clear hB
    go_wp2_with fail
    go_ret2
    exact ⟨rfl, HB.out⟩
  · have g1 : ((s.size : Int) == 16) = false := by rw [beq_eq_false_iff_ne]; omega
    have g2 : ((s.size : Int) != 16) = true := by rw [bne_iff_ne]; omega
    clear h h1
    go_enter Tryd.func26, Tryd.ntmps26
    go_wp2_with fail
    go_ret2
    exact ⟨rfl, Below.refl _ _⟩
end Go.Proofs.YtplhgjngbnkhbaaDoor
