import Derived.Test.YtdkkfcpnfhfjdaaO
namespace Go.Proofs.Ytdkkfcpnfhfjdaa
open Go.RowKit

def gb (s : ByteArray) (i : Nat) : UInt8 := s.data.toList.getD i 0
theorem gb_eq (s : ByteArray) (i : Nat) (h : i < s.size) : s[i] = gb s i := by
  have : i < s.data.toList.length := by simpa using h
  unfold gb
  rw [List.getD_eq_getElem?_getD, List.getElem?_eq_getElem this]; rfl
/-- The bytes that are quoted, and a text so. -/
def spc (c : UInt8) : Bool := c == 42 || c == 63 || c == 91 || c == 92
def qt (l : List UInt8) : List UInt8 := l.flatMap fun c => if spc c then [92, c] else [c]
theorem qt_snoc (l : List UInt8) (c : UInt8) : qt (l ++ [c]) = qt l ++ (if spc c then [92, c] else [c]) := by simp [qt]
theorem bc_snoc (l : List UInt8) (c : UInt8) : Lib.byteCells l ++ [.int .u8 c.toNat] = Lib.byteCells (l ++ [c]) := by simp [Lib.byteCells]
theorem bc_len (l : List UInt8) : (Lib.byteCells l).length = l.length := by simp [Lib.byteCells]
theorem qt_le (l : List UInt8) : (qt l).length ≤ 2 * l.length := by
  unfold qt
  induction l with
  | nil => simp
  | cons c l ih =>
    rw [List.flatMap_cons, List.length_append, List.length_cons]
    generalize (l.flatMap fun c => if spc c then [92, c] else [c]).length = n at *
    split
    · rw [show ([92, c] : List UInt8).length = 2 from rfl]; omega
    · rw [show ([c] : List UInt8).length = 1 from rfl]; omega
theorem take_gb (s : ByteArray) (k : Nat) (h : k < s.size) : s.data.toList.take (k + 1) = s.data.toList.take k ++ [gb s k] := by
  unfold gb
  rw [List.take_succ_eq_append_getElem (by simpa using h), List.getD_eq_getElem?_getD, List.getElem?_eq_getElem (by simpa using h)]; rfl

set_option maxRecDepth 100000 in
set_option maxHeartbeats 4000000 in
theorem Quote_any (s : ByteArray) (w : World) (hs : s.size ≤ 100000) :
    Calls Try.prog 21 #[.string s] w fun e w' => e = .returned (.string ⟨(qt s.data.toList).toArray⟩) ∧ Below w.heap.size w w' := by
  obtain ⟨r, hr⟩ : ∃ r, qt s.data.toList = r := ⟨_, rfl⟩
  rw [hr]
  have HR := Lib.hid hr
  clear hr
  go_enter Try.func21, Try.ntmps21
  go_wp2_with fail
  have HN := Lib.hid (bd_new w w.heap.size (Nat.le_refl _))
  have HB := Lib.hid ((Below.refl w.heap.size w).alloc (Nat.le_refl _) (.cells #[.pointer none, .slice none 0 0] 40))
  go_loopw [7] (fun i wr => ∃ k : Nat, i = .int .i64 k ∧ k ≤ s.size ∧ Hid (Lib.IsBuilder 40 5 w.heap.size w.heap.size (Lib.byteCells (qt (s.data.toList.take k))) wr ∧ Below w.heap.size w wr)) (fun i _ => s.size - (intOf i).toNat)
  case atStart => exact ⟨0, rfl, by omega, Lib.hid ⟨by simpa [qt, Lib.byteCells] using HN.out, HB.out⟩⟩
  case round =>
    obtain ⟨k, rfl, hk, HK⟩ := hrel
    by_cases hlt : k < s.size
    · have hltI : (k : Int) < (s.size : Int) := by omega
      have hgb := gb_eq s k hlt
      have HT : Hid (qt (s.data.toList.take (k + 1)) = qt (s.data.toList.take k) ++ (if spc (gb s k) then [92, gb s k] else [gb s k])) := by unfold Hid; rw [take_gb s k hlt, qt_snoc]
      have hq := qt_le (s.data.toList.take k)
      have hlen : (s.data.toList.take k).length = k := by simp; omega
      rw [hlen] at hq
      have HQ := Lib.hid hq
      clear hq hlen
      generalize gb s k = c at *
      generalize qt (s.data.toList.take k) = l at *
      have hB := HK.out.2.size
      cases hc : spc c
      · have HC : Hid (qt (s.data.toList.take (k + 1)) = l ++ [c]) := by unfold Hid; rw [HT.out, hc]; rfl
        have hne : c.toNat ≠ 42 ∧ c.toNat ≠ 63 ∧ c.toNat ≠ 91 ∧ c.toNat ≠ 92 := by
          unfold spc at hc
          simp only [Bool.or_eq_false_iff, beq_eq_false_iff_ne] at hc
          exact ⟨fun h => hc.1.1.1 (UInt8.toNat.inj h), fun h => hc.1.1.2 (UInt8.toNat.inj h), fun h => hc.1.2 (UInt8.toNat.inj h), fun h => hc.2 (UInt8.toNat.inj h)⟩
        have c1 : ((c.toNat : Int) == 42) = false := by rw [beq_eq_false_iff_ne]; omega
        have c2 : ((c.toNat : Int) == 63) = false := by rw [beq_eq_false_iff_ne]; omega
        have c3 : ((c.toNat : Int) == 91) = false := by rw [beq_eq_false_iff_ne]; omega
        have c4 : ((c.toNat : Int) == 92) = false := by rw [beq_eq_false_iff_ne]; omega
        clear hc hne HT
        go_wp2_with fail
        refine (bd_writeByte w.heap.size w.heap.size _ c.toNat _ HK.out.1 (by rw [bc_len]; have := HQ.out; omega) hB).mono ?_
        rintro e w2 ⟨rfl, hb2, hB2, _⟩
        have HX := Lib.hid (And.intro hb2 (HK.out.2.trans hB2))
        clear hb2 hB2
        go_wp2_with fail
        exact ⟨⟨k + 1, by go_num, by omega, by rw [HC.out, ← bc_snoc]; exact HX.out⟩, by simp [intOf]; omega⟩
      · have HC : Hid (qt (s.data.toList.take (k + 1)) = l ++ [92] ++ [c]) := by unfold Hid; rw [HT.out, hc]; simp
        have hcs : c = 42 ∨ c = 63 ∨ c = 91 ∨ c = 92 := by
          unfold spc at hc
          simpa [Bool.or_eq_true, or_assoc] using hc
        clear hc HT
        rcases hcs with rfl | rfl | rfl | rfl
        all_goals
          go_wp2_with fail
          refine (bd_writeByte w.heap.size w.heap.size _ 92 _ HK.out.1 (by rw [bc_len]; have := HQ.out; omega) hB).mono ?_
          rintro e w2 ⟨rfl, hb2, hB2, _⟩
          have HX := Lib.hid (And.intro hb2 (HK.out.2.trans hB2))
          have hB3 := HX.out.2.size
          clear hb2 hB2
          go_wp2_with fail
          refine (bd_writeByte w.heap.size w.heap.size _ _ _ HX.out.1 (by rw [List.length_append, bc_len]; have := HQ.out; simp; omega) hB3).mono ?_
          rintro e w3 ⟨rfl, hb3, hB4, _⟩
          have HY := Lib.hid (And.intro hb3 (HX.out.2.trans hB4))
          clear hb3 hB4
          go_wp2_with fail
          exact ⟨⟨k + 1, by go_num, by omega, by rw [HC.out, ← bc_snoc, ← bc_snoc]; exact HY.out⟩, by simp [intOf]; omega⟩
    · have hge : ¬ (k : Int) < (s.size : Int) := by omega
      have HL : Hid (qt (s.data.toList.take k) = r) := by unfold Hid; rw [← HR.out, List.take_of_length_le (by simp; omega)]
      have hB := HK.out.2.size
      rw [HL.out] at HK
      go_wp2_with fail
      refine (Try.Builder_String_any w.heap.size w.heap.size r _ HK.out.1 hB).mono ?_
      rintro e w2 ⟨rfl, hB2⟩
      have HX := Lib.hid (HK.out.2.trans hB2)
      clear hB2
      go_wp2_with fail
      go_ret
      exact ⟨rfl, HX.out⟩
end Go.Proofs.Ytdkkfcpnfhfjdaa
