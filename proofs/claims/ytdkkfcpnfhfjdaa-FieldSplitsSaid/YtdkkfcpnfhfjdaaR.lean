import Derived.Test.YtdkkfcpnfhfjdaaQ
import Derived.Laws.IdiomStrings
import Derived.Deep.AppendLies
namespace Go.Proofs.Ytdkkfcpnfhfjdaa
open Go.RowKit

theorem own_conv {w : World} {B : Nat} {v : Value} {l : List UInt8} (h : w.ownsRow B 5 1 v l.length (Lib.byteCells l)) : (convert 38 9 v).run Try.prog w = .ok (.string ⟨l.toArray⟩) w := by
  by_cases hn : 0 < l.length
  · obtain ⟨g, cap, rfl, _⟩ := h.form hn
    refine run_convert_bytes_back w 38 9 5 ⟨g, 0, none⟩ cap l Try.underlying38 Try.underlying5 Try.underlying9 (fun j hj => ?_)
    have := World.ownsRow.cellAt h j (by omega)
    rw [addn, Nat.zero_add, this]
    simp [Lib.byteCells, hj]
  · have hl : l = [] := List.length_eq_zero_iff.1 (by omega)
    subst hl
    rcases h.2 with ⟨h1, _⟩ | ⟨g, cap, cur, h1, _⟩
    · rw [h1]
      exact run_convert_bytes_nil w 38 5 Try.underlying38 Try.underlying5 0 0 9 Try.underlying9
    · rw [h1]
      exact run_convert_bytes_back w 38 9 5 ⟨g, 0, none⟩ cap [] Try.underlying38 Try.underlying5 Try.underlying9 (fun j hj => absurd hj (by simp))

/-- A row of bytes of the call's own. -/
def ByR (w wr : World) (v : Value) (l : List UInt8) : Prop := wr.ownsRow w.heap.size 5 1 v l.length (Lib.byteCells l) ∧ Below w.heap.size w wr
theorem ByR.nil (w : World) : ByR w w (.slice none 0 0) [] := ⟨World.ownsRow_nil _ _ _ _, Below.refl _ _⟩

set_option maxRecDepth 100000 in
set_option maxHeartbeats 4000000 in
theorem RefQuote_any (s : ByteArray) (w : World) (hs : s.size ≤ 100000) :
    Calls Try.prog 22 #[.string s] w fun e w' => e = .returned (.string ⟨(qt s.data.toList).toArray⟩) ∧ Below w.heap.size w w' := by
  obtain ⟨i0, hi, hz0, hz1, hz2⟩ := info_parts bd_byte
  obtain ⟨r, hr⟩ : ∃ r, qt s.data.toList = r := ⟨_, rfl⟩
  rw [hr]
  have HR := Lib.hid hr
  clear hr
  go_enter Try.func22, Try.ntmps22
  go_wp2_with fail
  go_loopw [3, 4] (fun a i wr => ∃ k : Nat, i = .int .i64 k ∧ k ≤ s.size ∧ Hid (ByR w wr a (qt (s.data.toList.take k)))) (fun _ i _ => s.size - (intOf i).toNat)
  case atStart => exact ⟨0, rfl, by omega, Lib.hid (by simpa [qt] using ByR.nil w)⟩
  case round =>
    obtain ⟨k, rfl, hk, HK⟩ := hrel
    by_cases hlt : k < s.size
    · have hltI : (k : Int) < (s.size : Int) := by omega
      have hgb := gb_eq s k hlt
      have HT : Hid (qt (s.data.toList.take (k + 1)) = qt (s.data.toList.take k) ++ (if spc (gb s k) then [92, gb s k] else [gb s k])) := by unfold Hid; rw [take_gb s k hlt, qt_snoc]
      have hq := qt_le (s.data.toList.take k)
      have hlen : (s.data.toList.take k).length = k := by simp; omega
      rw [hlen] at hq
      have HQ := Lib.hid hq
      clear hq hlen
      generalize gb s k = c at *
      generalize qt (s.data.toList.take k) = l at *
      have hB := HK.out.2.size
      have hown := HK.out.1
      have hnl : l.length ≤ 200000 := by have := HQ.out; omega
      cases hc : spc c
      · have HC : Hid (qt (s.data.toList.take (k + 1)) = l ++ [c]) := by unfold Hid; rw [HT.out, hc]; rfl
        have hne : c.toNat ≠ 42 ∧ c.toNat ≠ 63 ∧ c.toNat ≠ 91 ∧ c.toNat ≠ 92 := by
          unfold spc at hc
          simp only [Bool.or_eq_false_iff, beq_eq_false_iff_ne] at hc
          exact ⟨fun h => hc.1.1.1 (UInt8.toNat.inj h), fun h => hc.1.1.2 (UInt8.toNat.inj h), fun h => hc.1.2 (UInt8.toNat.inj h), fun h => hc.2 (UInt8.toNat.inj h)⟩
        have c1 : ((c.toNat : Int) == 42) = false := by rw [beq_eq_false_iff_ne]; omega
        have c2 : ((c.toNat : Int) == 63) = false := by rw [beq_eq_false_iff_ne]; omega
        have c3 : ((c.toNat : Int) == 91) = false := by rw [beq_eq_false_iff_ne]; omega
        have c4 : ((c.toNat : Int) == 92) = false := by rw [beq_eq_false_iff_ne]; omega
        clear hc hne HT
        go_wp2_with (at_builtin; refine wpList_append_own _ rfl _ _ 38 rfl w.heap.size 5 i0 (.int .u8 0) 1 1 Try.underlying38 hi hz0 hz1 hz2 rfl (by decide) _ _ _ rfl (hown.alloc _) ⟨wr.heap.size, 0, none⟩ 1 1 [.int .u8 c.toNat] rfl rfl ?c1 ?c2 ?c3 ?c4 ?c5 ?_)
        case c1 =>
          intro j u hj
          match j, hj with
          | 0, hj => simp at hj; subst hj; simp [Addr.add]
        case c2 => intro u hu; simp at hu; subst hu; rfl
        case c3 => unfold maxLen; omega
        case c4 => omega
        case c5 => simp; omega
        intro v' w2 hown' hgrow _
        have HX : Hid (ByR w w2 v' (l ++ [c])) := ⟨by rw [← bc_snoc, List.length_append]; simpa using hown', (HK.out.2.alloc hB _).grown hgrow (by simp; omega) (fun j hj => (hown.lt j hj).1)⟩
        clear hown hown' hgrow
        go_wp2_with fail
        exact ⟨⟨k + 1, by go_num, by omega, by rw [HC.out]; exact HX.out⟩, by simp [intOf]; omega⟩
      · have HC : Hid (qt (s.data.toList.take (k + 1)) = l ++ [92] ++ [c]) := by unfold Hid; rw [HT.out, hc]; simp
        have hcs : c = 42 ∨ c = 63 ∨ c = 91 ∨ c = 92 := by
          unfold spc at hc
          simpa [Bool.or_eq_true, or_assoc] using hc
        clear hc HT
        rcases hcs with rfl | rfl | rfl | rfl
        · go_wp2_with (at_builtin; refine wpList_append_own _ rfl _ _ 38 rfl w.heap.size 5 i0 (.int .u8 0) 1 1 Try.underlying38 hi hz0 hz1 hz2 rfl (by decide) _ _ _ rfl (hown.alloc _) ⟨wr.heap.size, 0, none⟩ 1 1 [.int .u8 92] rfl rfl ?c1 ?c2 ?c3 ?c4 ?c5 ?_)
          case c1 =>
            intro j u hj
            match j, hj with
            | 0, hj => simp at hj; subst hj; simp [Addr.add]
          case c2 => intro u hu; simp at hu; subst hu; rfl
          case c3 => unfold maxLen; simp; omega
          case c4 => simp; omega
          case c5 => simp; omega
          intro v' w2 hown' hgrow _
          have HX : Hid (ByR w w2 v' (l ++ [92])) := ⟨by rw [show (92 : UInt8) = (92 : UInt8) from rfl, ← bc_snoc, List.length_append]; simpa using hown', (HK.out.2.alloc hB _).grown hgrow (by simp; omega) (fun j hj => (hown.lt j hj).1)⟩
          clear hown hown' hgrow
          have hown2 := HX.out.1
          have hB2 := HX.out.2.size
          go_wp2_with (at_builtin; refine wpList_append_own _ rfl _ _ 38 rfl w.heap.size 5 i0 (.int .u8 0) 1 1 Try.underlying38 hi hz0 hz1 hz2 rfl (by decide) _ _ _ rfl (hown2.alloc _) ⟨w2.heap.size, 0, none⟩ 1 1 [.int .u8 42] rfl rfl ?c1 ?c2 ?c3 ?c4 ?c5 ?_)
          case c1 =>
            intro j u hj
            match j, hj with
            | 0, hj => simp at hj; subst hj; simp [Addr.add]
          case c2 => intro u hu; simp at hu; subst hu; rfl
          case c3 => unfold maxLen; simp; omega
          case c4 => simp; omega
          case c5 => simp; omega
          intro v3 w3 hown' hgrow _
          have HY : Hid (ByR w w3 v3 (l ++ [92] ++ [42])) := ⟨by rw [← bc_snoc, List.length_append]; simpa using hown', (HX.out.2.alloc hB2 _).grown hgrow (by simp; omega) (fun j hj => (hown2.lt j hj).1)⟩
          clear hown2 hown' hgrow
          go_wp2_with fail
          exact ⟨⟨k + 1, by go_num, by omega, by rw [HC.out]; exact HY.out⟩, by simp [intOf]; omega⟩
        · go_wp2_with (at_builtin; refine wpList_append_own _ rfl _ _ 38 rfl w.heap.size 5 i0 (.int .u8 0) 1 1 Try.underlying38 hi hz0 hz1 hz2 rfl (by decide) _ _ _ rfl (hown.alloc _) ⟨wr.heap.size, 0, none⟩ 1 1 [.int .u8 92] rfl rfl ?c1 ?c2 ?c3 ?c4 ?c5 ?_)
          case c1 =>
            intro j u hj
            match j, hj with
            | 0, hj => simp at hj; subst hj; simp [Addr.add]
          case c2 => intro u hu; simp at hu; subst hu; rfl
          case c3 => unfold maxLen; simp; omega
          case c4 => simp; omega
          case c5 => simp; omega
          intro v' w2 hown' hgrow _
          have HX : Hid (ByR w w2 v' (l ++ [92])) := ⟨by rw [show (92 : UInt8) = (92 : UInt8) from rfl, ← bc_snoc, List.length_append]; simpa using hown', (HK.out.2.alloc hB _).grown hgrow (by simp; omega) (fun j hj => (hown.lt j hj).1)⟩
          clear hown hown' hgrow
          have hown2 := HX.out.1
          have hB2 := HX.out.2.size
          go_wp2_with (at_builtin; refine wpList_append_own _ rfl _ _ 38 rfl w.heap.size 5 i0 (.int .u8 0) 1 1 Try.underlying38 hi hz0 hz1 hz2 rfl (by decide) _ _ _ rfl (hown2.alloc _) ⟨w2.heap.size, 0, none⟩ 1 1 [.int .u8 63] rfl rfl ?c1 ?c2 ?c3 ?c4 ?c5 ?_)
          case c1 =>
            intro j u hj
            match j, hj with
            | 0, hj => simp at hj; subst hj; simp [Addr.add]
          case c2 => intro u hu; simp at hu; subst hu; rfl
          case c3 => unfold maxLen; simp; omega
          case c4 => simp; omega
          case c5 => simp; omega
          intro v3 w3 hown' hgrow _
          have HY : Hid (ByR w w3 v3 (l ++ [92] ++ [63])) := ⟨by rw [← bc_snoc, List.length_append]; simpa using hown', (HX.out.2.alloc hB2 _).grown hgrow (by simp; omega) (fun j hj => (hown2.lt j hj).1)⟩
          clear hown2 hown' hgrow
          go_wp2_with fail
          exact ⟨⟨k + 1, by go_num, by omega, by rw [HC.out]; exact HY.out⟩, by simp [intOf]; omega⟩
        · go_wp2_with (at_builtin; refine wpList_append_own _ rfl _ _ 38 rfl w.heap.size 5 i0 (.int .u8 0) 1 1 Try.underlying38 hi hz0 hz1 hz2 rfl (by decide) _ _ _ rfl (hown.alloc _) ⟨wr.heap.size, 0, none⟩ 1 1 [.int .u8 92] rfl rfl ?c1 ?c2 ?c3 ?c4 ?c5 ?_)
          case c1 =>
            intro j u hj
            match j, hj with
            | 0, hj => simp at hj; subst hj; simp [Addr.add]
          case c2 => intro u hu; simp at hu; subst hu; rfl
          case c3 => unfold maxLen; simp; omega
          case c4 => simp; omega
          case c5 => simp; omega
          intro v' w2 hown' hgrow _
          have HX : Hid (ByR w w2 v' (l ++ [92])) := ⟨by rw [show (92 : UInt8) = (92 : UInt8) from rfl, ← bc_snoc, List.length_append]; simpa using hown', (HK.out.2.alloc hB _).grown hgrow (by simp; omega) (fun j hj => (hown.lt j hj).1)⟩
          clear hown hown' hgrow
          have hown2 := HX.out.1
          have hB2 := HX.out.2.size
          go_wp2_with (at_builtin; refine wpList_append_own _ rfl _ _ 38 rfl w.heap.size 5 i0 (.int .u8 0) 1 1 Try.underlying38 hi hz0 hz1 hz2 rfl (by decide) _ _ _ rfl (hown2.alloc _) ⟨w2.heap.size, 0, none⟩ 1 1 [.int .u8 91] rfl rfl ?c1 ?c2 ?c3 ?c4 ?c5 ?_)
          case c1 =>
            intro j u hj
            match j, hj with
            | 0, hj => simp at hj; subst hj; simp [Addr.add]
          case c2 => intro u hu; simp at hu; subst hu; rfl
          case c3 => unfold maxLen; simp; omega
          case c4 => simp; omega
          case c5 => simp; omega
          intro v3 w3 hown' hgrow _
          have HY : Hid (ByR w w3 v3 (l ++ [92] ++ [91])) := ⟨by rw [← bc_snoc, List.length_append]; simpa using hown', (HX.out.2.alloc hB2 _).grown hgrow (by simp; omega) (fun j hj => (hown2.lt j hj).1)⟩
          clear hown2 hown' hgrow
          go_wp2_with fail
          exact ⟨⟨k + 1, by go_num, by omega, by rw [HC.out]; exact HY.out⟩, by simp [intOf]; omega⟩
        · go_wp2_with (at_builtin; refine wpList_append_own _ rfl _ _ 38 rfl w.heap.size 5 i0 (.int .u8 0) 1 1 Try.underlying38 hi hz0 hz1 hz2 rfl (by decide) _ _ _ rfl (hown.alloc _) ⟨wr.heap.size, 0, none⟩ 1 1 [.int .u8 92] rfl rfl ?c1 ?c2 ?c3 ?c4 ?c5 ?_)
          case c1 =>
            intro j u hj
            match j, hj with
            | 0, hj => simp at hj; subst hj; simp [Addr.add]
          case c2 => intro u hu; simp at hu; subst hu; rfl
          case c3 => unfold maxLen; simp; omega
          case c4 => simp; omega
          case c5 => simp; omega
          intro v' w2 hown' hgrow _
          have HX : Hid (ByR w w2 v' (l ++ [92])) := ⟨by rw [show (92 : UInt8) = (92 : UInt8) from rfl, ← bc_snoc, List.length_append]; simpa using hown', (HK.out.2.alloc hB _).grown hgrow (by simp; omega) (fun j hj => (hown.lt j hj).1)⟩
          clear hown hown' hgrow
          have hown2 := HX.out.1
          have hB2 := HX.out.2.size
          go_wp2_with (at_builtin; refine wpList_append_own _ rfl _ _ 38 rfl w.heap.size 5 i0 (.int .u8 0) 1 1 Try.underlying38 hi hz0 hz1 hz2 rfl (by decide) _ _ _ rfl (hown2.alloc _) ⟨w2.heap.size, 0, none⟩ 1 1 [.int .u8 92] rfl rfl ?c1 ?c2 ?c3 ?c4 ?c5 ?_)
          case c1 =>
            intro j u hj
            match j, hj with
            | 0, hj => simp at hj; subst hj; simp [Addr.add]
          case c2 => intro u hu; simp at hu; subst hu; rfl
          case c3 => unfold maxLen; simp; omega
          case c4 => simp; omega
          case c5 => simp; omega
          intro v3 w3 hown' hgrow _
          have HY : Hid (ByR w w3 v3 (l ++ [92] ++ [92])) := ⟨by rw [← bc_snoc, List.length_append]; simpa using hown', (HX.out.2.alloc hB2 _).grown hgrow (by simp; omega) (fun j hj => (hown2.lt j hj).1)⟩
          clear hown2 hown' hgrow
          go_wp2_with fail
          exact ⟨⟨k + 1, by go_num, by omega, by rw [HC.out]; exact HY.out⟩, by simp [intOf]; omega⟩
    · have hge : ¬ (k : Int) < (s.size : Int) := by omega
      have HL : Hid (qt (s.data.toList.take k) = r) := by unfold Hid; rw [← HR.out, List.take_of_length_le (by simp; omega)]
      rw [HL.out] at HK
      have hcv := own_conv HK.out.1
      go_wp2_with fail
      go_ret
      exact ⟨rfl, HK.out.2⟩
end Go.Proofs.Ytdkkfcpnfhfjdaa
