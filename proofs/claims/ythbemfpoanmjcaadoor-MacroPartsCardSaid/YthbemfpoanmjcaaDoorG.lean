import Derived.Test.YthbemfpoanmjcaaDoorF
namespace Go.Proofs.YthbemfpoanmjcaaDoor
open Go.RowKit
set_option linter.unusedVariables false

/-- One word with its end exchanged. -/
def sw1 (x fr tt : ByteArray) : ByteArray := if Lib.hasSuffix x.data.toList fr.data.toList = true then mk (Lib.trimSuffix x.data.toList fr.data.toList) ++ tt else x
def own1 (w wr : World) (x : ByteArray) : Prop := wr.ownsRow w.heap.size 9 1 (.slice (some ⟨w.heap.size, 0, none⟩) 1 1) 1 [.string x] ∧ Below w.heap.size w wr
theorem own1.store {w wr : World} {x : ByteArray} (h : own1 w wr x) (y : ByteArray) : own1 w (wr.setCell ⟨w.heap.size, 0, none⟩ (.string y)) y :=
  ⟨(h.1.stored 0 (.string y)).1, h.2.setCell (p := ⟨w.heap.size, 0, none⟩) (Nat.le_refl _) _⟩
theorem add0 (b : Nat) : (⟨b, 0, none⟩ : Addr).add 0 = ⟨b, 0, none⟩ := addn _ _ _
set_option maxRecDepth 100000 in
set_option maxHeartbeats 4000000 in
theorem Swap1_any (x fr tt : ByteArray) (g : Nat) (w : World) (hx : x.size ≤ 1000000) (ht : tt.size ≤ 1000000) (hc : w.cell? ⟨g, 0, none⟩ = some (.string x)) :
    Calls Tryd.prog 55 #[.slice (some ⟨g, 0, none⟩) 1 1, .string fr, .string tt] w fun e w' => e = .returned (.slice (some ⟨w.heap.size, 0, none⟩) 1 1) ∧ own1 w w' (sw1 x fr tt) := by
  obtain ⟨i9, hi9, hz9, hs9, hb9⟩ := info_parts info9
  have hgl := cell_lt hc
  have hcx : ∀ wr, Below w.heap.size w wr → wr.cell? ⟨g, 0, none⟩ = some (.string x) := fun wr hb => (hb.cell (p := ⟨g, 0, none⟩) hgl).trans hc
  have HCX := Lib.hid hcx
  clear hc hcx
  go_enter Tryd.func55, Tryd.ntmps55
  go_wp2_with (refine wpList_make_full _ rfl _ _ 38 rfl w.heap.size 9 i9 (.string ⟨#[]⟩) 1 Tryd.underlying38 hi9 hz9 hs9 .i64 .i64 _ _ 1 rfl rfl rfl rfl (by rw [hb9]; omega) (by unfold maxLen; omega) (Nat.le_refl _) ?_)
  intro w1 hown hg
  have HO : Hid (own1 w w1 ⟨#[]⟩) := by
    refine ⟨?_, (Below.refl _ w).grown hg (Nat.le_refl _) (fun k h => by cases h)⟩
    have e : (List.replicate 1 (Value.string ⟨#[]⟩)) = [.string ⟨#[]⟩] := rfl
    first
      | simpa using hown
      | (rw [← e, ← toList_madeCells_one]; simpa using hown)
  have HCC := Lib.hid (Tryd.strings_CutSuffix x fr · (by omega))
  clear hown hg hi9 hz9 hs9 hb9
  go_wp2_with fail
  go_loopw [17] (fun i wr => ∃ k : Nat, i = .int .i64 k ∧ k ≤ 1 ∧ Hid (∃ y, own1 w wr y ∧ (k = 1 → y = sw1 x fr tt))) (fun i _ => 1 - (intOf i).toNat)
  case atStart => exact ⟨0, rfl, by omega, ⟨_, HO.out, fun h => by omega⟩⟩
  case round =>
    obtain ⟨k, rfl, hk, HK⟩ := hrel
    by_cases hlt : k = 0
    · subst hlt
      obtain ⟨y, hy, _⟩ := HK.out
      have hck := HCX.out _ hy.2
      have hf := hy.1.frozenAt 0
      have hcc : wr.cell? ⟨w.heap.size, 0, none⟩ = some (.string y) := hy.1.cellAt 0 (by omega)
      have ad := add0 g
      have ad2 := add0 w.heap.size
      have HS1 := Lib.hid (hy.store x)
      have hf2 := HS1.out.1.frozenAt 0
      have hcc2 : (wr.setCell ⟨w.heap.size, 0, none⟩ (.string x)).cell? ⟨w.heap.size, 0, none⟩ = some (.string x) := HS1.out.1.cellAt 0 (by omega)
      clear HK hy
      cases hsf : Lib.hasSuffix x.data.toList fr.data.toList with
      | false =>
        have HE : Hid (sw1 x fr tt = x) := by unfold sw1; rw [Hid, if_neg (by simp [hsf])]
        rw [hsf] at HCC
        obtain ⟨T, hT⟩ : ∃ T : ByteArray, (⟨(Lib.trimSuffix x.data.toList fr.data.toList).toArray⟩ : ByteArray) = T := ⟨_, rfl⟩
        rw [hT] at HCC
        clear hT hsf
        go_wp2_with (go_at_call 66; refine (HCC.out _).mono ?_; rintro e w5 ⟨rfl, h5⟩; obtain rfl := h5.symm; simp only [])
        go_roundw
        case measure => simp [intOf]
        case rel => exact ⟨1, by go_num, by omega, ⟨x, HS1.out, fun _ => HE.out.symm⟩⟩
      | true =>
        rw [hsf] at HCC
        obtain ⟨T, hT⟩ : ∃ T : ByteArray, (⟨(Lib.trimSuffix x.data.toList fr.data.toList).toArray⟩ : ByteArray) = T := ⟨_, rfl⟩
        have HE : Hid (sw1 x fr tt = T ++ tt) := by unfold sw1; rw [Hid, if_pos hsf, ← hT]
        have hTs : T.size ≤ x.size := by
          rw [← hT, sz_mk, ← dl x]; unfold Lib.trimSuffix; split <;> first | exact Nat.le_refl _ | (rw [List.length_take]; omega)
        have hsum : ¬ (9223372036854775807 < T.size + tt.size) := by omega
        rw [hT] at HCC
        clear hT hsf hTs
        go_wp2_with (go_at_call 66; refine (HCC.out _).mono ?_; rintro e w5 ⟨rfl, h5⟩; obtain rfl := h5.symm; simp only [])
        go_roundw
        case measure => simp [intOf]
        case rel => exact ⟨1, by go_num, by omega, ⟨T ++ tt, HS1.out.store (T ++ tt), fun _ => HE.out.symm⟩⟩
    · obtain rfl : k = 1 := by omega
      have HE : Hid (own1 w wr (sw1 x fr tt)) := by
        obtain ⟨y, hy, he⟩ := HK.out
        rw [he rfl] at hy; exact hy
      go_wp2_with fail
      go_ret
      exact ⟨rfl, HE.out⟩
end Go.Proofs.YthbemfpoanmjcaaDoor
