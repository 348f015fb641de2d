import Derived.Test.YthbemfpoanmjcaaDoorBC
namespace Go.Proofs.YthbemfpoanmjcaaDoor
open Go.RowKit
set_option linter.unusedVariables false

set_option maxRecDepth 100000 in
set_option maxHeartbeats 4000000 in
theorem List_big (v : Value) (l : List ByteArray) (w : World) (hl : l.length ≤ 30000) (hs : ∀ x ∈ l, x.size ≤ 50000) (hT : Txt w v l) :
    Calls Tryd.prog 20 #[v] w fun e w' => ∃ t : ByteArray, e = .returned (.string t) ∧ t.data.toList = listB l ∧ w' = w := by
  obtain ⟨a, c, rfl, hc⟩ := hT.form
  have HC := Lib.hid hc
  have HS := Lib.hid hs
  clear hc hs hT
  go_enter Tryd.func20, Tryd.ntmps20
  go_wp2_with fail
  go_loopw [3, 4] (fun x i wx => ∃ (k : Nat) (S : ByteArray), x = .string S ∧ i = .int .i64 (k : Int) ∧ k ≤ l.length ∧ wx = w ∧ Hid (S.data.toList = listB (l.take k)) ∧ S.size ≤ 50001 * k) (fun _ i _ => l.length + 1 - (intOf i).toNat)
  case atStart => exact ⟨0, _, rfl, rfl, Nat.zero_le _, rfl, rfl, Nat.zero_le _⟩
  case round =>
    obtain ⟨k, S, rfl, rfl, hk, rfl, HL, hz⟩ := hrel
    by_cases hlt : k < l.length
    · have hld : decide ((k : Int) < (l.length : Int)) = true := decide_eq_true (by omega)
      have b2 : IntKind.i64.wrap ((k : Int) + 1) = (k : Int) + 1 := IntWalk.i64_in _ (by omega)
      obtain ⟨g, off, rfl, hg, hcell⟩ := HC.out k hlt
      have hx := HS.out l[k] (List.getElem_mem hlt)
      have HN := Lib.hid (take_snoc hlt)
      obtain ⟨X, hX⟩ : ∃ X, l[k] = X := ⟨_, rfl⟩
      rw [hX] at hcell hx
      have HX := Lib.hid hX
      clear hX
      by_cases h0 : k = 0
      · subst h0
        rw [Nat.add_zero] at hcell
        have h0s : S.size = 0 := by omega
        have hz1 : ¬ (9223372036854775807 < S.size + X.size) := by omega
        go_wp2_with fail
        go_roundw
        case measure => simp [intOf] <;> omega
        case rel => exact ⟨1, _, rfl, rfl, hlt, trivial, by
          rw [Hid, HN.out, HX.out, List.take_zero, List.nil_append, listB_one, ByteArray.data_append, Array.toList_append, HL.out]; rfl, by rw [ByteArray.size_append]; omega⟩
      · have hgt : decide ((0 : Int) < (k : Int)) = true := decide_eq_true (by omega)
        have hz1 : ¬ (9223372036854775807 < S.size + 1) := by omega
        have hz2 : ¬ (9223372036854775807 < S.size + 1 + X.size) := by omega
        have hne : Hid (l.take k ≠ []) := fun e => by
          have h8 := congrArg List.length e
          rw [List.length_take, List.length_nil, Nat.min_eq_left (by omega)] at h8
          omega
        have hz3 := Lib.hid (show S.size + 1 + X.size ≤ 50001 * (k + 1) by omega)
        go_wp2_with fail
        go_roundw
        case measure => simp [intOf] <;> omega
        case rel => exact ⟨k + 1, _, rfl, rfl, hlt, trivial, by
          rw [Hid, HN.out, HX.out, listB_snoc _ _ hne.out, ByteArray.data_append, Array.toList_append, ByteArray.data_append, Array.toList_append, HL.out]; simp, by rw [ByteArray.size_append, ByteArray.size_append]; exact hz3.out⟩
    · obtain rfl : k = l.length := by omega
      have hld : decide ((l.length : Int) < (l.length : Int)) = false := decide_eq_false (by omega)
      rw [List.take_length] at HL
      go_wp2_with fail
      go_ret
      exact ⟨_, rfl, HL.out, rfl⟩

set_option maxRecDepth 100000 in
set_option maxHeartbeats 4000000 in
theorem RefSwap_big (v : Value) (l : List ByteArray) (fr tt : ByteArray) (w : World) (hl : l.length ≤ 30000) (hs : ∀ x ∈ l, x.size ≤ 25000) (ht : tt.size ≤ 25000) (hT : Txt w v l) :
    Calls Tryd.prog 19 #[v, .string fr, .string tt] w (RSwapP w l fr tt) := by
  obtain ⟨a, c, rfl, hc⟩ := hT.form
  have HC := Lib.hid hc
  have HS := Lib.hid hs
  clear hc hs hT
  go_enter Tryd.func19, Tryd.ntmps19
  go_wp2_with fail
  go_loopw [7, 8] (fun x i wx => ∃ (k : Nat) (v : Value), v = x ∧ i = .int .i64 (k : Int) ∧ k ≤ l.length ∧ Hid (Wn w wx v ((l.take k).map fun x => sw1 x fr tt))) (fun _ i _ => l.length + 1 - (intOf i).toNat)
  case atStart => exact ⟨0, _, rfl, rfl, Nat.zero_le _, Wn.nil w⟩
  case round =>
    obtain ⟨k, v, rfl, rfl, hk, HW⟩ := hrel
    by_cases hlt : k < l.length
    · have hld : decide ((k : Int) < (l.length : Int)) = true := decide_eq_true (by omega)
      have b2 : IntKind.i64.wrap ((k : Int) + 1) = (k : Int) + 1 := IntWalk.i64_in _ (by omega)
      obtain ⟨g, off, rfl, hg, hcell0⟩ := HC.out k hlt
      have hcell := (HW.out.old.cell (p := ⟨g, off + k, none⟩) hg).trans hcell0
      have hx := HS.out l[k] (List.getElem_mem hlt)
      obtain ⟨v8, w8, r8, h8⟩ := HW.out.push (by simp; omega) (sw1 l[k] fr tt)
      rw [show (l.take k).map (fun x => sw1 x fr tt) ++ [sw1 l[k] fr tt] = (l.take (k + 1)).map (fun x => sw1 x fr tt) by rw [take_snoc hlt, List.map_append]; rfl] at h8
      have H8 := Lib.hid h8
      clear h8 hcell0
      obtain ⟨X, hX⟩ : ∃ X, l[k] = X := ⟨_, rfl⟩
      rw [hX] at hcell hx r8
      clear hX
      have HE := Lib.hid (Ends_any X fr wr (by omega))
      cases he : Lib.hasSuffix X.data.toList fr.data.toList with
      | false =>
        rw [he] at HE
        rw [sw1_no he] at r8
        clear he
        go_wp2_with (first
          | (go_at_call 25; refine HE.out.mono ?_; rintro e w6 ⟨rfl, h6⟩; obtain rfl := h6.symm; simp only [])
          | (at_builtin; refine wpList_run_append _ rfl _ _ 38 38 rfl _ _ rfl rfl r8 ?_))
        go_roundw
        case measure => simp [intOf] <;> omega
        case rel => exact ⟨k + 1, _, rfl, rfl, hlt, H8.out⟩
      | true =>
        have hle := suf_le he
        rw [dl, dl] at hle
        rw [he] at HE
        rw [sw1_yes he] at r8
        clear he
        obtain ⟨m, hm⟩ : ∃ m, X.size - fr.size = m := ⟨_, rfl⟩
        have hmi : (m : Int) ≤ (X.size : Int) := by omega
        have hm0 : (0 : Int) ≤ (m : Int) := by omega
        have hlo : IntKind.i64.wrap ((X.size : Int) - (fr.size : Int)) = (m : Int) := by rw [IntWalk.i64_in _ (by omega)]; omega
        have hrs : (X.extract 0 m).size = m := by simp; omega
        rw [hm] at r8
        obtain ⟨r, hr⟩ : ∃ r, X.extract 0 m = r := ⟨_, rfl⟩
        rw [hr] at hrs r8
        have hsum : ¬ (9223372036854775807 < r.size + tt.size) := by omega
        clear hm
        go_wp2_with (first
          | (go_at_call 25; refine HE.out.mono ?_; rintro e w6 ⟨rfl, h6⟩; obtain rfl := h6.symm; simp only [])
          | (at_builtin; refine wpList_run_append _ rfl _ _ 38 38 rfl _ _ rfl rfl r8 ?_))
        go_roundw
        case measure => simp [intOf] <;> omega
        case rel => exact ⟨k + 1, _, rfl, rfl, hlt, H8.out⟩
    · obtain rfl : k = l.length := by omega
      have hld : decide ((l.length : Int) < (l.length : Int)) = false := decide_eq_false (by omega)
      rw [List.take_length] at HW
      obtain ⟨a9, c9, hv, _⟩ := HW.out.txt.form
      subst hv
      go_wp2_with fail
      go_ret
      exact ⟨_, rfl, HW.out⟩

end Go.Proofs.YthbemfpoanmjcaaDoor
