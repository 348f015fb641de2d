import Derived.Test.YthbemfpoanmjcaaDoorAA
namespace Go.Proofs.YthbemfpoanmjcaaDoor
open Go.RowKit
set_option linter.unusedVariables false

theorem suf_le {s x : Bs} (h : Lib.hasSuffix s x = true) : x.length ≤ s.length := by
  unfold Lib.hasSuffix at h
  exact (List.isSuffixOf_iff_suffix.1 h).length_le
theorem sw1_yes {x fr tt : ByteArray} (h : Lib.hasSuffix x.data.toList fr.data.toList = true) : sw1 x fr tt = x.extract 0 (x.size - fr.size) ++ tt := by
  have hle := suf_le h
  rw [dl, dl] at hle
  unfold sw1 Lib.trimSuffix
  rw [if_pos h, if_pos h]
  congr 1
  refine ba_ext ?_
  rw [mk_list, (ext_dt (t := x) (a := 0) (b := x.size - fr.size) (by omega) (by omega)).1, dl, dl, List.drop_zero]
theorem sw1_no {x fr tt : ByteArray} (h : Lib.hasSuffix x.data.toList fr.data.toList = false) : sw1 x fr tt = x := by
  unfold sw1; rw [if_neg (by simp [h])]
def RSwapP (w : World) (l : List ByteArray) (fr tt : ByteArray) (e : Ending) (w' : World) : Prop := ∃ v', e = .returned v' ∧ Wn w w' v' (l.map fun x => sw1 x fr tt)
set_option maxRecDepth 100000 in
set_option maxHeartbeats 4000000 in
theorem RefSwap_any (v : Value) (l : List ByteArray) (fr tt : ByteArray) (w : World) (hl : l.length ≤ 1000) (hs : ∀ x ∈ l, x.size ≤ 10000) (ht : tt.size ≤ 10000) (hT : Txt w v l) :
    Calls Tryd.prog 19 #[v, .string fr, .string tt] w (RSwapP w l fr tt) := by
  obtain ⟨a, c, rfl, hc⟩ := hT.form
  have HC := Lib.hid hc
  have HS := Lib.hid hs
  clear hc hs hT
  go_enter Tryd.func19, Tryd.ntmps19
  go_wp2_with fail
  go_loopw [7, 8] (fun x i wx => ∃ (k : Nat) (v : Value), v = x ∧ i = .int .i64 (k : Int) ∧ k ≤ l.length ∧ Hid (Wn w wx v ((l.take k).map fun x => sw1 x fr tt))) (fun _ i _ => l.length + 1 - (intOf i).toNat)
  case atStart => exact ⟨0, _, rfl, rfl, Nat.zero_le _, Wn.nil w⟩
  case round =>
    obtain ⟨k, v, rfl, rfl, hk, HW⟩ := hrel
    by_cases hlt : k < l.length
    · have hld : decide ((k : Int) < (l.length : Int)) = true := decide_eq_true (by omega)
      have b2 : IntKind.i64.wrap ((k : Int) + 1) = (k : Int) + 1 := IntWalk.i64_in _ (by omega)
      obtain ⟨g, off, rfl, hg, hcell0⟩ := HC.out k hlt
      have hcell := (HW.out.old.cell (p := ⟨g, off + k, none⟩) hg).trans hcell0
      have hx := HS.out l[k] (List.getElem_mem hlt)
      obtain ⟨v8, w8, r8, h8⟩ := HW.out.push (by simp; omega) (sw1 l[k] fr tt)
      rw [show (l.take k).map (fun x => sw1 x fr tt) ++ [sw1 l[k] fr tt] = (l.take (k + 1)).map (fun x => sw1 x fr tt) by rw [take_snoc hlt, List.map_append]; rfl] at h8
      have H8 := Lib.hid h8
      clear h8 hcell0
      obtain ⟨X, hX⟩ : ∃ X, l[k] = X := ⟨_, rfl⟩
      rw [hX] at hcell hx r8
      clear hX
      have HE := Lib.hid (Ends_any X fr wr (by omega))
      cases he : Lib.hasSuffix X.data.toList fr.data.toList with
      | false =>
        rw [he] at HE
        rw [sw1_no he] at r8
        clear he
        go_wp2_with (first
          | (go_at_call 25; refine HE.out.mono ?_; rintro e w6 ⟨rfl, h6⟩; obtain rfl := h6.symm; simp only [])
          | (at_builtin; refine wpList_run_append _ rfl _ _ 38 38 rfl _ _ rfl rfl r8 ?_))
        go_roundw
        case measure => simp [intOf] <;> omega
        case rel => exact ⟨k + 1, _, rfl, rfl, hlt, H8.out⟩
      | true =>
        have hle := suf_le he
        rw [dl, dl] at hle
        rw [he] at HE
        rw [sw1_yes he] at r8
        clear he
        obtain ⟨m, hm⟩ : ∃ m, X.size - fr.size = m := ⟨_, rfl⟩
        have hmi : (m : Int) ≤ (X.size : Int) := by omega
        have hm0 : (0 : Int) ≤ (m : Int) := by omega
        have hlo : IntKind.i64.wrap ((X.size : Int) - (fr.size : Int)) = (m : Int) := by rw [IntWalk.i64_in _ (by omega)]; omega
        have hrs : (X.extract 0 m).size = m := by simp; omega
        rw [hm] at r8
        obtain ⟨r, hr⟩ : ∃ r, X.extract 0 m = r := ⟨_, rfl⟩
        rw [hr] at hrs r8
        have hsum : ¬ (9223372036854775807 < r.size + tt.size) := by omega
        clear hm
        go_wp2_with (first
          | (go_at_call 25; refine HE.out.mono ?_; rintro e w6 ⟨rfl, h6⟩; obtain rfl := h6.symm; simp only [])
          | (at_builtin; refine wpList_run_append _ rfl _ _ 38 38 rfl _ _ rfl rfl r8 ?_))
        go_roundw
        case measure => simp [intOf] <;> omega
        case rel => exact ⟨k + 1, _, rfl, rfl, hlt, H8.out⟩
    · obtain rfl : k = l.length := by omega
      have hld : decide ((l.length : Int) < (l.length : Int)) = false := decide_eq_false (by omega)
      rw [List.take_length] at HW
      obtain ⟨a9, c9, hv, _⟩ := HW.out.txt.form
      subst hv
      go_wp2_with fail
      go_ret
      exact ⟨_, rfl, HW.out⟩
end Go.Proofs.YthbemfpoanmjcaaDoor
