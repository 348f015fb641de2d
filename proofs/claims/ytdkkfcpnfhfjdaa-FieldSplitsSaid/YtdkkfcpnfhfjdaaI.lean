import Derived.Test.YtdkkfcpnfhfjdaaH
namespace Go.Proofs.Ytdkkfcpnfhfjdaa
open Go.RowKit
set_option linter.unusedVariables false

set_option maxRecDepth 100000 in
set_option maxHeartbeats 8000000 in
theorem Text_any (v : Value) (L : List Pt) (w : World) (hL : L.length ≤ 100000) (hT : (textL (p2s L)).length ≤ 1000000) (hS : Sl w v L) :
    Calls Try.prog 11 #[v] w fun e w' => e = .returned (.string ⟨(textL (p2s L)).toArray⟩) ∧ Below w.heap.size w w' := by
  obtain ⟨a0, c0, hv, _⟩ := hS.form
  subst hv
  have HS := Lib.hid hS
  have hlI : (L.length : Int) ≤ 100000 := by omega
  have HB0 := Lib.hid (Bd.new w)
  clear hS
  go_enter Try.func11, Try.ntmps11
  go_wp2_with fail
  go_loopw [8] (fun i wx => ∃ k : Nat, k ≤ L.length ∧ i = .int .i64 k ∧ Hid (Bd w wx w.heap.size (textL (p2s (L.take k))))) (fun i _ => L.length - (intOf i).toNat)
  case atStart => exact ⟨0, by omega, rfl, HB0.out⟩
  case round =>
    obtain ⟨k, hk, rfl, HB⟩ := hrel
    by_cases hlt : k < L.length
    · have hltI : (k : Int) < (L.length : Int) := by omega
      have hk0 : (0 : Int) ≤ (k : Int) := by omega
      obtain ⟨⟨a', c', e1, e2⟩, _⟩ := HS.out.below HB.out.old
      obtain ⟨b, off, e3, hb, hcs⟩ := e2 k hlt
      injection e1 with e4 _ e6
      subst e4
      subst e6
      subst e3
      have q0 := hcs 0 _ rfl
      have q1 := hcs 1 _ rfl
      have q2 := hcs 2 _ rfl
      have q3 := hcs 3 _ rfl
      have q4 := hcs 4 _ rfl
      have q5 := hcs 5 _ rfl
      rw [Nat.add_zero] at q0
      obtain ⟨wa, wc, hwv⟩ := HS.out.ok L[k] (List.getElem_mem hlt)
      have HT := Lib.hid (textL_take hlt)
      have hle := textL_le L (k + 1)
      rw [HT.out, List.length_append] at hle
      rw [hwv] at q4
      obtain ⟨kd, hkd⟩ : ∃ kd, L[k].k = kd := ⟨_, rfl⟩
      obtain ⟨t, ht⟩ : ∃ t, L[k].t = t := ⟨_, rfl⟩
      rw [hkd] at q0
      rw [ht] at q1 HT hle
      have hts : (textL (p2s (L.take k))).length + t.size ≤ 1000000 := by
        rw [show t.data.toList.length = t.size from Array.length_toList] at hle; omega
      have HB1 : Hid (Bd w (wr.alloc (.cells #[.int .i64 kd, .string t, .string ⟨#[]⟩, .string ⟨#[]⟩, .slice wa 0 wc, .bool false] 31)) w.heap.size (textL (p2s (L.take k)))) := HB.out.below ((Below.refl _ _).alloc (Nat.le_refl _) _)
      have HW := Lib.hid (HB1.out.write t hts)
      rw [← HT.out] at HW
      have ad := add6 b off k
      clear e2 hcs hwv hkd ht hle HB HB1 HT
      go_wp2_with (go_at_call 19; refine HW.out.mono ?_; rintro e w5 ⟨rfl, h5⟩; have HC := Lib.hid h5; clear h5; simp only [])
      go_roundw
      case measure => simp [intOf]; omega
      case rel => exact ⟨k + 1, by omega, rfl, HC.out⟩
    · obtain rfl : k = L.length := by omega
      rw [List.take_length] at HB
      have HF := Lib.hid (HB.out.str)
      clear HB
      go_wp2_with (go_at_call 20; refine HF.out.mono ?_; rintro e w5 ⟨rfl, h5⟩; have HC := Lib.hid h5; clear h5; simp only [])
      go_ret
      exact ⟨rfl, HC.out⟩
end Go.Proofs.Ytdkkfcpnfhfjdaa
