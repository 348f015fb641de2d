import Derived.Test.YtmpnhjdadjfecaaDoorH
namespace Go.Proofs.YtmpnhjdadjfecaaDoor
open Go.RowKit

theorem gb_below {w w' : World} (h : Below w.heap.size w w') : w.grownBy w' none := ⟨h.os, h.tape, h.output, h.size, fun k hk _ => h.block k hk⟩
theorem slice_some (g n c k : Nat) (hk : k ≤ c) :
    ∀ w, (Instr.slice 30 (.slice (some ⟨g, 0, none⟩) n c) none (some (.int .i64 k)) none).run Tryd.prog w = .ok (.slice (some ⟨g, 0, none⟩) k c) w := by
  intro w
  rw [run_slice_h (P := Tryd.prog) (w := w) 30 (some ⟨g, 0, none⟩) n c (by rw [elem30]; exact Tryd.underlying30) .i64 (k : Int) (by omega) (by omega), elem30, Tryd.sizeOf9]
  simp [Result.andThen, sliced, Addr.add]
theorem slice_nil : ∀ w, (Instr.slice 30 (.slice none 0 0) none (some (.int .i64 0)) none).run Tryd.prog w = .ok (.slice none 0 0) w := by
  intro w
  rw [run_slice_h (P := Tryd.prog) (w := w) 30 none 0 0 (by rw [elem30]; exact Tryd.underlying30) .i64 0 (by omega) (by omega), elem30, Tryd.sizeOf9]
  simp [Result.andThen, sliced]
/-- A row cut at its front: the slice and what it holds. -/
theorem own_cut {w : World} {B c : Nat} {A : Option Addr} {L : List Bs} {k : Nat} (h : w.ownsRow B 9 1 (.slice A L.length c) L.length (L.map encStr)) (hk : k ≤ L.length) :
    (∀ w', (Instr.slice 30 (.slice A L.length c) none (some (.int .i64 k)) none).run Tryd.prog w' = .ok (.slice A k c) w') ∧ StrsL w A (L.take k) := by
  have hs := strs_own h
  refine ⟨?_, fun hn => ?_⟩
  · rcases h.2 with ⟨h1, h0⟩ | ⟨g, c', cur, hv, _, _, h1, _⟩
    · injection h1 with e1 _ e3
      subst e1
      subst e3
      have : k = 0 := by omega
      subst this
      rw [h0]
      exact slice_nil
    · injection hv with e1 _ e3
      subst e1
      exact slice_some g L.length c k (by omega)
  · obtain ⟨g, off, e, hg, hc⟩ := hs (by rw [List.length_take] at hn; omega)
    refine ⟨g, off, e, hg, fun i hi => ?_⟩
    rw [List.length_take] at hi
    rw [hc i (by omega), List.getElem_take]

set_option maxRecDepth 100000 in
set_option maxHeartbeats 2000000 in
theorem RefWithin_any (p q : ByteArray) (w : World) (hp : p.size ≤ 1100000) (hq : q.size ≤ 1100000) (v : Bool) (hv : Hid (v = true ↔ parts ⟨#[47]⟩ p <+: parts ⟨#[47]⟩ q)) :
    Calls Tryd.prog 21 #[.string p, .string q] w fun e w' => e = .returned (.bool v) ∧ Below w.heap.size w w' := by
  have hl := parts_len ⟨#[47]⟩ p
  have h1 : (⟨#[47]⟩ : ByteArray).size = 1 := rfl
  rw [h1] at hl
  obtain ⟨L, hL⟩ : ∃ L, parts ⟨#[47]⟩ p = L := ⟨_, rfl⟩
  obtain ⟨M, hM⟩ : ∃ M, parts ⟨#[47]⟩ q = M := ⟨_, rfl⟩
  rw [hL] at hl hv
  rw [hM] at hv
  have HL := Lib.hid hL
  have HM := Lib.hid hM
  clear hL hM h1
  go_enter Tryd.func21, Tryd.ntmps21
  go_wp2_with fail
  refine (RefParts_any ⟨#[47]⟩ p w (by decide) hp).mono ?_
  rintro e w1 ⟨va, rfl, hown, hB⟩
  rw [HL.out] at hown
  obtain ⟨A, c, rfl⟩ := own_form hown
  have HO := Lib.hid hown
  have HB := Lib.hid hB
  clear hown hB
  go_wp2_with fail
  refine (RefParts_any ⟨#[47]⟩ q w1 (by decide) hq).mono ?_
  rintro e w2 ⟨vb, rfl, hown2, hB2⟩
  rw [HM.out] at hown2
  obtain ⟨A2, c2, rfl⟩ := own_form hown2
  have HS : Hid (StrsL w2 A L) := strs_own (HO.out.kept (gb_below hB2) (Classical.em _))
  have HO2 := Lib.hid hown2
  have HB2 : Hid (Below w.heap.size w w2) := HB.out.trans (hB2.mono HB.out.size)
  clear hown2 hB2
  by_cases hle : L.length ≤ M.length
  · have hleI : (L.length : Int) ≤ (M.length : Int) := by omega
    obtain ⟨hst, hss⟩ := own_cut HO2.out hle
    have HSS := Lib.hid hss
    have htl : (M.take L.length).length = L.length := by rw [List.length_take]; omega
    have hs := Same_any A A2 L (M.take L.length) c c2 w2 (by omega) HS.out HSS.out v (by rw [Hid, hv.out]; exact ⟨fun h => List.prefix_iff_eq_take.1 h, fun h => List.prefix_iff_eq_take.2 h⟩)
    rw [htl] at hs
    have HSM := Lib.hid hs
    clear hss htl hs
    go_wp2_with fail
    refine HSM.out.mono ?_
    rintro e w3 ⟨rfl, m, hm⟩
    have HB3 : Hid (Below w.heap.size w w3) := by rw [hm]; exact ⟨HB2.out.os, HB2.out.tape, HB2.out.output, HB2.out.size, HB2.out.block⟩
    clear hm
    go_wp2_with fail
    go_ret
    exact ⟨rfl, HB3.out⟩
  · have hleI : ¬ (L.length : Int) ≤ (M.length : Int) := by omega
    have HV : Hid (v = false) := by
      rw [Hid, Bool.eq_false_iff]
      intro h
      exact hle (hv.out.1 h).length_le
    go_wp2_with fail
    go_ret
    exact ⟨by rw [HV.out]; rfl, HB2.out⟩
end Go.Proofs.YtmpnhjdadjfecaaDoor
