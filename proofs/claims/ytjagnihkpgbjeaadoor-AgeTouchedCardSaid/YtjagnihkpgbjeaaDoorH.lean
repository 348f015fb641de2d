import Derived.Test.YtjagnihkpgbjeaaDoorG
import Derived.BigQuiet
import Derived.Deep.Draws
import Derived.Deep.QuietTactic
namespace Go.Proofs.YtjagnihkpgbjeaaDoor
open Go.RowKit

def StrsL (w : World) (a : Option Addr) (L : List Bs) : Prop := 0 < L.length → ∃ g off, a = some ⟨g, off, none⟩ ∧ g < w.heap.size ∧ ∀ i (h : i < L.length), w.cell? ⟨g, off + i, none⟩ = some (encStr L[i])
theorem strs_own {w : World} {B : Nat} {a : Option Addr} {c : Nat} {L : List Bs} (h : w.ownsRow B 9 1 (.slice a L.length c) L.length (L.map encStr)) : StrsL w a L := fun hn => by
  obtain ⟨g, c', ea, _, hg⟩ := h.form hn
  injection ea with e1 _ _
  subst e1
  refine ⟨g, 0, rfl, hg, fun i hi => ?_⟩
  have := World.ownsRow.cellAt (g := g) (by simpa using h) i (by omega)
  rw [Nat.zero_add, this]
  simp [hi]

theorem draws (w : World) (m q : Nat) : (w.drewN m).drewN q = w.drewN (m + q) := by simp [World.drewN, Nat.add_assoc]

set_option maxRecDepth 100000 in
set_option maxHeartbeats 4000000 in
theorem Same_any (A A' : Option Addr) (L M : List Bs) (c c' : Nat) (w : World) (hn : L.length ≤ 4000000) (hS : StrsL w A L) (hS' : StrsL w A' M) (v : Bool) (hv : Hid (v = true ↔ L = M)) :
    Calls Tryd.prog 28 #[.slice A L.length c, .slice A' M.length c'] w fun e w' => e = .returned (.bool v) ∧ ∃ m, w' = w.drewN m := by
  have HS := Lib.hid hS
  have HS' := Lib.hid hS'
  clear hS hS'
  by_cases hlen : L.length = M.length
  · obtain ⟨n, hln⟩ : ∃ n, L.length = n := ⟨_, rfl⟩
    have hln' : M.length = n := hlen.symm.trans hln
    rw [hln] at hn
    rw [hln, hln']
    have HLN := Lib.hid hln
    have HLN' := Lib.hid hln'
    clear hln hln' hlen
    go_enter Tryd.func28, Tryd.ntmps28
    go_wp2_with fail
    go_loopw [5] (fun i wr => ∃ (k m : Nat), i = .int .i64 k ∧ k ≤ n ∧ wr = w.drewN m ∧ Hid (L.take k = M.take k)) (fun i _ => n - (intOf i).toNat)
    case atStart => exact ⟨0, 0, rfl, by omega, rfl, rfl⟩
    case round =>
      obtain ⟨k, m, rfl, hk, rfl, HK⟩ := hrel
      by_cases hlt : k < n
      · have hltL : k < L.length := by rw [HLN.out]; exact hlt
        have hltM : k < M.length := by rw [HLN'.out]; exact hlt
        obtain ⟨g, off, rfl, _, hc⟩ := HS.out (by omega)
        obtain ⟨g', off', rfl, _, hc'⟩ := HS'.out (by omega)
        have hck := hc k hltL
        have hck' := hc' k hltM
        clear hc hc'
        have hadd : (⟨g, off, none⟩ : Addr).add k = ⟨g, off + k, none⟩ := by unfold Addr.add; by_cases h : k = 0 <;> simp [h]
        have hadd' : (⟨g', off', none⟩ : Addr).add k = ⟨g', off' + k, none⟩ := by unfold Addr.add; by_cases h : k = 0 <;> simp [h]
        have b1 : (k : Int) < (n : Int) := by omega
        have b2 : (0 : Int) ≤ (k : Int) := by omega
        have HTL : Hid (L.take (k + 1) = L.take k ++ [L[k]]) := by rw [Hid, List.take_add_one, List.getElem?_eq_getElem hltL]; rfl
        have HTM : Hid (M.take (k + 1) = M.take k ++ [M[k]]) := by rw [Hid, List.take_add_one, List.getElem?_eq_getElem hltM]; rfl
        by_cases hxy : L[k] = M[k]
        · have HN : Hid (L.take (k + 1) = M.take (k + 1)) := by rw [Hid, HTL.out, HTM.out, HK.out, hxy]
          rw [hxy] at hck
          obtain ⟨x, hx⟩ : ∃ x : ByteArray, ⟨M[k].toArray⟩ = x := ⟨_, rfl⟩
          rw [show encStr M[k] = .string ⟨M[k].toArray⟩ from rfl, hx] at hck hck'
          clear hx hxy HTL HTM
          go_wp2_with fail
          go_quiet (fail)
          go_wp2_with fail
          exact ⟨⟨k + 1, _, rfl, by omega, rfl, HN.out⟩, by simp [intOf]; omega⟩
        · have HV : Hid (v = false) := by
            rw [Hid, Bool.eq_false_iff]
            intro h
            have e := hv.out.1 h
            subst e
            exact hxy rfl
          obtain ⟨x, hx⟩ : ∃ x : ByteArray, ⟨L[k].toArray⟩ = x := ⟨_, rfl⟩
          obtain ⟨y, hy⟩ : ∃ y : ByteArray, ⟨M[k].toArray⟩ = y := ⟨_, rfl⟩
          rw [show encStr L[k] = .string ⟨L[k].toArray⟩ from rfl, hx] at hck
          rw [show encStr M[k] = .string ⟨M[k].toArray⟩ from rfl, hy] at hck'
          have hne : (x.toList == y.toList) = false := by
            rw [beq_eq_false_iff_ne, Lib.toList_data, Lib.toList_data, ← hx, ← hy]
            exact hxy
          clear hx hy hxy HTL HTM
          go_wp2_with fail
          go_quiet (fail)
          go_wp2_with fail
          go_ret
          exact ⟨by rw [HV.out]; rfl, _, draws _ _ _⟩
      · have b1 : ¬ (k : Int) < (n : Int) := by omega
        have HV : Hid (v = true) := by
          rw [Hid, hv.out]
          have h := HK.out
          have h1 := HLN.out
          have h2 := HLN'.out
          rwa [List.take_of_length_le (by omega), List.take_of_length_le (by omega)] at h
        go_wp2_with fail
        go_ret
        exact ⟨by rw [HV.out]; rfl, _, rfl⟩
  · have HV : Hid (v = false) := by
      rw [Hid, Bool.eq_false_iff]
      intro h
      exact hlen (by rw [hv.out.1 h])
    have hne : ((L.length : Int) != (M.length : Int)) = true := by rw [bne_iff_ne]; omega
    clear hlen
    go_enter Tryd.func28, Tryd.ntmps28
    go_wp2_with fail
    go_ret
    exact ⟨by rw [HV.out]; rfl, 0, rfl⟩
end Go.Proofs.YtjagnihkpgbjeaaDoor
