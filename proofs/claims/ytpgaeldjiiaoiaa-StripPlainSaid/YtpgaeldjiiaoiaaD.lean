import Derived.Test.YtpgaeldjiiaoiaaC
namespace Go.Proofs.Ytpgaeldjiiaoiaa
open Go.RowKit

/-- The pieces ps lie in w where the slice value v says. -/
def Sl (w : World) (v : Value) (ps : List Pc) : Prop :=
  ∃ a cap, v = .slice a ps.length cap ∧ ps.length ≤ cap ∧ cap ≤ maxLen ∧
    (ps = [] ∨ ∃ g off, a = some ⟨g, off, none⟩ ∧ ∀ j (h : j < ps.length), PcAt w g (off + j * 6) ps[j])

theorem PcAt.drewN {w : World} {g off : Nat} {p : Pc} (h : PcAt w g off p) (n : Nat) : PcAt (w.drewN n) g off p := ⟨h.c0, h.c1, h.c2, h.lt⟩

/-- s, from its byte o on, begins with what the pieces match. -/
def fitsB (s : ByteArray) : Nat → List Pc → Bool
  | _, [] => true
  | o, p :: ps => tk p (gb s o) && fitsB s (o + 1) ps

theorem fitsB_step (s : ByteArray) : ∀ (ps : List Pc) (o k : Nat) (h : k < ps.length), fitsB s (o + k) (ps.drop k) = (tk ps[k] (gb s (o + k)) && fitsB s (o + (k + 1)) (ps.drop (k + 1))) := by
  intro ps o k h
  rw [List.drop_eq_getElem_cons h, fitsB]; rfl

set_option maxHeartbeats 400000 in
theorem fits_any (v : Value) (ps : List Pc) (s : ByteArray) (w : World) (hs : s.size ≤ 100000) (hle : ps.length ≤ s.size) (h : Sl w v ps) :
    Calls Try.prog 33 #[v, .string s] w fun e w' => e = .returned (.bool (fitsB s 0 ps)) ∧ ∃ n, w' = w.drewN n := by
  obtain ⟨a, cap, rfl, hcap, hcm, hcells⟩ := h
  obtain ⟨F, hF⟩ : ∃ F, F = fitsB s 0 ps := ⟨_, rfl⟩
  rw [← hF]
  have HF := Lib.hid hF
  clear hF
  go_enter Try.func33, Try.ntmps33
  go_wp2
  go_loopw [8] (fun i wr => ∃ k : Nat, i = .int .i64 k ∧ k ≤ ps.length ∧ (∃ n, wr = w.drewN n) ∧ F = fitsB s (0 + k) (ps.drop k)) (fun i _ => ps.length - (intOf i).toNat)
  case atStart => exact ⟨0, rfl, by omega, ⟨0, rfl⟩, HF.out⟩
  case round =>
    obtain ⟨k, rfl, hk, ⟨n, rfl⟩, hFk⟩ := hrel
    have HFK := Lib.hid hFk
    clear hFk
    by_cases hlt : k < ps.length
    · have hks : k < s.size := by omega
      have hbk := gb_eq s k hks
      have hki : (k : Int) < (s.size : Int) := by omega
      have hk0 : (0 : Int) ≤ (k : Int) := by omega
      rcases hcells with hnil | ⟨g, off, rfl, hp⟩
      · rw [hnil] at hlt; simp at hlt
      · have hpk := hp k hlt
        have HP := Lib.hid hp
        clear hp
        go_wp2_with fail
        go_quiet ((go_at_call 39; exact (takes_any g _ ps[k] (gb s k) _ (hpk.drewN _)).mono (fun _ _ ⟨a, b⟩ => ⟨a, _, b.symm⟩)))
        cases htk : tk ps[k] (gb s k) with
        | false =>
          have HTK := Lib.hid htk
          clear htk
          go_wp2
          go_ret
          refine ⟨?_, _, World.drewN_drewN _ _ _⟩
          rw [HFK.out, fitsB_step s ps 0 k hlt, Nat.zero_add, HTK.out]; rfl
        | true =>
          have HTK := Lib.hid htk
          clear htk
          go_wp2
          go_roundw
          case rel =>
            refine ⟨k + 1, by go_num, by omega, ⟨_, rfl⟩, ?_⟩
            rw [HFK.out, fitsB_step s ps 0 k hlt, Nat.zero_add, HTK.out, Bool.true_and, Nat.zero_add]
          case measure => simp [intOf]; omega
    · go_wp2
      go_ret
      refine ⟨?_, _, rfl⟩
      rw [HFK.out, List.drop_eq_nil_of_le (by omega)]; rfl
end Go.Proofs.Ytpgaeldjiiaoiaa
