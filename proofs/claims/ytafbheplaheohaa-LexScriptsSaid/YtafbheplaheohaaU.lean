import Derived.Test.YtafbheplaheohaaS
import Derived.StillTailTactics
namespace Go.Proofs.Ytafbheplaheohaa
open Go.RowKit
set_option linter.unusedVariables false

/-- read, of which more is known where what is left is shorter. -/
def ReadAt (w : World) (rb pb : Nat) (S : ByteArray) (e : Nat) (q : Bool) (d B a : Nat) (p : PS) : Prop := Calls Try.prog 33 #[.pointer (some ⟨rb, 0, none⟩), .pointer (some ⟨pb, 0, none⟩), .int .i64 e, .bool q, .int .i64 d] w (GoP w B rb pb S (readC e q d p (S.data.toList.drop a)))
def doubF (d : Nat) (p : PS) (s : Bz) : Res (PS × Bz) := match readC 3 true d p.mark s with
  | .error x => .error x
  | .ok (_, []) => .error 2
  | .ok (p', _ :: r') => .ok (p', r')
theorem doub_e {d : Nat} {p : PS} {s : Bz} {x : Nat} (h : readC 3 true d p.mark s = .error x) : doubF d p s = .error x := by unfold doubF; rw [h]
theorem doub_n {d : Nat} {p p' : PS} {s t : Bz} (h : readC 3 true d p.mark s = .ok (p', t)) (ht : t = []) : doubF d p s = .error 2 := by unfold doubF; rw [h, ht]
theorem doub_k {d : Nat} {p p' : PS} {s t : Bz} (h : readC 3 true d p.mark s = .ok (p', t)) (ht : t ≠ []) : doubF d p s = .ok (p', t.drop 1) := by
  unfold doubF; rw [h]
  cases t with
  | nil => exact absurd rfl ht
  | cons c t => rfl
set_option maxRecDepth 100000 in
set_option maxHeartbeats 8000000 in
theorem double_any {w : World} {B rb pb a : Nat} {lv : Value} {p : PS} {S : ByteArray} (d : Nat) (hp : PAt w B pb lv p) (hB : B ≤ w.heap.size) (hr : Rd w rb S a) (hrb : rb < B) (ha : a < S.size) (hs : S.size ≤ 20000)
    (HR : ∀ w1 lv1, PAt w1 B pb lv1 p.mark → B ≤ w1.heap.size → Rd w1 rb S (a + 1) → ReadAt w1 rb pb S 3 true d B (a + 1) p.mark) :
    Calls Try.prog 48 #[.pointer (some ⟨rb, 0, none⟩), .pointer (some ⟨pb, 0, none⟩), .int .i64 d] w (GoP w B rb pb S (doubF d p (S.data.toList.drop (a + 1)))) := by
  obtain ⟨Q, hQ⟩ : ∃ Q, GoP w B rb pb S (doubF d p (S.data.toList.drop (a + 1))) = Q := ⟨_, rfl⟩
  rw [hQ]
  have HQ := Lib.hid hQ
  have q1 : w.cell? ⟨rb, 1, none⟩ = some (.int .i64 a) := cell_of hr 1
  have f1 := free_of hr 1
  have ha1 : IntKind.i64.wrap ((a : Int) + 1) = (a : Int) + 1 := IntWalk.i64_in _ (by omega)
  obtain ⟨bv0, L0, hpb, _⟩ := hp.ex
  have f3 := free_of hpb 3
  have q3 : w.cell? ⟨pb, 3, none⟩ = some (.bool p.quotes) := cell_of hpb 3
  have hne : rb ≠ pb := cells_ne hr hpb (by decide)
  have hne' : pb ≠ rb := fun e => hne e.symm
  -- the world that read begins in
  obtain ⟨g1, g2⟩ := hp.mark
  have hr1 : Rd (w.setCell ⟨pb, 3, none⟩ (.bool true)) rb S a := hr.below g2 hrb
  have hr2 := hr1.setI (ai := (a : Int) + 1) (a + 1) (by omega)
  have hp2 := g1.rd hr1 1 (.int .i64 ((a : Int) + 1))
  have hO2 : Rb B rb w ((w.setCell ⟨pb, 3, none⟩ (.bool true)).setCell ⟨rb, 1, none⟩ (.int .i64 ((a : Int) + 1))) := Rb.trans (Rb.of_below g2 hB) (Rb.set _ _ _)
  have HREAD : Hid (ReadAt ((w.setCell ⟨pb, 3, none⟩ (.bool true)).setCell ⟨rb, 1, none⟩ (.int .i64 ((a : Int) + 1))) rb pb S 3 true d B (a + 1) p.mark) := HR _ lv hp2 (by simpa using hB) hr2
  unfold ReadAt at HREAD
  have HO2 := Lib.hid hO2
  have HRESTA := Lib.hid (fun (a1 : Nat) (w1 : World) (h : Rd w1 rb S a1) (h1 : a1 ≤ S.size) => rest_any rb S a1 w1 h h1 hs)
  clear hQ hp hr hpb g1 g2 hr1 hr2 hp2 hO2 HR
  cases hrc : readC 3 true d p.mark (S.data.toList.drop (a + 1)) with
  | error x =>
    rw [hrc] at HREAD
    have HF : Hid (doubF d p (S.data.toList.drop (a + 1)) = .error x) := doub_e hrc
    unfold GoP ErrP at HREAD
    simp only at HREAD
    clear hrc
    go_enter Try.func48, Try.ntmps48
    go_wp2_with (go_at_call 33; refine HREAD.out.mono ?_; rintro e w5 ⟨rfl, hx0, ho, hrr⟩; have hxI : ((x : Int) == 0) = false := beq_eq_false_iff_ne.2 (by omega); have HX0 := Lib.hid hx0; have HO := Lib.hid ho; have HRR := Lib.hid hrr; clear ho hrr hx0; simp only [])
    rw [← HQ.out, HF.out]
    exact ⟨rfl, HX0.out, Rb.trans HO2.out HO.out, HRR.out⟩
  | ok z =>
    obtain ⟨p', t⟩ := z
    rw [hrc] at HREAD
    unfold GoP at HREAD
    simp only at HREAD
    have HRC := Lib.hid hrc
    clear hrc
    go_enter Try.func48, Try.ntmps48
    go_wp2_with (go_at_call 33; refine HREAD.out.mono ?_; rintro e w5 ⟨rfl, a', hrs, hdr⟩; have HRS := Lib.hid hrs; have HDR := Lib.hid hdr; have q5 : w5.cell? ⟨rb, 1, none⟩ = some (.int .i64 a') := cell_of hrs.rd 1; have f5 := free_of hrs.rd 1; have hle := hrs.le; clear hrs hdr; simp only [])
    have hx := ext_end (t := S) (a := a') hle
    have HRST : Hid (Calls Try.prog 21 #[.pointer (some ⟨rb, 0, none⟩)] w5 fun e w' => e = .returned (.string (S.extract a' S.size)) ∧ Below w5.heap.size w5 w') := HRESTA.out a' w5 HRS.out.rd hle
    obtain ⟨X, hX⟩ : ∃ X, S.extract a' S.size = X := ⟨_, rfl⟩
    rw [hX] at hx HRST
    have ha2 : IntKind.i64.wrap ((a' : Int) + 1) = (a' : Int) + 1 := IntWalk.i64_in _ (by omega)
    have HXD := Lib.hid hx.1
    have HR6 : Hid (∀ w6, Below w5.heap.size w5 w6 → Rd w6 rb S a' ∧ Rb B rb w w6 ∧ ∃ lv', PAt w6 B pb lv' p') := fun w6 hb => by
      obtain ⟨k1, k2, k3, lv', k4⟩ := HRS.out
      exact ⟨k1.under hb, Rb.trans (Rb.trans HO2.out k3) (Rb.of_new hb), lv', k4.under hb⟩
    clear hX q5 f5
    by_cases hn : X.data.toList = []
    · have hE := isE_of hn
      have HF : Hid (doubF d p (S.data.toList.drop (a + 1)) = .error 2) := doub_n HRC.out (by rw [← HDR.out, ← HXD.out, hn])
      go_wp2_with (go_at_call 21; refine HRST.out.mono ?_; rintro e w6 ⟨rfl, h6⟩; have H6 := Lib.hid (HR6.out w6 h6); clear h6; simp only [])
      rw [← HQ.out, HF.out]
      exact ⟨rfl, by decide, H6.out.2.1, a', H6.out.1, by omega⟩
    · have hE := isE_ne hn
      have HF : Hid (doubF d p (S.data.toList.drop (a + 1)) = .ok (p', t.drop 1)) := doub_k HRC.out (by rw [← HDR.out, ← HXD.out]; exact hn)
      have hlt : a' < S.size := by
        by_cases h : a' < S.size
        · exact h
        · exact absurd (by rw [HXD.out]; exact List.drop_of_length_le (by rw [dl]; omega)) hn
      go_wp2_with (go_at_call 21; refine HRST.out.mono ?_; rintro e w6 ⟨rfl, h6⟩; have h := HR6.out w6 h6; have q6 : w6.cell? ⟨rb, 1, none⟩ = some (.int .i64 a') := cell_of h.1 1; have f6 := free_of h.1 1; have H6 := Lib.hid h; clear h h6; simp only [])
      rw [← HQ.out, HF.out]
      obtain ⟨k1, k2, lv', k4⟩ := H6.out
      exact ⟨rfl, a' + 1, ⟨k1.setI (a' + 1) (by omega), by omega, Rb.trans k2 (Rb.set _ _ _), lv', k4.rd k1 1 _⟩, by rw [← HDR.out, List.drop_drop]⟩
end Go.Proofs.Ytafbheplaheohaa
