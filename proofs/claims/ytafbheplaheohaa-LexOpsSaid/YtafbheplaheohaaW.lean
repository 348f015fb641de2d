import Derived.Test.YtafbheplaheohaaVA
namespace Go.Proofs.Ytafbheplaheohaa
open Go.RowKit
set_option linter.unusedVariables false
set_option maxRecDepth 100000 in
set_option maxHeartbeats 8000000 in
/-- A word, where reading is known. -/
theorem word_of {w : World} {rb a : Nat} {S : ByteArray} (ih : RP (S.size - a)) (q : Bool) (d e : Nat) (he : e ≤ 3) (hd : d + (S.size - a) ≤ 100000) (hr : Rd w rb S a) (ha : a ≤ S.size) (hs : S.size ≤ 20000) :
    Calls Try.prog 23 #[.pointer (some ⟨rb, 0, none⟩), .int .i64 e, .bool q, .int .i64 d] w (WordP w rb S (allR (readC e q d ps0 (S.data.toList.drop a)))) := by
  obtain ⟨Q, hQ⟩ : ∃ Q, WordP w rb S (allR (readC e q d ps0 (S.data.toList.drop a))) = Q := ⟨_, rfl⟩
  rw [hQ]
  have HQ := Lib.hid hQ
  have hrl := blk_lt hr
  have hbe : Below w.heap.size w (w.alloc (.cells #[.slice none 0 0, .int .i64 0, .slice none 0 0, .bool false] 68)) := (Below.refl _ _).alloc (Nat.le_refl _) _
  have hp0 : PAt (w.alloc (.cells #[.slice none 0 0, .int .i64 0, .slice none 0 0, .bool false] 68)) w.heap.size w.heap.size (.slice none 0 0) ps0 := ⟨⟨.slice none 0 0, [], heap_alloc_new w _, PRow.nil _ _, World.ownsRow_nil _ _ _ _⟩, Nat.le_refl _⟩
  have hsz : (w.alloc (.cells #[.slice none 0 0, .int .i64 0, .slice none 0 0, .bool false] 68)).heap.size = w.heap.size + 1 := by simp
  have HREAD : Hid (ReadAt (w.alloc (.cells #[.slice none 0 0, .int .i64 0, .slice none 0 0, .bool false] 68)) rb w.heap.size S e q d w.heap.size a ps0) := ih _ _ _ _ _ _ ps0 S e q d rfl he hd hp0 (by show 0 + 0 + _ ≤ _; omega) (by omega) (hr.under hbe) hrl ha hs
  unfold ReadAt at HREAD
  have HOB : Hid (∀ w', Rb w.heap.size rb (w.alloc (.cells #[.slice none 0 0, .int .i64 0, .slice none 0 0, .bool false] 68)) w' → Only (fun k => k = rb) w w') := fun w' h =>
    (Only.of_below (S := fun k => k = rb) hbe).trans h (fun _ h => h) (fun i hi h => h.elim id fun h => absurd h (by omega))
  clear hQ hr hbe hp0
  cases hrc : readC e q d ps0 (S.data.toList.drop a) with
  | error x =>
    rw [hrc] at HREAD
    have HF : Hid (allR (readC e q d ps0 (S.data.toList.drop a)) = .error x) := by rw [Hid, hrc]; rfl
    unfold GoP ErrP at HREAD
    simp only at HREAD
    clear hrc
    go_enter Try.func23, Try.ntmps23
    go_wp2_with (go_at_call 33; refine HREAD.out.mono ?_; rintro e w5 ⟨rfl, hx0, ho, hrr⟩; have hxI : ((x : Int) == 0) = false := beq_eq_false_iff_ne.2 (by omega); have HX0 := Lib.hid hx0; have HO := Lib.hid (HOB.out _ ho); have HRR := Lib.hid hrr; clear ho hrr hx0; simp only [])
    rw [← HQ.out, HF.out]
    exact ⟨rfl, HX0.out, HO.out, HRR.out⟩
  | ok z =>
    obtain ⟨p', t⟩ := z
    rw [hrc] at HREAD
    unfold GoP at HREAD
    simp only at HREAD
    have hsz' := readC_sz hrc
    have hps : ps0.sz = 0 := rfl
    rw [List.length_drop, dl, hps] at hsz'
    have HF : Hid (allR (readC e q d ps0 (S.data.toList.drop a)) = .ok (p'.all, t)) := by rw [Hid, hrc]; rfl
    have HALL : Hid (∀ w5 a', Rs (w.alloc (.cells #[.slice none 0 0, .int .i64 0, .slice none 0 0, .bool false] 68)) w5 w.heap.size rb w.heap.size S a' p' → Calls Try.prog 34 #[.pointer (some ⟨w.heap.size, 0, none⟩)] w5 fun e w' => ∃ va vn vc, e = .returned (.slice va vn vc) ∧ Wd w' (fun k => w.heap.size ≤ k) (.slice va vn vc) p'.all ∧ Only (fun k => k = rb) w w' ∧ Rd w' rb S a') := by
      intro w5 a' h
      obtain ⟨k1, k2, k3, lv', k4⟩ := h
      have hs5 := k3.size
      refine (all_any k4 (by omega) (by omega)).mono ?_
      rintro e w' ⟨v, rfl, h1, h2⟩
      obtain ⟨va, vc, rfl⟩ := h1.form
      exact ⟨va, _, vc, rfl, h1, HOB.out _ (Rb.trans k3 (Rb.of_below h2 (by omega))), k1.below h2 hrl⟩
    clear hrc
    go_enter Try.func23, Try.ntmps23
    go_wp2_with (first
      | (go_at_call 33; refine HREAD.out.mono ?_; rintro e w5 ⟨rfl, a', hrs, hdr⟩; have HRS := Lib.hid hrs; have HDR := Lib.hid hdr; have hle := hrs.le; clear hrs hdr; simp only [])
      | (go_at_call 34; refine (HALL.out _ a' HRS.out).mono ?_; rintro e w6 ⟨va, vn, vc, rfl, h1, h2, h3⟩; have H1 := Lib.hid h1; have H2 := Lib.hid h2; have H3 := Lib.hid h3; clear h1 h2 h3; simp only []))
    rw [← HQ.out, HF.out]
    exact ⟨H2.out, _, a', rfl, H1.out, H3.out, hle, HDR.out⟩
end Go.Proofs.Ytafbheplaheohaa
