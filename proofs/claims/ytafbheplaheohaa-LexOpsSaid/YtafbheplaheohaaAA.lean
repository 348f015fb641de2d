import Derived.Test.YtafbheplaheohaaY
namespace Go.Proofs.Ytafbheplaheohaa
open Go.RowKit
set_option linter.unusedVariables false

/-- What lex.Word answers. -/
def WordsP (w : World) (r : Res (List Prt)) (e : Ending) (w' : World) : Prop := match r with
  | .error x => e = .returned (.tuple #[.slice none 0 0, .int .i64 x]) ∧ x ≠ 0 ∧ Below w.heap.size w w'
  | .ok l => ∃ v, e = .returned (.tuple #[v, .int .i64 0]) ∧ Wd w' (fun k => w.heap.size ≤ k) v l ∧ Below w.heap.size w w'
theorem wordsF_bad {s : Bz} (h : mayN s ≠ 0) : wordsF s = .error (mayN s) := by unfold wordsF; rw [if_pos h]
theorem wordsF_all {s : Bz} (h : mayN s = 0) : wordsF s = match allR (readC 0 false 0 ps0 s) with
    | .error x => .error x
    | .ok (w, _) => .ok w := by rw [wordsF_eq h, wordF_eq]; rfl
set_option maxRecDepth 100000 in
set_option maxHeartbeats 8000000 in
theorem Word_any (s : ByteArray) (w : World) (hs : s.size ≤ 9000000000000000000) : Calls Try.prog 17 #[.string s] w (WordsP w (wordsF s.data.toList)) := by
  obtain ⟨Q, hQ⟩ : ∃ Q, WordsP w (wordsF s.data.toList) = Q := ⟨_, rfl⟩
  rw [hQ]
  have HQ := Lib.hid hQ
  have HRE := Lib.hid (readable_any s w hs)
  clear hQ
  by_cases hm : mayN s.data.toList = 0
  · rw [hm] at HRE
    have HF : Hid (wordsF s.data.toList = match allR (readC 0 false 0 ps0 s.data.toList) with
      | .error x => .error x
      | .ok (w, _) => .ok w) := wordsF_all hm
    have hs2 : s.size ≤ 16384 := by
      by_cases h : s.size ≤ 16384
      · exact h
      · unfold mayN at hm; rw [dl, if_pos (by omega)] at hm; cases hm
    have hbe : Below w.heap.size w (w.alloc (.cells #[.string s, .int .i64 0] 53)) := (Below.refl _ _).alloc (Nat.le_refl _) _
    have hrd : Rd (w.alloc (.cells #[.string s, .int .i64 0] 53)) w.heap.size s 0 := heap_alloc_new w _
    have HW : Hid (Calls Try.prog 23 #[.pointer (some ⟨w.heap.size, 0, none⟩), .int .i64 0, .bool false, .int .i64 0] (w.alloc (.cells #[.string s, .int .i64 0] 53)) (WordP (w.alloc (.cells #[.string s, .int .i64 0] 53)) w.heap.size s (allR (readC 0 false 0 ps0 s.data.toList)))) := word_any false 0 0 (by decide) (by decide) hrd (Nat.zero_le _) (by omega)
    have HB : Hid (∀ w', Only (fun k => k = w.heap.size) (w.alloc (.cells #[.string s, .int .i64 0] 53)) w' → Below w.heap.size w w') := fun w' h => hbe.trans (h.below (fun k e => by omega) hbe.size)
    have hsz : (w.alloc (.cells #[.string s, .int .i64 0] 53)).heap.size = w.heap.size + 1 := by simp
    clear hbe hrd hm
    generalize allR (readC 0 false 0 ps0 s.data.toList) = r at HW HF
    unfold WordP at HW
    rcases r with x | ⟨l, t⟩
    · simp only at HW HF
      go_enter Try.func17, Try.ntmps17
      go_wp2_with (first
        | (go_at_call 19; refine HRE.out.mono ?_; rintro e w1 ⟨rfl, h1⟩; obtain rfl := h1.symm; simp only [])
        | (go_at_call 23; refine HW.out.mono ?_; rintro e w5 ⟨rfl, hx0, ho, _⟩; have HX0 := Lib.hid hx0; have HO := Lib.hid (HB.out _ ho); clear hx0 ho; simp only []))
      rw [← HQ.out, HF.out]
      exact ⟨rfl, HX0.out, HO.out⟩
    · simp only at HW HF
      have HW2 : Hid (Calls Try.prog 23 #[.pointer (some ⟨w.heap.size, 0, none⟩), .int .i64 0, .bool false, .int .i64 0] (w.alloc (.cells #[.string s, .int .i64 0] 53)) fun e w' => ∃ va vn vc, e = .returned (.tuple #[.slice va vn vc, .int .i64 0]) ∧ Wd w' (fun k => w.heap.size ≤ k) (.slice va vn vc) l ∧ Below w.heap.size w w') := HW.out.mono (by
        rintro e w' ⟨ho, v, a', rfl, hwd, _⟩
        obtain ⟨va, vc, rfl⟩ := hwd.form
        exact ⟨va, _, vc, rfl, hwd.mono fun k h => by omega, HB.out _ ho⟩)
      go_enter Try.func17, Try.ntmps17
      go_wp2_with (first
        | (go_at_call 19; refine HRE.out.mono ?_; rintro e w1 ⟨rfl, h1⟩; obtain rfl := h1.symm; simp only [])
        | (go_at_call 23; refine HW2.out.mono ?_; rintro e w5 ⟨va, vn, vc, rfl, h1, h2⟩; have H1 := Lib.hid h1; have H2 := Lib.hid h2; clear h1 h2; simp only []))
      rw [← HQ.out, HF.out]
      exact ⟨_, rfl, H1.out, H2.out⟩
  · have HF : Hid (wordsF s.data.toList = .error (mayN s.data.toList)) := wordsF_bad hm
    obtain ⟨x, hx⟩ : ∃ x, mayN s.data.toList = x := ⟨_, rfl⟩
    rw [hx] at HRE HF hm
    have hxI : ((x : Int) == 0) = false := beq_eq_false_iff_ne.2 (by omega)
    have HM := Lib.hid hm
    clear hx hm
    go_enter Try.func17, Try.ntmps17
    go_wp2_with (go_at_call 19; refine HRE.out.mono ?_; rintro e w1 ⟨rfl, h1⟩; obtain rfl := h1.symm; simp only [])
    rw [← HQ.out, HF.out]
    exact ⟨rfl, HM.out, Below.refl _ _⟩
end Go.Proofs.Ytafbheplaheohaa
