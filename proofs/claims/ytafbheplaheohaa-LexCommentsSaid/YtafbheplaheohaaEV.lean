import Derived.Test.YtafbheplaheohaaEU
import Derived.Test.YtafbheplaheohaaML
import Derived.Test.YtafbheplaheohaaCD
namespace Go.Proofs.Ytafbheplaheohaa
open Go.RowKit
set_option linter.unusedVariables false

def toksL (r : Res (List Tok)) : List Tok := match r with | .ok l => l | .error _ => []
def toksX (r : Res (List Tok)) : Nat := match r with | .ok _ => 0 | .error x => x
/-- What either reader answers, in one form. -/
theorem TokP.un {w w' : World} {r : Res (List Tok)} {e : Ending} (h : TokP w r e w') : ∃ a c L, e = .returned (.tuple #[.slice a (toksL r).length c, .int .i64 (toksX r)]) ∧ TRow w' w.heap.size (.slice a (toksL r).length c) (toksL r) L ∧ Below w.heap.size w w' ∧ (toksL r).length ≤ 20000 ∧ (toksX r = 0 ↔ ∃ l, r = .ok l) := by
  cases r with
  | error x =>
    obtain ⟨rfl, h1, h2⟩ := h
    exact ⟨none, 0, [], rfl, TRow.nil _ _, h2, by simp [toksL], ⟨fun e => absurd e h1, fun ⟨l, e⟩ => by cases e⟩⟩
  | ok l =>
    obtain ⟨a, c, L, rfl, h1, h2, h3⟩ := h
    exact ⟨a, c, L, rfl, h1, h2, h3, ⟨fun _ => ⟨l, rfl⟩, fun _ => rfl⟩⟩
theorem tokW_wsz (t : Tok) : wsz (tokW t) = wszT t := by cases t <;> rfl
theorem toks_small (s : Bz) (hs : s.length ≤ 20000) : ∀ i (h : i < (toksL (tokensF s)).length), wsz (tokW (toksL (tokensF s))[i]) ≤ 100000 := by
  intro i h
  have hm := List.getElem_mem h
  generalize (toksL (tokensF s))[i] = t at hm
  rw [tokW_wsz]
  cases hr : tokensF s with
  | error x => rw [hr] at hm; simp [toksL] at hm
  | ok l =>
    rw [hr] at hm
    have := tokens_wz hr t hm
    omega
def SayT (w : World) (e : Ending) (w' : World) : Prop := e = .returned (.bool true) ∧ Below w.heap.size w w'
set_option maxRecDepth 100000 in
set_option maxHeartbeats 8000000 in
theorem tokens_walk (s : ByteArray) (w : World) (hs : s.size ≤ maxLen) : Calls Try.prog 3 #[.string s] w (SayT w) := by
  obtain ⟨Q, hQ⟩ : ∃ Q, SayT w = Q := ⟨_, rfl⟩
  rw [hQ]
  have HQ := Lib.hid hQ
  have HA := Lib.hid (alive_any w)
  unfold maxLen at hs
  clear hQ
  by_cases h1 : 1000 < s.size ∧ s.size ≤ 16384
  · have h1I : (1000 : Int) < (s.size : Int) := by omega
    have h1d : decide ((1000 : Int) < (s.size : Int)) = true := decide_eq_true h1I
    have h2I : (s.size : Int) ≤ 16384 := by omega
    have h2d : decide ((s.size : Int) ≤ 16384) = true := decide_eq_true h2I
    clear h1
    go_enter Try.func3, Try.ntmps3
    go_wp2_with (go_at_call 12; refine HA.out.mono ?_; rintro e w1 ⟨rfl, h1⟩; have H1 := Lib.hid h1; clear h1; simp only [])
    rw [← HQ.out]; exact ⟨rfl, H1.out⟩
  by_cases h3 : 16393 < s.size
  · have h1I : (1000 : Int) < (s.size : Int) := by omega
    have h1d : decide ((1000 : Int) < (s.size : Int)) = true := decide_eq_true h1I
    have h2I : ¬ (s.size : Int) ≤ 16384 := by omega
    have h2d : decide ((s.size : Int) ≤ 16384) = false := decide_eq_false h2I
    have h3I : (16393 : Int) < (s.size : Int) := by omega
    have h3d : decide ((16393 : Int) < (s.size : Int)) = true := decide_eq_true h3I
    clear h1
    go_enter Try.func3, Try.ntmps3
    go_wp2_with (go_at_call 12; refine HA.out.mono ?_; rintro e w1 ⟨rfl, h1⟩; have H1 := Lib.hid h1; clear h1; simp only [])
    rw [← HQ.out]; exact ⟨rfl, H1.out⟩
  have h3I : ¬ (16393 : Int) < (s.size : Int) := by omega
  have h3d : decide ((16393 : Int) < (s.size : Int)) = false := decide_eq_false h3I
  have hsm := toks_small s.data.toList (by rw [dl]; omega)
  have HT := Lib.hid (fun w' => Tokens_any s w' (by omega))
  have HR := Lib.hid (fun w' => RTokens_any s w' (by omega))
  obtain ⟨r, hr⟩ : ∃ r, tokensF s.data.toList = r := ⟨_, rfl⟩
  rw [hr] at HT HR hsm
  have HSM := Lib.hid hsm
  obtain ⟨N, hN⟩ : ∃ N, (toksL r).length = N := ⟨_, rfl⟩
  obtain ⟨x, hx⟩ : ∃ x, toksX r = x := ⟨_, rfl⟩
  have HT2 : Hid (∀ w', Calls Try.prog 13 #[.string s] w' fun e w'' => ∃ a c, e = .returned (.tuple #[.slice a N c, .int .i64 x]) ∧ Tl w'' (.slice a N c) (toksL r) ∧ Below w'.heap.size w' w'' ∧ N ≤ 20000) := fun w' => (HT.out w').mono (by
    intro e w'' h
    obtain ⟨a, c, L, h1, h2, h3, h4, _⟩ := h.un
    rw [hN, hx] at h1
    rw [hN] at h2 h4
    exact ⟨a, c, h1, h2.tl, h3, h4⟩)
  have HR2 : Hid (∀ w', Calls Try.prog 14 #[.string s] w' fun e w'' => ∃ a c, e = .returned (.tuple #[.slice a N c, .int .i64 x]) ∧ Tl w'' (.slice a N c) (toksL r) ∧ Below w'.heap.size w' w'') := fun w' => (HR.out w').mono (by
    intro e w'' h
    obtain ⟨a, c, L, h1, h2, h3, _⟩ := h.un
    rw [hN, hx] at h1
    rw [hN] at h2
    exact ⟨a, c, h1, h2.tl, h3⟩)
  have HSA : Hid (∀ w' a1 c1 a2 c2, N ≤ 20000 → Tl w' (.slice a1 N c1) (toksL r) → Tl w' (.slice a2 N c2) (toksL r) → Calls Try.prog 16 #[.slice a1 N c1, .slice a2 N c2] w' fun e w'' => e = .returned (.bool true) ∧ Below w'.heap.size w' w'') := fun w' a1 c1 a2 c2 h1 h2 h3 => SameTokens_any _ _ (toksL r) w' (by omega) HSM.out h2 h3
  have hxx : ((x : Int) == (x : Int)) = true := beq_self_eq_true _
  clear HT HR hsm hr hN hx
  by_cases h4 : 1000 < s.size
  · have h1I : (1000 : Int) < (s.size : Int) := by omega
    have h1d : decide ((1000 : Int) < (s.size : Int)) = true := decide_eq_true h1I
    have h2I : ¬ (s.size : Int) ≤ 16384 := by omega
    have h2d : decide ((s.size : Int) ≤ 16384) = false := decide_eq_false h2I
    clear h1
    go_enter Try.func3, Try.ntmps3
    go_wp2_with (first
      | (go_at_call 12; refine HA.out.mono ?_; rintro e w1 ⟨rfl, h1⟩; have H1 := Lib.hid h1; clear h1; simp only [])
      | (go_at_call 13; refine (HT2.out _).mono ?_; rintro e w5 ⟨a1, c1, rfl, h1, h2, h3⟩; have HT5 := Lib.hid h1; have H5 := Lib.hid h2; have HN5 := Lib.hid h3; clear h1 h2 h3; simp only [])
      | (go_at_call 14; refine (HR2.out _).mono ?_; rintro e w6 ⟨a2, c2, rfl, h1, h2⟩; have HR6 := Lib.hid h1; have H6 := Lib.hid h2; clear h1 h2; simp only [])
      | (go_at_call 15; refine (num_any _ _).mono ?_; rintro e w7 ⟨rfl, h7⟩; obtain rfl := h7.symm; simp only [])
      | (go_at_call 16; (with_reducible refine (HSA.out _ _ _ _ _ HN5.out (HT5.out.under H6.out) HR6.out).mono ?_); rintro e w8 ⟨rfl, h8⟩; have H8 := Lib.hid h8; clear h8; simp only []))
    rw [← HQ.out]; exact ⟨rfl, H1.out.trans ((H5.out.trans ((H6.out.trans (H8.out.mono H6.out.size)).mono H5.out.size)).mono H1.out.size)⟩
  · have h1I : ¬ (1000 : Int) < (s.size : Int) := by omega
    have h1d : decide ((1000 : Int) < (s.size : Int)) = false := decide_eq_false h1I
    clear h1
    go_enter Try.func3, Try.ntmps3
    go_wp2_with (first
      | (go_at_call 12; refine HA.out.mono ?_; rintro e w1 ⟨rfl, h1⟩; have H1 := Lib.hid h1; clear h1; simp only [])
      | (go_at_call 13; refine (HT2.out _).mono ?_; rintro e w5 ⟨a1, c1, rfl, h1, h2, h3⟩; have HT5 := Lib.hid h1; have H5 := Lib.hid h2; have HN5 := Lib.hid h3; clear h1 h2 h3; simp only [])
      | (go_at_call 14; refine (HR2.out _).mono ?_; rintro e w6 ⟨a2, c2, rfl, h1, h2⟩; have HR6 := Lib.hid h1; have H6 := Lib.hid h2; clear h1 h2; simp only [])
      | (go_at_call 15; refine (num_any _ _).mono ?_; rintro e w7 ⟨rfl, h7⟩; obtain rfl := h7.symm; simp only [])
      | (go_at_call 16; (with_reducible refine (HSA.out _ _ _ _ _ HN5.out (HT5.out.under H6.out) HR6.out).mono ?_); rintro e w8 ⟨rfl, h8⟩; have H8 := Lib.hid h8; clear h8; simp only []))
    rw [← HQ.out]; exact ⟨rfl, H1.out.trans ((H5.out.trans ((H6.out.trans (H8.out.mono H6.out.size)).mono H5.out.size)).mono H1.out.size)⟩
end Go.Proofs.Ytafbheplaheohaa
