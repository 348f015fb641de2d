import Derived.Test.YtjagnihkpgbjeaaDoorVN
namespace Go.Proofs.YtjagnihkpgbjeaaDoor
open Go.RowKit Go.Maps Go.ChangeMaps
set_option linter.unusedVariables false
section
variable {f : Nat} {p : ByteArray} {w : World} {B N : Nat} {tl : List Value} {T : Tr} {A : Pth → Nat} {M : Pth → Option Nat} {V : Pth → Value} {r0 : Nd}
theorem present_err (hT : TreeAt w B N f 71 tl T A M V) (h0 : T [] = some r0) (hr0 : r0.file = false) (hp : PathOk p) (hE : presE T p ≠ 0) :
    Calls Tryd.prog 42 #[.pointer (some ⟨f, 0, none⟩), .string p] w fun e w' => (∃ a b c d l, e = .returned (.tuple #[.agg #[.pointer a, .string b, .pointer none, .slice c l d], .int .i64 (presE T p)])) ∧ Below w.heap.size w w' := by
  by_cases h : findE T p = 0
  · cases hx : T (findL p) with
    | some n => exact absurd (by rw [presE, if_neg (fun e => e h), hx]; rfl) hE
    | none =>
      have : presE T p = 6 := by rw [presE, if_neg (fun e => e h), hx]; rfl
      rw [this]
      exact present_none hT h0 hr0 hp h hx
  · have : presE T p = findE T p := by rw [presE, if_pos h]
    rw [this]
    refine (present_bad1 hT h0 hr0 hp h).mono ?_
    rintro e w' ⟨rfl, h2⟩
    exact ⟨⟨none, ⟨#[]⟩, none, 0, 0, rfl⟩, h2⟩
theorem present_ok {n : Nd} (hT : TreeAt w B N f 71 tl T A M V) (h0 : T [] = some r0) (hr0 : r0.file = false) (hp : PathOk p) (hE : findE T p = 0) (hn : T (findL p) = some n) :
    Calls Tryd.prog 42 #[.pointer (some ⟨f, 0, none⟩), .string p] w fun e w' => (∃ a b c d l, e = .returned (.tuple #[.agg #[.pointer a, .string b, .pointer (some ⟨A (findL p), 0, none⟩), .slice c l d], .int .i64 0])) ∧ Below w.heap.size w w' := by
  rcases List.eq_nil_or_concat (findL p) with hL | ⟨d, k, hL⟩
  · refine (present_root hT h0 hr0 hp hE hL).mono ?_
    rintro e w' ⟨rfl, h2⟩
    rw [hL, hT.a0]
    exact ⟨⟨none, ⟨#[]⟩, none, 0, 0, rfl⟩, h2⟩
  · have hL : findL p = d ++ [k] := by rw [hL]; simp
    rw [hL] at hn
    refine (present_good hT h0 hr0 hp hE hL hn).mono ?_
    rintro e w' ⟨⟨g, c, l, rfl⟩, h2⟩
    rw [hL]
    exact ⟨⟨_, _, _, _, _, rfl⟩, h2⟩
end
end Go.Proofs.YtjagnihkpgbjeaaDoor
