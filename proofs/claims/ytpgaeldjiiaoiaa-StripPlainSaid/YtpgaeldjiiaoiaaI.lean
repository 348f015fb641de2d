import Derived.Test.YtpgaeldjiiaoiaaH
namespace Go.Proofs.Ytpgaeldjiiaoiaa
open Go.RowKit

def mxB (s : ByteArray) : List It → Nat → Nat → Bool
  | [], o, e => o == e
  | it :: its, o, e => if it.1 = 3 then (List.range (e + 1 - o)).any fun d => mxB s its (o + d) e else decide (o < e) && it.2.2 (gb s o) && mxB s its (o + 1) e

theorem mxB_iff (s : ByteArray) : ∀ (its : List It) (o e : Nat), mxB s its o e = true ↔ Mx s its o e
  | [], o, e => by simp [mxB, Mx]
  | it :: its, o, e => by
    rw [mxB, Mx]
    split
    · simp only [List.any_eq_true, List.mem_range]
      constructor
      · rintro ⟨d, h1, h2⟩
        have h3 := (mxB_iff s its (o + d) e).1 h2
        exact ⟨o + d, by omega, h3.le, h3⟩
      · rintro ⟨k, h1, h2, h3⟩
        exact ⟨k - o, by omega, by rw [show o + (k - o) = k from by omega]; exact (mxB_iff s its k e).2 h3⟩
    · simp only [Bool.and_eq_true, decide_eq_true_eq]
      rw [mxB_iff s its (o + 1) e, and_assoc]

def matchB (p s : ByteArray) : Bool := mxB s (pcs p (p.size + 1) 0 true) 0 s.size
theorem matchB_iff (p s : ByteArray) : matchB p s = true ↔ Matches p s := mxB_iff _ _ _ _

theorem Match_b (p s : ByteArray) (w : World) (hp : p.size ≤ 100000) (hs : s.size ≤ 100000) :
    Calls Try.prog 13 #[.string p, .string s] w fun e w' => e = .returned (.bool (matchB p s)) ∧ Below w.heap.size w w' :=
  Match_any p s w hp hs _ (matchB_iff p s)
theorem data_app (a b : ByteArray) : (a ++ b).data.toList = a.data.toList ++ b.data.toList := by simp
end Go.Proofs.Ytpgaeldjiiaoiaa
