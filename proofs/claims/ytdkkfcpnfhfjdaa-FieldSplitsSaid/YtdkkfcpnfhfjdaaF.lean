import Derived.Test.YtdkkfcpnfhfjdaaE
namespace Go.Proofs.Ytdkkfcpnfhfjdaa
open Go.RowKit
set_option linter.unusedVariables false

def p2s (L : List Pt) : List P2 := L.map Pt.p2
def p3s (FS : List (List Pt)) : List (List P2) := FS.map p2s
theorem shut_p3 (FS : List (List Pt)) (F : List Pt) : shut (p3s FS) (p2s F) = p3s (if F = [] then FS else FS ++ [F]) := by
  unfold shut p3s p2s
  cases F with
  | nil => simp
  | cons a F => simp
theorem sl_p2 {c : Nat} (s : ByteArray) (h : c ≤ s.size) : (s.extract 0 c).data.toList = s.data.toList.take c ∧ (s.extract c s.size).data.toList = s.data.toList.drop c := by
  constructor
  · simp [ByteArray.data_extract]
  · simp [ByteArray.data_extract]
    rw [List.take_of_length_le]
    simp
/-- What stands at the head of a part. -/
structure At (w0 w : World) (fsv fv : Value) (st : List (List P2) × List P2) (n : Nat) : Prop where
  ex : ∃ vals FS F, St w0 w fsv fv vals FS F ∧ (p3s FS, p2s F) = st ∧ FS.length ≤ n ∧ F.length ≤ n ∧ ∀ f ∈ FS, f.length ≤ n
theorem At.below {w0 w w' : World} {fsv fv : Value} {st : List (List P2) × List P2} {n : Nat} (h : At w0 w fsv fv st n) (hb : Below w.heap.size w w') : At w0 w' fsv fv st n := by
  obtain ⟨vals, FS, F, h1, h2⟩ := h.ex
  exact ⟨vals, FS, F, h1.below hb, h2⟩
theorem At.old {w0 w : World} {fsv fv : Value} {st : List (List P2) × List P2} {n : Nat} (h : At w0 w fsv fv st n) : Below w0.heap.size w0 w := by
  obtain ⟨vals, FS, F, h1, h2⟩ := h.ex
  exact h1.old
theorem At.mono {w0 w : World} {fsv fv : Value} {st : List (List P2) × List P2} {n m : Nat} (h : At w0 w fsv fv st n) (hm : n ≤ m) : At w0 w fsv fv st m := by
  obtain ⟨vals, FS, F, h1, h2, h3, h4, h5⟩ := h.ex
  exact ⟨vals, FS, F, h1, h2, by omega, by omega, fun f hf => Nat.le_trans (h5 f hf) hm⟩
/-- The inner loop's state: what is still to come of the text. -/
def Left (w0 w : World) (fsv fv : Value) (rest : ByteArray) (goal : List (List P2) × List P2) (n : Nat) : Prop :=
  ∃ st, At w0 w fsv fv st n ∧ tx st.1 st.2 rest.data.toList = goal
end Go.Proofs.Ytdkkfcpnfhfjdaa
