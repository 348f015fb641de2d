import Derived.Test.YtafbheplaheohaaX
namespace Go.Proofs.Ytafbheplaheohaa
open Go.RowKit
set_option linter.unusedVariables false

/-- Reading, of any length. -/
theorem RP_all (n : Nat) : RP n := by
  induction n using Nat.strongRecOn with
  | _ n ih =>
    intro w B rb pb a lv p S e q d hn he hd hp hz hB hr hrb ha hs
    exact read_step e q d he hd hp hz hB hr hrb ha hs (fun m hm => ih m (by omega))
/-- A word, up to an end. -/
theorem word_any {w : World} {rb a : Nat} {S : ByteArray} (q : Bool) (d e : Nat) (he : e ≤ 3) (hd : d ≤ 50000) (hr : Rd w rb S a) (ha : a ≤ S.size) (hs : S.size ≤ 20000) :
    Calls Try.prog 23 #[.pointer (some ⟨rb, 0, none⟩), .int .i64 e, .bool q, .int .i64 d] w (WordP w rb S (allR (readC e q d ps0 (S.data.toList.drop a)))) :=
  word_of (RP_all _) q d e he (by omega) hr ha hs
end Go.Proofs.Ytafbheplaheohaa
