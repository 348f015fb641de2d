import Derived.Test.YtjagnihkpgbjeaaDoorE
namespace Go.Proofs.YtjagnihkpgbjeaaDoor
open Go.RowKit

/-- Where a byte is first. -/
def at_ (s : ByteArray) (c : UInt8) : Nat → Nat → Int
  | 0, _ => -1
  | n + 1, k => if k < s.size then (if gb s k = c then (k : Int) else at_ s c n (k + 1)) else -1

end Go.Proofs.YtjagnihkpgbjeaaDoor
