import Derived.Test.YtplhgjngbnkhbaaDoorV
import Derived.Test.YtplhgjngbnkhbaaDoorX
namespace Go.Proofs.YtplhgjngbnkhbaaDoor
open Go.RowKit
theorem signs_walk (x y : Int) (wx : (Lit.int .u64 x).wf = true) (wy : (Lit.int .u64 y).wf = true) (w : World) (hT : Tabs w) : Calls Tryd.prog 11 #[.int .u64 x, .int .u64 y] w fun e w' => e = .returned (.bool true) ∧ Below w.heap.size w w' := by
  obtain ⟨a, rfl, ha⟩ := u64_nat wx
  obtain ⟨b, rfl, hb⟩ := u64_nat wy
  exact signs_nat a b ha hb w hT
end Go.Proofs.YtplhgjngbnkhbaaDoor
