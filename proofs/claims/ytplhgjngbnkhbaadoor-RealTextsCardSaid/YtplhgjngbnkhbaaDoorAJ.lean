import Derived.Test.YtplhgjngbnkhbaaDoorAI
import Derived.Test.YtplhgjngbnkhbaaDoorY
namespace Go.Proofs.YtplhgjngbnkhbaaDoor
open Go.RowKit
theorem texts_law (x : Int) (wx : (Lit.int .u64 x).wf = true) (w : World) (hT : Tabs w) : Calls Tryd.prog 4 #[.int .u64 x] w fun e w' => e = .returned (.bool true) ∧ Below w.heap.size w w' := by
  obtain ⟨a, rfl, ha⟩ := u64_nat wx
  exact texts_walk a ha w hT
end Go.Proofs.YtplhgjngbnkhbaaDoor
