import Derived.Test.YtcjfpkfbdcmlbaaDoorK
import Derived.Shelf.Vars
namespace Go.Proofs.YtcjfpkfbdcmlbaaDoor
open Go.RowKit
theorem someMax {W : World} (h : W.ShapedOpen Tryd.prog) : ∃ m, W.cell? ⟨0, 0, none⟩ = some (.int .i64 m) :=
  cell_of_shapedOpen_int (g := 0) (t := 3) (zero := #[.int .i64 0]) h (of_decide_eq_true (by kernel_rfl)) (by kernel_rfl) rfl (by kernel_rfl) (by kernel_rfl) Tryd.underlying3
end Go.Proofs.YtcjfpkfbdcmlbaaDoor
