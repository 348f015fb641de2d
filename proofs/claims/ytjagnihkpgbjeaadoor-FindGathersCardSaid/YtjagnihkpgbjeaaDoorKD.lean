import Derived.Test.YtjagnihkpgbjeaaDoorKC
import Derived.Test.YtjagnihkpgbjeaaDoorVX
import Derived.Shelf.Vars
namespace Go.Proofs.YtjagnihkpgbjeaaDoor
open Go.RowKit Go.Maps Go.ChangeMaps
set_option linter.unusedVariables false
theorem someMaxG {W : World} (h : W.ShapedOpen Tryd.prog) : Hm W :=
  cell_of_shapedOpen_int (g := 0) (t := 3) (zero := #[.int .i64 0]) h (of_decide_eq_true (by kernel_rfl)) (by kernel_rfl) rfl (by kernel_rfl) (by kernel_rfl) Tryd.underlying3
theorem gathers_law (v0 v1 : Value) (n : Nat) (ls : Nat → List ByteArray) (l : List Bool) (W : World) (hm : Hm W) (hL : Lss W v0 n ls) (hT : Bls W v1 l) :
    Calls Tryd.prog 7 #[v0, v1] W fun e w' => e = .returned (.bool true) ∧ Below W.heap.size W w' := by
  obtain ⟨A, c, rfl, hx⟩ := hL.form
  obtain ⟨R, cr, rfl, hy⟩ := hT.form
  refine gathers_walk A R n c l.length cr ls (fun i => l.getD i false) W hm (fun i hi => ?_) (fun i hi => ?_)
  · obtain ⟨b, off, u, e1, e2, e3, e4, e5, _⟩ := hx i hi
    exact ⟨b, off, u, e1, e2, e3, e4, e5⟩
  · obtain ⟨b, off, e1, e2, e3⟩ := hy i hi
    exact ⟨b, off, e1, e2, by rw [e3, List.getD_eq_getElem?_getD, List.getElem?_eq_getElem hi]; rfl⟩
end Go.Proofs.YtjagnihkpgbjeaaDoor
