import Derived.Test.YtjagnihkpgbjeaaDoorJK
import Derived.Test.YtjagnihkpgbjeaaDoorVX
import Derived.Shelf.Vars
namespace Go.Proofs.YtjagnihkpgbjeaaDoor
open Go.RowKit Go.Maps Go.ChangeMaps
set_option linter.unusedVariables false
theorem someMax {W : World} (h : W.ShapedOpen Tryd.prog) : Hm W :=
  cell_of_shapedOpen_int (g := 0) (t := 3) (zero := #[.int .i64 0]) h (of_decide_eq_true (by kernel_rfl)) (by kernel_rfl) rfl (by kernel_rfl) (by kernel_rfl) Tryd.underlying3
theorem chains_law (a0 : ByteArray) (v : Value) (l : List Bool) (kn : Bool) (W : World) (hm : Hm W) (hT : Bls W v l) (ha0 : a0.size ≤ maxLen) :
    Calls Tryd.prog 5 #[.string a0, v, .bool kn] W fun e w' => e = .returned (.bool true) ∧ Below W.heap.size W w' := by
  obtain ⟨a, c, rfl, hx⟩ := hT.form
  refine chains_walk a0 a l.length c (fun k => l.getD k false) kn W hm (fun k hk => ?_) ha0
  obtain ⟨b, off, rfl, hb, hc⟩ := hx k hk
  refine ⟨_, rfl, ?_⟩
  rw [addk, hc, List.getD_eq_getElem?_getD, List.getElem?_eq_getElem hk]; rfl
end Go.Proofs.YtjagnihkpgbjeaaDoor
