import Derived.Test.YtcmjpkfinbakkaaGreatDoorRows
import Derived.WalkKit
import Derived.ProofKit
namespace Go.Proofs.YtcmjpkfinbakkaaGreatDoor
open Go.ChangeShapes Go.WideShapes Go.ChangeAt Go.RowKit

section
variable {H : Type} {enc : TypeId × Value → H} {P : Program}
/-- A call that leaves all old blocks as they were leaves what the row asks for: results, arguments and variables read as they should. -/
theorem lawPost {f : Func} {s : ChangeSpec} {apart fresh handsOn again : Bool} {W W' : World} {args : Array Value} {v : Value} {ds gs : List (DataW H)} {old pa pv : List MemPlace}
    (hW : DataW.Whole enc P f.params.toList s.vars apart W args.toList ds gs old)
    (results : ∀ (b : Nat) (sp : Nat → Bool) (hd : Bool), DataW.TrodAll enc P W' b sp hd f.resultTypes.toList (v.resultList f.resultTypes.size) (s.fn H (ds ++ gs)).results [])
    (arguments : ∀ sp : Nat → Bool, (∀ p ∈ old, sp p.block = true) → DataW.TrodAll enc P W' 0 sp true f.params.toList args.toList (s.fn H (ds ++ gs)).args pa)
    (variables : ∀ sp : Nat → Bool, (∀ p ∈ old, sp p.block = true) → DataW.TrodVars enc P W' sp s.vars (s.fn H (ds ++ gs)).vars pv)
    (places : old = pa ++ pv) (below : Below W.heap.size W W')
    (wide : ∀ (j : Nat) (t : TypeId) (r : Value), f.resultTypes[j]? = some t → (v.resultList f.resultTypes.size)[j]? = some r → Value.okWide P W' .any 0 t r) :
    s.post enc P f apart fresh handsOn again W args v W' := by
  have small : ∀ p ∈ old, p.block < W.heap.size := fun p hp => hW.lt p hp
  have seen : ∀ p ∈ old, (fun b => decide (b < W.heap.size)) p.block = true := fun p hp => decide_eq_true (small p hp)
  subst places
  refine ⟨ds, gs, pa ++ pv, [], pa, pv, hW, results _ _ _, arguments _ seen, variables _ seen, World.keptBut_mono (fun p hp => ⟨hp, ?_⟩) (below.frame (· ∈ pa ++ pv)), fun _ => ?_⟩
  · exact Or.inr (List.mem_append.1 hp)
  · obtain ⟨_, _, _, _, _, unfrozen, once⟩ := hW
    refine ⟨wide, _, _, ([] ++ pa) ++ pv, ⟨[] ++ pa, pv, trodAll_append (arguments _ (fun _ _ => rfl)) (results _ _ _), variables _ (fun _ _ => rfl), rfl, ?_, ?_⟩, ?_⟩
    · intro b off hp
      have hin : MemPlace.cell b off ∈ pa ++ pv := by simpa using hp
      rw [below.frozen (small _ hin)]
      exact unfrozen b off hin
    · intro ha
      simpa using once ha
    · intro p hp _
      simpa using hp
end
end Go.Proofs.YtcmjpkfinbakkaaGreatDoor
