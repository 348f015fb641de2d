import Derived.Test.YtleflcpdaapddaaRows
import Derived.WalkKit
import Derived.WalkSpells
import Derived.WalkLawsBesides
import Derived.RegionTactic
import Derived.ChangeAlike
import Derived.BigRegion
import Derived.BigQuiet
import Derived.Lib.Hide
import Derived.Lib.Strings
import Derived.Lib.Bytealg
import Derived.Deep.CutBlock
import Derived.Deep.DeepCutAuto
import Derived.Deep.LoopGhost
import Derived.Deep.QuietTactic
namespace Go.Proofs.Ytleflcpdaapddaa
open Go.RowKit

def qPat : ByteArray := ⟨#[37, 46, 111]⟩
def aText : ByteArray := ⟨#[97, 46, 111]⟩
def pc : ByteArray := ⟨#[37]⟩

set_option maxRecDepth 100000 in
set_option maxHeartbeats 1000000 in
theorem index_alive (w : World) : Calls Try.prog 21 #[.string qPat, .string pc] w fun e w' => e = .returned (.int .i64 0) ∧ w' = w := by
  unfold qPat pc
  go_enter Try.func21, Try.ntmps21
  go_wp2
  rw [run_callFunc_extern Try.func26 (by kernel_rfl) (by kernel_rfl) (by kernel_rfl) (e := Extern.BytealgIndexByte.indexByte) (by kernel_rfl), Lib.run_indexByteString]
  simp only [Result.andThen]
  rw [Oper.upon_value]
  go_wp2
  go_ret
  exact ⟨rfl, rfl⟩

set_option maxRecDepth 100000 in
set_option maxHeartbeats 1000000 in
theorem cut_alive (w : World) : Calls Try.prog 18 #[.string qPat, .string pc] w fun e w' => e = .returned (.tuple #[.string ⟨#[]⟩, .string ⟨#[46, 111]⟩, .bool true]) ∧ ∃ n, w' = w.drewN n := by
  go_enter Try.func18, Try.ntmps18
  go_wp2_with (go_at_call 21; refine (index_alive _).mono ?_; rintro e w' ⟨rfl, rfl⟩)
  unfold qPat pc
  go_quiet (fail)
  go_wp2_with fail
  go_ret3
  exact ⟨by rfl, _, rfl⟩

set_option maxRecDepth 100000 in
set_option maxHeartbeats 1000000 in
theorem cut2_alive (w : World) : Calls Try.prog 14 #[.string qPat, .string pc] w fun e w' => e = .returned (.tuple #[.string ⟨#[]⟩, .string ⟨#[46, 111]⟩, .bool true]) ∧ ∃ n, w' = w.drewN n := by
  go_enter Try.func14, Try.ntmps14
  go_wp2_with fail
  refine (cut_alive _).mono ?_
  rintro e w' ⟨rfl, n, rfl⟩
  go_wp2_with fail
  go_ret3
  exact ⟨by rfl, _, rfl⟩

set_option maxRecDepth 100000 in
set_option maxHeartbeats 1000000 in
theorem match_alive (w : World) : Calls Try.prog 12 #[.string qPat, .string aText] w fun e w' => e = .returned (.tuple #[.string ⟨#[97]⟩, .bool true]) ∧ ∃ n, w' = w.drewN n := by
  go_enter Try.func12, Try.ntmps12
  go_wp2_with fail
  refine (cut2_alive _).mono ?_
  rintro e w' ⟨rfl, n, rfl⟩
  unfold aText
  go_wp2
  · rename_i h
    exact absurd h (by rw [Lib.toList_data]; decide)
  · go_ret2
    exact ⟨by rfl, _, rfl⟩

set_option maxRecDepth 100000 in
set_option maxHeartbeats 1000000 in
theorem alive_any (w : World) : Calls Try.prog 5 #[] w fun e w' => e = .returned (.bool true) ∧ ∃ n, w' = w.drewN n := by
  go_enter Try.func5, Try.ntmps5
  go_wp2_with fail
  refine (match_alive _).mono ?_
  rintro e w' ⟨rfl, n, rfl⟩
  go_wp2_with fail
  go_ret
  exact ⟨by rfl, _, rfl⟩
end Go.Proofs.Ytleflcpdaapddaa
