import Derived.Test.YtmokaagjpkeciaaDoorRows
import Derived.WalkKit
import Derived.Lib.Hide
import Derived.Laws.Bits64b
import Derived.Laws.BitsAllLaws
namespace Go.Proofs.YtmokaagjpkeciaaDoor
open Go.RowKit

def nx (s : Nat) : Nat := (s * 1664525 + 1013904223) % 4294967296
def val (s : Nat) (n : Int) : Int := if n < 1 then 0 else ((nx s : Nat) : Int) / 256 % n

theorem nx_lt (s : Nat) : nx s < 4294967296 := Nat.mod_lt _ (by decide)
theorem nx_int (s : Nat) : ((s : Int) * 1664525 + 1013904223) % 4294967296 = (nx s : Int) := by unfold nx; omega

theorem and32 (x : Int) : bits .and .i64 x 4294967295 = x % 4294967296 := by
  show IntKind.i64.wrap ((BitVec.ofInt 64 x &&& BitVec.ofInt 64 4294967295).toNat : Int) = _
  rw [BitVec.toNat_and, show (BitVec.ofInt 64 4294967295).toNat = 4294967295 by decide, nat_mask32, BitVec.toNat_ofInt]
  have h : ((((x % (2 ^ 64 : Nat)).toNat % 4294967296 : Nat)) : Int) = x % 4294967296 := by omega
  rw [h, IntKind.wrap_i64]
  omega

set_option maxRecDepth 100000 in
set_option maxHeartbeats 1000000 in
theorem Next_any (g : Nat) (s : Nat) (n : Int) (w : World) (_hs : s < 4294967296) (hn0 : -9223372036854775808 ≤ n) (hn1 : n ≤ 9223372036854775807)
    (hc : w.cell? ⟨g, 0, none⟩ = some (.int .u32 s)) (hf : w.frozen? ⟨g, 0, none⟩ = false) :
    Calls Tryd.prog 7 #[.pointer (some ⟨g, 0, none⟩), .int .i64 n] w fun e w' => e = .returned (.int .i64 (val s n)) ∧ w' = w.setCell ⟨g, 0, none⟩ (.int .u32 (nx s)) := by
  have HX := Lib.hid (nx_int s)
  obtain ⟨r, hr⟩ : ∃ r, val s n = r := ⟨_, rfl⟩
  rw [hr]
  by_cases hn : n < 1
  · have hv : r = 0 := by rw [← hr]; unfold val; rw [if_pos hn]
    subst hv
    clear hr
    go_enter Tryd.func7, Tryd.ntmps7
    go_wp2_with fail
    go_ret
    exact ⟨rfl, by rw [HX.out]⟩
  · have HV : Hid (r = ((nx s : Nat) : Int) / 256 % n) := by rw [Hid, ← hr]; unfold val; rw [if_neg hn]
    clear hr
    go_enter Tryd.func7, Tryd.ntmps7
    go_wp2_with fail
    go_ret
    exact ⟨by rw [HV.out, ← HX.out]; rfl, by rw [HX.out]⟩

set_option maxRecDepth 100000 in
set_option maxHeartbeats 1000000 in
theorem RefNext_any (g : Nat) (s : Nat) (n : Int) (w : World) (hs : s < 4294967296) (hn0 : -9223372036854775808 ≤ n) (hn1 : n ≤ 9223372036854775807)
    (hc : w.cell? ⟨g, 0, none⟩ = some (.int .i64 s)) (hf : w.frozen? ⟨g, 0, none⟩ = false) :
    Calls Tryd.prog 8 #[.pointer (some ⟨g, 0, none⟩), .int .i64 n] w fun e w' => e = .returned (.int .i64 (val s n)) ∧ w' = w.setCell ⟨g, 0, none⟩ (.int .i64 (nx s)) := by
  have HX := Lib.hid (nx_int s)
  obtain ⟨r, hr⟩ : ∃ r, val s n = r := ⟨_, rfl⟩
  rw [hr]
  have m3 : bits .and .i64 ((s : Int) * 1664525 + 1013904223) 4294967295 = (nx s : Int) := by
    rw [and32, nx_int]
  obtain ⟨q, hq⟩ : ∃ q, nx s = q := ⟨_, rfl⟩
  rw [hq] at m3
  rw [hq]
  have hqlt : q < 4294967296 := by rw [← hq]; exact nx_lt s
  by_cases hn : n < 1
  · have hv : r = 0 := by rw [← hr]; unfold val; rw [if_pos hn]
    subst hv
    clear hr hq
    go_enter Tryd.func8, Tryd.ntmps8
    go_wp2_with fail
    go_ret
    exact ⟨rfl, rfl⟩
  · have HV : Hid (r = ((q : Nat) : Int) / 256 % n) := by rw [Hid, ← hr]; unfold val; rw [if_neg hn, hq]
    clear hr hq
    go_enter Tryd.func8, Tryd.ntmps8
    go_wp2_with fail
    go_ret
    exact ⟨by rw [HV.out]; rfl, rfl⟩

set_option maxHeartbeats 1000000 in
theorem New_any (seed : Int) (w : World) :
    Calls Tryd.prog 5 #[.int .i64 seed] w fun e w' => e = .returned (.pointer (some ⟨w.heap.size, 0, none⟩)) ∧ w' = w.alloc (.cells #[.int .u32 (seed % 4294967296)] 33) := by
  go_enter Tryd.func5, Tryd.ntmps5
  go_wp2_with fail
  go_ret
  exact ⟨rfl, rfl⟩
set_option maxHeartbeats 1000000 in
theorem NewLot_any (seed : Int) (w : World) :
    Calls Tryd.prog 6 #[.int .i64 seed] w fun e w' => e = .returned (.pointer (some ⟨w.heap.size, 0, none⟩)) ∧ w' = w.alloc (.cells #[.int .i64 (seed % 4294967296)] 35) := by
  go_enter Tryd.func6, Tryd.ntmps6
  go_wp2_with fail
  go_ret
  exact ⟨rfl, by rw [and32]⟩
end Go.Proofs.YtmokaagjpkeciaaDoor
