import Derived.Test.YtcmjpkfinbakkaaGreatDoorRZ
import Derived.Lib.SmallJoins
import Derived.Test.YtcmjpkfinbakkaaGreatDoorTA
import Derived.Test.YtcmjpkfinbakkaaGreatDoorWRA
import Derived.Lib.SlBytesConst
import Derived.Test.YtcmjpkfinbakkaaGreatDoorRows
import Derived.Deep.Slices
namespace Go.Proofs.YtcmjpkfinbakkaaGreatDoor.Vf
open Go.RowKit Go.ChangeShapes Go.WideShapes
set_option linter.unusedVariables false
set_option maxRecDepth 100000

def nTest : ByteArray := ⟨#[116, 101, 115, 116]⟩
def nBr : ByteArray := ⟨#[91]⟩
set_option maxHeartbeats 8000000 in
theorem run_test (f : Value) (cwd : ByteArray) (v inn : Value) (st : Int) (bs ms : Bz) (w : World) (hf : ∃ k, f = .pointer k) (hv : ∃ a n c, v = .slice a n c) (hi : ∃ a n c, inn = .slice a n c)
    (HE : ∀ (t : Nat) (w1 : World), Below w.heap.size w w1 → w.heap.size + 1 ≤ w1.heap.size → Tool w1 (w.heap.size + 1) t f cwd nTest inn 0 (.slice none 0 0) [] (.slice none 0 0) [] → Calls Tryz.prog 62 #[.pointer (some ⟨t, 0, none⟩), v] w1 (fun e w' => e = .returned (.tuple #[]) ∧ (∃ o l, Tool w' (w.heap.size + 1) t f cwd nTest inn st o bs l ms) ∧ Below (w.heap.size + 1) w1 w')) :
    Calls Tryz.prog 23 #[f, .string cwd, .string nTest, v, inn] w (RunU st bs ms w) := by
  obtain ⟨fk, rfl⟩ := hf
  obtain ⟨va, vn, vc, rfl⟩ := hv
  obtain ⟨ia, i_n, ic, rfl⟩ := hi
  obtain ⟨Q', hQ⟩ : ∃ Q', RunU st bs ms w = Q' := ⟨_, rfl⟩
  rw [hQ]
  have HQ := Lib.hid hQ
  obtain ⟨W0, hW0⟩ : ∃ W0, w.alloc (.cells #[.int .i64 0, .slice none 0 0, .slice none 0 0] 43) = W0 := ⟨_, rfl⟩
  obtain ⟨W1, hW1⟩ : ∃ W1, W0.alloc (.cells #[.pointer fk, .string cwd, .string nTest, .slice ia i_n ic, .int .i64 0, .slice none 0 0, .slice none 0 0] 98) = W1 := ⟨_, rfl⟩
  have hs0 : W0.heap.size = w.heap.size + 1 := by rw [← hW0]; simp
  have hb0 : Below w.heap.size w W0 := by rw [← hW0]; exact (Below.refl _ _).alloc (Nat.le_refl _) _
  have hb1 : Below w.heap.size w W1 := by rw [← hW1]; exact hb0.alloc (by omega) _
  have hk0 : W0.heap[w.heap.size]? = some (.cells [.int .i64 0, .slice none 0 0, .slice none 0 0].toArray 43 (0, 0)) := by rw [← hW0]; exact heap_alloc_new _ _
  have hk1 : W1.heap[w.heap.size]? = some (.cells [.int .i64 0, .slice none 0 0, .slice none 0 0].toArray 43 (0, 0)) := by
    rw [← hW1, (MapKept.heap_alloc _ _).2 _ (by omega)]; exact hk0
  have ht1 : W1.heap[w.heap.size + 1]? = some (.cells (tlC (.pointer fk) cwd nTest (.slice ia i_n ic) 0 (.slice none 0 0) (.slice none 0 0)).toArray 98 (0, 0)) := by
    rw [← hW1, ← hs0]; exact heap_alloc_new _ _
  have HW1 := Lib.hid hW1
  have HW0 := Lib.hid hW0
  have hsz1 : w.heap.size + 1 < W1.heap.size := blk_lt ht1
  have HC := Lib.hid (HE (w.heap.size + 1) W1 hb1 (by omega) ⟨ht1, by omega, World.ownsRow_nil _ _ _ _, World.ownsRow_nil _ _ _ _, (fun e => by cases e), (fun e => by cases e), (fun k e => by cases e)⟩)
  have HK1 := Lib.hid hk1
  have HB1 := Lib.hid hb1
  clear hQ HE hW0 hW1 hs0 hb0 hb1 hk0 hk1 ht1
  unfold nTest at HC HW1 ⊢
  go_enter Tryz.func23, Tryz.ntmps23
  go_wp2_with (go_at_call 62; rw [HW0.out, HW1.out]; refine HC.out.mono ?_; rintro e w2 ⟨rfl, ⟨o', l', h2⟩, hb2⟩; obtain ⟨oa, oc, rfl, _⟩ := own_slice h2.out; obtain ⟨la, lc, rfl, _⟩ := own_slice h2.log; have hk2 := (hb2.block w.heap.size (by omega)).trans HK1.out; have c0 : w2.cell? ⟨w.heap.size, 0, none⟩ = some (.int .i64 0) := cell_of hk2 0; have c1 : w2.cell? ⟨w.heap.size, 1, none⟩ = some (.slice none 0 0) := cell_of hk2 1; have c2 : w2.cell? ⟨w.heap.size, 2, none⟩ = some (.slice none 0 0) := cell_of hk2 2; have f0 := free_of hk2 0; have f1 := free_of hk2 1; have f2 := free_of hk2 2; have c4 : w2.cell? ⟨w.heap.size + 1, 4, none⟩ = some (.int .i64 st) := cell_of h2.blk 4; have c5 : w2.cell? ⟨w.heap.size + 1, 5, none⟩ = some (.slice oa bs.length oc) := cell_of h2.blk 5; have c6 : w2.cell? ⟨w.heap.size + 1, 6, none⟩ = some (.slice la ms.length lc) := cell_of h2.blk 6; have H2 := Lib.hid h2; have H3 := Lib.hid hb2; have HK2 := Lib.hid hk2; clear h2 hb2 hk2; simp only [])
  have hs := set_of (set_of (set_of HK2.out 0 (.int .i64 st)) 1 (.slice oa bs.length oc)) 2 (.slice la ms.length lc)
  have hb3 : Below w.heap.size w (((w2.setCell ⟨w.heap.size, 0, none⟩ (.int .i64 st)).setCell ⟨w.heap.size, 1, none⟩ (.slice oa bs.length oc)).setCell ⟨w.heap.size, 2, none⟩ (.slice la ms.length lc)) := by
    have hb2 : Below w.heap.size w w2 := HB1.out.trans (H3.out.mono (by omega))
    exact ((hb2.setCell (Nat.le_refl _) _).setCell (Nat.le_refl _) _).setCell (Nat.le_refl _) _
  have hw3 : ∀ g, g ≠ w.heap.size → (((w2.setCell ⟨w.heap.size, 0, none⟩ (.int .i64 st)).setCell ⟨w.heap.size, 1, none⟩ (.slice oa bs.length oc)).setCell ⟨w.heap.size, 2, none⟩ (.slice la ms.length lc)).heap[g]? = w2.heap[g]? := fun g hne => by
    rw [Below.heap_setCell _ _ _ _ hne, Below.heap_setCell _ _ _ _ hne, Below.heap_setCell _ _ _ _ hne]
  have hrow := Go.Joins.ownsRow_le (row_43 H2.out.out HK2.out hw3) (base' := w.heap.size) (by omega)
  have hrow2 := Go.Joins.ownsRow_le (row_43 H2.out.log HK2.out hw3) (base' := w.heap.size) (by omega)
  generalize (((w2.setCell ⟨w.heap.size, 0, none⟩ (.int .i64 st)).setCell ⟨w.heap.size, 1, none⟩ (.slice oa bs.length oc)).setCell ⟨w.heap.size, 2, none⟩ (.slice la ms.length lc)) = w3 at *
  have d0 : w3.cell? ⟨w.heap.size, 0, none⟩ = some (.int .i64 st) := cell_of hs 0
  have d1 : w3.cell? ⟨w.heap.size, 1, none⟩ = some (.slice oa bs.length oc) := cell_of hs 1
  have d2 : w3.cell? ⟨w.heap.size, 2, none⟩ = some (.slice la ms.length lc) := cell_of hs 2
  refine bodyPost_ret (v := .agg #[.int .i64 st, .slice oa bs.length oc, .slice la ms.length lc]) ?_ rfl ?_
  · simp [results, Tryz.results23, go_sem, d0, d1, d2]
  · rw [← HQ.out]
    exact ⟨_, _, rfl, hrow, hrow2, hb3⟩
set_option maxHeartbeats 8000000 in
theorem run_br (f : Value) (cwd : ByteArray) (v inn : Value) (st : Int) (bs ms : Bz) (w : World) (hf : ∃ k, f = .pointer k) (hv : ∃ a n c, v = .slice a n c) (hi : ∃ a n c, inn = .slice a n c)
    (HE : ∀ (t : Nat) (w1 : World), Below w.heap.size w w1 → w.heap.size + 1 ≤ w1.heap.size → Tool w1 (w.heap.size + 1) t f cwd nBr inn 0 (.slice none 0 0) [] (.slice none 0 0) [] → Calls Tryz.prog 63 #[.pointer (some ⟨t, 0, none⟩), v] w1 (fun e w' => e = .returned (.tuple #[]) ∧ (∃ o l, Tool w' (w.heap.size + 1) t f cwd nBr inn st o bs l ms) ∧ Below (w.heap.size + 1) w1 w')) :
    Calls Tryz.prog 23 #[f, .string cwd, .string nBr, v, inn] w (RunU st bs ms w) := by
  obtain ⟨fk, rfl⟩ := hf
  obtain ⟨va, vn, vc, rfl⟩ := hv
  obtain ⟨ia, i_n, ic, rfl⟩ := hi
  obtain ⟨Q', hQ⟩ : ∃ Q', RunU st bs ms w = Q' := ⟨_, rfl⟩
  rw [hQ]
  have HQ := Lib.hid hQ
  obtain ⟨W0, hW0⟩ : ∃ W0, w.alloc (.cells #[.int .i64 0, .slice none 0 0, .slice none 0 0] 43) = W0 := ⟨_, rfl⟩
  obtain ⟨W1, hW1⟩ : ∃ W1, W0.alloc (.cells #[.pointer fk, .string cwd, .string nBr, .slice ia i_n ic, .int .i64 0, .slice none 0 0, .slice none 0 0] 98) = W1 := ⟨_, rfl⟩
  have hs0 : W0.heap.size = w.heap.size + 1 := by rw [← hW0]; simp
  have hb0 : Below w.heap.size w W0 := by rw [← hW0]; exact (Below.refl _ _).alloc (Nat.le_refl _) _
  have hb1 : Below w.heap.size w W1 := by rw [← hW1]; exact hb0.alloc (by omega) _
  have hk0 : W0.heap[w.heap.size]? = some (.cells [.int .i64 0, .slice none 0 0, .slice none 0 0].toArray 43 (0, 0)) := by rw [← hW0]; exact heap_alloc_new _ _
  have hk1 : W1.heap[w.heap.size]? = some (.cells [.int .i64 0, .slice none 0 0, .slice none 0 0].toArray 43 (0, 0)) := by
    rw [← hW1, (MapKept.heap_alloc _ _).2 _ (by omega)]; exact hk0
  have ht1 : W1.heap[w.heap.size + 1]? = some (.cells (tlC (.pointer fk) cwd nBr (.slice ia i_n ic) 0 (.slice none 0 0) (.slice none 0 0)).toArray 98 (0, 0)) := by
    rw [← hW1, ← hs0]; exact heap_alloc_new _ _
  have HW1 := Lib.hid hW1
  have HW0 := Lib.hid hW0
  have hsz1 : w.heap.size + 1 < W1.heap.size := blk_lt ht1
  have HC := Lib.hid (HE (w.heap.size + 1) W1 hb1 (by omega) ⟨ht1, by omega, World.ownsRow_nil _ _ _ _, World.ownsRow_nil _ _ _ _, (fun e => by cases e), (fun e => by cases e), (fun k e => by cases e)⟩)
  have HK1 := Lib.hid hk1
  have HB1 := Lib.hid hb1
  clear hQ HE hW0 hW1 hs0 hb0 hb1 hk0 hk1 ht1
  unfold nBr at HC HW1 ⊢
  go_enter Tryz.func23, Tryz.ntmps23
  go_wp2_with (go_at_call 63; rw [HW0.out, HW1.out]; refine HC.out.mono ?_; rintro e w2 ⟨rfl, ⟨o', l', h2⟩, hb2⟩; obtain ⟨oa, oc, rfl, _⟩ := own_slice h2.out; obtain ⟨la, lc, rfl, _⟩ := own_slice h2.log; have hk2 := (hb2.block w.heap.size (by omega)).trans HK1.out; have c0 : w2.cell? ⟨w.heap.size, 0, none⟩ = some (.int .i64 0) := cell_of hk2 0; have c1 : w2.cell? ⟨w.heap.size, 1, none⟩ = some (.slice none 0 0) := cell_of hk2 1; have c2 : w2.cell? ⟨w.heap.size, 2, none⟩ = some (.slice none 0 0) := cell_of hk2 2; have f0 := free_of hk2 0; have f1 := free_of hk2 1; have f2 := free_of hk2 2; have c4 : w2.cell? ⟨w.heap.size + 1, 4, none⟩ = some (.int .i64 st) := cell_of h2.blk 4; have c5 : w2.cell? ⟨w.heap.size + 1, 5, none⟩ = some (.slice oa bs.length oc) := cell_of h2.blk 5; have c6 : w2.cell? ⟨w.heap.size + 1, 6, none⟩ = some (.slice la ms.length lc) := cell_of h2.blk 6; have H2 := Lib.hid h2; have H3 := Lib.hid hb2; have HK2 := Lib.hid hk2; clear h2 hb2 hk2; simp only [])
  have hs := set_of (set_of (set_of HK2.out 0 (.int .i64 st)) 1 (.slice oa bs.length oc)) 2 (.slice la ms.length lc)
  have hb3 : Below w.heap.size w (((w2.setCell ⟨w.heap.size, 0, none⟩ (.int .i64 st)).setCell ⟨w.heap.size, 1, none⟩ (.slice oa bs.length oc)).setCell ⟨w.heap.size, 2, none⟩ (.slice la ms.length lc)) := by
    have hb2 : Below w.heap.size w w2 := HB1.out.trans (H3.out.mono (by omega))
    exact ((hb2.setCell (Nat.le_refl _) _).setCell (Nat.le_refl _) _).setCell (Nat.le_refl _) _
  have hw3 : ∀ g, g ≠ w.heap.size → (((w2.setCell ⟨w.heap.size, 0, none⟩ (.int .i64 st)).setCell ⟨w.heap.size, 1, none⟩ (.slice oa bs.length oc)).setCell ⟨w.heap.size, 2, none⟩ (.slice la ms.length lc)).heap[g]? = w2.heap[g]? := fun g hne => by
    rw [Below.heap_setCell _ _ _ _ hne, Below.heap_setCell _ _ _ _ hne, Below.heap_setCell _ _ _ _ hne]
  have hrow := Go.Joins.ownsRow_le (row_43 H2.out.out HK2.out hw3) (base' := w.heap.size) (by omega)
  have hrow2 := Go.Joins.ownsRow_le (row_43 H2.out.log HK2.out hw3) (base' := w.heap.size) (by omega)
  generalize (((w2.setCell ⟨w.heap.size, 0, none⟩ (.int .i64 st)).setCell ⟨w.heap.size, 1, none⟩ (.slice oa bs.length oc)).setCell ⟨w.heap.size, 2, none⟩ (.slice la ms.length lc)) = w3 at *
  have d0 : w3.cell? ⟨w.heap.size, 0, none⟩ = some (.int .i64 st) := cell_of hs 0
  have d1 : w3.cell? ⟨w.heap.size, 1, none⟩ = some (.slice oa bs.length oc) := cell_of hs 1
  have d2 : w3.cell? ⟨w.heap.size, 2, none⟩ = some (.slice la ms.length lc) := cell_of hs 2
  refine bodyPost_ret (v := .agg #[.int .i64 st, .slice oa bs.length oc, .slice la ms.length lc]) ?_ rfl ?_
  · simp [results, Tryz.results23, go_sem, d0, d1, d2]
  · rw [← HQ.out]
    exact ⟨_, _, rfl, hrow, hrow2, hb3⟩
end Go.Proofs.YtcmjpkfinbakkaaGreatDoor.Vf

namespace Go.Proofs.YtcmjpkfinbakkaaGreatDoor.Vf
set_option maxRecDepth 100000
open Go.RowKit Go.Maps Go.ChangeMaps
set_option linter.unusedVariables false

set_option maxHeartbeats 8000000 in
/-- [ with its end is test. -/
theorem br_yes (B t f : Nat) (T : Tr) (inn : Value) (k g off c : Nat) (is : Bool) (n : Int) (hn : n = 0 ∨ n = 2) (W : World) (hk : k ≤ 100) (hg : g < W.heap.size) (hkc : k ≤ c) (hcell : W.cell? ⟨g, off + k, none⟩ = some (.string ⟨#[93]⟩))
    (h : Tool W B t (.pointer (some ⟨f, 0, none⟩)) ⟨#[47]⟩ nBr inn 0 (.slice none 0 0) [] (.slice none 0 0) []) (hB : B ≤ W.heap.size) (HT : ∀ w', Below W.heap.size W w' → Calls Tryz.prog 112 #[.pointer (some ⟨f, 0, none⟩), .string ⟨#[47]⟩, .slice (some ⟨g, off, none⟩) k c] w' fun e w2 => e = .returned (.tuple #[.bool is, .int .i64 n]) ∧ Below w'.heap.size w' w2) :
    Calls Tryz.prog 63 #[.pointer (some ⟨t, 0, none⟩), .slice (some ⟨g, off, none⟩) (k + 1) c] W (TestP B t (.pointer (some ⟨f, 0, none⟩)) ⟨#[47]⟩ nBr inn (stT is n) (logT nBr n) W) := by
  have HX := Lib.hid (test_any B t f T nBr inn (.slice (some ⟨g, off, none⟩) k c) is n hn (by decide) W ⟨_, _, _, rfl⟩ h hB HT)
  obtain ⟨Q', hQ⟩ : ∃ Q', TestP B t (.pointer (some ⟨f, 0, none⟩)) ⟨#[47]⟩ nBr inn (stT is n) (logT nBr n) W = Q' := ⟨_, rfl⟩
  have hform : ∀ e w', Q' e w' → e = .returned (.tuple #[]) := fun e w' hq => by rw [← hQ] at hq; exact hq.1
  rw [hQ] at HX ⊢
  have HF := Lib.hid hform
  obtain ⟨m, hm⟩ : ∃ m, k + 1 = m := ⟨_, rfl⟩
  rw [hm]
  have hw : IntKind.i64.wrap ((m : Int) - 1) = (k : Int) := by rw [IntKind.wrap_i64]; omega
  have hw2 : wrap64 ((m : Int) - 1) = (k : Int) := by unfold wrap64; omega
  have b0 : ¬ (k : Int) < 0 := by omega
  have b1 : (0 : Int) ≤ (k : Int) := by omega
  have b2 : (k : Int) < (m : Int) := by omega
  have hadd : (⟨g, off, none⟩ : Addr).add k = ⟨g, off + k, none⟩ := addn g off k
  have hs := slice_to g off m c k hkc
  clear hQ hform h HT hm hk hkc
  go_enter Tryz.func63, Tryz.ntmps63
  go_wp2_with (go_at_call 62; refine HX.out.mono ?_; rintro e w9 hq; have HQ9 := Lib.hid hq; obtain rfl := HF.out _ _ hq; clear hq; simp only [])
  go_end0
  exact HQ9.out
set_option maxHeartbeats 8000000 in
/-- [ without its end complains. -/
theorem br_no (B t : Nat) (fv : Value) (cwd : ByteArray) (inn : Value) (x : ByteArray) (k g off c : Nat) (W : World) (hk : k ≤ 100) (hg : g < W.heap.size) (hcell : W.cell? ⟨g, off + k, none⟩ = some (.string x)) (hx : (x.toList == [93]) = false)
    (h : Tool W B t fv cwd nBr inn 0 (.slice none 0 0) [] (.slice none 0 0) []) (hB : B ≤ W.heap.size) :
    Calls Tryz.prog 63 #[.pointer (some ⟨t, 0, none⟩), .slice (some ⟨g, off, none⟩) (k + 1) c] W (TestP B t fv cwd nBr inn 2 (logT nBr 2) W) := by
  have HX : Hid (Calls Tryz.prog 113 #[.pointer (some ⟨t, 0, none⟩), .int .i64 2, .string ⟨#[]⟩, .int .i64 2] W (TestP B t fv cwd nBr inn 2 (logT nBr 2) W)) := comp_t B t fv cwd nBr inn true 2 (.inr rfl) W h (by decide) hB
  obtain ⟨Q', hQ⟩ : ∃ Q', TestP B t fv cwd nBr inn 2 (logT nBr 2) W = Q' := ⟨_, rfl⟩
  have hform : ∀ e w', Q' e w' → e = .returned (.tuple #[]) := fun e w' hq => by rw [← hQ] at hq; exact hq.1
  rw [hQ] at HX ⊢
  have HF := Lib.hid hform
  obtain ⟨m, hm⟩ : ∃ m, k + 1 = m := ⟨_, rfl⟩
  rw [hm]
  have hw : IntKind.i64.wrap ((m : Int) - 1) = (k : Int) := by rw [IntKind.wrap_i64]; omega
  have hw2 : wrap64 ((m : Int) - 1) = (k : Int) := by unfold wrap64; omega
  have b0 : ¬ (k : Int) < 0 := by omega
  have b1 : (0 : Int) ≤ (k : Int) := by omega
  have b2 : (k : Int) < (m : Int) := by omega
  have hadd : (⟨g, off, none⟩ : Addr).add k = ⟨g, off + k, none⟩ := addn g off k
  clear hQ hform h hm hk
  go_enter Tryz.func63, Tryz.ntmps63
  go_wp2_with (go_at_call 113; refine HX.out.mono ?_; rintro e w9 hq; have HQ9 := Lib.hid hq; obtain rfl := HF.out _ _ hq; clear hq; simp only [])
  go_end0
  exact HQ9.out
end Go.Proofs.YtcmjpkfinbakkaaGreatDoor.Vf

namespace Go.Proofs.YtcmjpkfinbakkaaGreatDoor
open Go.RowKit Go.ChangeShapes Go.WideShapes
set_option linter.unusedVariables false
set_option maxRecDepth 100000

theorem join_snoc (xs : List Bz) (x sep : Bz) : Lib.join (xs ++ [x]) sep = if xs = [] then x else Lib.join xs sep ++ sep ++ x := by
  cases xs with
  | nil => rw [if_pos rfl]; exact Lib.join_one x sep
  | cons y r =>
    rw [if_neg (by simp), List.cons_append, Lib.join_cons, Lib.join_cons]
    simp [Lib.joinTail, List.append_assoc]
theorem ba_ext {a b : ByteArray} (h : a.data.toList = b.data.toList) : a = b := ByteArray.ext (Array.ext' h)
/-- What the first k arguments are, joined. -/
def Ec (l : List ByteArray) (k : Nat) (S : ByteArray) : Prop := S.data.toList = Lib.join (bsOf (l.take k)) [32]
theorem Ec.next {l : List ByteArray} {k : Nat} {S S' : ByteArray} (h : Ec l k S) (hk : k < l.length) (hS : S'.data.toList = if k = 0 then l[k].data.toList else S.data.toList ++ [32] ++ l[k].data.toList) : Ec l (k + 1) S' := by
  have ht : l.take (k + 1) = l.take k ++ [l[k]] := by rw [List.take_add_one, List.getElem?_eq_getElem hk]; rfl
  have he : (bsOf (l.take k) = []) ↔ k = 0 := by
    unfold bsOf
    rw [List.map_eq_nil_iff]
    constructor
    · intro e
      have := congrArg List.length e
      rw [List.length_take, List.length_nil] at this
      omega
    · intro e; rw [e]; rfl
  unfold Ec
  rw [ht, show bsOf (l.take k ++ [l[k]]) = bsOf (l.take k) ++ [l[k].data.toList] from List.map_append, join_snoc, hS]
  by_cases h0 : k = 0
  · rw [if_pos h0, if_pos (he.2 h0)]
  · rw [if_neg h0, if_neg (fun e => h0 (he.1 e)), h]
/-- append of strings to an own row, whatever they are. -/
theorem app_strs {w : World} {B n : Nat} {v u : Value} {xs : List Value} {L : List ByteArray} (h : w.ownsRow B 9 1 v n xs) (hT : Txt w u L) (hn : n + L.length ≤ 100000) (hB : B ≤ w.heap.size) :
    ∃ v' w', (Builtin.append_ #[22, 22] 22 #[v, u]).run Tryz.prog w = .ok v' w' ∧ w'.ownsRow B 9 1 v' (n + L.length) (xs ++ L.map .string) ∧ w.grownBy w' v.ownBlock := by
  obtain ⟨i0, hi, hz0, hz1, hz2⟩ := info_parts info9
  obtain ⟨a, c, rfl, hx⟩ := hT.form
  have low : ∀ ad, a = some ad → (∀ j x, (L.map Value.string)[j]? = some x → w.cell? (ad.add j) = some x) → ∃ v' w', (Builtin.append_ #[22, 22] 22 #[v, .slice a L.length c]).run Tryz.prog w = .ok v' w' ∧ w'.ownsRow B 9 1 v' (n + L.length) (xs ++ L.map .string) ∧ w.grownBy w' v.ownBlock := by
    rintro ad rfl hc
    obtain ⟨v', w', hrun, r1, r2, _⟩ := run_append_own (P := Tryz.prog) w B 22 22 9 i0 (.string ⟨#[]⟩) 1 16 Tryz.underlying22 hi hz0 hz1 hz2 rfl (by decide) v n xs h ad L.length c (L.map .string) (by simp) hc (fun u hu => by
      obtain ⟨x, _, rfl⟩ := List.mem_map.1 hu
      rfl) (by unfold maxLen; omega) (by omega) hB
    exact ⟨v', w', hrun, r1, r2⟩
  cases L with
  | nil =>
    cases a with
    | some ad => exact low ad rfl (fun j x hj => by simp at hj)
    | none =>
      refine ⟨v, w, ?_, by simpa using h, ⟨rfl, rfl, rfl, Nat.le_refl _, fun _ _ _ => rfl⟩⟩
      rcases h.2 with ⟨rfl, rfl⟩ | ⟨g, cap, cur, rfl, _, _, hnc, _⟩
      · simp [Builtin.append_, run_underlying Tryz.underlying22, sizeOf, typeInfo, hi, Builtin.lenOf, Builtin.firstCells]
      · simp [Builtin.append_, run_underlying Tryz.underlying22, sizeOf, typeInfo, hi, Builtin.lenOf, Builtin.firstCells, hnc, storeCells]
  | cons x r =>
    obtain ⟨b, off, rfl, _, _⟩ := hx 0 (by simp)
    refine low _ rfl fun j y hj => ?_
    have hjl : j < (x :: r).length := by
      by_cases hh : j < (x :: r).length
      · exact hh
      · rw [List.getElem?_eq_none (by simpa using hh)] at hj; cases hj
    obtain ⟨b', off', e1, _, e2⟩ := hx j hjl
    injection e1 with e1
    injection e1 with e3 e4 _
    subst e3; subst e4
    rw [List.getElem?_map, List.getElem?_eq_getElem hjl] at hj
    injection hj with hj
    rw [addn, e2, ← hj]
end Go.Proofs.YtcmjpkfinbakkaaGreatDoor

namespace Go.Proofs.YtcmjpkfinbakkaaGreatDoor.Vf
set_option maxRecDepth 100000
open Go.RowKit Go.Maps Go.ChangeMaps
set_option linter.unusedVariables false

/-- The tree of ToolsTest. -/
def Tt : Tr := setF newT [[97]] (some ⟨true, [120], 1⟩)
theorem Tt_short : ∀ L n, Tt L = some n → n.data.length ≤ 1000000 := by
  intro L n h
  unfold Tt setF at h
  split at h
  · injection h with h; subst h; simp
  · unfold newT leafT at h
    split at h
    · injection h with h; subst h; simp
    · cases h
theorem lay_t (w : World) {B f : Nat} (h : Sx B w 0 f ⟨3, 10, 0, 0, 0⟩ newT) :
    Calls Tryz.prog 17 #[.pointer (some ⟨f, 0, none⟩), .string ⟨#[47, 97]⟩, .slice (some ⟨w.heap.size, 0, none⟩) 1 1, .bool false] (w.alloc (.cells #[.int .u8 120] 5 (1, 2))) fun e w' => e = .returned (.int .i64 0) ∧ Here w' f Tt ∧ Below B w w' := by
  have hb2 : Below w.heap.size w (w.alloc (.cells #[.int .u8 120] 5 (1, 2))) := (Below.refl _ _).alloc (Nat.le_refl _) _
  have hB := h.le
  obtain ⟨F, hF, hFb⟩ := h.fs
  have hF2 := hF.below hb2
  have hbin : Bin (w.alloc (.cells #[.int .u8 120] 5 (1, 2))) (.slice (some ⟨w.heap.size, 0, none⟩) ([120] : Bz).length 1) [120] := by
    refine ⟨_, _, rfl, fun i hi => ?_⟩
    have hi0 : i = 0 := by simp at hi; omega
    subst hi0
    exact ⟨w.heap.size, 0, rfl, by simp, World.cell?_alloc_mark w #[.int .u8 120] 5 (1, 2) 0⟩
  have hE : findE newT ⟨#[47, 97]⟩ = 0 := path_a.2.1 _
  have hn : newT (findL ⟨#[47, 97]⟩) = none := by rw [path_a.1]; rfl
  have HW := Write_new _ ⟨#[47, 97]⟩ false hF2 path_a.2.2 ⟨by decide, by decide, by decide, by decide, by decide⟩ (by decide) (Nat.le_trans hB hb2.size) hE hn [120] _ _ hbin (fun a ha h0 hF => by cases ha; exact Nat.lt_irrefl _ (hFb _ hF).2) (by decide) (by decide) (by decide)
  rw [path_a.1] at HW
  refine HW.mono fun e w' hm => ?_
  obtain ⟨h1, h2, h3⟩ := hm.fs
  exact ⟨h1, ⟨⟨_, _, _, _, h2⟩, Tt_short⟩, (hb2.mono hB).trans (h3.below (fun k hk => (hFb k hk).1) (Nat.le_trans hB hb2.size))⟩
/-- test and [ as utilities. -/
theorem run_t (f : Nat) (L : List ByteArray) (is : Bool) (n : Int) (hn : n = 0 ∨ n = 2) (HC : ∀ v W, Words W v L → TestC f Tt v L is n W) (v : Value) (w : World) (hW : Words w v L) (hH : Here w f Tt) :
    Calls Tryz.prog 23 #[.pointer (some ⟨f, 0, none⟩), .string ⟨#[47]⟩, .string nTest, v, .slice none 0 0] w (RunU (stT is n) [] (logT nTest n) w) := by
  have hvf : ∃ a k c, v = .slice a k c := by obtain ⟨a, c, h, _⟩ := hW; exact ⟨_, _, _, h⟩
  refine run_test _ _ v _ (stT is n) [] (logT nTest n) w ⟨_, rfl⟩ hvf ⟨_, _, _, rfl⟩ fun t w1 hb hz hT => ?_
  exact test_any (w.heap.size + 1) t f Tt nTest _ v is n hn (by decide) w1 hvf hT hz fun w' hb' => HC v w1 (hW.below hb) w' hb' ((hH.below hb).below hb')
theorem run_b (f : Nat) (L : List ByteArray) (is : Bool) (n : Int) (hn : n = 0 ∨ n = 2) (hl : L.length ≤ 6) (HC : ∀ v W, Words W v L → TestC f Tt v L is n W) (g c : Nat) (w : World) (hA : ArgsAt w g 0 c (L ++ [⟨#[93]⟩])) (hH : Here w f Tt) :
    Calls Tryz.prog 23 #[.pointer (some ⟨f, 0, none⟩), .string ⟨#[47]⟩, .string nBr, .slice (some ⟨g, 0, none⟩) (L.length + 1) c, .slice none 0 0] w (RunU (stT is n) [] (logT nBr n) w) := by
  have hcap : L.length + 1 ≤ c := by have := hA.cap; simpa using this
  refine run_br _ _ _ _ (stT is n) [] (logT nBr n) w ⟨_, rfl⟩ ⟨_, _, _, rfl⟩ ⟨_, _, _, rfl⟩ fun t w1 hb hz hT => ?_
  have hA1 := hA.below hb
  have hlast : w1.cell? ⟨g, 0 + L.length, none⟩ = some (.string ⟨#[93]⟩) := by
    have := hA1.cell L.length (by simp)
    simpa using this
  have hWd : Words w1 (.slice (some ⟨g, 0, none⟩) L.length c) L := ⟨_, _, rfl, fun _ => ⟨g, 0, rfl, hA1.lt, by omega, fun i hi => by
    have := hA1.cell i (by simp; omega)
    rw [List.getElem_append_left hi] at this
    exact this⟩⟩
  exact br_yes (w.heap.size + 1) t f Tt _ L.length g 0 c is n hn w1 (by omega) hA1.lt (by omega) hlast hT hz fun w' hb' => HC _ w1 hWd w' hb' ((hH.below hb).below hb')
theorem run_x (f : Nat) (L : List ByteArray) (hl : L.length ≤ 6) (g c : Nat) (w : World) (hA : ArgsAt w g 0 c (L ++ [⟨#[120]⟩])) :
    Calls Tryz.prog 23 #[.pointer (some ⟨f, 0, none⟩), .string ⟨#[47]⟩, .string nBr, .slice (some ⟨g, 0, none⟩) (L.length + 1) c, .slice none 0 0] w (RunU 2 [] (logT nBr 2) w) := by
  refine run_br _ _ _ _ 2 [] (logT nBr 2) w ⟨_, rfl⟩ ⟨_, _, _, rfl⟩ ⟨_, _, _, rfl⟩ fun t w1 hb hz hT => ?_
  have hA1 := hA.below hb
  have hlast : w1.cell? ⟨g, 0 + L.length, none⟩ = some (.string ⟨#[120]⟩) := by
    have := hA1.cell L.length (by simp)
    simpa using this
  exact br_no (w.heap.size + 1) t _ _ _ ⟨#[120]⟩ L.length g 0 c w1 (by omega) hA1.lt hlast (by rw [Lib.toList_data]; rfl) hT hz
theorem txt_words {w : World} {v : Value} {L : List ByteArray} (h : Words w v L) : Go.Proofs.YtcmjpkfinbakkaaGreatDoor.Txt w v L := by
  obtain ⟨a, c, h1, h2⟩ := h
  refine ⟨a, c, h1, fun i hi => ?_⟩
  obtain ⟨g, off, e, hA⟩ := h2 (by omega)
  exact ⟨g, off, e, hA.lt, hA.cell i hi⟩
/-- The words, copied to a row of one's own, and one more behind them. -/
theorem app_last (L : List ByteArray) (hl : L.length ≤ 6) (x : ByteArray) (v : Value) (w : World) (hW : Words w v L) :
    ∃ v1 w1, (Builtin.append_ #[22, 22] 22 #[.slice none 0 0, v]).run Tryz.prog w = .ok v1 w1 ∧ ∃ g c w2, (Builtin.append_ #[22, 22] 22 #[v1, .slice (some ⟨w1.heap.size, 0, none⟩) 1 1]).run Tryz.prog (w1.alloc (.cells #[.string x] 9)) = .ok (.slice (some ⟨g, 0, none⟩) (L.length + 1) c) w2 ∧ ArgsAt w2 g 0 c (L ++ [x]) ∧ Below w.heap.size w w2 := by
  obtain ⟨v1, w1, e1, r1, g1⟩ := app_strs (B := w.heap.size) (World.ownsRow_nil w w.heap.size 9 1) (txt_words hW) (by omega) (Nat.le_refl _)
  have hb1 : Below w.heap.size w w1 := ⟨g1.os, g1.tape, g1.output, g1.size, fun k hk => g1.block k hk (by intro e; cases e)⟩
  have hWn : Go.Proofs.YtcmjpkfinbakkaaGreatDoor.Wn w w1 v1 L := ⟨by simpa using r1, hb1⟩
  obtain ⟨v2, w2, e2, hW2⟩ := hWn.push (by omega) x
  refine ⟨v1, w1, e1, ?_⟩
  rcases hW2.own.2 with ⟨q1, q0⟩ | ⟨g, cap, cur, q1, _, _, q2, _⟩
  · simp at q0
  · subst q1
    have hlen : (L ++ [x]).length = L.length + 1 := by simp
    refine ⟨g, cap, w2, by rw [hlen] at e2; exact e2, ⟨(hW2.own.lt g rfl).2, q2, fun i hi => ?_⟩, hW2.old⟩
    rw [Nat.zero_add, World.ownsRow.cellAt hW2.own i (by omega), List.getElem?_map, List.getElem?_eq_getElem hi]; rfl
end Go.Proofs.YtcmjpkfinbakkaaGreatDoor.Vf

namespace Go.Proofs.YtcmjpkfinbakkaaGreatDoor.Vf
set_option maxRecDepth 100000
open Go.RowKit Go.Maps Go.ChangeMaps
set_option linter.unusedVariables false

set_option pp.maxSteps 6000 in
set_option maxHeartbeats 8000000 in
theorem toolstest_walk (L : List ByteArray) (a : Option Addr) (c : Nat) (w : World) (hs : ∀ x ∈ L, x.size ≤ 1100000) (hA : 1 ≤ L.length → ∃ g off, a = some ⟨g, off, none⟩ ∧ ArgsAt w g off c L) :
    Calls Tryz.prog 12 #[.slice a L.length c] w fun e w' => e = .returned (.bool true) ∧ Below w.heap.size w w' := by
  have HA := Lib.hid (alive_any w)
  by_cases h6 : L.length ≤ 6
  case neg =>
    have i6 : (6 : Int) < (L.length : Int) := by omega
    clear h6
    go_enter Tryz.func12, Tryz.ntmps12
    go_wp2_with (go_at_call 22; refine HA.out.mono ?_; rintro e w1 ⟨rfl, h1⟩; have H1 := Lib.hid h1; clear h1; simp only [])
    go_ret
    exact ⟨rfl, H1.out⟩
  have i6 : ¬ (6 : Int) < (L.length : Int) := by omega
  have HNEW := Lib.hid (fun w => New_sx 3 10 (by decide) (by decide) (by decide) (by decide) w)
  have HTC := Lib.hid (fun f => testC (f := f) (T := Tt) L h6 hs)
  have HWD : Hid (Words w (.slice a L.length c) L) := ⟨_, _, rfl, hA⟩
  have HL6 : Hid (L.length ≤ 6) := h6
  clear hA hs h6
  go_enter Tryz.func12, Tryz.ntmps12
  go_upto_region 7 with (first
    | (go_at_call 22; refine HA.out.mono ?_; rintro e w0 ⟨rfl, h0⟩; have H0 := Lib.hid h0; clear h0; simp only [])
    | (go_at_call 14; refine (HNEW.out _).mono ?_; rintro e w1 ⟨f, rfl, h1, h1b⟩; have HB1 := Lib.hid (H0.out.trans (h1b.mono H0.out.size)); have HM := Lib.hid (lay_t w1 h1); have hcv := Lib.run_convert_bytes_const w1 41 5 #[.int .u8 120] 1 1 Tryz.underlying41 Tryz.underlying5; clear h1 h1b; simp only [])
    | (go_at_call 17; refine HM.out.mono ?_; rintro e w2 ⟨rfl, h2, h2b⟩; have HB2 := Lib.hid (HB1.out.trans (h2b.mono H0.out.size)); have HH2 := Lib.hid h2; have HW2 := Lib.hid (HWD.out.below HB2.out); obtain ⟨is, n, hn, hC⟩ := HTC.out f; have HRT := Lib.hid (run_t f L is n hn hC _ w2 HW2.out HH2.out); have HN := Lib.hid hn; have HCC := Lib.hid hC; clear h2 h2b hcv hn hC; simp only [])
    | (go_at_call 23; refine HRT.out.mono ?_; rintro e w3 ⟨o1, l1, rfl, r1, r2, h3⟩; have HB3 := Lib.hid (HB2.out.trans (h3.mono HB2.out.size)); have HH3 := Lib.hid (HH2.out.below h3); have R1 := Lib.hid r1; have R2 := Lib.hid r2; obtain ⟨oa, oc, rfl, _⟩ := own_slice r1; obtain ⟨la, lc, rfl, _⟩ := own_slice r2; clear r1 r2 h3; simp only []))
  obtain ⟨st, hst⟩ : ∃ st, stT is n = st := ⟨_, rfl⟩
  obtain ⟨k1, hk1⟩ : ∃ k, (logT nTest n).length = k := ⟨_, rfl⟩
  have HR : Hid ((st ≠ 2 ∧ k1 = 0) ∨ (st = 2 ∧ k1 ≠ 0)) := by
    rw [Hid, ← hst, ← hk1]
    rcases HN.out with rfl | rfl
    · left
      cases is <;> exact ⟨by decide, rfl⟩
    · right
      exact ⟨by cases is <;> rfl, by decide +kernel⟩
  have HST := Lib.hid hst
  rw [hst, hk1]
  clear hst hk1
  simp only [List.length_nil]
  obtain ⟨b1, hb1⟩ : ∃ b, w3.heap.size = b := ⟨_, rfl⟩
  have hbA : Below w3.heap.size w3 (w3.alloc (.cells #[.int .i64 st, .slice oa 0 oc, .slice la k1 lc] 43)) := (Below.refl _ _).alloc (Nat.le_refl _) _
  have hx1 : (w3.alloc (.cells #[.int .i64 st, .slice oa 0 oc, .slice la k1 lc] 43)).heap[w3.heap.size]? = some (.cells [.int .i64 st, .slice oa 0 oc, .slice la k1 lc].toArray 43 (0, 0)) := heap_alloc_new _ _
  have hl1 : w3.heap.size < (w3.alloc (.cells #[.int .i64 st, .slice oa 0 oc, .slice la k1 lc] 43)).heap.size := by simp
  obtain ⟨WA, hWA⟩ : ∃ W, w3.alloc (.cells #[.int .i64 st, .slice oa 0 oc, .slice la k1 lc] 43) = W := ⟨_, rfl⟩
  rw [hWA] at hbA hx1 hl1 ⊢
  rw [hb1] at hx1 hl1 ⊢
  have HBA := Lib.hid (HB3.out.trans (hbA.mono HB3.out.size))
  have HHA := Lib.hid (HH3.out.below hbA)
  have HWA := Lib.hid (HWD.out.below HBA.out)
  have HX1 := Lib.hid hx1
  have HL1 := Lib.hid hl1
  clear hWA hb1 hbA hx1 hl1
  obtain ⟨v1, w4, e1, g1, c1, w5, e2, hA5, hb5⟩ := app_last L HL6.out ⟨#[93]⟩ _ WA HWA.out
  have HB5 := Lib.hid hb5
  have HRB := Lib.hid (run_b f L is n HN.out HL6.out HCC.out g1 c1 w5 hA5 (HHA.out.below hb5))
  clear hA5 hb5
  go_upto_region 8 with (first
    | (at_builtin; refine wpList_run_append _ rfl _ _ 22 22 rfl _ _ rfl rfl e1 ?_)
    | (at_builtin; refine wpList_run_append _ rfl _ _ 22 22 rfl _ _ rfl rfl e2 ?_)
    | (go_at_call 23; refine HRB.out.mono ?_; rintro e w6 ⟨o2, l2, rfl, r1, r2, h6⟩; have HB6 := Lib.hid (HB5.out.trans (h6.mono HB5.out.size)); obtain ⟨oa2, oc2, rfl, _⟩ := own_slice r1; obtain ⟨la2, lc2, rfl, _⟩ := own_slice r2; clear r1 r2 h6; simp only []))
  obtain ⟨k2, hk2⟩ : ∃ k, (logT nBr n).length = k := ⟨_, rfl⟩
  rw [HST.out, hk2]
  clear hk2
  simp only [List.length_nil]
  obtain ⟨b2, hb2⟩ : ∃ b, w6.heap.size = b := ⟨_, rfl⟩
  have hbA : Below w6.heap.size w6 (w6.alloc (.cells #[.int .i64 st, .slice oa2 0 oc2, .slice la2 k2 lc2] 43)) := (Below.refl _ _).alloc (Nat.le_refl _) _
  have hx2 : (w6.alloc (.cells #[.int .i64 st, .slice oa2 0 oc2, .slice la2 k2 lc2] 43)).heap[w6.heap.size]? = some (.cells [.int .i64 st, .slice oa2 0 oc2, .slice la2 k2 lc2].toArray 43 (0, 0)) := heap_alloc_new _ _
  have hl2 : w6.heap.size < (w6.alloc (.cells #[.int .i64 st, .slice oa2 0 oc2, .slice la2 k2 lc2] 43)).heap.size := by simp
  obtain ⟨WB, hWB⟩ : ∃ W, w6.alloc (.cells #[.int .i64 st, .slice oa2 0 oc2, .slice la2 k2 lc2] 43) = W := ⟨_, rfl⟩
  rw [hWB] at hbA hx2 hl2 ⊢
  rw [hb2] at hx2 hl2 ⊢
  have HAB := Lib.hid (HB6.out.trans (hbA.mono HB6.out.size))
  have HBB := Lib.hid (HBA.out.trans (HAB.out.mono HBA.out.size))
  have HWB := Lib.hid (HWD.out.below HBB.out)
  have HX2 := Lib.hid hx2
  have HL2 := Lib.hid hl2
  clear hWB hb2 hbA hx2 hl2 e1 e2
  obtain ⟨v3, w7, e3, g2, c2, w8, e4, hA8, hb8⟩ := app_last L HL6.out ⟨#[120]⟩ _ WB HWB.out
  have HB8 := Lib.hid hb8
  have HRX := Lib.hid (run_x f L HL6.out g2 c2 w8 hA8)
  clear hA8 hb8
  go_upto_region 9 with (first
    | (at_builtin; refine wpList_run_append _ rfl _ _ 22 22 rfl _ _ rfl rfl e3 ?_)
    | (at_builtin; refine wpList_run_append _ rfl _ _ 22 22 rfl _ _ rfl rfl e4 ?_)
    | (go_at_call 23; refine HRX.out.mono ?_; rintro e w9 ⟨o3, l3, rfl, r1, r2, h9⟩; have HB9 := Lib.hid (HB8.out.trans (h9.mono HB8.out.size)); have R3 := Lib.hid r2; obtain ⟨oa3, oc3, rfl, _⟩ := own_slice r1; obtain ⟨la3, lc3, rfl, _⟩ := own_slice r2; clear r1 r2 h9; simp only []))
  have hcv := conv_own (R3.out.alloc (.cells #[.int .i64 2, .slice oa3 0 oc3, .slice la3 (logT nBr 2).length lc3] 43))
  rw [show (⟨(logT nBr 2).toArray⟩ : ByteArray) = ⟨#[91, 58, 32, 58, 32, 101, 114, 114, 111, 114, 32, 50, 10]⟩ by decide +kernel] at hcv
  have hk3 : (logT nBr 2).length = 13 := by decide +kernel
  rw [hk3] at hcv ⊢
  simp only [List.length_nil]
  have hbC : Below w9.heap.size w9 (w9.alloc (.cells #[.int .i64 2, .slice oa3 0 oc3, .slice la3 13 lc3] 43)) := (Below.refl _ _).alloc (Nat.le_refl _) _
  have hx3 : (w9.alloc (.cells #[.int .i64 2, .slice oa3 0 oc3, .slice la3 13 lc3] 43)).heap[w9.heap.size]? = some (.cells [.int .i64 2, .slice oa3 0 oc3, .slice la3 13 lc3].toArray 43 (0, 0)) := heap_alloc_new _ _
  obtain ⟨b3, hb3⟩ : ∃ b, w9.heap.size = b := ⟨_, rfl⟩
  obtain ⟨WC, hWC⟩ : ∃ W, w9.alloc (.cells #[.int .i64 2, .slice oa3 0 oc3, .slice la3 13 lc3] 43) = W := ⟨_, rfl⟩
  rw [hWC] at hbC hx3 hcv ⊢
  rw [hb3] at hx3 ⊢
  have hBC : Below WB.heap.size WB WC := HB9.out.trans (hbC.mono HB9.out.size)
  have hAC : Below WA.heap.size WA WC := HAB.out.trans (hBC.mono HAB.out.size)
  have HZ := Lib.hid (HBA.out.trans (hAC.mono HBA.out.size))
  have y1 := (hAC.block b1 HL1.out).trans HX1.out
  have y2 := (hBC.block b2 HL2.out).trans HX2.out
  have q10 : WC.cell? ⟨b1, 0, none⟩ = some (.int .i64 st) := cell_of y1 0
  have q11 : WC.cell? ⟨b1, 1, none⟩ = some (.slice oa 0 oc) := cell_of y1 1
  have q12 : WC.cell? ⟨b1, 2, none⟩ = some (.slice la k1 lc) := cell_of y1 2
  have q20 : WC.cell? ⟨b2, 0, none⟩ = some (.int .i64 st) := cell_of y2 0
  have q21 : WC.cell? ⟨b2, 1, none⟩ = some (.slice oa2 0 oc2) := cell_of y2 1
  have q30 : WC.cell? ⟨b3, 0, none⟩ = some (.int .i64 2) := cell_of hx3 0
  have q32 : WC.cell? ⟨b3, 2, none⟩ = some (.slice la3 13 lc3) := cell_of hx3 2
  have hss : (st == st) = true := by simp
  clear e3 e4 hbC hx3 hb3 hWC hBC hAC y1 y2
  rcases HR.out with ⟨h1, h2⟩ | ⟨h1, h2⟩
  · have hne : (st != 2) = true := by simpa using h1
    subst h2
    clear h1 HR
    go_wp2_with fail
    go_ret
    exact ⟨rfl, HZ.out⟩
  · subst h1
    have hk : ((k1 : Int) == 0) = false := by rw [beq_eq_false_iff_ne]; omega
    clear HR h2
    go_wp2_with fail
    go_ret
    exact ⟨rfl, HZ.out⟩
end Go.Proofs.YtcmjpkfinbakkaaGreatDoor.Vf

namespace Go.Proofs.YtcmjpkfinbakkaaGreatDoor.Vf
open Go.RowKit Go.ChangeShapes Go.WideShapes
set_option linter.unusedVariables false
set_option maxRecDepth 100000

theorem bulk_part {H : Type} {d : DataW H} {l : List (DataW H)} (h : d ∈ l) : Rows.uptoBulk d ≤ Rows.uptoBulkAll l := by
  induction l with
  | nil => cases h
  | cons x r ih =>
    simp only [Rows.uptoBulkAll]
    cases List.mem_cons.1 h with
    | inl e => subst e; omega
    | inr e => have := ih e; omega
theorem open_words {H : Type} {enc : TypeId × Value → H} {base : Nat} {W : World} {v : Value} {d : DataW H} {p : List MemPlace}
    (hv : Value.okWide Tryz.prog W .any base 22 v) (h : DataW.Trod enc Tryz.prog W 0 (fun _ => true) true 22 v d p) :
    ∃ (l : List ByteArray) (a : Option Addr) (c : Nat), v = .slice a l.length c ∧ (1 ≤ l.length → ∃ g off, a = some ⟨g, off, none⟩ ∧ ArgsAt W g off c l) ∧ ∀ x ∈ l, x.size ≤ Rows.uptoBulk d := by
  obtain ⟨a0, len, cap, rfl⟩ := okWide_slice Tryz.underlying22 hv
  obtain ⟨fuel, hf⟩ := h
  have hf2 : DataW.trod enc Tryz.prog W 0 (fun _ => true) true fuel 22 [.slice a0 len cap] = some (d, p) := hf
  have c9 : Tryz.prog.cellsOf 9 = 1 := by kernel_rfl
  have u9 : Tryz.prog.underlying 9 = some .string := by kernel_rfl
  rcases Go.Deep.open_slice Tryz.underlying22 hf2 with ⟨h0, _⟩ | ⟨a, len', cap', m, n, D, Pl, h0, hb, hl, hm, hmm, hd, hx⟩
  · simp at h0
    obtain ⟨rfl, rfl, rfl⟩ := h0
    exact ⟨[], none, 0, rfl, fun h => absurd h (by simp), by simp⟩
  · simp at h0
    obtain ⟨rfl, rfl, rfl⟩ := h0
    injection hd with hd1 hd2
    have each : ∀ i, i < len → ∃ q : ByteArray, W.cell? (a.add i) = some (.string q) ∧ q.size ≤ Rows.uptoBulk d := by
      intro i hi
      have him : i < m := by rw [hmm]; split <;> omega
      obtain ⟨cs', h1, h2⟩ := hx i him
      rw [c9, Nat.mul_one] at h1
      obtain ⟨_, hlen, hcell⟩ := World.cells?_some h1
      match cs', hlen with
      | [u], _ =>
        obtain ⟨s1, e1, e2, z1⟩ := DataW.trod_string u9 h2
        have := hcell 0 (by omega)
        simp at e1
        subst e1
        refine ⟨s1, by simpa [Addr.add] using this, ?_⟩
        have hDi : D i = .lit (.string s1.data.toList) := by
          have := congrArg Prod.fst e2
          simpa [Lib.toList_data] using this
        have hmem : D i ∈ (List.range len).map D := List.mem_map.2 ⟨i, List.mem_range.2 hi, rfl⟩
        have h3 := bulk_part hmem
        have h4 : Rows.uptoBulk (D i) = s1.size + 1 := by rw [hDi]; simp only [Rows.uptoBulk]; rw [show s1.data.toList.length = s1.size from Array.length_toList]
        rw [hd1]
        simp only [Rows.uptoBulk]
        omega
    obtain ⟨q, hq⟩ := Go.Deep.choose_lt each
    have hlen : ((List.range len).map q).length = len := by simp
    refine ⟨(List.range len).map q, some a, cap, by rw [hlen], fun h1 => ?_, fun x hx => ?_⟩
    · rw [hlen] at h1
      obtain ⟨hc0, _⟩ := hq 0 (by omega)
      have hb : a.block < W.heap.size := by
        have := World.block_lt_of_cell? W _ hc0
        revert this
        unfold Addr.add
        split <;> exact id
      have hs : a.spot = none := World.cell?_spot (a := a) (by simpa [Addr.add] using hc0)
      obtain ⟨b, off, sp⟩ := a
      simp only at hs
      subst hs
      refine ⟨b, off, rfl, hb, by rw [hlen]; exact hl, fun k hk => ?_⟩
      rw [hlen] at hk
      have h1 := (hq k hk).1
      rw [addn] at h1
      have e : ((List.range len).map q)[k]'(by rw [hlen]; exact hk) = q k := by simp
      rw [e]
      exact h1
    · obtain ⟨i, hi, rfl⟩ := List.mem_map.1 hx
      exact (hq i (List.mem_range.1 hi)).2
end Go.Proofs.YtcmjpkfinbakkaaGreatDoor.Vf
