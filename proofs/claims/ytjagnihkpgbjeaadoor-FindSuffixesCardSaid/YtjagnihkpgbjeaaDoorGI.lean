import Derived.Test.YtjagnihkpgbjeaaDoorHE
import Derived.Deep.SlicePairs
import Derived.ChangeArms
import Derived.Deep.Draws
import Derived.BigQuiet
import Derived.Laws.BitsLemmas
import Derived.ChangeSlices
import Derived.SliceStrings
import Derived.Carry
namespace Go.Proofs.YtjagnihkpgbjeaaDoor
open Go.RowKit Go.ChangeShapes Go.WideShapes
set_option linter.unusedVariables false
/-- Whole numbers, to be read at A. -/
def Ints (w : World) (A : Option Addr) (n : Nat) (zs : Nat → Int) : Prop := 0 < n → ∃ a, A = some a ∧ ∀ i, i < n → w.cell? (a.add i) = some (.int .i64 (zs i))
theorem cells3 : Tryd.prog.cellsOf 3 = 1 := by kernel_rfl
theorem bounds64 {z : Int} (h : (Lit.int .i64 z).wf = true) : -9223372036854775808 ≤ z ∧ z ≤ 9223372036854775807 := by
  simp [Lit.wf] at h
  have h1 : IntKind.i64.min = -9223372036854775808 := by decide
  have h2 : IntKind.i64.max = 9223372036854775807 := by decide
  omega
set_option maxRecDepth 100000 in
theorem open_nums {H : Type} {enc : TypeId × Value → H} {W : World} {v : Value} {d : DataW H} {p : List MemPlace} {base : Nat}
    (hv : Value.okWide Tryd.prog W .any base 30 v) (h : DataW.Trod enc Tryd.prog W 0 (fun _ => true) true 30 v d p) :
    ∃ A n c zs, v = .slice A n c ∧ n ≤ maxLen ∧ (∀ k : Nat, -9223372036854775808 ≤ (zs k : Int) ∧ zs k ≤ 9223372036854775807) ∧ Ints W A n zs := by
  obtain ⟨a0, len, cap, rfl⟩ := okWide_slice Tryd.underlying30 hv
  obtain ⟨fuel, hf⟩ := h
  rcases open_ints Tryd.underlying30 Tryd.underlying3 cells3 hf with ⟨hcs, hx⟩ | ⟨a, len', cap', zs, hcs, _, hl, hm, hz, hx, hcell, hsz⟩
  · simp [Value.cells] at hcs
    obtain ⟨rfl, rfl, rfl⟩ := hcs
    exact ⟨none, 0, 0, fun _ => 0, rfl, by unfold maxLen; omega, fun _ => by simp, fun h => absurd h (by omega)⟩
  · simp [Value.cells] at hcs
    obtain ⟨rfl, rfl, rfl⟩ := hcs
    rw [if_pos rfl] at hz
    refine ⟨some a, len, cap, fun k => zs.getD k 0, rfl, by omega, fun k => ?_, fun _ => ⟨a, rfl, fun i hi => hcell i (by omega)⟩⟩
    by_cases hk : k < zs.length
    · have := bounds64 (hsz zs[k] (List.getElem_mem hk))
      simp only [List.getD_eq_getElem?_getD, List.getElem?_eq_getElem hk, Option.getD_some]
      exact this
    · simp only [List.getD_eq_getElem?_getD, List.getElem?_eq_none (Nat.le_of_not_lt hk), Option.getD_none]
      omega
theorem i64_and1023 (n : Int) : bits .and .i64 n 1023 = n % 1024 := by
  have h3 : (BitVec.ofInt 64 1023).toNat = 2 ^ 10 - 1 := by decide
  have key : (BitVec.ofInt 64 n &&& BitVec.ofInt 64 1023).toNat = (n % ((2 ^ 64 : Nat) : Int)).toNat % 2 ^ 10 := by
    rw [BitVec.toNat_and, BitVec.toNat_ofInt, h3, Nat.and_two_pow_sub_one_eq_mod]
  show IntKind.i64.wrap ((BitVec.ofInt 64 n &&& BitVec.ofInt 64 1023).toNat : Nat) = n % 1024
  rw [key, IntKind.wrap_i64]
  omega
def tms (t : Nat → Nat) : List Value := [.int .i64 (t 0), .int .i64 (t 1), .int .i64 (t 2)]
def nms : List Value := [.string (pathB (nmT 0)), .string (pathB (nmT 1)), .string (pathB (nmT 2))]
theorem tms_at (t : Nat → Nat) (j : Nat) (h : j < 3) : (tms t)[j]? = some (.int .i64 (t j)) := by
  have hc : j = 0 ∨ j = 1 ∨ j = 2 := by omega
  rcases hc with rfl | rfl | rfl <;> rfl
theorem nms_at (j : Nat) (h : j < 3) : nms[j]? = some (.string (pathB (nmT j))) := by
  have hc : j = 0 ∨ j = 1 ∨ j = 2 := by omega
  rcases hc with rfl | rfl | rfl <;> rfl
theorem tms_set (t : Nat → Nat) (j v : Nat) (h : j < 3) : (tms t).set j (.int .i64 v) = tms (updT t j v) := by
  have hc : j = 0 ∨ j = 1 ∨ j = 2 := by omega
  rcases hc with rfl | rfl | rfl <;> simp [tms, updT]
theorem sl_new2 (w : World) (a b : Bs) : SlS (w.alloc (.cells #[.string ⟨a.toArray⟩, .string ⟨b.toArray⟩] 9)) (.slice (some ⟨w.heap.size, 0, none⟩) 2 2) [a, b] := by
  refine .inr ⟨w.heap.size, 0, 2, rfl, by simp, by omega, by simp, fun i hi => ?_⟩
  have hc : i = 0 ∨ i = 1 := by simp at hi; omega
  rcases hc with rfl | rfl
  · rw [Nat.add_zero, cell_new]; rfl
  · rw [Nat.zero_add, cell_new]; rfl
theorem sl_bc (w : World) : SlS (w.alloc (.cells #[.string ⟨#[98]⟩, .string ⟨#[99]⟩] 9)) (.slice (some ⟨w.heap.size, 0, none⟩) 2 2) [[98], [99]] := sl_new2 w [98] [99]
/-- The loop's state: what lies behind k touches. -/
structure Lp (w w1 wr : World) (f : Nat) (t : Nat → Nat) (k : Nat) : Prop where
  sy : ∃ c T, Sy w.heap.size (fun j => j = w1.heap.size ∨ j = w1.heap.size + 1) wr k f c T ∧ St T c t k
  nm : wr.heap[w1.heap.size]? = some (.cells nms.toArray 9 (0, 0))
  tm : wr.heap[w1.heap.size + 1]? = some (.cells (tms t).toArray 3 (0, 0))
  old : Below w.heap.size w wr
  le : w.heap.size ≤ w1.heap.size
theorem Lp.touch {w w1 wr : World} {f : Nat} {t : Nat → Nat} {k : Nat} (h : Lp w w1 wr f t k) (hk : k ≤ 100) (j : Nat) (hj : j < 3) :
    Calls Tryd.prog 21 #[.pointer (some ⟨f, 0, none⟩), .string (pathB (nmT j))] wr fun e w' => e = .returned (.int .i64 0) ∧ w'.heap[w1.heap.size + 1]? = some (.cells (tms t).toArray 3 (0, 0)) ∧ Lp w w1 (w'.setCell ⟨w1.heap.size + 1, j, none⟩ (.int .i64 ((k + 1 : Nat) : Int))) f (updT t j (k + 1)) (k + 1) := by
  obtain ⟨c, T, h1, h2⟩ := h.sy
  have l1 := (Array.getElem?_eq_some_iff.1 h.nm).1
  have l2 := (Array.getElem?_eq_some_iff.1 h.tm).1
  refine (Touch_st h1 (fun j hj => by rcases hj with rfl | rfl; exact l1; exact l2) h2 hk (by unfold maxLen; omega) j hj).mono ?_
  rintro e w' ⟨rfl, ⟨c', T', e1, e2⟩, e3, e4⟩
  have n1 := (e4 _ (.inl rfl)).trans h.nm
  have n2 := (e4 _ (.inr rfl)).trans h.tm
  refine ⟨rfl, n2, ⟨c', T', e1.set (.inr rfl) _ _, e2⟩, ?_, ?_, (h.old.trans e3).setCell (by have := h.le; show w.heap.size ≤ w1.heap.size + 1; omega) _, h.le⟩
  · rw [Below.heap_setCell _ _ _ _ (by show w1.heap.size ≠ w1.heap.size + 1; omega)]; exact n1
  · have := set_of n2 j (.int .i64 ((k + 1 : Nat) : Int))
    rw [tms_set t j (k + 1) hj] at this
    exact this
set_option maxRecDepth 100000 in
set_option maxHeartbeats 8000000 in
theorem touched_walk (A : Option Addr) (n c : Nat) (zs : Nat → Int) (W : World) (hn : n ≤ maxLen) (hI : Ints W A n zs) (hz : ∀ k : Nat, -9223372036854775808 ≤ (zs k : Int) ∧ zs k ≤ 9223372036854775807) :
    Calls Tryd.prog 10 #[.slice A n c] W fun e w' => e = .returned (.bool true) ∧ Below W.heap.size W w' := by
  have HAL := Lib.hid (alive33 W)
  have HNEW := Lib.hid (fun w => New_sx 10 10 (by omega) (by omega) (by omega) (by omega) w)
  have HI := Lib.hid hI
  unfold maxLen at hn
  clear hI hz
  by_cases h30 : 30 < n
  · have h30I : (30 : Int) < (n : Int) := by omega
    go_enter Tryd.func10, Tryd.ntmps10
    go_wp2_with (go_at_call 33; refine HAL.out.mono ?_; rintro e w0 ⟨rfl, h0⟩; have H0 := Lib.hid h0; clear h0; simp only [])
    go_ret
    exact ⟨rfl, H0.out⟩
  have h30I : ¬ (30 : Int) < (n : Int) := by omega
  go_enter Tryd.func10, Tryd.ntmps10
  go_wp2_with (first
    | (go_at_call 33; refine HAL.out.mono ?_; rintro e w0 ⟨rfl, h0⟩; have H0 := Lib.hid h0; clear h0; simp only [])
    | (go_at_call 13; refine (HNEW.out _).mono ?_; rintro e w1 ⟨f, rfl, hf, h1⟩; have HF := Lib.hid hf; have H1 := Lib.hid h1; clear hf h1; simp only []))
  have HST : Hid (Lp w0 w1 ((w1.alloc (.cells #[.string ⟨#[47, 97]⟩, .string ⟨#[47, 98]⟩, .string ⟨#[47, 99]⟩] 9)).alloc (.cells #[.int .i64 0, .int .i64 0, .int .i64 0] 3)) f (fun _ => 0) 0) := by
    have z1 := heap_alloc_new w1 (.cells #[.string ⟨#[47, 97]⟩, .string ⟨#[47, 98]⟩, .string ⟨#[47, 99]⟩] 9)
    have z2 := heap_alloc_new (w1.alloc (.cells #[.string ⟨#[47, 97]⟩, .string ⟨#[47, 98]⟩, .string ⟨#[47, 99]⟩] 9)) (.cells #[.int .i64 0, .int .i64 0, .int .i64 0] 3)
    have zb := below_trans (below_alloc w1 (.cells #[.string ⟨#[47, 97]⟩, .string ⟨#[47, 98]⟩, .string ⟨#[47, 99]⟩] 9)) (below_alloc _ (.cells #[.int .i64 0, .int .i64 0, .int .i64 0] 3))
    refine ⟨⟨_, _, (HF.out.sy (fun j hj => by rcases hj with rfl | rfl <;> omega)).below zb, ⟨fun j hj => ?_, rfl, fun j hj => Nat.le_refl _⟩⟩, ?_, ?_, H1.out.trans (zb.mono H1.out.size), H1.out.size⟩
    · rfl
    · rw [Below.heap_alloc _ _ _ (by simp)]; exact z1
    · rw [size_alloc] at z2; exact z2
  go_loopw [7] (fun i wr => ∃ (k : Nat) (t : Nat → Nat), k ≤ n ∧ i = .int .i64 k ∧ Hid (Lp w0 w1 wr f t k)) (fun i _ => n - (intOf i).toNat)
  case atStart => exact ⟨0, _, Nat.zero_le _, rfl, HST.out⟩
  case round =>
    obtain ⟨k, t, hk, rfl, HL⟩ := hrel
    clear HST
    by_cases hlt : k < n
    · have hltI : (k : Int) < (n : Int) := by omega
      have hk0 : (0 : Int) ≤ (k : Int) := by omega
      obtain ⟨ad, rfl, hcell⟩ := HI.out (by omega)
      have hck : wr.cell? (ad.add k) = some (.int .i64 (zs k)) := by
        have := hcell k hlt
        have hb := World.block_lt_of_cell? _ _ this
        rw [(H0.out.trans (HL.out.old.mono H0.out.size)).cell hb]; exact this
      obtain ⟨z, hz⟩ : ∃ z, zs k = z := ⟨_, rfl⟩
      rw [hz] at hck
      obtain ⟨j, hj, hj4⟩ : ∃ j : Nat, z % 1024 = j ∧ j < 1024 := ⟨(z % 1024).toNat, by omega, by omega⟩
      have hand : bits .and .i64 z 1023 = (j : Int) := by rw [i64_and1023, hj]
      have hr3 : j % 3 < 3 := by omega
      have hr0 : (0 : Int) ≤ (j : Int) % 3 := by omega
      have hrI : (j : Int) % 3 < 3 := by omega
      have HT := Lib.hid (HL.out.touch (by omega) (j % 3) hr3)
      have q0 : wr.cell? ⟨w1.heap.size, j % 3, none⟩ = some (.string (pathB (nmT (j % 3)))) := (cell_of HL.out.nm _).trans (nms_at _ hr3)
      obtain ⟨pb, hpb⟩ : ∃ pb, pathB (nmT (j % 3)) = pb := ⟨_, rfl⟩
      rw [hpb] at q0 HT
      have ad2 := addk w1.heap.size 0 (j % 3)
      have ad3 := addk (w1.heap.size + 1) 0 (j % 3)
      rw [Nat.zero_add] at ad2 ad3
      have HTA := Lib.hid (tms_at t (j % 3) hr3)
      clear hz hj hcell hpb
      go_wp2_with (go_at_call 21; refine HT.out.mono ?_; rintro e w5 ⟨rfl, h5, h6⟩; have HH := Lib.hid h5; have HL6 := Lib.hid h6; have u0 := (cell_of h5 (j % 3)).trans HTA.out; have u1 := free_of h5 (j % 3); clear h5 h6; simp only [])
      go_roundw
      case measure => simp [intOf]; omega
      case rel => exact ⟨k + 1, _, by omega, by go_num, Lib.hid (by have := HL6.out; simpa using this)⟩
    · have hltI : ¬ (k : Int) < (n : Int) := by omega
      obtain ⟨c9, T9, hsy, hst⟩ := HL.out.sy
      have hw : wantT t = (decide (t 0 = 0) || (decide (t 0 < t 1) || decide (t 0 < t 2))) := rfl
      have q0 : wr.cell? ⟨w1.heap.size + 1, 0, none⟩ = some (.int .i64 (t 0)) := (cell_of HL.out.tm 0).trans (tms_at t 0 (by omega))
      have q1 : wr.cell? ⟨w1.heap.size + 1, 1, none⟩ = some (.int .i64 (t 1)) := (cell_of HL.out.tm 1).trans (tms_at t 1 (by omega))
      have q2 : wr.cell? ⟨w1.heap.size + 1, 2, none⟩ = some (.int .i64 (t 2)) := (cell_of HL.out.tm 2).trans (tms_at t 2 (by omega))
      have hlt6 : w1.heap.size + 1 < wr.heap.size := World.block_lt_of_cell? _ _ q0
      have HOL := Lib.hid (fun (W' : World) (nv : Value) (b : Bool) (hb : Below wr.heap.size wr W') (hn : SlS W' nv [[98], [99]]) (hw : wantT t = b) => by
        obtain ⟨F, e1, e2⟩ := (hsy.below hb).fs
        exact OldA e1 (.slice none 0 0) nv (.slice none 0 0) [] (rs0 _) (by simp) [[98], [99]] [] hn (by simp) (by intro x hx; simp at hx; rcases hx with rfl | rfl; exact nmB; exact nmC) (sl0 _) (by simp) b ((old_st hst).trans hw))
      have HNL := Lib.hid (fun (W' : World) (nv : Value) (hb : Below wr.heap.size wr W') (hn : SlS W' nv [[98], [99]]) (h0 : t 0 ≠ 0) => by
        obtain ⟨F, e1, e2⟩ := (hsy.below hb).fs
        have := Newer_yes (s := [97]) e1 nmA nv [[98], [99]] hn (by simp) (by intro x hx; simp at hx; rcases hx with rfl | rfl; exact nmB; exact nmC) (by have := th_st hst 0 (by omega); rw [show nmT 0 = [97] from rfl] at this; rw [this]; simpa using h0)
        rw [newer_st hst, show nameB [97] = ⟨#[97]⟩ from rfl] at this
        exact this)
      have HC0 := Lib.hid (fun (W' : World) (hb : Below wr.heap.size wr W') => (hb.cell (p := ⟨w1.heap.size + 1, 0, none⟩) hlt6).trans q0)
      have HOLD := Lib.hid HL.out.old
      obtain ⟨x0, h0⟩ : ∃ x0, t 0 = x0 := ⟨_, rfl⟩
      obtain ⟨x1, h1⟩ : ∃ x1, t 1 = x1 := ⟨_, rfl⟩
      obtain ⟨x2, h2⟩ : ∃ x2, t 2 = x2 := ⟨_, rfl⟩
      rw [h0, h1, h2] at hw
      rw [h0] at q0 HC0 HNL
      rw [h1] at q1 HNL
      rw [h2] at q2 HNL
      have HWT := Lib.hid hw
      have ad1 := addk (w1.heap.size + 1) 0 1
      have ad2 := addk (w1.heap.size + 1) 0 2
      rw [Nat.zero_add] at ad1 ad2
      clear hsy hst h0 h1 h2 hw HL hlt6 HI
      by_cases hx0 : x0 = 0
      · subst hx0
        have HWB : Hid (wantT t = true) := by rw [Hid, HWT.out]; simp
        clear HNL
        go_wp2_with fail
        go_quiet (fail)
        go_wp2_with (first
          | (go_at_call 34; ((refine (HOL.out _ _ true (below_trans (below_drewN (Below.refl _ _) _) (below_alloc _ _)) (sl_bc _) HWB.out).mono ?_)); rintro e w6 ⟨rfl, h6⟩; have H6 := Lib.hid (below_trans (below_trans (below_drewN (Below.refl _ wr) _) (below_alloc _ _)) h6); have u0 := HC0.out _ H6.out; clear h6; simp only [])
          | (go_at_call 35; ((refine (HNL.out _ _ (below_trans H6.out (below_alloc _ _)) (sl_bc _) hx0).mono ?_)); rintro e w7 ⟨u, rfl, h7⟩; have H7 := Lib.hid (below_trans (below_trans H6.out (below_alloc _ _)) h7.old); obtain ⟨ua, uc, hu⟩ := h7.sls.len; rw [HLEN.out] at hu; subst hu; clear h7; simp only []))
        go_ret
        exact ⟨rfl, below_trans H0.out (HOLD.out.trans (H6.out.mono HOLD.out.size))⟩
      have hx0b : ((x0 : Int) == 0) = false := by simpa using hx0
      by_cases hx1 : x0 < x1
      · have hx1I : (x0 : Int) < (x1 : Int) := by omega
        have HWB : Hid (wantT t = true) := by rw [Hid, HWT.out]; simp [hx1]
        obtain ⟨ln, hln⟩ : ∃ ln, ((if x0 < x1 then [[98]] else []) ++ (if x0 < x2 then [[99]] else []) : List Bs).length = ln := ⟨_, rfl⟩
        have hln0 : 0 < ln := by rw [← hln, if_pos hx1]; simp
        have HLEN := Lib.hid hln
        clear hln
        go_wp2_with fail
        go_quiet (fail)
        go_wp2_with (first
          | (go_at_call 34; ((refine (HOL.out _ _ true (below_trans (below_drewN (Below.refl _ _) _) (below_alloc _ _)) (sl_bc _) HWB.out).mono ?_)); rintro e w6 ⟨rfl, h6⟩; have H6 := Lib.hid (below_trans (below_trans (below_drewN (Below.refl _ wr) _) (below_alloc _ _)) h6); have u0 := HC0.out _ H6.out; clear h6; simp only [])
          | (go_at_call 35; ((refine (HNL.out _ _ (below_trans H6.out (below_alloc _ _)) (sl_bc _) hx0).mono ?_)); rintro e w7 ⟨u, rfl, h7⟩; have H7 := Lib.hid (below_trans (below_trans H6.out (below_alloc _ _)) h7.old); obtain ⟨ua, uc, hu⟩ := h7.sls.len; rw [HLEN.out] at hu; subst hu; clear h7; simp only []))
        go_ret
        exact ⟨rfl, below_trans H0.out (HOLD.out.trans (H7.out.mono HOLD.out.size))⟩
      have hx1I : ¬ (x0 : Int) < (x1 : Int) := by omega
      by_cases hx2 : x0 < x2
      · have hx2I : (x0 : Int) < (x2 : Int) := by omega
        have HWB : Hid (wantT t = true) := by rw [Hid, HWT.out]; simp [hx2]
        obtain ⟨ln, hln⟩ : ∃ ln, ((if x0 < x1 then [[98]] else []) ++ (if x0 < x2 then [[99]] else []) : List Bs).length = ln := ⟨_, rfl⟩
        have hln0 : 0 < ln := by rw [← hln, if_pos hx2]; simp
        have HLEN := Lib.hid hln
        clear hln
        go_wp2_with fail
        go_quiet (fail)
        go_wp2_with (first
          | (go_at_call 34; ((refine (HOL.out _ _ true (below_trans (below_drewN (Below.refl _ _) _) (below_alloc _ _)) (sl_bc _) HWB.out).mono ?_)); rintro e w6 ⟨rfl, h6⟩; have H6 := Lib.hid (below_trans (below_trans (below_drewN (Below.refl _ wr) _) (below_alloc _ _)) h6); have u0 := HC0.out _ H6.out; clear h6; simp only [])
          | (go_at_call 35; ((refine (HNL.out _ _ (below_trans H6.out (below_alloc _ _)) (sl_bc _) hx0).mono ?_)); rintro e w7 ⟨u, rfl, h7⟩; have H7 := Lib.hid (below_trans (below_trans H6.out (below_alloc _ _)) h7.old); obtain ⟨ua, uc, hu⟩ := h7.sls.len; rw [HLEN.out] at hu; subst hu; clear h7; simp only []))
        go_ret
        exact ⟨rfl, below_trans H0.out (HOLD.out.trans (H7.out.mono HOLD.out.size))⟩
      · have hx2I : ¬ (x0 : Int) < (x2 : Int) := by omega
        have HWB : Hid (wantT t = false) := by rw [Hid, HWT.out]; simp [hx0, hx1, hx2]
        have HLEN : Hid (((if x0 < x1 then [[98]] else []) ++ (if x0 < x2 then [[99]] else []) : List Bs).length = 0) := by rw [Hid, if_neg hx1, if_neg hx2]; rfl
        go_wp2_with fail
        go_quiet (fail)
        go_wp2_with (first
          | (go_at_call 34; ((refine (HOL.out _ _ false (below_trans (below_drewN (Below.refl _ _) _) (below_alloc _ _)) (sl_bc _) HWB.out).mono ?_)); rintro e w6 ⟨rfl, h6⟩; have H6 := Lib.hid (below_trans (below_trans (below_drewN (Below.refl _ wr) _) (below_alloc _ _)) h6); have u0 := HC0.out _ H6.out; clear h6; simp only [])
          | (go_at_call 35; ((refine (HNL.out _ _ (below_trans H6.out (below_alloc _ _)) (sl_bc _) hx0).mono ?_)); rintro e w7 ⟨u, rfl, h7⟩; have H7 := Lib.hid (below_trans (below_trans H6.out (below_alloc _ _)) h7.old); obtain ⟨ua, uc, hu⟩ := h7.sls.len; rw [HLEN.out] at hu; subst hu; clear h7; simp only []))
        go_ret
        exact ⟨rfl, below_trans H0.out (HOLD.out.trans (H7.out.mono HOLD.out.size))⟩
end Go.Proofs.YtjagnihkpgbjeaaDoor
