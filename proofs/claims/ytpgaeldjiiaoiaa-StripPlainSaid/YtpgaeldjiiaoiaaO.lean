import Derived.Test.YtpgaeldjiiaoiaaN
namespace Go.Proofs.Ytpgaeldjiiaoiaa
open Go.RowKit

/-- The bytes f lie behind A. -/
def Rd (w : World) (A : Option Addr) (n : Nat) (f : Nat → UInt8) : Prop := 0 < n → ∃ ad, A = some ad ∧ ∀ i, i < n → w.cell? (ad.add i) = some (bv (f i))
theorem Rd.below {w w' : World} {A : Option Addr} {n : Nat} {f : Nat → UInt8} (h : Rd w A n f) {B : Nat} (hb : Below B w w') (hB : w.heap.size ≤ B) : Rd w' A n f := by
  intro hn
  obtain ⟨ad, e, hc⟩ := h hn
  refine ⟨ad, e, fun i hi => ?_⟩
  have := World.block_lt_of_cell? w _ (hc i hi)
  rw [hb.cell (by omega)]
  exact hc i hi

def loAt (ps : List (UInt8 × UInt8)) (i : Nat) : UInt8 := (ps.getD i (0, 0)).1
def hiAt (ps : List (UInt8 × UInt8)) (i : Nat) : UInt8 := (ps.getD i (0, 0)).2
theorem F_take (ps : List (UInt8 × UInt8)) (c i : Nat) (hi : i < ps.length) : F (ps.take (i + 1)) c = (F (ps.take i) c || (decide ((loAt ps i).toNat ≤ c) && decide (c ≤ (hiAt ps i).toNat))) := by
  rw [List.take_succ_eq_append_getElem hi]
  have : ps[i] = (loAt ps i, hiAt ps i) := by simp [loAt, hiAt, hi]
  rw [this]
  exact F_snoc _ _ _ _

def isB (k : Nat) (ch : UInt8) (nb : Bool) (ps : List (UInt8 × UInt8)) (c : UInt8) : Bool := if k = 0 then ch.toNat == c.toNat else if k = 2 then true else (F ps c.toNat != nb)

set_option maxRecDepth 100000 in
set_option maxHeartbeats 4000000 in
theorem is_any (k : Nat) (ch : UInt8) (nb : Bool) (A1 A2 : Option Addr) (C1 C2 : Nat) (ps : List (UInt8 × UInt8)) (c : UInt8) (w : World) (hps : ps.length ≤ 100000)
    (h1 : Rd w A1 ps.length (loAt ps)) (h2 : Rd w A2 ps.length (hiAt ps)) :
    Calls Try.prog 27 #[.agg #[.int .i64 k, .int .u8 ch.toNat, .bool nb, .slice A1 ps.length C1, .slice A2 ps.length C2], .int .u8 c.toNat] w fun e w' => e = .returned (.bool (isB k ch nb ps c)) ∧ Below w.heap.size w w' := by
  by_cases h0 : k = 0
  · have HT : Hid (isB k ch nb ps c = (ch.toNat == c.toNat)) := by unfold Hid isB; rw [if_pos h0]
    have h0' : ((k : Int) == 0) = true := by simp [h0]
    clear h0
    go_enter Try.func27, Try.ntmps27
    go_wp2_with fail
    go_ret
    refine ⟨?_, (Below.refl _ _).alloc (Nat.le_refl _) _⟩
    rw [HT.out]
    exact congrArg (fun x => Ending.returned (.bool x)) (show ((ch.toNat : Int) == (c.toNat : Int)) = (ch.toNat == c.toNat) from by rw [Bool.eq_iff_iff]; simp; omega)
  · have h0' : ((k : Int) == 0) = false := by simp [h0]
    by_cases h2' : k = 2
    · have h2'' : ((k : Int) == 2) = true := by simp [h2']
      have HT : Hid (isB k ch nb ps c = true) := by unfold Hid isB; rw [if_neg h0, if_pos h2']
      clear h0 h2'
      go_enter Try.func27, Try.ntmps27
      go_wp2_with fail
      go_ret
      refine ⟨?_, (Below.refl _ _).alloc (Nat.le_refl _) _⟩
      rw [HT.out]; rfl
    · have h2'' : ((k : Int) == 2) = false := by rw [beq_eq_false_iff_ne]; omega
      have HT : Hid (isB k ch nb ps c = (F ps c.toNat != nb)) := by unfold Hid isB; rw [if_neg h0, if_neg h2']
      clear h0 h2'
      have HR1 := Lib.hid h1
      have HR2 := Lib.hid h2
      go_enter Try.func27, Try.ntmps27
      go_wp2_with fail
      have hB : Below w.heap.size w (w.alloc (.cells #[.int .i64 k, .int .u8 ch.toNat, .bool nb, .slice A1 ps.length C1, .slice A2 ps.length C2] 37)) := (Below.refl _ _).alloc (Nat.le_refl _) _
      have hI : ItemIs (w.alloc (.cells #[.int .i64 k, .int .u8 ch.toNat, .bool nb, .slice A1 ps.length C1, .slice A2 ps.length C2] 37)) w.heap.size k ch nb (.slice A1 ps.length C1) (.slice A2 ps.length C2) := heap_alloc_new _ _
      have h1' := h1.below hB (Nat.le_refl _)
      have h2' := h2.below hB (Nat.le_refl _)
      generalize (w.alloc (.cells #[.int .i64 k, .int .u8 ch.toNat, .bool nb, .slice A1 ps.length C1, .slice A2 ps.length C2] 37)) = W at *
      obtain ⟨_, _, e2, e3, e4⟩ := hI.cell
      have HB := Lib.hid hB
      clear hI hB h1 h2 HR1 HR2
      go_loopw [5, 6] (fun b i wr => ∃ (j : Nat), i = .int .i64 j ∧ j ≤ ps.length ∧ b = .bool (F (ps.take j) c.toNat) ∧ wr = W) (fun _ i _ => ps.length - (intOf i).toNat)
      case atStart => exact ⟨0, rfl, by omega, rfl, rfl⟩
      case round =>
        obtain ⟨j, rfl, hj, rfl, rfl⟩ := hrel
        by_cases hlt : j < ps.length
        · obtain ⟨a1, rfl, q1⟩ := h1' (by omega)
          obtain ⟨a2, rfl, q2⟩ := h2' (by omega)
          have p1 := q1 j hlt
          have p2 := q2 j hlt
          unfold bv at p1 p2
          have HF := Lib.hid (F_take ps c.toNat j hlt)
          clear q1 q2
          generalize loAt ps j = x at *
          generalize hiAt ps j = y at *
          generalize F (ps.take j) c.toNat = fj at *
          by_cases l1 : x.toNat ≤ c.toNat
          · have l1' : (x.toNat : Int) ≤ (c.toNat : Int) := by omega
            by_cases l2 : c.toNat ≤ y.toNat
            · have l2' : (c.toNat : Int) ≤ (y.toNat : Int) := by omega
              have HG : Hid (F (ps.take (j + 1)) c.toNat = true) := by unfold Hid; rw [HF.out]; simp [l1, l2]
              cases fj <;> go_wp2_with fail
              all_goals exact ⟨⟨j + 1, by go_num, by omega, by rw [HG.out], trivial⟩, by simp [intOf]; omega⟩
            · have l2' : ¬ (c.toNat : Int) ≤ (y.toNat : Int) := by omega
              have HG : Hid (F (ps.take (j + 1)) c.toNat = fj) := by unfold Hid; rw [HF.out]; simp [l2]
              cases fj <;> go_wp2_with fail
              all_goals exact ⟨⟨j + 1, by go_num, by omega, by rw [HG.out], trivial⟩, by simp [intOf]; omega⟩
          · have l1' : ¬ (x.toNat : Int) ≤ (c.toNat : Int) := by omega
            have HG : Hid (F (ps.take (j + 1)) c.toNat = fj) := by unfold Hid; rw [HF.out]; simp [l1]
            cases fj <;> go_wp2_with fail
            all_goals exact ⟨⟨j + 1, by go_num, by omega, by rw [HG.out], trivial⟩, by simp [intOf]; omega⟩
        · have hjn : j = ps.length := by omega
          have HG : Hid (F (ps.take j) c.toNat = F ps c.toNat) := by unfold Hid; rw [hjn, List.take_length]
          go_wp2_with fail
          go_ret
          refine ⟨?_, HB.out⟩
          rw [HT.out, ← HG.out]; rfl
end Go.Proofs.Ytpgaeldjiiaoiaa
