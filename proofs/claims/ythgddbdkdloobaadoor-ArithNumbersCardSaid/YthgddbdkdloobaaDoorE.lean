import Derived.Test.YthgddbdkdloobaaDoorD
import Derived.Test.YthgddbdkdloobaaDoorZ
namespace Go.Proofs.YthgddbdkdloobaaDoor
open Go.RowKit
set_option linter.unusedVariables false

theorem below_drewN {B : Nat} {a w : World} (h : Below B a w) (n : Nat) : Below B a (w.drewN n) := ⟨h.os, h.tape, h.output, h.size, h.block⟩
/-! All that was there stands as it stood, but block B. -/
structure Kp (B : Nat) (w w' : World) : Prop where
  os : w'.os = w.os
  tape : w'.tape = w.tape
  output : w'.output = w.output
  size : w.heap.size ≤ w'.heap.size
  block : ∀ k, k < w.heap.size → k ≠ B → w'.heap[k]? = w.heap[k]?
theorem Kp.refl (B : Nat) (w : World) : Kp B w w := ⟨rfl, rfl, rfl, Nat.le_refl _, fun _ _ _ => rfl⟩
theorem Kp.trans {B : Nat} {a b c : World} (h : Kp B a b) (k : Kp B b c) : Kp B a c :=
  ⟨k.os.trans h.os, k.tape.trans h.tape, k.output.trans h.output, Nat.le_trans h.size k.size, fun i hi hb => (k.block i (Nat.lt_of_lt_of_le hi h.size) hb).trans (h.block i hi hb)⟩
theorem Kp.of_below {B : Nat} {a b : World} (h : Below a.heap.size a b) : Kp B a b :=
  ⟨h.os, h.tape, h.output, h.size, fun k hk _ => h.block k hk⟩
theorem Kp.setCell (B k : Nat) (w : World) (v : Value) : Kp B w (w.setCell ⟨B, k, none⟩ v) :=
  ⟨rfl, rfl, rfl, by simp [World.setCell], fun i _ hb => Below.heap_setCell _ _ _ _ hb⟩
theorem Kp.drewN (B : Nat) (w : World) (n : Nat) : Kp B w (w.drewN n) := Kp.of_below (below_drewN (Below.refl _ _) n)
theorem Kp.cell {B : Nat} {w w' : World} (h : Kp B w w') {p : Addr} (h1 : p.block < w.heap.size) (h2 : p.block ≠ B) : w'.cell? p = w.cell? p := by
  unfold World.cell?
  rw [h.block _ h1 h2]
theorem Kp.frozen {B : Nat} {w w' : World} (h : Kp B w w') {p : Addr} (h1 : p.block < w.heap.size) (h2 : p.block ≠ B) : w'.frozen? p = w.frozen? p := by
  unfold World.frozen?
  rw [h.block _ h1 h2]
/-- Behind a block of the call's own. -/
theorem Kp.below {N B : Nat} {w a b : World} (h : Kp B a b) (hw : Below N w a) (h1 : N ≤ a.heap.size) (h2 : N ≤ B) : Below N w b :=
  hw.trans ⟨h.os, h.tape, h.output, h.size, fun k hk => h.block k (by omega) (by omega)⟩
theorem fz_set (w : World) (a p : Addr) (v : Value) : (w.setCell a v).frozen? p = w.frozen? p := by simp

/-! The program's reader, and the reference's. -/
theorem cell_lt {w : World} {p : Addr} {v : Value} (h : w.cell? p = some v) : p.block < w.heap.size := by
  by_cases hlt : p.block < w.heap.size
  · exact hlt
  · unfold World.cell? at h
    rw [Array.getElem?_eq_none (by omega)] at h
    cases h
structure Rd (w : World) (B : Nat) (s : ByteArray) (pv : Value) (p d : Nat) (z : Bool) : Prop where
  c0 : w.cell? ⟨B, 0, none⟩ = some (.string s)
  c1 : w.cell? ⟨B, 1, none⟩ = some (.int .i64 p)
  c2 : w.cell? ⟨B, 2, none⟩ = some pv
  c3 : w.cell? ⟨B, 3, none⟩ = some (.int .i64 d)
  c4 : w.cell? ⟨B, 4, none⟩ = some (.bool z)
  f1 : w.frozen? ⟨B, 1, none⟩ = false
  f3 : w.frozen? ⟨B, 3, none⟩ = false
  f4 : w.frozen? ⟨B, 4, none⟩ = false
structure Rf (w : World) (B : Nat) (s : ByteArray) (pv : Value) (p d : Nat) (e : Nat) (z : Bool) : Prop where
  c0 : w.cell? ⟨B, 0, none⟩ = some (.string s)
  c1 : w.cell? ⟨B, 1, none⟩ = some pv
  c2 : w.cell? ⟨B, 2, none⟩ = some (.int .i64 p)
  c3 : w.cell? ⟨B, 3, none⟩ = some (.int .i64 d)
  c4 : w.cell? ⟨B, 4, none⟩ = some (.int .i64 e)
  c5 : w.cell? ⟨B, 5, none⟩ = some (.bool z)
  f2 : w.frozen? ⟨B, 2, none⟩ = false
  f3 : w.frozen? ⟨B, 3, none⟩ = false
  f4 : w.frozen? ⟨B, 4, none⟩ = false
  f5 : w.frozen? ⟨B, 5, none⟩ = false
theorem Rd.set1 {w : World} {B : Nat} {s : ByteArray} {pv : Value} {p : Nat} {d : Nat} {z : Bool} (h : Rd w B s pv p d z) (q : Nat) : Rd (w.setCell ⟨B, 1, none⟩ (.int .i64 q)) B s pv q d z :=
  ⟨(World.cell?_setCell_other _ _ _ _ (by intro e; cases e)).trans h.c0, World.cell?_setCell_same _ _ _ h.c1, (World.cell?_setCell_other _ _ _ _ (by intro e; cases e)).trans h.c2, (World.cell?_setCell_other _ _ _ _ (by intro e; cases e)).trans h.c3, (World.cell?_setCell_other _ _ _ _ (by intro e; cases e)).trans h.c4, (fz_set _ _ _ _).trans h.f1, (fz_set _ _ _ _).trans h.f3, (fz_set _ _ _ _).trans h.f4⟩
theorem Rd.set3 {w : World} {B : Nat} {s : ByteArray} {pv : Value} {p : Nat} {d : Nat} {z : Bool} (h : Rd w B s pv p d z) (q : Nat) : Rd (w.setCell ⟨B, 3, none⟩ (.int .i64 q)) B s pv p q z :=
  ⟨(World.cell?_setCell_other _ _ _ _ (by intro e; cases e)).trans h.c0, (World.cell?_setCell_other _ _ _ _ (by intro e; cases e)).trans h.c1, (World.cell?_setCell_other _ _ _ _ (by intro e; cases e)).trans h.c2, World.cell?_setCell_same _ _ _ h.c3, (World.cell?_setCell_other _ _ _ _ (by intro e; cases e)).trans h.c4, (fz_set _ _ _ _).trans h.f1, (fz_set _ _ _ _).trans h.f3, (fz_set _ _ _ _).trans h.f4⟩
theorem Rd.set4 {w : World} {B : Nat} {s : ByteArray} {pv : Value} {p : Nat} {d : Nat} {z : Bool} (h : Rd w B s pv p d z) (q : Bool) : Rd (w.setCell ⟨B, 4, none⟩ (.bool q)) B s pv p d q :=
  ⟨(World.cell?_setCell_other _ _ _ _ (by intro e; cases e)).trans h.c0, (World.cell?_setCell_other _ _ _ _ (by intro e; cases e)).trans h.c1, (World.cell?_setCell_other _ _ _ _ (by intro e; cases e)).trans h.c2, (World.cell?_setCell_other _ _ _ _ (by intro e; cases e)).trans h.c3, World.cell?_setCell_same _ _ _ h.c4, (fz_set _ _ _ _).trans h.f1, (fz_set _ _ _ _).trans h.f3, (fz_set _ _ _ _).trans h.f4⟩
theorem Rd.drewN {w : World} {B : Nat} {s : ByteArray} {pv : Value} {p : Nat} {d : Nat} {z : Bool} (h : Rd w B s pv p d z) (n : Nat) : Rd (w.drewN n) B s pv p d z := ⟨h.c0, h.c1, h.c2, h.c3, h.c4, h.f1, h.f3, h.f4⟩
theorem Rd.lt {w : World} {B : Nat} {s : ByteArray} {pv : Value} {p : Nat} {d : Nat} {z : Bool} (h : Rd w B s pv p d z) : B < w.heap.size := cell_lt h.c0
theorem Rd.below {w w' : World} {B : Nat} {s : ByteArray} {pv : Value} {p : Nat} {d : Nat} {z : Bool} (h : Rd w B s pv p d z) (hB : Below w.heap.size w w') : Rd w' B s pv p d z :=
  ⟨(hB.cell (p := ⟨B, 0, none⟩) h.lt).trans h.c0, (hB.cell (p := ⟨B, 1, none⟩) h.lt).trans h.c1, (hB.cell (p := ⟨B, 2, none⟩) h.lt).trans h.c2, (hB.cell (p := ⟨B, 3, none⟩) h.lt).trans h.c3, (hB.cell (p := ⟨B, 4, none⟩) h.lt).trans h.c4, (hB.frozen (p := ⟨B, 1, none⟩) h.lt).trans h.f1, (hB.frozen (p := ⟨B, 3, none⟩) h.lt).trans h.f3, (hB.frozen (p := ⟨B, 4, none⟩) h.lt).trans h.f4⟩
theorem Rf.set2 {w : World} {B : Nat} {s : ByteArray} {pv : Value} {p : Nat} {d : Nat} {e : Nat} {z : Bool} (h : Rf w B s pv p d e z) (q : Nat) : Rf (w.setCell ⟨B, 2, none⟩ (.int .i64 q)) B s pv q d e z :=
  ⟨(World.cell?_setCell_other _ _ _ _ (by intro e; cases e)).trans h.c0, (World.cell?_setCell_other _ _ _ _ (by intro e; cases e)).trans h.c1, World.cell?_setCell_same _ _ _ h.c2, (World.cell?_setCell_other _ _ _ _ (by intro e; cases e)).trans h.c3, (World.cell?_setCell_other _ _ _ _ (by intro e; cases e)).trans h.c4, (World.cell?_setCell_other _ _ _ _ (by intro e; cases e)).trans h.c5, (fz_set _ _ _ _).trans h.f2, (fz_set _ _ _ _).trans h.f3, (fz_set _ _ _ _).trans h.f4, (fz_set _ _ _ _).trans h.f5⟩
theorem Rf.set3 {w : World} {B : Nat} {s : ByteArray} {pv : Value} {p : Nat} {d : Nat} {e : Nat} {z : Bool} (h : Rf w B s pv p d e z) (q : Nat) : Rf (w.setCell ⟨B, 3, none⟩ (.int .i64 q)) B s pv p q e z :=
  ⟨(World.cell?_setCell_other _ _ _ _ (by intro e; cases e)).trans h.c0, (World.cell?_setCell_other _ _ _ _ (by intro e; cases e)).trans h.c1, (World.cell?_setCell_other _ _ _ _ (by intro e; cases e)).trans h.c2, World.cell?_setCell_same _ _ _ h.c3, (World.cell?_setCell_other _ _ _ _ (by intro e; cases e)).trans h.c4, (World.cell?_setCell_other _ _ _ _ (by intro e; cases e)).trans h.c5, (fz_set _ _ _ _).trans h.f2, (fz_set _ _ _ _).trans h.f3, (fz_set _ _ _ _).trans h.f4, (fz_set _ _ _ _).trans h.f5⟩
theorem Rf.set4 {w : World} {B : Nat} {s : ByteArray} {pv : Value} {p : Nat} {d : Nat} {e : Nat} {z : Bool} (h : Rf w B s pv p d e z) (q : Nat) : Rf (w.setCell ⟨B, 4, none⟩ (.int .i64 q)) B s pv p d q z :=
  ⟨(World.cell?_setCell_other _ _ _ _ (by intro e; cases e)).trans h.c0, (World.cell?_setCell_other _ _ _ _ (by intro e; cases e)).trans h.c1, (World.cell?_setCell_other _ _ _ _ (by intro e; cases e)).trans h.c2, (World.cell?_setCell_other _ _ _ _ (by intro e; cases e)).trans h.c3, World.cell?_setCell_same _ _ _ h.c4, (World.cell?_setCell_other _ _ _ _ (by intro e; cases e)).trans h.c5, (fz_set _ _ _ _).trans h.f2, (fz_set _ _ _ _).trans h.f3, (fz_set _ _ _ _).trans h.f4, (fz_set _ _ _ _).trans h.f5⟩
theorem Rf.set5 {w : World} {B : Nat} {s : ByteArray} {pv : Value} {p : Nat} {d : Nat} {e : Nat} {z : Bool} (h : Rf w B s pv p d e z) (q : Bool) : Rf (w.setCell ⟨B, 5, none⟩ (.bool q)) B s pv p d e q :=
  ⟨(World.cell?_setCell_other _ _ _ _ (by intro e; cases e)).trans h.c0, (World.cell?_setCell_other _ _ _ _ (by intro e; cases e)).trans h.c1, (World.cell?_setCell_other _ _ _ _ (by intro e; cases e)).trans h.c2, (World.cell?_setCell_other _ _ _ _ (by intro e; cases e)).trans h.c3, (World.cell?_setCell_other _ _ _ _ (by intro e; cases e)).trans h.c4, World.cell?_setCell_same _ _ _ h.c5, (fz_set _ _ _ _).trans h.f2, (fz_set _ _ _ _).trans h.f3, (fz_set _ _ _ _).trans h.f4, (fz_set _ _ _ _).trans h.f5⟩
theorem Rf.drewN {w : World} {B : Nat} {s : ByteArray} {pv : Value} {p : Nat} {d : Nat} {e : Nat} {z : Bool} (h : Rf w B s pv p d e z) (n : Nat) : Rf (w.drewN n) B s pv p d e z := ⟨h.c0, h.c1, h.c2, h.c3, h.c4, h.c5, h.f2, h.f3, h.f4, h.f5⟩
theorem Rf.lt {w : World} {B : Nat} {s : ByteArray} {pv : Value} {p : Nat} {d : Nat} {e : Nat} {z : Bool} (h : Rf w B s pv p d e z) : B < w.heap.size := cell_lt h.c0
theorem Rf.below {w w' : World} {B : Nat} {s : ByteArray} {pv : Value} {p : Nat} {d : Nat} {e : Nat} {z : Bool} (h : Rf w B s pv p d e z) (hB : Below w.heap.size w w') : Rf w' B s pv p d e z :=
  ⟨(hB.cell (p := ⟨B, 0, none⟩) h.lt).trans h.c0, (hB.cell (p := ⟨B, 1, none⟩) h.lt).trans h.c1, (hB.cell (p := ⟨B, 2, none⟩) h.lt).trans h.c2, (hB.cell (p := ⟨B, 3, none⟩) h.lt).trans h.c3, (hB.cell (p := ⟨B, 4, none⟩) h.lt).trans h.c4, (hB.cell (p := ⟨B, 5, none⟩) h.lt).trans h.c5, (hB.frozen (p := ⟨B, 2, none⟩) h.lt).trans h.f2, (hB.frozen (p := ⟨B, 3, none⟩) h.lt).trans h.f3, (hB.frozen (p := ⟨B, 4, none⟩) h.lt).trans h.f4, (hB.frozen (p := ⟨B, 5, none⟩) h.lt).trans h.f5⟩

/-! Operators between two. -/
theorem bne_int (a b : Int) : (a != b) = !(a == b) := rfl
set_option maxRecDepth 100000 in
set_option maxHeartbeats 4000000 in
theorem shift_any (a b : Int) (w : World) (left : Bool) : Calls Tryd.prog 41 #[.string (if left then ⟨#[60, 60]⟩ else ⟨#[62, 62]⟩), .int .i64 a, .int .i64 b] w fun e w' => e = .returned (.int .i64 (shf left a b)) ∧ w' = w := by
  obtain ⟨R, hR⟩ : ∃ R, shf left a b = R := ⟨_, rfl⟩
  rw [hR]
  have HR := Lib.hid hR
  clear hR
  by_cases h0 : 0 ≤ b
  · by_cases h1 : b ≤ 63
    · cases left
      · have HE : Hid (a / 2 ^ b.toNat = R) := by rw [Hid, ← HR.out, shf, if_pos ⟨h0, h1⟩]; rfl
        simp only [Bool.false_eq_true, if_false]
        go_enter Tryd.func41, Tryd.ntmps41
        go_wp2_with fail
        go_ret
        exact ⟨by rw [← HE.out]; rfl, rfl⟩
      · have HE : Hid (wr (a * 2 ^ b.toNat) = R) := by rw [Hid, ← HR.out, shf, if_pos ⟨h0, h1⟩]; rfl
        simp only [if_true]
        go_enter Tryd.func41, Tryd.ntmps41
        go_wp2_with fail
        go_ret
        exact ⟨by rw [← HE.out]; rfl, rfl⟩
    · have h2 : decide (b ≤ 63) = false := by simpa using h1
      cases left
      · by_cases ha : a < 0
        · have HE : Hid (-1 = R) := by rw [Hid, ← HR.out, shf, if_neg (by rintro ⟨_, x⟩; exact h1 x), if_pos ha]; rfl
          simp only [Bool.false_eq_true, if_false]
          go_enter Tryd.func41, Tryd.ntmps41
          go_wp2_with fail
          go_ret
          exact ⟨by rw [← HE.out]; rfl, rfl⟩
        · have HE : Hid (0 = R) := by rw [Hid, ← HR.out, shf, if_neg (by rintro ⟨_, x⟩; exact h1 x), if_neg ha]; rfl
          have ha2 : decide (a < 0) = false := by simpa using ha
          simp only [Bool.false_eq_true, if_false]
          go_enter Tryd.func41, Tryd.ntmps41
          go_wp2_with fail
          go_ret
          exact ⟨by rw [← HE.out]; rfl, rfl⟩
      · have HE : Hid (0 = R) := by rw [Hid, ← HR.out, shf, if_neg (by rintro ⟨_, x⟩; exact h1 x)]; rfl
        simp only [if_true]
        go_enter Tryd.func41, Tryd.ntmps41
        go_wp2_with fail
        go_ret
        exact ⟨by rw [← HE.out]; rfl, rfl⟩
  · have h2 : decide (0 ≤ b) = false := by simpa using h0
    cases left
    · by_cases ha : a < 0
      · have HE : Hid (-1 = R) := by rw [Hid, ← HR.out, shf, if_neg (by rintro ⟨x, _⟩; exact h0 x), if_pos ha]; rfl
        simp only [Bool.false_eq_true, if_false]
        go_enter Tryd.func41, Tryd.ntmps41
        go_wp2_with fail
        go_ret
        exact ⟨by rw [← HE.out]; rfl, rfl⟩
      · have HE : Hid (0 = R) := by rw [Hid, ← HR.out, shf, if_neg (by rintro ⟨x, _⟩; exact h0 x), if_neg ha]; rfl
        have ha2 : decide (a < 0) = false := by simpa using ha
        simp only [Bool.false_eq_true, if_false]
        go_enter Tryd.func41, Tryd.ntmps41
        go_wp2_with fail
        go_ret
        exact ⟨by rw [← HE.out]; rfl, rfl⟩
    · have HE : Hid (0 = R) := by rw [Hid, ← HR.out, shf, if_neg (by rintro ⟨x, _⟩; exact h0 x)]; rfl
      simp only [if_true]
      go_enter Tryd.func41, Tryd.ntmps41
      go_wp2_with fail
      go_ret
      exact ⟨by rw [← HE.out]; rfl, rfl⟩
set_option maxRecDepth 100000 in
set_option maxHeartbeats 4000000 in
theorem Refshift_any (a b : Int) (w : World) (left : Bool) : Calls Tryd.prog 46 #[.int .i64 a, .int .i64 b, .bool left] w fun e w' => e = .returned (.int .i64 (shf left a b)) ∧ w' = w := by
  obtain ⟨R, hR⟩ : ∃ R, shf left a b = R := ⟨_, rfl⟩
  rw [hR]
  have HR := Lib.hid hR
  clear hR
  by_cases h0 : 0 ≤ b
  · by_cases h1 : b ≤ 63
    · cases left
      · have HE : Hid (a / 2 ^ b.toNat = R) := by rw [Hid, ← HR.out, shf, if_pos ⟨h0, h1⟩]; rfl
        go_enter Tryd.func46, Tryd.ntmps46
        go_wp2_with fail
        go_ret
        exact ⟨by rw [← HE.out]; rfl, rfl⟩
      · have HE : Hid (wr (a * 2 ^ b.toNat) = R) := by rw [Hid, ← HR.out, shf, if_pos ⟨h0, h1⟩]; rfl
        go_enter Tryd.func46, Tryd.ntmps46
        go_wp2_with fail
        go_ret
        exact ⟨by rw [← HE.out]; rfl, rfl⟩
    · have h2 : (63 : Int) < b := by omega
      cases left
      · by_cases ha : a < 0
        · have HE : Hid (-1 = R) := by rw [Hid, ← HR.out, shf, if_neg (by rintro ⟨_, x⟩; exact h1 x), if_pos ha]; rfl
          go_enter Tryd.func46, Tryd.ntmps46
          go_wp2_with fail
          go_ret
          exact ⟨by rw [← HE.out]; rfl, rfl⟩
        · have HE : Hid (0 = R) := by rw [Hid, ← HR.out, shf, if_neg (by rintro ⟨_, x⟩; exact h1 x), if_neg ha]; rfl
          have ha2 : decide (a < 0) = false := by simpa using ha
          go_enter Tryd.func46, Tryd.ntmps46
          go_wp2_with fail
          go_ret
          exact ⟨by rw [← HE.out]; rfl, rfl⟩
      · have HE : Hid (0 = R) := by rw [Hid, ← HR.out, shf, if_neg (by rintro ⟨_, x⟩; exact h1 x)]; rfl
        go_enter Tryd.func46, Tryd.ntmps46
        go_wp2_with fail
        go_ret
        exact ⟨by rw [← HE.out]; rfl, rfl⟩
  · have h2 : b < 0 := by omega
    cases left
    · by_cases ha : a < 0
      · have HE : Hid (-1 = R) := by rw [Hid, ← HR.out, shf, if_neg (by rintro ⟨x, _⟩; exact h0 x), if_pos ha]; rfl
        go_enter Tryd.func46, Tryd.ntmps46
        go_wp2_with fail
        go_ret
        exact ⟨by rw [← HE.out]; rfl, rfl⟩
      · have HE : Hid (0 = R) := by rw [Hid, ← HR.out, shf, if_neg (by rintro ⟨x, _⟩; exact h0 x), if_neg ha]; rfl
        have ha2 : decide (a < 0) = false := by simpa using ha
        go_enter Tryd.func46, Tryd.ntmps46
        go_wp2_with fail
        go_ret
        exact ⟨by rw [← HE.out]; rfl, rfl⟩
    · have HE : Hid (0 = R) := by rw [Hid, ← HR.out, shf, if_neg (by rintro ⟨x, _⟩; exact h0 x)]; rfl
      go_enter Tryd.func46, Tryd.ntmps46
      go_wp2_with fail
      go_ret
      exact ⟨by rw [← HE.out]; rfl, rfl⟩
end Go.Proofs.YthgddbdkdloobaaDoor
