import Derived.Test.YtpgaeldjiiaoiaaXI
import Derived.Test.YtpgaeldjiiaoiaaVN
namespace Go.Proofs.Ytpgaeldjiiaoiaa
open Go.RowKit
set_option linter.unusedVariables false

/-- The cells of n pieces in block g. -/
def PR (w : World) (g n : Nat) (c : Nat → Nat → Value) : Prop := ∃ cur, w.heap[g]? = some (.cells cur 60 (0, 0)) ∧ ∀ j, j < n → ∀ q, q < 6 → cur[j * 6 + q]? = some (c j q)
theorem PR.cell {w : World} {g n : Nat} {c : Nat → Nat → Value} (h : PR w g n c) {j q : Nat} (hj : j < n) (hq : q < 6) : w.cell? ⟨g, j * 6 + q, none⟩ = some (c j q) := by
  obtain ⟨cur, h1, h2⟩ := h
  rw [cell_of_row _ _ _ _ _ _ h1]
  exact h2 j hj q hq
theorem PR.free {w : World} {g n : Nat} {c : Nat → Nat → Value} (h : PR w g n c) (k : Nat) : w.frozen? ⟨g, k, none⟩ = false := by
  obtain ⟨cur, h1, _⟩ := h
  unfold World.frozen?
  simp only [h1]
  rfl
theorem PR.set {w : World} {g n : Nat} {c c' : Nat → Nat → Value} (h : PR w g n c) {i p : Nat} (hi : i < n) (hp : p < 6) (u : Value) (e : ∀ j, j < n → ∀ q, q < 6 → c' j q = if j = i ∧ q = p then u else c j q) : PR (w.setCell ⟨g, i * 6 + p, none⟩ u) g n c' := by
  obtain ⟨cur, h1, h2⟩ := h
  refine ⟨cur.setIfInBounds (i * 6 + p) u, ?_, fun j hj q hq => ?_⟩
  · simp only [World.setCell, Array.getElem?_modify, h1]
    simp
  · obtain ⟨hsz, _⟩ := Array.getElem?_eq_some_iff.1 (h2 i hi p hp)
    rw [Array.getElem?_setIfInBounds, e j hj q hq]
    by_cases hjq : j = i ∧ q = p
    · obtain ⟨rfl, rfl⟩ := hjq
      simp [hsz]
    · rw [if_neg (by omega), if_neg hjq]; exact h2 j hj q hq
theorem PR.congr {w : World} {g n : Nat} {c c' : Nat → Nat → Value} (h : PR w g n c) (e : ∀ j, j < n → ∀ q, q < 6 → c j q = c' j q) : PR w g n c' := by
  obtain ⟨cur, h1, h2⟩ := h
  exact ⟨cur, h1, fun j hj q hq => by rw [h2 j hj q hq, e j hj q hq]⟩
def put6 (w : World) (g o : Nat) (u : Nat → Value) : World := (((((w.setCell ⟨g, o, none⟩ (u 0)).setCell ⟨g, o + 1, none⟩ (u 1)).setCell ⟨g, o + 2, none⟩ (u 2)).setCell ⟨g, o + 3, none⟩ (u 3)).setCell ⟨g, o + 4, none⟩ (u 4)).setCell ⟨g, o + 5, none⟩ (u 5)
theorem PR.put6 {w : World} {g n : Nat} {c : Nat → Nat → Value} (h : PR w g n c) {i : Nat} (hi : i < n) (u : Nat → Value) : PR (put6 w g (i * 6) u) g n (fun j q => if j = i then u q else c j q) := by
  have st : ∀ (w : World) (p : Nat), p < 6 → PR w g n (fun j q => if j = i ∧ q < p then u q else c j q) → PR (w.setCell ⟨g, i * 6 + p, none⟩ (u p)) g n (fun j q => if j = i ∧ q < p + 1 then u q else c j q) := fun w p hp h => h.set hi hp (u p) (fun j hj q hq => by
    by_cases h1 : j = i ∧ q = p
    · obtain ⟨rfl, rfl⟩ := h1; rw [if_pos ⟨rfl, by omega⟩, if_pos ⟨rfl, rfl⟩]
    · rw [if_neg h1]
      by_cases h2 : j = i ∧ q < p
      · rw [if_pos h2, if_pos ⟨h2.1, by omega⟩]
      · rw [if_neg h2, if_neg (by rintro ⟨rfl, h3⟩; exact h2 ⟨rfl, by have : q ≠ p := fun e => h1 ⟨rfl, e⟩; omega⟩)])
  have h0 : PR w g n (fun j q => if j = i ∧ q < 0 then u q else c j q) := by
    obtain ⟨cur, h1, h2⟩ := h
    exact ⟨cur, h1, fun j hj q hq => by simp only [Nat.not_lt_zero, and_false, if_false]; exact h2 j hj q hq⟩
  have h6 := st _ 5 (by omega) (st _ 4 (by omega) (st _ 3 (by omega) (st _ 2 (by omega) (st _ 1 (by omega) (st _ 0 (by omega) h0)))))
  obtain ⟨cur, h1, h2⟩ := h6
  exact ⟨cur, h1, fun j hj q hq => by
    rw [h2 j hj q hq]
    by_cases hji : j = i
    · simp [hji]; intro h; omega
    · simp [hji]⟩
/-- A piece's cells. -/
def cp (p : Pc) : Nat → Value
  | 0 => .int .i64 p.kind
  | 1 => .int .u8 p.ch.toNat
  | 2 => .int .u64 (p.v 0)
  | 3 => .int .u64 (p.v 1)
  | 4 => .int .u64 (p.v 2)
  | _ => .int .u64 (p.v 3)
theorem put6_grown {a w : World} {g o : Nat} {u : Nat → Value} (h : a.grownBy w (some g)) : a.grownBy (put6 w g o u) (some g) :=
  gb_set (gb_set (gb_set (gb_set (gb_set (gb_set h _ _) _ _) _ _) _ _) _ _) _ _
set_option maxRecDepth 100000 in
set_option maxHeartbeats 4000000 in
theorem Reverse_any (g n C : Nat) (pf : Nat → Pc) (w : World) (hn : n ≤ 100000) (hR : PR w g n (fun j => cp (pf j))) :
    Calls Try.prog 30 #[.slice (some ⟨g, 0, none⟩) n C] w fun e w' => e = .returned (.tuple #[]) ∧ PR w' g n (fun j => cp (pf (n - 1 - j))) ∧ w.grownBy w' (some g) := by
  have HR := Lib.hid hR
  have hl0 : (0 : Int) ≤ (n : Int) := by omega
  have hl1 : (n : Int) ≤ 100000 := by omega
  have e1 : IntKind.i64.wrap ((n : Int) - 1) = (n : Int) - 1 := by rw [IntKind.wrap_i64]; omega
  clear hR
  go_enter Try.func30, Try.ntmps30
  go_wp2_with fail
  go_loopw [2, 3] (fun x y wr => ∃ i j : Nat, i + j = n ∧ x = .int .i64 i ∧ y = .int .i64 ((j : Int) - 1) ∧ Hid (PR wr g n (fun k q => if i ≤ k ∧ k < j then cp (pf k) q else cp (pf (n - 1 - k)) q)) ∧ Hid (w.grownBy wr (some g))) (fun x y _ => (intOf y - intOf x + 1).toNat)
  case atStart => exact ⟨0, n, by omega, rfl, rfl, by
    obtain ⟨cur, h1, h2⟩ := HR.out
    exact ⟨cur, h1, fun j hj q hq => by simp only [Nat.zero_le, hj, and_self, if_true]; exact h2 j hj q hq⟩, gb_refl _ _⟩
  case round =>
    obtain ⟨i, j, hij, rfl, rfl, HP, HG⟩ := hrel
    by_cases hlt : i + 1 < j
    · obtain ⟨m, rfl⟩ : ∃ m, j = m + 1 := ⟨j - 1, by omega⟩
      have e2 : (((m + 1 : Nat) : Int) - 1) = (m : Int) := by omega
      rw [e2]
      have q1 : (i : Int) < (m : Int) := by omega
      have q2 : (0 : Int) ≤ (i : Int) := by omega
      have q3 : (i : Int) < (n : Int) := by omega
      have q4 : (0 : Int) ≤ (m : Int) := by omega
      have q5 : (m : Int) < (n : Int) := by omega
      have q6 : (m : Int) ≤ 100000 := by omega
      go_wp2_with fail
      refine wp_region_wrote 13 1 1 28 _ (by kernel_rfl) (by kernel_rfl) (by kernel_rfl) (by kernel_rfl) (Nat.le_refl 28) rfl ?_
      have HP1 : Hid (PR wr.drew g n (fun k q => if i ≤ k ∧ k < m + 1 then cp (pf k) q else cp (pf (n - 1 - k)) q)) := HP.out
      have HG1 : Hid (w.grownBy wr.drew (some g)) := gb_drew HG.out
      generalize wr.drew = wz at HP1 HG1 ⊢
      have hA := fun q hq => HP1.out.cell (j := i) (q := q) (by omega) hq
      have hM := fun q hq => HP1.out.cell (j := m) (q := q) (by omega) hq
      simp only [show i ≤ i ∧ i < m + 1 from ⟨Nat.le_refl _, by omega⟩, and_self, if_true] at hA
      simp only [show i ≤ m ∧ m < m + 1 from ⟨by omega, by omega⟩, and_self, if_true] at hM
      have a0 : ∀ b : One wz, b.v.cell? ⟨g, i * 6, none⟩ = some (.int .i64 (pf i).kind) := fun b => by rw [b.h]; exact hA 0 (by omega)
      have a1 : ∀ b : One wz, b.v.cell? ⟨g, i * 6 + 1, none⟩ = some (.int .u8 (pf i).ch.toNat) := fun b => by rw [b.h]; exact hA 1 (by omega)
      have a2 : ∀ b : One wz, b.v.cell? ⟨g, i * 6 + 2, none⟩ = some (.int .u64 ((pf i).v 0)) := fun b => by rw [b.h]; exact hA 2 (by omega)
      have a3 : ∀ b : One wz, b.v.cell? ⟨g, i * 6 + 3, none⟩ = some (.int .u64 ((pf i).v 1)) := fun b => by rw [b.h]; exact hA 3 (by omega)
      have a4 : ∀ b : One wz, b.v.cell? ⟨g, i * 6 + 4, none⟩ = some (.int .u64 ((pf i).v 2)) := fun b => by rw [b.h]; exact hA 4 (by omega)
      have a5 : ∀ b : One wz, b.v.cell? ⟨g, i * 6 + 5, none⟩ = some (.int .u64 ((pf i).v 3)) := fun b => by rw [b.h]; exact hA 5 (by omega)
      have m0 : ∀ b : One wz, b.v.cell? ⟨g, m * 6, none⟩ = some (.int .i64 (pf m).kind) := fun b => by rw [b.h]; exact hM 0 (by omega)
      have m1 : ∀ b : One wz, b.v.cell? ⟨g, m * 6 + 1, none⟩ = some (.int .u8 (pf m).ch.toNat) := fun b => by rw [b.h]; exact hM 1 (by omega)
      have m2 : ∀ b : One wz, b.v.cell? ⟨g, m * 6 + 2, none⟩ = some (.int .u64 ((pf m).v 0)) := fun b => by rw [b.h]; exact hM 2 (by omega)
      have m3 : ∀ b : One wz, b.v.cell? ⟨g, m * 6 + 3, none⟩ = some (.int .u64 ((pf m).v 1)) := fun b => by rw [b.h]; exact hM 3 (by omega)
      have m4 : ∀ b : One wz, b.v.cell? ⟨g, m * 6 + 4, none⟩ = some (.int .u64 ((pf m).v 2)) := fun b => by rw [b.h]; exact hM 4 (by omega)
      have m5 : ∀ b : One wz, b.v.cell? ⟨g, m * 6 + 5, none⟩ = some (.int .u64 ((pf m).v 3)) := fun b => by rw [b.h]; exact hM 5 (by omega)
      clear hA hM
      unfold isOne
      simp only [List.take_succ_cons, List.take_zero, List.drop_succ_cons, List.drop_zero]
      repeat (go_big_quiet_step (fail))
      refine wpQuiet_nil ?_
      clear a0 a1 a2 a3 a4 a5 m0 m1 m2 m3 m4 m5
      refine ⟨by kernel_rfl, put6 wz g (i * 6) (cp (pf m)), ?_, ?_⟩
      · have f0 := HP1.out.free (i * 6)
        have f1 := HP1.out.free (i * 6 + 1)
        have f2 := HP1.out.free (i * 6 + 2)
        have f3 := HP1.out.free (i * 6 + 3)
        have f4 := HP1.out.free (i * 6 + 4)
        have f5 := HP1.out.free (i * 6 + 5)
        have hA := fun q hq => HP1.out.cell (j := i) (q := q) (by omega) hq
        simp only [show i ≤ i ∧ i < m + 1 from ⟨Nat.le_refl _, by omega⟩, and_self, if_true] at hA
        have a0 : wz.cell? ⟨g, i * 6, none⟩ = some (.int .i64 (pf i).kind) := hA 0 (by omega)
        have a1 : wz.cell? ⟨g, i * 6 + 1, none⟩ = some (.int .u8 (pf i).ch.toNat) := hA 1 (by omega)
        have a2 : wz.cell? ⟨g, i * 6 + 2, none⟩ = some (.int .u64 ((pf i).v 0)) := hA 2 (by omega)
        have a3 : wz.cell? ⟨g, i * 6 + 3, none⟩ = some (.int .u64 ((pf i).v 1)) := hA 3 (by omega)
        have a4 : wz.cell? ⟨g, i * 6 + 4, none⟩ = some (.int .u64 ((pf i).v 2)) := hA 4 (by omega)
        have a5 : wz.cell? ⟨g, i * 6 + 5, none⟩ = some (.int .u64 ((pf i).v 3)) := hA 5 (by omega)
        clear hA
        simp only [put6, cp]
        go_simp
      · have HP2 := Lib.hid (HP1.out.put6 (i := i) (by omega) (cp (pf m)))
        have HG2 := Lib.hid (put6_grown (o := i * 6) (u := cp (pf m)) HG1.out)
        generalize put6 wz g (i * 6) (cp (pf m)) = wy at HP2 HG2 ⊢
        simp only [Act.put]
        repeat (go_big_quiet_step (fail))
        refine wpQuiet_nil ?_
        refine ⟨?_, ?_⟩
        · go_big_quiet_step (fail)
          exact wpQuiet_nil rfl
        · have f0 := HP2.out.free (m * 6)
          have f1 := HP2.out.free (m * 6 + 1)
          have f2 := HP2.out.free (m * 6 + 2)
          have f3 := HP2.out.free (m * 6 + 3)
          have f4 := HP2.out.free (m * 6 + 4)
          have f5 := HP2.out.free (m * 6 + 5)
          have hA := fun q hq => HP2.out.cell (j := m) (q := q) (by omega) hq
          simp only [show ¬ m = i by omega, if_false] at hA
          simp only [show i ≤ m ∧ m < m + 1 from ⟨by omega, by omega⟩, and_self, if_true] at hA
          have a0 : wy.cell? ⟨g, m * 6, none⟩ = some (.int .i64 (pf m).kind) := hA 0 (by omega)
          have a1 : wy.cell? ⟨g, m * 6 + 1, none⟩ = some (.int .u8 (pf m).ch.toNat) := hA 1 (by omega)
          have a2 : wy.cell? ⟨g, m * 6 + 2, none⟩ = some (.int .u64 ((pf m).v 0)) := hA 2 (by omega)
          have a3 : wy.cell? ⟨g, m * 6 + 3, none⟩ = some (.int .u64 ((pf m).v 1)) := hA 3 (by omega)
          have a4 : wy.cell? ⟨g, m * 6 + 4, none⟩ = some (.int .u64 ((pf m).v 2)) := hA 4 (by omega)
          have a5 : wy.cell? ⟨g, m * 6 + 5, none⟩ = some (.int .u64 ((pf m).v 3)) := hA 5 (by omega)
          clear hA
          have HP3 : Hid (PR (put6 wy g (m * 6) (cp (pf i))) g n (fun k q => if i + 1 ≤ k ∧ k < m then cp (pf k) q else cp (pf (n - 1 - k)) q)) := (HP2.out.put6 (i := m) (by omega) (cp (pf i))).congr (fun k hk q hq => by
            by_cases h1 : k = m
            · rw [if_pos h1, if_neg (by omega), show n - 1 - k = i by omega]
            · rw [if_neg h1]
              by_cases h2 : k = i
              · rw [if_pos h2, if_neg (by omega), show n - 1 - k = m by omega]
              · rw [if_neg h2]
                by_cases h3 : i ≤ k ∧ k < m + 1
                · rw [if_pos h3, if_pos (by omega)]
                · rw [if_neg h3, if_neg (by omega)])
          have HG3 := Lib.hid (put6_grown (o := m * 6) (u := cp (pf i)) HG2.out)
          go_wp2_with fail
          refine wpQuiet_nil ?_
          go_wp2_with fail
          exact ⟨⟨i + 1, m, by omega, by go_num, rfl, HP3.out, HG3.out⟩, by simp [intOf]; omega⟩
    · have q1 : ¬ (i : Int) < (j : Int) - 1 := by omega
      have HE : Hid (PR wr g n (fun j => cp (pf (n - 1 - j)))) := HP.out.congr (fun k hk q hq => by
        by_cases h3 : i ≤ k ∧ k < j
        · rw [if_pos h3, show n - 1 - k = k by omega]
        · rw [if_neg h3])
      go_wp2_with fail
      go_end0
      exact ⟨rfl, HE.out, HG.out⟩
end Go.Proofs.Ytpgaeldjiiaoiaa
