import Derived.Test.YtpgaeldjiiaoiaaXB
namespace Go.Proofs.Ytpgaeldjiiaoiaa
open Go.RowKit
set_option linter.unusedVariables false

theorem cell_kept {w w' : World} {g b o : Nat} {u : Value} (h : w.cell? ⟨b, o, none⟩ = some u) (hg : w.grownBy w' (some g)) (hne : b ≠ g) : w'.cell? ⟨b, o, none⟩ = some u := by
  have hl : b < w.heap.size := World.block_lt_of_cell? w ⟨b, o, none⟩ h
  unfold World.cell? at h ⊢
  simp only at h ⊢
  rw [hg.block b hl (fun e => hne (Option.some.inj e))]
  exact h
theorem PcAt.kept {w w' : World} {g b o : Nat} {p : Pc} (h : PcAt w b o p) (hg : w.grownBy w' (some g)) (hne : b ≠ g) : PcAt w' b o p :=
  ⟨cell_kept h.c0 hg hne, cell_kept h.c1 hg hne, fun q hq => cell_kept (h.c2 q hq) hg hne, h.lt⟩
/-- The pieces, beside block g. -/
def Pcs (w : World) (v : Value) (ps : List Pc) (g : Nat) : Prop :=
  ∃ a cap, v = .slice a ps.length cap ∧ (∀ j (h : j < ps.length), ∃ b o, a = some ⟨b, o, none⟩ ∧ b ≠ g ∧ PcAt w b (o + j * 6) ps[j])
theorem Pcs.kept {w w' : World} {v : Value} {ps : List Pc} {g : Nat} (h : Pcs w v ps g) (hg : w.grownBy w' (some g)) : Pcs w' v ps g := by
  obtain ⟨a, cap, h1, h2⟩ := h
  refine ⟨a, cap, h1, fun j hj => ?_⟩
  obtain ⟨b, o, e1, e2, e3⟩ := h2 j hj
  exact ⟨b, o, e1, e2, e3.kept hg e2⟩
theorem star_sem {ps : List Pc} {P : List It} (hP : ps.map sem = P) {j : Nat} (h : j < ps.length) : star P j = (((ps[j].kind : Nat) : Int) == 3) := by
  unfold star
  rw [← hP, List.getElem?_map, List.getElem?_eq_getElem h]
  simp only [Option.map_some, sem]
  rw [Bool.eq_iff_iff, decide_eq_true_iff, beq_iff_eq]
  omega
theorem takes_sem {ps : List Pc} {P : List It} (hP : ps.map sem = P) {j : Nat} (h : j < ps.length) (c : UInt8) : takesAt P j c = tk ps[j] c := by
  unfold takesAt
  rw [← hP, List.getElem?_map, List.getElem?_eq_getElem h]
  rfl
set_option maxRecDepth 100000 in
set_option maxHeartbeats 4000000 in
theorem pass_any (v : Value) (ps : List Pc) (P : List It) (hP : ps.map sem = P) (g C : Nat) (f : Nat → Bool) (w : World) (hlen : ps.length ≤ 100000) (hS : Pcs w v ps g) (hR : BR w g (ps.length + 1) f) :
    Calls Try.prog 37 #[v, .slice (some ⟨g, 0, none⟩) (ps.length + 1) C] w fun e w' => e = .returned (.tuple #[]) ∧ BR w' g (ps.length + 1) (passF P f) ∧ w.grownBy w' (some g) := by
  have HS := Lib.hid hS
  obtain ⟨a, cap, rfl, _⟩ := hS
  have HP := Lib.hid hP
  have HR := Lib.hid hR
  have hl0 : (0 : Int) ≤ (ps.length : Int) := by omega
  have hl1 : (ps.length : Int) ≤ 100000 := by omega
  clear hP hR
  go_enter Try.func37, Try.ntmps37
  go_wp2_with fail
  go_loopw [7] (fun i wr => ∃ k : Nat, k ≤ ps.length ∧ i = .int .i64 k ∧ Hid (BR wr g (ps.length + 1) (fun j => if j ≤ k then passF P f j else f j)) ∧ Hid (w.grownBy wr (some g))) (fun i _ => ps.length - (intOf i).toNat)
  case atStart => exact ⟨0, by omega, rfl, HR.out.congr (fun j _ => by by_cases h : j = 0 <;> simp [h, passF]), gb_refl _ _⟩
  case round =>
    obtain ⟨k, hk, rfl, HB, HG⟩ := hrel
    by_cases hlt : k < ps.length
    · have hltI : (k : Int) < (ps.length : Int) := by omega
      have h0 : (0 : Int) ≤ (k : Int) := by omega
      have h1 : (k : Int) < (ps.length : Int) + 1 := by omega
      have h2 : (k : Int) + 1 < (ps.length : Int) + 1 := by omega
      have h3 : (0 : Int) ≤ (k : Int) + 1 := by omega
      have hc := HB.out.cell (k := k) (by omega)
      have hfr := HB.out.free (k + 1)
      have hcn := HB.out.cell (k := k + 1) (by omega)
      rw [if_neg (by omega)] at hcn
      rw [if_pos (Nat.le_refl k)] at hc
      obtain ⟨b, hb⟩ : ∃ b, passF P f k = b := ⟨_, rfl⟩
      rw [hb] at hc
      have HBB := Lib.hid hb
      clear hb
      have hnext : ∀ wr', BR wr' g (ps.length + 1) (fun j => if j ≤ k then passF P f j else if j = k + 1 then (f (k + 1) || (b && star P k)) else f j) → BR wr' g (ps.length + 1) (fun j => if j ≤ k + 1 then passF P f j else f j) := fun wr' h => h.congr (fun j _ => by
        by_cases hj : j ≤ k
        · rw [if_pos hj, if_pos (by omega)]
        · rw [if_neg hj]
          by_cases hj2 : j = k + 1
          · subst hj2; rw [if_pos rfl, if_pos (Nat.le_refl _), passF, HBB.out]
          · rw [if_neg hj2, if_neg (by omega)])
      cases b with
      | false =>
        have HN : Hid (BR wr g (ps.length + 1) (fun j => if j ≤ k + 1 then passF P f j else f j)) := hnext _ (HB.out.congr (fun j _ => by
          by_cases hj : j ≤ k
          · rw [if_pos hj, if_pos hj]
          · rw [if_neg hj, if_neg hj]
            by_cases hj2 : j = k + 1
            · subst hj2; rw [if_pos rfl]; simp
            · rw [if_neg hj2]))
        clear hnext
        go_wp2_with fail
        exact ⟨⟨k + 1, by omega, by go_num, HN.out, HG.out⟩, by simp [intOf]; omega⟩
      | true =>
        obtain ⟨a', cap', e1, hp⟩ := HS.out.kept HG.out
        obtain ⟨bb, o, e2, hne, hpc⟩ := hp k hlt
        injection e1 with e3 e4 e5
        subst e3
        subst e2
        have p0 := hpc.c0
        have hst := star_sem HP.out hlt
        obtain ⟨st, hs⟩ : ∃ st, star P k = st := ⟨_, rfl⟩
        rw [hs] at hst hnext
        obtain ⟨kd, hkd⟩ : ∃ kd, ps[k].kind = kd := ⟨_, rfl⟩
        rw [hkd] at p0 hst
        clear hpc hp hs hkd e4 e5
        cases st with
        | false =>
          have HN : Hid (BR wr g (ps.length + 1) (fun j => if j ≤ k + 1 then passF P f j else f j)) := hnext _ (HB.out.congr (fun j _ => by
            by_cases hj : j ≤ k
            · rw [if_pos hj, if_pos hj]
            · rw [if_neg hj, if_neg hj]
              by_cases hj2 : j = k + 1
              · subst hj2; rw [if_pos rfl]; simp
              · rw [if_neg hj2]))
          have hst' := hst.symm
          clear hnext hst
          go_wp2_with fail
          exact ⟨⟨k + 1, by omega, by go_num, HN.out, HG.out⟩, by simp [intOf]; omega⟩
        | true =>
          have HN : Hid (BR (wr.setCell ⟨g, k + 1, none⟩ (.bool true)) g (ps.length + 1) (fun j => if j ≤ k + 1 then passF P f j else f j)) := hnext _ (HB.out.set (k := k + 1) (by omega) true (fun j _ => by
            by_cases hj : j ≤ k
            · rw [if_pos hj, if_neg (by omega), if_pos hj]
            · rw [if_neg hj]
              by_cases hj2 : j = k + 1
              · subst hj2; rw [if_pos rfl, if_pos rfl]; simp
              · rw [if_neg hj2, if_neg hj2, if_neg hj]))
          have HG2 := Lib.hid (gb_set HG.out (k + 1) (.bool true))
          have hst' := hst.symm
          have e6 : IntKind.i64.wrap ((k : Int) + 1) = ((k + 1 : Nat) : Int) := by rw [IntKind.wrap_i64]; omega
          have h2' : ((k + 1 : Nat) : Int) < (ps.length : Int) + 1 := by omega
          clear hnext hst
          go_wp2_with fail
          exact ⟨⟨k + 1, by omega, by go_num, HN.out, HG2.out⟩, by simp [intOf]; omega⟩
    · have hltI : ¬ (k : Int) < (ps.length : Int) := by omega
      have HN : Hid (BR wr g (ps.length + 1) (passF P f)) := HB.out.congr (fun j hj => by rw [if_pos (by omega)])
      go_wp2_with fail
      go_end0
      exact ⟨rfl, HN.out, HG.out⟩
end Go.Proofs.Ytpgaeldjiiaoiaa
