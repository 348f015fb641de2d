import Derived.Test.YtjagnihkpgbjeaaDoorFE
import Derived.Test.YtjagnihkpgbjeaaDoorGF
namespace Go.Proofs.YtjagnihkpgbjeaaDoor
open Go.RowKit Go.Maps Go.ChangeMaps
set_option linter.unusedVariables false
/-! run where no rule has a recipe. -/
def plan0 : List Value := [.slice none 0 0, .slice none 0 0, .string ⟨#[]⟩, .bool false]
theorem fin50 {w1 : World} {a : Nat} {v0 v1 v2 v3 : Value} (hb : w1.heap[a]? = some (.cells [v0, v1, v2, v3].toArray 50 (0, 0))) (u0 u1 u2 u3 : Value) :
    ((((w1.setCell ⟨a, 0, none⟩ u0).setCell ⟨a, 1, none⟩ u1).setCell ⟨a, 2, none⟩ u2).setCell ⟨a, 3, none⟩ u3).heap[a]? = some (.cells [u0, u1, u2, u3].toArray 50 (0, 0)) := by
  have h0 := set_of hb 0 u0
  have h1 := set_of h0 1 u1
  have h2 := set_of h1 2 u2
  have h3 := set_of h2 3 u3
  exact h3
theorem box50 {w : World} {a : Nat} {v0 v1 v2 v3 : Value} (hb : w.heap[a]? = some (.cells [v0, v1, v2, v3].toArray 50 (0, 0))) :
    w.cell? ⟨a, 0, none⟩ = some v0 ∧ w.cell? ⟨a, 1, none⟩ = some v1 ∧ w.cell? ⟨a, 2, none⟩ = some v2 ∧ w.cell? ⟨a, 3, none⟩ = some v3 ∧ w.frozen? ⟨a, 0, none⟩ = false ∧ w.frozen? ⟨a, 1, none⟩ = false ∧ w.frozen? ⟨a, 2, none⟩ = false ∧ w.frozen? ⟨a, 3, none⟩ = false :=
  ⟨cell_of hb 0, cell_of hb 1, cell_of hb 2, cell_of hb 3, free_of hb 0, free_of hb 1, free_of hb 2, free_of hb 3⟩
theorem below_set {w w1 : World} {a : Nat} (h : Below w.heap.size w w1) (ha : w.heap.size ≤ a) (i : Nat) (u : Value) : Below w.heap.size w (w1.setCell ⟨a, i, none⟩ u) := h.setCell ha u
set_option maxRecDepth 100000 in
set_option maxHeartbeats 4000000 in
theorem run_none (sb : Nat) (ms rv : Value) (rs : List Rl) (w : World) (hv : RsV w rv rs) (hl : rs.length ≤ 1000) (hrc : ∀ r ∈ rs, r.rc = []) (hlt : sb < w.heap.size)
    (q0 : w.cell? ⟨sb, 0, none⟩ = some ms) (q1 : w.cell? ⟨sb, 1, none⟩ = some rv) (hms : ms.oneCell' = true) :
    Calls Tryd.prog 53 #[.pointer (some ⟨sb, 0, none⟩)] w fun e w' => e = .returned (.tuple #[.agg #[.slice none 0 0, .slice none 0 0, .string ⟨#[]⟩, .bool false], .bool false]) ∧ Below w.heap.size w w' := by
  obtain ⟨W, hW⟩ : ∃ W, w.alloc (.cells #[.slice none 0 0, .slice none 0 0, .string ⟨#[]⟩, .bool false] 50) = W := ⟨_, rfl⟩
  have hB : Below w.heap.size w W := hW ▸ below_alloc _ _
  have hblk : W.heap[w.heap.size]? = some (.cells [.slice none 0 0, .slice none 0 0, .string ⟨#[]⟩, .bool false].toArray 50 (0, 0)) := hW ▸ heap_alloc_new w _
  have hsz : w.heap.size < W.heap.size := by rw [← hW, size_alloc]; omega
  have HV := Lib.hid hv
  have HS := Lib.hid (fun (w' : World) (hb : Below w.heap.size w w') => Special_any ms rv rs ⟨#[46, 83, 85, 70, 70, 73, 88, 69, 83]⟩ w' (hv.below hb) hl)
  have HC0 := Lib.hid (fun (w' : World) (hb : Below w.heap.size w w') => (hb.cell (p := ⟨sb, 0, none⟩) hlt).trans q0)
  have HC1 := Lib.hid (fun (w' : World) (hb : Below w.heap.size w w') => (hb.cell (p := ⟨sb, 1, none⟩) hlt).trans q1)
  obtain ⟨a, c, rfl⟩ := hv.len
  obtain ⟨n, hn⟩ : ∃ n, rs.length = n := ⟨_, rfl⟩
  have HN := Lib.hid hn
  have HRC := Lib.hid hrc
  have HWW := Lib.hid hW
  have HB := Lib.hid hB
  have HBLK := Lib.hid hblk
  have HSZ := Lib.hid hsz
  rw [hn] at hl HV HS q1 HC1
  clear hv hrc hn hB hblk hsz hW
  go_enter Tryd.func53, Tryd.ntmps53
  go_wp2_with fail
  rw [HWW.out]
  go_loopw [19] (fun i wr => ∃ k : Nat, k ≤ n ∧ i = .int .i64 k ∧ Hid (Below W.heap.size W wr)) (fun i _ => n - (intOf i).toNat)
  case atStart => exact ⟨0, Nat.zero_le _, rfl, Below.refl _ _⟩
  case round =>
    obtain ⟨k, hk, rfl, HX⟩ := hrel
    by_cases hlt : k < n
    · have hltI : (k : Int) < (n : Int) := by omega
      have h0 : (0 : Int) ≤ (k : Int) := by omega
      have hlr : k < rs.length := by rw [HN.out]; exact hlt
      obtain ⟨g, off, a0, n0, c0, a1, n1, c1, a2, n2, c2, rfl, q0, q1, q2, hr⟩ := HV.out.get2 (HB.out.trans (HX.out.mono HB.out.size)) k hlr
      have hadd := addk3 g off k
      have hn2 : n2 = 0 := by
        obtain ⟨a', c', e⟩ := hr.k.len
        rw [HRC.out _ (List.getElem_mem hlr)] at e
        injection e
      subst hn2
      have HR3 := Lib.hid hr
      clear hr
      go_wp2_with fail
      exact ⟨⟨k + 1, by omega, by go_num, HX.out.trans ((below_alloc _ _).mono HX.out.size)⟩, by simp [intOf]; omega⟩
    · have hltI : ¬ (k : Int) < (n : Int) := by omega
      have p0 := HC0.out _ (HB.out.trans (HX.out.mono HB.out.size))
      have p1 := HC1.out _ (HB.out.trans (HX.out.mono HB.out.size))
      go_wp2_with (go_at_call 81; refine (HS.out _ (HB.out.trans (HX.out.mono HB.out.size))).mono ?_; rintro e w1 ⟨u, rfl, h1⟩; have H1 := Lib.hid (HB.out.trans ((below_trans HX.out h1.old).mono HB.out.size)); have HBX := Lib.hid (((below_trans HX.out h1.old).block _ HSZ.out).trans HBLK.out); obtain ⟨ua, un, uc, rfl⟩ := sl_form h1.sls; clear h1; have p0 := HC0.out _ H1.out; have p1 := HC1.out _ H1.out; simp only [])
      go_loopw [52] (fun i wr => ∃ k : Nat, k ≤ n ∧ i = .int .i64 k ∧ Hid (Below w1.heap.size w1 wr)) (fun i _ => n - (intOf i).toNat)
      case atStart => exact ⟨0, Nat.zero_le _, rfl, Below.refl _ _⟩
      case round =>
        obtain ⟨k, hk, rfl, HX⟩ := hrel
        by_cases hlt : k < n
        · have hltI : (k : Int) < (n : Int) := by omega
          have h0 : (0 : Int) ≤ (k : Int) := by omega
          have hlr : k < rs.length := by rw [HN.out]; exact hlt
          obtain ⟨g, off, a0, n0, c0, a1, n1, c1, a2, n2, c2, rfl, q0, q1, q2, hr⟩ := HV.out.get2 (H1.out.trans (HX.out.mono H1.out.size)) k hlr
          have hadd := addk3 g off k
          have hn2 : n2 = 0 := by
            obtain ⟨a', c', e⟩ := hr.k.len
            rw [HRC.out _ (List.getElem_mem hlr)] at e
            injection e
          subst hn2
          have HR3 := Lib.hid hr
          clear hr
          go_wp2_with fail
          exact ⟨⟨k + 1, by omega, by go_num, HX.out.trans ((below_alloc _ _).mono HX.out.size)⟩, by simp [intOf]; omega⟩
        · have hltI : ¬ (k : Int) < (n : Int) := by omega
          have hbx := (HX.out.block _ (World.block_lt_of_cell? _ _ (cell_of HBX.out 0))).trans HBX.out
          obtain ⟨z0, z1, z2, z3, y0, y1, y2, y3⟩ := box50 hbx
          have HFX := Lib.hid (fin50 (u0 := .slice none 0 0) (u1 := .slice none 0 0) (u2 := .string ⟨#[]⟩) (u3 := .bool false) hbx)
          have HOL : Hid (Below w.heap.size w wr) := H1.out.trans (HX.out.mono H1.out.size)
          clear hbx
          go_wp2_with fail
          have hf := HFX.out
          refine bodyPost_ret (v := .tuple #[.agg #[.slice none 0 0, .slice none 0 0, .string ⟨#[]⟩, .bool false], .bool false]) ?_ rfl ?_
          · obtain ⟨k0, k1, k2, k3, _⟩ := box50 hf
            simp [results, Tryd.results53, go_sem, k0, k1, k2, k3]
            try rfl
          · exact ⟨rfl, below_set (below_set (below_set (below_set HOL.out (Nat.le_refl _) _ _) (Nat.le_refl _) _ _) (Nat.le_refl _) _ _) (Nat.le_refl _) _ _⟩
end Go.Proofs.YtjagnihkpgbjeaaDoor
