import Derived.Test.YtkdacdbmlgffgaaG
namespace Go.Proofs.Ytkdacdbmlgffgaa
open Go.RowKit
set_option linter.unusedVariables false

theorem grow_row (L : List Pr) (p : Pr) (n k : Nat) (hn : L.length = n) (hk : k < n) (ZA R1 R2 : List Value) (hz : (n + 1) * 2 ≤ ZA.length) (h0 : ZA.take (k * 2) = pcells (L.take k))
    (h1 : R1 = ZA.take (k * 2) ++ pc2 p ++ ZA.drop (k * 2 + (pc2 p).length)) (h2 : R2 = R1.take ((k + 1) * 2) ++ pcells (L.drop k) ++ R1.drop ((k + 1) * 2 + (pcells (L.drop k)).length)) :
    R1.length = ZA.length ∧ R2.length = ZA.length ∧ R2.take ((n + 1) * 2) = pcells (L.take k ++ [p] ++ L.drop k) := by
  have hl : (pcells (L.drop k)).length = (n - k) * 2 := by rw [pcells_len, List.length_drop, hn]
  have hp : (pc2 p).length = 2 := rfl
  have hl1 : R1.length = ZA.length := by rw [h1]; simp [hp]; omega
  have e1 : R1.take ((k + 1) * 2) = pcells (L.take k ++ [p]) := by
    have hlt : (ZA.take (k * 2) ++ pc2 p).length = (k + 1) * 2 := by simp [hp]; omega
    rw [h1, ← hlt, List.take_left, h0, pcells_app, pcells_pc]
  have e3 : R2 = pcells (L.take k ++ [p] ++ L.drop k) ++ R1.drop ((k + 1) * 2 + (n - k) * 2) := by
    rw [h2, e1, hl]; simp only [pcells_app, List.append_assoc]
  refine ⟨hl1, ?_, ?_⟩
  · rw [e3]; simp [pcells_len]; omega
  · rw [e3, List.take_append_of_le_length, List.take_of_length_le]
    · rw [pcells_len]; simp; omega
    · rw [pcells_len]; simp; omega

set_option maxRecDepth 100000 in
set_option maxHeartbeats 4000000 in
theorem Insert_grow (w : World) (B b cap : Nat) (cur : Array Value) (L : List Pr) (hL : L.length ≤ 100000) (hg : w.heap[b]? = some (.cells cur 54 (0, 0))) (hB : B ≤ w.heap.size) (hcm : cap ≤ maxLen) (hcs : cur.size = cap * 2) (hnc : L.length ≤ cap) (ht : cur.toList.take (L.length * 2) = pcells L)
    (k : Nat) (hk : k < L.length) (hroom : cap < L.length + 1) (vb c : Nat) (p : Pr) (h1 : One w vb p) :
    Calls Try.prog 23 #[.slice (some ⟨b, 0, none⟩) L.length cap, .int .i64 k, .slice (some ⟨vb, 0, none⟩) 1 c] w (Insd B (.slice (some ⟨b, 0, none⟩) L.length cap) (L.take k ++ [p] ++ L.drop k) w) := by
  obtain ⟨i0, hi, hz0, hz1, hz2⟩ := info_parts info54
  obtain ⟨n, hn⟩ : ∃ n, L.length = n := ⟨_, rfl⟩
  rw [hn] at hL hk hroom ht hnc ⊢
  have hbw : b < w.heap.size := (Array.getElem?_eq_some_iff.1 hg).1
  have hvw : vb < w.heap.size := (Array.getElem?_eq_some_iff.1 h1.blk).1
  obtain ⟨cs, hcseq⟩ : ∃ cs, cs = pcells (L.drop k) := ⟨_, rfl⟩
  have hcl : cs.length = (n - k) * 2 := by rw [hcseq, pcells_len, List.length_drop, hn]
  have hone : ∀ u ∈ cs, u.oneCell' = true := by rw [hcseq]; exact pcells_one
  have hcell : ∀ j u, (pcells L)[j]? = some u → w.cell? ⟨b, j, none⟩ = some u := fun j u hj => by
    rw [← ht, List.getElem?_take] at hj
    split at hj
    · rw [cell_of_row w b j cur 54 (0, 0) hg]; simpa using hj
    · cases hj
  have hold : (Builtin.firstCells i0.size k (.slice (some ⟨b, 0, none⟩) k cap)).run Try.prog w.drew = .ok (pcells (L.take k)).toArray w.drew := by
    rw [hz1]
    exact run_firstCells_some w.drew 2 k ⟨b, 0, none⟩ k cap (pcells (L.take k)) (by rw [pcells_len, List.length_take]; omega) (fun j u hj => by
      rw [Addr.add_lit, Nat.zero_add]
      rw [pcells_take, List.getElem?_take] at hj
      split at hj
      · exact hcell j u hj
      · cases hj)
  obtain ⟨ZA, hZA⟩ : ∃ ZA : Array Value, ZA = (pcells (L.take k)).toArray ++ Builtin.zeroCells (Value.agg #[.string ⟨#[]⟩, .string ⟨#[]⟩]).cells (n + 1 - k) ++ Builtin.zeroCells (Value.agg #[.string ⟨#[]⟩, .string ⟨#[]⟩]).cells (grownCap w (n + 1) cap 54 - (n + 1)) := ⟨_, rfl⟩
  obtain ⟨G, hG⟩ : ∃ G, grownCap w (n + 1) cap 54 = G := ⟨_, rfl⟩
  have hGn : n + 1 ≤ G := by rw [← hG]; exact grownCap_ge w _ _ _
  have hGm : G ≤ maxLen := by rw [← hG]; exact grownCap_le_maxLen w (n + 1) cap 54 (by unfold maxLen; omega)
  have hkk : (n : Int) + 1 - (k : Int) = ((n + 1 - k : Nat) : Int) := by omega
  have hik : k + (n + 1 - k) = n + 1 := by omega
  have hrz : ∀ ty, (Builtin.append_ #[24, 3] ty #[.slice (some ⟨b, 0, none⟩) k cap, .int .i64 ((n : Int) + 1 - (k : Int))]).run Try.prog w =
      .ok (.slice (some ⟨w.heap.size, 0, none⟩) (n + 1) G) (w.drew.alloc (.cells ZA 54)) := fun ty => by
    have h := Lib.run_append_grow_zeros w 24 3 ty 54 i0 _ .i64 .i64 Try.underlying24 Try.underlying3 hi hz0 (some ⟨b, 0, none⟩) k cap (pcells (L.take k)) hold (n + 1 - k) (by omega) (by omega) (by omega) (by omega) (by rw [hz2]; omega) (by rw [hz2, hik]; exact growslice_fits hroom (by omega))
    rw [hik, hG] at h
    rw [hZA, hG, hkk]
    exact h
  rw [hG] at hZA
  have hzl : ZA.size = G * 2 := by
    rw [hZA]
    simp [Builtin.zeroCells, Value.cells, pcells_len]
    omega
  have hz0' : ZA.toList.take (k * 2) = pcells (L.take k) := by
    rw [hZA]
    simp only [Array.toList_append, List.append_assoc]
    rw [List.take_append_of_le_length (by simp [pcells_len]; omega), List.take_of_length_le (by simp [pcells_len]; omega)]
  obtain ⟨R1, hR1⟩ : ∃ R1, R1 = ZA.toList.take (k * 2) ++ pc2 p ++ ZA.toList.drop (k * 2 + (pc2 p).length) := ⟨_, rfl⟩
  obtain ⟨R2, hR2⟩ : ∃ R2, R2 = R1.take ((k + 1) * 2) ++ cs ++ R1.drop ((k + 1) * 2 + cs.length) := ⟨_, rfl⟩
  have hsh := grow_row L p n k hn hk ZA.toList R1 R2 (by simp [hzl]; omega) hz0' hR1 (by rw [hR2, hcseq])
  obtain ⟨W1, hW1⟩ : ∃ W1, W1 = w.drew.alloc (.cells ZA 54) := ⟨_, rfl⟩
  rw [← hW1] at hrz
  have hgA : W1.heap[w.heap.size]? = some (.cells ZA 54 (0, 0)) := by rw [hW1]; exact heap_alloc_new w.drew _
  have hvA : ∀ j u, (pc2 p)[j]? = some u → W1.cell? ((⟨vb, 0, none⟩ : Addr).add j) = some u := fun j u hj => by
    have h3 := h1.cells j u hj
    rw [Addr.add_lit] at h3 ⊢
    rw [← h3, hW1]
    exact World.cell?_of_block (heap_alloc_old w.drew _ hvw)
  have hbA : ∀ j u, cs[j]? = some u → W1.cell? ((⟨b, k * 2, none⟩ : Addr).add j) = some u := fun j u hj => by
    rw [hcseq, pcells_drop, List.getElem?_drop] at hj
    rw [Addr.add_lit, ← hcell _ u hj, hW1]
    exact World.cell?_of_block (heap_alloc_old w.drew _ hbw)
  have hcpA : ∀ ty dc, (Builtin.copy_ #[24, 24] ty #[.slice (some ⟨w.heap.size, k * 2, none⟩) (n + 1 - k) dc, .slice (some ⟨vb, 0, none⟩) 1 c]).run Try.prog W1 = .ok (goInt (1 : Nat)) (W1.setRow w.heap.size R1.toArray) := fun ty dc => by
    rw [hR1]
    exact run_copy_wide (P := Try.prog) W1 24 24 ty 54 i0 2 Try.underlying24 hi hz1 w.heap.size (k * 2) (n + 1 - k) dc ⟨vb, 0, none⟩ 1 c ZA 54 (pc2 p) 1 (by simp only [Nat.min_def]; split <;> omega) hgA rfl hvA
      (by simp [pc2, hzl]; omega) (by intro u hu; simp [pc2] at hu; rcases hu with rfl | rfl <;> rfl)
  obtain ⟨W2, hW2⟩ : ∃ W2, W2 = W1.setRow w.heap.size R1.toArray := ⟨_, rfl⟩
  rw [← hW2] at hcpA
  have hgB : W2.drew.heap[w.heap.size]? = some (.cells R1.toArray 54 (0, 0)) := by rw [hW2]; exact setRow_heap W1 w.heap.size ZA _ 54 _ hgA
  have hbB : ∀ j u, cs[j]? = some u → W2.drew.cell? ((⟨b, k * 2, none⟩ : Addr).add j) = some u := fun j u hj => by
    have h3 := hbA j u hj
    rw [Addr.add_lit] at h3 ⊢
    rw [← h3, hW2]
    exact World.cell?_of_block (setRow_other W1 w.heap.size b _ (by omega))
  have hcpB : ∀ ty dc sc, (Builtin.copy_ #[24, 24] ty #[.slice (some ⟨w.heap.size, (k + 1) * 2, none⟩) (n - k) dc, .slice (some ⟨b, k * 2, none⟩) (n - k) sc]).run Try.prog W2.drew = .ok (goInt (n - k : Nat)) (W2.drew.setRow w.heap.size R2.toArray) := fun ty dc sc => by
    rw [hR2]
    exact run_copy_wide (P := Try.prog) W2.drew 24 24 ty 54 i0 2 Try.underlying24 hi hz1 w.heap.size ((k + 1) * 2) (n - k) dc ⟨b, k * 2, none⟩ (n - k) sc R1.toArray 54 cs (n - k) (by simp) hgB hcl hbB
      (by have := hsh.1; simp [this, hzl, hcl]; omega) hone
  have HEND : Hid (Insd B (.slice (some ⟨b, 0, none⟩) n cap) (L.take k ++ [p] ++ L.drop k) w (.returned (.slice (some ⟨w.heap.size, 0, none⟩) (n + 1) G)) (W2.drew.setRow w.heap.size R2.toArray)) := by
    have hg2 : (W2.drew.setRow w.heap.size R2.toArray).heap[w.heap.size]? = some (.cells R2.toArray 54 (0, 0)) := setRow_heap W2.drew w.heap.size R1.toArray _ 54 _ hgB
    have hll : (L.take k ++ [p] ++ L.drop k).length = n + 1 := by simp; omega
    refine ⟨_, rfl, ⟨by rw [pcells_len], .inr ⟨w.heap.size, G, R2.toArray, by rw [hll], hB, hg2, by rw [hll]; exact hGn, hGm, by have := hsh.2.1; simp [this, hzl], ?_⟩⟩, ?_, .inr fun j hj => by cases hj; exact Nat.le_refl _⟩
    · rw [hll]; exact hsh.2.2
    · rw [hW2, hW1]
      exact ⟨rfl, rfl, rfl, by simp [World.setRow], fun i hi hn => by
        have hib : i ≠ w.heap.size := by omega
        rw [setRow_other _ _ i _ hib]
        show ((w.drew.alloc (.cells ZA 54)).setRow w.heap.size R1.toArray).heap[i]? = _
        rw [setRow_other _ _ i _ hib]
        exact heap_alloc_old w.drew _ hi⟩
  have hw1 : IntKind.i64.wrap ((k : Int) + 1) = (k : Int) + 1 := by rw [IntKind.wrap_i64]; omega
  have hb1 : (0 : Int) ≤ (k : Int) + 1 := by omega
  have hin : k ≤ n := by omega
  have htn : ((k : Int) + 1).toNat = k + 1 := by omega
  have hb3 : (k : Int) ≤ (n : Int) := by omega
  have hb4 : ¬ (cap = k) := by omega
  have hb5 : (k : Int) ≤ (n : Int) + 1 := by omega
  have hb6 : ¬ (G = k) := by omega
  have hb7 : ¬ (G = k + 1) := by omega
  have mixed : Try.prog.follows Departure.mixedOrders = true := by kernel_rfl
  have hz2' : ¬ ((k : Int) = (n : Int)) := by omega
  have hroomI : (cap : Int) < (n : Int) + 1 := by omega
  have hkc : (k : Int) ≤ (cap : Int) := by omega
  unfold maxLen at hcm hGm
  have hcmI : (cap : Int) ≤ 9223372036854775807 := by omega
  have hnI : (n : Int) ≤ 100000 := by omega
  have HX := Lib.hid hW1
  have HX2 := Lib.hid hW2
  have HG := Lib.hid hGn
  clear hcseq hR1 hR2 hsh hone hcell hold hgA hvA hbA hgB hbB ht hg h1 hcs hW1 hW2 hcl hz0 hz1 hz2 hi hn hZA hG hkk hik hzl hz0' hGn hGm
  go_enter Try.func23, Try.ntmps23
  go_wp2_with (first | (at_builtin; refine wpList_run_append _ rfl _ _ 24 3 rfl _ _ rfl rfl (hrz _) ?_) | (at_builtin; refine wpList_run_copy _ rfl _ _ 24 24 rfl _ _ rfl rfl (hcpA _ _) ?_))
  go_region_law_o (refine step_run_copy rfl _ _ 24 24 rfl _ _ (by simp [Act.eval, Act.put]) (by simp [Act.eval, Act.put]) (hcpB _ _ _) ?_)
  go_wp2_with fail
  go_ret
  exact HEND.out
end Go.Proofs.Ytkdacdbmlgffgaa
