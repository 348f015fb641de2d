import Derived.Test.YtkdacdbmlgffgaaF
import Derived.Shelf.Spec.SlicesInsert
namespace Go.Proofs.Ytkdacdbmlgffgaa
open Go.RowKit
set_option linter.unusedVariables false

/-- A row whose pairs from k on have moved by one, with p at k. -/
theorem shift_row (cur : List Value) (L : List Pr) (p : Pr) (n k : Nat) (hn : L.length = n) (hk : k < n) (hc : (n + 1) * 2 ≤ cur.length) (ht : cur.take (n * 2) = pcells L) (R1 R2 : List Value)
    (h1 : R1 = cur.take ((k + 1) * 2) ++ pcells (L.drop k) ++ cur.drop ((k + 1) * 2 + (pcells (L.drop k)).length)) (h2 : R2 = R1.take (k * 2) ++ pc2 p ++ R1.drop (k * 2 + (pc2 p).length)) :
    R1.length = cur.length ∧ R2.length = cur.length ∧ R2.take ((n + 1) * 2) = pcells (L.take k ++ [p] ++ L.drop k) := by
  have hl : (pcells (L.drop k)).length = (n - k) * 2 := by rw [pcells_len, List.length_drop, hn]
  have hp : (pc2 p).length = 2 := rfl
  have hl1 : R1.length = cur.length := by rw [h1]; simp [hl]; omega
  have e1 : R1.take (k * 2) = pcells (L.take k) := by
    rw [h1, List.append_assoc, List.take_append_of_le_length (by rw [List.length_take]; omega), List.take_take, pcells_take, ← ht, List.take_take]
    congr 1; omega
  have e2 : R1.drop (k * 2 + 2) = pcells (L.drop k) ++ cur.drop ((k + 1) * 2 + (n - k) * 2) := by
    have hlt : (cur.take ((k + 1) * 2)).length = k * 2 + 2 := by rw [List.length_take]; omega
    rw [h1, List.append_assoc, ← hlt, List.drop_left, hl]
  have e3 : R2 = pcells (L.take k ++ [p] ++ L.drop k) ++ cur.drop ((k + 1) * 2 + (n - k) * 2) := by
    rw [h2, e1, hp, e2, pcells_app, pcells_app, pcells_pc]; simp
  refine ⟨hl1, ?_, ?_⟩
  · rw [e3]; simp [pcells_len]; omega
  · rw [e3, List.take_append_of_le_length, List.take_of_length_le]
    · rw [pcells_len]; simp; omega
    · rw [pcells_len]; simp; omega

set_option maxRecDepth 100000 in
set_option maxHeartbeats 4000000 in
theorem Insert_room (w : World) (B b cap : Nat) (cur : Array Value) (L : List Pr) (hL : L.length ≤ 100000) (hg : w.heap[b]? = some (.cells cur 54 (0, 0))) (hBb : B ≤ b) (hcm : cap ≤ maxLen) (hcs : cur.size = cap * 2) (ht : cur.toList.take (L.length * 2) = pcells L)
    (k : Nat) (hk : k < L.length) (hroom : L.length + 1 ≤ cap) (vb c : Nat) (p : Pr) (h1 : One w vb p) (hne : vb ≠ b) :
    Calls Try.prog 23 #[.slice (some ⟨b, 0, none⟩) L.length cap, .int .i64 k, .slice (some ⟨vb, 0, none⟩) 1 c] w (Insd B (.slice (some ⟨b, 0, none⟩) L.length cap) (L.take k ++ [p] ++ L.drop k) w) := by
  obtain ⟨i0, hi, hz0, hz1, hz2⟩ := info_parts info54
  have hov : ∀ lb cb, (callFunc 32 #[.slice (some ⟨vb, 0, none⟩) 1 c, .slice (some ⟨b, (k + 1) * 2, none⟩) lb cb]).run Try.prog w = .ok (.value (.bool false)) w := fun lb cb => by
    rw [run_callFunc_extern Try.func32 (by kernel_rfl) (by kernel_rfl) (by kernel_rfl) (e := Extern.SlicesOverlaps.overlaps #[24, 24] #[4]) (by kernel_rfl),
      Lib.run_overlaps_apart w 24 4 54 Try.underlying24 2 Try.sizeOf54 ⟨vb, 0, none⟩ ⟨b, (k + 1) * 2, none⟩ 1 c lb cb hne 54 54 2 (cap * 2) (by simp [World.shape?, h1.blk]) (by simp [World.shape?, hg, hcs]) (by omega) (by simp [World.frozen?, h1.blk]) (by simp [World.frozen?, h1.blk])]
    rfl
  obtain ⟨n, hn⟩ : ∃ n, L.length = n := ⟨_, rfl⟩
  rw [hn] at hL hk hroom ht ⊢
  obtain ⟨cs, hcseq⟩ : ∃ cs, cs = pcells (L.drop k) := ⟨_, rfl⟩
  have hcl : cs.length = (n - k) * 2 := by rw [hcseq, pcells_len, List.length_drop, hn]
  obtain ⟨R1, hR1⟩ : ∃ R1, R1 = cur.toList.take ((k + 1) * 2) ++ cs ++ cur.toList.drop ((k + 1) * 2 + cs.length) := ⟨_, rfl⟩
  obtain ⟨R2, hR2⟩ : ∃ R2, R2 = R1.take (k * 2) ++ pc2 p ++ R1.drop (k * 2 + (pc2 p).length) := ⟨_, rfl⟩
  have hsh := shift_row cur.toList L p n k hn hk (by simp [hcs]; omega) ht R1 R2 (by rw [hR1, hcseq]) hR2
  have hone : ∀ u ∈ cs, u.oneCell' = true := by rw [hcseq]; exact pcells_one
  have hsrc : ∀ j u, cs[j]? = some u → w.cell? ((⟨b, k * 2, none⟩ : Addr).add j) = some u := fun j u hj => by
    rw [hcseq, pcells_drop, List.getElem?_drop, ← ht, List.getElem?_take] at hj
    split at hj
    · rw [Addr.add_lit, cell_of_row w b (k * 2 + j) cur 54 (0, 0) hg]
      simpa using hj
    · cases hj
  have hcp1 : ∀ ty dc sc, (Builtin.copy_ #[24, 24] ty #[.slice (some ⟨b, (k + 1) * 2, none⟩) (n - k) dc, .slice (some ⟨b, k * 2, none⟩) (n + 1 - k) sc]).run Try.prog w.drew = .ok (goInt (n - k : Nat)) (w.drew.setRow b R1.toArray) := fun ty dc sc => by
    rw [hR1]
    exact run_copy_wide (P := Try.prog) w.drew 24 24 ty 54 i0 2 Try.underlying24 hi hz1 b ((k + 1) * 2) (n - k) dc ⟨b, k * 2, none⟩ (n + 1 - k) sc cur 54 cs (n - k) (by simp only [Nat.min_def]; split <;> omega) hg hcl (fun j u hj => hsrc j u hj) (by rw [hcl, hcs]; omega) hone
  have hg1 : (w.drew.setRow b R1.toArray).heap[b]? = some (.cells R1.toArray 54 (0, 0)) := setRow_heap w.drew b cur _ 54 _ hg
  have hvb1 : ∀ j u, (pc2 p)[j]? = some u → (w.drew.setRow b R1.toArray).cell? ((⟨vb, 0, none⟩ : Addr).add j) = some u := fun j u hj => by
    have h3 := h1.cells j u hj
    rw [Addr.add_lit] at h3 ⊢
    rw [← h3]
    exact World.cell?_of_block (setRow_other w.drew b vb _ hne)
  obtain ⟨W1, hW1⟩ : ∃ W1, W1 = w.drew.setRow b R1.toArray := ⟨_, rfl⟩
  rw [← hW1] at hcp1 hg1 hvb1
  have hcp2 : ∀ ty dc, (Builtin.copy_ #[24, 24] ty #[.slice (some ⟨b, k * 2, none⟩) (n + 1 - k) dc, .slice (some ⟨vb, 0, none⟩) 1 c]).run Try.prog W1 = .ok (goInt (1 : Nat)) (W1.setRow b R2.toArray) := fun ty dc => by
    rw [hR2]
    exact run_copy_wide (P := Try.prog) W1 24 24 ty 54 i0 2 Try.underlying24 hi hz1 b (k * 2) (n + 1 - k) dc ⟨vb, 0, none⟩ 1 c R1.toArray 54 (pc2 p) 1 (by simp only [Nat.min_def]; split <;> omega) hg1 rfl hvb1
      (by have := hsh.1; simp [pc2, this, hcs]; omega) (by intro u hu; simp [pc2] at hu; rcases hu with rfl | rfl <;> rfl)
  have HEND : Hid (Insd B (.slice (some ⟨b, 0, none⟩) n cap) (L.take k ++ [p] ++ L.drop k) w (.returned (.slice (some ⟨b, 0, none⟩) (n + 1) cap)) (W1.setRow b R2.toArray)) := by
    have hg2 : (W1.setRow b R2.toArray).heap[b]? = some (.cells R2.toArray 54 (0, 0)) := setRow_heap W1 b R1.toArray _ 54 _ hg1
    have hll : (L.take k ++ [p] ++ L.drop k).length = n + 1 := by simp; omega
    refine ⟨_, rfl, ⟨by rw [pcells_len], .inr ⟨b, cap, R2.toArray, by rw [hll], hBb, hg2, by rw [hll]; omega, hcm, by have := hsh.2.1; simp [this, hcs], ?_⟩⟩, ?_, .inl rfl⟩
    · rw [hll]; exact hsh.2.2
    · rw [hW1]
      exact ⟨rfl, rfl, rfl, by simp [World.setRow], fun i hi hn => by
        have hib : i ≠ b := fun e => hn (by rw [e]; rfl)
        rw [setRow_other _ b i _ hib, setRow_other _ b i _ hib]; rfl⟩
  have hw1 : IntKind.i64.wrap ((k : Int) + 1) = (k : Int) + 1 := by rw [IntKind.wrap_i64]; omega
  have hb1 : (0 : Int) ≤ (k : Int) + 1 := by omega
  have hin : k ≤ n := by omega
  have htn : ((k : Int) + 1).toNat = k + 1 := by omega
  have hb2 : ¬ (cap = k + 1) := by omega
  have hb3 : (k : Int) ≤ (n : Int) := by omega
  have hb4 : ¬ (cap = k) := by omega
  have hb5 : (k : Int) ≤ (n : Int) + 1 := by omega
  have mixed : Try.prog.follows Departure.mixedOrders = true := by kernel_rfl
  have hz2' : ¬ ((k : Int) = (n : Int)) := by omega
  have hroomI : (n : Int) + 1 ≤ (cap : Int) := by omega
  unfold maxLen at hcm
  have hcmI : (cap : Int) ≤ 9223372036854775807 := by omega
  have hnI : (n : Int) ≤ 100000 := by omega
  have HX := Lib.hid hW1
  clear hcseq hR1 hR2 hsh hone hsrc hg1 hvb1 ht hg h1 hcs hW1 hcl hz0 hz1 hz2 hi hn
  go_enter Try.func23, Try.ntmps23
  go_wp2_with (simp only [hov])
  go_region_law_o (refine step_run_copy rfl _ _ 24 24 rfl _ _ (by simp [Act.eval, Act.put]) (by simp [Act.eval, Act.put]) (hcp1 _ _ _) ?_)
  go_wp2_with (at_builtin; refine wpList_run_copy _ rfl _ _ 24 24 rfl _ _ rfl rfl (hcp2 _ _) ?_)
  go_ret
  exact HEND.out
end Go.Proofs.Ytkdacdbmlgffgaa
