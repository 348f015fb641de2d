import Derived.Test.YtkdacdbmlgffgaaH
namespace Go.Proofs.Ytkdacdbmlgffgaa
open Go.RowKit
set_option linter.unusedVariables false

theorem run_clear_wide {P : Program} (w : World) (t e ty : TypeId) (z : Value) (ht : P.underlying t = some (.slice e)) (hv : ∀ w, (zeroValue e).run P w = .ok z w)
    (g o n c : Nat) (hn : 0 < n) (cur : Array Value) (tt : TypeId) (hg : w.heap[g]? = some (.cells cur tt (0, 0))) (zs : List Value) (hz : zs = (Builtin.zeroCells z.cells n).toList) (hfit : o + zs.length ≤ cur.size) (h1 : ∀ v ∈ zs, v.oneCell' = true) :
    (Builtin.clear_ #[t] ty #[.slice (some ⟨g, o, none⟩) n c]).run P w = .ok (.tuple #[]) (w.setRow g (cur.toList.take o ++ zs ++ cur.toList.drop (o + zs.length)).toArray) := by
  have hst := run_storeCells_at P g o tt zs 0 cur w hg (by simpa using hfit) h1
  obtain ⟨m, rfl⟩ : ∃ m, n = m + 1 := ⟨n - 1, by omega⟩
  rw [hz] at hst ⊢
  simp [Builtin.clear_, run_underlying ht, hv, hst]
theorem wpList_run_clear {P : Program} (w : World) {ops : Array Oper} {rest : List Oper} {o : Oper} {a : Act} {Q : Exit → Act → World → Prop} (hgd : o.guard = none) (d : Operand) (t : TypeId)
    (ho : o.op = .call { callee := .builtin .clear, args := #[d], argTypes := #[t] }) (v : Value) (hd : a.eval d = v) {v' : Value} {w' : World}
    (hr : (Builtin.clear_ #[t] o.type #[v]).run P w = .ok v' w') (h : wpList P ops Q rest (a.put o.dst v') w') : wpList P ops Q (o :: rest) a w := by
  refine wpList_plain hgd fun K hK => ?_
  unfold Oper.wp
  simp [execOp, ho, resolve, invoke, builtin, hd, hr, Result.andThen]
  exact hK _ _ h
theorem cut_row (cur : List Value) (L : List Pr) (k m : Nat) (hn : L.length = k + 1 + m) (hc : (k + 1 + m) * 2 ≤ cur.length) (ht : cur.take ((k + 1 + m) * 2) = pcells L) (zs R1 R2 : List Value) (hz : zs.length = 2)
    (h1 : R1 = cur.take (k * 2) ++ pcells (L.drop (k + 1)) ++ cur.drop (k * 2 + (pcells (L.drop (k + 1))).length)) (h2 : R2 = R1.take ((k + m) * 2) ++ zs ++ R1.drop ((k + m) * 2 + zs.length)) :
    R1.length = cur.length ∧ R2.length = cur.length ∧ R2.take ((k + m) * 2) = pcells (L.eraseIdx k) := by
  have hl : (pcells (L.drop (k + 1))).length = m * 2 := by rw [pcells_len, List.length_drop, hn]; congr 1; omega
  have hl1 : R1.length = cur.length := by rw [h1]; simp [hl]; omega
  have e0 : R1.take ((k + m) * 2) = pcells (L.eraseIdx k) := by
    have hk : cur.take (k * 2) = pcells (L.take k) := by rw [pcells_take, ← ht, List.take_take]; congr 1; omega
    have hlen : (cur.take (k * 2) ++ pcells (L.drop (k + 1))).length = (k + m) * 2 := by rw [List.length_append, hl, List.length_take]; omega
    rw [h1, ← hlen, List.take_left, hk, ← pcells_app, List.eraseIdx_eq_take_drop_succ]
  refine ⟨hl1, ?_, ?_⟩
  · rw [h2]; simp [hz]; omega
  · rw [h2, List.append_assoc, List.take_append_of_le_length (by rw [List.length_take]; omega), List.take_take, Nat.min_self]; exact e0

set_option maxRecDepth 100000 in
set_option maxHeartbeats 4000000 in
theorem Delete_any (w : World) (B : Nat) (v : Value) (L : List Pr) (hL : L.length ≤ 100000) (hR : Row w B v L) (k : Nat) (hk : k < L.length) :
    Calls Try.prog 24 #[v, .int .i64 k, .int .i64 ((k : Int) + 1)] w (Insd B v (L.eraseIdx k) w) := by
  obtain ⟨i0, hi, hz0, hz1, hz2⟩ := info_parts info54
  rcases hR.2 with ⟨rfl, h0⟩ | ⟨b, cap, cur, rfl, hBb, hg, hnc, hcm, hcs, ht⟩
  · omega
  obtain ⟨m, hm⟩ : ∃ m, L.length = k + 1 + m := ⟨L.length - (k + 1), by omega⟩
  rw [hm] at hL hnc ht ⊢
  obtain ⟨cs, hcseq⟩ : ∃ cs, cs = pcells (L.drop (k + 1)) := ⟨_, rfl⟩
  have hcl : cs.length = m * 2 := by rw [hcseq, pcells_len, List.length_drop, hm]; congr 1; omega
  have hone : ∀ u ∈ cs, u.oneCell' = true := by rw [hcseq]; exact pcells_one
  obtain ⟨zs, hzs⟩ : ∃ zs, zs = (Builtin.zeroCells (Value.agg #[.string ⟨#[]⟩, .string ⟨#[]⟩]).cells 1).toList := ⟨_, rfl⟩
  have e0 : zs = [.string ⟨#[]⟩, .string ⟨#[]⟩] := by rw [hzs]; kernel_rfl
  have hzl : zs.length = 2 := by rw [e0]; rfl
  have hz1c : ∀ u ∈ zs, u.oneCell' = true := by
    rw [e0]; intro u hu; simp at hu; subst hu; rfl
  obtain ⟨R1, hR1⟩ : ∃ R1, R1 = cur.toList.take (k * 2) ++ cs ++ cur.toList.drop (k * 2 + cs.length) := ⟨_, rfl⟩
  obtain ⟨R2, hR2⟩ : ∃ R2, R2 = R1.take ((k + m) * 2) ++ zs ++ R1.drop ((k + m) * 2 + zs.length) := ⟨_, rfl⟩
  have hsh := cut_row cur.toList L k m hm (by simp [hcs]; omega) ht zs R1 R2 hzl (by rw [hR1, hcseq]) hR2
  obtain ⟨A, hA, hsrc⟩ : ∃ A : Addr, (if cap = k + 1 then (⟨b, 0, none⟩ : Addr) else ⟨b, (k + 1) * 2, none⟩) = A ∧ ∀ j u, cs[j]? = some u → w.drew.cell? (A.add j) = some u := by
    by_cases h : cap = k + 1
    · refine ⟨⟨b, 0, none⟩, by simp [h], fun j u hu => ?_⟩
      have hm0 : cs.length = 0 := by omega
      rw [List.length_eq_zero_iff.1 hm0] at hu
      simp at hu
    · refine ⟨⟨b, (k + 1) * 2, none⟩, by simp [h], fun j u hj => ?_⟩
      rw [hcseq, pcells_drop, List.getElem?_drop, ← ht, List.getElem?_take] at hj
      split at hj
      · rw [Addr.add_lit]
        show w.cell? _ = _
        rw [cell_of_row w b ((k + 1) * 2 + j) cur 54 (0, 0) hg]
        simpa using hj
      · cases hj
  have hap : ∀ ty c, (Builtin.append_ #[24, 24] ty #[.slice (some ⟨b, 0, none⟩) k cap, .slice (some A) m c]).run Try.prog w.drew = .ok (.slice (some ⟨b, 0, none⟩) (k + m) cap) (w.drew.setRow b R1.toArray) := fun ty c => by
    have h := run_append_room (P := Try.prog) w.drew 24 ty 54 i0 Try.underlying24 hi b k cap cur hg A m c cs (by rw [hz1]; exact hcl) hsrc hone (by omega) (by rw [hz1, hcl, hcs]; omega)
    rw [hz1] at h
    rw [hR1]; exact h
  have hg1 : (w.drew.setRow b R1.toArray).heap[b]? = some (.cells R1.toArray 54 (0, 0)) := setRow_heap w.drew b cur _ 54 _ hg
  obtain ⟨W1, hW1⟩ : ∃ W1, W1 = w.drew.setRow b R1.toArray := ⟨_, rfl⟩
  rw [← hW1] at hap hg1
  have hclr : ∀ ty c, (Builtin.clear_ #[24] ty #[.slice (some ⟨b, (k + m) * 2, none⟩) 1 c]).run Try.prog W1 = .ok (.tuple #[]) (W1.setRow b R2.toArray) := fun ty c => by
    rw [hR2]
    exact run_clear_wide (P := Try.prog) W1 24 54 ty _ Try.underlying24 Try.zeroValue54 b ((k + m) * 2) 1 c (by decide) R1.toArray 54 hg1 zs hzs (by have := hsh.1; simp [this, hcs, hzl]; omega) hz1c
  have HEND : Hid (Insd B (.slice (some ⟨b, 0, none⟩) (k + 1 + m) cap) (L.eraseIdx k) w (.returned (.slice (some ⟨b, 0, none⟩) (k + m) cap)) (W1.setRow b R2.toArray)) := by
    have hg2 : (W1.setRow b R2.toArray).heap[b]? = some (.cells R2.toArray 54 (0, 0)) := setRow_heap W1 b R1.toArray _ 54 _ hg1
    have hll : (L.eraseIdx k).length = k + m := by rw [List.length_eraseIdx]; rw [if_pos (by omega)]; omega
    refine ⟨_, rfl, ⟨by rw [pcells_len], .inr ⟨b, cap, R2.toArray, by rw [hll], hBb, hg2, by rw [hll]; omega, hcm, by have := hsh.2.1; simp [this, hcs], ?_⟩⟩, ?_, .inl rfl⟩
    · rw [hll]; exact hsh.2.2
    · rw [hW1]
      exact ⟨rfl, rfl, rfl, by simp [World.setRow], fun i hi hn => by
        have hib : i ≠ b := fun e => hn (by rw [e]; rfl)
        rw [setRow_other _ b i _ hib, setRow_other _ b i _ hib]; rfl⟩
  have mixed : Try.prog.follows Departure.mixedOrders = true := by kernel_rfl
  unfold maxLen at hcm
  have hcmI : (cap : Int) ≤ 9223372036854775807 := by omega
  have hkI : (k : Int) + 1 + (m : Int) ≤ 100000 := by omega
  have hk0 : (0 : Int) ≤ (k : Int) := by omega
  have hm0 : (0 : Int) ≤ (m : Int) := by omega
  have hk1 : ¬ ((k : Int) = (k : Int) + 1) := by omega
  have hkc : (k : Int) ≤ (cap : Int) := by omega
  have hkn : (k : Int) + 1 ≤ (k : Int) + 1 + (m : Int) := by omega
  have hnc' : (k : Int) + 1 + (m : Int) ≤ (cap : Int) := by omega
  have htn : ((k : Int) + 1).toNat = k + 1 := by omega
  have hkm1 : ((k : Int) + 1 + (m : Int)).toNat = k + 1 + m := by omega
  have hkm2 : (k : Int) + (m : Int) ≤ (k : Int) + 1 + (m : Int) := by omega
  have hkm3 : ((k : Int) + (m : Int)).toNat = k + m := by omega
  have hs1 : k + 1 + m - (k + m) = 1 := by omega
  have hnk : ¬ (cap = k + m) := by omega
  have hx1 : (k : Int) ≤ (k : Int) + 1 := by omega
  have hx2 : (0 : Int) ≤ (k : Int) + 1 := by omega
  have hx3 : (k : Int) ≤ (k : Int) + 1 + (m : Int) := by omega
  have HX := Lib.hid hW1
  clear hcseq hR1 hR2 hsh hone hsrc hg1 ht hg hcs hW1 hcl hz0 hz1 hz2 hi hm hR hzs hzl hz1c hL hk e0
  by_cases hcap : cap = k + 1
  · rw [if_pos hcap] at hA
    subst hA
    subst hcap
    obtain rfl : m = 0 := by omega
    simp only [Nat.add_zero] at hap hclr HEND
    have hkI2 : (k : Int) ≤ 100000 := by omega
    clear hnk hs1 hkm1 hkm2 hkm3 hx3 hkn hnc' hm0 hkI hnc hcm hcmI hkc
    go_enter Try.func24, Try.ntmps24
    go_wp2_with fail
    go_region_law_o (refine step_run_append rfl (.tmp 22) (.tmp 25) 24 24 rfl (.slice (some ⟨b, 0, none⟩) k (k + 1)) (.slice (some ⟨b, 0, none⟩) 0 0) (by simp [Act.eval, Act.put]) (by simp [Act.eval, Act.put]) (hap _ _) ?_)
    go_wp2_with (at_builtin; refine wpList_run_clear _ rfl _ 24 rfl _ rfl (hclr _ _) ?_)
    go_ret
    exact HEND.out
  · rw [if_neg hcap] at hA
    subst hA
    go_enter Try.func24, Try.ntmps24
    go_wp2_with fail
    go_region_law_o (refine step_run_append rfl (.tmp 22) (.tmp 25) 24 24 rfl (.slice (some ⟨b, 0, none⟩) k cap) (.slice (some ⟨b, (k + 1) * 2, none⟩) m (cap - (k + 1))) (by simp [Act.eval, Act.put]) (by simp [Act.eval, Act.put]) (hap _ _) ?_)
    go_wp2_with (at_builtin; refine wpList_run_clear _ rfl _ 24 rfl _ rfl (hclr _ _) ?_)
    go_ret
    exact HEND.out
end Go.Proofs.Ytkdacdbmlgffgaa
