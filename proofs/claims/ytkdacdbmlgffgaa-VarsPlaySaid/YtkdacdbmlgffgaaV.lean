import Derived.Test.YtkdacdbmlgffgaaU
import Derived.Deep.RegionLaw
import Derived.Sort.Walk0
namespace Go.Proofs.Ytkdacdbmlgffgaa
open Go.RowKit
set_option linter.unusedVariables false

theorem step_append_row {ops : Array Oper} {o : Oper} {a : Act} {W : World} {K : Act → World → Prop} {Q : Exit → Act → World → Prop} {E : Prop}
    (hg : o.guard = none) (d x : Operand) (hop : o.op = Op.call { callee := Callee.builtin Builtin.append, args := #[d, x], argTypes := #[24, 24] })
    (B : Nat) (v : Value) (L : List Pr) (hd : a.eval d = v) (hR : Row W B v L) (b m c : Nat) (M : List Pr) (hx : a.eval x = .slice (some ⟨b, 0, none⟩) m c) (hm : M.length = m)
    (hnews : ∀ j u, (pcells M)[j]? = some u → W.cell? ⟨b, j, none⟩ = some u) (hlen : L.length + m ≤ 100000) (hB : B ≤ W.heap.size)
    (hK : ∀ v' w', Row w' B v' (L ++ M) → W.grownBy w' v.ownBlock → K (a.put o.dst v') w') : if Region.wanted o (yielded ops a.tmps) = true then Oper.wp Try.prog o a W K Q else E := by
  obtain ⟨i0, hi, hz0, hz1, hz2⟩ := info_parts info54
  obtain ⟨v', w', h1, h2, h3, _⟩ := run_append_own (P := Try.prog) W B 24 o.type 54 i0 _ 2 32 Try.underlying24 hi hz0 hz1 hz2 rfl (by decide) v L.length (pcells L) hR ⟨b, 0, none⟩ m c (pcells M) (by rw [pcells_len, hm]) (fun j u hj => by rw [add_flat, Nat.zero_add]; exact hnews j u hj) pcells_one (by unfold maxLen; omega) (by omega) hB
  refine step_run_append hg d x 24 24 hop v _ hd hx h1 (hK v' w' ?_ h3)
  unfold Row
  rw [pcells_app, List.length_append, hm]
  exact h2
theorem wpList_append_row {ops : Array Oper} {rest : List Oper} {o : Oper} {a : Act} {W : World} {Q : Exit → Act → World → Prop}
    (hg : o.guard = none) (d x : Operand) (hop : o.op = Op.call { callee := Callee.builtin Builtin.append, args := #[d, x], argTypes := #[24, 24] })
    (B : Nat) (v : Value) (L : List Pr) (hd : a.eval d = v) (hR : Row W B v L) (b off m c : Nat) (M : List Pr) (hx : a.eval x = .slice (some ⟨b, off, none⟩) m c) (hm : M.length = m)
    (hnews : ∀ j u, (pcells M)[j]? = some u → W.cell? ⟨b, off + j, none⟩ = some u) (hlen : L.length + m ≤ 100000) (hB : B ≤ W.heap.size)
    (hK : ∀ v' w', Row w' B v' (L ++ M) → W.grownBy w' v.ownBlock → wpList Try.prog ops Q rest (a.put o.dst v') w') : wpList Try.prog ops Q (o :: rest) a W := by
  obtain ⟨i0, hi, hz0, hz1, hz2⟩ := info_parts info54
  obtain ⟨v', w', h1, h2, h3, _⟩ := run_append_own (P := Try.prog) W B 24 o.type 54 i0 _ 2 32 Try.underlying24 hi hz0 hz1 hz2 rfl (by decide) v L.length (pcells L) hR ⟨b, off, none⟩ m c (pcells M) (by rw [pcells_len, hm]) (fun j u hj => by rw [add_flat]; exact hnews j u hj) pcells_one (by unfold maxLen; omega) (by omega) hB
  refine wpList_run_append W hg d x 24 24 hop v _ hd hx h1 (hK v' w' ?_ h3)
  unfold Row
  rw [pcells_app, List.length_append, hm]
  exact h2
theorem wp_gen {c : Code} {Q : Exit → Act → World → Prop} {a : Act} {W : World} (R : World → Prop) (h1 : R W) (h : ∀ w5, R w5 → Code.wp Try.prog c Q a w5) : Code.wp Try.prog c Q a W := h W h1
theorem oneC_new (w : World) (x y : ByteArray) : ∀ j u, (pcells [(⟨x, y⟩ : Pr)])[j]? = some u → (w.alloc (.cells #[.string x, .string y] 54)).cell? ⟨w.heap.size, j, none⟩ = some u := by
  intro j u hj
  simp only [World.cell?, heap_alloc_new w]
  match j, hj with
  | 0, hj => simpa [pcells] using hj
  | 1, hj => simpa [pcells] using hj
  | (j + 2), hj => simp [pcells] at hj
theorem pos_found {L : List Pr} (hr : Ris L) {x : Bs} {k : Nat} (hk : k ≤ L.length) (h1 : ∀ j (h : j < L.length), j < k → L[j].key < x) (h2 : k = L.length ∨ ∃ h : k < L.length, ¬ L[k].key < x) : pos L x = k := by
  have a1 : ¬ pos L x < k := by
    intro h
    exact pos_at L x (by omega) (h1 _ (by omega) h)
  have a2 : ¬ k < pos L x := by
    intro h
    rcases h2 with h2 | ⟨h3, h4⟩
    · have := pos_le L x; omega
    · exact h4 (pos_lt L x k h3 h)
  omega
set_option maxRecDepth 100000 in
set_option maxHeartbeats 8000000 in
theorem PutPair_some (b c : Nat) (L : List Pr) (x y : ByteArray) (w : World) (hL : L.length ≤ 50000) (hr : Ris L) (hb : b < w.heap.size) (hlc : L.length ≤ c) (hc : c ≤ 9223372036854775807)
    (hcells : ∀ i (h : i < L.length), w.cell? ⟨b, i * 2, none⟩ = some (.string L[i].n) ∧ w.cell? ⟨b, i * 2 + 1, none⟩ = some (.string L[i].v)) :
    Calls Try.prog 26 #[.slice (some ⟨b, 0, none⟩) L.length c, .agg #[.string x, .string y]] w fun e w' => (∃ v', e = .returned v' ∧ Row w' w.heap.size v' (setL L x y)) ∧ Below w.heap.size w w' := by
  have HC := Lib.hid hcells
  have HPC : Hid (∀ j u, (pcells L)[j]? = some u → w.cell? ⟨b, j, none⟩ = some u) := by
    intro j u hj
    have hjl : j < L.length * 2 := by have := (List.getElem?_eq_some_iff.1 hj).1; rwa [pcells_len] at this
    rcases Nat.mod_two_eq_zero_or_one j with hm | hm
    · obtain ⟨i, rfl⟩ : ∃ i, j = i * 2 := ⟨j / 2, by omega⟩
      rw [pcells_n L i (by omega)] at hj
      rw [(hcells i (by omega)).1]; exact hj
    · obtain ⟨i, rfl⟩ : ∃ i, j = i * 2 + 1 := ⟨j / 2, by omega⟩
      rw [pcells_v L i (by omega)] at hj
      rw [(hcells i (by omega)).2]; exact hj
  have HPF := Lib.hid (fun k hk h1 h2 => pos_found hr (x := x.data.toList) (k := k) hk h1 h2)
  have hlI : (L.length : Int) ≤ 50000 := by omega
  have hcI : (c : Int) ≤ 9223372036854775807 := by omega
  have HBW := Lib.hid ((Below.refl w.heap.size w).alloc (Nat.le_refl _) (.cells #[.string x, .string y] 54))
  have HX0 : Hid ((w.alloc (.cells #[.string x, .string y] 54)).cell? ⟨w.heap.size, 0, none⟩ = some (.string x) ∧ (w.alloc (.cells #[.string x, .string y] 54)).cell? ⟨w.heap.size, 1, none⟩ = some (.string y)) := ⟨by simp only [World.cell?, heap_alloc_new w]; rfl, by simp only [World.cell?, heap_alloc_new w]; rfl⟩
  have hz1 : (w.alloc (.cells #[.string x, .string y] 54)).heap.size = w.heap.size + 1 := by simp
  obtain ⟨w1, hw1⟩ : ∃ w1, w.alloc (.cells #[.string x, .string y] 54) = w1 := ⟨_, rfl⟩
  rw [hw1] at HBW HX0 hz1
  have HW1 := Lib.hid hw1
  have HZ1 := Lib.hid hz1
  clear hcells hr hw1 hz1
  go_enter Try.func26, Try.ntmps26
  go_wp2_with fail
  rw [HW1.out]
  go_loopw [5] (fun i wr => ∃ k : Nat, k ≤ L.length ∧ i = .int .i64 k ∧ Hid (∀ j (h : j < L.length), j < k → L[j].key < x.data.toList) ∧ Hid (Below w1.heap.size w1 wr)) (fun i _ => L.length - (intOf i).toNat)
  case atStart => exact ⟨0, by omega, rfl, (fun j h hj => by omega), Below.refl _ _⟩
  case round =>
    obtain ⟨k, hk, rfl, HA, HB⟩ := hrel
    have hx0 := (HB.out.cell (p := ⟨w.heap.size, 0, none⟩) (by show w.heap.size < _; have := HZ1.out; omega)).trans HX0.out.1
    have hx1 := (HB.out.cell (p := ⟨w.heap.size, 1, none⟩) (by show w.heap.size < _; have := HZ1.out; omega)).trans HX0.out.2
    by_cases hlt : k < L.length
    · have hltI : (k : Int) < (L.length : Int) := by omega
      have hltd : decide ((k : Int) < (L.length : Int)) = true := by simpa using hlt
      have hk0 : (0 : Int) ≤ (k : Int) := by omega
      obtain ⟨q1, q2⟩ := HC.out k hlt
      have hb1 : b < w1.heap.size := by have := HZ1.out; omega
      have p1 := (HB.out.cell (p := ⟨b, k * 2, none⟩) hb1).trans ((HBW.out.cell (p := ⟨b, k * 2, none⟩) hb).trans q1)
      have ad := add2 b k
      obtain ⟨s1, hs1⟩ : ∃ s, L[k].n = s := ⟨_, rfl⟩
      rw [hs1] at p1
      have HS1 := Lib.hid hs1
      clear q1 q2 hs1
      by_cases hyx : s1.data.toList < x.data.toList
      · have hbl : Op.bytesLess s1.toList x.toList = true := by rw [bytesLess_eq, Lib.toList_data, Lib.toList_data]; simpa using hyx
        have HYX := Lib.hid hyx
        clear hyx
        go_wp2_with fail
        go_quiet (fail)
        go_wp2_with fail
        refine ⟨⟨k + 1, by omega, by go_num, fun j hj hjk => ?_, below_drewN HB.out _⟩, by simp [intOf]; omega⟩
        by_cases e : j = k
        · subst e; show (L[j].n).data.toList < _; rw [HS1.out]; exact HYX.out
        · exact HA.out j hj (by omega)
      · have hbl : Op.bytesLess s1.toList x.toList = false := by rw [bytesLess_eq, Lib.toList_data, Lib.toList_data]; simpa using hyx
        have HP := Lib.hid (HPF.out k hk HA.out (.inr ⟨hlt, by show ¬ (L[k].n).data.toList < _; rw [HS1.out]; exact hyx⟩))
        by_cases he : s1.data.toList = x.data.toList
        · have heq : (s1.toList == x.toList) = true := by rw [Lib.toList_data, Lib.toList_data]; simpa using he
          have HSET : Hid (setL L x y = L.take k ++ [⟨x, y⟩] ++ L.drop (k + 1)) := by
            have hh : has L x.data.toList = true := by rw [has_eq HP.out hlt, HS1.out]; exact heq
            rw [Hid, setL, HP.out, hh]; rfl
          clear he hyx
          go_wp2_with fail
          go_quiet (fail)
          go_wp2_with fail
          go_quiet (fail)
          go_wp2_with fail
          refine wp_gen (fun w5 => Below w1.heap.size w1 w5) (by first | exact below_drewN (below_drewN HB.out _) _ | exact below_drewN HB.out _) ?_
          intro w5 hB5
          have HB5 := Lib.hid hB5
          have hx0 := (HB5.out.cell (p := ⟨w.heap.size, 0, none⟩) (by show w.heap.size < _; have := HZ1.out; omega)).trans HX0.out.1
          have hx1 := (HB5.out.cell (p := ⟨w.heap.size, 1, none⟩) (by show w.heap.size < _; have := HZ1.out; omega)).trans HX0.out.2
          have hz5 : w.heap.size < w5.heap.size := by have := HZ1.out; have := HB5.out.size; omega
          have hc5 : ∀ j u, (pcells L)[j]? = some u → w5.cell? ⟨b, j, none⟩ = some u := fun j u hj => (HB5.out.cell (p := ⟨b, j, none⟩) (by show b < _; have := HZ1.out; omega)).trans ((HBW.out.cell (p := ⟨b, j, none⟩) hb).trans (HPC.out j u hj))
          have HC5 : Hid (∀ W' : World, Below w5.heap.size w5 W' → ∀ j u, (pcells (L.take k))[j]? = some u → W'.cell? ⟨b, j, none⟩ = some u) := fun W' hW j u hj => by
            rw [hW.cell (p := ⟨b, j, none⟩) (by show b < _; omega)]
            rw [pcells_take, List.getElem?_take] at hj
            split at hj
            · exact hc5 j u hj
            · cases hj
          have HC6 := Lib.hid hc5
          have hz6 : w.heap.size < w5.drew.heap.size := hz5
          have hdl : Below w5.heap.size w5 w5.drew := (Below.refl _ _).drew
          have hda : Below w5.heap.size w5 (w5.drew.alloc (.cells #[.string x, .string y] 54)) := (Below.refl _ _).drew.alloc (Nat.le_refl _) _
          have HDL := Lib.hid hdl
          have HDA := Lib.hid hda
          have hkc : (k : Int) ≤ (c : Int) := by omega
          have htl : (L.take k).length = k := by simp; omega
          have HTL := Lib.hid htl
          have hk0 : (0 : Int) ≤ (k : Int) := by omega
          clear hB5 hc5 hdl hda htl
          have HWD : Hid (Below w.heap.size w w5.drew) := HBW.out.trans ((HB5.out.drew).mono (by have := HZ1.out; omega))
          have HWA : Hid (Below w.heap.size w (w5.drew.alloc (.cells #[.string x, .string y] 54))) := HWD.out.alloc (Nat.le_of_lt hz6) _
          have hsrc : ∀ (W' : World), Below w.heap.size w W' → ∀ j u, (pcells (L.drop (k + 1)))[j]? = some u → W'.cell? ⟨b, (k + 1) * 2 + j, none⟩ = some u := fun W' hW j u hj => by
            rw [pcells_drop, List.getElem?_drop] at hj
            exact (hW.cell (p := ⟨b, (k + 1) * 2 + j, none⟩) hb).trans (HPC.out _ u hj)
          have HSRC := Lib.hid hsrc
          have HLD : Hid ((L.drop (k + 1)).length = L.length - (k + 1)) := List.length_drop ..
          clear hsrc
          go_wp2_with fail
          have mixed : Try.prog.follows Departure.mixedOrders = true := by kernel_rfl
          go_region_law_o (first
            | (refine step_append_row rfl (.const (.slice none 0 0)) (.tmp 43) rfl w.heap.size (.slice none 0 0) [] rfl (Row.nil _ _) b k c (L.take k) (by simp [Act.eval, Act.put]) HTL.out (HC5.out _ (by first | exact HDL.out | exact HDA.out)) (by simp; omega) (by first | exact Nat.le_of_lt hz6 | (simp; omega)) ?_; intro va wa hRa hga; (try have hy0 := hga.cell (a := ⟨w.heap.size, 0, none⟩) (v := .string x) hx0 (by simp [Value.ownBlock])); (try have hy1 := hga.cell (a := ⟨w.heap.size, 1, none⟩) (v := .string y) hx1 (by simp [Value.ownBlock])); have hBa : Below w.heap.size w wa := (by first | exact HWD.out.grown hga (Nat.le_of_lt hz6) (fun j hj => by cases hj) | exact HWA.out.grown hga (by simp; omega) (fun j hj => by cases hj)))
            | (refine step_append_row rfl (.tmp 44) (.tmp 46) rfl w.heap.size va (L.take k) (by simp [Act.eval, Act.put]) (hRa.alloc _) wa.heap.size 1 1 [⟨x, y⟩] (by simp [Act.eval, Act.put]) rfl (oneC_new wa x y) (by rw [HTL.out]; omega) (by simp; have := hBa.size; omega) ?_; intro vb wb hRb hgb; have hBb : Below w.heap.size w wb := (hBa.alloc hBa.size _).grown hgb (by simp; have := hBa.size; omega) (fun j hj => (hRa.lt j hj).1))
            | (refine step_append_row rfl (.tmp 44) (.tmp 46) rfl w.heap.size va (L.take k) (by simp [Act.eval, Act.put]) (hRa) w5.heap.size 1 1 [⟨x, y⟩] (by simp [Act.eval, Act.put]) rfl (fun j u hj => hga.cell (oneC_new w5.drew x y j u hj) (by simp [Value.ownBlock])) (by rw [HTL.out]; omega) hBa.size ?_; intro vb wb hRb hgb; have hBb : Below w.heap.size w wb := hBa.grown hgb hBa.size (fun j hj => (hRa.lt j hj).1)))
          all_goals
            have HRb := Lib.hid hRb
            have HBb := Lib.hid hBb
            have hll : (L.take k ++ [(⟨x, y⟩ : Pr)]).length = k + 1 := by rw [List.length_append, HTL.out]; rfl
            have HLL := Lib.hid hll
            clear hRb hgb hRa hga hll hBa hBb
            by_cases hcT : c = (k + 1)
            · have hM : L.length - (k + 1) = 0 := by omega
              go_wp2_with (at_builtin; refine wpList_append_row rfl _ _ rfl w.heap.size vb (L.take k ++ [⟨x, y⟩]) rfl HRb.out b 0 _ _ (L.drop (k + 1)) rfl (by rw [HLD.out]; try omega) (by
                intro j u hj
                have h0 : (L.drop (k + 1)) = [] := List.length_eq_zero_iff.1 (by rw [HLD.out]; exact hM)
                rw [h0] at hj
                simp [pcells] at hj) (by rw [HLL.out]; omega) HBb.out.size ?_)
              intro vc wc hRc hgc
              have HRc : Hid (Row wc w.heap.size vc (setL L x y)) := by unfold Hid; rw [HSET.out]; simpa using hRc
              have HBc : Hid (Below w.heap.size w wc) := HBb.out.grown hgc HBb.out.size (fun j hj => (HRb.out.lt j hj).1)
              clear hRc hgc
              go_wp2_with fail
              go_ret
              exact ⟨⟨vc, rfl, HRc.out⟩, HBc.out⟩
            · go_wp2_with (at_builtin; refine wpList_append_row rfl _ _ rfl w.heap.size vb (L.take k ++ [⟨x, y⟩]) rfl HRb.out b ((k + 1) * 2) _ _ (L.drop (k + 1)) rfl (by rw [HLD.out]; try omega) (HSRC.out _ HBb.out) (by rw [HLL.out]; omega) HBb.out.size ?_)
              intro vc wc hRc hgc
              have HRc : Hid (Row wc w.heap.size vc (setL L x y)) := by unfold Hid; rw [HSET.out]; simpa using hRc
              have HBc : Hid (Below w.heap.size w wc) := HBb.out.grown hgc HBb.out.size (fun j hj => (HRb.out.lt j hj).1)
              clear hRc hgc
              go_wp2_with fail
              go_ret
              exact ⟨⟨vc, rfl, HRc.out⟩, HBc.out⟩

        · have heq : (s1.toList == x.toList) = false := by rw [Lib.toList_data, Lib.toList_data]; simpa using he
          have HSET : Hid (setL L x y = L.take k ++ [⟨x, y⟩] ++ L.drop k) := by
            have hh : has L x.data.toList = false := by rw [has_eq HP.out hlt, HS1.out]; exact heq
            rw [Hid, setL, HP.out, hh]; rfl
          clear he hyx
          go_wp2_with fail
          go_quiet (fail)
          go_wp2_with fail
          go_quiet (fail)
          go_wp2_with fail
          refine wp_gen (fun w5 => Below w1.heap.size w1 w5) (by first | exact below_drewN (below_drewN HB.out _) _ | exact below_drewN HB.out _) ?_
          intro w5 hB5
          have HB5 := Lib.hid hB5
          have hx0 := (HB5.out.cell (p := ⟨w.heap.size, 0, none⟩) (by show w.heap.size < _; have := HZ1.out; omega)).trans HX0.out.1
          have hx1 := (HB5.out.cell (p := ⟨w.heap.size, 1, none⟩) (by show w.heap.size < _; have := HZ1.out; omega)).trans HX0.out.2
          have hz5 : w.heap.size < w5.heap.size := by have := HZ1.out; have := HB5.out.size; omega
          have hc5 : ∀ j u, (pcells L)[j]? = some u → w5.cell? ⟨b, j, none⟩ = some u := fun j u hj => (HB5.out.cell (p := ⟨b, j, none⟩) (by show b < _; have := HZ1.out; omega)).trans ((HBW.out.cell (p := ⟨b, j, none⟩) hb).trans (HPC.out j u hj))
          have HC5 : Hid (∀ W' : World, Below w5.heap.size w5 W' → ∀ j u, (pcells (L.take k))[j]? = some u → W'.cell? ⟨b, j, none⟩ = some u) := fun W' hW j u hj => by
            rw [hW.cell (p := ⟨b, j, none⟩) (by show b < _; omega)]
            rw [pcells_take, List.getElem?_take] at hj
            split at hj
            · exact hc5 j u hj
            · cases hj
          have HC6 := Lib.hid hc5
          have hz6 : w.heap.size < w5.drew.heap.size := hz5
          have hdl : Below w5.heap.size w5 w5.drew := (Below.refl _ _).drew
          have hda : Below w5.heap.size w5 (w5.drew.alloc (.cells #[.string x, .string y] 54)) := (Below.refl _ _).drew.alloc (Nat.le_refl _) _
          have HDL := Lib.hid hdl
          have HDA := Lib.hid hda
          have hkc : (k : Int) ≤ (c : Int) := by omega
          have htl : (L.take k).length = k := by simp; omega
          have HTL := Lib.hid htl
          have hk0 : (0 : Int) ≤ (k : Int) := by omega
          clear hB5 hc5 hdl hda htl
          have HWD : Hid (Below w.heap.size w w5.drew) := HBW.out.trans ((HB5.out.drew).mono (by have := HZ1.out; omega))
          have HWA : Hid (Below w.heap.size w (w5.drew.alloc (.cells #[.string x, .string y] 54))) := HWD.out.alloc (Nat.le_of_lt hz6) _
          have hsrc : ∀ (W' : World), Below w.heap.size w W' → ∀ j u, (pcells (L.drop k))[j]? = some u → W'.cell? ⟨b, k * 2 + j, none⟩ = some u := fun W' hW j u hj => by
            rw [pcells_drop, List.getElem?_drop] at hj
            exact (hW.cell (p := ⟨b, k * 2 + j, none⟩) hb).trans (HPC.out _ u hj)
          have HSRC := Lib.hid hsrc
          have HLD : Hid ((L.drop k).length = L.length - k) := List.length_drop ..
          clear hsrc
          go_wp2_with fail
          have mixed : Try.prog.follows Departure.mixedOrders = true := by kernel_rfl
          go_region_law_o (first
            | (refine step_append_row rfl (.const (.slice none 0 0)) (.tmp 43) rfl w.heap.size (.slice none 0 0) [] rfl (Row.nil _ _) b k c (L.take k) (by simp [Act.eval, Act.put]) HTL.out (HC5.out _ (by first | exact HDL.out | exact HDA.out)) (by simp; omega) (by first | exact Nat.le_of_lt hz6 | (simp; omega)) ?_; intro va wa hRa hga; (try have hy0 := hga.cell (a := ⟨w.heap.size, 0, none⟩) (v := .string x) hx0 (by simp [Value.ownBlock])); (try have hy1 := hga.cell (a := ⟨w.heap.size, 1, none⟩) (v := .string y) hx1 (by simp [Value.ownBlock])); have hBa : Below w.heap.size w wa := (by first | exact HWD.out.grown hga (Nat.le_of_lt hz6) (fun j hj => by cases hj) | exact HWA.out.grown hga (by simp; omega) (fun j hj => by cases hj)))
            | (refine step_append_row rfl (.tmp 44) (.tmp 46) rfl w.heap.size va (L.take k) (by simp [Act.eval, Act.put]) (hRa.alloc _) wa.heap.size 1 1 [⟨x, y⟩] (by simp [Act.eval, Act.put]) rfl (oneC_new wa x y) (by rw [HTL.out]; omega) (by simp; have := hBa.size; omega) ?_; intro vb wb hRb hgb; have hBb : Below w.heap.size w wb := (hBa.alloc hBa.size _).grown hgb (by simp; have := hBa.size; omega) (fun j hj => (hRa.lt j hj).1))
            | (refine step_append_row rfl (.tmp 44) (.tmp 46) rfl w.heap.size va (L.take k) (by simp [Act.eval, Act.put]) (hRa) w5.heap.size 1 1 [⟨x, y⟩] (by simp [Act.eval, Act.put]) rfl (fun j u hj => hga.cell (oneC_new w5.drew x y j u hj) (by simp [Value.ownBlock])) (by rw [HTL.out]; omega) hBa.size ?_; intro vb wb hRb hgb; have hBb : Below w.heap.size w wb := hBa.grown hgb hBa.size (fun j hj => (hRa.lt j hj).1)))
          all_goals
            have HRb := Lib.hid hRb
            have HBb := Lib.hid hBb
            have hll : (L.take k ++ [(⟨x, y⟩ : Pr)]).length = k + 1 := by rw [List.length_append, HTL.out]; rfl
            have HLL := Lib.hid hll
            clear hRb hgb hRa hga hll hBa hBb
            by_cases hcT : c = k
            · have hM : L.length - k = 0 := by omega
              go_wp2_with (at_builtin; refine wpList_append_row rfl _ _ rfl w.heap.size vb (L.take k ++ [⟨x, y⟩]) rfl HRb.out b 0 _ _ (L.drop k) rfl (by rw [HLD.out]; try omega) (by
                intro j u hj
                have h0 : (L.drop k) = [] := List.length_eq_zero_iff.1 (by rw [HLD.out]; exact hM)
                rw [h0] at hj
                simp [pcells] at hj) (by rw [HLL.out]; omega) HBb.out.size ?_)
              intro vc wc hRc hgc
              have HRc : Hid (Row wc w.heap.size vc (setL L x y)) := by unfold Hid; rw [HSET.out]; simpa using hRc
              have HBc : Hid (Below w.heap.size w wc) := HBb.out.grown hgc HBb.out.size (fun j hj => (HRb.out.lt j hj).1)
              clear hRc hgc
              go_wp2_with fail
              go_ret
              exact ⟨⟨vc, rfl, HRc.out⟩, HBc.out⟩
            · go_wp2_with (at_builtin; refine wpList_append_row rfl _ _ rfl w.heap.size vb (L.take k ++ [⟨x, y⟩]) rfl HRb.out b (k * 2) _ _ (L.drop k) rfl (by rw [HLD.out]; try omega) (HSRC.out _ HBb.out) (by rw [HLL.out]; omega) HBb.out.size ?_)
              intro vc wc hRc hgc
              have HRc : Hid (Row wc w.heap.size vc (setL L x y)) := by unfold Hid; rw [HSET.out]; simpa using hRc
              have HBc : Hid (Below w.heap.size w wc) := HBb.out.grown hgc HBb.out.size (fun j hj => (HRb.out.lt j hj).1)
              clear hRc hgc
              go_wp2_with fail
              go_ret
              exact ⟨⟨vc, rfl, HRc.out⟩, HBc.out⟩

    · have hge : ¬ (k : Int) < (L.length : Int) := by omega
      have hged : decide ((k : Int) < (L.length : Int)) = false := by simpa using hlt
      have HP := Lib.hid (HPF.out k hk HA.out (.inl (by omega)))
      have HSET : Hid (setL L x y = L.take k ++ [⟨x, y⟩] ++ L.drop k) := by
        have hh : has L x.data.toList = false := has_none HP.out (by omega)
        rw [Hid, setL, HP.out, hh]; rfl
      go_wp2_with fail
      go_quiet (fail)
      go_wp2_with fail
      go_quiet (fail)
      go_wp2_with fail
      refine wp_gen (fun w5 => Below w1.heap.size w1 w5) (by first | exact below_drewN (below_drewN HB.out _) _ | exact below_drewN HB.out _) ?_
      intro w5 hB5
      have HB5 := Lib.hid hB5
      have hx0 := (HB5.out.cell (p := ⟨w.heap.size, 0, none⟩) (by show w.heap.size < _; have := HZ1.out; omega)).trans HX0.out.1
      have hx1 := (HB5.out.cell (p := ⟨w.heap.size, 1, none⟩) (by show w.heap.size < _; have := HZ1.out; omega)).trans HX0.out.2
      have hz5 : w.heap.size < w5.heap.size := by have := HZ1.out; have := HB5.out.size; omega
      have hc5 : ∀ j u, (pcells L)[j]? = some u → w5.cell? ⟨b, j, none⟩ = some u := fun j u hj => (HB5.out.cell (p := ⟨b, j, none⟩) (by show b < _; have := HZ1.out; omega)).trans ((HBW.out.cell (p := ⟨b, j, none⟩) hb).trans (HPC.out j u hj))
      have HC5 : Hid (∀ W' : World, Below w5.heap.size w5 W' → ∀ j u, (pcells (L.take k))[j]? = some u → W'.cell? ⟨b, j, none⟩ = some u) := fun W' hW j u hj => by
        rw [hW.cell (p := ⟨b, j, none⟩) (by show b < _; omega)]
        rw [pcells_take, List.getElem?_take] at hj
        split at hj
        · exact hc5 j u hj
        · cases hj
      have HC6 := Lib.hid hc5
      have hz6 : w.heap.size < w5.drew.heap.size := hz5
      have hdl : Below w5.heap.size w5 w5.drew := (Below.refl _ _).drew
      have hda : Below w5.heap.size w5 (w5.drew.alloc (.cells #[.string x, .string y] 54)) := (Below.refl _ _).drew.alloc (Nat.le_refl _) _
      have HDL := Lib.hid hdl
      have HDA := Lib.hid hda
      have hkc : (k : Int) ≤ (c : Int) := by omega
      have htl : (L.take k).length = k := by simp; omega
      have HTL := Lib.hid htl
      have hk0 : (0 : Int) ≤ (k : Int) := by omega
      clear hB5 hc5 hdl hda htl
      have HWD : Hid (Below w.heap.size w w5.drew) := HBW.out.trans ((HB5.out.drew).mono (by have := HZ1.out; omega))
      have HWA : Hid (Below w.heap.size w (w5.drew.alloc (.cells #[.string x, .string y] 54))) := HWD.out.alloc (Nat.le_of_lt hz6) _
      have hsrc : ∀ (W' : World), Below w.heap.size w W' → ∀ j u, (pcells (L.drop k))[j]? = some u → W'.cell? ⟨b, k * 2 + j, none⟩ = some u := fun W' hW j u hj => by
        rw [pcells_drop, List.getElem?_drop] at hj
        exact (hW.cell (p := ⟨b, k * 2 + j, none⟩) hb).trans (HPC.out _ u hj)
      have HSRC := Lib.hid hsrc
      have HLD : Hid ((L.drop k).length = L.length - k) := List.length_drop ..
      clear hsrc
      go_wp2_with fail
      have mixed : Try.prog.follows Departure.mixedOrders = true := by kernel_rfl
      go_region_law_o (first
        | (refine step_append_row rfl (.const (.slice none 0 0)) (.tmp 43) rfl w.heap.size (.slice none 0 0) [] rfl (Row.nil _ _) b k c (L.take k) (by simp [Act.eval, Act.put]) HTL.out (HC5.out _ (by first | exact HDL.out | exact HDA.out)) (by simp; omega) (by first | exact Nat.le_of_lt hz6 | (simp; omega)) ?_; intro va wa hRa hga; (try have hy0 := hga.cell (a := ⟨w.heap.size, 0, none⟩) (v := .string x) hx0 (by simp [Value.ownBlock])); (try have hy1 := hga.cell (a := ⟨w.heap.size, 1, none⟩) (v := .string y) hx1 (by simp [Value.ownBlock])); have hBa : Below w.heap.size w wa := (by first | exact HWD.out.grown hga (Nat.le_of_lt hz6) (fun j hj => by cases hj) | exact HWA.out.grown hga (by simp; omega) (fun j hj => by cases hj)))
        | (refine step_append_row rfl (.tmp 44) (.tmp 46) rfl w.heap.size va (L.take k) (by simp [Act.eval, Act.put]) (hRa.alloc _) wa.heap.size 1 1 [⟨x, y⟩] (by simp [Act.eval, Act.put]) rfl (oneC_new wa x y) (by rw [HTL.out]; omega) (by simp; have := hBa.size; omega) ?_; intro vb wb hRb hgb; have hBb : Below w.heap.size w wb := (hBa.alloc hBa.size _).grown hgb (by simp; have := hBa.size; omega) (fun j hj => (hRa.lt j hj).1))
        | (refine step_append_row rfl (.tmp 44) (.tmp 46) rfl w.heap.size va (L.take k) (by simp [Act.eval, Act.put]) (hRa) w5.heap.size 1 1 [⟨x, y⟩] (by simp [Act.eval, Act.put]) rfl (fun j u hj => hga.cell (oneC_new w5.drew x y j u hj) (by simp [Value.ownBlock])) (by rw [HTL.out]; omega) hBa.size ?_; intro vb wb hRb hgb; have hBb : Below w.heap.size w wb := hBa.grown hgb hBa.size (fun j hj => (hRa.lt j hj).1)))
      all_goals
        have HRb := Lib.hid hRb
        have HBb := Lib.hid hBb
        have hll : (L.take k ++ [(⟨x, y⟩ : Pr)]).length = k + 1 := by rw [List.length_append, HTL.out]; rfl
        have HLL := Lib.hid hll
        clear hRb hgb hRa hga hll hBa hBb
        by_cases hcT : c = k
        · have hM : L.length - k = 0 := by omega
          go_wp2_with (at_builtin; refine wpList_append_row rfl _ _ rfl w.heap.size vb (L.take k ++ [⟨x, y⟩]) rfl HRb.out b 0 _ _ (L.drop k) rfl (by rw [HLD.out]; try omega) (by
            intro j u hj
            have h0 : (L.drop k) = [] := List.length_eq_zero_iff.1 (by rw [HLD.out]; exact hM)
            rw [h0] at hj
            simp [pcells] at hj) (by rw [HLL.out]; omega) HBb.out.size ?_)
          intro vc wc hRc hgc
          have HRc : Hid (Row wc w.heap.size vc (setL L x y)) := by unfold Hid; rw [HSET.out]; simpa using hRc
          have HBc : Hid (Below w.heap.size w wc) := HBb.out.grown hgc HBb.out.size (fun j hj => (HRb.out.lt j hj).1)
          clear hRc hgc
          go_wp2_with fail
          go_ret
          exact ⟨⟨vc, rfl, HRc.out⟩, HBc.out⟩
        · go_wp2_with (at_builtin; refine wpList_append_row rfl _ _ rfl w.heap.size vb (L.take k ++ [⟨x, y⟩]) rfl HRb.out b (k * 2) _ _ (L.drop k) rfl (by rw [HLD.out]; try omega) (HSRC.out _ HBb.out) (by rw [HLL.out]; omega) HBb.out.size ?_)
          intro vc wc hRc hgc
          have HRc : Hid (Row wc w.heap.size vc (setL L x y)) := by unfold Hid; rw [HSET.out]; simpa using hRc
          have HBc : Hid (Below w.heap.size w wc) := HBb.out.grown hgc HBb.out.size (fun j hj => (HRb.out.lt j hj).1)
          clear hRc hgc
          go_wp2_with fail
          go_ret
          exact ⟨⟨vc, rfl, HRc.out⟩, HBc.out⟩

end Go.Proofs.Ytkdacdbmlgffgaa
