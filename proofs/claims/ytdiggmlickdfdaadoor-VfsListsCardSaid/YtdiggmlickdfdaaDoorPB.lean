import Derived.Test.YtdiggmlickdfdaaDoorPA
import Derived.Sort.Walk0
namespace Go.Proofs.YtdiggmlickdfdaaDoor
open Go.RowKit

theorem putS_at {l : List Bs} {x : Bs} {k : Nat} (hk : k ≤ l.length) (ha : ∀ i (h : i < l.length), i < k → l[i] < x) (hb : k = l.length ∨ ∃ h : k < l.length, ¬ l[k] < x) :
    (l.takeWhile fun y => decide (y < x)).length = k := by
  induction l generalizing k with
  | nil => simp at hk; simp [hk]
  | cons a l ih =>
    cases k with
    | zero =>
      rcases hb with h | ⟨h, hn⟩
      · simp at h
      · rw [List.takeWhile_cons, if_neg (by simpa using hn)]; rfl
    | succ k =>
      have h0 := ha 0 (by simp) (by omega)
      rw [List.takeWhile_cons, if_pos (by simpa using h0), List.length_cons]
      rw [ih (k := k) (by simpa using hk) (fun i h hik => ha (i + 1) (Nat.succ_lt_succ h) (by omega)) ?_]
      rcases hb with h | ⟨h, hn⟩
      · left; simpa using h
      · right; exact ⟨by simpa using h, by simpa using hn⟩
theorem putS_has {l : List Bs} {x : Bs} {k : Nat} (hk : k < l.length) (ha : ∀ i (h : i < l.length), i < k → l[i] < x) (hx : l[k] = x) : putS l x = l := by
  have := putS_at (Nat.le_of_lt hk) ha (.inr ⟨hk, by rw [hx]; exact bs_irrefl x⟩)
  unfold putS
  rw [this, if_pos (by rw [List.getElem?_eq_getElem hk, hx])]
theorem putS_new {l : List Bs} {x : Bs} {k : Nat} (hk : k ≤ l.length) (ha : ∀ i (h : i < l.length), i < k → l[i] < x) (hb : k = l.length ∨ ∃ h : k < l.length, ¬ l[k] < x ∧ l[k] ≠ x) : putS l x = l.take k ++ [x] ++ l.drop k := by
  have := putS_at hk ha (by rcases hb with h | ⟨h, h1, _⟩; exact .inl h; exact .inr ⟨h, h1⟩)
  unfold putS
  rw [this, if_neg]
  rcases hb with h | ⟨h, _, h2⟩
  · rw [List.getElem?_eq_none (by omega)]; simp
  · rw [List.getElem?_eq_getElem h]; simpa using h2

theorem lm {l : List Bs} {n : Nat} (h : l.length = n) : (l.map encStr).length = n * 1 := by rw [List.length_map, h, Nat.mul_one]
theorem news_take {w : World} {g off : Nat} {L : List Bs} {k : Nat} (h : ∀ i (h : i < L.length), w.cell? ⟨g, off + i, none⟩ = some (encStr L[i])) : ∀ j u, ((L.take k).map encStr)[j]? = some u → w.cell? ((⟨g, off, none⟩ : Addr).add j) = some u := by
  intro j u hj
  have hjl : j < (L.take k).length := by have := (List.getElem?_eq_some_iff.1 hj).1; simpa using this
  rw [List.getElem?_map, List.getElem?_eq_getElem hjl] at hj
  have e := h j (by simp at hjl; omega)
  rw [show (⟨g, off, none⟩ : Addr).add j = ⟨g, off + j, none⟩ by unfold Addr.add; by_cases h : j = 0 <;> simp [h], e]
  simpa using hj
theorem news_drop {w : World} {g off off' c : Nat} {L : List Bs} {k : Nat} (hc : L.length ≤ c) (ho : k < c → off' = off + k) (h : ∀ i (h : i < L.length), w.cell? ⟨g, off + i, none⟩ = some (encStr L[i])) : ∀ j u, ((L.drop k).map encStr)[j]? = some u → w.cell? ((⟨g, off', none⟩ : Addr).add j) = some u := by
  intro j u hj
  have hjl : j < (L.drop k).length := by have := (List.getElem?_eq_some_iff.1 hj).1; rwa [List.length_map] at this
  rw [List.getElem?_map, List.getElem?_eq_getElem hjl] at hj
  rw [List.length_drop] at hjl
  have e := h (k + j) (by omega)
  rw [ho (by omega), show (⟨g, off + k, none⟩ : Addr).add j = ⟨g, off + (k + j), none⟩ by unfold Addr.add; by_cases h : j = 0 <;> simp [h, Nat.add_assoc], e]
  simpa using hj
theorem news_row {w : World} {g : Nat} {xs : List Value} (h : ∀ j, j < xs.length → w.cell? ⟨g, j, none⟩ = xs[j]?) : ∀ j u, xs[j]? = some u → w.cell? ((⟨g, 0, none⟩ : Addr).add j) = some u := by
  intro j u hj
  rw [addN1, h j (List.getElem?_eq_some_iff.1 hj).1, hj]
theorem enc_one {l : List Bs} : ∀ u ∈ l.map encStr, u.oneCell' = true := by
  intro u hu; obtain ⟨y, _, rfl⟩ := List.mem_map.1 hu; rfl

set_option maxRecDepth 100000 in
set_option maxHeartbeats 8000000 in
theorem PutString_some (g off c : Nat) (L : List Bs) (x : Bs) (w : World) (hL : L.length ≤ 100000) (hLc : L.length ≤ c) (hc : c ≤ 9223372036854775807) (hg : g < w.heap.size) (hcell : Hid (∀ i (h : i < L.length), w.cell? ⟨g, off + i, none⟩ = some (encStr L[i]))) :
    Calls Tryd.prog 16 #[.slice (some ⟨g, off, none⟩) L.length c, encStr x] w fun e w' => ∃ v', e = .returned v' ∧ SlN w w' (.slice (some ⟨g, off, none⟩) L.length c) v' L (putS L x) ∧ Below w.heap.size w w' := by
  obtain ⟨i0, hi, hz0, hz1, hz2⟩ := info_parts info9
  go_enter Tryd.func16, Tryd.ntmps16
  go_wp2_with fail
  go_loop [5] (fun a => ∃ k : Nat, a = .int .i64 k ∧ k ≤ L.length ∧ Hid (∀ i (h : i < L.length), i < k → L[i] < x)) (fun a => L.length - (intOf a).toNat)
  case atStart => exact ⟨0, rfl, by omega, Lib.hid (fun i _ h => absurd h (Nat.not_lt_zero _))⟩
  case round =>
    obtain ⟨k, rfl, hk, HA⟩ := hrel
    by_cases hlt : k < L.length
    · have hltI : (k : Int) < (L.length : Int) := by omega
      have hltd : decide ((k : Int) < (L.length : Int)) = true := by simpa using hlt
      have h0 : (0 : Int) ≤ (k : Int) := by omega
      have hck := hcell.out k hlt
      have hadd : (⟨g, off, none⟩ : Addr).add k = ⟨g, off + k, none⟩ := by unfold Addr.add; by_cases h : k = 0 <;> simp [h]
      have HLK : Hid (∀ h : k < L.length, L[k] = L[k]) := fun _ => rfl
      obtain ⟨y, hy⟩ : ∃ y, L[k] = y := ⟨_, rfl⟩
      rw [hy] at hck
      have HY : Hid (∀ h : k < L.length, L[k] = y) := fun _ => hy
      clear hy HLK
      by_cases hyx : y < x
      · have hb : Op.bytesLess y x = true := by rw [bytesLess_eq]; simpa using hyx
        have HYX := Lib.hid hyx
        clear hyx
        go_wp2_with fail
        refine ⟨⟨k + 1, by go_num, by omega, Lib.hid (fun i hi hik => ?_)⟩, by simp [intOf]; omega⟩
        by_cases h : i < k
        · exact HA.out i hi h
        · obtain rfl : i = k := by omega
          rw [HY.out hi]; exact HYX.out
      · have hb : Op.bytesLess y x = false := by rw [bytesLess_eq]; simpa using hyx
        by_cases he : y = x
        · have heb : (y == x) = true := by simpa using he
          have HF : Hid (SlN w w (.slice (some ⟨g, off, none⟩) L.length c) (.slice (some ⟨g, off, none⟩) L.length c) L (putS L x)) := by
            rw [Hid, putS_has hlt HA.out (by rw [HY.out hlt]; exact he)]
            exact .inl ⟨rfl, rfl⟩
          clear he hyx
          go_wp2_with fail
          go_ret
          exact ⟨_, rfl, HF.out, Below.refl _ _⟩
        · have heb : (y == x) = false := by simpa using he
          have HPUT : Hid (putS L x = L.take k ++ [x] ++ L.drop k) := putS_new hk HA.out (.inr ⟨hlt, by rw [HY.out hlt]; exact hyx, by rw [HY.out hlt]; exact he⟩)
          clear he hyx
          have hnl : (L.drop k).length = L.length - k := by simp
          have htl : (L.take k).length = k := by simp; omega
          obtain ⟨off', hoff, hsf⟩ := slice_from g off L.length c k hk
          obtain ⟨m, hm⟩ : ∃ m, L.length - k = m := ⟨_, rfl⟩
          obtain ⟨q, hq⟩ : ∃ q, c - k = q := ⟨_, rfl⟩
          rw [hm, hq] at hsf
          have HM := Lib.hid hm
          have HOFF := Lib.hid hoff
          have hm1 : m ≤ 100000 := by omega
          clear hoff hq
          have HNL : Hid ((L.drop k).length = m) := hnl.trans hm
          have HTL := Lib.hid htl
          clear hm hnl htl
          have hst := slice_to g off L.length c k (by omega)
          go_wp2_with (at_builtin; refine wpList_append_own _ rfl _ _ 29 rfl w.heap.size 9 i0 (.string ⟨#[]⟩) 1 16 Tryd.underlying29 hi hz0 hz1 hz2 rfl (by decide) _ _ _ rfl (World.ownsRow_nil _ _ _ _) ⟨g, off', none⟩ m _ ((L.drop k).map encStr) rfl (lm HNL.out) (news_drop hLc HOFF.out hcell.out) enc_one ?c4 ?c5 (Nat.le_refl _) ?_)
          case c4 => unfold maxLen; omega
          case c5 => omega
          intro va w1 hown1 hg1 hnil1
          have hB1 : Below w.heap.size w w1 := (Below.refl _ w).grown hg1 (Nat.le_refl _) (fun j hj => by simp [Value.ownBlock] at hj)
          have hc1 : ∀ i (h : i < L.length), w1.cell? ⟨g, off + i, none⟩ = some (encStr L[i]) := fun i h => by rw [hB1.cell (p := ⟨g, off + i, none⟩) hg]; exact hcell.out i h
          rw [← List.map_drop] at hown1
          have HC1 := Lib.hid hc1
          have HB1 := Lib.hid hB1
          clear hc1 hB1 hg1
          go_wp2_with (at_builtin; refine wpList_append_own _ rfl _ _ 29 rfl w1.heap.size 9 i0 (.string ⟨#[]⟩) 1 16 Tryd.underlying29 hi hz0 hz1 hz2 rfl (by decide) _ _ _ rfl (World.ownsRow_nil _ _ _ _) ⟨g, off, none⟩ k _ ((L.take k).map encStr) rfl (lm HTL.out) (news_take HC1.out) enc_one ?d4 ?d5 (Nat.le_refl _) ?_)
          case d4 => unfold maxLen; omega
          case d5 => omega
          intro vb w2 hown2 hg2 _
          have hB2 : Below w1.heap.size w1 w2 := (Below.refl _ w1).grown hg2 (Nat.le_refl _) (fun j hj => by simp [Value.ownBlock] at hj)
          rw [← List.map_take] at hown2
          have hown1b := hown1.kept (gb_below hB2) (own_em _)
          have HB2 := Lib.hid hB2
          have hz2s := hB2.size
          clear hB2 hg2
          go_wp2_with (at_builtin; refine wpList_append_own _ rfl _ _ 29 rfl w1.heap.size 9 i0 (.string ⟨#[]⟩) 1 16 Tryd.underlying29 hi hz0 hz1 hz2 rfl (by decide) _ _ _ rfl (hown2.alloc _) ⟨w2.heap.size, 0, none⟩ 1 1 [encStr x] rfl rfl ?e1 ?e2 ?e3 ?e4 ?e5 ?_)
          case e1 =>
            intro j u hj
            match j, hj with
            | 0, hj => simp at hj; subst hj; simp [Addr.add]
          case e2 => intro u hu; simp at hu; subst hu; rfl
          case e3 => unfold maxLen; omega
          case e4 => omega
          case e5 => simp; omega
          intro vc w3 hown3 hg3 _
          have hB3 : Below w1.heap.size w1 w3 := (HB2.out.alloc hz2s _).grown hg3 (by simp; omega) (fun j hj => (hown2.lt j hj).1)
          have hown1c := hown1.kept (gb_below hB3) (own_em _)
          have HB3 := Lib.hid hB3
          have hz3s := hB3.size
          clear hB3 hg3 hown1b
          obtain ⟨ga, ca, rfl, hga, _⟩ := hown1.form (by have := HM.out; omega)
          have hcl : ∀ j, j < ((L.drop k).map encStr).length → w3.cell? ⟨ga, j, none⟩ = ((L.drop k).map encStr)[j]? := fun j hj => World.ownsRow.cellAt hown1c j (by rw [List.length_map, HNL.out] at hj; omega)
          have HCL := Lib.hid hcl
          clear hcl
          go_wp2_with (at_builtin; refine wpList_append_own _ rfl _ _ 29 rfl w1.heap.size 9 i0 (.string ⟨#[]⟩) 1 16 Tryd.underlying29 hi hz0 hz1 hz2 rfl (by decide) _ _ _ rfl hown3 ⟨ga, 0, none⟩ m _ ((L.drop k).map encStr) rfl (lm HNL.out) (news_row HCL.out) enc_one ?f4 ?f5 hz3s ?_)
          case f4 => unfold maxLen; omega
          case f5 => omega
          intro vd w4 hown4 hg4 _
          have hB4 : Below w1.heap.size w1 w4 := HB3.out.grown hg4 hz3s (fun j hj => (hown3.lt j hj).1)
          have HF : Hid (SlN w w4 (.slice (some ⟨g, off, none⟩) L.length c) vd L (putS L x) ∧ Below w.heap.size w w4) := by
            refine ⟨?_, btrans HB1.out hB4⟩
            rw [HPUT.out]
            refine SlN.own (B := w1.heap.size) ?_ HB1.out.size
            have e : (L.take k ++ [x] ++ L.drop k).length = k + 1 + m := by rw [List.length_append, List.length_append, HTL.out, HNL.out]; rfl
            rw [e]
            simpa [List.map_take, List.map_drop] using hown4
          clear hown4 hg4 hB4
          go_wp2_with fail
          go_ret
          exact ⟨_, rfl, HF.out⟩
    · have hge : ¬ ((k : Int) < (L.length : Int)) := by omega
      have hged : decide ((k : Int) < (L.length : Int)) = false := by simpa using hlt
      have HPUT : Hid (putS L x = L.take k ++ [x] ++ L.drop k) := putS_new hk HA.out (.inl (by omega))
      have hnl : (L.drop k).length = L.length - k := by simp
      have htl : (L.take k).length = k := by simp; omega
      obtain ⟨off', hoff, hsf⟩ := slice_from g off L.length c k hk
      obtain ⟨m, hm⟩ : ∃ m, L.length - k = m := ⟨_, rfl⟩
      obtain ⟨q, hq⟩ : ∃ q, c - k = q := ⟨_, rfl⟩
      rw [hm, hq] at hsf
      have HM := Lib.hid hm
      have HOFF := Lib.hid hoff
      have hm1 : m ≤ 100000 := by omega
      clear hoff hq
      have HNL : Hid ((L.drop k).length = m) := hnl.trans hm
      have HTL := Lib.hid htl
      clear hm hnl htl
      have hst := slice_to g off L.length c k (by omega)
      go_wp2_with (at_builtin; refine wpList_append_own _ rfl _ _ 29 rfl w.heap.size 9 i0 (.string ⟨#[]⟩) 1 16 Tryd.underlying29 hi hz0 hz1 hz2 rfl (by decide) _ _ _ rfl (World.ownsRow_nil _ _ _ _) ⟨g, off', none⟩ m _ ((L.drop k).map encStr) rfl (lm HNL.out) (news_drop hLc HOFF.out hcell.out) enc_one ?c4 ?c5 (Nat.le_refl _) ?_)
      case c4 => unfold maxLen; omega
      case c5 => omega
      intro va w1 hown1 hg1 hnil1
      have hB1 : Below w.heap.size w w1 := (Below.refl _ w).grown hg1 (Nat.le_refl _) (fun j hj => by simp [Value.ownBlock] at hj)
      have hc1 : ∀ i (h : i < L.length), w1.cell? ⟨g, off + i, none⟩ = some (encStr L[i]) := fun i h => by rw [hB1.cell (p := ⟨g, off + i, none⟩) hg]; exact hcell.out i h
      rw [← List.map_drop] at hown1
      have HC1 := Lib.hid hc1
      have HB1 := Lib.hid hB1
      clear hc1 hB1 hg1
      go_wp2_with (at_builtin; refine wpList_append_own _ rfl _ _ 29 rfl w1.heap.size 9 i0 (.string ⟨#[]⟩) 1 16 Tryd.underlying29 hi hz0 hz1 hz2 rfl (by decide) _ _ _ rfl (World.ownsRow_nil _ _ _ _) ⟨g, off, none⟩ k _ ((L.take k).map encStr) rfl (lm HTL.out) (news_take HC1.out) enc_one ?d4 ?d5 (Nat.le_refl _) ?_)
      case d4 => unfold maxLen; omega
      case d5 => omega
      intro vb w2 hown2 hg2 _
      have hB2 : Below w1.heap.size w1 w2 := (Below.refl _ w1).grown hg2 (Nat.le_refl _) (fun j hj => by simp [Value.ownBlock] at hj)
      rw [← List.map_take] at hown2
      have hown1b := hown1.kept (gb_below hB2) (own_em _)
      have HB2 := Lib.hid hB2
      have hz2s := hB2.size
      clear hB2 hg2
      go_wp2_with (at_builtin; refine wpList_append_own _ rfl _ _ 29 rfl w1.heap.size 9 i0 (.string ⟨#[]⟩) 1 16 Tryd.underlying29 hi hz0 hz1 hz2 rfl (by decide) _ _ _ rfl (hown2.alloc _) ⟨w2.heap.size, 0, none⟩ 1 1 [encStr x] rfl rfl ?e1 ?e2 ?e3 ?e4 ?e5 ?_)
      case e1 =>
        intro j u hj
        match j, hj with
        | 0, hj => simp at hj; subst hj; simp [Addr.add]
      case e2 => intro u hu; simp at hu; subst hu; rfl
      case e3 => unfold maxLen; omega
      case e4 => omega
      case e5 => simp; omega
      intro vc w3 hown3 hg3 _
      have hB3 : Below w1.heap.size w1 w3 := (HB2.out.alloc hz2s _).grown hg3 (by simp; omega) (fun j hj => (hown2.lt j hj).1)
      have hown1c := hown1.kept (gb_below hB3) (own_em _)
      have HB3 := Lib.hid hB3
      have hz3s := hB3.size
      clear hB3 hg3 hown1b
      obtain rfl : va = .slice none 0 0 := hnil1.2 (by have := HM.out; omega)
      obtain ⟨gc, cc, rfl, hgc, _⟩ := hown3.form (by omega)
      go_wp2_with (at_builtin; refine wpList_append_own_none rfl _ _ 29 rfl w1.heap.size 9 i0 1 Tryd.underlying29 hi _ _ _ rfl hown3 rfl ?_)
      have HF : Hid (SlN w w3 (.slice (some ⟨g, off, none⟩) L.length c) (.slice (some ⟨gc, 0, none⟩) (k + 1) cc) L (putS L x) ∧ Below w.heap.size w w3) := by
        refine ⟨?_, btrans HB1.out HB3.out⟩
        rw [HPUT.out]
        refine SlN.own (B := w1.heap.size) ?_ HB1.out.size
        have hd : L.drop k = [] := List.drop_of_length_le (by omega)
        have e : (L.take k ++ [x] ++ L.drop k).length = k + 1 := by rw [hd]; simp; omega
        rw [e, hd, List.append_nil]
        simpa [List.map_take, List.map_drop] using hown3
      go_wp2_with fail
      go_ret
      exact ⟨_, rfl, HF.out⟩
end Go.Proofs.YtdiggmlickdfdaaDoor
