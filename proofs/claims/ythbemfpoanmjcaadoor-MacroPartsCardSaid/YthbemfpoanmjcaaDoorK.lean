import Derived.Test.YthbemfpoanmjcaaDoorJ
namespace Go.Proofs.YthbemfpoanmjcaaDoor
open Go.RowKit
set_option linter.unusedVariables false

section
variable {l au : List Pr} {ex : List Bs → Bs → Nat → R} {op : List Bs} {s : Bs} {c0 : Nat}
theorem ref_long (h : 10000 < c0 + 1) : referF l au ex op s c0 = (([], 3), c0 + 1) := by unfold referF; rw [if_pos h]
theorem ref_one (h : ¬ 10000 < c0 + 1) (h1 : s.length = 1) : referF l au ex op s c0 = valueF l au ex op s (c0 + 1) := by unfold referF; rw [if_neg h, if_pos h1]
theorem ref_bad {i : Bs} {e : Int} {c : Nat} (h : ¬ 10000 < c0 + 1) (h1 : s.length ≠ 1) (h2 : ex op ((s.take (s.length - 1)).drop 1) (c0 + 1) = ((i, e), c)) (h3 : e ≠ 0) : referF l au ex op s c0 = (([], e), c) := by
  unfold referF; rw [if_neg h, if_neg h1, h2]; exact if_pos h3
theorem ref_plain {i a1 b1 a2 b2 : Bs} {k1 : Bool} {e : Int} {c : Nat} (h : ¬ 10000 < c0 + 1) (h1 : s.length ≠ 1) (h2 : ex op ((s.take (s.length - 1)).drop 1) (c0 + 1) = ((i, e), c)) (h3 : e = 0)
    (h4 : Lib.cut i [58] = (a1, b1, k1)) (h5 : Lib.cut b1 [61] = (a2, b2, false)) : referF l au ex op s c0 = valueF l au ex op i c := by
  unfold referF; rw [if_neg h, if_neg h1, h2]
  dsimp only
  rw [if_neg (by simpa using h3), h4]
  dsimp only
  rw [h5]
  exact if_pos rfl
theorem ref_swap {i a1 b1 a2 b2 v : Bs} {k1 : Bool} {e e2 : Int} {c c2 : Nat} (h : ¬ 10000 < c0 + 1) (h1 : s.length ≠ 1) (h2 : ex op ((s.take (s.length - 1)).drop 1) (c0 + 1) = ((i, e), c)) (h3 : e = 0)
    (h4 : Lib.cut i [58] = (a1, b1, k1)) (h5 : Lib.cut b1 [61] = (a2, b2, true)) (h6 : valueF l au ex op a1 c = ((v, e2), c2)) : referF l au ex op s c0 = ((swapF v a2 b2, e2), c2) := by
  unfold referF; rw [if_neg h, if_neg h1, h2]
  dsimp only
  rw [if_neg (by simpa using h3), h4]
  dsimp only
  rw [h5]
  dsimp only
  rw [if_neg (by decide), h6]
end
theorem value_len {l au : Prs} (hau : ∀ p ∈ au, p.2.size ≤ 300000) {d : Nat} {op : List Bs} {nm : Bs} {c : Nat} : (valueF (bsl l) (bsl au) (expandF (bsl l) (bsl au) d) op nm c).1.1.length ≤ 300000 := by
  cases h1 : lastV (bsl au) nm with
  | some v =>
    rw [val_auto h1]
    obtain ⟨p, hp, hv⟩ := lastV_mem h1
    obtain ⟨q, hq, rfl⟩ := List.mem_map.1 hp
    have := hau q hq
    simp only at hv ⊢
    rw [← hv, dl]; exact this
  | none =>
    cases h2 : lastV (bsl l) nm with
    | none => rw [val_none h1 h2]; exact Nat.zero_le _
    | some v =>
      by_cases h3 : nm ∈ op
      · rw [val_ring h1 h2 h3]; exact Nat.zero_le _
      · rw [val_in h1 h2 h3]
        exact Nat.le_trans (expand_len _ _ _ _ _ _) (by decide)
theorem Ex.count1 {B eb : Nat} {w : World} {lv av : Value} {l au : Prs} {cnt : Nat} {op : List ByteArray} (h : Ex B eb w lv av l au cnt op) : Ex B eb (w.setCell ⟨eb, 2, none⟩ (.int .i64 ((cnt : Int) + 1))) lv av l au (cnt + 1) op := h.count (cnt + 1)
theorem cell_i (x : Nat) : Value.int .i64 ((x + 1 : Nat) : Int) = Value.int .i64 ((x : Int) + 1) := rfl
set_option maxRecDepth 100000 in
set_option maxHeartbeats 8000000 in
/-- A reference too deep. -/
theorem refer_deep (B eb : Nat) (lv av : Value) (l au : Prs) (w : World) (cnt : Nat) (op : List ByteArray) (s : ByteArray) (hE : Ex B eb w lv av l au cnt op) (hc : cnt ≤ 10000) :
    Calls Tryd.prog 33 #[.pointer (some ⟨eb, 0, none⟩), .string s, .int .i64 41] w (EP B eb w lv av l au op (([], 3), cnt + 1)) := by
  obtain ⟨vo, c0, c1, c2, c3, f2, f3, hown, ao, co, hvo⟩ := hE.cells
  have hb1 : IntKind.i64.wrap ((cnt : Int) + 1) = (cnt : Int) + 1 := IntWalk.i64_in _ (by omega)
  have HEND : Hid (EP B eb w lv av l au op (([], 3), cnt + 1) (.returned (.tuple #[.string ⟨#[]⟩, .int .i64 3])) (w.setCell ⟨eb, 2, none⟩ (.int .i64 ((cnt : Int) + 1)))) := EP.mk (t := ⟨#[]⟩) rfl hE.count1 (put_kp hE.le 2 _)
  clear hE hown
  go_enter Tryd.func33, Tryd.ntmps33
  go_wp2_with fail
  go_ret2
  exact HEND.out
set_option maxRecDepth 100000 in
set_option maxHeartbeats 8000000 in
theorem refer_any (B eb : Nat) (lv av : Value) (l au : Prs) (hau : ∀ p ∈ au, p.2.size ≤ 300000) (d ne : Nat) (hne : ne + d = 40) (IH : EH B eb lv av l au d) (w : World) (cnt : Nat) (op : List ByteArray) (s : ByteArray) (hE : Ex B eb w lv av l au cnt op) (hc : cnt ≤ 10000)
    (hop : op.length + 1 + d ≤ 40) (hs1 : 1 ≤ s.size) (hs2 : s.size ≤ 16384) :
    Calls Tryd.prog 33 #[.pointer (some ⟨eb, 0, none⟩), .string s, .int .i64 ne] w (EP B eb w lv av l au op (referF (bsl l) (bsl au) (expandF (bsl l) (bsl au) d) (dat op) s.data.toList cnt)) := by
  obtain ⟨G, hG⟩ : ∃ G, referF (bsl l) (bsl au) (expandF (bsl l) (bsl au) d) (dat op) s.data.toList cnt = G := ⟨_, rfl⟩
  rw [hG]
  have HG := Lib.hid hG
  obtain ⟨vo, c0, c1, c2, c3, f2, f3, hown, ao, co, hvo⟩ := hE.cells
  have hb1 : IntKind.i64.wrap ((cnt : Int) + 1) = (cnt : Int) + 1 := IntWalk.i64_in _ (by omega)
  have HE1 := Lib.hid hE.count1
  have HK1 := Lib.hid (put_kp (w := w) hE.le 2 (.int .i64 ((cnt : Int) + 1)))
  obtain ⟨vo2, _, _, c2', _, _, _, _⟩ := HE1.out.cells
  rw [cell_i] at c2'
  have hd40 : decide ((40 : Int) < (ne : Int)) = false := decide_eq_false (by omega)
  clear hG hE hown
  by_cases hbig : 10000 < cnt + 1
  · have hbd : decide ((10000 : Int) < (cnt : Int) + 1) = true := decide_eq_true (by omega)
    have HEND : Hid (EP B eb w lv av l au op G (.returned (.tuple #[.string ⟨#[]⟩, .int .i64 3])) (w.setCell ⟨eb, 2, none⟩ (.int .i64 ((cnt : Int) + 1)))) := EP.mk (t := ⟨#[]⟩) (by rw [← HG.out]; exact ref_long hbig) HE1.out HK1.out
    go_enter Tryd.func33, Tryd.ntmps33
    go_wp2_with fail
    go_ret2
    exact HEND.out
  have hbd : decide ((10000 : Int) < (cnt : Int) + 1) = false := decide_eq_false (by omega)
  have HVA := Lib.hid (fun w c nm hE hc => value_any B eb lv av l au d ne hne IH w c op nm hE hc hop)
  have HIH := Lib.hid IH
  clear IH
  by_cases h1 : s.size = 1
  · have h1d : ((s.size : Int) == 1) = true := by rw [h1]; rfl
    have hE' := ref_one (l := bsl l) (au := bsl au) (ex := expandF (bsl l) (bsl au) d) (op := dat op) (s := s.data.toList) hbig (by rw [dl]; exact h1)
    have HGV : Hid (valueF (bsl l) (bsl au) (expandF (bsl l) (bsl au) d) (dat op) s.data.toList (cnt + 1) = G) := by rw [Hid, ← HG.out]; exact hE'.symm
    have HH := Lib.hid h1
    clear hE' h1
    go_enter Tryd.func33, Tryd.ntmps33
    go_wp2_with (go_at_call 40; refine (HVA.out _ _ _ HE1.out (by omega)).mono ?_; rw [HGV.out])
    rintro e w5 ⟨t, rfl, ht, hE5, hK5⟩
    have HEND : Hid (EP B eb w lv av l au op G (.returned (.tuple #[.string t, .int .i64 G.1.2])) w5) := ⟨t, rfl, ht, hE5, HK1.out.trans hK5⟩
    clear ht hE5 hK5
    simp only []
    go_wp2_with fail
    go_ret2
    exact HEND.out
  have h1d : ((s.size : Int) == 1) = false := by rw [beq_eq_false_iff_ne]; omega
  obtain ⟨q, hq⟩ : ∃ q : Nat, s.size = q + 1 := ⟨s.size - 1, by omega⟩
  have hb2 : IntKind.i64.wrap ((s.size : Int) - 1) = (q : Int) := by rw [IntWalk.i64_in _ (by omega)]; omega
  have hq1 : (1 : Int) ≤ (q : Int) := by omega
  have hq2 : (q : Int) ≤ (s.size : Int) := by omega
  obtain ⟨E, hE⟩ : ∃ E, s.extract 1 q = E := ⟨_, rfl⟩
  have hEd : E.data.toList = (s.data.toList.take (s.data.toList.length - 1)).drop 1 := by
    rw [← hE, (ext_dt (by omega) (by omega)).1, dl, hq]; rfl
  obtain ⟨G1, hG1⟩ : ∃ G1, expandF (bsl l) (bsl au) d (dat op) E.data.toList (cnt + 1) = G1 := ⟨_, rfl⟩
  have HG1 := Lib.hid hG1
  have hl1 := expand_len (bsl l) (bsl au) d (dat op) E.data.toList (cnt + 1)
  have ho1 := expand_ok (bsl l) (bsl au) d (dat op) E.data.toList (cnt + 1) (by omega)
  rw [hG1] at hl1 ho1
  have HO1 := Lib.hid ho1
  obtain ⟨⟨i1, x1⟩, n1⟩ := G1
  have HX : Hid (expandF (bsl l) (bsl au) d (dat op) ((s.data.toList.take (s.data.toList.length - 1)).drop 1) (cnt + 1) = ((i1, x1), n1)) := by rw [Hid, ← hEd]; exact HG1.out
  have HH : Hid (s.data.toList.length ≠ 1) := by rw [Hid, dl]; exact h1
  have HBIG := Lib.hid hbig
  dsimp only at hl1
  clear hEd hG1 ho1 h1 hbig hq
  go_enter Tryd.func33, Tryd.ntmps33
  go_wp2_with (go_at_call 23; refine (HIH.out _ _ ne op E HE1.out (by have := HBIG.out; omega) hne (by omega)).mono ?_; rw [HG1.out])
  rintro e w5 ⟨t, rfl, ht, hE5, hK5⟩
  have HT := Lib.hid ht
  have HE5 := Lib.hid hE5
  have HK5 := Lib.hid (HK1.out.trans hK5)
  have hts : t.size ≤ 16384 := by rw [← dl, ht]; exact hl1
  clear ht hE5 hK5 c0 c1 c2 c3 f2 f3 c2' hvo
  dsimp only
  by_cases hx : x1 = 0
  case neg =>
    have hxd : (x1 != 0) = true := by simpa using hx
    have HEND : Hid (EP B eb w lv av l au op G (.returned (.tuple #[.string ⟨#[]⟩, .int .i64 x1])) w5) := EP.mk (t := ⟨#[]⟩) (by rw [← HG.out]; exact ref_bad HBIG.out HH.out HX.out hx) HE5.out HK5.out
    clear hx
    go_wp2_with fail
    go_ret2
    exact HEND.out
  case pos =>
  subst hx
  have hn1 : n1 ≤ 10000 := HO1.out.2 rfl
  obtain ⟨⟨a1, b1, k1⟩, hC1⟩ : ∃ C, Lib.cut i1 [58] = C := ⟨_, rfl⟩
  obtain ⟨⟨a2, b2, k2⟩, hC2⟩ : ∃ C, Lib.cut b1 [61] = C := ⟨_, rfl⟩
  obtain ⟨m, hm⟩ := HE5.out.mx
  have hB0 := HE5.out.h0
  have hcl1 := cut_le i1 [58]
  have hcl2 := cut_le b1 [61]
  rw [hC1] at hcl1
  rw [hC2] at hcl2
  dsimp only at hcl1 hcl2
  have hcut1 : Calls Tryd.prog 41 #[.string t, .string ⟨#[58]⟩] w5 fun e w' => e = .returned (.tuple #[.string (mk a1), .string (mk b1), .bool k1]) ∧ ∃ n, w' = w5.drewN n := by
    have := Tryd.strings_Cut t (mk [58]) m w5 (by omega) hm
    rw [HT.out, mk_list, hC1] at this
    exact this
  have hcut2 : ∀ n, Calls Tryd.prog 41 #[.string (mk b1), .string ⟨#[61]⟩] (w5.drewN n) fun e w' => e = .returned (.tuple #[.string (mk a2), .string (mk b2), .bool k2]) ∧ ∃ n2, w' = (w5.drewN n).drewN n2 := fun n => by
    have := Tryd.strings_Cut (mk b1) (mk [61]) m (w5.drewN n) (by rw [sz_mk]; omega) hm
    rw [mk_list, mk_list, hC2] at this
    exact this
  have HC1 := Lib.hid hcut1
  have HC2 := Lib.hid hcut2
  obtain ⟨A1, hA1⟩ : ∃ A1, mk a1 = A1 := ⟨_, rfl⟩
  obtain ⟨B1, hB1⟩ : ∃ B1, mk b1 = B1 := ⟨_, rfl⟩
  obtain ⟨A2, hA2⟩ : ∃ A2, mk a2 = A2 := ⟨_, rfl⟩
  obtain ⟨B2, hB2⟩ : ∃ B2, mk b2 = B2 := ⟨_, rfl⟩
  rw [hA1, hB1] at HC1
  rw [hB1, hA2, hB2] at HC2
  have hA2s : A2.size ≤ 16384 := by rw [← hA2, sz_mk]; omega
  have hB2s : B2.size ≤ 16384 := by rw [← hB2, sz_mk]; omega
  have HA1 : Hid (A1.data.toList = a1) := by rw [Hid, ← hA1]
  have HA2 : Hid (A2.data.toList = a2) := by rw [Hid, ← hA2]
  have HB2 : Hid (B2.data.toList = b2) := by rw [Hid, ← hB2]
  have HCC1 := Lib.hid hC1
  have HCC2 := Lib.hid hC2
  have HE6 : Hid (∀ n, Ex B eb (w5.drewN n) lv av l au n1 op) := fun n => HE5.out.below (drew_below w5 _)
  have HK6 : Hid (∀ n, Kp B eb w (w5.drewN n)) := fun n => HK5.out.trans (Kp.of_below (drew_below w5 _) (Nat.le_trans HE5.out.le (Nat.le_of_lt HE5.out.lt)))
  clear hcut1 hcut2 hA1 hB1 hA2 hB2 hC1 hC2 hcl1 hcl2 hm
  cases k2 with
  | false =>
    have HGV : Hid (valueF (bsl l) (bsl au) (expandF (bsl l) (bsl au) d) (dat op) t.data.toList n1 = G) := by rw [Hid, ← HG.out, HT.out]; exact (ref_plain HBIG.out HH.out HX.out rfl HCC1.out HCC2.out).symm
    go_wp2_with (first
      | (go_at_call 41; with_reducible refine HC1.out.mono ?_; rintro e w6 ⟨rfl, n6, h6⟩; obtain rfl := h6.symm; simp only [])
      | (go_at_call 41; with_reducible refine (HC2.out _).mono ?_; rintro e w7 ⟨rfl, n7, h7⟩; obtain rfl := h7.symm; simp only [])
      | (go_at_call 40; refine (HVA.out _ _ _ (HE6.out _) hn1).mono ?_; rw [HGV.out]))
    rintro e w8 ⟨t8, rfl, ht, hE8, hK8⟩
    have HEND : Hid (EP B eb w lv av l au op G (.returned (.tuple #[.string t8, .int .i64 G.1.2])) w8) := ⟨t8, rfl, ht, hE8, (HK6.out _).trans hK8⟩
    clear ht hE8 hK8
    simp only []
    go_wp2_with fail
    go_ret2
    exact HEND.out
  | true =>
    obtain ⟨⟨⟨v9, x9⟩, n9⟩, hG9⟩ : ∃ r, valueF (bsl l) (bsl au) (expandF (bsl l) (bsl au) d) (dat op) A1.data.toList n1 = r := ⟨_, rfl⟩
    have hl9 := value_len (l := l) hau (d := d) (op := dat op) (nm := A1.data.toList) (c := n1)
    rw [hG9] at hl9
    dsimp only at hl9
    have HG9 := Lib.hid hG9
    have HGE : Hid (((swapF v9 a2 b2, x9), n9) = G) := by
      rw [Hid, ← HG.out]
      exact (ref_swap HBIG.out HH.out HX.out rfl HCC1.out HCC2.out (by rw [← HA1.out]; exact HG9.out)).symm
    clear hG9
    go_wp2_with (first
      | (go_at_call 41; with_reducible refine HC1.out.mono ?_; rintro e w6 ⟨rfl, n6, h6⟩; obtain rfl := h6.symm; simp only [])
      | (go_at_call 41; with_reducible refine (HC2.out _).mono ?_; rintro e w7 ⟨rfl, n7, h7⟩; obtain rfl := h7.symm; simp only [])
      | (go_at_call 40; refine (HVA.out _ _ _ (HE6.out _) hn1).mono ?_; rw [HG9.out]))
    rintro e w8 ⟨t8, rfl, ht, hE8, hK8⟩
    dsimp only at ht hE8
    have HT8 := Lib.hid ht
    have HE8 := Lib.hid hE8
    have HK8 := Lib.hid ((HK6.out _).trans hK8)
    obtain ⟨m8, hm8⟩ := hE8.mx
    have HSW := Lib.hid (swap_any t8 A2 B2 m8 w8 hm8 (by rw [← dl, ht]; exact hl9) (by omega) (by omega))
    rw [ht, HA2.out, HB2.out] at HSW
    have HBS : Hid (∀ w', Below w8.heap.size w8 w' → EP B eb w lv av l au op G (.returned (.tuple #[.string (mk (swapF v9 a2 b2)), .int .i64 x9])) w') := fun w' hb => EP.mk (t := mk (swapF v9 a2 b2)) (by rw [← HGE.out]) (HE8.out.below hb) (HK8.out.trans (Kp.of_below hb (Nat.le_trans HE8.out.le (Nat.le_of_lt HE8.out.lt))))
    obtain ⟨Z, hZ⟩ : ∃ Z, swapF v9 a2 b2 = Z := ⟨_, rfl⟩
    rw [hZ] at HSW HBS
    obtain ⟨Y, hY⟩ : ∃ Y, mk Z = Y := ⟨_, rfl⟩
    have HSW2 : Hid (Calls Tryd.prog 42 #[.string t8, .string A2, .string B2] w8 fun e w' => e = .returned (.string Y) ∧ Below w8.heap.size w8 w') := by
      rw [← hY]; exact HSW.out
    rw [hY] at HBS
    clear ht hE8 hK8 hm8 HSW hZ hY
    simp only []
    go_wp2_with (go_at_call 42; refine HSW2.out.mono ?_; rintro e w9 ⟨rfl, h9⟩; have HEND := Lib.hid (HBS.out _ h9); clear h9; simp only [])
    go_ret2
    exact HEND.out
end Go.Proofs.YthbemfpoanmjcaaDoor
